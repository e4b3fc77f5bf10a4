/- The law FnExactVarsOf answers true at every term and leaves it as it was: at every argument VarsOf answers as its specification, in new memory. Conditions: none beyond the given row's own. -/
import Derived.Test.YtjoopbdaafhdfaaRows
import Derived.Test.YtjoopbdaafhdfaaTermLaw
import Derived.Test.YtjoopbdaafhdfaaTermCopy
import Derived.Test.YtjoopbdaafhdfaaTermEq
import Derived.Test.YtjoopbdaafhdfaaTermOpen
import Derived.Test.YtjoopbdaafhdfaaVarsC
import Derived.WalkKit
import Derived.ProofKit
import Derived.OpenShut
import Derived.ShutString
import Derived.ChangeOld
import Derived.Below
namespace Go.Proofs.Ytjoopbdaafhdfaa.fnExactVarsOf
open Go.ChangeShapes Go.WideShapes Go.ChangeAt Go.RowKit
open Go.ChangeMaps (open_string shut_string)
set_option linter.unusedVariables false

theorem own : ownKnob Try.prog.godebug = none := by kernel_rfl
theorem laidOut : laidOutB Try.prog = true := by kernel_rfl

theorem box_on {W W' : World} {b0 : Nat} {x0 x1 x2 : Value} (h : W.cell? ⟨b0, 0, none⟩ = some x0 ∧ W.cell? ⟨b0, 1, none⟩ = some x1 ∧ W.cell? ⟨b0, 2, none⟩ = some x2) (hb : Below W.heap.size W W') :
    W'.cell? ⟨b0, 0, none⟩ = some x0 ∧ W'.cell? ⟨b0, 1, none⟩ = some x1 ∧ W'.cell? ⟨b0, 2, none⟩ = some x2 := ⟨keepC hb h.1, keepC hb h.2.1, keepC hb h.2.2⟩

set_option maxHeartbeats 3200000 in
set_option maxRecDepth 100000 in
/-- The law's own walk: it answers true, and nothing that was there is written. -/
theorem walk (w : World) (t : TermD) (a : Option Addr) (c : Nat) (hf : isW t.f) (hv : isW t.v) (hle : t.kids.length ≤ maxLen) (hr : RdK w w.heap.size a t.kids) :
    Calls Try.prog 6 #[.agg #[.int .i64 t.f, .int .i64 t.v, .slice a t.kids.length c]] w fun e w' => e = .returned (.bool true) ∧ Below w.heap.size w w' := by
  obtain ⟨W, hW⟩ : ∃ W, W = w.alloc (.cells #[.int .i64 t.f, .int .i64 t.v, .slice a t.kids.length c] 44) := ⟨_, rfl⟩
  have hB0 : Below w.heap.size w W := by rw [hW]; exact (Below.refl _ _).alloc (Nat.le_refl _) _
  have SZ := szTerm_any t a c w.heap.size 1048576 W (by omega) (by omega) (hr.on hB0) hB0.size
  have hpt := partsT_eq t
  clear hle hf hv
  by_cases hb1 : (partsL t.kids : Int) ≤ 1048576
  · rw [show szR t.kids 1048576 = 1048576 - partsL t.kids by unfold szR; rw [if_pos hb1]] at SZ
    have hn1 : ¬ (1048576 - (partsL t.kids : Int)) < 0 := by omega
    have hp1 : partsT t ≤ 4194304 := by omega
    have hp0 : partsT t ≤ 1048577 := by omega
    have hk0 : ¬ (1 + 2 * (partsL t.kids : Int)) < 0 := by omega
    have hVl : (varsT t []).length ≤ 1048577 := by have := varsT_len t []; simp at this; omega
    have P0 : W.cell? ⟨w.heap.size, 0, none⟩ = some (.int .i64 t.f) ∧ W.cell? ⟨w.heap.size, 1, none⟩ = some (.int .i64 t.v) ∧ W.cell? ⟨w.heap.size, 2, none⟩ = some (.slice a t.kids.length c) := by rw [hW]; simp [go_sem]
    have hWz : w.heap.size + 1 ≤ W.heap.size := by rw [hW]; simp
    have CV := fun (t : TermD) (a : Option Addr) (c hi : Nat) (w : World) => specVarsOf_any t a c hi w
    have CI := fun (t : TermD) (a : Option Addr) (c hi : Nat) (w : World) => impVarsOf_any t a c hi w
    have HCV : Hid _ := CV
    have HCI : Hid _ := CI
    clear hpt hb1 CV CI
    obtain ⟨V, hV⟩ : ∃ V, V = varsT t [] := ⟨_, rfl⟩
    rw [← hV] at hVl
    have HV : Hid (V = varsT t []) := hV
    clear hV
    have hm1 : ¬ (1 + (V.length : Int)) < 0 := by omega
    go_enter Try.func6, Try.ntmps6
    go_wp2_with (first
      | (go_at_call 29; rw [← hW]; refine SZ.mono ?_; rintro e w2 ⟨rfl, hb⟩; have hB2 : Below w.heap.size w w2 := hB0.trans (hb.mono hB0.size); have hz2 : w.heap.size + 1 ≤ w2.heap.size := (Nat.le_trans hWz hb.size); obtain ⟨p0, p1, p2⟩ := box_on P0 hb; clear SZ P0 hB0 hb hW hWz)
      | (go_at_call_of 30 t; refine (toTerm_any t a c w.heap.size _ hp1 (hr.on hB2) hB2.size).mono ?_; rintro e w3 ⟨x1, rfl, ho3, hb⟩; have hB3 : Below w.heap.size w w3 := hB2.trans (hb.mono hB2.size); have hz3 : w.heap.size + 1 ≤ w3.heap.size := (Nat.le_trans hz2 hb.size); have P := box_on ⟨p0, p1, p2⟩ hb; clear p0 p1 p2; obtain ⟨p0, p1, p2⟩ := P; clear hb hB2 hz2)
      | (go_at_call 22; refine (HCV.out t x1 _ w3.heap.size _ hp0 ho3.rd (Nat.le_refl _)).mono ?_; rintro e w5 ⟨gW, cW, rfl, hO, hb⟩; rw [← HV.out] at hO; rw [← HV.out]; have hB5 : Below w.heap.size w w5 := hB3.trans (hb.mono hB3.size); have hz5 : w.heap.size + 1 ≤ w5.heap.size := (Nat.le_trans hz3 hb.size); have P := box_on ⟨p0, p1, p2⟩ hb; clear p0 p1 p2; obtain ⟨p0, p1, p2⟩ := P; have rW : w5.ownsRow (w.heap.size + 1) 3 1 (.slice (some ⟨gW, 0, none⟩) V.length cW) V.length (ints V) := own_lower hO hz3; clear hb hB3 ho3 hO hz3)
      | (go_at_call_of 30 t; refine (toTerm_any t a c w.heap.size _ hp1 (hr.on hB5) hB5.size).mono ?_; rintro e w6 ⟨y1, rfl, ho6, hb⟩; have hB6 : Below w.heap.size w w6 := hB5.trans (hb.mono hB5.size); have P := box_on ⟨p0, p1, p2⟩ hb; clear p0 p1 p2; obtain ⟨p0, p1, p2⟩ := P; have hz56 := hb.size; have gw := (rW.lt gW rfl).2; have rW6 := own_on rW hb; clear hb hB5 rW)
      | (go_at_call 21; refine (HCI.out t y1 _ w6.heap.size _ hp1 (ho6.rd.on ((Below.refl w6.heap.size w6).alloc (Nat.le_refl _) _)) (by simp) (Nat.le_refl _)).mono ?_; rintro e w8 ⟨ag, cg, rfl, rG, hb⟩; rw [← HV.out] at rG; rw [← HV.out]; have hb6 : Below w6.heap.size w6 w8 := ((Below.refl w6.heap.size w6).alloc (Nat.le_refl _) _).trans (hb.mono (by simp)); have r3 : w8.cell? ⟨w6.heap.size, 0, none⟩ = some (.int .i64 t.f) := keepC hb (by simp [go_sem]); have r4 : w8.cell? ⟨w6.heap.size, 1, none⟩ = some (.int .i64 t.v) := keepC hb (by simp [go_sem]); have r5 : w8.cell? ⟨w6.heap.size, 2, none⟩ = some (.slice y1 t.kids.length t.kids.length) := keepC hb (by simp [go_sem]); have oX := ho6.on hb6; have hB8 : Below w.heap.size w w8 := hB6.trans (hb6.mono hB6.size); have P := box_on ⟨p0, p1, p2⟩ hb6; have hlt8 : w6.heap.size < w8.heap.size := World.block_lt_of_cell? _ _ r3; have S8 : LSt w t a c w5.heap.size w6.heap.size gW cW ag cg V V w8 := ⟨hB8, P.1, P.2.1, P.2.2, own_on rW6 hb6, (by simpa using rG), gw, (by omega), hz56, hlt8⟩; clear p0 p1 p2 P hb hb6 hB6 ho6 rW6 rG gw hB8 hz56 hz5)
      | (go_at_call 32; refine (eqInts_any _ _ _ _ _ _ _ _ _ rfl rfl S8.rdG S8.rdW hVl hVl).mono ?_; rintro e w9 ⟨rfl, q9, rfl⟩; have S9 := S8.draw q9; clear S8; rw [eqB_self]; have oX9 := oX.on (below_drewN (Below.refl w6.heap.size w8) q9); clear oX))
    have R := box_on ⟨r3, r4, r5⟩ (below_drewN (Below.refl _ _) q9)
    clear r3 r4 r5
    generalize w8.drewN q9 = W9 at *
    obtain ⟨r3, r4, r5⟩ := R
    have p0 := S9.p0
    have p1 := S9.p1
    have p2 := S9.p2
    have hl9 := S9.hi
    have hgl : w5.heap.size ≤ w6.heap.size := S9.l12
    clear hlt8
    go_region_held3 (fun w' => w'.cell? ⟨w.heap.size, 0, none⟩ = some (.int .i64 t.f) ∧ w'.cell? ⟨w.heap.size, 1, none⟩ = some (.int .i64 t.v) ∧ w'.cell? ⟨w.heap.size, 2, none⟩ = some (.slice a t.kids.length c) ∧ w'.cell? ⟨w6.heap.size, 0, none⟩ = some (.int .i64 t.f) ∧ w'.cell? ⟨w6.heap.size, 1, none⟩ = some (.int .i64 t.v) ∧ w'.cell? ⟨w6.heap.size, 2, none⟩ = some (.slice y1 t.kids.length t.kids.length)) (first | go_keep | exact ⟨p0, p1, p2, r3, r4, r5⟩)
      (first
        | (go_at_call_of 30 t; refine (toTerm_any t a c w.heap.size _ hp1 ?_ ?_).mono ?_; exact hr.on S9.bel.drew; exact S9.bel.size; rintro e w10 ⟨z1, rfl, ho10, hb0⟩; have hb : Below W9.heap.size W9 w10 := (Below.refl _ _).drew.trans hb0; have S10 := S9.on hb; have oX10 := oX9.on (hb.mono (Nat.le_of_lt hl9)); have R := box_on ⟨r3, r4, r5⟩ hb; clear r3 r4 r5; obtain ⟨r3, r4, r5⟩ := R; have P := box_on ⟨p0, p1, p2⟩ hb; clear p0 p1 p2; obtain ⟨p0, p1, p2⟩ := P; have hl10 := S10.hi; clear hb hb0 S9 oX9 hl9)
        | (go_at_call 31; refine (eqTerm_same t y1 z1 _ _ w10.heap.size _ hp1 ?_ ?_ ?_).mono ?_; exact oX10.rd; exact ho10.rd; exact Nat.le_refl _; rintro e w11 ⟨rfl, hb⟩; have S11 := S10.on hb; have oX11 := oX10.on (hb.mono (Nat.le_of_lt hl10)); have R := box_on ⟨r3, r4, r5⟩ hb; clear r3 r4 r5; obtain ⟨r3, r4, r5⟩ := R; have P := box_on ⟨p0, p1, p2⟩ hb; clear p0 p1 p2; obtain ⟨p0, p1, p2⟩ := P; clear hb S10 oX10 hl10 ho10))
    have hl11 := S11.hi
    go_wp2_with (first
      | (go_at_call 33; refine (markTerm_any t y1 _ 1 _ _ hp1 (by omega) (by omega) oX11 (fun x hx => by omega)).mono ?_; rintro e w12 ⟨rfl, w12', hb, ho⟩; have S12 := S11.markX hb ho; clear S11 oX11 hb ho r3 r4 r5 p0 p1 p2 hl11)
      | (go_at_call 32; refine (eqInts_any _ _ _ _ _ _ _ _ _ rfl rfl S12.rdG S12.rdW hVl hVl).mono ?_; rintro e w13 ⟨rfl, q13, rfl⟩; have S13 := S12.draw q13; clear S12; rw [eqB_self])
      | (go_at_call 34; refine (markV_any _ _ V 1 _ _ _ rfl S13.rG hVl (by omega) (by omega)).mono ?_; rintro e w14 ⟨rfl, hM, hg14⟩; have S14 := S13.markG hM hg14; clear S13 hM hg14)
      | (go_at_call 35; refine (held_any _ 1 _ _ _ S14.rdM hVl (by omega) (by omega)).mono ?_; rintro e w15 ⟨rfl, hw⟩; subst w15; have S15 := S14; clear S14; have p0 := S15.p0; have p1 := S15.p1; have p2 := S15.p2)
      | (go_at_call_of 30 t; refine (toTerm_any t a c w.heap.size _ hp1 (hr.on S15.bel) S15.bel.size).mono ?_; rintro e w16 ⟨u1, rfl, ho16, hb⟩; have S16 := S15.on hb; clear S15 hb p0 p1 p2)
      | (go_at_call 21; refine (HCI.out t u1 _ w16.heap.size _ hp1 ho16.rd (Nat.le_refl _) (Nat.le_refl _)).mono ?_; rintro e w17 ⟨ah, ch, rfl, rH, hb⟩; rw [← HV.out] at rH; rw [← HV.out]; have S17 := S16.on hb; have hrH := Rd.ownV rfl rH; clear S16 hb rH ho16)
      | (go_at_call 32; refine (eqInts_any _ _ _ _ _ _ _ _ _ rfl rfl hrH S17.rdW hVl hVl).mono ?_; rintro e w18 ⟨rfl, q18, rfl⟩; have S18 := S17.draw q18; clear S17 hrH; rw [eqB_self])
      | (go_at_call 35; refine (held_any _ 1 _ _ _ S18.rdM hVl (by omega) (by omega)).mono ?_; rintro e w19 ⟨rfl, hw⟩; subst w19))
    go_ret
    exact ⟨rfl, S18.bel⟩
  · rw [show szR t.kids 1048576 = -1 by unfold szR; rw [if_neg hb1]] at SZ
    clear hpt
    go_enter Try.func6, Try.ntmps6
    go_wp2_with (go_at_call 29; rw [← hW]; refine SZ.mono ?_; rintro e w1 ⟨rfl, hb⟩; clear SZ)
    go_ret
    exact ⟨rfl, hB0.trans (hb.mono hB0.size)⟩

set_option maxRecDepth 100000 in
theorem lifted (os : Os) (started : os.Started) (H : Type) (enc : TypeId × Value → H) :
    ReturnsInHanded {} Try.checked os 6 .any (Rows.fnExactVarsOfSpec.pre6 enc Try.prog Try.f6 Rows.fnExactVarsOfRow.domain false) (Rows.fnExactVarsOfSpec.post enc Try.prog Try.f6 false true false false) := by
  refine returnsInHanded_of_change (C := Try.checked) own started (by kernel_rfl) Try.func6
    (ChangeSpec.witness6 (enc := enc) (C := Try.checked) false ⟨#[], #[.agg #[.int .i64 0, .int .i64 0, .slice none 0 0]], []⟩ 8 (by kernel_rfl) (by kernel_rfl) (by kernel_rfl) (by kernel_rfl)) ?_
  intro W base args ds gs before hval0 hW hcnd _
  have hval : ∀ (j : Nat) t v, Try.f6.params[j]? = some t → args[j]? = some v → Value.okWide Try.prog W .any base t v := hval0
  have hW' := hW
  obtain ⟨p, q, hA0, hV, rfl, hfz, hnd⟩ := hW
  have hA : DataW.TrodAll enc Try.prog W 0 (fun _ => true) true Try.f6.params.toList args.toList ds p := hA0
  rw [Try.params6] at hA hval
  obtain ⟨v0, vs0, d0, ds0, p0, q0, hargs, rfl, rfl, h0, r0⟩ := trodAll_cons hA
  obtain ⟨rfl, rfl, rfl⟩ := trodAll_nil r0
  obtain rfl : args = #[v0] := by cases args; simp_all
  obtain ⟨rfl, rfl⟩ := trodVars_none hV
  obtain ⟨cs0, rfl, _⟩ := okWide_struct Try.underlying44 (hval 0 44 v0 rfl rfl)
  have k0 := h0
  have lt0 : ∀ x ∈ p0, x.block < W.heap.size := by obtain ⟨m, hm⟩ := k0; exact DataW.trod_lt m _ _ _ hm
  obtain ⟨t0, a0, c0, e0, hf0, hv0, hle0, hr0⟩ := open_term rfl h0
  obtain rfl : cs0 = #[.int .i64 t0.f, .int .i64 t0.v, .slice a0 t0.kids.length c0] := by simpa using e0
  clear hA0 hval0
  refine (walk W t0 a0 c0 hf0 hv0 hle0.1 hr0).mono fun e W' ⟨he, bel⟩ => ?_
  subst he
  exact ⟨_, rfl, _, _, _, [], _, [], hW', trodAll_mk1 (shut_bool Try.underlying4 _), (trodAll_cons_mk (Below.trod laidOut (by kernel_rfl) (of_decide_eq_true (by kernel_rfl)) k0 bel lt0) trodAll_mk0), by first | rfl | simp, bel.frame _, fun h => by cases h⟩

theorem over : Rows.fnExactVarsOfRow.holds Try.pinned (OpenSpec.ofChange Rows.fnExactVarsOfSpec) :=
  OpenClaim.holds_of_wide 6 Try.f6 rfl rfl rfl rfl rfl rfl rfl ⟨rfl, rfl, rfl, rfl, rfl⟩ rfl rfl rfl rfl rfl (by kernel_rfl) Try.func6 (by kernel_rfl)
    (of_decide_eq_true (by kernel_rfl)) (by unfold Func.isWrapper; first | (rw [if_pos (by decide +kernel)]; kernel_rfl) | (rw [if_neg (by decide +kernel)]; exact ⟨rfl, rfl⟩))
    (fun os started H enc _ => lifted os started H enc)

theorem proved : Rows.FnExactVarsOfSaid := over
end Go.Proofs.Ytjoopbdaafhdfaa.fnExactVarsOf
namespace Go.Proofs.Ytjoopbdaafhdfaa
theorem fnExactVarsOf_holds : Rows.FnExactVarsOfSaid := fnExactVarsOf.proved
#print axioms fnExactVarsOf_holds
end Go.Proofs.Ytjoopbdaafhdfaa
