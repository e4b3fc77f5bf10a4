/- The law FnExactGround answers true at every term and leaves it as it was: at every argument Ground answers as its specification. Conditions: none beyond the given row's own. -/
import Derived.Test.YtpmmgplpmonolabRows
import Derived.Test.YtpmmgplpmonolabTermLaw
import Derived.Test.YtpmmgplpmonolabTermCopy
import Derived.Test.YtpmmgplpmonolabTermEq
import Derived.Test.YtpmmgplpmonolabTermOpen
import Derived.Test.YtpmmgplpmonolabGrdS
import Derived.WalkKit
import Derived.ProofKit
import Derived.OpenShut
import Derived.ShutString
import Derived.ChangeOld
import Derived.Below
namespace Go.Proofs.Ytpmmgplpmonolab.fnExactGround
open Go.ChangeShapes Go.WideShapes Go.ChangeAt Go.RowKit
open Go.ChangeMaps (open_string shut_string)
set_option linter.unusedVariables false

theorem own : ownKnob Try.prog.godebug = none := by kernel_rfl
theorem laidOut : laidOutB Try.prog = true := by kernel_rfl

theorem box_on {W W' : World} {b0 : Nat} {x0 x1 x2 : Value} (h : W.cell? ⟨b0, 0, none⟩ = some x0 ∧ W.cell? ⟨b0, 1, none⟩ = some x1 ∧ W.cell? ⟨b0, 2, none⟩ = some x2) (hb : Below W.heap.size W W') :
    W'.cell? ⟨b0, 0, none⟩ = some x0 ∧ W'.cell? ⟨b0, 1, none⟩ = some x1 ∧ W'.cell? ⟨b0, 2, none⟩ = some x2 := ⟨keepC hb h.1, keepC hb h.2.1, keepC hb h.2.2⟩

set_option maxHeartbeats 3200000 in
set_option maxRecDepth 100000 in
/-- The law's own walk: it answers true, and nothing that was there is written. -/
theorem walk (w : World) (t : TermD) (a : Option Addr) (c : Nat) (hf : isW t.f) (hv : isW t.v) (hle : t.kids.length ≤ maxLen) (hr : RdK w w.heap.size a t.kids) :
    Calls Try.prog 4 #[.agg #[.int .i64 t.f, .int .i64 t.v, .slice a t.kids.length c]] w fun e w' => e = .returned (.bool true) ∧ Below w.heap.size w w' := by
  obtain ⟨W, hW⟩ : ∃ W, W = w.alloc (.cells #[.int .i64 t.f, .int .i64 t.v, .slice a t.kids.length c] 25) := ⟨_, rfl⟩
  have hB0 : Below w.heap.size w W := by rw [hW]; exact (Below.refl _ _).alloc (Nat.le_refl _) _
  have SZ := szTerm_any t a c w.heap.size 1048576 W (by omega) (by omega) (hr.on hB0) hB0.size
  have hpt := partsT_eq t
  clear hle hf hv
  by_cases hb1 : (partsL t.kids : Int) ≤ 1048576
  · rw [show szR t.kids 1048576 = 1048576 - partsL t.kids by unfold szR; rw [if_pos hb1]] at SZ
    have hn1 : ¬ (1048576 - (partsL t.kids : Int)) < 0 := by omega
    have hp1 : partsT t ≤ 4194304 := by omega
    have hp0 : partsT t ≤ 1048577 := by omega
    have P0 : W.cell? ⟨w.heap.size, 0, none⟩ = some (.int .i64 t.f) ∧ W.cell? ⟨w.heap.size, 1, none⟩ = some (.int .i64 t.v) ∧ W.cell? ⟨w.heap.size, 2, none⟩ = some (.slice a t.kids.length c) := by rw [hW]; simp [go_sem]
    clear hpt hb1
    go_enter Try.func4, Try.ntmps4
    go_wp2_with (first
      | (go_at_call 6; rw [← hW]; refine SZ.mono ?_; rintro e w2 ⟨rfl, hb⟩; have hB2 : Below w.heap.size w w2 := hB0.trans (hb.mono hB0.size); obtain ⟨p0, p1, p2⟩ := box_on P0 hb; clear SZ P0 hB0 hb hW)
      | (go_at_call_of 9 t; refine (toTerm_any t a c w.heap.size _ hp1 (hr.on hB2) hB2.size).mono ?_; rintro e w3 ⟨x1, rfl, ho3, hb⟩; have hB3 : Below w.heap.size w w3 := hB2.trans (hb.mono hB2.size); have P := box_on ⟨p0, p1, p2⟩ hb; clear p0 p1 p2; obtain ⟨p0, p1, p2⟩ := P; clear hb hB2)
      | (go_at_call 13; refine (specGround_any t x1 _ w3.heap.size _ hp0 ho3.rd (Nat.le_refl _)).mono ?_; rintro e w5 ⟨rfl, hb⟩; have hB5 : Below w.heap.size w w5 := hB3.trans (hb.mono hB3.size); have P := box_on ⟨p0, p1, p2⟩ hb; clear p0 p1 p2; obtain ⟨p0, p1, p2⟩ := P; clear hb hB3 ho3)
      | (go_at_call_of 9 t; refine (toTerm_any t a c w.heap.size _ hp1 (hr.on hB5) hB5.size).mono ?_; rintro e w6 ⟨y1, rfl, ho6, hb⟩; have hB6 : Below w.heap.size w w6 := hB5.trans (hb.mono hB5.size); have P := box_on ⟨p0, p1, p2⟩ hb; clear p0 p1 p2; obtain ⟨p0, p1, p2⟩ := P; have hz6 : w.heap.size < w6.heap.size := World.block_lt_of_cell? _ _ p0; clear hb hB5)
      | (go_at_call 14; refine (impGround_any t y1 _ w6.heap.size _ hp1 (ho6.rd.on ((Below.refl w6.heap.size w6).alloc (Nat.le_refl _) _)) (by simp) (Nat.le_refl _)).mono ?_; rintro e w8 ⟨rfl, hb⟩; have hb6 : Below w6.heap.size w6 w8 := ((Below.refl w6.heap.size w6).alloc (Nat.le_refl _) _).trans (hb.mono (by simp)); have r3 : w8.cell? ⟨w6.heap.size, 0, none⟩ = some (.int .i64 t.f) := keepC hb (by simp [go_sem]); have r4 : w8.cell? ⟨w6.heap.size, 1, none⟩ = some (.int .i64 t.v) := keepC hb (by simp [go_sem]); have r5 : w8.cell? ⟨w6.heap.size, 2, none⟩ = some (.slice y1 t.kids.length t.kids.length) := keepC hb (by simp [go_sem]); have q1 := ho6.rd.on hb6; have hB8 : Below w.heap.size w w8 := hB6.trans (hb6.mono hB6.size); have hs8 := hb6.size; have P := box_on ⟨p0, p1, p2⟩ hb6; clear p0 p1 p2; obtain ⟨p0, p1, p2⟩ := P; clear hb hb6 hB6 ho6 hz6))
    go_region_held3 (fun w' => w'.cell? ⟨w.heap.size, 0, none⟩ = some (.int .i64 t.f) ∧ w'.cell? ⟨w.heap.size, 1, none⟩ = some (.int .i64 t.v) ∧ w'.cell? ⟨w.heap.size, 2, none⟩ = some (.slice a t.kids.length c) ∧ w'.cell? ⟨w6.heap.size, 0, none⟩ = some (.int .i64 t.f) ∧ w'.cell? ⟨w6.heap.size, 1, none⟩ = some (.int .i64 t.v) ∧ w'.cell? ⟨w6.heap.size, 2, none⟩ = some (.slice y1 t.kids.length t.kids.length)) (first | go_keep | exact ⟨p0, p1, p2, r3, r4, r5⟩)
      (first
        | (go_at_call_of 9 t; refine (toTerm_any t a c w.heap.size _ hp1 ?_ ?_).mono ?_; exact hr.on hB8.drew; exact hB8.size; rintro e w9 ⟨z1, rfl, ho9, hb0⟩; have hb : Below w8.heap.size w8 w9 := (Below.refl _ _).drew.trans hb0; have q3 := q1.on (hb.mono hs8); have hs9 := Nat.le_trans hs8 hb.size; have hB9 : Below w.heap.size w w9 := hB8.trans (hb.mono hB8.size); have R := box_on ⟨r3, r4, r5⟩ hb; clear r3 r4 r5; obtain ⟨r3, r4, r5⟩ := R; have P := box_on ⟨p0, p1, p2⟩ hb; clear p0 p1 p2; obtain ⟨p0, p1, p2⟩ := P; clear hb hb0 hB8 q1 hs8)
        | (go_at_call 12; refine (eqTerm_same t y1 z1 _ _ w9.heap.size _ hp1 ?_ ?_ ?_).mono ?_; exact q3.mono hs9; exact ho9.rd; exact Nat.le_refl _; rintro e w10 ⟨rfl, hb⟩; have hB10 : Below w.heap.size w w10 := hB9.trans (hb.mono hB9.size); have R := box_on ⟨r3, r4, r5⟩ hb; clear r3 r4 r5; obtain ⟨r3, r4, r5⟩ := R; have P := box_on ⟨p0, p1, p2⟩ hb; clear p0 p1 p2; obtain ⟨p0, p1, p2⟩ := P; clear hb hB9 q3 hs9 ho9))
    go_wp2_with fail
    go_ret
    exact ⟨rfl, hB10⟩
  · rw [show szR t.kids 1048576 = -1 by unfold szR; rw [if_neg hb1]] at SZ
    clear hpt
    go_enter Try.func4, Try.ntmps4
    go_wp2_with (go_at_call 6; rw [← hW]; refine SZ.mono ?_; rintro e w1 ⟨rfl, hb⟩; clear SZ)
    go_ret
    exact ⟨rfl, hB0.trans (hb.mono hB0.size)⟩

set_option maxRecDepth 100000 in
theorem lifted (os : Os) (started : os.Started) (H : Type) (enc : TypeId × Value → H) :
    ReturnsInHanded {} Try.checked os 4 .any (Rows.fnExactGroundSpec.pre6 enc Try.prog Try.f4 Rows.fnExactGroundRow.domain false) (Rows.fnExactGroundSpec.post enc Try.prog Try.f4 false true false false) := by
  refine returnsInHanded_of_change (C := Try.checked) own started (by kernel_rfl) Try.func4
    (ChangeSpec.witness6 (enc := enc) (C := Try.checked) false ⟨#[], #[.agg #[.int .i64 0, .int .i64 0, .slice none 0 0]], []⟩ 8 (by kernel_rfl) (by kernel_rfl) (by kernel_rfl) (by kernel_rfl)) ?_
  intro W base args ds gs before hval0 hW hcnd _
  have hval : ∀ (j : Nat) t v, Try.f4.params[j]? = some t → args[j]? = some v → Value.okWide Try.prog W .any base t v := hval0
  have hW' := hW
  obtain ⟨p, q, hA0, hV, rfl, hfz, hnd⟩ := hW
  have hA : DataW.TrodAll enc Try.prog W 0 (fun _ => true) true Try.f4.params.toList args.toList ds p := hA0
  rw [Try.params4] at hA hval
  obtain ⟨v0, vs0, d0, ds0, p0, q0, hargs, rfl, rfl, h0, r0⟩ := trodAll_cons hA
  obtain ⟨rfl, rfl, rfl⟩ := trodAll_nil r0
  obtain rfl : args = #[v0] := by cases args; simp_all
  obtain ⟨rfl, rfl⟩ := trodVars_none hV
  obtain ⟨cs0, rfl, _⟩ := okWide_struct Try.underlying25 (hval 0 25 v0 rfl rfl)
  have k0 := h0
  have lt0 : ∀ x ∈ p0, x.block < W.heap.size := by obtain ⟨m, hm⟩ := k0; exact DataW.trod_lt m _ _ _ hm
  obtain ⟨t0, a0, c0, e0, hf0, hv0, hle0, hr0⟩ := open_term rfl h0
  obtain rfl : cs0 = #[.int .i64 t0.f, .int .i64 t0.v, .slice a0 t0.kids.length c0] := by simpa using e0
  clear hA0 hval0
  refine (walk W t0 a0 c0 hf0 hv0 hle0.1 hr0).mono fun e W' ⟨he, bel⟩ => ?_
  subst he
  exact ⟨_, rfl, _, _, _, [], _, [], hW', trodAll_mk1 (shut_bool Try.underlying4 _), (trodAll_cons_mk (Below.trod laidOut (by kernel_rfl) (of_decide_eq_true (by kernel_rfl)) k0 bel lt0) trodAll_mk0), by first | rfl | simp, bel.frame _, fun h => by cases h⟩

theorem over : Rows.fnExactGroundRow.holds Try.pinned (OpenSpec.ofChange Rows.fnExactGroundSpec) :=
  OpenClaim.holds_of_wide 4 Try.f4 rfl rfl rfl rfl rfl rfl rfl ⟨rfl, rfl, rfl, rfl, rfl⟩ rfl rfl rfl rfl rfl (by kernel_rfl) Try.func4 (by kernel_rfl)
    (of_decide_eq_true (by kernel_rfl)) (by unfold Func.isWrapper; first | (rw [if_pos (by decide +kernel)]; kernel_rfl) | (rw [if_neg (by decide +kernel)]; exact ⟨rfl, rfl⟩))
    (fun os started H enc _ => lifted os started H enc)

theorem proved : Rows.FnExactGroundSaid := over
end Go.Proofs.Ytpmmgplpmonolab.fnExactGround
namespace Go.Proofs.Ytpmmgplpmonolab
theorem fnExactGround_holds : Rows.FnExactGroundSaid := fnExactGround.proved
#print axioms fnExactGround_holds
end Go.Proofs.Ytpmmgplpmonolab
