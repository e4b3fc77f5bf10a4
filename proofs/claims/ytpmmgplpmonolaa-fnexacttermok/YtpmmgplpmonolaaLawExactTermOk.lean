/- The law FnExactTermOk answers true at every list of functions and every term and leaves both as they were: at every argument TermOk answers as its specification. Conditions: none beyond the given row's own. -/
import Derived.Test.YtpmmgplpmonolaaRows
import Derived.Test.YtpmmgplpmonolaaTermLaw
import Derived.Test.YtpmmgplpmonolaaTermCopy
import Derived.Test.YtpmmgplpmonolaaTermEq
import Derived.Test.YtpmmgplpmonolaaTermOpen
import Derived.Test.YtpmmgplpmonolaaSymLaw
import Derived.Test.YtpmmgplpmonolaaSymOpen
import Derived.Test.YtpmmgplpmonolaaTOk
import Derived.Test.YtpmmgplpmonolaaRgt2
import Derived.WalkKit
import Derived.ProofKit
import Derived.OpenShut
import Derived.ShutString
import Derived.ChangeOld
import Derived.Below
namespace Go.Proofs.Ytpmmgplpmonolaa.fnExactTermOk
open Go.ChangeShapes Go.WideShapes Go.ChangeAt Go.RowKit
open Go.ChangeMaps (open_string shut_string)
set_option linter.unusedVariables false

theorem own : ownKnob Try.prog.godebug = none := by kernel_rfl
theorem laidOut : laidOutB Try.prog = true := by kernel_rfl

theorem box_on {W W' : World} {b0 : Nat} {x0 x1 x2 : Value} (h : W.cell? ⟨b0, 0, none⟩ = some x0 ∧ W.cell? ⟨b0, 1, none⟩ = some x1 ∧ W.cell? ⟨b0, 2, none⟩ = some x2) (hb : Below W.heap.size W W') :
    W'.cell? ⟨b0, 0, none⟩ = some x0 ∧ W'.cell? ⟨b0, 1, none⟩ = some x1 ∧ W'.cell? ⟨b0, 2, none⟩ = some x2 := ⟨keepC hb h.1, keepC hb h.2.1, keepC hb h.2.2⟩
theorem size_le {ss : List SymD} {s : SymD} (h : s ∈ ss) : s.name.size ≤ bytesOf ss := by
  induction ss with
  | nil => simp at h
  | cons t ss ih =>
    simp only [bytesOf, List.map_cons, List.sum_cons] at *
    rcases List.mem_cons.1 h with rfl | h
    · omega
    · have := ih h; omega

set_option maxHeartbeats 3200000 in
set_option maxRecDepth 100000 in
/-- The law's own walk: it answers true, and nothing that was there is written. -/
theorem walk (w : World) (a0 : Option Addr) (len0 cap0 : Nat) (ss : List SymD) (hn : len0 = ss.length) (hle0 : len0 ≤ maxLen) (hr0 : RdS w a0 ss) (hall : ∀ s ∈ ss, s.name.size ≤ maxLen ∧ (Lit.int .i64 s.ar).wf = true)
    (t : TermD) (a : Option Addr) (c : Nat) (hf : isW t.f) (hv : isW t.v) (hle : t.kids.length ≤ maxLen) (hr : RdK w w.heap.size a t.kids) :
    Calls Try.prog 6 #[.slice a0 len0 cap0, .agg #[.int .i64 t.f, .int .i64 t.v, .slice a t.kids.length c]] w fun e w' => e = .returned (.bool true) ∧ Below w.heap.size w w' := by
  have hsz : ∀ s ∈ ss, s.name.size ≤ maxLen := fun s hs => (hall s hs).1
  unfold maxLen at hle0
  subst hn
  obtain ⟨W, hW⟩ : ∃ W, W = w.alloc (.cells #[.int .i64 t.f, .int .i64 t.v, .slice a t.kids.length c] 48) := ⟨_, rfl⟩
  have hB0 : Below w.heap.size w W := by rw [hW]; exact (Below.refl _ _).alloc (Nat.le_refl _) _
  have SY := szSyms_any a0 ss ss.length cap0 1048576 W rfl (hr0.below hB0) (by omega) (by omega) (by omega) (fun s hs => by have := hsz s hs; unfold maxLen at this; omega)
  have P0 : W.cell? ⟨w.heap.size, 0, none⟩ = some (.int .i64 t.f) ∧ W.cell? ⟨w.heap.size, 1, none⟩ = some (.int .i64 t.v) ∧ W.cell? ⟨w.heap.size, 2, none⟩ = some (.slice a t.kids.length c) := by rw [hW]; simp [go_sem]
  have hpt := partsT_eq t
  clear hle
  go_enter Try.func6, Try.ntmps6
  go_wp2_with (go_at_call 31; rw [← hW]; refine SY.mono ?_; rintro e w1 ⟨r, rfl, hsm, hrm, hb⟩; have hB1 : Below w.heap.size w w1 := hB0.trans (hb.mono hB0.size); obtain ⟨p0, p1, p2⟩ := box_on P0 hb; clear SY P0 hb hW hB0)
  · go_ret
    exact ⟨rfl, hB1⟩
  · have hr0' : 0 ≤ r := by omega
    have hsum := hsm hr0'
    have hl : ss.length ≤ 1048577 := by omega
    have hnm : ∀ s ∈ ss, s.name.size ≤ 1048576 := fun s hs => by have := size_le hs; omega
    have SZ := szTerm_any t a c w.heap.size r w1 hr0' hrm (hr.on hB1) hB1.size
    clear hsm
    by_cases hb1 : (partsL t.kids : Int) ≤ r
    · rw [show szR t.kids r = r - partsL t.kids by unfold szR; rw [if_pos hb1]] at SZ
      have hn1 : ¬ (r - (partsL t.kids : Int)) < 0 := by omega
      have hp1 : partsT t ≤ 4194304 := by omega
      have hp0 : partsT t ≤ 1048577 := by omega
      clear hpt hb1 hsum
      go_wp2_with (go_at_call 32; refine SZ.mono ?_; rintro e w2 ⟨rfl, hb⟩; have hB2 : Below w.heap.size w w2 := hB1.trans (hb.mono hB1.size); have P := box_on ⟨p0, p1, p2⟩ hb; clear p0 p1 p2; obtain ⟨p0, p1, p2⟩ := P; clear SZ hb hB1)
      go_region_held3 (fun w' => w'.cell? ⟨w.heap.size, 0, none⟩ = some (.int .i64 t.f) ∧ w'.cell? ⟨w.heap.size, 1, none⟩ = some (.int .i64 t.v) ∧ w'.cell? ⟨w.heap.size, 2, none⟩ = some (.slice a t.kids.length c)) (first | go_keep | exact ⟨p0, p1, p2⟩)
        (first
          | (go_at_call 33; refine (toSyms_any a0 ss _ cap0 _ rfl ?_ hl).mono ?_; exact hr0.below hB2.drew; rintro e w3 ⟨rfl, ho3, hb0⟩; have hb : Below w2.heap.size w2 w3 := (Below.refl _ _).drew.trans hb0; have hc3 := RdS.own rfl ho3; have hB3 : Below w.heap.size w w3 := hB2.trans (hb.mono hB2.size); have P := box_on ⟨p0, p1, p2⟩ hb; clear p0 p1 p2; obtain ⟨p0, p1, p2⟩ := P; clear hb hb0 ho3 hB2)
          | (go_at_call 34; refine (toTerm_any t a c w.heap.size _ hp1 ?_ ?_).mono ?_; exact hr.on hB3; exact hB3.size; rintro e w4 ⟨x1, rfl, ho4, hb⟩; have hc4 := hc3.below hb; have hB4 : Below w.heap.size w w4 := hB3.trans (hb.mono hB3.size); have P := box_on ⟨p0, p1, p2⟩ hb; clear p0 p1 p2; obtain ⟨p0, p1, p2⟩ := P; clear hb hB3 hc3)
          | (go_at_call 28; refine (specTermOk_any _ ss _ hl hnm t x1 _ w4.heap.size _ hf hc4 hp1 ho4.rd (Nat.le_refl _)).mono ?_; rintro e w5 ⟨rfl, hb⟩; have hB5 : Below w.heap.size w w5 := hB4.trans (hb.mono hB4.size); have P := box_on ⟨p0, p1, p2⟩ hb; clear p0 p1 p2; obtain ⟨p0, p1, p2⟩ := P; clear hb hB4 hc4 ho4))
      go_wp2_with (first
        | (go_at_call 33; refine (toSyms_any a0 ss _ cap0 _ rfl (hr0.below hB5) hl).mono ?_; rintro e w6 ⟨rfl, ho6, hb⟩; have hc6 := RdS.own rfl ho6; have hB6 : Below w.heap.size w w6 := hB5.trans (hb.mono hB5.size); have P := box_on ⟨p0, p1, p2⟩ hb; clear p0 p1 p2; obtain ⟨p0, p1, p2⟩ := P; clear hb hB5 ho6)
        | (go_at_call 34; refine (toTerm_any t a c w.heap.size _ hp1 (hr.on hB6) hB6.size).mono ?_; rintro e w7 ⟨y1, rfl, ho7, hb⟩; have hc7 := hc6.below hb; have hB7 : Below w.heap.size w w7 := hB6.trans (hb.mono hB6.size); have P := box_on ⟨p0, p1, p2⟩ hb; clear p0 p1 p2; obtain ⟨p0, p1, p2⟩ := P; have hz7 : w.heap.size < w7.heap.size := World.block_lt_of_cell? _ _ p0; clear hb hB6 hc6)
        | (go_at_call 27; refine (impTermOk_all _ ss _ hsz t y1 _ w7.heap.size _ (hc7.below ((Below.refl w7.heap.size w7).alloc (Nat.le_refl _) _)) hp1 (ho7.rd.on ((Below.refl w7.heap.size w7).alloc (Nat.le_refl _) _)) (by simp) (Nat.le_refl _)).mono ?_; rintro e w8 ⟨rfl, hb⟩; have hb7 : Below w7.heap.size w7 w8 := ((Below.refl w7.heap.size w7).alloc (Nat.le_refl _) _).trans (hb.mono (by simp)); have r3 : w8.cell? ⟨w7.heap.size, 0, none⟩ = some (.int .i64 t.f) := keepC hb (by simp [go_sem]); have r4 : w8.cell? ⟨w7.heap.size, 1, none⟩ = some (.int .i64 t.v) := keepC hb (by simp [go_sem]); have r5 : w8.cell? ⟨w7.heap.size, 2, none⟩ = some (.slice y1 t.kids.length t.kids.length) := keepC hb (by simp [go_sem]); have q1 := ho7.rd.on hb7; have hc8 := hc7.below hb7; have hB8 : Below w.heap.size w w8 := hB7.trans (hb7.mono hB7.size); have hs8 := hb7.size; have P := box_on ⟨p0, p1, p2⟩ hb7; clear p0 p1 p2; obtain ⟨p0, p1, p2⟩ := P; clear hb hb7 hB7 ho7 hz7 hc7)
        | (go_at_call 33; refine (toSyms_any a0 ss _ cap0 _ rfl (hr0.below hB8) hl).mono ?_; rintro e w9 ⟨rfl, ho9, hb⟩; have hc9 := RdS.own rfl ho9; have hd9 := hc8.below hb; have q2 := q1.on (hb.mono hs8); have hs9 := Nat.le_trans hs8 hb.size; have hB9 : Below w.heap.size w w9 := hB8.trans (hb.mono hB8.size); have R := box_on ⟨r3, r4, r5⟩ hb; clear r3 r4 r5; obtain ⟨r3, r4, r5⟩ := R; have P := box_on ⟨p0, p1, p2⟩ hb; clear p0 p1 p2; obtain ⟨p0, p1, p2⟩ := P; clear hb hB8 ho9 hc8 q1 hs8)
        | (go_at_call 35; refine (eqSyms_same _ _ ss _ _ _ _ _ rfl rfl hd9 hc9 hl).mono ?_; rintro e w10 ⟨rfl, hb⟩; have q3 := q2.on (hb.mono hs9); have hs10 := Nat.le_trans hs9 hb.size; have hB10 : Below w.heap.size w w10 := hB9.trans (hb.mono hB9.size); have R := box_on ⟨r3, r4, r5⟩ hb; clear r3 r4 r5; obtain ⟨r3, r4, r5⟩ := R; have P := box_on ⟨p0, p1, p2⟩ hb; clear p0 p1 p2; obtain ⟨p0, p1, p2⟩ := P; clear hb hB9 hc9 hd9 q2 hs9))
      go_region_held3 (fun w' => w'.cell? ⟨w.heap.size, 0, none⟩ = some (.int .i64 t.f) ∧ w'.cell? ⟨w.heap.size, 1, none⟩ = some (.int .i64 t.v) ∧ w'.cell? ⟨w.heap.size, 2, none⟩ = some (.slice a t.kids.length c) ∧ w'.cell? ⟨w7.heap.size, 0, none⟩ = some (.int .i64 t.f) ∧ w'.cell? ⟨w7.heap.size, 1, none⟩ = some (.int .i64 t.v) ∧ w'.cell? ⟨w7.heap.size, 2, none⟩ = some (.slice y1 t.kids.length t.kids.length)) (first | go_keep | exact ⟨p0, p1, p2, r3, r4, r5⟩)
        (first
          | (go_at_call_of 34 t; refine (toTerm_any t a c w.heap.size _ hp1 ?_ ?_).mono ?_; exact hr.on hB10.drew; exact hB10.size; rintro e w11 ⟨z1, rfl, ho11, hb0⟩; have hb : Below w10.heap.size w10 w11 := (Below.refl _ _).drew.trans hb0; have q4 := q3.on (hb.mono hs10); have hs11 := Nat.le_trans hs10 hb.size; have hB11 : Below w.heap.size w w11 := hB10.trans (hb.mono hB10.size); have R := box_on ⟨r3, r4, r5⟩ hb; clear r3 r4 r5; obtain ⟨r3, r4, r5⟩ := R; have P := box_on ⟨p0, p1, p2⟩ hb; clear p0 p1 p2; obtain ⟨p0, p1, p2⟩ := P; clear hb hb0 hB10 q3 hs10)
          | (go_at_call 36; refine (eqTerm_same t y1 z1 _ _ w11.heap.size _ hp1 ?_ ?_ ?_).mono ?_; exact q4.mono hs11; exact ho11.rd; exact Nat.le_refl _; rintro e w12 ⟨rfl, hb⟩; have hB12 : Below w.heap.size w w12 := hB11.trans (hb.mono hB11.size); have R := box_on ⟨r3, r4, r5⟩ hb; clear r3 r4 r5; obtain ⟨r3, r4, r5⟩ := R; have P := box_on ⟨p0, p1, p2⟩ hb; clear p0 p1 p2; obtain ⟨p0, p1, p2⟩ := P; clear hb hB11 q4 hs11 ho11))
      go_wp2_with fail
      go_ret
      exact ⟨rfl, hB12⟩
    · rw [show szR t.kids r = -1 by unfold szR; rw [if_neg hb1]] at SZ
      clear hpt
      go_wp2_with (go_at_call 32; refine SZ.mono ?_; rintro e w2 ⟨rfl, hb⟩; have hB2 : Below w.heap.size w w2 := hB1.trans (hb.mono hB1.size); clear SZ hb)
      go_ret
      exact ⟨rfl, hB2⟩

set_option maxRecDepth 100000 in
theorem lifted (os : Os) (started : os.Started) (H : Type) (enc : TypeId × Value → H) :
    ReturnsInHanded {} Try.checked os 6 .any (Rows.fnExactTermOkSpec.pre6 enc Try.prog Try.f6 Rows.fnExactTermOkRow.domain false) (Rows.fnExactTermOkSpec.post enc Try.prog Try.f6 false true false false) := by
  refine returnsInHanded_of_change (C := Try.checked) own started (by kernel_rfl) Try.func6
    (ChangeSpec.witness6 (enc := enc) (C := Try.checked) false ⟨#[], #[.slice none 0 0, .agg #[.int .i64 0, .int .i64 0, .slice none 0 0]], []⟩ 8 (by kernel_rfl) (by kernel_rfl) (by kernel_rfl) (by kernel_rfl)) ?_
  intro W base args ds gs before hval0 hW hcnd _
  have hval : ∀ (j : Nat) t v, Try.f6.params[j]? = some t → args[j]? = some v → Value.okWide Try.prog W .any base t v := hval0
  have hW' := hW
  obtain ⟨p, q, hA0, hV, rfl, hfz, hnd⟩ := hW
  have hA : DataW.TrodAll enc Try.prog W 0 (fun _ => true) true Try.f6.params.toList args.toList ds p := hA0
  rw [Try.params6] at hA hval
  obtain ⟨v0, vs0, d0, ds0, p0, q0, hargs, rfl, rfl, h0, r0⟩ := trodAll_cons hA
  obtain ⟨v1, vs1, d1, ds1, p1, q1, rfl, rfl, rfl, h1, r1⟩ := trodAll_cons r0
  obtain ⟨rfl, rfl, rfl⟩ := trodAll_nil r1
  obtain rfl : args = #[v0, v1] := by cases args; simp_all
  obtain ⟨rfl, rfl⟩ := trodVars_none hV
  obtain ⟨a0, len0, cap0, rfl⟩ := okWide_slice Try.underlying45 (hval 0 45 v0 rfl rfl)
  have k0 := h0
  have lt0 : ∀ x ∈ p0, x.block < W.heap.size := by obtain ⟨m, hm⟩ := k0; exact DataW.trod_lt m _ _ _ hm
  obtain ⟨ss0, hn0, hle0, hr0, hall0⟩ := open_syms rfl h0
  obtain ⟨cs1, rfl, _⟩ := okWide_struct Try.underlying48 (hval 1 48 v1 rfl rfl)
  have k1 := h1
  have lt1 : ∀ x ∈ p1, x.block < W.heap.size := by obtain ⟨m, hm⟩ := k1; exact DataW.trod_lt m _ _ _ hm
  obtain ⟨t1, a1, c1, e1, hf1, hv1, hle1, hr1⟩ := open_term rfl h1
  obtain rfl : cs1 = #[.int .i64 t1.f, .int .i64 t1.v, .slice a1 t1.kids.length c1] := by simpa using e1
  clear hA0 hval0
  refine (walk W a0 len0 cap0 ss0 hn0 hle0 hr0 hall0 t1 a1 c1 hf1 hv1 hle1.1 hr1).mono fun e W' ⟨he, bel⟩ => ?_
  subst he
  exact ⟨_, rfl, _, _, _, [], _, [], hW', trodAll_mk1 (shut_bool Try.underlying4 _), (trodAll_cons_mk (Below.trod laidOut (by kernel_rfl) (of_decide_eq_true (by kernel_rfl)) k0 bel lt0) (trodAll_cons_mk (Below.trod laidOut (by kernel_rfl) (of_decide_eq_true (by kernel_rfl)) k1 bel lt1) trodAll_mk0)), by first | rfl | simp, bel.frame _, fun h => by cases h⟩

theorem over : Rows.fnExactTermOkRow.holds Try.pinned (OpenSpec.ofChange Rows.fnExactTermOkSpec) :=
  OpenClaim.holds_of_wide 6 Try.f6 rfl rfl rfl rfl rfl rfl rfl ⟨rfl, rfl, rfl, rfl, rfl⟩ rfl rfl rfl rfl rfl (by kernel_rfl) Try.func6 (by kernel_rfl)
    (of_decide_eq_true (by kernel_rfl)) (by unfold Func.isWrapper; first | (rw [if_pos (by decide +kernel)]; kernel_rfl) | (rw [if_neg (by decide +kernel)]; exact ⟨rfl, rfl⟩))
    (fun os started H enc _ => lifted os started H enc)

theorem proved : Rows.FnExactTermOkSaid := over
end Go.Proofs.Ytpmmgplpmonolaa.fnExactTermOk
namespace Go.Proofs.Ytpmmgplpmonolaa
theorem fnExactTermOk_holds : Rows.FnExactTermOkSaid := fnExactTermOk.proved
#print axioms fnExactTermOk_holds
end Go.Proofs.Ytpmmgplpmonolaa
