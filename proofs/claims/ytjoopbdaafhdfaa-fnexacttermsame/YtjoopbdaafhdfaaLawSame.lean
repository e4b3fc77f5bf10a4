/- The law FnExactTermSame answers true at every two terms and leaves both as they were: at every argument TermSame answers as its specification. Conditions: none beyond the given row's own. -/
import Derived.Test.YtjoopbdaafhdfaaRows
import Derived.Test.YtjoopbdaafhdfaaTermSpec
import Derived.Test.YtjoopbdaafhdfaaTermLaw
import Derived.Test.YtjoopbdaafhdfaaTermCopy
import Derived.Test.YtjoopbdaafhdfaaTermEq
import Derived.Test.YtjoopbdaafhdfaaTermOpen
import Derived.Test.YtjoopbdaafhdfaaImp3
import Derived.WalkKit
import Derived.ProofKit
import Derived.OpenShut
import Derived.ShutString
import Derived.ChangeOld
import Derived.Below
namespace Go.Proofs.Ytjoopbdaafhdfaa.fnExactTermSame
open Go.ChangeShapes Go.WideShapes Go.ChangeAt Go.RowKit
open Go.ChangeMaps (open_string shut_string)
set_option linter.unusedVariables false

theorem own : ownKnob Try.prog.godebug = none := by kernel_rfl
theorem laidOut : laidOutB Try.prog = true := by kernel_rfl

theorem boxes_on {W W' : World} {b0 b1 : Nat} {x0 x1 x2 y0 y1 y2 : Value} (h : W.cell? ⟨b0, 0, none⟩ = some x0 ∧ W.cell? ⟨b0, 1, none⟩ = some x1 ∧ W.cell? ⟨b0, 2, none⟩ = some x2 ∧ W.cell? ⟨b1, 0, none⟩ = some y0 ∧ W.cell? ⟨b1, 1, none⟩ = some y1 ∧ W.cell? ⟨b1, 2, none⟩ = some y2) (hb : Below W.heap.size W W') :
    W'.cell? ⟨b0, 0, none⟩ = some x0 ∧ W'.cell? ⟨b0, 1, none⟩ = some x1 ∧ W'.cell? ⟨b0, 2, none⟩ = some x2 ∧ W'.cell? ⟨b1, 0, none⟩ = some y0 ∧ W'.cell? ⟨b1, 1, none⟩ = some y1 ∧ W'.cell? ⟨b1, 2, none⟩ = some y2 :=
  ⟨keepC hb h.1, keepC hb h.2.1, keepC hb h.2.2.1, keepC hb h.2.2.2.1, keepC hb h.2.2.2.2.1, keepC hb h.2.2.2.2.2⟩

set_option maxHeartbeats 3200000 in
set_option maxRecDepth 100000 in
/-- The law's own walk: it answers true, and nothing that was there is written. -/
theorem walk (w : World) (t : TermD) (a : Option Addr) (c : Nat) (hf : isW t.f) (hv : isW t.v) (hle : t.kids.length ≤ maxLen) (hr : RdK w w.heap.size a t.kids) (u : TermD) (a' : Option Addr) (c' : Nat) (hf' : isW u.f) (hv' : isW u.v) (hle' : u.kids.length ≤ maxLen) (hr' : RdK w w.heap.size a' u.kids) :
    Calls Try.prog 4 #[.agg #[.int .i64 t.f, .int .i64 t.v, .slice a t.kids.length c], .agg #[.int .i64 u.f, .int .i64 u.v, .slice a' u.kids.length c']] w fun e w' => e = .returned (.bool true) ∧ Below w.heap.size w w' := by
  obtain ⟨W, hW⟩ : ∃ W, W = (w.alloc (.cells #[.int .i64 t.f, .int .i64 t.v, .slice a t.kids.length c] 44)).alloc (.cells #[.int .i64 u.f, .int .i64 u.v, .slice a' u.kids.length c'] 44) := ⟨_, rfl⟩
  have hB0 : Below w.heap.size w W := by rw [hW]; exact ((Below.refl _ _).alloc (Nat.le_refl _) _).alloc (by simp) _
  have SZ := szTerm_any t a c w.heap.size 1048576 W (by omega) (by omega) (hr.on hB0) hB0.size
  have hpt := partsT_eq t
  have hpu := partsT_eq u
  clear hle hle' hf hv hf' hv'
  by_cases hb1 : (partsL t.kids : Int) ≤ 1048576
  · rw [show szR t.kids 1048576 = 1048576 - partsL t.kids by unfold szR; rw [if_pos hb1]] at SZ
    have hn1 : ¬ (1048576 - (partsL t.kids : Int)) < 0 := by omega
    have SZ2 := fun (w' : World) (h : Below w.heap.size w w') => szTerm_any u a' c' w.heap.size (1048576 - partsL t.kids) w' (by omega) (by omega) (hr'.on h) h.size
    by_cases hb2 : (partsL u.kids : Int) ≤ 1048576 - partsL t.kids
    · rw [show szR u.kids (1048576 - partsL t.kids) = 1048576 - partsL t.kids - partsL u.kids by unfold szR; rw [if_pos hb2]] at SZ2
      have hn2 : ¬ (1048576 - (partsL t.kids : Int) - partsL u.kids) < 0 := by omega
      have hp1 : partsT t ≤ 4194304 := by omega
      have hp2 : partsT u ≤ 4194304 := by omega
      have P0 : W.cell? ⟨w.heap.size, 0, none⟩ = some (.int .i64 t.f) ∧ W.cell? ⟨w.heap.size, 1, none⟩ = some (.int .i64 t.v) ∧ W.cell? ⟨w.heap.size, 2, none⟩ = some (.slice a t.kids.length c) ∧ W.cell? ⟨w.heap.size + 1, 0, none⟩ = some (.int .i64 u.f) ∧ W.cell? ⟨w.heap.size + 1, 1, none⟩ = some (.int .i64 u.v) ∧ W.cell? ⟨w.heap.size + 1, 2, none⟩ = some (.slice a' u.kids.length c') := by rw [hW]; simp [go_sem]
      clear hpt hpu hb1 hb2
      go_enter Try.func4, Try.ntmps4
      go_wp2_with (first
        | (go_at_call 29; rw [← hW]; refine SZ.mono ?_; rintro e w1 ⟨rfl, hb⟩; have hB1 : Below w.heap.size w w1 := hB0.trans (hb.mono hB0.size); obtain ⟨p0, p1, p2, p3, p4, p5⟩ := boxes_on P0 hb; clear SZ P0 hB0 hb hW)
        | (go_at_call 29; refine (SZ2 _ hB1).mono ?_; rintro e w2 ⟨rfl, hb⟩; have hB2 : Below w.heap.size w w2 := hB1.trans (hb.mono hB1.size); have P := boxes_on ⟨p0, p1, p2, p3, p4, p5⟩ hb; clear p0 p1 p2 p3 p4 p5; obtain ⟨p0, p1, p2, p3, p4, p5⟩ := P; clear SZ2 hB1 hb))
      go_region_held3 (fun w' => w'.cell? ⟨w.heap.size, 0, none⟩ = some (.int .i64 t.f) ∧ w'.cell? ⟨w.heap.size, 1, none⟩ = some (.int .i64 t.v) ∧ w'.cell? ⟨w.heap.size, 2, none⟩ = some (.slice a t.kids.length c) ∧ w'.cell? ⟨w.heap.size + 1, 0, none⟩ = some (.int .i64 u.f) ∧ w'.cell? ⟨w.heap.size + 1, 1, none⟩ = some (.int .i64 u.v) ∧ w'.cell? ⟨w.heap.size + 1, 2, none⟩ = some (.slice a' u.kids.length c')) (first | go_keep | exact ⟨p0, p1, p2, p3, p4, p5⟩)
        (first
          | (go_at_call_of 30 t; refine (toTerm_any t a c w.heap.size _ hp1 ?_ ?_).mono ?_; exact hr.on hB2.drew; exact hB2.size; rintro e w3 ⟨x1, rfl, ho3, hb0⟩; have hb : Below w2.heap.size w2 w3 := (Below.refl _ _).drew.trans hb0; have hB3 : Below w.heap.size w w3 := hB2.trans (hb.mono hB2.size); have P := boxes_on ⟨p0, p1, p2, p3, p4, p5⟩ hb; clear p0 p1 p2 p3 p4 p5; obtain ⟨p0, p1, p2, p3, p4, p5⟩ := P; clear hb hb0 hB2)
          | (go_at_call_of 30 u; refine (toTerm_any u a' c' w.heap.size _ hp2 ?_ ?_).mono ?_; exact hr'.on hB3; exact hB3.size; rintro e w4 ⟨x2, rfl, ho4, hb⟩; have ho5 := ho3.on hb; have hB4 : Below w.heap.size w w4 := hB3.trans (hb.mono hB3.size); have P := boxes_on ⟨p0, p1, p2, p3, p4, p5⟩ hb; clear p0 p1 p2 p3 p4 p5; obtain ⟨p0, p1, p2, p3, p4, p5⟩ := P; clear hb hB3 ho3)
          | (go_at_call 19; refine (specSame_any (partsT t) t u x1 x2 _ _ w4.heap.size _ ?_ ?_ ?_ ?_ ?_).mono ?_; exact Nat.le_refl _; exact hp1; exact ho5.rd; exact ho4.rd; exact Nat.le_refl _; rintro e w5 ⟨rfl, hb⟩; have hB5 : Below w.heap.size w w5 := hB4.trans (hb.mono hB4.size); have P := boxes_on ⟨p0, p1, p2, p3, p4, p5⟩ hb; clear p0 p1 p2 p3 p4 p5; obtain ⟨p0, p1, p2, p3, p4, p5⟩ := P; clear hb hB4 ho5 ho4))
      go_wp2_with (first
        | (go_at_call_of 30 t; refine (toTerm_any t a c w.heap.size _ hp1 (hr.on hB5) hB5.size).mono ?_; rintro e w6 ⟨y1, rfl, ho6, hb⟩; have hB6 : Below w.heap.size w w6 := hB5.trans (hb.mono hB5.size); have P := boxes_on ⟨p0, p1, p2, p3, p4, p5⟩ hb; clear p0 p1 p2 p3 p4 p5; obtain ⟨p0, p1, p2, p3, p4, p5⟩ := P; have hz6 : w.heap.size + 1 < w6.heap.size := World.block_lt_of_cell? _ _ p3; clear hb hB5)
        | (go_at_call_of 30 u; refine (toTerm_any u a' c' w.heap.size _ hp2 (hr'.on (hB6.alloc hB6.size _)) (hB6.alloc hB6.size _).size).mono ?_; rintro e w7 ⟨y2, rfl, ho7, hb⟩; have hb6 : Below w6.heap.size w6 w7 := ((Below.refl w6.heap.size w6).alloc (Nat.le_refl _) _).trans (hb.mono (by simp)); have r0 : w7.cell? ⟨w6.heap.size, 0, none⟩ = some (.int .i64 t.f) := keepC hb (by simp [go_sem]); have r1 : w7.cell? ⟨w6.heap.size, 1, none⟩ = some (.int .i64 t.v) := keepC hb (by simp [go_sem]); have r2 : w7.cell? ⟨w6.heap.size, 2, none⟩ = some (.slice y1 t.kids.length t.kids.length) := keepC hb (by simp [go_sem]); have ho8 := ho6.on hb6; have hB7 : Below w.heap.size w w7 := hB6.trans (hb6.mono hB6.size); have P := boxes_on ⟨p0, p1, p2, p3, p4, p5⟩ hb6; clear p0 p1 p2 p3 p4 p5; obtain ⟨p0, p1, p2, p3, p4, p5⟩ := P; have hz7 : w.heap.size + 1 < w7.heap.size := World.block_lt_of_cell? _ _ p3; have hx7 : w6.heap.size < w7.heap.size := World.block_lt_of_cell? _ _ r0; clear hb hb6 hB6 ho6 hz6)
        | (go_at_call 18; refine (impSame_any (partsT t) t u y1 y2 _ _ w7.heap.size _ (Nat.le_refl _) hp1 (ho8.rd.on ((Below.refl w7.heap.size w7).alloc (Nat.le_refl _) _)) (ho7.rd.on ((Below.refl w7.heap.size w7).alloc (Nat.le_refl _) _)) (by simp) (Nat.le_refl _) (Nat.le_refl _)).mono ?_; rintro e w8 ⟨rfl, hb⟩; have hb7 : Below w7.heap.size w7 w8 := ((Below.refl w7.heap.size w7).alloc (Nat.le_refl _) _).trans (hb.mono (by simp)); have s0 : w8.cell? ⟨w7.heap.size, 0, none⟩ = some (.int .i64 u.f) := keepC hb (by simp [go_sem]); have s1 : w8.cell? ⟨w7.heap.size, 1, none⟩ = some (.int .i64 u.v) := keepC hb (by simp [go_sem]); have s2 : w8.cell? ⟨w7.heap.size, 2, none⟩ = some (.slice y2 u.kids.length u.kids.length) := keepC hb (by simp [go_sem]); have q1 := ho8.rd.on hb7; have q2 := ho7.rd.on hb7; have r3 := keepC hb7 r0; have r4 := keepC hb7 r1; have r5 := keepC hb7 r2; have hB8 : Below w.heap.size w w8 := hB7.trans (hb7.mono hB7.size); have hs8 := hb7.size; have P := boxes_on ⟨p0, p1, p2, p3, p4, p5⟩ hb7; clear p0 p1 p2 p3 p4 p5; obtain ⟨p0, p1, p2, p3, p4, p5⟩ := P; clear hb hb7 hB7 ho8 ho7 r0 r1 r2))
      go_region_held3 (fun w' => w'.cell? ⟨w.heap.size, 0, none⟩ = some (.int .i64 t.f) ∧ w'.cell? ⟨w.heap.size, 1, none⟩ = some (.int .i64 t.v) ∧ w'.cell? ⟨w.heap.size, 2, none⟩ = some (.slice a t.kids.length c) ∧ w'.cell? ⟨w6.heap.size, 0, none⟩ = some (.int .i64 t.f) ∧ w'.cell? ⟨w6.heap.size, 1, none⟩ = some (.int .i64 t.v) ∧ w'.cell? ⟨w6.heap.size, 2, none⟩ = some (.slice y1 t.kids.length t.kids.length)) (first | go_keep | exact ⟨p0, p1, p2, r3, r4, r5⟩)
        (first
          | (go_at_call_of 30 t; refine (toTerm_any t a c w.heap.size _ hp1 ?_ ?_).mono ?_; exact hr.on hB8.drew; exact hB8.size; rintro e w9 ⟨z1, rfl, ho9, hb0⟩; have hb : Below w8.heap.size w8 w9 := (Below.refl _ _).drew.trans hb0; have q3 := q1.on (hb.mono hs8); have q4 := q2.on (hb.mono hs8); have hs9 := Nat.le_trans hs8 hb.size; have hB9 : Below w.heap.size w w9 := hB8.trans (hb.mono hB8.size); have R := boxes_on ⟨r3, r4, r5, s0, s1, s2⟩ hb; clear r3 r4 r5 s0 s1 s2; obtain ⟨r3, r4, r5, s0, s1, s2⟩ := R; have P := boxes_on ⟨p0, p1, p2, p3, p4, p5⟩ hb; clear p0 p1 p2 p3 p4 p5; obtain ⟨p0, p1, p2, p3, p4, p5⟩ := P; clear hb hb0 hB8 q1 q2 hs8)
          | (go_at_call 31; refine (eqTerm_same t y1 z1 _ _ w9.heap.size _ hp1 ?_ ?_ ?_).mono ?_; exact q3.mono hs9; exact ho9.rd; exact Nat.le_refl _; rintro e w10 ⟨rfl, hb⟩; have q5 := q4.on (hb.mono hs9); have hs10 := Nat.le_trans hs9 hb.size; have hB10 : Below w.heap.size w w10 := hB9.trans (hb.mono hB9.size); have R := boxes_on ⟨r3, r4, r5, s0, s1, s2⟩ hb; clear r3 r4 r5 s0 s1 s2; obtain ⟨r3, r4, r5, s0, s1, s2⟩ := R; have P := boxes_on ⟨p0, p1, p2, p3, p4, p5⟩ hb; clear p0 p1 p2 p3 p4 p5; obtain ⟨p0, p1, p2, p3, p4, p5⟩ := P; clear hb hB9 q3 q4 hs9 ho9))
      go_wp2_with fail
      go_region_held3 (fun w' => w'.cell? ⟨w.heap.size + 1, 0, none⟩ = some (.int .i64 u.f) ∧ w'.cell? ⟨w.heap.size + 1, 1, none⟩ = some (.int .i64 u.v) ∧ w'.cell? ⟨w.heap.size + 1, 2, none⟩ = some (.slice a' u.kids.length c') ∧ w'.cell? ⟨w7.heap.size, 0, none⟩ = some (.int .i64 u.f) ∧ w'.cell? ⟨w7.heap.size, 1, none⟩ = some (.int .i64 u.v) ∧ w'.cell? ⟨w7.heap.size, 2, none⟩ = some (.slice y2 u.kids.length u.kids.length)) (first | go_keep | exact ⟨p3, p4, p5, s0, s1, s2⟩)
        (first
          | (go_at_call_of 30 u; refine (toTerm_any u a' c' w.heap.size _ hp2 ?_ ?_).mono ?_; exact hr'.on hB10.drew; exact hB10.size; rintro e w11 ⟨z2, rfl, ho11, hb0⟩; have hb : Below w10.heap.size w10 w11 := (Below.refl _ _).drew.trans hb0; have q6 := q5.on (hb.mono hs10); have hs11 := Nat.le_trans hs10 hb.size; have hB11 : Below w.heap.size w w11 := hB10.trans (hb.mono hB10.size); have R := boxes_on ⟨r3, r4, r5, s0, s1, s2⟩ hb; clear r3 r4 r5 s0 s1 s2; obtain ⟨r3, r4, r5, s0, s1, s2⟩ := R; have P := boxes_on ⟨p0, p1, p2, p3, p4, p5⟩ hb; clear p0 p1 p2 p3 p4 p5; obtain ⟨p0, p1, p2, p3, p4, p5⟩ := P; clear hb hb0 hB10 q5 hs10)
          | (go_at_call 31; refine (eqTerm_same u y2 z2 _ _ w11.heap.size _ hp2 ?_ ?_ ?_).mono ?_; exact q6.mono hs11; exact ho11.rd; exact Nat.le_refl _; rintro e w12 ⟨rfl, hb⟩; have hB12 : Below w.heap.size w w12 := hB11.trans (hb.mono hB11.size); have R := boxes_on ⟨r3, r4, r5, s0, s1, s2⟩ hb; clear r3 r4 r5 s0 s1 s2; obtain ⟨r3, r4, r5, s0, s1, s2⟩ := R; have P := boxes_on ⟨p0, p1, p2, p3, p4, p5⟩ hb; clear p0 p1 p2 p3 p4 p5; obtain ⟨p0, p1, p2, p3, p4, p5⟩ := P; clear hb hB11 q6 hs11 ho11))
      go_wp2_with fail
      go_ret
      exact ⟨rfl, hB12⟩
    · have e2 : szR u.kids (1048576 - partsL t.kids) = -1 := by unfold szR; rw [if_neg hb2]
      rw [e2] at SZ2
      have P0 : W.cell? ⟨w.heap.size, 0, none⟩ = some (.int .i64 t.f) ∧ W.cell? ⟨w.heap.size, 1, none⟩ = some (.int .i64 t.v) ∧ W.cell? ⟨w.heap.size, 2, none⟩ = some (.slice a t.kids.length c) ∧ W.cell? ⟨w.heap.size + 1, 0, none⟩ = some (.int .i64 u.f) ∧ W.cell? ⟨w.heap.size + 1, 1, none⟩ = some (.int .i64 u.v) ∧ W.cell? ⟨w.heap.size + 1, 2, none⟩ = some (.slice a' u.kids.length c') := by rw [hW]; simp [go_sem]
      clear hpt hpu e2
      go_enter Try.func4, Try.ntmps4
      go_wp2_with (first
        | (go_at_call 29; rw [← hW]; refine SZ.mono ?_; rintro e w1 ⟨rfl, hb⟩; have hB1 : Below w.heap.size w w1 := hB0.trans (hb.mono hB0.size); obtain ⟨p0, p1, p2, p3, p4, p5⟩ := boxes_on P0 hb; clear SZ P0 hB0 hb hW)
        | (go_at_call 29; refine (SZ2 _ hB1).mono ?_; rintro e w2 ⟨rfl, hb⟩; have hB2 : Below w.heap.size w w2 := hB1.trans (hb.mono hB1.size); clear SZ2 hB1 hb))
      go_ret
      exact ⟨rfl, hB2⟩
  · rw [show szR t.kids 1048576 = -1 by unfold szR; rw [if_neg hb1]] at SZ
    clear hpt hpu
    go_enter Try.func4, Try.ntmps4
    go_wp2_with (go_at_call 29; rw [← hW]; refine SZ.mono ?_; rintro e w1 ⟨rfl, hb⟩; clear SZ)
    go_ret
    exact ⟨rfl, hB0.trans (hb.mono hB0.size)⟩

set_option maxRecDepth 100000 in
theorem lifted (os : Os) (started : os.Started) (H : Type) (enc : TypeId × Value → H) :
    ReturnsInHanded {} Try.checked os 4 .any (Rows.fnExactTermSameSpec.pre6 enc Try.prog Try.f4 Rows.fnExactTermSameRow.domain false) (Rows.fnExactTermSameSpec.post enc Try.prog Try.f4 false true false false) := by
  refine returnsInHanded_of_change (C := Try.checked) own started (by kernel_rfl) Try.func4
    (ChangeSpec.witness6 (enc := enc) (C := Try.checked) false ⟨#[], #[.agg #[.int .i64 0, .int .i64 0, .slice none 0 0], .agg #[.int .i64 0, .int .i64 0, .slice none 0 0]], []⟩ 8 (by kernel_rfl) (by kernel_rfl) (by kernel_rfl) (by kernel_rfl)) ?_
  intro W base args ds gs before hval0 hW hcnd _
  have hval : ∀ (j : Nat) t v, Try.f4.params[j]? = some t → args[j]? = some v → Value.okWide Try.prog W .any base t v := hval0
  have hW' := hW
  obtain ⟨p, q, hA0, hV, rfl, hfz, hnd⟩ := hW
  have hA : DataW.TrodAll enc Try.prog W 0 (fun _ => true) true Try.f4.params.toList args.toList ds p := hA0
  rw [Try.params4] at hA hval
  obtain ⟨v0, vs0, d0, ds0, p0, q0, hargs, rfl, rfl, h0, r0⟩ := trodAll_cons hA
  obtain ⟨v1, vs1, d1, ds1, p1, q1, rfl, rfl, rfl, h1, r1⟩ := trodAll_cons r0
  obtain ⟨rfl, rfl, rfl⟩ := trodAll_nil r1
  obtain rfl : args = #[v0, v1] := by cases args; simp_all
  obtain ⟨rfl, rfl⟩ := trodVars_none hV
  obtain ⟨cs0, rfl, _⟩ := okWide_struct Try.underlying44 (hval 0 44 v0 rfl rfl)
  have k0 := h0
  have lt0 : ∀ x ∈ p0, x.block < W.heap.size := by obtain ⟨m, hm⟩ := k0; exact DataW.trod_lt m _ _ _ hm
  obtain ⟨t0, a0, c0, e0, hf0, hv0, hle0, hr0⟩ := open_term rfl h0
  obtain rfl : cs0 = #[.int .i64 t0.f, .int .i64 t0.v, .slice a0 t0.kids.length c0] := by simpa using e0
  obtain ⟨cs1, rfl, _⟩ := okWide_struct Try.underlying44 (hval 1 44 v1 rfl rfl)
  have k1 := h1
  have lt1 : ∀ x ∈ p1, x.block < W.heap.size := by obtain ⟨m, hm⟩ := k1; exact DataW.trod_lt m _ _ _ hm
  obtain ⟨t1, a1, c1, e1, hf1, hv1, hle1, hr1⟩ := open_term rfl h1
  obtain rfl : cs1 = #[.int .i64 t1.f, .int .i64 t1.v, .slice a1 t1.kids.length c1] := by simpa using e1
  clear hA0 hval0
  refine (walk W t0 a0 c0 hf0 hv0 hle0.1 hr0 t1 a1 c1 hf1 hv1 hle1.1 hr1).mono fun e W' ⟨he, bel⟩ => ?_
  subst he
  exact ⟨_, rfl, _, _, _, [], _, [], hW', trodAll_mk1 (shut_bool Try.underlying4 _), (trodAll_cons_mk (Below.trod laidOut (by kernel_rfl) (of_decide_eq_true (by kernel_rfl)) k0 bel lt0) (trodAll_cons_mk (Below.trod laidOut (by kernel_rfl) (of_decide_eq_true (by kernel_rfl)) k1 bel lt1) trodAll_mk0)), by first | rfl | simp, bel.frame _, fun h => by cases h⟩

theorem over : Rows.fnExactTermSameRow.holds Try.pinned (OpenSpec.ofChange Rows.fnExactTermSameSpec) :=
  OpenClaim.holds_of_wide 4 Try.f4 rfl rfl rfl rfl rfl rfl rfl ⟨rfl, rfl, rfl, rfl, rfl⟩ rfl rfl rfl rfl rfl (by kernel_rfl) Try.func4 (by kernel_rfl)
    (of_decide_eq_true (by kernel_rfl)) (by unfold Func.isWrapper; first | (rw [if_pos (by decide +kernel)]; kernel_rfl) | (rw [if_neg (by decide +kernel)]; exact ⟨rfl, rfl⟩))
    (fun os started H enc _ => lifted os started H enc)

theorem proved : Rows.FnExactTermSameSaid := over
end Go.Proofs.Ytjoopbdaafhdfaa.fnExactTermSame
namespace Go.Proofs.Ytjoopbdaafhdfaa
theorem fnExactTermSame_holds : Rows.FnExactTermSameSaid := fnExactTermSame.proved
#print axioms fnExactTermSame_holds
end Go.Proofs.Ytjoopbdaafhdfaa
