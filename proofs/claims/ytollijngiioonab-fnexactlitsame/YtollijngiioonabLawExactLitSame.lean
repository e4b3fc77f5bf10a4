/- The law FnExactLitSame answers true at every two equations and leaves both as they were: at every argument LitSame answers as its specification, and writes into no argument. Conditions: none beyond the given row's own. -/
import Derived.Test.YtollijngiioonabRows
import Derived.Test.YtollijngiioonabLitL
import Derived.Test.YtollijngiioonabLitA
import Derived.Test.YtollijngiioonabLitB
import Derived.Test.YtollijngiioonabLitC
import Derived.Test.YtollijngiioonabLitE
import Derived.Test.YtollijngiioonabLitO
import Derived.Test.YtollijngiioonabLitK
import Derived.WalkKit
import Derived.ProofKit
import Derived.OpenShut
import Derived.ShutString
import Derived.ChangeOld
import Derived.Below
namespace Go.Proofs.Ytollijngiioonab.fnExactLitSame
open Go.ChangeShapes Go.WideShapes Go.ChangeAt Go.RowKit
open Go.ChangeMaps (open_string shut_string)
set_option linter.unusedVariables false

theorem own : ownKnob Try.prog.godebug = none := by kernel_rfl
theorem laidOut : laidOutB Try.prog = true := by kernel_rfl

set_option maxHeartbeats 12800000 in
set_option maxRecDepth 100000 in
/-- The law's own walk: it answers true, and nothing that was there is written. -/
theorem walk_of (CI : ∀ (x y : LitD) (a1 a2 b1 b2 : Option Addr) (c1 c2 d1 d2 hi : Nat) (w : World), partsT x.l ≤ 549755813888 → partsT x.r ≤ 549755813888 → partsT y.l ≤ 549755813888 → partsT y.r ≤ 549755813888 → RdK w hi a1 x.l.kids → RdK w hi a2 x.r.kids → RdK w hi b1 y.l.kids → RdK w hi b2 y.r.kids → hi ≤ w.heap.size → x.l.kids.length ≤ c1 → x.r.kids.length ≤ c2 → y.l.kids.length ≤ d1 → y.r.kids.length ≤ d2 →
      Calls Try.prog 9 #[litV x a1 c1 a2 c2, litV y b1 d1 b2 d2] w fun e w' => e = .returned (.bool (sameX x y)) ∧ Below w.heap.size w w')
    (w : World) (x : LitD) (a1 : Option Addr) (c1 : Nat) (a2 : Option Addr) (c2 : Nat) (hxl : isW x.l.f ∧ isW x.l.v) (hxr : isW x.r.f ∧ isW x.r.v) (hx1 : RdK w w.heap.size a1 x.l.kids) (hx2 : RdK w w.heap.size a2 x.r.kids)
    (y : LitD) (b1 : Option Addr) (d1 : Nat) (b2 : Option Addr) (d2 : Nat) (hyl : isW y.l.f ∧ isW y.l.v) (hyr : isW y.r.f ∧ isW y.r.v) (hy1 : RdK w w.heap.size b1 y.l.kids) (hy2 : RdK w w.heap.size b2 y.r.kids) :
    Calls Try.prog 3 #[litV x a1 c1 a2 c2, litV y b1 d1 b2 d2] w fun e w' => e = .returned (.bool true) ∧ Below w.heap.size w w' := by
  obtain ⟨W, hW⟩ : ∃ W, W = (w.alloc (.cells #[.bool x.p, .int .i64 x.l.f, .int .i64 x.l.v, .slice a1 x.l.kids.length c1, .int .i64 x.r.f, .int .i64 x.r.v, .slice a2 x.r.kids.length c2] 26)).alloc (.cells #[.bool y.p, .int .i64 y.l.f, .int .i64 y.l.v, .slice b1 y.l.kids.length d1, .int .i64 y.r.f, .int .i64 y.r.v, .slice b2 y.r.kids.length d2] 26) := ⟨_, rfl⟩
  have hB0 : Below w.heap.size w W := by rw [hW]; exact ((Below.refl _ _).alloc (Nat.le_refl _) _).alloc (by simp) _
  have KX0 : C7 W w.heap.size (.bool x.p) (.int .i64 x.l.f) (.int .i64 x.l.v) (.slice a1 x.l.kids.length c1) (.int .i64 x.r.f) (.int .i64 x.r.v) (.slice a2 x.r.kids.length c2) := by rw [hW]; exact ⟨by simp [go_sem], by simp [go_sem], by simp [go_sem], by simp [go_sem], by simp [go_sem], by simp [go_sem], by simp [go_sem]⟩
  have KY0 : C7 W (w.heap.size + 1) (.bool y.p) (.int .i64 y.l.f) (.int .i64 y.l.v) (.slice b1 y.l.kids.length d1) (.int .i64 y.r.f) (.int .i64 y.r.v) (.slice b2 y.r.kids.length d2) := by rw [hW]; exact ⟨by simp [go_sem], by simp [go_sem], by simp [go_sem], by simp [go_sem], by simp [go_sem], by simp [go_sem], by simp [go_sem]⟩
  have SX := szLit_any x a1 a2 c1 c2 w.heap.size 1048576 W (by omega) (by omega) (hx1.on hB0) (hx2.on hB0) hB0.size
  have hsx := szX_ok x 1048576 (by omega) (by omega)
  have SY := fun (r : Int) (h0 : 0 ≤ r) (h1 : r ≤ 1048576) (W' : World) (h : Below w.heap.size w W') => szLit_any y b1 b2 d1 d2 w.heap.size r W' h0 h1 (hy1.on h) (hy2.on h) h.size
  have hsy := fun (r : Int) (h0 : 0 ≤ r) (h1 : r ≤ 1048576) => szX_ok y r h0 h1
  unfold litV at SX SY
  unfold litV
  generalize szX x 1048576 = r1 at SX hsx
  by_cases hn1 : r1 < 0
  · clear SY hsy hsx
    go_enter Try.func3, Try.ntmps3
    go_wp2_with (go_at_call 6; rw [← hW]; refine SX.mono ?_; rintro e w1 ⟨rfl, hb⟩; have hB1 : Below w.heap.size w w1 := hB0.trans (hb.mono hB0.size); clear SX hb)
    go_ret
    exact ⟨rfl, hB1⟩
  · obtain ⟨hs1, hs2⟩ := hsx (by omega)
    have SY1 := SY r1 (by omega) (by omega)
    have hsy1 := hsy r1 (by omega) (by omega)
    clear SY hsy hsx
    generalize szX y r1 = r2 at SY1 hsy1
    by_cases hn2 : r2 < 0
    · clear hsy1
      go_enter Try.func3, Try.ntmps3
      go_wp2_with (first
        | (go_at_call_of 6 a1; rw [← hW]; refine SX.mono ?_; rintro e w1 ⟨rfl, hb⟩; have hB1 : Below w.heap.size w w1 := hB0.trans (hb.mono hB0.size); have KY1 := KY0.on hb; obtain ⟨q0, q1, q2, q3, q4, q5, q6⟩ := KY1; clear SX hb hW)
        | (go_at_call_of 6 b1; refine (SY1 w1 hB1).mono ?_; rintro e w2 ⟨rfl, hb⟩; have hB2 : Below w.heap.size w w2 := hB1.trans (hb.mono hB1.size); clear SY1 hb))
      go_ret
      exact ⟨rfl, hB2⟩
    · obtain ⟨hs3, hs4⟩ := hsy1 (by omega)
      have ex1 := partsT_eq x.l
      have ex2 := partsT_eq x.r
      have ey1 := partsT_eq y.l
      have ey2 := partsT_eq y.r
      have m1 : partsT x.l ≤ 549755813888 := by omega
      have m2 : partsT x.r ≤ 549755813888 := by omega
      have m3 : partsT y.l ≤ 549755813888 := by omega
      have m4 : partsT y.r ≤ 549755813888 := by omega
      clear hs1 hs2 hs3 hs4 ex1 ex2 ey1 ey2 hsy1
      have TX := fun (W' : World) (h : Below w.heap.size w W') => toLit_any x a1 a2 c1 c2 w.heap.size W' m1 m2 (hx1.on h) (hx2.on h) h.size
      have TY := fun (W' : World) (h : Below w.heap.size w W') => toLit_any y b1 b2 d1 d2 w.heap.size W' m3 m4 (hy1.on h) (hy2.on h) h.size
      have CS := fun (e1 e2 e3 e4 : Option Addr) (k1 k2 k3 k4 hi : Nat) (W' : World) (h1 : RdK W' hi e1 x.l.kids) (h2 : RdK W' hi e2 x.r.kids) (h3 : RdK W' hi e3 y.l.kids) (h4 : RdK W' hi e4 y.r.kids) (h5 : hi ≤ W'.heap.size) => specLitSame_any x y e1 e2 e3 e4 k1 k2 k3 k4 hi W' m1 m2 h1 h2 h3 h4 h5
      have CJ := fun (e1 e2 e3 e4 : Option Addr) (hi : Nat) (W' : World) (h1 : RdK W' hi e1 x.l.kids) (h2 : RdK W' hi e2 x.r.kids) (h3 : RdK W' hi e3 y.l.kids) (h4 : RdK W' hi e4 y.r.kids) (h5 : hi ≤ W'.heap.size) => CI x y e1 e2 e3 e4 x.l.kids.length x.r.kids.length y.l.kids.length y.r.kids.length hi W' m1 m2 m3 m4 h1 h2 h3 h4 h5 (Nat.le_refl _) (Nat.le_refl _) (Nat.le_refl _) (Nat.le_refl _)
      have EX := fun (e1 e2 e3 e4 : Option Addr) (k1 k2 k3 k4 hi : Nat) (W' : World) (h1 : RdK W' hi e1 x.l.kids) (h2 : RdK W' hi e2 x.r.kids) (h3 : RdK W' hi e3 x.l.kids) (h4 : RdK W' hi e4 x.r.kids) (h5 : hi ≤ W'.heap.size) => eqLit_same x e1 e2 e3 e4 k1 k2 k3 k4 hi W' m1 m2 h1 h2 h3 h4 h5
      have EY := fun (e1 e2 e3 e4 : Option Addr) (k1 k2 k3 k4 hi : Nat) (W' : World) (h1 : RdK W' hi e1 y.l.kids) (h2 : RdK W' hi e2 y.r.kids) (h3 : RdK W' hi e3 y.l.kids) (h4 : RdK W' hi e4 y.r.kids) (h5 : hi ≤ W'.heap.size) => eqLit_same y e1 e2 e3 e4 k1 k2 k3 k4 hi W' m3 m4 h1 h2 h3 h4 h5
      unfold litV at TX TY CS CJ EX EY
      generalize sameX x y = ok at CS CJ
      have hok : (ok != ok) = false := by simp
      clear m1 m2 m3 m4 hx1 hx2 hy1 hy2 CI
      go_enter Try.func3, Try.ntmps3
      go_wp2_with (first
        | (go_at_call_of 6 a1; rw [← hW]; refine SX.mono ?_; rintro e w1 ⟨rfl, hb⟩; have hB1 : Below w.heap.size w w1 := hB0.trans (hb.mono hB0.size); have KX1 := KX0.on hb; have KY1 := KY0.on hb; clear KX0 KY0; obtain ⟨p0, p1, p2, p3, p4, p5, p6⟩ := KX1; obtain ⟨q0, q1, q2, q3, q4, q5, q6⟩ := KY1; clear SX hb hW hB0)
        | (go_at_call_of 6 b1; refine (SY1 w1 hB1).mono ?_; rintro e w2 ⟨rfl, hb⟩; have hB2 : Below w.heap.size w w2 := hB1.trans (hb.mono hB1.size); have KX' := C7.on ⟨p0, p1, p2, p3, p4, p5, p6⟩ hb; have KY' := C7.on ⟨q0, q1, q2, q3, q4, q5, q6⟩ hb; clear p0 p1 p2 p3 p4 p5 p6 q0 q1 q2 q3 q4 q5 q6; obtain ⟨p0, p1, p2, p3, p4, p5, p6⟩ := KX'; obtain ⟨q0, q1, q2, q3, q4, q5, q6⟩ := KY'; clear SY1 hb hB1))
      go_region_held3 (fun w' => (w'.cell? ⟨w.heap.size, 0, none⟩ = some (.bool x.p) ∧ w'.cell? ⟨w.heap.size, 1, none⟩ = some (.int .i64 x.l.f) ∧ w'.cell? ⟨w.heap.size, 2, none⟩ = some (.int .i64 x.l.v) ∧ w'.cell? ⟨w.heap.size, 3, none⟩ = some (.slice a1 x.l.kids.length c1) ∧ w'.cell? ⟨w.heap.size, 4, none⟩ = some (.int .i64 x.r.f) ∧ w'.cell? ⟨w.heap.size, 5, none⟩ = some (.int .i64 x.r.v) ∧ w'.cell? ⟨w.heap.size, 6, none⟩ = some (.slice a2 x.r.kids.length c2)) ∧ w'.cell? ⟨(w.heap.size + 1), 0, none⟩ = some (.bool y.p) ∧ w'.cell? ⟨(w.heap.size + 1), 1, none⟩ = some (.int .i64 y.l.f) ∧ w'.cell? ⟨(w.heap.size + 1), 2, none⟩ = some (.int .i64 y.l.v) ∧ w'.cell? ⟨(w.heap.size + 1), 3, none⟩ = some (.slice b1 y.l.kids.length d1) ∧ w'.cell? ⟨(w.heap.size + 1), 4, none⟩ = some (.int .i64 y.r.f) ∧ w'.cell? ⟨(w.heap.size + 1), 5, none⟩ = some (.int .i64 y.r.v) ∧ w'.cell? ⟨(w.heap.size + 1), 6, none⟩ = some (.slice b2 y.r.kids.length d2)) (first | go_keep | exact ⟨⟨p0, p1, p2, p3, p4, p5, p6⟩, q0, q1, q2, q3, q4, q5, q6⟩)
        (first
          | (go_at_call_of 8 a1; refine (TX _ (hB2.trans (Below.mono (B := w2.heap.size) (by (repeat (first | exact Below.refl _ _ | refine Below.drew ?_ | refine Below.alloc ?_ (by simp) _))) hB2.size))).mono ?_; rintro e w3 ⟨e1, e2, n1, rfl, o1, o2, z1, z2, hb0⟩; have hb : Below w2.heap.size w2 w3 := below_stepL (by (repeat (first | exact Below.refl _ _ | refine Below.drew ?_ | refine Below.alloc ?_ (by simp) _))) hb0; have j1 := o1.rd; have j2 := o2.rd; have hB3 : Below w.heap.size w w3 := hB2.trans (hb.mono hB2.size); have KX' := C7.on ⟨p0, p1, p2, p3, p4, p5, p6⟩ hb; have KY' := C7.on ⟨q0, q1, q2, q3, q4, q5, q6⟩ hb; clear p0 p1 p2 p3 p4 p5 p6 q0 q1 q2 q3 q4 q5 q6; obtain ⟨p0, p1, p2, p3, p4, p5, p6⟩ := KX'; obtain ⟨q0, q1, q2, q3, q4, q5, q6⟩ := KY'; clear hb hb0 hB2 o1 o2 z1 z2)
          | (go_at_call_of 8 b1; refine (TY _ (hB3.trans (Below.mono (B := w3.heap.size) (by (repeat (first | exact Below.refl _ _ | refine Below.drew ?_ | refine Below.alloc ?_ (by simp) _))) hB3.size))).mono ?_; rintro e w4 ⟨e3, e4, n2, rfl, o3, o4, z1, z2, hb0⟩; have hb : Below w3.heap.size w3 w4 := below_stepL (by (repeat (first | exact Below.refl _ _ | refine Below.drew ?_ | refine Below.alloc ?_ (by simp) _))) hb0; have j3 := o3.rd; have j4 := o4.rd; have g1 := (j1.on hb).mono hb.size; have g2 := (j2.on hb).mono hb.size; have hB4 : Below w.heap.size w w4 := hB3.trans (hb.mono hB3.size); have KX' := C7.on ⟨p0, p1, p2, p3, p4, p5, p6⟩ hb; have KY' := C7.on ⟨q0, q1, q2, q3, q4, q5, q6⟩ hb; clear p0 p1 p2 p3 p4 p5 p6 q0 q1 q2 q3 q4 q5 q6; obtain ⟨p0, p1, p2, p3, p4, p5, p6⟩ := KX'; obtain ⟨q0, q1, q2, q3, q4, q5, q6⟩ := KY'; clear hb hb0 hB3 o3 o4 z1 z2 j1 j2)
          | (go_at_call 7; refine (CS e1 e2 e3 e4 _ _ _ _ w4.heap.size _ ?_ ?_ ?_ ?_ ?_).mono ?_; (refine RdK.on g1 ?_; (repeat (first | exact Below.refl _ _ | refine Below.drew ?_ | refine Below.alloc ?_ (by simp) _))); (refine RdK.on g2 ?_; (repeat (first | exact Below.refl _ _ | refine Below.drew ?_ | refine Below.alloc ?_ (by simp) _))); (refine RdK.on j3 ?_; (repeat (first | exact Below.refl _ _ | refine Below.drew ?_ | refine Below.alloc ?_ (by simp) _))); (refine RdK.on j4 ?_; (repeat (first | exact Below.refl _ _ | refine Below.drew ?_ | refine Below.alloc ?_ (by simp) _))); exact (show Below w4.heap.size w4 _ from (by (repeat (first | exact Below.refl _ _ | refine Below.drew ?_ | refine Below.alloc ?_ (by simp) _)))).size; rintro e w5 ⟨rfl, hb0⟩; have hb : Below w4.heap.size w4 w5 := below_stepL (by (repeat (first | exact Below.refl _ _ | refine Below.drew ?_ | refine Below.alloc ?_ (by simp) _))) hb0; have hB5 : Below w.heap.size w w5 := hB4.trans (hb.mono hB4.size); have KX' := C7.on ⟨p0, p1, p2, p3, p4, p5, p6⟩ hb; have KY' := C7.on ⟨q0, q1, q2, q3, q4, q5, q6⟩ hb; clear p0 p1 p2 p3 p4 p5 p6 q0 q1 q2 q3 q4 q5 q6; obtain ⟨p0, p1, p2, p3, p4, p5, p6⟩ := KX'; obtain ⟨q0, q1, q2, q3, q4, q5, q6⟩ := KY'; clear hb hb0 hB4 g1 g2 j3 j4 CS))
      go_wp2_with (first
        | (go_at_call_of 8 a1; refine (TX w5 hB5).mono ?_; rintro e w6 ⟨e5, e6, n3, rfl, o5, o6, z1, z2, hb⟩; have g5 := o5.rd; have g6 := o6.rd; have hB6 := hB5.trans (hb.mono hB5.size); have KX' := C7.on ⟨p0, p1, p2, p3, p4, p5, p6⟩ hb; have KY' := C7.on ⟨q0, q1, q2, q3, q4, q5, q6⟩ hb; clear p0 p1 p2 p3 p4 p5 p6 q0 q1 q2 q3 q4 q5 q6; obtain ⟨p0, p1, p2, p3, p4, p5, p6⟩ := KX'; obtain ⟨q0, q1, q2, q3, q4, q5, q6⟩ := KY'; have KU := C7.on ⟨q0, q1, q2, q3, q4, q5, q6⟩ ((Below.refl w6.heap.size w6).alloc (Nat.le_refl _) (.cells #[.bool x.p, .int .i64 x.l.f, .int .i64 x.l.v, .slice e5 x.l.kids.length x.l.kids.length, .int .i64 x.r.f, .int .i64 x.r.v, .slice e6 x.r.kids.length x.r.kids.length] 33)); obtain ⟨u0, u1, u2, u3, u4, u5, u6⟩ := KU; clear hb o5 o6 z1 z2 hB5)
        | (go_at_call_of 8 b1; refine (TY _ (hB6.alloc hB6.size _)).mono ?_; rintro e w7 ⟨e7, e8, n4, rfl, o7, o8, z1, z2, hb⟩; have g7 := o7.rd; have g8 := o8.rd; have KR : C7 w7 w6.heap.size (.bool x.p) (.int .i64 x.l.f) (.int .i64 x.l.v) (.slice e5 x.l.kids.length x.l.kids.length) (.int .i64 x.r.f) (.int .i64 x.r.v) (.slice e6 x.r.kids.length x.r.kids.length) := C7.on (W := _) ⟨by simp [go_sem], by simp [go_sem], by simp [go_sem], by simp [go_sem], by simp [go_sem], by simp [go_sem], by simp [go_sem]⟩ hb; have hb6 : Below w6.heap.size w6 w7 := ((Below.refl w6.heap.size w6).alloc (Nat.le_refl _) _).trans (hb.mono (by simp)); have g5' := (g5.on hb6).mono hb6.size; have g6' := (g6.on hb6).mono hb6.size; have hB7 := hB6.trans (hb6.mono hB6.size); have KX' := C7.on ⟨p0, p1, p2, p3, p4, p5, p6⟩ hb6; have KY' := C7.on ⟨q0, q1, q2, q3, q4, q5, q6⟩ hb6; clear p0 p1 p2 p3 p4 p5 p6 q0 q1 q2 q3 q4 q5 q6; obtain ⟨p0, p1, p2, p3, p4, p5, p6⟩ := KX'; obtain ⟨q0, q1, q2, q3, q4, q5, q6⟩ := KY'; clear u0 u1 u2 u3 u4 u5 u6; have KU := C7.on KR ((Below.refl w7.heap.size w7).alloc (Nat.le_refl _) (.cells #[.bool y.p, .int .i64 y.l.f, .int .i64 y.l.v, .slice e7 y.l.kids.length y.l.kids.length, .int .i64 y.r.f, .int .i64 y.r.v, .slice e8 y.r.kids.length y.r.kids.length] 33)); obtain ⟨u0, u1, u2, u3, u4, u5, u6⟩ := KU; clear hb hb6 o7 o8 z1 z2 hB6 g5 g6)
        | (go_at_call 9; refine (CJ e5 e6 e7 e8 w7.heap.size _ (g5'.on ((Below.refl w7.heap.size w7).alloc (Nat.le_refl _) _)) (g6'.on ((Below.refl w7.heap.size w7).alloc (Nat.le_refl _) _)) (g7.on ((Below.refl w7.heap.size w7).alloc (Nat.le_refl _) _)) (g8.on ((Below.refl w7.heap.size w7).alloc (Nat.le_refl _) _)) (by simp)).mono ?_; rintro e w8 ⟨rfl, hb⟩; have KS : C7 w8 w7.heap.size (.bool y.p) (.int .i64 y.l.f) (.int .i64 y.l.v) (.slice e7 y.l.kids.length y.l.kids.length) (.int .i64 y.r.f) (.int .i64 y.r.v) (.slice e8 y.r.kids.length y.r.kids.length) := C7.on (W := _) ⟨by simp [go_sem], by simp [go_sem], by simp [go_sem], by simp [go_sem], by simp [go_sem], by simp [go_sem], by simp [go_sem]⟩ hb; have hb7 : Below w7.heap.size w7 w8 := ((Below.refl w7.heap.size w7).alloc (Nat.le_refl _) _).trans (hb.mono (by simp)); have f5 := (g5'.on hb7).mono hb7.size; have f6 := (g6'.on hb7).mono hb7.size; have f7 := (g7.on hb7).mono hb7.size; have f8 := (g8.on hb7).mono hb7.size; have hB8 := hB7.trans (hb7.mono hB7.size); have KR8 := KR.on hb7; have KX' := C7.on ⟨p0, p1, p2, p3, p4, p5, p6⟩ hb7; have KY' := C7.on ⟨q0, q1, q2, q3, q4, q5, q6⟩ hb7; clear p0 p1 p2 p3 p4 p5 p6 q0 q1 q2 q3 q4 q5 q6; obtain ⟨p0, p1, p2, p3, p4, p5, p6⟩ := KX'; obtain ⟨q0, q1, q2, q3, q4, q5, q6⟩ := KY'; clear u0 u1 u2 u3 u4 u5 u6; obtain ⟨r0, r1, r2, r3, r4, r5, r6⟩ := KR8; obtain ⟨s0, s1, s2, s3, s4, s5, s6⟩ := KS; clear hb hb7 hB7 g5' g6' g7 g8 CJ KR))
      go_region_held3 (fun w' => (w'.cell? ⟨w.heap.size, 0, none⟩ = some (.bool x.p) ∧ w'.cell? ⟨w.heap.size, 1, none⟩ = some (.int .i64 x.l.f) ∧ w'.cell? ⟨w.heap.size, 2, none⟩ = some (.int .i64 x.l.v) ∧ w'.cell? ⟨w.heap.size, 3, none⟩ = some (.slice a1 x.l.kids.length c1) ∧ w'.cell? ⟨w.heap.size, 4, none⟩ = some (.int .i64 x.r.f) ∧ w'.cell? ⟨w.heap.size, 5, none⟩ = some (.int .i64 x.r.v) ∧ w'.cell? ⟨w.heap.size, 6, none⟩ = some (.slice a2 x.r.kids.length c2)) ∧ w'.cell? ⟨w6.heap.size, 0, none⟩ = some (.bool x.p) ∧ w'.cell? ⟨w6.heap.size, 1, none⟩ = some (.int .i64 x.l.f) ∧ w'.cell? ⟨w6.heap.size, 2, none⟩ = some (.int .i64 x.l.v) ∧ w'.cell? ⟨w6.heap.size, 3, none⟩ = some (.slice e5 x.l.kids.length x.l.kids.length) ∧ w'.cell? ⟨w6.heap.size, 4, none⟩ = some (.int .i64 x.r.f) ∧ w'.cell? ⟨w6.heap.size, 5, none⟩ = some (.int .i64 x.r.v) ∧ w'.cell? ⟨w6.heap.size, 6, none⟩ = some (.slice e6 x.r.kids.length x.r.kids.length)) (first | go_keep | exact ⟨⟨p0, p1, p2, p3, p4, p5, p6⟩, r0, r1, r2, r3, r4, r5, r6⟩)
        (first
          | (go_at_call_of 8 a1; refine (TX _ (hB8.trans (Below.mono (B := w8.heap.size) (by (repeat (first | exact Below.refl _ _ | refine Below.drew ?_ | refine Below.alloc ?_ (by simp) _))) hB8.size))).mono ?_; rintro e w9 ⟨h1, h2, n5, rfl, o9, o10, z1, z2, hb0⟩; have hb : Below w8.heap.size w8 w9 := below_stepL (by (repeat (first | exact Below.refl _ _ | refine Below.drew ?_ | refine Below.alloc ?_ (by simp) _))) hb0; have j9 := o9.rd; have j10 := o10.rd; have k5 := (f5.on hb).mono hb.size; have k6 := (f6.on hb).mono hb.size; have k7 := (f7.on hb).mono hb.size; have k8 := (f8.on hb).mono hb.size; have hB9 : Below w.heap.size w w9 := hB8.trans (hb.mono hB8.size); have KX' := C7.on ⟨p0, p1, p2, p3, p4, p5, p6⟩ hb; have KY' := C7.on ⟨q0, q1, q2, q3, q4, q5, q6⟩ hb; clear p0 p1 p2 p3 p4 p5 p6 q0 q1 q2 q3 q4 q5 q6; obtain ⟨p0, p1, p2, p3, p4, p5, p6⟩ := KX'; obtain ⟨q0, q1, q2, q3, q4, q5, q6⟩ := KY'; have KR' := C7.on ⟨r0, r1, r2, r3, r4, r5, r6⟩ hb; have KS' := C7.on ⟨s0, s1, s2, s3, s4, s5, s6⟩ hb; clear r0 r1 r2 r3 r4 r5 r6 s0 s1 s2 s3 s4 s5 s6; obtain ⟨r0, r1, r2, r3, r4, r5, r6⟩ := KR'; obtain ⟨s0, s1, s2, s3, s4, s5, s6⟩ := KS'; clear hb hb0 hB8 o9 o10 z1 z2 f5 f6 f7 f8)
          | (go_at_call 10; refine (EX e5 e6 h1 h2 _ _ _ _ w9.heap.size _ ?_ ?_ ?_ ?_ ?_).mono ?_; (refine RdK.on k5 ?_; (repeat (first | exact Below.refl _ _ | refine Below.drew ?_ | refine Below.alloc ?_ (by simp) _))); (refine RdK.on k6 ?_; (repeat (first | exact Below.refl _ _ | refine Below.drew ?_ | refine Below.alloc ?_ (by simp) _))); (refine RdK.on j9 ?_; (repeat (first | exact Below.refl _ _ | refine Below.drew ?_ | refine Below.alloc ?_ (by simp) _))); (refine RdK.on j10 ?_; (repeat (first | exact Below.refl _ _ | refine Below.drew ?_ | refine Below.alloc ?_ (by simp) _))); exact (show Below w9.heap.size w9 _ from (by (repeat (first | exact Below.refl _ _ | refine Below.drew ?_ | refine Below.alloc ?_ (by simp) _)))).size; rintro e w10 ⟨rfl, hb0⟩; have hb : Below w9.heap.size w9 w10 := below_stepL (by (repeat (first | exact Below.refl _ _ | refine Below.drew ?_ | refine Below.alloc ?_ (by simp) _))) hb0; have l7 := (k7.on hb).mono hb.size; have l8 := (k8.on hb).mono hb.size; have hB10 : Below w.heap.size w w10 := hB9.trans (hb.mono hB9.size); have KX' := C7.on ⟨p0, p1, p2, p3, p4, p5, p6⟩ hb; have KY' := C7.on ⟨q0, q1, q2, q3, q4, q5, q6⟩ hb; clear p0 p1 p2 p3 p4 p5 p6 q0 q1 q2 q3 q4 q5 q6; obtain ⟨p0, p1, p2, p3, p4, p5, p6⟩ := KX'; obtain ⟨q0, q1, q2, q3, q4, q5, q6⟩ := KY'; have KR' := C7.on ⟨r0, r1, r2, r3, r4, r5, r6⟩ hb; have KS' := C7.on ⟨s0, s1, s2, s3, s4, s5, s6⟩ hb; clear r0 r1 r2 r3 r4 r5 r6 s0 s1 s2 s3 s4 s5 s6; obtain ⟨r0, r1, r2, r3, r4, r5, r6⟩ := KR'; obtain ⟨s0, s1, s2, s3, s4, s5, s6⟩ := KS'; clear hb hb0 hB9 k5 k6 k7 k8 j9 j10))
      go_wp2_with fail
      go_region_held3 (fun w' => (w'.cell? ⟨(w.heap.size + 1), 0, none⟩ = some (.bool y.p) ∧ w'.cell? ⟨(w.heap.size + 1), 1, none⟩ = some (.int .i64 y.l.f) ∧ w'.cell? ⟨(w.heap.size + 1), 2, none⟩ = some (.int .i64 y.l.v) ∧ w'.cell? ⟨(w.heap.size + 1), 3, none⟩ = some (.slice b1 y.l.kids.length d1) ∧ w'.cell? ⟨(w.heap.size + 1), 4, none⟩ = some (.int .i64 y.r.f) ∧ w'.cell? ⟨(w.heap.size + 1), 5, none⟩ = some (.int .i64 y.r.v) ∧ w'.cell? ⟨(w.heap.size + 1), 6, none⟩ = some (.slice b2 y.r.kids.length d2)) ∧ w'.cell? ⟨w7.heap.size, 0, none⟩ = some (.bool y.p) ∧ w'.cell? ⟨w7.heap.size, 1, none⟩ = some (.int .i64 y.l.f) ∧ w'.cell? ⟨w7.heap.size, 2, none⟩ = some (.int .i64 y.l.v) ∧ w'.cell? ⟨w7.heap.size, 3, none⟩ = some (.slice e7 y.l.kids.length y.l.kids.length) ∧ w'.cell? ⟨w7.heap.size, 4, none⟩ = some (.int .i64 y.r.f) ∧ w'.cell? ⟨w7.heap.size, 5, none⟩ = some (.int .i64 y.r.v) ∧ w'.cell? ⟨w7.heap.size, 6, none⟩ = some (.slice e8 y.r.kids.length y.r.kids.length)) (first | go_keep | exact ⟨⟨q0, q1, q2, q3, q4, q5, q6⟩, s0, s1, s2, s3, s4, s5, s6⟩)
        (first
          | (go_at_call_of 8 b1; refine (TY _ (hB10.trans (Below.mono (B := w10.heap.size) (by (repeat (first | exact Below.refl _ _ | refine Below.drew ?_ | refine Below.alloc ?_ (by simp) _))) hB10.size))).mono ?_; rintro e w11 ⟨h3, h4, n6, rfl, o11, o12, z1, z2, hb0⟩; have hb : Below w10.heap.size w10 w11 := below_stepL (by (repeat (first | exact Below.refl _ _ | refine Below.drew ?_ | refine Below.alloc ?_ (by simp) _))) hb0; have j11 := o11.rd; have j12 := o12.rd; have m7 := (l7.on hb).mono hb.size; have m8 := (l8.on hb).mono hb.size; have hB11 : Below w.heap.size w w11 := hB10.trans (hb.mono hB10.size); have KX' := C7.on ⟨p0, p1, p2, p3, p4, p5, p6⟩ hb; have KY' := C7.on ⟨q0, q1, q2, q3, q4, q5, q6⟩ hb; clear p0 p1 p2 p3 p4 p5 p6 q0 q1 q2 q3 q4 q5 q6; obtain ⟨p0, p1, p2, p3, p4, p5, p6⟩ := KX'; obtain ⟨q0, q1, q2, q3, q4, q5, q6⟩ := KY'; have KR' := C7.on ⟨r0, r1, r2, r3, r4, r5, r6⟩ hb; have KS' := C7.on ⟨s0, s1, s2, s3, s4, s5, s6⟩ hb; clear r0 r1 r2 r3 r4 r5 r6 s0 s1 s2 s3 s4 s5 s6; obtain ⟨r0, r1, r2, r3, r4, r5, r6⟩ := KR'; obtain ⟨s0, s1, s2, s3, s4, s5, s6⟩ := KS'; clear hb hb0 hB10 o11 o12 z1 z2 l7 l8)
          | (go_at_call 10; refine (EY e7 e8 h3 h4 _ _ _ _ w11.heap.size _ ?_ ?_ ?_ ?_ ?_).mono ?_; (refine RdK.on m7 ?_; (repeat (first | exact Below.refl _ _ | refine Below.drew ?_ | refine Below.alloc ?_ (by simp) _))); (refine RdK.on m8 ?_; (repeat (first | exact Below.refl _ _ | refine Below.drew ?_ | refine Below.alloc ?_ (by simp) _))); (refine RdK.on j11 ?_; (repeat (first | exact Below.refl _ _ | refine Below.drew ?_ | refine Below.alloc ?_ (by simp) _))); (refine RdK.on j12 ?_; (repeat (first | exact Below.refl _ _ | refine Below.drew ?_ | refine Below.alloc ?_ (by simp) _))); exact (show Below w11.heap.size w11 _ from (by (repeat (first | exact Below.refl _ _ | refine Below.drew ?_ | refine Below.alloc ?_ (by simp) _)))).size; rintro e w12 ⟨rfl, hb0⟩; have hb : Below w11.heap.size w11 w12 := below_stepL (by (repeat (first | exact Below.refl _ _ | refine Below.drew ?_ | refine Below.alloc ?_ (by simp) _))) hb0; have hB12 : Below w.heap.size w w12 := hB11.trans (hb.mono hB11.size); have KX' := C7.on ⟨p0, p1, p2, p3, p4, p5, p6⟩ hb; have KY' := C7.on ⟨q0, q1, q2, q3, q4, q5, q6⟩ hb; clear p0 p1 p2 p3 p4 p5 p6 q0 q1 q2 q3 q4 q5 q6; obtain ⟨p0, p1, p2, p3, p4, p5, p6⟩ := KX'; obtain ⟨q0, q1, q2, q3, q4, q5, q6⟩ := KY'; have KR' := C7.on ⟨r0, r1, r2, r3, r4, r5, r6⟩ hb; have KS' := C7.on ⟨s0, s1, s2, s3, s4, s5, s6⟩ hb; clear r0 r1 r2 r3 r4 r5 r6 s0 s1 s2 s3 s4 s5 s6; obtain ⟨r0, r1, r2, r3, r4, r5, r6⟩ := KR'; obtain ⟨s0, s1, s2, s3, s4, s5, s6⟩ := KS'; clear hb hb0 hB11 m7 m8 j11 j12))
      go_wp2_with fail
      go_ret
      exact ⟨rfl, hB12⟩
/-- The same with the program's own contract. -/
theorem walk (w : World) (x : LitD) (a1 : Option Addr) (c1 : Nat) (a2 : Option Addr) (c2 : Nat) (hxl : isW x.l.f ∧ isW x.l.v) (hxr : isW x.r.f ∧ isW x.r.v) (hx1 : RdK w w.heap.size a1 x.l.kids) (hx2 : RdK w w.heap.size a2 x.r.kids)
    (y : LitD) (b1 : Option Addr) (d1 : Nat) (b2 : Option Addr) (d2 : Nat) (hyl : isW y.l.f ∧ isW y.l.v) (hyr : isW y.r.f ∧ isW y.r.v) (hy1 : RdK w w.heap.size b1 y.l.kids) (hy2 : RdK w w.heap.size b2 y.r.kids) :
    Calls Try.prog 3 #[litV x a1 c1 a2 c2, litV y b1 d1 b2 d2] w fun e w' => e = .returned (.bool true) ∧ Below w.heap.size w w' :=
  walk_of (fun x y a1 a2 b1 b2 c1 c2 d1 d2 hi w h1 h2 _ _ k1 k2 k3 k4 hh _ _ _ _ => impLitSame_any x y a1 a2 b1 b2 c1 c2 d1 d2 hi w h1 h2 k1 k2 k3 k4 hh) w x a1 c1 a2 c2 hxl hxr hx1 hx2 y b1 d1 b2 d2 hyl hyr hy1 hy2

set_option maxRecDepth 100000 in
theorem lifted (os : Os) (started : os.Started) (H : Type) (enc : TypeId × Value → H) :
    ReturnsInHanded {} Try.checked os 3 .any (Rows.fnExactLitSameSpec.pre6 enc Try.prog Try.f3 Rows.fnExactLitSameRow.domain false) (Rows.fnExactLitSameSpec.post enc Try.prog Try.f3 false true false false) := by
  refine returnsInHanded_of_change (C := Try.checked) own started (by kernel_rfl) Try.func3
    (ChangeSpec.witness6 (enc := enc) (C := Try.checked) false ⟨#[], #[.agg #[.bool false, .int .i64 0, .int .i64 0, .slice none 0 0, .int .i64 0, .int .i64 0, .slice none 0 0], .agg #[.bool false, .int .i64 0, .int .i64 0, .slice none 0 0, .int .i64 0, .int .i64 0, .slice none 0 0]], []⟩ 8 (by kernel_rfl) (by kernel_rfl) (by kernel_rfl) (by kernel_rfl)) ?_
  intro W base args ds gs before hval0 hW hcnd _
  have hval : ∀ (j : Nat) t v, Try.f3.params[j]? = some t → args[j]? = some v → Value.okWide Try.prog W .any base t v := hval0
  have hW' := hW
  obtain ⟨p, q, hA0, hV, rfl, hfz, hnd⟩ := hW
  have hA : DataW.TrodAll enc Try.prog W 0 (fun _ => true) true Try.f3.params.toList args.toList ds p := hA0
  rw [Try.params3] at hA hval
  obtain ⟨v0, vs0, d0, ds0, p0, q0, hargs, rfl, rfl, h0, r0⟩ := trodAll_cons hA
  obtain ⟨v1, vs1, d1, ds1, p1, q1, rfl, rfl, rfl, h1, r1⟩ := trodAll_cons r0
  obtain ⟨rfl, rfl, rfl⟩ := trodAll_nil r1
  obtain rfl : args = #[v0, v1] := by cases args; simp_all
  obtain ⟨rfl, rfl⟩ := trodVars_none hV
  obtain ⟨cs0, rfl, _⟩ := okWide_struct Try.underlying26 (hval 0 26 v0 rfl rfl)
  have k0 := h0
  have lt0 : ∀ x ∈ p0, x.block < W.heap.size := by obtain ⟨m, hm⟩ := k0; exact DataW.trod_lt m _ _ _ hm
  obtain ⟨x0, a0, c0, b0, g0, e0, hf0, hv0, hle0, hr0, hq0⟩ := open_lit rfl h0
  obtain rfl : cs0 = #[.bool x0.p, .int .i64 x0.l.f, .int .i64 x0.l.v, .slice a0 x0.l.kids.length c0, .int .i64 x0.r.f, .int .i64 x0.r.v, .slice b0 x0.r.kids.length g0] := by simpa [litV] using e0
  obtain ⟨cs1, rfl, _⟩ := okWide_struct Try.underlying26 (hval 1 26 v1 rfl rfl)
  have k1 := h1
  have lt1 : ∀ x ∈ p1, x.block < W.heap.size := by obtain ⟨m, hm⟩ := k1; exact DataW.trod_lt m _ _ _ hm
  obtain ⟨x1, a1, c1, b1, g1, e1, hf1, hv1, hle1, hr1, hq1⟩ := open_lit rfl h1
  obtain rfl : cs1 = #[.bool x1.p, .int .i64 x1.l.f, .int .i64 x1.l.v, .slice a1 x1.l.kids.length c1, .int .i64 x1.r.f, .int .i64 x1.r.v, .slice b1 x1.r.kids.length g1] := by simpa [litV] using e1
  clear hA0 hval0
  refine (walk W x0 a0 c0 b0 g0 hf0 hv0 hr0 hq0 x1 a1 c1 b1 g1 hf1 hv1 hr1 hq1).mono fun e W' ⟨he, bel⟩ => ?_
  subst he
  exact ⟨_, rfl, _, _, _, [], _, [], hW', trodAll_mk1 (shut_bool Try.underlying4 _), (trodAll_cons_mk (Below.trod laidOut (by kernel_rfl) (of_decide_eq_true (by kernel_rfl)) k0 bel lt0) (trodAll_cons_mk (Below.trod laidOut (by kernel_rfl) (of_decide_eq_true (by kernel_rfl)) k1 bel lt1) trodAll_mk0)), by first | rfl | simp, bel.frame _, fun h => by cases h⟩

theorem over : Rows.fnExactLitSameRow.holds Try.pinned (OpenSpec.ofChange Rows.fnExactLitSameSpec) :=
  OpenClaim.holds_of_wide 3 Try.f3 rfl rfl rfl rfl rfl rfl rfl ⟨rfl, rfl, rfl, rfl, rfl⟩ rfl rfl rfl rfl rfl (by kernel_rfl) Try.func3 (by kernel_rfl)
    (of_decide_eq_true (by kernel_rfl)) (by unfold Func.isWrapper; first | (rw [if_pos (by decide +kernel)]; kernel_rfl) | (rw [if_neg (by decide +kernel)]; exact ⟨rfl, rfl⟩))
    (fun os started H enc _ => lifted os started H enc)

theorem proved : Rows.FnExactLitSameSaid := over
end Go.Proofs.Ytollijngiioonab.fnExactLitSame
namespace Go.Proofs.Ytollijngiioonab
theorem fnExactLitSame_holds : Rows.FnExactLitSameSaid := fnExactLitSame.proved
#print axioms fnExactLitSame_holds
end Go.Proofs.Ytollijngiioonab
