/- The law FnGreater answers true at every code, and leaves it as it was: no drawn term is greater than itself; of two one at most is greater; which way round is told by that. Conditions: none beyond the given row's own. -/
import Derived.Test.YtkjlldbgooogdaaGreatRows
import Derived.Test.YtkjlldbgooogdaaGreatPackGreater12
import Derived.WalkKit
import Derived.ProofKit
import Derived.OpenShut
import Derived.ShutString
import Derived.ChangeOld
import Derived.Below
namespace Go.Proofs.YtkjlldbgooogdaaGreat.fnGreater
open Go.ChangeShapes Go.WideShapes Go.ChangeAt Go.RowKit
open Go.ChangeMaps (open_string shut_string)
set_option linter.unusedVariables false

theorem own : ownKnob Tryz.prog.godebug = none := by kernel_rfl
theorem laidOut : laidOutB Tryz.prog = true := by kernel_rfl

/-- While the law goes on: the drawn terms in their boxes. -/
structure GS (w : World) (g : Nat) (t : TermD) (ta : Option Addr) (tc : Nat) (u : TermD) (ua : Option Addr) (uc Ba Bb : Nat) (W : World) : Prop where
  two : Two w g t ta tc u ua uc W
  a : C3 W Ba (.int .i64 t.f) (.int .i64 t.v) (.slice ta t.kids.length tc)
  b : C3 W Bb (.int .i64 u.f) (.int .i64 u.v) (.slice ua u.kids.length uc)
theorem GS.on {w : World} {g : Nat} {t : TermD} {ta : Option Addr} {tc : Nat} {u : TermD} {ua : Option Addr} {uc Ba Bb : Nat} {W W' : World} (h : GS w g t ta tc u ua uc Ba Bb W) (hb : Below W.heap.size W W') : GS w g t ta tc u ua uc Ba Bb W' := ⟨h.two.on hb, h.a.on hb, h.b.on hb⟩
theorem GS.new {w : World} {g : Nat} {t : TermD} {ta : Option Addr} {tc : Nat} {u : TermD} {ua : Option Addr} {uc : Nat} {W : World} (h : Two w g t ta tc u ua uc W) : GS w g t ta tc u ua uc W.heap.size (W.heap.size + 1) ((W.alloc (.cells #[.int .i64 t.f, .int .i64 t.v, .slice ta t.kids.length tc] 27)).alloc (.cells #[.int .i64 u.f, .int .i64 u.v, .slice ua u.kids.length uc] 27)) :=
  ⟨h.on (((Below.refl _ _).alloc (Nat.le_refl _) _).alloc (by simp) _), ⟨by simp [go_sem], by simp [go_sem], by simp [go_sem]⟩, ⟨by simp [go_sem], by simp [go_sem], by simp [go_sem]⟩⟩
/-- And what the program told of them. -/
structure GL (w : World) (g : Nat) (t : TermD) (ta : Option Addr) (tc : Nat) (u : TermD) (ua : Option Addr) (uc Ba Bb : Nat) (X Y : TermD) (a1 : Option Addr) (c1 : Nat) (a2 : Option Addr) (c2 Bl Br : Nat) (W : World) : Prop where
  gs : GS w g t ta tc u ua uc Ba Bb W
  l : C3 W Bl (.int .i64 X.f) (.int .i64 X.v) (.slice a1 X.kids.length c1)
  r : C3 W Br (.int .i64 Y.f) (.int .i64 Y.v) (.slice a2 Y.kids.length c2)
  rl : RdK W W.heap.size a1 X.kids
  rr : RdK W W.heap.size a2 Y.kids
theorem GL.on {w : World} {g : Nat} {t : TermD} {ta : Option Addr} {tc : Nat} {u : TermD} {ua : Option Addr} {uc Ba Bb : Nat} {X Y : TermD} {a1 : Option Addr} {c1 : Nat} {a2 : Option Addr} {c2 Bl Br : Nat} {W W' : World} (h : GL w g t ta tc u ua uc Ba Bb X Y a1 c1 a2 c2 Bl Br W) (hb : Below W.heap.size W W') : GL w g t ta tc u ua uc Ba Bb X Y a1 c1 a2 c2 Bl Br W' := ⟨h.gs.on hb, h.l.on hb, h.r.on hb, (h.rl.on hb).mono hb.size, (h.rr.on hb).mono hb.size⟩
/-- And the specification. -/
structure GQ (w : World) (g : Nat) (t : TermD) (ta : Option Addr) (tc : Nat) (u : TermD) (ua : Option Addr) (uc Ba Bb : Nat) (X Y : TermD) (a1 : Option Addr) (c1 : Nat) (a2 : Option Addr) (c2 Bl Br : Nat) (a3 : Option Addr) (c3 : Nat) (a4 : Option Addr) (c4 Bx By : Nat) (W : World) : Prop where
  gl : GL w g t ta tc u ua uc Ba Bb X Y a1 c1 a2 c2 Bl Br W
  x : C3 W Bx (.int .i64 X.f) (.int .i64 X.v) (.slice a3 X.kids.length c3)
  y : C3 W By (.int .i64 Y.f) (.int .i64 Y.v) (.slice a4 Y.kids.length c4)
  rx : RdK W W.heap.size a3 X.kids
  ry : RdK W W.heap.size a4 Y.kids
theorem GQ.on {w : World} {g : Nat} {t : TermD} {ta : Option Addr} {tc : Nat} {u : TermD} {ua : Option Addr} {uc Ba Bb : Nat} {X Y : TermD} {a1 : Option Addr} {c1 : Nat} {a2 : Option Addr} {c2 Bl Br : Nat} {a3 : Option Addr} {c3 : Nat} {a4 : Option Addr} {c4 Bx By : Nat} {W W' : World} (h : GQ w g t ta tc u ua uc Ba Bb X Y a1 c1 a2 c2 Bl Br a3 c3 a4 c4 Bx By W) (hb : Below W.heap.size W W') : GQ w g t ta tc u ua uc Ba Bb X Y a1 c1 a2 c2 Bl Br a3 c3 a4 c4 Bx By W' := ⟨h.gl.on hb, h.x.on hb, h.y.on hb, (h.rx.on hb).mono hb.size, (h.ry.on hb).mono hb.size⟩
theorem ori_rd {w0 W : World} {X Y : TermD} {a1 a2 : Option Addr} {c1 c2 m : Nat} (h : Ori w0 X a1 c1 Y a2 c2 m W) : RdK W W.heap.size a1 X.kids ∧ RdK W W.heap.size a2 Y.kids := ⟨h.o1.rd, h.o2.rd⟩
theorem two_new {W : World} {X Y : TermD} {a1 a2 : Option Addr} {c1 c2 : Nat} : C3 ((W.alloc (.cells #[.int .i64 X.f, .int .i64 X.v, .slice a1 X.kids.length c1] 27)).alloc (.cells #[.int .i64 Y.f, .int .i64 Y.v, .slice a2 Y.kids.length c2] 27)) W.heap.size (.int .i64 X.f) (.int .i64 X.v) (.slice a1 X.kids.length c1) ∧ C3 ((W.alloc (.cells #[.int .i64 X.f, .int .i64 X.v, .slice a1 X.kids.length c1] 27)).alloc (.cells #[.int .i64 Y.f, .int .i64 Y.v, .slice a2 Y.kids.length c2] 27)) (W.heap.size + 1) (.int .i64 Y.f) (.int .i64 Y.v) (.slice a2 Y.kids.length c2) ∧ Below W.heap.size W ((W.alloc (.cells #[.int .i64 X.f, .int .i64 X.v, .slice a1 X.kids.length c1] 27)).alloc (.cells #[.int .i64 Y.f, .int .i64 Y.v, .slice a2 Y.kids.length c2] 27)) :=
  ⟨⟨by simp [go_sem], by simp [go_sem], by simp [go_sem]⟩, ⟨by simp [go_sem], by simp [go_sem], by simp [go_sem]⟩, ((Below.refl _ _).alloc (Nat.le_refl _) _).alloc (by simp) _⟩
theorem sig_small : (∀ s ∈ sig7, s.name.size ≤ maxLen) ∧ (∀ s ∈ sig7, s.name.size ≤ 1048576) := by
  constructor <;> (intro s hs; simp [sig7] at hs; rcases hs with rfl | rfl | rfl | rfl | rfl | rfl | rfl <;> decide)
theorem ori_facts (ss : List SymD) (t u : TermD) : ∃ X Y, oriT ss t u = (X, Y, (gtrT ss t u || gtrT ss u t)) ∧ ((X = t ∧ Y = u) ∨ (X = u ∧ Y = t)) ∧ ((gtrT ss t u || gtrT ss u t) = true → gtrT ss X Y = true) := by
  unfold oriT
  cases h1 : gtrT ss t u with
  | true => exact ⟨t, u, rfl, .inl ⟨rfl, rfl⟩, fun _ => h1⟩
  | false =>
    cases h2 : gtrT ss u t with
    | true => exact ⟨u, t, rfl, .inr ⟨rfl, rfl⟩, fun _ => h2⟩
    | false => exact ⟨t, u, rfl, .inl ⟨rfl, rfl⟩, fun h => by cases h⟩

set_option maxHeartbeats 3200000 in
set_option maxRecDepth 100000 in
theorem small (a : Option Addr) (bs : List Int) (cap : Nat) (w : World) (hl : bs.length ≤ 1048576) (hr : ∀ c, w.heap.size ≤ c → RdB w c a bs) :
    Calls Tryz.prog 3 #[.slice a bs.length cap] w fun e w' => e = .returned (.bool true) ∧ Below w.heap.size w w' := by
  have hbig' : ¬ (1048576 : Int) < (bs.length : Int) := by omega
  have CD := drawGreater_any a bs cap w hl hr
  clear hr
  go_enter Tryz.func3, Tryz.ntmps3
  go_upto_region 4 with (first
    | (go_at_call 5; go_in)
    | (go_at_call 6; refine CD.mono ?_; rintro e w1 ⟨g, t, ta, tc, u, ua, uc, rfl, T1⟩; clear CD))
  have G1 := GS.new T1
  obtain ⟨W, hW⟩ : ∃ W, W = (w1.alloc (.cells #[.int .i64 t.f, .int .i64 t.v, .slice ta t.kids.length tc] 27)).alloc (.cells #[.int .i64 u.f, .int .i64 u.v, .slice ua u.kids.length uc] 27) := ⟨_, rfl⟩
  rw [← hW] at G1 ⊢
  have p1 := T1.p1
  have p2 := T1.p2
  have l1 := T1.l1
  have l2 := T1.l2
  have f1 := T1.w1
  have f2 := T1.w2
  clear hW T1
  generalize w1.heap.size + 1 = Bb at G1 ⊢
  generalize w1.heap.size = Ba at G1 ⊢
  obtain ⟨X, Y, hO, hXY, hgXY⟩ := ori_facts sig7 t u
  have HAS : Hid (gtrT sig7 t u = true → gtrT sig7 u t = false) := gtr_asym
  have hTT : gtrT sig7 t t = false := by
    cases h : gtrT sig7 t t with
    | false => rfl
    | true => have := gtr_asym h; rw [h] at this; cases this
  have pX : partsT X ≤ 15 := by rcases hXY with ⟨e, _⟩ | ⟨e, _⟩ <;> (rw [e]; assumption)
  have pY : partsT Y ≤ 15 := by rcases hXY with ⟨_, e⟩ | ⟨_, e⟩ <;> (rw [e]; assumption)
  have CG1 := fun (W' : World) (h : GS w g t ta tc u ua uc Ba Bb W') => impGreater_any (some ⟨g, 0, none⟩) sig7 7 sig_small.1 t u ta ua tc uc W'.heap.size W' h.two.s (by omega) (by omega) h.two.o1.rd h.two.o2.rd (Nat.le_refl _) l1 l2
  have CG2 := fun (W' : World) (h : GS w g t ta tc u ua uc Ba Bb W') => impGreater_any (some ⟨g, 0, none⟩) sig7 7 sig_small.1 u t ua ta uc tc W'.heap.size W' h.two.s (by omega) (by omega) h.two.o2.rd h.two.o1.rd (Nat.le_refl _) l2 l1
  have CGT := fun (W' : World) (h : GS w g t ta tc u ua uc Ba Bb W') => impGreater_any (some ⟨g, 0, none⟩) sig7 7 sig_small.1 t t ta ta tc tc W'.heap.size W' h.two.s (by omega) (by omega) h.two.o1.rd h.two.o1.rd (Nat.le_refl _) l1 l1
  have CS1 := fun (W' : World) (h : GS w g t ta tc u ua uc Ba Bb W') => specGreater_any (some ⟨g, 0, none⟩) sig7 7 (by decide) sig_small.2 t u ta ua tc uc W'.heap.size W' f1.1 f2.1 h.two.s (by omega) (by omega) h.two.o1.rd h.two.o2.rd (Nat.le_refl _)
  have CO := fun (W' : World) (h : GS w g t ta tc u ua uc Ba Bb W') => impOriented_any (some ⟨g, 0, none⟩) sig7 7 sig_small.1 t u ta ua tc uc W'.heap.size W' h.two.s (by omega) (by omega) h.two.o1.rd h.two.o2.rd (Nat.le_refl _) l1 l2 f1 f2
  have COS := fun (W' : World) (h : GS w g t ta tc u ua uc Ba Bb W') => specOriented_any (some ⟨g, 0, none⟩) sig7 7 (by decide) sig_small.2 t u ta ua tc uc W'.heap.size W' h.two.s (by omega) (by omega) h.two.o1.rd h.two.o2.rd (Nat.le_refl _) f1 f2
  have SM := fun (Z : TermD) (b1 b2 : Option Addr) (d1 d2 : Nat) (W' : World) (hp : partsT Z ≤ 15) (h1 : RdK W' W'.heap.size b1 Z.kids) (h2 : RdK W' W'.heap.size b2 Z.kids) (h3 : Z.kids.length ≤ d1) (h4 : Z.kids.length ≤ d2) => impSame_any 4194304 Z Z b1 b2 d1 d2 W'.heap.size W' (by omega) (Nat.le_refl _) h1 h2 (Nat.le_refl _) h3 h4
  have HSS : ∀ Z : TermD, sameT Z Z = true := fun Z => (ordT_same Z Z).1 (ordT_zero.2 rfl)
  have CXY := fun (b1 b2 : Option Addr) (d1 d2 : Nat) (W' : World) (hs : RdS W' (some ⟨g, 0, none⟩) sig7) (h1 : RdK W' W'.heap.size b1 X.kids) (h2 : RdK W' W'.heap.size b2 Y.kids) (h3 : X.kids.length ≤ d1) (h4 : Y.kids.length ≤ d2) => impGreater_any (some ⟨g, 0, none⟩) sig7 7 sig_small.1 X Y b1 b2 d1 d2 W'.heap.size W' hs (by omega) (by omega) h1 h2 (Nat.le_refl _) h3 h4
  rw [hTT] at CGT
  simp only [HSS] at SM
  rw [hO] at CO COS
  dsimp only at CO COS
  have hl7 : sig7.length = 7 := rfl
  rw [hl7] at CG1 CG2 CGT CS1 CO COS CXY
  have HG : Hid _ := hgXY
  clear hl7 hTT HSS hO hXY hgXY
  generalize gtrT sig7 t u = g1 at CG1 CS1 CO COS HAS HG
  generalize gtrT sig7 u t = g2 at CG2 CO COS HAS HG
  generalize gtrT sig7 X Y = g3 at CXY HG
  have H0 : Hid _ := G1
  clear G1
  have a0 := H0.out.a.1
  have a1 := H0.out.a.2.1
  have a2 := H0.out.a.2.2
  have b0 := H0.out.b.1
  have b1 := H0.out.b.2.1
  have b2 := H0.out.b.2.2
  go_upto_region 6 with (first
    | (go_at_call 7; refine (CG1 _ H0.out).mono ?_; rintro e w2 ⟨rfl, hb⟩; have H1 : Hid _ := H0.out.on hb; clear H0 CG1 hb a0 a1 a2 b0 b1 b2; have a0 := H1.out.a.1; have a1 := H1.out.a.2.1; have a2 := H1.out.a.2.2; have b0 := H1.out.b.1; have b1 := H1.out.b.2.1; have b2 := H1.out.b.2.2)
    | (go_at_call 8; refine (CO _ H1.out).mono ?_; rintro e w3 ⟨a1', c1, a2', c2, m, rfl, O3⟩; have H2 : Hid _ := H1.out.on O3.bel; clear CO H1 a0 a1 a2 b0 b1 b2))
  obtain ⟨e1, e2, e3⟩ := two_new (W := w3) (X := X) (Y := Y) (a1 := a1') (a2 := a2') (c1 := c1) (c2 := c2)
  obtain ⟨V, hV⟩ : ∃ V, V = (w3.alloc (.cells #[.int .i64 X.f, .int .i64 X.v, .slice a1' X.kids.length c1] 27)).alloc (.cells #[.int .i64 Y.f, .int .i64 Y.v, .slice a2' Y.kids.length c2] 27) := ⟨_, rfl⟩
  rw [← hV] at e1 e2 e3 ⊢
  have L2 : GL w g t ta tc u ua uc Ba Bb X Y a1' c1 a2' c2 w3.heap.size (w3.heap.size + 1) V := ⟨H2.out.on e3, e1, e2, ((ori_rd O3).1.on e3).mono e3.size, ((ori_rd O3).2.on e3).mono e3.size⟩
  have m1 := O3.l1
  have m2 := O3.l2
  clear hV e1 e2 e3 O3 H2
  generalize w3.heap.size + 1 = Br at L2 ⊢
  generalize w3.heap.size = Bl at L2 ⊢
  have HL : Hid _ := L2
  clear L2
  have a0 := HL.out.gs.a.1
  have a1 := HL.out.gs.a.2.1
  have a2 := HL.out.gs.a.2.2
  have b0 := HL.out.gs.b.1
  have b1 := HL.out.gs.b.2.1
  have b2 := HL.out.gs.b.2.2
  go_upto_region 7 with (go_at_call 9; refine (COS _ HL.out.gs).mono ?_; rintro e w4 ⟨a3, c3, a4, c4, m', rfl, O4⟩; have HL4 : Hid _ := HL.out.on O4.bel; clear COS HL a0 a1 a2 b0 b1 b2)
  obtain ⟨e1, e2, e3⟩ := two_new (W := w4) (X := X) (Y := Y) (a1 := a3) (a2 := a4) (c1 := c3) (c2 := c4)
  obtain ⟨V2, hV⟩ : ∃ V2, V2 = (w4.alloc (.cells #[.int .i64 X.f, .int .i64 X.v, .slice a3 X.kids.length c3] 27)).alloc (.cells #[.int .i64 Y.f, .int .i64 Y.v, .slice a4 Y.kids.length c4] 27) := ⟨_, rfl⟩
  rw [← hV] at e1 e2 e3 ⊢
  have Q3 : GQ w g t ta tc u ua uc Ba Bb X Y a1' c1 a2' c2 Bl Br a3 c3 a4 c4 w4.heap.size (w4.heap.size + 1) V2 := ⟨HL4.out.on e3, e1, e2, ((ori_rd O4).1.on e3).mono e3.size, ((ori_rd O4).2.on e3).mono e3.size⟩
  have m3 := O4.l1
  have m4 := O4.l2
  clear hV e1 e2 e3 O4 HL4
  generalize w4.heap.size + 1 = By at Q3 ⊢
  generalize w4.heap.size = Bx at Q3 ⊢
  have HK3 : Hid _ := Q3
  clear Q3
  have a0 := HK3.out.gl.gs.a.1
  have a1 := HK3.out.gl.gs.a.2.1
  have a2 := HK3.out.gl.gs.a.2.2
  have b0 := HK3.out.gl.gs.b.1
  have b1 := HK3.out.gl.gs.b.2.1
  have b2 := HK3.out.gl.gs.b.2.2
  have l0 := HK3.out.gl.l.1
  have l1 := HK3.out.gl.l.2.1
  have l2 := HK3.out.gl.l.2.2
  have r0 := HK3.out.gl.r.1
  have r1 := HK3.out.gl.r.2.1
  have r2 := HK3.out.gl.r.2.2
  have x0 := HK3.out.x.1
  have x1 := HK3.out.x.2.1
  have x2 := HK3.out.x.2.2
  have y0 := HK3.out.y.1
  have y1 := HK3.out.y.2.1
  have y2 := HK3.out.y.2.2
  cases g1
  · cases g2
    · clear HG HAS
      go_wp2_with (first
        | (go_at_call 10; refine (CS1 _ HK3.out.gl.gs).mono ?_; rintro e w5 ⟨rfl, hb⟩; have HK4 : Hid _ := HK3.out.on hb; clear HK3 hb; clear a0 a1 a2 b0 b1 b2 l0 l1 l2 r0 r1 r2 x0 x1 x2 y0 y1 y2; have a0 := HK4.out.gl.gs.a.1; have a1 := HK4.out.gl.gs.a.2.1; have a2 := HK4.out.gl.gs.a.2.2; have b0 := HK4.out.gl.gs.b.1; have b1 := HK4.out.gl.gs.b.2.1; have b2 := HK4.out.gl.gs.b.2.2; have l0 := HK4.out.gl.l.1; have l1 := HK4.out.gl.l.2.1; have l2 := HK4.out.gl.l.2.2; have r0 := HK4.out.gl.r.1; have r1 := HK4.out.gl.r.2.1; have r2 := HK4.out.gl.r.2.2; have x0 := HK4.out.x.1; have x1 := HK4.out.x.2.1; have x2 := HK4.out.x.2.2; have y0 := HK4.out.y.1; have y1 := HK4.out.y.2.1; have y2 := HK4.out.y.2.2; clear CS1)
        | (go_at_call 11; refine (SM X a1' a3 c1 c3 _ pX HK4.out.gl.rl HK4.out.rx m1 m3).mono ?_; rintro e w6 ⟨rfl, hb⟩; have HK5 : Hid _ := HK4.out.on hb; clear HK4 hb; clear a0 a1 a2 b0 b1 b2 l0 l1 l2 r0 r1 r2 x0 x1 x2 y0 y1 y2; have a0 := HK5.out.gl.gs.a.1; have a1 := HK5.out.gl.gs.a.2.1; have a2 := HK5.out.gl.gs.a.2.2; have b0 := HK5.out.gl.gs.b.1; have b1 := HK5.out.gl.gs.b.2.1; have b2 := HK5.out.gl.gs.b.2.2; have l0 := HK5.out.gl.l.1; have l1 := HK5.out.gl.l.2.1; have l2 := HK5.out.gl.l.2.2; have r0 := HK5.out.gl.r.1; have r1 := HK5.out.gl.r.2.1; have r2 := HK5.out.gl.r.2.2; have x0 := HK5.out.x.1; have x1 := HK5.out.x.2.1; have x2 := HK5.out.x.2.2; have y0 := HK5.out.y.1; have y1 := HK5.out.y.2.1; have y2 := HK5.out.y.2.2)
        | (go_at_call 11; refine (SM Y a2' a4 c2 c4 _ pY HK5.out.gl.rr HK5.out.ry m2 m4).mono ?_; rintro e w7 ⟨rfl, hb⟩; have HK6 : Hid _ := HK5.out.on hb; clear HK5 hb; clear a0 a1 a2 b0 b1 b2 l0 l1 l2 r0 r1 r2 x0 x1 x2 y0 y1 y2; have a0 := HK6.out.gl.gs.a.1; have a1 := HK6.out.gl.gs.a.2.1; have a2 := HK6.out.gl.gs.a.2.2; have b0 := HK6.out.gl.gs.b.1; have b1 := HK6.out.gl.gs.b.2.1; have b2 := HK6.out.gl.gs.b.2.2; have l0 := HK6.out.gl.l.1; have l1 := HK6.out.gl.l.2.1; have l2 := HK6.out.gl.l.2.2; have r0 := HK6.out.gl.r.1; have r1 := HK6.out.gl.r.2.1; have r2 := HK6.out.gl.r.2.2; have x0 := HK6.out.x.1; have x1 := HK6.out.x.2.1; have x2 := HK6.out.x.2.2; have y0 := HK6.out.y.1; have y1 := HK6.out.y.2.1; have y2 := HK6.out.y.2.2)
        | (go_at_call 7; refine (CGT _ HK6.out.gl.gs).mono ?_; rintro e w8 ⟨rfl, hb⟩; have HK7 : Hid _ := HK6.out.on hb; clear HK6 hb; clear a0 a1 a2 b0 b1 b2 l0 l1 l2 r0 r1 r2 x0 x1 x2 y0 y1 y2; have a0 := HK7.out.gl.gs.a.1; have a1 := HK7.out.gl.gs.a.2.1; have a2 := HK7.out.gl.gs.a.2.2; have b0 := HK7.out.gl.gs.b.1; have b1 := HK7.out.gl.gs.b.2.1; have b2 := HK7.out.gl.gs.b.2.2; have l0 := HK7.out.gl.l.1; have l1 := HK7.out.gl.l.2.1; have l2 := HK7.out.gl.l.2.2; have r0 := HK7.out.gl.r.1; have r1 := HK7.out.gl.r.2.1; have r2 := HK7.out.gl.r.2.2; have x0 := HK7.out.x.1; have x1 := HK7.out.x.2.1; have x2 := HK7.out.x.2.2; have y0 := HK7.out.y.1; have y1 := HK7.out.y.2.1; have y2 := HK7.out.y.2.2)
        | (go_at_call 7; refine (CG2 _ HK7.out.gl.gs).mono ?_; rintro e w9 ⟨rfl, hb⟩; have HK8 : Hid _ := HK7.out.on hb; clear HK7 hb; clear a0 a1 a2 b0 b1 b2 l0 l1 l2 r0 r1 r2 x0 x1 x2 y0 y1 y2; have a0 := HK8.out.gl.gs.a.1; have a1 := HK8.out.gl.gs.a.2.1; have a2 := HK8.out.gl.gs.a.2.2; have b0 := HK8.out.gl.gs.b.1; have b1 := HK8.out.gl.gs.b.2.1; have b2 := HK8.out.gl.gs.b.2.2; have l0 := HK8.out.gl.l.1; have l1 := HK8.out.gl.l.2.1; have l2 := HK8.out.gl.l.2.2; have r0 := HK8.out.gl.r.1; have r1 := HK8.out.gl.r.2.1; have r2 := HK8.out.gl.r.2.2; have x0 := HK8.out.x.1; have x1 := HK8.out.x.2.1; have x2 := HK8.out.x.2.2; have y0 := HK8.out.y.1; have y1 := HK8.out.y.2.1; have y2 := HK8.out.y.2.2)
        | (go_at_call 7; refine (CXY a1' a2' c1 c2 _ HK8.out.gl.gs.two.s HK8.out.gl.rl HK8.out.gl.rr m1 m2).mono ?_; rintro e w10 ⟨rfl, hb⟩; have HK9 : Hid _ := HK8.out.on hb; clear HK8 hb; clear a0 a1 a2 b0 b1 b2 l0 l1 l2 r0 r1 r2 x0 x1 x2 y0 y1 y2; have a0 := HK9.out.gl.gs.a.1; have a1 := HK9.out.gl.gs.a.2.1; have a2 := HK9.out.gl.gs.a.2.2; have b0 := HK9.out.gl.gs.b.1; have b1 := HK9.out.gl.gs.b.2.1; have b2 := HK9.out.gl.gs.b.2.2; have l0 := HK9.out.gl.l.1; have l1 := HK9.out.gl.l.2.1; have l2 := HK9.out.gl.l.2.2; have r0 := HK9.out.gl.r.1; have r1 := HK9.out.gl.r.2.1; have r2 := HK9.out.gl.r.2.2; have x0 := HK9.out.x.1; have x1 := HK9.out.x.2.1; have x2 := HK9.out.x.2.2; have y0 := HK9.out.y.1; have y1 := HK9.out.y.2.1; have y2 := HK9.out.y.2.2))
      go_ret
      first
        | exact ⟨by first | rfl | simp, HK9.out.gl.gs.two.bel⟩
        | exact ⟨by first | rfl | simp, HK8.out.gl.gs.two.bel⟩
    · have hg3 := HG.out rfl
      subst hg3
      clear HG HAS
      go_wp2_with (first
        | (go_at_call 10; refine (CS1 _ HK3.out.gl.gs).mono ?_; rintro e w5 ⟨rfl, hb⟩; have HK4 : Hid _ := HK3.out.on hb; clear HK3 hb; clear a0 a1 a2 b0 b1 b2 l0 l1 l2 r0 r1 r2 x0 x1 x2 y0 y1 y2; have a0 := HK4.out.gl.gs.a.1; have a1 := HK4.out.gl.gs.a.2.1; have a2 := HK4.out.gl.gs.a.2.2; have b0 := HK4.out.gl.gs.b.1; have b1 := HK4.out.gl.gs.b.2.1; have b2 := HK4.out.gl.gs.b.2.2; have l0 := HK4.out.gl.l.1; have l1 := HK4.out.gl.l.2.1; have l2 := HK4.out.gl.l.2.2; have r0 := HK4.out.gl.r.1; have r1 := HK4.out.gl.r.2.1; have r2 := HK4.out.gl.r.2.2; have x0 := HK4.out.x.1; have x1 := HK4.out.x.2.1; have x2 := HK4.out.x.2.2; have y0 := HK4.out.y.1; have y1 := HK4.out.y.2.1; have y2 := HK4.out.y.2.2; clear CS1)
        | (go_at_call 11; refine (SM X a1' a3 c1 c3 _ pX HK4.out.gl.rl HK4.out.rx m1 m3).mono ?_; rintro e w6 ⟨rfl, hb⟩; have HK5 : Hid _ := HK4.out.on hb; clear HK4 hb; clear a0 a1 a2 b0 b1 b2 l0 l1 l2 r0 r1 r2 x0 x1 x2 y0 y1 y2; have a0 := HK5.out.gl.gs.a.1; have a1 := HK5.out.gl.gs.a.2.1; have a2 := HK5.out.gl.gs.a.2.2; have b0 := HK5.out.gl.gs.b.1; have b1 := HK5.out.gl.gs.b.2.1; have b2 := HK5.out.gl.gs.b.2.2; have l0 := HK5.out.gl.l.1; have l1 := HK5.out.gl.l.2.1; have l2 := HK5.out.gl.l.2.2; have r0 := HK5.out.gl.r.1; have r1 := HK5.out.gl.r.2.1; have r2 := HK5.out.gl.r.2.2; have x0 := HK5.out.x.1; have x1 := HK5.out.x.2.1; have x2 := HK5.out.x.2.2; have y0 := HK5.out.y.1; have y1 := HK5.out.y.2.1; have y2 := HK5.out.y.2.2)
        | (go_at_call 11; refine (SM Y a2' a4 c2 c4 _ pY HK5.out.gl.rr HK5.out.ry m2 m4).mono ?_; rintro e w7 ⟨rfl, hb⟩; have HK6 : Hid _ := HK5.out.on hb; clear HK5 hb; clear a0 a1 a2 b0 b1 b2 l0 l1 l2 r0 r1 r2 x0 x1 x2 y0 y1 y2; have a0 := HK6.out.gl.gs.a.1; have a1 := HK6.out.gl.gs.a.2.1; have a2 := HK6.out.gl.gs.a.2.2; have b0 := HK6.out.gl.gs.b.1; have b1 := HK6.out.gl.gs.b.2.1; have b2 := HK6.out.gl.gs.b.2.2; have l0 := HK6.out.gl.l.1; have l1 := HK6.out.gl.l.2.1; have l2 := HK6.out.gl.l.2.2; have r0 := HK6.out.gl.r.1; have r1 := HK6.out.gl.r.2.1; have r2 := HK6.out.gl.r.2.2; have x0 := HK6.out.x.1; have x1 := HK6.out.x.2.1; have x2 := HK6.out.x.2.2; have y0 := HK6.out.y.1; have y1 := HK6.out.y.2.1; have y2 := HK6.out.y.2.2)
        | (go_at_call 7; refine (CGT _ HK6.out.gl.gs).mono ?_; rintro e w8 ⟨rfl, hb⟩; have HK7 : Hid _ := HK6.out.on hb; clear HK6 hb; clear a0 a1 a2 b0 b1 b2 l0 l1 l2 r0 r1 r2 x0 x1 x2 y0 y1 y2; have a0 := HK7.out.gl.gs.a.1; have a1 := HK7.out.gl.gs.a.2.1; have a2 := HK7.out.gl.gs.a.2.2; have b0 := HK7.out.gl.gs.b.1; have b1 := HK7.out.gl.gs.b.2.1; have b2 := HK7.out.gl.gs.b.2.2; have l0 := HK7.out.gl.l.1; have l1 := HK7.out.gl.l.2.1; have l2 := HK7.out.gl.l.2.2; have r0 := HK7.out.gl.r.1; have r1 := HK7.out.gl.r.2.1; have r2 := HK7.out.gl.r.2.2; have x0 := HK7.out.x.1; have x1 := HK7.out.x.2.1; have x2 := HK7.out.x.2.2; have y0 := HK7.out.y.1; have y1 := HK7.out.y.2.1; have y2 := HK7.out.y.2.2)
        | (go_at_call 7; refine (CG2 _ HK7.out.gl.gs).mono ?_; rintro e w9 ⟨rfl, hb⟩; have HK8 : Hid _ := HK7.out.on hb; clear HK7 hb; clear a0 a1 a2 b0 b1 b2 l0 l1 l2 r0 r1 r2 x0 x1 x2 y0 y1 y2; have a0 := HK8.out.gl.gs.a.1; have a1 := HK8.out.gl.gs.a.2.1; have a2 := HK8.out.gl.gs.a.2.2; have b0 := HK8.out.gl.gs.b.1; have b1 := HK8.out.gl.gs.b.2.1; have b2 := HK8.out.gl.gs.b.2.2; have l0 := HK8.out.gl.l.1; have l1 := HK8.out.gl.l.2.1; have l2 := HK8.out.gl.l.2.2; have r0 := HK8.out.gl.r.1; have r1 := HK8.out.gl.r.2.1; have r2 := HK8.out.gl.r.2.2; have x0 := HK8.out.x.1; have x1 := HK8.out.x.2.1; have x2 := HK8.out.x.2.2; have y0 := HK8.out.y.1; have y1 := HK8.out.y.2.1; have y2 := HK8.out.y.2.2)
        | (go_at_call 7; refine (CXY a1' a2' c1 c2 _ HK8.out.gl.gs.two.s HK8.out.gl.rl HK8.out.gl.rr m1 m2).mono ?_; rintro e w10 ⟨rfl, hb⟩; have HK9 : Hid _ := HK8.out.on hb; clear HK8 hb; clear a0 a1 a2 b0 b1 b2 l0 l1 l2 r0 r1 r2 x0 x1 x2 y0 y1 y2; have a0 := HK9.out.gl.gs.a.1; have a1 := HK9.out.gl.gs.a.2.1; have a2 := HK9.out.gl.gs.a.2.2; have b0 := HK9.out.gl.gs.b.1; have b1 := HK9.out.gl.gs.b.2.1; have b2 := HK9.out.gl.gs.b.2.2; have l0 := HK9.out.gl.l.1; have l1 := HK9.out.gl.l.2.1; have l2 := HK9.out.gl.l.2.2; have r0 := HK9.out.gl.r.1; have r1 := HK9.out.gl.r.2.1; have r2 := HK9.out.gl.r.2.2; have x0 := HK9.out.x.1; have x1 := HK9.out.x.2.1; have x2 := HK9.out.x.2.2; have y0 := HK9.out.y.1; have y1 := HK9.out.y.2.1; have y2 := HK9.out.y.2.2))
      go_ret
      first
        | exact ⟨by first | rfl | simp, HK9.out.gl.gs.two.bel⟩
        | exact ⟨by first | rfl | simp, HK8.out.gl.gs.two.bel⟩
  · have hg2 := HAS.out rfl
    subst hg2
    have hg3 := HG.out rfl
    subst hg3
    clear HG HAS
    go_wp2_with (first
      | (go_at_call 10; refine (CS1 _ HK3.out.gl.gs).mono ?_; rintro e w5 ⟨rfl, hb⟩; have HK4 : Hid _ := HK3.out.on hb; clear HK3 hb; clear a0 a1 a2 b0 b1 b2 l0 l1 l2 r0 r1 r2 x0 x1 x2 y0 y1 y2; have a0 := HK4.out.gl.gs.a.1; have a1 := HK4.out.gl.gs.a.2.1; have a2 := HK4.out.gl.gs.a.2.2; have b0 := HK4.out.gl.gs.b.1; have b1 := HK4.out.gl.gs.b.2.1; have b2 := HK4.out.gl.gs.b.2.2; have l0 := HK4.out.gl.l.1; have l1 := HK4.out.gl.l.2.1; have l2 := HK4.out.gl.l.2.2; have r0 := HK4.out.gl.r.1; have r1 := HK4.out.gl.r.2.1; have r2 := HK4.out.gl.r.2.2; have x0 := HK4.out.x.1; have x1 := HK4.out.x.2.1; have x2 := HK4.out.x.2.2; have y0 := HK4.out.y.1; have y1 := HK4.out.y.2.1; have y2 := HK4.out.y.2.2; clear CS1)
      | (go_at_call 11; refine (SM X a1' a3 c1 c3 _ pX HK4.out.gl.rl HK4.out.rx m1 m3).mono ?_; rintro e w6 ⟨rfl, hb⟩; have HK5 : Hid _ := HK4.out.on hb; clear HK4 hb; clear a0 a1 a2 b0 b1 b2 l0 l1 l2 r0 r1 r2 x0 x1 x2 y0 y1 y2; have a0 := HK5.out.gl.gs.a.1; have a1 := HK5.out.gl.gs.a.2.1; have a2 := HK5.out.gl.gs.a.2.2; have b0 := HK5.out.gl.gs.b.1; have b1 := HK5.out.gl.gs.b.2.1; have b2 := HK5.out.gl.gs.b.2.2; have l0 := HK5.out.gl.l.1; have l1 := HK5.out.gl.l.2.1; have l2 := HK5.out.gl.l.2.2; have r0 := HK5.out.gl.r.1; have r1 := HK5.out.gl.r.2.1; have r2 := HK5.out.gl.r.2.2; have x0 := HK5.out.x.1; have x1 := HK5.out.x.2.1; have x2 := HK5.out.x.2.2; have y0 := HK5.out.y.1; have y1 := HK5.out.y.2.1; have y2 := HK5.out.y.2.2)
      | (go_at_call 11; refine (SM Y a2' a4 c2 c4 _ pY HK5.out.gl.rr HK5.out.ry m2 m4).mono ?_; rintro e w7 ⟨rfl, hb⟩; have HK6 : Hid _ := HK5.out.on hb; clear HK5 hb; clear a0 a1 a2 b0 b1 b2 l0 l1 l2 r0 r1 r2 x0 x1 x2 y0 y1 y2; have a0 := HK6.out.gl.gs.a.1; have a1 := HK6.out.gl.gs.a.2.1; have a2 := HK6.out.gl.gs.a.2.2; have b0 := HK6.out.gl.gs.b.1; have b1 := HK6.out.gl.gs.b.2.1; have b2 := HK6.out.gl.gs.b.2.2; have l0 := HK6.out.gl.l.1; have l1 := HK6.out.gl.l.2.1; have l2 := HK6.out.gl.l.2.2; have r0 := HK6.out.gl.r.1; have r1 := HK6.out.gl.r.2.1; have r2 := HK6.out.gl.r.2.2; have x0 := HK6.out.x.1; have x1 := HK6.out.x.2.1; have x2 := HK6.out.x.2.2; have y0 := HK6.out.y.1; have y1 := HK6.out.y.2.1; have y2 := HK6.out.y.2.2)
      | (go_at_call 7; refine (CGT _ HK6.out.gl.gs).mono ?_; rintro e w8 ⟨rfl, hb⟩; have HK7 : Hid _ := HK6.out.on hb; clear HK6 hb; clear a0 a1 a2 b0 b1 b2 l0 l1 l2 r0 r1 r2 x0 x1 x2 y0 y1 y2; have a0 := HK7.out.gl.gs.a.1; have a1 := HK7.out.gl.gs.a.2.1; have a2 := HK7.out.gl.gs.a.2.2; have b0 := HK7.out.gl.gs.b.1; have b1 := HK7.out.gl.gs.b.2.1; have b2 := HK7.out.gl.gs.b.2.2; have l0 := HK7.out.gl.l.1; have l1 := HK7.out.gl.l.2.1; have l2 := HK7.out.gl.l.2.2; have r0 := HK7.out.gl.r.1; have r1 := HK7.out.gl.r.2.1; have r2 := HK7.out.gl.r.2.2; have x0 := HK7.out.x.1; have x1 := HK7.out.x.2.1; have x2 := HK7.out.x.2.2; have y0 := HK7.out.y.1; have y1 := HK7.out.y.2.1; have y2 := HK7.out.y.2.2)
      | (go_at_call 7; refine (CG2 _ HK7.out.gl.gs).mono ?_; rintro e w9 ⟨rfl, hb⟩; have HK8 : Hid _ := HK7.out.on hb; clear HK7 hb; clear a0 a1 a2 b0 b1 b2 l0 l1 l2 r0 r1 r2 x0 x1 x2 y0 y1 y2; have a0 := HK8.out.gl.gs.a.1; have a1 := HK8.out.gl.gs.a.2.1; have a2 := HK8.out.gl.gs.a.2.2; have b0 := HK8.out.gl.gs.b.1; have b1 := HK8.out.gl.gs.b.2.1; have b2 := HK8.out.gl.gs.b.2.2; have l0 := HK8.out.gl.l.1; have l1 := HK8.out.gl.l.2.1; have l2 := HK8.out.gl.l.2.2; have r0 := HK8.out.gl.r.1; have r1 := HK8.out.gl.r.2.1; have r2 := HK8.out.gl.r.2.2; have x0 := HK8.out.x.1; have x1 := HK8.out.x.2.1; have x2 := HK8.out.x.2.2; have y0 := HK8.out.y.1; have y1 := HK8.out.y.2.1; have y2 := HK8.out.y.2.2)
      | (go_at_call 7; refine (CXY a1' a2' c1 c2 _ HK8.out.gl.gs.two.s HK8.out.gl.rl HK8.out.gl.rr m1 m2).mono ?_; rintro e w10 ⟨rfl, hb⟩; have HK9 : Hid _ := HK8.out.on hb; clear HK8 hb; clear a0 a1 a2 b0 b1 b2 l0 l1 l2 r0 r1 r2 x0 x1 x2 y0 y1 y2; have a0 := HK9.out.gl.gs.a.1; have a1 := HK9.out.gl.gs.a.2.1; have a2 := HK9.out.gl.gs.a.2.2; have b0 := HK9.out.gl.gs.b.1; have b1 := HK9.out.gl.gs.b.2.1; have b2 := HK9.out.gl.gs.b.2.2; have l0 := HK9.out.gl.l.1; have l1 := HK9.out.gl.l.2.1; have l2 := HK9.out.gl.l.2.2; have r0 := HK9.out.gl.r.1; have r1 := HK9.out.gl.r.2.1; have r2 := HK9.out.gl.r.2.2; have x0 := HK9.out.x.1; have x1 := HK9.out.x.2.1; have x2 := HK9.out.x.2.2; have y0 := HK9.out.y.1; have y1 := HK9.out.y.2.1; have y2 := HK9.out.y.2.2))
    go_ret
    first
      | exact ⟨by first | rfl | simp, HK9.out.gl.gs.two.bel⟩
      | exact ⟨by first | rfl | simp, HK8.out.gl.gs.two.bel⟩

theorem walk (w : World) (a0 : Option Addr) (len0 cap0 : Nat) (bs : List Int) (hn : len0 = bs.length) (hle : len0 ≤ maxLen) (hr : ∀ c, w.heap.size ≤ c → RdB w c a0 bs) :
    Calls Tryz.prog 3 #[.slice a0 len0 cap0] w fun e w' => e = .returned (.bool true) ∧ Below w.heap.size w w' := by
  subst hn
  by_cases hbig : 1048576 < bs.length
  · have hbig' : (1048576 : Int) < (bs.length : Int) := by omega
    unfold maxLen at hle
    clear hbig hr
    go_enter Tryz.func3, Tryz.ntmps3
    go_wp2
    go_ret
    exact ⟨rfl, Below.refl _ _⟩
  · exact small a0 bs cap0 w (by omega) hr

set_option maxRecDepth 100000 in
theorem lifted (os : Os) (started : os.Started) (H : Type) (enc : TypeId × Value → H) :
    ReturnsInHanded {} Tryz.checked os 3 .any (Rows.fnGreaterSpec.pre6 enc Tryz.prog Tryz.f3 Rows.fnGreaterRow.domain false) (Rows.fnGreaterSpec.post enc Tryz.prog Tryz.f3 false true false false) := by
  refine returnsInHanded_of_change (C := Tryz.checked) own started (by kernel_rfl) Tryz.func3
    (ChangeSpec.witness6 (enc := enc) (C := Tryz.checked) false ⟨#[], #[.slice none 0 0], []⟩ 8 (by kernel_rfl) (by kernel_rfl) (by kernel_rfl) (by kernel_rfl)) ?_
  intro W base args ds gs before hval0 hW hcnd _
  have hval : ∀ (j : Nat) t v, Tryz.f3.params[j]? = some t → args[j]? = some v → Value.okWide Tryz.prog W .any base t v := hval0
  have hW' := hW
  obtain ⟨p, q, hA0, hV, rfl, hfz, hnd⟩ := hW
  have hA : DataW.TrodAll enc Tryz.prog W 0 (fun _ => true) true Tryz.f3.params.toList args.toList ds p := hA0
  rw [Tryz.params3] at hA hval
  obtain ⟨v0, vs0, d0, ds0, p0, q0, hargs, rfl, rfl, h0, r0⟩ := trodAll_cons hA
  obtain ⟨rfl, rfl, rfl⟩ := trodAll_nil r0
  obtain rfl : args = #[v0] := by cases args; simp_all
  obtain ⟨rfl, rfl⟩ := trodVars_none hV
  obtain ⟨a0, len0, cap0, rfl⟩ := okWide_slice Tryz.underlying22 (hval 0 22 v0 rfl rfl)
  have k0 := h0
  have lt0 : ∀ x ∈ p0, x.block < W.heap.size := by obtain ⟨m, hm⟩ := k0; exact DataW.trod_lt m _ _ _ hm
  obtain ⟨bs0, hn0, hle0, hr0⟩ := open_code rfl h0
  clear hA0 hval0
  refine (walk W a0 len0 cap0 bs0 hn0 hle0 hr0).mono fun e W' ⟨he, bel⟩ => ?_
  subst he
  exact ⟨_, rfl, _, _, _, [], _, [], hW', trodAll_mk1 (shut_bool Tryz.underlying4 _), (trodAll_cons_mk (Below.trod laidOut (by kernel_rfl) (of_decide_eq_true (by kernel_rfl)) k0 bel lt0) trodAll_mk0), by first | rfl | simp, bel.frame _, fun h => by cases h⟩

theorem over : Rows.fnGreaterRow.holds Tryz.pinned (OpenSpec.ofChange Rows.fnGreaterSpec) :=
  OpenClaim.holds_of_wide 3 Tryz.f3 rfl rfl rfl rfl rfl rfl rfl ⟨rfl, rfl, rfl, rfl, rfl⟩ rfl rfl rfl rfl rfl (by kernel_rfl) Tryz.func3 (by kernel_rfl)
    (of_decide_eq_true (by kernel_rfl)) (by unfold Func.isWrapper; first | (rw [if_pos (by decide +kernel)]; kernel_rfl) | (rw [if_neg (by decide +kernel)]; exact ⟨rfl, rfl⟩))
    (fun os started H enc _ => lifted os started H enc)

theorem proved : Rows.FnGreaterSaid := over
end Go.Proofs.YtkjlldbgooogdaaGreat.fnGreater
namespace Go.Proofs.YtkjlldbgooogdaaGreat
theorem fnGreater_holds : Rows.FnGreaterSaid := fnGreater.proved
#print axioms fnGreater_holds
end Go.Proofs.YtkjlldbgooogdaaGreat
