/- What the proof of FnExactLitApply stands on, part 12 of 13: each piece says what it proves and under which conditions. Conditions: as each piece says. -/
import Derived.Test.YtollijngiioonabGreatPackExactLitApply11
/- What is put into an equation: both sides, then the equation made anew, as the program and the specification do it. Conditions: sizes that the law's own bound gives. -/
namespace Go.Proofs.YtollijngiioonabGreat
set_option maxRecDepth 100000
open Go.RowKit

def applyX (ss : List SymD) (us : List BindD) (x : LitD) : LitD := makeX ss x.p (normT (blindAt ss) (putV us x.l)) (normT (blindAt ss) (putV us x.r))
theorem put_wf {us : List BindD} {t : TermD} {w : World} {hi : Nat} {a : Option Addr} (hr : RdU w hi a us) (hw : isW t.f ∧ isW t.v) : isW (putV us t).f ∧ isW (putV us t).v := by
  rw [putV_eq]
  split
  · exact look_wf hr hw.2
  · exact hw
theorem OwnX.on {w W W' : World} {X : LitD} {a1 : Option Addr} {c1 : Nat} {a2 : Option Addr} {c2 : Nat} {S1 S2 : Nat → Prop} (h : OwnX w W X a1 c1 a2 c2 S1 S2) (hb : Below W.heap.size W W') : OwnX w W' X a1 c1 a2 c2 S1 S2 := by
  have hs := hb.size
  exact ⟨h.o1.frame (fun k hk => hb.block k (h.i1 k hk).2) hs, h.o2.frame (fun k hk => hb.block k (h.i2 k hk).2) hs, h.dis, fun k hk => by have := h.i1 k hk; omega, fun k hk => by have := h.i2 k hk; omega, h.l1, h.l2⟩
theorem OwnX.stay {w W W' : World} {X : LitD} {a1 : Option Addr} {c1 : Nat} {a2 : Option Addr} {c2 : Nat} {S1 S2 : Nat → Prop} {T : Nat → Prop} (h : OwnX w W X a1 c1 a2 c2 S1 S2) (hb : Stay T W W') (hT : ∀ k, w.heap.size ≤ k → T k) : OwnX w W' X a1 c1 a2 c2 S1 S2 := by
  have hs := hb.size
  exact ⟨h.o1.frame (fun k hk => hb.block k (h.i1 k hk).2 (hT k (h.i1 k hk).1)) hs, h.o2.frame (fun k hk => hb.block k (h.i2 k hk).2 (hT k (h.i2 k hk).1)) hs, h.dis, fun k hk => by have := h.i1 k hk; omega, fun k hk => by have := h.i2 k hk; omega, h.l1, h.l2⟩
theorem OwnX.base {w w' W : World} {X : LitD} {a1 : Option Addr} {c1 : Nat} {a2 : Option Addr} {c2 : Nat} {S1 S2 : Nat → Prop} (h : OwnX w' W X a1 c1 a2 c2 S1 S2) (hz : w.heap.size ≤ w'.heap.size) : OwnX w W X a1 c1 a2 c2 S1 S2 :=
  ⟨h.o1, h.o2, h.dis, fun k hk => by have := h.i1 k hk; omega, fun k hk => by have := h.i2 k hk; omega, h.l1, h.l2⟩

structure LY (cp : Nat → Nat → Prop) (w W0 : World) (b : Nat) (P Q : TermD) (X : LitD) (L : Array Bool) (W : World) (v1 v2 v3 : Value) : Prop where
  bw : Below w.heap.size w W
  b0 : ¬ Dn L 14 → Below W0.heap.size W0 W
  r : ¬ Dn L 14 → R7 W b
  c7 : Dn L 7 → ¬ Dn L 14 → ∃ y k, v1 = .agg #[.int .i64 P.f, .int .i64 P.v, .slice y P.kids.length k] ∧ RdK W W.heap.size y P.kids ∧ cp P.kids.length k
  c12 : Dn L 12 → ¬ Dn L 14 → ∃ y k, v2 = .agg #[.int .i64 Q.f, .int .i64 Q.v, .slice y Q.kids.length k] ∧ RdK W W.heap.size y Q.kids ∧ cp Q.kids.length k
  c13 : Dn L 13 → ∃ a1 c1 a2 c2 S1 S2, v3 = litV X a1 c1 a2 c2 ∧ OwnX W0 W X a1 c1 a2 c2 S1 S2
  f14 : Dn L 14 → ∃ a1 c1 a2 c2, v3 = litV X a1 c1 a2 c2 ∧ C7 W b (.bool X.p) (.int .i64 X.l.f) (.int .i64 X.l.v) (.slice a1 X.l.kids.length c1) (.int .i64 X.r.f) (.int .i64 X.r.v) (.slice a2 X.r.kids.length c2)
section
variable {cp : Nat → Nat → Prop} {w W0 : World} {b : Nat} {P Q : TermD} {X : LitD} {L : Array Bool} {W : World} {v1 v2 v3 : Value}
theorem LY.start (cp : Nat → Nat → Prop) (w W0 : World) (b : Nat) (P Q : TermD) (X : LitD) (n : Nat) (v1 v2 v3 : Value) (hb : Below w.heap.size w W0) (hR : R7 W0 b) : LY cp w W0 b P Q X (Array.replicate n false) W0.drew v1 v2 v3 :=
  ⟨hb.drew, fun _ => (Below.refl _ _).drew, fun _ => hR.stay (S := fun _ => True) (Stay.drew _ _) trivial, fun h => absurd h dn_none, fun h => absurd h dn_none, fun h => absurd h dn_none, fun h => absurd h dn_none⟩
theorem dnb {L : Array Bool} {i j : Nat} (hi : i < L.size) (hj : i ≠ j) (h : Dn (L.setIfInBounds i true) j) : Dn L j := ((dn_set hi).1 h).resolve_left (fun e => hj e.symm)
theorem dnn {L : Array Bool} {i j : Nat} (hi : i < L.size) (h : ¬ Dn (L.setIfInBounds i true) j) : ¬ Dn L j := fun hx => h ((dn_set hi).2 (.inr hx))
theorem LY.pure (h : LY cp w W0 b P Q X L W v1 v2 v3) {i : Nat} (hi : i < L.size) (hn : i ≠ 7 ∧ i ≠ 12 ∧ i ≠ 13 ∧ i ≠ 14) : LY cp w W0 b P Q X (L.setIfInBounds i true) W v1 v2 v3 :=
  ⟨h.bw, fun n => h.b0 (dnn hi n), fun n => h.r (dnn hi n), fun d n => h.c7 (dnb hi hn.1 d) (dnn hi n), fun d n => h.c12 (dnb hi hn.2.1 d) (dnn hi n), fun d => h.c13 (dnb hi hn.2.2.1 d), fun d => h.f14 (dnb hi hn.2.2.2 d)⟩
theorem LY.old (h : LY cp w W0 b P Q X L W v1 v2 v3) (n : ¬ Dn L 14) {W' : World} (hb : Below W.heap.size W W') : LY cp w W0 b P Q X L W' v1 v2 v3 := by
  have st : Stay (fun _ => True) W W' := .of_below hb (fun _ hk _ => hk)
  refine ⟨h.bw.trans (hb.mono h.bw.size), fun m => (h.b0 m).trans (hb.mono (h.b0 m).size), fun m => (h.r m).stay st trivial, fun d m => ?_, fun d m => ?_, fun d => ?_, fun d => absurd d n⟩
  · obtain ⟨y, k, e, hr, hc⟩ := h.c7 d m
    exact ⟨y, k, e, (hr.on hb).mono hb.size, hc⟩
  · obtain ⟨y, k, e, hr, hc⟩ := h.c12 d m
    exact ⟨y, k, e, (hr.on hb).mono hb.size, hc⟩
  · obtain ⟨a1, c1, a2, c2, S1, S2, e, hX⟩ := h.c13 d
    exact ⟨a1, c1, a2, c2, S1, S2, e, hX.on hb⟩
theorem LY.add7 (h : LY cp w W0 b P Q X L W v1 v2 v3) (hi : 7 < L.size) (n : ¬ Dn L 14) {W' : World} (hb : Below W.heap.size W W') {y : Option Addr} {k : Nat} (hk : OwnS W' (fun k => W.heap.size ≤ k ∧ k < W'.heap.size) y P.kids) (hc : cp P.kids.length k) :
    LY cp w W0 b P Q X (L.setIfInBounds 7 true) W' (.agg #[.int .i64 P.f, .int .i64 P.v, .slice y P.kids.length k]) v2 v3 := by
  have g := h.old n hb
  exact ⟨g.bw, fun m => g.b0 (dnn hi m), fun m => g.r (dnn hi m), fun _ _ => ⟨_, _, rfl, hk.rd, hc⟩, fun d m => g.c12 (dnb hi (by decide) d) (dnn hi m), fun d => g.c13 (dnb hi (by decide) d), fun d => g.f14 (dnb hi (by decide) d)⟩
theorem LY.add12 (h : LY cp w W0 b P Q X L W v1 v2 v3) (hi : 12 < L.size) (n : ¬ Dn L 14) {W' : World} (hb : Below W.heap.size W W') {y : Option Addr} {k : Nat} (hk : OwnS W' (fun k => W.heap.size ≤ k ∧ k < W'.heap.size) y Q.kids) (hc : cp Q.kids.length k) :
    LY cp w W0 b P Q X (L.setIfInBounds 12 true) W' v1 (.agg #[.int .i64 Q.f, .int .i64 Q.v, .slice y Q.kids.length k]) v3 := by
  have g := h.old n hb
  exact ⟨g.bw, fun m => g.b0 (dnn hi m), fun m => g.r (dnn hi m), fun d m => g.c7 (dnb hi (by decide) d) (dnn hi m), fun _ _ => ⟨_, _, rfl, hk.rd, hc⟩, fun d => g.c13 (dnb hi (by decide) d), fun d => g.f14 (dnb hi (by decide) d)⟩
theorem LY.add13 (h : LY cp w W0 b P Q X L W v1 v2 v3) (hi : 13 < L.size) (n : ¬ Dn L 14) {W' : World} (hb : Below W.heap.size W W') {a1 : Option Addr} {c1 : Nat} {a2 : Option Addr} {c2 : Nat} {S1 S2 : Nat → Prop} (hX : OwnX W W' X a1 c1 a2 c2 S1 S2) :
    LY cp w W0 b P Q X (L.setIfInBounds 13 true) W' v1 v2 (litV X a1 c1 a2 c2) := by
  have g := h.old n hb
  exact ⟨g.bw, fun m => g.b0 (dnn hi m), fun m => g.r (dnn hi m), fun d m => g.c7 (dnb hi (by decide) d) (dnn hi m), fun d m => g.c12 (dnb hi (by decide) d) (dnn hi m), fun _ => ⟨_, _, _, _, _, _, rfl, hX.base (h.b0 n).size⟩, fun d => absurd (dnb hi (by decide) d) n⟩
theorem LY.put {a1 : Option Addr} {c1 : Nat} {a2 : Option Addr} {c2 : Nat} (h : LY cp w W0 b P Q X L W v1 v2 (litV X a1 c1 a2 c2)) (hi : 14 < L.size) (n : ¬ Dn L 14) (hw : w.heap.size ≤ b) (h0 : b < W0.heap.size) :
    LY cp w W0 b P Q X (L.setIfInBounds 14 true) (((((((W.setCell ⟨b, 0, none⟩ (.bool X.p)).setCell ⟨b, 1, none⟩ (.int .i64 X.l.f)).setCell ⟨b, 2, none⟩ (.int .i64 X.l.v)).setCell ⟨b, 3, none⟩ (.slice a1 X.l.kids.length c1)).setCell ⟨b, 4, none⟩ (.int .i64 X.r.f)).setCell ⟨b, 5, none⟩ (.int .i64 X.r.v)).setCell ⟨b, 6, none⟩ (.slice a2 X.r.kids.length c2)) v1 v2 (litV X a1 c1 a2 c2) := by
  have st := set7_stay W b (.bool X.p) (.int .i64 X.l.f) (.int .i64 X.l.v) (.slice a1 X.l.kids.length c1) (.int .i64 X.r.f) (.int .i64 X.r.v) (.slice a2 X.r.kids.length c2)
  have h14 : Dn (L.setIfInBounds 14 true) 14 := (dn_set hi).2 (.inl rfl)
  refine ⟨h.bw.trans (st.below h.bw.size (fun k hk => by omega)), fun m => absurd h14 m, fun m => absurd h14 m, fun _ m => absurd h14 m, fun _ m => absurd h14 m, fun d => ?_, fun _ => ⟨a1, c1, a2, c2, rfl, R7.set (h.r n) _ _ _ _ _ _ _⟩⟩
  obtain ⟨e1, k1, e2, k2, S1, S2, e, hX⟩ := h.c13 (dnb hi (by decide) d)
  exact ⟨e1, k1, e2, k2, S1, S2, e, hX.stay st (fun k hk => by omega)⟩
theorem LY.fin (h : LY cp w W0 b P Q X L W v1 v2 v3) (h13 : Dn L 13) (h14 : Dn L 14) : ∃ a1 c1 a2 c2 S1 S2, C7 W b (.bool X.p) (.int .i64 X.l.f) (.int .i64 X.l.v) (.slice a1 X.l.kids.length c1) (.int .i64 X.r.f) (.int .i64 X.r.v) (.slice a2 X.r.kids.length c2) ∧ OwnX W0 W X a1 c1 a2 c2 S1 S2 := by
  obtain ⟨e1, k1, e2, k2, S1, S2, rfl, hX⟩ := h.c13 h13
  obtain ⟨a1, c1, a2, c2, e', hC⟩ := h.f14 h14
  unfold litV at e'
  have q : e1 = a1 ∧ k1 = c1 ∧ e2 = a2 ∧ k2 = c2 := by
    injection e' with e'
    have := congrArg Array.toList e'
    simp at this
    exact ⟨this.1.1, this.1.2, this.2.1, this.2.2⟩
  obtain ⟨rfl, rfl, rfl, rfl⟩ := q
  exact ⟨e1, k1, e2, k2, S1, S2, hC, hX⟩
end

set_option maxHeartbeats 6400000 in
theorem impLitApply_any (sa : Option Addr) (ss : List SymD) (sc : Nat) (us : List BindD) (ua : Option Addr) (uc : Nat) (x : LitD) (a1 a2 : Option Addr) (c1 c2 hi : Nat) (w : World) (hs : RdS w sa ss) (hu : RdU w hi ua us) (hp1 : partsT x.l ≤ 549755813888) (hp2 : partsT x.r ≤ 549755813888) (hq1 : partsT (putV us x.l) ≤ 549755813888) (hq2 : partsT (putV us x.r) ≤ 549755813888) (hx1 : RdK w hi a1 x.l.kids) (hx2 : RdK w hi a2 x.r.kids) (hhi : hi ≤ w.heap.size) (hw1 : isW x.l.f ∧ isW x.l.v) (hw2 : isW x.r.f ∧ isW x.r.v) (hul : us.length ≤ 549755813888) (hc1 : x.l.kids.length ≤ c1) (hc2 : x.r.kids.length ≤ c2) :
    Calls Tryz.prog 11 #[.slice sa ss.length sc, .slice ua us.length uc, litV x a1 c1 a2 c2] w fun e w' => ∃ b1 d1 b2 d2 S1 S2, e = .returned (litV (applyX ss us x) b1 d1 b2 d2) ∧ OwnX w w' (applyX ss us x) b1 d1 b2 d2 S1 S2 ∧ Below w.heap.size w w' := by
  unfold litV
  obtain ⟨W0, hW0⟩ : ∃ W0, W0 = (w.alloc (.cells #[.bool x.p, .int .i64 x.l.f, .int .i64 x.l.v, .slice a1 x.l.kids.length c1, .int .i64 x.r.f, .int .i64 x.r.v, .slice a2 x.r.kids.length c2] 36)).alloc (.cells #[.bool false, .int .i64 0, .int .i64 0, .slice none 0 0, .int .i64 0, .int .i64 0, .slice none 0 0] 36) := ⟨_, rfl⟩
  have hB0 : Below w.heap.size w W0 := by rw [hW0]; exact ((Below.refl _ _).alloc (Nat.le_refl _) _).alloc (by simp) _
  have hz0 : W0.heap.size = w.heap.size + 1 + 1 := by rw [hW0]; simp
  have CX : Hid (C7 W0 w.heap.size (.bool x.p) (.int .i64 x.l.f) (.int .i64 x.l.v) (.slice a1 x.l.kids.length c1) (.int .i64 x.r.f) (.int .i64 x.r.v) (.slice a2 x.r.kids.length c2)) := by rw [hW0]; exact ⟨by simp [go_sem], by simp [go_sem], by simp [go_sem], by simp [go_sem], by simp [go_sem], by simp [go_sem], by simp [go_sem]⟩
  have RC0 : Hid (R7 W0 (w.heap.size + 1)) := by rw [hW0]; exact ⟨by simp [go_sem], by simp [go_sem], by simp [go_sem], by simp [go_sem], by simp [go_sem], by simp [go_sem], by simp [go_sem], fun j => by simp [go_sem]⟩
  obtain ⟨P, hP⟩ : ∃ P, P = normT (blindAt ss) (putV us x.l) := ⟨_, rfl⟩
  obtain ⟨Q, hQ⟩ : ∃ Q, Q = normT (blindAt ss) (putV us x.r) := ⟨_, rfl⟩
  obtain ⟨X, hX⟩ : ∃ X, X = makeX ss x.p P Q := ⟨_, rfl⟩
  have hXX : applyX ss us x = X := by unfold applyX; rw [← hP, ← hQ, ← hX]
  have hPf : P.f = (putV us x.l).f ∧ P.v = (putV us x.l).v := by rw [hP, normT_eq]; exact ⟨rfl, rfl⟩
  have hQf : Q.f = (putV us x.r).f ∧ Q.v = (putV us x.r).v := by rw [hQ, normT_eq]; exact ⟨rfl, rfl⟩
  have hpP : partsT P ≤ 549755813888 := by rw [hP]; exact Nat.le_trans (normT_parts _ _) hq1
  have hpQ : partsT Q ≤ 549755813888 := by rw [hQ]; exact Nat.le_trans (normT_parts _ _) hq2
  have hPw : isW P.f ∧ isW P.v := by rw [hPf.1, hPf.2]; exact put_wf hu hw1
  have hQw : isW Q.f ∧ isW Q.v := by rw [hQf.1, hQf.2]; exact put_wf hu hw2
  have E1 : ∀ W' : World, Below w.heap.size w W' → Calls Tryz.prog 28 #[.slice sa ss.length sc, .slice ua us.length uc, .agg #[.int .i64 x.l.f, .int .i64 x.l.v, .slice a1 x.l.kids.length c1]] W' fun e w' => ∃ y k, e = .returned (.agg #[.int .i64 P.f, .int .i64 P.v, .slice y P.kids.length k]) ∧ OwnS w' (fun k => W'.heap.size ≤ k ∧ k < w'.heap.size) y P.kids ∧ P.kids.length ≤ k ∧ Below W'.heap.size W' w' := fun W' hb => by
    have := impApply_any sa ss sc us ua uc hi x.l a1 c1 hi W' hul (hu.on (hb.mono hhi)) (Nat.le_trans hhi hb.size) (hs.below hb) hp1 hq1 (hx1.on (hb.mono hhi)) (Nat.le_trans hhi hb.size) hc1 hw1
    rw [← hPf.1, ← hPf.2, ← hP] at this
    exact this
  have E2 : ∀ W' : World, Below w.heap.size w W' → Calls Tryz.prog 28 #[.slice sa ss.length sc, .slice ua us.length uc, .agg #[.int .i64 x.r.f, .int .i64 x.r.v, .slice a2 x.r.kids.length c2]] W' fun e w' => ∃ y k, e = .returned (.agg #[.int .i64 Q.f, .int .i64 Q.v, .slice y Q.kids.length k]) ∧ OwnS w' (fun k => W'.heap.size ≤ k ∧ k < w'.heap.size) y Q.kids ∧ Q.kids.length ≤ k ∧ Below W'.heap.size W' w' := fun W' hb => by
    have := impApply_any sa ss sc us ua uc hi x.r a2 c2 hi W' hul (hu.on (hb.mono hhi)) (Nat.le_trans hhi hb.size) (hs.below hb) hp2 hq2 (hx2.on (hb.mono hhi)) (Nat.le_trans hhi hb.size) hc2 hw2
    rw [← hQf.1, ← hQf.2, ← hQ] at this
    exact this
  have CM := fun (y z : Option Addr) (k l : Nat) (W' : World) (hb : Below w.heap.size w W') (g1 : RdK W' W'.heap.size y P.kids) (g2 : RdK W' W'.heap.size z Q.kids) (g3 : P.kids.length ≤ k) (g4 : Q.kids.length ≤ l) => impLitMake_any sa ss sc x.p P Q y z k l W'.heap.size W' (hs.below hb) hpP hpQ g1 g2 (Nat.le_refl _) g3 g4 hPw hQw
  rw [← hX] at CM
  rw [hXX]
  clear hXX hX hP hQ hPf hQf
  go_enter Tryz.func11, Tryz.ntmps11
  go_upto_region 1 with fail
  rw [← hW0]
  refine wp_region_keeps (by kernel_rfl) (rs := [0, 1, 2, 3, 4, 5, 6, 7, 8, 9, 10, 11, 12, 13, 14]) (fun L a' W => ∃ (s7 s8 s9 s10 s11 s12 s13 s14 s15 s16 s17 s18 s19 s20 : Value), a' = ({ tmps := #[.slice sa ss.length sc, .slice ua us.length uc, .agg #[.bool x.p, .int .i64 x.l.f, .int .i64 x.l.v, .slice a1 x.l.kids.length c1, .int .i64 x.r.f, .int .i64 x.r.v, .slice a2 x.r.kids.length c2], undef, undef, .pointer (some ⟨w.heap.size, 0, none⟩), .pointer (some ⟨w.heap.size + 1, 0, none⟩), s7, s8, s9, s10, s11, s12, s13, s14, s15, s16, s17, s18, s19, s20], defers := [] } : Act) ∧ (Dn L 0 → s7 = .slice sa ss.length sc) ∧ (Dn L 1 → s8 = .pointer (some ⟨w.heap.size, 0, none⟩)) ∧ (Dn L 2 → s9 = .bool x.p) ∧ (Dn L 3 → s10 = .slice sa ss.length sc) ∧ (Dn L 4 → s11 = .slice ua us.length uc) ∧ (Dn L 5 → s12 = .pointer (some ⟨w.heap.size, 1, none⟩)) ∧ (Dn L 6 → s13 = .agg #[.int .i64 x.l.f, .int .i64 x.l.v, .slice a1 x.l.kids.length c1]) ∧ (Dn L 8 → s15 = .slice sa ss.length sc) ∧ (Dn L 9 → s16 = .slice ua us.length uc) ∧ (Dn L 10 → s17 = .pointer (some ⟨w.heap.size, 4, none⟩)) ∧ (Dn L 11 → s18 = .agg #[.int .i64 x.r.f, .int .i64 x.r.v, .slice a2 x.r.kids.length c2]) ∧ LY (fun n k => n ≤ k) w W0 (w.heap.size + 1) P Q X L W s14 s19 s20) (by kernel_rfl) (by kernel_rfl) ⟨_, _, _, _, _, _, _, _, _, _, _, _, _, _, rfl, fun h => absurd h dn_none, fun h => absurd h dn_none, fun h => absurd h dn_none, fun h => absurd h dn_none, fun h => absurd h dn_none, fun h => absurd h dn_none, fun h => absurd h dn_none, fun h => absurd h dn_none, fun h => absurd h dn_none, fun h => absurd h dn_none, fun h => absurd h dn_none, LY.start _ w W0 _ P Q X _ _ _ _ hB0 RC0.out⟩ (fun L a' W hd h => ?_) ?_
  · obtain ⟨s7, s8, s9, s10, s11, s12, s13, s14, s15, s16, s17, s18, s19, s20, rfl, -, -, -, -, -, -, -, -, -, -, -, hM⟩ := h
    obtain ⟨b1, d1, b2, d2, S1, S2, hC, hO⟩ := hM.fin (hd 13 (by decide)) (hd 14 (by decide))
    have hbw := hM.bw
    obtain ⟨g0, g1, g2, g3, g4, g5, g6⟩ := hC
    clear hM hd E1 E2 CM
    go_wp2_with fail
    exact bodyPost_ret (v := .agg #[.bool X.p, .int .i64 X.l.f, .int .i64 X.l.v, .slice b1 X.l.kids.length d1, .int .i64 X.r.f, .int .i64 X.r.v, .slice b2 X.r.kids.length d2]) (by simp [results, Tryz.results11, go_sem, g0, g1, g2, g3, g4, g5, g6]) rfl ⟨b1, d1, b2, d2, S1, S2, rfl, hO.base (by omega), hbw⟩
  refine KeepAll.cons (ds := []) rfl (by kernel_rfl) (fun L a' W K hK hL hcl hn hd hI => ?_) ?_
  · obtain ⟨s7, s8, s9, s10, s11, s12, s13, s14, s15, s16, s17, s18, s19, s20, rfl, h0, h1, h2, h3, h4, h5, h6, h8, h9, h10, h11, hM⟩ := hI
    have n14 : ¬ Dn L 14 := fun q => hn (hcl 14 _ rfl q 0 (by decide))
    go_simp
    exact hK _ _ ⟨_, _, _, _, _, _, _, _, _, _, _, _, _, _, rfl, (by first | exact fun _ => rfl | exact fun q => h0 (((dn_set hL).1 q).resolve_left (by decide))), (by first | exact fun _ => rfl | exact fun q => h1 (((dn_set hL).1 q).resolve_left (by decide))), (by first | exact fun _ => rfl | exact fun q => h2 (((dn_set hL).1 q).resolve_left (by decide))), (by first | exact fun _ => rfl | exact fun q => h3 (((dn_set hL).1 q).resolve_left (by decide))), (by first | exact fun _ => rfl | exact fun q => h4 (((dn_set hL).1 q).resolve_left (by decide))), (by first | exact fun _ => rfl | exact fun q => h5 (((dn_set hL).1 q).resolve_left (by decide))), (by first | exact fun _ => rfl | exact fun q => h6 (((dn_set hL).1 q).resolve_left (by decide))), (by first | exact fun _ => rfl | exact fun q => h8 (((dn_set hL).1 q).resolve_left (by decide))), (by first | exact fun _ => rfl | exact fun q => h9 (((dn_set hL).1 q).resolve_left (by decide))), (by first | exact fun _ => rfl | exact fun q => h10 (((dn_set hL).1 q).resolve_left (by decide))), (by first | exact fun _ => rfl | exact fun q => h11 (((dn_set hL).1 q).resolve_left (by decide))), hM.pure hL ⟨by decide, by decide, by decide, by decide⟩⟩
  refine KeepAll.cons (ds := []) rfl (by kernel_rfl) (fun L a' W K hK hL hcl hn hd hI => ?_) ?_
  · obtain ⟨s7, s8, s9, s10, s11, s12, s13, s14, s15, s16, s17, s18, s19, s20, rfl, h0, h1, h2, h3, h4, h5, h6, h8, h9, h10, h11, hM⟩ := hI
    have n14 : ¬ Dn L 14 := fun q => hn (hcl 14 _ rfl q 1 (by decide))
    go_simp
    exact hK _ _ ⟨_, _, _, _, _, _, _, _, _, _, _, _, _, _, rfl, (by first | exact fun _ => rfl | exact fun q => h0 (((dn_set hL).1 q).resolve_left (by decide))), (by first | exact fun _ => rfl | exact fun q => h1 (((dn_set hL).1 q).resolve_left (by decide))), (by first | exact fun _ => rfl | exact fun q => h2 (((dn_set hL).1 q).resolve_left (by decide))), (by first | exact fun _ => rfl | exact fun q => h3 (((dn_set hL).1 q).resolve_left (by decide))), (by first | exact fun _ => rfl | exact fun q => h4 (((dn_set hL).1 q).resolve_left (by decide))), (by first | exact fun _ => rfl | exact fun q => h5 (((dn_set hL).1 q).resolve_left (by decide))), (by first | exact fun _ => rfl | exact fun q => h6 (((dn_set hL).1 q).resolve_left (by decide))), (by first | exact fun _ => rfl | exact fun q => h8 (((dn_set hL).1 q).resolve_left (by decide))), (by first | exact fun _ => rfl | exact fun q => h9 (((dn_set hL).1 q).resolve_left (by decide))), (by first | exact fun _ => rfl | exact fun q => h10 (((dn_set hL).1 q).resolve_left (by decide))), (by first | exact fun _ => rfl | exact fun q => h11 (((dn_set hL).1 q).resolve_left (by decide))), hM.pure hL ⟨by decide, by decide, by decide, by decide⟩⟩
  refine KeepAll.cons (ds := [1]) rfl (by kernel_rfl) (fun L a' W K hK hL hcl hn hd hI => ?_) ?_
  · obtain ⟨s7, s8, s9, s10, s11, s12, s13, s14, s15, s16, s17, s18, s19, s20, rfl, h0, h1, h2, h3, h4, h5, h6, h8, h9, h10, h11, hM⟩ := hI
    have n14 : ¬ Dn L 14 := fun q => hn (hcl 14 _ rfl q 2 (by decide))
    obtain rfl := h1 (hd 1 (by simp))
    have KC := C7.on CX.out (hM.b0 n14)
    obtain ⟨k0, k1, k2, k3, k4, k5, k6⟩ := KC
    go_simp
    exact hK _ _ ⟨_, _, _, _, _, _, _, _, _, _, _, _, _, _, rfl, (by first | exact fun _ => rfl | exact fun q => h0 (((dn_set hL).1 q).resolve_left (by decide))), (by first | exact fun _ => rfl | exact fun q => h1 (((dn_set hL).1 q).resolve_left (by decide))), (by first | exact fun _ => rfl | exact fun q => h2 (((dn_set hL).1 q).resolve_left (by decide))), (by first | exact fun _ => rfl | exact fun q => h3 (((dn_set hL).1 q).resolve_left (by decide))), (by first | exact fun _ => rfl | exact fun q => h4 (((dn_set hL).1 q).resolve_left (by decide))), (by first | exact fun _ => rfl | exact fun q => h5 (((dn_set hL).1 q).resolve_left (by decide))), (by first | exact fun _ => rfl | exact fun q => h6 (((dn_set hL).1 q).resolve_left (by decide))), (by first | exact fun _ => rfl | exact fun q => h8 (((dn_set hL).1 q).resolve_left (by decide))), (by first | exact fun _ => rfl | exact fun q => h9 (((dn_set hL).1 q).resolve_left (by decide))), (by first | exact fun _ => rfl | exact fun q => h10 (((dn_set hL).1 q).resolve_left (by decide))), (by first | exact fun _ => rfl | exact fun q => h11 (((dn_set hL).1 q).resolve_left (by decide))), hM.pure hL ⟨by decide, by decide, by decide, by decide⟩⟩
  refine KeepAll.cons (ds := []) rfl (by kernel_rfl) (fun L a' W K hK hL hcl hn hd hI => ?_) ?_
  · obtain ⟨s7, s8, s9, s10, s11, s12, s13, s14, s15, s16, s17, s18, s19, s20, rfl, h0, h1, h2, h3, h4, h5, h6, h8, h9, h10, h11, hM⟩ := hI
    have n14 : ¬ Dn L 14 := fun q => hn (hcl 14 _ rfl q 3 (by decide))
    go_simp
    exact hK _ _ ⟨_, _, _, _, _, _, _, _, _, _, _, _, _, _, rfl, (by first | exact fun _ => rfl | exact fun q => h0 (((dn_set hL).1 q).resolve_left (by decide))), (by first | exact fun _ => rfl | exact fun q => h1 (((dn_set hL).1 q).resolve_left (by decide))), (by first | exact fun _ => rfl | exact fun q => h2 (((dn_set hL).1 q).resolve_left (by decide))), (by first | exact fun _ => rfl | exact fun q => h3 (((dn_set hL).1 q).resolve_left (by decide))), (by first | exact fun _ => rfl | exact fun q => h4 (((dn_set hL).1 q).resolve_left (by decide))), (by first | exact fun _ => rfl | exact fun q => h5 (((dn_set hL).1 q).resolve_left (by decide))), (by first | exact fun _ => rfl | exact fun q => h6 (((dn_set hL).1 q).resolve_left (by decide))), (by first | exact fun _ => rfl | exact fun q => h8 (((dn_set hL).1 q).resolve_left (by decide))), (by first | exact fun _ => rfl | exact fun q => h9 (((dn_set hL).1 q).resolve_left (by decide))), (by first | exact fun _ => rfl | exact fun q => h10 (((dn_set hL).1 q).resolve_left (by decide))), (by first | exact fun _ => rfl | exact fun q => h11 (((dn_set hL).1 q).resolve_left (by decide))), hM.pure hL ⟨by decide, by decide, by decide, by decide⟩⟩
  refine KeepAll.cons (ds := []) rfl (by kernel_rfl) (fun L a' W K hK hL hcl hn hd hI => ?_) ?_
  · obtain ⟨s7, s8, s9, s10, s11, s12, s13, s14, s15, s16, s17, s18, s19, s20, rfl, h0, h1, h2, h3, h4, h5, h6, h8, h9, h10, h11, hM⟩ := hI
    have n14 : ¬ Dn L 14 := fun q => hn (hcl 14 _ rfl q 4 (by decide))
    go_simp
    exact hK _ _ ⟨_, _, _, _, _, _, _, _, _, _, _, _, _, _, rfl, (by first | exact fun _ => rfl | exact fun q => h0 (((dn_set hL).1 q).resolve_left (by decide))), (by first | exact fun _ => rfl | exact fun q => h1 (((dn_set hL).1 q).resolve_left (by decide))), (by first | exact fun _ => rfl | exact fun q => h2 (((dn_set hL).1 q).resolve_left (by decide))), (by first | exact fun _ => rfl | exact fun q => h3 (((dn_set hL).1 q).resolve_left (by decide))), (by first | exact fun _ => rfl | exact fun q => h4 (((dn_set hL).1 q).resolve_left (by decide))), (by first | exact fun _ => rfl | exact fun q => h5 (((dn_set hL).1 q).resolve_left (by decide))), (by first | exact fun _ => rfl | exact fun q => h6 (((dn_set hL).1 q).resolve_left (by decide))), (by first | exact fun _ => rfl | exact fun q => h8 (((dn_set hL).1 q).resolve_left (by decide))), (by first | exact fun _ => rfl | exact fun q => h9 (((dn_set hL).1 q).resolve_left (by decide))), (by first | exact fun _ => rfl | exact fun q => h10 (((dn_set hL).1 q).resolve_left (by decide))), (by first | exact fun _ => rfl | exact fun q => h11 (((dn_set hL).1 q).resolve_left (by decide))), hM.pure hL ⟨by decide, by decide, by decide, by decide⟩⟩
  refine KeepAll.cons (ds := []) rfl (by kernel_rfl) (fun L a' W K hK hL hcl hn hd hI => ?_) ?_
  · obtain ⟨s7, s8, s9, s10, s11, s12, s13, s14, s15, s16, s17, s18, s19, s20, rfl, h0, h1, h2, h3, h4, h5, h6, h8, h9, h10, h11, hM⟩ := hI
    have n14 : ¬ Dn L 14 := fun q => hn (hcl 14 _ rfl q 5 (by decide))
    go_simp
    exact hK _ _ ⟨_, _, _, _, _, _, _, _, _, _, _, _, _, _, rfl, (by first | exact fun _ => rfl | exact fun q => h0 (((dn_set hL).1 q).resolve_left (by decide))), (by first | exact fun _ => rfl | exact fun q => h1 (((dn_set hL).1 q).resolve_left (by decide))), (by first | exact fun _ => rfl | exact fun q => h2 (((dn_set hL).1 q).resolve_left (by decide))), (by first | exact fun _ => rfl | exact fun q => h3 (((dn_set hL).1 q).resolve_left (by decide))), (by first | exact fun _ => rfl | exact fun q => h4 (((dn_set hL).1 q).resolve_left (by decide))), (by first | exact fun _ => rfl | exact fun q => h5 (((dn_set hL).1 q).resolve_left (by decide))), (by first | exact fun _ => rfl | exact fun q => h6 (((dn_set hL).1 q).resolve_left (by decide))), (by first | exact fun _ => rfl | exact fun q => h8 (((dn_set hL).1 q).resolve_left (by decide))), (by first | exact fun _ => rfl | exact fun q => h9 (((dn_set hL).1 q).resolve_left (by decide))), (by first | exact fun _ => rfl | exact fun q => h10 (((dn_set hL).1 q).resolve_left (by decide))), (by first | exact fun _ => rfl | exact fun q => h11 (((dn_set hL).1 q).resolve_left (by decide))), hM.pure hL ⟨by decide, by decide, by decide, by decide⟩⟩
  refine KeepAll.cons (ds := [5]) rfl (by kernel_rfl) (fun L a' W K hK hL hcl hn hd hI => ?_) ?_
  · obtain ⟨s7, s8, s9, s10, s11, s12, s13, s14, s15, s16, s17, s18, s19, s20, rfl, h0, h1, h2, h3, h4, h5, h6, h8, h9, h10, h11, hM⟩ := hI
    have n14 : ¬ Dn L 14 := fun q => hn (hcl 14 _ rfl q 6 (by decide))
    obtain rfl := h5 (hd 5 (by simp))
    have KC := C7.on CX.out (hM.b0 n14)
    obtain ⟨k0, k1, k2, k3, k4, k5, k6⟩ := KC
    go_simp
    exact hK _ _ ⟨_, _, _, _, _, _, _, _, _, _, _, _, _, _, rfl, (by first | exact fun _ => rfl | exact fun q => h0 (((dn_set hL).1 q).resolve_left (by decide))), (by first | exact fun _ => rfl | exact fun q => h1 (((dn_set hL).1 q).resolve_left (by decide))), (by first | exact fun _ => rfl | exact fun q => h2 (((dn_set hL).1 q).resolve_left (by decide))), (by first | exact fun _ => rfl | exact fun q => h3 (((dn_set hL).1 q).resolve_left (by decide))), (by first | exact fun _ => rfl | exact fun q => h4 (((dn_set hL).1 q).resolve_left (by decide))), (by first | exact fun _ => rfl | exact fun q => h5 (((dn_set hL).1 q).resolve_left (by decide))), (by first | exact fun _ => rfl | exact fun q => h6 (((dn_set hL).1 q).resolve_left (by decide))), (by first | exact fun _ => rfl | exact fun q => h8 (((dn_set hL).1 q).resolve_left (by decide))), (by first | exact fun _ => rfl | exact fun q => h9 (((dn_set hL).1 q).resolve_left (by decide))), (by first | exact fun _ => rfl | exact fun q => h10 (((dn_set hL).1 q).resolve_left (by decide))), (by first | exact fun _ => rfl | exact fun q => h11 (((dn_set hL).1 q).resolve_left (by decide))), hM.pure hL ⟨by decide, by decide, by decide, by decide⟩⟩
  refine KeepAll.cons (ds := [3, 4, 6]) rfl (by kernel_rfl) (fun L a' W K hK hL hcl hn hd hI => ?_) ?_
  · obtain ⟨s7, s8, s9, s10, s11, s12, s13, s14, s15, s16, s17, s18, s19, s20, rfl, h0, h1, h2, h3, h4, h5, h6, h8, h9, h10, h11, hM⟩ := hI
    have n14 : ¬ Dn L 14 := fun q => hn (hcl 14 _ rfl q 7 (by decide))
    obtain rfl := h3 (hd 3 (by simp))
    obtain rfl := h4 (hd 4 (by simp))
    obtain rfl := h6 (hd 6 (by simp))
    go_simp
    refine (E1 W hM.bw).mono ?_
    rintro e W' ⟨y, k, rfl, ho, hcc, hb⟩
    exact hK _ _ ⟨_, _, _, _, _, _, _, _, _, _, _, _, _, _, rfl, (by first | exact fun _ => rfl | exact fun q => h0 (((dn_set hL).1 q).resolve_left (by decide))), (by first | exact fun _ => rfl | exact fun q => h1 (((dn_set hL).1 q).resolve_left (by decide))), (by first | exact fun _ => rfl | exact fun q => h2 (((dn_set hL).1 q).resolve_left (by decide))), (by first | exact fun _ => rfl | exact fun q => h3 (((dn_set hL).1 q).resolve_left (by decide))), (by first | exact fun _ => rfl | exact fun q => h4 (((dn_set hL).1 q).resolve_left (by decide))), (by first | exact fun _ => rfl | exact fun q => h5 (((dn_set hL).1 q).resolve_left (by decide))), (by first | exact fun _ => rfl | exact fun q => h6 (((dn_set hL).1 q).resolve_left (by decide))), (by first | exact fun _ => rfl | exact fun q => h8 (((dn_set hL).1 q).resolve_left (by decide))), (by first | exact fun _ => rfl | exact fun q => h9 (((dn_set hL).1 q).resolve_left (by decide))), (by first | exact fun _ => rfl | exact fun q => h10 (((dn_set hL).1 q).resolve_left (by decide))), (by first | exact fun _ => rfl | exact fun q => h11 (((dn_set hL).1 q).resolve_left (by decide))), hM.add7 hL n14 hb ho hcc⟩
  refine KeepAll.cons (ds := []) rfl (by kernel_rfl) (fun L a' W K hK hL hcl hn hd hI => ?_) ?_
  · obtain ⟨s7, s8, s9, s10, s11, s12, s13, s14, s15, s16, s17, s18, s19, s20, rfl, h0, h1, h2, h3, h4, h5, h6, h8, h9, h10, h11, hM⟩ := hI
    have n14 : ¬ Dn L 14 := fun q => hn (hcl 14 _ rfl q 8 (by decide))
    go_simp
    exact hK _ _ ⟨_, _, _, _, _, _, _, _, _, _, _, _, _, _, rfl, (by first | exact fun _ => rfl | exact fun q => h0 (((dn_set hL).1 q).resolve_left (by decide))), (by first | exact fun _ => rfl | exact fun q => h1 (((dn_set hL).1 q).resolve_left (by decide))), (by first | exact fun _ => rfl | exact fun q => h2 (((dn_set hL).1 q).resolve_left (by decide))), (by first | exact fun _ => rfl | exact fun q => h3 (((dn_set hL).1 q).resolve_left (by decide))), (by first | exact fun _ => rfl | exact fun q => h4 (((dn_set hL).1 q).resolve_left (by decide))), (by first | exact fun _ => rfl | exact fun q => h5 (((dn_set hL).1 q).resolve_left (by decide))), (by first | exact fun _ => rfl | exact fun q => h6 (((dn_set hL).1 q).resolve_left (by decide))), (by first | exact fun _ => rfl | exact fun q => h8 (((dn_set hL).1 q).resolve_left (by decide))), (by first | exact fun _ => rfl | exact fun q => h9 (((dn_set hL).1 q).resolve_left (by decide))), (by first | exact fun _ => rfl | exact fun q => h10 (((dn_set hL).1 q).resolve_left (by decide))), (by first | exact fun _ => rfl | exact fun q => h11 (((dn_set hL).1 q).resolve_left (by decide))), hM.pure hL ⟨by decide, by decide, by decide, by decide⟩⟩
  refine KeepAll.cons (ds := []) rfl (by kernel_rfl) (fun L a' W K hK hL hcl hn hd hI => ?_) ?_
  · obtain ⟨s7, s8, s9, s10, s11, s12, s13, s14, s15, s16, s17, s18, s19, s20, rfl, h0, h1, h2, h3, h4, h5, h6, h8, h9, h10, h11, hM⟩ := hI
    have n14 : ¬ Dn L 14 := fun q => hn (hcl 14 _ rfl q 9 (by decide))
    go_simp
    exact hK _ _ ⟨_, _, _, _, _, _, _, _, _, _, _, _, _, _, rfl, (by first | exact fun _ => rfl | exact fun q => h0 (((dn_set hL).1 q).resolve_left (by decide))), (by first | exact fun _ => rfl | exact fun q => h1 (((dn_set hL).1 q).resolve_left (by decide))), (by first | exact fun _ => rfl | exact fun q => h2 (((dn_set hL).1 q).resolve_left (by decide))), (by first | exact fun _ => rfl | exact fun q => h3 (((dn_set hL).1 q).resolve_left (by decide))), (by first | exact fun _ => rfl | exact fun q => h4 (((dn_set hL).1 q).resolve_left (by decide))), (by first | exact fun _ => rfl | exact fun q => h5 (((dn_set hL).1 q).resolve_left (by decide))), (by first | exact fun _ => rfl | exact fun q => h6 (((dn_set hL).1 q).resolve_left (by decide))), (by first | exact fun _ => rfl | exact fun q => h8 (((dn_set hL).1 q).resolve_left (by decide))), (by first | exact fun _ => rfl | exact fun q => h9 (((dn_set hL).1 q).resolve_left (by decide))), (by first | exact fun _ => rfl | exact fun q => h10 (((dn_set hL).1 q).resolve_left (by decide))), (by first | exact fun _ => rfl | exact fun q => h11 (((dn_set hL).1 q).resolve_left (by decide))), hM.pure hL ⟨by decide, by decide, by decide, by decide⟩⟩
  refine KeepAll.cons (ds := []) rfl (by kernel_rfl) (fun L a' W K hK hL hcl hn hd hI => ?_) ?_
  · obtain ⟨s7, s8, s9, s10, s11, s12, s13, s14, s15, s16, s17, s18, s19, s20, rfl, h0, h1, h2, h3, h4, h5, h6, h8, h9, h10, h11, hM⟩ := hI
    have n14 : ¬ Dn L 14 := fun q => hn (hcl 14 _ rfl q 10 (by decide))
    go_simp
    exact hK _ _ ⟨_, _, _, _, _, _, _, _, _, _, _, _, _, _, rfl, (by first | exact fun _ => rfl | exact fun q => h0 (((dn_set hL).1 q).resolve_left (by decide))), (by first | exact fun _ => rfl | exact fun q => h1 (((dn_set hL).1 q).resolve_left (by decide))), (by first | exact fun _ => rfl | exact fun q => h2 (((dn_set hL).1 q).resolve_left (by decide))), (by first | exact fun _ => rfl | exact fun q => h3 (((dn_set hL).1 q).resolve_left (by decide))), (by first | exact fun _ => rfl | exact fun q => h4 (((dn_set hL).1 q).resolve_left (by decide))), (by first | exact fun _ => rfl | exact fun q => h5 (((dn_set hL).1 q).resolve_left (by decide))), (by first | exact fun _ => rfl | exact fun q => h6 (((dn_set hL).1 q).resolve_left (by decide))), (by first | exact fun _ => rfl | exact fun q => h8 (((dn_set hL).1 q).resolve_left (by decide))), (by first | exact fun _ => rfl | exact fun q => h9 (((dn_set hL).1 q).resolve_left (by decide))), (by first | exact fun _ => rfl | exact fun q => h10 (((dn_set hL).1 q).resolve_left (by decide))), (by first | exact fun _ => rfl | exact fun q => h11 (((dn_set hL).1 q).resolve_left (by decide))), hM.pure hL ⟨by decide, by decide, by decide, by decide⟩⟩
  refine KeepAll.cons (ds := [10]) rfl (by kernel_rfl) (fun L a' W K hK hL hcl hn hd hI => ?_) ?_
  · obtain ⟨s7, s8, s9, s10, s11, s12, s13, s14, s15, s16, s17, s18, s19, s20, rfl, h0, h1, h2, h3, h4, h5, h6, h8, h9, h10, h11, hM⟩ := hI
    have n14 : ¬ Dn L 14 := fun q => hn (hcl 14 _ rfl q 11 (by decide))
    obtain rfl := h10 (hd 10 (by simp))
    have KC := C7.on CX.out (hM.b0 n14)
    obtain ⟨k0, k1, k2, k3, k4, k5, k6⟩ := KC
    go_simp
    exact hK _ _ ⟨_, _, _, _, _, _, _, _, _, _, _, _, _, _, rfl, (by first | exact fun _ => rfl | exact fun q => h0 (((dn_set hL).1 q).resolve_left (by decide))), (by first | exact fun _ => rfl | exact fun q => h1 (((dn_set hL).1 q).resolve_left (by decide))), (by first | exact fun _ => rfl | exact fun q => h2 (((dn_set hL).1 q).resolve_left (by decide))), (by first | exact fun _ => rfl | exact fun q => h3 (((dn_set hL).1 q).resolve_left (by decide))), (by first | exact fun _ => rfl | exact fun q => h4 (((dn_set hL).1 q).resolve_left (by decide))), (by first | exact fun _ => rfl | exact fun q => h5 (((dn_set hL).1 q).resolve_left (by decide))), (by first | exact fun _ => rfl | exact fun q => h6 (((dn_set hL).1 q).resolve_left (by decide))), (by first | exact fun _ => rfl | exact fun q => h8 (((dn_set hL).1 q).resolve_left (by decide))), (by first | exact fun _ => rfl | exact fun q => h9 (((dn_set hL).1 q).resolve_left (by decide))), (by first | exact fun _ => rfl | exact fun q => h10 (((dn_set hL).1 q).resolve_left (by decide))), (by first | exact fun _ => rfl | exact fun q => h11 (((dn_set hL).1 q).resolve_left (by decide))), hM.pure hL ⟨by decide, by decide, by decide, by decide⟩⟩
  refine KeepAll.cons (ds := [8, 9, 11, 7]) rfl (by kernel_rfl) (fun L a' W K hK hL hcl hn hd hI => ?_) ?_
  · obtain ⟨s7, s8, s9, s10, s11, s12, s13, s14, s15, s16, s17, s18, s19, s20, rfl, h0, h1, h2, h3, h4, h5, h6, h8, h9, h10, h11, hM⟩ := hI
    have n14 : ¬ Dn L 14 := fun q => hn (hcl 14 _ rfl q 12 (by decide))
    obtain rfl := h8 (hd 8 (by simp))
    obtain rfl := h9 (hd 9 (by simp))
    obtain rfl := h11 (hd 11 (by simp))
    go_simp
    refine (E2 W hM.bw).mono ?_
    rintro e W' ⟨y, k, rfl, ho, hcc, hb⟩
    exact hK _ _ ⟨_, _, _, _, _, _, _, _, _, _, _, _, _, _, rfl, (by first | exact fun _ => rfl | exact fun q => h0 (((dn_set hL).1 q).resolve_left (by decide))), (by first | exact fun _ => rfl | exact fun q => h1 (((dn_set hL).1 q).resolve_left (by decide))), (by first | exact fun _ => rfl | exact fun q => h2 (((dn_set hL).1 q).resolve_left (by decide))), (by first | exact fun _ => rfl | exact fun q => h3 (((dn_set hL).1 q).resolve_left (by decide))), (by first | exact fun _ => rfl | exact fun q => h4 (((dn_set hL).1 q).resolve_left (by decide))), (by first | exact fun _ => rfl | exact fun q => h5 (((dn_set hL).1 q).resolve_left (by decide))), (by first | exact fun _ => rfl | exact fun q => h6 (((dn_set hL).1 q).resolve_left (by decide))), (by first | exact fun _ => rfl | exact fun q => h8 (((dn_set hL).1 q).resolve_left (by decide))), (by first | exact fun _ => rfl | exact fun q => h9 (((dn_set hL).1 q).resolve_left (by decide))), (by first | exact fun _ => rfl | exact fun q => h10 (((dn_set hL).1 q).resolve_left (by decide))), (by first | exact fun _ => rfl | exact fun q => h11 (((dn_set hL).1 q).resolve_left (by decide))), hM.add12 hL n14 hb ho hcc⟩
  refine KeepAll.cons (ds := [0, 2, 7, 12, 12]) rfl (by kernel_rfl) (fun L a' W K hK hL hcl hn hd hI => ?_) ?_
  · obtain ⟨s7, s8, s9, s10, s11, s12, s13, s14, s15, s16, s17, s18, s19, s20, rfl, h0, h1, h2, h3, h4, h5, h6, h8, h9, h10, h11, hM⟩ := hI
    have n14 : ¬ Dn L 14 := fun q => hn (hcl 14 _ rfl q 13 (by decide))
    obtain rfl := h0 (hd 0 (by simp))
    obtain rfl := h2 (hd 2 (by simp))
    obtain ⟨y, k, rfl, hy, hcy⟩ := hM.c7 (hd 7 (by simp)) n14
    obtain ⟨z, l, rfl, hz, hcz⟩ := hM.c12 (hd 12 (by simp)) n14
    go_simp
    refine (CM y z k l W hM.bw hy hz hcy hcz).mono ?_
    rintro e W' ⟨e1, m1, e2, m2, S1, S2, rfl, hO, hb⟩
    exact hK _ _ ⟨_, _, _, _, _, _, _, _, _, _, _, _, _, _, rfl, (by first | exact fun _ => rfl | exact fun q => h0 (((dn_set hL).1 q).resolve_left (by decide))), (by first | exact fun _ => rfl | exact fun q => h1 (((dn_set hL).1 q).resolve_left (by decide))), (by first | exact fun _ => rfl | exact fun q => h2 (((dn_set hL).1 q).resolve_left (by decide))), (by first | exact fun _ => rfl | exact fun q => h3 (((dn_set hL).1 q).resolve_left (by decide))), (by first | exact fun _ => rfl | exact fun q => h4 (((dn_set hL).1 q).resolve_left (by decide))), (by first | exact fun _ => rfl | exact fun q => h5 (((dn_set hL).1 q).resolve_left (by decide))), (by first | exact fun _ => rfl | exact fun q => h6 (((dn_set hL).1 q).resolve_left (by decide))), (by first | exact fun _ => rfl | exact fun q => h8 (((dn_set hL).1 q).resolve_left (by decide))), (by first | exact fun _ => rfl | exact fun q => h9 (((dn_set hL).1 q).resolve_left (by decide))), (by first | exact fun _ => rfl | exact fun q => h10 (((dn_set hL).1 q).resolve_left (by decide))), (by first | exact fun _ => rfl | exact fun q => h11 (((dn_set hL).1 q).resolve_left (by decide))), hM.add13 hL n14 hb hO⟩
  refine KeepAll.cons (ds := [13, 13, 0, 1, 2, 3, 4, 5, 6, 7, 8, 9, 10, 11, 12, 13]) rfl (by kernel_rfl) (fun L a' W K hK hL hcl hn hd hI => ?_) ?_
  · obtain ⟨s7, s8, s9, s10, s11, s12, s13, s14, s15, s16, s17, s18, s19, s20, rfl, h0, h1, h2, h3, h4, h5, h6, h8, h9, h10, h11, hM⟩ := hI
    obtain ⟨e1, m1, e2, m2, S1, S2, rfl, hO⟩ := hM.c13 (hd 13 (by simp))
    have HR := hM.r hn
    obtain ⟨u0, u1, u2, u3, u4, u5, u6, uf⟩ := HR
    have f0 := uf 0
    have f1 := uf 1
    have f2 := uf 2
    have f3 := uf 3
    have f4 := uf 4
    have f5 := uf 5
    have f6 := uf 6
    clear uf hO
    have hM2 := hM.put hL hn (by omega) (by omega)
    unfold litV at hM2 ⊢
    go_simp
    exact hK _ _ ⟨_, _, _, _, _, _, _, _, _, _, _, _, _, _, rfl, (by first | exact fun _ => rfl | exact fun q => h0 (((dn_set hL).1 q).resolve_left (by decide))), (by first | exact fun _ => rfl | exact fun q => h1 (((dn_set hL).1 q).resolve_left (by decide))), (by first | exact fun _ => rfl | exact fun q => h2 (((dn_set hL).1 q).resolve_left (by decide))), (by first | exact fun _ => rfl | exact fun q => h3 (((dn_set hL).1 q).resolve_left (by decide))), (by first | exact fun _ => rfl | exact fun q => h4 (((dn_set hL).1 q).resolve_left (by decide))), (by first | exact fun _ => rfl | exact fun q => h5 (((dn_set hL).1 q).resolve_left (by decide))), (by first | exact fun _ => rfl | exact fun q => h6 (((dn_set hL).1 q).resolve_left (by decide))), (by first | exact fun _ => rfl | exact fun q => h8 (((dn_set hL).1 q).resolve_left (by decide))), (by first | exact fun _ => rfl | exact fun q => h9 (((dn_set hL).1 q).resolve_left (by decide))), (by first | exact fun _ => rfl | exact fun q => h10 (((dn_set hL).1 q).resolve_left (by decide))), (by first | exact fun _ => rfl | exact fun q => h11 (((dn_set hL).1 q).resolve_left (by decide))), hM2⟩
  exact KeepAll.nil

set_option maxHeartbeats 6400000 in
theorem specLitApply_any (sa : Option Addr) (ss : List SymD) (sc : Nat) (us : List BindD) (ua : Option Addr) (uc : Nat) (x : LitD) (a1 a2 : Option Addr) (c1 c2 hi : Nat) (w : World) (hs : RdS w sa ss) (hu : RdU w hi ua us) (hp1 : partsT x.l ≤ 549755813888) (hp2 : partsT x.r ≤ 549755813888) (hq1 : partsT (putV us x.l) ≤ 549755813888) (hq2 : partsT (putV us x.r) ≤ 549755813888) (hx1 : RdK w hi a1 x.l.kids) (hx2 : RdK w hi a2 x.r.kids) (hhi : hi ≤ w.heap.size) (hw1 : isW x.l.f ∧ isW x.l.v) (hw2 : isW x.r.f ∧ isW x.r.v) (hsl : ss.length ≤ 1048577) (hpu : partsU us ≤ 549755813887) :
    Calls Tryz.prog 7 #[.slice sa ss.length sc, .slice ua us.length uc, litV x a1 c1 a2 c2] w fun e w' => ∃ b1 d1 b2 d2 S1 S2, e = .returned (litV (applyX ss us x) b1 d1 b2 d2) ∧ OwnX w w' (applyX ss us x) b1 d1 b2 d2 S1 S2 ∧ Below w.heap.size w w' := by
  unfold litV
  obtain ⟨W0, hW0⟩ : ∃ W0, W0 = (w.alloc (.cells #[.bool x.p, .int .i64 x.l.f, .int .i64 x.l.v, .slice a1 x.l.kids.length c1, .int .i64 x.r.f, .int .i64 x.r.v, .slice a2 x.r.kids.length c2] 36)).alloc (.cells #[.bool false, .int .i64 0, .int .i64 0, .slice none 0 0, .int .i64 0, .int .i64 0, .slice none 0 0] 36) := ⟨_, rfl⟩
  have hB0 : Below w.heap.size w W0 := by rw [hW0]; exact ((Below.refl _ _).alloc (Nat.le_refl _) _).alloc (by simp) _
  have hz0 : W0.heap.size = w.heap.size + 1 + 1 := by rw [hW0]; simp
  have CX : Hid (C7 W0 w.heap.size (.bool x.p) (.int .i64 x.l.f) (.int .i64 x.l.v) (.slice a1 x.l.kids.length c1) (.int .i64 x.r.f) (.int .i64 x.r.v) (.slice a2 x.r.kids.length c2)) := by rw [hW0]; exact ⟨by simp [go_sem], by simp [go_sem], by simp [go_sem], by simp [go_sem], by simp [go_sem], by simp [go_sem], by simp [go_sem]⟩
  have RC0 : Hid (R7 W0 (w.heap.size + 1)) := by rw [hW0]; exact ⟨by simp [go_sem], by simp [go_sem], by simp [go_sem], by simp [go_sem], by simp [go_sem], by simp [go_sem], by simp [go_sem], fun j => by simp [go_sem]⟩
  obtain ⟨P, hP⟩ : ∃ P, P = normT (blindAt ss) (putV us x.l) := ⟨_, rfl⟩
  obtain ⟨Q, hQ⟩ : ∃ Q, Q = normT (blindAt ss) (putV us x.r) := ⟨_, rfl⟩
  obtain ⟨X, hX⟩ : ∃ X, X = makeX ss x.p P Q := ⟨_, rfl⟩
  have hXX : applyX ss us x = X := by unfold applyX; rw [← hP, ← hQ, ← hX]
  have hPf : P.f = (putV us x.l).f ∧ P.v = (putV us x.l).v := by rw [hP, normT_eq]; exact ⟨rfl, rfl⟩
  have hQf : Q.f = (putV us x.r).f ∧ Q.v = (putV us x.r).v := by rw [hQ, normT_eq]; exact ⟨rfl, rfl⟩
  have hpP : partsT P ≤ 549755813888 := by rw [hP]; exact Nat.le_trans (normT_parts _ _) hq1
  have hpQ : partsT Q ≤ 549755813888 := by rw [hQ]; exact Nat.le_trans (normT_parts _ _) hq2
  have hPw : isW P.f ∧ isW P.v := by rw [hPf.1, hPf.2]; exact put_wf hu hw1
  have hQw : isW Q.f ∧ isW Q.v := by rw [hQf.1, hQf.2]; exact put_wf hu hw2
  have E1 : ∀ W' : World, Below w.heap.size w W' → Calls Tryz.prog 23 #[.slice sa ss.length sc, .slice ua us.length uc, .agg #[.int .i64 x.l.f, .int .i64 x.l.v, .slice a1 x.l.kids.length c1]] W' fun e w' => ∃ y k, e = .returned (.agg #[.int .i64 P.f, .int .i64 P.v, .slice y P.kids.length k]) ∧ OwnS w' (fun k => W'.heap.size ≤ k ∧ k < w'.heap.size) y P.kids ∧ Below W'.heap.size W' w' := fun W' hb => by
    have := specApply_any sa ss sc us ua uc x.l a1 c1 hi W' hsl hpu (hu.on (hb.mono hhi)) (hs.below hb) hp1 hq1 (hx1.on (hb.mono hhi)) (Nat.le_trans hhi hb.size) hw1
    rw [← hPf.1, ← hPf.2, ← hP] at this
    exact this
  have E2 : ∀ W' : World, Below w.heap.size w W' → Calls Tryz.prog 23 #[.slice sa ss.length sc, .slice ua us.length uc, .agg #[.int .i64 x.r.f, .int .i64 x.r.v, .slice a2 x.r.kids.length c2]] W' fun e w' => ∃ y k, e = .returned (.agg #[.int .i64 Q.f, .int .i64 Q.v, .slice y Q.kids.length k]) ∧ OwnS w' (fun k => W'.heap.size ≤ k ∧ k < w'.heap.size) y Q.kids ∧ Below W'.heap.size W' w' := fun W' hb => by
    have := specApply_any sa ss sc us ua uc x.r a2 c2 hi W' hsl hpu (hu.on (hb.mono hhi)) (hs.below hb) hp2 hq2 (hx2.on (hb.mono hhi)) (Nat.le_trans hhi hb.size) hw2
    rw [← hQf.1, ← hQf.2, ← hQ] at this
    exact this
  have CM := fun (y z : Option Addr) (k l : Nat) (W' : World) (hb : Below w.heap.size w W') (g1 : RdK W' W'.heap.size y P.kids) (g2 : RdK W' W'.heap.size z Q.kids) => specLitMake_any sa ss sc x.p P Q y z k l W'.heap.size W' hsl (hs.below hb) hpP hpQ g1 g2 (Nat.le_refl _) hPw hQw
  rw [← hX] at CM
  rw [hXX]
  clear hXX hX hP hQ hPf hQf
  go_enter Tryz.func7, Tryz.ntmps7
  go_upto_region 1 with fail
  rw [← hW0]
  refine wp_region_keeps (by kernel_rfl) (rs := [0, 1, 2, 3, 4, 5, 6, 7, 8, 9, 10, 11, 12, 13, 14]) (fun L a' W => ∃ (s7 s8 s9 s10 s11 s12 s13 s14 s15 s16 s17 s18 s19 s20 : Value), a' = ({ tmps := #[.slice sa ss.length sc, .slice ua us.length uc, .agg #[.bool x.p, .int .i64 x.l.f, .int .i64 x.l.v, .slice a1 x.l.kids.length c1, .int .i64 x.r.f, .int .i64 x.r.v, .slice a2 x.r.kids.length c2], undef, undef, .pointer (some ⟨w.heap.size, 0, none⟩), .pointer (some ⟨w.heap.size + 1, 0, none⟩), s7, s8, s9, s10, s11, s12, s13, s14, s15, s16, s17, s18, s19, s20], defers := [] } : Act) ∧ (Dn L 0 → s7 = .slice sa ss.length sc) ∧ (Dn L 1 → s8 = .pointer (some ⟨w.heap.size, 0, none⟩)) ∧ (Dn L 2 → s9 = .bool x.p) ∧ (Dn L 3 → s10 = .slice sa ss.length sc) ∧ (Dn L 4 → s11 = .slice ua us.length uc) ∧ (Dn L 5 → s12 = .pointer (some ⟨w.heap.size, 1, none⟩)) ∧ (Dn L 6 → s13 = .agg #[.int .i64 x.l.f, .int .i64 x.l.v, .slice a1 x.l.kids.length c1]) ∧ (Dn L 8 → s15 = .slice sa ss.length sc) ∧ (Dn L 9 → s16 = .slice ua us.length uc) ∧ (Dn L 10 → s17 = .pointer (some ⟨w.heap.size, 4, none⟩)) ∧ (Dn L 11 → s18 = .agg #[.int .i64 x.r.f, .int .i64 x.r.v, .slice a2 x.r.kids.length c2]) ∧ LY (fun _ _ => True) w W0 (w.heap.size + 1) P Q X L W s14 s19 s20) (by kernel_rfl) (by kernel_rfl) ⟨_, _, _, _, _, _, _, _, _, _, _, _, _, _, rfl, fun h => absurd h dn_none, fun h => absurd h dn_none, fun h => absurd h dn_none, fun h => absurd h dn_none, fun h => absurd h dn_none, fun h => absurd h dn_none, fun h => absurd h dn_none, fun h => absurd h dn_none, fun h => absurd h dn_none, fun h => absurd h dn_none, fun h => absurd h dn_none, LY.start _ w W0 _ P Q X _ _ _ _ hB0 RC0.out⟩ (fun L a' W hd h => ?_) ?_
  · obtain ⟨s7, s8, s9, s10, s11, s12, s13, s14, s15, s16, s17, s18, s19, s20, rfl, -, -, -, -, -, -, -, -, -, -, -, hM⟩ := h
    obtain ⟨b1, d1, b2, d2, S1, S2, hC, hO⟩ := hM.fin (hd 13 (by decide)) (hd 14 (by decide))
    have hbw := hM.bw
    obtain ⟨g0, g1, g2, g3, g4, g5, g6⟩ := hC
    clear hM hd E1 E2 CM
    go_wp2_with fail
    exact bodyPost_ret (v := .agg #[.bool X.p, .int .i64 X.l.f, .int .i64 X.l.v, .slice b1 X.l.kids.length d1, .int .i64 X.r.f, .int .i64 X.r.v, .slice b2 X.r.kids.length d2]) (by simp [results, Tryz.results7, go_sem, g0, g1, g2, g3, g4, g5, g6]) rfl ⟨b1, d1, b2, d2, S1, S2, rfl, hO.base (by omega), hbw⟩
  refine KeepAll.cons (ds := []) rfl (by kernel_rfl) (fun L a' W K hK hL hcl hn hd hI => ?_) ?_
  · obtain ⟨s7, s8, s9, s10, s11, s12, s13, s14, s15, s16, s17, s18, s19, s20, rfl, h0, h1, h2, h3, h4, h5, h6, h8, h9, h10, h11, hM⟩ := hI
    have n14 : ¬ Dn L 14 := fun q => hn (hcl 14 _ rfl q 0 (by decide))
    go_simp
    exact hK _ _ ⟨_, _, _, _, _, _, _, _, _, _, _, _, _, _, rfl, (by first | exact fun _ => rfl | exact fun q => h0 (((dn_set hL).1 q).resolve_left (by decide))), (by first | exact fun _ => rfl | exact fun q => h1 (((dn_set hL).1 q).resolve_left (by decide))), (by first | exact fun _ => rfl | exact fun q => h2 (((dn_set hL).1 q).resolve_left (by decide))), (by first | exact fun _ => rfl | exact fun q => h3 (((dn_set hL).1 q).resolve_left (by decide))), (by first | exact fun _ => rfl | exact fun q => h4 (((dn_set hL).1 q).resolve_left (by decide))), (by first | exact fun _ => rfl | exact fun q => h5 (((dn_set hL).1 q).resolve_left (by decide))), (by first | exact fun _ => rfl | exact fun q => h6 (((dn_set hL).1 q).resolve_left (by decide))), (by first | exact fun _ => rfl | exact fun q => h8 (((dn_set hL).1 q).resolve_left (by decide))), (by first | exact fun _ => rfl | exact fun q => h9 (((dn_set hL).1 q).resolve_left (by decide))), (by first | exact fun _ => rfl | exact fun q => h10 (((dn_set hL).1 q).resolve_left (by decide))), (by first | exact fun _ => rfl | exact fun q => h11 (((dn_set hL).1 q).resolve_left (by decide))), hM.pure hL ⟨by decide, by decide, by decide, by decide⟩⟩
  refine KeepAll.cons (ds := []) rfl (by kernel_rfl) (fun L a' W K hK hL hcl hn hd hI => ?_) ?_
  · obtain ⟨s7, s8, s9, s10, s11, s12, s13, s14, s15, s16, s17, s18, s19, s20, rfl, h0, h1, h2, h3, h4, h5, h6, h8, h9, h10, h11, hM⟩ := hI
    have n14 : ¬ Dn L 14 := fun q => hn (hcl 14 _ rfl q 1 (by decide))
    go_simp
    exact hK _ _ ⟨_, _, _, _, _, _, _, _, _, _, _, _, _, _, rfl, (by first | exact fun _ => rfl | exact fun q => h0 (((dn_set hL).1 q).resolve_left (by decide))), (by first | exact fun _ => rfl | exact fun q => h1 (((dn_set hL).1 q).resolve_left (by decide))), (by first | exact fun _ => rfl | exact fun q => h2 (((dn_set hL).1 q).resolve_left (by decide))), (by first | exact fun _ => rfl | exact fun q => h3 (((dn_set hL).1 q).resolve_left (by decide))), (by first | exact fun _ => rfl | exact fun q => h4 (((dn_set hL).1 q).resolve_left (by decide))), (by first | exact fun _ => rfl | exact fun q => h5 (((dn_set hL).1 q).resolve_left (by decide))), (by first | exact fun _ => rfl | exact fun q => h6 (((dn_set hL).1 q).resolve_left (by decide))), (by first | exact fun _ => rfl | exact fun q => h8 (((dn_set hL).1 q).resolve_left (by decide))), (by first | exact fun _ => rfl | exact fun q => h9 (((dn_set hL).1 q).resolve_left (by decide))), (by first | exact fun _ => rfl | exact fun q => h10 (((dn_set hL).1 q).resolve_left (by decide))), (by first | exact fun _ => rfl | exact fun q => h11 (((dn_set hL).1 q).resolve_left (by decide))), hM.pure hL ⟨by decide, by decide, by decide, by decide⟩⟩
  refine KeepAll.cons (ds := [1]) rfl (by kernel_rfl) (fun L a' W K hK hL hcl hn hd hI => ?_) ?_
  · obtain ⟨s7, s8, s9, s10, s11, s12, s13, s14, s15, s16, s17, s18, s19, s20, rfl, h0, h1, h2, h3, h4, h5, h6, h8, h9, h10, h11, hM⟩ := hI
    have n14 : ¬ Dn L 14 := fun q => hn (hcl 14 _ rfl q 2 (by decide))
    obtain rfl := h1 (hd 1 (by simp))
    have KC := C7.on CX.out (hM.b0 n14)
    obtain ⟨k0, k1, k2, k3, k4, k5, k6⟩ := KC
    go_simp
    exact hK _ _ ⟨_, _, _, _, _, _, _, _, _, _, _, _, _, _, rfl, (by first | exact fun _ => rfl | exact fun q => h0 (((dn_set hL).1 q).resolve_left (by decide))), (by first | exact fun _ => rfl | exact fun q => h1 (((dn_set hL).1 q).resolve_left (by decide))), (by first | exact fun _ => rfl | exact fun q => h2 (((dn_set hL).1 q).resolve_left (by decide))), (by first | exact fun _ => rfl | exact fun q => h3 (((dn_set hL).1 q).resolve_left (by decide))), (by first | exact fun _ => rfl | exact fun q => h4 (((dn_set hL).1 q).resolve_left (by decide))), (by first | exact fun _ => rfl | exact fun q => h5 (((dn_set hL).1 q).resolve_left (by decide))), (by first | exact fun _ => rfl | exact fun q => h6 (((dn_set hL).1 q).resolve_left (by decide))), (by first | exact fun _ => rfl | exact fun q => h8 (((dn_set hL).1 q).resolve_left (by decide))), (by first | exact fun _ => rfl | exact fun q => h9 (((dn_set hL).1 q).resolve_left (by decide))), (by first | exact fun _ => rfl | exact fun q => h10 (((dn_set hL).1 q).resolve_left (by decide))), (by first | exact fun _ => rfl | exact fun q => h11 (((dn_set hL).1 q).resolve_left (by decide))), hM.pure hL ⟨by decide, by decide, by decide, by decide⟩⟩
  refine KeepAll.cons (ds := []) rfl (by kernel_rfl) (fun L a' W K hK hL hcl hn hd hI => ?_) ?_
  · obtain ⟨s7, s8, s9, s10, s11, s12, s13, s14, s15, s16, s17, s18, s19, s20, rfl, h0, h1, h2, h3, h4, h5, h6, h8, h9, h10, h11, hM⟩ := hI
    have n14 : ¬ Dn L 14 := fun q => hn (hcl 14 _ rfl q 3 (by decide))
    go_simp
    exact hK _ _ ⟨_, _, _, _, _, _, _, _, _, _, _, _, _, _, rfl, (by first | exact fun _ => rfl | exact fun q => h0 (((dn_set hL).1 q).resolve_left (by decide))), (by first | exact fun _ => rfl | exact fun q => h1 (((dn_set hL).1 q).resolve_left (by decide))), (by first | exact fun _ => rfl | exact fun q => h2 (((dn_set hL).1 q).resolve_left (by decide))), (by first | exact fun _ => rfl | exact fun q => h3 (((dn_set hL).1 q).resolve_left (by decide))), (by first | exact fun _ => rfl | exact fun q => h4 (((dn_set hL).1 q).resolve_left (by decide))), (by first | exact fun _ => rfl | exact fun q => h5 (((dn_set hL).1 q).resolve_left (by decide))), (by first | exact fun _ => rfl | exact fun q => h6 (((dn_set hL).1 q).resolve_left (by decide))), (by first | exact fun _ => rfl | exact fun q => h8 (((dn_set hL).1 q).resolve_left (by decide))), (by first | exact fun _ => rfl | exact fun q => h9 (((dn_set hL).1 q).resolve_left (by decide))), (by first | exact fun _ => rfl | exact fun q => h10 (((dn_set hL).1 q).resolve_left (by decide))), (by first | exact fun _ => rfl | exact fun q => h11 (((dn_set hL).1 q).resolve_left (by decide))), hM.pure hL ⟨by decide, by decide, by decide, by decide⟩⟩
  refine KeepAll.cons (ds := []) rfl (by kernel_rfl) (fun L a' W K hK hL hcl hn hd hI => ?_) ?_
  · obtain ⟨s7, s8, s9, s10, s11, s12, s13, s14, s15, s16, s17, s18, s19, s20, rfl, h0, h1, h2, h3, h4, h5, h6, h8, h9, h10, h11, hM⟩ := hI
    have n14 : ¬ Dn L 14 := fun q => hn (hcl 14 _ rfl q 4 (by decide))
    go_simp
    exact hK _ _ ⟨_, _, _, _, _, _, _, _, _, _, _, _, _, _, rfl, (by first | exact fun _ => rfl | exact fun q => h0 (((dn_set hL).1 q).resolve_left (by decide))), (by first | exact fun _ => rfl | exact fun q => h1 (((dn_set hL).1 q).resolve_left (by decide))), (by first | exact fun _ => rfl | exact fun q => h2 (((dn_set hL).1 q).resolve_left (by decide))), (by first | exact fun _ => rfl | exact fun q => h3 (((dn_set hL).1 q).resolve_left (by decide))), (by first | exact fun _ => rfl | exact fun q => h4 (((dn_set hL).1 q).resolve_left (by decide))), (by first | exact fun _ => rfl | exact fun q => h5 (((dn_set hL).1 q).resolve_left (by decide))), (by first | exact fun _ => rfl | exact fun q => h6 (((dn_set hL).1 q).resolve_left (by decide))), (by first | exact fun _ => rfl | exact fun q => h8 (((dn_set hL).1 q).resolve_left (by decide))), (by first | exact fun _ => rfl | exact fun q => h9 (((dn_set hL).1 q).resolve_left (by decide))), (by first | exact fun _ => rfl | exact fun q => h10 (((dn_set hL).1 q).resolve_left (by decide))), (by first | exact fun _ => rfl | exact fun q => h11 (((dn_set hL).1 q).resolve_left (by decide))), hM.pure hL ⟨by decide, by decide, by decide, by decide⟩⟩
  refine KeepAll.cons (ds := []) rfl (by kernel_rfl) (fun L a' W K hK hL hcl hn hd hI => ?_) ?_
  · obtain ⟨s7, s8, s9, s10, s11, s12, s13, s14, s15, s16, s17, s18, s19, s20, rfl, h0, h1, h2, h3, h4, h5, h6, h8, h9, h10, h11, hM⟩ := hI
    have n14 : ¬ Dn L 14 := fun q => hn (hcl 14 _ rfl q 5 (by decide))
    go_simp
    exact hK _ _ ⟨_, _, _, _, _, _, _, _, _, _, _, _, _, _, rfl, (by first | exact fun _ => rfl | exact fun q => h0 (((dn_set hL).1 q).resolve_left (by decide))), (by first | exact fun _ => rfl | exact fun q => h1 (((dn_set hL).1 q).resolve_left (by decide))), (by first | exact fun _ => rfl | exact fun q => h2 (((dn_set hL).1 q).resolve_left (by decide))), (by first | exact fun _ => rfl | exact fun q => h3 (((dn_set hL).1 q).resolve_left (by decide))), (by first | exact fun _ => rfl | exact fun q => h4 (((dn_set hL).1 q).resolve_left (by decide))), (by first | exact fun _ => rfl | exact fun q => h5 (((dn_set hL).1 q).resolve_left (by decide))), (by first | exact fun _ => rfl | exact fun q => h6 (((dn_set hL).1 q).resolve_left (by decide))), (by first | exact fun _ => rfl | exact fun q => h8 (((dn_set hL).1 q).resolve_left (by decide))), (by first | exact fun _ => rfl | exact fun q => h9 (((dn_set hL).1 q).resolve_left (by decide))), (by first | exact fun _ => rfl | exact fun q => h10 (((dn_set hL).1 q).resolve_left (by decide))), (by first | exact fun _ => rfl | exact fun q => h11 (((dn_set hL).1 q).resolve_left (by decide))), hM.pure hL ⟨by decide, by decide, by decide, by decide⟩⟩
  refine KeepAll.cons (ds := [5]) rfl (by kernel_rfl) (fun L a' W K hK hL hcl hn hd hI => ?_) ?_
  · obtain ⟨s7, s8, s9, s10, s11, s12, s13, s14, s15, s16, s17, s18, s19, s20, rfl, h0, h1, h2, h3, h4, h5, h6, h8, h9, h10, h11, hM⟩ := hI
    have n14 : ¬ Dn L 14 := fun q => hn (hcl 14 _ rfl q 6 (by decide))
    obtain rfl := h5 (hd 5 (by simp))
    have KC := C7.on CX.out (hM.b0 n14)
    obtain ⟨k0, k1, k2, k3, k4, k5, k6⟩ := KC
    go_simp
    exact hK _ _ ⟨_, _, _, _, _, _, _, _, _, _, _, _, _, _, rfl, (by first | exact fun _ => rfl | exact fun q => h0 (((dn_set hL).1 q).resolve_left (by decide))), (by first | exact fun _ => rfl | exact fun q => h1 (((dn_set hL).1 q).resolve_left (by decide))), (by first | exact fun _ => rfl | exact fun q => h2 (((dn_set hL).1 q).resolve_left (by decide))), (by first | exact fun _ => rfl | exact fun q => h3 (((dn_set hL).1 q).resolve_left (by decide))), (by first | exact fun _ => rfl | exact fun q => h4 (((dn_set hL).1 q).resolve_left (by decide))), (by first | exact fun _ => rfl | exact fun q => h5 (((dn_set hL).1 q).resolve_left (by decide))), (by first | exact fun _ => rfl | exact fun q => h6 (((dn_set hL).1 q).resolve_left (by decide))), (by first | exact fun _ => rfl | exact fun q => h8 (((dn_set hL).1 q).resolve_left (by decide))), (by first | exact fun _ => rfl | exact fun q => h9 (((dn_set hL).1 q).resolve_left (by decide))), (by first | exact fun _ => rfl | exact fun q => h10 (((dn_set hL).1 q).resolve_left (by decide))), (by first | exact fun _ => rfl | exact fun q => h11 (((dn_set hL).1 q).resolve_left (by decide))), hM.pure hL ⟨by decide, by decide, by decide, by decide⟩⟩
  refine KeepAll.cons (ds := [3, 4, 6]) rfl (by kernel_rfl) (fun L a' W K hK hL hcl hn hd hI => ?_) ?_
  · obtain ⟨s7, s8, s9, s10, s11, s12, s13, s14, s15, s16, s17, s18, s19, s20, rfl, h0, h1, h2, h3, h4, h5, h6, h8, h9, h10, h11, hM⟩ := hI
    have n14 : ¬ Dn L 14 := fun q => hn (hcl 14 _ rfl q 7 (by decide))
    obtain rfl := h3 (hd 3 (by simp))
    obtain rfl := h4 (hd 4 (by simp))
    obtain rfl := h6 (hd 6 (by simp))
    go_simp
    refine (E1 W hM.bw).mono ?_
    rintro e W' ⟨y, k, rfl, ho, hb⟩
    exact hK _ _ ⟨_, _, _, _, _, _, _, _, _, _, _, _, _, _, rfl, (by first | exact fun _ => rfl | exact fun q => h0 (((dn_set hL).1 q).resolve_left (by decide))), (by first | exact fun _ => rfl | exact fun q => h1 (((dn_set hL).1 q).resolve_left (by decide))), (by first | exact fun _ => rfl | exact fun q => h2 (((dn_set hL).1 q).resolve_left (by decide))), (by first | exact fun _ => rfl | exact fun q => h3 (((dn_set hL).1 q).resolve_left (by decide))), (by first | exact fun _ => rfl | exact fun q => h4 (((dn_set hL).1 q).resolve_left (by decide))), (by first | exact fun _ => rfl | exact fun q => h5 (((dn_set hL).1 q).resolve_left (by decide))), (by first | exact fun _ => rfl | exact fun q => h6 (((dn_set hL).1 q).resolve_left (by decide))), (by first | exact fun _ => rfl | exact fun q => h8 (((dn_set hL).1 q).resolve_left (by decide))), (by first | exact fun _ => rfl | exact fun q => h9 (((dn_set hL).1 q).resolve_left (by decide))), (by first | exact fun _ => rfl | exact fun q => h10 (((dn_set hL).1 q).resolve_left (by decide))), (by first | exact fun _ => rfl | exact fun q => h11 (((dn_set hL).1 q).resolve_left (by decide))), hM.add7 hL n14 hb ho trivial⟩
  refine KeepAll.cons (ds := []) rfl (by kernel_rfl) (fun L a' W K hK hL hcl hn hd hI => ?_) ?_
  · obtain ⟨s7, s8, s9, s10, s11, s12, s13, s14, s15, s16, s17, s18, s19, s20, rfl, h0, h1, h2, h3, h4, h5, h6, h8, h9, h10, h11, hM⟩ := hI
    have n14 : ¬ Dn L 14 := fun q => hn (hcl 14 _ rfl q 8 (by decide))
    go_simp
    exact hK _ _ ⟨_, _, _, _, _, _, _, _, _, _, _, _, _, _, rfl, (by first | exact fun _ => rfl | exact fun q => h0 (((dn_set hL).1 q).resolve_left (by decide))), (by first | exact fun _ => rfl | exact fun q => h1 (((dn_set hL).1 q).resolve_left (by decide))), (by first | exact fun _ => rfl | exact fun q => h2 (((dn_set hL).1 q).resolve_left (by decide))), (by first | exact fun _ => rfl | exact fun q => h3 (((dn_set hL).1 q).resolve_left (by decide))), (by first | exact fun _ => rfl | exact fun q => h4 (((dn_set hL).1 q).resolve_left (by decide))), (by first | exact fun _ => rfl | exact fun q => h5 (((dn_set hL).1 q).resolve_left (by decide))), (by first | exact fun _ => rfl | exact fun q => h6 (((dn_set hL).1 q).resolve_left (by decide))), (by first | exact fun _ => rfl | exact fun q => h8 (((dn_set hL).1 q).resolve_left (by decide))), (by first | exact fun _ => rfl | exact fun q => h9 (((dn_set hL).1 q).resolve_left (by decide))), (by first | exact fun _ => rfl | exact fun q => h10 (((dn_set hL).1 q).resolve_left (by decide))), (by first | exact fun _ => rfl | exact fun q => h11 (((dn_set hL).1 q).resolve_left (by decide))), hM.pure hL ⟨by decide, by decide, by decide, by decide⟩⟩
  refine KeepAll.cons (ds := []) rfl (by kernel_rfl) (fun L a' W K hK hL hcl hn hd hI => ?_) ?_
  · obtain ⟨s7, s8, s9, s10, s11, s12, s13, s14, s15, s16, s17, s18, s19, s20, rfl, h0, h1, h2, h3, h4, h5, h6, h8, h9, h10, h11, hM⟩ := hI
    have n14 : ¬ Dn L 14 := fun q => hn (hcl 14 _ rfl q 9 (by decide))
    go_simp
    exact hK _ _ ⟨_, _, _, _, _, _, _, _, _, _, _, _, _, _, rfl, (by first | exact fun _ => rfl | exact fun q => h0 (((dn_set hL).1 q).resolve_left (by decide))), (by first | exact fun _ => rfl | exact fun q => h1 (((dn_set hL).1 q).resolve_left (by decide))), (by first | exact fun _ => rfl | exact fun q => h2 (((dn_set hL).1 q).resolve_left (by decide))), (by first | exact fun _ => rfl | exact fun q => h3 (((dn_set hL).1 q).resolve_left (by decide))), (by first | exact fun _ => rfl | exact fun q => h4 (((dn_set hL).1 q).resolve_left (by decide))), (by first | exact fun _ => rfl | exact fun q => h5 (((dn_set hL).1 q).resolve_left (by decide))), (by first | exact fun _ => rfl | exact fun q => h6 (((dn_set hL).1 q).resolve_left (by decide))), (by first | exact fun _ => rfl | exact fun q => h8 (((dn_set hL).1 q).resolve_left (by decide))), (by first | exact fun _ => rfl | exact fun q => h9 (((dn_set hL).1 q).resolve_left (by decide))), (by first | exact fun _ => rfl | exact fun q => h10 (((dn_set hL).1 q).resolve_left (by decide))), (by first | exact fun _ => rfl | exact fun q => h11 (((dn_set hL).1 q).resolve_left (by decide))), hM.pure hL ⟨by decide, by decide, by decide, by decide⟩⟩
  refine KeepAll.cons (ds := []) rfl (by kernel_rfl) (fun L a' W K hK hL hcl hn hd hI => ?_) ?_
  · obtain ⟨s7, s8, s9, s10, s11, s12, s13, s14, s15, s16, s17, s18, s19, s20, rfl, h0, h1, h2, h3, h4, h5, h6, h8, h9, h10, h11, hM⟩ := hI
    have n14 : ¬ Dn L 14 := fun q => hn (hcl 14 _ rfl q 10 (by decide))
    go_simp
    exact hK _ _ ⟨_, _, _, _, _, _, _, _, _, _, _, _, _, _, rfl, (by first | exact fun _ => rfl | exact fun q => h0 (((dn_set hL).1 q).resolve_left (by decide))), (by first | exact fun _ => rfl | exact fun q => h1 (((dn_set hL).1 q).resolve_left (by decide))), (by first | exact fun _ => rfl | exact fun q => h2 (((dn_set hL).1 q).resolve_left (by decide))), (by first | exact fun _ => rfl | exact fun q => h3 (((dn_set hL).1 q).resolve_left (by decide))), (by first | exact fun _ => rfl | exact fun q => h4 (((dn_set hL).1 q).resolve_left (by decide))), (by first | exact fun _ => rfl | exact fun q => h5 (((dn_set hL).1 q).resolve_left (by decide))), (by first | exact fun _ => rfl | exact fun q => h6 (((dn_set hL).1 q).resolve_left (by decide))), (by first | exact fun _ => rfl | exact fun q => h8 (((dn_set hL).1 q).resolve_left (by decide))), (by first | exact fun _ => rfl | exact fun q => h9 (((dn_set hL).1 q).resolve_left (by decide))), (by first | exact fun _ => rfl | exact fun q => h10 (((dn_set hL).1 q).resolve_left (by decide))), (by first | exact fun _ => rfl | exact fun q => h11 (((dn_set hL).1 q).resolve_left (by decide))), hM.pure hL ⟨by decide, by decide, by decide, by decide⟩⟩
  refine KeepAll.cons (ds := [10]) rfl (by kernel_rfl) (fun L a' W K hK hL hcl hn hd hI => ?_) ?_
  · obtain ⟨s7, s8, s9, s10, s11, s12, s13, s14, s15, s16, s17, s18, s19, s20, rfl, h0, h1, h2, h3, h4, h5, h6, h8, h9, h10, h11, hM⟩ := hI
    have n14 : ¬ Dn L 14 := fun q => hn (hcl 14 _ rfl q 11 (by decide))
    obtain rfl := h10 (hd 10 (by simp))
    have KC := C7.on CX.out (hM.b0 n14)
    obtain ⟨k0, k1, k2, k3, k4, k5, k6⟩ := KC
    go_simp
    exact hK _ _ ⟨_, _, _, _, _, _, _, _, _, _, _, _, _, _, rfl, (by first | exact fun _ => rfl | exact fun q => h0 (((dn_set hL).1 q).resolve_left (by decide))), (by first | exact fun _ => rfl | exact fun q => h1 (((dn_set hL).1 q).resolve_left (by decide))), (by first | exact fun _ => rfl | exact fun q => h2 (((dn_set hL).1 q).resolve_left (by decide))), (by first | exact fun _ => rfl | exact fun q => h3 (((dn_set hL).1 q).resolve_left (by decide))), (by first | exact fun _ => rfl | exact fun q => h4 (((dn_set hL).1 q).resolve_left (by decide))), (by first | exact fun _ => rfl | exact fun q => h5 (((dn_set hL).1 q).resolve_left (by decide))), (by first | exact fun _ => rfl | exact fun q => h6 (((dn_set hL).1 q).resolve_left (by decide))), (by first | exact fun _ => rfl | exact fun q => h8 (((dn_set hL).1 q).resolve_left (by decide))), (by first | exact fun _ => rfl | exact fun q => h9 (((dn_set hL).1 q).resolve_left (by decide))), (by first | exact fun _ => rfl | exact fun q => h10 (((dn_set hL).1 q).resolve_left (by decide))), (by first | exact fun _ => rfl | exact fun q => h11 (((dn_set hL).1 q).resolve_left (by decide))), hM.pure hL ⟨by decide, by decide, by decide, by decide⟩⟩
  refine KeepAll.cons (ds := [8, 9, 11, 7]) rfl (by kernel_rfl) (fun L a' W K hK hL hcl hn hd hI => ?_) ?_
  · obtain ⟨s7, s8, s9, s10, s11, s12, s13, s14, s15, s16, s17, s18, s19, s20, rfl, h0, h1, h2, h3, h4, h5, h6, h8, h9, h10, h11, hM⟩ := hI
    have n14 : ¬ Dn L 14 := fun q => hn (hcl 14 _ rfl q 12 (by decide))
    obtain rfl := h8 (hd 8 (by simp))
    obtain rfl := h9 (hd 9 (by simp))
    obtain rfl := h11 (hd 11 (by simp))
    go_simp
    refine (E2 W hM.bw).mono ?_
    rintro e W' ⟨y, k, rfl, ho, hb⟩
    exact hK _ _ ⟨_, _, _, _, _, _, _, _, _, _, _, _, _, _, rfl, (by first | exact fun _ => rfl | exact fun q => h0 (((dn_set hL).1 q).resolve_left (by decide))), (by first | exact fun _ => rfl | exact fun q => h1 (((dn_set hL).1 q).resolve_left (by decide))), (by first | exact fun _ => rfl | exact fun q => h2 (((dn_set hL).1 q).resolve_left (by decide))), (by first | exact fun _ => rfl | exact fun q => h3 (((dn_set hL).1 q).resolve_left (by decide))), (by first | exact fun _ => rfl | exact fun q => h4 (((dn_set hL).1 q).resolve_left (by decide))), (by first | exact fun _ => rfl | exact fun q => h5 (((dn_set hL).1 q).resolve_left (by decide))), (by first | exact fun _ => rfl | exact fun q => h6 (((dn_set hL).1 q).resolve_left (by decide))), (by first | exact fun _ => rfl | exact fun q => h8 (((dn_set hL).1 q).resolve_left (by decide))), (by first | exact fun _ => rfl | exact fun q => h9 (((dn_set hL).1 q).resolve_left (by decide))), (by first | exact fun _ => rfl | exact fun q => h10 (((dn_set hL).1 q).resolve_left (by decide))), (by first | exact fun _ => rfl | exact fun q => h11 (((dn_set hL).1 q).resolve_left (by decide))), hM.add12 hL n14 hb ho trivial⟩
  refine KeepAll.cons (ds := [0, 2, 7, 12, 12]) rfl (by kernel_rfl) (fun L a' W K hK hL hcl hn hd hI => ?_) ?_
  · obtain ⟨s7, s8, s9, s10, s11, s12, s13, s14, s15, s16, s17, s18, s19, s20, rfl, h0, h1, h2, h3, h4, h5, h6, h8, h9, h10, h11, hM⟩ := hI
    have n14 : ¬ Dn L 14 := fun q => hn (hcl 14 _ rfl q 13 (by decide))
    obtain rfl := h0 (hd 0 (by simp))
    obtain rfl := h2 (hd 2 (by simp))
    obtain ⟨y, k, rfl, hy, hcy⟩ := hM.c7 (hd 7 (by simp)) n14
    obtain ⟨z, l, rfl, hz, hcz⟩ := hM.c12 (hd 12 (by simp)) n14
    go_simp
    refine (CM y z k l W hM.bw hy hz).mono ?_
    rintro e W' ⟨e1, m1, e2, m2, S1, S2, rfl, hO, hb⟩
    exact hK _ _ ⟨_, _, _, _, _, _, _, _, _, _, _, _, _, _, rfl, (by first | exact fun _ => rfl | exact fun q => h0 (((dn_set hL).1 q).resolve_left (by decide))), (by first | exact fun _ => rfl | exact fun q => h1 (((dn_set hL).1 q).resolve_left (by decide))), (by first | exact fun _ => rfl | exact fun q => h2 (((dn_set hL).1 q).resolve_left (by decide))), (by first | exact fun _ => rfl | exact fun q => h3 (((dn_set hL).1 q).resolve_left (by decide))), (by first | exact fun _ => rfl | exact fun q => h4 (((dn_set hL).1 q).resolve_left (by decide))), (by first | exact fun _ => rfl | exact fun q => h5 (((dn_set hL).1 q).resolve_left (by decide))), (by first | exact fun _ => rfl | exact fun q => h6 (((dn_set hL).1 q).resolve_left (by decide))), (by first | exact fun _ => rfl | exact fun q => h8 (((dn_set hL).1 q).resolve_left (by decide))), (by first | exact fun _ => rfl | exact fun q => h9 (((dn_set hL).1 q).resolve_left (by decide))), (by first | exact fun _ => rfl | exact fun q => h10 (((dn_set hL).1 q).resolve_left (by decide))), (by first | exact fun _ => rfl | exact fun q => h11 (((dn_set hL).1 q).resolve_left (by decide))), hM.add13 hL n14 hb hO⟩
  refine KeepAll.cons (ds := [13, 13, 0, 1, 2, 3, 4, 5, 6, 7, 8, 9, 10, 11, 12, 13]) rfl (by kernel_rfl) (fun L a' W K hK hL hcl hn hd hI => ?_) ?_
  · obtain ⟨s7, s8, s9, s10, s11, s12, s13, s14, s15, s16, s17, s18, s19, s20, rfl, h0, h1, h2, h3, h4, h5, h6, h8, h9, h10, h11, hM⟩ := hI
    obtain ⟨e1, m1, e2, m2, S1, S2, rfl, hO⟩ := hM.c13 (hd 13 (by simp))
    have HR := hM.r hn
    obtain ⟨u0, u1, u2, u3, u4, u5, u6, uf⟩ := HR
    have f0 := uf 0
    have f1 := uf 1
    have f2 := uf 2
    have f3 := uf 3
    have f4 := uf 4
    have f5 := uf 5
    have f6 := uf 6
    clear uf hO
    have hM2 := hM.put hL hn (by omega) (by omega)
    unfold litV at hM2 ⊢
    go_simp
    exact hK _ _ ⟨_, _, _, _, _, _, _, _, _, _, _, _, _, _, rfl, (by first | exact fun _ => rfl | exact fun q => h0 (((dn_set hL).1 q).resolve_left (by decide))), (by first | exact fun _ => rfl | exact fun q => h1 (((dn_set hL).1 q).resolve_left (by decide))), (by first | exact fun _ => rfl | exact fun q => h2 (((dn_set hL).1 q).resolve_left (by decide))), (by first | exact fun _ => rfl | exact fun q => h3 (((dn_set hL).1 q).resolve_left (by decide))), (by first | exact fun _ => rfl | exact fun q => h4 (((dn_set hL).1 q).resolve_left (by decide))), (by first | exact fun _ => rfl | exact fun q => h5 (((dn_set hL).1 q).resolve_left (by decide))), (by first | exact fun _ => rfl | exact fun q => h6 (((dn_set hL).1 q).resolve_left (by decide))), (by first | exact fun _ => rfl | exact fun q => h8 (((dn_set hL).1 q).resolve_left (by decide))), (by first | exact fun _ => rfl | exact fun q => h9 (((dn_set hL).1 q).resolve_left (by decide))), (by first | exact fun _ => rfl | exact fun q => h10 (((dn_set hL).1 q).resolve_left (by decide))), (by first | exact fun _ => rfl | exact fun q => h11 (((dn_set hL).1 q).resolve_left (by decide))), hM2⟩
  exact KeepAll.nil
end Go.Proofs.YtollijngiioonabGreat

/- Contracts of the laws' helpers on what is put for variables: how much it holds, whether two are alike. Conditions: at most 549755813888 parts. -/
namespace Go.Proofs.YtollijngiioonabGreat
set_option maxRecDepth 100000
open Go.RowKit

set_option maxHeartbeats 800000 in
theorem szBind_any (u : BindD) (a : Option Addr) (c hi : Nat) (m : Int) (w : World) (hm0 : 0 ≤ m) (hm : m ≤ 1048576) (hr : RdK w hi a u.t.kids) (hhi : hi ≤ w.heap.size) :
    Calls Tryz.prog 20 #[.agg #[.int .i64 u.n, .int .i64 u.t.f, .int .i64 u.t.v, .slice a u.t.kids.length c], .int .i64 m] w fun e w' => e = .returned (.int .i64 (szR u.t.kids m)) ∧ Below w.heap.size w w' := by
  have h0 : Below w.heap.size w (w.alloc (.cells #[.int .i64 u.n, .int .i64 u.t.f, .int .i64 u.t.v, .slice a u.t.kids.length c] 55)) := (Below.refl w.heap.size w).alloc (Nat.le_refl _) _
  have H1 := szTerm_any u.t a c hi m _ hm0 hm (hr.on (h0.mono hhi)) (Nat.le_trans hhi h0.size)
  have hr1 : szR u.t.kids m < 0 → szR u.t.kids m = -1 := by unfold szR; split <;> omega
  generalize szR u.t.kids m = r at *
  by_cases hn : r < 0
  · have hr2 := hr1 hn
    subst hr2
    clear hr1
    go_enter Tryz.func20, Tryz.ntmps20
    go_wp2_with (go_at_call 21; refine H1.mono ?_; rintro e w1 ⟨rfl, hb1⟩; clear H1)
    go_ret
    exact ⟨rfl, h0.trans (hb1.mono h0.size)⟩
  · clear hr1
    go_enter Tryz.func20, Tryz.ntmps20
    go_wp2_with (go_at_call 21; refine H1.mono ?_; rintro e w1 ⟨rfl, hb1⟩; clear H1)
    go_ret
    exact ⟨rfl, h0.trans (hb1.mono h0.size)⟩

set_option maxHeartbeats 1600000 in
theorem szBindS_any (us : List BindD) (a : Option Addr) (c hi : Nat) (m : Int) (w : World) (hm0 : 0 ≤ m) (hm : m ≤ 1048576) (hl : us.length ≤ 9223372036854775807) (hr : RdU w hi a us) (hhi : hi ≤ w.heap.size) :
    Calls Tryz.prog 5 #[.slice a us.length c, .int .i64 m] w fun e w' => e = .returned (.int .i64 (szU us m)) ∧ Below w.heap.size w w' := by
  have HR : Hid _ := hr
  clear hr
  by_cases h0 : (us.length : Int) ≤ m
  · have hsub : IntKind.i64.wrap (m - (us.length : Int)) = m - (us.length : Int) := by rw [IntKind.wrap_i64]; omega
    have hnn : ¬ (m - (us.length : Int)) < 0 := by omega
    go_enter Tryz.func5, Tryz.ntmps5
    go_wp2_with fail
    go_loopw [1, 5] (fun l i wr => ∃ k : Nat, k ≤ us.length ∧ i = .int .i64 k ∧ l = .int .i64 (m - us.length - (((us.take k).map (fun u => partsL u.t.kids)).sum : Nat)) ∧ (((us.take k).map (fun u => partsL u.t.kids)).sum : Int) ≤ m - us.length ∧ Below w.heap.size w wr) (fun _ i _ => us.length - (intOf i).toNat)
    case atStart => exact ⟨0, Nat.zero_le _, rfl, by simp, by simp; omega, Below.refl _ _⟩
    case round =>
      obtain ⟨k, hk, rfl, rfl, hle, hb⟩ := hrel
      by_cases hk' : k < us.length
      · obtain ⟨b, off, a', c', rfl, hlt, d0, d1, d2, d3, hc', hkr, hz⟩ := RdU.get (HR.out.on (hb.mono hhi)) hk'
        have hki : (k : Int) < (us.length : Int) := by omega
        have HN : Hid _ := sum_nextU hk'
        have HT : Hid _ := sum_takeU us (k + 1)
        obtain ⟨S, hS⟩ : ∃ S, S = ((us.take k).map (fun u => partsL u.t.kids)).sum := ⟨_, rfl⟩
        rw [← hS] at hle HN ⊢
        clear hS
        have C := szBind_any us[k] a' c' hi (m - us.length - (S : Nat)) wr (by omega) (by omega) hkr (Nat.le_trans hhi hb.size)
        generalize us[k] = u at d0 d1 d2 d3 C HN
        by_cases hp : (partsL u.t.kids : Int) ≤ m - us.length - (S : Nat)
        · rw [show szR u.t.kids (m - us.length - (S : Nat)) = m - us.length - (S : Nat) - partsL u.t.kids by unfold szR; rw [if_pos hp]] at C
          have hn2 : ¬ (m - (us.length : Int) - (S : Nat) - (partsL u.t.kids : Int)) < 0 := by omega
          clear hkr hz hc'
          go_wp2_with (go_at_call 20; refine C.mono ?_; rintro e w1 ⟨rfl, hb1⟩; clear C)
          go_roundw
          case rel => exact ⟨k + 1, by omega, by go_num, by rw [HN.out]; congr 1; push_cast; omega, by rw [HN.out]; push_cast; omega, hb.trans (hb1.mono hb.size)⟩
          case measure => simp [intOf]; omega
        · rw [show szR u.t.kids (m - us.length - (S : Nat)) = -1 by unfold szR; rw [if_neg hp]] at C
          have HF : Hid (szU us m = -1) := by
            show _ = _
            unfold szU partsU
            rw [if_neg]
            have h1 := HN.out
            have h2 := HT.out
            push_cast
            omega
          clear hkr hz hc'
          go_wp2_with (go_at_call 20; refine C.mono ?_; rintro e w1 ⟨rfl, hb1⟩; clear C)
          go_ret
          exact ⟨rt_int HF.out.symm, hb.trans (hb1.mono hb.size)⟩
      · have e : k = us.length := by omega
        have HF : Hid (szU us m = m - us.length - (((us.take k).map (fun u => partsL u.t.kids)).sum : Nat)) := by
          show _ = _
          rw [e, List.take_length] at hle ⊢
          unfold szU partsU
          rw [if_pos (by push_cast; omega)]
          push_cast; omega
        have hki : ¬ (k : Int) < (us.length : Int) := by omega
        clear e
        go_wp2_with fail
        go_ret
        exact ⟨rt_int (by rw [HF.out, List.map_take]), hb⟩
  · have hsub : IntKind.i64.wrap (m - (us.length : Int)) = m - (us.length : Int) := by rw [IntKind.wrap_i64]; omega
    have hnn : (m - (us.length : Int)) < 0 := by omega
    have HF : Hid (szU us m = -1) := by
      show _ = _
      unfold szU partsU
      rw [if_neg]
      push_cast
      omega
    go_enter Tryz.func5, Tryz.ntmps5
    go_wp2_with fail
    go_ret
    exact ⟨rt_int HF.out.symm, Below.refl _ _⟩

set_option maxHeartbeats 800000 in
theorem eqBind_same (u : BindD) (a a' : Option Addr) (c c' hi : Nat) (w : World) (hp : partsT u.t ≤ 549755813888) (hr : RdK w hi a u.t.kids) (hr' : RdK w hi a' u.t.kids) (hhi : hi ≤ w.heap.size) :
    Calls Tryz.prog 31 #[.agg #[.int .i64 u.n, .int .i64 u.t.f, .int .i64 u.t.v, .slice a u.t.kids.length c], .agg #[.int .i64 u.n, .int .i64 u.t.f, .int .i64 u.t.v, .slice a' u.t.kids.length c']] w fun e w' => e = .returned (.bool true) ∧ Below w.heap.size w w' := by
  have h0 : Below w.heap.size w ((w.alloc (.cells #[.int .i64 u.n, .int .i64 u.t.f, .int .i64 u.t.v, .slice a u.t.kids.length c] 62)).alloc (.cells #[.int .i64 u.n, .int .i64 u.t.f, .int .i64 u.t.v, .slice a' u.t.kids.length c'] 62)) := ((Below.refl _ _).alloc (Nat.le_refl _) _).alloc (by simp) _
  have H1 := eqTerm_same u.t a a' c c' hi _ hp (hr.on (h0.mono hhi)) (hr'.on (h0.mono hhi)) (Nat.le_trans hhi h0.size)
  go_enter Tryz.func31, Tryz.ntmps31
  go_wp2_with (go_at_call 29; refine H1.mono ?_; rintro e w1 ⟨rfl, hb1⟩; clear H1)
  go_ret
  exact ⟨rfl, h0.trans (hb1.mono h0.size)⟩

set_option maxHeartbeats 1600000 in
theorem eqBindS_same (us : List BindD) (a a' : Option Addr) (c c' hi : Nat) (w : World) (hp : partsU us ≤ 549755813887) (hr : RdU w hi a us) (hr' : RdU w hi a' us) (hhi : hi ≤ w.heap.size) :
    Calls Tryz.prog 14 #[.slice a us.length c, .slice a' us.length c'] w fun e w' => e = .returned (.bool true) ∧ Below w.heap.size w w' := by
  have HR : Hid _ := hr
  have HR' : Hid _ := hr'
  have hlen : us.length ≤ 549755813888 := by unfold partsU at hp; omega
  clear hr hr'
  go_enter Tryz.func14, Tryz.ntmps14
  go_wp2_with fail
  go_loopw [5] (fun i wr => ∃ k : Nat, k ≤ us.length ∧ i = .int .i64 k ∧ Below w.heap.size w wr) (fun i _ => us.length - (intOf i).toNat)
  case atStart => exact ⟨0, Nat.zero_le _, rfl, Below.refl _ _⟩
  case round =>
    obtain ⟨k, hk, rfl, hb⟩ := hrel
    by_cases hk' : k < us.length
    · obtain ⟨b, off, x, xc, rfl, hlt, d0, d1, d2, d3, _, hkr, _⟩ := RdU.get (HR.out.on (hb.mono hhi)) hk'
      obtain ⟨b', off', y, yc, rfl, hlt', g0, g1, g2, g3, _, hkr', _⟩ := RdU.get (HR'.out.on (hb.mono hhi)) hk'
      have hki : (k : Int) < (us.length : Int) := by omega
      have hki0 : (0 : Int) ≤ (k : Int) := by omega
      have hpg := partsU_get hk'
      have hpt := partsT_eq us[k].t
      have C := fun (W' : World) (h : Below wr.heap.size wr W') => eqBind_same us[k] x y xc yc hi W' (by omega) (hkr.on (h.mono (Nat.le_trans hhi hb.size))) (hkr'.on (h.mono (Nat.le_trans hhi hb.size))) (Nat.le_trans (Nat.le_trans hhi hb.size) h.size)
      generalize us[k] = u at d0 d1 d2 d3 g0 g1 g2 g3 C
      clear hkr hkr' hpg hpt
      go_wp2_with fail
      have k0 := cellB d0
      have k1 := cellB d1
      have k2 := cellB d2
      have k3 := cellB d3
      have l0 := cellB g0
      have l1 := cellB g1
      have l2 := cellB g2
      have l3 := cellB g3
      refine wp_region_below (by kernel_rfl) (by kernel_rfl) ?_
      repeat (go_big_quiet_step ((go_at_call 31; refine callsB (C _ (BW.b _)))))
      refine wpQuiet_nil ?_
      intro w2 hw'
      have hb2 : Below wr.heap.size wr w2 := by obtain ⟨p, rfl⟩ := hw'; exact p.b
      clear hw' k0 k1 k2 k3 l0 l1 l2 l3
      go_wp2_with fail
      go_roundw
      case rel => exact ⟨k + 1, by omega, by go_num, hb.trans (hb2.mono hb.size)⟩
      case measure => simp [intOf]; omega
    · have hki : ¬ (k : Int) < (us.length : Int) := by omega
      go_wp2_with fail
      go_ret
      exact ⟨rfl, hb⟩
end Go.Proofs.YtollijngiioonabGreat

