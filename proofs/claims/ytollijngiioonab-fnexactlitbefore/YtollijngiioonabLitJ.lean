/- Which equation is ahead, as the program tells. Conditions: at most 549755813888 parts; capacities that hold the lists. -/
import Derived.Test.YtollijngiioonabLitB
import Derived.Test.YtollijngiioonabImp3
namespace Go.Proofs.Ytollijngiioonab
set_option maxRecDepth 100000
open Go.RowKit

set_option maxHeartbeats 1600000 in
theorem impLitBef_any (x y : LitD) (a1 a2 b1 b2 : Option Addr) (c1 c2 d1 d2 hi : Nat) (w : World) (hp1 : partsT x.l ≤ 549755813888) (hp2 : partsT x.r ≤ 549755813888) (hx1 : RdK w hi a1 x.l.kids) (hx2 : RdK w hi a2 x.r.kids) (hy1 : RdK w hi b1 y.l.kids) (hy2 : RdK w hi b2 y.r.kids) (hhi : hi ≤ w.heap.size) (hc1 : x.l.kids.length ≤ c1) (hc2 : x.r.kids.length ≤ c2) (hd1 : y.l.kids.length ≤ d1) (hd2 : y.r.kids.length ≤ d2) :
    Calls Try.prog 12 #[litV x a1 c1 a2 c2, litV y b1 d1 b2 d2] w fun e w' => e = .returned (.bool (befX x y)) ∧ Below w.heap.size w w' := by
  unfold litV
  obtain ⟨W, hW⟩ : ∃ W, W = (w.alloc (.cells #[.bool x.p, .int .i64 x.l.f, .int .i64 x.l.v, .slice a1 x.l.kids.length c1, .int .i64 x.r.f, .int .i64 x.r.v, .slice a2 x.r.kids.length c2] 33)).alloc (.cells #[.bool y.p, .int .i64 y.l.f, .int .i64 y.l.v, .slice b1 y.l.kids.length d1, .int .i64 y.r.f, .int .i64 y.r.v, .slice b2 y.r.kids.length d2] 33) := ⟨_, rfl⟩
  have h0 : Below w.heap.size w W := by rw [hW]; exact ((Below.refl _ _).alloc (Nat.le_refl _) _).alloc (by simp) _
  have p0 : W.cell? ⟨w.heap.size, 0, none⟩ = some (.bool x.p) := by rw [hW]; simp [go_sem]
  have p1 : W.cell? ⟨w.heap.size, 1, none⟩ = some (.int .i64 x.l.f) := by rw [hW]; simp [go_sem]
  have p2 : W.cell? ⟨w.heap.size, 2, none⟩ = some (.int .i64 x.l.v) := by rw [hW]; simp [go_sem]
  have p3 : W.cell? ⟨w.heap.size, 3, none⟩ = some (.slice a1 x.l.kids.length c1) := by rw [hW]; simp [go_sem]
  have p4 : W.cell? ⟨w.heap.size, 4, none⟩ = some (.int .i64 x.r.f) := by rw [hW]; simp [go_sem]
  have p5 : W.cell? ⟨w.heap.size, 5, none⟩ = some (.int .i64 x.r.v) := by rw [hW]; simp [go_sem]
  have p6 : W.cell? ⟨w.heap.size, 6, none⟩ = some (.slice a2 x.r.kids.length c2) := by rw [hW]; simp [go_sem]
  have q0 : W.cell? ⟨(w.heap.size + 1), 0, none⟩ = some (.bool y.p) := by rw [hW]; simp [go_sem]
  have q1 : W.cell? ⟨(w.heap.size + 1), 1, none⟩ = some (.int .i64 y.l.f) := by rw [hW]; simp [go_sem]
  have q2 : W.cell? ⟨(w.heap.size + 1), 2, none⟩ = some (.int .i64 y.l.v) := by rw [hW]; simp [go_sem]
  have q3 : W.cell? ⟨(w.heap.size + 1), 3, none⟩ = some (.slice b1 y.l.kids.length d1) := by rw [hW]; simp [go_sem]
  have q4 : W.cell? ⟨(w.heap.size + 1), 4, none⟩ = some (.int .i64 y.r.f) := by rw [hW]; simp [go_sem]
  have q5 : W.cell? ⟨(w.heap.size + 1), 5, none⟩ = some (.int .i64 y.r.v) := by rw [hW]; simp [go_sem]
  have q6 : W.cell? ⟨(w.heap.size + 1), 6, none⟩ = some (.slice b2 y.r.kids.length d2) := by rw [hW]; simp [go_sem]
  have E1 := termOrder_any x.l y.l a1 b1 c1 d1 hi W hp1 (hx1.on (h0.mono hhi)) (hy1.on (h0.mono hhi)) hc1 hd1 (Nat.le_trans hhi h0.size)
  have E2 := fun (W' : World) (h : Below w.heap.size w W') => impBef_any (partsT x.r) x.r y.r a2 b2 c2 d2 hi W' (Nat.le_refl _) hp2 (hx2.on (h.mono hhi)) (hy2.on (h.mono hhi)) (Nat.le_trans hhi h.size) hc2 hd2
  have HS : Hid (befX x y = if x.p != y.p then y.p else if sameT x.l y.l then befT x.r y.r else befT x.l y.l) := rfl
  have HQ : Hid ((ordT x.l y.l = 0 ↔ sameT x.l y.l = true) ∧ decide (ordT x.l y.l < 0) = befT x.l y.l) := ⟨ordT_same x.l y.l, ordT_bef x.l y.l⟩
  clear hx1 hx2 hy1 hy2 hp1 hp2 hc1 hc2 hd1 hd2
  generalize ordT x.l y.l = q at E1 HQ
  generalize befT x.r y.r = s2 at E2 HS
  have hbp : (¬ x.p = y.p) ∨ x.p = y.p := by cases x.p <;> cases y.p <;> simp
  rcases hbp with hbp | hbp
  · have HF : Hid (befX x y = y.p) := HS.out.trans (by rw [if_pos (by simpa using hbp)])
    have hbq : (x.p == y.p) = false := by simpa using hbp
    rw [hW] at h0
    clear HS E1 E2 HQ
    go_enter Try.func12, Try.ntmps12
    go_wp2_with fail
    go_ret
    exact ⟨rtB HF.out.symm, h0⟩
  · have HS2 : Hid (befX x y = if sameT x.l y.l then s2 else befT x.l y.l) := HS.out.trans (by rw [if_neg (by simp [hbp])])
    have hbq : (x.p == y.p) = true := by simpa using hbp
    have hbr : (x.p != y.p) = false := by simp [hbp]
    clear HS hbp
    by_cases hz : q = 0
    · have HF : Hid (befX x y = s2) := HS2.out.trans (by rw [if_pos (HQ.out.1.1 hz)])
      have hzz : (q != 0) = false := by simp [hz]
      clear HS2 HQ
      subst hz
      clear hzz
      go_enter Try.func12, Try.ntmps12
      go_wp2_with (first
        | (go_at_call_of 25 a1; rw [← hW]; clear hW; refine E1.mono ?_; rintro e w1 ⟨rfl, hb1⟩; have hB1 := h0.trans (hb1.mono h0.size); have p0' := keepC hb1 p0; have p1' := keepC hb1 p1; have p2' := keepC hb1 p2; have p3' := keepC hb1 p3; have p4' := keepC hb1 p4; have p5' := keepC hb1 p5; have p6' := keepC hb1 p6; have q0' := keepC hb1 q0; have q1' := keepC hb1 q1; have q2' := keepC hb1 q2; have q3' := keepC hb1 q3; have q4' := keepC hb1 q4; have q5' := keepC hb1 q5; have q6' := keepC hb1 q6; clear p0 p1 p2 p3 p4 p5 p6 q0 q1 q2 q3 q4 q5 q6; have p0 := p0'; have p1 := p1'; have p2 := p2'; have p3 := p3'; have p4 := p4'; have p5 := p5'; have p6 := p6'; have q0 := q0'; have q1 := q1'; have q2 := q2'; have q3 := q3'; have q4 := q4'; have q5 := q5'; have q6 := q6'; clear p0' p1' p2' p3' p4' p5' p6' q0' q1' q2' q3' q4' q5' q6'; clear hb1)
        | (go_at_call_of 26 a2; refine (E2 w1 hB1).mono ?_; rintro e w2 ⟨rfl, hb2⟩; have hB2 := hB1.trans (hb2.mono hB1.size); clear hb2))
      go_ret
      exact ⟨rtB HF.out.symm, hB2⟩
    · have HF : Hid (befX x y = decide (q < 0)) := HS2.out.trans (by rw [if_neg (fun e => hz (HQ.out.1.2 e)), HQ.out.2])
      have hzz : (q != 0) = true := by simpa using hz
      clear HS2 HQ E2
      go_enter Try.func12, Try.ntmps12
      go_wp2_with (go_at_call_of 25 a1; rw [← hW]; clear hW; refine E1.mono ?_; rintro e w1 ⟨rfl, hb1⟩; have hB1 := h0.trans (hb1.mono h0.size); have p0' := keepC hb1 p0; have p1' := keepC hb1 p1; have p2' := keepC hb1 p2; have p3' := keepC hb1 p3; have p4' := keepC hb1 p4; have p5' := keepC hb1 p5; have p6' := keepC hb1 p6; have q0' := keepC hb1 q0; have q1' := keepC hb1 q1; have q2' := keepC hb1 q2; have q3' := keepC hb1 q3; have q4' := keepC hb1 q4; have q5' := keepC hb1 q5; have q6' := keepC hb1 q6; clear p0 p1 p2 p3 p4 p5 p6 q0 q1 q2 q3 q4 q5 q6; have p0 := p0'; have p1 := p1'; have p2 := p2'; have p3 := p3'; have p4 := p4'; have p5 := p5'; have p6 := p6'; have q0 := q0'; have q1 := q1'; have q2 := q2'; have q3 := q3'; have q4 := q4'; have q5 := q5'; have q6 := q6'; clear p0' p1' p2' p3' p4' p5' p6' q0' q1' q2' q3' q4' q5' q6'; clear hb1)
      go_ret
      exact ⟨rtB HF.out.symm, hB1⟩
end Go.Proofs.Ytollijngiioonab
