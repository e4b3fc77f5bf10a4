/- Which equation is ahead, and which is right, as the specification tells. Conditions: at most 549755813888 parts. -/
import Derived.Test.YtollijngiioonabLitB
import Derived.Test.YtollijngiioonabRgt2
namespace Go.Proofs.Ytollijngiioonab
set_option maxRecDepth 100000
open Go.RowKit

set_option maxHeartbeats 1600000 in
theorem specLitBefore_any (x y : LitD) (a1 a2 b1 b2 : Option Addr) (c1 c2 d1 d2 hi : Nat) (w : World) (hp1 : partsT x.l ≤ 549755813888) (hp2 : partsT x.r ≤ 549755813888) (hx1 : RdK w hi a1 x.l.kids) (hx2 : RdK w hi a2 x.r.kids) (hy1 : RdK w hi b1 y.l.kids) (hy2 : RdK w hi b2 y.r.kids) (hhi : hi ≤ w.heap.size) :
    Calls Try.prog 11 #[litV x a1 c1 a2 c2, litV y b1 d1 b2 d2] w fun e w' => e = .returned (.bool (befX x y)) ∧ Below w.heap.size w w' := by
  unfold litV
  obtain ⟨W, hW⟩ : ∃ W, W = (w.alloc (.cells #[.bool x.p, .int .i64 x.l.f, .int .i64 x.l.v, .slice a1 x.l.kids.length c1, .int .i64 x.r.f, .int .i64 x.r.v, .slice a2 x.r.kids.length c2] 33)).alloc (.cells #[.bool y.p, .int .i64 y.l.f, .int .i64 y.l.v, .slice b1 y.l.kids.length d1, .int .i64 y.r.f, .int .i64 y.r.v, .slice b2 y.r.kids.length d2] 33) := ⟨_, rfl⟩
  have h0 : Below w.heap.size w W := by rw [hW]; exact ((Below.refl _ _).alloc (Nat.le_refl _) _).alloc (by simp) _
  have p0 : W.cell? ⟨w.heap.size, 0, none⟩ = some (.bool x.p) := by rw [hW]; simp [go_sem]
  have p1 : W.cell? ⟨w.heap.size, 1, none⟩ = some (.int .i64 x.l.f) := by rw [hW]; simp [go_sem]
  have p2 : W.cell? ⟨w.heap.size, 2, none⟩ = some (.int .i64 x.l.v) := by rw [hW]; simp [go_sem]
  have p3 : W.cell? ⟨w.heap.size, 3, none⟩ = some (.slice a1 x.l.kids.length c1) := by rw [hW]; simp [go_sem]
  have p4 : W.cell? ⟨w.heap.size, 4, none⟩ = some (.int .i64 x.r.f) := by rw [hW]; simp [go_sem]
  have p5 : W.cell? ⟨w.heap.size, 5, none⟩ = some (.int .i64 x.r.v) := by rw [hW]; simp [go_sem]
  have p6 : W.cell? ⟨w.heap.size, 6, none⟩ = some (.slice a2 x.r.kids.length c2) := by rw [hW]; simp [go_sem]
  have q0 : W.cell? ⟨(w.heap.size + 1), 0, none⟩ = some (.bool y.p) := by rw [hW]; simp [go_sem]
  have q1 : W.cell? ⟨(w.heap.size + 1), 1, none⟩ = some (.int .i64 y.l.f) := by rw [hW]; simp [go_sem]
  have q2 : W.cell? ⟨(w.heap.size + 1), 2, none⟩ = some (.int .i64 y.l.v) := by rw [hW]; simp [go_sem]
  have q3 : W.cell? ⟨(w.heap.size + 1), 3, none⟩ = some (.slice b1 y.l.kids.length d1) := by rw [hW]; simp [go_sem]
  have q4 : W.cell? ⟨(w.heap.size + 1), 4, none⟩ = some (.int .i64 y.r.f) := by rw [hW]; simp [go_sem]
  have q5 : W.cell? ⟨(w.heap.size + 1), 5, none⟩ = some (.int .i64 y.r.v) := by rw [hW]; simp [go_sem]
  have q6 : W.cell? ⟨(w.heap.size + 1), 6, none⟩ = some (.slice b2 y.r.kids.length d2) := by rw [hW]; simp [go_sem]
  have E1 := specSame_any (partsT x.l) x.l y.l a1 b1 c1 d1 hi W (Nat.le_refl _) hp1 (hx1.on (h0.mono hhi)) (hy1.on (h0.mono hhi)) (Nat.le_trans hhi h0.size)
  have E2 := fun (W' : World) (h : Below w.heap.size w W') => specBefore_any (partsT x.r) x.r y.r a2 b2 c2 d2 hi W' (Nat.le_refl _) hp2 (hx2.on (h.mono hhi)) (hy2.on (h.mono hhi)) (Nat.le_trans hhi h.size)
  have E3 := fun (W' : World) (h : Below w.heap.size w W') => specBefore_any (partsT x.l) x.l y.l a1 b1 c1 d1 hi W' (Nat.le_refl _) hp1 (hx1.on (h.mono hhi)) (hy1.on (h.mono hhi)) (Nat.le_trans hhi h.size)
  have HS : Hid (befX x y = if x.p != y.p then y.p else if sameT x.l y.l then befT x.r y.r else befT x.l y.l) := rfl
  clear hx1 hx2 hy1 hy2 hp1 hp2
  generalize sameT x.l y.l = s1 at E1 HS
  generalize befT x.r y.r = s2 at E2 HS
  generalize befT x.l y.l = s3 at E3 HS
  have hbp : (¬ x.p = y.p) ∨ x.p = y.p := by cases x.p <;> cases y.p <;> simp
  rcases hbp with hbp | hbp
  · have HF : Hid (befX x y = y.p) := HS.out.trans (by rw [if_pos (by simpa using hbp)])
    have hbq : (x.p == y.p) = false := by simpa using hbp
    rw [hW] at h0
    clear HS E1 E2 E3
    go_enter Try.func11, Try.ntmps11
    go_wp2_with fail
    go_ret
    exact ⟨rtB HF.out.symm, h0⟩
  · have HS2 : Hid (befX x y = if s1 then s2 else s3) := HS.out.trans (by rw [if_neg (by simp [hbp])])
    have hbq : (x.p == y.p) = true := by simpa using hbp
    have hbr : (x.p != y.p) = false := by simp [hbp]
    clear HS hbp
    cases s1
    · have HF : Hid (befX x y = s3) := HS2.out.trans rfl
      clear HS2 E2
      go_enter Try.func11, Try.ntmps11
      go_wp2_with (first
        | (go_at_call_of 19 a1; rw [← hW]; clear hW; refine E1.mono ?_; rintro e w1 ⟨rfl, hb1⟩; have hB1 := h0.trans (hb1.mono h0.size); have p0' := keepC hb1 p0; have p1' := keepC hb1 p1; have p2' := keepC hb1 p2; have p3' := keepC hb1 p3; have p4' := keepC hb1 p4; have p5' := keepC hb1 p5; have p6' := keepC hb1 p6; have q0' := keepC hb1 q0; have q1' := keepC hb1 q1; have q2' := keepC hb1 q2; have q3' := keepC hb1 q3; have q4' := keepC hb1 q4; have q5' := keepC hb1 q5; have q6' := keepC hb1 q6; clear p0 p1 p2 p3 p4 p5 p6 q0 q1 q2 q3 q4 q5 q6; have p0 := p0'; have p1 := p1'; have p2 := p2'; have p3 := p3'; have p4 := p4'; have p5 := p5'; have p6 := p6'; have q0 := q0'; have q1 := q1'; have q2 := q2'; have q3 := q3'; have q4 := q4'; have q5 := q5'; have q6 := q6'; clear p0' p1' p2' p3' p4' p5' p6' q0' q1' q2' q3' q4' q5' q6'; clear hb1)
        | (go_at_call_of 24 a1; refine (E3 w1 hB1).mono ?_; rintro e w2 ⟨rfl, hb2⟩; have hB2 := hB1.trans (hb2.mono hB1.size); clear hb2))
      go_ret
      exact ⟨rtB HF.out.symm, hB2⟩
    · have HF : Hid (befX x y = s2) := HS2.out.trans rfl
      clear HS2 E3
      go_enter Try.func11, Try.ntmps11
      go_wp2_with (first
        | (go_at_call_of 19 a1; rw [← hW]; clear hW; refine E1.mono ?_; rintro e w1 ⟨rfl, hb1⟩; have hB1 := h0.trans (hb1.mono h0.size); have p0' := keepC hb1 p0; have p1' := keepC hb1 p1; have p2' := keepC hb1 p2; have p3' := keepC hb1 p3; have p4' := keepC hb1 p4; have p5' := keepC hb1 p5; have p6' := keepC hb1 p6; have q0' := keepC hb1 q0; have q1' := keepC hb1 q1; have q2' := keepC hb1 q2; have q3' := keepC hb1 q3; have q4' := keepC hb1 q4; have q5' := keepC hb1 q5; have q6' := keepC hb1 q6; clear p0 p1 p2 p3 p4 p5 p6 q0 q1 q2 q3 q4 q5 q6; have p0 := p0'; have p1 := p1'; have p2 := p2'; have p3 := p3'; have p4 := p4'; have p5 := p5'; have p6 := p6'; have q0 := q0'; have q1 := q1'; have q2 := q2'; have q3 := q3'; have q4 := q4'; have q5 := q5'; have q6 := q6'; clear p0' p1' p2' p3' p4' p5' p6' q0' q1' q2' q3' q4' q5' q6'; clear hb1)
        | (go_at_call_of 24 a2; refine (E2 w1 hB1).mono ?_; rintro e w2 ⟨rfl, hb2⟩; have hB2 := hB1.trans (hb2.mono hB1.size); clear hb2))
      go_ret
      exact ⟨rtB HF.out.symm, hB2⟩

def tokX (ss : List SymD) (t : TermD) : Bool := sigOk ss && decide (partsT t ≤ 60) && rightT ss t
def okX (ss : List SymD) (x : LitD) : Bool := tokX ss x.l && tokX ss x.r && !befT x.l x.r
end Go.Proofs.Ytollijngiioonab
