/- Equations that hold, or do not: two that are the same, held against one another; when two are alike, and which is ahead, as the specification tells. Conditions: at most 549755813888 parts. -/
import Derived.Test.YtollijngiioonabLitA
import Derived.Test.YtollijngiioonabTermSpec
import Derived.Test.YtollijngiioonabTermBef
namespace Go.Proofs.Ytollijngiioonab
set_option maxRecDepth 100000
open Go.RowKit

set_option maxHeartbeats 1600000 in
theorem eqLit_same (x : LitD) (a1 a2 b1 b2 : Option Addr) (c1 c2 d1 d2 hi : Nat) (w : World) (hp1 : partsT x.l ≤ 549755813888) (hp2 : partsT x.r ≤ 549755813888) (hx1 : RdK w hi a1 x.l.kids) (hx2 : RdK w hi a2 x.r.kids) (hy1 : RdK w hi b1 x.l.kids) (hy2 : RdK w hi b2 x.r.kids) (hhi : hi ≤ w.heap.size) :
    Calls Try.prog 10 #[litV x a1 c1 a2 c2, litV x b1 d1 b2 d2] w fun e w' => e = .returned (.bool true) ∧ Below w.heap.size w w' := by
  unfold litV
  obtain ⟨W, hW⟩ : ∃ W, W = (w.alloc (.cells #[.bool x.p, .int .i64 x.l.f, .int .i64 x.l.v, .slice a1 x.l.kids.length c1, .int .i64 x.r.f, .int .i64 x.r.v, .slice a2 x.r.kids.length c2] 33)).alloc (.cells #[.bool x.p, .int .i64 x.l.f, .int .i64 x.l.v, .slice b1 x.l.kids.length d1, .int .i64 x.r.f, .int .i64 x.r.v, .slice b2 x.r.kids.length d2] 33) := ⟨_, rfl⟩
  have h0 : Below w.heap.size w W := by rw [hW]; exact ((Below.refl _ _).alloc (Nat.le_refl _) _).alloc (by simp) _
  have p0 : W.cell? ⟨w.heap.size, 0, none⟩ = some (.bool x.p) := by rw [hW]; simp [go_sem]
  have p1 : W.cell? ⟨w.heap.size, 1, none⟩ = some (.int .i64 x.l.f) := by rw [hW]; simp [go_sem]
  have p2 : W.cell? ⟨w.heap.size, 2, none⟩ = some (.int .i64 x.l.v) := by rw [hW]; simp [go_sem]
  have p3 : W.cell? ⟨w.heap.size, 3, none⟩ = some (.slice a1 x.l.kids.length c1) := by rw [hW]; simp [go_sem]
  have p4 : W.cell? ⟨w.heap.size, 4, none⟩ = some (.int .i64 x.r.f) := by rw [hW]; simp [go_sem]
  have p5 : W.cell? ⟨w.heap.size, 5, none⟩ = some (.int .i64 x.r.v) := by rw [hW]; simp [go_sem]
  have p6 : W.cell? ⟨w.heap.size, 6, none⟩ = some (.slice a2 x.r.kids.length c2) := by rw [hW]; simp [go_sem]
  have q0 : W.cell? ⟨(w.heap.size + 1), 0, none⟩ = some (.bool x.p) := by rw [hW]; simp [go_sem]
  have q1 : W.cell? ⟨(w.heap.size + 1), 1, none⟩ = some (.int .i64 x.l.f) := by rw [hW]; simp [go_sem]
  have q2 : W.cell? ⟨(w.heap.size + 1), 2, none⟩ = some (.int .i64 x.l.v) := by rw [hW]; simp [go_sem]
  have q3 : W.cell? ⟨(w.heap.size + 1), 3, none⟩ = some (.slice b1 x.l.kids.length d1) := by rw [hW]; simp [go_sem]
  have q4 : W.cell? ⟨(w.heap.size + 1), 4, none⟩ = some (.int .i64 x.r.f) := by rw [hW]; simp [go_sem]
  have q5 : W.cell? ⟨(w.heap.size + 1), 5, none⟩ = some (.int .i64 x.r.v) := by rw [hW]; simp [go_sem]
  have q6 : W.cell? ⟨(w.heap.size + 1), 6, none⟩ = some (.slice b2 x.r.kids.length d2) := by rw [hW]; simp [go_sem]
  have hpp : (x.p != x.p) = false := by simp
  have E1 := eqTerm_same x.l a1 b1 c1 d1 hi W hp1 (hx1.on (h0.mono hhi)) (hy1.on (h0.mono hhi)) (Nat.le_trans hhi h0.size)
  have E2 := fun (W' : World) (h : Below w.heap.size w W') => eqTerm_same x.r a2 b2 c2 d2 hi W' hp2 (hx2.on (h.mono hhi)) (hy2.on (h.mono hhi)) (Nat.le_trans hhi h.size)
  clear hx1 hx2 hy1 hy2 hp1 hp2
  go_enter Try.func10, Try.ntmps10
  go_wp2_with (first
    | (go_at_call_of 23 a1; rw [← hW]; clear hW; refine E1.mono ?_; rintro e w1 ⟨rfl, hb1⟩; have hB1 := h0.trans (hb1.mono h0.size); have p0' := keepC hb1 p0; have p1' := keepC hb1 p1; have p2' := keepC hb1 p2; have p3' := keepC hb1 p3; have p4' := keepC hb1 p4; have p5' := keepC hb1 p5; have p6' := keepC hb1 p6; have q0' := keepC hb1 q0; have q1' := keepC hb1 q1; have q2' := keepC hb1 q2; have q3' := keepC hb1 q3; have q4' := keepC hb1 q4; have q5' := keepC hb1 q5; have q6' := keepC hb1 q6; clear p0 p1 p2 p3 p4 p5 p6 q0 q1 q2 q3 q4 q5 q6; have p0 := p0'; have p1 := p1'; have p2 := p2'; have p3 := p3'; have p4 := p4'; have p5 := p5'; have p6 := p6'; have q0 := q0'; have q1 := q1'; have q2 := q2'; have q3 := q3'; have q4 := q4'; have q5 := q5'; have q6 := q6'; clear p0' p1' p2' p3' p4' p5' p6' q0' q1' q2' q3' q4' q5' q6'; clear E1 hb1)
    | (go_at_call_of 23 a2; refine (E2 w1 hB1).mono ?_; rintro e w2 ⟨rfl, hb2⟩; have hB2 := hB1.trans (hb2.mono hB1.size); clear E2 hb2))
  go_ret
  exact ⟨rfl, hB2⟩

def sameX (x y : LitD) : Bool := (x.p == y.p) && sameT x.l y.l && sameT x.r y.r
def befX (x y : LitD) : Bool := if x.p != y.p then y.p else if sameT x.l y.l then befT x.r y.r else befT x.l y.l
set_option maxHeartbeats 1600000 in
theorem specLitSame_any (x y : LitD) (a1 a2 b1 b2 : Option Addr) (c1 c2 d1 d2 hi : Nat) (w : World) (hp1 : partsT x.l ≤ 549755813888) (hp2 : partsT x.r ≤ 549755813888) (hx1 : RdK w hi a1 x.l.kids) (hx2 : RdK w hi a2 x.r.kids) (hy1 : RdK w hi b1 y.l.kids) (hy2 : RdK w hi b2 y.r.kids) (hhi : hi ≤ w.heap.size) :
    Calls Try.prog 7 #[litV x a1 c1 a2 c2, litV y b1 d1 b2 d2] w fun e w' => e = .returned (.bool (sameX x y)) ∧ Below w.heap.size w w' := by
  unfold litV
  obtain ⟨W, hW⟩ : ∃ W, W = (w.alloc (.cells #[.bool x.p, .int .i64 x.l.f, .int .i64 x.l.v, .slice a1 x.l.kids.length c1, .int .i64 x.r.f, .int .i64 x.r.v, .slice a2 x.r.kids.length c2] 33)).alloc (.cells #[.bool y.p, .int .i64 y.l.f, .int .i64 y.l.v, .slice b1 y.l.kids.length d1, .int .i64 y.r.f, .int .i64 y.r.v, .slice b2 y.r.kids.length d2] 33) := ⟨_, rfl⟩
  have h0 : Below w.heap.size w W := by rw [hW]; exact ((Below.refl _ _).alloc (Nat.le_refl _) _).alloc (by simp) _
  have p0 : W.cell? ⟨w.heap.size, 0, none⟩ = some (.bool x.p) := by rw [hW]; simp [go_sem]
  have p1 : W.cell? ⟨w.heap.size, 1, none⟩ = some (.int .i64 x.l.f) := by rw [hW]; simp [go_sem]
  have p2 : W.cell? ⟨w.heap.size, 2, none⟩ = some (.int .i64 x.l.v) := by rw [hW]; simp [go_sem]
  have p3 : W.cell? ⟨w.heap.size, 3, none⟩ = some (.slice a1 x.l.kids.length c1) := by rw [hW]; simp [go_sem]
  have p4 : W.cell? ⟨w.heap.size, 4, none⟩ = some (.int .i64 x.r.f) := by rw [hW]; simp [go_sem]
  have p5 : W.cell? ⟨w.heap.size, 5, none⟩ = some (.int .i64 x.r.v) := by rw [hW]; simp [go_sem]
  have p6 : W.cell? ⟨w.heap.size, 6, none⟩ = some (.slice a2 x.r.kids.length c2) := by rw [hW]; simp [go_sem]
  have q0 : W.cell? ⟨(w.heap.size + 1), 0, none⟩ = some (.bool y.p) := by rw [hW]; simp [go_sem]
  have q1 : W.cell? ⟨(w.heap.size + 1), 1, none⟩ = some (.int .i64 y.l.f) := by rw [hW]; simp [go_sem]
  have q2 : W.cell? ⟨(w.heap.size + 1), 2, none⟩ = some (.int .i64 y.l.v) := by rw [hW]; simp [go_sem]
  have q3 : W.cell? ⟨(w.heap.size + 1), 3, none⟩ = some (.slice b1 y.l.kids.length d1) := by rw [hW]; simp [go_sem]
  have q4 : W.cell? ⟨(w.heap.size + 1), 4, none⟩ = some (.int .i64 y.r.f) := by rw [hW]; simp [go_sem]
  have q5 : W.cell? ⟨(w.heap.size + 1), 5, none⟩ = some (.int .i64 y.r.v) := by rw [hW]; simp [go_sem]
  have q6 : W.cell? ⟨(w.heap.size + 1), 6, none⟩ = some (.slice b2 y.r.kids.length d2) := by rw [hW]; simp [go_sem]
  have E1 := specSame_any (partsT x.l) x.l y.l a1 b1 c1 d1 hi W (Nat.le_refl _) hp1 (hx1.on (h0.mono hhi)) (hy1.on (h0.mono hhi)) (Nat.le_trans hhi h0.size)
  have E2 := fun (W' : World) (h : Below w.heap.size w W') => specSame_any (partsT x.r) x.r y.r a2 b2 c2 d2 hi W' (Nat.le_refl _) hp2 (hx2.on (h.mono hhi)) (hy2.on (h.mono hhi)) (Nat.le_trans hhi h.size)
  have HS : Hid (sameX x y = ((x.p == y.p) && sameT x.l y.l && sameT x.r y.r)) := rfl
  clear hx1 hx2 hy1 hy2 hp1 hp2
  generalize sameT x.l y.l = s1 at E1 HS
  generalize sameT x.r y.r = s2 at E2 HS
  have hbp : (x.p == y.p) = true ∨ (x.p == y.p) = false := by cases (x.p == y.p) <;> simp
  rcases hbp with hbp | hbp
  · rw [hbp] at HS
    cases s1
    · have HF : Hid (sameX x y = false) := HS.out.trans rfl
      clear HS
      go_enter Try.func7, Try.ntmps7
      go_wp2_with (go_at_call 19; rw [← hW]; clear hW; refine E1.mono ?_; rintro e w1 ⟨rfl, hb1⟩; have hB1 := h0.trans (hb1.mono h0.size); clear E1 hb1)
      go_ret
      exact ⟨rtB HF.out.symm, hB1⟩
    · have HF : Hid (sameX x y = s2) := HS.out.trans (by simp)
      clear HS
      go_enter Try.func7, Try.ntmps7
      go_wp2_with (first
        | (go_at_call_of 19 a1; rw [← hW]; clear hW; refine E1.mono ?_; rintro e w1 ⟨rfl, hb1⟩; have hB1 := h0.trans (hb1.mono h0.size); have p0' := keepC hb1 p0; have p1' := keepC hb1 p1; have p2' := keepC hb1 p2; have p3' := keepC hb1 p3; have p4' := keepC hb1 p4; have p5' := keepC hb1 p5; have p6' := keepC hb1 p6; have q0' := keepC hb1 q0; have q1' := keepC hb1 q1; have q2' := keepC hb1 q2; have q3' := keepC hb1 q3; have q4' := keepC hb1 q4; have q5' := keepC hb1 q5; have q6' := keepC hb1 q6; clear p0 p1 p2 p3 p4 p5 p6 q0 q1 q2 q3 q4 q5 q6; have p0 := p0'; have p1 := p1'; have p2 := p2'; have p3 := p3'; have p4 := p4'; have p5 := p5'; have p6 := p6'; have q0 := q0'; have q1 := q1'; have q2 := q2'; have q3 := q3'; have q4 := q4'; have q5 := q5'; have q6 := q6'; clear p0' p1' p2' p3' p4' p5' p6' q0' q1' q2' q3' q4' q5' q6'; clear E1 hb1)
        | (go_at_call_of 19 a2; refine (E2 w1 hB1).mono ?_; rintro e w2 ⟨rfl, hb2⟩; have hB2 := hB1.trans (hb2.mono hB1.size); clear E2 hb2))
      go_ret
      exact ⟨rtB HF.out.symm, hB2⟩
  · have HF : Hid (sameX x y = false) := HS.out.trans (by rw [hbp]; rfl)
    rw [hW] at h0
    clear HS E1 E2
    go_enter Try.func7, Try.ntmps7
    go_wp2_with fail
    go_ret
    exact ⟨rtB HF.out.symm, h0⟩
end Go.Proofs.Ytollijngiioonab
