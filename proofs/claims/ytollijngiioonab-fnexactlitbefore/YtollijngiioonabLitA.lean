/- An equation that holds, or does not, as data: a sign and two terms; contracts of the laws' helpers on it: how much it holds, copied, held against another one that is the same. Conditions: at most 549755813888 parts. -/
import Derived.Test.YtollijngiioonabTermLaw
import Derived.Test.YtollijngiioonabTermCopy
import Derived.Test.YtollijngiioonabTermEq
import Derived.Test.YtollijngiioonabTermOpen
namespace Go.Proofs.Ytollijngiioonab
set_option maxRecDepth 100000
open Go.RowKit

structure LitD where
  p : Bool
  l : TermD
  r : TermD
/-- The value. -/
def litV (x : LitD) (a1 : Option Addr) (c1 : Nat) (a2 : Option Addr) (c2 : Nat) : Value :=
  .agg #[.bool x.p, .int .i64 x.l.f, .int .i64 x.l.v, .slice a1 x.l.kids.length c1, .int .i64 x.r.f, .int .i64 x.r.v, .slice a2 x.r.kids.length c2]
def szX (x : LitD) (m : Int) : Int := if szR x.l.kids m < 0 then -1 else szR x.r.kids (szR x.l.kids m)

set_option maxHeartbeats 1600000 in
theorem szLit_any (x : LitD) (a1 a2 : Option Addr) (c1 c2 hi : Nat) (m : Int) (w : World) (hm0 : 0 ≤ m) (hm : m ≤ 1048576) (hr1 : RdK w hi a1 x.l.kids) (hr2 : RdK w hi a2 x.r.kids) (hhi : hi ≤ w.heap.size) :
    Calls Try.prog 6 #[litV x a1 c1 a2 c2, .int .i64 m] w fun e w' => e = .returned (.int .i64 (szX x m)) ∧ Below w.heap.size w w' := by
  unfold litV
  obtain ⟨W, hW⟩ : ∃ W, W = w.alloc (.cells #[.bool x.p, .int .i64 x.l.f, .int .i64 x.l.v, .slice a1 x.l.kids.length c1, .int .i64 x.r.f, .int .i64 x.r.v, .slice a2 x.r.kids.length c2] 26) := ⟨_, rfl⟩
  have h0 : Below w.heap.size w W := by rw [hW]; exact (Below.refl w.heap.size w).alloc (Nat.le_refl _) _
  have H1 := szTerm_any x.l a1 c1 hi m W hm0 hm (hr1.on (h0.mono hhi)) (Nat.le_trans hhi h0.size)
  have q4 : W.cell? ⟨w.heap.size, 4, none⟩ = some (.int .i64 x.r.f) := by rw [hW]; simp [go_sem]
  have q5 : W.cell? ⟨w.heap.size, 5, none⟩ = some (.int .i64 x.r.v) := by rw [hW]; simp [go_sem]
  have q6 : W.cell? ⟨w.heap.size, 6, none⟩ = some (.slice a2 x.r.kids.length c2) := by rw [hW]; simp [go_sem]
  have hs1 : szR x.l.kids m ≤ 1048576 := by unfold szR; split <;> omega
  have HX : Hid (szX x m = if szR x.l.kids m < 0 then -1 else szR x.r.kids (szR x.l.kids m)) := rfl
  have hn1 : szR x.l.kids m < 0 ∨ 0 ≤ szR x.l.kids m := by omega
  have hr2' : ∀ q, szR x.r.kids q < 0 → szR x.r.kids q = -1 := fun q => by unfold szR; split <;> omega
  generalize szR x.l.kids m = r1 at H1 hs1 HX hn1
  rcases hn1 with hn | hn
  · rw [if_pos hn] at HX
    go_enter Try.func6, Try.ntmps6
    go_wp2_with (go_at_call 18; rw [← hW]; refine H1.mono ?_; rintro e w1 ⟨rfl, hb1⟩; clear H1 hW)
    go_ret
    exact ⟨by rw [HX.out]; rfl, h0.trans (hb1.mono h0.size)⟩
  · rw [if_neg (by omega)] at HX
    have hnn : ¬ r1 < 0 := by omega
    have H2 := fun (W' : World) (h : Below w.heap.size w W') => szTerm_any x.r a2 c2 hi r1 W' hn hs1 (hr2.on (h.mono hhi)) (Nat.le_trans hhi h.size)
    have hq := hr2' r1
    clear hr2'
    generalize szR x.r.kids r1 = r2 at H2 HX hq
    by_cases hn2 : r2 < 0
    · obtain rfl := hq hn2
      clear hq
      go_enter Try.func6, Try.ntmps6
      go_wp2_with (first
        | (go_at_call_of 18 a1; rw [← hW]; refine H1.mono ?_; rintro e w1 ⟨rfl, hb1⟩; have hB1 := h0.trans (hb1.mono h0.size); have p4 := keepC hb1 q4; have p5 := keepC hb1 q5; have p6 := keepC hb1 q6; clear H1 hW q4 q5 q6 hb1)
        | (go_at_call_of 18 a2; refine (H2 w1 hB1).mono ?_; rintro e w2 ⟨rfl, hb2⟩; have hB2 := hB1.trans (hb2.mono hB1.size); clear H2 hb2))
      go_ret
      exact ⟨by rw [HX.out]; rfl, hB2⟩
    · clear hq
      go_enter Try.func6, Try.ntmps6
      go_wp2_with (first
        | (go_at_call_of 18 a1; rw [← hW]; refine H1.mono ?_; rintro e w1 ⟨rfl, hb1⟩; have hB1 := h0.trans (hb1.mono h0.size); have p4 := keepC hb1 q4; have p5 := keepC hb1 q5; have p6 := keepC hb1 q6; clear H1 hW q4 q5 q6 hb1)
        | (go_at_call_of 18 a2; refine (H2 w1 hB1).mono ?_; rintro e w2 ⟨rfl, hb2⟩; have hB2 := hB1.trans (hb2.mono hB1.size); clear H2 hb2))
      go_ret
      exact ⟨by rw [HX.out]; rfl, hB2⟩
end Go.Proofs.Ytollijngiioonab
