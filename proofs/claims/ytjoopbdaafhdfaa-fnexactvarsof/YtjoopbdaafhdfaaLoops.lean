/- How many terms are within a term, and how often a variable, as the program tells it: it ranges over its iterator. Conditions: terms of at most 4194304 parts. -/
import Derived.Test.YtjoopbdaafhdfaaWith
import Derived.Test.YtjoopbdaafhdfaaVof
namespace Go.Proofs.Ytjoopbdaafhdfaa
open Go.RowKit Go.Shelf
attribute [local go_sem] Oper.semAt_some

theorem within_any (t : TermD) (a : Option Addr) (c : Nat) (w : World) :
    Calls Try.prog 43 #[.agg #[.int .i64 t.f, .int .i64 t.v, .slice a t.kids.length c]] w fun e w' => e = .returned (.func (.func 64) #[] #[.pointer (some ⟨w.heap.size, 0, none⟩)]) ∧ w' = w.alloc (.cells #[.int .i64 t.f, .int .i64 t.v, .slice a t.kids.length c] 26) := by
  generalize t.kids.length = n at *
  go_enter Try.func43, Try.ntmps43
  go_wp2
  go_ret
  exact ⟨rfl, rfl⟩

set_option maxHeartbeats 3200000 in
set_option maxRecDepth 100000 in
theorem impParts_any (N : Nat) (t : TermD) (a : Option Addr) (c hi : Nat) (w : World) (hN : partsT t ≤ N) (hM : N ≤ 4194304) (hr : RdK w hi a t.kids) (hhi : hi ≤ w.heap.size) (hc : t.kids.length ≤ c) :
    Calls Try.prog 23 #[.agg #[.int .i64 t.f, .int .i64 t.v, .slice a t.kids.length c]] w fun e w' => e = .returned (.int .i64 (partsT t)) ∧ Below w.heap.size w w' := by
  refine (callsIn_wide (n := 5)).1 ?_
  have hp : partsT t ≤ 4194304 := Nat.le_trans hN hM
  refine callsIn_of_wp_marks Try.func23 rfl trivial ?_ rfl
  simp only [Try.ntmps23, List.size_toArray, List.length_cons, List.length_nil, Nat.reduceAdd, Nat.reduceSub, Array.replicate_succ, Array.replicate_zero, List.push_toArray, List.append_toArray, List.nil_append, List.cons_append]
  gi_wp2_with (refine ⟨trivial, ?_⟩; gi_at_call 43; refine (callsIn_wide.2 (within_any t a c _)).mono ?_; rintro e w' ⟨rfl, rfl⟩)
  obtain ⟨W0, hW0⟩ : ∃ W0, W0 = ((w.alloc (.cells #[.int .i64 t.f, .int .i64 t.v, .slice a t.kids.length c] 26)).alloc (.cells #[.int .i64 0] 3)).alloc (.cells #[.int .i64 t.f, .int .i64 t.v, .slice a t.kids.length c] 26) := ⟨_, rfl⟩
  have hB0 : Below w.heap.size w W0 := by rw [hW0]; exact (((Below.refl _ _).alloc (Nat.le_refl _) _).alloc (by simp) _).alloc (by simp; omega) _
  have hz : W0.heap.size = w.heap.size + 1 + 1 + 1 := by rw [hW0]; simp
  have n0 : W0.cell? ⟨w.heap.size + 1, 0, none⟩ = some (.int .i64 0) := by rw [hW0]; simp [go_sem]
  have f0 : W0.frozen? ⟨w.heap.size + 1, 0, none⟩ = false := by rw [hW0]; simp [go_sem]
  have t0 : W0.cell? ⟨w.heap.size + 1 + 1, 0, none⟩ = some (.int .i64 t.f) := by rw [hW0]; simp [go_sem]
  have t1 : W0.cell? ⟨w.heap.size + 1 + 1, 1, none⟩ = some (.int .i64 t.v) := by rw [hW0]; simp [go_sem]
  have t2 : W0.cell? ⟨w.heap.size + 1 + 1, 2, none⟩ = some (.slice a t.kids.length c) := by rw [hW0]; simp [go_sem]
  rw [← hW0]
  refine wpIn_rangeFunc_priv rfl (by omega) (gf := 64) (lb := #[.pointer (some ⟨w.heap.size + 1 + 1, 0, none⟩)]) rfl trivial (enters_of Try.func64 (by kernel_rfl) rfl)
    (within_seq Fence.wide 4 trivial rfl (by omega) W0 t a c hi w.heap.size (w.heap.size + 1 + 1) hp hc (hr.on (hB0.mono hhi)) hhi hB0.size t0 t1 t2) hB0.size (Below.refl _ _) (fun _ => rfl)
    (fun pre S W => (∀ k, k < W0.heap.size → S k) ∧ (∀ k, S k → k < W.heap.size) ∧ W.cell? ⟨w.heap.size + 1, 0, none⟩ = some (.int .i64 pre.length) ∧ W.frozen? ⟨w.heap.size + 1, 0, none⟩ = false ∧ Below w.heap.size w W)
    (fun _ _ _ _ => False)
    (fun pre S A B h hs => ⟨h.1, fun k hk => Nat.lt_of_lt_of_le (h.2.1 k hk) hs.size, hs.cell h.2.2.1 (h.1 _ (by simp only; omega)), (hs.frozen (World.block_lt_of_cell? _ _ h.2.2.1) (h.1 _ (by simp only; omega))).trans h.2.2.2.1, h.2.2.2.2.trans (hs.below h.2.2.2.2.size (fun k hk => h.1 k (by omega)))⟩)
    (fun _ _ _ _ _ h _ => h) (fun pre S A h => h.2.1) (fun k => k < W0.heap.size) (fun _ h => h) ⟨fun _ h => h, fun _ h => h, n0, f0, hB0⟩
    (fun pre x S a₁ W => ((∀ k, k < W0.heap.size → S k) ∧ (∀ k, S k → k < W.heap.size) ∧ W.cell? ⟨w.heap.size + 1, 0, none⟩ = some (.int .i64 pre.length) ∧ W.frozen? ⟨w.heap.size + 1, 0, none⟩ = false ∧ Below w.heap.size w W) ∧ a₁ = { tmps := #[.agg #[.int .i64 t.f, .int .i64 t.v, .slice a t.kids.length c], .pointer (some ⟨w.heap.size, 0, none⟩), .int .i64 0, .pointer (some ⟨w.heap.size + 1, 0, none⟩), .agg #[.int .i64 t.f, .int .i64 t.v, .slice a t.kids.length c], .func (.func 64) #[] #[.pointer (some ⟨w.heap.size + 1 + 1, 0, none⟩)], .agg #[.int .i64 x.t.f, .int .i64 x.t.v, .slice x.a x.t.kids.length x.c], undef, undef, undef], defers := [] })
    (fun pre x S a₁ A B h hs => ⟨⟨h.1.1, fun k hk => Nat.lt_of_lt_of_le (h.1.2.1 k hk) hs.size, hs.cell h.1.2.2.1 (h.1.1 _ (by simp only; omega)), (hs.frozen (World.block_lt_of_cell? _ _ h.1.2.2.1) (h.1.1 _ (by simp only; omega))).trans h.1.2.2.2.1, h.1.2.2.2.2.trans (hs.below h.1.2.2.2.2.size (fun k hk => h.1.1 k (by omega)))⟩, h.2⟩)
    ?assign ?body ?done ?stop
  case assign =>
    intro l pre x S W K hi hlen hK
    dsimp only [El.enc]
    gi_wp2
    exact hK _ S _ ⟨hi, by simp⟩ (fun _ h => .inl h) (.refl _ _)
  case body =>
    rintro l pre x S a₁ W ⟨⟨h1, h2, h3, h4, h5⟩, rfl⟩ hlen
    have hpl : (pre.length : Int) < 4194304 := by omega
    have HH : Hid (∀ k, k < W0.heap.size → S k) := h1
    have HH2 : Hid (∀ k, S k → k < W.heap.size) := h2
    clear h1 h2
    gi_wp2
    exact ⟨S, ⟨HH.out, fun k h => by simpa using HH2.out k h, by rw [World.cell?_setCell_same' _ _ _ (by rw [h3]; rfl)]; simp, by rw [World.frozen?_setCell]; exact h4, h5.setCell (p := ⟨w.heap.size + 1, 0, none⟩) (by simp) _⟩, fun k h => .inl h, Stay.setCell _ _ (fun h => h.elim (fun h => by simp only at h; omega) (fun h => h (HH.out _ (by simp only; omega))))⟩
  case done =>
    rintro D xs S W hxs ⟨h1, h2, h3, h4, h5⟩ hK hD hSD
    have HH : Hid (∀ k, k < W0.heap.size → S k) := h1
    clear h1 h2
    have hl : xs.length = partsT t := by rw [← preT_len, ← hxs]; simp
    rw [hl] at h3
    gi_wp2
    refine ⟨by simp, .inl ⟨_, _, rfl, run_takeDeferred hK, ?_⟩⟩
    exact ⟨_, results_tmp rfl _ _ _, rfl, h5.trans ((Stay.putObj (S := fun k => k < w.heap.size) W _ (by omega)).below h5.size (fun _ h => h))⟩
  case stop =>
    rintro D c pre S W _ h
    exact h.elim
end Go.Proofs.Ytjoopbdaafhdfaa
