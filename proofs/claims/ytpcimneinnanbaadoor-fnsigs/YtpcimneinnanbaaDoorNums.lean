/- Contract of the program's list of all numbers of its table: each number once, in order. Conditions: at most 1048577 functions. -/
import Derived.Test.YtpcimneinnanbaaDoorTab2
import Derived.Test.YtpcimneinnanbaaDoorTabC
import Derived.Test.YtpcimneinnanbaaDoorShelf
import Derived.Sort.OwnSortedInts
import Derived.Sort.OwnSorted
import Derived.Deep.DeepMust
namespace Go.Proofs.YtpcimneinnanbaaDoor
open Go.RowKit Go.Maps Go.WideMaps Go.Shelf Go.Sort

/-- A copy of the numbers that stand apart. -/
theorem clone_any (base : Nat) (av : Option Addr) (zs : List Int) (cv : Nat) (w : World) (h : w.ownsRow base 3 1 (.slice av zs.length cv) zs.length (ints zs)) (hl : zs.length ≤ 1048577) :
    Calls Tryd.prog 42 #[.slice av zs.length cv] w fun e w' => ∃ v, e = .returned v ∧ w'.ownsRow w.heap.size 3 1 v zs.length (ints zs) ∧ Below w.heap.size w w' := by
  rcases h.2 with ⟨hv, h0⟩ | ⟨g, cap, cur, hv, hg, _⟩
  · have hz : zs = [] := List.length_eq_zero_iff.1 h0
    subst hz
    obtain ⟨rfl, rfl⟩ : av = none ∧ cv = 0 := by simpa using hv
    refine (Tryd.slices_Clone_int_nil _ _ w).mono ?_
    rintro e w' ⟨rfl, rfl⟩
    exact ⟨_, rfl, ⟨rfl, .inl ⟨rfl, rfl⟩⟩, Below.refl _ _⟩
  · cases hv
    refine (Tryd.slices_Clone_int g 0 zs.length cv zs w (Nat.le_refl _) (by omega) ?_).mono ?_
    · intro j hj
      have := h.cellAt j (by simpa using hj)
      rw [Nat.zero_add, this]
      simp [ints, hj]
    · rintro e w' ⟨v, rfl, h1, _, h2⟩
      rw [List.take_length] at h1
      exact ⟨v, rfl, h1, h2⟩

/-- A row of numbers of one's own, sorted. -/
theorem sort_any (base : Nat) (av : Option Addr) (zs : List Int) (n cv : Nat) (w : World) (hn : n = zs.length) (h : w.ownsRow base 3 1 (.slice av n cv) n (ints zs)) (hl : zs.length ≤ 4194304) :
    Calls Tryd.prog 43 #[.slice av n cv] w fun e w' => e = .returned (.tuple #[]) ∧ w'.ownsRow base 3 1 (.slice av n cv) n (ints (zs.mergeSort fun x y => decide (x ≤ y))) ∧ w.grownBy w' (Value.slice av n cv).ownBlock := by
  subst hn
  rcases h.2 with ⟨hv, h0⟩ | ⟨g, cap, cur, hv, hg, hb, hc1, hc2, hc3, hc4⟩
  · have hz : zs = [] := List.length_eq_zero_iff.1 h0
    subst hz
    obtain ⟨rfl, rfl⟩ : av = none ∧ cv = 0 := by simpa using hv
    refine (Tryd.slices_Sort_int_none none 0 w).mono ?_
    rintro e w' ⟨rfl, rfl⟩
    exact ⟨rfl, by simpa using h, World.grownBy.refl _ _⟩
  · cases hv
    rw [Nat.mul_one] at hc4
    have hH : Holds (Value.int .i64) w g 0 zs.toArray := holds_of_blockI hb hc4
    refine (Tryd.slices_Sort_int g 0 cv zs w hH (Array.getElem?_eq_some_iff.1 hb).1 (by omega)).mono ?_
    rintro e w' ⟨rfl, m, os, rfl⟩
    exact ⟨rfl, ownsRow_sortedI (by simp) hg hb hc1 hc2 hc3, grownBy_sortedI _⟩

theorem below_grownN {w w' : World} (h : Below w.heap.size w w') : w.grownBy w' none := ⟨h.os, h.tape, h.output, h.size, fun k hk _ => h.block k hk⟩

theorem own_kept {w w' : World} {base : Nat} {e : TypeId} {size : Nat} {v : Value} {n : Nat} {xs : List Value} {row : Option Nat} (h : w.ownsRow base e size v n xs) (hg : w.grownBy w' row) (hne : ∀ g, v.ownBlock = some g → some g ≠ row) : w'.ownsRow base e size v n xs := by
  obtain ⟨h1, h2⟩ := h
  refine ⟨h1, ?_⟩
  rcases h2 with h2 | ⟨g, cap, cur, rfl, hg1, hh, r⟩
  · exact .inl h2
  · refine .inr ⟨g, cap, cur, rfl, hg1, ?_, r⟩
    rw [hg.block g (Array.getElem?_eq_some_iff.1 hh).1 (hne g rfl)]; exact hh

theorem own_mono {w : World} {base base' : Nat} {e : TypeId} {size : Nat} {v : Value} {n : Nat} {xs : List Value} (h : w.ownsRow base e size v n xs) (hb : base' ≤ base) : w.ownsRow base' e size v n xs := by
  obtain ⟨h1, h2⟩ := h
  refine ⟨h1, ?_⟩
  rcases h2 with h2 | ⟨g, cap, cur, rfl, hg1, r⟩
  · exact .inl h2
  · exact .inr ⟨g, cap, cur, rfl, Nat.le_trans hb hg1, r⟩

set_option maxHeartbeats 1600000 in
theorem numbers_any (M base : Nat) (av : Option Addr) (cv : Nat) (ss : List SymD) (D : DataW Unit) (w : World) (hm : w.ownsMap Tryd.prog 9 (plainElem Tryd.prog 3) M ss.length D) (hD : MapIs D ss)
    (hrow : w.ownsRow base 3 1 (.slice av (againTo ss ss.length).length cv) (againTo ss ss.length).length (ints (againTo ss ss.length))) (hl : ss.length ≤ 1048577) :
    Calls Tryd.prog 33 #[.agg #[.map (some M), .slice av (againTo ss ss.length).length cv]] w fun e w' => ∃ v, e = .returned v ∧ w'.ownsRow w.heap.size 3 1 v ss.length (ints (upTo ss.length)) ∧ Below w.heap.size w w' := by
  have hal := again_len ss ss.length
  have hMl0 : M < w.heap.size + 1 := Nat.lt_succ_of_lt hm.lt
  have CL := fun w' (h : w'.ownsRow base 3 1 (.slice av (againTo ss ss.length).length cv) (againTo ss ss.length).length (ints (againTo ss ss.length))) => clone_any base av (againTo ss ss.length) cv w' h (by omega)
  obtain ⟨i0, hi3, hz0, hz1, hz2'⟩ := info_parts info3
  go_enter Tryd.func33, Tryd.ntmps33
  go_wp2_with (first
    | (go_at_call 42; (refine (CL _ (hrow.alloc _)).mono ?_; rintro e w2 ⟨v, rfl, hown2, hb2⟩; have q0 : w2.cell? ⟨w.heap.size, 0, none⟩ = some (.map (some M)) := (below_grownN hb2).cell (by simp [go_sem]) (by simp); have hown2' : w2.ownsRow (w.heap.size + 1) 3 1 v (againTo ss ss.length).length (ints (againTo ss ss.length)) := (by simpa using hown2); have hm2 := (hm.alloc (.cells #[.map (some M), .slice av (againTo ss ss.length).length cv] 48)).kept (below_grownN hb2) (by simp); have hB2 : Below w.heap.size w w2 := ((Below.refl w.heap.size w).alloc (Nat.le_refl _) _).trans (hb2.mono (by simp)); have hz2 : w.heap.size + 1 ≤ w2.heap.size := (by have := hb2.size; simpa using this); clear hown2 hb2 CL hrow hm))
    | (at_range; (refine wpList_range_own _ rfl _ 45 rfl 9 3 law9 Tryd.underlying45 _ M ss.length _ rfl hm2 ?_; intro w3 hrg0 hg3 hs3)))
  go_frame
  have hown3 := own_kept hown2' hg3 (by simp)
  have hB3 : Below w.heap.size w w3 := hB2.grown hg3 hB2.size (by simp)
  have hC0 := coll_start hD
  have hMl : M < w.heap.size + 1 := hMl0
  have hz3 : w.heap.size + 1 ≤ w3.heap.size := by omega
  clear hown2' hm2 q0 hB2 hg3 hs3
  go_loopw [3] (fun all wr => ∃ (left : Lit → Bool) (cnt : Nat) (l : List Int), wr.ranges Tryd.prog 9 (plainElem Tryd.prog 3) M w2.heap.size ss.length D left cnt ∧ Coll ss left l ∧ (∀ kl, left kl = true → Maps.has D kl = true) ∧ wr.ownsRow (w.heap.size + 1) 3 1 all ((againTo ss ss.length).length + l.length) (ints (againTo ss ss.length ++ l)) ∧ Below w.heap.size w wr ∧ w.heap.size + 1 ≤ wr.heap.size) (fun _ wr => wr.rangeLeft M w2.heap.size)
  case atStart => exact ⟨_, _, [], hrg0, hC0, fun _ h => h, by simpa using hown3, hB3, hz3⟩
  case round =>
    obtain ⟨left, cnt, l, hrg, hC, hH, hown, hbr, hzr⟩ := hrel
    clear hrg0 hown3 hB3 hC0 hz3
    have hll := coll_len hC
    go_wp2_with (at_next; refine next_si Tryd.underlying9 Tryd.underlying3 _ rfl _ rfl M w2.heap.size ss.length _ left cnt rfl hrg ?_ ?_)
    · intro _ hl0
      have HS : Hid ((againTo ss ss.length ++ l).mergeSort (fun x y => decide (x ≤ y)) = upTo ss.length) := all_sorted hC hl0
      have HL : Hid ((againTo ss ss.length ++ l).length = ss.length) := all_len hC hl0
      obtain ⟨a2, c2, rfl⟩ := own_shape hown
      have S := sort_any (w.heap.size + 1) a2 (againTo ss ss.length ++ l) _ c2 wr (by simp) hown (by rw [HL.out]; omega)
      go_wp2_with (go_at_call 43; (refine S.mono ?_; rintro e w5 ⟨rfl, hown5, hg5⟩; clear S))
      go_ret
      refine ⟨_, rfl, ?_, hbr.grown hg5 hbr.size (fun j hj => by have := own_block hown j hj; omega)⟩
      rw [HS.out] at hown5
      have e1 : (againTo ss ss.length).length + l.length = ss.length := by rw [← List.length_append]; exact HL.out
      rw [e1] at hown5 ⊢
      exact own_mono hown5 (Nat.le_succ _)
    · intro s c w4 cnt4 hls hat hrg4 hlt4 hg4 hs4 hen
      obtain ⟨i, hi, rfl⟩ := coll_at hD (hH _ hls) hat
      have hil := idx_lt hi
      have hC4 := coll_next hC hi hls
      have hown4 := own_kept hown hg4 (fun g hg e => row_ne_iter hown hrg (by rw [hg]; exact e.symm))
      have hb4 : Below w.heap.size w w4 := hbr.grown hg4 hbr.size (by intro j hj; cases hj; omega)
      clear hat hls
      go_wp2_with (at_builtin; go_must (refine wpList_append_own _ rfl (.tmp 16) (.tmp 18) 46 rfl (w.heap.size + 1) 3 i0 (.int .i64 0) 1 8 Tryd.underlying46 hi3 hz0 hz1 hz2' rfl (by decide) _ _ _ rfl (hown4.alloc _) ⟨wr.heap.size, 0, none⟩ 1 1 [.int .i64 i] rfl rfl (one_new' _ _ _ _ hs4.symm) (one_cell _) (by unfold maxLen; omega) (by omega) (by simp; omega) ?_; intro v5 w5 hown5 hgrow5 hnil5; clear hnil5; have hg5 : (w4.alloc _).grownBy w5 _ := hgrow5; clear hgrow5; go_frame))
      have hr5 := (hrg4.alloc (.cells #[.int .i64 (i : Int)] 3)).kept hg5 (row_ne_low hown (by omega)) (row_ne_iter hown4 hrg4)
      go_roundw
      case rel => exact ⟨_, cnt4, l ++ [(i : Int)], hr5, hC4, fun kl h => hH kl (by simp at h; exact h.1), by simpa [ints, Nat.add_assoc] using hown5, (hb4.alloc (by omega) _).grown hg5 (by simp; omega) (fun j hj => by have := own_block hown j hj; omega), by have := hg5.size; simp at this; omega⟩
      case measure => rw [hr5.left_eq, hrg.left_eq]; omega
end Go.Proofs.YtpcimneinnanbaaDoor
