/- Contracts of the functions by which the laws draw their inputs from a code. Conditions: the code has at most 1048576 bytes. -/
import Derived.Test.YtpcimneinnanbaaDoorProg
import Derived.Test.YtpcimneinnanbaaDoorDrawA
namespace Go.Proofs.YtpcimneinnanbaaDoor
open Go.RowKit

set_option maxHeartbeats 1600000 in
theorem byte_any (c : Nat) (a : Option Addr) (bs : List Int) (cap : Nat) (w : World) (hl : bs.length ≤ 1048576) (hc : Cur 62 w c a bs cap) :
    Calls Tryd.prog 40 #[.pointer (some ⟨c, 0, none⟩)] w fun e w' => ∃ x : Int, e = .returned (.int .i64 x) ∧ 0 ≤ x ∧ x ≤ 255 ∧ Cur 62 w' c a bs cap ∧ w.grownBy w' (some c) := by
  obtain ⟨hr, i, h, hi, ⟨hh1, hh2⟩, hk⟩ := hc
  have c0 : w.cell? ⟨c, 0, none⟩ = some (.slice a bs.length cap) := by rw [Lib.cell_of_heap hk]; rfl
  have c1 : w.cell? ⟨c, 1, none⟩ = some (.int .i64 i) := by rw [Lib.cell_of_heap hk]; rfl
  have c2 : w.cell? ⟨c, 2, none⟩ = some (.int .i64 h) := by rw [Lib.cell_of_heap hk]; rfl
  have f1 : w.frozen? ⟨c, 1, none⟩ = false := Lib.frozen_of_heap hk 1
  have f2 : w.frozen? ⟨c, 2, none⟩ = false := Lib.frozen_of_heap hk 2
  have HK : Hid (w.heap[c]? = some (.cells #[.slice a bs.length cap, .int .i64 i, .int .i64 h] 62 (0, 0))) := hk
  clear hk
  by_cases hi' : i < bs.length
  · obtain ⟨hz, hrr⟩ := hr
    rcases hrr with rfl | ⟨b, off, rfl, hlt, hne, hcs⟩
    · simp at hi'
    have hci : w.cell? ⟨b, off + i, none⟩ = some (.int .u8 bs[i]) := by rw [hcs i hi']; simp [hi']
    have hi2 : (i : Int) < (bs.length : Int) := by omega
    have hzi := hz bs[i] (List.getElem_mem hi')
    have hr : RdB w c (some ⟨b, off, none⟩) bs := ⟨hz, .inr ⟨b, off, rfl, hlt, hne, hcs⟩⟩
    obtain ⟨hz1, hz2⟩ := hzi
    clear hcs hz
    go_enter Tryd.func40, Tryd.ntmps40
    go_wp2
    go_quiet (fail)
    go_wp2
    go_quiet (fail)
    go_wp2
    go_quiet (fail)
    go_wp2
    go_ret
    have hx := and_255 (wrap64 (bits BinOp.and IntKind.i64 (bits BinOp.xor IntKind.i64 (wrap64 (wrap64 (h * 6364136223846793005) + 1442695040888963407) / 8589934592) (wrap64 (wrap64 (h * 6364136223846793005) + 1442695040888963407) / 35184372088832)) 255 + bs[i]))
    refine ⟨_, rfl, hx.1, hx.2, ?_, ?_⟩
    · refine ⟨hr.grown (grown_then (grown_draw (grown_set _ _ _ _) _) (grown_set _ _ _ _)), i + 1, _, by omega, isInt_wrap (wrap64 (h * 6364136223846793005) + 1442695040888963407), ?_⟩
      exact heap_setCell_same _ c 1 _ 62 _ (heap_setCell_same w c 2 _ 62 _ HK.out)
    · exact grown_then (grown_draw (grown_set _ _ _ _) _) (grown_set _ _ _ _)
  · have hi2 : ¬ (i : Int) < (bs.length : Int) := by omega
    go_enter Tryd.func40, Tryd.ntmps40
    go_wp2
    go_quiet (fail)
    go_wp2
    go_quiet (fail)
    go_wp2
    go_ret
    have hx := and_255 (bits BinOp.xor IntKind.i64 (wrap64 (wrap64 (h * 6364136223846793005) + 1442695040888963407) / 8589934592) (wrap64 (wrap64 (h * 6364136223846793005) + 1442695040888963407) / 35184372088832))
    refine ⟨_, rfl, hx.1, hx.2, ?_, ?_⟩
    · refine ⟨hr.grown (grown_draw (grown_draw (grown_set _ _ _ _) _) _), i, _, hi, isInt_wrap (wrap64 (h * 6364136223846793005) + 1442695040888963407), ?_⟩
      exact heap_setCell_same w c 2 _ 62 _ HK.out
    · exact grown_draw (grown_draw (grown_set _ _ _ _) _) _

set_option maxHeartbeats 800000 in
theorem below_any (c : Nat) (a : Option Addr) (bs : List Int) (cap : Nat) (n : Int) (w : World) (hl : bs.length ≤ 1048576) (hn0 : 0 < n) (hn1 : n ≤ 256) (hc : Cur 62 w c a bs cap) :
    Calls Tryd.prog 26 #[.pointer (some ⟨c, 0, none⟩), .int .i64 n] w fun e w' => ∃ k : Nat, e = .returned (.int .i64 k) ∧ (k : Int) < n ∧ Cur 62 w' c a bs cap ∧ w.grownBy w' (some c) := by
  have H := byte_any c a bs cap w hl hc
  have hne : (n == 0) = false := by simp; omega
  clear hc hl
  go_enter Tryd.func26, Tryd.ntmps26
  go_wp2_with (go_at_call 40; refine H.mono ?_; rintro e w1 ⟨x, rfl, hx0, hx1, hC, hg⟩; clear H)
  go_ret
  have h1 := Int.emod_nonneg x (show n ≠ 0 by omega)
  have h2 := Int.emod_lt_of_pos x hn0
  exact ⟨(x % n).toNat, by rw [Int.toNat_of_nonneg h1]; rfl, by omega, hC, hg⟩

set_option maxHeartbeats 800000 in
theorem pickInt_any (c : Nat) (a : Option Addr) (bs : List Int) (cap g lcap : Nat) (zs : List Int) (n : Nat) (w : World) (hl : bs.length ≤ 1048576) (hn : n = zs.length) (hn0 : 0 < zs.length) (hn1 : zs.length ≤ 256) (hc : Cur 62 w c a bs cap)
    (hlt : g < w.heap.size) (hne : g ≠ c) (hcs : ∀ i, i < zs.length → w.cell? ⟨g, 0 + i, none⟩ = some (.int .i64 (zs[i]?.getD 0))) :
    Calls Tryd.prog 39 #[.pointer (some ⟨c, 0, none⟩), .slice (some ⟨g, 0, none⟩) n lcap] w fun e w' => ∃ z : Int, e = .returned (.int .i64 z) ∧ z ∈ zs ∧ Cur 62 w' c a bs cap ∧ w.grownBy w' (some c) := by
  subst hn
  have H := below_any c a bs cap zs.length w hl (by omega) (by omega) hc
  have HC := fun w' => Rd.grown (w' := w') hcs hlt hne
  clear hc hl hcs
  go_enter Tryd.func39, Tryd.ntmps39
  go_wp2_with (go_at_call 26; refine H.mono ?_; rintro e w1 ⟨k, rfl, hx1, hC, hg⟩; clear H; have hk : k < zs.length := (by omega); have hck : w1.cell? ⟨g, k, none⟩ = some (.int .i64 zs[k]) := cell_pick hk (HC w1 hg); clear HC)
  go_ret
  exact ⟨zs[k], rfl, List.getElem_mem hk, hC, hg⟩

set_option maxHeartbeats 800000 in
theorem pickStr_any (c : Nat) (a : Option Addr) (bs : List Int) (cap g lcap : Nat) (ss : List ByteArray) (n : Nat) (w : World) (hl : bs.length ≤ 1048576) (hn : n = ss.length) (hn0 : 0 < ss.length) (hn1 : ss.length ≤ 256) (hc : Cur 62 w c a bs cap)
    (hlt : g < w.heap.size) (hne : g ≠ c) (hcs : ∀ i, i < ss.length → w.cell? ⟨g, i, none⟩ = some (.string (ss[i]?.getD ByteArray.empty))) :
    Calls Tryd.prog 25 #[.pointer (some ⟨c, 0, none⟩), .slice (some ⟨g, 0, none⟩) n lcap] w fun e w' => ∃ s : ByteArray, e = .returned (.string s) ∧ s ∈ ss ∧ Cur 62 w' c a bs cap ∧ w.grownBy w' (some c) := by
  subst hn
  have H := below_any c a bs cap ss.length w hl (by omega) (by omega) hc
  have HC : ∀ w', w.grownBy w' (some c) → ∀ k, (h : k < ss.length) → w'.cell? ⟨g, k, none⟩ = some (.string ss[k]) := by
    intro w' hg k hk
    have h1 : w'.cell? ⟨g, k, none⟩ = w.cell? ⟨g, k, none⟩ := World.cell?_of_block (w := w) (hg.block g hlt (by simp [hne]))
    rw [h1, hcs k hk]; simp [hk]
  clear hc hl hcs
  go_enter Tryd.func25, Tryd.ntmps25
  go_wp2_with (go_at_call 26; refine H.mono ?_; rintro e w1 ⟨k, rfl, hx1, hC, hg⟩; clear H; have hk : k < ss.length := (by omega); have hck := HC w1 hg k hk; clear HC)
  go_ret
  exact ⟨ss[k], rfl, List.getElem_mem hk, hC, hg⟩

set_option maxHeartbeats 800000 in
theorem new_any (a : Option Addr) (bs : List Int) (n cap : Nat) (w : World) (hn : n = bs.length) (hl : bs.length ≤ 1048576) (hr : ∀ c, w.heap.size ≤ c → RdB w c a bs) :
    Calls Tryd.prog 24 #[.slice a n cap] w fun e w' => e = .returned (.pointer (some ⟨w.heap.size, 0, none⟩)) ∧ Cur 62 w' w.heap.size a bs cap ∧ Below w.heap.size w w' := by
  subst hn
  have hr0 := hr _ (Nat.le_refl _)
  obtain ⟨hz, hrr⟩ := hr0
  rcases hrr with rfl | ⟨b, off, rfl, hlt, hne, hcs⟩
  · go_enter Tryd.func24, Tryd.ntmps24
    go_wp2
    refine wp_loop_rounds 1 ?_
    rw [rounds_succ]
    go_wp2
    go_ret
    exact ⟨rfl, cur_new (h := 27064) (hr _ (Nat.le_refl _)) (by unfold isInt; omega), (Below.refl _ _).alloc (Nat.le_refl _) _⟩
  · go_enter Tryd.func24, Tryd.ntmps24
    go_wp2
    go_loop [3, 4] (fun t i => ∃ (k : Nat) (h : Int), k ≤ bs.length ∧ i = .int .i64 k ∧ t = .int .i64 h ∧ 0 ≤ h ∧ h ≤ 1073741823) (fun _ i => bs.length - (intOf i).toNat)
    case atStart => exact ⟨0, _, Nat.zero_le _, rfl, rfl, by omega, by omega⟩
    case round =>
      obtain ⟨k, h, hk, rfl, rfl, hh0, hh1⟩ := hrel
      by_cases hk' : k < bs.length
      · have hck : w.cell? ⟨b, off + k, none⟩ = some (.int .u8 bs[k]) := by rw [hcs k hk']; simp [hk']
        obtain ⟨hz1, hz2⟩ := hz bs[k] (List.getElem_mem hk')
        clear hcs hz
        by_cases h4 : k < 4000
        · have h4' : (k : Int) < 4000 := by omega
          go_wp2
          go_round
          case rel =>
            have hx := and_le (h * 131 + bs[k] + 7) 1073741823 (by omega)
            exact ⟨k + 1, _, by omega, by go_num, rfl, hx.1, hx.2⟩
          case measure => simp [intOf]; omega
        · have h4' : ¬ (k : Int) < 4000 := by omega
          go_wp2
          go_ret
          exact ⟨rfl, cur_new (hr _ (Nat.le_refl _)) (by unfold isInt; omega), (Below.refl _ _).alloc (Nat.le_refl _) _⟩
      · go_wp2
        go_ret
        exact ⟨rfl, cur_new (hr _ (Nat.le_refl _)) (by unfold isInt; omega), (Below.refl _ _).alloc (Nat.le_refl _) _⟩
end Go.Proofs.YtpcimneinnanbaaDoor
