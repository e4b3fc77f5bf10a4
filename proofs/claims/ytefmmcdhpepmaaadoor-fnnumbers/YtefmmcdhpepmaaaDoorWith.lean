/- Contracts of the functions that put a number into a list, and of those that mark a list. Conditions: each list has at most 1048577 numbers. -/
import Derived.Test.YtefmmcdhpepmaaaDoorDraw2
import Derived.Test.YtefmmcdhpepmaaaDoorIns
namespace Go.Proofs.YtefmmcdhpepmaaaDoor
open Go.RowKit

theorem own_one {w : World} {B g c : Nat} {o : List Int} {x : Int} (h : w.ownsRow B 3 1 (.slice (some ⟨g, 0, none⟩) (o.length + 1) c) (o.length + 1) (ints o ++ [.int .i64 x])) :
    w.ownsRow B 3 1 (.slice (some ⟨g, 0, none⟩) (o ++ [x]).length c) (o ++ [x]).length (ints (o ++ [x])) := by
  simpa [ints] using h
theorem own_two {w : World} {B g c : Nat} {o : List Int} {x y : Int} (h : w.ownsRow B 3 1 (.slice (some ⟨g, 0, none⟩) (o.length + 1 + 1) c) (o.length + 1 + 1) (ints o ++ [.int .i64 x] ++ [.int .i64 y])) :
    w.ownsRow B 3 1 (.slice (some ⟨g, 0, none⟩) (o ++ [x] ++ [y]).length c) (o ++ [x] ++ [y]).length (ints (o ++ [x] ++ [y])) := by
  simpa [ints] using h

set_option maxHeartbeats 1600000 in
theorem with_any (b off : Nat) (zs : List Int) (n cap : Nat) (x : Int) (w : World) (hn : n = zs.length) (hlt : b < w.heap.size) (hc : ∀ i, i < zs.length → w.cell? ⟨b, off + i, none⟩ = some (.int .i64 (zs[i]?.getD 0))) (hl : zs.length ≤ 1048577) :
    Calls Tryd.prog 30 #[.slice (some ⟨b, off, none⟩) n cap, .int .i64 x] w fun e w' => e = .returned (.slice (some ⟨w.heap.size, 0, none⟩) (ins zs x).length (n + 1)) ∧ w'.ownsRow w.heap.size 3 1 (.slice (some ⟨w.heap.size, 0, none⟩) (ins zs x).length (n + 1)) (ins zs x).length (ints (ins zs x)) ∧ Below w.heap.size w w' := by
  subst hn
  obtain ⟨i0, hi, hz0, hz1, hz2⟩ := info_parts Tryd.info3
  have H := fun w1 => has_any (some ⟨b, off, none⟩) zs _ cap x w1 rfl
  go_enter Tryd.func30, Tryd.ntmps30
  go_wp2_with (at_make; refine wpList_make_own _ rfl _ _ 50 rfl w.heap.size 3 i0 (.int .i64 0) 1 Tryd.underlying50 hi hz0 hz1 _ _ _ (zs.length + 1) rfl rfl (by omega) (by rw [hz2]; omega) (by unfold maxLen; omega) (Nat.le_refl _) ?_)
  intro w1 hown hgrow
  have hb1 : Below w.heap.size w w1 := (Below.refl _ _).grown hgrow (Nat.le_refl _) (by simp)
  have Hr := has_any (some ⟨b, off, none⟩) zs _ cap x w1 rfl (Rd.below (.inr ⟨b, off, rfl, hlt, hc⟩) hb1) hl
  clear hgrow H
  go_wp2_with (go_at_call 34; refine Hr.mono ?_; rintro e w' ⟨rfl, rfl⟩)
  clear Hr
  go_loopw [5, 6, 18] (fun v pl i wr => ∃ (k : Nat) (o : List Int) (p : Bool), k ≤ zs.length ∧ i = .int .i64 k ∧ pl = .bool p ∧ v = .slice (some ⟨w.heap.size, 0, none⟩) o.length (zs.length + 1) ∧ wr.ownsRow w.heap.size 3 1 (.slice (some ⟨w.heap.size, 0, none⟩) o.length (zs.length + 1)) o.length (ints o) ∧ Hid (made zs x k = (o, p)) ∧ Below w.heap.size w wr) (fun _ _ i _ => zs.length - (intOf i).toNat)
  case atStart => exact ⟨0, [], hasB zs x, Nat.zero_le _, rfl, rfl, rfl, hown, made_zero_ zs x, hb1⟩
  case round =>
    obtain ⟨k, o, p, hk, rfl, rfl, rfl, hown', HM, hb⟩ := hrel
    clear hown hb1
    have hol := made_len zs x k hk
    rw [HM.out] at hol
    simp only at hol
    by_cases hk' : k < zs.length
    · have hck : wr.cell? ⟨b, off + k, none⟩ = some (.int .i64 zs[k]) := by
        have := (hb.cell (p := ⟨b, off + k, none⟩) hlt).trans (hc k hk')
        simpa [hk'] using this
      have hB := hb.size
      clear hc
      by_cases hput : p = false ∧ x < zs[k]
      · obtain ⟨rfl, hx⟩ := hput
        have HN := made_put (x := x) hk' (by rw [HM.out]) hx
        rw [HM.out] at HN
        have HN' : Hid (made zs x (k + 1) = (o ++ [x] ++ [zs[k]], true)) := Prod.ext HN.1 HN.2
        have ho : o.length ≤ k := by simp at hol; omega
        clear hol HN
        go_wp2_with (first
          | (at_builtin; refine wpList_append_fits _ rfl (.tmp 29) (.tmp 31) 50 rfl w.heap.size 3 i0 1 Tryd.underlying50 hi hz1 w.heap.size o.length (zs.length + 1) (ints o) rfl (hown'.alloc _) ⟨wr.heap.size, 0, none⟩ 1 1 [.int .i64 x] rfl rfl (one_new _ _ _) (one_cell _) (by omega) ?_; intro w2 hown2 hgrow2)
          | (at_builtin; refine wpList_append_fits _ rfl (.tmp 33) (.tmp 35) 50 rfl w.heap.size 3 i0 1 Tryd.underlying50 hi hz1 w.heap.size (o.length + 1) (zs.length + 1) (ints o ++ [.int .i64 x]) rfl (hown2.alloc _) ⟨w2.heap.size, 0, none⟩ 1 1 [.int .i64 zs[k]] rfl rfl (one_new _ _ _) (one_cell _) (by omega) ?_; intro w3 hown3 hgrow3))
        go_roundw
        case rel => exact ⟨k + 1, o ++ [x] ++ [zs[k]], true, by omega, by go_num, rfl, by simp, own_two hown3, HN', (((hb.alloc hB _).grown hgrow2 (by simp; omega) (by simp)).alloc (by have := hgrow2.size; simp at this; omega) _).grown hgrow3 (by have := hgrow2.size; simp at this ⊢; omega) (by simp)⟩
        case measure => simp [intOf]; omega
      · have HN := made_not (x := x) hk' (show (made zs x k).2 = true ∨ ¬ x < zs[k] by
          rw [HM.out]
          by_cases hp : p = true
          · exact .inl hp
          · exact .inr fun h => hput ⟨by simpa using hp, h⟩)
        rw [HM.out] at HN
        have HN' : Hid (made zs x (k + 1) = (o ++ [zs[k]], p)) := Prod.ext HN.1 HN.2
        have ho : o.length ≤ zs.length := by omega
        clear hol HN
        by_cases hp : p = true
        · subst hp
          clear hput
          go_wp2_with (at_builtin; refine wpList_append_fits _ rfl (.tmp 33) (.tmp 35) 50 rfl w.heap.size 3 i0 1 Tryd.underlying50 hi hz1 w.heap.size o.length (zs.length + 1) (ints o) rfl (hown'.alloc _) ⟨wr.heap.size, 0, none⟩ 1 1 [.int .i64 zs[k]] rfl rfl (one_new _ _ _) (one_cell _) (by omega) ?_; intro w2 hown2 hgrow2)
          go_roundw
          case rel => exact ⟨k + 1, o ++ [zs[k]], true, by omega, by go_num, rfl, by simp, own_one hown2, HN', (hb.alloc hB _).grown hgrow2 (by simp; omega) (by simp)⟩
          case measure => simp [intOf]; omega
        · have hp' : p = false := by simpa using hp
          subst hp'
          have hx : ¬ x < zs[k] := fun h => hput ⟨rfl, h⟩
          clear hput hp
          go_wp2_with (at_builtin; refine wpList_append_fits _ rfl (.tmp 33) (.tmp 35) 50 rfl w.heap.size 3 i0 1 Tryd.underlying50 hi hz1 w.heap.size o.length (zs.length + 1) (ints o) rfl (hown'.alloc _) ⟨wr.heap.size, 0, none⟩ 1 1 [.int .i64 zs[k]] rfl rfl (one_new _ _ _) (one_cell _) (by omega) ?_; intro w2 hown2 hgrow2)
          go_roundw
          case rel => exact ⟨k + 1, o ++ [zs[k]], false, by omega, by go_num, rfl, by simp, own_one hown2, HN', (hb.alloc hB _).grown hgrow2 (by simp; omega) (by simp)⟩
          case measure => simp [intOf]; omega
    · have e : k = zs.length := by omega
      have HE := made_end zs x
      rw [← e, HM.out] at HE
      have HEH : Hid ((if p = true then o else o ++ [x]) = ins zs x) := HE
      have hB := hb.size
      have ho : o.length ≤ zs.length + 1 := by omega
      have ho2 : p = false → o.length ≤ zs.length := by intro h; simp [h] at hol; omega
      clear HE hol HM e hc
      by_cases hp : p = true
      · subst hp
        clear ho2
        go_wp2
        go_ret
        have e2 : o = ins zs x := by simpa using HEH.out
        subst e2
        exact ⟨rfl, hown', hb⟩
      · have hp' : p = false := by simpa using hp
        subst hp'
        have ho3 := ho2 rfl
        clear hp ho2 ho
        go_wp2_with (at_builtin; refine wpList_append_fits _ rfl (.tmp 40) (.tmp 42) 50 rfl w.heap.size 3 i0 1 Tryd.underlying50 hi hz1 w.heap.size o.length (zs.length + 1) (ints o) rfl (hown'.alloc _) ⟨wr.heap.size, 0, none⟩ 1 1 [.int .i64 x] rfl rfl (one_new _ _ _) (one_cell _) (by omega) ?_; intro w2 hown2 hgrow2)
        go_ret
        have e2 : o ++ [x] = ins zs x := by simpa using HEH.out
        rw [← e2]
        exact ⟨by simp, own_one hown2, (hb.alloc hB _).grown hgrow2 (by simp; omega) (by simp)⟩
end Go.Proofs.YtefmmcdhpepmaaaDoor
