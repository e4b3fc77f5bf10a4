/- What lists of numbers come to, place by place: the specification's way and the program's. Conditions: at most 1048577 lists, each of at most 1048577 numbers. -/
import Derived.Test.YtcbafmohmoicnabProg
import Derived.Test.YtcbafmohmoicnabSumA
import Derived.Test.YtcbafmohmoicnabNum
import Derived.Test.YtcbafmohmoicnabTermA
import Derived.BigQuiet
import Derived.Deep.QuietTactic
import Derived.OpenShut
import Derived.ProofKit
import Derived.WalkKit
import Derived.WalkSmall
namespace Go.Proofs.Ytcbafmohmoicnab
set_option maxRecDepth 100000
open Go.RowKit

theorem own_none (w : World) : (w.alloc (.cells #[] 3)).ownsRow w.heap.size 3 1 (.slice (some ⟨w.heap.size, 0, none⟩) 0 0) 0 [] := World.ownsRow_made w #[] 0 (Nat.le_refl _) (Nat.zero_le _) rfl
set_option maxHeartbeats 1600000 in
theorem specSum_any (a : Option Addr) (rows : List (List Int)) (cap : Nat) (n : Int) (w : World) (hr : RdQ w a rows) (hl : rows.length ≤ 1048577) (hl2 : ∀ row ∈ rows, row.length ≤ 1048577) :
    Calls Try.prog 36 #[.slice a rows.length cap, .int .i64 n] w fun e w' => ∃ g c, e = .returned (.slice (some ⟨g, 0, none⟩) (sumL rows n).length c) ∧ w'.ownsRow w.heap.size 3 1 (.slice (some ⟨g, 0, none⟩) (sumL rows n).length c) (sumL rows n).length (ints (sumL rows n)) ∧ Below w.heap.size w w' := by
  obtain ⟨i0, hi, hz0, hz1, hz2⟩ := info_parts Try.info3
  by_cases hn : 1 ≤ n ∧ n ≤ 1000
  · obtain ⟨m, rfl⟩ : ∃ m : Nat, n = (m : Int) := ⟨n.toNat, by omega⟩
    have hm1 : 1 ≤ m := by omega
    have hm2 : m ≤ 1000 := by omega
    have hle : (m : Int) ≤ 1000 := by omega
    have HS : Hid (sumL rows (m : Int) = (List.range m).map (sumAt rows)) := sumL_nat hm1 hm2
    have HR : Hid (RdQ w a rows) := hr
    clear hn hr
    go_enter Try.func36, Try.ntmps36
    go_wp2_with fail
    go_loopw [5, 6] (fun o i wr => ∃ k g c : Nat, k ≤ m ∧ i = .int .i64 k ∧ o = .slice (some ⟨g, 0, none⟩) k c ∧ wr.ownsRow w.heap.size 3 1 (.slice (some ⟨g, 0, none⟩) k c) k (ints ((List.range k).map (sumAt rows))) ∧ Below w.heap.size w wr) (fun _ i _ => m - (intOf i).toNat)
    case atStart => exact ⟨0, w.heap.size, 0, Nat.zero_le _, rfl, rfl, World.ownsRow_made w #[] 0 (Nat.le_refl _) (Nat.zero_le _) rfl, (Below.refl _ _).alloc (Nat.le_refl _) _⟩
    case round =>
      obtain ⟨k, g, c, hk, rfl, rfl, hown, hb⟩ := hrel
      have HRW : Hid (RdQ wr a rows) := RdQ.below HR.out hb
      by_cases hk' : k < m
      · have hki : (k : Int) < (m : Int) := by omega
        have HO : Hid (wr.ownsRow w.heap.size 3 1 (.slice (some ⟨g, 0, none⟩) k c) k (ints ((List.range k).map (sumAt rows)))) := hown
        have HB : Hid (Below w.heap.size w wr) := hb
        clear hown hb
        go_wp2_with fail
        go_loop [7, 8] (fun t i => ∃ r : Nat, r ≤ rows.length ∧ i = .int .i64 r ∧ t = .int .i64 (sumAt (rows.take r) k)) (fun _ i => rows.length - (intOf i).toNat)
        case atStart => exact ⟨0, Nat.zero_le _, rfl, rfl⟩
        case round =>
          obtain ⟨r, hrl, rfl, rfl⟩ := hrel
          by_cases hr' : r < rows.length
          · obtain ⟨b, off, ai, ci, rfl, c1, hrd⟩ := HRW.out.get hr'
            have hri : (r : Int) < (rows.length : Int) := by omega
            have hri0 : (0 : Int) ≤ (r : Int) := by omega
            have hki0 : (0 : Int) ≤ (k : Int) := by omega
            have HST : Hid (sumAt (rows.take (r + 1)) k = sumStep k (sumAt (rows.take r) k) rows[r]) := sumAt_step hr' k
            have hlr := hl2 rows[r] (List.getElem_mem hr')
            generalize sumAt (rows.take r) k = t at HST ⊢
            generalize rows[r] = row at c1 hrd HST hlr
            by_cases hkr : k < row.length
            · obtain ⟨b2, off2, rfl, _, c2⟩ := hrd.get hkr
              have hkri : (k : Int) < (row.length : Int) := by omega
              have HE : Hid _ := HST.out.trans (sumStep_in hkr)
              clear HST hrd
              generalize row[k] = x at c2 HE
              go_wp2_with fail
              go_round
              case rel => exact ⟨r + 1, by omega, by go_num, by rw [HE.out]⟩
              case measure => simp [intOf]; omega
            · have hkri : ¬ (k : Int) < (row.length : Int) := by omega
              have HE : Hid _ := HST.out.trans (sumStep_out hkr)
              clear HST hrd
              go_wp2_with fail
              go_round
              case rel => exact ⟨r + 1, by omega, by go_num, by rw [HE.out]⟩
              case measure => simp [intOf]; omega
          · have hri : ¬ (r : Int) < (rows.length : Int) := by omega
            have e : rows.take r = rows := List.take_of_length_le (by omega)
            rw [e]
            clear e
            have hown : wr.ownsRow w.heap.size 3 1 (.slice (some ⟨g, 0, none⟩) k c) k (ints ((List.range k).map (sumAt rows))) := HO.out
            have hb : Below w.heap.size w wr := HB.out
            have HX : Hid (ints ((List.range k).map (sumAt rows)) ++ [.int .i64 (sumAt rows k)] = ints ((List.range (k + 1)).map (sumAt rows))) := by show _ = _; simp [ints, List.range_succ]
            generalize sumAt rows k = t at HX ⊢
            go_wp2_with (at_builtin; go_loud ((refine wpList_append_own _ rfl (.tmp 41) (.tmp 43) 46 rfl w.heap.size 3 i0 (.int .i64 0) 1 8 Try.underlying46 hi hz0 hz1 hz2 rfl (by decide) _ k _ rfl (hown.alloc _) ⟨wr.heap.size, 0, none⟩ 1 1 [.int .i64 t] rfl rfl (one_new _ _ _) (one_cell _) (by unfold maxLen; omega) (by omega) (by have := hb.size; simp; omega) ?_)); intro v3 w3 hown3 hgrow3 hnil3; obtain ⟨g3, c3, rfl⟩ := own_some hown3 hnil3; have hb3 := below_app hb hown hgrow3; have HO3 : Hid _ := hown3; clear hnil3 hgrow3 hown hb hown3)
            go_roundw
            case rel => exact ⟨k + 1, g3, c3, by omega, by go_num, by simp, by have := HO3.out; rw [HX.out] at this; exact this, hb3⟩
            case measure => simp [intOf]; omega
      · have hki : ¬ (k : Int) < (m : Int) := by omega
        have e : k = m := by omega
        subst e
        have HO : Hid _ := hown
        clear hown
        go_wp2_with fail
        go_ret
        have hlen : (sumL rows (k : Int)).length = k := by rw [HS.out]; simp
        rw [hlen, HS.out]
        exact ⟨g, c, rfl, HO.out, hb⟩
  · have HS : Hid (sumL rows n = []) := by show _ = _; unfold sumL; rw [if_neg hn]
    have hb : Below w.heap.size w (w.alloc (.cells #[] 3)) := (Below.refl _ _).alloc (Nat.le_refl _) _
    have ho : Hid ((w.alloc (.cells #[] 3)).ownsRow w.heap.size 3 1 (.slice (some ⟨w.heap.size, 0, none⟩) 0 0) 0 []) := own_none w
    go_enter Try.func36, Try.ntmps36
    by_cases h0 : (0 : Int) < n
    · have h1 : ¬ n ≤ 1000 := by omega
      clear hn
      go_wp2_with fail
      refine wp_loop_rounds 1 ?_
      rw [rounds_succ]
      go_wp2_with fail
      go_ret
      rw [HS.out]
      exact ⟨_, _, rfl, ho.out, hb⟩
    · clear hn
      go_wp2_with fail
      refine wp_loop_rounds 1 ?_
      rw [rounds_succ]
      go_wp2_with fail
      go_ret
      rw [HS.out]
      exact ⟨_, _, rfl, ho.out, hb⟩
end Go.Proofs.Ytcbafmohmoicnab
