/- What lists of numbers come to, place by place: the program's way. Conditions: at most 1048577 lists, each of at most 1048577 numbers. -/
import Derived.Test.YtcbafmohmoicnabProg
import Derived.Test.YtcbafmohmoicnabSumA
import Derived.Test.YtcbafmohmoicnabNum
import Derived.Test.YtcbafmohmoicnabTermA
import Derived.BigQuiet
import Derived.Deep.QuietTactic
import Derived.Deep.RegionWith
import Derived.OpenShut
import Derived.ProofKit
import Derived.WalkKit
import Derived.WalkSmall
namespace Go.Proofs.Ytcbafmohmoicnab
set_option maxRecDepth 100000
open Go.RowKit

set_option maxHeartbeats 1600000 in
theorem impSum_any (a : Option Addr) (rows : List (List Int)) (cap : Nat) (n : Int) (w : World) (hr : RdQ w a rows) (hl : rows.length ≤ 1048577) (hl2 : ∀ row ∈ rows, row.length ≤ 1048577) :
    Calls Try.prog 38 #[.slice a rows.length cap, .int .i64 n] w fun e w' => ∃ a' c, e = .returned (.slice a' (sumL rows n).length c) ∧ w'.ownsRow w.heap.size 3 1 (.slice a' (sumL rows n).length c) (sumL rows n).length (ints (sumL rows n)) ∧ Below w.heap.size w w' := by
  obtain ⟨i0, hi, hz0, hz1, hz2⟩ := info_parts Try.info3
  by_cases hn : 1 ≤ n ∧ n ≤ 1000
  · obtain ⟨m, rfl⟩ : ∃ m : Nat, n = (m : Int) := ⟨n.toNat, by omega⟩
    have hm1 : 1 ≤ m := by omega
    have hm2 : m ≤ 1000 := by omega
    have hle : ¬ (1000 : Int) < (m : Int) := by omega
    have hge : ¬ (m : Int) < 1 := by omega
    have HS : Hid (sumL rows (m : Int) = (List.range m).map (sumAt rows)) := sumL_nat hm1 hm2
    have HR : Hid (RdQ w a rows) := hr
    clear hn hr
    go_enter Try.func38, Try.ntmps38
    go_wp2_with (first
      | (at_make; refine wpList_make_full _ rfl _ _ 46 rfl w.heap.size 3 i0 (.int .i64 0) 1 Try.underlying46 hi hz0 hz1 _ _ _ _ m rfl rfl rfl rfl (by rw [hz2]; omega) (by unfold maxLen; omega) (Nat.le_refl _) ?_)
      | go_in)
    intro w1 hown hgrow
    have hb1 : Below w.heap.size w w1 := (Below.refl _ _).grown hgrow (Nat.le_refl _) (by simp)
    clear hgrow
    rw [made_zero] at hown
    go_wp2_with fail
    go_loopw [19] (fun i wr => ∃ r : Nat, r ≤ rows.length ∧ i = .int .i64 r ∧ Hid (wr.ownsRow w.heap.size 3 1 (.slice (some ⟨w.heap.size, 0, none⟩) m m) m (ints (mixL rows r 0 m))) ∧ Below w.heap.size w wr) (fun i _ => rows.length - (intOf i).toNat)
    case atStart => exact ⟨0, Nat.zero_le _, rfl, by show World.ownsRow _ _ _ _ _ _ _; rw [mixL_start]; simpa [ints] using hown, hb1⟩
    case round =>
      obtain ⟨r, hrl, rfl, HO, hb⟩ := hrel
      clear hown hb1
      by_cases hr' : r < rows.length
      · obtain ⟨b, off, ai, ci, rfl, c0, hrd⟩ := RdQ.get HR.out hr'
        have c1 := keepC hb c0
        clear c0
        have hri : (r : Int) < (rows.length : Int) := by omega
        have hri0 : (0 : Int) ≤ (r : Int) := by omega
        have hlr := hl2 rows[r] (List.getElem_mem hr')
        have HST : Hid (∀ k, sumAt (rows.take (r + 1)) k = sumStep k (sumAt (rows.take r) k) rows[r]) := sumAt_step hr'
        have HEN : Hid (∀ i, ¬ (i < rows[r].length ∧ i < m) → mixL rows r i m = mixL rows (r + 1) 0 m) := fun i hi => mixL_end hr' hi
        have HRD : Hid (Rd w ai rows[r]) := hrd
        have HB : Hid (Below w.heap.size w wr) := hb
        clear hrd hb
        generalize rows[r] = row at c1 HRD HST HEN hlr
        go_wp2_with fail
        all_goals
          go_loopw [27] (fun i wq => ∃ k : Nat, k ≤ m ∧ i = .int .i64 k ∧ Hid (wq.ownsRow w.heap.size 3 1 (.slice (some ⟨w.heap.size, 0, none⟩) m m) m (ints (mixL rows r k m))) ∧ Hid (Below w.heap.size w wq)) (fun i _ => m - (intOf i).toNat)
          case atStart => exact ⟨0, Nat.zero_le _, rfl, HO, HB⟩
          case round =>
            obtain ⟨k, hk, rfl, HO2, HB2⟩ := hrel
            by_cases hkk : k < row.length ∧ k < m
            · obtain ⟨b2, off2, rfl, hb2, c0⟩ := Rd.get HRD.out hkk.1
              have c2 := keepC HB2.out c0
              clear c0
              have hk1 : (k : Int) < (row.length : Int) := by omega
              have hk2 : (k : Int) < (m : Int) := by omega
              have hk0 : (0 : Int) ≤ (k : Int) := by omega
              have ho : wr.ownsRow w.heap.size 3 1 (.slice (some ⟨w.heap.size, 0, none⟩) m m) m (ints (mixL rows r k m)) := HO2.out
              have hfz := ho.frozenAt k
              have hce : wr.cell? ⟨w.heap.size, k, none⟩ = some (.int .i64 (sumAt (rows.take r) k)) := (ho.cellAt k (by omega)).trans (mixL_get hkk.2)
              have R := ho.stored k (.int .i64 (sumAt (rows.take (r + 1)) k))
              rw [mixL_set, HST.out k, sumStep_in hkk.1] at R
              have HR1 : Hid ((wr.setCell ⟨w.heap.size, k, none⟩ (.int .i64 (wrap64 (sumAt (rows.take r) k + row[k])))).ownsRow w.heap.size 3 1 (.slice (some ⟨w.heap.size, 0, none⟩) m m) m (ints (mixL rows r (k + 1) m))) := R.1
              have HR3 : Hid (Below w.heap.size w (wr.setCell ⟨w.heap.size, k, none⟩ (.int .i64 (wrap64 (sumAt (rows.take r) k + row[k])))) ) := Below.setCell HB2.out (Nat.le_refl _) _
              clear ho R hk HST HEN HB HO HO2 HRD HR
              clear HB2
              go_wp2_with fail
              go_region
              go_wp2_with fail
              go_roundw
              case rel => exact ⟨k + 1, by omega, by go_num, HR1, Below.drew HR3.out⟩
              case measure => simp [intOf]; omega
            · first
                | have hx : ¬ (k : Int) < (row.length : Int) := by omega
                | have hx : ¬ (k : Int) < (m : Int) := by omega
              have HO3 : Hid _ := HEN.out k hkk
              clear HST HEN HRD
              have HO4 : Hid (wr.ownsRow w.heap.size 3 1 (.slice (some ⟨w.heap.size, 0, none⟩) m m) m (ints (mixL rows (r + 1) 0 m))) := by have := HO2.out; rwa [HO3.out] at this
              clear HO3 HO2 HO
              go_wp2_with fail
              go_roundw
              case rel => exact ⟨r + 1, by omega, by go_num, HO4, HB2.out⟩
              case measure => simp [intOf]; omega
      · have hri : ¬ (r : Int) < (rows.length : Int) := by omega
        have HE : Hid (mixL rows r 0 m = sumL rows (m : Int)) := (mixL_all (by omega)).trans HS.out.symm
        have ho : wr.ownsRow w.heap.size 3 1 (.slice (some ⟨w.heap.size, 0, none⟩) m m) m (ints (mixL rows r 0 m)) := HO.out
        have HO4 : Hid _ := ho
        clear ho HO
        go_wp2_with fail
        go_ret
        have hlen : (sumL rows (m : Int)).length = m := by rw [HS.out]; simp
        rw [hlen, ← HE.out]
        exact ⟨_, _, rfl, HO4.out, hb⟩
  · have HS : Hid (sumL rows n = []) := by show _ = _; unfold sumL; rw [if_neg hn]
    go_enter Try.func38, Try.ntmps38
    by_cases h0 : n < 1
    · clear hn
      go_wp2_with fail
      go_ret
      rw [HS.out]
      exact ⟨none, 0, rfl, ⟨rfl, .inl ⟨rfl, rfl⟩⟩, Below.refl _ _⟩
    · have h1 : (1000 : Int) < n := by omega
      clear hn
      go_wp2_with fail
      go_ret
      rw [HS.out]
      exact ⟨none, 0, rfl, ⟨rfl, .inl ⟨rfl, rfl⟩⟩, Below.refl _ _⟩
end Go.Proofs.Ytcbafmohmoicnab
