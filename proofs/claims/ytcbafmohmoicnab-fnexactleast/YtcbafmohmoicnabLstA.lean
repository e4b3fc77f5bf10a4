/- Whether one list of numbers lies beneath another one: the specification's way and the program's. Conditions: at most 1048577 numbers. -/
import Derived.Test.YtcbafmohmoicnabProg
import Derived.Test.YtcbafmohmoicnabLst
import Derived.Test.YtcbafmohmoicnabIns
import Derived.Test.YtcbafmohmoicnabTermA
import Derived.BigQuiet
import Derived.Deep.QuietTactic
import Derived.OpenShut
import Derived.ProofKit
import Derived.WalkKit
import Derived.WalkSmall
namespace Go.Proofs.Ytcbafmohmoicnab
set_option maxRecDepth 100000
open Go.RowKit

set_option maxHeartbeats 800000 in
theorem specLeast_any (a a' : Option Addr) (xs ys : List Int) (n cap n' cap' : Nat) (w : World) (hn : n = xs.length) (hn' : n' = ys.length) (hr : Rd w a xs) (hr' : Rd w a' ys) (hl : xs.length ≤ 1048577) (hl' : ys.length ≤ 1048577) :
    Calls Try.prog 27 #[.slice a n cap, .slice a' n' cap'] w fun e w' => e = .returned (.bool (leastB xs ys)) ∧ ∃ q, w' = w.drewN q := by
  subst hn hn'
  go_enter Try.func27, Try.ntmps27
  go_wp2_with fail
  go_loopw [5, 6] (fun bl i wr => ∃ k q : Nat, k ≤ xs.length ∧ k ≤ ys.length ∧ i = .int .i64 k ∧ bl = .bool (blwB (xs.take k) (ys.take k)) ∧ wr = w.drewN q ∧ Hid (abvB (xs.take k) (ys.take k) = false)) (fun _ i _ => xs.length - (intOf i).toNat)
  case atStart => exact ⟨0, 0, Nat.zero_le _, Nat.zero_le _, rfl, rfl, rfl, rfl⟩
  case round =>
    obtain ⟨k, q, hk, hk2, rfl, rfl, rfl, H0⟩ := hrel
    by_cases hx : k < xs.length
    · have hi1 : (k : Int) < (xs.length : Int) := by omega
      have hi0 : (0 : Int) ≤ (k : Int) := by omega
      by_cases hy : k < ys.length
      · have hi2 : (k : Int) < (ys.length : Int) := by omega
        rcases hr with h | ⟨b, off, rfl, hlt, hc⟩
        · subst h; simp at hx
        rcases hr' with h | ⟨b', off', rfl, hlt', hc'⟩
        · subst h; simp at hy
        have c1 : w.cell? ⟨b, off + k, none⟩ = some (.int .i64 xs[k]) := by rw [hc k hx]; simp [hx]
        have c2 : w.cell? ⟨b', off' + k, none⟩ = some (.int .i64 ys[k]) := by rw [hc' k hy]; simp [hy]
        have HB : Hid (blwB (xs.take (k + 1)) (ys.take (k + 1)) = (blwB (xs.take k) (ys.take k) || decide (xs[k] < ys[k]))) := blw_step hx hy
        have HS : Hid (decide (ys[k] < xs[k]) = false → abvB (xs.take (k + 1)) (ys.take (k + 1)) = false) := abv_step hx hy H0.out
        have HT : Hid (decide (ys[k] < xs[k]) = true → abvB xs ys = true) := abv_hit hx hy
        clear hc hc'
        generalize xs[k] = x at c1 HB HS HT
        generalize ys[k] = y at c2 HB HS HT
        generalize blwB (xs.take k) (ys.take k) = bl at HB ⊢
        by_cases hxy : y < x
        · have e := HT.out (by simpa using hxy)
          clear HB HS HT
          go_wp2_with fail
          go_quiet (fail)
          go_wp2_with fail
          go_ret
          exact ⟨rtB (least_abv e).symm, _, World.drewN_drewN _ _ _⟩
        · have e : Hid _ := HS.out (by simpa using hxy)
          clear HS HT H0
          cases bl
          · go_wp2_with fail
            go_quiet (fail)
            go_wp2_with fail
            go_quiet (fail)
            go_wp2_with fail
            go_roundw
            case rel => exact ⟨k + 1, _, by omega, by omega, by go_num, by rw [HB.out]; simp, rfl, e⟩
            case measure => simp [intOf]; omega
          · go_wp2_with fail
            go_quiet (fail)
            go_wp2_with fail
            go_quiet (fail)
            go_wp2_with fail
            go_roundw
            case rel => exact ⟨k + 1, _, by omega, by omega, by go_num, by rw [HB.out]; simp, rfl, e⟩
            case measure => simp [intOf]; omega
      · have hi2 : ¬ (k : Int) < (ys.length : Int) := by omega
        have e1 := blw_all (xs := xs) (ys := ys) (k := k) (by omega)
        have e2 := abv_all (xs := xs) (ys := ys) (k := k) (by omega)
        have hne : ¬ xs.length = ys.length := by omega
        have hb : ((xs.length : Int) == (ys.length : Int)) = false := by simp; omega
        have HE : Hid (leastB xs ys = false) := least_len hne
        rw [e1]
        clear e1 e2 H0 hne hr hr'
        cases blwB xs ys
        · go_wp2_with fail
          go_ret
          exact ⟨rtB HE.out.symm, _, rfl⟩
        · go_wp2_with fail
          go_ret
          exact ⟨rtB HE.out.symm, _, rfl⟩
    · have hi1 : ¬ (k : Int) < (xs.length : Int) := by omega
      have e1 := blw_all (xs := xs) (ys := ys) (k := k) (by omega)
      have e2 := abv_all (xs := xs) (ys := ys) (k := k) (by omega)
      have ha : abvB xs ys = false := e2.symm.trans H0.out
      have HE : Hid (leastB xs ys = (blwB xs ys && (xs.length == ys.length))) := by show _ = _; simp [leastB, ha]
      rw [e1]
      clear e1 e2 H0 ha hr hr'
      by_cases hne : xs.length = ys.length
      · have hb : ((xs.length : Int) == (ys.length : Int)) = true := by simp; omega
        have HN : Hid (xs.length = ys.length) := hne
        clear hne
        generalize blwB xs ys = bl at HE ⊢
        cases bl
        · go_wp2_with fail
          go_ret
          exact ⟨rtB (by rw [HE.out]; simp), _, rfl⟩
        · go_wp2_with fail
          go_ret
          exact ⟨rtB (by rw [HE.out]; simp [HN.out]), _, rfl⟩
      · have hb : ((xs.length : Int) == (ys.length : Int)) = false := by simp; omega
        have HN : Hid (¬ xs.length = ys.length) := hne
        clear hne
        generalize blwB xs ys = bl at HE ⊢
        cases bl
        · go_wp2_with fail
          go_ret
          exact ⟨rtB (by rw [HE.out]; simp), _, rfl⟩
        · go_wp2_with fail
          go_ret
          exact ⟨rtB (by rw [HE.out]; simp [HN.out]), _, rfl⟩
end Go.Proofs.Ytcbafmohmoicnab
