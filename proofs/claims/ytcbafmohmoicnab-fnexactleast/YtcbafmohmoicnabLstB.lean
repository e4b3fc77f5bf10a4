/- Whether one list of numbers lies beneath another one: the program's way, and slices.Equal at numbers. Conditions: at most 1048577 numbers. -/
import Derived.Test.YtcbafmohmoicnabProg
import Derived.Test.YtcbafmohmoicnabLst
import Derived.Test.YtcbafmohmoicnabIns
import Derived.Test.YtcbafmohmoicnabTermA
import Derived.BigQuiet
import Derived.Deep.QuietTactic
import Derived.OpenShut
import Derived.ProofKit
import Derived.WalkKit
import Derived.WalkSmall
namespace Go.Proofs.Ytcbafmohmoicnab
set_option maxRecDepth 100000
open Go.RowKit

set_option maxHeartbeats 800000 in
theorem slicesEqual_any (a a' : Option Addr) (zs ys : List Int) (n cap n' cap' : Nat) (w : World) (hn : n = zs.length) (hn' : n' = ys.length) (hr : Rd w a zs) (hr' : Rd w a' ys) (hl : zs.length ≤ 1048577) (hl' : ys.length ≤ 1048577) :
    Calls Try.prog 57 #[.slice a n cap, .slice a' n' cap'] w fun e w' => e = .returned (.bool (eqB zs ys)) ∧ ∃ q, w' = w.drewN q := by
  subst hn hn'
  by_cases hne : zs.length = ys.length
  · have HN : Hid (zs.length = ys.length) := hne
    have ht : ((zs.length : Int) != (ys.length : Int)) = false := by simp [hne]
    clear hne
    go_enter Try.func57, Try.ntmps57
    go_wp2
    go_loopw [13] (fun i wr => ∃ k q : Nat, k ≤ zs.length ∧ i = .int .i64 k ∧ wr = w.drewN q ∧ zs.take k = ys.take k) (fun i _ => zs.length - (intOf i).toNat)
    case atStart => exact ⟨0, 0, Nat.zero_le _, rfl, rfl, by simp⟩
    case round =>
      obtain ⟨k, q, hk, rfl, rfl, h0⟩ := hrel
      have H0 : Hid (zs.take k = ys.take k) := h0
      clear h0
      by_cases hk' : k < zs.length
      · have hky : k < ys.length := by have := HN.out; omega
        rcases hr with h | ⟨b, off, rfl, hlt, hc⟩
        · subst h; simp at hk'
        rcases hr' with h | ⟨b', off', rfl, hlt', hc'⟩
        · subst h; simp at hky
        have hck := hc k hk'
        have hck' := hc' k hky
        have hi1 : (k : Int) < (zs.length : Int) := by omega
        have hi2 : (k : Int) < (ys.length : Int) := by omega
        clear hc hc' ht
        go_wp2
        go_quiet (fail)
        go_wp2
        · go_ret
          exact ⟨rtB (eqB_hit hk' hky (by assumption)).symm, _, World.drewN_drewN _ _ _⟩
        · go_roundw
          case rel => exact ⟨k + 1, _, by omega, by go_num, rfl, eqB_step hk' hky H0.out (by assumption)⟩
          case measure => simp [intOf]; omega
      · go_wp2
        go_ret
        exact ⟨rtB (eqB_all hk' HN.out H0.out).symm, _, rfl⟩
  · have ht : ((zs.length : Int) != (ys.length : Int)) = true := by simp; omega
    have H0 : Hid (¬ zs.length = ys.length) := hne
    clear hne
    go_enter Try.func57, Try.ntmps57
    go_wp2
    go_ret
    exact ⟨rtB (eqB_len H0.out).symm, 0, rfl⟩

set_option maxHeartbeats 800000 in
theorem impLeast_any (a a' : Option Addr) (zs ys : List Int) (n cap n' cap' : Nat) (w : World) (hn : n = zs.length) (hn' : n' = ys.length) (hr : Rd w a zs) (hr' : Rd w a' ys) (hl : zs.length ≤ 1048577) (hl' : ys.length ≤ 1048577) :
    Calls Try.prog 28 #[.slice a n cap, .slice a' n' cap'] w fun e w' => e = .returned (.bool (leastB zs ys)) ∧ ∃ q, w' = w.drewN q := by
  subst hn hn'
  by_cases hne : zs.length = ys.length
  · have HN : Hid (zs.length = ys.length) := hne
    have ht : ((zs.length : Int) != (ys.length : Int)) = false := by simp [hne]
    have C := fun (q : Nat) => slicesEqual_any a a' zs ys _ cap _ cap' (w.drewN q) rfl rfl (hr.drewN q) (hr'.drewN q) hl hl'
    clear hne
    go_enter Try.func28, Try.ntmps28
    go_wp2_with fail
    go_loopw [13] (fun i wr => ∃ k q : Nat, k ≤ zs.length ∧ i = .int .i64 k ∧ wr = w.drewN q ∧ Hid (abvB (zs.take k) (ys.take k) = false)) (fun i _ => zs.length - (intOf i).toNat)
    case atStart => exact ⟨0, 0, Nat.zero_le _, rfl, rfl, rfl⟩
    case round =>
      obtain ⟨k, q, hk, rfl, rfl, H0⟩ := hrel
      by_cases hk' : k < zs.length
      · have hky : k < ys.length := by have := HN.out; omega
        rcases hr with h | ⟨b, off, rfl, hlt, hc⟩
        · subst h; simp at hk'
        rcases hr' with h | ⟨b', off', rfl, hlt', hc'⟩
        · subst h; simp at hky
        have c1 : w.cell? ⟨b, off + k, none⟩ = some (.int .i64 zs[k]) := by rw [hc k hk']; simp [hk']
        have c2 : w.cell? ⟨b', off' + k, none⟩ = some (.int .i64 ys[k]) := by rw [hc' k hky]; simp [hky]
        have hi1 : (k : Int) < (zs.length : Int) := by omega
        have hi2 : (k : Int) < (ys.length : Int) := by omega
        have HS : Hid (decide (ys[k] < zs[k]) = false → abvB (zs.take (k + 1)) (ys.take (k + 1)) = false) := abv_step hk' hky H0.out
        have HT : Hid (decide (ys[k] < zs[k]) = true → abvB zs ys = true) := abv_hit hk' hky
        clear hc hc' ht C
        generalize zs[k] = x at c1 HS HT
        generalize ys[k] = y at c2 HS HT
        by_cases hxy : y < x
        · have e := HT.out (by simpa using hxy)
          clear HS HT
          go_wp2_with fail
          go_quiet (fail)
          go_wp2_with fail
          go_ret
          exact ⟨rtB (least_abv e).symm, _, World.drewN_drewN _ _ _⟩
        · have e : Hid _ := HS.out (by simpa using hxy)
          clear HS HT H0
          go_wp2_with fail
          go_quiet (fail)
          go_wp2_with fail
          go_roundw
          case rel => exact ⟨k + 1, _, by omega, by go_num, rfl, e⟩
          case measure => simp [intOf]; omega
      · have hki : ¬ (k : Int) < (zs.length : Int) := by omega
        have e2 := abv_all (xs := zs) (ys := ys) (k := k) (by omega)
        have HE : Hid (leastB zs ys = !(eqB zs ys)) := least_same HN.out (e2.symm.trans H0.out)
        have C1 := C q
        clear e2 H0 hr hr' C ht
        generalize eqB zs ys = bl at HE C1
        go_wp2_with (go_at_call 57; refine C1.mono ?_; rintro e w2 ⟨rfl, q2, rfl⟩; clear C1)
        go_ret
        exact ⟨rtB HE.out.symm, _, rfl⟩
  · have ht : ((zs.length : Int) != (ys.length : Int)) = true := by simp; omega
    have H0 : Hid (¬ zs.length = ys.length) := hne
    clear hne
    go_enter Try.func28, Try.ntmps28
    go_wp2_with fail
    go_ret
    exact ⟨rtB (least_len H0.out).symm, 0, rfl⟩
end Go.Proofs.Ytcbafmohmoicnab
