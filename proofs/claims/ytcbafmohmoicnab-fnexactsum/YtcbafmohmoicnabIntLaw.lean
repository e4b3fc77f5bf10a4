/- Contracts of the laws' helpers on lists of numbers: whether two are alike, marks, and whether the marks are there. Conditions: at most 1048577 numbers. -/
import Derived.Test.YtcbafmohmoicnabProg
import Derived.Test.YtcbafmohmoicnabRd
import Derived.Test.YtcbafmohmoicnabIns
import Derived.Test.YtcbafmohmoicnabTermA
import Derived.BigQuiet
import Derived.Deep.QuietTactic
import Derived.OpenShut
import Derived.ProofKit
import Derived.WalkKit
import Derived.WalkSmall
namespace Go.Proofs.Ytcbafmohmoicnab
set_option maxRecDepth 100000
open Go.RowKit

theorem grown_trans {a w w' : World} {row : Option Nat} (h : a.grownBy w row) (k : w.grownBy w' row) : a.grownBy w' row :=
  ⟨k.os.trans h.os, k.tape.trans h.tape, k.output.trans h.output, Nat.le_trans h.size k.size, fun i hi hr => (k.block i (Nat.lt_of_lt_of_le hi h.size) hr).trans (h.block i hi hr)⟩

set_option maxHeartbeats 800000 in
theorem eqInts_any (a a' : Option Addr) (zs ys : List Int) (n cap n' cap' : Nat) (w : World) (hn : n = zs.length) (hn' : n' = ys.length) (hr : Rd w a zs) (hr' : Rd w a' ys) (hl : zs.length ≤ 1048577) (hl' : ys.length ≤ 1048577) :
    Calls Try.prog 26 #[.slice a n cap, .slice a' n' cap'] w fun e w' => e = .returned (.bool (eqB zs ys)) ∧ ∃ q, w' = w.drewN q := by
  subst hn hn'
  by_cases hne : zs.length = ys.length
  · rcases hr with rfl | ⟨b, off, rfl, hlt, hc⟩
    · have : ys = [] := by simpa using hne.symm
      subst this
      go_enter Try.func26, Try.ntmps26
      go_wp2
      refine wp_loop_rounds 1 ?_
      rw [rounds_succ]
      go_wp2
      go_ret
      exact ⟨rfl, 0, rfl⟩
    · rcases hr' with rfl | ⟨b', off', rfl, hlt', hc'⟩
      · have : zs = [] := by simpa using hne
        subst this
        go_enter Try.func26, Try.ntmps26
        go_wp2
        refine wp_loop_rounds 1 ?_
        rw [rounds_succ]
        go_wp2
        go_ret
        exact ⟨rfl, 0, rfl⟩
      · have HN : Hid (zs.length = ys.length) := hne
        have ht : ((zs.length : Int) == (ys.length : Int)) = true := by simp [hne]
        clear hne
        go_enter Try.func26, Try.ntmps26
        go_wp2
        go_loopw [5] (fun i wr => ∃ k q : Nat, k ≤ zs.length ∧ i = .int .i64 k ∧ wr = w.drewN q ∧ zs.take k = ys.take k) (fun i _ => zs.length - (intOf i).toNat)
        case atStart => exact ⟨0, 0, Nat.zero_le _, rfl, rfl, by simp⟩
        case round =>
          obtain ⟨k, q, hk, rfl, rfl, h0⟩ := hrel
          have H0 : Hid (zs.take k = ys.take k) := h0
          clear h0
          by_cases hk' : k < zs.length
          · have hky : k < ys.length := by have := HN.out; omega
            have hck := hc k hk'
            have hck' := hc' k hky
            have hi1 : (k : Int) < (zs.length : Int) := by omega
            have hi2 : (k : Int) < (ys.length : Int) := by omega
            clear hc hc' ht
            go_wp2
            go_quiet (fail)
            go_wp2
            · go_ret
              exact ⟨rtB (eqB_hit hk' hky (by assumption)).symm, _, World.drewN_drewN _ _ _⟩
            · go_roundw
              case rel => exact ⟨k + 1, _, by omega, by go_num, rfl, eqB_step hk' hky H0.out (by assumption)⟩
              case measure => simp [intOf]; omega
          · go_wp2
            go_ret
            exact ⟨rtB (eqB_all hk' HN.out H0.out).symm, _, rfl⟩
  · have ht : ((zs.length : Int) == (ys.length : Int)) = false := by simp; omega
    have H0 : Hid (¬ zs.length = ys.length) := hne
    clear hne
    go_enter Try.func26, Try.ntmps26
    go_wp2
    go_ret
    exact ⟨rtB (eqB_len H0.out).symm, 0, rfl⟩

set_option maxHeartbeats 800000 in
theorem held_any (a : Option Addr) (k : Int) (n cap : Nat) (w : World) (hr : Rd w a (upFrom k n)) (hl : n ≤ 1048577) (hk1 : 0 ≤ k) (hk2 : k ≤ 4) :
    Calls Try.prog 39 #[.slice a n cap, .int .i64 k] w fun e w' => e = .returned (.int .i64 (k + n)) ∧ w' = w := by
  rcases hr with h | ⟨b, off, rfl, hlt, hc⟩
  · have hn : n = 0 := by have := upFrom_len k n; rw [h] at this; simpa using this.symm
    subst hn
    clear h
    go_enter Try.func39, Try.ntmps39
    go_wp2
    refine wp_loop_rounds 1 ?_
    rw [rounds_succ]
    go_wp2
    go_ret
    exact ⟨rtI (by omega), rfl⟩
  · have hc2 : ∀ i, i < n → w.cell? ⟨b, off + i, none⟩ = some (.int .i64 (k + (i : Int))) := by
      intro i hi
      rw [hc i (by rw [upFrom_len]; exact hi), upFrom_at k n i hi]; rfl
    clear hc
    go_enter Try.func39, Try.ntmps39
    go_wp2
    go_loop [1, 5] (fun t i => ∃ j : Nat, j ≤ n ∧ i = .int .i64 j ∧ t = .int .i64 (k + (j : Int))) (fun _ i => n - (intOf i).toNat)
    case atStart => exact ⟨0, Nat.zero_le _, rfl, by simp⟩
    case round =>
      obtain ⟨j, hj, rfl, rfl⟩ := hrel
      by_cases hj' : j < n
      · have hcj := hc2 j hj'
        clear hc2
        go_wp2
        go_round
        case rel => exact ⟨j + 1, by omega, by go_num, by go_num⟩
        case measure => simp [intOf]; omega
      · go_wp2
        go_ret
        exact ⟨rtI (by omega), rfl⟩

set_option maxHeartbeats 800000 in
theorem mark_any (base g : Nat) (zs : List Int) (k : Int) (n cap : Nat) (w : World) (hn : n = zs.length) (hown : w.ownsRow base 3 1 (.slice (some ⟨g, 0, none⟩) n cap) n (ints zs)) (hl : n ≤ 1048577) (hk1 : 0 ≤ k) (hk2 : k ≤ 4) :
    Calls Try.prog 32 #[.slice (some ⟨g, 0, none⟩) n cap, .int .i64 k] w fun e w' => e = .returned (.int .i64 (k + n)) ∧ w'.ownsRow base 3 1 (.slice (some ⟨g, 0, none⟩) n cap) n (ints (upFrom k n)) ∧ w.grownBy w' (some g) := by
  subst hn
  go_enter Try.func32, Try.ntmps32
  go_wp2
  go_loopw [1, 5] (fun t i wr => ∃ j : Nat, j ≤ zs.length ∧ i = .int .i64 j ∧ t = .int .i64 (k + (j : Int)) ∧ wr.ownsRow base 3 1 (.slice (some ⟨g, 0, none⟩) zs.length cap) zs.length (ints (upFrom k j) ++ (ints zs).drop j) ∧ w.grownBy wr (some g)) (fun _ i _ => zs.length - (intOf i).toNat)
  case atStart => exact ⟨0, Nat.zero_le _, rfl, by simp, hown, ⟨rfl, rfl, rfl, Nat.le_refl _, fun _ _ _ => rfl⟩⟩
  case round =>
    obtain ⟨j, hj, rfl, rfl, hown', hg⟩ := hrel
    clear hown
    by_cases hj' : j < zs.length
    · obtain ⟨u, hu⟩ := mark_at (k := k) hj'
      have hfz := hown'.frozenAt j
      have hce : wr.cell? ⟨g, j, none⟩ = some (.int .i64 u) := (hown'.cellAt j (by omega)).trans hu
      have R := hown'.stored j (.int .i64 (k + (j : Int)))
      rw [mark_step hj'] at R
      obtain ⟨R1, R2⟩ := R
      have R3 := grown_trans hg R2
      clear hown' hg R2 hu
      go_wp2
      go_roundw
      case rel => exact ⟨j + 1, by omega, by go_num, by go_num, R1, R3⟩
      case measure => simp [intOf]; omega
    · go_wp2
      go_ret
      have e : j = zs.length := by omega
      subst e
      refine ⟨rfl, ?_, hg⟩
      rw [List.drop_of_length_le (by simp [ints]), List.append_nil] at hown'
      exact hown'

end Go.Proofs.Ytcbafmohmoicnab
