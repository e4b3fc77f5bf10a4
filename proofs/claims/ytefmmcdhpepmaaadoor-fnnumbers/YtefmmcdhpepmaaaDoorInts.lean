/- Contracts of the small functions that the laws on lists of numbers call. Conditions: each list has at most 1048577 numbers. -/
import Derived.Test.YtefmmcdhpepmaaaDoorRows
import Derived.Test.YtefmmcdhpepmaaaDoorRd
import Derived.WalkKit
import Derived.ProofKit
import Derived.OpenShut
import Derived.WalkSmall
import Derived.Deep.QuietTactic
import Derived.BigQuiet
namespace Go.Proofs.YtefmmcdhpepmaaaDoor
open Go.RowKit

/-- A slice of numbers that came in: nil, or a row of 'cap' cells that hold 'zs'. -/
def IsRow (k : IntKind) (w : World) (a : Option Addr) (len cap : Nat) (zs : List Int) : Prop :=
  (a = none ∧ len = 0 ∧ cap = 0 ∧ zs = []) ∨
  ∃ x, a = some x ∧ len ≤ cap ∧ cap ≤ maxLen ∧ zs.length = cap ∧ (∀ i, i < zs.length → w.cell? (x.add i) = some (.int k (zs.getD i 0))) ∧ ∀ n ∈ zs, (Lit.int k n).wf = true

theorem rd_of {w : World} {a : Option Addr} {len cap : Nat} {zs : List Int} (h : IsRow .i64 w a len cap zs) : Rd w a (zs.take len) ∧ len = (zs.take len).length ∧ len ≤ maxLen := by
  rcases h with ⟨rfl, rfl, rfl, rfl⟩ | ⟨x, rfl, hl, hm, hz, hc, _⟩
  · exact ⟨.inl rfl, rfl, Nat.zero_le _⟩
  · have hlen : (zs.take len).length = len := by rw [List.length_take]; omega
    refine ⟨?_, hlen.symm, by omega⟩
    by_cases h0 : len = 0
    · subst h0; exact .inl (by simp)
    · obtain ⟨b, off, spot⟩ := x
      have hc0 := hc 0 (by omega)
      have hspot : spot = none := by simpa [Addr.add] using World.cell?_spot hc0
      subst hspot
      refine .inr ⟨b, off, rfl, ?_, fun i hi => ?_⟩
      · have h1 : w.cell? ⟨b, off, none⟩ = some (.int .i64 (zs.getD 0 0)) := by simpa [Addr.add] using hc0
        exact World.block_lt_of_cell? _ _ h1
      · rw [hlen] at hi
        have h2 := hc i (by omega)
        have e : (⟨b, off, none⟩ : Addr).add i = ⟨b, off + i, none⟩ := by
          by_cases hi0 : i = 0 <;> simp [Addr.add, hi0]
        rw [e] at h2
        rw [h2]
        simp [hi]

theorem ret_bool {a b : Bool} (h : a = b) : Ending.returned (.bool a) = .returned (.bool b) := by rw [h]
theorem Tryd.info3 : (Tryd.prog.info? 3).map (fun i => (i.zero, i.size, i.bytes)) = some (some (.int .i64 0), 1, 8) := by kernel_rfl

set_option maxHeartbeats 400000 in
theorem specNumIn_any (a : Option Addr) (zs : List Int) (n cap : Nat) (x : Int) (w : World) (hn : n = zs.length) (hr : Rd w a zs) (hl : zs.length ≤ 1048577) :
    Calls Tryd.prog 22 #[.slice a n cap, .int .i64 x] w fun e w' => e = .returned (.bool (hasB zs x)) ∧ w' = w := by
  subst hn
  rcases hr with rfl | ⟨b, off, rfl, hlt, hc⟩
  · go_enter Tryd.func22, Tryd.ntmps22
    go_wp2
    refine wp_loop_rounds 1 ?_
    rw [rounds_succ]
    go_wp2
    go_ret
    exact ⟨rfl, rfl⟩
  · go_enter Tryd.func22, Tryd.ntmps22
    go_wp2
    go_loop [5] (fun i => ∃ k : Nat, k ≤ zs.length ∧ i = .int .i64 k ∧ hasB (zs.take k) x = false) (fun i => zs.length - (intOf i).toNat)
    case atStart => exact ⟨0, Nat.zero_le _, rfl, rfl⟩
    case round =>
      obtain ⟨k, hk, rfl, h0⟩ := hrel
      have H0 : Hid (hasB (zs.take k) x = false) := h0
      clear h0
      by_cases hk' : k < zs.length
      · have hck := hc k hk'
        go_wp2
        · go_ret
          exact ⟨ret_bool (hasB_hit hk' (by assumption)).symm, rfl⟩
        · go_round
          case rel => exact ⟨k + 1, by omega, by go_num, hasB_step hk' H0.out (by assumption)⟩
          case measure => simp [intOf]; omega
      · go_wp2
        go_ret
        exact ⟨ret_bool (hasB_all hk' H0.out).symm, rfl⟩

set_option maxHeartbeats 400000 in
theorem has_any (a : Option Addr) (zs : List Int) (n cap : Nat) (x : Int) (w : World) (hn : n = zs.length) (hr : Rd w a zs) (hl : zs.length ≤ 1048577) :
    Calls Tryd.prog 34 #[.slice a n cap, .int .i64 x] w fun e w' => e = .returned (.bool (hasB zs x)) ∧ w' = w := by
  subst hn
  rcases hr with rfl | ⟨b, off, rfl, hlt, hc⟩
  · go_enter Tryd.func34, Tryd.ntmps34
    go_wp2
    refine wp_loop_rounds 1 ?_
    rw [rounds_succ]
    go_wp2
    go_ret
    exact ⟨rfl, rfl⟩
  · go_enter Tryd.func34, Tryd.ntmps34
    go_wp2
    go_loop [9] (fun i => ∃ k : Nat, k ≤ zs.length ∧ i = .int .i64 k ∧ hasB (zs.take k) x = false) (fun i => zs.length - (intOf i).toNat)
    case atStart => exact ⟨0, Nat.zero_le _, rfl, rfl⟩
    case round =>
      obtain ⟨k, hk, rfl, h0⟩ := hrel
      have H0 : Hid (hasB (zs.take k) x = false) := h0
      clear h0
      by_cases hk' : k < zs.length
      · have hck := hc k hk'
        go_wp2
        · go_ret
          exact ⟨ret_bool (hasB_hit hk' (by assumption)).symm, rfl⟩
        · go_round
          case rel => exact ⟨k + 1, by omega, by go_num, hasB_step hk' H0.out (by assumption)⟩
          case measure => simp [intOf]; omega
      · go_wp2
        go_ret
        exact ⟨ret_bool (hasB_all hk' H0.out).symm, rfl⟩

theorem implNumIn_any (a : Option Addr) (zs : List Int) (n cap : Nat) (x : Int) (w : World) (hn : n = zs.length) (hr : Rd w a zs) (hl : zs.length ≤ 1048577) :
    Calls Tryd.prog 21 #[.slice a n cap, .int .i64 x] w fun e w' => e = .returned (.bool (hasB zs x)) ∧ w' = w := by
  subst hn
  have H := has_any a zs _ cap x w rfl hr hl
  clear hr hl
  go_enter Tryd.func21, Tryd.ntmps21
  go_wp2_with (go_at_call 34; refine H.mono ?_; rintro e w' ⟨rfl, rfl⟩)
  go_ret
  exact ⟨rfl, rfl⟩

set_option maxHeartbeats 800000 in
theorem toInts_any (a : Option Addr) (zs : List Int) (n cap : Nat) (w : World) (hn : n = zs.length) (hr : Rd w a zs) (hl : zs.length ≤ 1048577) :
    Calls Tryd.prog 23 #[.slice a n cap] w fun e w' => e = .returned (.slice (some ⟨w.heap.size, 0, none⟩) n n) ∧ w'.ownsRow w.heap.size 3 1 (.slice (some ⟨w.heap.size, 0, none⟩) n n) n (ints zs) ∧ Below w.heap.size w w' := by
  subst hn
  obtain ⟨i0, hi, hz0, hz1, hz2⟩ := info_parts Tryd.info3
  rcases hr with rfl | ⟨b, off, rfl, hlt, hc⟩
  · go_enter Tryd.func23, Tryd.ntmps23
    go_wp2_with (first
      | (at_make; refine wpList_make_full _ rfl _ _ 28 rfl w.heap.size 3 i0 (.int .i64 0) 1 Tryd.underlying28 hi hz0 hz1 _ _ _ _ 0 rfl rfl rfl rfl (by omega) (by unfold maxLen; omega) (Nat.le_refl _) ?_)
      | go_in)
    intro w1 hown hgrow
    have hb1 : Below w.heap.size w w1 := (Below.refl _ _).grown hgrow (Nat.le_refl _) (by simp)
    clear hgrow
    go_wp2
    refine wp_loop_rounds 1 ?_
    rw [rounds_succ]
    go_wp2
    go_ret
    exact ⟨rfl, by simpa [made_zero, ints] using hown, hb1⟩
  · go_enter Tryd.func23, Tryd.ntmps23
    go_wp2_with (first
      | (at_make; refine wpList_make_full _ rfl _ _ 28 rfl w.heap.size 3 i0 (.int .i64 0) 1 Tryd.underlying28 hi hz0 hz1 _ _ _ _ zs.length rfl rfl rfl rfl (by rw [hz2]; omega) (by unfold maxLen; omega) (Nat.le_refl _) ?_)
      | go_in)
    intro w1 hown hgrow
    have hb1 : Below w.heap.size w w1 := (Below.refl _ _).grown hgrow (Nat.le_refl _) (by simp)
    clear hgrow
    go_wp2
    go_loopw [4] (fun i wr => ∃ k : Nat, k ≤ zs.length ∧ i = .int .i64 k ∧ wr.ownsRow w.heap.size 3 1 (.slice (some ⟨w.heap.size, 0, none⟩) zs.length zs.length) zs.length (ints (zs.take k) ++ List.replicate (zs.length - k) (Value.int .i64 0)) ∧ Below w.heap.size w wr) (fun i _ => zs.length - (intOf i).toNat)
    case atStart => exact ⟨0, Nat.zero_le _, rfl, by simpa [ints, made_zero] using hown, hb1⟩
    case round =>
      obtain ⟨k, hk, rfl, hown', hb⟩ := hrel
      clear hown hb1
      by_cases hk' : k < zs.length
      · have hck : wr.cell? ⟨b, off + k, none⟩ = some (.int .i64 (zs[k]?.getD 0)) := (hb.cell (p := ⟨b, off + k, none⟩) hlt).trans (hc k hk')
        have hfz := hown'.frozenAt k
        have hce : wr.cell? ⟨w.heap.size, k, none⟩ = some (.int .i64 0) := (hown'.cellAt k (by omega)).trans (copy_at hk')
        have R := hown'.stored k (.int .i64 zs[k])
        rw [copy_step hk'] at R
        obtain ⟨R1, R2⟩ := R
        have R3 : Below w.heap.size w (wr.setCell ⟨w.heap.size, k, none⟩ (.int .i64 zs[k])) := hb.setCell (Nat.le_refl _) _
        clear hown' hb R2 hc
        go_wp2
        go_roundw
        case rel => exact ⟨k + 1, by omega, by go_num, R1, R3⟩
        case measure => simp [intOf]; omega
      · go_wp2
        go_ret
        refine ⟨rfl, ?_, hb⟩
        have e : k = zs.length := by omega
        subst e
        simpa using hown'

set_option maxHeartbeats 800000 in
theorem eqInts_any (a a' : Option Addr) (zs ys : List Int) (n cap n' cap' : Nat) (w : World) (hn : n = zs.length) (hn' : n' = ys.length) (hr : Rd w a zs) (hr' : Rd w a' ys) (hl : zs.length ≤ 1048577) (hl' : ys.length ≤ 1048577) :
    Calls Tryd.prog 24 #[.slice a n cap, .slice a' n' cap'] w fun e w' => e = .returned (.bool (eqB zs ys)) ∧ ∃ q, w' = w.drewN q := by
  subst hn hn'
  by_cases hne : zs.length = ys.length
  · rcases hr with rfl | ⟨b, off, rfl, hlt, hc⟩
    · have : ys = [] := by simpa using hne.symm
      subst this
      go_enter Tryd.func24, Tryd.ntmps24
      go_wp2
      refine wp_loop_rounds 1 ?_
      rw [rounds_succ]
      go_wp2
      go_ret
      exact ⟨rfl, 0, rfl⟩
    · rcases hr' with rfl | ⟨b', off', rfl, hlt', hc'⟩
      · have : zs = [] := by simpa using hne
        subst this
        go_enter Tryd.func24, Tryd.ntmps24
        go_wp2
        refine wp_loop_rounds 1 ?_
        rw [rounds_succ]
        go_wp2
        go_ret
        exact ⟨rfl, 0, rfl⟩
      · have HN : Hid (zs.length = ys.length) := hne
        have ht : ((zs.length : Int) == (ys.length : Int)) = true := by simp [hne]
        clear hne
        go_enter Tryd.func24, Tryd.ntmps24
        go_wp2
        go_loopw [5] (fun i wr => ∃ k q : Nat, k ≤ zs.length ∧ i = .int .i64 k ∧ wr = w.drewN q ∧ zs.take k = ys.take k) (fun i _ => zs.length - (intOf i).toNat)
        case atStart => exact ⟨0, 0, Nat.zero_le _, rfl, rfl, by simp⟩
        case round =>
          obtain ⟨k, q, hk, rfl, rfl, h0⟩ := hrel
          have H0 : Hid (zs.take k = ys.take k) := h0
          clear h0
          by_cases hk' : k < zs.length
          · have hky : k < ys.length := by have := HN.out; omega
            have hck := hc k hk'
            have hck' := hc' k hky
            have hi1 : (k : Int) < (zs.length : Int) := by omega
            have hi2 : (k : Int) < (ys.length : Int) := by omega
            clear hc hc' ht
            go_wp2
            go_quiet (fail)
            go_wp2
            · go_ret
              exact ⟨ret_bool (eqB_hit hk' hky (by assumption)).symm, _, World.drewN_drewN _ _ _⟩
            · go_roundw
              case rel => exact ⟨k + 1, _, by omega, by go_num, rfl, eqB_step hk' hky H0.out (by assumption)⟩
              case measure => simp [intOf]; omega
          · go_wp2
            go_ret
            exact ⟨ret_bool (eqB_all hk' HN.out H0.out).symm, _, rfl⟩
  · have ht : ((zs.length : Int) == (ys.length : Int)) = false := by simp; omega
    have H0 : Hid (¬ zs.length = ys.length) := hne
    clear hne
    go_enter Tryd.func24, Tryd.ntmps24
    go_wp2
    go_ret
    exact ⟨ret_bool (eqB_len H0.out).symm, 0, rfl⟩
end Go.Proofs.YtefmmcdhpepmaaaDoor
