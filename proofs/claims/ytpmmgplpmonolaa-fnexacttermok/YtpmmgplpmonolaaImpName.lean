/- Contracts of the program's functions on names, and of those that ask one function of a list. Conditions: at most 1048577 functions. -/
import Derived.Test.YtpmmgplpmonolaaProg
import Derived.Test.YtpmmgplpmonolaaSymA
namespace Go.Proofs.Ytpmmgplpmonolaa
open Go.RowKit

def lowB (c : UInt8) : Bool := decide ((97 : Int) ≤ (c.toNat : Int)) && decide ((c.toNat : Int) ≤ 122)
def digB (c : UInt8) : Bool := decide ((48 : Int) ≤ (c.toNat : Int)) && decide ((c.toNat : Int) ≤ 57)

theorem chOk_zero (c : UInt8) : chOk 0 c = lowB c := by
  simp only [chOk, lowB, Nat.lt_irrefl, decide_false, Bool.false_and, Bool.or_false]
  congr 1 <;> exact decide_eq_decide.2 (by omega)

theorem chOk_pos {k : Nat} (hk : 0 < k) (c : UInt8) : chOk k c = (lowB c || digB c) := by
  simp only [chOk, lowB, digB, hk, decide_true, Bool.true_and]
  congr 2 <;> exact decide_eq_decide.2 (by omega)

set_option maxHeartbeats 800000 in
theorem isLetter_any (c : UInt8) (w : World) : Calls Try.prog 145 #[.int .u8 c.toNat] w fun e w' => e = .returned (.bool (lowB c)) ∧ w' = w := by
  rw [lowB]
  by_cases h : (97 : Int) ≤ (c.toNat : Int)
  · rw [decide_eq_true h]
    go_enter Try.func145, Try.ntmps145
    go_wp2
    go_ret
    exact ⟨ret_bool (by simp), rfl⟩
  · rw [decide_eq_false h]
    go_enter Try.func145, Try.ntmps145
    go_wp2
    go_ret
    exact ⟨ret_bool (by simp), rfl⟩

set_option maxHeartbeats 800000 in
theorem isDigit_any (c : UInt8) (w : World) : Calls Try.prog 146 #[.int .u8 c.toNat] w fun e w' => e = .returned (.bool (digB c)) ∧ w' = w := by
  rw [digB]
  by_cases h : (48 : Int) ≤ (c.toNat : Int)
  · rw [decide_eq_true h]
    go_enter Try.func146, Try.ntmps146
    go_wp2
    go_ret
    exact ⟨ret_bool (by simp), rfl⟩
  · rw [decide_eq_false h]
    go_enter Try.func146, Try.ntmps146
    go_wp2
    go_ret
    exact ⟨ret_bool (by simp), rfl⟩

theorem name_long {s : ByteArray} (h : (8 : Int) < (s.size : Int)) : nameOk s = false := by
  rw [nameOk, decide_eq_false (show ¬ s.size ≤ 8 by omega)]; simp

theorem chs_one {s : ByteArray} (h : 0 < s.size) (h0 : lowB s[0] = true) : chsOk s 1 = true := by
  rw [chsOk, chsOk, dif_pos h, chOk_zero, h0]; rfl

theorem name_end {s : ByteArray} (h : chsOk s s.size = true) (h1 : 0 < s.size) (h8 : s.size ≤ 8) : nameOk s = true := by
  rw [nameOk, h, decide_eq_true (show 1 ≤ s.size by omega), decide_eq_true h8]; rfl

set_option maxHeartbeats 1600000 in
theorem impNameOk_any (s : ByteArray) (w : World) :
    Calls Try.prog 121 #[.string s] w fun e w' => e = .returned (.bool (nameOk s)) ∧ w' = w := by
  by_cases h1 : (s.size : Int) < 1
  · have HN : Hid (nameOk s = false) := name_neg (by omega)
    go_enter Try.func121, Try.ntmps121
    go_wp2
    go_ret
    exact ⟨ret_bool HN.out.symm, rfl⟩
  by_cases h8 : (8 : Int) < (s.size : Int)
  · have HN : Hid (nameOk s = false) := name_long h8
    go_enter Try.func121, Try.ntmps121
    go_wp2
    go_ret
    exact ⟨ret_bool HN.out.symm, rfl⟩
  have hz : 0 < s.size := by omega
  have hz' : (0 : Int) < (s.size : Int) := by omega
  have I0 := fun w => isLetter_any s[0] w
  by_cases hL : lowB s[0] = true
  · have HA1 : Hid (chsOk s 1 = true) := chs_one hz hL
    rw [hL] at I0
    go_enter Try.func121, Try.ntmps121
    go_wp2_with (go_at_call 145; refine (I0 _).mono ?_; rintro e w2 ⟨rfl, hw⟩; subst w2)
    go_loop [3] (fun i => ∃ k : Nat, 1 ≤ k ∧ k ≤ s.size ∧ i = .int .i64 k ∧ Hid (chsOk s k = true)) (fun i => s.size - (intOf i).toNat)
    case atStart => exact ⟨1, by omega, by omega, rfl, HA1⟩
    case round =>
      obtain ⟨k, hk1, hk, rfl, HA⟩ := hrel
      by_cases hk' : k < s.size
      · have hki : (k : Int) < (s.size : Int) := by omega
        have HG : Hid (chOk k s[k] = true → chsOk s (k + 1) = true) := fun h => by rw [chsOk, HA.out, dif_pos hk', h]; rfl
        have HB : Hid (chOk k s[k] = false → nameOk s = false) := chs_bad s hk'
        have HP : Hid (chOk k s[k] = (lowB s[k] || digB s[k])) := chOk_pos hk1 s[k]
        have IL := fun w => isLetter_any s[k] w
        have ID := fun w => isDigit_any s[k] w
        by_cases e1 : lowB s[k] = true
        · rw [e1] at IL
          have HC : Hid (chsOk s (k + 1) = true) := HG.out (by rw [HP.out, e1]; rfl)
          go_wp2_with (go_at_call 145; refine (IL _).mono ?_; rintro e w2 ⟨rfl, hw⟩; subst w2)
          go_round
          case rel => exact ⟨k + 1, by omega, by omega, by go_num, HC⟩
          case measure => simp [intOf]; omega
        · rw [Bool.not_eq_true] at e1
          rw [e1] at IL
          by_cases e2 : digB s[k] = true
          · rw [e2] at ID
            have HC : Hid (chsOk s (k + 1) = true) := HG.out (by rw [HP.out, e1, e2]; rfl)
            go_wp2_with (first | (go_at_call 145; refine (IL _).mono ?_; rintro e w2 ⟨rfl, hw⟩; subst w2) | (go_at_call 146; refine (ID _).mono ?_; rintro e w2 ⟨rfl, hw⟩; subst w2))
            go_round
            case rel => exact ⟨k + 1, by omega, by omega, by go_num, HC⟩
            case measure => simp [intOf]; omega
          · rw [Bool.not_eq_true] at e2
            rw [e2] at ID
            have HC : Hid (nameOk s = false) := HB.out (by rw [HP.out, e1, e2]; rfl)
            go_wp2_with (first | (go_at_call 145; refine (IL _).mono ?_; rintro e w2 ⟨rfl, hw⟩; subst w2) | (go_at_call 146; refine (ID _).mono ?_; rintro e w2 ⟨rfl, hw⟩; subst w2))
            go_ret
            exact ⟨ret_bool HC.out.symm, rfl⟩
      · have e : k = s.size := by omega
        have HC : Hid (nameOk s = true) := name_end (e ▸ HA.out) hz (by omega)
        clear e
        go_wp2
        go_ret
        exact ⟨ret_bool HC.out.symm, rfl⟩
  · rw [Bool.not_eq_true] at hL
    have HN : Hid (nameOk s = false) := chs_bad s hz (by rw [chOk_zero, hL])
    rw [hL] at I0
    go_enter Try.func121, Try.ntmps121
    go_wp2_with (go_at_call 145; refine (I0 _).mono ?_; rintro e w2 ⟨rfl, hw⟩; subst w2)
    go_ret
    exact ⟨ret_bool HN.out.symm, rfl⟩

set_option maxHeartbeats 800000 in
theorem isSym_any (a : Option Addr) (n cap : Nat) (f : Int) (w : World) :
    Calls Try.prog 55 #[.slice a n cap, .int .i64 f] w fun e w' => e = .returned (.bool (decide (0 ≤ f) && decide (f < (n : Int)))) ∧ w' = w := by
  by_cases h : 0 ≤ f
  · go_enter Try.func55, Try.ntmps55
    go_wp2
    go_ret
    exact ⟨ret_bool (by simp [h]), rfl⟩
  · go_enter Try.func55, Try.ntmps55
    go_wp2
    go_ret
    exact ⟨ret_bool (by simp; omega), rfl⟩

set_option maxHeartbeats 800000 in
theorem impBlind_any (a : Option Addr) (ss : List SymD) (n cap : Nat) (f : Int) (w : World) (hn : n = ss.length) (hr : RdS w a ss) :
    Calls Try.prog 17 #[.slice a n cap, .int .i64 f] w fun e w' => e = .returned (.bool (blindAt ss f)) ∧ w' = w := by
  subst hn
  have I := fun w => isSym_any a ss.length cap f w
  by_cases h0 : 0 ≤ f ∧ f < (ss.length : Int)
  · obtain ⟨h0, h1⟩ := h0
    obtain ⟨k, rfl⟩ := Int.eq_ofNat_of_zero_le h0
    have hk : k < ss.length := by omega
    have HB : Hid (blindAt ss k = ss[k].ac) := blindAt_in hk
    rw [decide_eq_true h0, decide_eq_true h1] at I
    rcases hr with rfl | ⟨b, off, rfl, hlt, hc⟩
    · simp at hk
    · obtain ⟨c0, c1, c2⟩ := hc k hk
      clear hc
      go_enter Try.func17, Try.ntmps17
      go_wp2_with (go_at_call 55; refine (I _).mono ?_; rintro e w2 ⟨rfl, hw⟩; subst w2)
      go_ret
      exact ⟨ret_bool HB.out.symm, rfl⟩
  · have HB : Hid (blindAt ss f = false) := (at_out (by omega)).1
    have e : (decide (0 ≤ f) && decide (f < (ss.length : Int))) = false := by simp; omega
    rw [e] at I
    go_enter Try.func17, Try.ntmps17
    go_wp2_with (go_at_call 55; refine (I _).mono ?_; rintro e w2 ⟨rfl, hw⟩; subst w2)
    go_ret
    exact ⟨ret_bool HB.out.symm, rfl⟩

set_option maxHeartbeats 800000 in
theorem impArity_any (a : Option Addr) (ss : List SymD) (n cap : Nat) (f : Int) (w : World) (hn : n = ss.length) (hr : RdS w a ss) :
    Calls Try.prog 98 #[.slice a n cap, .int .i64 f] w fun e w' => e = .returned (.int .i64 (arityAt ss f)) ∧ w' = w := by
  subst hn
  have I := fun w => isSym_any a ss.length cap f w
  by_cases h0 : 0 ≤ f ∧ f < (ss.length : Int)
  · obtain ⟨h0, h1⟩ := h0
    obtain ⟨k, rfl⟩ := Int.eq_ofNat_of_zero_le h0
    have hk : k < ss.length := by omega
    have HB : Hid (arityAt ss k = ss[k].ar) := arityAt_in hk
    rw [decide_eq_true h0, decide_eq_true h1] at I
    rcases hr with rfl | ⟨b, off, rfl, hlt, hc⟩
    · simp at hk
    · obtain ⟨c0, c1, c2⟩ := hc k hk
      clear hc
      go_enter Try.func98, Try.ntmps98
      go_wp2_with (go_at_call 55; refine (I _).mono ?_; rintro e w2 ⟨rfl, hw⟩; subst w2)
      go_ret
      exact ⟨ret_int HB.out.symm, rfl⟩
  · have HB : Hid (arityAt ss f = -1) := (at_out (by omega)).2
    have e : (decide (0 ≤ f) && decide (f < (ss.length : Int))) = false := by simp; omega
    rw [e] at I
    go_enter Try.func98, Try.ntmps98
    go_wp2_with (go_at_call 55; refine (I _).mono ?_; rintro e w2 ⟨rfl, hw⟩; subst w2)
    go_ret
    exact ⟨ret_int HB.out.symm, rfl⟩
end Go.Proofs.Ytpmmgplpmonolaa
