/- Contracts of the program's functions on names, and of those that ask one function of a list. Conditions: at most 1048577 functions. -/
import Derived.Test.YtpmmgplpmonolabProg
import Derived.Test.YtpmmgplpmonolabSymA
namespace Go.Proofs.Ytpmmgplpmonolab
set_option maxRecDepth 100000
open Go.RowKit

def lowB (c : UInt8) : Bool := decide ((97 : Int) ≤ (c.toNat : Int)) && decide ((c.toNat : Int) ≤ 122)
def digB (c : UInt8) : Bool := decide ((48 : Int) ≤ (c.toNat : Int)) && decide ((c.toNat : Int) ≤ 57)

theorem chOk_zero (c : UInt8) : chOk 0 c = lowB c := by
  simp only [chOk, lowB, Nat.lt_irrefl, decide_false, Bool.false_and, Bool.or_false]
  congr 1 <;> exact decide_eq_decide.2 (by omega)

theorem chOk_pos {k : Nat} (hk : 0 < k) (c : UInt8) : chOk k c = (lowB c || digB c) := by
  simp only [chOk, lowB, digB, hk, decide_true, Bool.true_and]
  congr 2 <;> exact decide_eq_decide.2 (by omega)

theorem name_long {s : ByteArray} (h : (8 : Int) < (s.size : Int)) : nameOk s = false := by
  rw [nameOk, decide_eq_false (show ¬ s.size ≤ 8 by omega)]; simp

theorem chs_one {s : ByteArray} (h : 0 < s.size) (h0 : lowB s[0] = true) : chsOk s 1 = true := by
  rw [chsOk, chsOk, dif_pos h, chOk_zero, h0]; rfl

theorem name_end {s : ByteArray} (h : chsOk s s.size = true) (h1 : 0 < s.size) (h8 : s.size ≤ 8) : nameOk s = true := by
  rw [nameOk, h, decide_eq_true (show 1 ≤ s.size by omega), decide_eq_true h8]; rfl

set_option maxHeartbeats 800000 in
theorem isSym_any (a : Option Addr) (n cap : Nat) (f : Int) (w : World) :
    Calls Try.prog 31 #[.slice a n cap, .int .i64 f] w fun e w' => e = .returned (.bool (decide (0 ≤ f) && decide (f < (n : Int)))) ∧ w' = w := by
  by_cases h : 0 ≤ f
  · go_enter Try.func31, Try.ntmps31
    go_wp2
    go_ret
    exact ⟨ret_bool (by simp [h]), rfl⟩
  · go_enter Try.func31, Try.ntmps31
    go_wp2
    go_ret
    exact ⟨ret_bool (by simp; omega), rfl⟩

set_option maxHeartbeats 800000 in
theorem impBlind_any (a : Option Addr) (ss : List SymD) (n cap : Nat) (f : Int) (w : World) (hn : n = ss.length) (hr : RdS w a ss) :
    Calls Try.prog 28 #[.slice a n cap, .int .i64 f] w fun e w' => e = .returned (.bool (blindAt ss f)) ∧ w' = w := by
  subst hn
  have I := fun w => isSym_any a ss.length cap f w
  by_cases h0 : 0 ≤ f ∧ f < (ss.length : Int)
  · obtain ⟨h0, h1⟩ := h0
    obtain ⟨k, rfl⟩ := Int.eq_ofNat_of_zero_le h0
    have hk : k < ss.length := by omega
    have HB : Hid (blindAt ss k = ss[k].ac) := blindAt_in hk
    rw [decide_eq_true h0, decide_eq_true h1] at I
    rcases hr with rfl | ⟨b, off, rfl, hlt, hc⟩
    · simp at hk
    · obtain ⟨c0, c1, c2⟩ := hc k hk
      clear hc
      go_enter Try.func28, Try.ntmps28
      go_wp2_with (go_at_call 31; refine (I _).mono ?_; rintro e w2 ⟨rfl, hw⟩; subst w2)
      go_ret
      exact ⟨ret_bool HB.out.symm, rfl⟩
  · have HB : Hid (blindAt ss f = false) := (at_out (by omega)).1
    have e : (decide (0 ≤ f) && decide (f < (ss.length : Int))) = false := by simp; omega
    rw [e] at I
    go_enter Try.func28, Try.ntmps28
    go_wp2_with (go_at_call 31; refine (I _).mono ?_; rintro e w2 ⟨rfl, hw⟩; subst w2)
    go_ret
    exact ⟨ret_bool HB.out.symm, rfl⟩

end Go.Proofs.Ytpmmgplpmonolab
