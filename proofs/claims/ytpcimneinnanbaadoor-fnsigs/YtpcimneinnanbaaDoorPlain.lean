/- Plain facts on decimal digits: what a loop that takes the last digit away has laid out so far. Conditions: none. -/
import Derived.Lib.ItoaNum
import Derived.Below
namespace Go.Proofs.YtpcimneinnanbaaDoor
open Go.RowKit

/-- The digits of u, none for 0. -/
def digs (u : Nat) : List UInt8 := if u = 0 then [] else Lib.decDigits u

theorem digs_step {u : Nat} (h : u ≠ 0) : digs u = digs (u / 10) ++ [UInt8.ofNat (48 + u % 10)] := by
  unfold digs
  rw [if_neg h, Lib.decDigits]
  by_cases h10 : u < 10
  · rw [dif_pos h10, if_pos (by omega), Nat.mod_eq_of_lt h10]; rfl
  · rw [dif_neg h10, if_neg (by omega)]

theorem nDigits_le {u : Nat} : ∀ k, 1 ≤ k → u < 10 ^ k → Lib.nDigits u ≤ k := by
  intro k
  induction k generalizing u with
  | zero => intro h; omega
  | succ k ih =>
    intro _ hu
    by_cases h10 : u < 10
    · rw [Lib.nDigits_small h10]; omega
    · rw [Lib.nDigits_big h10]
      rw [Nat.pow_succ] at hu
      have hk : 1 ≤ k := by
        by_cases e : k = 0
        · subst e; simp at hu; omega
        · omega
      have := ih (u := u / 10) hk (by omega)
      omega

theorem dec_len {u : Nat} (h : u < 10 ^ 20) : (Lib.decDigits u).length ≤ 20 := by
  rw [Lib.decDigits_length]; exact nDigits_le 20 (by omega) h

theorem digs_ne {n : Int} (h : ¬ n = 0) : digs n.natAbs = Lib.decDigits n.natAbs := by
  unfold digs; rw [if_neg (by omega)]

theorem tdiv_natAbs (n : Int) : (n.tdiv 10).natAbs = n.natAbs / 10 := by
  rw [Int.natAbs_tdiv]; rfl
theorem tmod_natAbs (n : Int) : (n.tmod 10).natAbs = n.natAbs % 10 := by
  rw [Int.natAbs_tmod]; rfl

theorem itoa_zero : Lib.itoa 0 = [48] := by
  rw [Lib.itoa, if_neg (by omega)]; rw [show ((0 : Int).toNat) = 0 from rfl, Lib.decDigits, dif_pos (by omega)]; rfl
theorem itoa_neg {n : Int} (h : n < 0) : Lib.itoa n = 45 :: Lib.decDigits n.natAbs := by rw [Lib.itoa, if_pos h]
theorem itoa_pos {n : Int} (h : ¬ n < 0) : Lib.itoa n = Lib.decDigits n.natAbs := by
  rw [Lib.itoa, if_neg h]; congr 1; omega
theorem itoa_len {n : Int} (h0 : -9223372036854775808 ≤ n) (h1 : n ≤ 9223372036854775807) : (Lib.itoa n).length ≤ 21 := by
  have := dec_len (u := n.natAbs) (by have : (10 : Nat) ^ 20 = 100000000000000000000 := rfl; omega)
  by_cases h : n < 0
  · rw [itoa_neg h]; simp; omega
  · rw [itoa_pos h]; omega
end Go.Proofs.YtpcimneinnanbaaDoor
