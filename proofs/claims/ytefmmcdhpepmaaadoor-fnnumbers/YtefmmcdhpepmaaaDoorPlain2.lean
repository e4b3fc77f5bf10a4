/- Plain facts on numerals: when a text is the digits of a number from 0 to 999999, and what Atoi says of it. Conditions: none. -/
import Derived.Test.YtefmmcdhpepmaaaDoorPlain
import Derived.Lib.AtoiAll
namespace Go.Proofs.YtefmmcdhpepmaaaDoor
open Go.RowKit

/-- What digits spell, from the left. -/
def val (l : List UInt8) : Nat := l.foldl (fun a c => 10 * a + (c.toNat - 48)) 0
def isDig (c : UInt8) : Bool := decide (48 ≤ c.toNat) && decide (c.toNat ≤ 57)
/-- A text of 1 to 6 digits that is the digits of what it spells. -/
def goodB (l : List UInt8) : Bool := decide (1 ≤ l.length) && decide (l.length ≤ 6) && l.all isDig && (Lib.decDigits (val l) == l)
/-- What Number answers: the number, or 0. -/
def numV (l : List UInt8) : Int := if goodB l = true then (val l : Int) else 0

theorem val_snoc (l : List UInt8) (c : UInt8) : val (l ++ [c]) = 10 * val l + (c.toNat - 48) := by simp [val, List.foldl_append]

theorem dig_toNat {d : Nat} (h : d < 10) : (UInt8.ofNat (48 + d)).toNat = 48 + d := by
  rw [UInt8.toNat_ofNat']; exact Nat.mod_eq_of_lt (by omega)

theorem val_dec (u : Nat) : val (Lib.decDigits u) = u := by
  induction u using Nat.strongRecOn with
  | _ u ih =>
    rw [Lib.decDigits]
    by_cases h : u < 10
    · rw [dif_pos h, show [UInt8.ofNat (48 + u)] = [] ++ [UInt8.ofNat (48 + u)] from rfl, val_snoc, dig_toNat h]
      simp [val]
    · rw [dif_neg h, val_snoc, ih (u / 10) (by omega), dig_toNat (by omega)]
      omega

theorem dec_all (u : Nat) : (Lib.decDigits u).all isDig = true := by
  induction u using Nat.strongRecOn with
  | _ u ih =>
    rw [Lib.decDigits]
    by_cases h : u < 10
    · rw [dif_pos h]; simp only [List.all_cons, List.all_nil, Bool.and_true, isDig, dig_toNat h]; simp; omega
    · rw [dif_neg h, List.all_append, ih (u / 10) (by omega)]
      simp only [List.all_cons, List.all_nil, Bool.and_true, Bool.true_and, isDig, dig_toNat (show u % 10 < 10 by omega)]; simp; omega

theorem dec_pos (u : Nat) : 1 ≤ (Lib.decDigits u).length := by rw [Lib.decDigits_length]; exact Lib.nDigits_pos u

theorem fold_lt : ∀ (l : List UInt8) (acc : Nat), l.all isDig = true → l.foldl (fun a c => 10 * a + (c.toNat - 48)) acc < (acc + 1) * 10 ^ l.length
  | [], acc, _ => by simp
  | c :: l, acc, h => by
    simp only [List.all_cons, Bool.and_eq_true] at h
    have hc := h.1
    simp [isDig] at hc
    rw [List.foldl_cons, List.length_cons, Nat.pow_succ]
    refine Nat.lt_of_lt_of_le (fold_lt l _ h.2) ?_
    rw [Nat.mul_comm (10 ^ l.length) 10, ← Nat.mul_assoc]
    exact Nat.mul_le_mul_right _ (by omega)
theorem val_lt (l : List UInt8) (h : l.all isDig = true) : val l < 10 ^ l.length := by
  have := fold_lt l 0 h
  simpa [val] using this

theorem parse_dig : ∀ (l : List UInt8) (acc : Nat), l.all isDig = true → acc * 10 ^ l.length + 10 ^ l.length ≤ 10 ^ 18 → Lib.parseUint10 acc l = .ok (l.foldl (fun a c => 10 * a + (c.toNat - 48)) acc)
  | [], acc, _, _ => rfl
  | c :: l, acc, h, hb => by
    simp only [List.all_cons, Bool.and_eq_true] at h
    have hc := h.1
    simp [isDig] at hc
    rw [List.length_cons, Nat.pow_succ] at hb
    have hp : 1 ≤ 10 ^ l.length := Nat.one_le_pow _ _ (by decide)
    have hb2 : acc * (10 ^ l.length * 10) ≤ 10 ^ 18 := by omega
    have hb3 : acc * 10 ≤ 10 ^ 18 := by
      exact Nat.le_trans (Nat.mul_le_mul_left acc (by omega)) hb2
    have e18 : (10 : Nat) ^ 18 = 1000000000000000000 := rfl
    rw [e18] at hb3
    rw [Lib.parseUint10, if_pos ⟨hc.1, hc.2⟩, if_neg (by omega), if_neg (by omega), List.foldl_cons, Nat.mul_comm acc 10]
    refine parse_dig l _ h.2 ?_
    have hstep : (10 * acc + (c.toNat - 48)) * 10 ^ l.length + 10 ^ l.length ≤ acc * (10 ^ l.length * 10) + 10 ^ l.length * 10 := by
      have h9 : c.toNat - 48 ≤ 9 := by omega
      have h10 : (c.toNat - 48) * 10 ^ l.length ≤ 9 * 10 ^ l.length := Nat.mul_le_mul_right _ h9
      rw [Nat.add_mul]
      have e1 : 10 * acc * 10 ^ l.length = acc * (10 ^ l.length * 10) := by
        rw [Nat.mul_comm 10 acc, Nat.mul_assoc, Nat.mul_comm 10]
      omega
    omega

theorem atoi_good {l : List UInt8} (h : goodB l = true) : Lib.atoiAll l = .ok (val l : Int) := by
  simp only [goodB, Bool.and_eq_true, decide_eq_true_eq] at h
  obtain ⟨⟨⟨h1, h6⟩, ha⟩, _⟩ := h
  have hv := val_lt l ha
  have hp6 : 10 ^ l.length ≤ 10 ^ 6 := Nat.pow_le_pow_right (by omega) h6
  have e6 : (10 : Nat) ^ 6 = 1000000 := rfl
  have hpar := parse_dig l 0 ha (by rw [Nat.zero_mul]; exact Nat.le_trans (by omega) (Nat.pow_le_pow_right (by omega) (show 6 ≤ 18 by omega)))
  match l, h1 with
  | c :: r, _ =>
    have hc : 48 ≤ c.toNat ∧ c.toNat ≤ 57 := by simp [isDig] at ha; exact ha.1
    have hpm : Lib.parseMag (c :: r) = .ok (val (c :: r)) := by rw [Lib.parseMag, if_neg (by simp)]; exact hpar
    simp only [Lib.atoiAll]
    rw [if_neg (by omega), hpm]
    simp only
    rw [if_neg (by omega), if_neg (by omega), if_neg (by omega)]

theorem good_of {l : List UInt8} {v : Int} (h0 : 0 ≤ v) (h1 : v ≤ 999999) (h : Lib.itoa v = l) : goodB l = true ∧ (val l : Int) = v := by
  have e : l = Lib.decDigits v.natAbs := by rw [← h, itoa_pos (by omega)]
  have hv : val l = v.natAbs := by rw [e, val_dec]
  have hn : (Lib.decDigits v.natAbs).length ≤ 6 := by
    rw [Lib.decDigits_length]; exact nDigits_le 6 (by omega) (by have : (10 : Nat) ^ 6 = 1000000 := rfl; omega)
  refine ⟨?_, by omega⟩
  simp only [goodB, Bool.and_eq_true, decide_eq_true_eq, hv]
  rw [e]
  exact ⟨⟨⟨dec_pos _, hn⟩, dec_all _⟩, by simp⟩

theorem good_back {l : List UInt8} (h : goodB l = true) : Lib.itoa (val l : Int) = l ∧ val l ≤ 999999 := by
  simp only [goodB, Bool.and_eq_true, decide_eq_true_eq] at h
  obtain ⟨⟨⟨h1, h6⟩, ha⟩, hd⟩ := h
  have hv := val_lt l ha
  have hp6 : 10 ^ l.length ≤ 10 ^ 6 := Nat.pow_le_pow_right (by omega) h6
  have e6 : (10 : Nat) ^ 6 = 1000000 := rfl
  refine ⟨?_, by omega⟩
  rw [itoa_pos (by omega), Int.natAbs_natCast]
  simpa using hd
end Go.Proofs.YtefmmcdhpepmaaaDoor
