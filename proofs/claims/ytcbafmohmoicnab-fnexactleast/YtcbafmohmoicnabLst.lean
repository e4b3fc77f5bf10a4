/- Whether one list of numbers lies beneath another one: both ways of asking. Conditions: at most 1048577 numbers. -/
import Derived.Test.YtcbafmohmoicnabRd
namespace Go.Proofs.Ytcbafmohmoicnab
set_option maxRecDepth 100000
open Go.RowKit

def abvB (xs ys : List Int) : Bool := (List.zip xs ys).any (fun p => decide (p.2 < p.1))
def blwB (xs ys : List Int) : Bool := (List.zip xs ys).any (fun p => decide (p.1 < p.2))
/-- Nowhere above, somewhere below, and as many. -/
def leastB (xs ys : List Int) : Bool := !abvB xs ys && blwB xs ys && (xs.length == ys.length)

theorem take_zip_ : ∀ (k : Nat) (xs ys : List Int), (List.zip xs ys).take k = List.zip (xs.take k) (ys.take k)
  | 0, _, _ => by simp
  | _ + 1, [], _ => by simp
  | _ + 1, _ :: _, [] => by simp
  | k + 1, x :: xs, y :: ys => by simp [take_zip_ k xs ys]
theorem zip_snoc {xs ys : List Int} {k : Nat} (h : k < xs.length) (h' : k < ys.length) : List.zip (xs.take (k + 1)) (ys.take (k + 1)) = List.zip (xs.take k) (ys.take k) ++ [(xs[k], ys[k])] := by
  rw [take_snoc h, take_snoc h', List.zip_append (by simp; omega)]; rfl
theorem any_take {xs ys : List Int} {k : Nat} {f : Int × Int → Bool} (h : (List.zip (xs.take k) (ys.take k)).any f = true) : (List.zip xs ys).any f = true := by
  rw [List.any_eq_true] at h ⊢
  obtain ⟨p, hp, hf⟩ := h
  rw [← take_zip_] at hp
  exact ⟨p, List.mem_of_mem_take hp, hf⟩
theorem abv_step {xs ys : List Int} {k : Nat} (h : k < xs.length) (h' : k < ys.length) (e0 : abvB (xs.take k) (ys.take k) = false) (e : decide (ys[k] < xs[k]) = false) : abvB (xs.take (k + 1)) (ys.take (k + 1)) = false := by
  unfold abvB at *
  rw [zip_snoc h h', List.any_append, e0]
  simpa using e
theorem abv_hit {xs ys : List Int} {k : Nat} (h : k < xs.length) (h' : k < ys.length) (e : decide (ys[k] < xs[k]) = true) : abvB xs ys = true := by
  unfold abvB
  rw [List.any_eq_true]
  refine ⟨(xs[k], ys[k]), ?_, e⟩
  have : (List.zip xs ys)[k]'(by simp; omega) = (xs[k], ys[k]) := by simp
  rw [← this]; exact List.getElem_mem _
theorem blw_step {xs ys : List Int} {k : Nat} (h : k < xs.length) (h' : k < ys.length) : blwB (xs.take (k + 1)) (ys.take (k + 1)) = (blwB (xs.take k) (ys.take k) || decide (xs[k] < ys[k])) := by
  unfold blwB
  rw [zip_snoc h h', List.any_append]
  simp
theorem zip_all {xs ys : List Int} {k : Nat} (h : ¬ (k < xs.length ∧ k < ys.length)) : List.zip (xs.take k) (ys.take k) = List.zip xs ys := by
  rw [← take_zip_, List.take_of_length_le (by simp; omega)]
theorem abv_all {xs ys : List Int} {k : Nat} (h : ¬ (k < xs.length ∧ k < ys.length)) : abvB (xs.take k) (ys.take k) = abvB xs ys := by unfold abvB; rw [zip_all h]
theorem blw_all {xs ys : List Int} {k : Nat} (h : ¬ (k < xs.length ∧ k < ys.length)) : blwB (xs.take k) (ys.take k) = blwB xs ys := by unfold blwB; rw [zip_all h]
theorem least_abv {xs ys : List Int} (h : abvB xs ys = true) : leastB xs ys = false := by simp [leastB, h]
theorem least_len {xs ys : List Int} (h : ¬ xs.length = ys.length) : leastB xs ys = false := by
  have : (xs.length == ys.length) = false := by simpa using h
  simp [leastB, this]
/-- Where nothing is above, beneath is 'not the same'. -/
theorem least_same : ∀ {xs ys : List Int}, xs.length = ys.length → abvB xs ys = false → leastB xs ys = !(eqB xs ys)
  | [], [], _, _ => rfl
  | x :: xs, y :: ys, hl, h => by
    have hl' : xs.length = ys.length := by simpa using hl
    have h' : (decide (y < x) || abvB xs ys) = false := h
    simp only [Bool.or_eq_false_iff, decide_eq_false_iff_not] at h'
    have I := least_same hl' h'.2
    simp only [leastB, h'.2, hl', beq_self_eq_true, Bool.and_true, Bool.not_false, Bool.true_and] at I
    have e1 : abvB (x :: xs) (y :: ys) = false := h
    have e2 : blwB (x :: xs) (y :: ys) = (decide (x < y) || blwB xs ys) := rfl
    have e3 : eqB (x :: xs) (y :: ys) = (decide (x = y) && eqB xs ys) := by
      simp only [eqB]
      by_cases q : x = y <;> simp [q]
    simp only [leastB, e1, e2, e3, hl, beq_self_eq_true, Bool.and_true, Bool.not_false, Bool.true_and, I]
    by_cases q : x = y
    · subst q; simp
    · have : x < y := by omega
      simp [q, this]
  | [], _ :: _, hl, _ => by simp at hl
  | _ :: _, [], hl, _ => by simp at hl
end Go.Proofs.Ytcbafmohmoicnab
