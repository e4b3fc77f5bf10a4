/- Lists of lists of numbers in memory, and what they come to, place by place. Conditions: none. -/
import Derived.Test.YtcbafmohmoicnabRd
import Derived.Test.YtcbafmohmoicnabIns
namespace Go.Proofs.Ytcbafmohmoicnab
set_option maxRecDepth 100000
open Go.RowKit

/-- The slice value that begins at 'a' reads in w as the rows. -/
def RdQ (w : World) (a : Option Addr) (rows : List (List Int)) : Prop :=
  rows = [] ∨ ∃ b off, a = some ⟨b, off, none⟩ ∧ b < w.heap.size ∧ ∀ i, (h : i < rows.length) → ∃ ai ci, w.cell? ⟨b, off + i, none⟩ = some (.slice ai rows[i].length ci) ∧ Rd w ai rows[i]
theorem RdQ.below {w w' : World} {a : Option Addr} {rows : List (List Int)} (h : RdQ w a rows) (hb : Below w.heap.size w w') : RdQ w' a rows := by
  rcases h with h | ⟨b, off, rfl, hlt, hc⟩
  · exact .inl h
  · refine .inr ⟨b, off, rfl, Nat.lt_of_lt_of_le hlt hb.size, fun i hi => ?_⟩
    obtain ⟨ai, ci, h1, h2⟩ := hc i hi
    exact ⟨ai, ci, (hb.cell (p := ⟨b, off + i, none⟩) hlt).trans h1, h2.below hb⟩
theorem RdQ.get {w : World} {a : Option Addr} {rows : List (List Int)} (h : RdQ w a rows) {i : Nat} (hi : i < rows.length) : ∃ b off ai ci, a = some ⟨b, off, none⟩ ∧ w.cell? ⟨b, off + i, none⟩ = some (.slice ai rows[i].length ci) ∧ Rd w ai rows[i] := by
  rcases h with h | ⟨b, off, rfl, hlt, hc⟩
  · subst h; simp at hi
  · obtain ⟨ai, ci, h1, h2⟩ := hc i hi
    exact ⟨b, off, ai, ci, rfl, h1, h2⟩
theorem Rd.get {w : World} {a : Option Addr} {zs : List Int} (h : Rd w a zs) {i : Nat} (hi : i < zs.length) : ∃ b off, a = some ⟨b, off, none⟩ ∧ b < w.heap.size ∧ w.cell? ⟨b, off + i, none⟩ = some (.int .i64 zs[i]) := by
  rcases h with h | ⟨b, off, rfl, hlt, hc⟩
  · subst h; simp at hi
  · refine ⟨b, off, rfl, hlt, ?_⟩
    rw [hc i hi]; simp [hi]

/-- One row more at place k, as an int goes round. -/
def sumStep (k : Nat) (t : Int) (row : List Int) : Int := if h : k < row.length then wrap64 (t + row[k]) else t
def sumAt (rows : List (List Int)) (k : Nat) : Int := rows.foldl (sumStep k) 0
def sumL (rows : List (List Int)) (n : Int) : List Int := if 1 ≤ n ∧ n ≤ 1000 then (List.range n.toNat).map (sumAt rows) else []
theorem sumL_len (rows : List (List Int)) (n : Int) : (sumL rows n).length ≤ 1000 := by
  unfold sumL
  split
  · simp; omega
  · simp
theorem take_snocQ {zs : List (List Int)} {k : Nat} (h : k < zs.length) : zs.take (k + 1) = zs.take k ++ [zs[k]] :=
  List.take_succ_eq_append_getElem h
theorem sumAt_step {rows : List (List Int)} {r : Nat} (h : r < rows.length) (k : Nat) : sumAt (rows.take (r + 1)) k = sumStep k (sumAt (rows.take r) k) rows[r] := by
  unfold sumAt
  rw [take_snocQ h, List.foldl_append]; rfl
theorem sumStep_in {k : Nat} {t : Int} {row : List Int} (h : k < row.length) : sumStep k t row = wrap64 (t + row[k]) := by unfold sumStep; rw [dif_pos h]
theorem sumStep_out {k : Nat} {t : Int} {row : List Int} (h : ¬ k < row.length) : sumStep k t row = t := by unfold sumStep; rw [dif_neg h]
/-- The places while row r is added: those ahead of i have it. -/
def mixL (rows : List (List Int)) (r i m : Nat) : List Int := (List.range m).map (fun j => if j < i then sumAt (rows.take (r + 1)) j else sumAt (rows.take r) j)
theorem mixL_len (rows : List (List Int)) (r i m : Nat) : (mixL rows r i m).length = m := by simp [mixL]
theorem mixL_start (rows : List (List Int)) (m : Nat) : mixL rows 0 0 m = List.replicate m 0 := by
  apply List.ext_getElem
  · simp [mixL]
  · intro i h1 h2
    simp [mixL, sumAt]
theorem mixL_get {rows : List (List Int)} {r i m : Nat} (hi : i < m) : (ints (mixL rows r i m))[i]? = some (.int .i64 (sumAt (rows.take r) i)) := by
  simp [ints, mixL, hi]
theorem mixL_set {rows : List (List Int)} {r i m : Nat} : (ints (mixL rows r i m)).set i (.int .i64 (sumAt (rows.take (r + 1)) i)) = ints (mixL rows r (i + 1) m) := by
  apply List.ext_getElem
  · simp [ints, mixL]
  · intro j h1 h2
    rw [List.getElem_set]
    simp only [ints, mixL, List.getElem_map, List.getElem_range]
    by_cases e : i = j
    · subst e; simp
    · rw [if_neg e]
      by_cases q : j < i
      · rw [if_pos q, if_pos (by omega)]
      · rw [if_neg q, if_neg (by omega)]
theorem mixL_end {rows : List (List Int)} {r i m : Nat} (h : r < rows.length) (hi : ¬ (i < rows[r].length ∧ i < m)) : mixL rows r i m = mixL rows (r + 1) 0 m := by
  apply List.ext_getElem
  · simp [mixL]
  · intro j h1 h2
    simp only [mixL, List.getElem_map, List.getElem_range, Nat.not_lt_zero, if_false]
    by_cases q : j < i
    · rw [if_pos q]
    · rw [if_neg q, sumAt_step h, sumStep_out (by simp [mixL] at h1; omega)]
theorem mixL_all {rows : List (List Int)} {r m : Nat} (h : rows.length ≤ r) : mixL rows r 0 m = (List.range m).map (sumAt rows) := by
  unfold mixL
  rw [List.take_of_length_le h]
  simp
theorem sumL_nat {rows : List (List Int)} {m : Nat} (h1 : 1 ≤ m) (h2 : m ≤ 1000) : sumL rows (m : Int) = (List.range m).map (sumAt rows) := by
  unfold sumL
  rw [if_pos (by omega)]; rfl
end Go.Proofs.Ytcbafmohmoicnab
