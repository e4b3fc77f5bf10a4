/- Functions by name: the first of each name in a map, the others' numbers in a list; what such a map holds. Conditions: none. -/
import Derived.Test.YtpmmgplpmonolaaSymA
import Derived.Maps.Own
import Derived.Maps.OwnOps
import Derived.Maps.OwnSet
import Derived.Maps.RangeWalk
import Derived.Laws.AppendOwn
import Derived.StringKeys
namespace Go.Proofs.Ytpmmgplpmonolaa
open Go.RowKit Go.Maps

/-- Where the first function of that name stands. -/
def idx (l : List SymD) (n : List UInt8) : Option Nat := l.findIdx? (fun s => s.name.data.toList == n)

theorem idx_snoc (l : List SymD) (s : SymD) (n : List UInt8) : idx (l ++ [s]) n = (idx l n).or (if s.name.data.toList == n then some l.length else none) := by
  unfold idx
  rw [List.findIdx?_append]
  congr 1
  by_cases h : s.name.data.toList == n <;> simp [h]

theorem symOf_idx (l : List SymD) (n : ByteArray) : symOf l n = match idx l n.data.toList with | some i => (i : Int) | none => -1 := by
  unfold symOf idx
  simp only [ByteArray.toList_eq]
  generalize List.findIdx? _ l = o
  cases o <;> rfl

/-- The map holds at each name the number of the first function of that name. -/
def MapIs (D : DataW Unit) (l : List SymD) : Prop :=
  IsMap D ∧ ∀ n : List UInt8, Maps.has D (.string n) = (idx l n).isSome ∧ ∀ i, idx l n = some i → ∀ z, D.atKey (.string n) z = .lit (.int .i64 i)

theorem mapIs_nil : MapIs (.map []) [] := ⟨isMap_empty, fun n => ⟨rfl, fun i h => by simp [idx] at h⟩⟩

theorem mapIs_seen {D : DataW Unit} {l : List SymD} (h : MapIs D l) {s : SymD} (hs : (idx l s.name.data.toList).isSome = true) : MapIs D (l ++ [s]) := by
  refine ⟨h.1, fun n => ?_⟩
  have e : idx (l ++ [s]) n = idx l n := by
    rw [idx_snoc]
    cases hn : idx l n with
    | some i => rfl
    | none =>
      have : (s.name.data.toList == n) = false := by
        apply Bool.eq_false_iff.2
        intro h1
        have h2 : s.name.data.toList = n := by simpa using h1
        rw [h2, hn] at hs
        simp at hs
      simp [this]
  rw [e]
  exact h.2 n

theorem mapIs_new {D : DataW Unit} {l : List SymD} (h : MapIs D l) {s : SymD} (hs : (idx l s.name.data.toList).isSome = false) : MapIs (D.put (.string s.name.data.toList) (.lit (.int .i64 l.length))) (l ++ [s]) := by
  refine ⟨h.1.put _ _, fun n => ?_⟩
  by_cases he : s.name.data.toList = n
  · subst he
    have hn : idx l s.name.data.toList = none := by simpa using hs
    have e : idx (l ++ [s]) s.name.data.toList = some l.length := by rw [idx_snoc, hn]; simp
    rw [e]
    refine ⟨has_put_same (k := .string s.name.data.toList) h.1 trivial _, fun i hi z => ?_⟩
    simp at hi
    subst hi
    exact atKey_put_same (k := .string s.name.data.toList) h.1 trivial _ _
  · have e : idx (l ++ [s]) n = idx l n := by rw [idx_snoc]; simp [he]
    have hne : (Lit.string n) ≠ .string s.name.data.toList := fun h => he (by injection h with h; exact h.symm)
    rw [e, has_put_other hne]
    refine ⟨(h.2 n).1, fun i hi z => ?_⟩
    rw [atKey_put_other hne]
    exact (h.2 n).2 i hi z

/-- The numbers, of the first k, of those functions whose name an earlier one has. -/
def againTo (ss : List SymD) : Nat → List Int
  | 0 => []
  | k + 1 => againTo ss k ++ (if h : k < ss.length then (if (idx (ss.take k) ss[k].name.data.toList).isSome then [(k : Int)] else []) else [])

theorem again_seen {ss : List SymD} {k : Nat} (h : k < ss.length) (hs : (idx (ss.take k) ss[k].name.data.toList).isSome = true) : againTo ss (k + 1) = againTo ss k ++ [(k : Int)] := by
  rw [againTo, dif_pos h, if_pos hs]
theorem again_new {ss : List SymD} {k : Nat} (h : k < ss.length) (hs : (idx (ss.take k) ss[k].name.data.toList).isSome = false) : againTo ss (k + 1) = againTo ss k := by
  rw [againTo, dif_pos h, hs]; simp
theorem again_len (ss : List SymD) : ∀ k, (againTo ss k).length ≤ k
  | 0 => Nat.le_refl _
  | k + 1 => by
    have := again_len ss k
    rw [againTo]
    by_cases h : k < ss.length
    · rw [dif_pos h, List.length_append]
      split <;> simp <;> omega
    · rw [dif_neg h]; simp; omega

theorem take_next {ss : List SymD} {k : Nat} (h : k < ss.length) : ss.take (k + 1) = ss.take k ++ [ss[k]] := List.take_succ_eq_append_getElem h

theorem mapIs_step0 {D : DataW Unit} {ss : List SymD} {k : Nat} (h : k < ss.length) (hm : MapIs D (ss.take k)) (hs : (idx (ss.take k) ss[k].name.data.toList).isSome = true) : MapIs D (ss.take (k + 1)) := by
  rw [take_next h]; exact mapIs_seen hm hs
theorem mapIs_step1 {D : DataW Unit} {ss : List SymD} {k : Nat} (h : k < ss.length) (hm : MapIs D (ss.take k)) (hs : (idx (ss.take k) ss[k].name.data.toList).isSome = false) : MapIs (D.put (.string ss[k].name.data.toList) (.lit (.int .i64 k))) (ss.take (k + 1)) := by
  rw [take_next h]
  have := mapIs_new hm hs
  rwa [List.length_take_of_le (by omega)] at this

def ints (l : List Int) : List Value := l.map (Value.int .i64)

theorem one_new (w : World) (u : Value) (t : TypeId) : ∀ j v, [u][j]? = some v → (w.alloc (.cells #[u] t)).cell? ((⟨w.heap.size, 0, none⟩ : Addr).add j) = some v := by
  intro j v hj
  match j, hj with
  | 0, hj => simp at hj; subst hj; simp [Addr.add]
  | j + 1, hj => simp at hj
theorem one_new' (w : World) (u : Value) (t : TypeId) (n : Nat) (hn : n = w.heap.size) : ∀ j v, [u][j]? = some v → (w.alloc (.cells #[u] t)).cell? ((⟨n, 0, none⟩ : Addr).add j) = some v := by
  subst hn; exact one_new w u t
theorem one_cell (n : Int) : ∀ u ∈ [Value.int .i64 n], u.oneCell' = true := by
  intro u hu; simp at hu; subst hu; rfl
end Go.Proofs.Ytpmmgplpmonolaa
