/- Functions by name: the numbers that stand in the map and those that stand apart, sorted, are all of them in order. Conditions: none. -/
import Derived.Test.YtpcimneinnanbaaDoorTabB
namespace Go.Proofs.YtpcimneinnanbaaDoor
open Go.RowKit Go.Maps

theorem again_mem {ss : List SymD} : ∀ k, k ≤ ss.length → ∀ z, z ∈ againTo ss k ↔ ∃ j, ∃ h : j < ss.length, j < k ∧ z = (j : Int) ∧ (idx (ss.take j) ss[j].name.data.toList).isSome = true
  | 0, _, z => by simp [againTo]
  | k + 1, hk, z => by
    have hl : k < ss.length := by omega
    have ih := again_mem (ss := ss) k (by omega) z
    cases hs : (idx (ss.take k) ss[k].name.data.toList).isSome with
    | true =>
      rw [again_seen hl hs, List.mem_append, ih]
      constructor
      · rintro (⟨j, h, h1, h2, h3⟩ | h)
        · exact ⟨j, h, by omega, h2, h3⟩
        · exact ⟨k, hl, by omega, by simpa using h, hs⟩
      · rintro ⟨j, h, h1, h2, h3⟩
        by_cases e : j = k
        · subst e; right; simp [h2]
        · exact .inl ⟨j, h, by omega, h2, h3⟩
    | false =>
      rw [again_new hl hs, ih]
      constructor
      · rintro ⟨j, h, h1, h2, h3⟩
        exact ⟨j, h, by omega, h2, h3⟩
      · rintro ⟨j, h, h1, h2, h3⟩
        by_cases e : j = k
        · subst e; rw [hs] at h3; simp at h3
        · exact ⟨j, h, by omega, h2, h3⟩

theorem again_nodup {ss : List SymD} : ∀ k, k ≤ ss.length → (againTo ss k).Nodup
  | 0, _ => by simp [againTo]
  | k + 1, hk => by
    have hl : k < ss.length := by omega
    have ih := again_nodup (ss := ss) k (by omega)
    cases hs : (idx (ss.take k) ss[k].name.data.toList).isSome with
    | true =>
      rw [again_seen hl hs, List.nodup_append]
      refine ⟨ih, by simp, ?_⟩
      intro a ha b hb e
      subst e
      obtain ⟨j, h, h1, h2, _⟩ := (again_mem k (by omega) a).1 ha
      simp at hb
      omega
    | false => rw [again_new hl hs]; exact ih

theorem idx_self {ss : List SymD} {k : Nat} (hk : k < ss.length) (hs : (idx (ss.take k) ss[k].name.data.toList).isSome = false) : idx ss ss[k].name.data.toList = some k := by
  refine idx_take (k := k + 1) ?_
  rw [take_next hk, idx_snoc]
  have : idx (ss.take k) ss[k].name.data.toList = none := by simpa using hs
  rw [this, List.length_take_of_le (by omega)]; simp

theorem idx_not {ss : List SymD} {k : Nat} (hk : k < ss.length) (hs : (idx (ss.take k) ss[k].name.data.toList).isSome = true) : idx ss ss[k].name.data.toList ≠ some k := by
  obtain ⟨j, hj⟩ := Option.isSome_iff_exists.1 hs
  have := idx_lt hj
  rw [List.length_take] at this
  rw [idx_take hj]
  simp; omega

/-- What was met of the map so far. -/
def Coll (ss : List SymD) (left : Lit → Bool) (l : List Int) : Prop :=
  l.Nodup ∧ ∀ z : Int, z ∈ l ↔ ∃ (n : List UInt8) (j : Nat), idx ss n = some j ∧ z = (j : Int) ∧ left (.string n) = false

theorem coll_start {ss : List SymD} {D : DataW Unit} (h : MapIs D ss) : Coll ss (Maps.has D) [] := by
  refine ⟨by simp, fun z => ⟨fun h => by simp at h, ?_⟩⟩
  rintro ⟨n, j, h1, _, h3⟩
  rw [(h.2 n).1, h1] at h3
  simp at h3

theorem coll_next {ss : List SymD} {left : Lit → Bool} {l : List Int} (h : Coll ss left l) {s : List UInt8} {i : Nat} (hi : idx ss s = some i) (hl : left (.string s) = true) : Coll ss (fun z => left z && !z.sameKey (.string s)) (l ++ [(i : Int)]) := by
  obtain ⟨hn, hm⟩ := h
  have hni : (i : Int) ∉ l := by
    intro hx
    obtain ⟨n, j, h1, h2, h3⟩ := (hm _).1 hx
    have : i = j := by omega
    subst this
    have e1 := idx_name h1
    have e2 := idx_name hi
    rw [e1] at e2
    subst e2
    rw [hl] at h3
    simp at h3
  refine ⟨?_, fun z => ?_⟩
  · rw [List.nodup_append]
    refine ⟨hn, by simp, ?_⟩
    intro a ha b hb e
    subst e
    simp at hb
    subst hb
    exact hni ha
  · rw [List.mem_append, hm z]
    constructor
    · rintro (⟨n, j, h1, h2, h3⟩ | h)
      · exact ⟨n, j, h1, h2, by simp [h3]⟩
      · refine ⟨s, i, hi, by simpa using h, ?_⟩
        show (left (.string s) && !(Lit.string s).sameKey (.string s)) = false
        rw [lit_same]; simp
    · rintro ⟨n, j, h1, h2, h3⟩
      replace h3 : (left (.string n) && !(Lit.string n).sameKey (.string s)) = false := h3
      rw [lit_same] at h3
      cases hx : left (.string n) with
      | false => exact .inl ⟨n, j, h1, h2, hx⟩
      | true =>
        rw [hx] at h3
        have e : n = s := by simpa using h3
        subst e
        right
        rw [hi] at h1
        have : i = j := by simpa using h1
        subst this
        simp [h2]

theorem coll_at {ss : List SymD} {D : DataW Unit} (h : MapIs D ss) {s : List UInt8} {c : Int} (hhas : Maps.has D (.string s) = true) (hat : ∀ zd, D.atKey (.string s) zd = .lit (.int .i64 c)) : ∃ i, idx ss s = some i ∧ c = (i : Int) := by
  rw [(h.2 s).1] at hhas
  obtain ⟨i, hi⟩ := Option.isSome_iff_exists.1 hhas
  refine ⟨i, hi, ?_⟩
  have h2 := (h.2 s).2 i hi (.lit (.bool true))
  rw [hat] at h2
  injection h2 with h2
  injection h2 with _ h2

def upTo (n : Nat) : List Int := (List.range n).map (fun (i : Nat) => (i : Int))

theorem all_perm {ss : List SymD} {left : Lit → Bool} {l : List Int} (h : Coll ss left l) (hl : ∀ kl, left kl = false) : (againTo ss ss.length ++ l).Perm (upTo ss.length) := by
  obtain ⟨hn, hm⟩ := h
  refine (List.perm_ext_iff_of_nodup ?_ ?_).2 fun z => ?_
  · rw [List.nodup_append]
    refine ⟨again_nodup _ (Nat.le_refl _), hn, ?_⟩
    intro a ha b hb e
    subst e
    obtain ⟨j, hj, _, h2, h3⟩ := (again_mem _ (Nat.le_refl _) a).1 ha
    obtain ⟨n, i, h4, h5, _⟩ := (hm a).1 hb
    have : i = j := by omega
    subst this
    have e1 := idx_name h4
    exact idx_not hj h3 (by rw [e1]; exact h4)
  · unfold upTo
    rw [List.nodup_iff_pairwise_ne]
    refine List.Pairwise.map _ (R := fun a b => a < b) ?_ List.pairwise_lt_range
    intro a b h1 h2
    omega
  · rw [List.mem_append, again_mem _ (Nat.le_refl _), hm]
    unfold upTo
    simp only [List.mem_map, List.mem_range]
    constructor
    · rintro (⟨j, h, _, h2, _⟩ | ⟨n, j, h1, h2, _⟩)
      · exact ⟨j, h, h2.symm⟩
      · exact ⟨j, idx_lt h1, h2.symm⟩
    · rintro ⟨j, hj, rfl⟩
      cases hs : (idx (ss.take j) ss[j].name.data.toList).isSome with
      | true => exact .inl ⟨j, hj, hj, rfl, hs⟩
      | false => exact .inr ⟨_, j, idx_self hj hs, rfl, hl _⟩

theorem all_sorted {ss : List SymD} {left : Lit → Bool} {l : List Int} (h : Coll ss left l) (hl : ∀ kl, left kl = false) : (againTo ss ss.length ++ l).mergeSort (fun x y => decide (x ≤ y)) = upTo ss.length := by
  refine List.Perm.eq_of_pairwise (le := fun a b => decide (a ≤ b) = true) ?_ (List.pairwise_mergeSort ?_ ?_ _) ?_ ((List.mergeSort_perm _ _).trans (all_perm h hl))
  · intro a b _ _ h1 h2; simp at h1 h2; omega
  · intro a b c h1 h2; simp at *; omega
  · intro a b; simp; omega
  · unfold upTo
    refine List.Pairwise.map _ (R := fun a b => a < b) ?_ List.pairwise_lt_range
    intro a b h1
    simp; omega

theorem all_len {ss : List SymD} {left : Lit → Bool} {l : List Int} (h : Coll ss left l) (hl : ∀ kl, left kl = false) : (againTo ss ss.length ++ l).length = ss.length := by
  rw [(all_perm h hl).length_eq]; simp [upTo]

theorem coll_len {ss : List SymD} {left : Lit → Bool} {l : List Int} (h : Coll ss left l) : l.length ≤ ss.length := by
  obtain ⟨hn, hm⟩ := h
  have : ∀ z ∈ l, z ∈ upTo ss.length := by
    intro z hz
    obtain ⟨n, j, h1, h2, _⟩ := (hm z).1 hz
    simp only [upTo, List.mem_map, List.mem_range]
    exact ⟨j, idx_lt h1, h2.symm⟩
  have h2 := hn.length_le_of_subset this
  simpa [upTo] using h2
end Go.Proofs.YtpcimneinnanbaaDoor
