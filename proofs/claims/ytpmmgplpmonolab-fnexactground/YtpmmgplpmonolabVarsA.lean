/- The variables of a term: put in one by one they are those that stand in it, in order, each once. Conditions: none. -/
import Derived.Test.YtpmmgplpmonolabWithA
import Derived.Test.YtpmmgplpmonolabTermVars
import Derived.Lib.SlicesCompact
namespace Go.Proofs.Ytpmmgplpmonolab
open Go.RowKit

/-- The numbers of the variables among terms. -/
def vl (l : List TermD) : List Int := (l.filter fun x => x.f == -1).map TermD.v
theorem vl_append (a b : List TermD) : vl (a ++ b) = vl a ++ vl b := by simp [vl]
theorem vl_len (l : List TermD) : (vl l).length ≤ l.length := by simp only [vl, List.length_map]; exact List.length_filter_le _ _
mutual
theorem vl_pre : ∀ (t : TermD) (out : List Int), varsT t out = (vl (preT t)).foldl ins out
  | .mk f v ks, out => by
    have h := vl_preL ks
    rw [varsT, preT, h, show TermD.mk f v ks :: preL ks = [TermD.mk f v ks] ++ preL ks from rfl, vl_append, List.foldl_append]
    congr 1
    by_cases e : f = -1 <;> simp [vl, TermD.f, TermD.v, e]
theorem vl_preL : ∀ (ts : List TermD) (out : List Int), varsL ts out = (vl (preL ts)).foldl ins out
  | [], out => by simp [varsL, preL, vl]
  | t :: ts, out => by
    rw [varsL, preL, vl_append, List.foldl_append, vl_pre t, vl_preL ts]
end

theorem ss_ext : ∀ {a b : List Int}, a.Pairwise (· < ·) → b.Pairwise (· < ·) → (∀ x, x ∈ a ↔ x ∈ b) → a = b
  | [], [], _, _, _ => rfl
  | [], y :: b, _, _, h => by have := (h y).2 (by simp); simp at this
  | x :: a, [], _, _, h => by have := (h x).1 (by simp); simp at this
  | x :: a, y :: b, ha, hb, h => by
    rw [List.pairwise_cons] at ha hb
    have e : x = y := by
      have h1 := (h x).1 (by simp)
      have h2 := (h y).2 (by simp)
      rcases List.mem_cons.1 h1 with h1 | h1
      · exact h1
      · rcases List.mem_cons.1 h2 with h2 | h2
        · exact h2.symm
        · have := hb.1 x h1; have := ha.1 y h2; omega
    subst e
    congr 1
    refine ss_ext ha.2 hb.2 (fun z => ⟨fun hz => ?_, fun hz => ?_⟩)
    · rcases List.mem_cons.1 ((h z).1 (by simp [hz])) with e | e
      · have := ha.1 z hz; omega
      · exact e
    · rcases List.mem_cons.1 ((h z).2 (by simp [hz])) with e | e
      · have := hb.1 z hz; omega
      · exact e

theorem drop_ge (x : Int) : ∀ {zs : List Int}, zs.Pairwise (· < ·) → ∀ z ∈ zs.dropWhile (fun y => decide (y < x)), ¬ z < x
  | [], _, z, h => by simp at h
  | y :: zs, hp, z, h => by
    rw [List.pairwise_cons] at hp
    by_cases e : y < x
    · simp only [List.dropWhile_cons, e, decide_true, if_true] at h
      exact drop_ge x hp.2 z h
    · simp only [List.dropWhile_cons, e, decide_false] at h
      rcases List.mem_cons.1 h with h | h
      · omega
      · have := hp.1 z h; omega
theorem take_lt (x : Int) : ∀ {zs : List Int}, ∀ z ∈ zs.takeWhile (fun y => decide (y < x)), z < x
  | [], z, h => by simp at h
  | y :: zs, z, h => by
    by_cases e : y < x
    · simp only [List.takeWhile_cons, e, decide_true, if_true] at h
      rcases List.mem_cons.1 h with h | h
      · omega
      · exact take_lt x z h
    · simp only [List.takeWhile_cons, e, decide_false] at h
      simp at h
theorem hasB_iff (zs : List Int) (x : Int) : hasB zs x = true ↔ x ∈ zs := by
  simp only [hasB, List.any_eq_true]
  constructor
  · rintro ⟨y, hy, e⟩; have : y = x := by simpa using e
    subst this; exact hy
  · intro h; exact ⟨x, h, by simp⟩
theorem ins_mem (zs : List Int) (x y : Int) : y ∈ ins zs x ↔ y = x ∨ y ∈ zs := by
  unfold ins
  split
  · rename_i h
    rw [hasB_iff] at h
    exact ⟨.inr, fun e => e.elim (fun e => e ▸ h) id⟩
  · rw [List.mem_append, List.mem_cons]
    conv => rhs; rw [← List.takeWhile_append_dropWhile (p := fun y => decide (y < x)) (l := zs), List.mem_append]
    exact ⟨fun h => h.elim (fun h => .inr (.inl h)) (fun h => h.elim .inl (fun h => .inr (.inr h))), fun h => h.elim (fun h => .inr (.inl h)) (fun h => h.elim .inl (fun h => .inr (.inr h)))⟩
theorem ins_ss {zs : List Int} (h : zs.Pairwise (· < ·)) (x : Int) : (ins zs x).Pairwise (· < ·) := by
  unfold ins
  split
  · exact h
  · rename_i hx
    rw [hasB_iff] at hx
    have hd : ∀ z ∈ zs.dropWhile (fun y => decide (y < x)), x < z := fun z hz => by
      have h1 := drop_ge x h z hz
      have h2 : z ≠ x := fun e => hx (e ▸ (List.dropWhile_sublist _).subset hz)
      omega
    rw [List.pairwise_append]
    refine ⟨h.sublist (List.takeWhile_sublist _), List.pairwise_cons.2 ⟨hd, h.sublist (List.dropWhile_sublist _)⟩, fun a ha b hb => ?_⟩
    have h1 := take_lt x a ha
    rcases List.mem_cons.1 hb with e | e
    · omega
    · have := hd b e; omega
theorem fold_ss : ∀ (l out : List Int), out.Pairwise (· < ·) → (l.foldl ins out).Pairwise (· < ·) ∧ ∀ y, y ∈ l.foldl ins out ↔ y ∈ l ∨ y ∈ out
  | [], out, h => by simp [h]
  | x :: l, out, h => by
    obtain ⟨h1, h2⟩ := fold_ss l (ins out x) (ins_ss h x)
    refine ⟨h1, fun y => ?_⟩
    rw [List.foldl_cons, h2, ins_mem, List.mem_cons]
    constructor
    · rintro (h | h | h)
      · exact .inl (.inr h)
      · exact .inl (.inl h)
      · exact .inr h
    · rintro ((h | h) | h)
      · exact .inr (.inl h)
      · exact .inl h
      · exact .inr (.inr h)

theorem comp_upto (d : Array Int) (hd : ∀ i j, i ≤ j → j < d.size → d[i]! ≤ d[j]!) : ∀ m, m ≤ d.size →
    (Lib.compactUpTo d m).Pairwise (· < ·) ∧ (∀ y, y ∈ Lib.compactUpTo d m ↔ ∃ j, j < m ∧ d[j]! = y)
  | 0, _ => by simp [Lib.compactUpTo]
  | m + 1, h => by
    obtain ⟨h1, h2⟩ := comp_upto d hd m (by omega)
    rw [Lib.compactUpTo_succ]
    by_cases e : m = 0
    · subst e
      have hk := Lib.keeps_lt_one d 0 (by omega)
      simp only [hk, if_true]
      have e0 : Lib.compactUpTo d 0 = [] := by simp [Lib.compactUpTo]
      rw [e0]
      refine ⟨by simp, fun y => ?_⟩
      simp only [List.nil_append, List.mem_singleton]
      constructor
      · intro h; exact ⟨0, by omega, h.symm⟩
      · rintro ⟨j, hj, rfl⟩; rw [show j = 0 by omega]
    · by_cases ed : d[m]! = d[m - 1]!
      · rw [Lib.keeps_neg (by omega) ed]
        simp only [Bool.false_eq_true, if_false, List.append_nil]
        refine ⟨h1, fun y => (h2 y).trans ⟨fun ⟨j, hj, e⟩ => ⟨j, by omega, e⟩, fun ⟨j, hj, e'⟩ => ?_⟩⟩
        by_cases ej : j = m
        · subst ej; exact ⟨j - 1, by omega, ed ▸ e'⟩
        · exact ⟨j, by omega, e'⟩
      · rw [Lib.keeps_pos ed]
        simp only [if_true]
        refine ⟨?_, fun y => ?_⟩
        · rw [List.pairwise_append]
          refine ⟨h1, by simp, fun a ha b hb => ?_⟩
          obtain ⟨j, hj, rfl⟩ := (h2 a).1 ha
          have eb : b = d[m]! := by simpa using hb
          subst eb
          have q1 := hd j (m - 1) (by omega) (by omega)
          have q2 := hd (m - 1) m (by omega) (by omega)
          omega
        · rw [List.mem_append, h2, List.mem_singleton]
          constructor
          · rintro (⟨j, hj, e'⟩ | e')
            · exact ⟨j, by omega, e'⟩
            · exact ⟨m, by omega, e'.symm⟩
          · rintro ⟨j, hj, e'⟩
            by_cases ej : j = m
            · subst ej; exact .inr e'.symm
            · exact .inl ⟨j, by omega, e'⟩

/-- Sorted and each once: as put in one by one. -/
theorem comp_fold (l : List Int) : Lib.compact (l.mergeSort fun x y => decide (x ≤ y)) = l.foldl ins [] := by
  have hs : (l.mergeSort fun x y => decide (x ≤ y)).Pairwise (fun a b => decide (a ≤ b) = true) := List.pairwise_mergeSort (fun a b c h1 h2 => by simp at *; omega) (fun a b => by simp; omega) l
  have hm : ∀ y, y ∈ (l.mergeSort fun x y => decide (x ≤ y)) ↔ y ∈ l := fun y => List.mem_mergeSort
  generalize l.mergeSort (fun x y => decide (x ≤ y)) = s at *
  have hd : ∀ i j, i ≤ j → j < s.toArray.size → s.toArray[i]! ≤ s.toArray[j]! := by
    intro i j hij hj
    simp only [List.size_toArray] at hj
    have hi : i < s.length := by omega
    have e1 : s.toArray[i]! = s[i] := by simp [hi]
    have e2 : s.toArray[j]! = s[j] := by simp [hj]
    rw [e1, e2]
    by_cases e : i = j
    · subst e; exact Int.le_refl _
    · have := List.pairwise_iff_getElem.1 hs i j hi hj (by omega)
      simpa using this
  obtain ⟨h1, h2⟩ := comp_upto s.toArray hd s.length (by simp)
  obtain ⟨h3, h4⟩ := fold_ss l [] (by simp)
  refine ss_ext h1 h3 (fun y => ?_)
  have e0 : y ∈ Lib.compact s ↔ ∃ j, j < s.length ∧ s.toArray[j]! = y := h2 y
  refine (h2 y).trans ?_
  rw [h4, ← hm]
  simp only [List.not_mem_nil, or_false]
  constructor
  · rintro ⟨j, hj, rfl⟩; simp [hj]
  · intro h
    obtain ⟨j, hj, e⟩ := List.getElem_of_mem h
    exact ⟨j, hj, by simp [hj, e]⟩

theorem vars_comp (t : TermD) : Lib.compact ((vl (preT t)).mergeSort fun x y => decide (x ≤ y)) = varsT t [] := by rw [comp_fold, vl_pre]
end Go.Proofs.Ytpmmgplpmonolab
