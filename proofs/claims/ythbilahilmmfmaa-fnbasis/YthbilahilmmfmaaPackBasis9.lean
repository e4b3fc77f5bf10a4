/- What the proof of FnBasis stands on, part 9 of 10: each piece says what it proves and under which conditions. Conditions: as each piece says. -/
import Derived.Test.YthbilahilmmfmaaPackBasis8
/- Beneath each way that solves lies one of the basis: no least way takes more of one side's numbers than the other side's greatest number tells (two sums of steps that keep close come to the same distance twice). Plain mathematics. Conditions: numbers from 1 to 4. -/
namespace Go.Proofs.Ythbilahilmmfmaa
set_option maxRecDepth 100000
open Go.RowKit

theorem pigeon : ∀ (n : Nat) (f : Nat → Nat), (∀ i, i ≤ n → f i < n) → ∃ i j, i < j ∧ j ≤ n ∧ f i = f j
  | 0, f, h => absurd (h 0 (Nat.le_refl _)) (Nat.not_lt_zero _)
  | n + 1, f, h => by
    by_cases hc : ∃ i, i ≤ n ∧ f i = f (n + 1)
    · obtain ⟨i, hi, e⟩ := hc
      exact ⟨i, n + 1, by omega, Nat.le_refl _, e⟩
    · have hne : ∀ i, i ≤ n → f i ≠ f (n + 1) := fun i hi e => hc ⟨i, hi, e⟩
      obtain ⟨i, j, h1, h2, h3⟩ := pigeon n (fun i => if f (n + 1) < f i then f i - 1 else f i) (fun i hi => by
        have a1 := h i (by omega)
        have a2 := hne i hi
        have a3 := h (n + 1) (Nat.le_refl _)
        show (if f (n + 1) < f i then f i - 1 else f i) < n
        split <;> omega)
      refine ⟨i, j, h1, by omega, ?_⟩
      have b1 := hne i (by omega)
      have b2 := hne j (by omega)
      split at h3 <;> split at h3 <;> omega

/-- A prefix of the steps comes close behind any sum. -/
theorem near {q : Int} (hq : 0 < q) : ∀ (B : List Int), (∀ v ∈ B, 1 ≤ v ∧ v ≤ q) → ∀ X : Int, 0 ≤ X → X ≤ B.sum → ∃ j, j ≤ B.length ∧ X ≤ (B.take j).sum ∧ (B.take j).sum < X + q
  | [], _, X, h0, h1 => ⟨0, Nat.le_refl _, by simpa using h1, by simp; omega⟩
  | v :: B, hB, X, h0, h1 => by
    have hv := hB v (by simp)
    by_cases h2 : X = 0
    · exact ⟨0, Nat.zero_le _, by simp; omega, by simp; omega⟩
    · by_cases h3 : X ≤ v
      · exact ⟨1, by simp, by simp; omega, by simp; omega⟩
      · simp only [List.sum_cons] at h1
        obtain ⟨j, e1, e2, e3⟩ := near hq B (fun u hu => hB u (by simp [hu])) (X - v) (by omega) (by omega)
        exact ⟨j + 1, by simp; omega, by simp only [List.take_succ_cons, List.sum_cons]; omega, by simp only [List.take_succ_cons, List.sum_cons]; omega⟩
theorem pos_sum : ∀ (l : List Int), (∀ v ∈ l, 1 ≤ v) → (l.length : Int) ≤ l.sum
  | [], _ => by simp
  | v :: l, h => by
    have := pos_sum l (fun u hu => h u (by simp [hu]))
    have := h v (by simp)
    simp only [List.sum_cons, List.length_cons]
    omega
/-- Too many steps on one side: a part of them comes to a part of the others. -/
theorem segment {α β : Type} (va : α → Int) (vb : β → Int) (q : Nat) (A : List α) (B : List β) (hA : ∀ k ∈ A, 1 ≤ va k) (hB : ∀ k ∈ B, 1 ≤ vb k ∧ vb k ≤ (q : Int)) (hs : (A.map va).sum = (B.map vb).sum) (hq : q < A.length) (hq0 : 0 < q) :
    ∃ (A1 : List α) (B1 : List β), A1 <:+: A ∧ B1 <:+: B ∧ A1 ≠ [] ∧ A1.length < A.length ∧ (A1.map va).sum = (B1.map vb).sum := by
  have hB' : ∀ v ∈ B.map vb, 1 ≤ v ∧ v ≤ (q : Int) := fun v hv => by obtain ⟨k, hk, rfl⟩ := List.mem_map.1 hv; exact hB k hk
  have hpre : ∀ i i', i ≤ i' → ((A.take i').map va).sum = ((A.take i).map va).sum + (((A.take i').drop i).map va).sum := fun i i' h => by
    have e : A.take i' = A.take i ++ (A.take i').drop i := by
      conv => lhs; rw [← List.take_append_drop i (A.take i')]
      rw [List.take_take, Nat.min_eq_left h]
    conv => lhs; rw [e]
    rw [List.map_append, List.sum_append]
  have hpreB : ∀ i i', i ≤ i' → ((B.map vb).take i').sum = ((B.map vb).take i).sum + (((B.take i').drop i).map vb).sum := fun i i' h => by
    have e : B.take i' = B.take i ++ (B.take i').drop i := by
      conv => lhs; rw [← List.take_append_drop i (B.take i')]
      rw [List.take_take, Nat.min_eq_left h]
    rw [← List.map_take, ← List.map_take]
    conv => lhs; rw [e]
    rw [List.map_append, List.sum_append]
  have hpos : ∀ i i', 0 ≤ (((A.take i').drop i).map va).sum := fun i i' => by
    have := pos_sum (((A.take i').drop i).map va) (fun v hv => by obtain ⟨k, hk, rfl⟩ := List.mem_map.1 hv; exact hA k (List.mem_of_mem_take (List.mem_of_mem_drop hk)))
    omega
  have hposB : ∀ i i', 0 ≤ (((B.take i').drop i).map vb).sum := fun i i' => by
    have := pos_sum (((B.take i').drop i).map vb) (fun v hv => by obtain ⟨k, hk, rfl⟩ := List.mem_map.1 hv; exact (hB k (List.mem_of_mem_take (List.mem_of_mem_drop hk))).1)
    omega
  have hX : ∀ i, ∃ j, i ≤ A.length → j ≤ (B.map vb).length ∧ ((A.take i).map va).sum ≤ ((B.map vb).take j).sum ∧ ((B.map vb).take j).sum < ((A.take i).map va).sum + q := fun i => by
    by_cases hi : i ≤ A.length
    · have h0 := hpre 0 i (Nat.zero_le _)
      have h1 := hpre i A.length hi
      rw [List.take_length] at h1
      have h2 := hpos 0 i
      have h3 := hpos i A.length
      rw [List.take_length] at h3
      simp only [List.take_zero, List.map_nil, List.sum_nil] at h0
      obtain ⟨j, e1, e2, e3⟩ := near (q := (q : Int)) (by omega) (B.map vb) hB' ((A.take i).map va).sum (by omega) (by omega)
      exact ⟨j, fun _ => ⟨e1, e2, e3⟩⟩
    · exact ⟨0, fun h => absurd h hi⟩
  obtain ⟨J, hJ⟩ : ∃ J : Nat → Nat, ∀ i, i ≤ A.length → J i ≤ (B.map vb).length ∧ ((A.take i).map va).sum ≤ ((B.map vb).take (J i)).sum ∧ ((B.map vb).take (J i)).sum < ((A.take i).map va).sum + q := ⟨fun i => Classical.choose (hX i), fun i => Classical.choose_spec (hX i)⟩
  obtain ⟨i, i', h1, h2, h3⟩ := pigeon q (fun i => (((B.map vb).take (J i)).sum - ((A.take i).map va).sum).toNat) (fun i hi => by
    have := hJ i (by omega)
    show (((B.map vb).take (J i)).sum - ((A.take i).map va).sum).toNat < q
    omega)
  have g1 := hJ i (by omega)
  have g2 := hJ i' (by omega)
  have hlen : ((A.take i').drop i).length = i' - i := by simp; omega
  have hd := pos_sum (((A.take i').drop i).map va) (fun v hv => by obtain ⟨k, hk, rfl⟩ := List.mem_map.1 hv; exact hA k (List.mem_of_mem_take (List.mem_of_mem_drop hk)))
  rw [List.length_map, hlen] at hd
  have hi := hpre i i' (by omega)
  have hJJ : J i ≤ J i' := by
    by_cases h : J i ≤ J i'
    · exact h
    · have h4 := hpreB (J i') (J i) (by omega)
      have h5 := hposB (J i') (J i)
      omega
  have hb := hpreB (J i) (J i') hJJ
  refine ⟨(A.take i').drop i, (B.take (J i')).drop (J i), ?_, ?_, ?_, by omega, by omega⟩
  · exact (List.drop_suffix _ _).isInfix.trans (List.take_prefix _ _).isInfix
  · exact (List.drop_suffix _ _).isInfix.trans (List.take_prefix _ _).isInfix
  · intro e
    rw [e] at hlen
    simp at hlen
    omega
/-- Counts that come to one sum on both sides have among them such ones that are few. -/
theorem few_steps {α β : Type} [BEq α] [LawfulBEq α] [BEq β] [LawfulBEq β] (va : α → Int) (vb : β → Int) (p q : Nat) (hp0 : 0 < p) (hq0 : 0 < q) : ∀ (n : Nat) (A : List α) (B : List β), A.length + B.length ≤ n → (∀ k ∈ A, 1 ≤ va k ∧ va k ≤ (p : Int)) → (∀ k ∈ B, 1 ≤ vb k ∧ vb k ≤ (q : Int)) → (A.map va).sum = (B.map vb).sum → A ≠ [] →
    ∃ (A1 : List α) (B1 : List β), (∀ k, A1.count k ≤ A.count k) ∧ (∀ k, B1.count k ≤ B.count k) ∧ (∀ k ∈ A1, k ∈ A) ∧ (∀ k ∈ B1, k ∈ B) ∧ A1 ≠ [] ∧ A1.length ≤ q ∧ B1.length ≤ p ∧ (A1.map va).sum = (B1.map vb).sum := by
  intro n
  induction n with
  | zero =>
    intro A B hn _ _ _ hne
    exact absurd (List.length_eq_zero_iff.1 (by omega)) hne
  | succ n ih =>
    intro A B hn hA hB hs hne
    by_cases h1 : A.length ≤ q
    · by_cases h2 : B.length ≤ p
      · exact ⟨A, B, fun _ => Nat.le_refl _, fun _ => Nat.le_refl _, fun _ h => h, fun _ h => h, hne, h1, h2, hs⟩
      · obtain ⟨B1, A1, i1, i2, i3, i4, i5⟩ := segment vb va p B A (fun k hk => (hB k hk).1) hA hs.symm (by omega) hp0
        have hA1 : A1 ≠ [] := by
          intro e
          have := pos_sum (B1.map vb) (fun v hv => by obtain ⟨k, hk, rfl⟩ := List.mem_map.1 hv; exact (hB k (i1.subset hk)).1)
          rw [i5, e] at this
          simp at this
          exact i3 (by simpa using this)
        have hAl := i2.sublist.length_le
        obtain ⟨A2, B2, j1, j2, j3, j4, j5, j6, j7, j8⟩ := ih A1 B1 (by omega) (fun k hk => hA k (i2.subset hk)) (fun k hk => hB k (i1.subset hk)) i5.symm hA1
        exact ⟨A2, B2, fun k => Nat.le_trans (j1 k) (i2.sublist.count_le k), fun k => Nat.le_trans (j2 k) (i1.sublist.count_le k), fun k hk => i2.subset (j3 k hk), fun k hk => i1.subset (j4 k hk), j5, j6, j7, j8⟩
    · obtain ⟨A1, B1, i1, i2, i3, i4, i5⟩ := segment va vb q A B (fun k hk => (hA k hk).1) hB hs (by omega) hq0
      have hBl := i2.sublist.length_le
      obtain ⟨A2, B2, j1, j2, j3, j4, j5, j6, j7, j8⟩ := ih A1 B1 (by omega) (fun k hk => hA k (i1.subset hk)) (fun k hk => hB k (i2.subset hk)) i5 i3
      exact ⟨A2, B2, fun k => Nat.le_trans (j1 k) (i1.sublist.count_le k), fun k => Nat.le_trans (j2 k) (i2.sublist.count_le k), fun k hk => i1.subset (j3 k hk), fun k hk => i2.subset (j4 k hk), j5, j6, j7, j8⟩

theorem steps_of : ∀ (n : Nat) (f : Nat → Nat), ∃ A : List Nat, (∀ k ∈ A, k < n) ∧ ∀ k, k < n → A.count k = f k
  | 0, f => ⟨[], fun k h => by simp at h, fun k h => by omega⟩
  | n + 1, f => by
    obtain ⟨A, h1, h2⟩ := steps_of n f
    refine ⟨A ++ List.replicate (f n) n, fun k hk => ?_, fun k hk => ?_⟩
    · rcases List.mem_append.1 hk with h | h
      · have := h1 k h; omega
      · rw [(List.mem_replicate.1 h).2]; omega
    · rw [List.count_append, List.count_replicate]
      by_cases e : k = n
      · subst e
        rw [List.count_eq_zero_of_not_mem (fun h => by have := h1 k h; omega)]
        simp
      · rw [h2 k (by omega)]
        have : (n == k) = false := by simp; omega
        simp [this]
theorem dotF_unit : ∀ (a : List Int) (k : Nat), k < a.length → dotF a (fun j => if j = k then 1 else 0) = a.getD k 0
  | [], k, h => by simp at h
  | p :: a, 0, _ => by
    simp only [dotF]
    rw [dotF_same a _ (fun _ => 0) (fun i _ => by simp), dotF_zero]
    simp
  | p :: a, k + 1, h => by
    simp only [dotF]
    rw [dotF_same a _ (fun j => if j = k then 1 else 0) (fun i _ => by simp), dotF_unit a k (by simpa using h)]
    simp
theorem dot_count (a : List Int) : ∀ (A : List Nat), (∀ k ∈ A, k < a.length) → dotF a (fun k => (A.count k : Int)) = (A.map (fun k => a.getD k 0)).sum
  | [], _ => by
    rw [dotF_same a _ (fun _ => 0) (fun i _ => by simp), dotF_zero]; simp
  | k :: A, h => by
    rw [dotF_same a _ (fun j => (A.count j : Int) + (if j = k then 1 else 0)) (fun i _ => by
      rw [List.count_cons]
      by_cases e : i = k
      · subst e; simp
      · have : (k == i) = false := by simp; omega
        simp [this, e]), dotF_add, dot_count a A (fun j hj => h j (by simp [hj])), dotF_unit a k (h k (by simp))]
    simp only [List.map_cons, List.sum_cons]
    omega
theorem range_sum : ∀ (n : Nat) (f : Nat → Int), ((List.range n).map f).sum = dotF (List.replicate n 1) f
  | 0, f => by simp [dotF]
  | n + 1, f => by
    rw [List.range_succ_eq_map, List.replicate_succ]
    simp only [List.map_cons, List.map_map, List.sum_cons, dotF]
    rw [show (f ∘ Nat.succ) = (fun i => f (i + 1)) from rfl, range_sum n]
    omega
theorem count_sum (n : Nat) (A : List Nat) (h : ∀ k ∈ A, k < n) : ((List.range n).map (fun k => (A.count k : Int))).sum = A.length := by
  rw [range_sum, dot_count _ A (fun k hk => by simpa using h k hk)]
  have : ∀ (B : List Nat), (∀ k ∈ B, k < n) → (B.map (fun k => (List.replicate n (1 : Int)).getD k 0)).sum = B.length := by
    intro B
    induction B with
    | nil => intro _; rfl
    | cons k B ih =>
      intro hB
      have hk := hB k (by simp)
      simp only [List.map_cons, List.sum_cons, List.length_cons]
      rw [ih (fun j hj => hB j (by simp [hj])), List.getD_eq_getElem?_getD, List.getElem?_replicate, if_pos hk]
      simp
      omega
  exact this A h
theorem ways_mem : ∀ (n m : Nat) (x : List Int), x.length = n → (∀ v ∈ x, 0 ≤ v) → x.sum ≤ m → x ∈ waysL n m
  | 0, m, x, h, _, _ => by rw [List.length_eq_zero_iff.1 h]; simp [waysL]
  | n + 1, m, [], h, _, _ => by simp at h
  | n + 1, m, v :: x, h, h0, hs => by
    have hv := h0 v (by simp)
    have hx : 0 ≤ x.sum := by
      have : ∀ (l : List Int), (∀ v ∈ l, 0 ≤ v) → 0 ≤ l.sum := by
        intro l
        induction l with
        | nil => intro _; simp
        | cons y l ih => intro q; have := q y (by simp); have := ih (fun v hv => q v (by simp [hv])); simp; omega
      exact this x (fun u hu => h0 u (by simp [hu]))
    simp only [List.sum_cons] at hs
    simp only [waysL, List.mem_flatMap, List.mem_map, List.mem_range]
    refine ⟨v.toNat, by omega, x, ways_mem n (m - v.toNat) x (by simpa using h) (fun u hu => h0 u (by simp [hu])) (by omega), ?_⟩
    rw [show ((v.toNat : Nat) : Int) = v by omega]
theorem top_ge : ∀ (a : List Int) (d : Int), (∀ v ∈ a, v ≤ a.foldl max d) ∧ d ≤ a.foldl max d
  | [], d => ⟨fun v h => by simp at h, Int.le_refl _⟩
  | u :: a, d => by
    obtain ⟨h1, h2⟩ := top_ge a (max d u)
    refine ⟨fun v hv => ?_, by simp only [List.foldl_cons]; omega⟩
    simp only [List.foldl_cons]
    rcases List.mem_cons.1 hv with rfl | h
    · omega
    · exact h1 v h
/-- No number of one list is above the other one's. -/
def leL (x y : List Int) : Prop := x.length = y.length ∧ ∀ i, (h : i < x.length) → (h' : i < y.length) → x[i] ≤ y[i]
theorem leL_abv {x y : List Int} (h : leL x y) : abvB x y = false := by
  cases e : abvB x y with
  | false => rfl
  | true =>
    unfold abvB at e
    obtain ⟨p, hp, hv⟩ := List.any_eq_true.1 e
    obtain ⟨i, hi, rfl⟩ := List.mem_iff_getElem.1 hp
    simp only [List.length_zip] at hi
    have := h.2 i (by omega) (by omega)
    simp at hv
    omega
theorem abv_leL {x y : List Int} (hl : x.length = y.length) (h : abvB x y = false) : leL x y := by
  refine ⟨hl, fun i h1 h2 => ?_⟩
  unfold abvB at h
  have := List.any_eq_false.1 h (x[i], y[i]) (List.mem_iff_getElem.2 ⟨i, by simp; omega, by simp⟩)
  simp at this
  omega
theorem leL_least {x y : List Int} (h : leL x y) : eqB x y = true ∨ leastB x y = true := by
  rw [least_same h.1 (leL_abv h)]
  cases eqB x y <;> simp
theorem least_leL {x y : List Int} (h : leastB x y = true) : leL x y := by
  unfold leastB at h
  simp only [Bool.and_eq_true, Bool.not_eq_true', beq_iff_eq] at h
  exact abv_leL h.2 h.1.1
theorem leL.trans {x y z : List Int} (h : leL x y) (k : leL y z) : leL x z :=
  ⟨h.1.trans k.1, fun i h1 h2 => Int.le_trans (h.2 i h1 (by have := h.1; omega)) (k.2 i (by have := h.1; omega) h2)⟩
theorem zB_not {l : List Int} {i : Nat} (h : i < l.length) (hv : l[i] ≠ 0) : zB l = false := by
  unfold zB
  exact List.all_eq_false.2 ⟨l[i], List.getElem_mem h, by simpa using hv⟩
/-- Beneath each way that solves lies one of the basis, or it is one. -/
theorem basis_beneath {a b x y : List Int} (ha : fineB a = true) (hb : fineB b = true) (hx : x.length = a.length) (hy : y.length = b.length) (hx0 : ∀ v ∈ x, 0 ≤ v) (hy0 : ∀ v ∈ y, 0 ≤ v) (hd : dotL a x = dotL b y) (hz : zB (x ++ y) = false) :
    ∃ r ∈ basL a b, eqB r (x ++ y) = true ∨ leastB r (x ++ y) = true := by
  have fa := fine_len ha
  have fb := fine_len hb
  have ta := top_ge a 0
  have tb' := top_ge b 0
  have ta1 : 1 ≤ topL a := by have h0 := ta.1 a[0] (List.getElem_mem fa.1); have := (fa.2.2 a[0] (List.getElem_mem fa.1)).1; unfold topL; omega
  have tb1 : 1 ≤ topL b := by have h0 := tb'.1 b[0] (List.getElem_mem fb.1); have := (fb.2.2 b[0] (List.getElem_mem fb.1)).1; unfold topL; omega
  obtain ⟨A, hA1, hA2⟩ := steps_of a.length (fun k => (x.getD k 0).toNat)
  obtain ⟨B, hB1, hB2⟩ := steps_of b.length (fun k => (y.getD k 0).toNat)
  have hxa : ∀ k, (h : k < x.length) → x[k] = (A.count k : Int) := fun k h => by
    have := hA2 k (by omega)
    have h0 := hx0 x[k] (List.getElem_mem h)
    rw [this, List.getD_eq_getElem?_getD, List.getElem?_eq_getElem h, Option.getD_some]
    omega
  have hyb : ∀ k, (h : k < y.length) → y[k] = (B.count k : Int) := fun k h => by
    have := hB2 k (by omega)
    have h0 := hy0 y[k] (List.getElem_mem h)
    rw [this, List.getD_eq_getElem?_getD, List.getElem?_eq_getElem h, Option.getD_some]
    omega
  have hva : ∀ k, k < a.length → 1 ≤ a.getD k 0 ∧ a.getD k 0 ≤ ((topL a).toNat : Int) := fun k h => by
    rw [List.getD_eq_getElem?_getD, List.getElem?_eq_getElem h, Option.getD_some]
    have h1 := ta.1 a[k] (List.getElem_mem h)
    have h2 := (fa.2.2 a[k] (List.getElem_mem h)).1
    refine ⟨h2, ?_⟩
    unfold topL at *
    omega
  have hvb : ∀ k, k < b.length → 1 ≤ b.getD k 0 ∧ b.getD k 0 ≤ ((topL b).toNat : Int) := fun k h => by
    rw [List.getD_eq_getElem?_getD, List.getElem?_eq_getElem h, Option.getD_some]
    have h1 := tb'.1 b[k] (List.getElem_mem h)
    have h2 := (fb.2.2 b[k] (List.getElem_mem h)).1
    refine ⟨h2, ?_⟩
    unfold topL at *
    omega
  have eA : dotL a x = (A.map (fun k => a.getD k 0)).sum := by
    rw [dot_F a x (fun k => (A.count k : Int)) (by omega) (fun i _ h' => hxa i h'), dot_count a A hA1]
  have eB : dotL b y = (B.map (fun k => b.getD k 0)).sum := by
    rw [dot_F b y (fun k => (B.count k : Int)) (by omega) (fun i _ h' => hyb i h'), dot_count b B hB1]
  have hne : A ≠ [] := by
    intro e
    subst e
    have hBn : B = [] := by
      have := pos_sum (B.map (fun k => b.getD k 0)) (fun v hv => by obtain ⟨k, hk, rfl⟩ := List.mem_map.1 hv; exact (hvb k (hB1 k hk)).1)
      rw [← eB, ← hd, eA] at this
      simp at this
      exact this
    subst hBn
    have : zB (x ++ y) = true := by
      unfold zB
      rw [List.all_eq_true]
      intro v hv
      rcases List.mem_append.1 hv with h | h
      · obtain ⟨i, hi, rfl⟩ := List.mem_iff_getElem.1 h
        rw [hxa i hi]; simp
      · obtain ⟨i, hi, rfl⟩ := List.mem_iff_getElem.1 h
        rw [hyb i hi]; simp
    rw [this] at hz
    cases hz
  obtain ⟨A1, B1, c1, c2, c3, c4, c5, c6, c7, c8⟩ := few_steps (fun k => a.getD k 0) (fun k => b.getD k 0) (topL a).toNat (topL b).toNat (by omega) (by omega) _ A B (Nat.le_refl _) (fun k hk => hva k (hA1 k hk)) (fun k hk => hvb k (hB1 k hk)) (by rw [← eA, ← eB, hd]) hne
  obtain ⟨x1, hx1⟩ : ∃ x1, x1 = (List.range a.length).map (fun k => (A1.count k : Int)) := ⟨_, rfl⟩
  obtain ⟨y1, hy1⟩ : ∃ y1, y1 = (List.range b.length).map (fun k => (B1.count k : Int)) := ⟨_, rfl⟩
  have lx : x1.length = a.length := by rw [hx1]; simp
  have ly : y1.length = b.length := by rw [hy1]; simp
  have gx : ∀ k, (h : k < x1.length) → x1[k] = (A1.count k : Int) := fun k h => by simp [hx1]
  have gy : ∀ k, (h : k < y1.length) → y1[k] = (B1.count k : Int) := fun k h => by simp [hy1]
  have mx : x1 ∈ waysL a.length (topL b).toNat := ways_mem _ _ _ lx (fun v hv => by obtain ⟨i, hi, rfl⟩ := List.mem_iff_getElem.1 hv; rw [gx i hi]; omega) (by rw [hx1, count_sum _ _ (fun k hk => hA1 k (c3 k hk))]; omega)
  have my : y1 ∈ waysL b.length (topL a).toNat := ways_mem _ _ _ ly (fun v hv => by obtain ⟨i, hi, rfl⟩ := List.mem_iff_getElem.1 hv; rw [gy i hi]; omega) (by rw [hy1, count_sum _ _ (fun k hk => hB1 k (c4 k hk))]; omega)
  have dx : dotL a x1 = (A1.map (fun k => a.getD k 0)).sum := by
    rw [dot_F a x1 (fun k => (A1.count k : Int)) (by omega) (fun i _ h' => gx i h'), dot_count a A1 (fun k hk => hA1 k (c3 k hk))]
  have dy : dotL b y1 = (B1.map (fun k => b.getD k 0)).sum := by
    rw [dot_F b y1 (fun k => (B1.count k : Int)) (by omega) (fun i _ h' => gy i h'), dot_count b B1 (fun k hk => hB1 k (c4 k hk))]
  have zx : zB x1 = false := by
    obtain ⟨k, hk⟩ := List.exists_mem_of_ne_nil A1 c5
    have hkl := hA1 k (c3 k hk)
    exact zB_not (i := k) (by omega) (by rw [gx k (by omega)]; have := List.count_pos_iff.2 hk; omega)
  have hin : x1 ++ y1 ∈ solL a b := by
    unfold solL solX solY
    simp only [List.mem_flatMap, List.mem_map, List.mem_filter]
    refine ⟨x1, mx, y1, ⟨my, ?_⟩, rfl⟩
    unfold okB
    rw [decide_eq_true (by rw [dx, dy, c8]), zx]
    rfl
  have hle : leL (x1 ++ y1) (x ++ y) := by
    refine ⟨by simp; omega, fun i h1 h2 => ?_⟩
    by_cases hi : i < x1.length
    · rw [List.getElem_append_left hi, List.getElem_append_left (by omega), gx i hi, hxa i (by omega)]
      have := c1 i
      omega
    · rw [List.getElem_append_right (by omega), List.getElem_append_right (by omega)]
      simp only [lx, hx]
      simp at h1
      rw [gy _ (by omega), hyb _ (by omega)]
      have := c2 (i - a.length)
      omega
  have key : ∃ r ∈ basL a b, leL r (x1 ++ y1) := by
    cases hm : minB (solL a b) (x1 ++ y1) with
    | true => exact ⟨_, List.mem_filter.2 ⟨hin, hm⟩, rfl, fun i h1 h2 => Int.le_refl _⟩
    | false =>
      obtain ⟨v, hv1, hv2, hv3⟩ := min_below (solL_nonneg a b) ((x1 ++ y1).sum.toNat) _ hin (by omega) hm
      exact ⟨v, List.mem_filter.2 ⟨hv1, hv3⟩, least_leL hv2⟩
  obtain ⟨r, hr, hl⟩ := key
  exact ⟨r, hr, leL_least (hl.trans hle)⟩
end Go.Proofs.Ythbilahilmmfmaa

/- A byte of the code by its number; a basis' rows; what is drawn for the sums. Conditions: the code has at most 1048576 bytes. -/
namespace Go.Proofs.Ythbilahilmmfmaa
set_option maxRecDepth 100000
open Go.RowKit

def atV (bs : List Int) (i : Nat) : Int := if h : i < bs.length then bs[i] else ((i : Int) * 7 + (bs.length : Int)) % 256
theorem atV_ge (bs : List Int) (i : Nat) (h : ∀ z ∈ bs, 0 ≤ z ∧ z ≤ 255) : 0 ≤ atV bs i ∧ atV bs i ≤ 255 := by
  unfold atV
  split
  · exact h _ (List.getElem_mem _)
  · omega
set_option maxHeartbeats 1600000 in
theorem at_any (c0 : Nat) (a : Option Addr) (bs : List Int) (cap i : Nat) (w : World) (hl : bs.length ≤ 1048576) (hr : RdB w c0 a bs) (hi : i ≤ 100000) :
    Calls Try.prog 21 #[.slice a bs.length cap, .int .i64 i] w fun e w' => e = .returned (.int .i64 (atV bs i)) ∧ w' = w := by
  obtain ⟨hz, hrr⟩ := hr
  by_cases h : i < bs.length
  · have hii : (i : Int) < (bs.length : Int) := by omega
    have hi0 : (0 : Int) ≤ (i : Int) := by omega
    have HE : Hid (atV bs i = bs[i]) := by show _ = _; unfold atV; rw [dif_pos h]
    have hb := hz bs[i] (List.getElem_mem h)
    rcases hrr with h' | ⟨b, off, rfl, hlt, hne, hcs⟩
    · rw [h'] at h; simp at h
    · have hc := hcs i h
      rw [List.getElem?_eq_getElem h, Option.getD_some] at hc
      clear hcs hz
      generalize bs[i] = z at hc HE hb
      have hw : IntKind.i64.wrap z = z := by rw [IntKind.wrap_i64]; omega
      go_enter Try.func21, Try.ntmps21
      go_wp2_with fail
      go_ret
      exact ⟨by rw [HE.out]; simp, rfl⟩
  · have hii : ¬ (i : Int) < (bs.length : Int) := by omega
    have HE : Hid (atV bs i = ((i : Int) * 7 + (bs.length : Int)) % 256) := by show _ = _; unfold atV; rw [dif_neg h]
    have hw1 : IntKind.i64.wrap ((i : Int) * 7) = (i : Int) * 7 := by rw [IntKind.wrap_i64]; omega
    have hw2 : IntKind.i64.wrap ((i : Int) * 7 + (bs.length : Int)) = (i : Int) * 7 + (bs.length : Int) := by rw [IntKind.wrap_i64]; omega
    have hw3 : ((i : Int) * 7 + (bs.length : Int)).tmod 256 = ((i : Int) * 7 + (bs.length : Int)) % 256 := Int.tmod_eq_emod_of_nonneg (by omega)
    clear hz hrr
    go_enter Try.func21, Try.ntmps21
    go_wp2_with fail
    go_ret
    exact ⟨by rw [HE.out]; first | rfl | (rw [← hw3]) | (simp; omega), rfl⟩
theorem basP_ok {a b : List Int} (h : (basP a b).2 = true) : (1 ≤ a.length ∧ a.length ≤ 5 ∧ 1 ≤ b.length ∧ b.length ≤ 5 ∧ (∀ v ∈ a, 1 ≤ v ∧ v ≤ 4) ∧ ∀ v ∈ b, 1 ≤ v ∧ v ≤ 4) ∧ (basP a b).1.length ≤ 60 ∧ ∀ r ∈ (basP a b).1, OkRow a b r := by
  unfold basP at h ⊢
  by_cases hf : (fineB a && fineB b) = true
  · have hf2 := hf
    simp only [Bool.and_eq_true] at hf2
    have fa := fine_len hf2.1
    have fb := fine_len hf2.2
    rw [if_pos hf] at h ⊢
    by_cases hl : 60 < (basL a b).length
    · rw [if_pos hl] at h; cases h
    · rw [if_neg hl]
      refine ⟨⟨fa.1, fa.2.1, fb.1, fb.2.1, fa.2.2, fb.2.2⟩, by show (basL a b).length ≤ 60; omega, fun r hr => bas_row hf2.1 hf2.2 r (List.mem_filter.1 (show r ∈ (solL a b).filter (minB (solL a b)) from hr)).1⟩
  · rw [if_neg hf] at h; cases h
/-- While the law puts ways together: the rows lie in memory that was there ahead of the loop. -/
structure BS (B : Nat) (wB : World) (R : List (List Int)) (g c : Nat) (vs : List Value) (S : List (List Int)) (W : World) : Prop where
  own : W.ownsRow B 24 1 (.slice (some ⟨g, 0, none⟩) S.length c) S.length vs
  rows : RowsV (fun x => x < B) wB vs S
  sub : ∀ r ∈ S, r ∈ R
  bel : Below B wB W
theorem BS.rd {B : Nat} {wB : World} {R : List (List Int)} {g c : Nat} {vs : List Value} {S : List (List Int)} {W : World} (h : BS B wB R g c vs S W) : RdQ W (some ⟨g, 0, none⟩) S :=
  (RowsV.rd (S' := fun _ => True) rfl h.own (h.rows.grow (S' := fun x => x < B) (T := fun x => x < B) (Stay.of_below h.bel (fun _ _ q => q)) (fun _ q _ => q) (fun _ q _ => q)) trivial (fun _ _ => trivial)).rd
end Go.Proofs.Ythbilahilmmfmaa

/- What the law of the basis draws besides: lists of numbers, ways, two lists, lists of lists; whether two lists are the same. Conditions: the code has at most 1048576 bytes. -/
namespace Go.Proofs.Ythbilahilmmfmaa
set_option maxRecDepth 100000
open Go.RowKit

theorem Rd.grownS {w w' : World} {g : Nat} {zs : List Int} {c : Nat} (h : Rd w (some ⟨g, 0, none⟩) zs) (hg : w.grownBy w' (some c)) (hne : g ≠ c) : Rd w' (some ⟨g, 0, none⟩) zs := by
  rcases h with h | ⟨b, off, e, hlt, hc⟩
  · exact .inl h
  · cases e
    refine .inr ⟨g, 0, rfl, Nat.lt_of_lt_of_le hlt hg.size, fun i hi => ?_⟩
    rw [← hc i hi]
    exact World.cell?_of_block (w := w) (hg.block g hlt (by simp; omega))

set_option maxHeartbeats 1600000 in
theorem drawList_any (c : Nat) (a : Option Addr) (bs : List Int) (cap : Nat) (w : World) (hl : bs.length ≤ 1048576) (hc : Cur 91 w c a bs cap) (hbs : bs = [] ∨ ∀ x, a = some x → x.block < w.heap.size) :
    Calls Try.prog 47 #[.pointer (some ⟨c, 0, none⟩)] w fun e w' => ∃ (g lc : Nat) (o : List Int), e = .returned (.slice (some ⟨g, 0, none⟩) o.length lc) ∧ o.length ≤ 5 ∧ (∀ z ∈ o, dr5 z) ∧ w'.ownsRow w.heap.size 3 1 (.slice (some ⟨g, 0, none⟩) o.length lc) o.length (ints o) ∧ Cur 91 w' c a bs cap ∧ w.grownBy w' (some c) := by
  obtain ⟨i0, hi, hz0, hz1, hz2⟩ := info_parts Try.info3
  have hclt := hc.lt
  go_enter Try.func47, Try.ntmps47
  go_wp2
  go_loopw [3, 4] (fun v i wr => ∃ (o : List Int) (g lc : Nat), o.length ≤ 5 ∧ i = .int .i64 o.length ∧ v = .slice (some ⟨g, 0, none⟩) o.length lc ∧ Hid (∀ z ∈ o, dr5 z) ∧ wr.ownsRow w.heap.size 3 1 (.slice (some ⟨g, 0, none⟩) o.length lc) o.length (ints o) ∧ Cur 91 wr c a bs cap ∧ w.grownBy wr (some c)) (fun _ i _ => 6 - (intOf i).toNat)
  case atStart => exact ⟨[], w.heap.size, 0, by simp, rfl, rfl, fun z hz => by simp at hz, World.ownsRow_made w #[] 0 (Nat.le_refl _) (Nat.zero_le _) rfl, hc.below ((Below.refl _ _).alloc (Nat.le_refl _) _), grown_alloc ⟨rfl, rfl, rfl, Nat.le_refl _, fun _ _ _ => rfl⟩ _⟩
  case round =>
    obtain ⟨o, g, lc, ho, rfl, rfl, HO, hown, hC, hg⟩ := hrel
    have H := below_any c a bs cap 6 wr hl (by omega) (by omega) hC
    have hgB : w.heap.size ≤ g := (hown.lt g rfl).1
    have hws := hg.size
    have hne : g ≠ c := by omega
    go_wp2_with (go_at_call 46; refine H.mono ?_; rintro e w1 ⟨k, rfl, hk, hC1, hg1⟩; clear H; have hown1 := hown.kept hg1 (.inr (by simp [Value.ownBlock, hne])); have hgr1 := grown_then hg hg1; clear hown hC hg hg1)
    · have hlt : o.length < k := by assumption
      have ho' : o.length ≤ 4 := by omega
      have hs1 := hgr1.size
      go_wp2_with (first
        | (go_at_call 58; refine (pickInt_any _ _ _ _ _ _ listList _ _ hl rfl (by decide) (by decide) (hC1.below ((Below.refl _ _).alloc (Nat.le_refl _) _)) (by simp) (Nat.ne_of_gt hC1.lt) (lit_cells w1 listList)).mono ?_; rintro e w2 ⟨z, rfl, hz, hC2, hg2⟩; have hown2 := (hown1.alloc _).kept hg2 (.inr (by simp [Value.ownBlock, hne])); have hgr2 := grown_then (grown_alloc hgr1 _) hg2; have hs2 := hgr2.size; clear hown1 hC1 hgr1 hg2)
        | (at_builtin; refine wpList_append_own _ rfl (.tmp 12) (.tmp 16) 24 rfl w.heap.size 3 i0 (.int .i64 0) 1 8 Try.underlying24 hi hz0 hz1 hz2 rfl (by decide) _ o.length _ rfl (hown2.alloc _) ⟨w2.heap.size, 0, none⟩ 1 1 [.int .i64 z] rfl rfl (one_new _ _ _) (one_cell _) (by unfold maxLen; omega) (by omega) (by simp; omega) ?_; intro v' w3 hown3 hgrow3 hnil3; obtain ⟨g3, c3, rfl⟩ := own_some hown3 hnil3; clear hnil3))
      have hgrow : (w2.alloc (.cells #[.int .i64 z] 3)).grownBy w3 (some g) := hgrow3
      have R1 : w3.ownsRow w.heap.size 3 1 (.slice (some ⟨g3, 0, none⟩) (o ++ [z]).length c3) (o ++ [z]).length (ints (o ++ [z])) := by simpa [ints] using hown3
      have R2 : Cur 91 w3 c a bs cap := (hC2.below ((Below.refl _ _).alloc (Nat.le_refl _) _)).grown hgrow hclt hgB hbs
      have R3 : w.grownBy w3 (some c) := grown_own (grown_alloc hgr2 _) hgrow hgB
      have R4 : Hid (∀ y ∈ o ++ [z], dr5 y) := by
        intro y hy
        rcases List.mem_append.1 hy with hy | hy
        · exact HO.out y hy
        · simp at hy; subst hy
          simp [listList] at hz
          unfold dr5; omega
      clear hown3 hgrow3 hgrow hC2 hgr2 hown2 HO
      go_roundw
      case rel => exact ⟨o ++ [z], g3, c3, by simp; omega, by simp, by simp, R4, R1, R2, R3⟩
      case measure => simp [intOf]; omega
    · go_ret
      exact ⟨g, lc, o, rfl, ho, HO.out, hown1, hC1, hgr1⟩

set_option maxHeartbeats 800000 in
theorem sameInts_any (a a' : Option Addr) (zs ys : List Int) (n cap n' cap' : Nat) (w : World) (hn : n = zs.length) (hn' : n' = ys.length) (hr : Rd w a zs) (hr' : Rd w a' ys) (hl : zs.length ≤ 1048577) (hl' : ys.length ≤ 1048577) :
    Calls Try.prog 18 #[.slice a n cap, .slice a' n' cap'] w fun e w' => e = .returned (.bool (eqB zs ys)) ∧ ∃ q, w' = w.drewN q := by
  subst hn hn'
  by_cases hne : zs.length = ys.length
  · rcases hr with rfl | ⟨b, off, rfl, hlt, hc⟩
    · have : ys = [] := by simpa using hne.symm
      subst this
      go_enter Try.func18, Try.ntmps18
      go_wp2
      refine wp_loop_rounds 1 ?_
      rw [rounds_succ]
      go_wp2
      go_ret
      exact ⟨rfl, 0, rfl⟩
    · rcases hr' with rfl | ⟨b', off', rfl, hlt', hc'⟩
      · have : zs = [] := by simpa using hne
        subst this
        go_enter Try.func18, Try.ntmps18
        go_wp2
        refine wp_loop_rounds 1 ?_
        rw [rounds_succ]
        go_wp2
        go_ret
        exact ⟨rfl, 0, rfl⟩
      · have HN : Hid (zs.length = ys.length) := hne
        have ht : ((zs.length : Int) == (ys.length : Int)) = true := by simp [hne]
        clear hne
        go_enter Try.func18, Try.ntmps18
        go_wp2
        go_loopw [5] (fun i wr => ∃ k q : Nat, k ≤ zs.length ∧ i = .int .i64 k ∧ wr = w.drewN q ∧ zs.take k = ys.take k) (fun i _ => zs.length - (intOf i).toNat)
        case atStart => exact ⟨0, 0, Nat.zero_le _, rfl, rfl, by simp⟩
        case round =>
          obtain ⟨k, q, hk, rfl, rfl, h0⟩ := hrel
          have H0 : Hid (zs.take k = ys.take k) := h0
          clear h0
          by_cases hk' : k < zs.length
          · have hky : k < ys.length := by have := HN.out; omega
            have hck := hc k hk'
            have hck' := hc' k hky
            have hi1 : (k : Int) < (zs.length : Int) := by omega
            have hi2 : (k : Int) < (ys.length : Int) := by omega
            clear hc hc' ht
            go_wp2
            go_quiet (fail)
            go_wp2
            · go_ret
              exact ⟨rtB (eqB_hit hk' hky (by assumption)).symm, _, World.drewN_drewN _ _ _⟩
            · go_roundw
              case rel => exact ⟨k + 1, _, by omega, by go_num, rfl, eqB_step hk' hky H0.out (by assumption)⟩
              case measure => simp [intOf]; omega
          · go_wp2
            go_ret
            exact ⟨rtB (eqB_all hk' HN.out H0.out).symm, _, rfl⟩
  · have ht : ((zs.length : Int) == (ys.length : Int)) = false := by simp; omega
    have H0 : Hid (¬ zs.length = ys.length) := hne
    clear hne
    go_enter Try.func18, Try.ntmps18
    go_wp2
    go_ret
    exact ⟨rtB (eqB_len H0.out).symm, 0, rfl⟩

set_option maxHeartbeats 3200000 in
theorem drawLeast_any (a : Option Addr) (bs : List Int) (cap : Nat) (w : World) (hl : bs.length ≤ 1048576) (hr : ∀ c, w.heap.size ≤ c → RdB w c a bs) :
    Calls Try.prog 12 #[.slice a bs.length cap] w fun e w' => ∃ (g lc : Nat) (x : List Int) (g' lc' : Nat) (y : List Int), e = .returned (.tuple #[.slice (some ⟨g, 0, none⟩) x.length lc, .slice (some ⟨g', 0, none⟩) y.length lc']) ∧ x.length ≤ 5 ∧ y.length ≤ 5 ∧ Rd w' (some ⟨g, 0, none⟩) x ∧ Rd w' (some ⟨g', 0, none⟩) y ∧ Below w.heap.size w w' := by
  have H := new_any a bs _ cap w rfl hl hr
  have hbs := Rd_newS hr
  obtain ⟨i0, hi, hz0, hz1, hz2⟩ := info_parts Try.info3
  clear hr
  go_enter Try.func12, Try.ntmps12
  go_wp2_with (go_at_call 38; refine H.mono ?_; rintro e w1 ⟨rfl, hC, hb⟩; clear H)
  have D1 := drawList_any _ a bs cap w1 hl hC (hbs.imp id fun h x hx => Nat.lt_of_lt_of_le (h x hx) hb.size)
  go_wp2_with (first
    | (go_at_call 47; refine D1.mono ?_; rintro e w2 ⟨g, lc, x, rfl, hx5, hxd, hxo, hC2, hg2⟩; clear D1; have hB2 : Below w.heap.size w w2 := hb.trans (grown_below hg2 hb.size (Nat.le_refl _)); have hgl := (hxo.lt g rfl).2; have hgw := (hxo.lt g rfl).1; have hwc := hC.lt; have hw1 := hb.size; have HRX : Hid (∀ q, q < x.length → w2.cell? ⟨g, 0 + q, none⟩ = some (.int .i64 (x[q]?.getD 0))) := fun q hq => by rw [Nat.zero_add, hxo.cellAt q (by omega)]; simp [ints, hq]
       have HXD : Hid (∀ z ∈ x, dr5 z) := hxd
       have HNX : Hid (∀ W : World, Below w2.heap.size w2 W → ∀ q u, (ints x)[q]? = some u → W.cell? ((⟨g, 0, none⟩ : Addr).add q) = some u) := fun W hW => news_of (fun q hq => (hW.cell (p := ⟨g, 0 + q, none⟩) hgl).trans (HRX.out q hq))
       clear hxd hxo)
    | (at_builtin; refine wpList_append_own_at _ rfl (.tmp 11) (.tmp 12) 24 rfl w2.heap.size 3 i0 (.int .i64 0) 1 8 Try.underlying24 hi hz0 hz1 hz2 rfl (by decide) _ 0 _ rfl (World.ownsRow_made w2 #[] 0 (Nat.le_refl _) (Nat.zero_le _) rfl) ⟨g, 0, none⟩ x.length lc (ints x) rfl (by simp [ints]) (HNX.out _ ((Below.refl _ _).alloc (Nat.le_refl _) _)) (ints_one x) (by unfold maxLen; omega) (by omega) (by simp) ?_; intro v3 w3 hown3 hgrow3 hnil3 hat3; obtain ⟨g3, c3, rfl⟩ := own_some hown3 hnil3; have HO3 : Hid (w3.ownsRow w2.heap.size 3 1 (.slice (some ⟨g3, 0, none⟩) x.length c3) x.length (ints x)) := own0 hown3; have hb3 : Below w2.heap.size w2 w3 := ((Below.refl w2.heap.size w2).alloc (Nat.le_refl _) (.cells #[] 3)).grown (row := some w2.heap.size) hgrow3 (by simp) (by simp); clear hnil3 hgrow3 hat3 hown3))
  · have hx0 : 0 < x.length := by omega
    have hC3 : Cur 91 w3 w.heap.size a bs cap := hC2.below hb3
    have D3 := onceS_any w.heap.size a bs cap 2 w3 hl (by omega) (by omega) hC3
    have hB3 := hB2.trans (hb3.mono hB2.size)
    have HX3 : Hid (Rd w3 (some ⟨g, 0, none⟩) x) := Rd.below (.inr ⟨g, 0, rfl, hgl, fun q hq => by simpa using HRX.out q hq⟩) hb3
    have hg3 := HO3.out.lt g3 rfl
    have hz2 := hB2.size
    obtain ⟨z0, hz0'⟩ : ∃ z0, z0 = x[0] := ⟨_, rfl⟩
    have he0 : (ints x)[0]? = some (.int .i64 z0) := by rw [hz0']; simp [ints, hx0]
    have hzd : dr5 z0 := by rw [hz0']; exact HXD.out _ (List.getElem_mem hx0)
    have hwz : IntKind.i64.wrap (z0 + 1) = z0 + 1 := by unfold dr5 at hzd; rw [IntKind.wrap_i64]; omega
    have hxi : (0 : Int) < (x.length : Int) := by omega
    clear HRX HNX hb3 hC2 hz0'
    go_wp2_with (go_at_call 45; refine D3.mono ?_; rintro e w4 ⟨b4, rfl, hC4, hg4⟩; have HX4 : Hid (Rd w4 (some ⟨g, 0, none⟩) x) := HX3.out.grownS hg4 (by omega); have HO4 : Hid (w4.ownsRow w2.heap.size 3 1 (.slice (some ⟨g3, 0, none⟩) x.length c3) x.length (ints x)) := World.ownsRow.kept HO3.out hg4 (.inr (by simp [Value.ownBlock]; omega)); have hB4 := hB3.trans (grown_below hg4 hB3.size (Nat.le_refl _)); have hy0 : w4.cell? ⟨g3, 0, none⟩ = some (.int .i64 z0) := (HO4.out.cellAt 0 (by omega)).trans he0; have hf0 : w4.frozen? ⟨g3, 0, none⟩ = false := HO4.out.frozenAt 0; clear D3 hg4)
    · have R := HO4.out.stored 0 (.int .i64 (z0 + 1))
      rw [show (ints x).set 0 (.int .i64 (z0 + 1)) = ints (x.set 0 (z0 + 1)) by simp [ints]] at R
      have HY7 : Hid ((w4.setCell ⟨g3, 0, none⟩ (.int .i64 (z0 + 1))).ownsRow w2.heap.size 3 1 (.slice (some ⟨g3, 0, none⟩) x.length c3) x.length (ints (x.set 0 (z0 + 1)))) := R.1
      have hC7 := hC4.grown R.2 (B := w2.heap.size) (by omega) hg3.1 (hbs.imp id fun h x hx => Nat.lt_of_lt_of_le (h x hx) hz2)
      have HX7 : Hid (Rd (w4.setCell ⟨g3, 0, none⟩ (.int .i64 (z0 + 1))) (some ⟨g, 0, none⟩) x) := HX4.out.grownS R.2 (by omega)
      have hB7 : Below w.heap.size w (w4.setCell ⟨g3, 0, none⟩ (.int .i64 (z0 + 1))) := hB4.trans (grown_below R.2 hB4.size (by omega))
      clear R
      have D4 := onceS_any w.heap.size a bs cap 4 (w4.setCell ⟨g3, 0, none⟩ (.int .i64 (z0 + 1))) hl (by omega) (by omega) hC7
      have hz7 := hB7.size
      have hgy := HY7.out.lt g3 rfl
      go_wp2_with (go_at_call 45; refine D4.mono ?_; rintro e w5 ⟨b5, rfl, hC5, hg5⟩; have HX5 : Hid (Rd w5 (some ⟨g, 0, none⟩) x) := HX7.out.grownS hg5 (by omega); have HY5 : Hid (w5.ownsRow w2.heap.size 3 1 (.slice (some ⟨g3, 0, none⟩) x.length c3) x.length (ints (x.set 0 (z0 + 1)))) := World.ownsRow.kept HY7.out hg5 (.inr (by simp [Value.ownBlock]; omega)); have hB5 := hB7.trans (grown_below hg5 hB7.size (Nat.le_refl _)); clear D4 hg5)
      · have D6 := drawList_any w.heap.size a bs cap w5 hl hC5 (hbs.imp id fun h x hx => Nat.lt_of_lt_of_le (h x hx) hB5.size)
        go_wp2_with (go_at_call 47; refine D6.mono ?_; rintro e w6 ⟨g6, l6, y6, rfl, hy5, hyd, hyo, hC6, hg6⟩; have HYO : Hid (w6.ownsRow w5.heap.size 3 1 (.slice (some ⟨g6, 0, none⟩) y6.length l6) y6.length (ints y6)) := hyo; have hB6 := hB5.trans (grown_below hg6 hB5.size (Nat.le_refl _)); have HX6 : Hid (Rd w6 (some ⟨g, 0, none⟩) x) := HX5.out.grownS hg6 (by omega); clear hyo hyd D6 hg6)
        exact bodyPost_ret (v := .tuple #[.slice (some ⟨g, 0, none⟩) x.length lc, .slice (some ⟨g6, 0, none⟩) y6.length l6]) (by simp [results, Try.results12, go_sem]) rfl ⟨g, lc, x, g6, l6, y6, rfl, hx5, hy5, HX6.out, own_rdS rfl HYO.out, hB6⟩
      · exact bodyPost_ret (v := .tuple #[.slice (some ⟨g, 0, none⟩) x.length lc, .slice (some ⟨g3, 0, none⟩) x.length c3]) (by simp [results, Try.results12, go_sem]) rfl ⟨g, lc, x, g3, c3, (x.set 0 (z0 + 1)), by simp, hx5, by simpa using hx5, HX5.out, own_rdS (by simp) HY5.out, hB5⟩

    · have HY4 : Hid (w4.ownsRow w2.heap.size 3 1 (.slice (some ⟨g3, 0, none⟩) x.length c3) x.length (ints x)) := HO4.out
      have D4 := onceS_any w.heap.size a bs cap 4 w4 hl (by omega) (by omega) hC4
      have hz4 := hB4.size
      have hgy := HY4.out.lt g3 rfl
      go_wp2_with (go_at_call 45; refine D4.mono ?_; rintro e w5 ⟨b5, rfl, hC5, hg5⟩; have HX5 : Hid (Rd w5 (some ⟨g, 0, none⟩) x) := HX4.out.grownS hg5 (by omega); have HY5 : Hid (w5.ownsRow w2.heap.size 3 1 (.slice (some ⟨g3, 0, none⟩) x.length c3) x.length (ints x)) := World.ownsRow.kept HY4.out hg5 (.inr (by simp [Value.ownBlock]; omega)); have hB5 := hB4.trans (grown_below hg5 hB4.size (Nat.le_refl _)); clear D4 hg5)
      · have D6 := drawList_any w.heap.size a bs cap w5 hl hC5 (hbs.imp id fun h x hx => Nat.lt_of_lt_of_le (h x hx) hB5.size)
        go_wp2_with (go_at_call 47; refine D6.mono ?_; rintro e w6 ⟨g6, l6, y6, rfl, hy5, hyd, hyo, hC6, hg6⟩; have HYO : Hid (w6.ownsRow w5.heap.size 3 1 (.slice (some ⟨g6, 0, none⟩) y6.length l6) y6.length (ints y6)) := hyo; have hB6 := hB5.trans (grown_below hg6 hB5.size (Nat.le_refl _)); have HX6 : Hid (Rd w6 (some ⟨g, 0, none⟩) x) := HX5.out.grownS hg6 (by omega); clear hyo hyd D6 hg6)
        exact bodyPost_ret (v := .tuple #[.slice (some ⟨g, 0, none⟩) x.length lc, .slice (some ⟨g6, 0, none⟩) y6.length l6]) (by simp [results, Try.results12, go_sem]) rfl ⟨g, lc, x, g6, l6, y6, rfl, hx5, hy5, HX6.out, own_rdS rfl HYO.out, hB6⟩
      · exact bodyPost_ret (v := .tuple #[.slice (some ⟨g, 0, none⟩) x.length lc, .slice (some ⟨g3, 0, none⟩) x.length c3]) (by simp [results, Try.results12, go_sem]) rfl ⟨g, lc, x, g3, c3, x, by simp, hx5, by simpa using hx5, HX5.out, own_rdS (by simp) HY5.out, hB5⟩

  · have hC3 : Cur 91 w3 w.heap.size a bs cap := hC2.below hb3
    have hB3 := hB2.trans (hb3.mono hB2.size)
    have HX3 : Hid (Rd w3 (some ⟨g, 0, none⟩) x) := Rd.below (.inr ⟨g, 0, rfl, hgl, fun q hq => by simpa using HRX.out q hq⟩) hb3
    have HY3 : Hid (w3.ownsRow w2.heap.size 3 1 (.slice (some ⟨g3, 0, none⟩) x.length c3) x.length (ints x)) := HO3.out
    have hg3 := HO3.out.lt g3 rfl
    have hz2 := hB2.size
    clear HRX HNX hb3 hC2 HO3
    have D4 := onceS_any w.heap.size a bs cap 4 w3 hl (by omega) (by omega) hC3
    have hz3 := hB3.size
    have hgy := HY3.out.lt g3 rfl
    go_wp2_with (go_at_call 45; refine D4.mono ?_; rintro e w5 ⟨b5, rfl, hC5, hg5⟩; have HX5 : Hid (Rd w5 (some ⟨g, 0, none⟩) x) := HX3.out.grownS hg5 (by omega); have HY5 : Hid (w5.ownsRow w2.heap.size 3 1 (.slice (some ⟨g3, 0, none⟩) x.length c3) x.length (ints x)) := World.ownsRow.kept HY3.out hg5 (.inr (by simp [Value.ownBlock]; omega)); have hB5 := hB3.trans (grown_below hg5 hB3.size (Nat.le_refl _)); clear D4 hg5)
    · have D6 := drawList_any w.heap.size a bs cap w5 hl hC5 (hbs.imp id fun h x hx => Nat.lt_of_lt_of_le (h x hx) hB5.size)
      go_wp2_with (go_at_call 47; refine D6.mono ?_; rintro e w6 ⟨g6, l6, y6, rfl, hy5, hyd, hyo, hC6, hg6⟩; have HYO : Hid (w6.ownsRow w5.heap.size 3 1 (.slice (some ⟨g6, 0, none⟩) y6.length l6) y6.length (ints y6)) := hyo; have hB6 := hB5.trans (grown_below hg6 hB5.size (Nat.le_refl _)); have HX6 : Hid (Rd w6 (some ⟨g, 0, none⟩) x) := HX5.out.grownS hg6 (by omega); clear hyo hyd D6 hg6)
      exact bodyPost_ret (v := .tuple #[.slice (some ⟨g, 0, none⟩) x.length lc, .slice (some ⟨g6, 0, none⟩) y6.length l6]) (by simp [results, Try.results12, go_sem]) rfl ⟨g, lc, x, g6, l6, y6, rfl, hx5, hy5, HX6.out, own_rdS rfl HYO.out, hB6⟩
    · exact bodyPost_ret (v := .tuple #[.slice (some ⟨g, 0, none⟩) x.length lc, .slice (some ⟨g3, 0, none⟩) x.length c3]) (by simp [results, Try.results12, go_sem]) rfl ⟨g, lc, x, g3, c3, x, by simp, hx5, by simpa using hx5, HX5.out, own_rdS (by simp) HY5.out, hB5⟩

set_option maxHeartbeats 3200000 in
theorem drawSum_any (a : Option Addr) (bs : List Int) (cap : Nat) (w : World) (hl : bs.length ≤ 1048576) (hr : ∀ c, w.heap.size ≤ c → RdB w c a bs) :
    Calls Try.prog 13 #[.slice a bs.length cap] w fun e w' => ∃ (g lc : Nat) (S : List (List Int)) (n : Int), e = .returned (.tuple #[.slice (some ⟨g, 0, none⟩) S.length lc, .int .i64 n]) ∧ S.length ≤ 3 ∧ (∀ r ∈ S, r.length ≤ 5) ∧ RdQ w' (some ⟨g, 0, none⟩) S ∧ Below w.heap.size w w' := by
  have H := new_any a bs _ cap w rfl hl hr
  have hbs := Rd_newS hr
  obtain ⟨i0, hi, hz0, hz1, hz2⟩ := info_parts Try.infoR
  clear hr
  go_enter Try.func13, Try.ntmps13
  go_wp2_with (go_at_call 38; refine H.mono ?_; rintro e w1 ⟨rfl, hC, hb⟩; clear H)
  have hclt := hC.lt
  have hbs1 : bs = [] ∨ ∀ x, a = some x → x.block < w1.heap.size := hbs.imp id fun h x hx => Nat.lt_of_lt_of_le (h x hx) hb.size
  go_loopw [5, 6] (fun v i wr => ∃ (S : List (List Int)) (g lc : Nat) (vs : List Value), S.length ≤ 3 ∧ i = .int .i64 S.length ∧ v = .slice (some ⟨g, 0, none⟩) S.length lc ∧ Hid (∀ r ∈ S, r.length ≤ 5) ∧ Hid (wr.ownsRow w1.heap.size 24 1 (.slice (some ⟨g, 0, none⟩) S.length lc) S.length vs) ∧ Hid (RowsV (fun x => w1.heap.size ≤ x ∧ x ≠ g) wr vs S) ∧ Cur 91 wr w.heap.size a bs cap ∧ w1.grownBy wr (some w.heap.size)) (fun _ i _ => 6 - (intOf i).toNat)
  case atStart => exact ⟨[], w1.heap.size, 0, [], by simp, rfl, rfl, fun z hz => by simp at hz, World.ownsRow_made w1 #[] 0 (Nat.le_refl _) (Nat.zero_le _) rfl, ⟨rfl, fun i h => by simp at h⟩, hC.below ((Below.refl _ _).alloc (Nat.le_refl _) _), grown_alloc ⟨rfl, rfl, rfl, Nat.le_refl _, fun _ _ _ => rfl⟩ _⟩
  case round =>
    obtain ⟨S, g, lc, vs, hS, rfl, rfl, HL, HO, HV, hC1, hg⟩ := hrel
    have D := below_any w.heap.size a bs cap 4 wr hl (by omega) (by omega) hC1
    have hgB := (HO.out.lt g rfl).1
    have hgl := (HO.out.lt g rfl).2
    have hws := hg.size
    have hne : g ≠ w.heap.size := by omega
    go_wp2_with (go_at_call 46; refine D.mono ?_; rintro e w2 ⟨k, rfl, hk, hC2, hg2⟩; clear D; have HO2 : Hid (w2.ownsRow w1.heap.size 24 1 (.slice (some ⟨g, 0, none⟩) S.length lc) S.length vs) := World.ownsRow.kept HO.out hg2 (.inr (by simp [Value.ownBlock, hne])); have HV2 : Hid (RowsV (fun x => w1.heap.size ≤ x ∧ x ≠ g) w2 vs S) := HV.out.grow (Stay.grown (S := fun x => x ≠ w.heap.size) hg2 (fun q e => by cases e; simp)) (fun x hx _ => by have := hx.1; omega) (fun x hx _ => hx); have hgr2 := grown_then hg hg2; have hz2' := hg2.size; clear HO HV hC1 hg hg2)
    · have hlt : (S.length : Int) < (k : Int) := by first | assumption | omega
      have hS2 : S.length ≤ 2 := by omega
      have hs2 := hgr2.size
      have DL := drawList_any w.heap.size a bs cap w2 hl hC2 (hbs1.imp id fun h x hx => Nat.lt_of_lt_of_le (h x hx) hs2)
      go_wp2_with (first
        | (go_at_call 47; refine DL.mono ?_; rintro e w3 ⟨g', l', o, rfl, ho5, hod, hoo, hC3, hg3⟩; clear DL; have HO3 : Hid (w3.ownsRow w1.heap.size 24 1 (.slice (some ⟨g, 0, none⟩) S.length lc) S.length vs) := World.ownsRow.kept HO2.out hg3 (.inr (by simp [Value.ownBlock, hne])); have HV3 : Hid (RowsV (fun x => w1.heap.size ≤ x ∧ x ≠ g) w3 vs S) := HV2.out.grow (Stay.grown (S := fun x => x ≠ w.heap.size) hg3 (fun q e => by cases e; simp)) (fun x hx _ => by have := hx.1; omega) (fun x hx _ => hx); have hgr3 := grown_then hgr2 hg3; have hz3' := hg3.size; have HOO : Hid (w3.ownsRow w2.heap.size 3 1 (.slice (some ⟨g', 0, none⟩) o.length l') o.length (ints o)) := hoo; clear HO2 HV2 hC2 hgr2 hg3 hod hoo)
        | (at_builtin; refine wpList_append_own_at _ rfl (.tmp 16) (.tmp 19) 27 rfl w1.heap.size 24 i0 (.slice none 0 0) 1 24 Try.underlying27 hi hz0 hz1 hz2 rfl (by decide) _ S.length vs rfl (HO3.out.alloc _) ⟨w3.heap.size, 0, none⟩ 1 1 [.slice (some ⟨g', 0, none⟩) o.length l'] rfl rfl (one_new _ _ _) (slice_one _ _ _) (by unfold maxLen; omega) (by omega) (by simp; omega) ?_; intro v9 w9 hown9 hgrow9 hnil9 hat9; obtain ⟨g9, c9, rfl⟩ := own_some hown9 hnil9; have hg9 := own_at hat9; have HO9 : Hid (w9.ownsRow w1.heap.size 24 1 (.slice (some ⟨g9, 0, none⟩) (S.length + 1) c9) (S.length + 1) (vs ++ [.slice (some ⟨g', 0, none⟩) o.length l'])) := hown9; have HS9 : Hid (Stay (fun x => x ≠ g) w3 w9) := two_stay (Below.refl _ _) hgrow9; have HG9 : Hid ((w3.alloc (.cells #[.slice (some ⟨g', 0, none⟩) o.length l'] 24)).grownBy w9 (some g)) := hgrow9; clear hnil9 hat9 hown9 hgrow9))
      have hs3 := hgr3.size
      have hol := HOO.out.lt g' rfl
      simp only [World.size_alloc] at hg9
      have R2 : Cur 91 w9 w.heap.size a bs cap := (hC3.below ((Below.refl _ _).alloc (Nat.le_refl _) _)).grown HG9.out hclt hgB hbs1
      have R3 : w1.grownBy w9 (some w.heap.size) := grown_own (grown_alloc hgr3 _) HG9.out hgB
      have R4 : Hid (∀ r ∈ S ++ [o], r.length ≤ 5) := fun r hr => by rcases List.mem_append.1 hr with h | h; exact HL.out r h; rw [List.mem_singleton.1 h]; exact ho5
      have R1 : Hid (w9.ownsRow w1.heap.size 24 1 (.slice (some ⟨g9, 0, none⟩) (S ++ [o]).length c9) (S ++ [o]).length (vs ++ [.slice (some ⟨g', 0, none⟩) o.length l'])) := by rw [List.length_append, List.length_singleton]; exact HO9.out
      have R5 : Hid (RowsV (fun x => w1.heap.size ≤ x ∧ x ≠ g9) w9 (vs ++ [.slice (some ⟨g', 0, none⟩) o.length l']) (S ++ [o])) := (HV3.out.grow HS9.out (fun x hx _ => hx.2) (fun x hx hxl => ⟨hx.1, by have := hx.2; omega⟩)).snoc ((own_rdi (S := fun x => x = g') rfl HOO.out rfl).grow HS9.out (fun x hx _ => by have h : x = g' := hx; omega) (fun x hx _ => by have h : x = g' := hx; exact ⟨by omega, by omega⟩))
      clear HO9 HS9 HG9 HOO HV3 HO3 hC3 hgr3 HL
      refine ⟨⟨S ++ [o], g9, c9, _, by simp; omega, by simp, by simp, R4, R1, R5, R2, R3⟩, by simp [intOf]; omega⟩
    · have hlt : ¬ (S.length : Int) < (k : Int) := by omega
      have D6 := below_any w.heap.size a bs cap 6 w2 hl (by omega) (by omega) hC2
      have hB2 : Below w.heap.size w w2 := hb.trans (grown_below hgr2 hb.size (Nat.le_refl _))
      go_wp2_with (go_at_call 46; refine D6.mono ?_; rintro e w3 ⟨k6, rfl, hk6, hC3, hg3⟩; clear D6; have HO3 : Hid (w3.ownsRow w1.heap.size 24 1 (.slice (some ⟨g, 0, none⟩) S.length lc) S.length vs) := World.ownsRow.kept HO2.out hg3 (.inr (by simp [Value.ownBlock, hne])); have HV3 : Hid (RowsV (fun x => w1.heap.size ≤ x ∧ x ≠ g) w3 vs S) := HV2.out.grow (Stay.grown (S := fun x => x ≠ w.heap.size) hg3 (fun q e => by cases e; simp)) (fun x hx _ => by have := hx.1; omega) (fun x hx _ => hx); have hB3 := hB2.trans (grown_below hg3 hB2.size (Nat.le_refl _)); clear HO2 HV2)
      exact bodyPost_ret (v := .tuple #[.slice (some ⟨g, 0, none⟩) S.length lc, .int .i64 ((k6 : Int) - 1)]) (by simp [results, Try.results13, go_sem]) rfl ⟨g, lc, S, (k6 : Int) - 1, rfl, hS, HL.out, (RowsV.rd (S' := fun _ => True) rfl HO3.out HV3.out trivial (fun _ _ => trivial)).rd, hB3⟩
end Go.Proofs.Ythbilahilmmfmaa

/- Whether counts solve, the specification's way; whether a list has one that is beneath, or the same; whether all is 0. Conditions: numbers between -1000 and 1000 where they are multiplied. -/
namespace Go.Proofs.Ythbilahilmmfmaa
set_option maxRecDepth 100000
open Go.RowKit

set_option maxHeartbeats 3200000 in
theorem specSolves_any (a0 a1 a2 : Option Addr) (a b x : List Int) (c0 c1 c2 : Nat) (w : World) (hra : Rd w a0 a) (hrb : Rd w a1 b) (hrx : Rd w a2 x) (ha5 : a.length ≤ 5) (hb5 : b.length ≤ 5) (hxl : x.length ≤ 1048577) (hsa : smallL a) (hsb : smallL b) (hsx : smallL x) :
    Calls Try.prog 15 #[.slice a0 a.length c0, .slice a1 b.length c1, .slice a2 x.length c2] w fun e w' => e = .returned (.bool (solvB a b x)) ∧ Below w.heap.size w w' := by
  have HRX : Hid (Rd w a2 x) := hrx
  have hB0 : Below w.heap.size w w := Below.refl _ _
  by_cases hl : x.length = a.length + b.length
  · have C1 := fun (W : World) (h : Below w.heap.size w W) => l7Total_any a0 a2 a x c0 c2 0 W (hra.below h) (hrx.below h) (by omega) hxl (by omega) hsa hsx
    have C2 := fun (W : World) (h : Below w.heap.size w W) => l7Total_any a1 a2 b x c1 c2 a.length W (hrb.below h) (hrx.below h) (by omega) hxl (by omega) hsb hsx
    have hli : ((x.length : Int) != (a.length : Int) + (b.length : Int)) = false := by simp; omega
    have HE : Hid (solvB a b x = (x.all (fun v => decide (0 ≤ v)) && decide (dotL a x = dotL b (x.drop a.length)))) := by show _ = _; unfold solvB; rw [decide_eq_true hl, Bool.true_and]
    rw [List.drop_zero] at C1
    generalize dotL b (x.drop a.length) = B at C2 HE
    generalize dotL a x = A at C1 HE
    have hx5 : x.length ≤ 10 := by omega
    clear hra hrb hrx hl hsa hsb hsx
    go_enter Try.func15, Try.ntmps15
    go_wp2_with fail
    go_loop [7] (fun i => ∃ k : Nat, k ≤ x.length ∧ i = .int .i64 k ∧ Hid ((x.take k).all (fun v => decide (0 ≤ v)) = true)) (fun i => x.length - (intOf i).toNat)
    case atStart => exact ⟨0, Nat.zero_le _, rfl, rfl⟩
    case round =>
      obtain ⟨k, hk, rfl, HA⟩ := hrel
      by_cases hk' : k < x.length
      · obtain ⟨b', off', rfl, _, c2'⟩ := Rd.get HRX.out hk'
        have hki : (k : Int) < (x.length : Int) := by omega
        have hki0 : (0 : Int) ≤ (k : Int) := by omega
        have HE1 : Hid ((x.take (k + 1)).all (fun v => decide (0 ≤ v)) = decide (0 ≤ x[k])) := by show _ = _; rw [take_snoc hk', List.all_append, HA.out]; simp
        have HF : Hid (x[k] < 0 → x.all (fun v => decide (0 ≤ v)) = false) := fun h => List.all_eq_false.2 ⟨x[k], List.getElem_mem hk', by simp; omega⟩
        generalize x[k] = p at c2' HE1 HF
        by_cases h1 : p < 0
        · have e : Hid (x.all (fun v => decide (0 ≤ v)) = false) := HF.out h1
          clear HF HE1
          go_wp2_with fail
          go_ret
          exact ⟨rtB (by rw [HE.out, e.out]; rfl), Below.refl _ _⟩
        · have e : Hid ((x.take (k + 1)).all (fun v => decide (0 ≤ v)) = true) := HE1.out.trans (by simp; omega)
          clear HF HE1
          go_wp2_with fail
          go_round
          case rel => exact ⟨k + 1, by omega, by go_num, e⟩
          case measure => simp [intOf]; omega
      · have e0 : x.take k = x := List.take_of_length_le (by omega)
        have HX : Hid (x.all (fun v => decide (0 ≤ v)) = true) := by have := HA.out; rwa [e0] at this
        clear HA e0
        have hki : ¬ (k : Int) < (x.length : Int) := by omega
        go_wp2_with (first
          | (go_at_call_of 49 a0; refine (C1 w hB0).mono ?_; rintro e w1 ⟨rfl, q1, rfl⟩; have hB1 := below_drewN (Below.refl w.heap.size w) q1; clear C1)
          | (go_at_call_of 49 a1; refine (C2 _ hB1).mono ?_; rintro e w2 ⟨rfl, q2, rfl⟩; have hB2 : Below w.heap.size w ((w.drewN q1).drewN q2) := hB1.trans (below_drewN (Below.refl _ _) q2); clear C2))
        go_ret
        exact ⟨rtB (by rw [HE.out, HX.out, Bool.true_and]; first | rfl | exact (beq_eq_decide _ _) | (simp)), by first | exact hB2 | exact below_drewN (Below.refl _ _) _⟩
  · have hli : ((x.length : Int) != (a.length : Int) + (b.length : Int)) = true := by simp; omega
    have hE : Hid (solvB a b x = false) := by show _ = _; unfold solvB; rw [decide_eq_false hl, Bool.false_and]
    clear hra hrb hrx
    go_enter Try.func15, Try.ntmps15
    go_wp2_with fail
    go_ret
    exact ⟨rtB hE.out.symm, Below.refl _ _⟩

set_option maxHeartbeats 1600000 in
theorem zero_any (a0 : Option Addr) (x : List Int) (c0 : Nat) (w : World) (hr : Rd w a0 x) (hl : x.length ≤ 1048577) :
    Calls Try.prog 23 #[.slice a0 x.length c0] w fun e w' => e = .returned (.bool (zB x)) ∧ w' = w := by
  have HRX : Hid (Rd w a0 x) := hr
  clear hr
  go_enter Try.func23, Try.ntmps23
  go_wp2_with fail
  go_loop [3] (fun i => ∃ k : Nat, k ≤ x.length ∧ i = .int .i64 k ∧ Hid ((x.take k).all (fun v => v == 0) = true)) (fun i => x.length - (intOf i).toNat)
  case atStart => exact ⟨0, Nat.zero_le _, rfl, rfl⟩
  case round =>
    obtain ⟨k, hk, rfl, HA⟩ := hrel
    by_cases hk' : k < x.length
    · obtain ⟨b', off', rfl, _, c2'⟩ := Rd.get HRX.out hk'
      have hki : (k : Int) < (x.length : Int) := by omega
      have hki0 : (0 : Int) ≤ (k : Int) := by omega
      have HE1 : Hid ((x.take (k + 1)).all (fun v => v == 0) = (x[k] == 0)) := by show _ = _; rw [take_snoc hk', List.all_append, HA.out]; simp
      have HF : Hid (x[k] ≠ 0 → zB x = false) := fun h => by unfold zB; exact List.all_eq_false.2 ⟨x[k], List.getElem_mem hk', by simpa using h⟩
      generalize x[k] = p at c2' HE1 HF
      by_cases h1 : p = 0
      · subst h1
        have e : Hid ((x.take (k + 1)).all (fun v => v == 0) = true) := HE1.out.trans rfl
        clear HF HE1
        go_wp2_with fail
        go_round
        case rel => exact ⟨k + 1, by omega, by go_num, e⟩
        case measure => simp [intOf]; omega
      · have e : Hid (zB x = false) := HF.out h1
        have hb : (p != 0) = true := by simpa using h1
        clear HF HE1
        go_wp2_with fail
        go_ret
        exact ⟨rtB e.out.symm, rfl⟩
    · have e0 : x.take k = x := List.take_of_length_le (by omega)
      have HX : Hid (zB x = true) := by have := HA.out; rwa [e0] at this
      clear HA e0
      have hki : ¬ (k : Int) < (x.length : Int) := by omega
      go_wp2_with fail
      go_ret
      exact ⟨rtB HX.out.symm, rfl⟩

def benE (R : List (List Int)) (x : List Int) : Bool := R.any (fun r => eqB r x || leastB r x)
set_option maxHeartbeats 1600000 in
theorem beneath_any (la a1 : Option Addr) (R : List (List Int)) (x : List Int) (c0 c1 : Nat) (w : World) (hq : RdQ w la R) (hr : Rd w a1 x) (hl : R.length ≤ 1048577) (hl2 : ∀ r ∈ R, r.length ≤ 1048577) (hx : x.length ≤ 1048577) :
    Calls Try.prog 22 #[.slice la R.length c0, .slice a1 x.length c1] w fun e w' => e = .returned (.bool (benE R x)) ∧ ∃ q, w' = w.drewN q := by
  have HQ : Hid (RdQ w la R) := hq
  have HR : Hid (Rd w a1 x) := hr
  clear hq hr
  go_enter Try.func22, Try.ntmps22
  go_wp2_with fail
  go_loopw [5] (fun i wr => ∃ k q : Nat, k ≤ R.length ∧ i = .int .i64 k ∧ wr = w.drewN q ∧ Hid (benE (R.take k) x = false)) (fun i _ => R.length - (intOf i).toNat)
  case atStart => exact ⟨0, 0, Nat.zero_le _, rfl, rfl, rfl⟩
  case round =>
    obtain ⟨k, q, hk, rfl, rfl, HA⟩ := hrel
    by_cases hk' : k < R.length
    · have hb := below_drewN (Below.refl w.heap.size w) q
      obtain ⟨b, off, ai, ci, rfl, c0', hrd⟩ := RdQ.get HQ.out hk'
      have hki : (k : Int) < (R.length : Int) := by omega
      have hki0 : (0 : Int) ≤ (k : Int) := by omega
      have hrl := hl2 R[k] (List.getElem_mem hk')
      have C1 := sameInts_any ai a1 R[k] x R[k].length ci x.length c1 (w.drewN q) rfl rfl (hrd.below hb) (HR.out.below hb) hrl hx
      have C2 := fun (n : Nat) => specLeast_any ai a1 R[k] x R[k].length ci x.length c1 (w.drewN n) rfl rfl (hrd.below (below_drewN (Below.refl _ _) n)) (HR.out.below (below_drewN (Below.refl _ _) n)) hrl hx
      have HE : Hid (benE (R.take (k + 1)) x = (eqB R[k] x || leastB R[k] x)) := by
        show _ = _
        have h0 := HA.out
        unfold benE at h0 ⊢
        rw [List.take_succ_eq_append_getElem hk', List.any_append, h0]; simp
      have HT : Hid ((eqB R[k] x || leastB R[k] x) = true → benE R x = true) := fun h => List.any_eq_true.2 ⟨R[k], List.getElem_mem hk', h⟩
      generalize eqB R[k] x = b1 at C1 HE HT
      generalize leastB R[k] x = b2 at C2 HE HT
      generalize R[k].length = m at c0' C1 C2
      clear hrd HA
      cases b1
      · cases b2
        · go_wp2_with (first
            | (go_at_call 18; refine C1.mono ?_; rintro e w1 ⟨rfl, q1, rfl⟩; clear C1)
            | (go_at_call 17; refine (C2 _).mono ?_; rintro e w2 ⟨rfl, q2, rfl⟩; clear C2))
          go_roundw
          case rel => exact ⟨k + 1, q + q1 + q2, by omega, by go_num, by first | rfl | (simp [World.drewN]; omega), HE⟩
          case measure => simp [intOf]; omega
        · go_wp2_with (first
            | (go_at_call 18; refine C1.mono ?_; rintro e w1 ⟨rfl, q1, rfl⟩; clear C1)
            | (go_at_call 17; refine (C2 _).mono ?_; rintro e w2 ⟨rfl, q2, rfl⟩; clear C2))
          go_ret
          exact ⟨rtB (HT.out rfl).symm, q + q1 + q2, by first | rfl | (simp [World.drewN]; omega)⟩
      · go_wp2_with (go_at_call 18; refine C1.mono ?_; rintro e w1 ⟨rfl, q1, rfl⟩; clear C1)
        go_ret
        exact ⟨rtB (HT.out rfl).symm, q + q1, by first | rfl | (simp [World.drewN]; omega)⟩
    · have e0 : R.take k = R := List.take_of_length_le (by omega)
      have HX : Hid (benE R x = false) := by have := HA.out; rwa [e0] at this
      clear HA e0
      have hki : ¬ (k : Int) < (R.length : Int) := by omega
      go_wp2_with fail
      go_ret
      exact ⟨rtB HX.out.symm, q, rfl⟩
end Go.Proofs.Ythbilahilmmfmaa

/- What DrawSolves draws: two sides, and a way of their basis, or a drawn list. Conditions: the code has at most 1048576 bytes. -/
namespace Go.Proofs.Ythbilahilmmfmaa
set_option maxRecDepth 100000
open Go.RowKit

theorem basP_nil {a b : List Int} (h : (basP a b).2 = false) : (basP a b).1 = [] := by
  unfold basP at h ⊢
  split at h
  · split at h
    · rename_i h1 h2; rw [if_pos h1, if_pos h2]
    · cases h
  · rename_i h1; rw [if_neg h1]
theorem basP_rows (a b : List Int) : ∀ r ∈ (basP a b).1, r.length ≤ 10 ∧ smallL r := by
  cases hu : (basP a b).2 with
  | false => rw [basP_nil hu]; intro r hr; simp at hr
  | true =>
    obtain ⟨h1, h2, h3⟩ := basP_ok hu
    intro r hr
    obtain ⟨q1, q2, q3⟩ := h3 r hr
    exact ⟨by omega, fun v hv => by have := q2 v hv; omega⟩
theorem basP_len (a b : List Int) : (basP a b).1.length ≤ 60 := by
  cases hu : (basP a b).2 with
  | false => rw [basP_nil hu]; simp
  | true => exact (basP_ok hu).2.1
theorem own_capS {w : World} {base g n c : Nat} {e : TypeId} {size : Nat} {xs : List Value} (h : w.ownsRow base e size (.slice (some ⟨g, 0, none⟩) n c) n xs) : n ≤ c := by
  rcases h.2 with ⟨h, _⟩ | ⟨g', cap, cur, e', _, _, h1, _⟩
  · simp at h
  · cases e'; exact h1
theorem Rd.lowS {w w' : World} {g B : Nat} {zs : List Int} (h : Rd w (some ⟨g, 0, none⟩) zs) (hg : g < B) (hb : Below B w w') : Rd w' (some ⟨g, 0, none⟩) zs := by
  rcases h with h | ⟨b, off, e, hlt, hc⟩
  · exact .inl h
  · cases e
    exact .inr ⟨g, 0, rfl, Nat.lt_of_lt_of_le hlt hb.size, fun i hi => (hb.cell (p := ⟨g, 0 + i, none⟩) hg).trans (hc i hi)⟩
set_option maxHeartbeats 6400000 in
theorem drawSolves_any (a : Option Addr) (bs : List Int) (cap : Nat) (w : World) (hl : bs.length ≤ 1048576) (hr : ∀ c, w.heap.size ≤ c → RdB w c a bs) :
    Calls Try.prog 11 #[.slice a bs.length cap] w fun e w' => ∃ (g1 k1 : Nat) (xs : List Int) (g2 k2 : Nat) (ys : List Int) (g3 k3 : Nat) (zs : List Int), e = .returned (.tuple #[.slice (some ⟨g1, 0, none⟩) xs.length k1, .slice (some ⟨g2, 0, none⟩) ys.length k2, .slice (some ⟨g3, 0, none⟩) zs.length k3]) ∧ (1 ≤ xs.length ∧ xs.length ≤ 4 ∧ ∀ z ∈ xs, dr5 z) ∧ (1 ≤ ys.length ∧ ys.length ≤ 4 ∧ ∀ z ∈ ys, dr5 z) ∧ (zs.length ≤ 10 ∧ smallL zs ∧ zs.length ≤ k3) ∧ Rd w' (some ⟨g1, 0, none⟩) xs ∧ Rd w' (some ⟨g2, 0, none⟩) ys ∧ Rd w' (some ⟨g3, 0, none⟩) zs ∧ Below w.heap.size w w' := by
  have H := new_any a bs _ cap w rfl hl hr
  have hbs := Rd_newS hr
  obtain ⟨i0, hi, hz0, hz1, hz2⟩ := info_parts Try.info3
  clear hr
  go_enter Try.func11, Try.ntmps11
  go_wp2_with (go_at_call 38; refine H.mono ?_; rintro e w1 ⟨rfl, hC1, hB1⟩; clear H)
  have D1 := drawSide_any w.heap.size a bs cap w1 hl hC1 (hbs.imp id fun h x hx => Nat.lt_of_lt_of_le (h x hx) hB1.size)
  have hcl := hC1.lt
  have hz1' := hB1.size
  go_wp2_with (go_at_call 39; refine D1.mono ?_; rintro e w2 ⟨g1, k1, xs, rfl, hx1, hx4, hxd, hxo, hC2, hg2⟩; clear D1)
  have hB2 : Below w.heap.size w w2 := hB1.trans (grown_below hg2 hB1.size (Nat.le_refl _))
  have HX2 : Hid (Rd w2 (some ⟨g1, 0, none⟩) xs) := own_rdS rfl hxo
  have hgx := hxo.lt g1 rfl
  have HXD : Hid (∀ z ∈ xs, dr5 z) := hxd
  have hz2' := hg2.size
  clear hxo hxd hg2
  have D2 := drawSide_any w.heap.size a bs cap w2 hl hC2 (hbs.imp id fun h x hx => Nat.lt_of_lt_of_le (h x hx) hB2.size)
  go_wp2_with (go_at_call 39; refine D2.mono ?_; rintro e w3 ⟨g2, k2, ys, rfl, hy1, hy4, hyd, hyo, hC3, hg3⟩; clear D2)
  have hB3 : Below w.heap.size w w3 := hB2.trans (grown_below hg3 hB2.size (Nat.le_refl _))
  have HX3 : Hid (Rd w3 (some ⟨g1, 0, none⟩) xs) := HX2.out.grownS hg3 (by omega)
  have HY3 : Hid (Rd w3 (some ⟨g2, 0, none⟩) ys) := own_rdS rfl hyo
  have hgy := hyo.lt g2 rfl
  have HYD : Hid (∀ z ∈ ys, dr5 z) := hyd
  have hz3' := hg3.size
  clear hyo hyd hg3 HX2 hC1 hC2
  have CB := specBasis_own (some ⟨g1, 0, none⟩) (some ⟨g2, 0, none⟩) xs ys k1 k2 w3 HX3.out HY3.out (by omega) (by omega)
  have HR : Hid (∀ r ∈ (basP xs ys).1, r.length ≤ 10 ∧ smallL r) := basP_rows xs ys
  have hRL : (basP xs ys).1.length ≤ 60 := basP_len xs ys
  generalize basP xs ys = PR at CB HR hRL
  obtain ⟨R, u⟩ := PR
  simp only at CB hRL
  have HR2 : Hid (∀ r ∈ R, r.length ≤ 10 ∧ smallL r) := HR.out
  clear HR
  by_cases hR : R.length = 0
  · have hRi : ¬ (0 : Int) < (R.length : Int) := by omega
    go_wp2_with (go_at_call 10; refine CB.mono ?_; rintro e w4 ⟨aW, cW, rfl, hQ, hb4⟩; have HX4 : Hid (Rd w4 (some ⟨g1, 0, none⟩) xs) := HX3.out.below hb4; have HY4 : Hid (Rd w4 (some ⟨g2, 0, none⟩) ys) := HY3.out.below hb4; have hB4 := hB3.trans (hb4.mono hB3.size); have hC4 := hC3.below hb4; clear CB hb4 hQ)
    have D7 := drawList_any w.heap.size a bs cap w4 hl hC4 (hbs.imp id fun h x hx => Nat.lt_of_lt_of_le (h x hx) hB4.size)
    have hz4 := hB4.size
    go_wp2_with (go_at_call 47; refine D7.mono ?_; rintro e w7 ⟨g7, c7, zs, rfl, hz5, hzd, hzo, hC7, hg7⟩; have hcz := own_capS hzo; have HZ7 : Hid (Rd w7 (some ⟨g7, 0, none⟩) zs) := own_rdS rfl hzo; have HZD : Hid (smallL zs) := (fun v hv => by have := hzd v hv; unfold dr5 at this; omega); have HX7 : Hid (Rd w7 (some ⟨g1, 0, none⟩) xs) := HX4.out.grownS hg7 (by omega); have HY7 : Hid (Rd w7 (some ⟨g2, 0, none⟩) ys) := HY4.out.grownS hg7 (by omega); have hB7 := hB4.trans (grown_below hg7 hB4.size (Nat.le_refl _)); clear D7 hg7 hzo hzd)
    exact bodyPost_ret (v := .tuple #[.slice (some ⟨g1, 0, none⟩) xs.length k1, .slice (some ⟨g2, 0, none⟩) ys.length k2, .slice (some ⟨g7, 0, none⟩) zs.length c7]) (by simp [results, Try.results11, go_sem]) rfl ⟨g1, k1, xs, g2, k2, ys, g7, c7, zs, rfl, ⟨hx1, hx4, HXD.out⟩, ⟨hy1, hy4, HYD.out⟩, ⟨by omega, HZD.out, hcz⟩, HX7.out, HY7.out, HZ7.out, hB7⟩
  · have hRi : (0 : Int) < (R.length : Int) := by omega
    go_wp2_with (first
      | (go_at_call 10; refine CB.mono ?_; rintro e w4 ⟨aW, cW, rfl, hQ, hb4⟩; have HX4 : Hid (Rd w4 (some ⟨g1, 0, none⟩) xs) := HX3.out.below hb4; have HY4 : Hid (Rd w4 (some ⟨g2, 0, none⟩) ys) := HY3.out.below hb4; have hB4 := hB3.trans (hb4.mono hB3.size); have hC4 := hC3.below hb4; have HQ4 : Hid (RdQI (fun x => w3.heap.size ≤ x) w4 aW R) := hQ.resolve_left (fun e => hR (by rw [e]; rfl)); have hz4' := hb4.size; have hz4 := hB4.size; have D5 := onceS_any w.heap.size a bs cap 3 w4 hl (by omega) (by omega) hC4; clear CB hb4 hQ)
      | (go_at_call 45; refine D5.mono ?_; rintro e w5 ⟨b5, rfl, hC5, hg5⟩; have HX5 : Hid (Rd w5 (some ⟨g1, 0, none⟩) xs) := HX4.out.grownS hg5 (by omega); have HY5 : Hid (Rd w5 (some ⟨g2, 0, none⟩) ys) := HY4.out.grownS hg5 (by omega); have hB5 := hB4.trans (grown_below hg5 hB4.size (Nat.le_refl _)); have HQ5 : Hid (RdQI (fun x => w3.heap.size ≤ x) w5 aW R) := HQ4.out.grow (Stay.grown (S := fun x => x ≠ w.heap.size) hg5 (fun q e => by cases e; simp)) (fun x hx _ => by have h : w3.heap.size ≤ x := hx; omega) (fun x hx _ => hx); have hz5' := hg5.size; clear D5 hg5 HQ4 HX4 HY4))
    · have D6 := below_any w.heap.size a bs cap (R.length : Int) (w5.alloc (.cells #[] 3)) hl (by omega) (by omega) (hC5.below ((Below.refl _ _).alloc (Nat.le_refl _) _))
      have hz5 := hB5.size
      go_wp2_with (first
        | (go_at_call 46; refine D6.mono ?_; rintro e w6 ⟨k, rfl, hk, hC6, hg6⟩; have hz6' := hg6.size; simp only [World.size_alloc] at hz6'; have HM6 : Hid (w6.ownsRow w5.heap.size 3 1 (.slice (some ⟨w5.heap.size, 0, none⟩) 0 0) 0 []) := World.ownsRow.kept (World.ownsRow_made w5 #[] 0 (Nat.le_refl _) (Nat.zero_le _) rfl) hg6 (.inr (by simp [Value.ownBlock]; omega)); have HX6 : Hid (Rd w6 (some ⟨g1, 0, none⟩) xs) := (HX5.out.below ((Below.refl _ _).alloc (Nat.le_refl _) _)).grownS hg6 (by omega); have HY6 : Hid (Rd w6 (some ⟨g2, 0, none⟩) ys) := (HY5.out.below ((Below.refl _ _).alloc (Nat.le_refl _) _)).grownS hg6 (by omega); have hB6 := (hB5.alloc hB5.size (.cells #[] 3)).trans (grown_below hg6 (hB5.alloc hB5.size _).size (Nat.le_refl _)); have hQ6 : RdQI (fun x => w3.heap.size ≤ x) w6 aW R := (HQ5.out.grow (Stay.alloc (fun _ => True) _ _) (fun _ _ _ => trivial) (fun x hx _ => hx)).grow (Stay.grown (S := fun x => x ≠ w.heap.size) hg6 (fun q e => by cases e; simp)) (fun x hx _ => by have h : w3.heap.size ≤ x := hx; omega) (fun x hx _ => hx); obtain ⟨b, off, rfl, _, hbl, hrows⟩ := hQ6; have hk' : k < R.length := (by omega); obtain ⟨ai, ci, hcell, hri⟩ := hrows k hk'; obtain ⟨b2, o2, rfl, hs2, hb2l, hcells⟩ := hri; have HRK : Hid (R[k].length ≤ 10 ∧ smallL R[k]) := HR2.out R[k] (List.getElem_mem hk'); generalize R[k] = row at hcell hcells HRK; have HNX : Hid (∀ q u, (ints row)[q]? = some u → w6.cell? ((⟨b2, o2, none⟩ : Addr).add q) = some u) := news_of hcells; have hrow := HRK.out.1; have hki : (k : Int) < (R.length : Int) := (by omega); have hki0 : (0 : Int) ≤ (k : Int) := (by omega); clear D6 hg6 HQ5 hrows hcells hs2 HR2 HX5 HY5)
        | (at_builtin; refine wpList_append_own_at _ rfl (.tmp 32) (.tmp 39) 24 rfl w5.heap.size 3 i0 (.int .i64 0) 1 8 Try.underlying24 hi hz0 hz1 hz2 rfl (by decide) _ 0 _ rfl HM6.out ⟨b2, o2, none⟩ row.length ci (ints row) rfl (by simp [ints]) HNX.out (ints_one row) (by unfold maxLen; omega) (by omega) (by omega) ?_; intro v9 w9 hown9 hgrow9 hnil9 hat9; obtain ⟨g9, c9, rfl⟩ := own_some hown9 hnil9; have HO9 : Hid (w9.ownsRow w5.heap.size 3 1 (.slice (some ⟨g9, 0, none⟩) row.length c9) row.length (ints row)) := own0 hown9; have hb9 : Below w5.heap.size w6 w9 := (Below.refl w5.heap.size w6).grown (row := some w5.heap.size) hgrow9 (by omega) (by simp); clear hnil9 hgrow9 hat9 hown9))
      have HX9 : Hid (Rd w9 (some ⟨g1, 0, none⟩) xs) := HX6.out.lowS (by omega) hb9
      have HY9 : Hid (Rd w9 (some ⟨g2, 0, none⟩) ys) := HY6.out.lowS (by omega) hb9
      have HZ9 : Hid (Rd w9 (some ⟨g9, 0, none⟩) row) := own_rdS rfl HO9.out
      have hB9 : Below w.heap.size w w9 := hB6.trans (hb9.mono hz5)
      have hcz := own_capS HO9.out
      exact bodyPost_ret (v := .tuple #[.slice (some ⟨g1, 0, none⟩) xs.length k1, .slice (some ⟨g2, 0, none⟩) ys.length k2, .slice (some ⟨g9, 0, none⟩) row.length c9]) (by simp [results, Try.results11, go_sem]) rfl ⟨g1, k1, xs, g2, k2, ys, g9, c9, row, rfl, ⟨hx1, hx4, HXD.out⟩, ⟨hy1, hy4, HYD.out⟩, ⟨hrow, HRK.out.2, hcz⟩, HX9.out, HY9.out, HZ9.out, hB9⟩
    · have hz5 := hB5.size
      have D7 := drawList_any w.heap.size a bs cap w5 hl hC5 (hbs.imp id fun h x hx => Nat.lt_of_lt_of_le (h x hx) hB5.size)
      have hz5 := hB5.size
      go_wp2_with (go_at_call 47; refine D7.mono ?_; rintro e w7 ⟨g7, c7, zs, rfl, hz5, hzd, hzo, hC7, hg7⟩; have hcz := own_capS hzo; have HZ7 : Hid (Rd w7 (some ⟨g7, 0, none⟩) zs) := own_rdS rfl hzo; have HZD : Hid (smallL zs) := (fun v hv => by have := hzd v hv; unfold dr5 at this; omega); have HX7 : Hid (Rd w7 (some ⟨g1, 0, none⟩) xs) := HX5.out.grownS hg7 (by omega); have HY7 : Hid (Rd w7 (some ⟨g2, 0, none⟩) ys) := HY5.out.grownS hg7 (by omega); have hB7 := hB5.trans (grown_below hg7 hB5.size (Nat.le_refl _)); clear D7 hg7 hzo hzd)
      exact bodyPost_ret (v := .tuple #[.slice (some ⟨g1, 0, none⟩) xs.length k1, .slice (some ⟨g2, 0, none⟩) ys.length k2, .slice (some ⟨g7, 0, none⟩) zs.length c7]) (by simp [results, Try.results11, go_sem]) rfl ⟨g1, k1, xs, g2, k2, ys, g7, c7, zs, rfl, ⟨hx1, hx4, HXD.out⟩, ⟨hy1, hy4, HYD.out⟩, ⟨by omega, HZD.out, hcz⟩, HX7.out, HY7.out, HZ7.out, hB7⟩
end Go.Proofs.Ythbilahilmmfmaa

/- Rows of numbers marked and held against their marks, each in a block of its own. Conditions: at most 1048577 rows and numbers together. -/
namespace Go.Proofs.Ythbilahilmmfmaa
set_option maxRecDepth 100000
open Go.RowKit

set_option maxHeartbeats 1600000 in
theorem mark_own (base g : Nat) (zs : List Int) (k : Int) (n cap : Nat) (w : World) (hn : n = zs.length) (hown : w.ownsRow base 3 1 (.slice (some ⟨g, 0, none⟩) n cap) n (ints zs)) (hl : n ≤ 1048577) (hk1 : 0 ≤ k) (hk2 : k ≤ 4000000000000) :
    Calls Try.prog 35 #[.slice (some ⟨g, 0, none⟩) n cap, .int .i64 k] w fun e w' => e = .returned (.int .i64 (k + n)) ∧ w'.ownsRow base 3 1 (.slice (some ⟨g, 0, none⟩) n cap) n (ints (upFrom k n)) ∧ w.grownBy w' (some g) := by
  subst hn
  go_enter Try.func35, Try.ntmps35
  go_wp2
  go_loopw [1, 5] (fun t i wr => ∃ j : Nat, j ≤ zs.length ∧ i = .int .i64 j ∧ t = .int .i64 (k + (j : Int)) ∧ wr.ownsRow base 3 1 (.slice (some ⟨g, 0, none⟩) zs.length cap) zs.length (ints (upFrom k j) ++ (ints zs).drop j) ∧ w.grownBy wr (some g)) (fun _ i _ => zs.length - (intOf i).toNat)
  case atStart => exact ⟨0, Nat.zero_le _, rfl, by simp, hown, ⟨rfl, rfl, rfl, Nat.le_refl _, fun _ _ _ => rfl⟩⟩
  case round =>
    obtain ⟨j, hj, rfl, rfl, hown', hg⟩ := hrel
    clear hown
    by_cases hj' : j < zs.length
    · obtain ⟨u, hu⟩ := mark_at (k := k) hj'
      have hfz := hown'.frozenAt j
      have hce : wr.cell? ⟨g, j, none⟩ = some (.int .i64 u) := (hown'.cellAt j (by omega)).trans hu
      have R := hown'.stored j (.int .i64 (k + (j : Int)))
      rw [mark_step hj'] at R
      obtain ⟨R1, R2⟩ := R
      have R3 := grown_trans hg R2
      clear hown' hg R2 hu
      go_wp2
      go_roundw
      case rel => exact ⟨j + 1, by omega, by go_num, by go_num, R1, R3⟩
      case measure => simp [intOf]; omega
    · have e : j = zs.length := by omega
      subst e
      have e2 : (ints zs).drop zs.length = [] := List.drop_of_length_le (by simp [ints])
      rw [e2, List.append_nil] at hown'
      have HW : Hid (wr.ownsRow base 3 1 (.slice (some ⟨g, 0, none⟩) zs.length cap) zs.length (ints (upFrom k zs.length))) := hown'
      clear hown' e2
      go_wp2
      go_ret
      exact ⟨rtI (by omega), HW.out, hg⟩

set_option maxHeartbeats 1600000 in
theorem held_far (a : Option Addr) (k : Int) (n cap : Nat) (w : World) (hr : Rd w a (upFrom k n)) (hl : n ≤ 1048577) (hk1 : 0 ≤ k) (hk2 : k ≤ 4000000000000) :
    Calls Try.prog 67 #[.slice a n cap, .int .i64 k] w fun e w' => e = .returned (.int .i64 (k + n)) ∧ w' = w := by
  rcases hr with h | ⟨b, off, rfl, hlt, hc⟩
  · have hn : n = 0 := by have := upFrom_len k n; rw [h] at this; simpa using this.symm
    subst hn
    clear h
    go_enter Try.func67, Try.ntmps67
    go_wp2
    refine wp_loop_rounds 1 ?_
    rw [rounds_succ]
    go_wp2
    go_ret
    exact ⟨rtI (by omega), rfl⟩
  · have hc2 : ∀ i, i < n → w.cell? ⟨b, off + i, none⟩ = some (.int .i64 (k + (i : Int))) := by
      intro i hi
      rw [hc i (by rw [upFrom_len]; exact hi), upFrom_at k n i hi]; rfl
    clear hc
    go_enter Try.func67, Try.ntmps67
    go_wp2
    go_loop [1, 5] (fun t i => ∃ j : Nat, j ≤ n ∧ i = .int .i64 j ∧ t = .int .i64 (k + (j : Int))) (fun _ i => n - (intOf i).toNat)
    case atStart => exact ⟨0, Nat.zero_le _, rfl, by simp⟩
    case round =>
      obtain ⟨j, hj, rfl, rfl⟩ := hrel
      by_cases hj' : j < n
      · have hcj := hc2 j hj'
        clear hc2
        go_wp2
        go_round
        case rel => exact ⟨j + 1, by omega, by go_num, by go_num⟩
        case measure => simp [intOf]; omega
      · go_wp2
        go_ret
        exact ⟨rtI (by omega), rfl⟩

theorem cellsG_get {gs : List (Nat × Nat)} {rows : List (List Int)} {i : Nat} (h : i < gs.length) (h' : i < rows.length) : (cellsG gs rows)[i]? = some (.slice (some ⟨gs[i].1, 0, none⟩) rows[i].length gs[i].2) := by
  unfold cellsG
  rw [List.getElem?_zipWith, List.getElem?_eq_getElem h, List.getElem?_eq_getElem h']
theorem sumQ_le {rows : List (List Int)} (j : Nat) : sumQ (rows.take j) ≤ sumQ rows := by
  have e : sumQ rows = sumQ (rows.take j) + sumQ (rows.drop j) := by
    conv => lhs; rw [← List.take_append_drop j rows]
    unfold sumQ
    rw [List.map_append, List.sum_append]
  omega
/-- Each row holds its marks. -/
def Marked (k : Int) (lo : Nat) (W : World) (gs : List (Nat × Nat)) (rows : List (List Int)) (n : Nat) : Prop :=
  ∀ i, i < n → (h : i < gs.length) → (h' : i < rows.length) → W.ownsRow lo 3 1 (.slice (some ⟨gs[i].1, 0, none⟩) rows[i].length gs[i].2) rows[i].length (ints (upFrom (k + (sumQ (rows.take i) : Int)) rows[i].length))

set_option maxHeartbeats 1600000 in
theorem markRows_any (S : Nat → Prop) (lo : Nat) (la : Option Addr) (gs : List (Nat × Nat)) (rows : List (List Int)) (c : Nat) (k : Int) (w : World) (ho : w.ownsRow lo 24 1 (.slice la rows.length c) rows.length (cellsG gs rows)) (hq : RowO S lo (.slice la rows.length c) w gs rows) (hl : rows.length + sumQ rows ≤ 1048577) (hk1 : 0 ≤ k) (hk2 : k ≤ 4) :
    Calls Try.prog 36 #[.slice la rows.length c, .int .i64 k] w fun e w' => e = .returned (.int .i64 (k + sumQ rows)) ∧ Stay (fun x => x ∉ gs.map Prod.fst) w w' ∧ Marked k lo w' gs rows rows.length := by
  have HO : Hid (w.ownsRow lo 24 1 (.slice la rows.length c) rows.length (cellsG gs rows)) := ho
  have HQ : Hid (RowO S lo (.slice la rows.length c) w gs rows) := hq
  have hlen := hq.len
  clear ho hq
  go_enter Try.func36, Try.ntmps36
  go_wp2_with fail
  go_loopw [1, 5] (fun t i wr => ∃ j : Nat, j ≤ rows.length ∧ i = .int .i64 j ∧ t = .int .i64 (k + (sumQ (rows.take j) : Int)) ∧ Hid (Stay (fun x => x ∉ (gs.map Prod.fst).take j) w wr) ∧ Hid (Marked k lo wr gs rows j)) (fun _ i _ => rows.length - (intOf i).toNat)
  case atStart => exact ⟨0, Nat.zero_le _, rfl, by simp [sumQ], Stay.refl _ _, fun i h => by omega⟩
  case round =>
    obtain ⟨j, hj, rfl, rfl, HS, HM⟩ := hrel
    by_cases hj' : j < rows.length
    · have hjL : j < gs.length := by omega
      obtain ⟨g, rfl⟩ : ∃ g, la = some ⟨g, 0, none⟩ := by
        rcases HO.out.2 with ⟨_, e0⟩ | ⟨g, cap, _, e, _⟩
        · omega
        · cases e; exact ⟨g, rfl⟩
      have hgL : g ∉ gs.map Prod.fst := fun h => by
        obtain ⟨p, hp, e⟩ := List.mem_map.1 h
        exact (HQ.out.s p hp).2.2 (by rw [e]; rfl)
      have c0 := HO.out.cellAt j (by omega)
      rw [cellsG_get hjL hj'] at c0
      have c1 := HS.out.cell c0 (fun h => hgL (List.mem_of_mem_take h))
      have hji : (j : Int) < (rows.length : Int) := by omega
      have hji0 : (0 : Int) ≤ (j : Int) := by omega
      have hmj : j < (gs.map Prod.fst).length := by simpa using hjL
      have hnx : gs[j].1 ∉ (gs.map Prod.fst).take j := fun h => by
        obtain ⟨i, hi, e⟩ := List.getElem_of_mem h
        simp at hi
        rw [List.getElem_take] at e
        have e' : (gs.map Prod.fst)[i]'(by simp; omega) = (gs.map Prod.fst)[j]'hmj := by rw [e]; simp
        have := (List.getElem_inj HQ.out.nd).1 e'
        omega
      have hrw := sumQ_row rows[j] (List.getElem_mem hj')
      have hst := sumQ_take hj'
      have hsl := sumQ_le (rows := rows) j
      have C := mark_own lo gs[j].1 rows[j] (k + (sumQ (rows.take j) : Int)) _ gs[j].2 wr rfl (own_fr (HQ.out.own j hjL hj') (HS.out.block gs[j].1 ((HQ.out.own j hjL hj').lt _ rfl).2 hnx)) (by omega) (by omega) (by omega)
      have HT : Hid ((gs.map Prod.fst).take (j + 1) = (gs.map Prod.fst).take j ++ [gs[j].1]) := by show _ = _; rw [List.take_succ_eq_append_getElem hmj]; simp
      have HST : Hid (sumQ (rows.take (j + 1)) = sumQ (rows.take j) + rows[j].length) := hst
      have HNX : Hid _ := hnx
      have HMS : Hid (∀ W : World, wr.grownBy W (some gs[j].1) → W.ownsRow lo 3 1 (.slice (some ⟨gs[j].1, 0, none⟩) rows[j].length gs[j].2) rows[j].length (ints (upFrom (k + (sumQ (rows.take j) : Int)) rows[j].length)) → Marked k lo W gs rows (j + 1)) := fun W hg hw i hi h1 h2 => by
        by_cases e : i = j
        · subst e; exact hw
        · have hij : i < j := by omega
          refine own_fr (HM.out i hij h1 h2) (hg.block _ ((HM.out i hij h1 h2).lt _ rfl).2 (fun e' => ?_))
          have e2 : gs[j].1 = gs[i].1 := (Option.some.inj e').symm
          have e3 : (gs.map Prod.fst)[i]'(by simp; omega) = (gs.map Prod.fst)[j]'hmj := by simp [e2]
          have := (List.getElem_inj HQ.out.nd).1 e3
          omega
      clear c0 hnx hrw hst hsl
      generalize hgj : gs[j] = gj at c1 C HT HMS
      generalize hm : rows[j].length = m at c1 C HST HMS
      generalize rows[j] = row at C hm
      generalize sumQ (rows.take j) = sj at C HST HMS ⊢
      clear hgj hm
      go_wp2_with (go_at_call 35; refine C.mono ?_; rintro e w2 ⟨rfl, hw2, hg2⟩; have HM2 : Hid _ := HMS.out w2 hg2 hw2; have HG : Hid _ := hg2; clear C hg2 hw2)
      go_roundw
      case rel =>
        refine ⟨j + 1, by omega, by go_num, by rw [HST.out]; go_num, ?_, HM2.out⟩
        show Stay _ _ _
        rw [HT.out]
        exact (HS.out.weak (fun x _ hx h => hx (List.mem_append_left _ h))).trans ((Stay.grown HG.out (fun k e => by cases e; simp)))
      case measure => simp [intOf]; omega
    · have hji : ¬ (j : Int) < (rows.length : Int) := by omega
      have ej : j = rows.length := by omega
      subst ej
      have e2 : (gs.map Prod.fst).take rows.length = gs.map Prod.fst := List.take_of_length_le (by simp; omega)
      rw [List.take_length]
      have H2 : Hid (Stay (fun x => x ∉ gs.map Prod.fst) w wr) := by have := HS.out; rwa [e2] at this
      clear e2 HS
      go_wp2_with fail
      go_ret
      exact ⟨rfl, H2.out.weak (fun x _ hx => by simpa using hx), HM.out⟩

set_option maxHeartbeats 1600000 in
theorem heldRows_any (lo : Nat) (la : Option Addr) (gs : List (Nat × Nat)) (rows : List (List Int)) (c : Nat) (k : Int) (w : World) (hlen : gs.length = rows.length) (ho : w.ownsRow lo 24 1 (.slice la rows.length c) rows.length (cellsG gs rows)) (hq : Marked k lo w gs rows rows.length) (hl : rows.length + sumQ rows ≤ 1048577) (hk1 : 0 ≤ k) (hk2 : k ≤ 4) :
    Calls Try.prog 37 #[.slice la rows.length c, .int .i64 k] w fun e w' => e = .returned (.int .i64 (k + sumQ rows)) ∧ w' = w := by
  have HO : Hid (w.ownsRow lo 24 1 (.slice la rows.length c) rows.length (cellsG gs rows)) := ho
  have HQ : Hid (Marked k lo w gs rows rows.length) := hq
  clear ho hq
  go_enter Try.func37, Try.ntmps37
  go_wp2_with fail
  go_loop [1, 5] (fun t i => ∃ j : Nat, j ≤ rows.length ∧ i = .int .i64 j ∧ t = .int .i64 (k + (sumQ (rows.take j) : Int))) (fun _ i => rows.length - (intOf i).toNat)
  case atStart => exact ⟨0, Nat.zero_le _, rfl, by simp [sumQ]⟩
  case round =>
    obtain ⟨j, hj, rfl, rfl⟩ := hrel
    by_cases hj' : j < rows.length
    · have hjL : j < gs.length := by omega
      obtain ⟨g, rfl⟩ : ∃ g, la = some ⟨g, 0, none⟩ := by
        rcases HO.out.2 with ⟨_, e0⟩ | ⟨g, cap, _, e, _⟩
        · omega
        · cases e; exact ⟨g, rfl⟩
      have c1 := HO.out.cellAt j (by omega)
      rw [cellsG_get hjL hj'] at c1
      have hji : (j : Int) < (rows.length : Int) := by omega
      have hji0 : (0 : Int) ≤ (j : Int) := by omega
      have hrw := sumQ_row rows[j] (List.getElem_mem hj')
      have hst := sumQ_take hj'
      have hsl := sumQ_le (rows := rows) j
      have C := held_far (some ⟨gs[j].1, 0, none⟩) (k + (sumQ (rows.take j) : Int)) rows[j].length gs[j].2 w (RdI.rd (S := fun _ => True) (own_rdi (upFrom_len _ _).symm (HQ.out j hj' hjL hj') trivial)) (by omega) (by omega) (by omega)
      have HST : Hid (sumQ (rows.take (j + 1)) = sumQ (rows.take j) + rows[j].length) := hst
      clear hrw hst hsl
      generalize gs[j] = gj at c1 C
      generalize rows[j].length = m at c1 C HST
      generalize sumQ (rows.take j) = sj at C HST ⊢
      have hk0 : ¬ k + (sj : Int) + (m : Int) < 0 := by omega
      go_wp2_with (go_at_call 67; refine C.mono ?_; rintro e w2 ⟨rfl, hw2⟩; subst w2; clear C)
      go_round
      case rel => exact ⟨j + 1, by omega, by go_num, by rw [HST.out]; go_num⟩
      case measure => simp [intOf]; omega
    · have hji : ¬ (j : Int) < (rows.length : Int) := by omega
      have ej : j = rows.length := by omega
      subst ej
      rw [List.take_length]
      go_wp2_with fail
      go_ret
      exact ⟨rfl, rfl⟩
end Go.Proofs.Ythbilahilmmfmaa

