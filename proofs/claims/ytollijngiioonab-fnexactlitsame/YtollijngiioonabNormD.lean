/- Right terms, weights, and terms that are made, as data; what a right term's form and weight are. Conditions: none. -/
import Derived.Test.YtollijngiioonabNormC
import Derived.Test.YtollijngiioonabWgtA
namespace Go.Proofs.Ytollijngiioonab
set_option maxRecDepth 100000
open Go.RowKit

/-- Before the one ahead of it, if there is one. -/
def befO (k : TermD) : Option TermD → Bool
  | some q => befT k q
  | none => false
mutual
/-- Right, of any size. -/
def rightT (ss : List SymD) : TermD → Bool
  | .mk f v ks => if f = -1 then decide (0 ≤ v ∧ v ≤ 99) && ks.isEmpty
    else decide (0 ≤ f ∧ f < ss.length) && v == 0 && (if blindAt ss f then decide (2 ≤ ks.length) else (ks.length : Int) == arityAt ss f) && rightL ss f none ks
/-- The Kids, the one ahead of them known. -/
def rightL (ss : List SymD) (f : Int) : Option TermD → List TermD → Bool
  | _, [] => true
  | p, k :: ks => !(blindAt ss f && (k.f == f || befO k p)) && rightT ss k && rightL ss f (some k) ks
end
theorem rightT_eq (ss : List SymD) (t : TermD) : rightT ss t = if t.f = -1 then decide (0 ≤ t.v ∧ t.v ≤ 99) && t.kids.isEmpty
    else decide (0 ≤ t.f ∧ t.f < ss.length) && t.v == 0 && (if blindAt ss t.f then decide (2 ≤ t.kids.length) else (t.kids.length : Int) == arityAt ss t.f) && rightL ss t.f none t.kids := by
  cases t; rw [rightT]; rfl
theorem rightL_all (ss : List SymD) (f : Int) : ∀ (ks : List TermD) (p : Option TermD), rightL ss f p ks = true → ∀ k ∈ ks, rightT ss k = true ∧ (blindAt ss f = true → k.f ≠ f)
  | [], _, _ => by simp
  | x :: xs, p, h => by
    rw [rightL, Bool.and_eq_true, Bool.and_eq_true] at h
    intro k hk
    rcases List.mem_cons.1 hk with rfl | hk
    · refine ⟨h.1.2, fun hb e => ?_⟩
      have := h.1.1
      rw [hb, e] at this
      simp at this
    · exact rightL_all ss f xs (some x) h.2 k hk
theorem rightL_from (ss : List SymD) (f : Int) (hb : blindAt ss f = true) : ∀ (ks : List TermD) (q : TermD), rightL ss f (some q) ks = true → (q :: ks).Pairwise leT
  | [], q, _ => by simp
  | x :: xs, q, h => by
    rw [rightL, Bool.and_eq_true, Bool.and_eq_true] at h
    have h0 : leT q x := by
      rw [← befT_leT]
      have := h.1.1
      rw [hb] at this
      simp only [Bool.true_and, Bool.not_eq_true', Bool.or_eq_false_iff] at this
      exact this.2
    have h1 := rightL_from ss f hb xs x h.2
    refine List.Pairwise.cons (fun y hy => ?_) h1
    rcases List.mem_cons.1 hy with rfl | hy
    · exact h0
    · exact leT_trans h0 ((List.pairwise_cons.1 h1).1 y hy)
theorem rightL_sorted (ss : List SymD) (f : Int) (hb : blindAt ss f = true) (ks : List TermD) (h : rightL ss f none ks = true) : ks.Pairwise leT := by
  cases ks with
  | nil => exact .nil
  | cons x xs =>
    rw [rightL, Bool.and_eq_true] at h
    exact rightL_from ss f hb xs x h.2
theorem right_isN (ss : List SymD) : ∀ (n : Nat) (t : TermD), partsT t ≤ n → rightT ss t = true → IsN (blindAt ss) t := by
  intro n
  induction n with
  | zero => intro t h; rw [partsT_eq] at h; omega
  | succ n ih =>
    intro t hn h
    rw [partsT_eq] at hn
    rw [rightT_eq] at h
    split at h
    · simp only [Bool.and_eq_true, List.isEmpty_iff] at h
      exact .mk t (by simp [h.2]) (fun _ => by simp [h.2])
    · simp only [Bool.and_eq_true] at h
      have ha := rightL_all ss t.f t.kids none h.2
      exact .mk t (fun k hk => ih k (by have := parts_kid hk; omega) (ha k hk).1) (fun hb => ⟨rightL_sorted ss t.f hb t.kids h.2, fun k hk => (ha k hk).2 hb⟩)
/-- One form of what is right is it. -/
theorem right_self (ss : List SymD) {t : TermD} (h : rightT ss t = true) : normT (blindAt ss) t = t := normT_self _ (right_isN ss _ t (Nat.le_refl _) h)


/-- A term that is made of a function and Kids. -/
def makeT (ss : List SymD) (f : Int) (ks : List TermD) : TermD :=
  if blindAt ss f = true ∧ ks = [] then .mk 0 0 []
  else if blindAt ss f = true ∧ ks.length = 1 then normT (blindAt ss) (ks.headD (.mk 0 0 []))
  else if ¬ (0 ≤ f ∧ f < ss.length) then .mk f 0 ks
  else normT (blindAt ss) (.mk f 0 ks)
theorem blindAt_lt {ss : List SymD} {f : Int} (h : blindAt ss f = true) : 0 ≤ f ∧ f < ss.length := by
  unfold blindAt at h
  split at h
  · next h0 =>
    refine ⟨h0, ?_⟩
    by_cases hl : f.toNat < ss.length
    · omega
    · rw [List.getElem?_eq_none (by omega)] at h; cases h
  · cases h
theorem makeT_blind {ss : List SymD} {f : Int} (h : blindAt ss f = true) {ks : List TermD} (hl : 2 ≤ ks.length) : makeT ss f ks = normT (blindAt ss) (.mk f 0 ks) := by
  unfold makeT
  rw [if_neg (by rintro ⟨_, rfl⟩; simp at hl), if_neg (by rintro ⟨_, e⟩; omega), if_neg (by simpa using blindAt_lt h)]
/-- In any order. -/
theorem makeT_perm {ss : List SymD} {f : Int} (h : blindAt ss f = true) {us bs : List TermD} (hl : 2 ≤ us.length) (hp : us.Perm bs) : makeT ss f us = makeT ss f bs := by
  rw [makeT_blind h hl, makeT_blind h (by rw [← hp.length_eq]; exact hl)]
  exact normT_perm _ h hp
/-- In brackets. -/
theorem makeT_in {ss : List SymD} {f : Int} (h : blindAt ss f = true) {us bs : List TermD} (ha : 2 ≤ us.length) (hb : 1 ≤ bs.length) : makeT ss f (makeT ss f us :: bs) = makeT ss f (us ++ bs) := by
  rw [makeT_blind h (by simp; omega), makeT_blind h ha, makeT_blind h (by simp; omega)]
  exact normT_in _ h us bs
end Go.Proofs.Ytollijngiioonab
