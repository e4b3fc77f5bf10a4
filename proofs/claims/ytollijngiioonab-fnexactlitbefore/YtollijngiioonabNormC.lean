/- What one form keeps: the form of a form is it; the Kids of a blind function may stand in any order, and in brackets; a right term is its form; weights. Conditions: none. -/
import Derived.Test.YtollijngiioonabOrdB
import Derived.Test.YtollijngiioonabSymA
namespace Go.Proofs.Ytollijngiioonab
set_option maxRecDepth 100000
open Go.RowKit

theorem parts_kid : ∀ {ks : List TermD} {k : TermD}, k ∈ ks → partsT k ≤ partsL ks
  | [], _, h => by simp at h
  | x :: xs, k, h => by
    rw [partsL]
    rcases List.mem_cons.1 h with rfl | h
    · omega
    · have := parts_kid h; omega

/-- What a Kid in one form brings to the list of a blind function. -/
def flatK (f : Int) (k : TermD) : List TermD := if k.f ≠ f then [k] else k.kids

theorem foldP_perm (ks out : List TermD) : (ks.foldl (fun o x => putT x o) out).Perm (out ++ ks) := by
  induction ks generalizing out with
  | nil => simp
  | cons t ts ih =>
    rw [List.foldl_cons]
    refine (ih _).trans ?_
    exact ((putT_perm t out).append_right ts).trans (List.perm_middle.symm)
theorem foldP_sorted (ks : List TermD) : ∀ {out : List TermD}, out.Pairwise leT → (ks.foldl (fun o x => putT x o) out).Pairwise leT := by
  induction ks with
  | nil => intro out h; exact h
  | cons t ts ih => intro out h; rw [List.foldl_cons]; exact ih (putT_sorted h)
theorem stepN_perm (f : Int) (k : TermD) (out : List TermD) : (stepN true f k out).Perm (out ++ flatK f k) := by
  unfold stepN flatK
  simp only [Bool.true_eq_false, ↓reduceIte]
  split
  · exact (putT_perm k out).trans (by simpa using (List.perm_middle (a := k) (l₁ := out) (l₂ := [])).symm)
  · exact foldP_perm _ _
theorem stepN_sorted (f : Int) (k : TermD) {out : List TermD} (h : out.Pairwise leT) : (stepN true f k out).Pairwise leT := by
  unfold stepN
  simp only [Bool.true_eq_false, ↓reduceIte]
  split
  · exact putT_sorted h
  · exact foldP_sorted _ h
theorem normL_perm (bl : Int → Bool) (f : Int) (hf : bl f = true) (ks : List TermD) : ∀ out, (normL bl f ks out).Perm (out ++ ks.flatMap (fun k => flatK f (normT bl k))) := by
  induction ks with
  | nil => intro out; simp [normL]
  | cons k ks ih =>
    intro out
    rw [normL, hf, List.flatMap_cons, ← List.append_assoc]
    exact (ih _).trans ((stepN_perm f _ out).append_right _)
theorem normL_sorted (bl : Int → Bool) (f : Int) (hf : bl f = true) (ks : List TermD) : ∀ {out}, out.Pairwise leT → (normL bl f ks out).Pairwise leT := by
  induction ks with
  | nil => intro out h; rw [normL]; exact h
  | cons k ks ih => intro out h; rw [normL, hf]; exact ih (stepN_sorted f _ h)
theorem normL_map (bl : Int → Bool) (f : Int) (hf : bl f = false) (ks : List TermD) : ∀ out, normL bl f ks out = out ++ ks.map (normT bl) := by
  induction ks with
  | nil => intro out; simp [normL]
  | cons k ks ih => intro out; rw [normL, hf, ih]; simp [stepN]

/-- In one form. -/
inductive IsN (bl : Int → Bool) : TermD → Prop
  | mk (t : TermD) (hk : ∀ k ∈ t.kids, IsN bl k) (hb : bl t.f = true → t.kids.Pairwise leT ∧ ∀ k ∈ t.kids, k.f ≠ t.f) : IsN bl t

theorem normT_isN (bl : Int → Bool) : ∀ (n : Nat) (t : TermD), partsT t ≤ n → IsN bl (normT bl t) := by
  intro n
  induction n with
  | zero => intro t h; rw [partsT_eq] at h; omega
  | succ n ih =>
    intro t h
    rw [partsT_eq] at h
    have IH : ∀ k ∈ t.kids, IsN bl (normT bl k) := fun k hk => ih k (by have := parts_kid hk; omega)
    rw [normT_eq]
    by_cases hf : bl t.f = true
    · have hp := normL_perm bl t.f hf t.kids []
      rw [List.nil_append] at hp
      have hm : ∀ x ∈ normL bl t.f t.kids [], IsN bl x ∧ x.f ≠ t.f := by
        intro x hx
        obtain ⟨k, hk, hx⟩ := List.mem_flatMap.1 (hp.subset hx)
        have hN := IH k hk
        unfold flatK at hx
        split at hx
        · next h => rw [List.mem_singleton] at hx; subst hx; exact ⟨hN, h⟩
        · next h =>
          have h : (normT bl k).f = t.f := Decidable.not_not.1 h
          cases hN with
          | mk _ h1 h2 => exact ⟨h1 x hx, fun e => (h2 (by rw [h]; exact hf)).2 x hx (by rw [e, h])⟩
      exact .mk _ (fun k hk => (hm k hk).1) (fun _ => ⟨normL_sorted bl t.f hf t.kids .nil, fun k hk => (hm k hk).2⟩)
    · have hf : bl t.f = false := by simpa using hf
      rw [normL_map bl t.f hf, List.nil_append]
      refine .mk _ (fun x hx => ?_) (fun h => by rw [show (TermD.mk t.f t.v (t.kids.map (normT bl))).f = t.f from rfl, hf] at h; cases h)
      obtain ⟨k, hk, rfl⟩ := List.mem_map.1 hx
      exact IH k hk
theorem normT_self (bl : Int → Bool) {t : TermD} (h : IsN bl t) : normT bl t = t := by
  induction h with
  | mk t hk hb ih =>
    rw [normT_eq]
    have e : normL bl t.f t.kids [] = t.kids := by
      by_cases hf : bl t.f = true
      · have hp := normL_perm bl t.f hf t.kids []
        rw [List.nil_append] at hp
        have e : t.kids.flatMap (fun k => flatK t.f (normT bl k)) = t.kids := by
          have : ∀ l : List TermD, (∀ k ∈ l, normT bl k = k ∧ k.f ≠ t.f) → l.flatMap (fun k => flatK t.f (normT bl k)) = l := by
            intro l
            induction l with
            | nil => intro _; rfl
            | cons x xs ihx =>
              intro hx
              have h0 := hx x (by simp)
              rw [List.flatMap_cons, ihx (fun k hk => hx k (by simp [hk])), h0.1]
              simp [flatK, h0.2]
          exact this _ (fun k hk => ⟨ih k hk, (hb hf).2 k hk⟩)
        rw [e] at hp
        exact sorted_ext (normL_sorted bl t.f hf t.kids .nil) (hb hf).1 hp
      · have hf : bl t.f = false := by simpa using hf
        rw [normL_map bl t.f hf, List.nil_append]
        exact (List.map_congr_left ih).trans (List.map_id' _)
    rw [e]
    cases t; rfl
/-- The form of a form is it. -/
theorem normT_idem (bl : Int → Bool) (t : TermD) : normT bl (normT bl t) = normT bl t := normT_self bl (normT_isN bl _ t (Nat.le_refl _))

/-- In any order. -/
theorem normT_perm (bl : Int → Bool) {f v : Int} (hf : bl f = true) {us bs : List TermD} (h : us.Perm bs) : normT bl (.mk f v us) = normT bl (.mk f v bs) := by
  rw [normT, normT]
  congr 1
  refine sorted_ext (normL_sorted bl f hf us .nil) (normL_sorted bl f hf bs .nil) ?_
  have h1 := normL_perm bl f hf us []
  have h2 := normL_perm bl f hf bs []
  exact (h1.trans (by simpa using h.flatMap_right _)).trans h2.symm
/-- In brackets. -/
theorem normT_in (bl : Int → Bool) {f v v' : Int} (hf : bl f = true) (us bs : List TermD) : normT bl (.mk f v (normT bl (.mk f v' us) :: bs)) = normT bl (.mk f v (us ++ bs)) := by
  rw [normT, normT]
  congr 1
  refine sorted_ext (normL_sorted bl f hf _ .nil) (normL_sorted bl f hf _ .nil) ?_
  have h1 := normL_perm bl f hf (normT bl (.mk f v' us) :: bs) []
  have h2 := normL_perm bl f hf (us ++ bs) []
  refine (h1.trans ?_).trans h2.symm
  rw [List.nil_append, List.nil_append, List.flatMap_cons, List.flatMap_append, normT_idem]
  refine List.Perm.append_right _ ?_
  have h3 := normL_perm bl f hf us []
  rw [List.nil_append] at h3
  have e : flatK f (normT bl (.mk f v' us)) = normL bl f us [] := by rw [normT]; simp [flatK, TermD.f, TermD.kids]
  rw [e]
  exact h3
end Go.Proofs.Ytollijngiioonab
