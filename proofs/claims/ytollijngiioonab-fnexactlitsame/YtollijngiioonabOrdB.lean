/- The order of terms is total: alike terms are the same, and of two one is not behind the other; a list in order is told by what is in it. Conditions: none. -/
import Derived.Test.YtollijngiioonabNormA
namespace Go.Proofs.Ytollijngiioonab
set_option maxRecDepth 100000
open Go.RowKit

mutual
theorem sameT_eqT : ∀ t u : TermD, sameT t u = true → t = u
  | .mk f v ks, .mk f' v' ks', h => by
    simp only [sameT, Bool.and_eq_true, beq_iff_eq] at h
    obtain ⟨⟨⟨h1, h2⟩, h3⟩, h4⟩ := h
    rw [h1, h2, sameL_eqL ks ks' h3 h4]
theorem sameL_eqL : ∀ ts us : List TermD, ts.length = us.length → sameL ts us = true → ts = us
  | [], us, hl, _ => by cases us with | nil => rfl | cons u us => simp at hl
  | t :: ts, [], hl, _ => by simp at hl
  | t :: ts, u :: us, hl, h => by
    simp only [sameL, Bool.and_eq_true] at h
    rw [sameT_eqT t u h.1, sameL_eqL ts us (by simpa using hl) h.2]
end
theorem ordT_zero {t u : TermD} : ordT t u = 0 ↔ t = u := by
  constructor
  · intro h; exact sameT_eqT t u ((ordT_same t u).1 h)
  · rintro rfl
    refine (ordT_same t t).2 ?_
    have : ∀ n : Nat, ∀ t : TermD, partsT t ≤ n → sameT t t = true := by
      intro n
      induction n with
      | zero => intro t h; rw [partsT_eq] at h; omega
      | succ n ih =>
        intro t h
        rw [sameT_eq]
        rw [partsT_eq] at h
        simp only [beq_self_eq_true, Bool.true_and]
        exact sameL_all rfl (fun k hk _ => ih _ (by have := partsL_get hk; omega))
    exact this _ t (Nat.le_refl _)

theorem cmpI_swap (x y : Int) : cmpI y x = - cmpI x y := by unfold cmpI; split <;> (try split) <;> (try split) <;> omega
theorem or3_swap (x y z : Int) : or3 (-x) (-y) (-z) = - or3 x y z := by unfold or3; split <;> (try split) <;> (try split) <;> (try split) <;> omega
theorem headO_swap (t u : TermD) : headO u t = - headO t u := by
  unfold headO
  rw [cmpI_swap t.f u.f, cmpI_swap t.v u.v, cmpI_swap (t.kids.length : Int) u.kids.length, or3_swap]
mutual
theorem ordT_swap : ∀ t u : TermD, ordT u t = - ordT t u
  | .mk f v ks, .mk f' v' ks' => by
    have h1 := headO_swap (.mk f v ks) (.mk f' v' ks')
    have h2 := ordL_swap ks ks'
    rw [ordT_eq, ordT_eq, h1]
    show (if -headO (TermD.mk f v ks) (.mk f' v' ks') ≠ 0 then -headO (TermD.mk f v ks) (.mk f' v' ks') else ordL ks' ks) = -(if headO (TermD.mk f v ks) (.mk f' v' ks') ≠ 0 then headO (TermD.mk f v ks) (.mk f' v' ks') else ordL ks ks')
    rw [h2]
    split <;> split <;> omega
theorem ordL_swap : ∀ ts us : List TermD, ordL us ts = - ordL ts us
  | [], us => by cases us <;> simp [ordL]
  | t :: ts, [] => by simp [ordL]
  | t :: ts, u :: us => by
    have h1 := ordT_swap t u
    have h2 := ordL_swap ts us
    rw [ordL_cons, ordL_cons, h1, h2]
    split <;> split <;> omega
end

theorem headO_neg {t u : TermD} : headO t u < 0 ↔ (t.f < u.f ∨ (t.f = u.f ∧ (t.v < u.v ∨ (t.v = u.v ∧ t.kids.length < u.kids.length)))) := by
  unfold headO or3
  by_cases e1 : t.f = u.f
  · rw [cmpI_zero.2 e1]
    by_cases e2 : t.v = u.v
    · rw [cmpI_zero.2 e2]
      simp only [ne_eq, not_true_eq_false, if_false, cmpI_neg]
      omega
    · have h2 := mt cmpI_zero.1 e2
      simp only [ne_eq, not_true_eq_false, if_false, h2, not_false_eq_true, if_true, cmpI_neg]
      omega
  · have h1 := mt cmpI_zero.1 e1
    simp only [ne_eq, h1, not_false_eq_true, if_true, cmpI_neg]
    omega
theorem headO_le {a b : TermD} (h : ordT a b ≤ 0) : headO a b ≤ 0 := by
  rw [ordT_eq] at h
  split at h
  · exact h
  · omega
theorem headO_lt {a b : TermD} (h : headO a b < 0) : ordT a b < 0 := by
  rw [ordT_eq, if_pos (by omega)]; exact h

theorem ordT_trans : ∀ (n : Nat) (a b c : TermD), partsT a ≤ n → ordT a b ≤ 0 → ordT b c ≤ 0 → ordT a c ≤ 0 := by
  intro n
  induction n with
  | zero => intro a b c h; rw [partsT_eq] at h; omega
  | succ n ih =>
    have hL : ∀ (ts us vs : List TermD), partsL ts ≤ n → ts.length = us.length → us.length = vs.length → ordL ts us ≤ 0 → ordL us vs ≤ 0 → ordL ts vs ≤ 0 := by
      intro ts
      induction ts with
      | nil => intro us vs _ h1 h2 _ _; cases us with
        | nil => cases vs with
          | nil => simp [ordL]
          | cons v vs => simp at h2
        | cons u us => simp at h1
      | cons t ts iht =>
        intro us vs hp h1 h2 g1 g2
        cases us with
        | nil => simp at h1
        | cons u us => cases vs with
          | nil => simp at h2
          | cons v vs =>
            rw [partsL] at hp
            rw [ordL_cons] at g1 g2 ⊢
            by_cases e1 : ordT t u = 0
            · have e := ordT_zero.1 e1
              subst e
              rw [if_neg (by omega)] at g1
              by_cases e2 : ordT t v = 0
              · rw [if_neg (by omega)] at g2 ⊢
                exact iht us vs (by omega) (by simpa using h1) (by simpa using h2) g1 g2
              · rw [if_pos e2] at g2 ⊢; exact g2
            · rw [if_pos e1] at g1
              have g3 : ordT u v ≤ 0 := by
                by_cases e2 : ordT u v = 0
                · omega
                · rw [if_pos e2] at g2; exact g2
              have g4 := ih t u v (by omega) g1 g3
              have g5 : ordT t v ≠ 0 := fun e => by
                have := ordT_zero.1 e
                subst this
                have := ordT_swap t u
                omega
              rw [if_pos g5]; exact g4
    intro a b c hp h1 h2
    rw [partsT_eq] at hp
    have k1 := headO_le h1
    have k2 := headO_le h2
    by_cases e1 : headO a b = 0
    · by_cases e2 : headO b c = 0
      · have z1 := headO_zero.1 e1
        have z2 := headO_zero.1 e2
        have e3 : headO a c = 0 := headO_zero.2 ⟨z1.1.trans z2.1, z1.2.1.trans z2.2.1, z1.2.2.trans z2.2.2⟩
        rw [ordT_eq, if_neg (by omega)] at h1 h2 ⊢
        exact hL _ _ _ (by omega) z1.2.2 z2.2.2 h1 h2
      · have z1 := headO_zero.1 e1
        have z2 := headO_neg.1 (show headO b c < 0 by omega)
        exact Int.le_of_lt (headO_lt (headO_neg.2 (by omega)))
    · have z1 := headO_neg.1 (show headO a b < 0 by omega)
      by_cases e2 : headO b c = 0
      · have z2 := headO_zero.1 e2
        exact Int.le_of_lt (headO_lt (headO_neg.2 (by omega)))
      · have z2 := headO_neg.1 (show headO b c < 0 by omega)
        exact Int.le_of_lt (headO_lt (headO_neg.2 (by omega)))

/-- Not behind. -/
def leT (a b : TermD) : Prop := ordT a b ≤ 0
theorem leT_refl (a : TermD) : leT a a := by show ordT a a ≤ 0; rw [ordT_zero.2 rfl]; omega
theorem leT_trans {a b c : TermD} (h1 : leT a b) (h2 : leT b c) : leT a c := ordT_trans _ a b c (Nat.le_refl _) h1 h2
theorem leT_total (a b : TermD) : leT a b ∨ leT b a := by
  unfold leT
  have := ordT_swap a b
  omega
theorem leT_anti {a b : TermD} (h1 : leT a b) (h2 : leT b a) : a = b := by
  unfold leT at *
  have := ordT_swap a b
  exact ordT_zero.1 (by omega)
theorem befT_leT (a b : TermD) : befT a b = false ↔ leT b a := by
  rw [← ordT_bef]
  unfold leT
  have := ordT_swap a b
  simp
  omega

/-- Two lists in order of which one is the other in another order are the same. -/
theorem sorted_ext : ∀ {a b : List TermD}, a.Pairwise leT → b.Pairwise leT → a.Perm b → a = b
  | [], b, _, _, h => by rw [List.nil_perm] at h; rw [h]
  | x :: a, [], _, _, h => by have := h.length_eq; simp at this
  | x :: a, y :: b, ha, hb, h => by
    rw [List.pairwise_cons] at ha hb
    have e : x = y := by
      have h1 : x ∈ y :: b := h.subset (by simp)
      have h2 : y ∈ x :: a := h.symm.subset (by simp)
      rcases List.mem_cons.1 h1 with h1 | h1
      · exact h1
      · rcases List.mem_cons.1 h2 with h2 | h2
        · exact h2.symm
        · exact leT_anti (ha.1 y h2) (hb.1 x h1)
    subst e
    rw [sorted_ext ha.2 hb.2 (h.cons_inv)]

theorem tw_all (p : TermD → Bool) : ∀ (l : List TermD), ∀ x ∈ l.takeWhile p, p x = true
  | [], x, h => by simp at h
  | y :: l, x, h => by
    by_cases e : p y = true
    · simp only [List.takeWhile_cons, e, if_true] at h
      rcases List.mem_cons.1 h with h | h
      · rw [h]; exact e
      · exact tw_all p l x h
    · simp only [List.takeWhile_cons, e] at h
      simp at h
theorem putT_sorted {t : TermD} {l : List TermD} (h : l.Pairwise leT) : (putT t l).Pairwise leT := by
  unfold putT
  have h1 : ∀ x ∈ l.takeWhile (fun e => !befT t e), leT x t := fun x hx => by
    have := tw_all _ l x hx
    exact (befT_leT t x).1 (by simpa using this)
  have h2 : ∀ x ∈ l.dropWhile (fun e => !befT t e), leT t x := by
    intro x hx
    have hd := h.sublist (List.dropWhile_sublist (fun e => !befT t e))
    cases hc : l.dropWhile (fun e => !befT t e) with
    | nil => rw [hc] at hx; simp at hx
    | cons y ys =>
      have hy : leT t y := by
        have := List.head?_dropWhile_not (fun e => !befT t e) l
        rw [hc] at this
        simp at this
        rcases leT_total t y with q | q
        · exact q
        · have := (befT_leT t y).2 q
          simp_all
      rw [hc] at hx hd
      rcases List.mem_cons.1 hx with e | e
      · exact e ▸ hy
      · exact leT_trans hy ((List.pairwise_cons.1 hd).1 x e)
  rw [List.pairwise_append]
  refine ⟨h.sublist (List.takeWhile_sublist _), List.pairwise_cons.2 ⟨h2, h.sublist (List.dropWhile_sublist _)⟩, fun x hx y hy => ?_⟩
  rcases List.mem_cons.1 hy with e | e
  · exact e ▸ h1 x hx
  · exact leT_trans (h1 x hx) (h2 y e)
end Go.Proofs.Ytollijngiioonab
