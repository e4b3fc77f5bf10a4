/- What the proof of FnExactLitApply stands on, part 3 of 13: each piece says what it proves and under which conditions. Conditions: as each piece says. -/
import Derived.Test.YtollijngiioonabGreatPackExactLitApply2
import Derived.Deep.QuietTactic
import Derived.BigQuiet
import Derived.Below
import Derived.WalkKit
import Derived.Test.YtollijngiioonabGreatProg
import Derived.Deep.RegionHeld3
import Derived.Sort.AssemblyPlain
import Derived.Sort.WalkA
import Derived.BigCall
import Derived.BigGuard
import Derived.Laws.Externs
import Derived.Shelf.Abstract
import Derived.Shelf.RegionOpenPlain
import Derived.Sort.WalkB2
/- The order of terms is total: alike terms are the same, and of two one is not behind the other; a list in order is told by what is in it. Conditions: none. -/
namespace Go.Proofs.YtollijngiioonabGreat
set_option maxRecDepth 100000
open Go.RowKit

mutual
theorem sameT_eqT : ∀ t u : TermD, sameT t u = true → t = u
  | .mk f v ks, .mk f' v' ks', h => by
    simp only [sameT, Bool.and_eq_true, beq_iff_eq] at h
    obtain ⟨⟨⟨h1, h2⟩, h3⟩, h4⟩ := h
    rw [h1, h2, sameL_eqL ks ks' h3 h4]
theorem sameL_eqL : ∀ ts us : List TermD, ts.length = us.length → sameL ts us = true → ts = us
  | [], us, hl, _ => by cases us with | nil => rfl | cons u us => simp at hl
  | t :: ts, [], hl, _ => by simp at hl
  | t :: ts, u :: us, hl, h => by
    simp only [sameL, Bool.and_eq_true] at h
    rw [sameT_eqT t u h.1, sameL_eqL ts us (by simpa using hl) h.2]
end
theorem ordT_zero {t u : TermD} : ordT t u = 0 ↔ t = u := by
  constructor
  · intro h; exact sameT_eqT t u ((ordT_same t u).1 h)
  · rintro rfl
    refine (ordT_same t t).2 ?_
    have : ∀ n : Nat, ∀ t : TermD, partsT t ≤ n → sameT t t = true := by
      intro n
      induction n with
      | zero => intro t h; rw [partsT_eq] at h; omega
      | succ n ih =>
        intro t h
        rw [sameT_eq]
        rw [partsT_eq] at h
        simp only [beq_self_eq_true, Bool.true_and]
        exact sameL_all rfl (fun k hk _ => ih _ (by have := partsL_get hk; omega))
    exact this _ t (Nat.le_refl _)

theorem cmpI_swap (x y : Int) : cmpI y x = - cmpI x y := by unfold cmpI; split <;> (try split) <;> (try split) <;> omega
theorem or3_swap (x y z : Int) : or3 (-x) (-y) (-z) = - or3 x y z := by unfold or3; split <;> (try split) <;> (try split) <;> (try split) <;> omega
theorem headO_swap (t u : TermD) : headO u t = - headO t u := by
  unfold headO
  rw [cmpI_swap t.f u.f, cmpI_swap t.v u.v, cmpI_swap (t.kids.length : Int) u.kids.length, or3_swap]
mutual
theorem ordT_swap : ∀ t u : TermD, ordT u t = - ordT t u
  | .mk f v ks, .mk f' v' ks' => by
    have h1 := headO_swap (.mk f v ks) (.mk f' v' ks')
    have h2 := ordL_swap ks ks'
    rw [ordT_eq, ordT_eq, h1]
    show (if -headO (TermD.mk f v ks) (.mk f' v' ks') ≠ 0 then -headO (TermD.mk f v ks) (.mk f' v' ks') else ordL ks' ks) = -(if headO (TermD.mk f v ks) (.mk f' v' ks') ≠ 0 then headO (TermD.mk f v ks) (.mk f' v' ks') else ordL ks ks')
    rw [h2]
    split <;> split <;> omega
theorem ordL_swap : ∀ ts us : List TermD, ordL us ts = - ordL ts us
  | [], us => by cases us <;> simp [ordL]
  | t :: ts, [] => by simp [ordL]
  | t :: ts, u :: us => by
    have h1 := ordT_swap t u
    have h2 := ordL_swap ts us
    rw [ordL_cons, ordL_cons, h1, h2]
    split <;> split <;> omega
end

theorem headO_neg {t u : TermD} : headO t u < 0 ↔ (t.f < u.f ∨ (t.f = u.f ∧ (t.v < u.v ∨ (t.v = u.v ∧ t.kids.length < u.kids.length)))) := by
  unfold headO or3
  by_cases e1 : t.f = u.f
  · rw [cmpI_zero.2 e1]
    by_cases e2 : t.v = u.v
    · rw [cmpI_zero.2 e2]
      simp only [ne_eq, not_true_eq_false, if_false, cmpI_neg]
      omega
    · have h2 := mt cmpI_zero.1 e2
      simp only [ne_eq, not_true_eq_false, if_false, h2, not_false_eq_true, if_true, cmpI_neg]
      omega
  · have h1 := mt cmpI_zero.1 e1
    simp only [ne_eq, h1, not_false_eq_true, if_true, cmpI_neg]
    omega
theorem headO_le {a b : TermD} (h : ordT a b ≤ 0) : headO a b ≤ 0 := by
  rw [ordT_eq] at h
  split at h
  · exact h
  · omega
theorem headO_lt {a b : TermD} (h : headO a b < 0) : ordT a b < 0 := by
  rw [ordT_eq, if_pos (by omega)]; exact h

theorem ordT_trans : ∀ (n : Nat) (a b c : TermD), partsT a ≤ n → ordT a b ≤ 0 → ordT b c ≤ 0 → ordT a c ≤ 0 := by
  intro n
  induction n with
  | zero => intro a b c h; rw [partsT_eq] at h; omega
  | succ n ih =>
    have hL : ∀ (ts us vs : List TermD), partsL ts ≤ n → ts.length = us.length → us.length = vs.length → ordL ts us ≤ 0 → ordL us vs ≤ 0 → ordL ts vs ≤ 0 := by
      intro ts
      induction ts with
      | nil => intro us vs _ h1 h2 _ _; cases us with
        | nil => cases vs with
          | nil => simp [ordL]
          | cons v vs => simp at h2
        | cons u us => simp at h1
      | cons t ts iht =>
        intro us vs hp h1 h2 g1 g2
        cases us with
        | nil => simp at h1
        | cons u us => cases vs with
          | nil => simp at h2
          | cons v vs =>
            rw [partsL] at hp
            rw [ordL_cons] at g1 g2 ⊢
            by_cases e1 : ordT t u = 0
            · have e := ordT_zero.1 e1
              subst e
              rw [if_neg (by omega)] at g1
              by_cases e2 : ordT t v = 0
              · rw [if_neg (by omega)] at g2 ⊢
                exact iht us vs (by omega) (by simpa using h1) (by simpa using h2) g1 g2
              · rw [if_pos e2] at g2 ⊢; exact g2
            · rw [if_pos e1] at g1
              have g3 : ordT u v ≤ 0 := by
                by_cases e2 : ordT u v = 0
                · omega
                · rw [if_pos e2] at g2; exact g2
              have g4 := ih t u v (by omega) g1 g3
              have g5 : ordT t v ≠ 0 := fun e => by
                have := ordT_zero.1 e
                subst this
                have := ordT_swap t u
                omega
              rw [if_pos g5]; exact g4
    intro a b c hp h1 h2
    rw [partsT_eq] at hp
    have k1 := headO_le h1
    have k2 := headO_le h2
    by_cases e1 : headO a b = 0
    · by_cases e2 : headO b c = 0
      · have z1 := headO_zero.1 e1
        have z2 := headO_zero.1 e2
        have e3 : headO a c = 0 := headO_zero.2 ⟨z1.1.trans z2.1, z1.2.1.trans z2.2.1, z1.2.2.trans z2.2.2⟩
        rw [ordT_eq, if_neg (by omega)] at h1 h2 ⊢
        exact hL _ _ _ (by omega) z1.2.2 z2.2.2 h1 h2
      · have z1 := headO_zero.1 e1
        have z2 := headO_neg.1 (show headO b c < 0 by omega)
        exact Int.le_of_lt (headO_lt (headO_neg.2 (by omega)))
    · have z1 := headO_neg.1 (show headO a b < 0 by omega)
      by_cases e2 : headO b c = 0
      · have z2 := headO_zero.1 e2
        exact Int.le_of_lt (headO_lt (headO_neg.2 (by omega)))
      · have z2 := headO_neg.1 (show headO b c < 0 by omega)
        exact Int.le_of_lt (headO_lt (headO_neg.2 (by omega)))

/-- Not behind. -/
def leT (a b : TermD) : Prop := ordT a b ≤ 0
theorem leT_refl (a : TermD) : leT a a := by show ordT a a ≤ 0; rw [ordT_zero.2 rfl]; omega
theorem leT_trans {a b c : TermD} (h1 : leT a b) (h2 : leT b c) : leT a c := ordT_trans _ a b c (Nat.le_refl _) h1 h2
theorem leT_total (a b : TermD) : leT a b ∨ leT b a := by
  unfold leT
  have := ordT_swap a b
  omega
theorem leT_anti {a b : TermD} (h1 : leT a b) (h2 : leT b a) : a = b := by
  unfold leT at *
  have := ordT_swap a b
  exact ordT_zero.1 (by omega)
theorem befT_leT (a b : TermD) : befT a b = false ↔ leT b a := by
  rw [← ordT_bef]
  unfold leT
  have := ordT_swap a b
  simp
  omega

/-- Two lists in order of which one is the other in another order are the same. -/
theorem sorted_ext : ∀ {a b : List TermD}, a.Pairwise leT → b.Pairwise leT → a.Perm b → a = b
  | [], b, _, _, h => by rw [List.nil_perm] at h; rw [h]
  | x :: a, [], _, _, h => by have := h.length_eq; simp at this
  | x :: a, y :: b, ha, hb, h => by
    rw [List.pairwise_cons] at ha hb
    have e : x = y := by
      have h1 : x ∈ y :: b := h.subset (by simp)
      have h2 : y ∈ x :: a := h.symm.subset (by simp)
      rcases List.mem_cons.1 h1 with h1 | h1
      · exact h1
      · rcases List.mem_cons.1 h2 with h2 | h2
        · exact h2.symm
        · exact leT_anti (ha.1 y h2) (hb.1 x h1)
    subst e
    rw [sorted_ext ha.2 hb.2 (h.cons_inv)]

theorem tw_all (p : TermD → Bool) : ∀ (l : List TermD), ∀ x ∈ l.takeWhile p, p x = true
  | [], x, h => by simp at h
  | y :: l, x, h => by
    by_cases e : p y = true
    · simp only [List.takeWhile_cons, e, if_true] at h
      rcases List.mem_cons.1 h with h | h
      · rw [h]; exact e
      · exact tw_all p l x h
    · simp only [List.takeWhile_cons, e] at h
      simp at h
theorem putT_sorted {t : TermD} {l : List TermD} (h : l.Pairwise leT) : (putT t l).Pairwise leT := by
  unfold putT
  have h1 : ∀ x ∈ l.takeWhile (fun e => !befT t e), leT x t := fun x hx => by
    have := tw_all _ l x hx
    exact (befT_leT t x).1 (by simpa using this)
  have h2 : ∀ x ∈ l.dropWhile (fun e => !befT t e), leT t x := by
    intro x hx
    have hd := h.sublist (List.dropWhile_sublist (fun e => !befT t e))
    cases hc : l.dropWhile (fun e => !befT t e) with
    | nil => rw [hc] at hx; simp at hx
    | cons y ys =>
      have hy : leT t y := by
        have := List.head?_dropWhile_not (fun e => !befT t e) l
        rw [hc] at this
        simp at this
        rcases leT_total t y with q | q
        · exact q
        · have := (befT_leT t y).2 q
          simp_all
      rw [hc] at hx hd
      rcases List.mem_cons.1 hx with e | e
      · exact e ▸ hy
      · exact leT_trans hy ((List.pairwise_cons.1 hd).1 x e)
  rw [List.pairwise_append]
  refine ⟨h.sublist (List.takeWhile_sublist _), List.pairwise_cons.2 ⟨h2, h.sublist (List.dropWhile_sublist _)⟩, fun x hx y hy => ?_⟩
  rcases List.mem_cons.1 hy with e | e
  · exact e ▸ h1 x hx
  · exact leT_trans (h1 x hx) (h2 y e)
end Go.Proofs.YtollijngiioonabGreat

/- What one form keeps: the form of a form is it; the Kids of a blind function may stand in any order, and in brackets; a right term is its form; weights. Conditions: none. -/
namespace Go.Proofs.YtollijngiioonabGreat
set_option maxRecDepth 100000
open Go.RowKit

theorem parts_kid : ∀ {ks : List TermD} {k : TermD}, k ∈ ks → partsT k ≤ partsL ks
  | [], _, h => by simp at h
  | x :: xs, k, h => by
    rw [partsL]
    rcases List.mem_cons.1 h with rfl | h
    · omega
    · have := parts_kid h; omega

/-- What a Kid in one form brings to the list of a blind function. -/
def flatK (f : Int) (k : TermD) : List TermD := if k.f ≠ f then [k] else k.kids

theorem foldP_perm (ks out : List TermD) : (ks.foldl (fun o x => putT x o) out).Perm (out ++ ks) := by
  induction ks generalizing out with
  | nil => simp
  | cons t ts ih =>
    rw [List.foldl_cons]
    refine (ih _).trans ?_
    exact ((putT_perm t out).append_right ts).trans (List.perm_middle.symm)
theorem foldP_sorted (ks : List TermD) : ∀ {out : List TermD}, out.Pairwise leT → (ks.foldl (fun o x => putT x o) out).Pairwise leT := by
  induction ks with
  | nil => intro out h; exact h
  | cons t ts ih => intro out h; rw [List.foldl_cons]; exact ih (putT_sorted h)
theorem stepN_perm (f : Int) (k : TermD) (out : List TermD) : (stepN true f k out).Perm (out ++ flatK f k) := by
  unfold stepN flatK
  simp only [Bool.true_eq_false, ↓reduceIte]
  split
  · exact (putT_perm k out).trans (by simpa using (List.perm_middle (a := k) (l₁ := out) (l₂ := [])).symm)
  · exact foldP_perm _ _
theorem stepN_sorted (f : Int) (k : TermD) {out : List TermD} (h : out.Pairwise leT) : (stepN true f k out).Pairwise leT := by
  unfold stepN
  simp only [Bool.true_eq_false, ↓reduceIte]
  split
  · exact putT_sorted h
  · exact foldP_sorted _ h
theorem normL_perm (bl : Int → Bool) (f : Int) (hf : bl f = true) (ks : List TermD) : ∀ out, (normL bl f ks out).Perm (out ++ ks.flatMap (fun k => flatK f (normT bl k))) := by
  induction ks with
  | nil => intro out; simp [normL]
  | cons k ks ih =>
    intro out
    rw [normL, hf, List.flatMap_cons, ← List.append_assoc]
    exact (ih _).trans ((stepN_perm f _ out).append_right _)
theorem normL_sorted (bl : Int → Bool) (f : Int) (hf : bl f = true) (ks : List TermD) : ∀ {out}, out.Pairwise leT → (normL bl f ks out).Pairwise leT := by
  induction ks with
  | nil => intro out h; rw [normL]; exact h
  | cons k ks ih => intro out h; rw [normL, hf]; exact ih (stepN_sorted f _ h)
theorem normL_map (bl : Int → Bool) (f : Int) (hf : bl f = false) (ks : List TermD) : ∀ out, normL bl f ks out = out ++ ks.map (normT bl) := by
  induction ks with
  | nil => intro out; simp [normL]
  | cons k ks ih => intro out; rw [normL, hf, ih]; simp [stepN]

/-- In one form. -/
inductive IsN (bl : Int → Bool) : TermD → Prop
  | mk (t : TermD) (hk : ∀ k ∈ t.kids, IsN bl k) (hb : bl t.f = true → t.kids.Pairwise leT ∧ ∀ k ∈ t.kids, k.f ≠ t.f) : IsN bl t

theorem normT_isN (bl : Int → Bool) : ∀ (n : Nat) (t : TermD), partsT t ≤ n → IsN bl (normT bl t) := by
  intro n
  induction n with
  | zero => intro t h; rw [partsT_eq] at h; omega
  | succ n ih =>
    intro t h
    rw [partsT_eq] at h
    have IH : ∀ k ∈ t.kids, IsN bl (normT bl k) := fun k hk => ih k (by have := parts_kid hk; omega)
    rw [normT_eq]
    by_cases hf : bl t.f = true
    · have hp := normL_perm bl t.f hf t.kids []
      rw [List.nil_append] at hp
      have hm : ∀ x ∈ normL bl t.f t.kids [], IsN bl x ∧ x.f ≠ t.f := by
        intro x hx
        obtain ⟨k, hk, hx⟩ := List.mem_flatMap.1 (hp.subset hx)
        have hN := IH k hk
        unfold flatK at hx
        split at hx
        · next h => rw [List.mem_singleton] at hx; subst hx; exact ⟨hN, h⟩
        · next h =>
          have h : (normT bl k).f = t.f := Decidable.not_not.1 h
          cases hN with
          | mk _ h1 h2 => exact ⟨h1 x hx, fun e => (h2 (by rw [h]; exact hf)).2 x hx (by rw [e, h])⟩
      exact .mk _ (fun k hk => (hm k hk).1) (fun _ => ⟨normL_sorted bl t.f hf t.kids .nil, fun k hk => (hm k hk).2⟩)
    · have hf : bl t.f = false := by simpa using hf
      rw [normL_map bl t.f hf, List.nil_append]
      refine .mk _ (fun x hx => ?_) (fun h => by rw [show (TermD.mk t.f t.v (t.kids.map (normT bl))).f = t.f from rfl, hf] at h; cases h)
      obtain ⟨k, hk, rfl⟩ := List.mem_map.1 hx
      exact IH k hk
theorem normT_self (bl : Int → Bool) {t : TermD} (h : IsN bl t) : normT bl t = t := by
  induction h with
  | mk t hk hb ih =>
    rw [normT_eq]
    have e : normL bl t.f t.kids [] = t.kids := by
      by_cases hf : bl t.f = true
      · have hp := normL_perm bl t.f hf t.kids []
        rw [List.nil_append] at hp
        have e : t.kids.flatMap (fun k => flatK t.f (normT bl k)) = t.kids := by
          have : ∀ l : List TermD, (∀ k ∈ l, normT bl k = k ∧ k.f ≠ t.f) → l.flatMap (fun k => flatK t.f (normT bl k)) = l := by
            intro l
            induction l with
            | nil => intro _; rfl
            | cons x xs ihx =>
              intro hx
              have h0 := hx x (by simp)
              rw [List.flatMap_cons, ihx (fun k hk => hx k (by simp [hk])), h0.1]
              simp [flatK, h0.2]
          exact this _ (fun k hk => ⟨ih k hk, (hb hf).2 k hk⟩)
        rw [e] at hp
        exact sorted_ext (normL_sorted bl t.f hf t.kids .nil) (hb hf).1 hp
      · have hf : bl t.f = false := by simpa using hf
        rw [normL_map bl t.f hf, List.nil_append]
        exact (List.map_congr_left ih).trans (List.map_id' _)
    rw [e]
    cases t; rfl
/-- The form of a form is it. -/
theorem normT_idem (bl : Int → Bool) (t : TermD) : normT bl (normT bl t) = normT bl t := normT_self bl (normT_isN bl _ t (Nat.le_refl _))

/-- In any order. -/
theorem normT_perm (bl : Int → Bool) {f v : Int} (hf : bl f = true) {us bs : List TermD} (h : us.Perm bs) : normT bl (.mk f v us) = normT bl (.mk f v bs) := by
  rw [normT, normT]
  congr 1
  refine sorted_ext (normL_sorted bl f hf us .nil) (normL_sorted bl f hf bs .nil) ?_
  have h1 := normL_perm bl f hf us []
  have h2 := normL_perm bl f hf bs []
  exact (h1.trans (by simpa using h.flatMap_right _)).trans h2.symm
/-- In brackets. -/
theorem normT_in (bl : Int → Bool) {f v v' : Int} (hf : bl f = true) (us bs : List TermD) : normT bl (.mk f v (normT bl (.mk f v' us) :: bs)) = normT bl (.mk f v (us ++ bs)) := by
  rw [normT, normT]
  congr 1
  refine sorted_ext (normL_sorted bl f hf _ .nil) (normL_sorted bl f hf _ .nil) ?_
  have h1 := normL_perm bl f hf (normT bl (.mk f v' us) :: bs) []
  have h2 := normL_perm bl f hf (us ++ bs) []
  refine (h1.trans ?_).trans h2.symm
  rw [List.nil_append, List.nil_append, List.flatMap_cons, List.flatMap_append, normT_idem]
  refine List.Perm.append_right _ ?_
  have h3 := normL_perm bl f hf us []
  rw [List.nil_append] at h3
  have e : flatK f (normT bl (.mk f v' us)) = normL bl f us [] := by rw [normT]; simp [flatK, TermD.f, TermD.kids]
  rw [e]
  exact h3
end Go.Proofs.YtollijngiioonabGreat

/- Weights as data. Conditions: none. -/
namespace Go.Proofs.YtollijngiioonabGreat
set_option maxRecDepth 100000
open Go.RowKit

mutual
/-- The weight. -/
def wgtT (bl : Int → Bool) : TermD → Nat
  | .mk f _ ks => (if bl f && !ks.isEmpty then ks.length - 1 else 1) + wgtL bl ks
def wgtL (bl : Int → Bool) : List TermD → Nat
  | [] => 0
  | k :: ks => wgtT bl k + wgtL bl ks
end
theorem wgtT_eq (bl : Int → Bool) (t : TermD) : wgtT bl t = (if bl t.f && !t.kids.isEmpty then t.kids.length - 1 else 1) + wgtL bl t.kids := by cases t; rw [wgtT]; rfl
theorem wgtL_append (bl : Int → Bool) (a b : List TermD) : wgtL bl (a ++ b) = wgtL bl a + wgtL bl b := by
  induction a with
  | nil => simp [wgtL]
  | cons t ts ih => simp only [List.cons_append, wgtL, ih]; omega
theorem wgtL_next (bl : Int → Bool) {ts : List TermD} {k : Nat} (h : k < ts.length) : wgtL bl (ts.take (k + 1)) = wgtL bl (ts.take k) + wgtT bl ts[k] := by
  rw [List.take_succ_eq_append_getElem h, wgtL_append]
  simp [wgtL]
mutual
theorem wgtT_pos (bl : Int → Bool) : ∀ t : TermD, 1 ≤ wgtT bl t
  | .mk f v ks => by
    have h := wgtL_pos bl ks
    rw [wgtT]
    split
    · next hb =>
      have : ks ≠ [] := by intro e; subst e; simp at hb
      have := List.length_pos_iff.2 this
      omega
    · omega
theorem wgtL_pos (bl : Int → Bool) : ∀ ks : List TermD, ks.length ≤ wgtL bl ks
  | [] => by simp
  | k :: ks => by have := wgtT_pos bl k; have := wgtL_pos bl ks; rw [wgtL, List.length_cons]; omega
end
mutual
/-- A weight is less than twice the number of parts. -/
theorem wgtT_parts (bl : Int → Bool) : ∀ t : TermD, wgtT bl t + 1 ≤ 2 * partsT t
  | .mk f v ks => by
    have h := wgtL_parts bl ks
    rw [wgtT, partsT]
    split <;> omega
theorem wgtL_parts (bl : Int → Bool) : ∀ ks : List TermD, wgtL bl ks + ks.length ≤ 2 * partsL ks
  | [] => by simp [wgtL, partsL]
  | k :: ks => by have := wgtT_parts bl k; have := wgtL_parts bl ks; rw [wgtL, partsL, List.length_cons]; omega
end
end Go.Proofs.YtollijngiioonabGreat

/- Right terms, weights, and terms that are made, as data; what a right term's form and weight are. Conditions: none. -/
namespace Go.Proofs.YtollijngiioonabGreat
set_option maxRecDepth 100000
open Go.RowKit

/-- Before the one ahead of it, if there is one. -/
def befO (k : TermD) : Option TermD → Bool
  | some q => befT k q
  | none => false
mutual
/-- Right, of any size. -/
def rightT (ss : List SymD) : TermD → Bool
  | .mk f v ks => if f = -1 then decide (0 ≤ v ∧ v ≤ 99) && ks.isEmpty
    else decide (0 ≤ f ∧ f < ss.length) && v == 0 && (if blindAt ss f then decide (2 ≤ ks.length) else (ks.length : Int) == arityAt ss f) && rightL ss f none ks
/-- The Kids, the one ahead of them known. -/
def rightL (ss : List SymD) (f : Int) : Option TermD → List TermD → Bool
  | _, [] => true
  | p, k :: ks => !(blindAt ss f && (k.f == f || befO k p)) && rightT ss k && rightL ss f (some k) ks
end
theorem rightT_eq (ss : List SymD) (t : TermD) : rightT ss t = if t.f = -1 then decide (0 ≤ t.v ∧ t.v ≤ 99) && t.kids.isEmpty
    else decide (0 ≤ t.f ∧ t.f < ss.length) && t.v == 0 && (if blindAt ss t.f then decide (2 ≤ t.kids.length) else (t.kids.length : Int) == arityAt ss t.f) && rightL ss t.f none t.kids := by
  cases t; rw [rightT]; rfl
theorem rightL_all (ss : List SymD) (f : Int) : ∀ (ks : List TermD) (p : Option TermD), rightL ss f p ks = true → ∀ k ∈ ks, rightT ss k = true ∧ (blindAt ss f = true → k.f ≠ f)
  | [], _, _ => by simp
  | x :: xs, p, h => by
    rw [rightL, Bool.and_eq_true, Bool.and_eq_true] at h
    intro k hk
    rcases List.mem_cons.1 hk with rfl | hk
    · refine ⟨h.1.2, fun hb e => ?_⟩
      have := h.1.1
      rw [hb, e] at this
      simp at this
    · exact rightL_all ss f xs (some x) h.2 k hk
theorem rightL_from (ss : List SymD) (f : Int) (hb : blindAt ss f = true) : ∀ (ks : List TermD) (q : TermD), rightL ss f (some q) ks = true → (q :: ks).Pairwise leT
  | [], q, _ => by simp
  | x :: xs, q, h => by
    rw [rightL, Bool.and_eq_true, Bool.and_eq_true] at h
    have h0 : leT q x := by
      rw [← befT_leT]
      have := h.1.1
      rw [hb] at this
      simp only [Bool.true_and, Bool.not_eq_true', Bool.or_eq_false_iff] at this
      exact this.2
    have h1 := rightL_from ss f hb xs x h.2
    refine List.Pairwise.cons (fun y hy => ?_) h1
    rcases List.mem_cons.1 hy with rfl | hy
    · exact h0
    · exact leT_trans h0 ((List.pairwise_cons.1 h1).1 y hy)
theorem rightL_sorted (ss : List SymD) (f : Int) (hb : blindAt ss f = true) (ks : List TermD) (h : rightL ss f none ks = true) : ks.Pairwise leT := by
  cases ks with
  | nil => exact .nil
  | cons x xs =>
    rw [rightL, Bool.and_eq_true] at h
    exact rightL_from ss f hb xs x h.2
theorem right_isN (ss : List SymD) : ∀ (n : Nat) (t : TermD), partsT t ≤ n → rightT ss t = true → IsN (blindAt ss) t := by
  intro n
  induction n with
  | zero => intro t h; rw [partsT_eq] at h; omega
  | succ n ih =>
    intro t hn h
    rw [partsT_eq] at hn
    rw [rightT_eq] at h
    split at h
    · simp only [Bool.and_eq_true, List.isEmpty_iff] at h
      exact .mk t (by simp [h.2]) (fun _ => by simp [h.2])
    · simp only [Bool.and_eq_true] at h
      have ha := rightL_all ss t.f t.kids none h.2
      exact .mk t (fun k hk => ih k (by have := parts_kid hk; omega) (ha k hk).1) (fun hb => ⟨rightL_sorted ss t.f hb t.kids h.2, fun k hk => (ha k hk).2 hb⟩)
/-- One form of what is right is it. -/
theorem right_self (ss : List SymD) {t : TermD} (h : rightT ss t = true) : normT (blindAt ss) t = t := normT_self _ (right_isN ss _ t (Nat.le_refl _) h)


/-- A term that is made of a function and Kids. -/
def makeT (ss : List SymD) (f : Int) (ks : List TermD) : TermD :=
  if blindAt ss f = true ∧ ks = [] then .mk 0 0 []
  else if blindAt ss f = true ∧ ks.length = 1 then normT (blindAt ss) (ks.headD (.mk 0 0 []))
  else if ¬ (0 ≤ f ∧ f < ss.length) then .mk f 0 ks
  else normT (blindAt ss) (.mk f 0 ks)
theorem blindAt_lt {ss : List SymD} {f : Int} (h : blindAt ss f = true) : 0 ≤ f ∧ f < ss.length := by
  unfold blindAt at h
  split at h
  · next h0 =>
    refine ⟨h0, ?_⟩
    by_cases hl : f.toNat < ss.length
    · omega
    · rw [List.getElem?_eq_none (by omega)] at h; cases h
  · cases h
theorem makeT_blind {ss : List SymD} {f : Int} (h : blindAt ss f = true) {ks : List TermD} (hl : 2 ≤ ks.length) : makeT ss f ks = normT (blindAt ss) (.mk f 0 ks) := by
  unfold makeT
  rw [if_neg (by rintro ⟨_, rfl⟩; simp at hl), if_neg (by rintro ⟨_, e⟩; omega), if_neg (by simpa using blindAt_lt h)]
/-- In any order. -/
theorem makeT_perm {ss : List SymD} {f : Int} (h : blindAt ss f = true) {us bs : List TermD} (hl : 2 ≤ us.length) (hp : us.Perm bs) : makeT ss f us = makeT ss f bs := by
  rw [makeT_blind h hl, makeT_blind h (by rw [← hp.length_eq]; exact hl)]
  exact normT_perm _ h hp
/-- In brackets. -/
theorem makeT_in {ss : List SymD} {f : Int} (h : blindAt ss f = true) {us bs : List TermD} (ha : 2 ≤ us.length) (hb : 1 ≤ bs.length) : makeT ss f (makeT ss f us :: bs) = makeT ss f (us ++ bs) := by
  rw [makeT_blind h (by simp; omega), makeT_blind h ha, makeT_blind h (by simp; omega)]
  exact normT_in _ h us bs
end Go.Proofs.YtollijngiioonabGreat

/- A region that draws its order, whose operations only read and whose callees may lay blocks of their own, walked once, in the order of the text: the class of worlds in which all that was there lies as it lay. Conditions: none. -/
namespace Go.Proofs.YtollijngiioonabGreat
set_option maxRecDepth 100000
open Go.RowKit

/-- A world in which all that lay in w lies as it lay. -/
structure BW (w : World) where
  u : World
  b : Below w.heap.size w u
instance (w : World) : Inhabited (BW w) := ⟨⟨w, Below.refl _ _⟩⟩
theorem wp_region_below {P : Program} {id : Nat} {Q : Exit → Act → World → Prop} {a : Act} {w : World} {l : List Oper} (hm : P.follows .mixedOrders = true) (hB : Region.lexB .any l.toArray = true)
    (h : wpQuiet P l.toArray (fun w' => ∃ p : BW w, w' = p.u) (fun a' => ∀ w', (∃ p : BW w, w' = p.u) → Q .normal a' w') l a) : (Code.region id l.toArray true).wp P Q a w :=
  wp_region_quiet (C := fun w' => ∃ p : BW w, w' = p.u) hm hB ⟨⟨w.drew, (Below.refl _ _).drew⟩, rfl⟩ (by simpa using h)
/-- What was there is there. -/
theorem cellB {w : World} {a : Addr} {v : Value} (h : w.cell? a = some v) (p : BW w) : p.u.cell? a = some v := (p.b.cell (World.block_lt_of_cell? w a h)).trans h
/-- A callee's contract, met in a world of the class. -/
theorem callsB {P : Program} {f : FuncId} {args : Array Value} {w : World} {p : BW w} {v : Value}
    (h : Calls P f args p.u fun e w' => e = .returned v ∧ Below p.u.heap.size p.u w') : Calls P f args p.u fun e w'' => e = .returned v ∧ ∃ q : BW w, w'' = q.u :=
  h.mono fun _ w' ⟨he, hb⟩ => ⟨he, ⟨w', p.b.trans (hb.mono p.b.size)⟩, rfl⟩
end Go.Proofs.YtollijngiioonabGreat

/- Whether a term is right, as the specification tells it. Conditions: terms of at most 549755813888 parts, at most 1048577 functions. -/
namespace Go.Proofs.YtollijngiioonabGreat
set_option maxRecDepth 100000
open Go.RowKit Go.BigFrame

theorem rightT_mk (ss : List SymD) (f v : Int) (ks : List TermD) : rightT ss (.mk f v ks) = if f = -1 then decide (0 ≤ v ∧ v ≤ 99) && ks.isEmpty
    else decide (0 ≤ f ∧ f < ss.length) && v == 0 && (if blindAt ss f then decide (2 ≤ ks.length) else (ks.length : Int) == arityAt ss f) && rightL ss f none ks := by rw [rightT]

theorem l1In_any (x lo hi : Int) (w : World) : Calls Tryz.prog 57 #[.int .i64 x, .int .i64 lo, .int .i64 hi] w fun e w' => e = .returned (.bool (decide (lo ≤ x) && decide (x ≤ hi))) ∧ w' = w := by
  by_cases h : lo ≤ x
  · go_enter Tryz.func57, Tryz.ntmps57
    go_wp2
    go_ret
    exact ⟨rtB (by simp [h]), rfl⟩
  · go_enter Tryz.func57, Tryz.ntmps57
    go_wp2
    go_ret
    exact ⟨rtB (by simp; omega), rfl⟩

end Go.Proofs.YtollijngiioonabGreat

/- Whether a term is right, its size too, as the specification tells it. Conditions: terms of at most 549755813888 parts, at most 1048577 functions. -/
namespace Go.Proofs.YtollijngiioonabGreat
set_option maxRecDepth 100000
open Go.RowKit

end Go.Proofs.YtollijngiioonabGreat

/- Which equation is ahead, and which is right, as the specification tells. Conditions: at most 549755813888 parts. -/
namespace Go.Proofs.YtollijngiioonabGreat
set_option maxRecDepth 100000
open Go.RowKit

def tokX (ss : List SymD) (t : TermD) : Bool := sigOk ss && decide (partsT t ≤ 60) && rightT ss t
def okX (ss : List SymD) (x : LitD) : Bool := tokX ss x.l && tokX ss x.r && !befT x.l x.r
end Go.Proofs.YtollijngiioonabGreat

/- How the program holds the heads of two terms against each other. Conditions: none. -/
namespace Go.Proofs.YtollijngiioonabGreat
set_option maxRecDepth 100000
open Go.RowKit

theorem isNaN_any (x : Int) (w : World) : Calls Tryz.prog 95 #[.int .i64 x] w fun e w' => e = .returned (.bool false) ∧ w' = w := by
  have h : (x != x) = false := by simp
  go_enter Tryz.func95, Tryz.ntmps95
  go_wp2
  go_ret
  exact ⟨rfl, rfl⟩

theorem compare_any (x y : Int) (w : World) : Calls Tryz.prog 73 #[.int .i64 x, .int .i64 y] w fun e w' => e = .returned (.int .i64 (cmpI x y)) ∧ w' = w := by
  by_cases h1 : x < y
  · have HC : Hid (cmpI x y = -1) := by show _ = _; unfold cmpI; rw [if_pos h1]
    go_enter Tryz.func73, Tryz.ntmps73
    go_wp2_with (go_at_call 95; refine (isNaN_any _ _).mono ?_; rintro e w' ⟨rfl, rfl⟩)
    go_ret
    exact ⟨rtI HC.out.symm, rfl⟩
  · by_cases h2 : y < x
    · have HC : Hid (cmpI x y = 1) := by show _ = _; unfold cmpI; rw [if_neg h1, if_pos h2]
      go_enter Tryz.func73, Tryz.ntmps73
      go_wp2_with (go_at_call 95; refine (isNaN_any _ _).mono ?_; rintro e w' ⟨rfl, rfl⟩)
      go_ret
      exact ⟨rtI HC.out.symm, rfl⟩
    · have HC : Hid (cmpI x y = 0) := by show _ = _; unfold cmpI; rw [if_neg h1, if_neg h2]
      go_enter Tryz.func73, Tryz.ntmps73
      go_wp2_with (go_at_call 95; refine (isNaN_any _ _).mono ?_; rintro e w' ⟨rfl, rfl⟩)
      go_ret
      exact ⟨rtI HC.out.symm, rfl⟩

theorem or3_any (g : Nat) (x y z : Int) (w : World) (h0 : w.cell? ⟨g, 0, none⟩ = some (.int .i64 x)) (h1 : w.cell? ⟨g, 1, none⟩ = some (.int .i64 y)) (h2 : w.cell? ⟨g, 2, none⟩ = some (.int .i64 z)) :
    Calls Tryz.prog 72 #[.slice (some ⟨g, 0, none⟩) 3 3] w fun e w' => e = .returned (.int .i64 (or3 x y z)) ∧ w' = w := by
  go_enter Tryz.func72, Tryz.ntmps72
  go_wp2
  refine wp_loop_rounds 4 ?_
  rw [rounds_succ]
  by_cases e0 : x = 0
  · have b0 : (x != 0) = false := by simp [e0]
    go_wp2
    rw [rounds_succ]
    by_cases e1 : y = 0
    · have b1 : (y != 0) = false := by simp [e1]
      go_wp2
      rw [rounds_succ]
      by_cases e2 : z = 0
      · have b2 : (z != 0) = false := by simp [e2]
        have HC : Hid (or3 x y z = 0) := by show _ = _; unfold or3; simp [e0, e1, e2]
        clear e0 e1 e2
        go_wp2
        rw [rounds_succ]
        go_wp2
        go_ret
        exact ⟨rtI HC.out.symm, rfl⟩
      · have b2 : (z != 0) = true := by simp [e2]
        have HC : Hid (or3 x y z = z) := by show _ = _; unfold or3; simp [e0, e1]
        clear e0 e1 e2
        go_wp2
        go_ret
        exact ⟨rtI HC.out.symm, rfl⟩
    · have b1 : (y != 0) = true := by simp [e1]
      have HC : Hid (or3 x y z = y) := by show _ = _; unfold or3; simp [e0, e1]
      clear e0 e1
      go_wp2
      go_ret
      exact ⟨rtI HC.out.symm, rfl⟩
  · have b0 : (x != 0) = true := by simp [e0]
    have HC : Hid (or3 x y z = x) := by show _ = _; unfold or3; simp [e0]
    clear e0
    go_wp2
    go_ret
    exact ⟨rtI HC.out.symm, rfl⟩

set_option maxHeartbeats 1600000 in
theorem headOrder_any (t u : TermD) (a a' : Option Addr) (c c' : Nat) (w : World) :
    Calls Tryz.prog 63 #[.agg #[.int .i64 t.f, .int .i64 t.v, .slice a t.kids.length c], .agg #[.int .i64 u.f, .int .i64 u.v, .slice a' u.kids.length c']] w fun e w' => e = .returned (.int .i64 (headO t u)) ∧ Below w.heap.size w w' := by
  have HC : Hid (headO t u = or3 (cmpI t.f u.f) (cmpI t.v u.v) (cmpI t.kids.length u.kids.length)) := rfl
  generalize t.kids.length = n at *
  generalize u.kids.length = m at *
  go_enter Tryz.func63, Tryz.ntmps63
  go_wp2_with fail
  go_region_held3 (fun w' => w'.cell? ⟨w.heap.size, 0, none⟩ = some (.int .i64 t.f) ∧ w'.cell? ⟨w.heap.size, 1, none⟩ = some (.int .i64 t.v) ∧ w'.cell? ⟨w.heap.size, 2, none⟩ = some (.slice a n c) ∧ w'.cell? ⟨w.heap.size + 1, 0, none⟩ = some (.int .i64 u.f) ∧ w'.cell? ⟨w.heap.size + 1, 1, none⟩ = some (.int .i64 u.v) ∧ w'.cell? ⟨w.heap.size + 1, 2, none⟩ = some (.slice a' m c')) (first | go_keep | skip)
    (first | (go_at_call 73; refine (compare_any _ _ _).mono ?_; rintro e w' ⟨rfl, hw⟩; subst w') | (go_at_call 72; refine (or3_any _ (cmpI t.f u.f) (cmpI t.v u.v) (cmpI n m) _ ?_ ?_ ?_).mono ?_; (simp [go_sem]); (simp [go_sem]); (simp [go_sem]); rintro e w' ⟨rfl, hw⟩; subst w'))
  go_wp2_with fail
  go_ret
  exact ⟨rtI HC.out.symm, (((((Below.refl w.heap.size w).alloc (Nat.le_refl _) _).alloc (by simp) _).alloc (by simp; omega) _).drew)⟩
end Go.Proofs.YtollijngiioonabGreat

/- The rest of a slice of terms behind its first. Conditions: none. -/
namespace Go.Proofs.YtollijngiioonabGreat
set_option maxRecDepth 100000
open Go.RowKit

theorem slice_tail (b off n c : Nat) (w : World) : (Instr.slice 32 (.slice (some ⟨b, off, none⟩) (n + 1) c) (some (.int .i64 1)) none none).run Tryz.prog w = .ok (.slice (tailA b off c) n (c - 1)) w := by
  have h0 : (sizeOf 34).run Tryz.prog w = .ok 3 w := by simp [go_sem]
  simp only [Instr.slice, Sem.run_bind, run_underlying Tryz.underlying32, Result.andThen]
  have hb : (Instr.sliceBounds true (n + 1) c (some (.int .i64 1)) none none).run Tryz.prog w = .ok (1, n + 1, c) w := by
    simp [Instr.sliceBounds, Instr.sliceBound, asIntOf, go_sem]
    omega
  simp only [hb, h0, Sem.run_pure]
  unfold tailA
  split <;> simp [Addr.add]
theorem sliceAt_tail (b off n c : Nat) (w : World) : (Instr.sliceAt 32 (.slice (some ⟨b, off, none⟩) (n + 1) c) (some (.int .i64 1)) none none).run Tryz.prog w = .ok (.slice (tailA b off c) n (c - 1)) w := by
  simp only [Instr.sliceAt, Sem.run_bind, run_underlying Tryz.underlying32, Result.andThen, slice_tail b off n c w]

end Go.Proofs.YtollijngiioonabGreat

/- How the program holds two terms against each other. Conditions: terms of at most 549755813888 parts. -/
namespace Go.Proofs.YtollijngiioonabGreat
set_option maxRecDepth 100000
open Go.RowKit

theorem info99 : (Tryz.prog.info? 103).map (fun i => (i.zero, i.size, i.bytes)) = some (some (.agg #[.slice none 0 0, .slice none 0 0]), 2, 48) := by kernel_rfl

theorem far2 (w : World) {g j j' : Nat} {v v' : Value} {p : Addr} (h : p.block ≠ g) : ((w.setCell ⟨g, j, none⟩ v).setCell ⟨g, j', none⟩ v').drew.cell? p = w.cell? p := by
  show World.cell? ((w.setCell ⟨g, j, none⟩ v).setCell ⟨g, j', none⟩ v') p = _
  refine World.cell?_of_block ?_
  rw [Below.heap_setCell _ _ _ _ h, Below.heap_setCell _ _ _ _ h]

/-- The stack as it is laid at first. -/
theorem ord_start {t u : TermD} {a a' : Option Addr} {c c' hi : Nat} {w w1 w2 : World} {v : Value} {cap g : Nat} (hr : RdK w hi a t.kids) (hr' : RdK w hi a' u.kids) (hle : t.kids.length ≤ c) (hle' : u.kids.length ≤ c') (hhi : hi ≤ w.heap.size) (hb1 : Below w.heap.size w w1) (hg : g < w1.heap.size)
    (hown : w2.ownsRow w.heap.size 103 2 v (0 + 1) ([] ++ [.slice (some ⟨w1.heap.size, 0, none⟩) 1 1, .slice (some ⟨w1.heap.size + 1, 0, none⟩) 1 1]))
    (hgrow : (((w1.alloc (.cells #[.int .i64 t.f, .int .i64 t.v, .slice a t.kids.length c] 34)).alloc (.cells #[.int .i64 u.f, .int .i64 u.v, .slice a' u.kids.length c'] 34)).alloc (.cells #[.slice (some ⟨w1.heap.size, 0, none⟩) 1 1, .slice (some ⟨w1.heap.size + 1, 0, none⟩) 1 1] 103)).grownBy w2 (Value.slice (some ⟨g, 0, none⟩) 0 cap).ownBlock)
    (hbase : w.heap.size ≤ g) : ∃ E, OrdSt w w1.heap.size 103 34 (ordT t u) (2 * partsT t + 1) E v w2 := by
  have hx : w1.heap.size ≠ g ∧ w1.heap.size + 1 ≠ g := by omega
  have hs1 := hb1.size
  have hc : ∀ k, k < w1.heap.size + 3 → k ≠ g → w2.heap[k]? = ((((w1.alloc (.cells #[.int .i64 t.f, .int .i64 t.v, .slice a t.kids.length c] 34)).alloc (.cells #[.int .i64 u.f, .int .i64 u.v, .slice a' u.kids.length c'] 34)).alloc (.cells #[.slice (some ⟨w1.heap.size, 0, none⟩) 1 1, .slice (some ⟨w1.heap.size + 1, 0, none⟩) 1 1] 103)).heap[k]? : Option Obj) :=
    fun k hk hne => hgrow.block k (by simp; omega) (fun e => hne (by simpa [Value.ownBlock] using e))
  have b0 : w2.heap[w1.heap.size]? = some (.cells #[.int .i64 t.f, .int .i64 t.v, .slice a t.kids.length c] 34) := by
    rw [hc _ (by omega) hx.1, Below.heap_alloc _ _ _ (by simp; omega), Below.heap_alloc _ _ _ (by simp)]; exact World.alloc_heap_new _ _
  have b1 : w2.heap[w1.heap.size + 1]? = some (.cells #[.int .i64 u.f, .int .i64 u.v, .slice a' u.kids.length c'] 34) := by
    rw [hc _ (by omega) hx.2, Below.heap_alloc _ _ _ (by simp)]
    have := World.alloc_heap_new (w1.alloc (.cells #[.int .i64 t.f, .int .i64 t.v, .slice a t.kids.length c] 34)) (.cells #[.int .i64 u.f, .int .i64 u.v, .slice a' u.kids.length c'] 34)
    rwa [World.size_alloc] at this
  have hb2 : Below w.heap.size w w2 := by
    refine ((((hb1.alloc hs1 _).alloc (by simp; omega) _).alloc (by simp; omega) _).grown hgrow (by simp; omega) (fun k e => ?_))
    have : g = k := by simpa [Value.ownBlock] using e
    omega
  have cell : ∀ {b : Nat} {cs : Array Value} {T : Nat} (j : Nat), w2.heap[b]? = some (.cells cs T) → w2.cell? ⟨b, j, none⟩ = cs[j]? := fun j h => by simp [World.cell?, h]
  have hk : ∀ {b : Nat} {x : TermD} {y : Option Addr} {z : Nat}, Fx w.heap.size w1.heap.size b → w2.heap[b]? = some (.cells #[.int .i64 x.f, .int .i64 x.v, .slice y x.kids.length z] 34) → x.kids.length ≤ z → RdK w hi y x.kids → RdP w2 (Fx w.heap.size w1.heap.size) (some ⟨b, 0, none⟩) [x] := by
    intro b x y z hb h hz hr
    refine .row b 0 [x] (fun _ => y) (fun _ => z) hb (fun i hi => ?_) (fun i hi => ?_) (fun i hi => ?_)
    all_goals
      have e : i = 0 := by simp at hi; omega
      subst e
      simp only [List.getElem_cons_zero]
    · exact hz
    · refine ⟨?_, ?_, ?_⟩
      all_goals rw [cell _ h]; simp
    · exact (hr.on (hb2.mono hhi)).p (fun k hk => .inl (by omega))
  refine ⟨[⟨some ⟨w1.heap.size, 0, none⟩, 1, [t], some ⟨w1.heap.size + 1, 0, none⟩, 1, [u]⟩], hown, ⟨_, _, b0⟩, ⟨_, _, b1⟩, by decide, hs1, fun e he => ?_, ?_, ?_, hb2⟩
  · simp only [List.mem_singleton] at he
    subst he
    exact ⟨hk (.inr (.inl rfl)) b0 hle hr, hk (.inr (.inr rfl)) b1 hle' hr', Nat.le_refl _, Nat.le_refl _, rfl⟩
  · simp only [dataP, List.map_cons, List.map_nil, ordS, ordL_cons, ordL_nil]; by_cases e : ordT t u = 0 <;> simp [e]
  · simp [dataP, sizeS, partsL]

set_option maxHeartbeats 3200000 in
set_option maxRecDepth 100000 in
theorem termOrder_any (t u : TermD) (a a' : Option Addr) (c c' hi : Nat) (w : World) (hp : partsT t ≤ 549755813888) (hr : RdK w hi a t.kids) (hr' : RdK w hi a' u.kids) (hle : t.kids.length ≤ c) (hle' : u.kids.length ≤ c') (hhi : hi ≤ w.heap.size) :
    Calls Tryz.prog 54 #[.agg #[.int .i64 t.f, .int .i64 t.v, .slice a t.kids.length c], .agg #[.int .i64 u.f, .int .i64 u.v, .slice a' u.kids.length c']] w fun e w' => e = .returned (.int .i64 (ordT t u)) ∧ Below w.heap.size w w' := by
  obtain ⟨i0, hi0, hz0, hz1, hz2⟩ := info_parts info99
  obtain ⟨W, hW⟩ : ∃ W, W = (w.alloc (.cells #[.int .i64 t.f, .int .i64 t.v, .slice a t.kids.length c] 34)).alloc (.cells #[.int .i64 u.f, .int .i64 u.v, .slice a' u.kids.length c'] 34) := ⟨_, rfl⟩
  have hWs : W.heap.size = w.heap.size + 1 + 1 := by rw [hW]; simp
  have hWb : Below w.heap.size w W := by rw [hW]; exact ((Below.refl _ _).alloc (Nat.le_refl _) _).alloc (by simp) _
  have P0 : W.cell? ⟨w.heap.size, 0, none⟩ = some (.int .i64 t.f) ∧ W.cell? ⟨w.heap.size, 1, none⟩ = some (.int .i64 t.v) ∧ W.cell? ⟨w.heap.size, 2, none⟩ = some (.slice a t.kids.length c) ∧ W.cell? ⟨w.heap.size + 1, 0, none⟩ = some (.int .i64 u.f) ∧ W.cell? ⟨w.heap.size + 1, 1, none⟩ = some (.int .i64 u.v) ∧ W.cell? ⟨w.heap.size + 1, 2, none⟩ = some (.slice a' u.kids.length c') := by rw [hW]; simp [go_sem]
  obtain ⟨r, hrr⟩ : ∃ r, r = ordT t u := ⟨_, rfl⟩
  rw [← hrr]
  have HRR : Hid (r = ordT t u) := hrr
  clear hrr
  go_enter Tryz.func54, Tryz.ntmps54
  go_wp2_with (first
    | (at_make; rw [← hW]; refine wpList_make_own _ rfl _ _ 101 rfl w.heap.size 103 i0 _ 2 Tryz.underlying101 hi0 hz0 hz1 _ _ _ 8 rfl rfl (by omega) (by rw [hz2]; omega) (by unfold maxLen; omega) (by omega) ?_; intro w1 hown1 hgrow1; rw [hWs] at hown1 ⊢; have hb1 : Below W.heap.size W w1 := (Below.refl _ _).grown hgrow1 (Nat.le_refl _) (fun k e => by cases e); have hg1 : w.heap.size + 1 + 1 < w1.heap.size := (hown1.lt _ rfl).2; have hg2 : w.heap.size + 1 < w1.heap.size := (by omega); have hg3 : w.heap.size < w1.heap.size := (by omega); obtain ⟨p0, p1, p2, p3, p4, p5⟩ := P0; have p0 := keepC hb1 p0; have p1 := keepC hb1 p1; have p2 := keepC hb1 p2; have p3 := keepC hb1 p3; have p4 := keepC hb1 p4; have p5 := keepC hb1 p5; have hB1 : Below w.heap.size w w1 := hWb.trans (hb1.mono hWb.size); clear hW hWb hgrow1 hb1 hWs)
    | (at_builtin; refine wpList_append_own _ rfl (.tmp 12) (.tmp 18) 101 rfl w.heap.size 103 i0 _ 2 48 Tryz.underlying101 hi0 hz0 hz1 hz2 rfl (by decide) _ _ _ rfl (((hown1.alloc _).alloc _).alloc _) ⟨w1.heap.size + 1 + 1, 0, none⟩ 1 1 _ rfl rfl (two_new _ _ _ _ _ (by simp)) (two_cell _ _ _ _ _ _) (by unfold maxLen; omega) (by omega) (by simp; omega) ?_; intro v2 w2 hown2 hgrow2 hnil2; clear hnil2; obtain ⟨E0, st0⟩ := ord_start hr hr' hle hle' hhi hB1 hg1 hown2 hgrow2 (by omega); rw [← HRR.out] at st0; clear hown2 hgrow2 hown1 p0 p1 p2 p3 p4 p5))
  have hS : w.heap.size ≤ w1.heap.size := hB1.size
  have HM : Hid (2 * partsT t + 1 ≤ 1099511627777) := (by omega : 2 * partsT t + 1 ≤ 1099511627777)
  generalize 2 * partsT t + 1 = M at *
  clear hg1 hg2 hg3 p0 p1 p2 p3 p4 p5 hB1 hr hr' hle hle' hhi hp HRR
  generalize w1.heap.size = B at *
  go_loopw [5] (fun v wr => ∃ E, OrdSt w B 103 34 r M E v wr) (fun v wr => leastN (fun n => ∃ E, OrdSt w B 103 34 r M E v wr ∧ sizeS (dataP E) = n))
  case atStart => exact ⟨E0, st0⟩
  case round =>
    obtain ⟨E1, st1⟩ := hrel
    obtain ⟨n0, ⟨E, st, hn0⟩, hmin⟩ := leastN_spec (p := fun n => ∃ E, OrdSt w B 103 34 r M E u5 wr ∧ sizeS (dataP E) = n) ⟨_, E1, st1, rfl⟩
    clear st1 st0
    cases E with
    | nil =>
      have HZ : Hid (r = 0) := by show _ = _; have := st.ord; simpa [dataP, ordS] using this.symm
      have hb := st.below
      obtain ⟨a5, c5, rfl, _⟩ := own_form st.row
      clear st hmin hn0
      go_wp2_with fail
      go_ret
      exact ⟨rtI HZ.out.symm, hb⟩
    | cons e E =>
      obtain ⟨g, cap, rfl, hcap, hg0, hgl⟩ := own_slot st.row
      obtain ⟨q0, q1⟩ := cellsP_top st.row
      have ok := st.good e (by simp)
      have hlen := sizeS_len (dataP (e :: E))
      have hsz := st.size
      have HM' := HM.out
      have hEl : E.length ≤ 1099511627776 := by simp [dataP] at hlen; simp [dataP] at hsz; omega
      have hEi : (E.length : Int) ≤ cap := by omega
      clear hlen hsz HM' HM
      obtain ⟨ea, ec, ets, ea', ec', eus⟩ := e
      cases ets with
      | nil =>
        have st' := (st.pop rfl).on ((Below.refl wr.heap.size wr).alloc (Nat.le_refl _) (.cells #[.slice ea 0 ec, .slice ea' eus.length ec'] 103))
        simp only [List.length_nil] at q0
        have Q0 : Hid (sizeS (dataP E) < n0) := by show _ < _; rw [← hn0]; simp [dataP, sizeS]
        clear st ok hn0
        go_wp2_with fail
        go_roundw
        case rel => exact ⟨E, st'⟩
        case measure => exact Nat.lt_of_le_of_lt (leastN_le ⟨E, st', rfl⟩) (by rw [hmin]; exact Q0.out)
      | cons x xs =>
        cases eus with
        | nil => have := ok.eq; simp at this
        | cons y ys =>
          obtain ⟨b, off, xa, xc, hb, hSb, x0, x1, x2, hxc, hxr⟩ := ok.r.head
          obtain ⟨b', off', ya, yc, hb', hSb', y0, y1, y2, hyc, hyr⟩ := ok.r'.head
          simp only at hb hb'
          subst hb
          subst hb'
          have hle1 := ok.le
          have hle2 := ok.le'
          simp only [List.length_cons] at hle1 hle2 q0 q1
          have hgg := st.own g rfl
          have hbg : b ≠ g := fun e => hgg (e ▸ hSb)
          have hbg' : b' ≠ g := fun e => hgg (e ▸ hSb')
          obtain ⟨W2, hW2⟩ : ∃ W2, W2 = wr.alloc (.cells #[.slice (some ⟨b, off, none⟩) (xs.length + 1) ec, .slice (some ⟨b', off', none⟩) (ys.length + 1) ec'] 103) := ⟨_, rfl⟩
          have hb2 : Below wr.heap.size wr W2 := by rw [hW2]; exact (Below.refl _ _).alloc (Nat.le_refl _) _
          have hz2' : W2.heap.size = wr.heap.size + 1 := by rw [hW2]; simp
          have c0 : W2.cell? ⟨wr.heap.size, 0, none⟩ = some (.slice (some ⟨b, off, none⟩) (xs.length + 1) ec) := by rw [hW2]; simp [go_sem]
          have c1 : W2.cell? ⟨wr.heap.size, 1, none⟩ = some (.slice (some ⟨b', off', none⟩) (ys.length + 1) ec') := by rw [hW2]; simp [go_sem]
          have x0' := keepC hb2 x0
          have x1' := keepC hb2 x1
          have x2' := keepC hb2 x2
          have y0' := keepC hb2 y0
          have y1' := keepC hb2 y1
          have y2' := keepC hb2 y2
          clear x0 x1 x2 y0 y1 y2
          go_wp2_with fail
          rw [← hW2]
          clear hW2
          go_region_held3 (fun w' => w'.cell? ⟨wr.heap.size, 0, none⟩ = some (.slice (some ⟨b, off, none⟩) (xs.length + 1) ec) ∧ w'.cell? ⟨wr.heap.size, 1, none⟩ = some (.slice (some ⟨b', off', none⟩) (ys.length + 1) ec') ∧ w'.cell? ⟨b, off, none⟩ = some (.int .i64 x.f) ∧ w'.cell? ⟨b, off + 1, none⟩ = some (.int .i64 x.v) ∧ w'.cell? ⟨b, off + 2, none⟩ = some (.slice xa x.kids.length xc) ∧ w'.cell? ⟨b', off', none⟩ = some (.int .i64 y.f) ∧ w'.cell? ⟨b', off' + 1, none⟩ = some (.int .i64 y.v) ∧ w'.cell? ⟨b', off' + 2, none⟩ = some (.slice ya y.kids.length yc)) (first | go_keep | skip) (fail)
          all_goals clear x0' x1' x2' y0' y1' y2'
          all_goals
            first
            | (obtain ⟨W3, hW3⟩ : ∃ W3, W3 = ((W2.alloc (.cells #[.int .i64 x.f, .int .i64 x.v, .slice xa x.kids.length xc] 34)).alloc (.cells #[.int .i64 y.f, .int .i64 y.v, .slice ya y.kids.length yc] 34)).drew := ⟨_, rfl⟩
               rw [← hW3]
               have hB3 : Below W2.heap.size W2 W3 := by rw [hW3]; exact ((((Below.refl _ _).alloc (Nat.le_refl _) _).alloc (by simp) _).drew)
               obtain ⟨bq, hbq⟩ : ∃ bq, bq = wr.heap.size + 1 + 1 := ⟨_, rfl⟩
               obtain ⟨bx, hbx⟩ : ∃ bx, bx = wr.heap.size + 1 := ⟨_, rfl⟩
               rw [← hbq, ← hbx]
               have X0 : W3.cell? ⟨bx, 0, none⟩ = some (.int .i64 x.f) ∧ W3.cell? ⟨bx, 1, none⟩ = some (.int .i64 x.v) ∧ W3.cell? ⟨bx, 2, none⟩ = some (.slice xa x.kids.length xc) := by rw [hW3, hbx]; simp [go_sem, hz2']
               have Y0 : W3.cell? ⟨bq, 0, none⟩ = some (.int .i64 y.f) ∧ W3.cell? ⟨bq, 1, none⟩ = some (.int .i64 y.v) ∧ W3.cell? ⟨bq, 2, none⟩ = some (.slice ya y.kids.length yc) := by rw [hW3, hbq]; simp [go_sem, hz2']
               have nx : bx ≠ g := by omega
               have ny : bq ≠ g := by omega
               clear hbx hbq hW3)
            | (obtain ⟨W3, hW3⟩ : ∃ W3, W3 = ((W2.alloc (.cells #[.int .i64 y.f, .int .i64 y.v, .slice ya y.kids.length yc] 34)).alloc (.cells #[.int .i64 x.f, .int .i64 x.v, .slice xa x.kids.length xc] 34)).drew := ⟨_, rfl⟩
               rw [← hW3]
               have hB3 : Below W2.heap.size W2 W3 := by rw [hW3]; exact ((((Below.refl _ _).alloc (Nat.le_refl _) _).alloc (by simp) _).drew)
               obtain ⟨bx, hbx⟩ : ∃ bx, bx = wr.heap.size + 1 + 1 := ⟨_, rfl⟩
               obtain ⟨bq, hbq⟩ : ∃ bq, bq = wr.heap.size + 1 := ⟨_, rfl⟩
               rw [← hbx, ← hbq]
               have X0 : W3.cell? ⟨bx, 0, none⟩ = some (.int .i64 x.f) ∧ W3.cell? ⟨bx, 1, none⟩ = some (.int .i64 x.v) ∧ W3.cell? ⟨bx, 2, none⟩ = some (.slice xa x.kids.length xc) := by rw [hW3, hbx]; simp [go_sem, hz2']
               have Y0 : W3.cell? ⟨bq, 0, none⟩ = some (.int .i64 y.f) ∧ W3.cell? ⟨bq, 1, none⟩ = some (.int .i64 y.v) ∧ W3.cell? ⟨bq, 2, none⟩ = some (.slice ya y.kids.length yc) := by rw [hW3, hbq]; simp [go_sem, hz2']
               have nx : bx ≠ g := by omega
               have ny : bq ≠ g := by omega
               clear hbx hbq hW3)
            obtain ⟨X0, X1, X2⟩ := X0
            obtain ⟨Y0, Y1, Y2⟩ := Y0
          all_goals
            have c0' := keepC hB3 c0
            have c1' := keepC hB3 c1
            have st3 := st.on (hb2.trans (hB3.mono (by omega)))
            have fz : ∀ j, W3.frozen? ⟨g, j, none⟩ = false := fun j => st3.row.frozenAt j
            have hs1 := slice_tail b off xs.length ec
            have hs2 := slice_tail b' off' ys.length ec'
            have hs3 := sliceAt_tail b off xs.length ec
            have hs4 := sliceAt_tail b' off' ys.length ec'
            obtain ⟨d0, d1⟩ := cellsP_top st3.row
            simp only [List.length_cons] at d0 d1
            have hk0 : (0 : Int) ≤ E.length := by omega
            have hk1 : (E.length : Int) < ((E.length + 1 : Nat) : Int) := by omega
            have hk2 : (E.length : Int) < (E.length : Int) + 1 := by omega
            have ng : g ≠ wr.heap.size := by omega
            have ng' : wr.heap.size ≠ g := by omega
            go_wp2_with fail
            go_region_held3 (fun w' => w'.cell? ⟨wr.heap.size, 0, none⟩ = some (.slice (some ⟨b, off, none⟩) (xs.length + 1) ec) ∧ w'.cell? ⟨wr.heap.size, 1, none⟩ = some (.slice (some ⟨b', off', none⟩) (ys.length + 1) ec')) (first | go_keep | skip) (fail)
            obtain ⟨W4, hW4⟩ : ∃ W4, W4 = ((W3.setCell ⟨g, E.length * 2, none⟩ (.slice (tailA b off ec) xs.length (ec - 1))).setCell ⟨g, E.length * 2 + 1, none⟩ (.slice (tailA b' off' ec') ys.length (ec' - 1))).drew := ⟨_, rfl⟩
            rw [← hW4]
            have ok3 := st3.good _ (List.mem_cons_self ..)
            have hsz0 := st.size
            have st4 : OrdSt w B 103 34 (ordS ((xs, ys) :: dataP E)) M (⟨tailA b off ec, ec - 1, xs, tailA b' off' ec', ec' - 1, ys⟩ :: E) (.slice (some ⟨g, 0, none⟩) (E.length + 1) cap) W4 := by
              rw [hW4]
              refine (st3.set (d := ⟨tailA b off ec, ec - 1, xs, tailA b' off' ec', ec' - 1, ys⟩) ⟨ok3.r.tailA hle1, ok3.r'.tailA hle2, by simp only; omega, by simp only; omega, by have := ok3.eq; simpa using this⟩ rfl ?_).on ((Below.refl _ _).drew)
              simp only [dataP, List.map_cons, sizeS, partsL] at hsz0 ⊢
              omega
            have sW : Stay (Fx w.heap.size B) wr W4 := by
              rw [hW4]
              exact (((Stay.of_below (hb2.trans (hB3.mono (by omega))) (fun k hk _ => hk)).trans (Stay.setCell _ _ hgg)).trans (Stay.setCell _ _ hgg)).trans (.drew _ _)
            have hxr4 := hxr.stay sW
            have hyr4 := hyr.stay sW
            have X0 : W4.cell? ⟨bx, 0, none⟩ = some (.int .i64 x.f) ∧ W4.cell? ⟨bx, 1, none⟩ = some (.int .i64 x.v) ∧ W4.cell? ⟨bx, 2, none⟩ = some (.slice xa x.kids.length xc) := by rw [hW4]; exact ⟨(far2 _ nx).trans X0, (far2 _ nx).trans X1, (far2 _ nx).trans X2⟩
            have Y0 : W4.cell? ⟨bq, 0, none⟩ = some (.int .i64 y.f) ∧ W4.cell? ⟨bq, 1, none⟩ = some (.int .i64 y.v) ∧ W4.cell? ⟨bq, 2, none⟩ = some (.slice ya y.kids.length yc) := by rw [hW4]; exact ⟨(far2 _ ny).trans Y0, (far2 _ ny).trans Y1, (far2 _ ny).trans Y2⟩
            have hkl : x.kids.length = y.kids.length ∨ headO x y ≠ 0 := by
              by_cases e : headO x y = 0
              · exact .inl (headO_zero.1 e).2.2
              · exact .inr e
            have HO : Hid (headO x y ≠ 0 → r = headO x y) := fun e => by have := st.ord; rw [← this]; exact ordS_hit e
            have HP : Hid (headO x y = 0 → ordS ((x.kids, y.kids) :: (xs, ys) :: dataP E) = r) := fun e => by have := st.ord; rw [← this]; exact (ordS_push e).symm
            have HS : Hid (sizeS ((x.kids, y.kids) :: (xs, ys) :: dataP E) < n0) := by show _ < _; rw [← hn0]; exact sizeS_push x y xs ys _
            have HS2 : Hid (n0 ≤ M) := by show _ ≤ _; rw [← hn0]; exact hsz0
            have hE2 : E.length + 1 + 1 ≤ 1099511627778 := by omega
            obtain ⟨X0, X1, X2⟩ := X0
            obtain ⟨Y0, Y1, Y2⟩ := Y0
            have C := headOrder_any x y xa ya xc yc W4
            clear hW4 sW ok3 hsz0 hn0 st st3 c0 c1 c0' c1' fz hs1 hs2 hs3 hs4 hB3 hb2 hxr hyr ok q0 q1 d0 d1 hSb hSb' hle1 hle2
            by_cases e0 : headO x y = 0
            · have HP := HP.out e0
              have hkl' : x.kids.length = y.kids.length := hkl.resolve_right (fun h => h e0)
              rw [e0] at C
              have HPh : Hid (ordS ((x.kids, y.kids) :: (xs, ys) :: dataP E) = r) := HP
              have HK : Hid (x.kids.length = y.kids.length) := hkl'
              have HMI : Hid ((leastN fun n => ∃ E_1, OrdSt w B 103 34 r M E_1 (Value.slice (some ⟨g, 0, none⟩) (E.length + 1) cap) wr ∧ sizeS (dataP E_1) = n) = n0) := hmin
              clear HP HO hkl hkl' e0 hmin
              go_wp2_with (first
                | (go_at_call 63; refine C.mono ?_; rintro e w5 ⟨rfl, hb5⟩; have X0 := keepC hb5 X0; have X1 := keepC hb5 X1; have X2 := keepC hb5 X2; have Y0 := keepC hb5 Y0; have Y1 := keepC hb5 Y1; have Y2 := keepC hb5 Y2; have st5 := st4.on hb5; have hxr5 := hxr4.stay (.of_below hb5 (fun k hk _ => hk)); have hyr5 := hyr4.stay (.of_below hb5 (fun k hk _ => hk)); clear C st4 hxr4 hyr4 hb5)
                | (at_builtin; refine wpList_append_own _ rfl (.tmp 61) (.tmp 67) 101 rfl w.heap.size 103 i0 _ 2 48 Tryz.underlying101 hi0 hz0 hz1 hz2 rfl (by decide) _ _ _ rfl (st5.row.alloc _) ⟨w5.heap.size, 0, none⟩ 1 1 _ rfl rfl (two_new _ _ _ _ _ rfl) (two_cell _ _ _ _ _ _) (by unfold maxLen; simp only [List.length_cons]; omega) (by simp only [List.length_cons]; omega) (by have := st5.below.size; simp; omega) ?_; intro v6 w6 hown6 hgrow6 hnil6; clear hnil6))
              have st6 := (st5.on ((Below.refl _ _).alloc (Nat.le_refl _) _)).push (d := ⟨xa, xc, x.kids, ya, yc, y.kids⟩) (M' := M) hown6 hgrow6 ⟨hxr5.stay (.alloc _ _ _), hyr5.stay (.alloc _ _ _), hxc, hyc, HK.out⟩ HPh.out (by have h1 := HS.out; have h2 := HS2.out; exact Nat.le_of_lt (Nat.lt_of_lt_of_le h1 h2))
              clear st5 hown6 hgrow6 hxr5 hyr5
              go_roundw
              case rel => exact ⟨_, st6⟩
              case measure => exact Nat.lt_of_le_of_lt (leastN_le ⟨_, st6, rfl⟩) (by rw [HMI.out]; exact HS.out)
            · have HOh : Hid (r = headO x y) := HO.out e0
              have hne : (headO x y != 0) = true := by simp [e0]
              have hb4 := st4.below
              clear HO HP hkl e0 hmin hxr4 hyr4 st4
              go_wp2_with (go_at_call 63; refine C.mono ?_; rintro e w5 ⟨rfl, hb5⟩; clear C)
              go_ret
              exact ⟨rtI HOh.out.symm, hb4.trans (hb5.mono hb4.size)⟩
end Go.Proofs.YtollijngiioonabGreat

/- Whether two terms are the same, and which is before, as the program tells it. Conditions: terms of at most 549755813888 parts. -/
namespace Go.Proofs.YtollijngiioonabGreat
set_option maxRecDepth 100000
open Go.RowKit

set_option maxHeartbeats 1600000 in
theorem impBef_any (N : Nat) (t u : TermD) (a a' : Option Addr) (c c' hi : Nat) (w : World) (hN : partsT t ≤ N) (hM : N ≤ 549755813888) (hr : RdK w hi a t.kids) (hr' : RdK w hi a' u.kids) (hhi : hi ≤ w.heap.size) (hc : t.kids.length ≤ c) (hc' : u.kids.length ≤ c') :
    Calls Tryz.prog 42 #[.agg #[.int .i64 t.f, .int .i64 t.v, .slice a t.kids.length c], .agg #[.int .i64 u.f, .int .i64 u.v, .slice a' u.kids.length c']] w fun e w' => e = .returned (.bool (befT t u)) ∧ Below w.heap.size w w' := by
  obtain ⟨W, hW⟩ : ∃ W, W = (w.alloc (.cells #[.int .i64 t.f, .int .i64 t.v, .slice a t.kids.length c] 34)).alloc (.cells #[.int .i64 u.f, .int .i64 u.v, .slice a' u.kids.length c'] 34) := ⟨_, rfl⟩
  have hWb : Below w.heap.size w W := by rw [hW]; exact ((Below.refl _ _).alloc (Nat.le_refl _) _).alloc (by simp) _
  have C := termOrder_any t u a a' c c' hi W (Nat.le_trans hN hM) (hr.on (hWb.mono hhi)) (hr'.on (hWb.mono hhi)) hc hc' (Nat.le_trans hhi hWb.size)
  have HE : Hid (decide (ordT t u < 0) = befT t u) := ordT_bef t u
  clear hr hr' hc hc' hN
  generalize t.kids.length = n at *
  generalize u.kids.length = m at *
  go_enter Tryz.func42, Tryz.ntmps42
  go_wp2_with (go_at_call 54; rw [← hW]; refine C.mono ?_; rintro e w1 ⟨rfl, hb1⟩; clear C hW)
  go_ret
  exact ⟨rtB HE.out, hWb.trans (hb1.mono hWb.size)⟩
end Go.Proofs.YtollijngiioonabGreat

/- What a sort by a comparison of one's own needs: the comparison may lay blocks; what holds between two steps is a relation of one's own. sort.insertionSort_func. Conditions: rows of less than 2^62 elements. -/
namespace Go.Proofs.YtollijngiioonabGreat
set_option maxRecDepth 100000
open Go.RowKit Go.Sort

variable {α : Type} [Inhabited α]

/-- The row holds d in W, as I says. The comparison (function g, bound to lb) tells lt of what the row holds and leaves all that was there as it was, the row's block alone is not promised; the swap (sf, bound to sb) turns the row alone. -/
structure SEnv (g : Nat) (lb : Array Value) (sf : Nat) (sb : Array Value) (lt : α → α → Bool) (n blk base : Nat) (I : Array α → World → Prop) : Prop where
  eg : ∀ args w, (callFunc g args).run Tryz.prog w = .ok (.enter g args) w
  less : ∀ (d : Array α) (W : World) (i j : Nat), I d W → i < n → j < n → Calls Tryz.prog g (#[.int .i64 i, .int .i64 j] ++ lb) W fun e W' => e = .returned (.bool (lt d[i]! d[j]!)) ∧ I d W' ∧ Stay (fun k => k ≠ blk) W W'
  swap : ∀ (d : Array α) (W : World) (i j : Nat), I d W → i < n → j < n → ∃ W', (callFunc sf (#[.int .i64 i, .int .i64 j] ++ sb)).run Tryz.prog W = .ok (.value (.tuple #[])) W' ∧ I (swp d i j) W' ∧ Stay (fun k => k ≠ blk) W W'
  on : ∀ (d : Array α) (W W' : World), I d W → Below W.heap.size W W' → I d W'
  set : ∀ (d : Array α) (W : World) (p : Addr) (v : Value), I d W → base ≤ p.block → I d (W.setCell p v)
  lt : ∀ (d : Array α) (W : World), I d W → base ≤ W.heap.size
  bb : blk < base
  size : ∀ (d : Array α) (W : World), I d W → d.size = n
  big : n < 4611686018427387904

/-- While a function of the sort runs: its parameter lies in a block of its own. -/
structure SSt (blk : Nat) (I : Array α → World → Prop) (w : World) (B : Nat) (g : Nat) (lb : Array Value) (sf : Nat) (sb : Array Value) (d : Array α) (wr : World) : Prop where
  i : I d wr
  c0 : wr.cell? ⟨B, 0, none⟩ = some (.func (.func g) #[] lb)
  c1 : wr.cell? ⟨B, 1, none⟩ = some (.func (.func sf) #[] sb)
  st : Stay (fun k => k ≠ blk) w wr
omit [Inhabited α] in
theorem SSt.step {blk : Nat} {I : Array α → World → Prop} {w : World} {B g : Nat} {lb : Array Value} {sf : Nat} {sb : Array Value} {d d' : Array α} {wr wr' : World} (h : SSt blk I w B g lb sf sb d wr) (hB : B ≠ blk) (hi : I d' wr') (hs : Stay (fun k => k ≠ blk) wr wr') : SSt blk I w B g lb sf sb d' wr' :=
  ⟨hi, hs.cell h.c0 hB, hs.cell h.c1 hB, h.st.trans hs⟩
theorem SSt.start {blk : Nat} {I : Array α → World → Prop} {w : World} {g : Nat} {lb : Array Value} {sf : Nat} {sb : Array Value} {lt : α → α → Bool} {n base : Nat} (E : SEnv g lb sf sb lt n blk base I) {d : Array α} (hi : I d w) (T : TypeId) :
    SSt blk I w w.heap.size g lb sf sb d (w.alloc (.cells #[.func (.func g) #[] lb, .func (.func sf) #[] sb] T)) :=
  ⟨E.on _ _ _ hi ((Below.refl _ _).alloc (Nat.le_refl _) _), by simp, by simp, .alloc _ _ _⟩

set_option maxHeartbeats 2000000 in
theorem insertion_any {g : Nat} {lb : Array Value} {sf : Nat} {sb : Array Value} {lt : α → α → Bool} {n blk base : Nat} {I : Array α → World → Prop} (E : SEnv g lb sf sb lt n blk base I) (a b : Nat) (d : Array α) (w : World) (h : I d w) (hab : a ≤ b) (hb : b ≤ n) :
    Calls Tryz.prog 87 #[.agg #[.func (.func g) #[] lb, .func (.func sf) #[] sb], .int .i64 a, .int .i64 b] w fun e w' => e = .returned (.tuple #[]) ∧ I (Sort.insertionSort lt d a b) w' ∧ Stay (fun k => k ≠ blk) w w' := by
  have eg := E.eg
  have hbig := E.big
  have HB : Hid (w.heap.size ≠ blk) := by have := E.lt _ _ h; have := E.bb; show _ ≠ _; omega
  have HE : Hid (SEnv g lb sf sb lt n blk base I) := E
  have S0 := SSt.start E h 119
  clear E h
  go_enter Tryz.func87, Tryz.ntmps87
  go_wp2
  go_loopw [6] (fun vi wr => ∃ (i : Nat) (dk : Array α), vi = .int .i64 i ∧ a < i ∧ i ≤ b + 1 ∧ SSt blk I w w.heap.size g lb sf sb dk wr ∧ Hid (insOuter lt a b i dk = insOuter lt a b (a + 1) d)) (fun vi _ => b + 1 - (intOf vi).toNat)
  case atStart => exact ⟨a + 1, d, by go_num, by omega, by omega, S0, rfl⟩
  case round =>
    obtain ⟨i, dk, rfl, hai, hib, S, HO⟩ := hrel
    clear S0
    go_wp2
    · go_loopw [7] (fun vj wr2 => ∃ (j : Nat) (dj : Array α), vj = .int .i64 j ∧ a ≤ j ∧ j ≤ i ∧ SSt blk I w w.heap.size g lb sf sb dj wr2 ∧ Hid (insInner lt a j dj = insInner lt a i dk)) (fun vj _ => (intOf vj).toNat)
      case atStart => exact ⟨i, dk, rfl, by omega, Nat.le_refl _, S, rfl⟩
      case round =>
        obtain ⟨j, dj, rfl, haj, hji, S2, HI⟩ := hrel
        have hlt : i < b := by assumption
        clear S
        have c0 := S2.c0
        have c1 := S2.c1
        by_cases hja : a < j
        · have hl := HE.out.less dj wr j (j - 1) S2.i (by omega) (by omega)
          rw [show (((j - 1 : Nat) : Int)) = (j : Int) - 1 by omega] at hl
          cases hlv : lt dj[j]! dj[j - 1]! with
          | true =>
            rw [hlv] at hl
            have HI2 : Hid (insInner lt a (j - 1) (swp dj j (j - 1)) = insInner lt a i dk) := by show _ = _; rw [← HI.out, insInner_go lt a j dj hja hlv]
            go_wp2_with (go_at_fn g; refine hl.mono ?_; rintro e w' ⟨rfl, hI', hS'⟩; have c1' := hS'.cell c1 HB.out; clear c0 c1)
            obtain ⟨W', hrun, hI2, hS2⟩ := HE.out.swap dj w' j (j - 1) hI' (by omega) (by omega)
            rw [show (((j - 1 : Nat) : Int)) = (j : Int) - 1 by omega] at hrun
            rw [hrun, Oper.upon_value]
            have S3 := (S2.step HB.out hI' hS').step HB.out hI2 hS2
            clear hrun hl
            go_wp2
            go_roundw
            case rel =>
              (repeat apply Exists.intro)
              exact ⟨⟨j - 1, swp dj j (j - 1), by congr 1 <;> omega, by omega, by omega, S3, HI2⟩, by rw [decide_eq_true hlt, show ((j - 1 : Nat) : Int) = (j : Int) - 1 by omega]⟩
            case measure => simp [intOf]; omega
          | false =>
            rw [hlv] at hl
            have HO2 : Hid (insOuter lt a b (i + 1) dj = insOuter lt a b (a + 1) d) := by show _ = _; rw [← HO.out, insOuter_go _ _ _ _ _ hlt, ← HI.out, insInner_stop _ _ _ _ (Or.inr hlv)]
            go_wp2_with (go_at_fn g; refine hl.mono ?_; rintro e w' ⟨rfl, hI', hS'⟩; clear c0 c1)
            have S3 := S2.step HB.out hI' hS'
            go_roundw
            case rel => exact ⟨i + 1, dj, by go_num, by omega, by omega, S3, HO2⟩
            case measure => simp [intOf]; omega
        · have HO2 : Hid (insOuter lt a b (i + 1) dj = insOuter lt a b (a + 1) d) := by show _ = _; rw [← HO.out, insOuter_go _ _ _ _ _ hlt, ← HI.out, insInner_stop _ _ _ _ (Or.inl (by omega))]
          go_wp2
          go_roundw
          case rel => exact ⟨i + 1, dj, by go_num, by omega, by omega, S2, HO2⟩
          case measure => simp [intOf]; omega
    · have hge : ¬ i < b := by assumption
      go_end0
      exact ⟨rfl, by unfold Sort.insertionSort; rw [← HO.out, insOuter_stop _ _ _ _ _ hge]; exact S.i, S.st⟩
end Go.Proofs.YtollijngiioonabGreat

/- sort.siftDown_func, by a comparison that may lay blocks. Conditions: rows of less than 2^62 elements. -/
namespace Go.Proofs.YtollijngiioonabGreat
set_option maxRecDepth 100000
open Go.RowKit Go.Sort

variable {α : Type} [Inhabited α]
variable {g : Nat} {lb : Array Value} {sf : Nat} {sb : Array Value} {lt : α → α → Bool} {n blk base : Nat} {I : Array α → World → Prop}

/-- The comparison, the places as the walk has them. -/
theorem SEnv.lessI (E : SEnv g lb sf sb lt n blk base I) (d : Array α) (W : World) (i j : Nat) (x y : Int) (hx : x = i) (hy : y = j) (h : I d W) (hi : i < n) (hj : j < n) :
    Calls Tryz.prog g (#[.int .i64 x, .int .i64 y] ++ lb) W fun e W' => e = .returned (.bool (lt d[i]! d[j]!)) ∧ I d W' ∧ Stay (fun k => k ≠ blk) W W' := by
  subst hx hy
  exact E.less d W i j h hi hj
/-- The same, what it tells known. -/
theorem SEnv.lessV (E : SEnv g lb sf sb lt n blk base I) (d : Array α) (i j : Nat) (x y : Int) (v : Bool) (hv : lt d[i]! d[j]! = v) (hx : x = i) (hy : y = j) (hi : i < n) (hj : j < n) (W : World) (h : I d W) :
    Calls Tryz.prog g (#[.int .i64 x, .int .i64 y] ++ lb) W fun e W' => e = .returned (.bool v) ∧ I d W' ∧ Stay (fun k => k ≠ blk) W W' := by
  subst hv
  exact E.lessI d W i j x y hx hy h hi hj
theorem SEnv.swapI (E : SEnv g lb sf sb lt n blk base I) (d : Array α) (W : World) (i j : Nat) (x y : Int) (hx : x = i) (hy : y = j) (h : I d W) (hi : i < n) (hj : j < n) :
    ∃ W', (callFunc sf (#[.int .i64 x, .int .i64 y] ++ sb)).run Tryz.prog W = .ok (.value (.tuple #[])) W' ∧ I (swp d i j) W' ∧ Stay (fun k => k ≠ blk) W W' := by
  subst hx hy
  exact E.swap d W i j h hi hj

set_option maxHeartbeats 4000000 in
theorem siftDown_any (E : SEnv g lb sf sb lt n blk base I) (lo hi first : Nat) (d : Array α) (w : World) (h : I d w) (hlo : lo ≤ hi) (hb : first + hi ≤ n) :
    Calls Tryz.prog 96 #[.agg #[.func (.func g) #[] lb, .func (.func sf) #[] sb], .int .i64 lo, .int .i64 hi, .int .i64 first] w fun e w' => e = .returned (.tuple #[]) ∧ I (siftDown lt hi first lo d) w' ∧ Stay (fun k => k ≠ blk) w w' := by
  have eg := E.eg
  have hbig := E.big
  have HB : Hid (w.heap.size ≠ blk) := by have := E.lt _ _ h; have := E.bb; show _ ≠ _; omega
  have HE : Hid (SEnv g lb sf sb lt n blk base I) := E
  have S0 := SSt.start E h 119
  clear E h
  go_enter Tryz.func96, Tryz.ntmps96
  go_wp2
  go_loopw [8] (fun v wr => ∃ (root : Nat) (dk : Array α), v = .int .i64 root ∧ root ≤ hi ∧ SSt blk I w w.heap.size g lb sf sb dk wr ∧ Hid (siftDown lt hi first root dk = siftDown lt hi first lo d)) (fun v _ => hi - (intOf v).toNat)
  case atStart => exact ⟨lo, d, rfl, hlo, S0, rfl⟩
  case round =>
    obtain ⟨root, dk, rfl, hr, S, HK⟩ := hrel
    clear S0
    have c0 := S.c0
    have c1 := S.c1
    by_cases h0 : hi ≤ 2 * root + 1
    · have h0z : (hi : Int) ≤ 2 * (root : Int) + 1 := by omega
      go_wp2
      go_end0
      exact ⟨rfl, by rw [← HK.out, sd_end lt dk h0]; exact S.i, S.st⟩
    · have h0z : ¬ ((hi : Int) ≤ 2 * (root : Int) + 1) := by omega
      by_cases h1 : 2 * root + 2 < hi
      · have h1z : 2 * (root : Int) + 1 + 1 < (hi : Int) := by omega
        cases hL : lt dk[first + (2 * root + 1)]! dk[first + (2 * root + 2)]! with
        | true =>
          have hl1 := HE.out.lessV dk (first + (2 * root + 1)) (first + (2 * root + 2)) ((first : Int) + (2 * (root : Int) + 1)) ((first : Int) + (2 * (root : Int) + 1) + 1) true hL (by omega) (by omega) (by omega) (by omega)
          cases hG : lt dk[first + root]! dk[first + (2 * root + 2)]! with
          | true =>
            have hl2 := HE.out.lessV dk (first + root) (first + (2 * root + 2)) ((first : Int) + (root : Int)) ((first : Int) + (2 * (root : Int) + 1 + 1)) true hG (by omega) (by omega) (by omega) (by omega)
            have HN : Hid (siftDown lt hi first (2 * root + 2) (swp dk (first + root) (first + (2 * root + 2))) = siftDown lt hi first lo d) := by show _ = _; rw [← HK.out, sd_right_go lt dk h1 hL hG]
            go_wp2_with (first
              | (go_at_fn g; refine (hl1 _ S.i).mono ?_; rintro e w2 ⟨rfl, hI2, hS2⟩; have S2 := S.step HB.out hI2 hS2; clear c0 c1 hl1; have c0 := S2.c0; have c1 := S2.c1)
              | (go_at_fn g; refine (hl2 _ S2.i).mono ?_; rintro e w3 ⟨rfl, hI3, hS3⟩; have S3 := S2.step HB.out hI3 hS3; have k0 := S3.c0; have k1 := S3.c1; obtain ⟨W4, hrun, hI4, hS4⟩ := HE.out.swapI dk w3 (first + root) (first + (2 * root + 2)) ((first : Int) + (root : Int)) ((first : Int) + (2 * (root : Int) + 1 + 1)) (by omega) (by omega) S3.i (by omega) (by omega); have S4 := S3.step HB.out hI4 hS4; clear hl2))
            go_roundw
            case rel => exact ⟨2 * root + 2, swp dk (first + root) (first + (2 * root + 2)), by go_num, by omega, S4, HN⟩
            case measure => simp [intOf]; omega
          | false =>
            have hl2 := HE.out.lessV dk (first + root) (first + (2 * root + 2)) ((first : Int) + (root : Int)) ((first : Int) + (2 * (root : Int) + 1 + 1)) false hG (by omega) (by omega) (by omega) (by omega)
            have HN : Hid (dk = siftDown lt hi first lo d) := by show _ = _; rw [← HK.out, sd_right_stop lt dk h1 hL hG]
            go_wp2_with (first
              | (go_at_fn g; refine (hl1 _ S.i).mono ?_; rintro e w2 ⟨rfl, hI2, hS2⟩; have S2 := S.step HB.out hI2 hS2; clear c0 c1 hl1; have c0 := S2.c0; have c1 := S2.c1)
              | (go_at_fn g; refine (hl2 _ S2.i).mono ?_; rintro e w3 ⟨rfl, hI3, hS3⟩; have S3 := S2.step HB.out hI3 hS3; have k0 := S3.c0; have k1 := S3.c1; clear hl2))
            refine bodyPost_ret (results_none rfl _ _ _) rfl ?_
            exact ⟨rfl, by rw [← HN.out]; exact S3.i, S3.st⟩
        | false =>
          have hl1 := HE.out.lessV dk (first + (2 * root + 1)) (first + (2 * root + 2)) ((first : Int) + (2 * (root : Int) + 1)) ((first : Int) + (2 * (root : Int) + 1) + 1) false hL (by omega) (by omega) (by omega) (by omega)
          cases hG : lt dk[first + root]! dk[first + (2 * root + 1)]! with
          | true =>
            have hl2 := HE.out.lessV dk (first + root) (first + (2 * root + 1)) ((first : Int) + (root : Int)) ((first : Int) + (2 * (root : Int) + 1)) true hG (by omega) (by omega) (by omega) (by omega)
            have HN : Hid (siftDown lt hi first (2 * root + 1) (swp dk (first + root) (first + (2 * root + 1))) = siftDown lt hi first lo d) := by show _ = _; rw [← HK.out, sd_left_go lt dk (by omega) (fun _ => hL) hG]
            go_wp2_with (first
              | (go_at_fn g; refine (hl1 _ S.i).mono ?_; rintro e w2 ⟨rfl, hI2, hS2⟩; have S2 := S.step HB.out hI2 hS2; clear c0 c1 hl1; have c0 := S2.c0; have c1 := S2.c1)
              | (go_at_fn g; refine (hl2 _ S2.i).mono ?_; rintro e w3 ⟨rfl, hI3, hS3⟩; have S3 := S2.step HB.out hI3 hS3; have k0 := S3.c0; have k1 := S3.c1; obtain ⟨W4, hrun, hI4, hS4⟩ := HE.out.swapI dk w3 (first + root) (first + (2 * root + 1)) ((first : Int) + (root : Int)) ((first : Int) + (2 * (root : Int) + 1)) (by omega) (by omega) S3.i (by omega) (by omega); have S4 := S3.step HB.out hI4 hS4; clear hl2))
            go_roundw
            case rel => exact ⟨2 * root + 1, swp dk (first + root) (first + (2 * root + 1)), by go_num, by omega, S4, HN⟩
            case measure => simp [intOf]; omega
          | false =>
            have hl2 := HE.out.lessV dk (first + root) (first + (2 * root + 1)) ((first : Int) + (root : Int)) ((first : Int) + (2 * (root : Int) + 1)) false hG (by omega) (by omega) (by omega) (by omega)
            have HN : Hid (dk = siftDown lt hi first lo d) := by show _ = _; rw [← HK.out, sd_left_stop lt dk (by omega) (fun _ => hL) hG]
            go_wp2_with (first
              | (go_at_fn g; refine (hl1 _ S.i).mono ?_; rintro e w2 ⟨rfl, hI2, hS2⟩; have S2 := S.step HB.out hI2 hS2; clear c0 c1 hl1; have c0 := S2.c0; have c1 := S2.c1)
              | (go_at_fn g; refine (hl2 _ S2.i).mono ?_; rintro e w3 ⟨rfl, hI3, hS3⟩; have S3 := S2.step HB.out hI3 hS3; have k0 := S3.c0; have k1 := S3.c1; clear hl2))
            refine bodyPost_ret (results_none rfl _ _ _) rfl ?_
            exact ⟨rfl, by rw [← HN.out]; exact S3.i, S3.st⟩
      · have h1z : ¬ (2 * (root : Int) + 1 + 1 < (hi : Int)) := by omega
        cases hG : lt dk[first + root]! dk[first + (2 * root + 1)]! with
        | true =>
          have hl2 := HE.out.lessV dk (first + root) (first + (2 * root + 1)) ((first : Int) + (root : Int)) ((first : Int) + (2 * (root : Int) + 1)) true hG (by omega) (by omega) (by omega) (by omega)
          have HN : Hid (siftDown lt hi first (2 * root + 1) (swp dk (first + root) (first + (2 * root + 1))) = siftDown lt hi first lo d) := by show _ = _; rw [← HK.out, sd_left_go lt dk (by omega) (fun h => absurd h h1) hG]
          go_wp2_with (go_at_fn g; refine (hl2 _ S.i).mono ?_; rintro e w3 ⟨rfl, hI3, hS3⟩; have S3 := S.step HB.out hI3 hS3; have k0 := S3.c0; have k1 := S3.c1; obtain ⟨W4, hrun, hI4, hS4⟩ := HE.out.swapI dk w3 (first + root) (first + (2 * root + 1)) ((first : Int) + (root : Int)) ((first : Int) + (2 * (root : Int) + 1)) (by omega) (by omega) S3.i (by omega) (by omega); have S4 := S3.step HB.out hI4 hS4; clear hl2)
          go_roundw
          case rel => exact ⟨2 * root + 1, swp dk (first + root) (first + (2 * root + 1)), by go_num, by omega, S4, HN⟩
          case measure => simp [intOf]; omega
        | false =>
          have hl2 := HE.out.lessV dk (first + root) (first + (2 * root + 1)) ((first : Int) + (root : Int)) ((first : Int) + (2 * (root : Int) + 1)) false hG (by omega) (by omega) (by omega) (by omega)
          have HN : Hid (dk = siftDown lt hi first lo d) := by show _ = _; rw [← HK.out, sd_left_stop lt dk (by omega) (fun h => absurd h h1) hG]
          go_wp2_with (go_at_fn g; refine (hl2 _ S.i).mono ?_; rintro e w3 ⟨rfl, hI3, hS3⟩; have S3 := S.step HB.out hI3 hS3; have k0 := S3.c0; have k1 := S3.c1; clear hl2)
          refine bodyPost_ret (results_none rfl _ _ _) rfl ?_
          exact ⟨rfl, by rw [← HN.out]; exact S3.i, S3.st⟩
end Go.Proofs.YtollijngiioonabGreat

/- sort.heapSort_func, sort.reverseRange_func, by a comparison that may lay blocks. Conditions: rows of less than 2^62 elements. -/
namespace Go.Proofs.YtollijngiioonabGreat
set_option maxRecDepth 100000
open Go.RowKit Go.Sort

variable {α : Type} [Inhabited α]
variable {g : Nat} {lb : Array Value} {sf : Nat} {sb : Array Value} {lt : α → α → Bool} {n blk base : Nat} {I : Array α → World → Prop}

set_option maxHeartbeats 1000000 in
theorem reverse_any (E : SEnv g lb sf sb lt n blk base I) (a b : Nat) (d : Array α) (w : World) (h : I d w) (hab : a < b) (hb : b ≤ n) :
    Calls Tryz.prog 91 #[.agg #[.func (.func g) #[] lb, .func (.func sf) #[] sb], .int .i64 a, .int .i64 b] w fun e w' => e = .returned (.tuple #[]) ∧ I (reverseRange d a b) w' ∧ Stay (fun k => k ≠ blk) w w' := by
  have eg := E.eg
  have hbig := E.big
  have HB : Hid (w.heap.size ≠ blk) := by have := E.lt _ _ h; have := E.bb; show _ ≠ _; omega
  have HE : Hid (SEnv g lb sf sb lt n blk base I) := E
  have S0 := SSt.start E h 119
  clear E h
  go_enter Tryz.func91, Tryz.ntmps91
  go_wp2
  go_loopw [6, 7] (fun vi vj wr => ∃ (i j : Nat) (dk : Array α), vi = .int .i64 i ∧ vj = .int .i64 j ∧ j < b ∧ i ≤ b ∧ SSt blk I w w.heap.size g lb sf sb dk wr ∧ Hid (reverseLoop i j dk = reverseRange d a b)) (fun vi vj _ => (intOf vj).toNat - (intOf vi).toNat)
  case atStart => exact ⟨a, b - 1, d, rfl, by congr 1; omega, by omega, by omega, S0, rfl⟩
  case round =>
    obtain ⟨i, j, dk, rfl, rfl, hj, hi, S, HK⟩ := hrel
    clear S0
    have c0 := S.c0
    have c1 := S.c1
    by_cases hij : i < j
    · have hijz : (i : Int) < (j : Int) := by omega
      obtain ⟨W4, hrun, hI4, hS4⟩ := HE.out.swapI dk wr i j i j rfl rfl S.i (by omega) (by omega)
      have S4 := S.step HB.out hI4 hS4
      have HN : Hid (reverseLoop (i + 1) (j - 1) (swp dk i j) = reverseRange d a b) := by have := HK.out; rw [reverseLoop, if_pos hij] at this; exact this
      go_wp2
      go_roundw
      case rel => exact ⟨i + 1, j - 1, swp dk i j, by go_num, by congr 1; omega, by omega, by omega, S4, HN⟩
      case measure => simp [intOf] <;> omega
    · have hijz : ¬ (i : Int) < (j : Int) := by omega
      have HN : Hid (dk = reverseRange d a b) := by have := HK.out; rw [reverseLoop, if_neg hij] at this; exact this
      go_wp2
      go_end0
      exact ⟨rfl, by rw [← HN.out]; exact S.i, S.st⟩

set_option maxHeartbeats 1000000 in
theorem heapSort_any (E : SEnv g lb sf sb lt n blk base I) (a b : Nat) (d : Array α) (w : World) (h : I d w) (hab : a < b) (hb : b ≤ n) :
    Calls Tryz.prog 88 #[.agg #[.func (.func g) #[] lb, .func (.func sf) #[] sb], .int .i64 a, .int .i64 b] w fun e w' => e = .returned (.tuple #[]) ∧ I (heapSort lt d a b) w' ∧ Stay (fun k => k ≠ blk) w w' := by
  have eg := E.eg
  have hbig := E.big
  have HB : Hid (w.heap.size ≠ blk) := by have := E.lt _ _ h; have := E.bb; show _ ≠ _; omega
  have HE : Hid (SEnv g lb sf sb lt n blk base I) := E
  have S0 := SSt.start E h 119
  clear E h
  go_enter Tryz.func88, Tryz.ntmps88
  have hdiv : IntKind.i64.wrap ((b : Int) - (a : Int)) = ((b - a : Nat) : Int) := by rw [IntKind.wrap_i64]; omega
  have hcb : (b : Int) - (a : Int) = ((b - a : Nat) : Int) := by omega
  obtain ⟨N, hN⟩ : ∃ N, N = b - a := ⟨_, rfl⟩
  rw [← hN] at hdiv hcb
  have hN1 : 1 ≤ N := by omega
  have hNa : a + N ≤ n := by omega
  have HH : Hid (heapSort lt d a b = heapPop lt a N (heapBuild lt N a ((N - 1) / 2 + 1) d)) := by show _ = _; unfold heapSort; rw [hN]
  have htd : ((N : Int) - 1).tdiv 2 = (((N - 1) / 2 : Nat) : Int) := by rw [show (N : Int) - 1 = ((N - 1 : Nat) : Int) by omega]; rfl
  clear hN
  go_wp2
  go_loopw [9] (fun v wr => ∃ (kx : Nat) (dk : Array α), v = .int .i64 ((kx : Int) - 1) ∧ kx ≤ (N - 1) / 2 + 1 ∧ SSt blk I w w.heap.size g lb sf sb dk wr ∧ Hid (heapBuild lt N a kx dk = heapBuild lt N a ((N - 1) / 2 + 1) d)) (fun v _ => (intOf v + 1).toNat)
  case atStart => exact ⟨(N - 1) / 2 + 1, d, by congr 1; omega, Nat.le_refl _, S0, rfl⟩
  case round =>
    obtain ⟨kx, dk, rfl, hkx, S, HK⟩ := hrel
    clear S0
    have c0 := S.c0
    have c1 := S.c1
    cases kx with
    | zero =>
      have HK2 : Hid (dk = heapBuild lt N a ((N - 1) / 2 + 1) d) := by show _ = _; rw [← HK.out, heapBuild]
      clear HK
      go_wp2
      go_loopw [10] (fun v wr2 => ∃ (kx : Nat) (dj : Array α), v = .int .i64 ((kx : Int) - 1) ∧ kx ≤ N ∧ SSt blk I w w.heap.size g lb sf sb dj wr2 ∧ Hid (heapPop lt a kx dj = heapPop lt a N dk)) (fun v _ => (intOf v + 1).toNat)
      case atStart => exact ⟨N, dk, rfl, Nat.le_refl _, S, rfl⟩
      case round =>
        obtain ⟨kx, dj, rfl, hkx2, S2, HK3⟩ := hrel
        clear S c0 c1
        have c0 := S2.c0
        have c1 := S2.c1
        cases kx with
        | zero =>
          have HF : Hid (dj = heapSort lt d a b) := by show _ = _; rw [HH.out, ← HK2.out, ← HK3.out, heapPop]
          go_wp2
          go_end0
          exact ⟨rfl, by rw [← HF.out]; exact S2.i, S2.st⟩
        | succ kx =>
          simp only [show (((kx + 1 : Nat) : Int) - 1) = (kx : Int) by omega]
          have hz : (0 : Int) ≤ (kx : Int) := by omega
          have hw1 : IntKind.i64.wrap ((a : Int) + (kx : Int)) = (a : Int) + (kx : Int) := by rw [IntKind.wrap_i64]; omega
          obtain ⟨W4, hrun, hI4, hS4⟩ := HE.out.swapI dj wr a (a + kx) a ((a : Int) + (kx : Int)) rfl (by omega) S2.i (by omega) (by omega)
          have S4 := S2.step HB.out hI4 hS4
          have k0 := S4.c0
          have k1 := S4.c1
          have C := siftDown_any HE.out 0 kx a (swp dj a (a + kx)) W4 S4.i (by omega) (by omega)
          have HN : Hid (heapPop lt a kx (siftDown lt kx a 0 (swp dj a (a + kx))) = heapPop lt a N dk) := by show _ = _; rw [← HK3.out, heapPop]
          go_wp2_with (go_at_call 96; refine C.mono ?_; rintro e w5 ⟨rfl, hI5, hS5⟩; have S5 := S4.step HB.out hI5 hS5; clear C)
          go_roundw
          case rel =>
            first
              | exact ⟨kx, _, by first | rfl | (congr 1; omega), by omega, S5, HN⟩
              | ((repeat apply Exists.intro); exact ⟨⟨kx, _, by first | rfl | (congr 1; omega), by omega, S5, HN⟩, rfl⟩)
          case measure => simp [intOf] <;> omega
    | succ kx =>
      simp only [show (((kx + 1 : Nat) : Int) - 1) = (kx : Int) by omega]
      have hz : (0 : Int) ≤ (kx : Int) := by omega
      have C := siftDown_any HE.out kx N a dk wr S.i (by omega) (by omega)
      have HN : Hid (heapBuild lt N a kx (siftDown lt N a kx dk) = heapBuild lt N a ((N - 1) / 2 + 1) d) := by show _ = _; rw [← HK.out, heapBuild]
      go_wp2_with (go_at_call 96; refine C.mono ?_; rintro e w5 ⟨rfl, hI5, hS5⟩; have S5 := S.step HB.out hI5 hS5; clear C)
      go_roundw
      case rel =>
        first
          | exact ⟨kx, _, by first | rfl | (congr 1; omega), by omega, S5, HN⟩
          | ((repeat apply Exists.intro); exact ⟨⟨kx, _, by first | rfl | (congr 1; omega), by omega, S5, HN⟩, rfl⟩)
      case measure => simp [intOf] <;> omega
end Go.Proofs.YtollijngiioonabGreat

