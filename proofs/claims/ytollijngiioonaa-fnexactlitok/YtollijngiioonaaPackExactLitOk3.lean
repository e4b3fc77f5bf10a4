/- What the proof of FnExactLitOk stands on, part 3 of 6: each piece says what it proves and under which conditions. Conditions: as each piece says. -/
import Derived.Test.YtollijngiioonaaPackExactLitOk2
import Derived.Deep.QuietTactic
import Derived.BigQuiet
import Derived.Below
import Derived.WalkKit
import Derived.Deep.RegionHeld3
/- What one form keeps: the form of a form is it; the Kids of a blind function may stand in any order, and in brackets; a right term is its form; weights. Conditions: none. -/
namespace Go.Proofs.Ytollijngiioonaa
set_option maxRecDepth 100000
open Go.RowKit

theorem parts_kid : ∀ {ks : List TermD} {k : TermD}, k ∈ ks → partsT k ≤ partsL ks
  | [], _, h => by simp at h
  | x :: xs, k, h => by
    rw [partsL]
    rcases List.mem_cons.1 h with rfl | h
    · omega
    · have := parts_kid h; omega

/-- What a Kid in one form brings to the list of a blind function. -/
def flatK (f : Int) (k : TermD) : List TermD := if k.f ≠ f then [k] else k.kids

theorem foldP_perm (ks out : List TermD) : (ks.foldl (fun o x => putT x o) out).Perm (out ++ ks) := by
  induction ks generalizing out with
  | nil => simp
  | cons t ts ih =>
    rw [List.foldl_cons]
    refine (ih _).trans ?_
    exact ((putT_perm t out).append_right ts).trans (List.perm_middle.symm)
theorem foldP_sorted (ks : List TermD) : ∀ {out : List TermD}, out.Pairwise leT → (ks.foldl (fun o x => putT x o) out).Pairwise leT := by
  induction ks with
  | nil => intro out h; exact h
  | cons t ts ih => intro out h; rw [List.foldl_cons]; exact ih (putT_sorted h)
theorem stepN_perm (f : Int) (k : TermD) (out : List TermD) : (stepN true f k out).Perm (out ++ flatK f k) := by
  unfold stepN flatK
  simp only [Bool.true_eq_false, ↓reduceIte]
  split
  · exact (putT_perm k out).trans (by simpa using (List.perm_middle (a := k) (l₁ := out) (l₂ := [])).symm)
  · exact foldP_perm _ _
theorem stepN_sorted (f : Int) (k : TermD) {out : List TermD} (h : out.Pairwise leT) : (stepN true f k out).Pairwise leT := by
  unfold stepN
  simp only [Bool.true_eq_false, ↓reduceIte]
  split
  · exact putT_sorted h
  · exact foldP_sorted _ h
theorem normL_perm (bl : Int → Bool) (f : Int) (hf : bl f = true) (ks : List TermD) : ∀ out, (normL bl f ks out).Perm (out ++ ks.flatMap (fun k => flatK f (normT bl k))) := by
  induction ks with
  | nil => intro out; simp [normL]
  | cons k ks ih =>
    intro out
    rw [normL, hf, List.flatMap_cons, ← List.append_assoc]
    exact (ih _).trans ((stepN_perm f _ out).append_right _)
theorem normL_sorted (bl : Int → Bool) (f : Int) (hf : bl f = true) (ks : List TermD) : ∀ {out}, out.Pairwise leT → (normL bl f ks out).Pairwise leT := by
  induction ks with
  | nil => intro out h; rw [normL]; exact h
  | cons k ks ih => intro out h; rw [normL, hf]; exact ih (stepN_sorted f _ h)
theorem normL_map (bl : Int → Bool) (f : Int) (hf : bl f = false) (ks : List TermD) : ∀ out, normL bl f ks out = out ++ ks.map (normT bl) := by
  induction ks with
  | nil => intro out; simp [normL]
  | cons k ks ih => intro out; rw [normL, hf, ih]; simp [stepN]

/-- In one form. -/
inductive IsN (bl : Int → Bool) : TermD → Prop
  | mk (t : TermD) (hk : ∀ k ∈ t.kids, IsN bl k) (hb : bl t.f = true → t.kids.Pairwise leT ∧ ∀ k ∈ t.kids, k.f ≠ t.f) : IsN bl t

theorem normT_isN (bl : Int → Bool) : ∀ (n : Nat) (t : TermD), partsT t ≤ n → IsN bl (normT bl t) := by
  intro n
  induction n with
  | zero => intro t h; rw [partsT_eq] at h; omega
  | succ n ih =>
    intro t h
    rw [partsT_eq] at h
    have IH : ∀ k ∈ t.kids, IsN bl (normT bl k) := fun k hk => ih k (by have := parts_kid hk; omega)
    rw [normT_eq]
    by_cases hf : bl t.f = true
    · have hp := normL_perm bl t.f hf t.kids []
      rw [List.nil_append] at hp
      have hm : ∀ x ∈ normL bl t.f t.kids [], IsN bl x ∧ x.f ≠ t.f := by
        intro x hx
        obtain ⟨k, hk, hx⟩ := List.mem_flatMap.1 (hp.subset hx)
        have hN := IH k hk
        unfold flatK at hx
        split at hx
        · next h => rw [List.mem_singleton] at hx; subst hx; exact ⟨hN, h⟩
        · next h =>
          have h : (normT bl k).f = t.f := Decidable.not_not.1 h
          cases hN with
          | mk _ h1 h2 => exact ⟨h1 x hx, fun e => (h2 (by rw [h]; exact hf)).2 x hx (by rw [e, h])⟩
      exact .mk _ (fun k hk => (hm k hk).1) (fun _ => ⟨normL_sorted bl t.f hf t.kids .nil, fun k hk => (hm k hk).2⟩)
    · have hf : bl t.f = false := by simpa using hf
      rw [normL_map bl t.f hf, List.nil_append]
      refine .mk _ (fun x hx => ?_) (fun h => by rw [show (TermD.mk t.f t.v (t.kids.map (normT bl))).f = t.f from rfl, hf] at h; cases h)
      obtain ⟨k, hk, rfl⟩ := List.mem_map.1 hx
      exact IH k hk
theorem normT_self (bl : Int → Bool) {t : TermD} (h : IsN bl t) : normT bl t = t := by
  induction h with
  | mk t hk hb ih =>
    rw [normT_eq]
    have e : normL bl t.f t.kids [] = t.kids := by
      by_cases hf : bl t.f = true
      · have hp := normL_perm bl t.f hf t.kids []
        rw [List.nil_append] at hp
        have e : t.kids.flatMap (fun k => flatK t.f (normT bl k)) = t.kids := by
          have : ∀ l : List TermD, (∀ k ∈ l, normT bl k = k ∧ k.f ≠ t.f) → l.flatMap (fun k => flatK t.f (normT bl k)) = l := by
            intro l
            induction l with
            | nil => intro _; rfl
            | cons x xs ihx =>
              intro hx
              have h0 := hx x (by simp)
              rw [List.flatMap_cons, ihx (fun k hk => hx k (by simp [hk])), h0.1]
              simp [flatK, h0.2]
          exact this _ (fun k hk => ⟨ih k hk, (hb hf).2 k hk⟩)
        rw [e] at hp
        exact sorted_ext (normL_sorted bl t.f hf t.kids .nil) (hb hf).1 hp
      · have hf : bl t.f = false := by simpa using hf
        rw [normL_map bl t.f hf, List.nil_append]
        exact (List.map_congr_left ih).trans (List.map_id' _)
    rw [e]
    cases t; rfl
/-- The form of a form is it. -/
theorem normT_idem (bl : Int → Bool) (t : TermD) : normT bl (normT bl t) = normT bl t := normT_self bl (normT_isN bl _ t (Nat.le_refl _))

/-- In any order. -/
theorem normT_perm (bl : Int → Bool) {f v : Int} (hf : bl f = true) {us bs : List TermD} (h : us.Perm bs) : normT bl (.mk f v us) = normT bl (.mk f v bs) := by
  rw [normT, normT]
  congr 1
  refine sorted_ext (normL_sorted bl f hf us .nil) (normL_sorted bl f hf bs .nil) ?_
  have h1 := normL_perm bl f hf us []
  have h2 := normL_perm bl f hf bs []
  exact (h1.trans (by simpa using h.flatMap_right _)).trans h2.symm
/-- In brackets. -/
theorem normT_in (bl : Int → Bool) {f v v' : Int} (hf : bl f = true) (us bs : List TermD) : normT bl (.mk f v (normT bl (.mk f v' us) :: bs)) = normT bl (.mk f v (us ++ bs)) := by
  rw [normT, normT]
  congr 1
  refine sorted_ext (normL_sorted bl f hf _ .nil) (normL_sorted bl f hf _ .nil) ?_
  have h1 := normL_perm bl f hf (normT bl (.mk f v' us) :: bs) []
  have h2 := normL_perm bl f hf (us ++ bs) []
  refine (h1.trans ?_).trans h2.symm
  rw [List.nil_append, List.nil_append, List.flatMap_cons, List.flatMap_append, normT_idem]
  refine List.Perm.append_right _ ?_
  have h3 := normL_perm bl f hf us []
  rw [List.nil_append] at h3
  have e : flatK f (normT bl (.mk f v' us)) = normL bl f us [] := by rw [normT]; simp [flatK, TermD.f, TermD.kids]
  rw [e]
  exact h3
end Go.Proofs.Ytollijngiioonaa

/- Weights as data. Conditions: none. -/
namespace Go.Proofs.Ytollijngiioonaa
set_option maxRecDepth 100000
open Go.RowKit

mutual
/-- The weight. -/
def wgtT (bl : Int → Bool) : TermD → Nat
  | .mk f _ ks => (if bl f && !ks.isEmpty then ks.length - 1 else 1) + wgtL bl ks
def wgtL (bl : Int → Bool) : List TermD → Nat
  | [] => 0
  | k :: ks => wgtT bl k + wgtL bl ks
end
theorem wgtT_eq (bl : Int → Bool) (t : TermD) : wgtT bl t = (if bl t.f && !t.kids.isEmpty then t.kids.length - 1 else 1) + wgtL bl t.kids := by cases t; rw [wgtT]; rfl
theorem wgtL_append (bl : Int → Bool) (a b : List TermD) : wgtL bl (a ++ b) = wgtL bl a + wgtL bl b := by
  induction a with
  | nil => simp [wgtL]
  | cons t ts ih => simp only [List.cons_append, wgtL, ih]; omega
theorem wgtL_next (bl : Int → Bool) {ts : List TermD} {k : Nat} (h : k < ts.length) : wgtL bl (ts.take (k + 1)) = wgtL bl (ts.take k) + wgtT bl ts[k] := by
  rw [List.take_succ_eq_append_getElem h, wgtL_append]
  simp [wgtL]
mutual
theorem wgtT_pos (bl : Int → Bool) : ∀ t : TermD, 1 ≤ wgtT bl t
  | .mk f v ks => by
    have h := wgtL_pos bl ks
    rw [wgtT]
    split
    · next hb =>
      have : ks ≠ [] := by intro e; subst e; simp at hb
      have := List.length_pos_iff.2 this
      omega
    · omega
theorem wgtL_pos (bl : Int → Bool) : ∀ ks : List TermD, ks.length ≤ wgtL bl ks
  | [] => by simp
  | k :: ks => by have := wgtT_pos bl k; have := wgtL_pos bl ks; rw [wgtL, List.length_cons]; omega
end
mutual
/-- A weight is less than twice the number of parts. -/
theorem wgtT_parts (bl : Int → Bool) : ∀ t : TermD, wgtT bl t + 1 ≤ 2 * partsT t
  | .mk f v ks => by
    have h := wgtL_parts bl ks
    rw [wgtT, partsT]
    split <;> omega
theorem wgtL_parts (bl : Int → Bool) : ∀ ks : List TermD, wgtL bl ks + ks.length ≤ 2 * partsL ks
  | [] => by simp [wgtL, partsL]
  | k :: ks => by have := wgtT_parts bl k; have := wgtL_parts bl ks; rw [wgtL, partsL, List.length_cons]; omega
end
end Go.Proofs.Ytollijngiioonaa

/- Right terms, weights, and terms that are made, as data; what a right term's form and weight are. Conditions: none. -/
namespace Go.Proofs.Ytollijngiioonaa
set_option maxRecDepth 100000
open Go.RowKit

/-- Before the one ahead of it, if there is one. -/
def befO (k : TermD) : Option TermD → Bool
  | some q => befT k q
  | none => false
mutual
/-- Right, of any size. -/
def rightT (ss : List SymD) : TermD → Bool
  | .mk f v ks => if f = -1 then decide (0 ≤ v ∧ v ≤ 99) && ks.isEmpty
    else decide (0 ≤ f ∧ f < ss.length) && v == 0 && (if blindAt ss f then decide (2 ≤ ks.length) else (ks.length : Int) == arityAt ss f) && rightL ss f none ks
/-- The Kids, the one ahead of them known. -/
def rightL (ss : List SymD) (f : Int) : Option TermD → List TermD → Bool
  | _, [] => true
  | p, k :: ks => !(blindAt ss f && (k.f == f || befO k p)) && rightT ss k && rightL ss f (some k) ks
end
theorem rightT_eq (ss : List SymD) (t : TermD) : rightT ss t = if t.f = -1 then decide (0 ≤ t.v ∧ t.v ≤ 99) && t.kids.isEmpty
    else decide (0 ≤ t.f ∧ t.f < ss.length) && t.v == 0 && (if blindAt ss t.f then decide (2 ≤ t.kids.length) else (t.kids.length : Int) == arityAt ss t.f) && rightL ss t.f none t.kids := by
  cases t; rw [rightT]; rfl
theorem rightL_all (ss : List SymD) (f : Int) : ∀ (ks : List TermD) (p : Option TermD), rightL ss f p ks = true → ∀ k ∈ ks, rightT ss k = true ∧ (blindAt ss f = true → k.f ≠ f)
  | [], _, _ => by simp
  | x :: xs, p, h => by
    rw [rightL, Bool.and_eq_true, Bool.and_eq_true] at h
    intro k hk
    rcases List.mem_cons.1 hk with rfl | hk
    · refine ⟨h.1.2, fun hb e => ?_⟩
      have := h.1.1
      rw [hb, e] at this
      simp at this
    · exact rightL_all ss f xs (some x) h.2 k hk
theorem rightL_from (ss : List SymD) (f : Int) (hb : blindAt ss f = true) : ∀ (ks : List TermD) (q : TermD), rightL ss f (some q) ks = true → (q :: ks).Pairwise leT
  | [], q, _ => by simp
  | x :: xs, q, h => by
    rw [rightL, Bool.and_eq_true, Bool.and_eq_true] at h
    have h0 : leT q x := by
      rw [← befT_leT]
      have := h.1.1
      rw [hb] at this
      simp only [Bool.true_and, Bool.not_eq_true', Bool.or_eq_false_iff] at this
      exact this.2
    have h1 := rightL_from ss f hb xs x h.2
    refine List.Pairwise.cons (fun y hy => ?_) h1
    rcases List.mem_cons.1 hy with rfl | hy
    · exact h0
    · exact leT_trans h0 ((List.pairwise_cons.1 h1).1 y hy)
theorem rightL_sorted (ss : List SymD) (f : Int) (hb : blindAt ss f = true) (ks : List TermD) (h : rightL ss f none ks = true) : ks.Pairwise leT := by
  cases ks with
  | nil => exact .nil
  | cons x xs =>
    rw [rightL, Bool.and_eq_true] at h
    exact rightL_from ss f hb xs x h.2
theorem right_isN (ss : List SymD) : ∀ (n : Nat) (t : TermD), partsT t ≤ n → rightT ss t = true → IsN (blindAt ss) t := by
  intro n
  induction n with
  | zero => intro t h; rw [partsT_eq] at h; omega
  | succ n ih =>
    intro t hn h
    rw [partsT_eq] at hn
    rw [rightT_eq] at h
    split at h
    · simp only [Bool.and_eq_true, List.isEmpty_iff] at h
      exact .mk t (by simp [h.2]) (fun _ => by simp [h.2])
    · simp only [Bool.and_eq_true] at h
      have ha := rightL_all ss t.f t.kids none h.2
      exact .mk t (fun k hk => ih k (by have := parts_kid hk; omega) (ha k hk).1) (fun hb => ⟨rightL_sorted ss t.f hb t.kids h.2, fun k hk => (ha k hk).2 hb⟩)
/-- One form of what is right is it. -/
theorem right_self (ss : List SymD) {t : TermD} (h : rightT ss t = true) : normT (blindAt ss) t = t := normT_self _ (right_isN ss _ t (Nat.le_refl _) h)


/-- A term that is made of a function and Kids. -/
def makeT (ss : List SymD) (f : Int) (ks : List TermD) : TermD :=
  if blindAt ss f = true ∧ ks = [] then .mk 0 0 []
  else if blindAt ss f = true ∧ ks.length = 1 then normT (blindAt ss) (ks.headD (.mk 0 0 []))
  else if ¬ (0 ≤ f ∧ f < ss.length) then .mk f 0 ks
  else normT (blindAt ss) (.mk f 0 ks)
theorem blindAt_lt {ss : List SymD} {f : Int} (h : blindAt ss f = true) : 0 ≤ f ∧ f < ss.length := by
  unfold blindAt at h
  split at h
  · next h0 =>
    refine ⟨h0, ?_⟩
    by_cases hl : f.toNat < ss.length
    · omega
    · rw [List.getElem?_eq_none (by omega)] at h; cases h
  · cases h
theorem makeT_blind {ss : List SymD} {f : Int} (h : blindAt ss f = true) {ks : List TermD} (hl : 2 ≤ ks.length) : makeT ss f ks = normT (blindAt ss) (.mk f 0 ks) := by
  unfold makeT
  rw [if_neg (by rintro ⟨_, rfl⟩; simp at hl), if_neg (by rintro ⟨_, e⟩; omega), if_neg (by simpa using blindAt_lt h)]
/-- In any order. -/
theorem makeT_perm {ss : List SymD} {f : Int} (h : blindAt ss f = true) {us bs : List TermD} (hl : 2 ≤ us.length) (hp : us.Perm bs) : makeT ss f us = makeT ss f bs := by
  rw [makeT_blind h hl, makeT_blind h (by rw [← hp.length_eq]; exact hl)]
  exact normT_perm _ h hp
/-- In brackets. -/
theorem makeT_in {ss : List SymD} {f : Int} (h : blindAt ss f = true) {us bs : List TermD} (ha : 2 ≤ us.length) (hb : 1 ≤ bs.length) : makeT ss f (makeT ss f us :: bs) = makeT ss f (us ++ bs) := by
  rw [makeT_blind h (by simp; omega), makeT_blind h ha, makeT_blind h (by simp; omega)]
  exact normT_in _ h us bs
end Go.Proofs.Ytollijngiioonaa

/- A region that draws its order, whose operations only read and whose callees may lay blocks of their own, walked once, in the order of the text: the class of worlds in which all that was there lies as it lay. Conditions: none. -/
namespace Go.Proofs.Ytollijngiioonaa
set_option maxRecDepth 100000
open Go.RowKit

/-- A world in which all that lay in w lies as it lay. -/
structure BW (w : World) where
  u : World
  b : Below w.heap.size w u
instance (w : World) : Inhabited (BW w) := ⟨⟨w, Below.refl _ _⟩⟩
theorem wp_region_below {P : Program} {id : Nat} {Q : Exit → Act → World → Prop} {a : Act} {w : World} {l : List Oper} (hm : P.follows .mixedOrders = true) (hB : Region.lexB .any l.toArray = true)
    (h : wpQuiet P l.toArray (fun w' => ∃ p : BW w, w' = p.u) (fun a' => ∀ w', (∃ p : BW w, w' = p.u) → Q .normal a' w') l a) : (Code.region id l.toArray true).wp P Q a w :=
  wp_region_quiet (C := fun w' => ∃ p : BW w, w' = p.u) hm hB ⟨⟨w.drew, (Below.refl _ _).drew⟩, rfl⟩ (by simpa using h)
/-- What was there is there. -/
theorem cellB {w : World} {a : Addr} {v : Value} (h : w.cell? a = some v) (p : BW w) : p.u.cell? a = some v := (p.b.cell (World.block_lt_of_cell? w a h)).trans h
/-- A callee's contract, met in a world of the class. -/
theorem callsB {P : Program} {f : FuncId} {args : Array Value} {w : World} {p : BW w} {v : Value}
    (h : Calls P f args p.u fun e w' => e = .returned v ∧ Below p.u.heap.size p.u w') : Calls P f args p.u fun e w'' => e = .returned v ∧ ∃ q : BW w, w'' = q.u :=
  h.mono fun _ w' ⟨he, hb⟩ => ⟨he, ⟨w', p.b.trans (hb.mono p.b.size)⟩, rfl⟩
end Go.Proofs.Ytollijngiioonaa

/- Whether a term is right, as the specification tells it. Conditions: terms of at most 549755813888 parts, at most 1048577 functions. -/
namespace Go.Proofs.Ytollijngiioonaa
set_option maxRecDepth 100000
open Go.RowKit Go.BigFrame

theorem rightT_mk (ss : List SymD) (f v : Int) (ks : List TermD) : rightT ss (.mk f v ks) = if f = -1 then decide (0 ≤ v ∧ v ≤ 99) && ks.isEmpty
    else decide (0 ≤ f ∧ f < ss.length) && v == 0 && (if blindAt ss f then decide (2 ≤ ks.length) else (ks.length : Int) == arityAt ss f) && rightL ss f none ks := by rw [rightT]

theorem l1In_any (x lo hi : Int) (w : World) : Calls Try.prog 48 #[.int .i64 x, .int .i64 lo, .int .i64 hi] w fun e w' => e = .returned (.bool (decide (lo ≤ x) && decide (x ≤ hi))) ∧ w' = w := by
  by_cases h : lo ≤ x
  · go_enter Try.func48, Try.ntmps48
    go_wp2
    go_ret
    exact ⟨rtB (by simp [h]), rfl⟩
  · go_enter Try.func48, Try.ntmps48
    go_wp2
    go_ret
    exact ⟨rtB (by simp; omega), rfl⟩

set_option maxHeartbeats 3200000 in
theorem l4Right_any (sa : Option Addr) (ss : List SymD) (sc : Nat) (hss : ss.length ≤ 1048577) (N : Nat) : ∀ (t : TermD) (a : Option Addr) (c hi : Nat) (w : World), isW t.f → RdS w sa ss → partsT t ≤ N → N ≤ 549755813888 → RdK w hi a t.kids → hi ≤ w.heap.size →
    Calls Try.prog 76 #[.slice sa ss.length sc, .agg #[.int .i64 t.f, .int .i64 t.v, .slice a t.kids.length c]] w fun e w' => e = .returned (.bool (rightT ss t)) ∧ Below w.heap.size w w' := by
  induction N with
  | zero => intro t a c hi w _ _ h; rw [partsT_eq] at h; omega
  | succ N ih =>
    intro t a c hi w hf hs hN hM hr hhi
    obtain ⟨f, v, ks⟩ := t
    simp only [TermD.f, TermD.v, TermD.kids] at hf hr ⊢
    rw [partsT] at hN
    have hlen := partsL_len ks
    have HR : Hid (RdK w hi a ks) := hr
    have HS : Hid (RdS w sa ss) := hs
    have HW0 : Hid _ := rightT_mk ss f v ks
    obtain ⟨W, hW⟩ : ∃ W, W = w.alloc (.cells #[.int .i64 f, .int .i64 v, .slice a ks.length c] 27) := ⟨_, rfl⟩
    have hb0 : Below w.heap.size w W := by rw [hW]; exact (Below.refl w.heap.size w).alloc (Nat.le_refl _) _
    have p0 : W.cell? ⟨w.heap.size, 0, none⟩ = some (.int .i64 f) := by rw [hW]; simp [go_sem]
    have p1 : W.cell? ⟨w.heap.size, 1, none⟩ = some (.int .i64 v) := by rw [hW]; simp [go_sem]
    have p2 : W.cell? ⟨w.heap.size, 2, none⟩ = some (.slice a ks.length c) := by rw [hW]; simp [go_sem]
    have hwl0 : w.heap.size < W.heap.size := by rw [hW]; simp
    have hf0 := hf.1
    have hf1 := hf.2
    clear hf hr
    by_cases hv : f = -1
    · have HW : Hid (rightT ss (.mk f v ks) = (decide (0 ≤ v) && decide (v ≤ 99) && decide (ks.length = 0))) := by
        show _ = _
        rw [HW0.out, if_pos hv]
        cases ks <;> by_cases h1 : 0 ≤ v <;> by_cases h2 : v ≤ 99 <;> simp [h1, h2]
      have hfe : (f == -1) = true := by simp [hv]
      clear HW0 hs hv
      generalize ks.length = m at *
      go_enter Try.func76, Try.ntmps76
      go_wp2_with go_in
      all_goals
        go_ret
        refine ⟨rtB ?_, by rw [hW] at hb0; exact hb0⟩
        rw [HW.out]
        first
          | (simp; omega)
          | (simp; intros; omega)
          | (by_cases hm : m = 0 <;> simp [*] <;> omega)
          | (by_cases hm : m = 0 <;> simp [*])
    · have hfe : (f == -1) = false := by simp [hv]
      by_cases hin : 0 ≤ f ∧ f < (ss.length : Int)
      · obtain ⟨k, rfl⟩ := Int.eq_ofNat_of_zero_le hin.1
        have hk : k < ss.length := by omega
        have IN := fun w => l1In_any k 0 ((ss.length : Int) - 1) w
        rw [show (decide ((0 : Int) ≤ k) && decide ((k : Int) ≤ (ss.length : Int) - 1)) = true by simp; omega] at IN
        have hki : (k : Int) < (ss.length : Int) := by omega
        have hk0 : (0 : Int) ≤ (k : Int) := by omega
        have hsl : (ss.length : Int) ≤ 1048577 := by omega
        rcases hs with rfl | ⟨b0, o0, rfl, hbl, hcs⟩
        · simp at hk
        · obtain ⟨_, c1, c2⟩ := hcs k hk
          have c2o := c2
          have c1 := keepC hb0 c1
          have c2 := keepC hb0 c2
          have hwr : IntKind.i64.wrap ((ss.length : Int) - 1) = (ss.length : Int) - 1 := by rw [IntKind.wrap_i64]; omega
          have HA : Hid (blindAt ss k = ss[k].ac ∧ arityAt ss k = ss[k].ar) := ⟨blindAt_in hk, arityAt_in hk⟩
          clear hcs hin
          by_cases hv0 : v = 0
          · have hve : (v == 0) = true := by simp [hv0]
            have hvn : (v != 0) = false := by simp [hv0]
            cases hac : ss[k].ac with
            | false =>
              have hnac : (!ss[k].ac) = true := by rw [hac]; rfl
              rw [hac] at HA c2 c2o
              by_cases hea : (ks.length : Int) = ss[k].ar
              · have hne : ((ks.length : Int) == ss[k].ar) = true := by simp [hea]
                have hnn : ((ks.length : Int) != ss[k].ar) = false := by simp [hea]
                have HW : Hid (rightT ss (.mk k v ks) = rightL ss k none ks) := by show _ = _; rw [HW0.out, if_neg hv, HA.out.1, HA.out.2, hve, hne, decide_eq_true (by omega)]; simp
                have cc2 := c2o
                clear HW0 hv hv0 hea
                go_enter Try.func76, Try.ntmps76
                go_wp2_with fail
                rw [← hW]
                clear hW
                go_quiet ((go_at_call 48; refine Calls.quiet_of_same (IN _)))
                go_wp2_with fail
                go_loopw [5] (fun i wr => ∃ j : Nat, j ≤ ks.length ∧ i = .int .i64 j ∧ Hid (rightL ss k none ks = rightL ss k (if j = 0 then none else ks[j-1]?) (ks.drop j)) ∧ wr.cell? ⟨w.heap.size, 0, none⟩ = some (.int .i64 k) ∧ wr.cell? ⟨w.heap.size, 2, none⟩ = some (.slice a ks.length c) ∧ Below w.heap.size w wr ∧ w.heap.size < wr.heap.size) (fun i _ => ks.length - (intOf i).toNat)
                case atStart => exact ⟨0, Nat.zero_le _, rfl, by show _ = _; simp, p0, p2, below_drewN hb0 _, hwl0⟩
                case round =>
                  obtain ⟨j, hj, rfl, HK, hp0, hp2, hbr, hwl⟩ := hrel
                  clear p0 p1 p2 hb0 hwl0 c1
                  by_cases hj' : j < ks.length
                  · obtain ⟨b, off, a', c', rfl, hlt, d0, d1, d2, hkr⟩ := RdK.kid (HR.out.on (hbr.mono hhi)) hj'
                    have hji : (j : Int) < (ks.length : Int) := by omega
                    have hj0 : (0 : Int) ≤ (j : Int) := by omega
                    have hli : (ks.length : Int) ≤ 549755813888 := by omega
                    have hpg := partsL_get hj'
                    have HD : Hid (ks.drop j = ks[j] :: ks.drop (j + 1)) := List.drop_eq_getElem_cons hj'
                    have g2 : wr.cell? ⟨b0, o0 + k * 3 + 2, none⟩ = some (.bool false) := hbr.cell (p := ⟨b0, o0 + k * 3 + 2, none⟩) hbl |>.trans cc2
                    have IR0 := fun W' (h : Below wr.heap.size wr W') => ih ks[j] a' c' hi W' (RdK.ints HR.out hj').1 (HS.out.below (hbr.trans (h.mono hbr.size))) (by omega) (by omega) (hkr.on (h.mono (Nat.le_trans hhi hbr.size))) (Nat.le_trans hhi (Nat.le_trans hbr.size h.size))
                    cases hrt : rightT ss ks[j] with
                    | false =>
                      have IR : ∀ W', Below wr.heap.size wr W' → Calls Try.prog 76 #[.slice (some ⟨b0, o0, none⟩) ss.length sc, .agg #[.int .i64 ks[j].f, .int .i64 ks[j].v, .slice a' ks[j].kids.length c']] W' fun e w' => e = .returned (.bool false) ∧ Below W'.heap.size W' w' := fun W' h => by have := IR0 W' h; rwa [hrt] at this
                      have HF : Hid (rightT ss (.mk k v ks) = false) := by show _ = _; rw [HW.out, HK.out, HD.out, rightL, hrt]; simp
                      clear IR0 HK HD hrt hkr
                      go_wp2_with fail
                      have k0 := cellB hp0
                      have k2 := cellB hp2
                      have k3 := cellB g2
                      have k4 := cellB d0
                      have k5 := cellB d1
                      have k6 := cellB d2
                      refine wp_region_below (by kernel_rfl) (by kernel_rfl) ?_
                      repeat (go_big_quiet_step ((first | (go_at_call 76; refine callsB (IR _ (BW.b _))))))
                      refine wpQuiet_nil ?_
                      intro w2 hw'
                      have hb2 : Below wr.heap.size wr w2 := by obtain ⟨p, rfl⟩ := hw'; exact p.b
                      clear hw'
                      have hB2 : Below w.heap.size w w2 := hbr.trans (hb2.mono hbr.size)
                      have q0 := keepC hb2 hp0
                      have q2 := keepC hb2 hp2
                      clear k0 k2 k3 k4 k5 k6
                      go_wp2_with fail
                      go_ret
                      exact ⟨rtB HF.out.symm, hB2⟩
                    | true =>
                      have IR : ∀ W', Below wr.heap.size wr W' → Calls Try.prog 76 #[.slice (some ⟨b0, o0, none⟩) ss.length sc, .agg #[.int .i64 ks[j].f, .int .i64 ks[j].v, .slice a' ks[j].kids.length c']] W' fun e w' => e = .returned (.bool true) ∧ Below W'.heap.size W' w' := fun W' h => by have := IR0 W' h; rwa [hrt] at this
                      have HN : Hid (rightL ss k none ks = rightL ss k (if j + 1 = 0 then none else ks[j + 1 - 1]?) (ks.drop (j + 1))) := by show _ = _; rw [HK.out, HD.out, rightL, hrt, if_neg (by omega : ¬ j + 1 = 0), show j + 1 - 1 = j by omega, List.getElem?_eq_getElem hj']; rw [HA.out.1]; simp
                      clear IR0 HK HD hrt hkr
                      go_wp2_with fail
                      have k0 := cellB hp0
                      have k2 := cellB hp2
                      have k3 := cellB g2
                      have k4 := cellB d0
                      have k5 := cellB d1
                      have k6 := cellB d2
                      refine wp_region_below (by kernel_rfl) (by kernel_rfl) ?_
                      repeat (go_big_quiet_step ((first | (go_at_call 76; refine callsB (IR _ (BW.b _))))))
                      refine wpQuiet_nil ?_
                      intro w2 hw'
                      have hb2 : Below wr.heap.size wr w2 := by obtain ⟨p, rfl⟩ := hw'; exact p.b
                      clear hw'
                      have hB2 : Below w.heap.size w w2 := hbr.trans (hb2.mono hbr.size)
                      have q0 := keepC hb2 hp0
                      have q2 := keepC hb2 hp2
                      clear k0 k2 k3 k4 k5 k6
                      go_wp2_with fail
                      go_roundw
                      case rel => exact ⟨j + 1, by omega, by go_num, HN, q0, q2, hB2, World.block_lt_of_cell? _ _ q0⟩
                      case measure => simp [intOf]; omega
                  · have HE : Hid (rightT ss (.mk k v ks) = true) := by show _ = _; rw [HW.out, HK.out, List.drop_eq_nil_of_le (by omega), rightL]
                    clear HK
                    go_wp2_with fail
                    go_ret
                    exact ⟨rtB HE.out.symm, hbr⟩
              · have hne : ((ks.length : Int) == ss[k].ar) = false := by simp [hea]
                have hnn : ((ks.length : Int) != ss[k].ar) = true := by simp [hea]
                have HW : Hid (rightT ss (.mk k v ks) = false) := by show _ = _; rw [HW0.out, if_neg hv, HA.out.1, HA.out.2, hne]; simp
                clear HW0 hv hv0 HA hea
                go_enter Try.func76, Try.ntmps76
                go_wp2_with fail
                rw [← hW]
                clear hW
                go_quiet ((go_at_call 48; refine Calls.quiet_of_same (IN _)))
                go_wp2_with fail
                go_ret
                exact ⟨rtB HW.out.symm, below_drewN hb0 _⟩
            | true =>
              have hnac : (!ss[k].ac) = false := by rw [hac]; rfl
              rw [hac] at HA c2 c2o
              by_cases hl2 : ks.length < 2
              · have hl2i : decide ((ks.length : Int) < 2) = true := by simp; omega
                have HW : Hid (rightT ss (.mk k v ks) = false) := by show _ = _; rw [HW0.out, if_neg hv, HA.out.1, if_pos rfl, decide_eq_false (by omega : ¬ 2 ≤ ks.length)]; simp
                clear HW0 hv hv0 HA hl2
                go_enter Try.func76, Try.ntmps76
                go_wp2_with fail
                rw [← hW]
                clear hW
                go_quiet ((go_at_call 48; refine Calls.quiet_of_same (IN _)))
                go_wp2_with fail
                go_ret
                exact ⟨rtB HW.out.symm, below_drewN hb0 _⟩
              · have hl2i : decide ((ks.length : Int) < 2) = false := by simp; omega
                have HW : Hid (rightT ss (.mk k v ks) = rightL ss k none ks) := by show _ = _; rw [HW0.out, if_neg hv, HA.out.1, if_pos rfl, hve, decide_eq_true (by omega : 2 ≤ ks.length), decide_eq_true (by omega)]; simp
                have cc2 := c2o
                clear HW0 hv hv0 hl2
                go_enter Try.func76, Try.ntmps76
                go_wp2_with fail
                rw [← hW]
                clear hW
                go_quiet ((go_at_call 48; refine Calls.quiet_of_same (IN _)))
                go_wp2_with fail
                go_loopw [5] (fun i wr => ∃ j : Nat, j ≤ ks.length ∧ i = .int .i64 j ∧ Hid (rightL ss k none ks = rightL ss k (if j = 0 then none else ks[j-1]?) (ks.drop j)) ∧ wr.cell? ⟨w.heap.size, 0, none⟩ = some (.int .i64 k) ∧ wr.cell? ⟨w.heap.size, 2, none⟩ = some (.slice a ks.length c) ∧ Below w.heap.size w wr ∧ w.heap.size < wr.heap.size) (fun i _ => ks.length - (intOf i).toNat)
                case atStart => exact ⟨0, Nat.zero_le _, rfl, by show _ = _; simp, p0, p2, below_drewN hb0 _, hwl0⟩
                case round =>
                  obtain ⟨j, hj, rfl, HK, hp0, hp2, hbr, hwl⟩ := hrel
                  clear p0 p1 p2 hb0 hwl0 c1
                  by_cases hj' : j < ks.length
                  · obtain ⟨b, off, a', c', rfl, hlt, d0, d1, d2, hkr⟩ := RdK.kid (HR.out.on (hbr.mono hhi)) hj'
                    have hji : (j : Int) < (ks.length : Int) := by omega
                    have hj0 : (0 : Int) ≤ (j : Int) := by omega
                    have hli : (ks.length : Int) ≤ 549755813888 := by omega
                    have hpg := partsL_get hj'
                    have HD : Hid (ks.drop j = ks[j] :: ks.drop (j + 1)) := List.drop_eq_getElem_cons hj'
                    have g2 : wr.cell? ⟨b0, o0 + k * 3 + 2, none⟩ = some (.bool true) := hbr.cell (p := ⟨b0, o0 + k * 3 + 2, none⟩) hbl |>.trans cc2
                    have IR0 := fun W' (h : Below wr.heap.size wr W') => ih ks[j] a' c' hi W' (RdK.ints HR.out hj').1 (HS.out.below (hbr.trans (h.mono hbr.size))) (by omega) (by omega) (hkr.on (h.mono (Nat.le_trans hhi hbr.size))) (Nat.le_trans hhi (Nat.le_trans hbr.size h.size))
                    by_cases hkf : ks[j].f = k
                    · have hkfe : (ks[j].f == (k : Int)) = true := by simp [hkf]
                      have HF : Hid (rightT ss (.mk k v ks) = false) := by show _ = _; rw [HW.out, HK.out, HD.out, rightL, HA.out.1, hkfe]; simp
                      clear IR0 HK HD hkr hkf
                      go_wp2_with fail
                      go_quiet ((fail))
                      go_wp2_with fail
                      go_ret
                      exact ⟨rtB HF.out.symm, below_drewN hbr _⟩
                    · have hkfe : (ks[j].f == (k : Int)) = false := by simp [hkf]
                      by_cases hjz : j = 0
                      · have hjn : decide ((0 : Int) < (j : Int)) = false := by simp; omega
                        have hjn2 : decide (0 < j) = false := by simp; omega
                        have HJ : Hid ((if j = 0 then (none : Option TermD) else ks[j-1]?) = none) := by show _ = _; rw [if_pos hjz]
                        clear hjz hkf
                        cases hrt : rightT ss ks[j] with
                        | false =>
                          have IR : ∀ W', Below wr.heap.size wr W' → Calls Try.prog 76 #[.slice (some ⟨b0, o0, none⟩) ss.length sc, .agg #[.int .i64 ks[j].f, .int .i64 ks[j].v, .slice a' ks[j].kids.length c']] W' fun e w' => e = .returned (.bool false) ∧ Below W'.heap.size W' w' := fun W' h => by have := IR0 W' h; rwa [hrt] at this
                          have HF : Hid (rightT ss (.mk k v ks) = false) := by show _ = _; rw [HW.out, HK.out, HD.out, rightL, hrt]; simp
                          clear IR0 HK HD hrt hkr
                          go_wp2_with fail
                          have k0 := cellB hp0
                          have k2 := cellB hp2
                          have k3 := cellB g2
                          have k4 := cellB d0
                          have k5 := cellB d1
                          have k6 := cellB d2
                          refine wp_region_below (by kernel_rfl) (by kernel_rfl) ?_
                          repeat (go_big_quiet_step ((first | (go_at_call 76; refine callsB (IR _ (BW.b _))))))
                          refine wpQuiet_nil ?_
                          intro w2 hw'
                          have hb2 : Below wr.heap.size wr w2 := by obtain ⟨p, rfl⟩ := hw'; exact p.b
                          clear hw'
                          have hB2 : Below w.heap.size w w2 := hbr.trans (hb2.mono hbr.size)
                          have q0 := keepC hb2 hp0
                          have q2 := keepC hb2 hp2
                          clear k0 k2 k3 k4 k5 k6
                          go_wp2_with fail
                          go_ret
                          exact ⟨rtB HF.out.symm, hB2⟩
                        | true =>
                          have IR : ∀ W', Below wr.heap.size wr W' → Calls Try.prog 76 #[.slice (some ⟨b0, o0, none⟩) ss.length sc, .agg #[.int .i64 ks[j].f, .int .i64 ks[j].v, .slice a' ks[j].kids.length c']] W' fun e w' => e = .returned (.bool true) ∧ Below W'.heap.size W' w' := fun W' h => by have := IR0 W' h; rwa [hrt] at this
                          have HN : Hid (rightL ss k none ks = rightL ss k (if j + 1 = 0 then none else ks[j + 1 - 1]?) (ks.drop (j + 1))) := by show _ = _; rw [HK.out, HD.out, rightL, hrt, if_neg (by omega : ¬ j + 1 = 0), show j + 1 - 1 = j by omega, List.getElem?_eq_getElem hj']; rw [HJ.out, HA.out.1, hkfe]; simp [befO]
                          clear IR0 HK HD hrt hkr
                          go_wp2_with fail
                          have k0 := cellB hp0
                          have k2 := cellB hp2
                          have k3 := cellB g2
                          have k4 := cellB d0
                          have k5 := cellB d1
                          have k6 := cellB d2
                          refine wp_region_below (by kernel_rfl) (by kernel_rfl) ?_
                          repeat (go_big_quiet_step ((first | (go_at_call 76; refine callsB (IR _ (BW.b _))))))
                          refine wpQuiet_nil ?_
                          intro w2 hw'
                          have hb2 : Below wr.heap.size wr w2 := by obtain ⟨p, rfl⟩ := hw'; exact p.b
                          clear hw'
                          have hB2 : Below w.heap.size w w2 := hbr.trans (hb2.mono hbr.size)
                          have q0 := keepC hb2 hp0
                          have q2 := keepC hb2 hp2
                          clear k0 k2 k3 k4 k5 k6
                          go_wp2_with fail
                          go_roundw
                          case rel => exact ⟨j + 1, by omega, by go_num, HN, q0, q2, hB2, World.block_lt_of_cell? _ _ q0⟩
                          case measure => simp [intOf]; omega
                      · obtain ⟨i, rfl⟩ : ∃ i, j = i + 1 := ⟨j - 1, by omega⟩
                        have hi' : i < ks.length := by omega
                        obtain ⟨b9, off9, a9, c9, e9, hlt9, y0, y1, y2, hkr9⟩ := RdK.kid (HR.out.on (hbr.mono hhi)) hi'
                        cases e9
                        have hjn : (0 : Int) < ((i + 1 : Nat) : Int) := by omega
                        have hi0 : (0 : Int) ≤ (i : Int) := by omega
                        have hi1 : (i : Int) < (ks.length : Int) := by omega
                        have hsub : IntKind.i64.wrap (((i + 1 : Nat) : Int) - 1) = (i : Int) := by rw [IntKind.wrap_i64]; omega
                        have hsub2 : IntKind.i64.wrap ((i : Int) + 1 - 1) = (i : Int) := by rw [IntKind.wrap_i64]; omega
                        have hsub3 : IntKind.i64.wrap (i : Int) = (i : Int) := by rw [IntKind.wrap_i64]; omega
                        have HJ : Hid ((if i + 1 = 0 then (none : Option TermD) else ks[i + 1 - 1]?) = some ks[i]) := by show _ = _; rw [if_neg hjz, show i + 1 - 1 = i by omega, List.getElem?_eq_getElem hi']
                        have CB0 := fun W' (h : Below wr.heap.size wr W') => specBefore_any (partsT ks[i + 1]) ks[i + 1] ks[i] a' a9 c' c9 hi W' (Nat.le_refl _) (by omega) (hkr.on (h.mono (Nat.le_trans hhi hbr.size))) (hkr9.on (h.mono (Nat.le_trans hhi hbr.size))) (Nat.le_trans hhi (Nat.le_trans hbr.size h.size))
                        clear hjz hkf
                        cases hbf : befT ks[i + 1] ks[i] with
                        | true =>
                          have CB : ∀ W', Below wr.heap.size wr W' → Calls Try.prog 53 #[.agg #[.int .i64 ks[i + 1].f, .int .i64 ks[i + 1].v, .slice a' ks[i + 1].kids.length c'], .agg #[.int .i64 ks[i].f, .int .i64 ks[i].v, .slice a9 ks[i].kids.length c9]] W' fun e w' => e = .returned (.bool true) ∧ Below W'.heap.size W' w' := fun W' h => by have := CB0 W' h; rwa [hbf] at this
                          have HF : Hid (rightT ss (.mk k v ks) = false) := by show _ = _; rw [HW.out, HK.out, HD.out, rightL, HJ.out, HA.out.1, befO, hbf]; simp
                          clear IR0 CB0 HK HD hkr hkr9 hbf
                          go_wp2_with fail
                          have k0 := cellB hp0
                          have k2 := cellB hp2
                          have k3 := cellB g2
                          have k4 := cellB d0
                          have k5 := cellB d1
                          have k6 := cellB d2
                          have k7 := cellB y0
                          have k8 := cellB y1
                          have k9 := cellB y2
                          refine wp_region_below (by kernel_rfl) (by kernel_rfl) ?_
                          repeat (go_big_quiet_step ((go_at_call 53; refine callsB (CB _ (BW.b _)))))
                          refine wpQuiet_nil ?_
                          intro w2 hw'
                          have hb2 : Below wr.heap.size wr w2 := by obtain ⟨p, rfl⟩ := hw'; exact p.b
                          clear hw'
                          have hB2 : Below w.heap.size w w2 := hbr.trans (hb2.mono hbr.size)
                          clear k0 k2 k3 k4 k5 k6 k7 k8 k9
                          go_wp2_with fail
                          go_ret
                          exact ⟨rtB HF.out.symm, hB2⟩
                        | false =>
                          have CB : ∀ W', Below wr.heap.size wr W' → Calls Try.prog 53 #[.agg #[.int .i64 ks[i + 1].f, .int .i64 ks[i + 1].v, .slice a' ks[i + 1].kids.length c'], .agg #[.int .i64 ks[i].f, .int .i64 ks[i].v, .slice a9 ks[i].kids.length c9]] W' fun e w' => e = .returned (.bool false) ∧ Below W'.heap.size W' w' := fun W' h => by have := CB0 W' h; rwa [hbf] at this
                          clear CB0 hkr9
                          cases hrt : rightT ss ks[i + 1] with
                          | false =>
                            have IR : ∀ W', Below wr.heap.size wr W' → Calls Try.prog 76 #[.slice (some ⟨b0, o0, none⟩) ss.length sc, .agg #[.int .i64 ks[i + 1].f, .int .i64 ks[i + 1].v, .slice a' ks[i + 1].kids.length c']] W' fun e w' => e = .returned (.bool false) ∧ Below W'.heap.size W' w' := fun W' h => by have := IR0 W' h; rwa [hrt] at this
                            have HF : Hid (rightT ss (.mk k v ks) = false) := by show _ = _; rw [HW.out, HK.out, HD.out, rightL, hrt]; simp
                            clear IR0 HK HD hrt hkr hbf
                            go_wp2_with fail
                            have k0 := cellB hp0
                            have k2 := cellB hp2
                            have k3 := cellB g2
                            have k4 := cellB d0
                            have k5 := cellB d1
                            have k6 := cellB d2
                            have k7 := cellB y0
                            have k8 := cellB y1
                            have k9 := cellB y2
                            refine wp_region_below (by kernel_rfl) (by kernel_rfl) ?_
                            repeat (go_big_quiet_step ((first | (go_at_call 76; refine callsB (IR _ (BW.b _))) | (go_at_call 53; refine callsB (CB _ (BW.b _))))))
                            refine wpQuiet_nil ?_
                            intro w2 hw'
                            have hb2 : Below wr.heap.size wr w2 := by obtain ⟨p, rfl⟩ := hw'; exact p.b
                            clear hw'
                            have hB2 : Below w.heap.size w w2 := hbr.trans (hb2.mono hbr.size)
                            have q0 := keepC hb2 hp0
                            have q2 := keepC hb2 hp2
                            clear k0 k2 k3 k4 k5 k6
                            go_wp2_with fail
                            go_ret
                            exact ⟨rtB HF.out.symm, hB2⟩
                          | true =>
                            have IR : ∀ W', Below wr.heap.size wr W' → Calls Try.prog 76 #[.slice (some ⟨b0, o0, none⟩) ss.length sc, .agg #[.int .i64 ks[i + 1].f, .int .i64 ks[i + 1].v, .slice a' ks[i + 1].kids.length c']] W' fun e w' => e = .returned (.bool true) ∧ Below W'.heap.size W' w' := fun W' h => by have := IR0 W' h; rwa [hrt] at this
                            have HN : Hid (rightL ss k none ks = rightL ss k (if i + 1 + 1 = 0 then none else ks[i + 1 + 1 - 1]?) (ks.drop (i + 1 + 1))) := by show _ = _; rw [HK.out, HD.out, rightL, hrt, if_neg (by omega : ¬ i + 1 + 1 = 0), show i + 1 + 1 - 1 = i + 1 by omega, List.getElem?_eq_getElem hj']; rw [HJ.out, HA.out.1, hkfe, befO, hbf]; simp
                            clear IR0 HK HD hrt hkr hbf
                            go_wp2_with fail
                            have k0 := cellB hp0
                            have k2 := cellB hp2
                            have k3 := cellB g2
                            have k4 := cellB d0
                            have k5 := cellB d1
                            have k6 := cellB d2
                            have k7 := cellB y0
                            have k8 := cellB y1
                            have k9 := cellB y2
                            refine wp_region_below (by kernel_rfl) (by kernel_rfl) ?_
                            repeat (go_big_quiet_step ((first | (go_at_call 76; refine callsB (IR _ (BW.b _))) | (go_at_call 53; refine callsB (CB _ (BW.b _))))))
                            refine wpQuiet_nil ?_
                            intro w2 hw'
                            have hb2 : Below wr.heap.size wr w2 := by obtain ⟨p, rfl⟩ := hw'; exact p.b
                            clear hw'
                            have hB2 : Below w.heap.size w w2 := hbr.trans (hb2.mono hbr.size)
                            have q0 := keepC hb2 hp0
                            have q2 := keepC hb2 hp2
                            clear k0 k2 k3 k4 k5 k6
                            go_wp2_with fail
                            go_roundw
                            case rel => exact ⟨i + 1 + 1, by omega, by go_num, HN, q0, q2, hB2, World.block_lt_of_cell? _ _ q0⟩
                            case measure => simp [intOf]; omega
                  · have HE : Hid (rightT ss (.mk k v ks) = true) := by show _ = _; rw [HW.out, HK.out, List.drop_eq_nil_of_le (by omega), rightL]
                    clear HK
                    go_wp2_with fail
                    go_ret
                    exact ⟨rtB HE.out.symm, hbr⟩
          · have hve : (v == 0) = false := by simp [hv0]
            have hvn : (v != 0) = true := by simp [hv0]
            have HW : Hid (rightT ss (.mk k v ks) = false) := by show _ = _; rw [HW0.out, if_neg hv, hve]; simp
            clear HW0 hv hv0 HA
            go_enter Try.func76, Try.ntmps76
            go_wp2_with fail
            rw [← hW]
            clear hW
            go_quiet ((go_at_call 48; refine Calls.quiet_of_same (IN _)))
            go_wp2_with fail
            go_ret
            exact ⟨rtB HW.out.symm, below_drewN hb0 _⟩
      · have HW : Hid (rightT ss (.mk f v ks) = false) := by show _ = _; rw [HW0.out, if_neg hv, decide_eq_false hin]; simp
        have IN := fun w => l1In_any f 0 ((ss.length : Int) - 1) w
        rw [show (decide ((0 : Int) ≤ f) && decide (f ≤ (ss.length : Int) - 1)) = false by simp; omega] at IN
        have hsl : (ss.length : Int) ≤ 1048577 := by omega
        clear HW0 hv hs hin
        go_enter Try.func76, Try.ntmps76
        go_wp2_with fail
        rw [← hW]
        clear hW
        have hwr : IntKind.i64.wrap ((ss.length : Int) - 1) = (ss.length : Int) - 1 := by rw [IntKind.wrap_i64]; omega
        go_quiet ((go_at_call 48; refine Calls.quiet_of_same (IN _)))
        go_wp2_with fail
        go_ret
        exact ⟨rtB HW.out.symm, below_drewN hb0 _⟩
end Go.Proofs.Ytollijngiioonaa

/- Whether a term is right, its size too, as the specification tells it. Conditions: terms of at most 549755813888 parts, at most 1048577 functions. -/
namespace Go.Proofs.Ytollijngiioonaa
set_option maxRecDepth 100000
open Go.RowKit

set_option maxHeartbeats 3200000 in
theorem specTermOk_any (sa : Option Addr) (ss : List SymD) (sc : Nat) (hss : ss.length ≤ 1048577) (hnm : ∀ s ∈ ss, s.name.size ≤ 1048576) (t : TermD) (a : Option Addr) (c hi : Nat) (w : World) (hf : isW t.f) (hs : RdS w sa ss) (hp : partsT t ≤ 549755813888) (hr : RdK w hi a t.kids) (hhi : hi ≤ w.heap.size) :
    Calls Try.prog 62 #[.slice sa ss.length sc, .agg #[.int .i64 t.f, .int .i64 t.v, .slice a t.kids.length c]] w fun e w' => e = .returned (.bool (sigOk ss && decide (partsT t ≤ 60) && rightT ss t)) ∧ Below w.heap.size w w' := by
  obtain ⟨W, hW⟩ : ∃ W, W = w.alloc (.cells #[.int .i64 t.f, .int .i64 t.v, .slice a t.kids.length c] 27) := ⟨_, rfl⟩
  have hB : Below w.heap.size w W := by rw [hW]; exact (Below.refl _ _).alloc (Nat.le_refl _) _
  have p0 : W.cell? ⟨w.heap.size, 0, none⟩ = some (.int .i64 t.f) := by rw [hW]; simp [go_sem]
  have p1 : W.cell? ⟨w.heap.size, 1, none⟩ = some (.int .i64 t.v) := by rw [hW]; simp [go_sem]
  have p2 : W.cell? ⟨w.heap.size, 2, none⟩ = some (.slice a t.kids.length c) := by rw [hW]; simp [go_sem]
  have CS := fun W' (h : Below W.heap.size W W') => specSigOk_any sa ss ss.length sc W' rfl ((hs.below hB).below h) hss hnm
  have CP := fun W' (h : Below W.heap.size W W') => specParts_any (partsT t) t a c hi W' (Nat.le_refl _) hp (hr.on ((hB.trans (h.mono hB.size)).mono hhi)) (Nat.le_trans hhi (Nat.le_trans hB.size h.size))
  have CR := fun W' (h : Below W.heap.size W W') => l4Right_any sa ss sc hss (partsT t) t a c hi W' hf ((hs.below hB).below h) (Nat.le_refl _) hp (hr.on ((hB.trans (h.mono hB.size)).mono hhi)) (Nat.le_trans hhi (Nat.le_trans hB.size h.size))
  clear hs hr hf
  cases hsg : sigOk ss with
  | false =>
    simp only [hsg] at CS
    clear CP CR
    go_enter Try.func62, Try.ntmps62
    go_wp2_with (go_at_call 74; rw [← hW]; refine (CS _ (Below.refl _ _)).mono ?_; rintro e w1 ⟨rfl, hw⟩; subst w1; clear hW)
    go_ret
    exact ⟨rtB (by simp), hB⟩
  | true =>
    simp only [hsg] at CS
    by_cases h60 : partsT t ≤ 60
    · have h60i : ((partsT t : Nat) : Int) ≤ 60 := by omega
      rw [decide_eq_true h60]
      go_enter Try.func62, Try.ntmps62
      go_wp2_with (first
        | (go_at_call 74; rw [← hW]; refine (CS _ (Below.refl _ _)).mono ?_; rintro e w1 ⟨rfl, hw⟩; subst w1; clear hW)
        | (go_at_call 75; refine (CP _ (Below.refl _ _)).mono ?_; rintro e w2 ⟨rfl, hb2⟩; have q0 := keepC hb2 p0; have q1 := keepC hb2 p1; have q2 := keepC hb2 p2; have hB2 : Below w.heap.size w w2 := hB.trans (hb2.mono hB.size); clear p0 p1 p2)
        | (go_at_call 76; refine (CR _ hb2).mono ?_; rintro e w3 ⟨rfl, hb3⟩; have hB3 : Below w.heap.size w w3 := hB2.trans (hb3.mono hB2.size)))
      go_ret
      exact ⟨rtB (by simp), hB3⟩
    · have h60i : ¬ ((partsT t : Nat) : Int) ≤ 60 := by omega
      rw [decide_eq_false h60]
      clear CR
      go_enter Try.func62, Try.ntmps62
      go_wp2_with (first
        | (go_at_call 74; rw [← hW]; refine (CS _ (Below.refl _ _)).mono ?_; rintro e w1 ⟨rfl, hw⟩; subst w1; clear hW)
        | (go_at_call 75; refine (CP _ (Below.refl _ _)).mono ?_; rintro e w2 ⟨rfl, hb2⟩; have q0 := keepC hb2 p0; have q1 := keepC hb2 p1; have q2 := keepC hb2 p2; have hB2 : Below w.heap.size w w2 := hB.trans (hb2.mono hB.size); clear p0 p1 p2))
      go_ret
      exact ⟨rtB (by simp), hB2⟩
end Go.Proofs.Ytollijngiioonaa

/- Which equation is ahead, and which is right, as the specification tells. Conditions: at most 549755813888 parts. -/
namespace Go.Proofs.Ytollijngiioonaa
set_option maxRecDepth 100000
open Go.RowKit

def tokX (ss : List SymD) (t : TermD) : Bool := sigOk ss && decide (partsT t ≤ 60) && rightT ss t
def okX (ss : List SymD) (x : LitD) : Bool := tokX ss x.l && tokX ss x.r && !befT x.l x.r
set_option maxHeartbeats 1600000 in
theorem specLitOk_any (sa : Option Addr) (ss : List SymD) (sc : Nat) (hss : ss.length ≤ 1048577) (hnm : ∀ s ∈ ss, s.name.size ≤ 1048576) (x : LitD) (a1 a2 : Option Addr) (c1 c2 hi : Nat) (w : World) (hs : RdS w sa ss) (hf1 : isW x.l.f) (hf2 : isW x.r.f) (hp1 : partsT x.l ≤ 549755813888) (hp2 : partsT x.r ≤ 549755813888) (hx1 : RdK w hi a1 x.l.kids) (hx2 : RdK w hi a2 x.r.kids) (hhi : hi ≤ w.heap.size) :
    Calls Try.prog 29 #[.slice sa ss.length sc, litV x a1 c1 a2 c2] w fun e w' => e = .returned (.bool (okX ss x)) ∧ Below w.heap.size w w' := by
  unfold litV
  obtain ⟨W, hW⟩ : ∃ W, W = w.alloc (.cells #[.bool x.p, .int .i64 x.l.f, .int .i64 x.l.v, .slice a1 x.l.kids.length c1, .int .i64 x.r.f, .int .i64 x.r.v, .slice a2 x.r.kids.length c2] 43) := ⟨_, rfl⟩
  have h0 : Below w.heap.size w W := by rw [hW]; exact (Below.refl _ _).alloc (Nat.le_refl _) _
  have p0 : W.cell? ⟨w.heap.size, 0, none⟩ = some (.bool x.p) := by rw [hW]; simp [go_sem]
  have p1 : W.cell? ⟨w.heap.size, 1, none⟩ = some (.int .i64 x.l.f) := by rw [hW]; simp [go_sem]
  have p2 : W.cell? ⟨w.heap.size, 2, none⟩ = some (.int .i64 x.l.v) := by rw [hW]; simp [go_sem]
  have p3 : W.cell? ⟨w.heap.size, 3, none⟩ = some (.slice a1 x.l.kids.length c1) := by rw [hW]; simp [go_sem]
  have p4 : W.cell? ⟨w.heap.size, 4, none⟩ = some (.int .i64 x.r.f) := by rw [hW]; simp [go_sem]
  have p5 : W.cell? ⟨w.heap.size, 5, none⟩ = some (.int .i64 x.r.v) := by rw [hW]; simp [go_sem]
  have p6 : W.cell? ⟨w.heap.size, 6, none⟩ = some (.slice a2 x.r.kids.length c2) := by rw [hW]; simp [go_sem]
  have E1 := specTermOk_any sa ss sc hss hnm x.l a1 c1 hi W hf1 (hs.below h0) hp1 (hx1.on (h0.mono hhi)) (Nat.le_trans hhi h0.size)
  have E2 := fun (W' : World) (h : Below w.heap.size w W') => specTermOk_any sa ss sc hss hnm x.r a2 c2 hi W' hf2 (hs.below h) hp2 (hx2.on (h.mono hhi)) (Nat.le_trans hhi h.size)
  have E3 := fun (W' : World) (h : Below w.heap.size w W') => specBefore_any (partsT x.l) x.l x.r a1 a2 c1 c2 hi W' (Nat.le_refl _) hp1 (hx1.on (h.mono hhi)) (hx2.on (h.mono hhi)) (Nat.le_trans hhi h.size)
  have HS : Hid (okX ss x = ((sigOk ss && decide (partsT x.l ≤ 60) && rightT ss x.l) && (sigOk ss && decide (partsT x.r ≤ 60) && rightT ss x.r) && !befT x.l x.r)) := rfl
  clear hx1 hx2 hp1 hp2 hs hf1 hf2 hss hnm
  generalize (sigOk ss && decide (partsT x.l ≤ 60) && rightT ss x.l) = s1 at E1 HS
  generalize (sigOk ss && decide (partsT x.r ≤ 60) && rightT ss x.r) = s2 at E2 HS
  generalize befT x.l x.r = s3 at E3 HS
  cases s1
  · have HF : Hid (okX ss x = false) := HS.out.trans rfl
    clear HS E2 E3
    go_enter Try.func29, Try.ntmps29
    go_wp2_with (go_at_call_of 62 a1; rw [← hW]; clear hW; refine E1.mono ?_; rintro e w1 ⟨rfl, hb1⟩; have hB1 := h0.trans (hb1.mono h0.size); have p0' := keepC hb1 p0; have p1' := keepC hb1 p1; have p2' := keepC hb1 p2; have p3' := keepC hb1 p3; have p4' := keepC hb1 p4; have p5' := keepC hb1 p5; have p6' := keepC hb1 p6; clear p0 p1 p2 p3 p4 p5 p6; have p0 := p0'; have p1 := p1'; have p2 := p2'; have p3 := p3'; have p4 := p4'; have p5 := p5'; have p6 := p6'; clear p0' p1' p2' p3' p4' p5' p6'; clear hb1)
    go_ret
    exact ⟨rtB HF.out.symm, hB1⟩
  · cases s2
    · have HF : Hid (okX ss x = false) := HS.out.trans rfl
      clear HS E3
      go_enter Try.func29, Try.ntmps29
      go_wp2_with (first
        | (go_at_call_of 62 a1; rw [← hW]; clear hW; refine E1.mono ?_; rintro e w1 ⟨rfl, hb1⟩; have hB1 := h0.trans (hb1.mono h0.size); have p0' := keepC hb1 p0; have p1' := keepC hb1 p1; have p2' := keepC hb1 p2; have p3' := keepC hb1 p3; have p4' := keepC hb1 p4; have p5' := keepC hb1 p5; have p6' := keepC hb1 p6; clear p0 p1 p2 p3 p4 p5 p6; have p0 := p0'; have p1 := p1'; have p2 := p2'; have p3 := p3'; have p4 := p4'; have p5 := p5'; have p6 := p6'; clear p0' p1' p2' p3' p4' p5' p6'; clear hb1)
        | (go_at_call_of 62 a2; refine (E2 w1 hB1).mono ?_; rintro e w2 ⟨rfl, hb2⟩; have hB2 := hB1.trans (hb2.mono hB1.size); have p0' := keepC hb2 p0; have p1' := keepC hb2 p1; have p2' := keepC hb2 p2; have p3' := keepC hb2 p3; have p4' := keepC hb2 p4; have p5' := keepC hb2 p5; have p6' := keepC hb2 p6; clear p0 p1 p2 p3 p4 p5 p6; have p0 := p0'; have p1 := p1'; have p2 := p2'; have p3 := p3'; have p4 := p4'; have p5 := p5'; have p6 := p6'; clear p0' p1' p2' p3' p4' p5' p6'; clear hb2))
      go_ret
      exact ⟨rtB HF.out.symm, hB2⟩
    · have HF : Hid (okX ss x = !s3) := HS.out.trans (by simp)
      clear HS
      go_enter Try.func29, Try.ntmps29
      go_wp2_with (first
        | (go_at_call_of 62 a1; rw [← hW]; clear hW; refine E1.mono ?_; rintro e w1 ⟨rfl, hb1⟩; have hB1 := h0.trans (hb1.mono h0.size); have p0' := keepC hb1 p0; have p1' := keepC hb1 p1; have p2' := keepC hb1 p2; have p3' := keepC hb1 p3; have p4' := keepC hb1 p4; have p5' := keepC hb1 p5; have p6' := keepC hb1 p6; clear p0 p1 p2 p3 p4 p5 p6; have p0 := p0'; have p1 := p1'; have p2 := p2'; have p3 := p3'; have p4 := p4'; have p5 := p5'; have p6 := p6'; clear p0' p1' p2' p3' p4' p5' p6'; clear hb1)
        | (go_at_call_of 62 a2; refine (E2 w1 hB1).mono ?_; rintro e w2 ⟨rfl, hb2⟩; have hB2 := hB1.trans (hb2.mono hB1.size); have p0' := keepC hb2 p0; have p1' := keepC hb2 p1; have p2' := keepC hb2 p2; have p3' := keepC hb2 p3; have p4' := keepC hb2 p4; have p5' := keepC hb2 p5; have p6' := keepC hb2 p6; clear p0 p1 p2 p3 p4 p5 p6; have p0 := p0'; have p1 := p1'; have p2 := p2'; have p3 := p3'; have p4 := p4'; have p5 := p5'; have p6 := p6'; clear p0' p1' p2' p3' p4' p5' p6'; clear hb2)
        | (go_at_call 53; refine (E3 w2 hB2).mono ?_; rintro e w3 ⟨rfl, hb3⟩; have hB3 := hB2.trans (hb3.mono hB2.size); clear hb3))
      go_ret
      exact ⟨rtB HF.out.symm, hB3⟩
end Go.Proofs.Ytollijngiioonaa

/- An equation that holds, or does not, copied: it owns its memory. Conditions: at most 549755813888 parts. -/
namespace Go.Proofs.Ytollijngiioonaa
set_option maxRecDepth 100000
open Go.RowKit

theorem own_set3 {W : World} {S : Nat → Prop} {a : Option Addr} {ts : List TermD} {b i j k : Nat} {x y z : Value} (h : OwnS W S a ts) (hb : ¬ S b) : OwnS (((W.setCell ⟨b, i, none⟩ x).setCell ⟨b, j, none⟩ y).setCell ⟨b, k, none⟩ z) S a ts :=
  ((h.setCell ⟨b, i, none⟩ hb _).setCell ⟨b, j, none⟩ hb _).setCell ⟨b, k, none⟩ hb _
theorem rd_set3 {W : World} {hi : Nat} {a : Option Addr} {ts : List TermD} {b i j k : Nat} {x y z : Value} (h : RdK W hi a ts) (hb : hi ≤ b) : RdK (((W.setCell ⟨b, i, none⟩ x).setCell ⟨b, j, none⟩ y).setCell ⟨b, k, none⟩ z) hi a ts :=
  h.on ((((Below.refl hi W).setCell (p := ⟨b, i, none⟩) hb _).setCell (p := ⟨b, j, none⟩) hb _).setCell (p := ⟨b, k, none⟩) hb _)
def st3 (u : World) (b i : Nat) (x y z : Value) : World := ((u.setCell ⟨b, i, none⟩ x).setCell ⟨b, i + 1, none⟩ y).setCell ⟨b, i + 2, none⟩ z
theorem ad_ne {b i c j : Nat} (h : b ≠ c ∨ i ≠ j) : (⟨b, i, none⟩ : Addr) ≠ ⟨c, j, none⟩ := fun e => by injection e with e1 e2; omega
theorem st3_new {u : World} {b i : Nat} {x y z p q s : Value} (h0 : u.cell? ⟨b, i, none⟩ = some p) (h1 : u.cell? ⟨b, i + 1, none⟩ = some q) (h2 : u.cell? ⟨b, i + 2, none⟩ = some s) :
    (st3 u b i x y z).cell? ⟨b, i, none⟩ = some x ∧ (st3 u b i x y z).cell? ⟨b, i + 1, none⟩ = some y ∧ (st3 u b i x y z).cell? ⟨b, i + 2, none⟩ = some z := by
  unfold st3
  refine ⟨?_, ?_, ?_⟩
  · rw [World.cell?_setCell_other _ _ _ _ (ad_ne (.inr (by omega))), World.cell?_setCell_other _ _ _ _ (ad_ne (.inr (by omega)))]
    exact World.cell?_setCell_same _ _ _ h0
  · rw [World.cell?_setCell_other _ _ _ _ (ad_ne (.inr (by omega)))]
    exact World.cell?_setCell_same _ _ _ (by rw [World.cell?_setCell_other _ _ _ _ (ad_ne (.inr (by omega)))]; exact h1)
  · exact World.cell?_setCell_same _ _ _ (by rw [World.cell?_setCell_other _ _ _ _ (ad_ne (.inr (by omega))), World.cell?_setCell_other _ _ _ _ (ad_ne (.inr (by omega)))]; exact h2)
theorem st3_old {u : World} {b i : Nat} {x y z v : Value} {c j : Nat} (h : u.cell? ⟨c, j, none⟩ = some v) (hn : b ≠ c ∨ (i ≠ j ∧ i + 1 ≠ j ∧ i + 2 ≠ j)) : (st3 u b i x y z).cell? ⟨c, j, none⟩ = some v := by
  unfold st3
  rw [World.cell?_setCell_other _ _ _ _ (ad_ne (by omega)), World.cell?_setCell_other _ _ _ _ (ad_ne (by omega)), World.cell?_setCell_other _ _ _ _ (ad_ne (by omega))]
  exact h
theorem st3_below {w u : World} {B b i : Nat} {x y z : Value} (h : Below B w u) (hb : B ≤ b) : Below B w (st3 u b i x y z) :=
  ((h.setCell (p := ⟨b, i, none⟩) hb x).setCell (p := ⟨b, i + 1, none⟩) hb y).setCell (p := ⟨b, i + 2, none⟩) hb z
theorem st3_own {u : World} {b i : Nat} {x y z : Value} {S : Nat → Prop} {a : Option Addr} {ts : List TermD} (h : OwnS u S a ts) (hn : ¬ S b) : OwnS (st3 u b i x y z) S a ts :=
  ((h.setCell ⟨b, i, none⟩ hn x).setCell ⟨b, i + 1, none⟩ hn y).setCell ⟨b, i + 2, none⟩ hn z
theorem st3_size (u : World) (b i : Nat) (x y z : Value) : (st3 u b i x y z).heap.size = u.heap.size := by unfold st3; simp
theorem st3_frozen (u : World) (b i : Nat) (x y z : Value) (p : Addr) : (st3 u b i x y z).frozen? p = u.frozen? p := by unfold st3; simp [go_sem]
set_option maxHeartbeats 6400000 in
set_option maxRecDepth 100000 in
theorem toLit_any (x : LitD) (a1 a2 : Option Addr) (c1 c2 hi : Nat) (w : World) (hp1 : partsT x.l ≤ 549755813888) (hp2 : partsT x.r ≤ 549755813888) (hr1 : RdK w hi a1 x.l.kids) (hr2 : RdK w hi a2 x.r.kids) (hhi : hi ≤ w.heap.size) :
    Calls Try.prog 30 #[litV x a1 c1 a2 c2] w fun e w' => ∃ b1 b2 m, e = .returned (litV x b1 x.l.kids.length b2 x.r.kids.length) ∧ OwnS w' (fun k => w.heap.size ≤ k ∧ k < m) b1 x.l.kids ∧ OwnS w' (fun k => m ≤ k ∧ k < w'.heap.size) b2 x.r.kids ∧ w.heap.size ≤ m ∧ m ≤ w'.heap.size ∧ Below w.heap.size w w' := by
  unfold litV
  obtain ⟨W, hW⟩ : ∃ W, W = ((w.alloc (.cells #[.bool x.p, .int .i64 x.l.f, .int .i64 x.l.v, .slice a1 x.l.kids.length c1, .int .i64 x.r.f, .int .i64 x.r.v, .slice a2 x.r.kids.length c2] 54)).alloc (.cells #[.bool false, .int .i64 0, .int .i64 0, .slice none 0 0, .int .i64 0, .int .i64 0, .slice none 0 0] 43)).alloc (.cells #[.bool x.p, .int .i64 0, .int .i64 0, .slice none 0 0, .int .i64 0, .int .i64 0, .slice none 0 0] 43) := ⟨_, rfl⟩
  have hz : W.heap.size = w.heap.size + 1 + 1 + 1 := by rw [hW]; simp
  have h0 : Below w.heap.size w W := by rw [hW]; exact (((Below.refl _ _).alloc (Nat.le_refl _) _).alloc (by simp) _).alloc (by simp; omega) _
  have x0 : W.cell? ⟨w.heap.size, 0, none⟩ = some (.bool x.p) := by rw [hW]; simp [go_sem]
  have x1 : W.cell? ⟨w.heap.size, 1, none⟩ = some (.int .i64 x.l.f) := by rw [hW]; simp [go_sem]
  have x2 : W.cell? ⟨w.heap.size, 2, none⟩ = some (.int .i64 x.l.v) := by rw [hW]; simp [go_sem]
  have x3 : W.cell? ⟨w.heap.size, 3, none⟩ = some (.slice a1 x.l.kids.length c1) := by rw [hW]; simp [go_sem]
  have x4 : W.cell? ⟨w.heap.size, 4, none⟩ = some (.int .i64 x.r.f) := by rw [hW]; simp [go_sem]
  have x5 : W.cell? ⟨w.heap.size, 5, none⟩ = some (.int .i64 x.r.v) := by rw [hW]; simp [go_sem]
  have x6 : W.cell? ⟨w.heap.size, 6, none⟩ = some (.slice a2 x.r.kids.length c2) := by rw [hW]; simp [go_sem]
  have y0 : W.cell? ⟨(w.heap.size + 1), 0, none⟩ = some (.bool false) := by rw [hW]; simp [go_sem]
  have y1 : W.cell? ⟨(w.heap.size + 1), 1, none⟩ = some (.int .i64 0) := by rw [hW]; simp [go_sem]
  have y2 : W.cell? ⟨(w.heap.size + 1), 2, none⟩ = some (.int .i64 0) := by rw [hW]; simp [go_sem]
  have y3 : W.cell? ⟨(w.heap.size + 1), 3, none⟩ = some (.slice none 0 0) := by rw [hW]; simp [go_sem]
  have y4 : W.cell? ⟨(w.heap.size + 1), 4, none⟩ = some (.int .i64 0) := by rw [hW]; simp [go_sem]
  have y5 : W.cell? ⟨(w.heap.size + 1), 5, none⟩ = some (.int .i64 0) := by rw [hW]; simp [go_sem]
  have y6 : W.cell? ⟨(w.heap.size + 1), 6, none⟩ = some (.slice none 0 0) := by rw [hW]; simp [go_sem]
  have z0 : W.cell? ⟨(w.heap.size + 1 + 1), 0, none⟩ = some (.bool x.p) := by rw [hW]; simp [go_sem]
  have z1 : W.cell? ⟨(w.heap.size + 1 + 1), 1, none⟩ = some (.int .i64 0) := by rw [hW]; simp [go_sem]
  have z2 : W.cell? ⟨(w.heap.size + 1 + 1), 2, none⟩ = some (.int .i64 0) := by rw [hW]; simp [go_sem]
  have z3 : W.cell? ⟨(w.heap.size + 1 + 1), 3, none⟩ = some (.slice none 0 0) := by rw [hW]; simp [go_sem]
  have z4 : W.cell? ⟨(w.heap.size + 1 + 1), 4, none⟩ = some (.int .i64 0) := by rw [hW]; simp [go_sem]
  have z5 : W.cell? ⟨(w.heap.size + 1 + 1), 5, none⟩ = some (.int .i64 0) := by rw [hW]; simp [go_sem]
  have z6 : W.cell? ⟨(w.heap.size + 1 + 1), 6, none⟩ = some (.slice none 0 0) := by rw [hW]; simp [go_sem]
  have fy : ∀ j, W.frozen? ⟨(w.heap.size + 1), j, none⟩ = false := by intro j; rw [hW]; simp [go_sem]
  have fz : ∀ j, W.frozen? ⟨(w.heap.size + 1 + 1), j, none⟩ = false := by intro j; rw [hW]; simp [go_sem]
  have C1 := toTerm_any x.l a1 c1 hi W hp1 (hr1.on (h0.mono hhi)) (Nat.le_trans hhi h0.size)
  have C2 := fun (W' : World) (h : Below w.heap.size w W') => toTerm_any x.r a2 c2 hi W' hp2 (hr2.on (h.mono hhi)) (Nat.le_trans hhi h.size)
  clear hr1 hr2 hp1 hp2
  have HW : Hid _ := hW
  clear hW
  go_enter Try.func30, Try.ntmps30
  go_wp2_with (first
    | (go_at_call_of 19 a1; rw [← HW.out]; refine C1.mono ?_; rintro e w1 ⟨b1, rfl, ho1, hb1⟩; have hz1 := hb1.size; have hB1 := h0.trans (hb1.mono h0.size); have fy' : ∀ j, w1.frozen? ⟨(w.heap.size + 1), j, none⟩ = false := (fun j => (hb1.frozen (p := ⟨(w.heap.size + 1), j, none⟩) (by simp only; omega)).trans (by first | exact fy j | (rw [st3_frozen]; exact fy j))); have fz' : ∀ j, w1.frozen? ⟨(w.heap.size + 1 + 1), j, none⟩ = false := (fun j => (hb1.frozen (p := ⟨(w.heap.size + 1 + 1), j, none⟩) (by simp only; omega)).trans (by first | exact fz j | (rw [st3_frozen]; exact fz j))); clear fy fz; have fy := fy'; have fz := fz'; clear fy' fz'; have x0' := keepC hb1 x0; have x1' := keepC hb1 x1; have x2' := keepC hb1 x2; have x3' := keepC hb1 x3; have x4' := keepC hb1 x4; have x5' := keepC hb1 x5; have x6' := keepC hb1 x6; have y0' := keepC hb1 y0; have y1' := keepC hb1 y1; have y2' := keepC hb1 y2; have y3' := keepC hb1 y3; have y4' := keepC hb1 y4; have y5' := keepC hb1 y5; have y6' := keepC hb1 y6; have z0' := keepC hb1 z0; have z1' := keepC hb1 z1; have z2' := keepC hb1 z2; have z3' := keepC hb1 z3; have z4' := keepC hb1 z4; have z5' := keepC hb1 z5; have z6' := keepC hb1 z6; clear x0 x1 x2 x3 x4 x5 x6 y0 y1 y2 y3 y4 y5 y6 z0 z1 z2 z3 z4 z5 z6; have x0 := x0'; have x1 := x1'; have x2 := x2'; have x3 := x3'; have x4 := x4'; have x5 := x5'; have x6 := x6'; have y0 := y0'; have y1 := y1'; have y2 := y2'; have y3 := y3'; have y4 := y4'; have y5 := y5'; have y6 := y6'; have z0 := z0'; have z1 := z1'; have z2 := z2'; have z3 := z3'; have z4 := z4'; have z5 := z5'; have z6 := z6'; clear x0' x1' x2' x3' x4' x5' x6' y0' y1' y2' y3' y4' y5' y6' z0' z1' z2' z3' z4' z5' z6'; have HO1 : Hid _ := ho1; clear C1 HW hb1 ho1)
    | (go_at_call_of 19 a2; refine (C2 (st3 w1 (w.heap.size + 1 + 1) 1 (.int .i64 x.l.f) (.int .i64 x.l.v) (.slice b1 x.l.kids.length x.l.kids.length)) (st3_below hB1 (by omega))).mono ?_; rintro e w2 ⟨b2, rfl, ho2, hb2⟩; have hz2 := hb2.size; rw [st3_size] at hz2; have hB2 := (st3_below (b := (w.heap.size + 1 + 1)) (i := 1) (x := .int .i64 x.l.f) (y := .int .i64 x.l.v) (z := .slice b1 x.l.kids.length x.l.kids.length) hB1 (by omega)).trans (hb2.mono (st3_below (b := (w.heap.size + 1 + 1)) (i := 1) (x := .int .i64 x.l.f) (y := .int .i64 x.l.v) (z := .slice b1 x.l.kids.length x.l.kids.length) hB1 (by omega)).size); have HO2 : Hid (OwnS w2 (fun k => w1.heap.size ≤ k ∧ k < w2.heap.size) b2 x.r.kids) := (by have := ho2; rw [st3_size] at this; exact this); have HO1' : Hid (OwnS w2 (fun k => W.heap.size ≤ k ∧ k < w1.heap.size) b1 x.l.kids) := (st3_own (b := (w.heap.size + 1 + 1)) (i := 1) (x := .int .i64 x.l.f) (y := .int .i64 x.l.v) (z := .slice b1 x.l.kids.length x.l.kids.length) HO1.out (by omega)).on (by have := hb2; rw [st3_size] at this; exact this); have fy' : ∀ j, w2.frozen? ⟨(w.heap.size + 1), j, none⟩ = false := (fun j => (hb2.frozen (p := ⟨(w.heap.size + 1), j, none⟩) (by simp only [st3_size]; omega)).trans (by first | exact fy j | (rw [st3_frozen]; exact fy j))); have fz' : ∀ j, w2.frozen? ⟨(w.heap.size + 1 + 1), j, none⟩ = false := (fun j => (hb2.frozen (p := ⟨(w.heap.size + 1 + 1), j, none⟩) (by simp only [st3_size]; omega)).trans (by first | exact fz j | (rw [st3_frozen]; exact fz j))); clear fy fz; have fy := fy'; have fz := fz'; clear fy' fz'; have y0' : w2.cell? ⟨(w.heap.size + 1), 0, none⟩ = some (.bool false) := keepC hb2 (st3_old y0 (.inl (by omega))); have y1' : w2.cell? ⟨(w.heap.size + 1), 1, none⟩ = some (.int .i64 0) := keepC hb2 (st3_old y1 (.inl (by omega))); have y2' : w2.cell? ⟨(w.heap.size + 1), 2, none⟩ = some (.int .i64 0) := keepC hb2 (st3_old y2 (.inl (by omega))); have y3' : w2.cell? ⟨(w.heap.size + 1), 3, none⟩ = some (.slice none 0 0) := keepC hb2 (st3_old y3 (.inl (by omega))); have y4' : w2.cell? ⟨(w.heap.size + 1), 4, none⟩ = some (.int .i64 0) := keepC hb2 (st3_old y4 (.inl (by omega))); have y5' : w2.cell? ⟨(w.heap.size + 1), 5, none⟩ = some (.int .i64 0) := keepC hb2 (st3_old y5 (.inl (by omega))); have y6' : w2.cell? ⟨(w.heap.size + 1), 6, none⟩ = some (.slice none 0 0) := keepC hb2 (st3_old y6 (.inl (by omega))); have z0' : w2.cell? ⟨(w.heap.size + 1 + 1), 0, none⟩ = some (.bool x.p) := keepC hb2 (st3_old z0 (.inr (by omega))); have z1' : w2.cell? ⟨(w.heap.size + 1 + 1), 1, none⟩ = some (.int .i64 x.l.f) := keepC hb2 (st3_new z1 z2 z3).1; have z2' : w2.cell? ⟨(w.heap.size + 1 + 1), 2, none⟩ = some (.int .i64 x.l.v) := keepC hb2 (st3_new z1 z2 z3).2.1; have z3' : w2.cell? ⟨(w.heap.size + 1 + 1), 3, none⟩ = some (.slice b1 x.l.kids.length x.l.kids.length) := keepC hb2 (st3_new z1 z2 z3).2.2; have z4' : w2.cell? ⟨(w.heap.size + 1 + 1), 4, none⟩ = some (.int .i64 0) := keepC hb2 (st3_old z4 (.inr (by omega))); have z5' : w2.cell? ⟨(w.heap.size + 1 + 1), 5, none⟩ = some (.int .i64 0) := keepC hb2 (st3_old z5 (.inr (by omega))); have z6' : w2.cell? ⟨(w.heap.size + 1 + 1), 6, none⟩ = some (.slice none 0 0) := keepC hb2 (st3_old z6 (.inr (by omega))); clear x0 x1 x2 x3 x4 x5 x6 y0 y1 y2 y3 y4 y5 y6 z0 z1 z2 z3 z4 z5 z6; have y0 := y0'; have y1 := y1'; have y2 := y2'; have y3 := y3'; have y4 := y4'; have y5 := y5'; have y6 := y6'; have z0 := z0'; have z1 := z1'; have z2 := z2'; have z3 := z3'; have z4 := z4'; have z5 := z5'; have z6 := z6'; clear y0' y1' y2' y3' y4' y5' y6' z0' z1' z2' z3' z4' z5' z6'; clear C2 hb2 ho2 HO1))
  have u0 : (st3 w2 (w.heap.size + 1 + 1) 4 (.int .i64 x.r.f) (.int .i64 x.r.v) (.slice b2 x.r.kids.length x.r.kids.length)).cell? ⟨(w.heap.size + 1), 0, none⟩ = some (.bool false) := st3_old y0 (.inl (by omega))
  have u1 : (st3 w2 (w.heap.size + 1 + 1) 4 (.int .i64 x.r.f) (.int .i64 x.r.v) (.slice b2 x.r.kids.length x.r.kids.length)).cell? ⟨(w.heap.size + 1), 1, none⟩ = some (.int .i64 0) := st3_old y1 (.inl (by omega))
  have u2 : (st3 w2 (w.heap.size + 1 + 1) 4 (.int .i64 x.r.f) (.int .i64 x.r.v) (.slice b2 x.r.kids.length x.r.kids.length)).cell? ⟨(w.heap.size + 1), 2, none⟩ = some (.int .i64 0) := st3_old y2 (.inl (by omega))
  have u3 : (st3 w2 (w.heap.size + 1 + 1) 4 (.int .i64 x.r.f) (.int .i64 x.r.v) (.slice b2 x.r.kids.length x.r.kids.length)).cell? ⟨(w.heap.size + 1), 3, none⟩ = some (.slice none 0 0) := st3_old y3 (.inl (by omega))
  have u4 : (st3 w2 (w.heap.size + 1 + 1) 4 (.int .i64 x.r.f) (.int .i64 x.r.v) (.slice b2 x.r.kids.length x.r.kids.length)).cell? ⟨(w.heap.size + 1), 4, none⟩ = some (.int .i64 0) := st3_old y4 (.inl (by omega))
  have u5 : (st3 w2 (w.heap.size + 1 + 1) 4 (.int .i64 x.r.f) (.int .i64 x.r.v) (.slice b2 x.r.kids.length x.r.kids.length)).cell? ⟨(w.heap.size + 1), 5, none⟩ = some (.int .i64 0) := st3_old y5 (.inl (by omega))
  have u6 : (st3 w2 (w.heap.size + 1 + 1) 4 (.int .i64 x.r.f) (.int .i64 x.r.v) (.slice b2 x.r.kids.length x.r.kids.length)).cell? ⟨(w.heap.size + 1), 6, none⟩ = some (.slice none 0 0) := st3_old y6 (.inl (by omega))
  have v0 : ((st3 w2 (w.heap.size + 1 + 1) 4 (.int .i64 x.r.f) (.int .i64 x.r.v) (.slice b2 x.r.kids.length x.r.kids.length)).setCell ⟨(w.heap.size + 1), 0, none⟩ (.bool x.p)).cell? ⟨(w.heap.size + 1), 0, none⟩ = some (.bool x.p) := World.cell?_setCell_same _ _ _ u0
  have v1 : ((st3 w2 (w.heap.size + 1 + 1) 4 (.int .i64 x.r.f) (.int .i64 x.r.v) (.slice b2 x.r.kids.length x.r.kids.length)).setCell ⟨(w.heap.size + 1), 0, none⟩ (.bool x.p)).cell? ⟨(w.heap.size + 1), 1, none⟩ = some (.int .i64 0) := by rw [World.cell?_setCell_other _ _ _ _ (ad_ne (.inr (by omega)))]; exact u1
  have v2 : ((st3 w2 (w.heap.size + 1 + 1) 4 (.int .i64 x.r.f) (.int .i64 x.r.v) (.slice b2 x.r.kids.length x.r.kids.length)).setCell ⟨(w.heap.size + 1), 0, none⟩ (.bool x.p)).cell? ⟨(w.heap.size + 1), 2, none⟩ = some (.int .i64 0) := by rw [World.cell?_setCell_other _ _ _ _ (ad_ne (.inr (by omega)))]; exact u2
  have v3 : ((st3 w2 (w.heap.size + 1 + 1) 4 (.int .i64 x.r.f) (.int .i64 x.r.v) (.slice b2 x.r.kids.length x.r.kids.length)).setCell ⟨(w.heap.size + 1), 0, none⟩ (.bool x.p)).cell? ⟨(w.heap.size + 1), 3, none⟩ = some (.slice none 0 0) := by rw [World.cell?_setCell_other _ _ _ _ (ad_ne (.inr (by omega)))]; exact u3
  have v4 : ((st3 w2 (w.heap.size + 1 + 1) 4 (.int .i64 x.r.f) (.int .i64 x.r.v) (.slice b2 x.r.kids.length x.r.kids.length)).setCell ⟨(w.heap.size + 1), 0, none⟩ (.bool x.p)).cell? ⟨(w.heap.size + 1), 4, none⟩ = some (.int .i64 0) := by rw [World.cell?_setCell_other _ _ _ _ (ad_ne (.inr (by omega)))]; exact u4
  have v5 : ((st3 w2 (w.heap.size + 1 + 1) 4 (.int .i64 x.r.f) (.int .i64 x.r.v) (.slice b2 x.r.kids.length x.r.kids.length)).setCell ⟨(w.heap.size + 1), 0, none⟩ (.bool x.p)).cell? ⟨(w.heap.size + 1), 5, none⟩ = some (.int .i64 0) := by rw [World.cell?_setCell_other _ _ _ _ (ad_ne (.inr (by omega)))]; exact u5
  have v6 : ((st3 w2 (w.heap.size + 1 + 1) 4 (.int .i64 x.r.f) (.int .i64 x.r.v) (.slice b2 x.r.kids.length x.r.kids.length)).setCell ⟨(w.heap.size + 1), 0, none⟩ (.bool x.p)).cell? ⟨(w.heap.size + 1), 6, none⟩ = some (.slice none 0 0) := by rw [World.cell?_setCell_other _ _ _ _ (ad_ne (.inr (by omega)))]; exact u6
  have t0 : (st3 ((st3 w2 (w.heap.size + 1 + 1) 4 (.int .i64 x.r.f) (.int .i64 x.r.v) (.slice b2 x.r.kids.length x.r.kids.length)).setCell ⟨(w.heap.size + 1), 0, none⟩ (.bool x.p)) (w.heap.size + 1) 1 (.int .i64 x.l.f) (.int .i64 x.l.v) (.slice b1 x.l.kids.length x.l.kids.length)).cell? ⟨(w.heap.size + 1), 0, none⟩ = some (.bool x.p) := st3_old v0 (.inr (by omega))
  have t1 : (st3 ((st3 w2 (w.heap.size + 1 + 1) 4 (.int .i64 x.r.f) (.int .i64 x.r.v) (.slice b2 x.r.kids.length x.r.kids.length)).setCell ⟨(w.heap.size + 1), 0, none⟩ (.bool x.p)) (w.heap.size + 1) 1 (.int .i64 x.l.f) (.int .i64 x.l.v) (.slice b1 x.l.kids.length x.l.kids.length)).cell? ⟨(w.heap.size + 1), 1, none⟩ = some (.int .i64 x.l.f) := (st3_new v1 v2 v3).1
  have t2 : (st3 ((st3 w2 (w.heap.size + 1 + 1) 4 (.int .i64 x.r.f) (.int .i64 x.r.v) (.slice b2 x.r.kids.length x.r.kids.length)).setCell ⟨(w.heap.size + 1), 0, none⟩ (.bool x.p)) (w.heap.size + 1) 1 (.int .i64 x.l.f) (.int .i64 x.l.v) (.slice b1 x.l.kids.length x.l.kids.length)).cell? ⟨(w.heap.size + 1), 2, none⟩ = some (.int .i64 x.l.v) := (st3_new v1 v2 v3).2.1
  have t3 : (st3 ((st3 w2 (w.heap.size + 1 + 1) 4 (.int .i64 x.r.f) (.int .i64 x.r.v) (.slice b2 x.r.kids.length x.r.kids.length)).setCell ⟨(w.heap.size + 1), 0, none⟩ (.bool x.p)) (w.heap.size + 1) 1 (.int .i64 x.l.f) (.int .i64 x.l.v) (.slice b1 x.l.kids.length x.l.kids.length)).cell? ⟨(w.heap.size + 1), 3, none⟩ = some (.slice b1 x.l.kids.length x.l.kids.length) := (st3_new v1 v2 v3).2.2
  have t4 : (st3 ((st3 w2 (w.heap.size + 1 + 1) 4 (.int .i64 x.r.f) (.int .i64 x.r.v) (.slice b2 x.r.kids.length x.r.kids.length)).setCell ⟨(w.heap.size + 1), 0, none⟩ (.bool x.p)) (w.heap.size + 1) 1 (.int .i64 x.l.f) (.int .i64 x.l.v) (.slice b1 x.l.kids.length x.l.kids.length)).cell? ⟨(w.heap.size + 1), 4, none⟩ = some (.int .i64 0) := st3_old v4 (.inr (by omega))
  have t5 : (st3 ((st3 w2 (w.heap.size + 1 + 1) 4 (.int .i64 x.r.f) (.int .i64 x.r.v) (.slice b2 x.r.kids.length x.r.kids.length)).setCell ⟨(w.heap.size + 1), 0, none⟩ (.bool x.p)) (w.heap.size + 1) 1 (.int .i64 x.l.f) (.int .i64 x.l.v) (.slice b1 x.l.kids.length x.l.kids.length)).cell? ⟨(w.heap.size + 1), 5, none⟩ = some (.int .i64 0) := st3_old v5 (.inr (by omega))
  have t6 : (st3 ((st3 w2 (w.heap.size + 1 + 1) 4 (.int .i64 x.r.f) (.int .i64 x.r.v) (.slice b2 x.r.kids.length x.r.kids.length)).setCell ⟨(w.heap.size + 1), 0, none⟩ (.bool x.p)) (w.heap.size + 1) 1 (.int .i64 x.l.f) (.int .i64 x.l.v) (.slice b1 x.l.kids.length x.l.kids.length)).cell? ⟨(w.heap.size + 1), 6, none⟩ = some (.slice none 0 0) := st3_old v6 (.inr (by omega))
  have q0 : (st3 (st3 ((st3 w2 (w.heap.size + 1 + 1) 4 (.int .i64 x.r.f) (.int .i64 x.r.v) (.slice b2 x.r.kids.length x.r.kids.length)).setCell ⟨(w.heap.size + 1), 0, none⟩ (.bool x.p)) (w.heap.size + 1) 1 (.int .i64 x.l.f) (.int .i64 x.l.v) (.slice b1 x.l.kids.length x.l.kids.length)) (w.heap.size + 1) 4 (.int .i64 x.r.f) (.int .i64 x.r.v) (.slice b2 x.r.kids.length x.r.kids.length)).cell? ⟨(w.heap.size + 1), 0, none⟩ = some (.bool x.p) := st3_old t0 (.inr (by omega))
  have q1 : (st3 (st3 ((st3 w2 (w.heap.size + 1 + 1) 4 (.int .i64 x.r.f) (.int .i64 x.r.v) (.slice b2 x.r.kids.length x.r.kids.length)).setCell ⟨(w.heap.size + 1), 0, none⟩ (.bool x.p)) (w.heap.size + 1) 1 (.int .i64 x.l.f) (.int .i64 x.l.v) (.slice b1 x.l.kids.length x.l.kids.length)) (w.heap.size + 1) 4 (.int .i64 x.r.f) (.int .i64 x.r.v) (.slice b2 x.r.kids.length x.r.kids.length)).cell? ⟨(w.heap.size + 1), 1, none⟩ = some (.int .i64 x.l.f) := st3_old t1 (.inr (by omega))
  have q2 : (st3 (st3 ((st3 w2 (w.heap.size + 1 + 1) 4 (.int .i64 x.r.f) (.int .i64 x.r.v) (.slice b2 x.r.kids.length x.r.kids.length)).setCell ⟨(w.heap.size + 1), 0, none⟩ (.bool x.p)) (w.heap.size + 1) 1 (.int .i64 x.l.f) (.int .i64 x.l.v) (.slice b1 x.l.kids.length x.l.kids.length)) (w.heap.size + 1) 4 (.int .i64 x.r.f) (.int .i64 x.r.v) (.slice b2 x.r.kids.length x.r.kids.length)).cell? ⟨(w.heap.size + 1), 2, none⟩ = some (.int .i64 x.l.v) := st3_old t2 (.inr (by omega))
  have q3 : (st3 (st3 ((st3 w2 (w.heap.size + 1 + 1) 4 (.int .i64 x.r.f) (.int .i64 x.r.v) (.slice b2 x.r.kids.length x.r.kids.length)).setCell ⟨(w.heap.size + 1), 0, none⟩ (.bool x.p)) (w.heap.size + 1) 1 (.int .i64 x.l.f) (.int .i64 x.l.v) (.slice b1 x.l.kids.length x.l.kids.length)) (w.heap.size + 1) 4 (.int .i64 x.r.f) (.int .i64 x.r.v) (.slice b2 x.r.kids.length x.r.kids.length)).cell? ⟨(w.heap.size + 1), 3, none⟩ = some (.slice b1 x.l.kids.length x.l.kids.length) := st3_old t3 (.inr (by omega))
  have q4 : (st3 (st3 ((st3 w2 (w.heap.size + 1 + 1) 4 (.int .i64 x.r.f) (.int .i64 x.r.v) (.slice b2 x.r.kids.length x.r.kids.length)).setCell ⟨(w.heap.size + 1), 0, none⟩ (.bool x.p)) (w.heap.size + 1) 1 (.int .i64 x.l.f) (.int .i64 x.l.v) (.slice b1 x.l.kids.length x.l.kids.length)) (w.heap.size + 1) 4 (.int .i64 x.r.f) (.int .i64 x.r.v) (.slice b2 x.r.kids.length x.r.kids.length)).cell? ⟨(w.heap.size + 1), 4, none⟩ = some (.int .i64 x.r.f) := (st3_new t4 t5 t6).1
  have q5 : (st3 (st3 ((st3 w2 (w.heap.size + 1 + 1) 4 (.int .i64 x.r.f) (.int .i64 x.r.v) (.slice b2 x.r.kids.length x.r.kids.length)).setCell ⟨(w.heap.size + 1), 0, none⟩ (.bool x.p)) (w.heap.size + 1) 1 (.int .i64 x.l.f) (.int .i64 x.l.v) (.slice b1 x.l.kids.length x.l.kids.length)) (w.heap.size + 1) 4 (.int .i64 x.r.f) (.int .i64 x.r.v) (.slice b2 x.r.kids.length x.r.kids.length)).cell? ⟨(w.heap.size + 1), 5, none⟩ = some (.int .i64 x.r.v) := (st3_new t4 t5 t6).2.1
  have q6 : (st3 (st3 ((st3 w2 (w.heap.size + 1 + 1) 4 (.int .i64 x.r.f) (.int .i64 x.r.v) (.slice b2 x.r.kids.length x.r.kids.length)).setCell ⟨(w.heap.size + 1), 0, none⟩ (.bool x.p)) (w.heap.size + 1) 1 (.int .i64 x.l.f) (.int .i64 x.l.v) (.slice b1 x.l.kids.length x.l.kids.length)) (w.heap.size + 1) 4 (.int .i64 x.r.f) (.int .i64 x.r.v) (.slice b2 x.r.kids.length x.r.kids.length)).cell? ⟨(w.heap.size + 1), 6, none⟩ = some (.slice b2 x.r.kids.length x.r.kids.length) := (st3_new t4 t5 t6).2.2
  have hs : (st3 (st3 ((st3 w2 (w.heap.size + 1 + 1) 4 (.int .i64 x.r.f) (.int .i64 x.r.v) (.slice b2 x.r.kids.length x.r.kids.length)).setCell ⟨(w.heap.size + 1), 0, none⟩ (.bool x.p)) (w.heap.size + 1) 1 (.int .i64 x.l.f) (.int .i64 x.l.v) (.slice b1 x.l.kids.length x.l.kids.length)) (w.heap.size + 1) 4 (.int .i64 x.r.f) (.int .i64 x.r.v) (.slice b2 x.r.kids.length x.r.kids.length)).heap.size = w2.heap.size := by rw [st3_size, st3_size, World.size_setCell, st3_size]
  have k1 : OwnS (st3 (st3 ((st3 w2 (w.heap.size + 1 + 1) 4 (.int .i64 x.r.f) (.int .i64 x.r.v) (.slice b2 x.r.kids.length x.r.kids.length)).setCell ⟨(w.heap.size + 1), 0, none⟩ (.bool x.p)) (w.heap.size + 1) 1 (.int .i64 x.l.f) (.int .i64 x.l.v) (.slice b1 x.l.kids.length x.l.kids.length)) (w.heap.size + 1) 4 (.int .i64 x.r.f) (.int .i64 x.r.v) (.slice b2 x.r.kids.length x.r.kids.length)) (fun k => W.heap.size ≤ k ∧ k < w1.heap.size) b1 x.l.kids := st3_own (st3_own ((st3_own HO1'.out (by omega)).setCell ⟨(w.heap.size + 1), 0, none⟩ (by simp only; omega) _) (by omega)) (by omega)
  have k2 : OwnS (st3 (st3 ((st3 w2 (w.heap.size + 1 + 1) 4 (.int .i64 x.r.f) (.int .i64 x.r.v) (.slice b2 x.r.kids.length x.r.kids.length)).setCell ⟨(w.heap.size + 1), 0, none⟩ (.bool x.p)) (w.heap.size + 1) 1 (.int .i64 x.l.f) (.int .i64 x.l.v) (.slice b1 x.l.kids.length x.l.kids.length)) (w.heap.size + 1) 4 (.int .i64 x.r.f) (.int .i64 x.r.v) (.slice b2 x.r.kids.length x.r.kids.length)) (fun k => w1.heap.size ≤ k ∧ k < w2.heap.size) b2 x.r.kids := st3_own (st3_own ((st3_own HO2.out (by omega)).setCell ⟨(w.heap.size + 1), 0, none⟩ (by simp only; omega) _) (by omega)) (by omega)
  have kb : Below w.heap.size w (st3 (st3 ((st3 w2 (w.heap.size + 1 + 1) 4 (.int .i64 x.r.f) (.int .i64 x.r.v) (.slice b2 x.r.kids.length x.r.kids.length)).setCell ⟨(w.heap.size + 1), 0, none⟩ (.bool x.p)) (w.heap.size + 1) 1 (.int .i64 x.l.f) (.int .i64 x.l.v) (.slice b1 x.l.kids.length x.l.kids.length)) (w.heap.size + 1) 4 (.int .i64 x.r.f) (.int .i64 x.r.v) (.slice b2 x.r.kids.length x.r.kids.length)) := st3_below (st3_below ((st3_below hB2 (by omega)).setCell (p := ⟨(w.heap.size + 1), 0, none⟩) (by simp only; omega) _) (by omega)) (by omega)
  change bodyPost _ _ _ _ _ (st3 (st3 ((st3 w2 (w.heap.size + 1 + 1) 4 (.int .i64 x.r.f) (.int .i64 x.r.v) (.slice b2 x.r.kids.length x.r.kids.length)).setCell ⟨(w.heap.size + 1), 0, none⟩ (.bool x.p)) (w.heap.size + 1) 1 (.int .i64 x.l.f) (.int .i64 x.l.v) (.slice b1 x.l.kids.length x.l.kids.length)) (w.heap.size + 1) 4 (.int .i64 x.r.f) (.int .i64 x.r.v) (.slice b2 x.r.kids.length x.r.kids.length))
  generalize (st3 (st3 ((st3 w2 (w.heap.size + 1 + 1) 4 (.int .i64 x.r.f) (.int .i64 x.r.v) (.slice b2 x.r.kids.length x.r.kids.length)).setCell ⟨(w.heap.size + 1), 0, none⟩ (.bool x.p)) (w.heap.size + 1) 1 (.int .i64 x.l.f) (.int .i64 x.l.v) (.slice b1 x.l.kids.length x.l.kids.length)) (w.heap.size + 1) 4 (.int .i64 x.r.f) (.int .i64 x.r.v) (.slice b2 x.r.kids.length x.r.kids.length)) = Y at q0 q1 q2 q3 q4 q5 q6 hs k1 k2 kb ⊢
  refine bodyPost_ret (v := .agg #[.bool x.p, .int .i64 x.l.f, .int .i64 x.l.v, .slice b1 x.l.kids.length x.l.kids.length, .int .i64 x.r.f, .int .i64 x.r.v, .slice b2 x.r.kids.length x.r.kids.length]) (by simp [results, Try.results30, go_sem, q0, q1, q2, q3, q4, q5, q6]) rfl ⟨b1, b2, w1.heap.size, rfl, k1.mono (fun k hk => ⟨by omega, hk.2⟩), k2.mono (fun k hk => ⟨hk.1, by omega⟩), by omega, by omega, kb⟩
end Go.Proofs.Ytollijngiioonaa

/- An equation that holds, or does not, that came in as an argument, opened. Conditions: none. -/
namespace Go.Proofs.Ytollijngiioonaa
set_option maxRecDepth 100000
open Go.RowKit Go.ChangeShapes Go.WideShapes Go.ChangeAt

theorem cellsLit : Try.prog.cellsOf 54 = 7 := by kernel_rfl
theorem cellsBool : Try.prog.cellsOf 4 = 1 := by kernel_rfl
theorem lit_trod {H : Type} {enc : TypeId × Value → H} {W : World} {base : Nat} {spare : Nat → Bool} {held : Bool} {fuel : Nat} {cs : List Value} {x : DataW H × List MemPlace}
    (h : DataW.trod enc Try.prog W base spare held fuel 54 cs = some x) :
    ∃ (u : LitD) (a1 : Option Addr) (c1 : Nat) (a2 : Option Addr) (c2 : Nat), cs = [.bool u.p, .int .i64 u.l.f, .int .i64 u.l.v, .slice a1 u.l.kids.length c1, .int .i64 u.r.f, .int .i64 u.r.v, .slice a2 u.r.kids.length c2] ∧ (isW u.l.f ∧ isW u.l.v) ∧ (isW u.r.f ∧ isW u.r.v) ∧ (u.l.kids.length ≤ c1 ∧ u.r.kids.length ≤ c2) ∧ RdK W W.heap.size a1 u.l.kids ∧ RdK W W.heap.size a2 u.r.kids := by
  obtain ⟨xs, m, rfl, rfl, hlen, hxl, hf⟩ := DataW.trod_struct Try.underlying54 h
  rw [cellsLit] at hlen
  match cs, hlen with
  | [c0, c1, c2, c3, c4, c5, c6], _ =>
    match xs, hxl with
    | [y0, y1, y2], _ =>
      have h0 : DataW.trod enc Try.prog W base spare held m 4 [c0] = some y0 := by have := hf 0 _ rfl; simpa [cellsBool] using this
      have h1 : DataW.trod enc Try.prog W base spare held m 39 [c1, c2, c3] = some y1 := by have := hf 1 _ rfl; simpa [cellsBool, cellsT] using this
      have h2 : DataW.trod enc Try.prog W base spare held m 39 [c4, c5, c6] = some y2 := by have := hf 2 _ rfl; simpa [cellsBool, cellsT] using this
      obtain ⟨z0, e0, _⟩ := DataW.trod_bool Try.underlying4 h0
      obtain ⟨t, a1, d1, e1, q1, q2, q3, q4⟩ := term_trod h1 (fun m _ cs x hx => kids_trod m cs x hx)
      obtain ⟨t', a2, d2, e2, p1, p2, p3, p4⟩ := term_trod h2 (fun m _ cs x hx => kids_trod m cs x hx)
      simp at e0 e1 e2
      obtain ⟨e1, e3, e4⟩ := e1
      obtain ⟨e2, e5, e6⟩ := e2
      subst e0 e1 e2 e3 e4 e5 e6
      exact ⟨⟨z0, t, t'⟩, a1, d1, a2, d2, rfl, ⟨q1, q2⟩, ⟨p1, p2⟩, ⟨q3.2, p3.2⟩, q4, p4⟩
theorem open_lit {H : Type} {enc : TypeId × Value → H} {W : World} {base : Nat} {spare : Nat → Bool} {held : Bool} {v : Value} {d : DataW H} {p : List MemPlace} {cs : Array Value} (hv : v = .agg cs)
    (h : DataW.Trod enc Try.prog W base spare held 54 v d p) : ∃ (x : LitD) (a1 : Option Addr) (c1 : Nat) (a2 : Option Addr) (c2 : Nat), v = litV x a1 c1 a2 c2 ∧ (isW x.l.f ∧ isW x.l.v) ∧ (isW x.r.f ∧ isW x.r.v) ∧ (x.l.kids.length ≤ c1 ∧ x.r.kids.length ≤ c2) ∧ RdK W W.heap.size a1 x.l.kids ∧ RdK W W.heap.size a2 x.r.kids := by
  subst hv
  obtain ⟨fuel, hf⟩ := h
  obtain ⟨x, a1, c1, a2, c2, e, r⟩ := lit_trod hf
  refine ⟨x, a1, c1, a2, c2, ?_, r⟩
  have e2 : cs.toList = [.bool x.p, .int .i64 x.l.f, .int .i64 x.l.v, .slice a1 x.l.kids.length c1, .int .i64 x.r.f, .int .i64 x.r.v, .slice a2 x.r.kids.length c2] := by simpa [Value.cells] using e
  unfold litV
  rw [show cs = #[.bool x.p, .int .i64 x.l.f, .int .i64 x.l.v, .slice a1 x.l.kids.length c1, .int .i64 x.r.f, .int .i64 x.r.v, .slice a2 x.r.kids.length c2] from Array.toList_inj.1 e2]
end Go.Proofs.Ytollijngiioonaa

/- What the laws on two equations stand on. Conditions: none. -/
namespace Go.Proofs.Ytollijngiioonaa
set_option maxRecDepth 100000
open Go.RowKit

theorem below_stepL {A X Y : World} (h : Below A.heap.size A X) (k : Below X.heap.size X Y) : Below A.heap.size A Y := h.trans (k.mono h.size)
/-- A box of seven cells. -/
def C7 (W : World) (b : Nat) (x0 x1 x2 x3 x4 x5 x6 : Value) : Prop := W.cell? ⟨b, 0, none⟩ = some x0 ∧ W.cell? ⟨b, 1, none⟩ = some x1 ∧ W.cell? ⟨b, 2, none⟩ = some x2 ∧ W.cell? ⟨b, 3, none⟩ = some x3 ∧ W.cell? ⟨b, 4, none⟩ = some x4 ∧ W.cell? ⟨b, 5, none⟩ = some x5 ∧ W.cell? ⟨b, 6, none⟩ = some x6
theorem C7.on {W W' : World} {b : Nat} {x0 x1 x2 x3 x4 x5 x6 : Value} (h : C7 W b x0 x1 x2 x3 x4 x5 x6) (hb : Below W.heap.size W W') : C7 W' b x0 x1 x2 x3 x4 x5 x6 :=
  ⟨keepC hb h.1, keepC hb h.2.1, keepC hb h.2.2.1, keepC hb h.2.2.2.1, keepC hb h.2.2.2.2.1, keepC hb h.2.2.2.2.2.1, keepC hb h.2.2.2.2.2.2⟩
theorem szX_ok (x : LitD) (m : Int) (h0 : 0 ≤ m) (h1 : m ≤ 1048576) : 0 ≤ szX x m → szX x m ≤ m ∧ (partsL x.l.kids : Int) + partsL x.r.kids ≤ m := by
  unfold szX szR
  by_cases a1 : (partsL x.l.kids : Int) ≤ m
  · rw [if_pos a1, if_neg (by omega)]
    by_cases a2 : (partsL x.r.kids : Int) ≤ m - partsL x.l.kids
    · rw [if_pos a2]; intro h; omega
    · rw [if_neg a2]; intro h; omega
  · rw [if_neg a1, if_pos (by omega)]; intro h; omega
end Go.Proofs.Ytollijngiioonaa

