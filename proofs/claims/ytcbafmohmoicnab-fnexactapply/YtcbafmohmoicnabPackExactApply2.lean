/- What the proof of FnExactApply stands on, part 2 of 10: each piece says what it proves and under which conditions. Conditions: as each piece says. -/
import Derived.Test.YtcbafmohmoicnabPackExactApply1
import Derived.Laws.Concat
import Derived.Laws.BytesArg
import Derived.Test.YtcbafmohmoicnabProg
import Derived.Deep.RegionHeld3
import Derived.Deep.DeepMust
import Derived.Sort.AssemblyPlain
import Derived.Sort.WalkA
import Derived.WalkKit
import Derived.BigCall
import Derived.BigGuard
import Derived.Laws.Externs
import Derived.Shelf.Abstract
import Derived.Shelf.RegionOpenPlain
import Derived.Sort.WalkB2
/- The order of terms as plain mathematics, and a stack of pairs of lists still to be held against each other. Conditions: none. -/
namespace Go.Proofs.Ytcbafmohmoicnab
set_option maxRecDepth 100000
open Go.RowKit

/-- The least number of which p holds (0 where there is none). -/
theorem least_ex {p : Nat → Prop} (h : ∃ n, p n) : ∃ n, p n ∧ ∀ m, p m → n ≤ m := by
  obtain ⟨n, hn⟩ := h
  induction n using Nat.strongRecOn with
  | ind n ih =>
    by_cases hm : ∃ m, m < n ∧ p m
    · obtain ⟨m, hlt, hp⟩ := hm; exact ih m hlt hp
    · exact ⟨n, hn, fun m hp => Nat.le_of_not_lt fun hlt => hm ⟨m, hlt, hp⟩⟩

open Classical in
noncomputable def leastN (p : Nat → Prop) : Nat := if h : ∃ n, p n ∧ ∀ m, p m → n ≤ m then Classical.choose h else 0

theorem leastN_spec {p : Nat → Prop} (h : ∃ n, p n) : ∃ n, p n ∧ leastN p = n := by
  have h' := least_ex h
  refine ⟨leastN p, ?_, rfl⟩
  unfold leastN
  rw [dif_pos h']
  exact (Classical.choose_spec h').1
theorem leastN_le {p : Nat → Prop} {n : Nat} (h : p n) : leastN p ≤ n := by
  have h' := least_ex ⟨n, h⟩
  unfold leastN
  rw [dif_pos h']
  exact (Classical.choose_spec h').2 n h

def cmpI (x y : Int) : Int := if x < y then -1 else if y < x then 1 else 0
theorem cmpI_zero {x y : Int} : cmpI x y = 0 ↔ x = y := by unfold cmpI; split <;> (try split) <;> omega
theorem cmpI_self (x : Int) : cmpI x x = 0 := cmpI_zero.2 rfl
theorem cmpI_bd (x y : Int) : -1 ≤ cmpI x y ∧ cmpI x y ≤ 1 := by unfold cmpI; split <;> (try split) <;> omega
theorem cmpI_neg {x y : Int} : cmpI x y < 0 ↔ x < y := by unfold cmpI; split <;> (try split) <;> omega

/-- The first of three that is not 0. -/
def or3 (x y z : Int) : Int := if x ≠ 0 then x else if y ≠ 0 then y else z
/-- How the heads of two terms stand to each other. -/
def headO (t u : TermD) : Int := or3 (cmpI t.f u.f) (cmpI t.v u.v) (cmpI t.kids.length u.kids.length)

theorem headO_zero {t u : TermD} : headO t u = 0 ↔ t.f = u.f ∧ t.v = u.v ∧ t.kids.length = u.kids.length := by
  unfold headO or3
  by_cases h1 : t.f = u.f
  · have e1 := cmpI_zero.2 h1
    by_cases h2 : t.v = u.v
    · have e2 := cmpI_zero.2 h2
      simp only [e1, e2, ne_eq, not_true_eq_false, if_false, cmpI_zero]
      constructor
      · intro h; exact ⟨h1, h2, by omega⟩
      · intro h; omega
    · have e2 := mt cmpI_zero.1 h2
      simp [e1, e2, h2]
  · have e1 := mt cmpI_zero.1 h1
    simp [e1, h1]
theorem headO_bd (t u : TermD) : -1 ≤ headO t u ∧ headO t u ≤ 1 := by
  unfold headO or3
  have h1 := cmpI_bd t.f u.f; have h2 := cmpI_bd t.v u.v; have h3 := cmpI_bd t.kids.length u.kids.length
  split
  · exact h1
  · split
    · exact h2
    · exact h3

mutual
/-- How two terms stand to each other. -/
def ordT : TermD → TermD → Int
  | .mk f v ks, .mk f' v' ks' => if headO (.mk f v ks) (.mk f' v' ks') ≠ 0 then headO (.mk f v ks) (.mk f' v' ks') else ordL ks ks'
def ordL : List TermD → List TermD → Int
  | t :: ts, u :: us => if ordT t u ≠ 0 then ordT t u else ordL ts us
  | _, _ => 0
end
theorem ordT_eq (t u : TermD) : ordT t u = if headO t u ≠ 0 then headO t u else ordL t.kids u.kids := by
  cases t; cases u; rw [ordT]; rfl
theorem ordL_cons (t u : TermD) (ts us : List TermD) : ordL (t :: ts) (u :: us) = if ordT t u ≠ 0 then ordT t u else ordL ts us := by rw [ordL]
theorem ordL_nil : ordL [] [] = 0 := by rw [ordL]; simp

mutual
theorem ordT_same : ∀ t u : TermD, (ordT t u = 0) ↔ sameT t u = true
  | .mk f v ks, .mk f' v' ks' => by
    have hL : ks.length = ks'.length → ((ordL ks ks' = 0) ↔ sameL ks ks' = true) := ordL_same ks ks'
    rw [ordT_eq, sameT_eq]
    by_cases h : headO (.mk f v ks) (.mk f' v' ks') = 0
    · have e := headO_zero.1 h
      simp only [h, ne_eq, not_true_eq_false, if_false]
      obtain ⟨e1, e2, e3⟩ := e
      simp only [e1, e2, e3, beq_self_eq_true, Bool.true_and]
      exact hL e3
    · have e := mt headO_zero.2 h
      simp only [h, ne_eq, not_false_eq_true, if_true, false_iff]
      intro hh
      simp only [Bool.and_eq_true, beq_iff_eq] at hh
      exact e ⟨hh.1.1.1, hh.1.1.2, hh.1.2⟩
theorem ordL_same : ∀ ts us : List TermD, ts.length = us.length → ((ordL ts us = 0) ↔ sameL ts us = true)
  | [], us, _ => by
    cases us with
    | nil => simp [ordL, sameL]
    | cons u us => simp [ordL, sameL]
  | t :: ts, [], h => by simp at h
  | t :: ts, u :: us, h => by
    have h1 := ordT_same t u
    have h2 := ordL_same ts us (by simpa using h)
    rw [ordL_cons]
    by_cases e : ordT t u = 0
    · simp only [e, ne_eq, not_true_eq_false, if_false]
      rw [h2]
      simp [sameL, h1.1 e]
    · simp only [e, ne_eq, not_false_eq_true, if_true, false_iff]
      simp only [sameL, Bool.and_eq_true]
      intro hh
      exact e (h1.2 hh.1)
end

mutual
theorem ordT_bef : ∀ t u : TermD, decide (ordT t u < 0) = befT t u
  | .mk f v ks, .mk f' v' ks' => by
    have hL : ks.length = ks'.length → decide (ordL ks ks' < 0) = befL ks ks' := ordL_bef ks ks'
    rw [ordT_eq, befT_eq]
    show decide ((if headO (TermD.mk f v ks) (.mk f' v' ks') ≠ 0 then headO (.mk f v ks) (.mk f' v' ks') else ordL ks ks') < 0) = (if f ≠ f' then decide (f < f') else if v ≠ v' then decide (v < v') else if ks.length ≠ ks'.length then decide (ks.length < ks'.length) else befL ks ks')
    have hd : headO (TermD.mk f v ks) (.mk f' v' ks') = or3 (cmpI f f') (cmpI v v') (cmpI ks.length ks'.length) := rfl
    rw [hd]
    unfold or3
    by_cases h1 : f = f'
    · subst h1
      by_cases h2 : v = v'
      · subst h2
        by_cases h3 : ks.length = ks'.length
        · simp [cmpI_self, h3, hL h3]
        · have e : cmpI (ks.length : Int) (ks'.length : Int) ≠ 0 := mt cmpI_zero.1 (by omega)
          simp [cmpI_self, h3, e, cmpI_neg]
      · have e : cmpI v v' ≠ 0 := mt cmpI_zero.1 h2
        simp [cmpI_self, h2, e, cmpI_neg]
    · have e : cmpI f f' ≠ 0 := mt cmpI_zero.1 h1
      simp [h1, e, cmpI_neg]
theorem ordL_bef : ∀ ts us : List TermD, ts.length = us.length → decide (ordL ts us < 0) = befL ts us
  | [], us, _ => by
    cases us with
    | nil => simp [ordL, befL]
    | cons u us => simp [ordL, befL]
  | t :: ts, [], h => by simp at h
  | t :: ts, u :: us, h => by
    have h0 := ordT_same t u
    have h1 := ordT_bef t u
    have h2 := ordL_bef ts us (by simpa using h)
    rw [ordL_cons]
    cases hs : sameT t u with
    | true =>
      have e := h0.2 hs
      simp [e, befL, hs, h2]
    | false =>
      have e : ordT t u ≠ 0 := fun e => by rw [h0.1 e] at hs; cases hs
      simp [e, befL, hs, h1]
end

/-- What the stack comes to, its top first. -/
def ordS : List (List TermD × List TermD) → Int
  | [] => 0
  | p :: S => if ordL p.1 p.2 ≠ 0 then ordL p.1 p.2 else ordS S
/-- How much is left on it. -/
def sizeS : List (List TermD × List TermD) → Nat
  | [] => 0
  | p :: S => 2 * partsL p.1 + 1 + sizeS S

theorem ordS_pop (S : List (List TermD × List TermD)) : ordS (([], []) :: S) = ordS S := by simp [ordS, ordL_nil]
theorem ordS_hit {t u : TermD} {ts us : List TermD} {S : List (List TermD × List TermD)} (h : headO t u ≠ 0) : ordS ((t :: ts, u :: us) :: S) = headO t u := by
  have e : ordT t u = headO t u := by rw [ordT_eq, if_pos h]
  simp [ordS, ordL_cons, e, h]
theorem ordS_push {t u : TermD} {ts us : List TermD} {S : List (List TermD × List TermD)} (h : headO t u = 0) : ordS ((t :: ts, u :: us) :: S) = ordS ((t.kids, u.kids) :: (ts, us) :: S) := by
  have e : ordT t u = ordL t.kids u.kids := by rw [ordT_eq]; simp [h]
  simp only [ordS, ordL_cons, e]
  by_cases h1 : ordL t.kids u.kids = 0
  · simp [h1]
  · simp [h1]
theorem sizeS_push (t u : TermD) (ts us : List TermD) (S : List (List TermD × List TermD)) : sizeS ((t.kids, u.kids) :: (ts, us) :: S) < sizeS ((t :: ts, u :: us) :: S) := by
  simp only [sizeS, partsL, partsT_eq]; omega
theorem sizeS_len (S : List (List TermD × List TermD)) : S.length ≤ sizeS S := by
  induction S with
  | nil => simp [sizeS]
  | cons p S ih => simp only [sizeS, List.length_cons]; omega
end Go.Proofs.Ytcbafmohmoicnab

/- Lists of terms that read within a set of blocks, and stacks of them in a row of their own. Conditions: none. -/
namespace Go.Proofs.Ytcbafmohmoicnab
set_option maxRecDepth 100000
open Go.RowKit

/-- The slice of terms that begins at 'a' reads in w as ts, all of its blocks in S. -/
inductive RdP (w : World) (S : Nat → Prop) : Option Addr → List TermD → Prop
  | nil (a : Option Addr) : RdP w S a []
  | row (b off : Nat) (ts : List TermD) (A : Nat → Option Addr) (C : Nat → Nat) (hlt : S b) (hl : ∀ i, (h : i < ts.length) → ts[i].kids.length ≤ C i) 
      (hc : ∀ i, (h : i < ts.length) → w.cell? ⟨b, off + i * 3, none⟩ = some (.int .i64 ts[i].f) ∧ w.cell? ⟨b, off + i * 3 + 1, none⟩ = some (.int .i64 ts[i].v) ∧ w.cell? ⟨b, off + i * 3 + 2, none⟩ = some (.slice (A i) ts[i].kids.length (C i)))
      (hk : ∀ i, (h : i < ts.length) → RdP w S (A i) ts[i].kids) : RdP w S (some ⟨b, off, none⟩) ts

theorem RdK.p {w : World} {hi : Nat} {S : Nat → Prop} {a : Option Addr} {ts : List TermD} (h : RdK w hi a ts) (hs : ∀ k, k < hi → S k) : RdP w S a ts := by
  induction h with
  | nil a => exact .nil a
  | row b off ts A C hlt hl hz hc hk ih => exact .row b off ts A C (hs _ hlt) hl.2 hc ih

theorem RdP.stay {w w' : World} {S : Nat → Prop} {a : Option Addr} {ts : List TermD} (h : RdP w S a ts) (hb : Stay S w w') : RdP w' S a ts := by
  induction h with
  | nil a => exact .nil a
  | row b off ts A C hlt hl hc hk ih =>
    refine .row b off ts A C hlt hl (fun i h => ?_) ih
    obtain ⟨h0, h1, h2⟩ := hc i h
    exact ⟨hb.cell h0 hlt, hb.cell h1 hlt, hb.cell h2 hlt⟩

theorem RdP.weak {w : World} {S T : Nat → Prop} {a : Option Addr} {ts : List TermD} (h : RdP w S a ts) (hs : ∀ k, S k → T k) : RdP w T a ts := by
  induction h with
  | nil a => exact .nil a
  | row b off ts A C hlt hl hc hk ih => exact .row b off ts A C (hs _ hlt) hl hc ih

theorem RdP.head {w : World} {S : Nat → Prop} {a : Option Addr} {t : TermD} {ts : List TermD} (h : RdP w S a (t :: ts)) :
    ∃ b off a' c', a = some ⟨b, off, none⟩ ∧ S b ∧ w.cell? ⟨b, off, none⟩ = some (.int .i64 t.f) ∧ w.cell? ⟨b, off + 1, none⟩ = some (.int .i64 t.v) ∧ w.cell? ⟨b, off + 2, none⟩ = some (.slice a' t.kids.length c') ∧ t.kids.length ≤ c' ∧ RdP w S a' t.kids := by
  cases h with
  | row b off _ A C hlt hl hc hk =>
    have h0 := hc 0 (by simp)
    simp only [Nat.zero_mul, Nat.add_zero, List.getElem_cons_zero] at h0
    exact ⟨b, off, A 0, C 0, rfl, hlt, h0.1, h0.2.1, h0.2.2, hl 0 (by simp), hk 0 (by simp)⟩

theorem RdP.tail {w : World} {S : Nat → Prop} {b off : Nat} {t : TermD} {ts : List TermD} (h : RdP w S (some ⟨b, off, none⟩) (t :: ts)) : RdP w S (some ⟨b, off + 3, none⟩) ts := by
  cases h with
  | row _ _ _ A C hlt hl hc hk =>
    refine .row b (off + 3) ts (fun i => A (i + 1)) (fun i => C (i + 1)) hlt (fun i hi => ?_) (fun i hi => ?_) (fun i hi => ?_)
    · have := hl (i + 1) (by simpa using hi); simpa using this
    · have := hc (i + 1) (by simpa using hi)
      rw [show off + (i + 1) * 3 = off + 3 + i * 3 by omega] at this
      simpa using this
    · have := hk (i + 1) (by simpa using hi); simpa using this

/-- Where the rest of a list begins. -/
def tailA (b off c : Nat) : Option Addr := if c = 1 then some ⟨b, off, none⟩ else some ⟨b, off + 3, none⟩

theorem RdP.tailA {w : World} {S : Nat → Prop} {b off : Nat} {t : TermD} {ts : List TermD} (h : RdP w S (some ⟨b, off, none⟩) (t :: ts)) {c : Nat} (hc : ts.length + 1 ≤ c) : RdP w S (tailA b off c) ts := by
  unfold Go.Proofs.Ytcbafmohmoicnab.tailA
  split
  · have : ts = [] := List.eq_nil_of_length_eq_zero (by omega)
    subst this; exact .nil _
  · exact h.tail

/-- One pair of lists on the stack. -/
structure PE where
  a : Option Addr
  c : Nat
  ts : List TermD
  a' : Option Addr
  c' : Nat
  us : List TermD

/-- It reads, and its lists are of one length. -/
structure PE.Ok (e : PE) (w : World) (S : Nat → Prop) : Prop where
  r : RdP w S e.a e.ts
  r' : RdP w S e.a' e.us
  le : e.ts.length ≤ e.c
  le' : e.us.length ≤ e.c'
  eq : e.ts.length = e.us.length

theorem PE.Ok.stay {e : PE} {w w' : World} {S : Nat → Prop} (h : e.Ok w S) (hb : Stay S w w') : e.Ok w' S := ⟨h.r.stay hb, h.r'.stay hb, h.le, h.le', h.eq⟩

/-- The cells of a stack, its top last. -/
def cellsP : List PE → List Value
  | [] => []
  | e :: E => cellsP E ++ [.slice e.a e.ts.length e.c, .slice e.a' e.us.length e.c']
theorem cellsP_len (E : List PE) : (cellsP E).length = E.length * 2 := by
  induction E with
  | nil => rfl
  | cons e E ih => simp only [cellsP, List.length_append, ih, List.length_cons, List.length_nil]; omega
def dataP (E : List PE) : List (List TermD × List TermD) := E.map fun e => (e.ts, e.us)

theorem cellsP_top {w : World} {B T g c : Nat} {e : PE} {E : List PE} (h : w.ownsRow B T 2 (.slice (some ⟨g, 0, none⟩) (E.length + 1) c) (E.length + 1) (cellsP (e :: E))) :
    w.cell? ⟨g, E.length * 2, none⟩ = some (.slice e.a e.ts.length e.c) ∧ w.cell? ⟨g, E.length * 2 + 1, none⟩ = some (.slice e.a' e.us.length e.c') := by
  have hl := cellsP_len E
  refine ⟨(h.cellAt _ (by omega)).trans ?_, (h.cellAt _ (by omega)).trans ?_⟩
  · rw [cellsP, List.getElem?_append_right (by omega)]; simp [hl]
  · rw [cellsP, List.getElem?_append_right (by omega)]; simp [hl]

theorem cellsP_set {w : World} {B T g c : Nat} {e : PE} {E : List PE} (h : w.ownsRow B T 2 (.slice (some ⟨g, 0, none⟩) (E.length + 1) c) (E.length + 1) (cellsP (e :: E))) (d : PE) :
    ((w.setCell ⟨g, E.length * 2, none⟩ (.slice d.a d.ts.length d.c)).setCell ⟨g, E.length * 2 + 1, none⟩ (.slice d.a' d.us.length d.c')).ownsRow B T 2 (.slice (some ⟨g, 0, none⟩) (E.length + 1) c) (E.length + 1) (cellsP (d :: E)) := by
  have hl := cellsP_len E
  have h1 := ((h.stored (E.length * 2) (.slice d.a d.ts.length d.c)).1.stored (E.length * 2 + 1) (.slice d.a' d.us.length d.c')).1
  have e1 : ((cellsP (e :: E)).set (E.length * 2) (.slice d.a d.ts.length d.c)).set (E.length * 2 + 1) (.slice d.a' d.us.length d.c') = cellsP (d :: E) := by
    simp only [cellsP]
    rw [List.set_append_right _ _ (by omega), List.set_append_right _ _ (by omega)]
    simp [hl]
  rwa [e1] at h1

theorem cellsP_pop {w : World} {B T g c : Nat} {e : PE} {E : List PE} (h : w.ownsRow B T 2 (.slice (some ⟨g, 0, none⟩) (E.length + 1) c) (E.length + 1) (cellsP (e :: E))) :
    w.ownsRow B T 2 (.slice (some ⟨g, 0, none⟩) E.length c) E.length (cellsP E) := ownsRow_pop (cellsP_len E) h

theorem own_stay {w w' : World} {S : Nat → Prop} {base : Nat} {e : TypeId} {size : Nat} {v : Value} {n : Nat} {xs : List Value} (h : w.ownsRow base e size v n xs) (hb : Stay S w w') (hs : ∀ g, v.ownBlock = some g → S g) : w'.ownsRow base e size v n xs := by
  have hl := h.lt
  obtain ⟨h1, h2⟩ := h
  refine ⟨h1, ?_⟩
  rcases h2 with h2 | ⟨g, cap, cur, rfl, hg, hh, r⟩
  · exact .inl h2
  · exact .inr ⟨g, cap, cur, rfl, hg, by rw [hb.block g (hl g rfl).2 (hs g rfl)]; exact hh, r⟩

/-- The blocks that stay while the stack is worked on: what was there, and two of the call's own. -/
def Fx (n B k : Nat) : Prop := k < n ∨ k = B ∨ k = B + 1

/-- What lies in memory while two terms are held against each other. -/
structure OrdSt (w : World) (B T T' : Nat) (r : Int) (M : Nat) (E : List PE) (v : Value) (wr : World) : Prop where
  row : wr.ownsRow w.heap.size T 2 v E.length (cellsP E)
  k0 : ∃ cs fz, wr.heap[B]? = some (.cells cs T' fz)
  k1 : ∃ cs fz, wr.heap[B + 1]? = some (.cells cs T' fz)
  ne : T' ≠ T
  lo : w.heap.size ≤ B
  good : ∀ e ∈ E, e.Ok wr (Fx w.heap.size B)
  ord : ordS (dataP E) = r
  size : sizeS (dataP E) ≤ M
  below : Below w.heap.size w wr

namespace OrdSt
variable {w wr wr' : World} {B T T' : Nat} {r : Int} {M : Nat} {E : List PE} {v : Value}

theorem hi (h : OrdSt w B T T' r M E v wr) : B + 1 < wr.heap.size := by
  obtain ⟨cs, fz, e⟩ := h.k1; exact (Array.getElem?_eq_some_iff.1 e).1

theorem own (h : OrdSt w B T T' r M E v wr) : ∀ g, v.ownBlock = some g → ¬ Fx w.heap.size B g := by
  intro g hg hx
  have hlt := h.row.lt g hg
  rcases h.row.2 with ⟨rfl, _⟩ | ⟨g', cap, cur, rfl, _, hh, _⟩
  · cases hg
  · have e : g' = g := by simpa [Value.ownBlock] using hg
    subst e
    obtain ⟨cs, fz, e0⟩ := h.k0
    obtain ⟨cs1, fz1, e1⟩ := h.k1
    rcases hx with hx | hx | hx
    · omega
    · subst hx; rw [hh] at e0; cases e0; exact h.ne rfl
    · subst hx; rw [hh] at e1; cases e1; exact h.ne rfl

theorem on (h : OrdSt w B T T' r M E v wr) (hb : Below wr.heap.size wr wr') : OrdSt w B T T' r M E v wr' := by
  have hh := h.hi
  have hs : Stay (Fx w.heap.size B) wr wr' := .of_below hb (fun k hk _ => hk)
  refine ⟨own_on h.row hb, ?_, ?_, h.ne, h.lo, fun e he => (h.good e he).stay hs, h.ord, h.size, h.below.trans (hb.mono h.below.size)⟩
  · rw [hb.block _ (by omega)]; exact h.k0
  · rw [hb.block _ (by omega)]; exact h.k1

theorem pop {g c : Nat} {e : PE} (h : OrdSt w B T T' r M (e :: E) (.slice (some ⟨g, 0, none⟩) (E.length + 1) c) wr) (he : e.ts = []) : OrdSt w B T T' r M E (.slice (some ⟨g, 0, none⟩) E.length c) wr := by
  have he' : e.us = [] := List.eq_nil_of_length_eq_zero (by rw [← (h.good e (by simp)).eq, he]; rfl)
  have h1 := h.ord
  have h2 := h.size
  simp only [dataP, List.map_cons, he, he', ordS_pop] at h1 h2
  refine ⟨cellsP_pop h.row, h.k0, h.k1, h.ne, h.lo, fun e he => h.good e (by simp [he]), h1, ?_, h.below⟩
  simp only [sizeS] at h2
  exact Nat.le_trans (Nat.le_add_left _ _) h2

/-- Other lists stand at the stack's top. -/
theorem set {g c : Nat} {e d : PE} (h : OrdSt w B T T' r M (e :: E) (.slice (some ⟨g, 0, none⟩) (E.length + 1) c) wr) (hd : d.Ok wr (Fx w.heap.size B)) {r' : Int} (ho : ordS (dataP (d :: E)) = r') (hM : sizeS (dataP (d :: E)) ≤ M) :
    OrdSt w B T T' r' M (d :: E) (.slice (some ⟨g, 0, none⟩) (E.length + 1) c) ((wr.setCell ⟨g, E.length * 2, none⟩ (.slice d.a d.ts.length d.c)).setCell ⟨g, E.length * 2 + 1, none⟩ (.slice d.a' d.us.length d.c')) := by
  have hn := h.own g rfl
  have hlo := h.lo
  have hs : Stay (Fx w.heap.size B) wr ((wr.setCell ⟨g, E.length * 2, none⟩ (.slice d.a d.ts.length d.c)).setCell ⟨g, E.length * 2 + 1, none⟩ (.slice d.a' d.us.length d.c')) := (Stay.setCell _ _ hn).trans (Stay.setCell _ _ hn)
  have hh := h.hi
  refine ⟨cellsP_set h.row d, ?_, ?_, h.ne, h.lo, fun f hf => ?_, ho, hM, h.below.trans (hs.below h.below.size (fun k hk => .inl hk))⟩
  · rw [hs.block _ (by omega) (.inr (.inl rfl))]; exact h.k0
  · rw [hs.block _ (by omega) (.inr (.inr rfl))]; exact h.k1
  · rcases List.mem_cons.1 hf with rfl | hf
    · exact hd.stay hs
    · exact (h.good f (by simp [hf])).stay hs

/-- One more pair is put onto it. -/
theorem push {v' : Value} {d : PE} (h : OrdSt w B T T' r M E v wr) (hrow : wr'.ownsRow w.heap.size T 2 v' (E.length + 1) (cellsP E ++ [.slice d.a d.ts.length d.c, .slice d.a' d.us.length d.c'])) (hg : wr.grownBy wr' v.ownBlock) (hd : d.Ok wr (Fx w.heap.size B)) {r' : Int} (ho : ordS (dataP (d :: E)) = r') {M' : Nat} (hM : sizeS (dataP (d :: E)) ≤ M') :
    OrdSt w B T T' r' M' (d :: E) v' wr' := by
  have hs : Stay (Fx w.heap.size B) wr wr' := .grown hg (fun k hk => h.own k hk)
  have hh := h.hi
  have hlo := h.lo
  refine ⟨hrow, ?_, ?_, h.ne, h.lo, fun f hf => ?_, ho, hM, h.below.trans (hs.below h.below.size (fun k hk => .inl hk))⟩
  · rw [hs.block _ (by omega) (.inr (.inl rfl))]; exact h.k0
  · rw [hs.block _ (by omega) (.inr (.inr rfl))]; exact h.k1
  · rcases List.mem_cons.1 hf with rfl | hf
    · exact hd.stay hs
    · exact (h.good f hf).stay hs
end OrdSt

theorem own_form {w : World} {base : Nat} {e : TypeId} {size : Nat} {v : Value} {n : Nat} {xs : List Value} (h : w.ownsRow base e size v n xs) : ∃ a c, v = .slice a n c ∧ n ≤ c := by
  rcases h.2 with ⟨rfl, rfl⟩ | ⟨g, cap, _, rfl, _, _, hn, _⟩
  · exact ⟨none, 0, rfl, Nat.le_refl _⟩
  · exact ⟨_, cap, rfl, hn⟩
theorem own_slot {w : World} {base : Nat} {e : TypeId} {size : Nat} {v : Value} {n : Nat} {xs : List Value} (h : w.ownsRow base e size v (n + 1) xs) : ∃ g c, v = .slice (some ⟨g, 0, none⟩) (n + 1) c ∧ n + 1 ≤ c ∧ base ≤ g ∧ g < w.heap.size := by
  have hl := h.lt
  rcases h.2 with ⟨_, h0⟩ | ⟨g, cap, _, rfl, hb, _, hn, _⟩
  · omega
  · exact ⟨g, cap, rfl, hn, hb, (hl g rfl).2⟩

theorem two_new (w : World) (x y : Value) (t : TypeId) (n : Nat) (hn : n = w.heap.size) : ∀ j v, [x, y][j]? = some v → (w.alloc (.cells #[x, y] t)).cell? ((⟨n, 0, none⟩ : Addr).add j) = some v := by
  subst hn
  intro j v hj
  match j, hj with
  | 0, hj => simp at hj; subst hj; simp [Addr.add]
  | 1, hj => simp at hj; subst hj; simp [Addr.add]
  | j + 2, hj => simp at hj
theorem two_cell (a a' : Option Addr) (n n' c c' : Nat) : ∀ u ∈ [Value.slice a n c, Value.slice a' n' c'], u.oneCell' = true := by
  intro u hu
  simp at hu
  rcases hu with rfl | rfl <;> rfl
end Go.Proofs.Ytcbafmohmoicnab

/- Marks on lists of functions. Conditions: at most 1048577 functions. -/
namespace Go.Proofs.Ytcbafmohmoicnab
set_option maxRecDepth 100000
open Go.RowKit

theorem cat_size (c : UInt8) (s : ByteArray) : ((⟨#[c]⟩ : ByteArray) ++ s).size = s.size + 1 := by rw [ByteArray.size_append, Nat.add_comm]; rfl
theorem conv_byte (W : World) (z : Int) : (convert 99 9 (.slice (some ⟨W.heap.size, 0, none⟩) 1 1)).run Try.prog (W.alloc (.cells #[.int .u8 z] 5)) = .ok (.string ⟨#[UInt8.ofNat z.toNat]⟩) (W.alloc (.cells #[.int .u8 z] 5)) := by
  refine run_convert_bytes_arg _ 99 5 Try.underlying99 Try.underlying5 _ 0 1 1 [z] rfl (fun i hi => ?_) 9 Try.underlying9
  obtain rfl : i = 0 := by omega
  simp

set_option maxHeartbeats 1600000 in
theorem markText_any (k : Nat) (w : World) (hk : k ≤ 549755813888) :
    Calls Try.prog 52 #[.int .i64 k] w fun e w' => (∃ s, e = .returned (.string s)) ∧ Below w.heap.size w w' := by
  by_cases h0 : k = 0
  · subst h0
    go_enter Try.func52, Try.ntmps52
    go_wp2
    go_ret
    exact ⟨⟨_, rfl⟩, Below.refl _ _⟩
  · have h0z : ¬ ((k : Int) ≤ 0) := by omega
    go_enter Try.func52, Try.ntmps52
    go_wp2
    go_loopw [0, 3] (fun vk vs wr => ∃ (n : Nat) (s : ByteArray), vk = .int .i64 n ∧ vs = .string s ∧ s.size + n ≤ 549755813888 ∧ Below w.heap.size w wr) (fun vk _ _ => (intOf vk).toNat)
    case atStart => exact ⟨k, ⟨#[]⟩, rfl, rfl, by simp [ByteArray.size]; omega, Below.refl _ _⟩
    case round =>
      obtain ⟨n, s, rfl, rfl, hn, hb⟩ := hrel
      by_cases h1 : 0 < n
      · have h1z : (0 : Int) < (n : Int) := by omega
        have cv := conv_byte wr ((48 : Int) + (n : Int) % 10)
        go_wp2
        go_roundw
        case rel => exact ⟨n / 10, _, by go_num, rfl, by rw [cat_size]; omega, hb.alloc hb.size _⟩
        case measure => simp [intOf]; omega
      · have h1z : ¬ (0 : Int) < (n : Int) := by omega
        go_wp2
        go_ret
        exact ⟨⟨_, rfl⟩, hb⟩

set_option maxHeartbeats 3200000 in
theorem markSyms_any (B g n c : Nat) (xs0 : List Value) (k : Nat) (w : World) (hown : w.ownsRow B 68 3 (.slice (some ⟨g, 0, none⟩) n c) n xs0) (hn : n ≤ 1048577) (hk : k ≤ 4) :
    Calls Try.prog 19 #[.slice (some ⟨g, 0, none⟩) n c, .int .i64 k] w fun e w' => e = .returned (.int .i64 ((k : Int) + 3 * (n : Int))) ∧ Stay (fun k => k ≠ g) w w' := by
  go_enter Try.func19, Try.ntmps19
  go_wp2
  go_loopw [1, 5] (fun vk vi wr => ∃ (i : Nat) (xs : List Value), vi = .int .i64 i ∧ vk = .int .i64 ((k + 3 * i : Nat) : Int) ∧ i ≤ n ∧ wr.ownsRow B 68 3 (.slice (some ⟨g, 0, none⟩) n c) n xs ∧ Stay (fun k => k ≠ g) w wr) (fun _ vi _ => n - (intOf vi).toNat)
  case atStart => exact ⟨0, xs0, rfl, by simp, Nat.zero_le _, hown, .refl _ _⟩
  case round =>
    obtain ⟨i, xs, rfl, rfl, hi, ho, hst⟩ := hrel
    clear hown
    have hcap : n ≤ c := by obtain ⟨_, _, e, hh⟩ := own_form ho; rw [(Value.slice.inj e).2.2]; exact hh
    by_cases h1 : i < n
    · have h1z : (i : Int) < (n : Int) := by omega
      have hxl := ho.1
      have CM := markText_any (k + 3 * i) wr (by omega)
      obtain ⟨u0, e0⟩ : ∃ u, xs[i * 3]? = some u := ⟨xs[i * 3]'(by omega), by rw [List.getElem?_eq_getElem]⟩
      obtain ⟨u1, e1⟩ : ∃ u, xs[i * 3 + 1]? = some u := ⟨xs[i * 3 + 1]'(by omega), by rw [List.getElem?_eq_getElem]⟩
      obtain ⟨u2, e2⟩ : ∃ u, xs[i * 3 + 2]? = some u := ⟨xs[i * 3 + 2]'(by omega), by rw [List.getElem?_eq_getElem]⟩
      have hgl := (ho.lt g rfl).2
      have HO : Hid _ := ho
      clear ho
      go_wp2_with (go_at_call 52; refine CM.mono ?_; rintro e w1 ⟨⟨s, rfl⟩, hb⟩; have o1 := own_on HO.out hb; have c0 := (o1.cellAt (i * 3) (by omega)).trans e0; have c1 := (o1.cellAt (i * 3 + 1) (by omega)).trans e1; have c2 := (o1.cellAt (i * 3 + 2) (by omega)).trans e2; have f0 := o1.frozenAt (i * 3); have f1 := o1.frozenAt (i * 3 + 1); have f2 := o1.frozenAt (i * 3 + 2); clear CM)
      refine ⟨⟨i + 1, _, by go_num, by go_num, by omega, (((o1.stored (i * 3) _).1.stored (i * 3 + 1) _).1.stored (i * 3 + 2) _).1, ?_⟩, by simp [intOf]; omega⟩
      exact (((hst.trans (.of_below hb (fun _ hk _ => hk))).trans (.setCell _ _ (by simp))).trans (.setCell _ _ (by simp))).trans (.setCell _ _ (by simp))
    · have h1z : ¬ (i : Int) < (n : Int) := by omega
      go_wp2
      go_ret
      exact ⟨rtI (by omega), hst⟩
end Go.Proofs.Ytcbafmohmoicnab

/- Contracts of the laws' copies of terms. Conditions: terms of at most 549755813888 parts. -/
namespace Go.Proofs.Ytcbafmohmoicnab
set_option maxRecDepth 100000
open Go.RowKit

set_option maxHeartbeats 1600000 in
theorem toTerm_of (t : TermD) (a : Option Addr) (c : Nat) (w : World)
    (H : ∀ w', Below w.heap.size w w' → Calls Try.prog 47 #[.slice a t.kids.length c] w' fun e w'' => e = .returned (.slice (some ⟨w'.heap.size, 0, none⟩) t.kids.length t.kids.length) ∧ OwnS w'' (fun x => w'.heap.size ≤ x ∧ x < w''.heap.size) (some ⟨w'.heap.size, 0, none⟩) t.kids ∧ Below w'.heap.size w' w'') :
    Calls Try.prog 14 #[.agg #[.int .i64 t.f, .int .i64 t.v, .slice a t.kids.length c]] w fun e w' => ∃ a', e = .returned (.agg #[.int .i64 t.f, .int .i64 t.v, .slice a' t.kids.length t.kids.length]) ∧ OwnS w' (fun x => w.heap.size ≤ x ∧ x < w'.heap.size) a' t.kids ∧ Below w.heap.size w w' := by
  generalize t.kids = ks at *
  obtain ⟨W, hW⟩ : ∃ W, W = (((w.alloc (.cells #[.int .i64 t.f, .int .i64 t.v, .slice a ks.length c] 26)).alloc (.cells #[.int .i64 0, .int .i64 0, .slice none 0 0] 32)).alloc (.cells #[.int .i64 t.f, .int .i64 t.v, .slice none 0 0] 32)) := ⟨_, rfl⟩
  have hWs : W.heap.size = w.heap.size + 1 + 1 + 1 := by rw [hW]; simp
  have h0 : Below w.heap.size w W := by rw [hW]; exact (((Below.refl _ _).alloc (Nat.le_refl _) _).alloc (by simp) _).alloc (by simp; omega) _
  have H1 := H W h0
  have x0 : W.cell? ⟨w.heap.size + 1, 0, none⟩ = some (.int .i64 0) := by rw [hW]; simp [go_sem]
  have x1 : W.cell? ⟨w.heap.size + 1, 1, none⟩ = some (.int .i64 0) := by rw [hW]; simp [go_sem]
  have x2 : W.cell? ⟨w.heap.size + 1, 2, none⟩ = some (.slice none 0 0) := by rw [hW]; simp [go_sem]
  have y0 : W.cell? ⟨w.heap.size + 1 + 1, 0, none⟩ = some (.int .i64 t.f) := by rw [hW]; simp [go_sem]
  have y1 : W.cell? ⟨w.heap.size + 1 + 1, 1, none⟩ = some (.int .i64 t.v) := by rw [hW]; simp [go_sem]
  have y2 : W.cell? ⟨w.heap.size + 1 + 1, 2, none⟩ = some (.slice none 0 0) := by rw [hW]; simp [go_sem]
  have fz : ∀ j, W.frozen? ⟨w.heap.size + 1, j, none⟩ = false := by intro j; rw [hW]; simp [go_sem]
  have gz : ∀ j, W.frozen? ⟨w.heap.size + 1 + 1, j, none⟩ = false := by intro j; rw [hW]; simp [go_sem]
  rw [hWs] at H1
  clear H
  go_enter Try.func14, Try.ntmps14
  go_wp2_with (go_at_call 47; (rw [← hW]; refine H1.mono ?_; rintro e w1 ⟨rfl, ho1, hb1⟩; have hb3 := hb1; have hbW : Below W.heap.size W w1 := (by rw [hWs]; exact hb1); have a0 := keepC hbW x0; have a1 := keepC hbW x1; have a2 := keepC hbW x2; have b0 := keepC hbW y0; have b1 := keepC hbW y1; have b2 := keepC hbW y2; have fa : ∀ j, w1.frozen? ⟨w.heap.size + 1, j, none⟩ = false := (fun j => (World.frozen?_of_block (a := ⟨w.heap.size + 1, j, none⟩) (hb3.block (w.heap.size + 1) (by omega))).trans (fz j)); have fb : ∀ j, w1.frozen? ⟨w.heap.size + 1 + 1, j, none⟩ = false := (fun j => (World.frozen?_of_block (a := ⟨w.heap.size + 1 + 1, j, none⟩) (hb3.block (w.heap.size + 1 + 1) (by omega))).trans (gz j)); have hB1 := h0.trans (hbW.mono h0.size); have hsz := hb3.size; clear H1 hb1 hb3 hbW x0 x1 x2 y0 y1 y2 fz gz h0 hW))
  have other : ∀ j, (w1.setCell ⟨w.heap.size + 1 + 1, 2, none⟩ (.slice (some ⟨w.heap.size + 1 + 1 + 1, 0, none⟩) ks.length ks.length)).cell? ⟨w.heap.size + 1, j, none⟩ = w1.cell? ⟨w.heap.size + 1, j, none⟩ := fun j => World.cell?_setCell_other _ _ _ _ (by simp)
  obtain ⟨q0, q1, q2⟩ := set3_cells (u := w1.setCell ⟨w.heap.size + 1 + 1, 2, none⟩ (.slice (some ⟨w.heap.size + 1 + 1 + 1, 0, none⟩) ks.length ks.length)) (r := w.heap.size + 1) (x := .int .i64 t.f) (y := .int .i64 t.v) (z := .slice (some ⟨w.heap.size + 1 + 1 + 1, 0, none⟩) ks.length ks.length) ((other 0).trans a0) ((other 1).trans a1) ((other 2).trans a2)
  have hn2 : ¬ (w.heap.size + 1 + 1 + 1 ≤ w.heap.size + 1 + 1 ∧ w.heap.size + 1 + 1 < w1.heap.size) := by omega
  have hn1 : ¬ (w.heap.size + 1 + 1 + 1 ≤ w.heap.size + 1 ∧ w.heap.size + 1 < w1.heap.size) := by omega
  have O := (((ho1.setCell ⟨w.heap.size + 1 + 1, 2, none⟩ hn2 (.slice (some ⟨w.heap.size + 1 + 1 + 1, 0, none⟩) ks.length ks.length)).setCell ⟨w.heap.size + 1, 0, none⟩ hn1 (.int .i64 t.f)).setCell ⟨w.heap.size + 1, 1, none⟩ hn1 (.int .i64 t.v)).setCell ⟨w.heap.size + 1, 2, none⟩ hn1 (.slice (some ⟨w.heap.size + 1 + 1 + 1, 0, none⟩) ks.length ks.length)
  refine bodyPost_ret (v := .agg #[.int .i64 t.f, .int .i64 t.v, .slice (some ⟨w.heap.size + 1 + 1 + 1, 0, none⟩) ks.length ks.length]) (by simp [results, Try.results14, go_sem, q0, q1, q2]) rfl ⟨_, rfl, O.mono (fun x hx => ⟨by omega, by simpa using hx.2⟩), ?_⟩
  exact (((hB1.setCell (p := ⟨w.heap.size + 1 + 1, 2, none⟩) (by simp; omega) _).setCell (p := ⟨w.heap.size + 1, 0, none⟩) (by simp) _).setCell (p := ⟨w.heap.size + 1, 1, none⟩) (by simp) _).setCell (p := ⟨w.heap.size + 1, 2, none⟩) (by simp) _

theorem info29 : (Try.prog.info? 32).map (fun i => (i.zero, i.size, i.bytes)) = some (some (.agg #[.int .i64 0, .int .i64 0, .slice none 0 0]), 3, 40) := by kernel_rfl

/-- What lies in memory when the first k terms of a list are copied. -/
structure CopySt (w wr : World) (ts : List TermD) (k : Nat) (A : Nat → Option Addr) (L : Nat → Nat) : Prop where
  row : wr.ownsRow w.heap.size 32 3 (.slice (some ⟨w.heap.size, 0, none⟩) ts.length ts.length) ts.length (cs3 (laidTo ts A k))
  low : w.heap.size < L 0
  mono : ∀ i, i < k → L i ≤ L (i + 1)
  top : L k ≤ wr.heap.size
  kid : ∀ i, (h : i < ts.length) → i < k → OwnS wr (fun x => L i ≤ x ∧ x < L (i + 1)) (A i) ts[i].kids
  below : Below w.heap.size w wr

theorem CopySt.le {w wr : World} {ts : List TermD} {k : Nat} {A : Nat → Option Addr} {L : Nat → Nat} (h : CopySt w wr ts k A L) : ∀ i j, i ≤ j → j ≤ k → L i ≤ L j := by
  intro i j
  induction j with
  | zero => intro h1 _; have : i = 0 := by omega
            subst this; exact Nat.le_refl _
  | succ j ih =>
    intro h1 h2
    by_cases e : i = j + 1
    · subst e; exact Nat.le_refl _
    · exact Nat.le_trans (ih (by omega) (by omega)) (h.mono j (by omega))

theorem CopySt.done {w wr : World} {ts : List TermD} {A : Nat → Option Addr} {L : Nat → Nat} (h : CopySt w wr ts ts.length A L) (hl : ts.length ≤ 9223372036854775807) (hz : ∀ i, (h : i < ts.length) → isW ts[i].f ∧ isW ts[i].v) :
    OwnS wr (fun x => w.heap.size ≤ x ∧ x < wr.heap.size) (some ⟨w.heap.size, 0, none⟩) ts := by
  have hlt := (h.row.lt _ rfl).2
  refine .row _ w.heap.size 0 ts A (fun i => (ts[i]?.getD default).kids.length) (fun i x => L i ≤ x ∧ x < L (i + 1)) ⟨Nat.le_refl _, hlt⟩ hlt ⟨hl, fun i hi => by simp [hi]⟩ hz (fun i hi => ?_) (fun j => h.row.frozenAt j) (fun i x hi hx => ?_) (fun i j x hi hj hne hx hy => ?_) (fun i hi => h.kid i hi hi)
  · obtain ⟨c0, c1, c2⟩ := cs3_cells (by rw [laidTo_len]) (k := i) (by rw [laidTo_len]; exact hi) h.row
    have e : (laidTo ts A ts.length)[i]'(by rw [laidTo_len]; exact hi) = (.int .i64 ts[i].f, .int .i64 ts[i].v, .slice (A i) ts[i].kids.length ts[i].kids.length) := by
      simp [laidTo, hi]
    rw [e] at c0 c1 c2
    simp only [Nat.zero_add]
    exact ⟨c0, c1, by simpa [hi] using c2⟩
  · have h1 := h.le 0 i (by omega) (by omega)
    have h2 := h.le (i + 1) ts.length (by omega) (Nat.le_refl _)
    have h3 := h.low
    have h4 := h.top
    exact ⟨⟨by omega, by omega⟩, by omega⟩
  · rcases Nat.lt_or_gt_of_ne hne with hh | hh
    · have := h.le (i + 1) j (by omega) (by omega)
      omega
    · have := h.le (j + 1) i (by omega) (by omega)
      omega

/-- One more term is copied. -/
theorem CopySt.step {w wr w1 : World} {ts : List TermD} {k : Nat} {A : Nat → Option Addr} {L : Nat → Nat} (h : CopySt w wr ts k A L) (hk : k < ts.length) {a' : Option Addr} (ho : OwnS w1 (fun x => wr.heap.size ≤ x ∧ x < w1.heap.size) a' ts[k].kids) (hb : Below wr.heap.size wr w1) :
    CopySt w (((w1.setCell ⟨w.heap.size, k * 3, none⟩ (.int .i64 ts[k].f)).setCell ⟨w.heap.size, k * 3 + 1, none⟩ (.int .i64 ts[k].v)).setCell ⟨w.heap.size, k * 3 + 2, none⟩ (.slice a' ts[k].kids.length ts[k].kids.length)) ts (k + 1) (fun i => if i = k then a' else A i) (fun i => if i ≤ k then L i else w1.heap.size) := by
  have h3 := h.low
  have h4 := h.top
  have h5 := hb.size
  have hle := h.le
  refine ⟨?_, ?_, fun i hi => ?_, ?_, fun i hi hik => ?_, ?_⟩
  · have r := cs3_store (t := (.int .i64 ts[k].f, .int .i64 ts[k].v, .slice a' ts[k].kids.length ts[k].kids.length)) (k := k) (by rw [laidTo_len]; exact hk) (own_on h.row hb)
    rwa [laidTo_set ts A hk a'] at r
  · simp only [Nat.zero_le, if_true]; exact h3
  · by_cases e : i = k
    · subst e
      simp only [Nat.le_refl, if_true, show ¬ i + 1 ≤ i by omega, if_false]; omega
    · simp only [show i ≤ k by omega, show i + 1 ≤ k by omega, if_true]; exact h.mono i (by omega)
  · simp only [show ¬ k + 1 ≤ k by omega, if_false, World.size_setCell]; exact Nat.le_refl _
  · have h0i := hle 0 i (by omega) (by omega)
    by_cases e : i = k
    · subst e
      simp only [Nat.le_refl, if_true, show ¬ i + 1 ≤ i by omega, if_false]
      have hn : ¬ (L i ≤ w.heap.size ∧ w.heap.size < w1.heap.size) := by omega
      exact (((ho.mono (S' := fun x => L i ≤ x ∧ x < w1.heap.size) (fun x hx => ⟨by omega, hx.2⟩)).setCell ⟨w.heap.size, i * 3, none⟩ hn _).setCell ⟨w.heap.size, i * 3 + 1, none⟩ hn _).setCell ⟨w.heap.size, i * 3 + 2, none⟩ hn _
    · simp only [show i ≤ k by omega, show i + 1 ≤ k by omega, if_true, e, if_false]
      have h6 := hle (i + 1) k (by omega) (Nat.le_refl _)
      have hn : ¬ (L i ≤ w.heap.size ∧ w.heap.size < L (i + 1)) := by omega
      have o := (h.kid i hi (by omega)).frame (w' := w1) (fun x hx => hb.block x (by omega)) hb.size
      exact ((o.setCell ⟨w.heap.size, k * 3, none⟩ hn _).setCell ⟨w.heap.size, k * 3 + 1, none⟩ hn _).setCell ⟨w.heap.size, k * 3 + 2, none⟩ hn _
  · have hB := h.below.trans (hb.mono h.below.size)
    exact ((hB.setCell (p := ⟨w.heap.size, k * 3, none⟩) (Nat.le_refl _) _).setCell (p := ⟨w.heap.size, k * 3 + 1, none⟩) (Nat.le_refl _) _).setCell (p := ⟨w.heap.size, k * 3 + 2, none⟩) (Nat.le_refl _) _

set_option maxHeartbeats 1600000 in
theorem toTermS_any (N : Nat) : ∀ (ts : List TermD) (a : Option Addr) (c hi : Nat) (w : World), partsL ts ≤ N → N ≤ 549755813888 → RdK w hi a ts → hi ≤ w.heap.size →
    Calls Try.prog 47 #[.slice a ts.length c] w fun e w' => e = .returned (.slice (some ⟨w.heap.size, 0, none⟩) ts.length ts.length) ∧ OwnS w' (fun x => w.heap.size ≤ x ∧ x < w'.heap.size) (some ⟨w.heap.size, 0, none⟩) ts ∧ Below w.heap.size w w' := by
  obtain ⟨i0, hi0, hz0, hz1, hz2⟩ := info_parts info29
  induction N with
  | zero =>
    intro ts a c hi w hN hM hr hhi
    have h1 := partsL_len ts
    have : ts = [] := List.length_eq_zero_iff.1 (by omega)
    subst this
    go_enter Try.func47, Try.ntmps47
    go_wp2_with (first
      | (at_make; refine wpList_make_full _ rfl _ _ 30 rfl w.heap.size 32 i0 _ 3 Try.underlying30 hi0 hz0 hz1 _ _ _ _ 0 rfl rfl rfl rfl (by omega) (by unfold maxLen; omega) (Nat.le_refl _) ?_; intro w1 hown hgrow))
    refine wp_loop_rounds 1 ?_
    rw [rounds_succ]
    go_wp2_with fail
    go_ret
    exact ⟨rfl, .nil _ _, (Below.refl _ _).grown hgrow (Nat.le_refl _) (by simp)⟩
  | succ N ih =>
    intro ts a c hi w hN hM hr hhi
    have hlen := partsL_len ts
    have HZ : Hid (∀ i, (h : i < ts.length) → isW ts[i].f ∧ isW ts[i].v) := fun i h => hr.ints h
    have HR : Hid (RdK w hi a ts) := hr
    clear hr
    go_enter Try.func47, Try.ntmps47
    go_wp2_with (first
      | (at_make; refine wpList_make_full _ rfl _ _ 30 rfl w.heap.size 32 i0 _ 3 Try.underlying30 hi0 hz0 hz1 _ _ _ _ ts.length rfl rfl rfl rfl (by rw [hz2]; omega) (by unfold maxLen; omega) (Nat.le_refl _) ?_; intro w1 hown hgrow))
    have hlt1 : w.heap.size < w1.heap.size := (hown.lt _ rfl).2
    have S0 : CopySt w w1 ts 0 (fun _ => none) (fun _ => w1.heap.size) := ⟨by rw [laidTo_zero, ← cs3_made]; exact hown, hlt1, fun i hi => absurd hi (by omega), Nat.le_refl _, fun i _ hi => absurd hi (by omega), (Below.refl _ _).grown hgrow (Nat.le_refl _) (by simp)⟩
    clear hown hgrow hlt1
    go_loopw [4] (fun i wr => ∃ (k : Nat) (A : Nat → Option Addr) (L : Nat → Nat), k ≤ ts.length ∧ i = .int .i64 k ∧ CopySt w wr ts k A L) (fun i _ => ts.length - (intOf i).toNat)
    case atStart => exact ⟨0, _, _, Nat.zero_le _, rfl, S0⟩
    case round =>
      obtain ⟨k, A, L, hk, rfl, S⟩ := hrel
      clear S0
      by_cases hk' : k < ts.length
      · obtain ⟨b, off, a', c', rfl, hlt, d0, d1, d2, hkr⟩ := RdK.kid (HR.out.on (S.below.mono hhi)) hk'
        have hpg := partsL_get hk'
        have hpt := partsT_eq ts[k]
        have hki : (k : Int) < (ts.length : Int) := by omega
        have hwr := Nat.le_trans hhi S.below.size
        have T := toTerm_of ts[k] a' c' wr (fun w' h => ih ts[k].kids a' c' hi w' (by omega) (by omega) (hkr.on (h.mono hwr)) (Nat.le_trans hwr h.size))
        have hlen2 := laidTo_len ts A k
        have hkl : k < (laidTo ts A k).length := by rw [hlen2]; exact hk'
        clear hkr hpt
        go_wp2_with (go_at_call 14; refine T.mono ?_; rintro e w2 ⟨a2, rfl, ho, hb⟩; clear T; have S1 := S.step hk' ho hb; have hown2 := own_on S.row hb; obtain ⟨e0, e1, e2⟩ := cs3_cells hlen2.symm hkl hown2; have f0 := hown2.frozenAt (k * 3); have f1 := hown2.frozenAt (k * 3 + 1); have f2 := hown2.frozenAt (k * 3 + 2); clear hown2 S ho hb d0 d1 d2 hlen2)
        go_roundw
        case rel => exact ⟨k + 1, _, _, by omega, by go_num, S1⟩
        case measure => simp [intOf]; omega
      · have e : k = ts.length := by omega
        have S1 : CopySt w wr ts ts.length A L := e ▸ S
        clear e S
        go_wp2_with fail
        go_ret
        exact ⟨rfl, S1.done (by omega) HZ.out, S1.below⟩

theorem toTerm_any (t : TermD) (a : Option Addr) (c hi : Nat) (w : World) (hp : partsT t ≤ 549755813888) (hr : RdK w hi a t.kids) (hhi : hi ≤ w.heap.size) :
    Calls Try.prog 14 #[.agg #[.int .i64 t.f, .int .i64 t.v, .slice a t.kids.length c]] w fun e w' => ∃ a', e = .returned (.agg #[.int .i64 t.f, .int .i64 t.v, .slice a' t.kids.length t.kids.length]) ∧ OwnS w' (fun x => w.heap.size ≤ x ∧ x < w'.heap.size) a' t.kids ∧ Below w.heap.size w w' :=
  toTerm_of t a c w (fun w' h => toTermS_any (partsL t.kids) t.kids a c hi w' (Nat.le_refl _) (by rw [partsT_eq] at hp; omega) (hr.on (h.mono hhi)) (Nat.le_trans hhi h.size))
end Go.Proofs.Ytcbafmohmoicnab

/- Contracts of the laws' comparison of terms, where both read as the same. Conditions: terms of at most 549755813888 parts. -/
namespace Go.Proofs.Ytcbafmohmoicnab
set_option maxRecDepth 100000
open Go.RowKit

set_option maxHeartbeats 1600000 in
theorem eqTerm_of (t : TermD) (a a' : Option Addr) (c c' : Nat) (w : World)
    (H : ∀ w', Below w.heap.size w w' → Calls Try.prog 49 #[.slice a t.kids.length c, .slice a' t.kids.length c'] w' fun e w'' => e = .returned (.bool true) ∧ Below w'.heap.size w' w'') :
    Calls Try.prog 16 #[.agg #[.int .i64 t.f, .int .i64 t.v, .slice a t.kids.length c], .agg #[.int .i64 t.f, .int .i64 t.v, .slice a' t.kids.length c']] w fun e w' => e = .returned (.bool true) ∧ Below w.heap.size w w' := by
  generalize t.kids = ks at *
  have h0 : Below w.heap.size w ((w.alloc (.cells #[.int .i64 t.f, .int .i64 t.v, .slice a ks.length c] 32)).alloc (.cells #[.int .i64 t.f, .int .i64 t.v, .slice a' ks.length c'] 32)) := ((Below.refl _ _).alloc (Nat.le_refl _) _).alloc (by simp) _
  have H1 := H _ h0
  clear H
  go_enter Try.func16, Try.ntmps16
  go_wp2_with (go_at_call 49; refine H1.mono ?_; rintro e w1 ⟨rfl, hb1⟩; clear H1)
  go_ret
  exact ⟨rfl, h0.trans (hb1.mono h0.size)⟩

set_option maxHeartbeats 1600000 in
theorem eqTermS_same (N : Nat) : ∀ (ts : List TermD) (a a' : Option Addr) (c c' hi : Nat) (w : World), partsL ts ≤ N → N ≤ 549755813888 → RdK w hi a ts → RdK w hi a' ts → hi ≤ w.heap.size →
    Calls Try.prog 49 #[.slice a ts.length c, .slice a' ts.length c'] w fun e w' => e = .returned (.bool true) ∧ Below w.heap.size w w' := by
  induction N with
  | zero =>
    intro ts a a' c c' hi w hN hM hr hr' hhi
    have h1 := partsL_len ts
    have : ts = [] := List.length_eq_zero_iff.1 (by omega)
    subst this
    go_enter Try.func49, Try.ntmps49
    go_wp2_with fail
    refine wp_loop_rounds 1 ?_
    rw [rounds_succ]
    go_wp2_with fail
    go_ret
    exact ⟨rfl, Below.refl _ _⟩
  | succ N ih =>
    intro ts a a' c c' hi w hN hM hr hr' hhi
    have hlen := partsL_len ts
    have HR : Hid (RdK w hi a ts) := hr
    have HR' : Hid (RdK w hi a' ts) := hr'
    clear hr hr'
    go_enter Try.func49, Try.ntmps49
    go_wp2_with fail
    go_loopw [5] (fun i wr => ∃ k : Nat, k ≤ ts.length ∧ i = .int .i64 k ∧ Below w.heap.size w wr) (fun i _ => ts.length - (intOf i).toNat)
    case atStart => exact ⟨0, Nat.zero_le _, rfl, Below.refl _ _⟩
    case round =>
      obtain ⟨k, hk, rfl, hbr⟩ := hrel
      by_cases hk' : k < ts.length
      · obtain ⟨b, off, e1, c1, rfl, hlt, d0, d1, d2, hkr⟩ := RdK.kid (HR.out.on (hbr.mono hhi)) hk'
        obtain ⟨b', off', e2, c2, rfl, hlt', g0, g1, g2, hkr'⟩ := RdK.kid (HR'.out.on (hbr.mono hhi)) hk'
        have hpg := partsL_get hk'
        have hpt := partsT_eq ts[k]
        have hki : (k : Int) < (ts.length : Int) := by omega
        have hwr := Nat.le_trans hhi hbr.size
        have I := fun (w' : World) (h : Below wr.heap.size wr w') => eqTerm_of ts[k] e1 e2 c1 c2 w' (fun w'' h' => ih ts[k].kids e1 e2 c1 c2 hi w'' (by omega) (by omega) (hkr.on ((h.trans (h'.mono h.size)).mono hwr)) (hkr'.on ((h.trans (h'.mono h.size)).mono hwr)) (Nat.le_trans hwr (Nat.le_trans h.size h'.size)))
        clear HR HR' hkr hkr' hpt
        go_wp2_with fail
        go_region_held3 (fun w' => w'.cell? ⟨b, off + k * 3, none⟩ = some (.int .i64 ts[k].f) ∧ w'.cell? ⟨b, off + k * 3 + 1, none⟩ = some (.int .i64 ts[k].v) ∧ w'.cell? ⟨b, off + k * 3 + 2, none⟩ = some (.slice e1 ts[k].kids.length c1) ∧ w'.cell? ⟨b', off' + k * 3, none⟩ = some (.int .i64 ts[k].f) ∧ w'.cell? ⟨b', off' + k * 3 + 1, none⟩ = some (.int .i64 ts[k].v) ∧ w'.cell? ⟨b', off' + k * 3 + 2, none⟩ = some (.slice e2 ts[k].kids.length c2)) (first | go_keep | exact ⟨keepC hbb d0, keepC hbb d1, keepC hbb d2, keepC hbb g0, keepC hbb g1, keepC hbb g2⟩)
          (first | (go_at_call 16; refine (I _ ?_).mono ?_; exact (Below.refl _ _).drew; rintro e w1 ⟨rfl, hb1⟩; have hbb : Below wr.heap.size wr w1 := (Below.refl _ _).drew.trans hb1; clear hb1))
        go_wp2_with fail
        go_roundw
        case rel => exact ⟨k + 1, by omega, by go_num, hbr.trans (hbb.mono hbr.size)⟩
        case measure => simp [intOf]; omega
      · go_wp2_with fail
        go_ret
        exact ⟨rfl, hbr⟩

theorem eqTerm_same (t : TermD) (a a' : Option Addr) (c c' hi : Nat) (w : World) (hp : partsT t ≤ 549755813888) (hr : RdK w hi a t.kids) (hr' : RdK w hi a' t.kids) (hhi : hi ≤ w.heap.size) :
    Calls Try.prog 16 #[.agg #[.int .i64 t.f, .int .i64 t.v, .slice a t.kids.length c], .agg #[.int .i64 t.f, .int .i64 t.v, .slice a' t.kids.length c']] w fun e w' => e = .returned (.bool true) ∧ Below w.heap.size w w' :=
  eqTerm_of t a a' c c' w (fun w' h => eqTermS_same (partsL t.kids) t.kids a a' c c' hi w' (Nat.le_refl _) (by rw [partsT_eq] at hp; omega) (hr.on (h.mono hhi)) (hr'.on (h.mono hhi)) (Nat.le_trans hhi h.size))
end Go.Proofs.Ytcbafmohmoicnab

/- What a sort by a comparison of one's own needs: the comparison may lay blocks; what holds between two steps is a relation of one's own. sort.insertionSort_func. Conditions: rows of less than 2^62 elements. -/
namespace Go.Proofs.Ytcbafmohmoicnab
set_option maxRecDepth 100000
open Go.RowKit Go.Sort

variable {α : Type} [Inhabited α]

/-- The row holds d in W, as I says. The comparison (function g, bound to lb) tells lt of what the row holds and leaves all that was there as it was, the row's block alone is not promised; the swap (sf, bound to sb) turns the row alone. -/
structure SEnv (g : Nat) (lb : Array Value) (sf : Nat) (sb : Array Value) (lt : α → α → Bool) (n blk base : Nat) (I : Array α → World → Prop) : Prop where
  eg : ∀ args w, (callFunc g args).run Try.prog w = .ok (.enter g args) w
  less : ∀ (d : Array α) (W : World) (i j : Nat), I d W → i < n → j < n → Calls Try.prog g (#[.int .i64 i, .int .i64 j] ++ lb) W fun e W' => e = .returned (.bool (lt d[i]! d[j]!)) ∧ I d W' ∧ Stay (fun k => k ≠ blk) W W'
  swap : ∀ (d : Array α) (W : World) (i j : Nat), I d W → i < n → j < n → ∃ W', (callFunc sf (#[.int .i64 i, .int .i64 j] ++ sb)).run Try.prog W = .ok (.value (.tuple #[])) W' ∧ I (swp d i j) W' ∧ Stay (fun k => k ≠ blk) W W'
  on : ∀ (d : Array α) (W W' : World), I d W → Below W.heap.size W W' → I d W'
  set : ∀ (d : Array α) (W : World) (p : Addr) (v : Value), I d W → base ≤ p.block → I d (W.setCell p v)
  lt : ∀ (d : Array α) (W : World), I d W → base ≤ W.heap.size
  bb : blk < base
  size : ∀ (d : Array α) (W : World), I d W → d.size = n
  big : n < 4611686018427387904

/-- While a function of the sort runs: its parameter lies in a block of its own. -/
structure SSt (blk : Nat) (I : Array α → World → Prop) (w : World) (B : Nat) (g : Nat) (lb : Array Value) (sf : Nat) (sb : Array Value) (d : Array α) (wr : World) : Prop where
  i : I d wr
  c0 : wr.cell? ⟨B, 0, none⟩ = some (.func (.func g) #[] lb)
  c1 : wr.cell? ⟨B, 1, none⟩ = some (.func (.func sf) #[] sb)
  st : Stay (fun k => k ≠ blk) w wr
omit [Inhabited α] in
theorem SSt.step {blk : Nat} {I : Array α → World → Prop} {w : World} {B g : Nat} {lb : Array Value} {sf : Nat} {sb : Array Value} {d d' : Array α} {wr wr' : World} (h : SSt blk I w B g lb sf sb d wr) (hB : B ≠ blk) (hi : I d' wr') (hs : Stay (fun k => k ≠ blk) wr wr') : SSt blk I w B g lb sf sb d' wr' :=
  ⟨hi, hs.cell h.c0 hB, hs.cell h.c1 hB, h.st.trans hs⟩
theorem SSt.start {blk : Nat} {I : Array α → World → Prop} {w : World} {g : Nat} {lb : Array Value} {sf : Nat} {sb : Array Value} {lt : α → α → Bool} {n base : Nat} (E : SEnv g lb sf sb lt n blk base I) {d : Array α} (hi : I d w) (T : TypeId) :
    SSt blk I w w.heap.size g lb sf sb d (w.alloc (.cells #[.func (.func g) #[] lb, .func (.func sf) #[] sb] T)) :=
  ⟨E.on _ _ _ hi ((Below.refl _ _).alloc (Nat.le_refl _) _), by simp, by simp, .alloc _ _ _⟩

set_option maxHeartbeats 2000000 in
theorem insertion_any {g : Nat} {lb : Array Value} {sf : Nat} {sb : Array Value} {lt : α → α → Bool} {n blk base : Nat} {I : Array α → World → Prop} (E : SEnv g lb sf sb lt n blk base I) (a b : Nat) (d : Array α) (w : World) (h : I d w) (hab : a ≤ b) (hb : b ≤ n) :
    Calls Try.prog 119 #[.agg #[.func (.func g) #[] lb, .func (.func sf) #[] sb], .int .i64 a, .int .i64 b] w fun e w' => e = .returned (.tuple #[]) ∧ I (Sort.insertionSort lt d a b) w' ∧ Stay (fun k => k ≠ blk) w w' := by
  have eg := E.eg
  have hbig := E.big
  have HB : Hid (w.heap.size ≠ blk) := by have := E.lt _ _ h; have := E.bb; show _ ≠ _; omega
  have HE : Hid (SEnv g lb sf sb lt n blk base I) := E
  have S0 := SSt.start E h 157
  clear E h
  go_enter Try.func119, Try.ntmps119
  go_wp2
  go_loopw [6] (fun vi wr => ∃ (i : Nat) (dk : Array α), vi = .int .i64 i ∧ a < i ∧ i ≤ b + 1 ∧ SSt blk I w w.heap.size g lb sf sb dk wr ∧ Hid (insOuter lt a b i dk = insOuter lt a b (a + 1) d)) (fun vi _ => b + 1 - (intOf vi).toNat)
  case atStart => exact ⟨a + 1, d, by go_num, by omega, by omega, S0, rfl⟩
  case round =>
    obtain ⟨i, dk, rfl, hai, hib, S, HO⟩ := hrel
    clear S0
    go_wp2
    · go_loopw [7] (fun vj wr2 => ∃ (j : Nat) (dj : Array α), vj = .int .i64 j ∧ a ≤ j ∧ j ≤ i ∧ SSt blk I w w.heap.size g lb sf sb dj wr2 ∧ Hid (insInner lt a j dj = insInner lt a i dk)) (fun vj _ => (intOf vj).toNat)
      case atStart => exact ⟨i, dk, rfl, by omega, Nat.le_refl _, S, rfl⟩
      case round =>
        obtain ⟨j, dj, rfl, haj, hji, S2, HI⟩ := hrel
        have hlt : i < b := by assumption
        clear S
        have c0 := S2.c0
        have c1 := S2.c1
        by_cases hja : a < j
        · have hl := HE.out.less dj wr j (j - 1) S2.i (by omega) (by omega)
          rw [show (((j - 1 : Nat) : Int)) = (j : Int) - 1 by omega] at hl
          cases hlv : lt dj[j]! dj[j - 1]! with
          | true =>
            rw [hlv] at hl
            have HI2 : Hid (insInner lt a (j - 1) (swp dj j (j - 1)) = insInner lt a i dk) := by show _ = _; rw [← HI.out, insInner_go lt a j dj hja hlv]
            go_wp2_with (go_at_fn g; refine hl.mono ?_; rintro e w' ⟨rfl, hI', hS'⟩; have c1' := hS'.cell c1 HB.out; clear c0 c1)
            obtain ⟨W', hrun, hI2, hS2⟩ := HE.out.swap dj w' j (j - 1) hI' (by omega) (by omega)
            rw [show (((j - 1 : Nat) : Int)) = (j : Int) - 1 by omega] at hrun
            rw [hrun, Oper.upon_value]
            have S3 := (S2.step HB.out hI' hS').step HB.out hI2 hS2
            clear hrun hl
            go_wp2
            go_roundw
            case rel =>
              (repeat apply Exists.intro)
              exact ⟨⟨j - 1, swp dj j (j - 1), by congr 1 <;> omega, by omega, by omega, S3, HI2⟩, by rw [decide_eq_true hlt, show ((j - 1 : Nat) : Int) = (j : Int) - 1 by omega]⟩
            case measure => simp [intOf]; omega
          | false =>
            rw [hlv] at hl
            have HO2 : Hid (insOuter lt a b (i + 1) dj = insOuter lt a b (a + 1) d) := by show _ = _; rw [← HO.out, insOuter_go _ _ _ _ _ hlt, ← HI.out, insInner_stop _ _ _ _ (Or.inr hlv)]
            go_wp2_with (go_at_fn g; refine hl.mono ?_; rintro e w' ⟨rfl, hI', hS'⟩; clear c0 c1)
            have S3 := S2.step HB.out hI' hS'
            go_roundw
            case rel => exact ⟨i + 1, dj, by go_num, by omega, by omega, S3, HO2⟩
            case measure => simp [intOf]; omega
        · have HO2 : Hid (insOuter lt a b (i + 1) dj = insOuter lt a b (a + 1) d) := by show _ = _; rw [← HO.out, insOuter_go _ _ _ _ _ hlt, ← HI.out, insInner_stop _ _ _ _ (Or.inl (by omega))]
          go_wp2
          go_roundw
          case rel => exact ⟨i + 1, dj, by go_num, by omega, by omega, S2, HO2⟩
          case measure => simp [intOf]; omega
    · have hge : ¬ i < b := by assumption
      go_end0
      exact ⟨rfl, by unfold Sort.insertionSort; rw [← HO.out, insOuter_stop _ _ _ _ _ hge]; exact S.i, S.st⟩
end Go.Proofs.Ytcbafmohmoicnab

/- sort.siftDown_func, by a comparison that may lay blocks. Conditions: rows of less than 2^62 elements. -/
namespace Go.Proofs.Ytcbafmohmoicnab
set_option maxRecDepth 100000
open Go.RowKit Go.Sort

variable {α : Type} [Inhabited α]
variable {g : Nat} {lb : Array Value} {sf : Nat} {sb : Array Value} {lt : α → α → Bool} {n blk base : Nat} {I : Array α → World → Prop}

/-- The comparison, the places as the walk has them. -/
theorem SEnv.lessI (E : SEnv g lb sf sb lt n blk base I) (d : Array α) (W : World) (i j : Nat) (x y : Int) (hx : x = i) (hy : y = j) (h : I d W) (hi : i < n) (hj : j < n) :
    Calls Try.prog g (#[.int .i64 x, .int .i64 y] ++ lb) W fun e W' => e = .returned (.bool (lt d[i]! d[j]!)) ∧ I d W' ∧ Stay (fun k => k ≠ blk) W W' := by
  subst hx hy
  exact E.less d W i j h hi hj
/-- The same, what it tells known. -/
theorem SEnv.lessV (E : SEnv g lb sf sb lt n blk base I) (d : Array α) (i j : Nat) (x y : Int) (v : Bool) (hv : lt d[i]! d[j]! = v) (hx : x = i) (hy : y = j) (hi : i < n) (hj : j < n) (W : World) (h : I d W) :
    Calls Try.prog g (#[.int .i64 x, .int .i64 y] ++ lb) W fun e W' => e = .returned (.bool v) ∧ I d W' ∧ Stay (fun k => k ≠ blk) W W' := by
  subst hv
  exact E.lessI d W i j x y hx hy h hi hj
theorem SEnv.swapI (E : SEnv g lb sf sb lt n blk base I) (d : Array α) (W : World) (i j : Nat) (x y : Int) (hx : x = i) (hy : y = j) (h : I d W) (hi : i < n) (hj : j < n) :
    ∃ W', (callFunc sf (#[.int .i64 x, .int .i64 y] ++ sb)).run Try.prog W = .ok (.value (.tuple #[])) W' ∧ I (swp d i j) W' ∧ Stay (fun k => k ≠ blk) W W' := by
  subst hx hy
  exact E.swap d W i j h hi hj

set_option maxHeartbeats 4000000 in
theorem siftDown_any (E : SEnv g lb sf sb lt n blk base I) (lo hi first : Nat) (d : Array α) (w : World) (h : I d w) (hlo : lo ≤ hi) (hb : first + hi ≤ n) :
    Calls Try.prog 128 #[.agg #[.func (.func g) #[] lb, .func (.func sf) #[] sb], .int .i64 lo, .int .i64 hi, .int .i64 first] w fun e w' => e = .returned (.tuple #[]) ∧ I (siftDown lt hi first lo d) w' ∧ Stay (fun k => k ≠ blk) w w' := by
  have eg := E.eg
  have hbig := E.big
  have HB : Hid (w.heap.size ≠ blk) := by have := E.lt _ _ h; have := E.bb; show _ ≠ _; omega
  have HE : Hid (SEnv g lb sf sb lt n blk base I) := E
  have S0 := SSt.start E h 157
  clear E h
  go_enter Try.func128, Try.ntmps128
  go_wp2
  go_loopw [8] (fun v wr => ∃ (root : Nat) (dk : Array α), v = .int .i64 root ∧ root ≤ hi ∧ SSt blk I w w.heap.size g lb sf sb dk wr ∧ Hid (siftDown lt hi first root dk = siftDown lt hi first lo d)) (fun v _ => hi - (intOf v).toNat)
  case atStart => exact ⟨lo, d, rfl, hlo, S0, rfl⟩
  case round =>
    obtain ⟨root, dk, rfl, hr, S, HK⟩ := hrel
    clear S0
    have c0 := S.c0
    have c1 := S.c1
    by_cases h0 : hi ≤ 2 * root + 1
    · have h0z : (hi : Int) ≤ 2 * (root : Int) + 1 := by omega
      go_wp2
      go_end0
      exact ⟨rfl, by rw [← HK.out, sd_end lt dk h0]; exact S.i, S.st⟩
    · have h0z : ¬ ((hi : Int) ≤ 2 * (root : Int) + 1) := by omega
      by_cases h1 : 2 * root + 2 < hi
      · have h1z : 2 * (root : Int) + 1 + 1 < (hi : Int) := by omega
        cases hL : lt dk[first + (2 * root + 1)]! dk[first + (2 * root + 2)]! with
        | true =>
          have hl1 := HE.out.lessV dk (first + (2 * root + 1)) (first + (2 * root + 2)) ((first : Int) + (2 * (root : Int) + 1)) ((first : Int) + (2 * (root : Int) + 1) + 1) true hL (by omega) (by omega) (by omega) (by omega)
          cases hG : lt dk[first + root]! dk[first + (2 * root + 2)]! with
          | true =>
            have hl2 := HE.out.lessV dk (first + root) (first + (2 * root + 2)) ((first : Int) + (root : Int)) ((first : Int) + (2 * (root : Int) + 1 + 1)) true hG (by omega) (by omega) (by omega) (by omega)
            have HN : Hid (siftDown lt hi first (2 * root + 2) (swp dk (first + root) (first + (2 * root + 2))) = siftDown lt hi first lo d) := by show _ = _; rw [← HK.out, sd_right_go lt dk h1 hL hG]
            go_wp2_with (first
              | (go_at_fn g; refine (hl1 _ S.i).mono ?_; rintro e w2 ⟨rfl, hI2, hS2⟩; have S2 := S.step HB.out hI2 hS2; clear c0 c1 hl1; have c0 := S2.c0; have c1 := S2.c1)
              | (go_at_fn g; refine (hl2 _ S2.i).mono ?_; rintro e w3 ⟨rfl, hI3, hS3⟩; have S3 := S2.step HB.out hI3 hS3; have k0 := S3.c0; have k1 := S3.c1; obtain ⟨W4, hrun, hI4, hS4⟩ := HE.out.swapI dk w3 (first + root) (first + (2 * root + 2)) ((first : Int) + (root : Int)) ((first : Int) + (2 * (root : Int) + 1 + 1)) (by omega) (by omega) S3.i (by omega) (by omega); have S4 := S3.step HB.out hI4 hS4; clear hl2))
            go_roundw
            case rel => exact ⟨2 * root + 2, swp dk (first + root) (first + (2 * root + 2)), by go_num, by omega, S4, HN⟩
            case measure => simp [intOf]; omega
          | false =>
            have hl2 := HE.out.lessV dk (first + root) (first + (2 * root + 2)) ((first : Int) + (root : Int)) ((first : Int) + (2 * (root : Int) + 1 + 1)) false hG (by omega) (by omega) (by omega) (by omega)
            have HN : Hid (dk = siftDown lt hi first lo d) := by show _ = _; rw [← HK.out, sd_right_stop lt dk h1 hL hG]
            go_wp2_with (first
              | (go_at_fn g; refine (hl1 _ S.i).mono ?_; rintro e w2 ⟨rfl, hI2, hS2⟩; have S2 := S.step HB.out hI2 hS2; clear c0 c1 hl1; have c0 := S2.c0; have c1 := S2.c1)
              | (go_at_fn g; refine (hl2 _ S2.i).mono ?_; rintro e w3 ⟨rfl, hI3, hS3⟩; have S3 := S2.step HB.out hI3 hS3; have k0 := S3.c0; have k1 := S3.c1; clear hl2))
            refine bodyPost_ret (results_none rfl _ _ _) rfl ?_
            exact ⟨rfl, by rw [← HN.out]; exact S3.i, S3.st⟩
        | false =>
          have hl1 := HE.out.lessV dk (first + (2 * root + 1)) (first + (2 * root + 2)) ((first : Int) + (2 * (root : Int) + 1)) ((first : Int) + (2 * (root : Int) + 1) + 1) false hL (by omega) (by omega) (by omega) (by omega)
          cases hG : lt dk[first + root]! dk[first + (2 * root + 1)]! with
          | true =>
            have hl2 := HE.out.lessV dk (first + root) (first + (2 * root + 1)) ((first : Int) + (root : Int)) ((first : Int) + (2 * (root : Int) + 1)) true hG (by omega) (by omega) (by omega) (by omega)
            have HN : Hid (siftDown lt hi first (2 * root + 1) (swp dk (first + root) (first + (2 * root + 1))) = siftDown lt hi first lo d) := by show _ = _; rw [← HK.out, sd_left_go lt dk (by omega) (fun _ => hL) hG]
            go_wp2_with (first
              | (go_at_fn g; refine (hl1 _ S.i).mono ?_; rintro e w2 ⟨rfl, hI2, hS2⟩; have S2 := S.step HB.out hI2 hS2; clear c0 c1 hl1; have c0 := S2.c0; have c1 := S2.c1)
              | (go_at_fn g; refine (hl2 _ S2.i).mono ?_; rintro e w3 ⟨rfl, hI3, hS3⟩; have S3 := S2.step HB.out hI3 hS3; have k0 := S3.c0; have k1 := S3.c1; obtain ⟨W4, hrun, hI4, hS4⟩ := HE.out.swapI dk w3 (first + root) (first + (2 * root + 1)) ((first : Int) + (root : Int)) ((first : Int) + (2 * (root : Int) + 1)) (by omega) (by omega) S3.i (by omega) (by omega); have S4 := S3.step HB.out hI4 hS4; clear hl2))
            go_roundw
            case rel => exact ⟨2 * root + 1, swp dk (first + root) (first + (2 * root + 1)), by go_num, by omega, S4, HN⟩
            case measure => simp [intOf]; omega
          | false =>
            have hl2 := HE.out.lessV dk (first + root) (first + (2 * root + 1)) ((first : Int) + (root : Int)) ((first : Int) + (2 * (root : Int) + 1)) false hG (by omega) (by omega) (by omega) (by omega)
            have HN : Hid (dk = siftDown lt hi first lo d) := by show _ = _; rw [← HK.out, sd_left_stop lt dk (by omega) (fun _ => hL) hG]
            go_wp2_with (first
              | (go_at_fn g; refine (hl1 _ S.i).mono ?_; rintro e w2 ⟨rfl, hI2, hS2⟩; have S2 := S.step HB.out hI2 hS2; clear c0 c1 hl1; have c0 := S2.c0; have c1 := S2.c1)
              | (go_at_fn g; refine (hl2 _ S2.i).mono ?_; rintro e w3 ⟨rfl, hI3, hS3⟩; have S3 := S2.step HB.out hI3 hS3; have k0 := S3.c0; have k1 := S3.c1; clear hl2))
            refine bodyPost_ret (results_none rfl _ _ _) rfl ?_
            exact ⟨rfl, by rw [← HN.out]; exact S3.i, S3.st⟩
      · have h1z : ¬ (2 * (root : Int) + 1 + 1 < (hi : Int)) := by omega
        cases hG : lt dk[first + root]! dk[first + (2 * root + 1)]! with
        | true =>
          have hl2 := HE.out.lessV dk (first + root) (first + (2 * root + 1)) ((first : Int) + (root : Int)) ((first : Int) + (2 * (root : Int) + 1)) true hG (by omega) (by omega) (by omega) (by omega)
          have HN : Hid (siftDown lt hi first (2 * root + 1) (swp dk (first + root) (first + (2 * root + 1))) = siftDown lt hi first lo d) := by show _ = _; rw [← HK.out, sd_left_go lt dk (by omega) (fun h => absurd h h1) hG]
          go_wp2_with (go_at_fn g; refine (hl2 _ S.i).mono ?_; rintro e w3 ⟨rfl, hI3, hS3⟩; have S3 := S.step HB.out hI3 hS3; have k0 := S3.c0; have k1 := S3.c1; obtain ⟨W4, hrun, hI4, hS4⟩ := HE.out.swapI dk w3 (first + root) (first + (2 * root + 1)) ((first : Int) + (root : Int)) ((first : Int) + (2 * (root : Int) + 1)) (by omega) (by omega) S3.i (by omega) (by omega); have S4 := S3.step HB.out hI4 hS4; clear hl2)
          go_roundw
          case rel => exact ⟨2 * root + 1, swp dk (first + root) (first + (2 * root + 1)), by go_num, by omega, S4, HN⟩
          case measure => simp [intOf]; omega
        | false =>
          have hl2 := HE.out.lessV dk (first + root) (first + (2 * root + 1)) ((first : Int) + (root : Int)) ((first : Int) + (2 * (root : Int) + 1)) false hG (by omega) (by omega) (by omega) (by omega)
          have HN : Hid (dk = siftDown lt hi first lo d) := by show _ = _; rw [← HK.out, sd_left_stop lt dk (by omega) (fun h => absurd h h1) hG]
          go_wp2_with (go_at_fn g; refine (hl2 _ S.i).mono ?_; rintro e w3 ⟨rfl, hI3, hS3⟩; have S3 := S.step HB.out hI3 hS3; have k0 := S3.c0; have k1 := S3.c1; clear hl2)
          refine bodyPost_ret (results_none rfl _ _ _) rfl ?_
          exact ⟨rfl, by rw [← HN.out]; exact S3.i, S3.st⟩
end Go.Proofs.Ytcbafmohmoicnab

/- sort.heapSort_func, sort.reverseRange_func, by a comparison that may lay blocks. Conditions: rows of less than 2^62 elements. -/
namespace Go.Proofs.Ytcbafmohmoicnab
set_option maxRecDepth 100000
open Go.RowKit Go.Sort

variable {α : Type} [Inhabited α]
variable {g : Nat} {lb : Array Value} {sf : Nat} {sb : Array Value} {lt : α → α → Bool} {n blk base : Nat} {I : Array α → World → Prop}

set_option maxHeartbeats 1000000 in
theorem reverse_any (E : SEnv g lb sf sb lt n blk base I) (a b : Nat) (d : Array α) (w : World) (h : I d w) (hab : a < b) (hb : b ≤ n) :
    Calls Try.prog 123 #[.agg #[.func (.func g) #[] lb, .func (.func sf) #[] sb], .int .i64 a, .int .i64 b] w fun e w' => e = .returned (.tuple #[]) ∧ I (reverseRange d a b) w' ∧ Stay (fun k => k ≠ blk) w w' := by
  have eg := E.eg
  have hbig := E.big
  have HB : Hid (w.heap.size ≠ blk) := by have := E.lt _ _ h; have := E.bb; show _ ≠ _; omega
  have HE : Hid (SEnv g lb sf sb lt n blk base I) := E
  have S0 := SSt.start E h 157
  clear E h
  go_enter Try.func123, Try.ntmps123
  go_wp2
  go_loopw [6, 7] (fun vi vj wr => ∃ (i j : Nat) (dk : Array α), vi = .int .i64 i ∧ vj = .int .i64 j ∧ j < b ∧ i ≤ b ∧ SSt blk I w w.heap.size g lb sf sb dk wr ∧ Hid (reverseLoop i j dk = reverseRange d a b)) (fun vi vj _ => (intOf vj).toNat - (intOf vi).toNat)
  case atStart => exact ⟨a, b - 1, d, rfl, by congr 1; omega, by omega, by omega, S0, rfl⟩
  case round =>
    obtain ⟨i, j, dk, rfl, rfl, hj, hi, S, HK⟩ := hrel
    clear S0
    have c0 := S.c0
    have c1 := S.c1
    by_cases hij : i < j
    · have hijz : (i : Int) < (j : Int) := by omega
      obtain ⟨W4, hrun, hI4, hS4⟩ := HE.out.swapI dk wr i j i j rfl rfl S.i (by omega) (by omega)
      have S4 := S.step HB.out hI4 hS4
      have HN : Hid (reverseLoop (i + 1) (j - 1) (swp dk i j) = reverseRange d a b) := by have := HK.out; rw [reverseLoop, if_pos hij] at this; exact this
      go_wp2
      go_roundw
      case rel => exact ⟨i + 1, j - 1, swp dk i j, by go_num, by congr 1; omega, by omega, by omega, S4, HN⟩
      case measure => simp [intOf] <;> omega
    · have hijz : ¬ (i : Int) < (j : Int) := by omega
      have HN : Hid (dk = reverseRange d a b) := by have := HK.out; rw [reverseLoop, if_neg hij] at this; exact this
      go_wp2
      go_end0
      exact ⟨rfl, by rw [← HN.out]; exact S.i, S.st⟩

set_option maxHeartbeats 1000000 in
theorem heapSort_any (E : SEnv g lb sf sb lt n blk base I) (a b : Nat) (d : Array α) (w : World) (h : I d w) (hab : a < b) (hb : b ≤ n) :
    Calls Try.prog 120 #[.agg #[.func (.func g) #[] lb, .func (.func sf) #[] sb], .int .i64 a, .int .i64 b] w fun e w' => e = .returned (.tuple #[]) ∧ I (heapSort lt d a b) w' ∧ Stay (fun k => k ≠ blk) w w' := by
  have eg := E.eg
  have hbig := E.big
  have HB : Hid (w.heap.size ≠ blk) := by have := E.lt _ _ h; have := E.bb; show _ ≠ _; omega
  have HE : Hid (SEnv g lb sf sb lt n blk base I) := E
  have S0 := SSt.start E h 157
  clear E h
  go_enter Try.func120, Try.ntmps120
  have hdiv : IntKind.i64.wrap ((b : Int) - (a : Int)) = ((b - a : Nat) : Int) := by rw [IntKind.wrap_i64]; omega
  have hcb : (b : Int) - (a : Int) = ((b - a : Nat) : Int) := by omega
  obtain ⟨N, hN⟩ : ∃ N, N = b - a := ⟨_, rfl⟩
  rw [← hN] at hdiv hcb
  have hN1 : 1 ≤ N := by omega
  have hNa : a + N ≤ n := by omega
  have HH : Hid (heapSort lt d a b = heapPop lt a N (heapBuild lt N a ((N - 1) / 2 + 1) d)) := by show _ = _; unfold heapSort; rw [hN]
  have htd : ((N : Int) - 1).tdiv 2 = (((N - 1) / 2 : Nat) : Int) := by rw [show (N : Int) - 1 = ((N - 1 : Nat) : Int) by omega]; rfl
  clear hN
  go_wp2
  go_loopw [9] (fun v wr => ∃ (kx : Nat) (dk : Array α), v = .int .i64 ((kx : Int) - 1) ∧ kx ≤ (N - 1) / 2 + 1 ∧ SSt blk I w w.heap.size g lb sf sb dk wr ∧ Hid (heapBuild lt N a kx dk = heapBuild lt N a ((N - 1) / 2 + 1) d)) (fun v _ => (intOf v + 1).toNat)
  case atStart => exact ⟨(N - 1) / 2 + 1, d, by congr 1; omega, Nat.le_refl _, S0, rfl⟩
  case round =>
    obtain ⟨kx, dk, rfl, hkx, S, HK⟩ := hrel
    clear S0
    have c0 := S.c0
    have c1 := S.c1
    cases kx with
    | zero =>
      have HK2 : Hid (dk = heapBuild lt N a ((N - 1) / 2 + 1) d) := by show _ = _; rw [← HK.out, heapBuild]
      clear HK
      go_wp2
      go_loopw [10] (fun v wr2 => ∃ (kx : Nat) (dj : Array α), v = .int .i64 ((kx : Int) - 1) ∧ kx ≤ N ∧ SSt blk I w w.heap.size g lb sf sb dj wr2 ∧ Hid (heapPop lt a kx dj = heapPop lt a N dk)) (fun v _ => (intOf v + 1).toNat)
      case atStart => exact ⟨N, dk, rfl, Nat.le_refl _, S, rfl⟩
      case round =>
        obtain ⟨kx, dj, rfl, hkx2, S2, HK3⟩ := hrel
        clear S c0 c1
        have c0 := S2.c0
        have c1 := S2.c1
        cases kx with
        | zero =>
          have HF : Hid (dj = heapSort lt d a b) := by show _ = _; rw [HH.out, ← HK2.out, ← HK3.out, heapPop]
          go_wp2
          go_end0
          exact ⟨rfl, by rw [← HF.out]; exact S2.i, S2.st⟩
        | succ kx =>
          simp only [show (((kx + 1 : Nat) : Int) - 1) = (kx : Int) by omega]
          have hz : (0 : Int) ≤ (kx : Int) := by omega
          have hw1 : IntKind.i64.wrap ((a : Int) + (kx : Int)) = (a : Int) + (kx : Int) := by rw [IntKind.wrap_i64]; omega
          obtain ⟨W4, hrun, hI4, hS4⟩ := HE.out.swapI dj wr a (a + kx) a ((a : Int) + (kx : Int)) rfl (by omega) S2.i (by omega) (by omega)
          have S4 := S2.step HB.out hI4 hS4
          have k0 := S4.c0
          have k1 := S4.c1
          have C := siftDown_any HE.out 0 kx a (swp dj a (a + kx)) W4 S4.i (by omega) (by omega)
          have HN : Hid (heapPop lt a kx (siftDown lt kx a 0 (swp dj a (a + kx))) = heapPop lt a N dk) := by show _ = _; rw [← HK3.out, heapPop]
          go_wp2_with (go_at_call 128; refine C.mono ?_; rintro e w5 ⟨rfl, hI5, hS5⟩; have S5 := S4.step HB.out hI5 hS5; clear C)
          go_roundw
          case rel =>
            first
              | exact ⟨kx, _, by first | rfl | (congr 1; omega), by omega, S5, HN⟩
              | ((repeat apply Exists.intro); exact ⟨⟨kx, _, by first | rfl | (congr 1; omega), by omega, S5, HN⟩, rfl⟩)
          case measure => simp [intOf] <;> omega
    | succ kx =>
      simp only [show (((kx + 1 : Nat) : Int) - 1) = (kx : Int) by omega]
      have hz : (0 : Int) ≤ (kx : Int) := by omega
      have C := siftDown_any HE.out kx N a dk wr S.i (by omega) (by omega)
      have HN : Hid (heapBuild lt N a kx (siftDown lt N a kx dk) = heapBuild lt N a ((N - 1) / 2 + 1) d) := by show _ = _; rw [← HK.out, heapBuild]
      go_wp2_with (go_at_call 128; refine C.mono ?_; rintro e w5 ⟨rfl, hI5, hS5⟩; have S5 := S.step HB.out hI5 hS5; clear C)
      go_roundw
      case rel =>
        first
          | exact ⟨kx, _, by first | rfl | (congr 1; omega), by omega, S5, HN⟩
          | ((repeat apply Exists.intro); exact ⟨⟨kx, _, by first | rfl | (congr 1; omega), by omega, S5, HN⟩, rfl⟩)
      case measure => simp [intOf] <;> omega
end Go.Proofs.Ytcbafmohmoicnab

/- sort.order2_func, sort.median_func, sort.medianAdjacent_func, by a comparison that may lay blocks. Conditions: rows of less than 2^62 elements. -/
namespace Go.Proofs.Ytcbafmohmoicnab
set_option maxRecDepth 100000
open Go.RowKit Go.Sort

variable {α : Type} [Inhabited α]
variable {g : Nat} {lb : Array Value} {sf : Nat} {sb : Array Value} {lt : α → α → Bool} {n blk base : Nat} {I : Array α → World → Prop}

/-- The row, and the count of swaps in block P. -/
structure PSt (blk P : Nat) (I : Array α → World → Prop) (w : World) (d : Array α) (s : Nat) (wr : World) : Prop where
  i : I d wr
  c : wr.cell? ⟨P, 0, none⟩ = some (.int .i64 s)
  f : wr.frozen? ⟨P, 0, none⟩ = false
  st : Stay (fun k => k ≠ blk ∧ k ≠ P) w wr
omit [Inhabited α] in
theorem PSt.trans {P : Nat} {w w1 w2 : World} {d : Array α} {s s' : Nat} (h : PSt blk P I w d s w1) (k : PSt blk P I w1 d s' w2) : PSt blk P I w d s' w2 := ⟨k.i, k.c, k.f, h.st.trans k.st⟩

set_option maxHeartbeats 2000000 in
theorem order2_any (E : SEnv g lb sf sb lt n blk base I) (a b P s : Nat) (d : Array α) (w : World) (h : I d w) (ha : a < n) (hb : b < n) (hP : base ≤ P) (hc : w.cell? ⟨P, 0, none⟩ = some (.int .i64 s)) (hf : w.frozen? ⟨P, 0, none⟩ = false) (hs : s ≤ 100) :
    Calls Try.prog 135 #[.agg #[.func (.func g) #[] lb, .func (.func sf) #[] sb], .int .i64 a, .int .i64 b, .pointer (some ⟨P, 0, none⟩)] w fun e w' => e = .returned (.tuple #[.int .i64 (order2 lt d a b s).1, .int .i64 (order2 lt d a b s).2.1]) ∧ PSt blk P I w d (order2 lt d a b s).2.2 w' := by
  have eg := E.eg
  have hbig := E.big
  have hbb := E.bb
  have hlt0 := E.lt _ _ h
  have hPl : P < w.heap.size := World.block_lt_of_cell? _ _ hc
  have HB : Hid (w.heap.size ≠ blk) := by show _ ≠ _; omega
  have HP : Hid (P ≠ blk) := by show _ ≠ _; omega
  have HE : Hid (SEnv g lb sf sb lt n blk base I) := E
  have S0 := SSt.start E h 157
  obtain ⟨W, hW⟩ : ∃ W, W = w.alloc (.cells #[.func (.func g) #[] lb, .func (.func sf) #[] sb] 157) := ⟨_, rfl⟩
  rw [← hW] at S0
  have hbW : Below w.heap.size w W := by rw [hW]; exact (Below.refl _ _).alloc (Nat.le_refl _) _
  have hcW := keepC hbW hc
  have hfW : W.frozen? ⟨P, 0, none⟩ = false := (hbW.frozen (p := ⟨P, 0, none⟩) hPl).trans hf
  have c0 := S0.c0
  have c1 := S0.c1
  clear E h hc hf
  cases hL : lt d[b]! d[a]! with
  | true =>
    have HO : Hid (order2 lt d a b s = (b, a, s + 1)) := by show _ = _; unfold order2; rw [hL]; rfl
    have hl := HE.out.lessV d b a b a true hL rfl rfl hb ha W S0.i
    have hs2 : (s : Int) ≤ 100 := by omega
    clear hL
    rw [HO.out]
    go_enter Try.func135, Try.ntmps135
    go_wp2_with (go_at_fn g; rw [← hW]; refine hl.mono ?_; rintro e w2 ⟨rfl, hI2, hS2⟩; have S2 := S0.step HB.out hI2 hS2; have hc2 := hS2.cell hcW HP.out; have hf2 := (hS2.frozen (p := ⟨P, 0, none⟩) (World.block_lt_of_cell? _ _ hcW) HP.out).trans hfW; clear hl hW hcW hfW c0 c1)
    go_ret2
    refine ⟨rfl, HE.out.set _ _ _ _ hI2 hP, ?_, by rw [World.frozen?_setCell]; exact hf2, (S2.st.weak (fun _ _ hk => hk.1)).trans (.setCell _ _ (fun hk => hk.2 rfl))⟩
    rw [World.cell?_setCell_same _ _ _ hc2]; simp
  | false =>
    have HO : Hid (order2 lt d a b s = (a, b, s)) := by show _ = _; unfold order2; rw [hL]; rfl
    have hl := HE.out.lessV d b a b a false hL rfl rfl hb ha W S0.i
    clear hL
    rw [HO.out]
    go_enter Try.func135, Try.ntmps135
    go_wp2_with (go_at_fn g; rw [← hW]; refine hl.mono ?_; rintro e w2 ⟨rfl, hI2, hS2⟩; have S2 := S0.step HB.out hI2 hS2; have hc2 := hS2.cell hcW HP.out; have hf2 := (hS2.frozen (p := ⟨P, 0, none⟩) (World.block_lt_of_cell? _ _ hcW) HP.out).trans hfW; clear hl hW hcW hfW c0 c1)
    go_ret2
    exact ⟨rfl, hI2, hc2, hf2, S2.st.weak (fun _ _ hk => hk.1)⟩

theorem order2_lt (lt : α → α → Bool) (d : Array α) {a b s m : Nat} (ha : a < m) (hb : b < m) : (order2 lt d a b s).1 < m ∧ (order2 lt d a b s).2.1 < m ∧ (order2 lt d a b s).2.2 ≤ s + 1 := by
  unfold order2
  split <;> simp <;> omega

set_option maxHeartbeats 2000000 in
theorem median_any (E : SEnv g lb sf sb lt n blk base I) (a b c P s : Nat) (d : Array α) (w : World) (h : I d w) (ha : a < n) (hb : b < n) (hc' : c < n) (hP : base ≤ P) (hc : w.cell? ⟨P, 0, none⟩ = some (.int .i64 s)) (hf : w.frozen? ⟨P, 0, none⟩ = false) (hs : s ≤ 90) :
    Calls Try.prog 132 #[.agg #[.func (.func g) #[] lb, .func (.func sf) #[] sb], .int .i64 a, .int .i64 b, .int .i64 c, .pointer (some ⟨P, 0, none⟩)] w fun e w' => e = .returned (.int .i64 (median lt d a b c s).1) ∧ PSt blk P I w d (median lt d a b c s).2 w' := by
  have hPl : P < w.heap.size := World.block_lt_of_cell? _ _ hc
  have HE : Hid (SEnv g lb sf sb lt n blk base I) := E
  obtain ⟨W, hW⟩ : ∃ W, W = w.alloc (.cells #[.func (.func g) #[] lb, .func (.func sf) #[] sb] 157) := ⟨_, rfl⟩
  have hbW : Below w.heap.size w W := by rw [hW]; exact (Below.refl _ _).alloc (Nat.le_refl _) _
  have S0 : PSt blk P I w d s W := ⟨E.on _ _ _ h hbW, keepC hbW hc, (hbW.frozen (p := ⟨P, 0, none⟩) hPl).trans hf, .of_below hbW (fun _ hk _ => hk)⟩
  have b0 : W.cell? ⟨w.heap.size, 0, none⟩ = some (.func (.func g) #[] lb) := by rw [hW]; simp
  have b1 : W.cell? ⟨w.heap.size, 1, none⟩ = some (.func (.func sf) #[] sb) := by rw [hW]; simp
  have HN : Hid (w.heap.size ≠ blk ∧ w.heap.size ≠ P) := by have := E.lt _ _ h; have := E.bb; exact ⟨by omega, by omega⟩
  obtain ⟨x1, y1, s1, e1⟩ : ∃ x1 y1 s1, order2 lt d a b s = (x1, y1, s1) := ⟨_, _, _, rfl⟩
  have q1 := order2_lt lt d (s := s) ha hb
  rw [e1] at q1
  dsimp only at q1
  obtain ⟨x2, y2, s2, e2⟩ : ∃ x2 y2 s2, order2 lt d y1 c s1 = (x2, y2, s2) := ⟨_, _, _, rfl⟩
  have q2 := order2_lt lt d (s := s1) q1.2.1 hc'
  rw [e2] at q2
  dsimp only at q2
  obtain ⟨x3, y3, s3, e3⟩ : ∃ x3 y3 s3, order2 lt d x1 x2 s2 = (x3, y3, s3) := ⟨_, _, _, rfl⟩
  have HM : Hid (median lt d a b c s = (y3, s3)) := by show _ = _; unfold median; simp only [e1, e2, e3]
  have C1 := order2_any E a b P s d W S0.i ha hb hP S0.c S0.f (by omega)
  rw [e1] at C1
  have C2 := fun (W' : World) (S : PSt blk P I w d s1 W') => order2_any HE.out y1 c P s1 d W' S.i q1.2.1 hc' hP S.c S.f (by omega)
  have C3 := fun (W' : World) (S : PSt blk P I w d s2 W') => order2_any HE.out x1 x2 P s2 d W' S.i q1.1 q2.1 hP S.c S.f (by omega)
  simp only [e2] at C2
  simp only [e3] at C3
  rw [HM.out]
  clear E h hc hf e1 e2 e3 q1 q2
  go_enter Try.func132, Try.ntmps132
  go_wp2_with (first
    | (go_at_call 135; rw [← hW]; refine C1.mono ?_; rintro e w1 ⟨rfl, K1⟩; have S1 := S0.trans K1; have d0 := K1.st.cell b0 HN.out; have d1 := K1.st.cell b1 HN.out; clear C1 S0 K1 hW b0 b1)
    | (go_at_call 135; refine (C2 _ S1).mono ?_; rintro e w2 ⟨rfl, K2⟩; have S2 := S1.trans K2; have g0 := K2.st.cell d0 HN.out; have g1 := K2.st.cell d1 HN.out; clear C2 S1 K2 d0 d1)
    | (go_at_call 135; refine (C3 _ S2).mono ?_; rintro e w3 ⟨rfl, K3⟩; have S3 := S2.trans K3; clear C3 S2 K3 g0 g1))
  go_ret
  exact ⟨rfl, S3⟩

set_option maxHeartbeats 2000000 in
theorem medianAdj_any (E : SEnv g lb sf sb lt n blk base I) (a P s : Nat) (d : Array α) (w : World) (h : I d w) (ha0 : 1 ≤ a) (ha : a + 1 < n) (hP : base ≤ P) (hc : w.cell? ⟨P, 0, none⟩ = some (.int .i64 s)) (hf : w.frozen? ⟨P, 0, none⟩ = false) (hs : s ≤ 90) :
    Calls Try.prog 131 #[.agg #[.func (.func g) #[] lb, .func (.func sf) #[] sb], .int .i64 a, .pointer (some ⟨P, 0, none⟩)] w fun e w' => e = .returned (.int .i64 (medianAdjacent lt d a s).1) ∧ PSt blk P I w d (medianAdjacent lt d a s).2 w' := by
  have hPl : P < w.heap.size := World.block_lt_of_cell? _ _ hc
  have hbig := E.big
  obtain ⟨W, hW⟩ : ∃ W, W = w.alloc (.cells #[.func (.func g) #[] lb, .func (.func sf) #[] sb] 157) := ⟨_, rfl⟩
  have hbW : Below w.heap.size w W := by rw [hW]; exact (Below.refl _ _).alloc (Nat.le_refl _) _
  have S0 : PSt blk P I w d s W := ⟨E.on _ _ _ h hbW, keepC hbW hc, (hbW.frozen (p := ⟨P, 0, none⟩) hPl).trans hf, .of_below hbW (fun _ hk _ => hk)⟩
  have C := median_any E (a - 1) a (a + 1) P s d W S0.i (by omega) (by omega) (by omega) hP S0.c S0.f hs
  rw [show ((a - 1 : Nat) : Int) = (a : Int) - 1 by omega, show ((a + 1 : Nat) : Int) = (a : Int) + 1 by omega] at C
  clear E h hc hf
  unfold medianAdjacent
  go_enter Try.func131, Try.ntmps131
  go_wp2_with (go_at_call 132; rw [← hW]; refine C.mono ?_; rintro e w1 ⟨rfl, K1⟩; have S1 := S0.trans K1; clear C S0 K1 hW)
  go_ret
  exact ⟨rfl, S1⟩
end Go.Proofs.Ytcbafmohmoicnab

