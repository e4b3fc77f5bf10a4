/- What the proof of FnBasis stands on, part 3 of 10: each piece says what it proves and under which conditions. Conditions: as each piece says. -/
import Derived.Test.YthbilahilmmfmaaPackBasis2
import Derived.Deep.QuietTactic
import Derived.BigQuiet
import Derived.Below
import Derived.WalkKit
import Derived.Test.YthbilahilmmfmaaProg
import Derived.OpenShut
import Derived.ProofKit
import Derived.WalkSmall
import Derived.Maps.AppendAt
import Derived.RangeFuncBound
import Derived.Shelf.Abstract
import Derived.Shelf.RegionOpen
import Derived.OwnWalkIn
import Derived.TacticsInMore
import Derived.LoopNIn
import Derived.LoopIn
/- One form of a term as data: Kids put in by their order, Kids of the same blind function joined; forests of terms that own their memory. Conditions: none. -/
namespace Go.Proofs.Ythbilahilmmfmaa
set_option maxRecDepth 100000
open Go.RowKit

/-- A term put into a list by its order, behind those that are not behind it. -/
def putT (t : TermD) (l : List TermD) : List TermD := l.takeWhile (fun e => !befT t e) ++ t :: l.dropWhile (fun e => !befT t e)
/-- What becomes of the list made so far when one more Kid, in one form, comes. -/
def stepN (b : Bool) (f : Int) (k : TermD) (out : List TermD) : List TermD :=
  if b = false then out ++ [k] else if k.f ≠ f then putT k out else k.kids.foldl (fun o x => putT x o) out
mutual
/-- One form. -/
def normT (bl : Int → Bool) : TermD → TermD
  | .mk f v ks => .mk f v (normL bl f ks [])
def normL (bl : Int → Bool) (f : Int) : List TermD → List TermD → List TermD
  | [], out => out
  | k :: ks, out => normL bl f ks (stepN (bl f) f (normT bl k) out)
end
theorem normT_eq (bl : Int → Bool) (t : TermD) : normT bl t = .mk t.f t.v (normL bl t.f t.kids []) := by cases t; rw [normT]; rfl
theorem normL_append (bl : Int → Bool) (f : Int) (a b out : List TermD) : normL bl f (a ++ b) out = normL bl f b (normL bl f a out) := by
  induction a generalizing out with
  | nil => simp [normL]
  | cons t ts ih => simp only [List.cons_append, normL, ih]
theorem normL_next (bl : Int → Bool) (f : Int) {ts : List TermD} {k : Nat} (h : k < ts.length) (out : List TermD) : normL bl f (ts.take (k + 1)) out = stepN (bl f) f (normT bl ts[k]) (normL bl f (ts.take k) out) := by
  rw [List.take_succ_eq_append_getElem h, normL_append]
  simp [normL]

theorem putT_perm (t : TermD) (l : List TermD) : (putT t l).Perm (t :: l) := by
  unfold putT
  refine List.perm_middle.trans ?_
  rw [List.takeWhile_append_dropWhile]
theorem putT_parts (t : TermD) (l : List TermD) : partsL (putT t l) = partsL l + partsT t := by
  unfold putT
  have h : partsL l = partsL (l.takeWhile fun e => !befT t e) + partsL (l.dropWhile fun e => !befT t e) := by rw [← partsL_append, List.takeWhile_append_dropWhile]
  rw [partsL_append, partsL, h]; omega
theorem foldP_parts (ks out : List TermD) : partsL (ks.foldl (fun o x => putT x o) out) = partsL out + partsL ks := by
  induction ks generalizing out with
  | nil => simp [partsL]
  | cons t ts ih => rw [List.foldl_cons, ih, putT_parts, partsL]; omega
theorem stepN_parts (b : Bool) (f : Int) (k : TermD) (out : List TermD) : partsL (stepN b f k out) ≤ partsL out + partsT k := by
  unfold stepN
  split
  · rw [partsL_append]; simp [partsL]
  · split
    · rw [putT_parts]; omega
    · rw [foldP_parts, partsT_eq]; omega
mutual
theorem normT_parts (bl : Int → Bool) : ∀ t : TermD, partsT (normT bl t) ≤ partsT t
  | .mk f v ks => by have := normL_parts bl f ks []; simp only [normT, partsT, partsL] at *; omega
theorem normL_parts (bl : Int → Bool) (f : Int) : ∀ ks out : List TermD, partsL (normL bl f ks out) ≤ partsL out + partsL ks
  | [], out => by simp [normL, partsL]
  | k :: ks, out => by
    have h1 := normT_parts bl k
    have h2 := normL_parts bl f ks (stepN (bl f) f (normT bl k) out)
    have h3 := stepN_parts (bl f) f (normT bl k) out
    rw [normL, partsL]; omega
end

/-- As 'OwnS', and each row has its block to itself, with all the room that its capacity says: so one may append to it in its place. -/
inductive OwnR (w : World) : (Nat → Prop) → Option Addr → Nat → List TermD → Prop
  | nil (S : Nat → Prop) : OwnR w S none 0 []
  | row (S : Nat → Prop) (g c : Nat) (ts : List TermD) (A : Nat → Option Addr) (C : Nat → Nat) (K : Nat → Nat → Prop) (xs : List Value) (hb : S g) (hrow : w.ownsRow 0 43 3 (.slice (some ⟨g, 0, none⟩) ts.length c) ts.length xs) (hl : ts.length ≤ 9223372036854775807) (hz : ∀ i, (h : i < ts.length) → isW ts[i].f ∧ isW ts[i].v)
      (hc : ∀ i, (h : i < ts.length) → w.cell? ⟨g, i * 3, none⟩ = some (.int .i64 ts[i].f) ∧ w.cell? ⟨g, i * 3 + 1, none⟩ = some (.int .i64 ts[i].v) ∧ w.cell? ⟨g, i * 3 + 2, none⟩ = some (.slice (A i) ts[i].kids.length (C i)))
      (hsub : ∀ i x, i < ts.length → K i x → S x ∧ x ≠ g) (hdis : ∀ i j x, i < ts.length → j < ts.length → i ≠ j → K i x → ¬ K j x)
      (hk : ∀ i, (h : i < ts.length) → OwnR w (K i) (A i) (C i) ts[i].kids) : OwnR w S (some ⟨g, 0, none⟩) c ts

theorem OwnR.own {w : World} {S : Nat → Prop} {a : Option Addr} {c : Nat} {ts : List TermD} (h : OwnR w S a c ts) : ∃ xs, w.ownsRow 0 43 3 (.slice a ts.length c) ts.length xs := by
  cases h with
  | nil => exact ⟨[], World.ownsRow_nil w 0 43 3⟩
  | row S g c ts A C K xs hb hrow => exact ⟨xs, hrow⟩
theorem OwnR.le {w : World} {S : Nat → Prop} {a : Option Addr} {c : Nat} {ts : List TermD} (h : OwnR w S a c ts) : ts.length ≤ c := by
  obtain ⟨xs, h⟩ := h.own
  obtain ⟨_, _, e, hh⟩ := own_form h
  cases e
  exact hh
theorem OwnR.s {w : World} {S : Nat → Prop} {a : Option Addr} {c : Nat} {ts : List TermD} (h : OwnR w S a c ts) : OwnS w S a ts := by
  induction h with
  | nil S => exact .nil S none
  | row S g c ts A C K xs hb hrow hl hz hc hsub hdis hk ih => exact .row S g 0 ts A C K hb (hrow.lt g rfl).2 ⟨hl, fun i h => (hk i h).le⟩ hz (fun i h => by simpa using hc i h) (fun j => hrow.frozenAt j) hsub hdis ih
theorem OwnR.rd {w : World} {S : Nat → Prop} {a : Option Addr} {c : Nat} {ts : List TermD} (h : OwnR w S a c ts) : RdK w w.heap.size a ts := h.s.rd
theorem own_frame {w w' : World} {base : Nat} {e : TypeId} {size : Nat} {v : Value} {n : Nat} {xs : List Value} (h : w.ownsRow base e size v n xs) (hb : ∀ g, v.ownBlock = some g → w'.heap[g]? = w.heap[g]?) : w'.ownsRow base e size v n xs := by
  obtain ⟨h1, h2⟩ := h
  refine ⟨h1, ?_⟩
  rcases h2 with h2 | ⟨g, cap, cur, rfl, hg, hh, r⟩
  · exact .inl h2
  · exact .inr ⟨g, cap, cur, rfl, hg, by rw [hb g rfl]; exact hh, r⟩
theorem own_zero {w : World} {base : Nat} {e : TypeId} {size : Nat} {v : Value} {n : Nat} {xs : List Value} (h : w.ownsRow base e size v n xs) : w.ownsRow 0 e size v n xs := by
  obtain ⟨h1, h2⟩ := h
  refine ⟨h1, ?_⟩
  rcases h2 with h2 | ⟨g, cap, cur, rfl, hg, r⟩
  · exact .inl h2
  · exact .inr ⟨g, cap, cur, rfl, Nat.zero_le _, r⟩
theorem OwnR.frame {w w' : World} {S : Nat → Prop} {a : Option Addr} {c : Nat} {ts : List TermD} (h : OwnR w S a c ts) (hs : ∀ x, S x → w'.heap[x]? = w.heap[x]?) (_hz : w.heap.size ≤ w'.heap.size) : OwnR w' S a c ts := by
  induction h with
  | nil S => exact .nil S
  | row S g c ts A C K xs hb hrow hl hz' hc hsub hdis hk ih =>
    have e := hs g hb
    refine .row S g c ts A C K xs hb (own_frame hrow (fun k hk => by cases hk; exact e)) hl hz' (fun i h => ?_) hsub hdis (fun i h => ih i h (fun x hx => hs x (hsub i x h hx).1))
    obtain ⟨h0, h1, h2⟩ := hc i h
    exact ⟨(World.cell?_of_block (a := ⟨g, _, none⟩) e).trans h0, (World.cell?_of_block (a := ⟨g, _, none⟩) e).trans h1, (World.cell?_of_block (a := ⟨g, _, none⟩) e).trans h2⟩
theorem OwnR.mono {w : World} {S S' : Nat → Prop} {a : Option Addr} {c : Nat} {ts : List TermD} (h : OwnR w S a c ts) (hs : ∀ x, S x → S' x) : OwnR w S' a c ts := by
  cases h with
  | nil S => exact .nil S'
  | row S g c ts A C K xs hb hrow hl hz hc hsub hdis hk => exact .row S' g c ts A C K xs (hs g hb) hrow hl hz hc (fun i x h hx => ⟨hs x (hsub i x h hx).1, (hsub i x h hx).2⟩) hdis hk
theorem OwnR.setCell {w : World} {S : Nat → Prop} {a : Option Addr} {c : Nat} {ts : List TermD} (h : OwnR w S a c ts) (p : Addr) (hp : ¬ S p.block) (u : Value) : OwnR (w.setCell p u) S a c ts :=
  h.frame (fun x hx => Below.heap_setCell w p u x (fun e => hp (e ▸ hx))) (by simp)

/-- One of a row of terms: where its Kids lie, and in which blocks. -/
structure FE where
  t : TermD
  a : Option Addr
  c : Nat
  K : Nat → Prop
def FE.cells (e : FE) : Value × Value × Value := (.int .i64 e.t.f, .int .i64 e.t.v, .slice e.a e.t.kids.length e.c)

/-- Terms of which no two share a block; all from B on. -/
structure Forest (w : World) (B : Nat) (L : List FE) : Prop where
  own : ∀ e ∈ L, OwnR w e.K e.a e.c e.t.kids ∧ e.t.kids.length ≤ e.c ∧ (isW e.t.f ∧ isW e.t.v) ∧ ∀ x, e.K x → B ≤ x ∧ x < w.heap.size
  dis : L.Pairwise fun e d => ∀ x, e.K x → ¬ d.K x

theorem Forest.nil (w : World) (B : Nat) : Forest w B [] := ⟨fun e h => by simp at h, .nil⟩
theorem Forest.on {w w' : World} {B : Nat} {L : List FE} (h : Forest w B L) (hb : Below w.heap.size w w') : Forest w' B L :=
  ⟨fun e he => ⟨(h.own e he).1.frame (fun x hx => hb.block x ((h.own e he).2.2.2 x hx).2) hb.size, (h.own e he).2.1, (h.own e he).2.2.1, fun x hx => ⟨((h.own e he).2.2.2 x hx).1, Nat.lt_of_lt_of_le ((h.own e he).2.2.2 x hx).2 hb.size⟩⟩, h.dis⟩
theorem Forest.setCell {w : World} {B : Nat} {L : List FE} (h : Forest w B L) (p : Addr) (u : Value) (hp : ∀ e ∈ L, ¬ e.K p.block) : Forest (w.setCell p u) B L :=
  ⟨fun e he => ⟨(h.own e he).1.setCell p (hp e he) u, (h.own e he).2.1, (h.own e he).2.2.1, fun x hx => by simpa using (h.own e he).2.2.2 x hx⟩, h.dis⟩
theorem Forest.perm {w : World} {B : Nat} {L M : List FE} (h : Forest w B L) (hp : M.Perm L) : Forest w B M :=
  ⟨fun e he => h.own e (hp.subset he), (hp.pairwise_iff (fun hxy z hz hz' => hxy z hz' hz)).2 h.dis⟩
theorem Forest.append {w : World} {B : Nat} {L M : List FE} (h : Forest w B L) (k : Forest w B M) (hd : ∀ e ∈ L, ∀ d ∈ M, ∀ x, e.K x → ¬ d.K x) : Forest w B (L ++ M) :=
  ⟨fun e he => (List.mem_append.1 he).elim (h.own e) (k.own e), List.pairwise_append.2 ⟨h.dis, k.dis, fun e he d hd' => hd e he d hd'⟩⟩
theorem Forest.sub {w : World} {B : Nat} {L M : List FE} (h : Forest w B L) (hs : M.Sublist L) : Forest w B M := ⟨fun e he => h.own e (hs.subset he), h.dis.sublist hs⟩

/-- The row of a forest's terms, its own block apart, is a list of terms that owns its memory. -/
theorem Forest.owns {w : World} {B g cap : Nat} {L : List FE} (h : Forest w B L) (hrow : w.ownsRow B 43 3 (.slice (some ⟨g, 0, none⟩) L.length cap) L.length (cs3 (L.map FE.cells))) (hg : ∀ e ∈ L, ¬ e.K g) (hl : L.length ≤ 9223372036854775807) :
    OwnR w (fun x => B ≤ x ∧ x < w.heap.size) (some ⟨g, 0, none⟩) cap (L.map FE.t) := by
  have hlt := hrow.lt g rfl
  refine .row _ g cap (L.map FE.t) (fun i => (L[i]?.map FE.a).getD none) (fun i => (L[i]?.map FE.c).getD 0) (fun i x => ∃ e, L[i]? = some e ∧ e.K x) (cs3 (L.map FE.cells)) ⟨hlt.1, hlt.2⟩ (by simpa using own_zero hrow) (by simpa using hl) (fun i hi => ?_) (fun i hi => ?_) (fun i x hi hx => ?_) (fun i j x hi hj hne hx hy => ?_) (fun i hi => ?_)
  · have hi' : i < L.length := by simpa using hi
    simpa using (h.own _ (List.getElem_mem hi')).2.2.1
  · have hi' : i < L.length := by simpa using hi
    obtain ⟨c0, c1, c2⟩ := cs3_cells (l := L.map FE.cells) (k := i) (by simp) (by simpa using hi') hrow
    simp only [List.getElem_map, FE.cells] at c0 c1 c2
    simp only [List.getElem_map]
    exact ⟨c0, c1, by simpa [hi'] using c2⟩
  · obtain ⟨e, he, hx⟩ := hx
    obtain ⟨hi', e0⟩ := List.getElem?_eq_some_iff.1 he
    have hm : e ∈ L := e0 ▸ List.getElem_mem hi'
    exact ⟨(h.own e hm).2.2.2 x hx, fun ex => hg e hm (ex ▸ hx)⟩
  · obtain ⟨e, he, hx⟩ := hx
    obtain ⟨d, hd, hy⟩ := hy
    obtain ⟨hi', e0⟩ := List.getElem?_eq_some_iff.1 he
    obtain ⟨hj', e1⟩ := List.getElem?_eq_some_iff.1 hd
    rcases Nat.lt_or_gt_of_ne hne with hh | hh
    · exact (e0 ▸ e1 ▸ List.pairwise_iff_getElem.1 h.dis i j hi' hj' hh) x hx hy
    · exact (e1 ▸ e0 ▸ List.pairwise_iff_getElem.1 h.dis j i hj' hi' hh) x hy hx
  · have hi' : i < L.length := by simpa using hi
    have := (h.own _ (List.getElem_mem hi')).1
    simp only [hi', List.getElem?_eq_getElem, Option.map_some, Option.getD_some, List.getElem_map]
    exact this.mono (fun x hx => ⟨_, rfl, hx⟩)

/-- The Kids of a term that owns its memory are a forest. -/
theorem OwnR.forest {w : World} {S : Nat → Prop} {a : Option Addr} {c : Nat} {ts : List TermD} {B : Nat} (h : OwnR w S a c ts) (hs : ∀ x, S x → B ≤ x ∧ x < w.heap.size) :
    ∃ L : List FE, L.map FE.t = ts ∧ Forest w B L ∧ (∀ e ∈ L, ∀ x, e.K x → S x) ∧ (ts = [] ∨ ∃ b off, a = some ⟨b, off, none⟩ ∧ S b ∧ ∀ i, (hi : i < L.length) → w.cell? ⟨b, off + i * 3, none⟩ = some (L[i].cells).1 ∧ w.cell? ⟨b, off + i * 3 + 1, none⟩ = some (L[i].cells).2.1 ∧ w.cell? ⟨b, off + i * 3 + 2, none⟩ = some (L[i].cells).2.2) := by
  cases h with
  | nil S => exact ⟨[], rfl, .nil _ _, fun e h => by simp at h, .inl rfl⟩
  | row S b c ts A C K xs hb hrow hl hz hc hsub hdis hk =>
    refine ⟨(List.range ts.length).map fun i => ⟨ts[i]?.getD default, A i, C i, K i⟩, ?_, ⟨fun e he => ?_, ?_⟩, fun e he x hx => ?_, .inr ⟨b, 0, rfl, hb, fun i hi => ?_⟩⟩
    · apply List.ext_getElem
      · simp
      · intro i h1 h2; simp [h2]
    · simp only [List.mem_map, List.mem_range] at he
      obtain ⟨i, hi, rfl⟩ := he
      have e0 : ts[i]?.getD default = ts[i] := by simp [hi]
      simp only [e0]
      exact ⟨hk i hi, (hk i hi).le, hz i hi, fun x hx => hs x (hsub i x hi hx).1⟩
    · rw [List.pairwise_iff_getElem]
      intro i j hi hj hij x hx hy
      simp only [List.length_map, List.length_range] at hi hj
      simp only [List.getElem_map, List.getElem_range] at hx hy
      exact hdis i j x hi hj (by omega) hx hy
    · simp only [List.mem_map, List.mem_range] at he
      obtain ⟨i, hi, rfl⟩ := he
      exact (hsub i x hi hx).1
    · simp only [List.length_map, List.length_range] at hi
      have := hc i hi
      simp only [List.getElem_map, List.getElem_range, FE.cells]
      simpa [hi] using this
end Go.Proofs.Ythbilahilmmfmaa

/- The order of terms is total: alike terms are the same, and of two one is not behind the other; a list in order is told by what is in it. Conditions: none. -/
namespace Go.Proofs.Ythbilahilmmfmaa
set_option maxRecDepth 100000
open Go.RowKit

mutual
theorem sameT_eqT : ∀ t u : TermD, sameT t u = true → t = u
  | .mk f v ks, .mk f' v' ks', h => by
    simp only [sameT, Bool.and_eq_true, beq_iff_eq] at h
    obtain ⟨⟨⟨h1, h2⟩, h3⟩, h4⟩ := h
    rw [h1, h2, sameL_eqL ks ks' h3 h4]
theorem sameL_eqL : ∀ ts us : List TermD, ts.length = us.length → sameL ts us = true → ts = us
  | [], us, hl, _ => by cases us with | nil => rfl | cons u us => simp at hl
  | t :: ts, [], hl, _ => by simp at hl
  | t :: ts, u :: us, hl, h => by
    simp only [sameL, Bool.and_eq_true] at h
    rw [sameT_eqT t u h.1, sameL_eqL ts us (by simpa using hl) h.2]
end
theorem ordT_zero {t u : TermD} : ordT t u = 0 ↔ t = u := by
  constructor
  · intro h; exact sameT_eqT t u ((ordT_same t u).1 h)
  · rintro rfl
    refine (ordT_same t t).2 ?_
    have : ∀ n : Nat, ∀ t : TermD, partsT t ≤ n → sameT t t = true := by
      intro n
      induction n with
      | zero => intro t h; rw [partsT_eq] at h; omega
      | succ n ih =>
        intro t h
        rw [sameT_eq]
        rw [partsT_eq] at h
        simp only [beq_self_eq_true, Bool.true_and]
        exact sameL_all rfl (fun k hk _ => ih _ (by have := partsL_get hk; omega))
    exact this _ t (Nat.le_refl _)

theorem cmpI_swap (x y : Int) : cmpI y x = - cmpI x y := by unfold cmpI; split <;> (try split) <;> (try split) <;> omega
theorem or3_swap (x y z : Int) : or3 (-x) (-y) (-z) = - or3 x y z := by unfold or3; split <;> (try split) <;> (try split) <;> (try split) <;> omega
theorem headO_swap (t u : TermD) : headO u t = - headO t u := by
  unfold headO
  rw [cmpI_swap t.f u.f, cmpI_swap t.v u.v, cmpI_swap (t.kids.length : Int) u.kids.length, or3_swap]
mutual
theorem ordT_swap : ∀ t u : TermD, ordT u t = - ordT t u
  | .mk f v ks, .mk f' v' ks' => by
    have h1 := headO_swap (.mk f v ks) (.mk f' v' ks')
    have h2 := ordL_swap ks ks'
    rw [ordT_eq, ordT_eq, h1]
    show (if -headO (TermD.mk f v ks) (.mk f' v' ks') ≠ 0 then -headO (TermD.mk f v ks) (.mk f' v' ks') else ordL ks' ks) = -(if headO (TermD.mk f v ks) (.mk f' v' ks') ≠ 0 then headO (TermD.mk f v ks) (.mk f' v' ks') else ordL ks ks')
    rw [h2]
    split <;> split <;> omega
theorem ordL_swap : ∀ ts us : List TermD, ordL us ts = - ordL ts us
  | [], us => by cases us <;> simp [ordL]
  | t :: ts, [] => by simp [ordL]
  | t :: ts, u :: us => by
    have h1 := ordT_swap t u
    have h2 := ordL_swap ts us
    rw [ordL_cons, ordL_cons, h1, h2]
    split <;> split <;> omega
end

theorem headO_neg {t u : TermD} : headO t u < 0 ↔ (t.f < u.f ∨ (t.f = u.f ∧ (t.v < u.v ∨ (t.v = u.v ∧ t.kids.length < u.kids.length)))) := by
  unfold headO or3
  by_cases e1 : t.f = u.f
  · rw [cmpI_zero.2 e1]
    by_cases e2 : t.v = u.v
    · rw [cmpI_zero.2 e2]
      simp only [ne_eq, not_true_eq_false, if_false, cmpI_neg]
      omega
    · have h2 := mt cmpI_zero.1 e2
      simp only [ne_eq, not_true_eq_false, if_false, h2, not_false_eq_true, if_true, cmpI_neg]
      omega
  · have h1 := mt cmpI_zero.1 e1
    simp only [ne_eq, h1, not_false_eq_true, if_true, cmpI_neg]
    omega
theorem headO_le {a b : TermD} (h : ordT a b ≤ 0) : headO a b ≤ 0 := by
  rw [ordT_eq] at h
  split at h
  · exact h
  · omega
theorem headO_lt {a b : TermD} (h : headO a b < 0) : ordT a b < 0 := by
  rw [ordT_eq, if_pos (by omega)]; exact h

theorem ordT_trans : ∀ (n : Nat) (a b c : TermD), partsT a ≤ n → ordT a b ≤ 0 → ordT b c ≤ 0 → ordT a c ≤ 0 := by
  intro n
  induction n with
  | zero => intro a b c h; rw [partsT_eq] at h; omega
  | succ n ih =>
    have hL : ∀ (ts us vs : List TermD), partsL ts ≤ n → ts.length = us.length → us.length = vs.length → ordL ts us ≤ 0 → ordL us vs ≤ 0 → ordL ts vs ≤ 0 := by
      intro ts
      induction ts with
      | nil => intro us vs _ h1 h2 _ _; cases us with
        | nil => cases vs with
          | nil => simp [ordL]
          | cons v vs => simp at h2
        | cons u us => simp at h1
      | cons t ts iht =>
        intro us vs hp h1 h2 g1 g2
        cases us with
        | nil => simp at h1
        | cons u us => cases vs with
          | nil => simp at h2
          | cons v vs =>
            rw [partsL] at hp
            rw [ordL_cons] at g1 g2 ⊢
            by_cases e1 : ordT t u = 0
            · have e := ordT_zero.1 e1
              subst e
              rw [if_neg (by omega)] at g1
              by_cases e2 : ordT t v = 0
              · rw [if_neg (by omega)] at g2 ⊢
                exact iht us vs (by omega) (by simpa using h1) (by simpa using h2) g1 g2
              · rw [if_pos e2] at g2 ⊢; exact g2
            · rw [if_pos e1] at g1
              have g3 : ordT u v ≤ 0 := by
                by_cases e2 : ordT u v = 0
                · omega
                · rw [if_pos e2] at g2; exact g2
              have g4 := ih t u v (by omega) g1 g3
              have g5 : ordT t v ≠ 0 := fun e => by
                have := ordT_zero.1 e
                subst this
                have := ordT_swap t u
                omega
              rw [if_pos g5]; exact g4
    intro a b c hp h1 h2
    rw [partsT_eq] at hp
    have k1 := headO_le h1
    have k2 := headO_le h2
    by_cases e1 : headO a b = 0
    · by_cases e2 : headO b c = 0
      · have z1 := headO_zero.1 e1
        have z2 := headO_zero.1 e2
        have e3 : headO a c = 0 := headO_zero.2 ⟨z1.1.trans z2.1, z1.2.1.trans z2.2.1, z1.2.2.trans z2.2.2⟩
        rw [ordT_eq, if_neg (by omega)] at h1 h2 ⊢
        exact hL _ _ _ (by omega) z1.2.2 z2.2.2 h1 h2
      · have z1 := headO_zero.1 e1
        have z2 := headO_neg.1 (show headO b c < 0 by omega)
        exact Int.le_of_lt (headO_lt (headO_neg.2 (by omega)))
    · have z1 := headO_neg.1 (show headO a b < 0 by omega)
      by_cases e2 : headO b c = 0
      · have z2 := headO_zero.1 e2
        exact Int.le_of_lt (headO_lt (headO_neg.2 (by omega)))
      · have z2 := headO_neg.1 (show headO b c < 0 by omega)
        exact Int.le_of_lt (headO_lt (headO_neg.2 (by omega)))

/-- Not behind. -/
def leT (a b : TermD) : Prop := ordT a b ≤ 0
theorem leT_refl (a : TermD) : leT a a := by show ordT a a ≤ 0; rw [ordT_zero.2 rfl]; omega
theorem leT_trans {a b c : TermD} (h1 : leT a b) (h2 : leT b c) : leT a c := ordT_trans _ a b c (Nat.le_refl _) h1 h2
theorem leT_total (a b : TermD) : leT a b ∨ leT b a := by
  unfold leT
  have := ordT_swap a b
  omega
theorem leT_anti {a b : TermD} (h1 : leT a b) (h2 : leT b a) : a = b := by
  unfold leT at *
  have := ordT_swap a b
  exact ordT_zero.1 (by omega)
theorem befT_leT (a b : TermD) : befT a b = false ↔ leT b a := by
  rw [← ordT_bef]
  unfold leT
  have := ordT_swap a b
  simp
  omega

/-- Two lists in order of which one is the other in another order are the same. -/
theorem sorted_ext : ∀ {a b : List TermD}, a.Pairwise leT → b.Pairwise leT → a.Perm b → a = b
  | [], b, _, _, h => by rw [List.nil_perm] at h; rw [h]
  | x :: a, [], _, _, h => by have := h.length_eq; simp at this
  | x :: a, y :: b, ha, hb, h => by
    rw [List.pairwise_cons] at ha hb
    have e : x = y := by
      have h1 : x ∈ y :: b := h.subset (by simp)
      have h2 : y ∈ x :: a := h.symm.subset (by simp)
      rcases List.mem_cons.1 h1 with h1 | h1
      · exact h1
      · rcases List.mem_cons.1 h2 with h2 | h2
        · exact h2.symm
        · exact leT_anti (ha.1 y h2) (hb.1 x h1)
    subst e
    rw [sorted_ext ha.2 hb.2 (h.cons_inv)]

theorem tw_all (p : TermD → Bool) : ∀ (l : List TermD), ∀ x ∈ l.takeWhile p, p x = true
  | [], x, h => by simp at h
  | y :: l, x, h => by
    by_cases e : p y = true
    · simp only [List.takeWhile_cons, e, if_true] at h
      rcases List.mem_cons.1 h with h | h
      · rw [h]; exact e
      · exact tw_all p l x h
    · simp only [List.takeWhile_cons, e] at h
      simp at h
theorem putT_sorted {t : TermD} {l : List TermD} (h : l.Pairwise leT) : (putT t l).Pairwise leT := by
  unfold putT
  have h1 : ∀ x ∈ l.takeWhile (fun e => !befT t e), leT x t := fun x hx => by
    have := tw_all _ l x hx
    exact (befT_leT t x).1 (by simpa using this)
  have h2 : ∀ x ∈ l.dropWhile (fun e => !befT t e), leT t x := by
    intro x hx
    have hd := h.sublist (List.dropWhile_sublist (fun e => !befT t e))
    cases hc : l.dropWhile (fun e => !befT t e) with
    | nil => rw [hc] at hx; simp at hx
    | cons y ys =>
      have hy : leT t y := by
        have := List.head?_dropWhile_not (fun e => !befT t e) l
        rw [hc] at this
        simp at this
        rcases leT_total t y with q | q
        · exact q
        · have := (befT_leT t y).2 q
          simp_all
      rw [hc] at hx hd
      rcases List.mem_cons.1 hx with e | e
      · exact e ▸ hy
      · exact leT_trans hy ((List.pairwise_cons.1 hd).1 x e)
  rw [List.pairwise_append]
  refine ⟨h.sublist (List.takeWhile_sublist _), List.pairwise_cons.2 ⟨h2, h.sublist (List.dropWhile_sublist _)⟩, fun x hx y hy => ?_⟩
  rcases List.mem_cons.1 hy with e | e
  · exact e ▸ h1 x hx
  · exact leT_trans (h1 x hx) (h2 y e)
end Go.Proofs.Ythbilahilmmfmaa

/- What one form keeps: the form of a form is it; the Kids of a blind function may stand in any order, and in brackets; a right term is its form; weights. Conditions: none. -/
namespace Go.Proofs.Ythbilahilmmfmaa
set_option maxRecDepth 100000
open Go.RowKit

theorem parts_kid : ∀ {ks : List TermD} {k : TermD}, k ∈ ks → partsT k ≤ partsL ks
  | [], _, h => by simp at h
  | x :: xs, k, h => by
    rw [partsL]
    rcases List.mem_cons.1 h with rfl | h
    · omega
    · have := parts_kid h; omega

/-- What a Kid in one form brings to the list of a blind function. -/
def flatK (f : Int) (k : TermD) : List TermD := if k.f ≠ f then [k] else k.kids

theorem foldP_perm (ks out : List TermD) : (ks.foldl (fun o x => putT x o) out).Perm (out ++ ks) := by
  induction ks generalizing out with
  | nil => simp
  | cons t ts ih =>
    rw [List.foldl_cons]
    refine (ih _).trans ?_
    exact ((putT_perm t out).append_right ts).trans (List.perm_middle.symm)
theorem foldP_sorted (ks : List TermD) : ∀ {out : List TermD}, out.Pairwise leT → (ks.foldl (fun o x => putT x o) out).Pairwise leT := by
  induction ks with
  | nil => intro out h; exact h
  | cons t ts ih => intro out h; rw [List.foldl_cons]; exact ih (putT_sorted h)
theorem stepN_perm (f : Int) (k : TermD) (out : List TermD) : (stepN true f k out).Perm (out ++ flatK f k) := by
  unfold stepN flatK
  simp only [Bool.true_eq_false, ↓reduceIte]
  split
  · exact (putT_perm k out).trans (by simpa using (List.perm_middle (a := k) (l₁ := out) (l₂ := [])).symm)
  · exact foldP_perm _ _
theorem stepN_sorted (f : Int) (k : TermD) {out : List TermD} (h : out.Pairwise leT) : (stepN true f k out).Pairwise leT := by
  unfold stepN
  simp only [Bool.true_eq_false, ↓reduceIte]
  split
  · exact putT_sorted h
  · exact foldP_sorted _ h
theorem normL_perm (bl : Int → Bool) (f : Int) (hf : bl f = true) (ks : List TermD) : ∀ out, (normL bl f ks out).Perm (out ++ ks.flatMap (fun k => flatK f (normT bl k))) := by
  induction ks with
  | nil => intro out; simp [normL]
  | cons k ks ih =>
    intro out
    rw [normL, hf, List.flatMap_cons, ← List.append_assoc]
    exact (ih _).trans ((stepN_perm f _ out).append_right _)
theorem normL_sorted (bl : Int → Bool) (f : Int) (hf : bl f = true) (ks : List TermD) : ∀ {out}, out.Pairwise leT → (normL bl f ks out).Pairwise leT := by
  induction ks with
  | nil => intro out h; rw [normL]; exact h
  | cons k ks ih => intro out h; rw [normL, hf]; exact ih (stepN_sorted f _ h)
theorem normL_map (bl : Int → Bool) (f : Int) (hf : bl f = false) (ks : List TermD) : ∀ out, normL bl f ks out = out ++ ks.map (normT bl) := by
  induction ks with
  | nil => intro out; simp [normL]
  | cons k ks ih => intro out; rw [normL, hf, ih]; simp [stepN]

/-- In one form. -/
inductive IsN (bl : Int → Bool) : TermD → Prop
  | mk (t : TermD) (hk : ∀ k ∈ t.kids, IsN bl k) (hb : bl t.f = true → t.kids.Pairwise leT ∧ ∀ k ∈ t.kids, k.f ≠ t.f) : IsN bl t

theorem normT_isN (bl : Int → Bool) : ∀ (n : Nat) (t : TermD), partsT t ≤ n → IsN bl (normT bl t) := by
  intro n
  induction n with
  | zero => intro t h; rw [partsT_eq] at h; omega
  | succ n ih =>
    intro t h
    rw [partsT_eq] at h
    have IH : ∀ k ∈ t.kids, IsN bl (normT bl k) := fun k hk => ih k (by have := parts_kid hk; omega)
    rw [normT_eq]
    by_cases hf : bl t.f = true
    · have hp := normL_perm bl t.f hf t.kids []
      rw [List.nil_append] at hp
      have hm : ∀ x ∈ normL bl t.f t.kids [], IsN bl x ∧ x.f ≠ t.f := by
        intro x hx
        obtain ⟨k, hk, hx⟩ := List.mem_flatMap.1 (hp.subset hx)
        have hN := IH k hk
        unfold flatK at hx
        split at hx
        · next h => rw [List.mem_singleton] at hx; subst hx; exact ⟨hN, h⟩
        · next h =>
          have h : (normT bl k).f = t.f := Decidable.not_not.1 h
          cases hN with
          | mk _ h1 h2 => exact ⟨h1 x hx, fun e => (h2 (by rw [h]; exact hf)).2 x hx (by rw [e, h])⟩
      exact .mk _ (fun k hk => (hm k hk).1) (fun _ => ⟨normL_sorted bl t.f hf t.kids .nil, fun k hk => (hm k hk).2⟩)
    · have hf : bl t.f = false := by simpa using hf
      rw [normL_map bl t.f hf, List.nil_append]
      refine .mk _ (fun x hx => ?_) (fun h => by rw [show (TermD.mk t.f t.v (t.kids.map (normT bl))).f = t.f from rfl, hf] at h; cases h)
      obtain ⟨k, hk, rfl⟩ := List.mem_map.1 hx
      exact IH k hk
theorem normT_self (bl : Int → Bool) {t : TermD} (h : IsN bl t) : normT bl t = t := by
  induction h with
  | mk t hk hb ih =>
    rw [normT_eq]
    have e : normL bl t.f t.kids [] = t.kids := by
      by_cases hf : bl t.f = true
      · have hp := normL_perm bl t.f hf t.kids []
        rw [List.nil_append] at hp
        have e : t.kids.flatMap (fun k => flatK t.f (normT bl k)) = t.kids := by
          have : ∀ l : List TermD, (∀ k ∈ l, normT bl k = k ∧ k.f ≠ t.f) → l.flatMap (fun k => flatK t.f (normT bl k)) = l := by
            intro l
            induction l with
            | nil => intro _; rfl
            | cons x xs ihx =>
              intro hx
              have h0 := hx x (by simp)
              rw [List.flatMap_cons, ihx (fun k hk => hx k (by simp [hk])), h0.1]
              simp [flatK, h0.2]
          exact this _ (fun k hk => ⟨ih k hk, (hb hf).2 k hk⟩)
        rw [e] at hp
        exact sorted_ext (normL_sorted bl t.f hf t.kids .nil) (hb hf).1 hp
      · have hf : bl t.f = false := by simpa using hf
        rw [normL_map bl t.f hf, List.nil_append]
        exact (List.map_congr_left ih).trans (List.map_id' _)
    rw [e]
    cases t; rfl
/-- The form of a form is it. -/
theorem normT_idem (bl : Int → Bool) (t : TermD) : normT bl (normT bl t) = normT bl t := normT_self bl (normT_isN bl _ t (Nat.le_refl _))

/-- In any order. -/
theorem normT_perm (bl : Int → Bool) {f v : Int} (hf : bl f = true) {us bs : List TermD} (h : us.Perm bs) : normT bl (.mk f v us) = normT bl (.mk f v bs) := by
  rw [normT, normT]
  congr 1
  refine sorted_ext (normL_sorted bl f hf us .nil) (normL_sorted bl f hf bs .nil) ?_
  have h1 := normL_perm bl f hf us []
  have h2 := normL_perm bl f hf bs []
  exact (h1.trans (by simpa using h.flatMap_right _)).trans h2.symm
/-- In brackets. -/
theorem normT_in (bl : Int → Bool) {f v v' : Int} (hf : bl f = true) (us bs : List TermD) : normT bl (.mk f v (normT bl (.mk f v' us) :: bs)) = normT bl (.mk f v (us ++ bs)) := by
  rw [normT, normT]
  congr 1
  refine sorted_ext (normL_sorted bl f hf _ .nil) (normL_sorted bl f hf _ .nil) ?_
  have h1 := normL_perm bl f hf (normT bl (.mk f v' us) :: bs) []
  have h2 := normL_perm bl f hf (us ++ bs) []
  refine (h1.trans ?_).trans h2.symm
  rw [List.nil_append, List.nil_append, List.flatMap_cons, List.flatMap_append, normT_idem]
  refine List.Perm.append_right _ ?_
  have h3 := normL_perm bl f hf us []
  rw [List.nil_append] at h3
  have e : flatK f (normT bl (.mk f v' us)) = normL bl f us [] := by rw [normT]; simp [flatK, TermD.f, TermD.kids]
  rw [e]
  exact h3
end Go.Proofs.Ythbilahilmmfmaa

/- Weights as data. Conditions: none. -/
namespace Go.Proofs.Ythbilahilmmfmaa
set_option maxRecDepth 100000
open Go.RowKit

mutual
/-- The weight. -/
def wgtT (bl : Int → Bool) : TermD → Nat
  | .mk f _ ks => (if bl f && !ks.isEmpty then ks.length - 1 else 1) + wgtL bl ks
def wgtL (bl : Int → Bool) : List TermD → Nat
  | [] => 0
  | k :: ks => wgtT bl k + wgtL bl ks
end
theorem wgtT_eq (bl : Int → Bool) (t : TermD) : wgtT bl t = (if bl t.f && !t.kids.isEmpty then t.kids.length - 1 else 1) + wgtL bl t.kids := by cases t; rw [wgtT]; rfl
theorem wgtL_append (bl : Int → Bool) (a b : List TermD) : wgtL bl (a ++ b) = wgtL bl a + wgtL bl b := by
  induction a with
  | nil => simp [wgtL]
  | cons t ts ih => simp only [List.cons_append, wgtL, ih]; omega
theorem wgtL_next (bl : Int → Bool) {ts : List TermD} {k : Nat} (h : k < ts.length) : wgtL bl (ts.take (k + 1)) = wgtL bl (ts.take k) + wgtT bl ts[k] := by
  rw [List.take_succ_eq_append_getElem h, wgtL_append]
  simp [wgtL]
mutual
theorem wgtT_pos (bl : Int → Bool) : ∀ t : TermD, 1 ≤ wgtT bl t
  | .mk f v ks => by
    have h := wgtL_pos bl ks
    rw [wgtT]
    split
    · next hb =>
      have : ks ≠ [] := by intro e; subst e; simp at hb
      have := List.length_pos_iff.2 this
      omega
    · omega
theorem wgtL_pos (bl : Int → Bool) : ∀ ks : List TermD, ks.length ≤ wgtL bl ks
  | [] => by simp
  | k :: ks => by have := wgtT_pos bl k; have := wgtL_pos bl ks; rw [wgtL, List.length_cons]; omega
end
mutual
/-- A weight is less than twice the number of parts. -/
theorem wgtT_parts (bl : Int → Bool) : ∀ t : TermD, wgtT bl t + 1 ≤ 2 * partsT t
  | .mk f v ks => by
    have h := wgtL_parts bl ks
    rw [wgtT, partsT]
    split <;> omega
theorem wgtL_parts (bl : Int → Bool) : ∀ ks : List TermD, wgtL bl ks + ks.length ≤ 2 * partsL ks
  | [] => by simp [wgtL, partsL]
  | k :: ks => by have := wgtT_parts bl k; have := wgtL_parts bl ks; rw [wgtL, partsL, List.length_cons]; omega
end
end Go.Proofs.Ythbilahilmmfmaa

/- Right terms, weights, and terms that are made, as data; what a right term's form and weight are. Conditions: none. -/
namespace Go.Proofs.Ythbilahilmmfmaa
set_option maxRecDepth 100000
open Go.RowKit

/-- Before the one ahead of it, if there is one. -/
def befO (k : TermD) : Option TermD → Bool
  | some q => befT k q
  | none => false
mutual
/-- Right, of any size. -/
def rightT (ss : List SymD) : TermD → Bool
  | .mk f v ks => if f = -1 then decide (0 ≤ v ∧ v ≤ 99) && ks.isEmpty
    else decide (0 ≤ f ∧ f < ss.length) && v == 0 && (if blindAt ss f then decide (2 ≤ ks.length) else (ks.length : Int) == arityAt ss f) && rightL ss f none ks
/-- The Kids, the one ahead of them known. -/
def rightL (ss : List SymD) (f : Int) : Option TermD → List TermD → Bool
  | _, [] => true
  | p, k :: ks => !(blindAt ss f && (k.f == f || befO k p)) && rightT ss k && rightL ss f (some k) ks
end
theorem rightT_eq (ss : List SymD) (t : TermD) : rightT ss t = if t.f = -1 then decide (0 ≤ t.v ∧ t.v ≤ 99) && t.kids.isEmpty
    else decide (0 ≤ t.f ∧ t.f < ss.length) && t.v == 0 && (if blindAt ss t.f then decide (2 ≤ t.kids.length) else (t.kids.length : Int) == arityAt ss t.f) && rightL ss t.f none t.kids := by
  cases t; rw [rightT]; rfl
theorem rightL_all (ss : List SymD) (f : Int) : ∀ (ks : List TermD) (p : Option TermD), rightL ss f p ks = true → ∀ k ∈ ks, rightT ss k = true ∧ (blindAt ss f = true → k.f ≠ f)
  | [], _, _ => by simp
  | x :: xs, p, h => by
    rw [rightL, Bool.and_eq_true, Bool.and_eq_true] at h
    intro k hk
    rcases List.mem_cons.1 hk with rfl | hk
    · refine ⟨h.1.2, fun hb e => ?_⟩
      have := h.1.1
      rw [hb, e] at this
      simp at this
    · exact rightL_all ss f xs (some x) h.2 k hk
theorem rightL_from (ss : List SymD) (f : Int) (hb : blindAt ss f = true) : ∀ (ks : List TermD) (q : TermD), rightL ss f (some q) ks = true → (q :: ks).Pairwise leT
  | [], q, _ => by simp
  | x :: xs, q, h => by
    rw [rightL, Bool.and_eq_true, Bool.and_eq_true] at h
    have h0 : leT q x := by
      rw [← befT_leT]
      have := h.1.1
      rw [hb] at this
      simp only [Bool.true_and, Bool.not_eq_true', Bool.or_eq_false_iff] at this
      exact this.2
    have h1 := rightL_from ss f hb xs x h.2
    refine List.Pairwise.cons (fun y hy => ?_) h1
    rcases List.mem_cons.1 hy with rfl | hy
    · exact h0
    · exact leT_trans h0 ((List.pairwise_cons.1 h1).1 y hy)
theorem rightL_sorted (ss : List SymD) (f : Int) (hb : blindAt ss f = true) (ks : List TermD) (h : rightL ss f none ks = true) : ks.Pairwise leT := by
  cases ks with
  | nil => exact .nil
  | cons x xs =>
    rw [rightL, Bool.and_eq_true] at h
    exact rightL_from ss f hb xs x h.2
theorem right_isN (ss : List SymD) : ∀ (n : Nat) (t : TermD), partsT t ≤ n → rightT ss t = true → IsN (blindAt ss) t := by
  intro n
  induction n with
  | zero => intro t h; rw [partsT_eq] at h; omega
  | succ n ih =>
    intro t hn h
    rw [partsT_eq] at hn
    rw [rightT_eq] at h
    split at h
    · simp only [Bool.and_eq_true, List.isEmpty_iff] at h
      exact .mk t (by simp [h.2]) (fun _ => by simp [h.2])
    · simp only [Bool.and_eq_true] at h
      have ha := rightL_all ss t.f t.kids none h.2
      exact .mk t (fun k hk => ih k (by have := parts_kid hk; omega) (ha k hk).1) (fun hb => ⟨rightL_sorted ss t.f hb t.kids h.2, fun k hk => (ha k hk).2 hb⟩)
/-- One form of what is right is it. -/
theorem right_self (ss : List SymD) {t : TermD} (h : rightT ss t = true) : normT (blindAt ss) t = t := normT_self _ (right_isN ss _ t (Nat.le_refl _) h)


/-- A term that is made of a function and Kids. -/
def makeT (ss : List SymD) (f : Int) (ks : List TermD) : TermD :=
  if blindAt ss f = true ∧ ks = [] then .mk 0 0 []
  else if blindAt ss f = true ∧ ks.length = 1 then normT (blindAt ss) (ks.headD (.mk 0 0 []))
  else if ¬ (0 ≤ f ∧ f < ss.length) then .mk f 0 ks
  else normT (blindAt ss) (.mk f 0 ks)
theorem blindAt_lt {ss : List SymD} {f : Int} (h : blindAt ss f = true) : 0 ≤ f ∧ f < ss.length := by
  unfold blindAt at h
  split at h
  · next h0 =>
    refine ⟨h0, ?_⟩
    by_cases hl : f.toNat < ss.length
    · omega
    · rw [List.getElem?_eq_none (by omega)] at h; cases h
  · cases h
theorem makeT_blind {ss : List SymD} {f : Int} (h : blindAt ss f = true) {ks : List TermD} (hl : 2 ≤ ks.length) : makeT ss f ks = normT (blindAt ss) (.mk f 0 ks) := by
  unfold makeT
  rw [if_neg (by rintro ⟨_, rfl⟩; simp at hl), if_neg (by rintro ⟨_, e⟩; omega), if_neg (by simpa using blindAt_lt h)]
/-- In any order. -/
theorem makeT_perm {ss : List SymD} {f : Int} (h : blindAt ss f = true) {us bs : List TermD} (hl : 2 ≤ us.length) (hp : us.Perm bs) : makeT ss f us = makeT ss f bs := by
  rw [makeT_blind h hl, makeT_blind h (by rw [← hp.length_eq]; exact hl)]
  exact normT_perm _ h hp
/-- In brackets. -/
theorem makeT_in {ss : List SymD} {f : Int} (h : blindAt ss f = true) {us bs : List TermD} (ha : 2 ≤ us.length) (hb : 1 ≤ bs.length) : makeT ss f (makeT ss f us :: bs) = makeT ss f (us ++ bs) := by
  rw [makeT_blind h (by simp; omega), makeT_blind h ha, makeT_blind h (by simp; omega)]
  exact normT_in _ h us bs
end Go.Proofs.Ythbilahilmmfmaa

/- A region that draws its order, whose operations only read and whose callees may lay blocks of their own, walked once, in the order of the text: the class of worlds in which all that was there lies as it lay. Conditions: none. -/
namespace Go.Proofs.Ythbilahilmmfmaa
set_option maxRecDepth 100000
open Go.RowKit

/-- A world in which all that lay in w lies as it lay. -/
structure BW (w : World) where
  u : World
  b : Below w.heap.size w u
instance (w : World) : Inhabited (BW w) := ⟨⟨w, Below.refl _ _⟩⟩
theorem wp_region_below {P : Program} {id : Nat} {Q : Exit → Act → World → Prop} {a : Act} {w : World} {l : List Oper} (hm : P.follows .mixedOrders = true) (hB : Region.lexB .any l.toArray = true)
    (h : wpQuiet P l.toArray (fun w' => ∃ p : BW w, w' = p.u) (fun a' => ∀ w', (∃ p : BW w, w' = p.u) → Q .normal a' w') l a) : (Code.region id l.toArray true).wp P Q a w :=
  wp_region_quiet (C := fun w' => ∃ p : BW w, w' = p.u) hm hB ⟨⟨w.drew, (Below.refl _ _).drew⟩, rfl⟩ (by simpa using h)
/-- What was there is there. -/
theorem cellB {w : World} {a : Addr} {v : Value} (h : w.cell? a = some v) (p : BW w) : p.u.cell? a = some v := (p.b.cell (World.block_lt_of_cell? w a h)).trans h
/-- A callee's contract, met in a world of the class. -/
theorem callsB {P : Program} {f : FuncId} {args : Array Value} {w : World} {p : BW w} {v : Value}
    (h : Calls P f args p.u fun e w' => e = .returned v ∧ Below p.u.heap.size p.u w') : Calls P f args p.u fun e w'' => e = .returned v ∧ ∃ q : BW w, w'' = q.u :=
  h.mono fun _ w' ⟨he, hb⟩ => ⟨he, ⟨w', p.b.trans (hb.mono p.b.size)⟩, rfl⟩
end Go.Proofs.Ythbilahilmmfmaa

/- Whether a term is right, as the specification tells it. Conditions: terms of at most 549755813888 parts, at most 1048577 functions. -/
namespace Go.Proofs.Ythbilahilmmfmaa
set_option maxRecDepth 100000
open Go.RowKit Go.BigFrame

theorem rightT_mk (ss : List SymD) (f v : Int) (ks : List TermD) : rightT ss (.mk f v ks) = if f = -1 then decide (0 ≤ v ∧ v ≤ 99) && ks.isEmpty
    else decide (0 ≤ f ∧ f < ss.length) && v == 0 && (if blindAt ss f then decide (2 ≤ ks.length) else (ks.length : Int) == arityAt ss f) && rightL ss f none ks := by rw [rightT]

theorem l1In_any (x lo hi : Int) (w : World) : Calls Try.prog 64 #[.int .i64 x, .int .i64 lo, .int .i64 hi] w fun e w' => e = .returned (.bool (decide (lo ≤ x) && decide (x ≤ hi))) ∧ w' = w := by
  by_cases h : lo ≤ x
  · go_enter Try.func64, Try.ntmps64
    go_wp2
    go_ret
    exact ⟨rtB (by simp [h]), rfl⟩
  · go_enter Try.func64, Try.ntmps64
    go_wp2
    go_ret
    exact ⟨rtB (by simp; omega), rfl⟩

end Go.Proofs.Ythbilahilmmfmaa

/- Sums of products, the greatest number, and whether numbers are few and small: the specification's way. Conditions: at most 1048577 numbers, from -1000 to 1000. -/
namespace Go.Proofs.Ythbilahilmmfmaa
set_option maxRecDepth 100000
open Go.RowKit

def dotL (a x : List Int) : Int := (List.zipWith (fun p q => p * q) a x).sum
def smallL (a : List Int) : Prop := ∀ v ∈ a, -1000 ≤ v ∧ v ≤ 1000
theorem zipWith_take_snoc {a x : List Int} {k : Nat} (h : k < a.length) (h' : k < x.length) : dotL (a.take (k + 1)) x = dotL (a.take k) x + a[k] * x[k] := by
  unfold dotL
  have e : List.zipWith (fun p q : Int => p * q) (a.take (k + 1)) x = List.zipWith (fun p q : Int => p * q) (a.take k) x ++ [a[k] * x[k]] := by
    apply List.ext_getElem
    · simp; omega
    · intro i h1 h2
      simp only [List.length_zipWith, List.length_take] at h1
      rw [List.getElem_append]
      split
      · rename_i h3
        simp
      · rename_i h3
        simp only [List.length_zipWith, List.length_take] at h3
        have : i = k := by omega
        subst this
        simp
  rw [e, List.sum_append]
  simp
theorem prod_bound {p q : Int} (h : -1000 ≤ p ∧ p ≤ 1000) (k : -1000 ≤ q ∧ q ≤ 1000) : -1000000 ≤ p * q ∧ p * q ≤ 1000000 := by
  have h1 : (p + 1000) * (q + 1000) = p * q + 1000 * p + 1000 * q + 1000000 := by rw [Int.add_mul, Int.mul_add, Int.mul_add]; omega
  have h2 : (1000 - p) * (1000 - q) = p * q - 1000 * p - 1000 * q + 1000000 := by rw [Int.sub_mul, Int.mul_sub, Int.mul_sub]; omega
  have h3 : (p + 1000) * (1000 - q) = 1000 * p - p * q + 1000000 - 1000 * q := by rw [Int.add_mul, Int.mul_sub, Int.mul_sub]; omega
  have h4 : (1000 - p) * (q + 1000) = 1000 * q + 1000000 - p * q - 1000 * p := by rw [Int.sub_mul, Int.mul_add, Int.mul_add]; omega
  have g1 := Int.mul_nonneg (show 0 ≤ p + 1000 by omega) (show 0 ≤ q + 1000 by omega)
  have g2 := Int.mul_nonneg (show 0 ≤ 1000 - p by omega) (show 0 ≤ 1000 - q by omega)
  have g3 := Int.mul_nonneg (show 0 ≤ p + 1000 by omega) (show 0 ≤ 1000 - q by omega)
  have g4 := Int.mul_nonneg (show 0 ≤ 1000 - p by omega) (show 0 ≤ q + 1000 by omega)
  rw [h1] at g1
  rw [h2] at g2
  rw [h3] at g3
  rw [h4] at g4
  omega
theorem dot_bound {a x : List Int} (ha : smallL a) (hx : smallL x) (hl : a.length ≤ x.length) : ∀ k, k ≤ a.length → -1000000 * (k : Int) ≤ dotL (a.take k) x ∧ dotL (a.take k) x ≤ 1000000 * (k : Int)
  | 0, _ => by simp [dotL]
  | k + 1, h => by
    have ih := dot_bound ha hx hl k (by omega)
    rw [zipWith_take_snoc (by omega) (by omega)]
    have := prod_bound (ha a[k] (List.getElem_mem _)) (hx x[k] (List.getElem_mem _))
    omega

set_option maxHeartbeats 800000 in
theorem l7Total_any (a0 a1 : Option Addr) (a x : List Int) (c0 c1 : Nat) (at0 : Nat) (w : World) (hr : Rd w a0 a) (hr' : Rd w a1 x) (hl : a.length ≤ 1048577) (hl' : x.length ≤ 1048577) (hx : at0 + a.length ≤ x.length) (ha : smallL a) (hs : smallL x) :
    Calls Try.prog 49 #[.slice a0 a.length c0, .slice a1 x.length c1, .int .i64 at0] w fun e w' => e = .returned (.int .i64 (dotL a (x.drop at0))) ∧ ∃ q, w' = w.drewN q := by
  have HR : Hid (Rd w a0 a) := hr
  have HR' : Hid (Rd w a1 x) := hr'
  have HB : Hid (∀ k, k ≤ a.length → -1000000 * (k : Int) ≤ dotL (a.take k) (x.drop at0) ∧ dotL (a.take k) (x.drop at0) ≤ 1000000 * (k : Int)) := dot_bound ha (fun v hv => hs v (List.mem_of_mem_drop hv)) (by simp; omega)
  clear hr hr'
  go_enter Try.func49, Try.ntmps49
  go_wp2_with fail
  go_loopw [7, 8] (fun t i wr => ∃ k q : Nat, k ≤ a.length ∧ i = .int .i64 k ∧ t = .int .i64 (dotL (a.take k) (x.drop at0)) ∧ wr = w.drewN q) (fun _ i _ => a.length - (intOf i).toNat)
  case atStart => exact ⟨0, 0, Nat.zero_le _, rfl, by simp [dotL], rfl⟩
  case round =>
    obtain ⟨k, q, hk, rfl, rfl, rfl⟩ := hrel
    by_cases hk' : k < a.length
    · obtain ⟨b, off, rfl, _, c2⟩ := Rd.get HR.out hk'
      obtain ⟨b', off', rfl, _, c3⟩ := Rd.get (i := at0 + k) HR'.out (by omega)
      have hki : (k : Int) < (a.length : Int) := by omega
      have hki0 : (0 : Int) ≤ (k : Int) := by omega
      have hai : (at0 : Int) + (k : Int) < (x.length : Int) := by omega
      have hai0 : (0 : Int) ≤ (at0 : Int) + (k : Int) := by omega
      have hw1 : IntKind.i64.wrap ((at0 : Int) + (k : Int)) = (at0 : Int) + (k : Int) := by rw [IntKind.wrap_i64]; omega
      have hw2 : ((at0 : Int) + (k : Int)).toNat = at0 + k := by omega
      have B1 := HB.out k (by omega)
      have B2 := HB.out (k + 1) (by omega)
      have E0 := zipWith_take_snoc (a := a) (x := x.drop at0) (k := k) hk' (by simp; omega)
      have E1 : (x.drop at0)[k]'(by simp; omega) = x[at0 + k] := by simp
      rw [E1] at E0
      have pb := prod_bound (ha a[k] (List.getElem_mem _)) (hs x[at0 + k] (List.getElem_mem _))
      have HE : Hid (dotL (a.take (k + 1)) (x.drop at0) = dotL (a.take k) (x.drop at0) + a[k] * x[at0 + k]) := E0
      clear E0 E1 HB B2
      generalize a[k] = p at c2 HE pb
      generalize x[at0 + k] = y at c3 HE pb
      generalize dotL (a.take k) (x.drop at0) = d at B1 HE ⊢
      go_wp2_with fail
      go_quiet (fail)
      go_wp2_with fail
      refine ⟨⟨k + 1, _, by omega, by go_num, by rw [HE.out], rfl⟩, by simp [intOf]; omega⟩
    · have hki : ¬ (k : Int) < (a.length : Int) := by omega
      have e : a.take k = a := List.take_of_length_le (by omega)
      rw [e]
      go_wp2_with fail
      go_ret
      exact ⟨rfl, _, rfl⟩

/-- The greatest of them, 0 at least. -/
def topL (a : List Int) : Int := a.foldl max 0
theorem max_any (p q : Int) (w : World) : Calls Try.prog 89 #[.int .i64 p, .int .i64 q] w fun e w' => e = .returned (.int .i64 (max p q)) ∧ w' = w := by
  by_cases h : q < p
  · have e : max p q = p := by omega
    rw [e]
    go_enter Try.func89, Try.ntmps89
    go_wp2
    go_ret
    exact ⟨rfl, rfl⟩
  · have e : max p q = q := by omega
    rw [e]
    go_enter Try.func89, Try.ntmps89
    go_wp2
    go_ret
    exact ⟨rfl, rfl⟩
theorem l7Top_any (a0 : Option Addr) (a : List Int) (c0 : Nat) (w : World) (hr : Rd w a0 a) (hl : a.length ≤ 1048577) :
    Calls Try.prog 73 #[.slice a0 a.length c0] w fun e w' => e = .returned (.int .i64 (topL a)) ∧ w' = w := by
  have HR : Hid (Rd w a0 a) := hr
  clear hr
  go_enter Try.func73, Try.ntmps73
  go_wp2_with fail
  go_loop [3, 4] (fun t i => ∃ k : Nat, k ≤ a.length ∧ i = .int .i64 k ∧ t = .int .i64 ((a.take k).foldl max 0)) (fun _ i => a.length - (intOf i).toNat)
  case atStart => exact ⟨0, Nat.zero_le _, rfl, rfl⟩
  case round =>
    obtain ⟨k, hk, rfl, rfl⟩ := hrel
    by_cases hk' : k < a.length
    · obtain ⟨b, off, rfl, _, c2⟩ := Rd.get HR.out hk'
      have hki : (k : Int) < (a.length : Int) := by omega
      have hki0 : (0 : Int) ≤ (k : Int) := by omega
      have HE : Hid ((a.take (k + 1)).foldl max 0 = max ((a.take k).foldl max 0) a[k]) := by show _ = _; rw [take_snoc hk', List.foldl_append]; rfl
      generalize a[k] = p at c2 HE
      generalize (a.take k).foldl max 0 = d at HE ⊢
      have C := max_any d p w
      generalize max d p = m at C HE
      go_wp2_with (go_at_call 89; refine C.mono ?_; rintro e w2 ⟨rfl, hw⟩; subst w2; clear C)
      go_round
      case rel => exact ⟨k + 1, by omega, by go_num, by rw [HE.out]⟩
      case measure => simp [intOf]; omega
    · have hki : ¬ (k : Int) < (a.length : Int) := by omega
      have e : a.take k = a := List.take_of_length_le (by omega)
      rw [e]
      go_wp2_with fail
      go_ret
      exact ⟨rfl, rfl⟩

def fineB (a : List Int) : Bool := a.all (fun v => decide (1 ≤ v) && decide (v ≤ 4)) && (decide (1 ≤ a.length) && decide (a.length ≤ 5))
theorem l7Fine_any (a0 : Option Addr) (a : List Int) (c0 : Nat) (w : World) (hr : Rd w a0 a) (hl : a.length ≤ 1048577) :
    Calls Try.prog 43 #[.slice a0 a.length c0] w fun e w' => e = .returned (.bool (fineB a)) ∧ w' = w := by
  have HR : Hid (Rd w a0 a) := hr
  clear hr
  go_enter Try.func43, Try.ntmps43
  go_wp2_with fail
  go_loop [3] (fun i => ∃ k : Nat, k ≤ a.length ∧ i = .int .i64 k ∧ Hid ((a.take k).all (fun v => decide (1 ≤ v) && decide (v ≤ 4)) = true)) (fun i => a.length - (intOf i).toNat)
  case atStart => exact ⟨0, Nat.zero_le _, rfl, rfl⟩
  case round =>
    obtain ⟨k, hk, rfl, HA⟩ := hrel
    by_cases hk' : k < a.length
    · obtain ⟨b, off, rfl, _, c2⟩ := Rd.get HR.out hk'
      have hki : (k : Int) < (a.length : Int) := by omega
      have hki0 : (0 : Int) ≤ (k : Int) := by omega
      have HE : Hid ((a.take (k + 1)).all (fun v => decide (1 ≤ v) && decide (v ≤ 4)) = (decide (1 ≤ a[k]) && decide (a[k] ≤ 4))) := by show _ = _; rw [take_snoc hk', List.all_append, HA.out]; simp
      have HF : Hid ((decide (1 ≤ a[k]) && decide (a[k] ≤ 4)) = false → fineB a = false) := fun h => by
        have : a.all (fun v => decide (1 ≤ v) && decide (v ≤ 4)) = false := List.all_eq_false.2 ⟨a[k], List.getElem_mem hk', by rw [h]; simp⟩
        simp [fineB, this]
      generalize a[k] = p at c2 HE HF
      have C := l1In_any p 1 4 w
      generalize (decide (1 ≤ p) && decide (p ≤ 4)) = bb at C HE HF
      cases bb
      · go_wp2_with (go_at_call 64; refine C.mono ?_; rintro e w2 ⟨rfl, hw⟩; subst w2; clear C)
        go_ret
        exact ⟨rtB (HF.out trivial).symm, rfl⟩
      · go_wp2_with (go_at_call 64; refine C.mono ?_; rintro e w2 ⟨rfl, hw⟩; subst w2; clear C)
        go_round
        case rel => exact ⟨k + 1, by omega, by go_num, HE.out⟩
        case measure => simp [intOf]; omega
    · have hki : ¬ (k : Int) < (a.length : Int) := by omega
      have e : a.take k = a := List.take_of_length_le (by omega)
      have HE : Hid (fineB a = (decide (1 ≤ (a.length : Int)) && decide ((a.length : Int) ≤ 5))) := by
        have h := HA.out
        rw [e] at h
        show _ = _
        simp only [fineB, h, Bool.true_and]
        congr 1
        · exact decide_eq_decide.2 (by omega)
        · exact decide_eq_decide.2 (by omega)
      have C := l1In_any (a.length : Int) 1 5 w
      clear e HA
      rw [← HE.out] at C
      go_wp2_with (go_at_call 64; refine C.mono ?_; rintro e w2 ⟨rfl, hw⟩; subst w2; clear C)
      go_ret
      exact ⟨rfl, rfl⟩
end Go.Proofs.Ythbilahilmmfmaa

/- Contracts of the specification's NumIn and NumAdd, and of the program's NumAdd: a number in a list, and put into it. Conditions: at most 1048577 numbers. -/
namespace Go.Proofs.Ythbilahilmmfmaa
set_option maxRecDepth 100000
open Go.RowKit

theorem one_new (w : World) (u : Value) (t : TypeId) : ∀ j v, [u][j]? = some v → (w.alloc (.cells #[u] t)).cell? ((⟨w.heap.size, 0, none⟩ : Addr).add j) = some v := by
  intro j v hj
  match j, hj with
  | 0, hj => simp at hj; subst hj; simp [Addr.add]
  | j + 1, hj => simp at hj
theorem one_cell (n : Int) : ∀ u ∈ [Value.int .i64 n], u.oneCell' = true := by
  intro u hu; simp at hu; subst hu; rfl
theorem own_some {w : World} {base : Nat} {e : TypeId} {size : Nat} {v : Value} {n : Nat} {xs : List Value} {a : Addr} {m c : Nat} {q : Prop} (h : w.ownsRow base e size v n xs) (hv : v = .slice none 0 0 ↔ .slice (some a) m c = Value.slice none 0 0 ∧ q) : ∃ g c, v = .slice (some ⟨g, 0, none⟩) n c := by
  rcases h.2 with ⟨h, _⟩ | ⟨g, cap, _, rfl, _⟩
  · have := (hv.1 h).1; simp at this
  · exact ⟨g, cap, rfl⟩
theorem Try.info3 : (Try.prog.info? 3).map (fun i => (i.zero, i.size, i.bytes)) = some (some (.int .i64 0), 1, 8) := by kernel_rfl

theorem own_one {w : World} {B g c : Nat} {o : List Int} {x : Int} (h : w.ownsRow B 3 1 (.slice (some ⟨g, 0, none⟩) (o.length + 1) c) (o.length + 1) (ints o ++ [.int .i64 x])) :
    w.ownsRow B 3 1 (.slice (some ⟨g, 0, none⟩) (o ++ [x]).length c) (o ++ [x]).length (ints (o ++ [x])) := by
  simpa [ints] using h
theorem own_two {w : World} {B g c : Nat} {o : List Int} {x y : Int} (h : w.ownsRow B 3 1 (.slice (some ⟨g, 0, none⟩) (o.length + 1 + 1) c) (o.length + 1 + 1) (ints o ++ [.int .i64 x] ++ [.int .i64 y])) :
    w.ownsRow B 3 1 (.slice (some ⟨g, 0, none⟩) (o ++ [x] ++ [y]).length c) (o ++ [x] ++ [y]).length (ints (o ++ [x] ++ [y])) := by
  simpa [ints] using h

theorem add_at (b off j : Nat) : (⟨b, off, none⟩ : Addr).add j = ⟨b, off + j, none⟩ := by
  by_cases h : j = 0 <;> simp [Addr.add, h]
theorem news_of {w : World} {b off : Nat} {l : List Int} (hc : ∀ i, i < l.length → w.cell? ⟨b, off + i, none⟩ = some (.int .i64 (l[i]?.getD 0))) : ∀ j u, (ints l)[j]? = some u → w.cell? ((⟨b, off, none⟩ : Addr).add j) = some u := by
  intro j u h
  have hj : j < l.length := by
    have := (List.getElem?_eq_some_iff.1 h).1
    simpa [ints] using this
  rw [add_at, hc j hj, ← h]
  simp [ints, hj]
theorem news_take {w W : World} {b : Nat} {zs : List Int} {k : Nat} (hlt : b < w.heap.size) (hc : ∀ i, i < zs.length → w.cell? ⟨b, 0 + i, none⟩ = some (.int .i64 (zs[i]?.getD 0))) (hb : Below w.heap.size w W) (o : Obj) :
    ∀ j u, (ints (zs.take k))[j]? = some u → (W.alloc o).cell? ((⟨b, 0, none⟩ : Addr).add j) = some u := by
  refine news_of (off := 0) fun i h => ?_
  rw [List.length_take] at h
  rw [(hb.alloc hb.size o).cell (p := ⟨b, 0 + i, none⟩) hlt, hc i (by omega), List.getElem?_take, if_pos (by omega)]
theorem news_drop {w W : World} {b : Nat} {zs : List Int} {k : Nat} (hlt : b < w.heap.size) (hc : ∀ i, i < zs.length → w.cell? ⟨b, 0 + i, none⟩ = some (.int .i64 (zs[i]?.getD 0))) (hb : Below w.heap.size w W) :
    ∀ j u, (ints (zs.drop k))[j]? = some u → W.cell? ((⟨b, k, none⟩ : Addr).add j) = some u := by
  refine news_of (off := k) fun i h => ?_
  rw [List.length_drop] at h
  have := hc (k + i) (by omega)
  rw [show 0 + (k + i) = k + i by omega] at this
  rw [hb.cell (p := ⟨b, k + i, none⟩) hlt, this, List.getElem?_drop]
theorem below_app {w w2 w3 : World} {g n c : Nat} {e : TypeId} {size : Nat} {xs : List Value} {o : Obj} (hb : Below w.heap.size w w2) (hown : w2.ownsRow w.heap.size e size (.slice (some ⟨g, 0, none⟩) n c) n xs) (hg : (w2.alloc o).grownBy w3 (some g)) : Below w.heap.size w w3 :=
  (hb.alloc hb.size o).grown hg (by have := hb.size; simp; omega) (fun k hk => by cases hk; exact (hown.lt g rfl).1)
theorem below_app' {w w2 w3 : World} {g n c : Nat} {e : TypeId} {size : Nat} {xs : List Value} (hb : Below w.heap.size w w2) (hown : w2.ownsRow w.heap.size e size (.slice (some ⟨g, 0, none⟩) n c) n xs) (hg : w2.grownBy w3 (some g)) : Below w.heap.size w w3 :=
  hb.grown hg hb.size (fun k hk => by cases hk; exact (hown.lt g rfl).1)
theorem own_cap {w : World} {base : Nat} {e : TypeId} {size g n c : Nat} {xs : List Value} (h : w.ownsRow base e size (.slice (some ⟨g, 0, none⟩) n c) n xs) : n ≤ c := by
  rcases h.2 with ⟨h, _⟩ | ⟨g', cap, _, h, _, _, hn, _⟩
  · simp at h
  · simp at h; omega
theorem ints_one (l : List Int) : ∀ u ∈ ints l, u.oneCell' = true := by
  intro u hu; simp [ints] at hu; obtain ⟨n, _, rfl⟩ := hu; rfl
end Go.Proofs.Ythbilahilmmfmaa

/- All ways of few numbers, in order: the specification's way. Conditions: at most 5 numbers that come to at most 4. -/
namespace Go.Proofs.Ythbilahilmmfmaa
set_option maxRecDepth 100000
open Go.RowKit

theorem Try.infoR : (Try.prog.info? 24).map (fun i => (i.zero, i.size, i.bytes)) = some (some (.slice none 0 0), 1, 24) := by kernel_rfl
/-- The numbers lie from 'a' on, in a block of S. -/
def RdI (S : Nat → Prop) (w : World) (a : Option Addr) (zs : List Int) : Prop :=
  ∃ b off, a = some ⟨b, off, none⟩ ∧ S b ∧ b < w.heap.size ∧ ∀ i, i < zs.length → w.cell? ⟨b, off + i, none⟩ = some (.int .i64 (zs[i]?.getD 0))
theorem RdI.rd {S : Nat → Prop} {w : World} {a : Option Addr} {zs : List Int} (h : RdI S w a zs) : Rd w a zs := by
  obtain ⟨b, off, h1, _, h3, h4⟩ := h; exact .inr ⟨b, off, h1, h3, h4⟩
theorem RdI.grow {S S' T : Nat → Prop} {w w' : World} {a : Option Addr} {zs : List Int} (h : RdI S w a zs) (hs : Stay T w w') (ht : ∀ x, S x → x < w.heap.size → T x) (hS : ∀ x, S x → x < w.heap.size → S' x) : RdI S' w' a zs := by
  obtain ⟨b, off, h1, h2, h3, h4⟩ := h
  exact ⟨b, off, h1, hS b h2 h3, Nat.lt_of_lt_of_le h3 hs.size, fun i hi => hs.cell (h4 i hi) (ht b h2 h3)⟩
/-- The values of a row of rows. -/
def RowsV (S : Nat → Prop) (w : World) (vs : List Value) (rows : List (List Int)) : Prop := vs.length = rows.length ∧ ∀ i, (h : i < vs.length) → (h' : i < rows.length) → ∃ a c, vs[i] = .slice a rows[i].length c ∧ RdI S w a rows[i]
theorem RowsV.grow {S S' T : Nat → Prop} {w w' : World} {vs : List Value} {rows : List (List Int)} (h : RowsV S w vs rows) (hs : Stay T w w') (ht : ∀ x, S x → x < w.heap.size → T x) (hS : ∀ x, S x → x < w.heap.size → S' x) : RowsV S' w' vs rows :=
  ⟨h.1, fun i h1 h2 => by obtain ⟨a, c, e, r⟩ := h.2 i h1 h2; exact ⟨a, c, e, r.grow hs ht hS⟩⟩
theorem RowsV.snoc {S : Nat → Prop} {w : World} {vs : List Value} {rows : List (List Int)} (h : RowsV S w vs rows) {a : Option Addr} {c : Nat} {row : List Int} (hr : RdI S w a row) : RowsV S w (vs ++ [.slice a row.length c]) (rows ++ [row]) := by
  refine ⟨by simp [h.1], fun i h1 h2 => ?_⟩
  by_cases q : i < vs.length
  · have q2 : i < rows.length := by have := h.1; omega
    rw [List.getElem_append_left q]
    simp only [List.getElem_append_left q2]
    exact h.2 i q q2
  · have e : i = vs.length := by simp at h1; omega
    have e2 : i = rows.length := by rw [e, h.1]
    refine ⟨a, c, ?_, ?_⟩
    · rw [List.getElem_append_right (by omega)]
      simp only [List.getElem_singleton]
      congr 1
      rw [List.getElem_append_right (by omega)]; simp
    · rw [List.getElem_append_right (by omega)]; simpa using hr
/-- A list of lists, all in blocks of S. -/
def RdQI (S : Nat → Prop) (w : World) (a : Option Addr) (rows : List (List Int)) : Prop :=
  ∃ b off, a = some ⟨b, off, none⟩ ∧ S b ∧ b < w.heap.size ∧ ∀ i, (h : i < rows.length) → ∃ ai ci, w.cell? ⟨b, off + i, none⟩ = some (.slice ai rows[i].length ci) ∧ RdI S w ai rows[i]
theorem RdQI.rd {S : Nat → Prop} {w : World} {a : Option Addr} {rows : List (List Int)} (h : RdQI S w a rows) : RdQ w a rows := by
  obtain ⟨b, off, h1, _, h3, h4⟩ := h
  exact .inr ⟨b, off, h1, h3, fun i hi => by obtain ⟨ai, ci, q1, q2⟩ := h4 i hi; exact ⟨ai, ci, q1, q2.rd⟩⟩
theorem RdQI.grow {S S' T : Nat → Prop} {w w' : World} {a : Option Addr} {rows : List (List Int)} (h : RdQI S w a rows) (hs : Stay T w w') (ht : ∀ x, S x → x < w.heap.size → T x) (hS : ∀ x, S x → x < w.heap.size → S' x) : RdQI S' w' a rows := by
  obtain ⟨b, off, h1, h2, h3, h4⟩ := h
  exact ⟨b, off, h1, hS b h2 h3, Nat.lt_of_lt_of_le h3 hs.size, fun i hi => by
    obtain ⟨ai, ci, q1, q2⟩ := h4 i hi
    exact ⟨ai, ci, hs.cell q1 (ht b h2 h3), q2.grow hs ht hS⟩⟩
theorem RowsV.rd {S S' : Nat → Prop} {w : World} {lo g n c : Nat} {T : TypeId} {vs : List Value} {rows : List (List Int)} (hn : n = rows.length) (h : w.ownsRow lo T 1 (.slice (some ⟨g, 0, none⟩) n c) n vs) (hv : RowsV S w vs rows) (hg : S' g) (hS : ∀ x, S x → S' x) : RdQI S' w (some ⟨g, 0, none⟩) rows := by
  subst hn
  refine ⟨g, 0, rfl, hg, (h.lt g rfl).2, fun i hi => ?_⟩
  have hiv : i < vs.length := by have := hv.1; omega
  obtain ⟨a, cc, e, r⟩ := hv.2 i hiv hi
  have h1 := h.cellAt i (by omega)
  rw [List.getElem?_eq_getElem hiv, e] at h1
  rw [Nat.zero_add]
  exact ⟨a, cc, h1, r.grow (Stay.refl (fun _ => True) _) (fun _ _ _ => trivial) (fun x hx _ => hS x hx)⟩
theorem own_int {W : World} {N n : Nat} {z : Int} (hN : N ≤ W.heap.size) (hn : n = W.heap.size) : (W.alloc (.cells #[.int .i64 z] 3)).ownsRow N 3 1 (.slice (some ⟨n, 0, none⟩) 1 1) 1 [.int .i64 z] := by
  subst hn
  exact ⟨rfl, .inr ⟨W.heap.size, 1, #[.int .i64 z], rfl, hN, heap_alloc_new W _, Nat.le_refl _, by unfold maxLen; omega, rfl, rfl⟩⟩
theorem own_frB {w w' : World} {base g n c : Nat} {e : TypeId} {size : Nat} {xs : List Value} (h : w.ownsRow base e size (.slice (some ⟨g, 0, none⟩) n c) n xs) (hb : w'.heap[g]? = w.heap[g]?) : w'.ownsRow base e size (.slice (some ⟨g, 0, none⟩) n c) n xs := by
  obtain ⟨h1, h2⟩ := h
  refine ⟨h1, ?_⟩
  rcases h2 with ⟨h, _⟩ | ⟨g', cap, cur, h, hg, hh, r⟩
  · simp at h
  · cases h
    exact .inr ⟨g, c, cur, rfl, hg, hb.trans hh, r⟩
theorem own_rdi {S : Nat → Prop} {w : World} {base g c n : Nat} {zs : List Int} (hn : n = zs.length) (h : w.ownsRow base 3 1 (.slice (some ⟨g, 0, none⟩) n c) n (ints zs)) (hg : S g) : RdI S w (some ⟨g, 0, none⟩) zs := by
  subst hn
  refine ⟨g, 0, rfl, hg, (h.lt g rfl).2, fun i hi => ?_⟩
  rw [show (0 + i) = i by omega, h.cellAt i (by omega)]
  simp [ints, hi]
theorem blk_eq {g k n c : Nat} (e : (Value.slice (some ⟨g, 0, none⟩) n c).ownBlock = some k) : k = g := by
  have e2 : g = k := by simpa [Value.ownBlock] using e
  exact e2.symm
theorem two_stay {wr w3 w5 : World} {o : Obj} {g2 n c : Nat} (hb3 : Below wr.heap.size wr w3) (hg : (w3.alloc o).grownBy w5 (Value.slice (some ⟨g2, 0, none⟩) n c).ownBlock) : Stay (fun x => x ≠ g2) wr w5 :=
  ((Stay.of_below hb3 (fun _ hk _ => hk)).trans (Stay.alloc _ _ _)).trans (Stay.grown hg (fun _ e q => q (blk_eq e)))
theorem own_at {g g3 k n c m c3 : Nat} (h : (Value.slice (some ⟨g3, 0, none⟩) m c3).ownBlock = (Value.slice (some ⟨g, 0, none⟩) n c).ownBlock ∨ (Value.slice (some ⟨g3, 0, none⟩) m c3).ownBlock = some k) : g3 = g ∨ g3 = k := by
  simpa [Value.ownBlock] using h
theorem slice_one (a : Option Addr) (n c : Nat) : ∀ u ∈ [Value.slice a n c], u.oneCell' = true := by intro u hu; simp at hu; subst hu; rfl
theorem ways_len : ∀ n, n < 6 → ∀ m, m < 5 → (waysL n m).length ≤ 126 := by decide +kernel
/-- The rows with less than k ahead, and the first i with k. -/
def waysP (n m k i : Nat) : List (List Int) := (List.range k).flatMap (fun k : Nat => (waysL n (m - k)).map (fun x => (k : Int) :: x)) ++ ((waysL n (m - k)).take i).map (fun x => (k : Int) :: x)
theorem waysP_zero (n m : Nat) : waysP n m 0 0 = [] := by simp [waysP]
theorem waysP_step {n m k i : Nat} (h : i < (waysL n (m - k)).length) : waysP n m k (i + 1) = waysP n m k i ++ [(k : Int) :: (waysL n (m - k))[i]] := by
  unfold waysP
  rw [List.take_succ_eq_append_getElem h, List.map_append, List.append_assoc]; rfl
theorem waysP_next {n m k i : Nat} (h : (waysL n (m - k)).length ≤ i) : waysP n m k i = waysP n m (k + 1) 0 := by
  unfold waysP
  rw [List.take_of_length_le h, List.range_succ, List.flatMap_append]
  simp
theorem waysP_end (n m : Nat) : waysP n m (m + 1) 0 = waysL (n + 1) m := by simp [waysP, waysL]
theorem waysP_le {n m k i : Nat} (hk : k ≤ m) (hi : i ≤ (waysL n (m - k)).length) (hn : n < 5) (hm : m < 5) : (waysP n m k i).length ≤ 126 := by
  have h1 : (waysP n m k i).length ≤ (waysP n m (m + 1) 0).length := by
    have mono : ∀ j, k + 1 + j ≤ m + 1 → (waysP n m (k + 1) 0).length ≤ (waysP n m (k + 1 + j) 0).length := by
      intro j
      induction j with
      | zero => intro _; exact Nat.le_refl _
      | succ j ih =>
        intro hj
        refine Nat.le_trans (ih (by omega)) ?_
        rw [← Nat.add_assoc, ← waysP_next (k := k + 1 + j) (i := (waysL n (m - (k + 1 + j))).length) (Nat.le_refl _)]
        simp [waysP]
    have := mono (m - k) (by omega)
    rw [show k + 1 + (m - k) = m + 1 by omega] at this
    refine Nat.le_trans ?_ this
    rw [← waysP_next (k := k) (i := (waysL n (m - k)).length) (Nat.le_refl _)]
    simp only [waysP, List.length_append, List.length_map, List.length_take]
    omega
  rw [waysP_end] at h1
  exact Nat.le_trans h1 (ways_len (n + 1) (by omega) m hm)

set_option maxHeartbeats 3200000 in
set_option maxRecDepth 100000 in
theorem l7Ways_any : ∀ (n m : Nat) (w : World), n ≤ 5 → m ≤ 4 →
    Calls Try.prog 72 #[.int .i64 n, .int .i64 m] w fun e w' => ∃ a c, e = .returned (.slice a (waysL n m).length c) ∧ RdQI (fun x => w.heap.size ≤ x) w' a (waysL n m) ∧ Below w.heap.size w w' := by
  intro n
  induction n with
  | zero =>
    intro m w _ _
    go_enter Try.func72, Try.ntmps72
    go_wp2_with fail
    go_ret
    refine ⟨some ⟨w.heap.size + 1, 0, none⟩, 1, rfl, ⟨w.heap.size + 1, 0, rfl, by simp, by simp, fun i hi => ?_⟩, ((Below.refl _ _).alloc (Nat.le_refl _) _).alloc (by simp) _⟩
    have e : i = 0 := by simp [waysL] at hi; omega
    subst e
    exact ⟨some ⟨w.heap.size, 0, none⟩, 0, by simp [waysL, go_sem], ⟨w.heap.size, 0, rfl, Nat.le_refl _, by simp; omega, fun i hi => by simp [waysL] at hi⟩⟩
  | succ n ih =>
    intro m w hn hm
    obtain ⟨i0, hi, hz0, hz1, hz2⟩ := info_parts Try.infoR
    obtain ⟨j0, hjj, hy0, hy1, hy2⟩ := info_parts Try.info3
    have hn0 : (((n + 1 : Nat) : Int) == 0) = false := by simp; omega
    go_enter Try.func72, Try.ntmps72
    go_wp2_with fail
    go_loopw [5, 6] (fun o i wr => ∃ (k g c : Nat) (vs : List Value), k ≤ m + 1 ∧ i = .int .i64 k ∧ o = .slice (some ⟨g, 0, none⟩) (waysP n m k 0).length c ∧ Hid (wr.ownsRow w.heap.size 24 1 (.slice (some ⟨g, 0, none⟩) (waysP n m k 0).length c) (waysP n m k 0).length vs) ∧ Hid (RowsV (fun x => w.heap.size ≤ x ∧ x ≠ g) wr vs (waysP n m k 0)) ∧ Below w.heap.size w wr) (fun _ i _ => m + 1 - (intOf i).toNat)
    case atStart => exact ⟨0, w.heap.size, 0, [], Nat.zero_le _, rfl, by rw [waysP_zero]; rfl, by rw [waysP_zero]; exact World.ownsRow_made w #[] 0 (Nat.le_refl _) (Nat.zero_le _) rfl, by rw [waysP_zero]; exact ⟨rfl, fun i h => by simp at h⟩, (Below.refl _ _).alloc (Nat.le_refl _) _⟩
    case round =>
      obtain ⟨k, g, c, vs, hk, rfl, rfl, HO, HV, hb⟩ := hrel
      by_cases hk' : k ≤ m
      · have hki : (k : Int) ≤ (m : Int) := by omega
        have hmk2 : (m : Int) - (k : Int) = ((m - k : Nat) : Int) := by omega
        have C := ih (m - k) wr (by omega) (by omega)
        have HLE : Hid (∀ i, i ≤ (waysL n (m - k)).length → (waysP n m k i).length ≤ 126) := fun i hi => waysP_le hk' hi (by omega) (by omega)
        have HRL : Hid (∀ x ∈ waysL n (m - k), x.length ≤ 5) := fun x hx => by have := waysL_len _ _ x hx; omega
        have HST : Hid (∀ i, (h : i < (waysL n (m - k)).length) → waysP n m k (i + 1) = waysP n m k i ++ [(k : Int) :: (waysL n (m - k))[i]]) := fun i h => waysP_step h
        have HNX : Hid (waysP n m k (waysL n (m - k)).length = waysP n m (k + 1) 0) := waysP_next (Nat.le_refl _)
        have hgl := HO.out.lt g rfl
        have hRn : (waysL n (m - k)).length ≤ 126 := ways_len n (by omega) (m - k) (by omega)
        generalize waysL n (m - k) = R at C HLE HRL HST HNX hRn
        have HW0 : Hid (∃ z, z = wr.heap.size) := ⟨_, rfl⟩
        go_wp2_with (go_at_call 72; refine C.mono ?_; rintro e w2 ⟨a1, c1, rfl, hq2, hb2⟩; have HO2 : Hid (w2.ownsRow w.heap.size 24 1 (.slice (some ⟨g, 0, none⟩) (waysP n m k 0).length c) (waysP n m k 0).length vs) := own_frB HO.out (hb2.block g hgl.2); have HV2 : Hid (RowsV (fun x => w.heap.size ≤ x ∧ x ≠ g) w2 vs (waysP n m k 0)) := HV.out.grow (.of_below hb2 (fun _ hk _ => hk) : Stay (fun _ => True) wr w2) (fun _ _ _ => trivial) (fun _ hx _ => hx); have HQ2 : Hid (RdQI (fun x => x ≠ g) w2 a1 R) := hq2.grow (Stay.refl (fun _ => True) _) (fun _ _ _ => trivial) (fun x hx _ => by have := hgl.2; omega); have hB2 : Below w.heap.size w w2 := hb.trans (hb2.mono hb.size); clear C HO HV hb hq2 hb2)
        go_loopw [5, 8] (fun o i wr => ∃ (j g c : Nat) (vs : List Value), j ≤ R.length ∧ i = .int .i64 j ∧ o = .slice (some ⟨g, 0, none⟩) (waysP n m k j).length c ∧ Hid (wr.ownsRow w.heap.size 24 1 (.slice (some ⟨g, 0, none⟩) (waysP n m k j).length c) (waysP n m k j).length vs) ∧ Hid (RowsV (fun x => w.heap.size ≤ x ∧ x ≠ g) wr vs (waysP n m k j)) ∧ Hid (RdQI (fun x => x ≠ g) wr a1 R) ∧ Hid (Below w.heap.size w wr)) (fun _ i _ => R.length - (intOf i).toNat)
        case atStart => exact ⟨0, g, c, vs, Nat.zero_le _, rfl, rfl, HO2, HV2, HQ2, hB2⟩
        case round =>
          obtain ⟨j, g2, cc, vs2, hj, rfl, rfl, HO3, HV3, HQ3, HB3⟩ := hrel
          clear HO2 HV2 HQ2 hB2
          by_cases hj' : j < R.length
          · obtain ⟨b, off, rfl, hSb, hbl, hrows⟩ := HQ3.out
            obtain ⟨ai, ci, c0, hri⟩ := hrows j hj'
            obtain ⟨b2, o2, rfl, _, hb2l, hcells⟩ := hri
            have hji : (j : Int) < (R.length : Int) := by omega
            have hji0 : (0 : Int) ≤ (j : Int) := by omega
            have hle := HLE.out (j + 1) (by omega)
            have HS1 : Hid (waysP n m k (j + 1) = waysP n m k j ++ [(k : Int) :: R[j]]) := HST.out j hj'
            have hlj : (waysP n m k (j + 1)).length = (waysP n m k j).length + 1 := by rw [HS1.out]; simp
            have hrl := HRL.out R[j] (List.getElem_mem hj')
            have hg2 := HO3.out.lt g2 rfl
            have hbw := HB3.out.size
            have HN : Hid (∀ W : World, Below wr.heap.size wr W → ∀ q u, (ints R[j])[q]? = some u → W.cell? ((⟨b2, o2, none⟩ : Addr).add q) = some u) := fun W hW => news_of (off := o2) (l := R[j]) (fun q hq => (hW.cell (p := ⟨b2, o2 + q, none⟩) hb2l).trans (hcells q hq))
            have HNa := HN.out (wr.alloc (.cells #[.int .i64 k] 3)) ((Below.refl _ _).alloc (Nat.le_refl _) _)
            have HI : Hid ([Value.int .i64 (k : Int)] ++ ints R[j] = ints ((k : Int) :: R[j])) := rfl
            have hil : (ints R[j]).length = R[j].length := by simp [ints]
            clear hrows hcells
            generalize R[j] = row at c0 HS1 hrl HNa HI hil
            clear HN
            go_wp2_with (first
              | (at_builtin; refine wpList_append_own_at _ rfl (.tmp 33) (.tmp 37) 24 rfl wr.heap.size 3 j0 (.int .i64 0) 1 8 Try.underlying24 hjj hy0 hy1 hy2 rfl (by decide) _ 1 _ rfl (own_int (Nat.le_refl _) rfl) ⟨b2, o2, none⟩ row.length ci (ints row) rfl (by simp [ints]) HNa (ints_one row) (by unfold maxLen; omega) (by omega) (by simp) ?_; intro v3 w3 hown3 hgrow3 hnil3 hat3; obtain ⟨g3, c3, rfl⟩ := own_some hown3 hnil3; rw [HI.out] at hown3; have hg3 := own_at hat3; have HO4 : Hid (w3.ownsRow wr.heap.size 3 1 (.slice (some ⟨g3, 0, none⟩) (1 + row.length) c3) (1 + row.length) (ints ((k : Int) :: row))) := hown3; have hb3 : Below wr.heap.size wr w3 := ((Below.refl wr.heap.size wr).alloc (Nat.le_refl _) (.cells #[.int .i64 k] 3)).grown (row := some wr.heap.size) hgrow3 (by simp) (by simp); clear hnil3 hgrow3 hat3 HNa hown3)
              | (at_builtin; refine wpList_append_own_at _ rfl (.tmp 31) (.tmp 39) 27 rfl w.heap.size 24 i0 (.slice none 0 0) 1 24 Try.underlying27 hi hz0 hz1 hz2 rfl (by decide) _ (waysP n m k j).length vs2 rfl ((own_frB HO3.out (hb3.block g2 hg2.2)).alloc _) ⟨w3.heap.size, 0, none⟩ 1 1 [.slice (some ⟨g3, 0, none⟩) (1 + row.length) c3] rfl rfl (one_new _ _ _) (slice_one _ _ _) (by unfold maxLen; omega) (by omega) (by have := hb3.size; simp; omega) ?_; intro v5 w5 hown5 hgrow5 hnil5 hat5; obtain ⟨g5, c5, rfl⟩ := own_some hown5 hnil5; have hg5 := own_at hat5; have HO5 : Hid (w5.ownsRow w.heap.size 24 1 (.slice (some ⟨g5, 0, none⟩) ((waysP n m k j).length + 1) c5) ((waysP n m k j).length + 1) (vs2 ++ [.slice (some ⟨g3, 0, none⟩) (1 + row.length) c3])) := hown5; have HS5 : Hid (Stay (fun x => x ≠ g2) wr w5) := two_stay hb3 hgrow5; have HG5 : Hid (Stay (fun x => x ≠ g2) w3 w5) := two_stay (Below.refl _ _) hgrow5; clear hnil5 hgrow5 hat5 hown5))
            have h3z := hb3.size
            have hg3l := HO4.out.lt g3 rfl
            simp only [World.size_alloc] at hg5
            have hz5 := HS5.out.size
            have hlr : 1 + row.length = ((k : Int) :: row).length := by simp; omega
            refine ⟨⟨j + 1, g5, c5, vs2 ++ [.slice (some ⟨g3, 0, none⟩) (1 + row.length) c3], by omega, by go_num, by rw [hlj], ?_, ?_, ?_, ?_⟩, by simp [intOf]; omega⟩
            · show World.ownsRow _ _ _ _ _ _ _
              rw [hlj]; exact HO5.out
            · show RowsV _ _ _ _
              rw [HS1.out, hlr]
              exact (HV3.out.grow HS5.out (fun x hx _ => hx.2) (fun x hx hxl => ⟨hx.1, by have := hx.2; omega⟩)).snoc ((own_rdi (S := fun x => x = g3) hlr HO4.out rfl).grow HG5.out (fun x hx _ => by have h : x = g3 := hx; omega) (fun x hx _ => by have h : x = g3 := hx; exact ⟨by omega, by omega⟩))
            · exact HQ3.out.grow HS5.out (fun x hx _ => hx) (fun x hx hxl => by omega)
            · exact HB3.out.trans (HS5.out.below (by omega) (fun x hx => by omega))
          · have hji : ¬ (j : Int) < (R.length : Int) := by omega
            have e1 : j = R.length := by omega
            subst e1
            rw [HNX.out] at HO3 HV3 ⊢
            clear HNX HST HRL HLE
            go_wp2_with fail
            go_roundw
            case rel => exact ⟨k + 1, by omega, by go_num, g2, cc, ⟨rfl, rfl, rfl⟩, vs2, HO3, HV3, HB3.out⟩
            case measure => simp [intOf]; omega
      · have hki : ¬ (k : Int) ≤ (m : Int) := by omega
        have e : k = m + 1 := by omega
        subst e
        rw [waysP_end] at HO HV ⊢
        have hgl := HO.out.lt g rfl
        have HQ : Hid (RdQI (fun x => w.heap.size ≤ x) wr (some ⟨g, 0, none⟩) (waysL (n + 1) m)) := HV.out.rd rfl HO.out hgl.1 (fun x hx => hx.1)
        clear HO HV
        go_wp2_with fail
        go_ret
        first
          | exact ⟨_, _, rfl, HQ.out, hb⟩
          | exact ⟨_, ⟨_, rfl⟩, HQ.out, hb⟩
end Go.Proofs.Ythbilahilmmfmaa

/- The program's iterator over counts: its contract: all ways in order, each once. Conditions: 1 to 5 counts, a bound of at most 4. -/
namespace Go.Proofs.Ythbilahilmmfmaa
set_option maxRecDepth 100000
open Go.RowKit Go.Shelf
attribute [local go_sem] Oper.semAt_some

theorem link_at {f : List Int → Option (List Int)} {x y : List Int} {r : List (List Int)} : ∀ (pre : List (List Int)), Link f (pre ++ x :: y :: r) → f x = some y
  | [], h => h.1
  | [_], h => h.2.1
  | _ :: b :: pre, h => link_at (b :: pre) h.2
theorem ways_next {n m : Nat} {pre r : List (List Int)} {x y : List Int} (h : pre ++ x :: y :: r = waysL (n + 1) m) : nextL m x = some y := by
  have := (ways_link n m).1
  rw [← h] at this
  exact link_at pre this
theorem ways_last {n m : Nat} {pre : List (List Int)} {x : List Int} (h : pre ++ [x] = waysL (n + 1) m) : nextL m x = none := by
  have := (ways_link n m).2.2
  rw [← h] at this
  simp at this
  rw [this]
  exact next_end
theorem ways_pd {n m : Nat} (hm : m ≤ 1000) {x : List Int} (h : x ∈ waysL n m) (j : Nat) : 0 ≤ pd x j ∧ pd x j ≤ 1000 := by
  obtain ⟨h1, h2⟩ := waysL_nonneg n m x h
  unfold pd
  by_cases hj : j < x.length
  · rw [show x.getD j 0 = x[j] by simp [hj]]
    have hg := h1 _ (List.getElem_mem hj)
    have key : ∀ (l : List Int), (∀ v ∈ l, 0 ≤ v) → ∀ v ∈ l, v ≤ l.sum := by
      intro l
      induction l with
      | nil => intro _ v hv; simp at hv
      | cons a l ih =>
        intro h v hv
        have h0 : 0 ≤ l.sum := by
          clear ih hv
          induction l with
          | nil => simp
          | cons b l ih => have := h b (by simp); have := ih (fun v hv => h v (by simp at hv ⊢; rcases hv with h | h <;> simp [h])); simp only [List.sum_cons]; omega
        rcases List.mem_cons.1 hv with rfl | hv
        · simp only [List.sum_cons]; omega
        · have := ih (fun v hv => h v (by simp [hv])) v hv
          have := h a (by simp)
          simp only [List.sum_cons]; omega
    have := key x h1 _ (List.getElem_mem hj)
    omega
  · simp [hj]

def set5 (W : World) (B : Nat) (y : List Int) : World := ((((W.setCell ⟨B, 0, none⟩ (.int .i64 (pd y 0))).setCell ⟨B, 1, none⟩ (.int .i64 (pd y 1))).setCell ⟨B, 2, none⟩ (.int .i64 (pd y 2))).setCell ⟨B, 3, none⟩ (.int .i64 (pd y 3))).setCell ⟨B, 4, none⟩ (.int .i64 (pd y 4))
theorem set5_stay (W : World) (B : Nat) (y : List Int) : Stay (fun k => k ≠ B) W (set5 W B y) := ((((Stay.setCell _ _ (by simp)).trans (.setCell _ _ (by simp))).trans (.setCell _ _ (by simp))).trans (.setCell _ _ (by simp))).trans (.setCell _ _ (by simp))
theorem set5_fz (W : World) (B : Nat) (y : List Int) (a : Addr) : (set5 W B y).frozen? a = W.frozen? a := by simp only [set5, World.frozen?_setCell]
theorem Box5.put {W : World} {B : Nat} {x : List Int} (h : Box5 W B x) (y : List Int) : Box5 (set5 W B y) B y := by
  have h0 := h 0 (by omega)
  have h1 := h 1 (by omega)
  have h2 := h 2 (by omega)
  have h3 := h 3 (by omega)
  have h4 := h 4 (by omega)
  intro j hj
  obtain rfl | rfl | rfl | rfl | rfl : j = 0 ∨ j = 1 ∨ j = 2 ∨ j = 3 ∨ j = 4 := by omega
  all_goals simp [set5, go_sem, h0, h1, h2, h3, h4]
/-- What holds between two rounds: what has come, what is still to come, its first one in the box. -/
structure CRel (Bn Bm Bc nn m : Nat) (J : List (List Int) → (Nat → Prop) → World → Prop) (pre : List (List Int)) (S : Nat → Prop) (rest : List (List Int)) (b : Value) (wr : World) : Prop where
  b : b = .bool (!rest.isEmpty)
  got : pre ++ rest = waysL nn m
  j : J pre S wr
  box : ∀ x r, rest = x :: r → Box5 wr Bc x
  lt : Bc < wr.heap.size
  out : ¬ S Bc
  fz : ∀ j, wr.frozen? ⟨Bc, j, none⟩ = false
  cn : wr.cell? ⟨Bn, 0, none⟩ = some (.int .i64 nn)
  cm : wr.cell? ⟨Bm, 0, none⟩ = some (.int .i64 m)

theorem countsUpTo_any (nn m : Nat) (w : World) :
    Calls Try.prog 69 #[.int .i64 nn, .int .i64 m] w fun e w' => e = .returned (.func (.func 86) #[] #[.pointer (some ⟨w.heap.size, 0, none⟩), .pointer (some ⟨w.heap.size + 1, 0, none⟩)]) ∧ w' = (w.alloc (.cells #[.int .i64 nn] 3)).alloc (.cells #[.int .i64 m] 3) := by
  go_enter Try.func69, Try.ntmps69
  go_wp2
  go_ret
  exact ⟨rfl, rfl⟩

set_option maxHeartbeats 3200000 in
set_option maxRecDepth 100000 in
theorem counts_seq (n : Nat) (hn : 1 ≤ n) (w : World) (nn m Bn Bm : Nat) (h1 : 1 ≤ nn) (h5 : nn ≤ 5) (hm : m ≤ 4) (Kp : Nat → Prop) (hKn : Kp Bn) (hKm : Kp Bm)
    (b0 : w.cell? ⟨Bn, 0, none⟩ = some (.int .i64 nn)) (b1 : w.cell? ⟨Bm, 0, none⟩ = some (.int .i64 m)) :
    SeqKeep Fence.wide n Try.prog 86 #[.pointer (some ⟨Bn, 0, none⟩), .pointer (some ⟨Bm, 0, none⟩)] (fun x => #[agg5 x]) Kp (fun xs => xs = waysL nn m) (fun pre => ∃ r, pre ++ r = waysL nn m) (fun _ _ => False) (fun pre x _ => ∃ r, pre ++ x :: r = waysL nn m) 126 w := by
  intro l J Jx S₀ W hbW hJ hJx hJb hY h0
  have c0 := keepC hbW b0
  have c1 := keepC hbW b1
  obtain ⟨n', rfl⟩ : ∃ n', nn = n' + 1 := ⟨nn - 1, by omega⟩
  have hlen : ∀ m, m < 5 → (waysL (n' + 1) m).length ≤ 126 := ways_len (n' + 1) (by omega)
  have HLEN : Hid ((waysL (n' + 1) m).length ≤ 126) := hlen m (by omega)
  obtain ⟨r0, hr0⟩ : ∃ r0, waysL (n' + 1) m = zerosL (n' + 1) :: r0 := by
    have := (ways_link n' m).2.1
    match hw : waysL (n' + 1) m, this with
    | x :: r, h => exact ⟨r, by simp at h; rw [h]⟩
  have hbx := World.block_lt_of_cell? _ _ c0
  have hbx2 := World.block_lt_of_cell? _ _ c1
  have R0 : CRel Bn Bm W.heap.size (n' + 1) m J [] S₀ (waysL (n' + 1) m) (.bool true) (W.alloc (.cells #[.int .i64 0, .int .i64 0, .int .i64 0, .int .i64 0, .int .i64 0] 97)) := by
    refine ⟨by rw [hr0]; rfl, rfl, hJ _ _ _ _ h0 (.alloc _ _ _), fun x r hx => ?_, by simp, fun h => by have := hJb _ _ _ h0 _ h; omega, fun j => by simp [go_sem], keepC ((Below.refl _ _).alloc (Nat.le_refl _) _) c0, keepC ((Below.refl _ _).alloc (Nat.le_refl _) _) c1⟩
    rw [hr0] at hx
    cases hx
    intro j hj
    have hp : pd (zerosL (n' + 1)) j = 0 := by
      simp only [pd, zerosL, List.getD_eq_getElem?_getD, List.getElem?_replicate]
      split <;> rfl
    rw [hp]
    obtain rfl | rfl | rfl | rfl | rfl : j = 0 ∨ j = 1 ∨ j = 2 ∨ j = 3 ∨ j = 4 := by omega
    all_goals simp [go_sem]
  refine callsIn_of_wp Try.func86 rfl trivial ?_ rfl
  simp only [Try.ntmps86, List.size_toArray, List.length_cons, List.length_nil, Nat.reduceAdd, Nat.reduceSub, Array.replicate_succ, Array.replicate_zero, List.push_toArray, List.append_toArray, List.nil_append, List.cons_append]
  have HJ : Hid (∀ pre S A B, J pre S A → Stay S A B → J pre S B) := hJ
  have HJB : Hid (∀ pre S A, J pre S A → ∀ k, S k → k < A.heap.size) := hJb
  have HY : Hid (∀ pre x S A, J pre S A → pre.length < 126 → (∀ k, (fun (_ : List Int) (_ : Nat) => False) x k → ¬ S k ∧ k < A.heap.size) → (∃ r, pre ++ x :: r = waysL (n' + 1) m) → YieldAt Fence.wide (n - 1) Try.prog l #[agg5 x] A fun e B =>
      (e = .returned (.bool true) ∧ ∃ S', J (pre ++ [x]) S' B ∧ (∀ k, S' k → S k ∨ (fun (_ : List Int) (_ : Nat) => False) x k ∨ A.heap.size ≤ k) ∧ Stay (fun k => Kp k ∨ (¬ S k ∧ ¬ (fun (_ : List Int) (_ : Nat) => False) x k)) A B) ∨
      (e = .returned (.bool false) ∧ ∃ S', Jx (pre ++ [x]) S' B ∧ (∀ k, S' k → S k ∨ (fun (_ : List Int) (_ : Nat) => False) x k ∨ A.heap.size ≤ k) ∧ Stay (fun k => Kp k ∨ (¬ S k ∧ ¬ (fun (_ : List Int) (_ : Nat) => False) x k)) A B)) := hY
  clear hJ hJx hJb hY h0 b0 b1 hlen hr0
  gi_wp2
  clear c0 c1
  have hBn : Bn ≠ W.heap.size := by omega
  have hBm : Bm ≠ W.heap.size := by omega
  clear hbx hbx2
  generalize W.heap.size = Bc at *
  gi_loopw [5] (fun v wr => ∃ pre S rest, CRel Bn Bm Bc (n' + 1) m J pre S rest v wr) (fun v wr => leastN (fun k => ∃ pre S rest, CRel Bn Bm Bc (n' + 1) m J pre S rest v wr ∧ rest.length = k))
  case atStart => exact ⟨_, _, _, R0⟩
  case round =>
    obtain ⟨pre1, S1, E1, R1⟩ := hrel
    obtain ⟨m0, ⟨pre, S, rest, R, hm0⟩, hmin⟩ := leastN_spec (p := fun k => ∃ pre S rest, CRel Bn Bm Bc (n' + 1) m J pre S rest u5 wr ∧ rest.length = k) ⟨_, pre1, S1, E1, R1, rfl⟩
    clear R1 R0
    obtain ⟨rfl, hgot, hj, hbox, hlt, hout, hfz, hcn, hcm⟩ := R
    cases rest with
    | nil =>
      have HG : Hid (pre = waysL (n' + 1) m) := by show _ = _; simpa using hgot
      clear hmin hm0 hgot hbox
      gi_wp2
      go_end0
      exact ⟨⟨_, rfl⟩, .inl ⟨pre, S, HG.out, hj⟩⟩
    | cons x r =>
      have hb5 := hbox x r rfl
      have q0 := hb5 0 (by omega)
      have q1 := hb5 1 (by omega)
      have q2 := hb5 2 (by omega)
      have q3 := hb5 3 (by omega)
      have q4 := hb5 4 (by omega)
      have hpl : pre.length < 126 := by
        have h1 := HLEN.out
        rw [← hgot] at h1
        simp at h1
        omega
      have hmem : x ∈ waysL (n' + 1) m := by rw [← hgot]; simp
      have hxl := waysL_len _ _ x hmem
      have hpd := ways_pd (by omega : m ≤ 1000) hmem
      obtain ⟨fn, tmps, assign, body, hy, hR⟩ := HY.out pre x S wr hj hpl (fun _ h => h.elim) ⟨r, hgot⟩
      dsimp only [agg5] at hy
      have HGOT : Hid (pre ++ x :: r = waysL (n' + 1) m) := hgot
      have HB5 : Hid (Box5 wr Bc x) := hb5
      have HPD : Hid (∀ j, 0 ≤ pd x j ∧ pd x j ≤ 1000) := hpd
      have HM : Hid (m0 = r.length + 1) := by show _ = _; rw [← hm0]; simp
      have HMIN : Hid _ := hmin
      have HOUT : Hid (¬ S Bc) := hout
      have HLT : Hid (Bc < wr.heap.size) := hlt
      have HFZ : Hid (∀ j, wr.frozen? ⟨Bc, j, none⟩ = false) := hfz
      clear hgot hbox hb5 hpd hm0 hmin hmem hout hfz hlt
      gi_wp2
      refine hR.mono ?_
      rintro e W4 (⟨rfl, S', hj4, hsub, hst4⟩ | ⟨rfl, S', hjx, _, _⟩)
      · clear hy hR q0 q1 q2 q3 q4
        have hb4 : Box5 W4 Bc x := fun j hj => hst4.cell (HB5.out j hj) (.inr ⟨HOUT.out, id⟩)
        have q0 := hb4 0 (by omega)
        have q1 := hb4 1 (by omega)
        have q2 := hb4 2 (by omega)
        have q3 := hb4 3 (by omega)
        have q4 := hb4 4 (by omega)
        have cn4 := hst4.cell hcn (.inl hKn)
        have cm4 := hst4.cell hcm (.inl hKm)
        have C := next_any x m W4 (by omega) (by omega) HPD.out (by omega)
        rw [hxl] at C
        obtain ⟨N, hN⟩ : ∃ N, N = nextP m x := ⟨_, rfl⟩
        rw [← hN] at C
        have HN : Hid (N = nextP m x) := hN
        have HO4 : Hid (¬ S' Bc) := fun h => (hsub _ h).elim HOUT.out (fun h => h.elim id (fun h => by have := HLT.out; omega))
        have hl4 : Bc < W4.heap.size := Nat.lt_of_lt_of_le HLT.out hst4.size
        have HF4 : Hid (∀ j, W4.frozen? ⟨Bc, j, none⟩ = false) := fun j => (hst4.frozen (p := ⟨Bc, j, none⟩) HLT.out (.inr ⟨HOUT.out, id⟩)).trans (HFZ.out j)
        have HJ4 : Hid (J (pre ++ [x]) S' W4) := hj4
        have HB4 : Hid (Box5 W4 Bc x) := hb4
        simp only [agg5] at C
        clear hN hsub hst4 hj4 hb4 hj hcn hcm
        gi_wp2_with (refine ⟨trivial, ?_⟩; gi_at_call 87; refine (callsIn_wide.2 C).mono ?_; rintro e w1 ⟨rfl, hb1⟩; clear C; have p0 := keepC hb1 q0; have p1 := keepC hb1 q1; have p2 := keepC hb1 q2; have p3 := keepC hb1 q3; have p4 := keepC hb1 q4; have f1 : ∀ j, w1.frozen? ⟨Bc, j, none⟩ = false := fun j => (hb1.frozen (p := ⟨Bc, j, none⟩) hl4).trans (HF4.out j); clear q0 q1 q2 q3 q4)
        have B1 : Box5 w1 Bc x := fun j hj => keepC hb1 (HB4.out j hj)
        have S1 : Stay (fun _ => True) W4 w1 := .of_below hb1 (fun _ hk _ => hk)
        have J1 := HJ.out _ _ _ _ (HJ.out _ _ _ _ HJ4.out (.of_below hb1 (fun _ hk _ => hk))) ((set5_stay w1 Bc N.1).weak (fun k _ h => fun e => HO4.out (e ▸ h)))
        have S5 := set5_stay w1 Bc N.1
        have R5 : ∀ r, pre ++ [x] ++ r = waysL (n' + 1) m → (∀ y r', r = y :: r' → N.1 = y) → N.2 = (!r.isEmpty) → CRel Bn Bm Bc (n' + 1) m J (pre ++ [x]) S' r (.bool N.2) (set5 w1 Bc N.1) := fun r hg hy hN2 =>
          ⟨by rw [hN2], hg, J1, fun y r' e => by rw [← hy y r' e]; exact B1.put _, Nat.lt_of_lt_of_le (Nat.lt_of_lt_of_le hl4 hb1.size) S5.size, HO4.out, fun j => by rw [set5_fz]; exact f1 j, S5.cell (keepC hb1 cn4) hBn, S5.cell (keepC hb1 cm4) hBm⟩
        have R6 : CRel Bn Bm Bc (n' + 1) m J (pre ++ [x]) S' r (.bool N.2) (set5 w1 Bc N.1) := by
          refine R5 r (by rw [← HGOT.out]; simp) (fun y r' e => ?_) ?_
          · subst e
            have := ways_next HGOT.out
            rw [HN.out, nextP, this]
          · cases r with
            | nil => rw [HN.out, nextP, ways_last HGOT.out]; rfl
            | cons y r' => rw [HN.out, nextP, ways_next HGOT.out]; rfl
        clear R5 J1 S5 B1 S1
        go_roundw
        case rel => exact ⟨_, _, _, R6⟩
        case measure => exact Nat.lt_of_le_of_lt (leastN_le ⟨_, _, _, R6, rfl⟩) (by rw [HMIN.out, HM.out]; omega)
      · clear hy hR
        gi_wp2
        refine bodyPost_ret (results_none rfl _ _ _) rfl ?_
        exact ⟨⟨_, rfl⟩, .inr ⟨_, S', ⟨r, by rw [← HGOT.out]; simp⟩, hjx⟩⟩
end Go.Proofs.Ythbilahilmmfmaa

