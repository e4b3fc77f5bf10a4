/- What the proof of FnExactLitMake stands on, part 3 of 10: each piece says what it proves and under which conditions. Conditions: as each piece says. -/
import Derived.Test.YtollijngiioonaaPackExactLitMake2
import Derived.Deep.QuietTactic
import Derived.BigQuiet
import Derived.Below
import Derived.WalkKit
import Derived.Test.YtollijngiioonaaProg
import Derived.Deep.RegionHeld3
/- One form of a term as data: Kids put in by their order, Kids of the same blind function joined; forests of terms that own their memory. Conditions: none. -/
namespace Go.Proofs.Ytollijngiioonaa
set_option maxRecDepth 100000
open Go.RowKit

/-- A term put into a list by its order, behind those that are not behind it. -/
def putT (t : TermD) (l : List TermD) : List TermD := l.takeWhile (fun e => !befT t e) ++ t :: l.dropWhile (fun e => !befT t e)
/-- What becomes of the list made so far when one more Kid, in one form, comes. -/
def stepN (b : Bool) (f : Int) (k : TermD) (out : List TermD) : List TermD :=
  if b = false then out ++ [k] else if k.f ≠ f then putT k out else k.kids.foldl (fun o x => putT x o) out
mutual
/-- One form. -/
def normT (bl : Int → Bool) : TermD → TermD
  | .mk f v ks => .mk f v (normL bl f ks [])
def normL (bl : Int → Bool) (f : Int) : List TermD → List TermD → List TermD
  | [], out => out
  | k :: ks, out => normL bl f ks (stepN (bl f) f (normT bl k) out)
end
theorem normT_eq (bl : Int → Bool) (t : TermD) : normT bl t = .mk t.f t.v (normL bl t.f t.kids []) := by cases t; rw [normT]; rfl
theorem normL_append (bl : Int → Bool) (f : Int) (a b out : List TermD) : normL bl f (a ++ b) out = normL bl f b (normL bl f a out) := by
  induction a generalizing out with
  | nil => simp [normL]
  | cons t ts ih => simp only [List.cons_append, normL, ih]
theorem normL_next (bl : Int → Bool) (f : Int) {ts : List TermD} {k : Nat} (h : k < ts.length) (out : List TermD) : normL bl f (ts.take (k + 1)) out = stepN (bl f) f (normT bl ts[k]) (normL bl f (ts.take k) out) := by
  rw [List.take_succ_eq_append_getElem h, normL_append]
  simp [normL]

theorem putT_perm (t : TermD) (l : List TermD) : (putT t l).Perm (t :: l) := by
  unfold putT
  refine List.perm_middle.trans ?_
  rw [List.takeWhile_append_dropWhile]
theorem putT_parts (t : TermD) (l : List TermD) : partsL (putT t l) = partsL l + partsT t := by
  unfold putT
  have h : partsL l = partsL (l.takeWhile fun e => !befT t e) + partsL (l.dropWhile fun e => !befT t e) := by rw [← partsL_append, List.takeWhile_append_dropWhile]
  rw [partsL_append, partsL, h]; omega
theorem foldP_parts (ks out : List TermD) : partsL (ks.foldl (fun o x => putT x o) out) = partsL out + partsL ks := by
  induction ks generalizing out with
  | nil => simp [partsL]
  | cons t ts ih => rw [List.foldl_cons, ih, putT_parts, partsL]; omega
theorem stepN_parts (b : Bool) (f : Int) (k : TermD) (out : List TermD) : partsL (stepN b f k out) ≤ partsL out + partsT k := by
  unfold stepN
  split
  · rw [partsL_append]; simp [partsL]
  · split
    · rw [putT_parts]; omega
    · rw [foldP_parts, partsT_eq]; omega
mutual
theorem normT_parts (bl : Int → Bool) : ∀ t : TermD, partsT (normT bl t) ≤ partsT t
  | .mk f v ks => by have := normL_parts bl f ks []; simp only [normT, partsT, partsL] at *; omega
theorem normL_parts (bl : Int → Bool) (f : Int) : ∀ ks out : List TermD, partsL (normL bl f ks out) ≤ partsL out + partsL ks
  | [], out => by simp [normL, partsL]
  | k :: ks, out => by
    have h1 := normT_parts bl k
    have h2 := normL_parts bl f ks (stepN (bl f) f (normT bl k) out)
    have h3 := stepN_parts (bl f) f (normT bl k) out
    rw [normL, partsL]; omega
end

/-- As 'OwnS', and each row has its block to itself, with all the room that its capacity says: so one may append to it in its place. -/
inductive OwnR (w : World) : (Nat → Prop) → Option Addr → Nat → List TermD → Prop
  | nil (S : Nat → Prop) : OwnR w S none 0 []
  | row (S : Nat → Prop) (g c : Nat) (ts : List TermD) (A : Nat → Option Addr) (C : Nat → Nat) (K : Nat → Nat → Prop) (xs : List Value) (hb : S g) (hrow : w.ownsRow 0 27 3 (.slice (some ⟨g, 0, none⟩) ts.length c) ts.length xs) (hl : ts.length ≤ 9223372036854775807) (hz : ∀ i, (h : i < ts.length) → isW ts[i].f ∧ isW ts[i].v)
      (hc : ∀ i, (h : i < ts.length) → w.cell? ⟨g, i * 3, none⟩ = some (.int .i64 ts[i].f) ∧ w.cell? ⟨g, i * 3 + 1, none⟩ = some (.int .i64 ts[i].v) ∧ w.cell? ⟨g, i * 3 + 2, none⟩ = some (.slice (A i) ts[i].kids.length (C i)))
      (hsub : ∀ i x, i < ts.length → K i x → S x ∧ x ≠ g) (hdis : ∀ i j x, i < ts.length → j < ts.length → i ≠ j → K i x → ¬ K j x)
      (hk : ∀ i, (h : i < ts.length) → OwnR w (K i) (A i) (C i) ts[i].kids) : OwnR w S (some ⟨g, 0, none⟩) c ts

theorem OwnR.own {w : World} {S : Nat → Prop} {a : Option Addr} {c : Nat} {ts : List TermD} (h : OwnR w S a c ts) : ∃ xs, w.ownsRow 0 27 3 (.slice a ts.length c) ts.length xs := by
  cases h with
  | nil => exact ⟨[], World.ownsRow_nil w 0 27 3⟩
  | row S g c ts A C K xs hb hrow => exact ⟨xs, hrow⟩
theorem OwnR.le {w : World} {S : Nat → Prop} {a : Option Addr} {c : Nat} {ts : List TermD} (h : OwnR w S a c ts) : ts.length ≤ c := by
  obtain ⟨xs, h⟩ := h.own
  obtain ⟨_, _, e, hh⟩ := own_form h
  cases e
  exact hh
theorem OwnR.s {w : World} {S : Nat → Prop} {a : Option Addr} {c : Nat} {ts : List TermD} (h : OwnR w S a c ts) : OwnS w S a ts := by
  induction h with
  | nil S => exact .nil S none
  | row S g c ts A C K xs hb hrow hl hz hc hsub hdis hk ih => exact .row S g 0 ts A C K hb (hrow.lt g rfl).2 ⟨hl, fun i h => (hk i h).le⟩ hz (fun i h => by simpa using hc i h) (fun j => hrow.frozenAt j) hsub hdis ih
theorem OwnR.rd {w : World} {S : Nat → Prop} {a : Option Addr} {c : Nat} {ts : List TermD} (h : OwnR w S a c ts) : RdK w w.heap.size a ts := h.s.rd
theorem own_frame {w w' : World} {base : Nat} {e : TypeId} {size : Nat} {v : Value} {n : Nat} {xs : List Value} (h : w.ownsRow base e size v n xs) (hb : ∀ g, v.ownBlock = some g → w'.heap[g]? = w.heap[g]?) : w'.ownsRow base e size v n xs := by
  obtain ⟨h1, h2⟩ := h
  refine ⟨h1, ?_⟩
  rcases h2 with h2 | ⟨g, cap, cur, rfl, hg, hh, r⟩
  · exact .inl h2
  · exact .inr ⟨g, cap, cur, rfl, hg, by rw [hb g rfl]; exact hh, r⟩
theorem own_zero {w : World} {base : Nat} {e : TypeId} {size : Nat} {v : Value} {n : Nat} {xs : List Value} (h : w.ownsRow base e size v n xs) : w.ownsRow 0 e size v n xs := by
  obtain ⟨h1, h2⟩ := h
  refine ⟨h1, ?_⟩
  rcases h2 with h2 | ⟨g, cap, cur, rfl, hg, r⟩
  · exact .inl h2
  · exact .inr ⟨g, cap, cur, rfl, Nat.zero_le _, r⟩
theorem OwnR.frame {w w' : World} {S : Nat → Prop} {a : Option Addr} {c : Nat} {ts : List TermD} (h : OwnR w S a c ts) (hs : ∀ x, S x → w'.heap[x]? = w.heap[x]?) (_hz : w.heap.size ≤ w'.heap.size) : OwnR w' S a c ts := by
  induction h with
  | nil S => exact .nil S
  | row S g c ts A C K xs hb hrow hl hz' hc hsub hdis hk ih =>
    have e := hs g hb
    refine .row S g c ts A C K xs hb (own_frame hrow (fun k hk => by cases hk; exact e)) hl hz' (fun i h => ?_) hsub hdis (fun i h => ih i h (fun x hx => hs x (hsub i x h hx).1))
    obtain ⟨h0, h1, h2⟩ := hc i h
    exact ⟨(World.cell?_of_block (a := ⟨g, _, none⟩) e).trans h0, (World.cell?_of_block (a := ⟨g, _, none⟩) e).trans h1, (World.cell?_of_block (a := ⟨g, _, none⟩) e).trans h2⟩
theorem OwnR.mono {w : World} {S S' : Nat → Prop} {a : Option Addr} {c : Nat} {ts : List TermD} (h : OwnR w S a c ts) (hs : ∀ x, S x → S' x) : OwnR w S' a c ts := by
  cases h with
  | nil S => exact .nil S'
  | row S g c ts A C K xs hb hrow hl hz hc hsub hdis hk => exact .row S' g c ts A C K xs (hs g hb) hrow hl hz hc (fun i x h hx => ⟨hs x (hsub i x h hx).1, (hsub i x h hx).2⟩) hdis hk
theorem OwnR.setCell {w : World} {S : Nat → Prop} {a : Option Addr} {c : Nat} {ts : List TermD} (h : OwnR w S a c ts) (p : Addr) (hp : ¬ S p.block) (u : Value) : OwnR (w.setCell p u) S a c ts :=
  h.frame (fun x hx => Below.heap_setCell w p u x (fun e => hp (e ▸ hx))) (by simp)

/-- One of a row of terms: where its Kids lie, and in which blocks. -/
structure FE where
  t : TermD
  a : Option Addr
  c : Nat
  K : Nat → Prop
def FE.cells (e : FE) : Value × Value × Value := (.int .i64 e.t.f, .int .i64 e.t.v, .slice e.a e.t.kids.length e.c)

/-- Terms of which no two share a block; all from B on. -/
structure Forest (w : World) (B : Nat) (L : List FE) : Prop where
  own : ∀ e ∈ L, OwnR w e.K e.a e.c e.t.kids ∧ e.t.kids.length ≤ e.c ∧ (isW e.t.f ∧ isW e.t.v) ∧ ∀ x, e.K x → B ≤ x ∧ x < w.heap.size
  dis : L.Pairwise fun e d => ∀ x, e.K x → ¬ d.K x

theorem Forest.nil (w : World) (B : Nat) : Forest w B [] := ⟨fun e h => by simp at h, .nil⟩
theorem Forest.on {w w' : World} {B : Nat} {L : List FE} (h : Forest w B L) (hb : Below w.heap.size w w') : Forest w' B L :=
  ⟨fun e he => ⟨(h.own e he).1.frame (fun x hx => hb.block x ((h.own e he).2.2.2 x hx).2) hb.size, (h.own e he).2.1, (h.own e he).2.2.1, fun x hx => ⟨((h.own e he).2.2.2 x hx).1, Nat.lt_of_lt_of_le ((h.own e he).2.2.2 x hx).2 hb.size⟩⟩, h.dis⟩
theorem Forest.setCell {w : World} {B : Nat} {L : List FE} (h : Forest w B L) (p : Addr) (u : Value) (hp : ∀ e ∈ L, ¬ e.K p.block) : Forest (w.setCell p u) B L :=
  ⟨fun e he => ⟨(h.own e he).1.setCell p (hp e he) u, (h.own e he).2.1, (h.own e he).2.2.1, fun x hx => by simpa using (h.own e he).2.2.2 x hx⟩, h.dis⟩
theorem Forest.perm {w : World} {B : Nat} {L M : List FE} (h : Forest w B L) (hp : M.Perm L) : Forest w B M :=
  ⟨fun e he => h.own e (hp.subset he), (hp.pairwise_iff (fun hxy z hz hz' => hxy z hz' hz)).2 h.dis⟩
theorem Forest.append {w : World} {B : Nat} {L M : List FE} (h : Forest w B L) (k : Forest w B M) (hd : ∀ e ∈ L, ∀ d ∈ M, ∀ x, e.K x → ¬ d.K x) : Forest w B (L ++ M) :=
  ⟨fun e he => (List.mem_append.1 he).elim (h.own e) (k.own e), List.pairwise_append.2 ⟨h.dis, k.dis, fun e he d hd' => hd e he d hd'⟩⟩
theorem Forest.sub {w : World} {B : Nat} {L M : List FE} (h : Forest w B L) (hs : M.Sublist L) : Forest w B M := ⟨fun e he => h.own e (hs.subset he), h.dis.sublist hs⟩

/-- The row of a forest's terms, its own block apart, is a list of terms that owns its memory. -/
theorem Forest.owns {w : World} {B g cap : Nat} {L : List FE} (h : Forest w B L) (hrow : w.ownsRow B 27 3 (.slice (some ⟨g, 0, none⟩) L.length cap) L.length (cs3 (L.map FE.cells))) (hg : ∀ e ∈ L, ¬ e.K g) (hl : L.length ≤ 9223372036854775807) :
    OwnR w (fun x => B ≤ x ∧ x < w.heap.size) (some ⟨g, 0, none⟩) cap (L.map FE.t) := by
  have hlt := hrow.lt g rfl
  refine .row _ g cap (L.map FE.t) (fun i => (L[i]?.map FE.a).getD none) (fun i => (L[i]?.map FE.c).getD 0) (fun i x => ∃ e, L[i]? = some e ∧ e.K x) (cs3 (L.map FE.cells)) ⟨hlt.1, hlt.2⟩ (by simpa using own_zero hrow) (by simpa using hl) (fun i hi => ?_) (fun i hi => ?_) (fun i x hi hx => ?_) (fun i j x hi hj hne hx hy => ?_) (fun i hi => ?_)
  · have hi' : i < L.length := by simpa using hi
    simpa using (h.own _ (List.getElem_mem hi')).2.2.1
  · have hi' : i < L.length := by simpa using hi
    obtain ⟨c0, c1, c2⟩ := cs3_cells (l := L.map FE.cells) (k := i) (by simp) (by simpa using hi') hrow
    simp only [List.getElem_map, FE.cells] at c0 c1 c2
    simp only [List.getElem_map]
    exact ⟨c0, c1, by simpa [hi'] using c2⟩
  · obtain ⟨e, he, hx⟩ := hx
    obtain ⟨hi', e0⟩ := List.getElem?_eq_some_iff.1 he
    have hm : e ∈ L := e0 ▸ List.getElem_mem hi'
    exact ⟨(h.own e hm).2.2.2 x hx, fun ex => hg e hm (ex ▸ hx)⟩
  · obtain ⟨e, he, hx⟩ := hx
    obtain ⟨d, hd, hy⟩ := hy
    obtain ⟨hi', e0⟩ := List.getElem?_eq_some_iff.1 he
    obtain ⟨hj', e1⟩ := List.getElem?_eq_some_iff.1 hd
    rcases Nat.lt_or_gt_of_ne hne with hh | hh
    · exact (e0 ▸ e1 ▸ List.pairwise_iff_getElem.1 h.dis i j hi' hj' hh) x hx hy
    · exact (e1 ▸ e0 ▸ List.pairwise_iff_getElem.1 h.dis j i hj' hi' hh) x hy hx
  · have hi' : i < L.length := by simpa using hi
    have := (h.own _ (List.getElem_mem hi')).1
    simp only [hi', List.getElem?_eq_getElem, Option.map_some, Option.getD_some, List.getElem_map]
    exact this.mono (fun x hx => ⟨_, rfl, hx⟩)

/-- The Kids of a term that owns its memory are a forest. -/
theorem OwnR.forest {w : World} {S : Nat → Prop} {a : Option Addr} {c : Nat} {ts : List TermD} {B : Nat} (h : OwnR w S a c ts) (hs : ∀ x, S x → B ≤ x ∧ x < w.heap.size) :
    ∃ L : List FE, L.map FE.t = ts ∧ Forest w B L ∧ (∀ e ∈ L, ∀ x, e.K x → S x) ∧ (ts = [] ∨ ∃ b off, a = some ⟨b, off, none⟩ ∧ S b ∧ ∀ i, (hi : i < L.length) → w.cell? ⟨b, off + i * 3, none⟩ = some (L[i].cells).1 ∧ w.cell? ⟨b, off + i * 3 + 1, none⟩ = some (L[i].cells).2.1 ∧ w.cell? ⟨b, off + i * 3 + 2, none⟩ = some (L[i].cells).2.2) := by
  cases h with
  | nil S => exact ⟨[], rfl, .nil _ _, fun e h => by simp at h, .inl rfl⟩
  | row S b c ts A C K xs hb hrow hl hz hc hsub hdis hk =>
    refine ⟨(List.range ts.length).map fun i => ⟨ts[i]?.getD default, A i, C i, K i⟩, ?_, ⟨fun e he => ?_, ?_⟩, fun e he x hx => ?_, .inr ⟨b, 0, rfl, hb, fun i hi => ?_⟩⟩
    · apply List.ext_getElem
      · simp
      · intro i h1 h2; simp [h2]
    · simp only [List.mem_map, List.mem_range] at he
      obtain ⟨i, hi, rfl⟩ := he
      have e0 : ts[i]?.getD default = ts[i] := by simp [hi]
      simp only [e0]
      exact ⟨hk i hi, (hk i hi).le, hz i hi, fun x hx => hs x (hsub i x hi hx).1⟩
    · rw [List.pairwise_iff_getElem]
      intro i j hi hj hij x hx hy
      simp only [List.length_map, List.length_range] at hi hj
      simp only [List.getElem_map, List.getElem_range] at hx hy
      exact hdis i j x hi hj (by omega) hx hy
    · simp only [List.mem_map, List.mem_range] at he
      obtain ⟨i, hi, rfl⟩ := he
      exact (hsub i x hi hx).1
    · simp only [List.length_map, List.length_range] at hi
      have := hc i hi
      simp only [List.getElem_map, List.getElem_range, FE.cells]
      simpa [hi] using this
end Go.Proofs.Ytollijngiioonaa

/- The order of terms is total: alike terms are the same, and of two one is not behind the other; a list in order is told by what is in it. Conditions: none. -/
namespace Go.Proofs.Ytollijngiioonaa
set_option maxRecDepth 100000
open Go.RowKit

mutual
theorem sameT_eqT : ∀ t u : TermD, sameT t u = true → t = u
  | .mk f v ks, .mk f' v' ks', h => by
    simp only [sameT, Bool.and_eq_true, beq_iff_eq] at h
    obtain ⟨⟨⟨h1, h2⟩, h3⟩, h4⟩ := h
    rw [h1, h2, sameL_eqL ks ks' h3 h4]
theorem sameL_eqL : ∀ ts us : List TermD, ts.length = us.length → sameL ts us = true → ts = us
  | [], us, hl, _ => by cases us with | nil => rfl | cons u us => simp at hl
  | t :: ts, [], hl, _ => by simp at hl
  | t :: ts, u :: us, hl, h => by
    simp only [sameL, Bool.and_eq_true] at h
    rw [sameT_eqT t u h.1, sameL_eqL ts us (by simpa using hl) h.2]
end
theorem ordT_zero {t u : TermD} : ordT t u = 0 ↔ t = u := by
  constructor
  · intro h; exact sameT_eqT t u ((ordT_same t u).1 h)
  · rintro rfl
    refine (ordT_same t t).2 ?_
    have : ∀ n : Nat, ∀ t : TermD, partsT t ≤ n → sameT t t = true := by
      intro n
      induction n with
      | zero => intro t h; rw [partsT_eq] at h; omega
      | succ n ih =>
        intro t h
        rw [sameT_eq]
        rw [partsT_eq] at h
        simp only [beq_self_eq_true, Bool.true_and]
        exact sameL_all rfl (fun k hk _ => ih _ (by have := partsL_get hk; omega))
    exact this _ t (Nat.le_refl _)

theorem cmpI_swap (x y : Int) : cmpI y x = - cmpI x y := by unfold cmpI; split <;> (try split) <;> (try split) <;> omega
theorem or3_swap (x y z : Int) : or3 (-x) (-y) (-z) = - or3 x y z := by unfold or3; split <;> (try split) <;> (try split) <;> (try split) <;> omega
theorem headO_swap (t u : TermD) : headO u t = - headO t u := by
  unfold headO
  rw [cmpI_swap t.f u.f, cmpI_swap t.v u.v, cmpI_swap (t.kids.length : Int) u.kids.length, or3_swap]
mutual
theorem ordT_swap : ∀ t u : TermD, ordT u t = - ordT t u
  | .mk f v ks, .mk f' v' ks' => by
    have h1 := headO_swap (.mk f v ks) (.mk f' v' ks')
    have h2 := ordL_swap ks ks'
    rw [ordT_eq, ordT_eq, h1]
    show (if -headO (TermD.mk f v ks) (.mk f' v' ks') ≠ 0 then -headO (TermD.mk f v ks) (.mk f' v' ks') else ordL ks' ks) = -(if headO (TermD.mk f v ks) (.mk f' v' ks') ≠ 0 then headO (TermD.mk f v ks) (.mk f' v' ks') else ordL ks ks')
    rw [h2]
    split <;> split <;> omega
theorem ordL_swap : ∀ ts us : List TermD, ordL us ts = - ordL ts us
  | [], us => by cases us <;> simp [ordL]
  | t :: ts, [] => by simp [ordL]
  | t :: ts, u :: us => by
    have h1 := ordT_swap t u
    have h2 := ordL_swap ts us
    rw [ordL_cons, ordL_cons, h1, h2]
    split <;> split <;> omega
end

theorem headO_neg {t u : TermD} : headO t u < 0 ↔ (t.f < u.f ∨ (t.f = u.f ∧ (t.v < u.v ∨ (t.v = u.v ∧ t.kids.length < u.kids.length)))) := by
  unfold headO or3
  by_cases e1 : t.f = u.f
  · rw [cmpI_zero.2 e1]
    by_cases e2 : t.v = u.v
    · rw [cmpI_zero.2 e2]
      simp only [ne_eq, not_true_eq_false, if_false, cmpI_neg]
      omega
    · have h2 := mt cmpI_zero.1 e2
      simp only [ne_eq, not_true_eq_false, if_false, h2, not_false_eq_true, if_true, cmpI_neg]
      omega
  · have h1 := mt cmpI_zero.1 e1
    simp only [ne_eq, h1, not_false_eq_true, if_true, cmpI_neg]
    omega
theorem headO_le {a b : TermD} (h : ordT a b ≤ 0) : headO a b ≤ 0 := by
  rw [ordT_eq] at h
  split at h
  · exact h
  · omega
theorem headO_lt {a b : TermD} (h : headO a b < 0) : ordT a b < 0 := by
  rw [ordT_eq, if_pos (by omega)]; exact h

theorem ordT_trans : ∀ (n : Nat) (a b c : TermD), partsT a ≤ n → ordT a b ≤ 0 → ordT b c ≤ 0 → ordT a c ≤ 0 := by
  intro n
  induction n with
  | zero => intro a b c h; rw [partsT_eq] at h; omega
  | succ n ih =>
    have hL : ∀ (ts us vs : List TermD), partsL ts ≤ n → ts.length = us.length → us.length = vs.length → ordL ts us ≤ 0 → ordL us vs ≤ 0 → ordL ts vs ≤ 0 := by
      intro ts
      induction ts with
      | nil => intro us vs _ h1 h2 _ _; cases us with
        | nil => cases vs with
          | nil => simp [ordL]
          | cons v vs => simp at h2
        | cons u us => simp at h1
      | cons t ts iht =>
        intro us vs hp h1 h2 g1 g2
        cases us with
        | nil => simp at h1
        | cons u us => cases vs with
          | nil => simp at h2
          | cons v vs =>
            rw [partsL] at hp
            rw [ordL_cons] at g1 g2 ⊢
            by_cases e1 : ordT t u = 0
            · have e := ordT_zero.1 e1
              subst e
              rw [if_neg (by omega)] at g1
              by_cases e2 : ordT t v = 0
              · rw [if_neg (by omega)] at g2 ⊢
                exact iht us vs (by omega) (by simpa using h1) (by simpa using h2) g1 g2
              · rw [if_pos e2] at g2 ⊢; exact g2
            · rw [if_pos e1] at g1
              have g3 : ordT u v ≤ 0 := by
                by_cases e2 : ordT u v = 0
                · omega
                · rw [if_pos e2] at g2; exact g2
              have g4 := ih t u v (by omega) g1 g3
              have g5 : ordT t v ≠ 0 := fun e => by
                have := ordT_zero.1 e
                subst this
                have := ordT_swap t u
                omega
              rw [if_pos g5]; exact g4
    intro a b c hp h1 h2
    rw [partsT_eq] at hp
    have k1 := headO_le h1
    have k2 := headO_le h2
    by_cases e1 : headO a b = 0
    · by_cases e2 : headO b c = 0
      · have z1 := headO_zero.1 e1
        have z2 := headO_zero.1 e2
        have e3 : headO a c = 0 := headO_zero.2 ⟨z1.1.trans z2.1, z1.2.1.trans z2.2.1, z1.2.2.trans z2.2.2⟩
        rw [ordT_eq, if_neg (by omega)] at h1 h2 ⊢
        exact hL _ _ _ (by omega) z1.2.2 z2.2.2 h1 h2
      · have z1 := headO_zero.1 e1
        have z2 := headO_neg.1 (show headO b c < 0 by omega)
        exact Int.le_of_lt (headO_lt (headO_neg.2 (by omega)))
    · have z1 := headO_neg.1 (show headO a b < 0 by omega)
      by_cases e2 : headO b c = 0
      · have z2 := headO_zero.1 e2
        exact Int.le_of_lt (headO_lt (headO_neg.2 (by omega)))
      · have z2 := headO_neg.1 (show headO b c < 0 by omega)
        exact Int.le_of_lt (headO_lt (headO_neg.2 (by omega)))

/-- Not behind. -/
def leT (a b : TermD) : Prop := ordT a b ≤ 0
theorem leT_refl (a : TermD) : leT a a := by show ordT a a ≤ 0; rw [ordT_zero.2 rfl]; omega
theorem leT_trans {a b c : TermD} (h1 : leT a b) (h2 : leT b c) : leT a c := ordT_trans _ a b c (Nat.le_refl _) h1 h2
theorem leT_total (a b : TermD) : leT a b ∨ leT b a := by
  unfold leT
  have := ordT_swap a b
  omega
theorem leT_anti {a b : TermD} (h1 : leT a b) (h2 : leT b a) : a = b := by
  unfold leT at *
  have := ordT_swap a b
  exact ordT_zero.1 (by omega)
theorem befT_leT (a b : TermD) : befT a b = false ↔ leT b a := by
  rw [← ordT_bef]
  unfold leT
  have := ordT_swap a b
  simp
  omega

/-- Two lists in order of which one is the other in another order are the same. -/
theorem sorted_ext : ∀ {a b : List TermD}, a.Pairwise leT → b.Pairwise leT → a.Perm b → a = b
  | [], b, _, _, h => by rw [List.nil_perm] at h; rw [h]
  | x :: a, [], _, _, h => by have := h.length_eq; simp at this
  | x :: a, y :: b, ha, hb, h => by
    rw [List.pairwise_cons] at ha hb
    have e : x = y := by
      have h1 : x ∈ y :: b := h.subset (by simp)
      have h2 : y ∈ x :: a := h.symm.subset (by simp)
      rcases List.mem_cons.1 h1 with h1 | h1
      · exact h1
      · rcases List.mem_cons.1 h2 with h2 | h2
        · exact h2.symm
        · exact leT_anti (ha.1 y h2) (hb.1 x h1)
    subst e
    rw [sorted_ext ha.2 hb.2 (h.cons_inv)]

theorem tw_all (p : TermD → Bool) : ∀ (l : List TermD), ∀ x ∈ l.takeWhile p, p x = true
  | [], x, h => by simp at h
  | y :: l, x, h => by
    by_cases e : p y = true
    · simp only [List.takeWhile_cons, e, if_true] at h
      rcases List.mem_cons.1 h with h | h
      · rw [h]; exact e
      · exact tw_all p l x h
    · simp only [List.takeWhile_cons, e] at h
      simp at h
theorem putT_sorted {t : TermD} {l : List TermD} (h : l.Pairwise leT) : (putT t l).Pairwise leT := by
  unfold putT
  have h1 : ∀ x ∈ l.takeWhile (fun e => !befT t e), leT x t := fun x hx => by
    have := tw_all _ l x hx
    exact (befT_leT t x).1 (by simpa using this)
  have h2 : ∀ x ∈ l.dropWhile (fun e => !befT t e), leT t x := by
    intro x hx
    have hd := h.sublist (List.dropWhile_sublist (fun e => !befT t e))
    cases hc : l.dropWhile (fun e => !befT t e) with
    | nil => rw [hc] at hx; simp at hx
    | cons y ys =>
      have hy : leT t y := by
        have := List.head?_dropWhile_not (fun e => !befT t e) l
        rw [hc] at this
        simp at this
        rcases leT_total t y with q | q
        · exact q
        · have := (befT_leT t y).2 q
          simp_all
      rw [hc] at hx hd
      rcases List.mem_cons.1 hx with e | e
      · exact e ▸ hy
      · exact leT_trans hy ((List.pairwise_cons.1 hd).1 x e)
  rw [List.pairwise_append]
  refine ⟨h.sublist (List.takeWhile_sublist _), List.pairwise_cons.2 ⟨h2, h.sublist (List.dropWhile_sublist _)⟩, fun x hx y hy => ?_⟩
  rcases List.mem_cons.1 hy with e | e
  · exact e ▸ h1 x hx
  · exact leT_trans (h1 x hx) (h2 y e)
end Go.Proofs.Ytollijngiioonaa

/- What one form keeps: the form of a form is it; the Kids of a blind function may stand in any order, and in brackets; a right term is its form; weights. Conditions: none. -/
namespace Go.Proofs.Ytollijngiioonaa
set_option maxRecDepth 100000
open Go.RowKit

theorem parts_kid : ∀ {ks : List TermD} {k : TermD}, k ∈ ks → partsT k ≤ partsL ks
  | [], _, h => by simp at h
  | x :: xs, k, h => by
    rw [partsL]
    rcases List.mem_cons.1 h with rfl | h
    · omega
    · have := parts_kid h; omega

/-- What a Kid in one form brings to the list of a blind function. -/
def flatK (f : Int) (k : TermD) : List TermD := if k.f ≠ f then [k] else k.kids

theorem foldP_perm (ks out : List TermD) : (ks.foldl (fun o x => putT x o) out).Perm (out ++ ks) := by
  induction ks generalizing out with
  | nil => simp
  | cons t ts ih =>
    rw [List.foldl_cons]
    refine (ih _).trans ?_
    exact ((putT_perm t out).append_right ts).trans (List.perm_middle.symm)
theorem foldP_sorted (ks : List TermD) : ∀ {out : List TermD}, out.Pairwise leT → (ks.foldl (fun o x => putT x o) out).Pairwise leT := by
  induction ks with
  | nil => intro out h; exact h
  | cons t ts ih => intro out h; rw [List.foldl_cons]; exact ih (putT_sorted h)
theorem stepN_perm (f : Int) (k : TermD) (out : List TermD) : (stepN true f k out).Perm (out ++ flatK f k) := by
  unfold stepN flatK
  simp only [Bool.true_eq_false, ↓reduceIte]
  split
  · exact (putT_perm k out).trans (by simpa using (List.perm_middle (a := k) (l₁ := out) (l₂ := [])).symm)
  · exact foldP_perm _ _
theorem stepN_sorted (f : Int) (k : TermD) {out : List TermD} (h : out.Pairwise leT) : (stepN true f k out).Pairwise leT := by
  unfold stepN
  simp only [Bool.true_eq_false, ↓reduceIte]
  split
  · exact putT_sorted h
  · exact foldP_sorted _ h
theorem normL_perm (bl : Int → Bool) (f : Int) (hf : bl f = true) (ks : List TermD) : ∀ out, (normL bl f ks out).Perm (out ++ ks.flatMap (fun k => flatK f (normT bl k))) := by
  induction ks with
  | nil => intro out; simp [normL]
  | cons k ks ih =>
    intro out
    rw [normL, hf, List.flatMap_cons, ← List.append_assoc]
    exact (ih _).trans ((stepN_perm f _ out).append_right _)
theorem normL_sorted (bl : Int → Bool) (f : Int) (hf : bl f = true) (ks : List TermD) : ∀ {out}, out.Pairwise leT → (normL bl f ks out).Pairwise leT := by
  induction ks with
  | nil => intro out h; rw [normL]; exact h
  | cons k ks ih => intro out h; rw [normL, hf]; exact ih (stepN_sorted f _ h)
theorem normL_map (bl : Int → Bool) (f : Int) (hf : bl f = false) (ks : List TermD) : ∀ out, normL bl f ks out = out ++ ks.map (normT bl) := by
  induction ks with
  | nil => intro out; simp [normL]
  | cons k ks ih => intro out; rw [normL, hf, ih]; simp [stepN]

/-- In one form. -/
inductive IsN (bl : Int → Bool) : TermD → Prop
  | mk (t : TermD) (hk : ∀ k ∈ t.kids, IsN bl k) (hb : bl t.f = true → t.kids.Pairwise leT ∧ ∀ k ∈ t.kids, k.f ≠ t.f) : IsN bl t

theorem normT_isN (bl : Int → Bool) : ∀ (n : Nat) (t : TermD), partsT t ≤ n → IsN bl (normT bl t) := by
  intro n
  induction n with
  | zero => intro t h; rw [partsT_eq] at h; omega
  | succ n ih =>
    intro t h
    rw [partsT_eq] at h
    have IH : ∀ k ∈ t.kids, IsN bl (normT bl k) := fun k hk => ih k (by have := parts_kid hk; omega)
    rw [normT_eq]
    by_cases hf : bl t.f = true
    · have hp := normL_perm bl t.f hf t.kids []
      rw [List.nil_append] at hp
      have hm : ∀ x ∈ normL bl t.f t.kids [], IsN bl x ∧ x.f ≠ t.f := by
        intro x hx
        obtain ⟨k, hk, hx⟩ := List.mem_flatMap.1 (hp.subset hx)
        have hN := IH k hk
        unfold flatK at hx
        split at hx
        · next h => rw [List.mem_singleton] at hx; subst hx; exact ⟨hN, h⟩
        · next h =>
          have h : (normT bl k).f = t.f := Decidable.not_not.1 h
          cases hN with
          | mk _ h1 h2 => exact ⟨h1 x hx, fun e => (h2 (by rw [h]; exact hf)).2 x hx (by rw [e, h])⟩
      exact .mk _ (fun k hk => (hm k hk).1) (fun _ => ⟨normL_sorted bl t.f hf t.kids .nil, fun k hk => (hm k hk).2⟩)
    · have hf : bl t.f = false := by simpa using hf
      rw [normL_map bl t.f hf, List.nil_append]
      refine .mk _ (fun x hx => ?_) (fun h => by rw [show (TermD.mk t.f t.v (t.kids.map (normT bl))).f = t.f from rfl, hf] at h; cases h)
      obtain ⟨k, hk, rfl⟩ := List.mem_map.1 hx
      exact IH k hk
theorem normT_self (bl : Int → Bool) {t : TermD} (h : IsN bl t) : normT bl t = t := by
  induction h with
  | mk t hk hb ih =>
    rw [normT_eq]
    have e : normL bl t.f t.kids [] = t.kids := by
      by_cases hf : bl t.f = true
      · have hp := normL_perm bl t.f hf t.kids []
        rw [List.nil_append] at hp
        have e : t.kids.flatMap (fun k => flatK t.f (normT bl k)) = t.kids := by
          have : ∀ l : List TermD, (∀ k ∈ l, normT bl k = k ∧ k.f ≠ t.f) → l.flatMap (fun k => flatK t.f (normT bl k)) = l := by
            intro l
            induction l with
            | nil => intro _; rfl
            | cons x xs ihx =>
              intro hx
              have h0 := hx x (by simp)
              rw [List.flatMap_cons, ihx (fun k hk => hx k (by simp [hk])), h0.1]
              simp [flatK, h0.2]
          exact this _ (fun k hk => ⟨ih k hk, (hb hf).2 k hk⟩)
        rw [e] at hp
        exact sorted_ext (normL_sorted bl t.f hf t.kids .nil) (hb hf).1 hp
      · have hf : bl t.f = false := by simpa using hf
        rw [normL_map bl t.f hf, List.nil_append]
        exact (List.map_congr_left ih).trans (List.map_id' _)
    rw [e]
    cases t; rfl
/-- The form of a form is it. -/
theorem normT_idem (bl : Int → Bool) (t : TermD) : normT bl (normT bl t) = normT bl t := normT_self bl (normT_isN bl _ t (Nat.le_refl _))

/-- In any order. -/
theorem normT_perm (bl : Int → Bool) {f v : Int} (hf : bl f = true) {us bs : List TermD} (h : us.Perm bs) : normT bl (.mk f v us) = normT bl (.mk f v bs) := by
  rw [normT, normT]
  congr 1
  refine sorted_ext (normL_sorted bl f hf us .nil) (normL_sorted bl f hf bs .nil) ?_
  have h1 := normL_perm bl f hf us []
  have h2 := normL_perm bl f hf bs []
  exact (h1.trans (by simpa using h.flatMap_right _)).trans h2.symm
/-- In brackets. -/
theorem normT_in (bl : Int → Bool) {f v v' : Int} (hf : bl f = true) (us bs : List TermD) : normT bl (.mk f v (normT bl (.mk f v' us) :: bs)) = normT bl (.mk f v (us ++ bs)) := by
  rw [normT, normT]
  congr 1
  refine sorted_ext (normL_sorted bl f hf _ .nil) (normL_sorted bl f hf _ .nil) ?_
  have h1 := normL_perm bl f hf (normT bl (.mk f v' us) :: bs) []
  have h2 := normL_perm bl f hf (us ++ bs) []
  refine (h1.trans ?_).trans h2.symm
  rw [List.nil_append, List.nil_append, List.flatMap_cons, List.flatMap_append, normT_idem]
  refine List.Perm.append_right _ ?_
  have h3 := normL_perm bl f hf us []
  rw [List.nil_append] at h3
  have e : flatK f (normT bl (.mk f v' us)) = normL bl f us [] := by rw [normT]; simp [flatK, TermD.f, TermD.kids]
  rw [e]
  exact h3
end Go.Proofs.Ytollijngiioonaa

/- Weights as data. Conditions: none. -/
namespace Go.Proofs.Ytollijngiioonaa
set_option maxRecDepth 100000
open Go.RowKit

mutual
/-- The weight. -/
def wgtT (bl : Int → Bool) : TermD → Nat
  | .mk f _ ks => (if bl f && !ks.isEmpty then ks.length - 1 else 1) + wgtL bl ks
def wgtL (bl : Int → Bool) : List TermD → Nat
  | [] => 0
  | k :: ks => wgtT bl k + wgtL bl ks
end
theorem wgtT_eq (bl : Int → Bool) (t : TermD) : wgtT bl t = (if bl t.f && !t.kids.isEmpty then t.kids.length - 1 else 1) + wgtL bl t.kids := by cases t; rw [wgtT]; rfl
theorem wgtL_append (bl : Int → Bool) (a b : List TermD) : wgtL bl (a ++ b) = wgtL bl a + wgtL bl b := by
  induction a with
  | nil => simp [wgtL]
  | cons t ts ih => simp only [List.cons_append, wgtL, ih]; omega
theorem wgtL_next (bl : Int → Bool) {ts : List TermD} {k : Nat} (h : k < ts.length) : wgtL bl (ts.take (k + 1)) = wgtL bl (ts.take k) + wgtT bl ts[k] := by
  rw [List.take_succ_eq_append_getElem h, wgtL_append]
  simp [wgtL]
mutual
theorem wgtT_pos (bl : Int → Bool) : ∀ t : TermD, 1 ≤ wgtT bl t
  | .mk f v ks => by
    have h := wgtL_pos bl ks
    rw [wgtT]
    split
    · next hb =>
      have : ks ≠ [] := by intro e; subst e; simp at hb
      have := List.length_pos_iff.2 this
      omega
    · omega
theorem wgtL_pos (bl : Int → Bool) : ∀ ks : List TermD, ks.length ≤ wgtL bl ks
  | [] => by simp
  | k :: ks => by have := wgtT_pos bl k; have := wgtL_pos bl ks; rw [wgtL, List.length_cons]; omega
end
mutual
/-- A weight is less than twice the number of parts. -/
theorem wgtT_parts (bl : Int → Bool) : ∀ t : TermD, wgtT bl t + 1 ≤ 2 * partsT t
  | .mk f v ks => by
    have h := wgtL_parts bl ks
    rw [wgtT, partsT]
    split <;> omega
theorem wgtL_parts (bl : Int → Bool) : ∀ ks : List TermD, wgtL bl ks + ks.length ≤ 2 * partsL ks
  | [] => by simp [wgtL, partsL]
  | k :: ks => by have := wgtT_parts bl k; have := wgtL_parts bl ks; rw [wgtL, partsL, List.length_cons]; omega
end
end Go.Proofs.Ytollijngiioonaa

/- Right terms, weights, and terms that are made, as data; what a right term's form and weight are. Conditions: none. -/
namespace Go.Proofs.Ytollijngiioonaa
set_option maxRecDepth 100000
open Go.RowKit

/-- Before the one ahead of it, if there is one. -/
def befO (k : TermD) : Option TermD → Bool
  | some q => befT k q
  | none => false
mutual
/-- Right, of any size. -/
def rightT (ss : List SymD) : TermD → Bool
  | .mk f v ks => if f = -1 then decide (0 ≤ v ∧ v ≤ 99) && ks.isEmpty
    else decide (0 ≤ f ∧ f < ss.length) && v == 0 && (if blindAt ss f then decide (2 ≤ ks.length) else (ks.length : Int) == arityAt ss f) && rightL ss f none ks
/-- The Kids, the one ahead of them known. -/
def rightL (ss : List SymD) (f : Int) : Option TermD → List TermD → Bool
  | _, [] => true
  | p, k :: ks => !(blindAt ss f && (k.f == f || befO k p)) && rightT ss k && rightL ss f (some k) ks
end
theorem rightT_eq (ss : List SymD) (t : TermD) : rightT ss t = if t.f = -1 then decide (0 ≤ t.v ∧ t.v ≤ 99) && t.kids.isEmpty
    else decide (0 ≤ t.f ∧ t.f < ss.length) && t.v == 0 && (if blindAt ss t.f then decide (2 ≤ t.kids.length) else (t.kids.length : Int) == arityAt ss t.f) && rightL ss t.f none t.kids := by
  cases t; rw [rightT]; rfl
theorem rightL_all (ss : List SymD) (f : Int) : ∀ (ks : List TermD) (p : Option TermD), rightL ss f p ks = true → ∀ k ∈ ks, rightT ss k = true ∧ (blindAt ss f = true → k.f ≠ f)
  | [], _, _ => by simp
  | x :: xs, p, h => by
    rw [rightL, Bool.and_eq_true, Bool.and_eq_true] at h
    intro k hk
    rcases List.mem_cons.1 hk with rfl | hk
    · refine ⟨h.1.2, fun hb e => ?_⟩
      have := h.1.1
      rw [hb, e] at this
      simp at this
    · exact rightL_all ss f xs (some x) h.2 k hk
theorem rightL_from (ss : List SymD) (f : Int) (hb : blindAt ss f = true) : ∀ (ks : List TermD) (q : TermD), rightL ss f (some q) ks = true → (q :: ks).Pairwise leT
  | [], q, _ => by simp
  | x :: xs, q, h => by
    rw [rightL, Bool.and_eq_true, Bool.and_eq_true] at h
    have h0 : leT q x := by
      rw [← befT_leT]
      have := h.1.1
      rw [hb] at this
      simp only [Bool.true_and, Bool.not_eq_true', Bool.or_eq_false_iff] at this
      exact this.2
    have h1 := rightL_from ss f hb xs x h.2
    refine List.Pairwise.cons (fun y hy => ?_) h1
    rcases List.mem_cons.1 hy with rfl | hy
    · exact h0
    · exact leT_trans h0 ((List.pairwise_cons.1 h1).1 y hy)
theorem rightL_sorted (ss : List SymD) (f : Int) (hb : blindAt ss f = true) (ks : List TermD) (h : rightL ss f none ks = true) : ks.Pairwise leT := by
  cases ks with
  | nil => exact .nil
  | cons x xs =>
    rw [rightL, Bool.and_eq_true] at h
    exact rightL_from ss f hb xs x h.2
theorem right_isN (ss : List SymD) : ∀ (n : Nat) (t : TermD), partsT t ≤ n → rightT ss t = true → IsN (blindAt ss) t := by
  intro n
  induction n with
  | zero => intro t h; rw [partsT_eq] at h; omega
  | succ n ih =>
    intro t hn h
    rw [partsT_eq] at hn
    rw [rightT_eq] at h
    split at h
    · simp only [Bool.and_eq_true, List.isEmpty_iff] at h
      exact .mk t (by simp [h.2]) (fun _ => by simp [h.2])
    · simp only [Bool.and_eq_true] at h
      have ha := rightL_all ss t.f t.kids none h.2
      exact .mk t (fun k hk => ih k (by have := parts_kid hk; omega) (ha k hk).1) (fun hb => ⟨rightL_sorted ss t.f hb t.kids h.2, fun k hk => (ha k hk).2 hb⟩)
/-- One form of what is right is it. -/
theorem right_self (ss : List SymD) {t : TermD} (h : rightT ss t = true) : normT (blindAt ss) t = t := normT_self _ (right_isN ss _ t (Nat.le_refl _) h)


/-- A term that is made of a function and Kids. -/
def makeT (ss : List SymD) (f : Int) (ks : List TermD) : TermD :=
  if blindAt ss f = true ∧ ks = [] then .mk 0 0 []
  else if blindAt ss f = true ∧ ks.length = 1 then normT (blindAt ss) (ks.headD (.mk 0 0 []))
  else if ¬ (0 ≤ f ∧ f < ss.length) then .mk f 0 ks
  else normT (blindAt ss) (.mk f 0 ks)
theorem blindAt_lt {ss : List SymD} {f : Int} (h : blindAt ss f = true) : 0 ≤ f ∧ f < ss.length := by
  unfold blindAt at h
  split at h
  · next h0 =>
    refine ⟨h0, ?_⟩
    by_cases hl : f.toNat < ss.length
    · omega
    · rw [List.getElem?_eq_none (by omega)] at h; cases h
  · cases h
theorem makeT_blind {ss : List SymD} {f : Int} (h : blindAt ss f = true) {ks : List TermD} (hl : 2 ≤ ks.length) : makeT ss f ks = normT (blindAt ss) (.mk f 0 ks) := by
  unfold makeT
  rw [if_neg (by rintro ⟨_, rfl⟩; simp at hl), if_neg (by rintro ⟨_, e⟩; omega), if_neg (by simpa using blindAt_lt h)]
/-- In any order. -/
theorem makeT_perm {ss : List SymD} {f : Int} (h : blindAt ss f = true) {us bs : List TermD} (hl : 2 ≤ us.length) (hp : us.Perm bs) : makeT ss f us = makeT ss f bs := by
  rw [makeT_blind h hl, makeT_blind h (by rw [← hp.length_eq]; exact hl)]
  exact normT_perm _ h hp
/-- In brackets. -/
theorem makeT_in {ss : List SymD} {f : Int} (h : blindAt ss f = true) {us bs : List TermD} (ha : 2 ≤ us.length) (hb : 1 ≤ bs.length) : makeT ss f (makeT ss f us :: bs) = makeT ss f (us ++ bs) := by
  rw [makeT_blind h (by simp; omega), makeT_blind h ha, makeT_blind h (by simp; omega)]
  exact normT_in _ h us bs
end Go.Proofs.Ytollijngiioonaa

/- A region that draws its order, whose operations only read and whose callees may lay blocks of their own, walked once, in the order of the text: the class of worlds in which all that was there lies as it lay. Conditions: none. -/
namespace Go.Proofs.Ytollijngiioonaa
set_option maxRecDepth 100000
open Go.RowKit

/-- A world in which all that lay in w lies as it lay. -/
structure BW (w : World) where
  u : World
  b : Below w.heap.size w u
instance (w : World) : Inhabited (BW w) := ⟨⟨w, Below.refl _ _⟩⟩
theorem wp_region_below {P : Program} {id : Nat} {Q : Exit → Act → World → Prop} {a : Act} {w : World} {l : List Oper} (hm : P.follows .mixedOrders = true) (hB : Region.lexB .any l.toArray = true)
    (h : wpQuiet P l.toArray (fun w' => ∃ p : BW w, w' = p.u) (fun a' => ∀ w', (∃ p : BW w, w' = p.u) → Q .normal a' w') l a) : (Code.region id l.toArray true).wp P Q a w :=
  wp_region_quiet (C := fun w' => ∃ p : BW w, w' = p.u) hm hB ⟨⟨w.drew, (Below.refl _ _).drew⟩, rfl⟩ (by simpa using h)
/-- What was there is there. -/
theorem cellB {w : World} {a : Addr} {v : Value} (h : w.cell? a = some v) (p : BW w) : p.u.cell? a = some v := (p.b.cell (World.block_lt_of_cell? w a h)).trans h
/-- A callee's contract, met in a world of the class. -/
theorem callsB {P : Program} {f : FuncId} {args : Array Value} {w : World} {p : BW w} {v : Value}
    (h : Calls P f args p.u fun e w' => e = .returned v ∧ Below p.u.heap.size p.u w') : Calls P f args p.u fun e w'' => e = .returned v ∧ ∃ q : BW w, w'' = q.u :=
  h.mono fun _ w' ⟨he, hb⟩ => ⟨he, ⟨w', p.b.trans (hb.mono p.b.size)⟩, rfl⟩
end Go.Proofs.Ytollijngiioonaa

/- Whether a term is right, as the specification tells it. Conditions: terms of at most 549755813888 parts, at most 1048577 functions. -/
namespace Go.Proofs.Ytollijngiioonaa
set_option maxRecDepth 100000
open Go.RowKit Go.BigFrame

theorem rightT_mk (ss : List SymD) (f v : Int) (ks : List TermD) : rightT ss (.mk f v ks) = if f = -1 then decide (0 ≤ v ∧ v ≤ 99) && ks.isEmpty
    else decide (0 ≤ f ∧ f < ss.length) && v == 0 && (if blindAt ss f then decide (2 ≤ ks.length) else (ks.length : Int) == arityAt ss f) && rightL ss f none ks := by rw [rightT]

theorem l1In_any (x lo hi : Int) (w : World) : Calls Try.prog 48 #[.int .i64 x, .int .i64 lo, .int .i64 hi] w fun e w' => e = .returned (.bool (decide (lo ≤ x) && decide (x ≤ hi))) ∧ w' = w := by
  by_cases h : lo ≤ x
  · go_enter Try.func48, Try.ntmps48
    go_wp2
    go_ret
    exact ⟨rtB (by simp [h]), rfl⟩
  · go_enter Try.func48, Try.ntmps48
    go_wp2
    go_ret
    exact ⟨rtB (by simp; omega), rfl⟩

set_option maxHeartbeats 3200000 in
theorem l4Right_any (sa : Option Addr) (ss : List SymD) (sc : Nat) (hss : ss.length ≤ 1048577) (N : Nat) : ∀ (t : TermD) (a : Option Addr) (c hi : Nat) (w : World), isW t.f → RdS w sa ss → partsT t ≤ N → N ≤ 549755813888 → RdK w hi a t.kids → hi ≤ w.heap.size →
    Calls Try.prog 76 #[.slice sa ss.length sc, .agg #[.int .i64 t.f, .int .i64 t.v, .slice a t.kids.length c]] w fun e w' => e = .returned (.bool (rightT ss t)) ∧ Below w.heap.size w w' := by
  induction N with
  | zero => intro t a c hi w _ _ h; rw [partsT_eq] at h; omega
  | succ N ih =>
    intro t a c hi w hf hs hN hM hr hhi
    obtain ⟨f, v, ks⟩ := t
    simp only [TermD.f, TermD.v, TermD.kids] at hf hr ⊢
    rw [partsT] at hN
    have hlen := partsL_len ks
    have HR : Hid (RdK w hi a ks) := hr
    have HS : Hid (RdS w sa ss) := hs
    have HW0 : Hid _ := rightT_mk ss f v ks
    obtain ⟨W, hW⟩ : ∃ W, W = w.alloc (.cells #[.int .i64 f, .int .i64 v, .slice a ks.length c] 27) := ⟨_, rfl⟩
    have hb0 : Below w.heap.size w W := by rw [hW]; exact (Below.refl w.heap.size w).alloc (Nat.le_refl _) _
    have p0 : W.cell? ⟨w.heap.size, 0, none⟩ = some (.int .i64 f) := by rw [hW]; simp [go_sem]
    have p1 : W.cell? ⟨w.heap.size, 1, none⟩ = some (.int .i64 v) := by rw [hW]; simp [go_sem]
    have p2 : W.cell? ⟨w.heap.size, 2, none⟩ = some (.slice a ks.length c) := by rw [hW]; simp [go_sem]
    have hwl0 : w.heap.size < W.heap.size := by rw [hW]; simp
    have hf0 := hf.1
    have hf1 := hf.2
    clear hf hr
    by_cases hv : f = -1
    · have HW : Hid (rightT ss (.mk f v ks) = (decide (0 ≤ v) && decide (v ≤ 99) && decide (ks.length = 0))) := by
        show _ = _
        rw [HW0.out, if_pos hv]
        cases ks <;> by_cases h1 : 0 ≤ v <;> by_cases h2 : v ≤ 99 <;> simp [h1, h2]
      have hfe : (f == -1) = true := by simp [hv]
      clear HW0 hs hv
      generalize ks.length = m at *
      go_enter Try.func76, Try.ntmps76
      go_wp2_with go_in
      all_goals
        go_ret
        refine ⟨rtB ?_, by rw [hW] at hb0; exact hb0⟩
        rw [HW.out]
        first
          | (simp; omega)
          | (simp; intros; omega)
          | (by_cases hm : m = 0 <;> simp [*] <;> omega)
          | (by_cases hm : m = 0 <;> simp [*])
    · have hfe : (f == -1) = false := by simp [hv]
      by_cases hin : 0 ≤ f ∧ f < (ss.length : Int)
      · obtain ⟨k, rfl⟩ := Int.eq_ofNat_of_zero_le hin.1
        have hk : k < ss.length := by omega
        have IN := fun w => l1In_any k 0 ((ss.length : Int) - 1) w
        rw [show (decide ((0 : Int) ≤ k) && decide ((k : Int) ≤ (ss.length : Int) - 1)) = true by simp; omega] at IN
        have hki : (k : Int) < (ss.length : Int) := by omega
        have hk0 : (0 : Int) ≤ (k : Int) := by omega
        have hsl : (ss.length : Int) ≤ 1048577 := by omega
        rcases hs with rfl | ⟨b0, o0, rfl, hbl, hcs⟩
        · simp at hk
        · obtain ⟨_, c1, c2⟩ := hcs k hk
          have c2o := c2
          have c1 := keepC hb0 c1
          have c2 := keepC hb0 c2
          have hwr : IntKind.i64.wrap ((ss.length : Int) - 1) = (ss.length : Int) - 1 := by rw [IntKind.wrap_i64]; omega
          have HA : Hid (blindAt ss k = ss[k].ac ∧ arityAt ss k = ss[k].ar) := ⟨blindAt_in hk, arityAt_in hk⟩
          clear hcs hin
          by_cases hv0 : v = 0
          · have hve : (v == 0) = true := by simp [hv0]
            have hvn : (v != 0) = false := by simp [hv0]
            cases hac : ss[k].ac with
            | false =>
              have hnac : (!ss[k].ac) = true := by rw [hac]; rfl
              rw [hac] at HA c2 c2o
              by_cases hea : (ks.length : Int) = ss[k].ar
              · have hne : ((ks.length : Int) == ss[k].ar) = true := by simp [hea]
                have hnn : ((ks.length : Int) != ss[k].ar) = false := by simp [hea]
                have HW : Hid (rightT ss (.mk k v ks) = rightL ss k none ks) := by show _ = _; rw [HW0.out, if_neg hv, HA.out.1, HA.out.2, hve, hne, decide_eq_true (by omega)]; simp
                have cc2 := c2o
                clear HW0 hv hv0 hea
                go_enter Try.func76, Try.ntmps76
                go_wp2_with fail
                rw [← hW]
                clear hW
                go_quiet ((go_at_call 48; refine Calls.quiet_of_same (IN _)))
                go_wp2_with fail
                go_loopw [5] (fun i wr => ∃ j : Nat, j ≤ ks.length ∧ i = .int .i64 j ∧ Hid (rightL ss k none ks = rightL ss k (if j = 0 then none else ks[j-1]?) (ks.drop j)) ∧ wr.cell? ⟨w.heap.size, 0, none⟩ = some (.int .i64 k) ∧ wr.cell? ⟨w.heap.size, 2, none⟩ = some (.slice a ks.length c) ∧ Below w.heap.size w wr ∧ w.heap.size < wr.heap.size) (fun i _ => ks.length - (intOf i).toNat)
                case atStart => exact ⟨0, Nat.zero_le _, rfl, by show _ = _; simp, p0, p2, below_drewN hb0 _, hwl0⟩
                case round =>
                  obtain ⟨j, hj, rfl, HK, hp0, hp2, hbr, hwl⟩ := hrel
                  clear p0 p1 p2 hb0 hwl0 c1
                  by_cases hj' : j < ks.length
                  · obtain ⟨b, off, a', c', rfl, hlt, d0, d1, d2, hkr⟩ := RdK.kid (HR.out.on (hbr.mono hhi)) hj'
                    have hji : (j : Int) < (ks.length : Int) := by omega
                    have hj0 : (0 : Int) ≤ (j : Int) := by omega
                    have hli : (ks.length : Int) ≤ 549755813888 := by omega
                    have hpg := partsL_get hj'
                    have HD : Hid (ks.drop j = ks[j] :: ks.drop (j + 1)) := List.drop_eq_getElem_cons hj'
                    have g2 : wr.cell? ⟨b0, o0 + k * 3 + 2, none⟩ = some (.bool false) := hbr.cell (p := ⟨b0, o0 + k * 3 + 2, none⟩) hbl |>.trans cc2
                    have IR0 := fun W' (h : Below wr.heap.size wr W') => ih ks[j] a' c' hi W' (RdK.ints HR.out hj').1 (HS.out.below (hbr.trans (h.mono hbr.size))) (by omega) (by omega) (hkr.on (h.mono (Nat.le_trans hhi hbr.size))) (Nat.le_trans hhi (Nat.le_trans hbr.size h.size))
                    cases hrt : rightT ss ks[j] with
                    | false =>
                      have IR : ∀ W', Below wr.heap.size wr W' → Calls Try.prog 76 #[.slice (some ⟨b0, o0, none⟩) ss.length sc, .agg #[.int .i64 ks[j].f, .int .i64 ks[j].v, .slice a' ks[j].kids.length c']] W' fun e w' => e = .returned (.bool false) ∧ Below W'.heap.size W' w' := fun W' h => by have := IR0 W' h; rwa [hrt] at this
                      have HF : Hid (rightT ss (.mk k v ks) = false) := by show _ = _; rw [HW.out, HK.out, HD.out, rightL, hrt]; simp
                      clear IR0 HK HD hrt hkr
                      go_wp2_with fail
                      have k0 := cellB hp0
                      have k2 := cellB hp2
                      have k3 := cellB g2
                      have k4 := cellB d0
                      have k5 := cellB d1
                      have k6 := cellB d2
                      refine wp_region_below (by kernel_rfl) (by kernel_rfl) ?_
                      repeat (go_big_quiet_step ((first | (go_at_call 76; refine callsB (IR _ (BW.b _))))))
                      refine wpQuiet_nil ?_
                      intro w2 hw'
                      have hb2 : Below wr.heap.size wr w2 := by obtain ⟨p, rfl⟩ := hw'; exact p.b
                      clear hw'
                      have hB2 : Below w.heap.size w w2 := hbr.trans (hb2.mono hbr.size)
                      have q0 := keepC hb2 hp0
                      have q2 := keepC hb2 hp2
                      clear k0 k2 k3 k4 k5 k6
                      go_wp2_with fail
                      go_ret
                      exact ⟨rtB HF.out.symm, hB2⟩
                    | true =>
                      have IR : ∀ W', Below wr.heap.size wr W' → Calls Try.prog 76 #[.slice (some ⟨b0, o0, none⟩) ss.length sc, .agg #[.int .i64 ks[j].f, .int .i64 ks[j].v, .slice a' ks[j].kids.length c']] W' fun e w' => e = .returned (.bool true) ∧ Below W'.heap.size W' w' := fun W' h => by have := IR0 W' h; rwa [hrt] at this
                      have HN : Hid (rightL ss k none ks = rightL ss k (if j + 1 = 0 then none else ks[j + 1 - 1]?) (ks.drop (j + 1))) := by show _ = _; rw [HK.out, HD.out, rightL, hrt, if_neg (by omega : ¬ j + 1 = 0), show j + 1 - 1 = j by omega, List.getElem?_eq_getElem hj']; rw [HA.out.1]; simp
                      clear IR0 HK HD hrt hkr
                      go_wp2_with fail
                      have k0 := cellB hp0
                      have k2 := cellB hp2
                      have k3 := cellB g2
                      have k4 := cellB d0
                      have k5 := cellB d1
                      have k6 := cellB d2
                      refine wp_region_below (by kernel_rfl) (by kernel_rfl) ?_
                      repeat (go_big_quiet_step ((first | (go_at_call 76; refine callsB (IR _ (BW.b _))))))
                      refine wpQuiet_nil ?_
                      intro w2 hw'
                      have hb2 : Below wr.heap.size wr w2 := by obtain ⟨p, rfl⟩ := hw'; exact p.b
                      clear hw'
                      have hB2 : Below w.heap.size w w2 := hbr.trans (hb2.mono hbr.size)
                      have q0 := keepC hb2 hp0
                      have q2 := keepC hb2 hp2
                      clear k0 k2 k3 k4 k5 k6
                      go_wp2_with fail
                      go_roundw
                      case rel => exact ⟨j + 1, by omega, by go_num, HN, q0, q2, hB2, World.block_lt_of_cell? _ _ q0⟩
                      case measure => simp [intOf]; omega
                  · have HE : Hid (rightT ss (.mk k v ks) = true) := by show _ = _; rw [HW.out, HK.out, List.drop_eq_nil_of_le (by omega), rightL]
                    clear HK
                    go_wp2_with fail
                    go_ret
                    exact ⟨rtB HE.out.symm, hbr⟩
              · have hne : ((ks.length : Int) == ss[k].ar) = false := by simp [hea]
                have hnn : ((ks.length : Int) != ss[k].ar) = true := by simp [hea]
                have HW : Hid (rightT ss (.mk k v ks) = false) := by show _ = _; rw [HW0.out, if_neg hv, HA.out.1, HA.out.2, hne]; simp
                clear HW0 hv hv0 HA hea
                go_enter Try.func76, Try.ntmps76
                go_wp2_with fail
                rw [← hW]
                clear hW
                go_quiet ((go_at_call 48; refine Calls.quiet_of_same (IN _)))
                go_wp2_with fail
                go_ret
                exact ⟨rtB HW.out.symm, below_drewN hb0 _⟩
            | true =>
              have hnac : (!ss[k].ac) = false := by rw [hac]; rfl
              rw [hac] at HA c2 c2o
              by_cases hl2 : ks.length < 2
              · have hl2i : decide ((ks.length : Int) < 2) = true := by simp; omega
                have HW : Hid (rightT ss (.mk k v ks) = false) := by show _ = _; rw [HW0.out, if_neg hv, HA.out.1, if_pos rfl, decide_eq_false (by omega : ¬ 2 ≤ ks.length)]; simp
                clear HW0 hv hv0 HA hl2
                go_enter Try.func76, Try.ntmps76
                go_wp2_with fail
                rw [← hW]
                clear hW
                go_quiet ((go_at_call 48; refine Calls.quiet_of_same (IN _)))
                go_wp2_with fail
                go_ret
                exact ⟨rtB HW.out.symm, below_drewN hb0 _⟩
              · have hl2i : decide ((ks.length : Int) < 2) = false := by simp; omega
                have HW : Hid (rightT ss (.mk k v ks) = rightL ss k none ks) := by show _ = _; rw [HW0.out, if_neg hv, HA.out.1, if_pos rfl, hve, decide_eq_true (by omega : 2 ≤ ks.length), decide_eq_true (by omega)]; simp
                have cc2 := c2o
                clear HW0 hv hv0 hl2
                go_enter Try.func76, Try.ntmps76
                go_wp2_with fail
                rw [← hW]
                clear hW
                go_quiet ((go_at_call 48; refine Calls.quiet_of_same (IN _)))
                go_wp2_with fail
                go_loopw [5] (fun i wr => ∃ j : Nat, j ≤ ks.length ∧ i = .int .i64 j ∧ Hid (rightL ss k none ks = rightL ss k (if j = 0 then none else ks[j-1]?) (ks.drop j)) ∧ wr.cell? ⟨w.heap.size, 0, none⟩ = some (.int .i64 k) ∧ wr.cell? ⟨w.heap.size, 2, none⟩ = some (.slice a ks.length c) ∧ Below w.heap.size w wr ∧ w.heap.size < wr.heap.size) (fun i _ => ks.length - (intOf i).toNat)
                case atStart => exact ⟨0, Nat.zero_le _, rfl, by show _ = _; simp, p0, p2, below_drewN hb0 _, hwl0⟩
                case round =>
                  obtain ⟨j, hj, rfl, HK, hp0, hp2, hbr, hwl⟩ := hrel
                  clear p0 p1 p2 hb0 hwl0 c1
                  by_cases hj' : j < ks.length
                  · obtain ⟨b, off, a', c', rfl, hlt, d0, d1, d2, hkr⟩ := RdK.kid (HR.out.on (hbr.mono hhi)) hj'
                    have hji : (j : Int) < (ks.length : Int) := by omega
                    have hj0 : (0 : Int) ≤ (j : Int) := by omega
                    have hli : (ks.length : Int) ≤ 549755813888 := by omega
                    have hpg := partsL_get hj'
                    have HD : Hid (ks.drop j = ks[j] :: ks.drop (j + 1)) := List.drop_eq_getElem_cons hj'
                    have g2 : wr.cell? ⟨b0, o0 + k * 3 + 2, none⟩ = some (.bool true) := hbr.cell (p := ⟨b0, o0 + k * 3 + 2, none⟩) hbl |>.trans cc2
                    have IR0 := fun W' (h : Below wr.heap.size wr W') => ih ks[j] a' c' hi W' (RdK.ints HR.out hj').1 (HS.out.below (hbr.trans (h.mono hbr.size))) (by omega) (by omega) (hkr.on (h.mono (Nat.le_trans hhi hbr.size))) (Nat.le_trans hhi (Nat.le_trans hbr.size h.size))
                    by_cases hkf : ks[j].f = k
                    · have hkfe : (ks[j].f == (k : Int)) = true := by simp [hkf]
                      have HF : Hid (rightT ss (.mk k v ks) = false) := by show _ = _; rw [HW.out, HK.out, HD.out, rightL, HA.out.1, hkfe]; simp
                      clear IR0 HK HD hkr hkf
                      go_wp2_with fail
                      go_quiet ((fail))
                      go_wp2_with fail
                      go_ret
                      exact ⟨rtB HF.out.symm, below_drewN hbr _⟩
                    · have hkfe : (ks[j].f == (k : Int)) = false := by simp [hkf]
                      by_cases hjz : j = 0
                      · have hjn : decide ((0 : Int) < (j : Int)) = false := by simp; omega
                        have hjn2 : decide (0 < j) = false := by simp; omega
                        have HJ : Hid ((if j = 0 then (none : Option TermD) else ks[j-1]?) = none) := by show _ = _; rw [if_pos hjz]
                        clear hjz hkf
                        cases hrt : rightT ss ks[j] with
                        | false =>
                          have IR : ∀ W', Below wr.heap.size wr W' → Calls Try.prog 76 #[.slice (some ⟨b0, o0, none⟩) ss.length sc, .agg #[.int .i64 ks[j].f, .int .i64 ks[j].v, .slice a' ks[j].kids.length c']] W' fun e w' => e = .returned (.bool false) ∧ Below W'.heap.size W' w' := fun W' h => by have := IR0 W' h; rwa [hrt] at this
                          have HF : Hid (rightT ss (.mk k v ks) = false) := by show _ = _; rw [HW.out, HK.out, HD.out, rightL, hrt]; simp
                          clear IR0 HK HD hrt hkr
                          go_wp2_with fail
                          have k0 := cellB hp0
                          have k2 := cellB hp2
                          have k3 := cellB g2
                          have k4 := cellB d0
                          have k5 := cellB d1
                          have k6 := cellB d2
                          refine wp_region_below (by kernel_rfl) (by kernel_rfl) ?_
                          repeat (go_big_quiet_step ((first | (go_at_call 76; refine callsB (IR _ (BW.b _))))))
                          refine wpQuiet_nil ?_
                          intro w2 hw'
                          have hb2 : Below wr.heap.size wr w2 := by obtain ⟨p, rfl⟩ := hw'; exact p.b
                          clear hw'
                          have hB2 : Below w.heap.size w w2 := hbr.trans (hb2.mono hbr.size)
                          have q0 := keepC hb2 hp0
                          have q2 := keepC hb2 hp2
                          clear k0 k2 k3 k4 k5 k6
                          go_wp2_with fail
                          go_ret
                          exact ⟨rtB HF.out.symm, hB2⟩
                        | true =>
                          have IR : ∀ W', Below wr.heap.size wr W' → Calls Try.prog 76 #[.slice (some ⟨b0, o0, none⟩) ss.length sc, .agg #[.int .i64 ks[j].f, .int .i64 ks[j].v, .slice a' ks[j].kids.length c']] W' fun e w' => e = .returned (.bool true) ∧ Below W'.heap.size W' w' := fun W' h => by have := IR0 W' h; rwa [hrt] at this
                          have HN : Hid (rightL ss k none ks = rightL ss k (if j + 1 = 0 then none else ks[j + 1 - 1]?) (ks.drop (j + 1))) := by show _ = _; rw [HK.out, HD.out, rightL, hrt, if_neg (by omega : ¬ j + 1 = 0), show j + 1 - 1 = j by omega, List.getElem?_eq_getElem hj']; rw [HJ.out, HA.out.1, hkfe]; simp [befO]
                          clear IR0 HK HD hrt hkr
                          go_wp2_with fail
                          have k0 := cellB hp0
                          have k2 := cellB hp2
                          have k3 := cellB g2
                          have k4 := cellB d0
                          have k5 := cellB d1
                          have k6 := cellB d2
                          refine wp_region_below (by kernel_rfl) (by kernel_rfl) ?_
                          repeat (go_big_quiet_step ((first | (go_at_call 76; refine callsB (IR _ (BW.b _))))))
                          refine wpQuiet_nil ?_
                          intro w2 hw'
                          have hb2 : Below wr.heap.size wr w2 := by obtain ⟨p, rfl⟩ := hw'; exact p.b
                          clear hw'
                          have hB2 : Below w.heap.size w w2 := hbr.trans (hb2.mono hbr.size)
                          have q0 := keepC hb2 hp0
                          have q2 := keepC hb2 hp2
                          clear k0 k2 k3 k4 k5 k6
                          go_wp2_with fail
                          go_roundw
                          case rel => exact ⟨j + 1, by omega, by go_num, HN, q0, q2, hB2, World.block_lt_of_cell? _ _ q0⟩
                          case measure => simp [intOf]; omega
                      · obtain ⟨i, rfl⟩ : ∃ i, j = i + 1 := ⟨j - 1, by omega⟩
                        have hi' : i < ks.length := by omega
                        obtain ⟨b9, off9, a9, c9, e9, hlt9, y0, y1, y2, hkr9⟩ := RdK.kid (HR.out.on (hbr.mono hhi)) hi'
                        cases e9
                        have hjn : (0 : Int) < ((i + 1 : Nat) : Int) := by omega
                        have hi0 : (0 : Int) ≤ (i : Int) := by omega
                        have hi1 : (i : Int) < (ks.length : Int) := by omega
                        have hsub : IntKind.i64.wrap (((i + 1 : Nat) : Int) - 1) = (i : Int) := by rw [IntKind.wrap_i64]; omega
                        have hsub2 : IntKind.i64.wrap ((i : Int) + 1 - 1) = (i : Int) := by rw [IntKind.wrap_i64]; omega
                        have hsub3 : IntKind.i64.wrap (i : Int) = (i : Int) := by rw [IntKind.wrap_i64]; omega
                        have HJ : Hid ((if i + 1 = 0 then (none : Option TermD) else ks[i + 1 - 1]?) = some ks[i]) := by show _ = _; rw [if_neg hjz, show i + 1 - 1 = i by omega, List.getElem?_eq_getElem hi']
                        have CB0 := fun W' (h : Below wr.heap.size wr W') => specBefore_any (partsT ks[i + 1]) ks[i + 1] ks[i] a' a9 c' c9 hi W' (Nat.le_refl _) (by omega) (hkr.on (h.mono (Nat.le_trans hhi hbr.size))) (hkr9.on (h.mono (Nat.le_trans hhi hbr.size))) (Nat.le_trans hhi (Nat.le_trans hbr.size h.size))
                        clear hjz hkf
                        cases hbf : befT ks[i + 1] ks[i] with
                        | true =>
                          have CB : ∀ W', Below wr.heap.size wr W' → Calls Try.prog 53 #[.agg #[.int .i64 ks[i + 1].f, .int .i64 ks[i + 1].v, .slice a' ks[i + 1].kids.length c'], .agg #[.int .i64 ks[i].f, .int .i64 ks[i].v, .slice a9 ks[i].kids.length c9]] W' fun e w' => e = .returned (.bool true) ∧ Below W'.heap.size W' w' := fun W' h => by have := CB0 W' h; rwa [hbf] at this
                          have HF : Hid (rightT ss (.mk k v ks) = false) := by show _ = _; rw [HW.out, HK.out, HD.out, rightL, HJ.out, HA.out.1, befO, hbf]; simp
                          clear IR0 CB0 HK HD hkr hkr9 hbf
                          go_wp2_with fail
                          have k0 := cellB hp0
                          have k2 := cellB hp2
                          have k3 := cellB g2
                          have k4 := cellB d0
                          have k5 := cellB d1
                          have k6 := cellB d2
                          have k7 := cellB y0
                          have k8 := cellB y1
                          have k9 := cellB y2
                          refine wp_region_below (by kernel_rfl) (by kernel_rfl) ?_
                          repeat (go_big_quiet_step ((go_at_call 53; refine callsB (CB _ (BW.b _)))))
                          refine wpQuiet_nil ?_
                          intro w2 hw'
                          have hb2 : Below wr.heap.size wr w2 := by obtain ⟨p, rfl⟩ := hw'; exact p.b
                          clear hw'
                          have hB2 : Below w.heap.size w w2 := hbr.trans (hb2.mono hbr.size)
                          clear k0 k2 k3 k4 k5 k6 k7 k8 k9
                          go_wp2_with fail
                          go_ret
                          exact ⟨rtB HF.out.symm, hB2⟩
                        | false =>
                          have CB : ∀ W', Below wr.heap.size wr W' → Calls Try.prog 53 #[.agg #[.int .i64 ks[i + 1].f, .int .i64 ks[i + 1].v, .slice a' ks[i + 1].kids.length c'], .agg #[.int .i64 ks[i].f, .int .i64 ks[i].v, .slice a9 ks[i].kids.length c9]] W' fun e w' => e = .returned (.bool false) ∧ Below W'.heap.size W' w' := fun W' h => by have := CB0 W' h; rwa [hbf] at this
                          clear CB0 hkr9
                          cases hrt : rightT ss ks[i + 1] with
                          | false =>
                            have IR : ∀ W', Below wr.heap.size wr W' → Calls Try.prog 76 #[.slice (some ⟨b0, o0, none⟩) ss.length sc, .agg #[.int .i64 ks[i + 1].f, .int .i64 ks[i + 1].v, .slice a' ks[i + 1].kids.length c']] W' fun e w' => e = .returned (.bool false) ∧ Below W'.heap.size W' w' := fun W' h => by have := IR0 W' h; rwa [hrt] at this
                            have HF : Hid (rightT ss (.mk k v ks) = false) := by show _ = _; rw [HW.out, HK.out, HD.out, rightL, hrt]; simp
                            clear IR0 HK HD hrt hkr hbf
                            go_wp2_with fail
                            have k0 := cellB hp0
                            have k2 := cellB hp2
                            have k3 := cellB g2
                            have k4 := cellB d0
                            have k5 := cellB d1
                            have k6 := cellB d2
                            have k7 := cellB y0
                            have k8 := cellB y1
                            have k9 := cellB y2
                            refine wp_region_below (by kernel_rfl) (by kernel_rfl) ?_
                            repeat (go_big_quiet_step ((first | (go_at_call 76; refine callsB (IR _ (BW.b _))) | (go_at_call 53; refine callsB (CB _ (BW.b _))))))
                            refine wpQuiet_nil ?_
                            intro w2 hw'
                            have hb2 : Below wr.heap.size wr w2 := by obtain ⟨p, rfl⟩ := hw'; exact p.b
                            clear hw'
                            have hB2 : Below w.heap.size w w2 := hbr.trans (hb2.mono hbr.size)
                            have q0 := keepC hb2 hp0
                            have q2 := keepC hb2 hp2
                            clear k0 k2 k3 k4 k5 k6
                            go_wp2_with fail
                            go_ret
                            exact ⟨rtB HF.out.symm, hB2⟩
                          | true =>
                            have IR : ∀ W', Below wr.heap.size wr W' → Calls Try.prog 76 #[.slice (some ⟨b0, o0, none⟩) ss.length sc, .agg #[.int .i64 ks[i + 1].f, .int .i64 ks[i + 1].v, .slice a' ks[i + 1].kids.length c']] W' fun e w' => e = .returned (.bool true) ∧ Below W'.heap.size W' w' := fun W' h => by have := IR0 W' h; rwa [hrt] at this
                            have HN : Hid (rightL ss k none ks = rightL ss k (if i + 1 + 1 = 0 then none else ks[i + 1 + 1 - 1]?) (ks.drop (i + 1 + 1))) := by show _ = _; rw [HK.out, HD.out, rightL, hrt, if_neg (by omega : ¬ i + 1 + 1 = 0), show i + 1 + 1 - 1 = i + 1 by omega, List.getElem?_eq_getElem hj']; rw [HJ.out, HA.out.1, hkfe, befO, hbf]; simp
                            clear IR0 HK HD hrt hkr hbf
                            go_wp2_with fail
                            have k0 := cellB hp0
                            have k2 := cellB hp2
                            have k3 := cellB g2
                            have k4 := cellB d0
                            have k5 := cellB d1
                            have k6 := cellB d2
                            have k7 := cellB y0
                            have k8 := cellB y1
                            have k9 := cellB y2
                            refine wp_region_below (by kernel_rfl) (by kernel_rfl) ?_
                            repeat (go_big_quiet_step ((first | (go_at_call 76; refine callsB (IR _ (BW.b _))) | (go_at_call 53; refine callsB (CB _ (BW.b _))))))
                            refine wpQuiet_nil ?_
                            intro w2 hw'
                            have hb2 : Below wr.heap.size wr w2 := by obtain ⟨p, rfl⟩ := hw'; exact p.b
                            clear hw'
                            have hB2 : Below w.heap.size w w2 := hbr.trans (hb2.mono hbr.size)
                            have q0 := keepC hb2 hp0
                            have q2 := keepC hb2 hp2
                            clear k0 k2 k3 k4 k5 k6
                            go_wp2_with fail
                            go_roundw
                            case rel => exact ⟨i + 1 + 1, by omega, by go_num, HN, q0, q2, hB2, World.block_lt_of_cell? _ _ q0⟩
                            case measure => simp [intOf]; omega
                  · have HE : Hid (rightT ss (.mk k v ks) = true) := by show _ = _; rw [HW.out, HK.out, List.drop_eq_nil_of_le (by omega), rightL]
                    clear HK
                    go_wp2_with fail
                    go_ret
                    exact ⟨rtB HE.out.symm, hbr⟩
          · have hve : (v == 0) = false := by simp [hv0]
            have hvn : (v != 0) = true := by simp [hv0]
            have HW : Hid (rightT ss (.mk k v ks) = false) := by show _ = _; rw [HW0.out, if_neg hv, hve]; simp
            clear HW0 hv hv0 HA
            go_enter Try.func76, Try.ntmps76
            go_wp2_with fail
            rw [← hW]
            clear hW
            go_quiet ((go_at_call 48; refine Calls.quiet_of_same (IN _)))
            go_wp2_with fail
            go_ret
            exact ⟨rtB HW.out.symm, below_drewN hb0 _⟩
      · have HW : Hid (rightT ss (.mk f v ks) = false) := by show _ = _; rw [HW0.out, if_neg hv, decide_eq_false hin]; simp
        have IN := fun w => l1In_any f 0 ((ss.length : Int) - 1) w
        rw [show (decide ((0 : Int) ≤ f) && decide (f ≤ (ss.length : Int) - 1)) = false by simp; omega] at IN
        have hsl : (ss.length : Int) ≤ 1048577 := by omega
        clear HW0 hv hs hin
        go_enter Try.func76, Try.ntmps76
        go_wp2_with fail
        rw [← hW]
        clear hW
        have hwr : IntKind.i64.wrap ((ss.length : Int) - 1) = (ss.length : Int) - 1 := by rw [IntKind.wrap_i64]; omega
        go_quiet ((go_at_call 48; refine Calls.quiet_of_same (IN _)))
        go_wp2_with fail
        go_ret
        exact ⟨rtB HW.out.symm, below_drewN hb0 _⟩
end Go.Proofs.Ytollijngiioonaa

/- Whether a term is right, its size too, as the specification tells it. Conditions: terms of at most 549755813888 parts, at most 1048577 functions. -/
namespace Go.Proofs.Ytollijngiioonaa
set_option maxRecDepth 100000
open Go.RowKit

set_option maxHeartbeats 3200000 in
theorem specTermOk_any (sa : Option Addr) (ss : List SymD) (sc : Nat) (hss : ss.length ≤ 1048577) (hnm : ∀ s ∈ ss, s.name.size ≤ 1048576) (t : TermD) (a : Option Addr) (c hi : Nat) (w : World) (hf : isW t.f) (hs : RdS w sa ss) (hp : partsT t ≤ 549755813888) (hr : RdK w hi a t.kids) (hhi : hi ≤ w.heap.size) :
    Calls Try.prog 62 #[.slice sa ss.length sc, .agg #[.int .i64 t.f, .int .i64 t.v, .slice a t.kids.length c]] w fun e w' => e = .returned (.bool (sigOk ss && decide (partsT t ≤ 60) && rightT ss t)) ∧ Below w.heap.size w w' := by
  obtain ⟨W, hW⟩ : ∃ W, W = w.alloc (.cells #[.int .i64 t.f, .int .i64 t.v, .slice a t.kids.length c] 27) := ⟨_, rfl⟩
  have hB : Below w.heap.size w W := by rw [hW]; exact (Below.refl _ _).alloc (Nat.le_refl _) _
  have p0 : W.cell? ⟨w.heap.size, 0, none⟩ = some (.int .i64 t.f) := by rw [hW]; simp [go_sem]
  have p1 : W.cell? ⟨w.heap.size, 1, none⟩ = some (.int .i64 t.v) := by rw [hW]; simp [go_sem]
  have p2 : W.cell? ⟨w.heap.size, 2, none⟩ = some (.slice a t.kids.length c) := by rw [hW]; simp [go_sem]
  have CS := fun W' (h : Below W.heap.size W W') => specSigOk_any sa ss ss.length sc W' rfl ((hs.below hB).below h) hss hnm
  have CP := fun W' (h : Below W.heap.size W W') => specParts_any (partsT t) t a c hi W' (Nat.le_refl _) hp (hr.on ((hB.trans (h.mono hB.size)).mono hhi)) (Nat.le_trans hhi (Nat.le_trans hB.size h.size))
  have CR := fun W' (h : Below W.heap.size W W') => l4Right_any sa ss sc hss (partsT t) t a c hi W' hf ((hs.below hB).below h) (Nat.le_refl _) hp (hr.on ((hB.trans (h.mono hB.size)).mono hhi)) (Nat.le_trans hhi (Nat.le_trans hB.size h.size))
  clear hs hr hf
  cases hsg : sigOk ss with
  | false =>
    simp only [hsg] at CS
    clear CP CR
    go_enter Try.func62, Try.ntmps62
    go_wp2_with (go_at_call 74; rw [← hW]; refine (CS _ (Below.refl _ _)).mono ?_; rintro e w1 ⟨rfl, hw⟩; subst w1; clear hW)
    go_ret
    exact ⟨rtB (by simp), hB⟩
  | true =>
    simp only [hsg] at CS
    by_cases h60 : partsT t ≤ 60
    · have h60i : ((partsT t : Nat) : Int) ≤ 60 := by omega
      rw [decide_eq_true h60]
      go_enter Try.func62, Try.ntmps62
      go_wp2_with (first
        | (go_at_call 74; rw [← hW]; refine (CS _ (Below.refl _ _)).mono ?_; rintro e w1 ⟨rfl, hw⟩; subst w1; clear hW)
        | (go_at_call 75; refine (CP _ (Below.refl _ _)).mono ?_; rintro e w2 ⟨rfl, hb2⟩; have q0 := keepC hb2 p0; have q1 := keepC hb2 p1; have q2 := keepC hb2 p2; have hB2 : Below w.heap.size w w2 := hB.trans (hb2.mono hB.size); clear p0 p1 p2)
        | (go_at_call 76; refine (CR _ hb2).mono ?_; rintro e w3 ⟨rfl, hb3⟩; have hB3 : Below w.heap.size w w3 := hB2.trans (hb3.mono hB2.size)))
      go_ret
      exact ⟨rtB (by simp), hB3⟩
    · have h60i : ¬ ((partsT t : Nat) : Int) ≤ 60 := by omega
      rw [decide_eq_false h60]
      clear CR
      go_enter Try.func62, Try.ntmps62
      go_wp2_with (first
        | (go_at_call 74; rw [← hW]; refine (CS _ (Below.refl _ _)).mono ?_; rintro e w1 ⟨rfl, hw⟩; subst w1; clear hW)
        | (go_at_call 75; refine (CP _ (Below.refl _ _)).mono ?_; rintro e w2 ⟨rfl, hb2⟩; have q0 := keepC hb2 p0; have q1 := keepC hb2 p1; have q2 := keepC hb2 p2; have hB2 : Below w.heap.size w w2 := hB.trans (hb2.mono hB.size); clear p0 p1 p2))
      go_ret
      exact ⟨rtB (by simp), hB2⟩
end Go.Proofs.Ytollijngiioonaa

/- Which equation is ahead, and which is right, as the specification tells. Conditions: at most 549755813888 parts. -/
namespace Go.Proofs.Ytollijngiioonaa
set_option maxRecDepth 100000
open Go.RowKit

def tokX (ss : List SymD) (t : TermD) : Bool := sigOk ss && decide (partsT t ≤ 60) && rightT ss t
def okX (ss : List SymD) (x : LitD) : Bool := tokX ss x.l && tokX ss x.r && !befT x.l x.r
set_option maxHeartbeats 1600000 in
theorem specLitOk_any (sa : Option Addr) (ss : List SymD) (sc : Nat) (hss : ss.length ≤ 1048577) (hnm : ∀ s ∈ ss, s.name.size ≤ 1048576) (x : LitD) (a1 a2 : Option Addr) (c1 c2 hi : Nat) (w : World) (hs : RdS w sa ss) (hf1 : isW x.l.f) (hf2 : isW x.r.f) (hp1 : partsT x.l ≤ 549755813888) (hp2 : partsT x.r ≤ 549755813888) (hx1 : RdK w hi a1 x.l.kids) (hx2 : RdK w hi a2 x.r.kids) (hhi : hi ≤ w.heap.size) :
    Calls Try.prog 29 #[.slice sa ss.length sc, litV x a1 c1 a2 c2] w fun e w' => e = .returned (.bool (okX ss x)) ∧ Below w.heap.size w w' := by
  unfold litV
  obtain ⟨W, hW⟩ : ∃ W, W = w.alloc (.cells #[.bool x.p, .int .i64 x.l.f, .int .i64 x.l.v, .slice a1 x.l.kids.length c1, .int .i64 x.r.f, .int .i64 x.r.v, .slice a2 x.r.kids.length c2] 43) := ⟨_, rfl⟩
  have h0 : Below w.heap.size w W := by rw [hW]; exact (Below.refl _ _).alloc (Nat.le_refl _) _
  have p0 : W.cell? ⟨w.heap.size, 0, none⟩ = some (.bool x.p) := by rw [hW]; simp [go_sem]
  have p1 : W.cell? ⟨w.heap.size, 1, none⟩ = some (.int .i64 x.l.f) := by rw [hW]; simp [go_sem]
  have p2 : W.cell? ⟨w.heap.size, 2, none⟩ = some (.int .i64 x.l.v) := by rw [hW]; simp [go_sem]
  have p3 : W.cell? ⟨w.heap.size, 3, none⟩ = some (.slice a1 x.l.kids.length c1) := by rw [hW]; simp [go_sem]
  have p4 : W.cell? ⟨w.heap.size, 4, none⟩ = some (.int .i64 x.r.f) := by rw [hW]; simp [go_sem]
  have p5 : W.cell? ⟨w.heap.size, 5, none⟩ = some (.int .i64 x.r.v) := by rw [hW]; simp [go_sem]
  have p6 : W.cell? ⟨w.heap.size, 6, none⟩ = some (.slice a2 x.r.kids.length c2) := by rw [hW]; simp [go_sem]
  have E1 := specTermOk_any sa ss sc hss hnm x.l a1 c1 hi W hf1 (hs.below h0) hp1 (hx1.on (h0.mono hhi)) (Nat.le_trans hhi h0.size)
  have E2 := fun (W' : World) (h : Below w.heap.size w W') => specTermOk_any sa ss sc hss hnm x.r a2 c2 hi W' hf2 (hs.below h) hp2 (hx2.on (h.mono hhi)) (Nat.le_trans hhi h.size)
  have E3 := fun (W' : World) (h : Below w.heap.size w W') => specBefore_any (partsT x.l) x.l x.r a1 a2 c1 c2 hi W' (Nat.le_refl _) hp1 (hx1.on (h.mono hhi)) (hx2.on (h.mono hhi)) (Nat.le_trans hhi h.size)
  have HS : Hid (okX ss x = ((sigOk ss && decide (partsT x.l ≤ 60) && rightT ss x.l) && (sigOk ss && decide (partsT x.r ≤ 60) && rightT ss x.r) && !befT x.l x.r)) := rfl
  clear hx1 hx2 hp1 hp2 hs hf1 hf2 hss hnm
  generalize (sigOk ss && decide (partsT x.l ≤ 60) && rightT ss x.l) = s1 at E1 HS
  generalize (sigOk ss && decide (partsT x.r ≤ 60) && rightT ss x.r) = s2 at E2 HS
  generalize befT x.l x.r = s3 at E3 HS
  cases s1
  · have HF : Hid (okX ss x = false) := HS.out.trans rfl
    clear HS E2 E3
    go_enter Try.func29, Try.ntmps29
    go_wp2_with (go_at_call_of 62 a1; rw [← hW]; clear hW; refine E1.mono ?_; rintro e w1 ⟨rfl, hb1⟩; have hB1 := h0.trans (hb1.mono h0.size); have p0' := keepC hb1 p0; have p1' := keepC hb1 p1; have p2' := keepC hb1 p2; have p3' := keepC hb1 p3; have p4' := keepC hb1 p4; have p5' := keepC hb1 p5; have p6' := keepC hb1 p6; clear p0 p1 p2 p3 p4 p5 p6; have p0 := p0'; have p1 := p1'; have p2 := p2'; have p3 := p3'; have p4 := p4'; have p5 := p5'; have p6 := p6'; clear p0' p1' p2' p3' p4' p5' p6'; clear hb1)
    go_ret
    exact ⟨rtB HF.out.symm, hB1⟩
  · cases s2
    · have HF : Hid (okX ss x = false) := HS.out.trans rfl
      clear HS E3
      go_enter Try.func29, Try.ntmps29
      go_wp2_with (first
        | (go_at_call_of 62 a1; rw [← hW]; clear hW; refine E1.mono ?_; rintro e w1 ⟨rfl, hb1⟩; have hB1 := h0.trans (hb1.mono h0.size); have p0' := keepC hb1 p0; have p1' := keepC hb1 p1; have p2' := keepC hb1 p2; have p3' := keepC hb1 p3; have p4' := keepC hb1 p4; have p5' := keepC hb1 p5; have p6' := keepC hb1 p6; clear p0 p1 p2 p3 p4 p5 p6; have p0 := p0'; have p1 := p1'; have p2 := p2'; have p3 := p3'; have p4 := p4'; have p5 := p5'; have p6 := p6'; clear p0' p1' p2' p3' p4' p5' p6'; clear hb1)
        | (go_at_call_of 62 a2; refine (E2 w1 hB1).mono ?_; rintro e w2 ⟨rfl, hb2⟩; have hB2 := hB1.trans (hb2.mono hB1.size); have p0' := keepC hb2 p0; have p1' := keepC hb2 p1; have p2' := keepC hb2 p2; have p3' := keepC hb2 p3; have p4' := keepC hb2 p4; have p5' := keepC hb2 p5; have p6' := keepC hb2 p6; clear p0 p1 p2 p3 p4 p5 p6; have p0 := p0'; have p1 := p1'; have p2 := p2'; have p3 := p3'; have p4 := p4'; have p5 := p5'; have p6 := p6'; clear p0' p1' p2' p3' p4' p5' p6'; clear hb2))
      go_ret
      exact ⟨rtB HF.out.symm, hB2⟩
    · have HF : Hid (okX ss x = !s3) := HS.out.trans (by simp)
      clear HS
      go_enter Try.func29, Try.ntmps29
      go_wp2_with (first
        | (go_at_call_of 62 a1; rw [← hW]; clear hW; refine E1.mono ?_; rintro e w1 ⟨rfl, hb1⟩; have hB1 := h0.trans (hb1.mono h0.size); have p0' := keepC hb1 p0; have p1' := keepC hb1 p1; have p2' := keepC hb1 p2; have p3' := keepC hb1 p3; have p4' := keepC hb1 p4; have p5' := keepC hb1 p5; have p6' := keepC hb1 p6; clear p0 p1 p2 p3 p4 p5 p6; have p0 := p0'; have p1 := p1'; have p2 := p2'; have p3 := p3'; have p4 := p4'; have p5 := p5'; have p6 := p6'; clear p0' p1' p2' p3' p4' p5' p6'; clear hb1)
        | (go_at_call_of 62 a2; refine (E2 w1 hB1).mono ?_; rintro e w2 ⟨rfl, hb2⟩; have hB2 := hB1.trans (hb2.mono hB1.size); have p0' := keepC hb2 p0; have p1' := keepC hb2 p1; have p2' := keepC hb2 p2; have p3' := keepC hb2 p3; have p4' := keepC hb2 p4; have p5' := keepC hb2 p5; have p6' := keepC hb2 p6; clear p0 p1 p2 p3 p4 p5 p6; have p0 := p0'; have p1 := p1'; have p2 := p2'; have p3 := p3'; have p4 := p4'; have p5 := p5'; have p6 := p6'; clear p0' p1' p2' p3' p4' p5' p6'; clear hb2)
        | (go_at_call 53; refine (E3 w2 hB2).mono ?_; rintro e w3 ⟨rfl, hb3⟩; have hB3 := hB2.trans (hb3.mono hB2.size); clear hb3))
      go_ret
      exact ⟨rtB HF.out.symm, hB3⟩
end Go.Proofs.Ytollijngiioonaa

/- How the program holds the heads of two terms against each other. Conditions: none. -/
namespace Go.Proofs.Ytollijngiioonaa
set_option maxRecDepth 100000
open Go.RowKit

theorem isNaN_any (x : Int) (w : World) : Calls Try.prog 117 #[.int .i64 x] w fun e w' => e = .returned (.bool false) ∧ w' = w := by
  have h : (x != x) = false := by simp
  go_enter Try.func117, Try.ntmps117
  go_wp2
  go_ret
  exact ⟨rfl, rfl⟩

theorem compare_any (x y : Int) (w : World) : Calls Try.prog 89 #[.int .i64 x, .int .i64 y] w fun e w' => e = .returned (.int .i64 (cmpI x y)) ∧ w' = w := by
  by_cases h1 : x < y
  · have HC : Hid (cmpI x y = -1) := by show _ = _; unfold cmpI; rw [if_pos h1]
    go_enter Try.func89, Try.ntmps89
    go_wp2_with (go_at_call 117; refine (isNaN_any _ _).mono ?_; rintro e w' ⟨rfl, rfl⟩)
    go_ret
    exact ⟨rtI HC.out.symm, rfl⟩
  · by_cases h2 : y < x
    · have HC : Hid (cmpI x y = 1) := by show _ = _; unfold cmpI; rw [if_neg h1, if_pos h2]
      go_enter Try.func89, Try.ntmps89
      go_wp2_with (go_at_call 117; refine (isNaN_any _ _).mono ?_; rintro e w' ⟨rfl, rfl⟩)
      go_ret
      exact ⟨rtI HC.out.symm, rfl⟩
    · have HC : Hid (cmpI x y = 0) := by show _ = _; unfold cmpI; rw [if_neg h1, if_neg h2]
      go_enter Try.func89, Try.ntmps89
      go_wp2_with (go_at_call 117; refine (isNaN_any _ _).mono ?_; rintro e w' ⟨rfl, rfl⟩)
      go_ret
      exact ⟨rtI HC.out.symm, rfl⟩

theorem or3_any (g : Nat) (x y z : Int) (w : World) (h0 : w.cell? ⟨g, 0, none⟩ = some (.int .i64 x)) (h1 : w.cell? ⟨g, 1, none⟩ = some (.int .i64 y)) (h2 : w.cell? ⟨g, 2, none⟩ = some (.int .i64 z)) :
    Calls Try.prog 88 #[.slice (some ⟨g, 0, none⟩) 3 3] w fun e w' => e = .returned (.int .i64 (or3 x y z)) ∧ w' = w := by
  go_enter Try.func88, Try.ntmps88
  go_wp2
  refine wp_loop_rounds 4 ?_
  rw [rounds_succ]
  by_cases e0 : x = 0
  · have b0 : (x != 0) = false := by simp [e0]
    go_wp2
    rw [rounds_succ]
    by_cases e1 : y = 0
    · have b1 : (y != 0) = false := by simp [e1]
      go_wp2
      rw [rounds_succ]
      by_cases e2 : z = 0
      · have b2 : (z != 0) = false := by simp [e2]
        have HC : Hid (or3 x y z = 0) := by show _ = _; unfold or3; simp [e0, e1, e2]
        clear e0 e1 e2
        go_wp2
        rw [rounds_succ]
        go_wp2
        go_ret
        exact ⟨rtI HC.out.symm, rfl⟩
      · have b2 : (z != 0) = true := by simp [e2]
        have HC : Hid (or3 x y z = z) := by show _ = _; unfold or3; simp [e0, e1]
        clear e0 e1 e2
        go_wp2
        go_ret
        exact ⟨rtI HC.out.symm, rfl⟩
    · have b1 : (y != 0) = true := by simp [e1]
      have HC : Hid (or3 x y z = y) := by show _ = _; unfold or3; simp [e0, e1]
      clear e0 e1
      go_wp2
      go_ret
      exact ⟨rtI HC.out.symm, rfl⟩
  · have b0 : (x != 0) = true := by simp [e0]
    have HC : Hid (or3 x y z = x) := by show _ = _; unfold or3; simp [e0]
    clear e0
    go_wp2
    go_ret
    exact ⟨rtI HC.out.symm, rfl⟩

set_option maxHeartbeats 1600000 in
theorem headOrder_any (t u : TermD) (a a' : Option Addr) (c c' : Nat) (w : World) :
    Calls Try.prog 70 #[.agg #[.int .i64 t.f, .int .i64 t.v, .slice a t.kids.length c], .agg #[.int .i64 u.f, .int .i64 u.v, .slice a' u.kids.length c']] w fun e w' => e = .returned (.int .i64 (headO t u)) ∧ Below w.heap.size w w' := by
  have HC : Hid (headO t u = or3 (cmpI t.f u.f) (cmpI t.v u.v) (cmpI t.kids.length u.kids.length)) := rfl
  generalize t.kids.length = n at *
  generalize u.kids.length = m at *
  go_enter Try.func70, Try.ntmps70
  go_wp2_with fail
  go_region_held3 (fun w' => w'.cell? ⟨w.heap.size, 0, none⟩ = some (.int .i64 t.f) ∧ w'.cell? ⟨w.heap.size, 1, none⟩ = some (.int .i64 t.v) ∧ w'.cell? ⟨w.heap.size, 2, none⟩ = some (.slice a n c) ∧ w'.cell? ⟨w.heap.size + 1, 0, none⟩ = some (.int .i64 u.f) ∧ w'.cell? ⟨w.heap.size + 1, 1, none⟩ = some (.int .i64 u.v) ∧ w'.cell? ⟨w.heap.size + 1, 2, none⟩ = some (.slice a' m c')) (first | go_keep | skip)
    (first | (go_at_call 89; refine (compare_any _ _ _).mono ?_; rintro e w' ⟨rfl, hw⟩; subst w') | (go_at_call 88; refine (or3_any _ (cmpI t.f u.f) (cmpI t.v u.v) (cmpI n m) _ ?_ ?_ ?_).mono ?_; (simp [go_sem]); (simp [go_sem]); (simp [go_sem]); rintro e w' ⟨rfl, hw⟩; subst w'))
  go_wp2_with fail
  go_ret
  exact ⟨rtI HC.out.symm, (((((Below.refl w.heap.size w).alloc (Nat.le_refl _) _).alloc (by simp) _).alloc (by simp; omega) _).drew)⟩
end Go.Proofs.Ytollijngiioonaa

/- The rest of a slice of terms behind its first. Conditions: none. -/
namespace Go.Proofs.Ytollijngiioonaa
set_option maxRecDepth 100000
open Go.RowKit

theorem slice_tail (b off n c : Nat) (w : World) : (Instr.slice 25 (.slice (some ⟨b, off, none⟩) (n + 1) c) (some (.int .i64 1)) none none).run Try.prog w = .ok (.slice (tailA b off c) n (c - 1)) w := by
  have h0 : (sizeOf 27).run Try.prog w = .ok 3 w := by simp [go_sem]
  simp only [Instr.slice, Sem.run_bind, run_underlying Try.underlying25, Result.andThen]
  have hb : (Instr.sliceBounds true (n + 1) c (some (.int .i64 1)) none none).run Try.prog w = .ok (1, n + 1, c) w := by
    simp [Instr.sliceBounds, Instr.sliceBound, asIntOf, go_sem]
    omega
  simp only [hb, h0, Sem.run_pure]
  unfold tailA
  split <;> simp [Addr.add]
theorem sliceAt_tail (b off n c : Nat) (w : World) : (Instr.sliceAt 25 (.slice (some ⟨b, off, none⟩) (n + 1) c) (some (.int .i64 1)) none none).run Try.prog w = .ok (.slice (tailA b off c) n (c - 1)) w := by
  simp only [Instr.sliceAt, Sem.run_bind, run_underlying Try.underlying25, Result.andThen, slice_tail b off n c w]

end Go.Proofs.Ytollijngiioonaa

