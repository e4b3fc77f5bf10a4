/- What the proof of FnOneForm stands on, part 2 of 11: each piece says what it proves and under which conditions. Conditions: as each piece says. -/
import Derived.Test.YtollijngiioonaaPackOneForm1
import Derived.Test.YtollijngiioonaaProg
import Derived.Deep.RegionHeld3
import Derived.Deep.DeepMust
import Derived.Deep.QuietTactic
import Derived.BigQuiet
import Derived.WalkKit
import Derived.ProofKit
import Derived.OpenShut
import Derived.WalkSmall
import Derived.Below
import Derived.Deep.Draws
import Derived.Maps.AppendAt
/- Lists of terms that read within a set of blocks, and stacks of them in a row of their own. Conditions: none. -/
namespace Go.Proofs.Ytollijngiioonaa
set_option maxRecDepth 100000
open Go.RowKit

/-- The slice of terms that begins at 'a' reads in w as ts, all of its blocks in S. -/
inductive RdP (w : World) (S : Nat → Prop) : Option Addr → List TermD → Prop
  | nil (a : Option Addr) : RdP w S a []
  | row (b off : Nat) (ts : List TermD) (A : Nat → Option Addr) (C : Nat → Nat) (hlt : S b) (hl : ∀ i, (h : i < ts.length) → ts[i].kids.length ≤ C i) 
      (hc : ∀ i, (h : i < ts.length) → w.cell? ⟨b, off + i * 3, none⟩ = some (.int .i64 ts[i].f) ∧ w.cell? ⟨b, off + i * 3 + 1, none⟩ = some (.int .i64 ts[i].v) ∧ w.cell? ⟨b, off + i * 3 + 2, none⟩ = some (.slice (A i) ts[i].kids.length (C i)))
      (hk : ∀ i, (h : i < ts.length) → RdP w S (A i) ts[i].kids) : RdP w S (some ⟨b, off, none⟩) ts

theorem RdK.p {w : World} {hi : Nat} {S : Nat → Prop} {a : Option Addr} {ts : List TermD} (h : RdK w hi a ts) (hs : ∀ k, k < hi → S k) : RdP w S a ts := by
  induction h with
  | nil a => exact .nil a
  | row b off ts A C hlt hl hz hc hk ih => exact .row b off ts A C (hs _ hlt) hl.2 hc ih

theorem RdP.stay {w w' : World} {S : Nat → Prop} {a : Option Addr} {ts : List TermD} (h : RdP w S a ts) (hb : Stay S w w') : RdP w' S a ts := by
  induction h with
  | nil a => exact .nil a
  | row b off ts A C hlt hl hc hk ih =>
    refine .row b off ts A C hlt hl (fun i h => ?_) ih
    obtain ⟨h0, h1, h2⟩ := hc i h
    exact ⟨hb.cell h0 hlt, hb.cell h1 hlt, hb.cell h2 hlt⟩

theorem RdP.weak {w : World} {S T : Nat → Prop} {a : Option Addr} {ts : List TermD} (h : RdP w S a ts) (hs : ∀ k, S k → T k) : RdP w T a ts := by
  induction h with
  | nil a => exact .nil a
  | row b off ts A C hlt hl hc hk ih => exact .row b off ts A C (hs _ hlt) hl hc ih

theorem RdP.head {w : World} {S : Nat → Prop} {a : Option Addr} {t : TermD} {ts : List TermD} (h : RdP w S a (t :: ts)) :
    ∃ b off a' c', a = some ⟨b, off, none⟩ ∧ S b ∧ w.cell? ⟨b, off, none⟩ = some (.int .i64 t.f) ∧ w.cell? ⟨b, off + 1, none⟩ = some (.int .i64 t.v) ∧ w.cell? ⟨b, off + 2, none⟩ = some (.slice a' t.kids.length c') ∧ t.kids.length ≤ c' ∧ RdP w S a' t.kids := by
  cases h with
  | row b off _ A C hlt hl hc hk =>
    have h0 := hc 0 (by simp)
    simp only [Nat.zero_mul, Nat.add_zero, List.getElem_cons_zero] at h0
    exact ⟨b, off, A 0, C 0, rfl, hlt, h0.1, h0.2.1, h0.2.2, hl 0 (by simp), hk 0 (by simp)⟩

theorem RdP.tail {w : World} {S : Nat → Prop} {b off : Nat} {t : TermD} {ts : List TermD} (h : RdP w S (some ⟨b, off, none⟩) (t :: ts)) : RdP w S (some ⟨b, off + 3, none⟩) ts := by
  cases h with
  | row _ _ _ A C hlt hl hc hk =>
    refine .row b (off + 3) ts (fun i => A (i + 1)) (fun i => C (i + 1)) hlt (fun i hi => ?_) (fun i hi => ?_) (fun i hi => ?_)
    · have := hl (i + 1) (by simpa using hi); simpa using this
    · have := hc (i + 1) (by simpa using hi)
      rw [show off + (i + 1) * 3 = off + 3 + i * 3 by omega] at this
      simpa using this
    · have := hk (i + 1) (by simpa using hi); simpa using this

/-- Where the rest of a list begins. -/
def tailA (b off c : Nat) : Option Addr := if c = 1 then some ⟨b, off, none⟩ else some ⟨b, off + 3, none⟩

theorem RdP.tailA {w : World} {S : Nat → Prop} {b off : Nat} {t : TermD} {ts : List TermD} (h : RdP w S (some ⟨b, off, none⟩) (t :: ts)) {c : Nat} (hc : ts.length + 1 ≤ c) : RdP w S (tailA b off c) ts := by
  unfold Go.Proofs.Ytollijngiioonaa.tailA
  split
  · have : ts = [] := List.eq_nil_of_length_eq_zero (by omega)
    subst this; exact .nil _
  · exact h.tail

/-- One pair of lists on the stack. -/
structure PE where
  a : Option Addr
  c : Nat
  ts : List TermD
  a' : Option Addr
  c' : Nat
  us : List TermD

/-- It reads, and its lists are of one length. -/
structure PE.Ok (e : PE) (w : World) (S : Nat → Prop) : Prop where
  r : RdP w S e.a e.ts
  r' : RdP w S e.a' e.us
  le : e.ts.length ≤ e.c
  le' : e.us.length ≤ e.c'
  eq : e.ts.length = e.us.length

theorem PE.Ok.stay {e : PE} {w w' : World} {S : Nat → Prop} (h : e.Ok w S) (hb : Stay S w w') : e.Ok w' S := ⟨h.r.stay hb, h.r'.stay hb, h.le, h.le', h.eq⟩

/-- The cells of a stack, its top last. -/
def cellsP : List PE → List Value
  | [] => []
  | e :: E => cellsP E ++ [.slice e.a e.ts.length e.c, .slice e.a' e.us.length e.c']
theorem cellsP_len (E : List PE) : (cellsP E).length = E.length * 2 := by
  induction E with
  | nil => rfl
  | cons e E ih => simp only [cellsP, List.length_append, ih, List.length_cons, List.length_nil]; omega
def dataP (E : List PE) : List (List TermD × List TermD) := E.map fun e => (e.ts, e.us)

theorem cellsP_top {w : World} {B T g c : Nat} {e : PE} {E : List PE} (h : w.ownsRow B T 2 (.slice (some ⟨g, 0, none⟩) (E.length + 1) c) (E.length + 1) (cellsP (e :: E))) :
    w.cell? ⟨g, E.length * 2, none⟩ = some (.slice e.a e.ts.length e.c) ∧ w.cell? ⟨g, E.length * 2 + 1, none⟩ = some (.slice e.a' e.us.length e.c') := by
  have hl := cellsP_len E
  refine ⟨(h.cellAt _ (by omega)).trans ?_, (h.cellAt _ (by omega)).trans ?_⟩
  · rw [cellsP, List.getElem?_append_right (by omega)]; simp [hl]
  · rw [cellsP, List.getElem?_append_right (by omega)]; simp [hl]

theorem cellsP_set {w : World} {B T g c : Nat} {e : PE} {E : List PE} (h : w.ownsRow B T 2 (.slice (some ⟨g, 0, none⟩) (E.length + 1) c) (E.length + 1) (cellsP (e :: E))) (d : PE) :
    ((w.setCell ⟨g, E.length * 2, none⟩ (.slice d.a d.ts.length d.c)).setCell ⟨g, E.length * 2 + 1, none⟩ (.slice d.a' d.us.length d.c')).ownsRow B T 2 (.slice (some ⟨g, 0, none⟩) (E.length + 1) c) (E.length + 1) (cellsP (d :: E)) := by
  have hl := cellsP_len E
  have h1 := ((h.stored (E.length * 2) (.slice d.a d.ts.length d.c)).1.stored (E.length * 2 + 1) (.slice d.a' d.us.length d.c')).1
  have e1 : ((cellsP (e :: E)).set (E.length * 2) (.slice d.a d.ts.length d.c)).set (E.length * 2 + 1) (.slice d.a' d.us.length d.c') = cellsP (d :: E) := by
    simp only [cellsP]
    rw [List.set_append_right _ _ (by omega), List.set_append_right _ _ (by omega)]
    simp [hl]
  rwa [e1] at h1

theorem cellsP_pop {w : World} {B T g c : Nat} {e : PE} {E : List PE} (h : w.ownsRow B T 2 (.slice (some ⟨g, 0, none⟩) (E.length + 1) c) (E.length + 1) (cellsP (e :: E))) :
    w.ownsRow B T 2 (.slice (some ⟨g, 0, none⟩) E.length c) E.length (cellsP E) := ownsRow_pop (cellsP_len E) h

theorem own_stay {w w' : World} {S : Nat → Prop} {base : Nat} {e : TypeId} {size : Nat} {v : Value} {n : Nat} {xs : List Value} (h : w.ownsRow base e size v n xs) (hb : Stay S w w') (hs : ∀ g, v.ownBlock = some g → S g) : w'.ownsRow base e size v n xs := by
  have hl := h.lt
  obtain ⟨h1, h2⟩ := h
  refine ⟨h1, ?_⟩
  rcases h2 with h2 | ⟨g, cap, cur, rfl, hg, hh, r⟩
  · exact .inl h2
  · exact .inr ⟨g, cap, cur, rfl, hg, by rw [hb.block g (hl g rfl).2 (hs g rfl)]; exact hh, r⟩

/-- The blocks that stay while the stack is worked on: what was there, and two of the call's own. -/
def Fx (n B k : Nat) : Prop := k < n ∨ k = B ∨ k = B + 1

/-- What lies in memory while two terms are held against each other. -/
structure OrdSt (w : World) (B T T' : Nat) (r : Int) (M : Nat) (E : List PE) (v : Value) (wr : World) : Prop where
  row : wr.ownsRow w.heap.size T 2 v E.length (cellsP E)
  k0 : ∃ cs fz, wr.heap[B]? = some (.cells cs T' fz)
  k1 : ∃ cs fz, wr.heap[B + 1]? = some (.cells cs T' fz)
  ne : T' ≠ T
  lo : w.heap.size ≤ B
  good : ∀ e ∈ E, e.Ok wr (Fx w.heap.size B)
  ord : ordS (dataP E) = r
  size : sizeS (dataP E) ≤ M
  below : Below w.heap.size w wr

namespace OrdSt
variable {w wr wr' : World} {B T T' : Nat} {r : Int} {M : Nat} {E : List PE} {v : Value}

theorem hi (h : OrdSt w B T T' r M E v wr) : B + 1 < wr.heap.size := by
  obtain ⟨cs, fz, e⟩ := h.k1; exact (Array.getElem?_eq_some_iff.1 e).1

theorem own (h : OrdSt w B T T' r M E v wr) : ∀ g, v.ownBlock = some g → ¬ Fx w.heap.size B g := by
  intro g hg hx
  have hlt := h.row.lt g hg
  rcases h.row.2 with ⟨rfl, _⟩ | ⟨g', cap, cur, rfl, _, hh, _⟩
  · cases hg
  · have e : g' = g := by simpa [Value.ownBlock] using hg
    subst e
    obtain ⟨cs, fz, e0⟩ := h.k0
    obtain ⟨cs1, fz1, e1⟩ := h.k1
    rcases hx with hx | hx | hx
    · omega
    · subst hx; rw [hh] at e0; cases e0; exact h.ne rfl
    · subst hx; rw [hh] at e1; cases e1; exact h.ne rfl

theorem on (h : OrdSt w B T T' r M E v wr) (hb : Below wr.heap.size wr wr') : OrdSt w B T T' r M E v wr' := by
  have hh := h.hi
  have hs : Stay (Fx w.heap.size B) wr wr' := .of_below hb (fun k hk _ => hk)
  refine ⟨own_on h.row hb, ?_, ?_, h.ne, h.lo, fun e he => (h.good e he).stay hs, h.ord, h.size, h.below.trans (hb.mono h.below.size)⟩
  · rw [hb.block _ (by omega)]; exact h.k0
  · rw [hb.block _ (by omega)]; exact h.k1

theorem pop {g c : Nat} {e : PE} (h : OrdSt w B T T' r M (e :: E) (.slice (some ⟨g, 0, none⟩) (E.length + 1) c) wr) (he : e.ts = []) : OrdSt w B T T' r M E (.slice (some ⟨g, 0, none⟩) E.length c) wr := by
  have he' : e.us = [] := List.eq_nil_of_length_eq_zero (by rw [← (h.good e (by simp)).eq, he]; rfl)
  have h1 := h.ord
  have h2 := h.size
  simp only [dataP, List.map_cons, he, he', ordS_pop] at h1 h2
  refine ⟨cellsP_pop h.row, h.k0, h.k1, h.ne, h.lo, fun e he => h.good e (by simp [he]), h1, ?_, h.below⟩
  simp only [sizeS] at h2
  exact Nat.le_trans (Nat.le_add_left _ _) h2

/-- Other lists stand at the stack's top. -/
theorem set {g c : Nat} {e d : PE} (h : OrdSt w B T T' r M (e :: E) (.slice (some ⟨g, 0, none⟩) (E.length + 1) c) wr) (hd : d.Ok wr (Fx w.heap.size B)) {r' : Int} (ho : ordS (dataP (d :: E)) = r') (hM : sizeS (dataP (d :: E)) ≤ M) :
    OrdSt w B T T' r' M (d :: E) (.slice (some ⟨g, 0, none⟩) (E.length + 1) c) ((wr.setCell ⟨g, E.length * 2, none⟩ (.slice d.a d.ts.length d.c)).setCell ⟨g, E.length * 2 + 1, none⟩ (.slice d.a' d.us.length d.c')) := by
  have hn := h.own g rfl
  have hlo := h.lo
  have hs : Stay (Fx w.heap.size B) wr ((wr.setCell ⟨g, E.length * 2, none⟩ (.slice d.a d.ts.length d.c)).setCell ⟨g, E.length * 2 + 1, none⟩ (.slice d.a' d.us.length d.c')) := (Stay.setCell _ _ hn).trans (Stay.setCell _ _ hn)
  have hh := h.hi
  refine ⟨cellsP_set h.row d, ?_, ?_, h.ne, h.lo, fun f hf => ?_, ho, hM, h.below.trans (hs.below h.below.size (fun k hk => .inl hk))⟩
  · rw [hs.block _ (by omega) (.inr (.inl rfl))]; exact h.k0
  · rw [hs.block _ (by omega) (.inr (.inr rfl))]; exact h.k1
  · rcases List.mem_cons.1 hf with rfl | hf
    · exact hd.stay hs
    · exact (h.good f (by simp [hf])).stay hs

/-- One more pair is put onto it. -/
theorem push {v' : Value} {d : PE} (h : OrdSt w B T T' r M E v wr) (hrow : wr'.ownsRow w.heap.size T 2 v' (E.length + 1) (cellsP E ++ [.slice d.a d.ts.length d.c, .slice d.a' d.us.length d.c'])) (hg : wr.grownBy wr' v.ownBlock) (hd : d.Ok wr (Fx w.heap.size B)) {r' : Int} (ho : ordS (dataP (d :: E)) = r') {M' : Nat} (hM : sizeS (dataP (d :: E)) ≤ M') :
    OrdSt w B T T' r' M' (d :: E) v' wr' := by
  have hs : Stay (Fx w.heap.size B) wr wr' := .grown hg (fun k hk => h.own k hk)
  have hh := h.hi
  have hlo := h.lo
  refine ⟨hrow, ?_, ?_, h.ne, h.lo, fun f hf => ?_, ho, hM, h.below.trans (hs.below h.below.size (fun k hk => .inl hk))⟩
  · rw [hs.block _ (by omega) (.inr (.inl rfl))]; exact h.k0
  · rw [hs.block _ (by omega) (.inr (.inr rfl))]; exact h.k1
  · rcases List.mem_cons.1 hf with rfl | hf
    · exact hd.stay hs
    · exact (h.good f hf).stay hs
end OrdSt

theorem own_form {w : World} {base : Nat} {e : TypeId} {size : Nat} {v : Value} {n : Nat} {xs : List Value} (h : w.ownsRow base e size v n xs) : ∃ a c, v = .slice a n c ∧ n ≤ c := by
  rcases h.2 with ⟨rfl, rfl⟩ | ⟨g, cap, _, rfl, _, _, hn, _⟩
  · exact ⟨none, 0, rfl, Nat.le_refl _⟩
  · exact ⟨_, cap, rfl, hn⟩
theorem own_slot {w : World} {base : Nat} {e : TypeId} {size : Nat} {v : Value} {n : Nat} {xs : List Value} (h : w.ownsRow base e size v (n + 1) xs) : ∃ g c, v = .slice (some ⟨g, 0, none⟩) (n + 1) c ∧ n + 1 ≤ c ∧ base ≤ g ∧ g < w.heap.size := by
  have hl := h.lt
  rcases h.2 with ⟨_, h0⟩ | ⟨g, cap, _, rfl, hb, _, hn, _⟩
  · omega
  · exact ⟨g, cap, rfl, hn, hb, (hl g rfl).2⟩

theorem two_new (w : World) (x y : Value) (t : TypeId) (n : Nat) (hn : n = w.heap.size) : ∀ j v, [x, y][j]? = some v → (w.alloc (.cells #[x, y] t)).cell? ((⟨n, 0, none⟩ : Addr).add j) = some v := by
  subst hn
  intro j v hj
  match j, hj with
  | 0, hj => simp at hj; subst hj; simp [Addr.add]
  | 1, hj => simp at hj; subst hj; simp [Addr.add]
  | j + 2, hj => simp at hj
theorem two_cell (a a' : Option Addr) (n n' c c' : Nat) : ∀ u ∈ [Value.slice a n c, Value.slice a' n' c'], u.oneCell' = true := by
  intro u hu
  simp at hu
  rcases hu with rfl | rfl <;> rfl
end Go.Proofs.Ytollijngiioonaa

/- One form of a term as data: Kids put in by their order, Kids of the same blind function joined; forests of terms that own their memory. Conditions: none. -/
namespace Go.Proofs.Ytollijngiioonaa
set_option maxRecDepth 100000
open Go.RowKit

/-- A term put into a list by its order, behind those that are not behind it. -/
def putT (t : TermD) (l : List TermD) : List TermD := l.takeWhile (fun e => !befT t e) ++ t :: l.dropWhile (fun e => !befT t e)
/-- What becomes of the list made so far when one more Kid, in one form, comes. -/
def stepN (b : Bool) (f : Int) (k : TermD) (out : List TermD) : List TermD :=
  if b = false then out ++ [k] else if k.f ≠ f then putT k out else k.kids.foldl (fun o x => putT x o) out
mutual
/-- One form. -/
def normT (bl : Int → Bool) : TermD → TermD
  | .mk f v ks => .mk f v (normL bl f ks [])
def normL (bl : Int → Bool) (f : Int) : List TermD → List TermD → List TermD
  | [], out => out
  | k :: ks, out => normL bl f ks (stepN (bl f) f (normT bl k) out)
end
theorem normT_eq (bl : Int → Bool) (t : TermD) : normT bl t = .mk t.f t.v (normL bl t.f t.kids []) := by cases t; rw [normT]; rfl
theorem normL_append (bl : Int → Bool) (f : Int) (a b out : List TermD) : normL bl f (a ++ b) out = normL bl f b (normL bl f a out) := by
  induction a generalizing out with
  | nil => simp [normL]
  | cons t ts ih => simp only [List.cons_append, normL, ih]
theorem normL_next (bl : Int → Bool) (f : Int) {ts : List TermD} {k : Nat} (h : k < ts.length) (out : List TermD) : normL bl f (ts.take (k + 1)) out = stepN (bl f) f (normT bl ts[k]) (normL bl f (ts.take k) out) := by
  rw [List.take_succ_eq_append_getElem h, normL_append]
  simp [normL]

theorem putT_perm (t : TermD) (l : List TermD) : (putT t l).Perm (t :: l) := by
  unfold putT
  refine List.perm_middle.trans ?_
  rw [List.takeWhile_append_dropWhile]
theorem putT_parts (t : TermD) (l : List TermD) : partsL (putT t l) = partsL l + partsT t := by
  unfold putT
  have h : partsL l = partsL (l.takeWhile fun e => !befT t e) + partsL (l.dropWhile fun e => !befT t e) := by rw [← partsL_append, List.takeWhile_append_dropWhile]
  rw [partsL_append, partsL, h]; omega
theorem foldP_parts (ks out : List TermD) : partsL (ks.foldl (fun o x => putT x o) out) = partsL out + partsL ks := by
  induction ks generalizing out with
  | nil => simp [partsL]
  | cons t ts ih => rw [List.foldl_cons, ih, putT_parts, partsL]; omega
theorem stepN_parts (b : Bool) (f : Int) (k : TermD) (out : List TermD) : partsL (stepN b f k out) ≤ partsL out + partsT k := by
  unfold stepN
  split
  · rw [partsL_append]; simp [partsL]
  · split
    · rw [putT_parts]; omega
    · rw [foldP_parts, partsT_eq]; omega
mutual
theorem normT_parts (bl : Int → Bool) : ∀ t : TermD, partsT (normT bl t) ≤ partsT t
  | .mk f v ks => by have := normL_parts bl f ks []; simp only [normT, partsT, partsL] at *; omega
theorem normL_parts (bl : Int → Bool) (f : Int) : ∀ ks out : List TermD, partsL (normL bl f ks out) ≤ partsL out + partsL ks
  | [], out => by simp [normL, partsL]
  | k :: ks, out => by
    have h1 := normT_parts bl k
    have h2 := normL_parts bl f ks (stepN (bl f) f (normT bl k) out)
    have h3 := stepN_parts (bl f) f (normT bl k) out
    rw [normL, partsL]; omega
end

/-- As 'OwnS', and each row has its block to itself, with all the room that its capacity says: so one may append to it in its place. -/
inductive OwnR (w : World) : (Nat → Prop) → Option Addr → Nat → List TermD → Prop
  | nil (S : Nat → Prop) : OwnR w S none 0 []
  | row (S : Nat → Prop) (g c : Nat) (ts : List TermD) (A : Nat → Option Addr) (C : Nat → Nat) (K : Nat → Nat → Prop) (xs : List Value) (hb : S g) (hrow : w.ownsRow 0 27 3 (.slice (some ⟨g, 0, none⟩) ts.length c) ts.length xs) (hl : ts.length ≤ 9223372036854775807) (hz : ∀ i, (h : i < ts.length) → isW ts[i].f ∧ isW ts[i].v)
      (hc : ∀ i, (h : i < ts.length) → w.cell? ⟨g, i * 3, none⟩ = some (.int .i64 ts[i].f) ∧ w.cell? ⟨g, i * 3 + 1, none⟩ = some (.int .i64 ts[i].v) ∧ w.cell? ⟨g, i * 3 + 2, none⟩ = some (.slice (A i) ts[i].kids.length (C i)))
      (hsub : ∀ i x, i < ts.length → K i x → S x ∧ x ≠ g) (hdis : ∀ i j x, i < ts.length → j < ts.length → i ≠ j → K i x → ¬ K j x)
      (hk : ∀ i, (h : i < ts.length) → OwnR w (K i) (A i) (C i) ts[i].kids) : OwnR w S (some ⟨g, 0, none⟩) c ts

theorem OwnR.own {w : World} {S : Nat → Prop} {a : Option Addr} {c : Nat} {ts : List TermD} (h : OwnR w S a c ts) : ∃ xs, w.ownsRow 0 27 3 (.slice a ts.length c) ts.length xs := by
  cases h with
  | nil => exact ⟨[], World.ownsRow_nil w 0 27 3⟩
  | row S g c ts A C K xs hb hrow => exact ⟨xs, hrow⟩
theorem OwnR.le {w : World} {S : Nat → Prop} {a : Option Addr} {c : Nat} {ts : List TermD} (h : OwnR w S a c ts) : ts.length ≤ c := by
  obtain ⟨xs, h⟩ := h.own
  obtain ⟨_, _, e, hh⟩ := own_form h
  cases e
  exact hh
theorem OwnR.s {w : World} {S : Nat → Prop} {a : Option Addr} {c : Nat} {ts : List TermD} (h : OwnR w S a c ts) : OwnS w S a ts := by
  induction h with
  | nil S => exact .nil S none
  | row S g c ts A C K xs hb hrow hl hz hc hsub hdis hk ih => exact .row S g 0 ts A C K hb (hrow.lt g rfl).2 ⟨hl, fun i h => (hk i h).le⟩ hz (fun i h => by simpa using hc i h) (fun j => hrow.frozenAt j) hsub hdis ih
theorem OwnR.rd {w : World} {S : Nat → Prop} {a : Option Addr} {c : Nat} {ts : List TermD} (h : OwnR w S a c ts) : RdK w w.heap.size a ts := h.s.rd
theorem own_frame {w w' : World} {base : Nat} {e : TypeId} {size : Nat} {v : Value} {n : Nat} {xs : List Value} (h : w.ownsRow base e size v n xs) (hb : ∀ g, v.ownBlock = some g → w'.heap[g]? = w.heap[g]?) : w'.ownsRow base e size v n xs := by
  obtain ⟨h1, h2⟩ := h
  refine ⟨h1, ?_⟩
  rcases h2 with h2 | ⟨g, cap, cur, rfl, hg, hh, r⟩
  · exact .inl h2
  · exact .inr ⟨g, cap, cur, rfl, hg, by rw [hb g rfl]; exact hh, r⟩
theorem own_zero {w : World} {base : Nat} {e : TypeId} {size : Nat} {v : Value} {n : Nat} {xs : List Value} (h : w.ownsRow base e size v n xs) : w.ownsRow 0 e size v n xs := by
  obtain ⟨h1, h2⟩ := h
  refine ⟨h1, ?_⟩
  rcases h2 with h2 | ⟨g, cap, cur, rfl, hg, r⟩
  · exact .inl h2
  · exact .inr ⟨g, cap, cur, rfl, Nat.zero_le _, r⟩
theorem OwnR.frame {w w' : World} {S : Nat → Prop} {a : Option Addr} {c : Nat} {ts : List TermD} (h : OwnR w S a c ts) (hs : ∀ x, S x → w'.heap[x]? = w.heap[x]?) (_hz : w.heap.size ≤ w'.heap.size) : OwnR w' S a c ts := by
  induction h with
  | nil S => exact .nil S
  | row S g c ts A C K xs hb hrow hl hz' hc hsub hdis hk ih =>
    have e := hs g hb
    refine .row S g c ts A C K xs hb (own_frame hrow (fun k hk => by cases hk; exact e)) hl hz' (fun i h => ?_) hsub hdis (fun i h => ih i h (fun x hx => hs x (hsub i x h hx).1))
    obtain ⟨h0, h1, h2⟩ := hc i h
    exact ⟨(World.cell?_of_block (a := ⟨g, _, none⟩) e).trans h0, (World.cell?_of_block (a := ⟨g, _, none⟩) e).trans h1, (World.cell?_of_block (a := ⟨g, _, none⟩) e).trans h2⟩
theorem OwnR.mono {w : World} {S S' : Nat → Prop} {a : Option Addr} {c : Nat} {ts : List TermD} (h : OwnR w S a c ts) (hs : ∀ x, S x → S' x) : OwnR w S' a c ts := by
  cases h with
  | nil S => exact .nil S'
  | row S g c ts A C K xs hb hrow hl hz hc hsub hdis hk => exact .row S' g c ts A C K xs (hs g hb) hrow hl hz hc (fun i x h hx => ⟨hs x (hsub i x h hx).1, (hsub i x h hx).2⟩) hdis hk
theorem OwnR.setCell {w : World} {S : Nat → Prop} {a : Option Addr} {c : Nat} {ts : List TermD} (h : OwnR w S a c ts) (p : Addr) (hp : ¬ S p.block) (u : Value) : OwnR (w.setCell p u) S a c ts :=
  h.frame (fun x hx => Below.heap_setCell w p u x (fun e => hp (e ▸ hx))) (by simp)

/-- One of a row of terms: where its Kids lie, and in which blocks. -/
structure FE where
  t : TermD
  a : Option Addr
  c : Nat
  K : Nat → Prop
def FE.cells (e : FE) : Value × Value × Value := (.int .i64 e.t.f, .int .i64 e.t.v, .slice e.a e.t.kids.length e.c)

/-- Terms of which no two share a block; all from B on. -/
structure Forest (w : World) (B : Nat) (L : List FE) : Prop where
  own : ∀ e ∈ L, OwnR w e.K e.a e.c e.t.kids ∧ e.t.kids.length ≤ e.c ∧ (isW e.t.f ∧ isW e.t.v) ∧ ∀ x, e.K x → B ≤ x ∧ x < w.heap.size
  dis : L.Pairwise fun e d => ∀ x, e.K x → ¬ d.K x

theorem Forest.nil (w : World) (B : Nat) : Forest w B [] := ⟨fun e h => by simp at h, .nil⟩
theorem Forest.on {w w' : World} {B : Nat} {L : List FE} (h : Forest w B L) (hb : Below w.heap.size w w') : Forest w' B L :=
  ⟨fun e he => ⟨(h.own e he).1.frame (fun x hx => hb.block x ((h.own e he).2.2.2 x hx).2) hb.size, (h.own e he).2.1, (h.own e he).2.2.1, fun x hx => ⟨((h.own e he).2.2.2 x hx).1, Nat.lt_of_lt_of_le ((h.own e he).2.2.2 x hx).2 hb.size⟩⟩, h.dis⟩
theorem Forest.setCell {w : World} {B : Nat} {L : List FE} (h : Forest w B L) (p : Addr) (u : Value) (hp : ∀ e ∈ L, ¬ e.K p.block) : Forest (w.setCell p u) B L :=
  ⟨fun e he => ⟨(h.own e he).1.setCell p (hp e he) u, (h.own e he).2.1, (h.own e he).2.2.1, fun x hx => by simpa using (h.own e he).2.2.2 x hx⟩, h.dis⟩
theorem Forest.perm {w : World} {B : Nat} {L M : List FE} (h : Forest w B L) (hp : M.Perm L) : Forest w B M :=
  ⟨fun e he => h.own e (hp.subset he), (hp.pairwise_iff (fun hxy z hz hz' => hxy z hz' hz)).2 h.dis⟩
theorem Forest.append {w : World} {B : Nat} {L M : List FE} (h : Forest w B L) (k : Forest w B M) (hd : ∀ e ∈ L, ∀ d ∈ M, ∀ x, e.K x → ¬ d.K x) : Forest w B (L ++ M) :=
  ⟨fun e he => (List.mem_append.1 he).elim (h.own e) (k.own e), List.pairwise_append.2 ⟨h.dis, k.dis, fun e he d hd' => hd e he d hd'⟩⟩
theorem Forest.sub {w : World} {B : Nat} {L M : List FE} (h : Forest w B L) (hs : M.Sublist L) : Forest w B M := ⟨fun e he => h.own e (hs.subset he), h.dis.sublist hs⟩

/-- The row of a forest's terms, its own block apart, is a list of terms that owns its memory. -/
theorem Forest.owns {w : World} {B g cap : Nat} {L : List FE} (h : Forest w B L) (hrow : w.ownsRow B 27 3 (.slice (some ⟨g, 0, none⟩) L.length cap) L.length (cs3 (L.map FE.cells))) (hg : ∀ e ∈ L, ¬ e.K g) (hl : L.length ≤ 9223372036854775807) :
    OwnR w (fun x => B ≤ x ∧ x < w.heap.size) (some ⟨g, 0, none⟩) cap (L.map FE.t) := by
  have hlt := hrow.lt g rfl
  refine .row _ g cap (L.map FE.t) (fun i => (L[i]?.map FE.a).getD none) (fun i => (L[i]?.map FE.c).getD 0) (fun i x => ∃ e, L[i]? = some e ∧ e.K x) (cs3 (L.map FE.cells)) ⟨hlt.1, hlt.2⟩ (by simpa using own_zero hrow) (by simpa using hl) (fun i hi => ?_) (fun i hi => ?_) (fun i x hi hx => ?_) (fun i j x hi hj hne hx hy => ?_) (fun i hi => ?_)
  · have hi' : i < L.length := by simpa using hi
    simpa using (h.own _ (List.getElem_mem hi')).2.2.1
  · have hi' : i < L.length := by simpa using hi
    obtain ⟨c0, c1, c2⟩ := cs3_cells (l := L.map FE.cells) (k := i) (by simp) (by simpa using hi') hrow
    simp only [List.getElem_map, FE.cells] at c0 c1 c2
    simp only [List.getElem_map]
    exact ⟨c0, c1, by simpa [hi'] using c2⟩
  · obtain ⟨e, he, hx⟩ := hx
    obtain ⟨hi', e0⟩ := List.getElem?_eq_some_iff.1 he
    have hm : e ∈ L := e0 ▸ List.getElem_mem hi'
    exact ⟨(h.own e hm).2.2.2 x hx, fun ex => hg e hm (ex ▸ hx)⟩
  · obtain ⟨e, he, hx⟩ := hx
    obtain ⟨d, hd, hy⟩ := hy
    obtain ⟨hi', e0⟩ := List.getElem?_eq_some_iff.1 he
    obtain ⟨hj', e1⟩ := List.getElem?_eq_some_iff.1 hd
    rcases Nat.lt_or_gt_of_ne hne with hh | hh
    · exact (e0 ▸ e1 ▸ List.pairwise_iff_getElem.1 h.dis i j hi' hj' hh) x hx hy
    · exact (e1 ▸ e0 ▸ List.pairwise_iff_getElem.1 h.dis j i hj' hi' hh) x hy hx
  · have hi' : i < L.length := by simpa using hi
    have := (h.own _ (List.getElem_mem hi')).1
    simp only [hi', List.getElem?_eq_getElem, Option.map_some, Option.getD_some, List.getElem_map]
    exact this.mono (fun x hx => ⟨_, rfl, hx⟩)

/-- The Kids of a term that owns its memory are a forest. -/
theorem OwnR.forest {w : World} {S : Nat → Prop} {a : Option Addr} {c : Nat} {ts : List TermD} {B : Nat} (h : OwnR w S a c ts) (hs : ∀ x, S x → B ≤ x ∧ x < w.heap.size) :
    ∃ L : List FE, L.map FE.t = ts ∧ Forest w B L ∧ (∀ e ∈ L, ∀ x, e.K x → S x) ∧ (ts = [] ∨ ∃ b off, a = some ⟨b, off, none⟩ ∧ S b ∧ ∀ i, (hi : i < L.length) → w.cell? ⟨b, off + i * 3, none⟩ = some (L[i].cells).1 ∧ w.cell? ⟨b, off + i * 3 + 1, none⟩ = some (L[i].cells).2.1 ∧ w.cell? ⟨b, off + i * 3 + 2, none⟩ = some (L[i].cells).2.2) := by
  cases h with
  | nil S => exact ⟨[], rfl, .nil _ _, fun e h => by simp at h, .inl rfl⟩
  | row S b c ts A C K xs hb hrow hl hz hc hsub hdis hk =>
    refine ⟨(List.range ts.length).map fun i => ⟨ts[i]?.getD default, A i, C i, K i⟩, ?_, ⟨fun e he => ?_, ?_⟩, fun e he x hx => ?_, .inr ⟨b, 0, rfl, hb, fun i hi => ?_⟩⟩
    · apply List.ext_getElem
      · simp
      · intro i h1 h2; simp [h2]
    · simp only [List.mem_map, List.mem_range] at he
      obtain ⟨i, hi, rfl⟩ := he
      have e0 : ts[i]?.getD default = ts[i] := by simp [hi]
      simp only [e0]
      exact ⟨hk i hi, (hk i hi).le, hz i hi, fun x hx => hs x (hsub i x hi hx).1⟩
    · rw [List.pairwise_iff_getElem]
      intro i j hi hj hij x hx hy
      simp only [List.length_map, List.length_range] at hi hj
      simp only [List.getElem_map, List.getElem_range] at hx hy
      exact hdis i j x hi hj (by omega) hx hy
    · simp only [List.mem_map, List.mem_range] at he
      obtain ⟨i, hi, rfl⟩ := he
      exact (hsub i x hi hx).1
    · simp only [List.length_map, List.length_range] at hi
      have := hc i hi
      simp only [List.getElem_map, List.getElem_range, FE.cells]
      simpa [hi] using this
end Go.Proofs.Ytollijngiioonaa

/- Contracts of the laws' copies of terms. Conditions: terms of at most 549755813888 parts. -/
namespace Go.Proofs.Ytollijngiioonaa
set_option maxRecDepth 100000
open Go.RowKit

set_option maxHeartbeats 1600000 in
theorem toTerm_of (t : TermD) (a : Option Addr) (c : Nat) (w : World)
    (H : ∀ w', Below w.heap.size w w' → Calls Try.prog 55 #[.slice a t.kids.length c] w' fun e w'' => e = .returned (.slice (some ⟨w'.heap.size, 0, none⟩) t.kids.length t.kids.length) ∧ OwnS w'' (fun x => w'.heap.size ≤ x ∧ x < w''.heap.size) (some ⟨w'.heap.size, 0, none⟩) t.kids ∧ Below w'.heap.size w' w'') :
    Calls Try.prog 19 #[.agg #[.int .i64 t.f, .int .i64 t.v, .slice a t.kids.length c]] w fun e w' => ∃ a', e = .returned (.agg #[.int .i64 t.f, .int .i64 t.v, .slice a' t.kids.length t.kids.length]) ∧ OwnS w' (fun x => w.heap.size ≤ x ∧ x < w'.heap.size) a' t.kids ∧ Below w.heap.size w w' := by
  generalize t.kids = ks at *
  obtain ⟨W, hW⟩ : ∃ W, W = (((w.alloc (.cells #[.int .i64 t.f, .int .i64 t.v, .slice a ks.length c] 39)).alloc (.cells #[.int .i64 0, .int .i64 0, .slice none 0 0] 27)).alloc (.cells #[.int .i64 t.f, .int .i64 t.v, .slice none 0 0] 27)) := ⟨_, rfl⟩
  have hWs : W.heap.size = w.heap.size + 1 + 1 + 1 := by rw [hW]; simp
  have h0 : Below w.heap.size w W := by rw [hW]; exact (((Below.refl _ _).alloc (Nat.le_refl _) _).alloc (by simp) _).alloc (by simp; omega) _
  have H1 := H W h0
  have x0 : W.cell? ⟨w.heap.size + 1, 0, none⟩ = some (.int .i64 0) := by rw [hW]; simp [go_sem]
  have x1 : W.cell? ⟨w.heap.size + 1, 1, none⟩ = some (.int .i64 0) := by rw [hW]; simp [go_sem]
  have x2 : W.cell? ⟨w.heap.size + 1, 2, none⟩ = some (.slice none 0 0) := by rw [hW]; simp [go_sem]
  have y0 : W.cell? ⟨w.heap.size + 1 + 1, 0, none⟩ = some (.int .i64 t.f) := by rw [hW]; simp [go_sem]
  have y1 : W.cell? ⟨w.heap.size + 1 + 1, 1, none⟩ = some (.int .i64 t.v) := by rw [hW]; simp [go_sem]
  have y2 : W.cell? ⟨w.heap.size + 1 + 1, 2, none⟩ = some (.slice none 0 0) := by rw [hW]; simp [go_sem]
  have fz : ∀ j, W.frozen? ⟨w.heap.size + 1, j, none⟩ = false := by intro j; rw [hW]; simp [go_sem]
  have gz : ∀ j, W.frozen? ⟨w.heap.size + 1 + 1, j, none⟩ = false := by intro j; rw [hW]; simp [go_sem]
  rw [hWs] at H1
  clear H
  go_enter Try.func19, Try.ntmps19
  go_wp2_with (go_at_call 55; (rw [← hW]; refine H1.mono ?_; rintro e w1 ⟨rfl, ho1, hb1⟩; have hb3 := hb1; have hbW : Below W.heap.size W w1 := (by rw [hWs]; exact hb1); have a0 := keepC hbW x0; have a1 := keepC hbW x1; have a2 := keepC hbW x2; have b0 := keepC hbW y0; have b1 := keepC hbW y1; have b2 := keepC hbW y2; have fa : ∀ j, w1.frozen? ⟨w.heap.size + 1, j, none⟩ = false := (fun j => (World.frozen?_of_block (a := ⟨w.heap.size + 1, j, none⟩) (hb3.block (w.heap.size + 1) (by omega))).trans (fz j)); have fb : ∀ j, w1.frozen? ⟨w.heap.size + 1 + 1, j, none⟩ = false := (fun j => (World.frozen?_of_block (a := ⟨w.heap.size + 1 + 1, j, none⟩) (hb3.block (w.heap.size + 1 + 1) (by omega))).trans (gz j)); have hB1 := h0.trans (hbW.mono h0.size); have hsz := hb3.size; clear H1 hb1 hb3 hbW x0 x1 x2 y0 y1 y2 fz gz h0 hW))
  have other : ∀ j, (w1.setCell ⟨w.heap.size + 1 + 1, 2, none⟩ (.slice (some ⟨w.heap.size + 1 + 1 + 1, 0, none⟩) ks.length ks.length)).cell? ⟨w.heap.size + 1, j, none⟩ = w1.cell? ⟨w.heap.size + 1, j, none⟩ := fun j => World.cell?_setCell_other _ _ _ _ (by simp)
  obtain ⟨q0, q1, q2⟩ := set3_cells (u := w1.setCell ⟨w.heap.size + 1 + 1, 2, none⟩ (.slice (some ⟨w.heap.size + 1 + 1 + 1, 0, none⟩) ks.length ks.length)) (r := w.heap.size + 1) (x := .int .i64 t.f) (y := .int .i64 t.v) (z := .slice (some ⟨w.heap.size + 1 + 1 + 1, 0, none⟩) ks.length ks.length) ((other 0).trans a0) ((other 1).trans a1) ((other 2).trans a2)
  have hn2 : ¬ (w.heap.size + 1 + 1 + 1 ≤ w.heap.size + 1 + 1 ∧ w.heap.size + 1 + 1 < w1.heap.size) := by omega
  have hn1 : ¬ (w.heap.size + 1 + 1 + 1 ≤ w.heap.size + 1 ∧ w.heap.size + 1 < w1.heap.size) := by omega
  have O := (((ho1.setCell ⟨w.heap.size + 1 + 1, 2, none⟩ hn2 (.slice (some ⟨w.heap.size + 1 + 1 + 1, 0, none⟩) ks.length ks.length)).setCell ⟨w.heap.size + 1, 0, none⟩ hn1 (.int .i64 t.f)).setCell ⟨w.heap.size + 1, 1, none⟩ hn1 (.int .i64 t.v)).setCell ⟨w.heap.size + 1, 2, none⟩ hn1 (.slice (some ⟨w.heap.size + 1 + 1 + 1, 0, none⟩) ks.length ks.length)
  refine bodyPost_ret (v := .agg #[.int .i64 t.f, .int .i64 t.v, .slice (some ⟨w.heap.size + 1 + 1 + 1, 0, none⟩) ks.length ks.length]) (by simp [results, Try.results19, go_sem, q0, q1, q2]) rfl ⟨_, rfl, O.mono (fun x hx => ⟨by omega, by simpa using hx.2⟩), ?_⟩
  exact (((hB1.setCell (p := ⟨w.heap.size + 1 + 1, 2, none⟩) (by simp; omega) _).setCell (p := ⟨w.heap.size + 1, 0, none⟩) (by simp) _).setCell (p := ⟨w.heap.size + 1, 1, none⟩) (by simp) _).setCell (p := ⟨w.heap.size + 1, 2, none⟩) (by simp) _

theorem info29 : (Try.prog.info? 27).map (fun i => (i.zero, i.size, i.bytes)) = some (some (.agg #[.int .i64 0, .int .i64 0, .slice none 0 0]), 3, 40) := by kernel_rfl

/-- What lies in memory when the first k terms of a list are copied. -/
structure CopySt (w wr : World) (ts : List TermD) (k : Nat) (A : Nat → Option Addr) (L : Nat → Nat) : Prop where
  row : wr.ownsRow w.heap.size 27 3 (.slice (some ⟨w.heap.size, 0, none⟩) ts.length ts.length) ts.length (cs3 (laidTo ts A k))
  low : w.heap.size < L 0
  mono : ∀ i, i < k → L i ≤ L (i + 1)
  top : L k ≤ wr.heap.size
  kid : ∀ i, (h : i < ts.length) → i < k → OwnS wr (fun x => L i ≤ x ∧ x < L (i + 1)) (A i) ts[i].kids
  below : Below w.heap.size w wr

theorem CopySt.le {w wr : World} {ts : List TermD} {k : Nat} {A : Nat → Option Addr} {L : Nat → Nat} (h : CopySt w wr ts k A L) : ∀ i j, i ≤ j → j ≤ k → L i ≤ L j := by
  intro i j
  induction j with
  | zero => intro h1 _; have : i = 0 := by omega
            subst this; exact Nat.le_refl _
  | succ j ih =>
    intro h1 h2
    by_cases e : i = j + 1
    · subst e; exact Nat.le_refl _
    · exact Nat.le_trans (ih (by omega) (by omega)) (h.mono j (by omega))

theorem CopySt.done {w wr : World} {ts : List TermD} {A : Nat → Option Addr} {L : Nat → Nat} (h : CopySt w wr ts ts.length A L) (hl : ts.length ≤ 9223372036854775807) (hz : ∀ i, (h : i < ts.length) → isW ts[i].f ∧ isW ts[i].v) :
    OwnS wr (fun x => w.heap.size ≤ x ∧ x < wr.heap.size) (some ⟨w.heap.size, 0, none⟩) ts := by
  have hlt := (h.row.lt _ rfl).2
  refine .row _ w.heap.size 0 ts A (fun i => (ts[i]?.getD default).kids.length) (fun i x => L i ≤ x ∧ x < L (i + 1)) ⟨Nat.le_refl _, hlt⟩ hlt ⟨hl, fun i hi => by simp [hi]⟩ hz (fun i hi => ?_) (fun j => h.row.frozenAt j) (fun i x hi hx => ?_) (fun i j x hi hj hne hx hy => ?_) (fun i hi => h.kid i hi hi)
  · obtain ⟨c0, c1, c2⟩ := cs3_cells (by rw [laidTo_len]) (k := i) (by rw [laidTo_len]; exact hi) h.row
    have e : (laidTo ts A ts.length)[i]'(by rw [laidTo_len]; exact hi) = (.int .i64 ts[i].f, .int .i64 ts[i].v, .slice (A i) ts[i].kids.length ts[i].kids.length) := by
      simp [laidTo, hi]
    rw [e] at c0 c1 c2
    simp only [Nat.zero_add]
    exact ⟨c0, c1, by simpa [hi] using c2⟩
  · have h1 := h.le 0 i (by omega) (by omega)
    have h2 := h.le (i + 1) ts.length (by omega) (Nat.le_refl _)
    have h3 := h.low
    have h4 := h.top
    exact ⟨⟨by omega, by omega⟩, by omega⟩
  · rcases Nat.lt_or_gt_of_ne hne with hh | hh
    · have := h.le (i + 1) j (by omega) (by omega)
      omega
    · have := h.le (j + 1) i (by omega) (by omega)
      omega

/-- One more term is copied. -/
theorem CopySt.step {w wr w1 : World} {ts : List TermD} {k : Nat} {A : Nat → Option Addr} {L : Nat → Nat} (h : CopySt w wr ts k A L) (hk : k < ts.length) {a' : Option Addr} (ho : OwnS w1 (fun x => wr.heap.size ≤ x ∧ x < w1.heap.size) a' ts[k].kids) (hb : Below wr.heap.size wr w1) :
    CopySt w (((w1.setCell ⟨w.heap.size, k * 3, none⟩ (.int .i64 ts[k].f)).setCell ⟨w.heap.size, k * 3 + 1, none⟩ (.int .i64 ts[k].v)).setCell ⟨w.heap.size, k * 3 + 2, none⟩ (.slice a' ts[k].kids.length ts[k].kids.length)) ts (k + 1) (fun i => if i = k then a' else A i) (fun i => if i ≤ k then L i else w1.heap.size) := by
  have h3 := h.low
  have h4 := h.top
  have h5 := hb.size
  have hle := h.le
  refine ⟨?_, ?_, fun i hi => ?_, ?_, fun i hi hik => ?_, ?_⟩
  · have r := cs3_store (t := (.int .i64 ts[k].f, .int .i64 ts[k].v, .slice a' ts[k].kids.length ts[k].kids.length)) (k := k) (by rw [laidTo_len]; exact hk) (own_on h.row hb)
    rwa [laidTo_set ts A hk a'] at r
  · simp only [Nat.zero_le, if_true]; exact h3
  · by_cases e : i = k
    · subst e
      simp only [Nat.le_refl, if_true, show ¬ i + 1 ≤ i by omega, if_false]; omega
    · simp only [show i ≤ k by omega, show i + 1 ≤ k by omega, if_true]; exact h.mono i (by omega)
  · simp only [show ¬ k + 1 ≤ k by omega, if_false, World.size_setCell]; exact Nat.le_refl _
  · have h0i := hle 0 i (by omega) (by omega)
    by_cases e : i = k
    · subst e
      simp only [Nat.le_refl, if_true, show ¬ i + 1 ≤ i by omega, if_false]
      have hn : ¬ (L i ≤ w.heap.size ∧ w.heap.size < w1.heap.size) := by omega
      exact (((ho.mono (S' := fun x => L i ≤ x ∧ x < w1.heap.size) (fun x hx => ⟨by omega, hx.2⟩)).setCell ⟨w.heap.size, i * 3, none⟩ hn _).setCell ⟨w.heap.size, i * 3 + 1, none⟩ hn _).setCell ⟨w.heap.size, i * 3 + 2, none⟩ hn _
    · simp only [show i ≤ k by omega, show i + 1 ≤ k by omega, if_true, e, if_false]
      have h6 := hle (i + 1) k (by omega) (Nat.le_refl _)
      have hn : ¬ (L i ≤ w.heap.size ∧ w.heap.size < L (i + 1)) := by omega
      have o := (h.kid i hi (by omega)).frame (w' := w1) (fun x hx => hb.block x (by omega)) hb.size
      exact ((o.setCell ⟨w.heap.size, k * 3, none⟩ hn _).setCell ⟨w.heap.size, k * 3 + 1, none⟩ hn _).setCell ⟨w.heap.size, k * 3 + 2, none⟩ hn _
  · have hB := h.below.trans (hb.mono h.below.size)
    exact ((hB.setCell (p := ⟨w.heap.size, k * 3, none⟩) (Nat.le_refl _) _).setCell (p := ⟨w.heap.size, k * 3 + 1, none⟩) (Nat.le_refl _) _).setCell (p := ⟨w.heap.size, k * 3 + 2, none⟩) (Nat.le_refl _) _

set_option maxHeartbeats 1600000 in
theorem toTermS_any (N : Nat) : ∀ (ts : List TermD) (a : Option Addr) (c hi : Nat) (w : World), partsL ts ≤ N → N ≤ 549755813888 → RdK w hi a ts → hi ≤ w.heap.size →
    Calls Try.prog 55 #[.slice a ts.length c] w fun e w' => e = .returned (.slice (some ⟨w.heap.size, 0, none⟩) ts.length ts.length) ∧ OwnS w' (fun x => w.heap.size ≤ x ∧ x < w'.heap.size) (some ⟨w.heap.size, 0, none⟩) ts ∧ Below w.heap.size w w' := by
  obtain ⟨i0, hi0, hz0, hz1, hz2⟩ := info_parts info29
  induction N with
  | zero =>
    intro ts a c hi w hN hM hr hhi
    have h1 := partsL_len ts
    have : ts = [] := List.length_eq_zero_iff.1 (by omega)
    subst this
    go_enter Try.func55, Try.ntmps55
    go_wp2_with (first
      | (at_make; refine wpList_make_full _ rfl _ _ 25 rfl w.heap.size 27 i0 _ 3 Try.underlying25 hi0 hz0 hz1 _ _ _ _ 0 rfl rfl rfl rfl (by omega) (by unfold maxLen; omega) (Nat.le_refl _) ?_; intro w1 hown hgrow))
    refine wp_loop_rounds 1 ?_
    rw [rounds_succ]
    go_wp2_with fail
    go_ret
    exact ⟨rfl, .nil _ _, (Below.refl _ _).grown hgrow (Nat.le_refl _) (by simp)⟩
  | succ N ih =>
    intro ts a c hi w hN hM hr hhi
    have hlen := partsL_len ts
    have HZ : Hid (∀ i, (h : i < ts.length) → isW ts[i].f ∧ isW ts[i].v) := fun i h => hr.ints h
    have HR : Hid (RdK w hi a ts) := hr
    clear hr
    go_enter Try.func55, Try.ntmps55
    go_wp2_with (first
      | (at_make; refine wpList_make_full _ rfl _ _ 25 rfl w.heap.size 27 i0 _ 3 Try.underlying25 hi0 hz0 hz1 _ _ _ _ ts.length rfl rfl rfl rfl (by rw [hz2]; omega) (by unfold maxLen; omega) (Nat.le_refl _) ?_; intro w1 hown hgrow))
    have hlt1 : w.heap.size < w1.heap.size := (hown.lt _ rfl).2
    have S0 : CopySt w w1 ts 0 (fun _ => none) (fun _ => w1.heap.size) := ⟨by rw [laidTo_zero, ← cs3_made]; exact hown, hlt1, fun i hi => absurd hi (by omega), Nat.le_refl _, fun i _ hi => absurd hi (by omega), (Below.refl _ _).grown hgrow (Nat.le_refl _) (by simp)⟩
    clear hown hgrow hlt1
    go_loopw [4] (fun i wr => ∃ (k : Nat) (A : Nat → Option Addr) (L : Nat → Nat), k ≤ ts.length ∧ i = .int .i64 k ∧ CopySt w wr ts k A L) (fun i _ => ts.length - (intOf i).toNat)
    case atStart => exact ⟨0, _, _, Nat.zero_le _, rfl, S0⟩
    case round =>
      obtain ⟨k, A, L, hk, rfl, S⟩ := hrel
      clear S0
      by_cases hk' : k < ts.length
      · obtain ⟨b, off, a', c', rfl, hlt, d0, d1, d2, hkr⟩ := RdK.kid (HR.out.on (S.below.mono hhi)) hk'
        have hpg := partsL_get hk'
        have hpt := partsT_eq ts[k]
        have hki : (k : Int) < (ts.length : Int) := by omega
        have hwr := Nat.le_trans hhi S.below.size
        have T := toTerm_of ts[k] a' c' wr (fun w' h => ih ts[k].kids a' c' hi w' (by omega) (by omega) (hkr.on (h.mono hwr)) (Nat.le_trans hwr h.size))
        have hlen2 := laidTo_len ts A k
        have hkl : k < (laidTo ts A k).length := by rw [hlen2]; exact hk'
        clear hkr hpt
        go_wp2_with (go_at_call 19; refine T.mono ?_; rintro e w2 ⟨a2, rfl, ho, hb⟩; clear T; have S1 := S.step hk' ho hb; have hown2 := own_on S.row hb; obtain ⟨e0, e1, e2⟩ := cs3_cells hlen2.symm hkl hown2; have f0 := hown2.frozenAt (k * 3); have f1 := hown2.frozenAt (k * 3 + 1); have f2 := hown2.frozenAt (k * 3 + 2); clear hown2 S ho hb d0 d1 d2 hlen2)
        go_roundw
        case rel => exact ⟨k + 1, _, _, by omega, by go_num, S1⟩
        case measure => simp [intOf]; omega
      · have e : k = ts.length := by omega
        have S1 : CopySt w wr ts ts.length A L := e ▸ S
        clear e S
        go_wp2_with fail
        go_ret
        exact ⟨rfl, S1.done (by omega) HZ.out, S1.below⟩

theorem toTerm_any (t : TermD) (a : Option Addr) (c hi : Nat) (w : World) (hp : partsT t ≤ 549755813888) (hr : RdK w hi a t.kids) (hhi : hi ≤ w.heap.size) :
    Calls Try.prog 19 #[.agg #[.int .i64 t.f, .int .i64 t.v, .slice a t.kids.length c]] w fun e w' => ∃ a', e = .returned (.agg #[.int .i64 t.f, .int .i64 t.v, .slice a' t.kids.length t.kids.length]) ∧ OwnS w' (fun x => w.heap.size ≤ x ∧ x < w'.heap.size) a' t.kids ∧ Below w.heap.size w w' :=
  toTerm_of t a c w (fun w' h => toTermS_any (partsL t.kids) t.kids a c hi w' (Nat.le_refl _) (by rw [partsT_eq] at hp; omega) (hr.on (h.mono hhi)) (Nat.le_trans hhi h.size))
end Go.Proofs.Ytollijngiioonaa

/- The specification's l4Put: a term put into a row of terms by its order; the row is made anew. Conditions: terms of at most 549755813888 parts, rows of at most 549755813888 terms. -/
namespace Go.Proofs.Ytollijngiioonaa
set_option maxRecDepth 100000
open Go.RowKit

/-- Where a term comes in a list. -/
def putK (t : TermD) (l : List TermD) : Nat := (l.takeWhile fun e => !befT t e).length
theorem putK_le (t : TermD) (l : List TermD) : putK t l ≤ l.length := (List.takeWhile_sublist _).length_le
theorem putT_at (t : TermD) (l : List TermD) : putT t l = l.take (putK t l) ++ t :: l.drop (putK t l) := by
  unfold putT putK
  have h := List.takeWhile_append_dropWhile (p := fun e => !befT t e) (l := l)
  generalize l.takeWhile (fun e => !befT t e) = a at *
  generalize l.dropWhile (fun e => !befT t e) = b at *
  rw [← h]; simp
theorem putK_step (t : TermD) : ∀ (l : List TermD) (k : Nat), k ≤ putK t l → (h : k < l.length) → (befT t l[k] = false ↔ k + 1 ≤ putK t l)
  | [], k, _, h => by simp at h
  | x :: l, k, hk, h => by
    unfold putK at *
    by_cases e : befT t x = true
    · simp only [List.takeWhile_cons, e, Bool.not_true, Bool.false_eq_true, if_false, List.length_nil] at hk ⊢
      have : k = 0 := by omega
      subst this
      simp [e]
    · have e' : befT t x = false := by simpa using e
      simp only [List.takeWhile_cons, e', Bool.not_false, if_true, List.length_cons] at hk ⊢
      cases k with
      | zero => simp [e']
      | succ k =>
        have ih := putK_step t l k (by unfold putK; omega) (by simpa using h)
        unfold putK at ih
        simp only [List.getElem_cons_succ]
        rw [ih]; omega

/-- The same of a row. -/
def putF (e : FE) (L : List FE) : List FE := L.take (putK e.t (L.map FE.t)) ++ e :: L.drop (putK e.t (L.map FE.t))
theorem putF_t (e : FE) (L : List FE) : (putF e L).map FE.t = putT e.t (L.map FE.t) := by
  rw [putT_at]; simp [putF, List.map_take, List.map_drop]
theorem putF_perm (e : FE) (L : List FE) : (putF e L).Perm (e :: L) := by
  unfold putF
  refine List.perm_middle.trans ?_
  rw [List.take_append_drop]
theorem putF_len (e : FE) (L : List FE) : (putF e L).length = L.length + 1 := by simpa using (putF_perm e L).length_eq

theorem cs3_append (a b : List (Value × Value × Value)) : cs3 (a ++ b) = cs3 a ++ cs3 b := by simp [cs3]
theorem cs3_one (L : List FE) : ∀ u ∈ cs3 (L.map FE.cells), u.oneCell' = true := by
  intro u hu
  simp only [cs3, List.mem_flatMap, List.mem_map] at hu
  obtain ⟨x, ⟨e, _, rfl⟩, hx⟩ := hu
  simp only [FE.cells, List.mem_cons, List.not_mem_nil, or_false] at hx
  rcases hx with rfl | rfl | rfl <;> rfl

/-- Where 'list[k:]' begins. -/
def fromA (g k c : Nat) : Addr := if c = k then ⟨g, 0, none⟩ else ⟨g, k * 3, none⟩
theorem slice_to (av : Option Addr) (n k c : Nat) (h : k ≤ c) (w : World) : (Instr.slice 25 (.slice av n c) none (some (.int .i64 k)) none).run Try.prog w = .ok (.slice av k c) w := by
  have h0 : (sizeOf 27).run Try.prog w = .ok 3 w := by simp [go_sem]
  have hb : (Instr.sliceBounds true n c none (some (.int .i64 k)) none).run Try.prog w = .ok (0, k, c) w := by
    simp [Instr.sliceBounds, Instr.sliceBound, asIntOf, go_sem]
    intro hh; omega
  simp only [Instr.slice, Sem.run_bind, run_underlying Try.underlying25, Result.andThen, hb, h0, Sem.run_pure]
  cases av with
  | none => simp
  | some x => simp [Addr.add]
theorem sliceAt_to (av : Option Addr) (n k c : Nat) (h : k ≤ c) (w : World) : (Instr.sliceAt 25 (.slice av n c) none (some (.int .i64 k)) none).run Try.prog w = .ok (.slice av k c) w := by
  simp only [Instr.sliceAt, Sem.run_bind, run_underlying Try.underlying25, Result.andThen, slice_to av n k c h w]
theorem slice_from (g n k c : Nat) (h : k ≤ n) (w : World) : (Instr.slice 25 (.slice (some ⟨g, 0, none⟩) n c) (some (.int .i64 k)) none none).run Try.prog w = .ok (.slice (some (fromA g k c)) (n - k) (c - k)) w := by
  have h0 : (sizeOf 27).run Try.prog w = .ok 3 w := by simp [go_sem]
  have hb : (Instr.sliceBounds true n c (some (.int .i64 k)) none none).run Try.prog w = .ok (k, n, c) w := by
    simp [Instr.sliceBounds, Instr.sliceBound, asIntOf, go_sem]
    intro hh; omega
  simp only [Instr.slice, Sem.run_bind, run_underlying Try.underlying25, Result.andThen, hb, h0, Sem.run_pure]
  unfold fromA
  split
  · simp
  · simp [Addr.add]
    intro hh; omega
theorem sliceAt_from (g n k c : Nat) (h : k ≤ n) (w : World) : (Instr.sliceAt 25 (.slice (some ⟨g, 0, none⟩) n c) (some (.int .i64 k)) none none).run Try.prog w = .ok (.slice (some (fromA g k c)) (n - k) (c - k)) w := by
  simp only [Instr.sliceAt, Sem.run_bind, run_underlying Try.underlying25, Result.andThen, slice_from g n k c h w]

theorem news_to {w : World} {B g n c k : Nat} {L : List FE} (hn : n = L.length) (h : w.ownsRow B 27 3 (.slice (some ⟨g, 0, none⟩) n c) n (cs3 (L.map FE.cells))) (hk : k ≤ L.length) :
    ∀ j u, (cs3 ((L.take k).map FE.cells))[j]? = some u → w.cell? ((⟨g, 0, none⟩ : Addr).add j) = some u := by
  intro j u hj
  have hadd : (⟨g, 0, none⟩ : Addr).add j = ⟨g, j, none⟩ := by unfold Addr.add; split <;> simp_all
  have hlen := cs3_len ((L.take k).map FE.cells)
  have hlt := (List.getElem?_eq_some_iff.1 hj).1
  rw [hlen] at hlt
  simp at hlt
  rw [hadd, h.cellAt j (by omega)]
  have e : cs3 (L.map FE.cells) = cs3 ((L.take k).map FE.cells) ++ cs3 ((L.drop k).map FE.cells) := by rw [← cs3_append, ← List.map_append, List.take_append_drop]
  rw [e, List.getElem?_append_left (by rw [hlen]; simp; omega)]
  exact hj
theorem news_from {w : World} {B g n c k : Nat} {L : List FE} (hn : n = L.length) (h : w.ownsRow B 27 3 (.slice (some ⟨g, 0, none⟩) n c) n (cs3 (L.map FE.cells))) (hk : k ≤ L.length) (hc : n ≤ c) :
    ∀ j u, (cs3 ((L.drop k).map FE.cells))[j]? = some u → w.cell? ((fromA g k c).add j) = some u := by
  intro j u hj
  have hlen := cs3_len ((L.drop k).map FE.cells)
  have hlen' := cs3_len ((L.take k).map FE.cells)
  have hlt := (List.getElem?_eq_some_iff.1 hj).1
  rw [hlen] at hlt
  simp at hlt hlen'
  have hne : c ≠ k := by omega
  have hadd : (fromA g k c).add j = ⟨g, k * 3 + j, none⟩ := by
    unfold fromA; rw [if_neg hne]; unfold Addr.add; split <;> simp_all
  rw [hadd, h.cellAt _ (by omega)]
  have e : cs3 (L.map FE.cells) = cs3 ((L.take k).map FE.cells) ++ cs3 ((L.drop k).map FE.cells) := by rw [← cs3_append, ← List.map_append, List.take_append_drop]
  have e2 : min k L.length = k := by omega
  rw [e, List.getElem?_append_right (by simp [hlen', e2])]
  simp [hlen', e2]
  simpa using hj

theorem three_new (w : World) (x y z : Value) (t : TypeId) (n : Nat) (hn : n = w.heap.size) : ∀ j v, [x, y, z][j]? = some v → (w.alloc (.cells #[x, y, z] t)).cell? ((⟨n, 0, none⟩ : Addr).add j) = some v := by
  subst hn
  intro j v hj
  match j, hj with
  | 0, hj => simp at hj; subst hj; simp [Addr.add]
  | 1, hj => simp at hj; subst hj; simp [Addr.add]
  | 2, hj => simp at hj; subst hj; simp [Addr.add]
  | j + 3, hj => simp at hj
theorem three_cell (f v : Int) (a : Option Addr) (n c : Nat) : ∀ u ∈ [Value.int .i64 f, Value.int .i64 v, Value.slice a n c], u.oneCell' = true := by
  intro u hu
  simp at hu
  rcases hu with rfl | rfl | rfl <;> rfl
theorem putF_cells {e : FE} {L : List FE} {k : Nat} (hk : k = putK e.t (L.map FE.t)) : (cs3 ((L.take k).map FE.cells) ++ [Value.int .i64 e.t.f, Value.int .i64 e.t.v, Value.slice e.a e.t.kids.length e.c]) ++ cs3 ((L.drop k).map FE.cells) = cs3 ((putF e L).map FE.cells) := by
  subst hk
  simp [putF, cs3, FE.cells]
theorem own_any {w : World} {base : Nat} {e : TypeId} {size : Nat} {v : Value} {n : Nat} {xs : List Value} {a : Addr} {m c : Nat} {q : Prop} (h : w.ownsRow base e size v n xs) (hv : v = .slice none 0 0 ↔ .slice (some a) m c = Value.slice none 0 0 ∧ q) : ∃ g c, v = .slice (some ⟨g, 0, none⟩) n c := by
  rcases h.2 with ⟨h, _⟩ | ⟨g, cap, _, rfl, _⟩
  · have := (hv.1 h).1; simp at this
  · exact ⟨g, cap, rfl⟩

set_option maxHeartbeats 3200000 in
set_option maxRecDepth 100000 in
theorem l4Put_some (base g cv : Nat) (L : List FE) (e : FE) (hi : Nat) (w : World) (hrow : w.ownsRow base 27 3 (.slice (some ⟨g, 0, none⟩) L.length cv) L.length (cs3 (L.map FE.cells))) (hk : ∀ i, (h : i < L.length) → RdK w hi L[i].a L[i].t.kids) (he : RdK w hi e.a e.t.kids) (hhi : hi ≤ w.heap.size) (hp : partsT e.t ≤ 549755813888) (hl : L.length ≤ 549755813888) :
    Calls Try.prog 47 #[.slice (some ⟨g, 0, none⟩) L.length cv, .agg #[.int .i64 e.t.f, .int .i64 e.t.v, .slice e.a e.t.kids.length e.c]] w fun en w' => ∃ g' c', en = .returned (.slice (some ⟨g', 0, none⟩) (L.length + 1) c') ∧ w'.ownsRow w.heap.size 27 3 (.slice (some ⟨g', 0, none⟩) (L.length + 1) c') (L.length + 1) (cs3 ((putF e L).map FE.cells)) ∧ Below w.heap.size w w' := by
  obtain ⟨i0, hi0, hz0, hz1, hz2⟩ := info_parts info29
  have hcap : L.length ≤ cv := by obtain ⟨_, _, h, hh⟩ := own_form hrow; cases h; exact hh
  have hgl := (hrow.lt g rfl).2
  have HK : Hid (∀ i, (h : i < L.length) → RdK w hi L[i].a L[i].t.kids) := hk
  have HE : Hid (RdK w hi e.a e.t.kids) := he
  have HROW : Hid (w.ownsRow base 27 3 (.slice (some ⟨g, 0, none⟩) L.length cv) L.length (cs3 (L.map FE.cells))) := hrow
  have HPL : Hid (putK e.t (L.map FE.t) ≤ L.length) := by show _ ≤ _; simpa using putK_le e.t (L.map FE.t)
  have hb0 : Below w.heap.size w (w.alloc (.cells #[.int .i64 e.t.f, .int .i64 e.t.v, .slice e.a e.t.kids.length e.c] 27)) := (Below.refl w.heap.size w).alloc (Nat.le_refl _) _
  clear hk he hrow
  go_enter Try.func47, Try.ntmps47
  go_wp2_with fail
  go_loopw [5] (fun i wr => ∃ k : Nat, k ≤ putK e.t (L.map FE.t) ∧ i = .int .i64 k ∧ wr.cell? ⟨w.heap.size, 0, none⟩ = some (.int .i64 e.t.f) ∧ wr.cell? ⟨w.heap.size, 1, none⟩ = some (.int .i64 e.t.v) ∧ wr.cell? ⟨w.heap.size, 2, none⟩ = some (.slice e.a e.t.kids.length e.c) ∧ Below w.heap.size w wr) (fun i _ => L.length - (intOf i).toNat)
  case atStart => exact ⟨0, Nat.zero_le _, rfl, by simp [go_sem], by simp [go_sem], by simp [go_sem], hb0⟩
  case round =>
    obtain ⟨k, hkp, rfl, b0, b1, b2, hbr⟩ := hrel
    clear hb0
    have hkl : k ≤ L.length := Nat.le_trans hkp HPL.out
    have hzr : w.heap.size < wr.heap.size := World.block_lt_of_cell? _ _ b0
    have hbk0 : (0 : Int) ≤ (k : Int) := by omega
    by_cases hk' : k < L.length
    · have hki : (k : Int) < (L.length : Int) := by omega
      have rowr := own_on HROW.out hbr
      obtain ⟨d0, d1, d2⟩ := cs3_cells (l := L.map FE.cells) (k := k) (by simp) (by simpa using hk') rowr
      simp only [List.getElem_map, FE.cells] at d0 d1 d2
      have hwr := Nat.le_trans hhi hbr.size
      have I := fun (w' : World) (h : Below wr.heap.size wr w') => specBefore_any (partsT e.t) e.t L[k].t e.a L[k].a e.c L[k].c hi w' (Nat.le_refl _) hp ((HE.out.on (hbr.mono hhi)).on (h.mono hwr)) (((HK.out k hk').on (hbr.mono hhi)).on (h.mono hwr)) (Nat.le_trans hwr h.size)
      have HS : Hid (befT e.t L[k].t = false ↔ k + 1 ≤ putK e.t (L.map FE.t)) := by
        have := putK_step e.t (L.map FE.t) k hkp (by simpa using hk')
        show _ ↔ _
        simpa using this
      cases hbf : befT e.t L[k].t with
      | false =>
        rw [hbf] at I
        have hk1 : k + 1 ≤ putK e.t (L.map FE.t) := HS.out.1 hbf
        clear hbf rowr HS
        go_wp2_with fail
        go_region_held3 (fun w' => w'.cell? ⟨w.heap.size, 0, none⟩ = some (.int .i64 e.t.f) ∧ w'.cell? ⟨w.heap.size, 1, none⟩ = some (.int .i64 e.t.v) ∧ w'.cell? ⟨w.heap.size, 2, none⟩ = some (.slice e.a e.t.kids.length e.c) ∧ w'.cell? ⟨g, k * 3, none⟩ = some (.int .i64 L[k].t.f) ∧ w'.cell? ⟨g, k * 3 + 1, none⟩ = some (.int .i64 L[k].t.v) ∧ w'.cell? ⟨g, k * 3 + 2, none⟩ = some (.slice L[k].a L[k].t.kids.length L[k].c)) (first | go_keep | exact ⟨keepC hbb b0, keepC hbb b1, keepC hbb b2, keepC hbb d0, keepC hbb d1, keepC hbb d2⟩)
          (first | (go_at_call 53; refine (I _ ?_).mono ?_; exact (Below.refl _ _).drew; rintro e1 w1 ⟨rfl, hb1⟩; have hbb : Below wr.heap.size wr w1 := (Below.refl _ _).drew.trans hb1; clear hb1))
        go_wp2_with fail
        go_roundw
        case rel => exact ⟨k + 1, hk1, by go_num, keepC hbb b0, keepC hbb b1, keepC hbb b2, hbr.trans (hbb.mono hbr.size)⟩
        case measure => simp [intOf]; omega
      | true =>
        rw [hbf] at I
        have E : Hid (k = putK e.t (L.map FE.t)) := by
          show _ = _
          have h1 : ¬ k + 1 ≤ putK e.t (L.map FE.t) := fun h => by rw [HS.out.2 h] at hbf; cases hbf
          omega
        clear hbf rowr HS
        go_wp2_with fail
        go_region_held3 (fun w' => w'.cell? ⟨w.heap.size, 0, none⟩ = some (.int .i64 e.t.f) ∧ w'.cell? ⟨w.heap.size, 1, none⟩ = some (.int .i64 e.t.v) ∧ w'.cell? ⟨w.heap.size, 2, none⟩ = some (.slice e.a e.t.kids.length e.c) ∧ w'.cell? ⟨g, k * 3, none⟩ = some (.int .i64 L[k].t.f) ∧ w'.cell? ⟨g, k * 3 + 1, none⟩ = some (.int .i64 L[k].t.v) ∧ w'.cell? ⟨g, k * 3 + 2, none⟩ = some (.slice L[k].a L[k].t.kids.length L[k].c)) (first | go_keep | exact ⟨keepC hbb b0, keepC hbb b1, keepC hbb b2, keepC hbb d0, keepC hbb d1, keepC hbb d2⟩)
          (first | (go_at_call 53; refine (I _ ?_).mono ?_; exact (Below.refl _ _).drew; rintro e1 w1 ⟨rfl, hb1⟩; have hbb : Below wr.heap.size wr w1 := (Below.refl _ _).drew.trans hb1; clear hb1))
        have c0 := keepC hbb b0
        have c1 := keepC hbb b1
        have c2 := keepC hbb b2
        have hB1 : Below w.heap.size w w1 := hbr.trans (hbb.mono hbr.size)
        clear b0 b1 b2 d0 d1 d2 hbb hbr I
        have hs1 := slice_to (some ⟨g, 0, none⟩) L.length k cv (by omega)
        have hs2 := sliceAt_to (some ⟨g, 0, none⟩) L.length k cv (by omega)
        have hs3 := slice_from g L.length k cv hkl
        have hs4 := sliceAt_from g L.length k cv hkl
        have hz1' := hB1.size
        have hw1 : w.heap.size < w1.heap.size := World.block_lt_of_cell? _ _ c0
        go_wp2_with (first
          | (at_builtin; (refine wpList_append_own _ rfl (.tmp 22) (.tmp 25) 25 rfl w.heap.size 27 i0 _ 3 40 Try.underlying25 hi0 hz0 hz1 hz2 rfl (by decide) _ 0 [] rfl (World.ownsRow_made w1 #[] 0 hB1.size (Nat.zero_le _) rfl) ⟨g, 0, none⟩ k cv (cs3 ((L.take k).map FE.cells)) rfl (by rw [cs3_len]; simp; omega) (news_to rfl (own_on HROW.out (hB1.alloc hB1.size _)) hkl) (cs3_one _) (by unfold maxLen; omega) (by omega) (by simp; omega) ?_; intro v2 w2 hown2 hgrow2 hnil2; obtain ⟨g2, c2', rfl⟩ := own_any hown2 hnil2; simp only [Nat.zero_add, List.nil_append] at hown2 ⊢; have hg2 : (w1.alloc (.cells #[] 27)).grownBy w2 (some w1.heap.size) := hgrow2; have hb2 : Below w1.heap.size w1 w2 := (((Below.refl _ _).alloc (Nat.le_refl _) _).grown hg2 (by simp) (fun kk ee => by cases ee; exact Nat.le_refl _)); have e0 := keepC hb2 c0; have e1 := keepC hb2 c1; have e2 := keepC hb2 c2; have hB2 : Below w.heap.size w w2 := hB1.trans (hb2.mono hB1.size); have hw2 : w.heap.size < w2.heap.size := (Nat.lt_of_lt_of_le hw1 hb2.size); clear hnil2 hgrow2 hg2 hb2 c0 c1 c2 hB1 hw1 hz1'))
          | (at_builtin; (refine wpList_append_own _ rfl (.tmp 27) (.tmp 29) 25 rfl w.heap.size 27 i0 _ 3 40 Try.underlying25 hi0 hz0 hz1 hz2 rfl (by decide) _ k _ rfl (hown2.alloc _) ⟨w2.heap.size, 0, none⟩ 1 1 _ rfl rfl (three_new _ _ _ _ _ _ rfl) (three_cell _ _ _ _ _) (by unfold maxLen; omega) (by omega) (by simp; omega) ?_; intro v3 w3 hown3 hgrow3 hnil3; obtain ⟨g3, c3', rfl⟩ := own_any hown3 hnil3; have hg3 : (w2.alloc (.cells #[.int .i64 e.t.f, .int .i64 e.t.v, .slice e.a e.t.kids.length e.c] 27)).grownBy w3 (some g2) := hgrow3; have hB3 : Below w.heap.size w w3 := ((hB2.alloc hB2.size _).grown hg3 (by simp; omega) (fun kk ee => by cases ee; exact (hown2.lt _ rfl).1)); clear hnil3 hgrow3 hg3 e0 e1 e2 hB2 hw2 hown2))
          | (at_builtin; (refine wpList_append_own _ rfl (.tmp 31) (.tmp 34) 25 rfl w.heap.size 27 i0 _ 3 40 Try.underlying25 hi0 hz0 hz1 hz2 rfl (by decide) _ (k + 1) _ rfl hown3 (fromA g k cv) (L.length - k) (cv - k) (cs3 ((L.drop k).map FE.cells)) rfl (by rw [cs3_len]; simp) (news_from rfl (own_on HROW.out hB3) hkl hcap) (cs3_one _) (by unfold maxLen; omega) (by omega) hB3.size ?_; intro v4 w4 hown4 hgrow4 hnil4; obtain ⟨g4, c4', rfl⟩ := own_any hown4 hnil4; have hg4 : w3.grownBy w4 (some g3) := hgrow4; have hB4 : Below w.heap.size w w4 := (hB3.grown hg4 hB3.size (fun kk ee => by cases ee; exact (hown3.lt _ rfl).1)); clear hnil4 hgrow4 hg4)))
        go_ret
        have hlen : k + 1 + (L.length - k) = L.length + 1 := by omega
        rw [putF_cells E.out, hlen] at hown4
        refine ⟨g4, c4', ?_, hown4, hB4⟩
        rw [← hlen]
        rfl
    · have E : Hid (k = putK e.t (L.map FE.t)) := by
        show _ = _
        have := HPL.out
        omega
      have hnk : ¬ (k : Int) < (L.length : Int) := by omega
      go_wp2_with fail
      go_quiet ((fail))
      have hbb : Below wr.heap.size wr (wr.drewN nq) := below_drewN (Below.refl _ _) nq
      have c0 := keepC hbb b0
      have c1 := keepC hbb b1
      have c2 := keepC hbb b2
      have hB1 : Below w.heap.size w (wr.drewN nq) := hbr.trans (hbb.mono hbr.size)
      clear b0 b1 b2 hbb hbr
      generalize wr.drewN nq = w1 at *
      have hs1 := slice_to (some ⟨g, 0, none⟩) L.length k cv (by omega)
      have hs2 := sliceAt_to (some ⟨g, 0, none⟩) L.length k cv (by omega)
      have hs3 := slice_from g L.length k cv hkl
      have hs4 := sliceAt_from g L.length k cv hkl
      have hz1' := hB1.size
      have hw1 : w.heap.size < w1.heap.size := World.block_lt_of_cell? _ _ c0
      go_wp2_with (first
        | (at_builtin; (refine wpList_append_own _ rfl (.tmp 22) (.tmp 25) 25 rfl w.heap.size 27 i0 _ 3 40 Try.underlying25 hi0 hz0 hz1 hz2 rfl (by decide) _ 0 [] rfl (World.ownsRow_made w1 #[] 0 hB1.size (Nat.zero_le _) rfl) ⟨g, 0, none⟩ k cv (cs3 ((L.take k).map FE.cells)) rfl (by rw [cs3_len]; simp; omega) (news_to rfl (own_on HROW.out (hB1.alloc hB1.size _)) hkl) (cs3_one _) (by unfold maxLen; omega) (by omega) (by simp; omega) ?_; intro v2 w2 hown2 hgrow2 hnil2; obtain ⟨g2, c2', rfl⟩ := own_any hown2 hnil2; simp only [Nat.zero_add, List.nil_append] at hown2 ⊢; have hg2 : (w1.alloc (.cells #[] 27)).grownBy w2 (some w1.heap.size) := hgrow2; have hb2 : Below w1.heap.size w1 w2 := (((Below.refl _ _).alloc (Nat.le_refl _) _).grown hg2 (by simp) (fun kk ee => by cases ee; exact Nat.le_refl _)); have e0 := keepC hb2 c0; have e1 := keepC hb2 c1; have e2 := keepC hb2 c2; have hB2 : Below w.heap.size w w2 := hB1.trans (hb2.mono hB1.size); have hw2 : w.heap.size < w2.heap.size := (Nat.lt_of_lt_of_le hw1 hb2.size); clear hnil2 hgrow2 hg2 hb2 c0 c1 c2 hB1 hw1 hz1'))
        | (at_builtin; (refine wpList_append_own _ rfl (.tmp 27) (.tmp 29) 25 rfl w.heap.size 27 i0 _ 3 40 Try.underlying25 hi0 hz0 hz1 hz2 rfl (by decide) _ k _ rfl (hown2.alloc _) ⟨w2.heap.size, 0, none⟩ 1 1 _ rfl rfl (three_new _ _ _ _ _ _ rfl) (three_cell _ _ _ _ _) (by unfold maxLen; omega) (by omega) (by simp; omega) ?_; intro v3 w3 hown3 hgrow3 hnil3; obtain ⟨g3, c3', rfl⟩ := own_any hown3 hnil3; have hg3 : (w2.alloc (.cells #[.int .i64 e.t.f, .int .i64 e.t.v, .slice e.a e.t.kids.length e.c] 27)).grownBy w3 (some g2) := hgrow3; have hB3 : Below w.heap.size w w3 := ((hB2.alloc hB2.size _).grown hg3 (by simp; omega) (fun kk ee => by cases ee; exact (hown2.lt _ rfl).1)); clear hnil3 hgrow3 hg3 e0 e1 e2 hB2 hw2 hown2))
        | (at_builtin; (refine wpList_append_own _ rfl (.tmp 31) (.tmp 34) 25 rfl w.heap.size 27 i0 _ 3 40 Try.underlying25 hi0 hz0 hz1 hz2 rfl (by decide) _ (k + 1) _ rfl hown3 (fromA g k cv) (L.length - k) (cv - k) (cs3 ((L.drop k).map FE.cells)) rfl (by rw [cs3_len]; simp) (news_from rfl (own_on HROW.out hB3) hkl hcap) (cs3_one _) (by unfold maxLen; omega) (by omega) hB3.size ?_; intro v4 w4 hown4 hgrow4 hnil4; obtain ⟨g4, c4', rfl⟩ := own_any hown4 hnil4; have hg4 : w3.grownBy w4 (some g3) := hgrow4; have hB4 : Below w.heap.size w w4 := (hB3.grown hg4 hB3.size (fun kk ee => by cases ee; exact (hown3.lt _ rfl).1)); clear hnil4 hgrow4 hg4)))
      go_ret
      have hlen : k + 1 + (L.length - k) = L.length + 1 := by omega
      rw [putF_cells E.out, hlen] at hown4
      refine ⟨g4, c4', ?_, hown4, hB4⟩
      rw [← hlen]
      rfl
end Go.Proofs.Ytollijngiioonaa

/- The specification's l4Put at an empty list. Conditions: none. -/
namespace Go.Proofs.Ytollijngiioonaa
set_option maxRecDepth 100000
open Go.RowKit

set_option maxHeartbeats 1600000 in
set_option maxRecDepth 100000 in
theorem l4Put_nil (e : FE) (w : World) :
    Calls Try.prog 47 #[.slice none 0 0, .agg #[.int .i64 e.t.f, .int .i64 e.t.v, .slice e.a e.t.kids.length e.c]] w fun en w' => ∃ g' c', en = .returned (.slice (some ⟨g', 0, none⟩) (0 + 1) c') ∧ w'.ownsRow w.heap.size 27 3 (.slice (some ⟨g', 0, none⟩) (0 + 1) c') (0 + 1) (cs3 ((putF e []).map FE.cells)) ∧ Below w.heap.size w w' := by
  obtain ⟨i0, hi0, hz0, hz1, hz2⟩ := info_parts info29
  have hs1 := slice_to none 0 0 0 (Nat.le_refl _)
  have hs2 := sliceAt_to none 0 0 0 (Nat.le_refl _)
  go_enter Try.func47, Try.ntmps47
  go_wp2_with fail
  refine wp_loop_rounds 1 ?_
  rw [rounds_succ]
  go_wp2_with fail
  go_quiet ((fail))
  have hb0 : Below w.heap.size w ((w.alloc (.cells #[.int .i64 e.t.f, .int .i64 e.t.v, .slice e.a e.t.kids.length e.c] 27)).drewN nq) := below_drewN ((Below.refl w.heap.size w).alloc (Nat.le_refl _) _) nq
  have c0 : ((w.alloc (.cells #[.int .i64 e.t.f, .int .i64 e.t.v, .slice e.a e.t.kids.length e.c] 27)).drewN nq).cell? ⟨w.heap.size, 0, none⟩ = some (.int .i64 e.t.f) := keepC (below_drewN (Below.refl _ _) nq) (by simp [go_sem])
  have c1 : ((w.alloc (.cells #[.int .i64 e.t.f, .int .i64 e.t.v, .slice e.a e.t.kids.length e.c] 27)).drewN nq).cell? ⟨w.heap.size, 1, none⟩ = some (.int .i64 e.t.v) := keepC (below_drewN (Below.refl _ _) nq) (by simp [go_sem])
  have c2 : ((w.alloc (.cells #[.int .i64 e.t.f, .int .i64 e.t.v, .slice e.a e.t.kids.length e.c] 27)).drewN nq).cell? ⟨w.heap.size, 2, none⟩ = some (.slice e.a e.t.kids.length e.c) := keepC (below_drewN (Below.refl _ _) nq) (by simp [go_sem])
  generalize (w.alloc (.cells #[.int .i64 e.t.f, .int .i64 e.t.v, .slice e.a e.t.kids.length e.c] 27)).drewN nq = W at *
  have hz := hb0.size
  have hW : w.heap.size < W.heap.size := World.block_lt_of_cell? _ _ c0
  go_wp2_with (at_builtin; (refine wpList_append_own _ rfl (.tmp 27) (.tmp 29) 25 rfl w.heap.size 27 i0 _ 3 40 Try.underlying25 hi0 hz0 hz1 hz2 rfl (by decide) _ 0 [] rfl ((World.ownsRow_made W #[] 0 hb0.size (Nat.zero_le _) rfl).alloc _) ⟨W.heap.size + 1, 0, none⟩ 1 1 _ rfl rfl (three_new _ _ _ _ _ _ (by simp)) (three_cell _ _ _ _ _) (by unfold maxLen; omega) (by omega) (by simp; omega) ?_; intro v3 w3 hown3 hgrow3 hnil3; obtain ⟨g3, c3', rfl⟩ := own_any hown3 hnil3; have hg3 : ((W.alloc (.cells #[] 27)).alloc (.cells #[.int .i64 e.t.f, .int .i64 e.t.v, .slice e.a e.t.kids.length e.c] 27)).grownBy w3 (some W.heap.size) := hgrow3; have hB3 : Below w.heap.size w w3 := (((hb0.alloc hb0.size _).alloc (by simp; omega) _).grown hg3 (by simp; omega) (fun kk ee => by cases ee; omega)); have hc3 : 1 ≤ c3' := (by obtain ⟨_, _, h, hh⟩ := own_form hown3; cases h; omega); clear hnil3 hgrow3 hg3 c0 c1 c2))
  go_ret
  exact ⟨g3, c3', rfl, by simpa [putF, putK, cs3, FE.cells] using hown3, hB3⟩

theorem l4Put_any (base : Nat) (av : Option Addr) (cv : Nat) (L : List FE) (e : FE) (hi : Nat) (w : World) (hrow : w.ownsRow base 27 3 (.slice av L.length cv) L.length (cs3 (L.map FE.cells))) (hk : ∀ i, (h : i < L.length) → RdK w hi L[i].a L[i].t.kids) (he : RdK w hi e.a e.t.kids) (hhi : hi ≤ w.heap.size) (hp : partsT e.t ≤ 549755813888) (hl : L.length ≤ 549755813888) :
    Calls Try.prog 47 #[.slice av L.length cv, .agg #[.int .i64 e.t.f, .int .i64 e.t.v, .slice e.a e.t.kids.length e.c]] w fun en w' => ∃ g' c', en = .returned (.slice (some ⟨g', 0, none⟩) (L.length + 1) c') ∧ w'.ownsRow w.heap.size 27 3 (.slice (some ⟨g', 0, none⟩) (L.length + 1) c') (L.length + 1) (cs3 ((putF e L).map FE.cells)) ∧ Below w.heap.size w w' := by
  rcases hrow.2 with ⟨hv, h0⟩ | ⟨g, cap, cur, hv, _⟩
  · have hz : L = [] := List.length_eq_zero_iff.1 h0
    subst hz
    obtain ⟨rfl, rfl⟩ : av = none ∧ cv = 0 := by simpa using hv
    exact l4Put_nil e w
  · cases hv
    exact l4Put_some base g _ L e hi w hrow hk he hhi hp hl
end Go.Proofs.Ytollijngiioonaa

/- Lists of functions (name, how many arguments, blind or not): what is right, and how they lie in memory. Conditions: none. -/
namespace Go.Proofs.Ytollijngiioonaa
set_option maxRecDepth 100000
open Go.RowKit


/-- A function as data. -/
structure SymD where
  name : ByteArray
  ar : Int
  ac : Bool

instance : Inhabited SymD := ⟨⟨ByteArray.empty, 0, false⟩⟩

/-- The slice of functions that begins at 'a' reads in w as ss. -/
def RdS (w : World) (a : Option Addr) (ss : List SymD) : Prop :=
  ss = [] ∨ ∃ b off, a = some ⟨b, off, none⟩ ∧ b < w.heap.size ∧ ∀ i, (h : i < ss.length) →
    w.cell? ⟨b, off + i * 3, none⟩ = some (.string ss[i].name) ∧ w.cell? ⟨b, off + i * 3 + 1, none⟩ = some (.int .i64 ss[i].ar) ∧ w.cell? ⟨b, off + i * 3 + 2, none⟩ = some (.bool ss[i].ac)

theorem RdS.below {w w' : World} {a : Option Addr} {ss : List SymD} (h : RdS w a ss) (hb : Below w.heap.size w w') : RdS w' a ss := by
  rcases h with h | ⟨b, off, rfl, hlt, hc⟩
  · exact .inl h
  · refine .inr ⟨b, off, rfl, Nat.lt_of_lt_of_le hlt hb.size, fun i hi => ?_⟩
    obtain ⟨h0, h1, h2⟩ := hc i hi
    exact ⟨(hb.cell (p := ⟨b, off + i * 3, none⟩) hlt).trans h0, (hb.cell (p := ⟨b, off + i * 3 + 1, none⟩) hlt).trans h1, (hb.cell (p := ⟨b, off + i * 3 + 2, none⟩) hlt).trans h2⟩

theorem ret_int {a b : Int} (h : a = b) : Ending.returned (.int .i64 a) = .returned (.int .i64 b) := by rw [h]

theorem ret_bool {a b : Bool} (h : a = b) : Ending.returned (.bool a) = .returned (.bool b) := by rw [h]

/-- Where the first function of that name stands; -1. -/
def symOf (ss : List SymD) (n : ByteArray) : Int := match ss.findIdx? (fun s => s.name.toList == n.toList) with
  | some i => i
  | none => -1

theorem symOf_hit {ss : List SymD} {n : ByteArray} {k : Nat} (hk : k < ss.length) (h0 : ∀ j, (h : j < ss.length) → j < k → (ss[j].name.toList == n.toList) = false) (h : (ss[k].name.toList == n.toList) = true) : symOf ss n = k := by
  have : ss.findIdx? (fun s => s.name.toList == n.toList) = some k := by
    rw [List.findIdx?_eq_some_iff_getElem]
    exact ⟨hk, h, fun j hj => by simp [h0 j (by omega) hj]⟩
  simp [symOf, this]

theorem symOf_none {ss : List SymD} {n : ByteArray} (h0 : ∀ j, (h : j < ss.length) → (ss[j].name.toList == n.toList) = false) : symOf ss n = -1 := by
  have : ss.findIdx? (fun s => s.name.toList == n.toList) = none := by
    rw [List.findIdx?_eq_none_iff]
    intro s hs
    obtain ⟨j, hj, rfl⟩ := List.getElem_of_mem hs
    exact h0 j hj
  simp [symOf, this]

/-- A function as a value. -/
def symV (s : SymD) : Value := .agg #[.string s.name, .int .i64 s.ar, .bool s.ac]

def symC (s : SymD) : List Value := [.string s.name, .int .i64 s.ar, .bool s.ac]

def symCs (ss : List SymD) : List Value := ss.flatMap symC

theorem symCs_len (ss : List SymD) : (symCs ss).length = ss.length * 3 := by
  induction ss with
  | nil => rfl
  | cons s ss ih => simp only [symCs, List.flatMap_cons, List.length_append] at *; rw [ih]; simp [symC]; omega

def zeroSym : SymD := ⟨⟨#[]⟩, 0, false⟩

theorem set3 (s : SymD) : ∀ (l : List SymD) (k : Nat), k < l.length → (((symCs l).set (k * 3) (.string s.name)).set (k * 3 + 1) (.int .i64 s.ar)).set (k * 3 + 2) (.bool s.ac) = symCs (l.set k s)
  | [], k, h => by simp at h
  | x :: l, 0, _ => by simp [symCs, symC]
  | x :: l, k + 1, h => by
    have ih := set3 s l k (by simpa using h)
    have e : ∀ (m : Nat) (L : List Value) (v : Value), (symC x ++ L).set (m + 3) v = symC x ++ L.set m v := by
      intro m L v
      simp [symC]
    have e0 : (k + 1) * 3 = k * 3 + 3 := by omega
    rw [List.set_cons_succ]
    simp only [symCs, List.flatMap_cons] at *
    rw [e0, e, show k * 3 + 3 + 1 = (k * 3 + 1) + 3 by omega, e, show k * 3 + 3 + 2 = (k * 3 + 2) + 3 by omega, e, ih]

theorem get3 : ∀ (l : List SymD) (k : Nat), (h : k < l.length) → (symCs l)[k * 3]? = some (.string l[k].name) ∧ (symCs l)[k * 3 + 1]? = some (.int .i64 l[k].ar) ∧ (symCs l)[k * 3 + 2]? = some (.bool l[k].ac)
  | [], k, h => by simp at h
  | x :: l, 0, _ => by simp [symCs, symC]
  | x :: l, k + 1, h => by
    have ih := get3 l k (by simpa using h)
    have e : ∀ (m : Nat) (L : List Value), (symC x ++ L)[m + 3]? = L[m]? := by
      intro m L
      rw [List.getElem?_append_right (by simp [symC])]
      simp [symC]
    have e0 : (k + 1) * 3 = k * 3 + 3 := by omega
    simp only [symCs, List.flatMap_cons, List.getElem_cons_succ] at *
    rw [e0, e, show k * 3 + 3 + 1 = (k * 3 + 1) + 3 by omega, e, show k * 3 + 3 + 2 = (k * 3 + 2) + 3 by omega, e]
    exact ih

theorem made3 : ∀ (n : Nat), (madeCells #[.string ⟨#[]⟩, .int .i64 0, .bool false] (n * 3)).toList = symCs (List.replicate n zeroSym)
  | 0 => by simp [madeCells, symCs]
  | n + 1 => by
    have ih := made3 n
    rw [List.replicate_succ', symCs, List.flatMap_append]
    rw [symCs] at ih
    rw [← ih]
    have e0 : (n + 1) * 3 = n * 3 + 1 + 1 + 1 := by omega
    rw [e0]
    simp only [madeCells, Array.toList_map, Array.toList_range, List.range_succ, List.map_append, List.map_cons, List.map_nil, List.append_assoc]
    have m0 : n * 3 % 3 = 0 := by omega
    have m1 : (n * 3 + 1) % 3 = 1 := by omega
    have m2 : (n * 3 + 1 + 1) % 3 = 2 := by omega
    simp [m0, m1, m2, symC, zeroSym]

theorem step3 {ss : List SymD} {k : Nat} (h : k < ss.length) : (ss.take k ++ List.replicate (ss.length - k) zeroSym).set k ss[k] = ss.take (k + 1) ++ List.replicate (ss.length - (k + 1)) zeroSym := by
  have l : (ss.take k).length = k := by rw [List.length_take]; omega
  have e : ss.length - k = (ss.length - (k + 1)) + 1 := by omega
  rw [List.set_append, if_neg (by omega), l, Nat.sub_self, e, List.replicate_succ, List.set_cons_zero, List.take_succ_eq_append_getElem h, List.append_assoc]
  rfl

theorem len3 {ss : List SymD} {k : Nat} (h : k ≤ ss.length) : ss.length = (ss.take k ++ List.replicate (ss.length - k) zeroSym).length := by simp; omega

theorem lt3 {ss : List SymD} {k : Nat} (h : k < ss.length) : k < (ss.take k ++ List.replicate (ss.length - k) zeroSym).length := by rw [← len3 (by omega)]; exact h

theorem own_belowS {w w' : World} {base : Nat} {e : TypeId} {size : Nat} {v : Value} {n : Nat} {xs : List Value} (h : w.ownsRow base e size v n xs) (hb : Below w.heap.size w w') : w'.ownsRow base e size v n xs := by
  have hl := h.lt
  obtain ⟨h1, h2⟩ := h
  refine ⟨h1, ?_⟩
  rcases h2 with h2 | ⟨g, cap, cur, rfl, hg, hh, r⟩
  · exact .inl h2
  · exact .inr ⟨g, cap, cur, rfl, hg, by rw [hb.block g (hl g rfl).2]; exact hh, r⟩

/-- Three stores that lay one function into an owned row. -/
theorem store3 {w : World} {T : TypeId} {B g c n : Nat} {l : List SymD} (s : SymD) {k : Nat} (hk : k < l.length) (h : w.ownsRow B T 3 (.slice (some ⟨g, 0, none⟩) n c) n (symCs l)) :
    (((w.setCell ⟨g, k * 3, none⟩ (.string s.name)).setCell ⟨g, k * 3 + 1, none⟩ (.int .i64 s.ar)).setCell ⟨g, k * 3 + 2, none⟩ (.bool s.ac)).ownsRow B T 3 (.slice (some ⟨g, 0, none⟩) n c) n (symCs (l.set k s)) := by
  have h1 := (((h.stored (k * 3) (.string s.name)).1.stored (k * 3 + 1) (.int .i64 s.ar)).1.stored (k * 3 + 2) (.bool s.ac)).1
  rwa [set3 s l k hk] at h1

theorem cells3 {w : World} {T : TypeId} {B g c n : Nat} {l : List SymD} {k : Nat} (hn : n = l.length) (hk : k < l.length) (h : w.ownsRow B T 3 (.slice (some ⟨g, 0, none⟩) n c) n (symCs l)) :
    w.cell? ⟨g, k * 3, none⟩ = some (.string l[k].name) ∧ w.cell? ⟨g, k * 3 + 1, none⟩ = some (.int .i64 l[k].ar) ∧ w.cell? ⟨g, k * 3 + 2, none⟩ = some (.bool l[k].ac) := by
  obtain ⟨g0, g1, g2⟩ := get3 l k hk
  exact ⟨(h.cellAt _ (by omega)).trans g0, (h.cellAt _ (by omega)).trans g1, (h.cellAt _ (by omega)).trans g2⟩

theorem RdS.own {w : World} {T : TypeId} {base g cap : Nat} {ss : List SymD} {n : Nat} (hn : n = ss.length) (h : w.ownsRow base T 3 (.slice (some ⟨g, 0, none⟩) n cap) n (symCs ss)) : RdS w (some ⟨g, 0, none⟩) ss := by
  refine .inr ⟨g, 0, rfl, (h.lt g rfl).2, fun i hi => ?_⟩
  have := cells3 hn hi h
  simpa using this


/-- How many bytes the names of the first functions take. -/
def bytesOf (ss : List SymD) : Nat := (ss.map fun s => s.name.size).sum

theorem bytesOf_next {ss : List SymD} {k : Nat} (h : k < ss.length) : bytesOf (ss.take (k + 1)) = bytesOf (ss.take k) + ss[k].name.size := by
  rw [List.take_succ_eq_append_getElem h, bytesOf, bytesOf, List.map_append, List.sum_append]
  simp only [List.map_cons, List.map_nil, List.sum_cons, List.sum_nil, Nat.add_zero]

/-- Whether two functions are alike. -/
def symEq (s t : SymD) : Bool := (s.name.toList == t.name.toList) && (s.ar == t.ar) && (s.ac == t.ac)

/-- Whether two lists of functions are alike. -/
def symsEq : List SymD → List SymD → Bool
  | [], [] => true
  | s :: ss, t :: ts => symEq s t && symsEq ss ts
  | _, _ => false

theorem symEq_self (s : SymD) : symEq s s = true := by simp [symEq]


/-- Whether byte c may stand at place i of a name. -/
def chOk (i : Nat) (c : UInt8) : Bool := (decide (97 ≤ c.toNat) && decide (c.toNat ≤ 122)) || (decide (0 < i) && decide (48 ≤ c.toNat) && decide (c.toNat ≤ 57))

/-- Whether the first k bytes may stand in a name. -/
def chsOk (s : ByteArray) : Nat → Bool
  | 0 => true
  | k + 1 => chsOk s k && (if h : k < s.size then chOk k s[k] else true)

def nameOk (s : ByteArray) : Bool := chsOk s s.size && decide (1 ≤ s.size) && decide (s.size ≤ 8)

theorem chs_bad (s : ByteArray) {k : Nat} (h : k < s.size) (hb : chOk k s[k] = false) : nameOk s = false := by
  have : ∀ n, k < n → chsOk s n = false := by
    intro n
    induction n with
    | zero => intro h; omega
    | succ n ih =>
      intro hn
      rw [chsOk]
      by_cases e : k = n
      · subst e; rw [dif_pos h, hb]; simp
      · rw [ih (by omega)]; simp
  rw [nameOk, this s.size h]; rfl

theorem name_pos {s : ByteArray} (h : chsOk s s.size = true) (h1 : (1 : Int) ≤ (s.size : Int)) : nameOk s = decide ((s.size : Int) ≤ 8) := by
  rw [nameOk, h, decide_eq_true (show 1 ≤ s.size by omega)]
  simp only [Bool.true_and]
  exact decide_eq_decide.2 (by omega)

theorem name_neg {s : ByteArray} (h1 : ¬ (1 : Int) ≤ (s.size : Int)) : nameOk s = false := by
  rw [nameOk, decide_eq_false (show ¬ 1 ≤ s.size by omega)]; simp

/-- Whether the function of that number is blind; how many arguments it has. -/
def blindAt (ss : List SymD) (f : Int) : Bool := if 0 ≤ f then (ss[f.toNat]?.map SymD.ac).getD false else false

def arityAt (ss : List SymD) (f : Int) : Int := if 0 ≤ f then (ss[f.toNat]?.map SymD.ar).getD (-1) else -1

theorem blindAt_in {ss : List SymD} {k : Nat} (h : k < ss.length) : blindAt ss k = ss[k].ac := by simp [blindAt, h]

theorem arityAt_in {ss : List SymD} {k : Nat} (h : k < ss.length) : arityAt ss k = ss[k].ar := by simp [arityAt, h]

theorem at_out {ss : List SymD} {f : Int} (h : f < 0 ∨ (ss.length : Int) - 1 < f) : blindAt ss f = false ∧ arityAt ss f = -1 := by
  unfold blindAt arityAt
  by_cases h0 : 0 ≤ f
  · have : ss[f.toNat]? = none := by rw [List.getElem?_eq_none_iff]; omega
    simp [this]
  · simp [h0]


/-- Whether function k of the list is right. -/
def goodAt (ss : List SymD) (k : Nat) (s : SymD) : Bool := nameOk s.name && (symOf ss s.name == (k : Int)) && (decide (0 ≤ s.ar) && decide (s.ar ≤ 3)) && (!s.ac || s.ar == 2)

def goodTo (ss : List SymD) : Nat → Bool
  | 0 => true
  | k + 1 => goodTo ss k && (if h : k < ss.length then goodAt ss k ss[k] else true)

def isTT (s : SymD) : Bool := (s.name.toList == [116, 116]) && (s.ar == 0) && !s.ac

def sigOk (ss : List SymD) : Bool := goodTo ss ss.length && (decide (1 ≤ ss.length) && decide (ss.length ≤ 8)) && (ss.head?.map isTT).getD false

theorem sig_bad {ss : List SymD} {k : Nat} (h : k < ss.length) (hb : goodAt ss k ss[k] = false) : sigOk ss = false := by
  have : ∀ n, k < n → goodTo ss n = false := by
    intro n
    induction n with
    | zero => intro h; omega
    | succ n ih =>
      intro hn
      rw [goodTo]
      by_cases e : k = n
      · subst e; rw [dif_pos h, hb]; simp
      · rw [ih (by omega)]; simp
  rw [sigOk, this ss.length h]; rfl

theorem good_next {ss : List SymD} {k : Nat} (h : k < ss.length) (h0 : goodTo ss k = true) (hg : goodAt ss k ss[k] = true) : goodTo ss (k + 1) = true := by
  rw [goodTo, h0, dif_pos h, hg]; rfl

theorem sig_end {ss : List SymD} (h : goodTo ss ss.length = true) (h1 : 0 < ss.length) (h8 : ss.length ≤ 8) : sigOk ss = isTT ss[0] := by
  rw [sigOk, h, decide_eq_true (show 1 ≤ ss.length by omega), decide_eq_true h8]
  cases ss with
  | nil => simp at h1
  | cons s ss => simp
end Go.Proofs.Ytollijngiioonaa

/- Whether a function is blind, as the specification tells it. Conditions: at most 1048577 functions. -/
namespace Go.Proofs.Ytollijngiioonaa
set_option maxRecDepth 100000
open Go.RowKit

set_option maxHeartbeats 800000 in
theorem specBlind_any (a : Option Addr) (ss : List SymD) (n cap : Nat) (f : Int) (w : World) (hn : n = ss.length) (hr : RdS w a ss) (hl : ss.length ≤ 1048577) (hf0 : -9223372036854775808 ≤ f) (hf1 : f ≤ 9223372036854775807) :
    Calls Try.prog 46 #[.slice a n cap, .int .i64 f] w fun e w' => e = .returned (.bool (blindAt ss f)) ∧ w' = w := by
  subst hn
  by_cases h0 : 0 ≤ f
  · by_cases h1 : f ≤ (ss.length : Int) - 1
    · obtain ⟨k, rfl⟩ := Int.eq_ofNat_of_zero_le h0
      have hk : k < ss.length := by omega
      rcases hr with rfl | ⟨b, off, rfl, hlt, hc⟩
      · simp at hk
      · obtain ⟨c0, c1, c2⟩ := hc k hk
        have hk2 : (k : Int) < (ss.length : Int) := by omega
        clear hc
        go_enter Try.func46, Try.ntmps46
        go_wp2_with go_in
        go_ret
        exact ⟨ret_bool (blindAt_in hk).symm, rfl⟩
    · have HN : Hid (blindAt ss f = false ∧ arityAt ss f = -1) := at_out (.inr (by omega))
      go_enter Try.func46, Try.ntmps46
      go_wp2_with go_in
      go_ret
      exact ⟨ret_bool HN.out.1.symm, rfl⟩
  · have HN : Hid (blindAt ss f = false ∧ arityAt ss f = -1) := at_out (.inl (by omega))
    go_enter Try.func46, Try.ntmps46
    go_wp2_with go_in
    go_ret
    exact ⟨ret_bool HN.out.1.symm, rfl⟩

end Go.Proofs.Ytollijngiioonaa

/- What lies in memory while the specification makes one form of a term. Conditions: none. -/
namespace Go.Proofs.Ytollijngiioonaa
set_option maxRecDepth 100000
open Go.RowKit

/-- The call's own three boxes: the term, the answer's place, what is made. -/
structure NC (w : World) (t : TermD) (a : Option Addr) (c : Nat) (vo : Value) (wr : World) : Prop where
  p0 : wr.cell? ⟨w.heap.size, 0, none⟩ = some (.int .i64 t.f)
  p2 : wr.cell? ⟨w.heap.size, 2, none⟩ = some (.slice a t.kids.length c)
  r0 : wr.cell? ⟨w.heap.size + 1, 0, none⟩ = some (.int .i64 0)
  r1 : wr.cell? ⟨w.heap.size + 1, 1, none⟩ = some (.int .i64 0)
  r2 : wr.cell? ⟨w.heap.size + 1, 2, none⟩ = some (.slice none 0 0)
  q0 : wr.cell? ⟨w.heap.size + 1 + 1, 0, none⟩ = some (.int .i64 t.f)
  q1 : wr.cell? ⟨w.heap.size + 1 + 1, 1, none⟩ = some (.int .i64 t.v)
  q2 : wr.cell? ⟨w.heap.size + 1 + 1, 2, none⟩ = some vo
  fr : ∀ j, wr.frozen? ⟨w.heap.size + 1, j, none⟩ = false
  fq : ∀ j, wr.frozen? ⟨w.heap.size + 1 + 1, j, none⟩ = false
  bel : Below w.heap.size w wr
  z : w.heap.size + 1 + 1 < wr.heap.size

namespace NC
variable {w : World} {t : TermD} {a : Option Addr} {c : Nat} {vo : Value} {wr wr' : World}
theorem stay (h : NC w t a c vo wr) (hs : Stay (fun k => k < w.heap.size + 1 + 1 + 1) wr wr') : NC w t a c vo wr' := by
  have hz := h.z
  exact ⟨hs.cell h.p0 (by simp only; omega), hs.cell h.p2 (by simp only; omega), hs.cell h.r0 (by simp only; omega), hs.cell h.r1 (by simp only; omega), hs.cell h.r2 (by simp only; omega), hs.cell h.q0 (by simp only; omega), hs.cell h.q1 (by simp only; omega), hs.cell h.q2 (by simp only; omega), fun j => (hs.frozen (p := ⟨w.heap.size + 1, j, none⟩) (by simp only; omega) (by simp only; omega)).trans (h.fr j), fun j => (hs.frozen (p := ⟨w.heap.size + 1 + 1, j, none⟩) (by simp only; omega) (by simp only; omega)).trans (h.fq j), h.bel.trans (hs.below h.bel.size (fun k hk => by omega)), Nat.lt_of_lt_of_le hz hs.size⟩
theorem on (h : NC w t a c vo wr) (hb : Below wr.heap.size wr wr') : NC w t a c vo wr' := h.stay (.of_below hb (fun _ hk _ => hk))
theorem set (h : NC w t a c vo wr) (vo' : Value) : NC w t a c vo' (wr.setCell ⟨w.heap.size + 1 + 1, 2, none⟩ vo') := by
  have e : ∀ b j, b ≠ w.heap.size + 1 + 1 → (wr.setCell ⟨w.heap.size + 1 + 1, 2, none⟩ vo').cell? ⟨b, j, none⟩ = wr.cell? ⟨b, j, none⟩ := fun b j hb => World.cell?_of_block (Below.heap_setCell _ _ _ _ hb)
  refine ⟨(e _ _ (by omega)).trans h.p0, (e _ _ (by omega)).trans h.p2, (e _ _ (by omega)).trans h.r0, (e _ _ (by omega)).trans h.r1, (e _ _ (by omega)).trans h.r2, ?_, ?_, World.cell?_setCell_same' _ _ _ (by rw [h.q2]; rfl), fun j => by rw [World.frozen?_setCell]; exact h.fr j, fun j => by rw [World.frozen?_setCell]; exact h.fq j, h.bel.setCell (p := ⟨w.heap.size + 1 + 1, 2, none⟩) (by simp only; omega) _, by simpa using h.z⟩
  · rw [World.cell?_setCell_other _ _ _ _ (by simp)]; exact h.q0
  · rw [World.cell?_setCell_other _ _ _ _ (by simp)]; exact h.q1
end NC

theorem own_lower' {w : World} {base base' : Nat} {e : TypeId} {size : Nat} {v : Value} {n : Nat} {xs : List Value} (h : w.ownsRow base e size v n xs) (hb : base' ≤ base) : w.ownsRow base' e size v n xs := by
  obtain ⟨h1, h2⟩ := h
  refine ⟨h1, ?_⟩
  rcases h2 with h2 | ⟨g, cap, cur, rfl, hg1, r⟩
  · exact .inl h2
  · exact .inr ⟨g, cap, cur, rfl, Nat.le_trans hb hg1, r⟩

/-- The row that is made, and whose terms it holds (those of M lie apart, too). -/
structure NR (B : Nat) (L M : List FE) (av : Option Addr) (cv : Nat) (wr : World) : Prop where
  row : wr.ownsRow B 27 3 (.slice av L.length cv) L.length (cs3 (L.map FE.cells))
  fo : Forest wr B (L ++ M)
  ap : ∀ g, (Value.slice av L.length cv).ownBlock = some g → ∀ e ∈ L ++ M, ¬ e.K g

namespace NR
variable {B : Nat} {L M : List FE} {av : Option Addr} {cv : Nat} {wr wr' : World}
theorem on (h : NR B L M av cv wr) (hb : Below wr.heap.size wr wr') : NR B L M av cv wr' := ⟨own_on h.row hb, h.fo.on hb, h.ap⟩
theorem set (h : NR B L M av cv wr) {p : Addr} (u : Value) (hp : p.block < B) : NR B L M av cv (wr.setCell p u) := by
  refine ⟨own_stay h.row (Stay.setCell (S := fun k => k ≠ p.block) _ _ (by simp)) (fun g hg => ?_), h.fo.setCell p u (fun e he hx => by have := ((h.fo.own e he).2.2.2 _ hx).1; omega), h.ap⟩
  have := (h.row.lt g hg).1
  show g ≠ p.block
  omega
theorem rd (h : NR B L M av cv wr) : ∀ i, (hi : i < L.length) → RdK wr wr.heap.size L[i].a L[i].t.kids := fun _ hi => (h.fo.own _ (List.mem_append_left _ (List.getElem_mem hi))).1.rd
/-- Into a new row, by its order. -/
theorem put {e : FE} {g c : Nat} (h : NR B L (e :: M) av cv wr) (hB : B ≤ wr.heap.size) (hb : Below wr.heap.size wr wr') (hrow : wr'.ownsRow wr.heap.size 27 3 (.slice (some ⟨g, 0, none⟩) (L.length + 1) c) (L.length + 1) (cs3 ((putF e L).map FE.cells))) :
    NR B (putF e L) M (some ⟨g, 0, none⟩) c wr' := by
  have hp : (putF e L ++ M).Perm (L ++ e :: M) := ((putF_perm e L).append_right M).trans (by simpa using (List.perm_middle (a := e) (l₁ := L) (l₂ := M)).symm)
  have hlt := hrow.lt g rfl
  refine ⟨by rw [putF_len]; exact own_lower' hrow hB, (h.fo.on hb).perm hp, fun g' hg' d hd => ?_⟩
  have e0 : g = g' := by simpa [Value.ownBlock] using hg'
  subst e0
  intro hx
  have := ((h.fo.own d (hp.subset hd)).2.2.2 _ hx).2
  omega
/-- At the row's end. -/
theorem app {e : FE} {v : Value} (h : NR B L (e :: M) av cv wr) (hg : wr.grownBy wr' (Value.slice av L.length cv).ownBlock) (hrow : wr'.ownsRow B 27 3 v (L.length + 1) (cs3 (L.map FE.cells) ++ [.int .i64 e.t.f, .int .i64 e.t.v, .slice e.a e.t.kids.length e.c])) (hat : v.ownBlock = (Value.slice av L.length cv).ownBlock ∨ v.ownBlock = some wr.heap.size) :
    ∃ g c, v = .slice (some ⟨g, 0, none⟩) (L.length + 1) c ∧ NR B (L ++ [e]) M (some ⟨g, 0, none⟩) c wr' := by
  obtain ⟨g, c, rfl, _⟩ := own_slot hrow
  have hf : Forest wr' B (L ++ e :: M) := by
    refine ⟨fun d hd => ?_, h.fo.dis⟩
    obtain ⟨h1, h2, h3, h4⟩ := h.fo.own d hd
    exact ⟨h1.frame (fun x hx => hg.block x (h4 x hx).2 (fun e => h.ap x e.symm d hd hx)) hg.size, h2, h3, fun x hx => ⟨(h4 x hx).1, Nat.lt_of_lt_of_le (h4 x hx).2 hg.size⟩⟩
  refine ⟨g, c, rfl, ?_, ?_, fun g' hg' d hd hx => ?_⟩
  · have e1 : cs3 ((L ++ [e]).map FE.cells) = cs3 (L.map FE.cells) ++ [.int .i64 e.t.f, .int .i64 e.t.v, .slice e.a e.t.kids.length e.c] := by simp [cs3, FE.cells]
    rw [e1, List.length_append]; exact hrow
  · simpa using hf
  · have e0 : g = g' := by simpa [Value.ownBlock] using hg'
    subst e0
    have hd' : d ∈ L ++ e :: M := by simpa using hd
    rcases hat with q | q
    · exact h.ap g q.symm d hd' hx
    · have : g = wr.heap.size := by simpa [Value.ownBlock] using q
      have := ((h.fo.own d hd').2.2.2 _ hx).2
      omega
end NR
end Go.Proofs.Ytollijngiioonaa

