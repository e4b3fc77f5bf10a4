/- Lists of terms that read within a set of blocks, and stacks of them in a row of their own. Conditions: none. -/
import Derived.Test.YtollijngiioonabOrd
import Derived.Test.YtollijngiioonabPriv
import Derived.Test.YtollijngiioonabTermOwn
namespace Go.Proofs.Ytollijngiioonab
set_option maxRecDepth 100000
open Go.RowKit

/-- The slice of terms that begins at 'a' reads in w as ts, all of its blocks in S. -/
inductive RdP (w : World) (S : Nat → Prop) : Option Addr → List TermD → Prop
  | nil (a : Option Addr) : RdP w S a []
  | row (b off : Nat) (ts : List TermD) (A : Nat → Option Addr) (C : Nat → Nat) (hlt : S b) (hl : ∀ i, (h : i < ts.length) → ts[i].kids.length ≤ C i) 
      (hc : ∀ i, (h : i < ts.length) → w.cell? ⟨b, off + i * 3, none⟩ = some (.int .i64 ts[i].f) ∧ w.cell? ⟨b, off + i * 3 + 1, none⟩ = some (.int .i64 ts[i].v) ∧ w.cell? ⟨b, off + i * 3 + 2, none⟩ = some (.slice (A i) ts[i].kids.length (C i)))
      (hk : ∀ i, (h : i < ts.length) → RdP w S (A i) ts[i].kids) : RdP w S (some ⟨b, off, none⟩) ts

theorem RdK.p {w : World} {hi : Nat} {S : Nat → Prop} {a : Option Addr} {ts : List TermD} (h : RdK w hi a ts) (hs : ∀ k, k < hi → S k) : RdP w S a ts := by
  induction h with
  | nil a => exact .nil a
  | row b off ts A C hlt hl hz hc hk ih => exact .row b off ts A C (hs _ hlt) hl.2 hc ih

theorem RdP.stay {w w' : World} {S : Nat → Prop} {a : Option Addr} {ts : List TermD} (h : RdP w S a ts) (hb : Stay S w w') : RdP w' S a ts := by
  induction h with
  | nil a => exact .nil a
  | row b off ts A C hlt hl hc hk ih =>
    refine .row b off ts A C hlt hl (fun i h => ?_) ih
    obtain ⟨h0, h1, h2⟩ := hc i h
    exact ⟨hb.cell h0 hlt, hb.cell h1 hlt, hb.cell h2 hlt⟩

theorem RdP.weak {w : World} {S T : Nat → Prop} {a : Option Addr} {ts : List TermD} (h : RdP w S a ts) (hs : ∀ k, S k → T k) : RdP w T a ts := by
  induction h with
  | nil a => exact .nil a
  | row b off ts A C hlt hl hc hk ih => exact .row b off ts A C (hs _ hlt) hl hc ih

theorem RdP.head {w : World} {S : Nat → Prop} {a : Option Addr} {t : TermD} {ts : List TermD} (h : RdP w S a (t :: ts)) :
    ∃ b off a' c', a = some ⟨b, off, none⟩ ∧ S b ∧ w.cell? ⟨b, off, none⟩ = some (.int .i64 t.f) ∧ w.cell? ⟨b, off + 1, none⟩ = some (.int .i64 t.v) ∧ w.cell? ⟨b, off + 2, none⟩ = some (.slice a' t.kids.length c') ∧ t.kids.length ≤ c' ∧ RdP w S a' t.kids := by
  cases h with
  | row b off _ A C hlt hl hc hk =>
    have h0 := hc 0 (by simp)
    simp only [Nat.zero_mul, Nat.add_zero, List.getElem_cons_zero] at h0
    exact ⟨b, off, A 0, C 0, rfl, hlt, h0.1, h0.2.1, h0.2.2, hl 0 (by simp), hk 0 (by simp)⟩

theorem RdP.tail {w : World} {S : Nat → Prop} {b off : Nat} {t : TermD} {ts : List TermD} (h : RdP w S (some ⟨b, off, none⟩) (t :: ts)) : RdP w S (some ⟨b, off + 3, none⟩) ts := by
  cases h with
  | row _ _ _ A C hlt hl hc hk =>
    refine .row b (off + 3) ts (fun i => A (i + 1)) (fun i => C (i + 1)) hlt (fun i hi => ?_) (fun i hi => ?_) (fun i hi => ?_)
    · have := hl (i + 1) (by simpa using hi); simpa using this
    · have := hc (i + 1) (by simpa using hi)
      rw [show off + (i + 1) * 3 = off + 3 + i * 3 by omega] at this
      simpa using this
    · have := hk (i + 1) (by simpa using hi); simpa using this

/-- Where the rest of a list begins. -/
def tailA (b off c : Nat) : Option Addr := if c = 1 then some ⟨b, off, none⟩ else some ⟨b, off + 3, none⟩

theorem RdP.tailA {w : World} {S : Nat → Prop} {b off : Nat} {t : TermD} {ts : List TermD} (h : RdP w S (some ⟨b, off, none⟩) (t :: ts)) {c : Nat} (hc : ts.length + 1 ≤ c) : RdP w S (tailA b off c) ts := by
  unfold Go.Proofs.Ytollijngiioonab.tailA
  split
  · have : ts = [] := List.eq_nil_of_length_eq_zero (by omega)
    subst this; exact .nil _
  · exact h.tail

/-- One pair of lists on the stack. -/
structure PE where
  a : Option Addr
  c : Nat
  ts : List TermD
  a' : Option Addr
  c' : Nat
  us : List TermD

/-- It reads, and its lists are of one length. -/
structure PE.Ok (e : PE) (w : World) (S : Nat → Prop) : Prop where
  r : RdP w S e.a e.ts
  r' : RdP w S e.a' e.us
  le : e.ts.length ≤ e.c
  le' : e.us.length ≤ e.c'
  eq : e.ts.length = e.us.length

theorem PE.Ok.stay {e : PE} {w w' : World} {S : Nat → Prop} (h : e.Ok w S) (hb : Stay S w w') : e.Ok w' S := ⟨h.r.stay hb, h.r'.stay hb, h.le, h.le', h.eq⟩

/-- The cells of a stack, its top last. -/
def cellsP : List PE → List Value
  | [] => []
  | e :: E => cellsP E ++ [.slice e.a e.ts.length e.c, .slice e.a' e.us.length e.c']
theorem cellsP_len (E : List PE) : (cellsP E).length = E.length * 2 := by
  induction E with
  | nil => rfl
  | cons e E ih => simp only [cellsP, List.length_append, ih, List.length_cons, List.length_nil]; omega
def dataP (E : List PE) : List (List TermD × List TermD) := E.map fun e => (e.ts, e.us)

theorem cellsP_top {w : World} {B T g c : Nat} {e : PE} {E : List PE} (h : w.ownsRow B T 2 (.slice (some ⟨g, 0, none⟩) (E.length + 1) c) (E.length + 1) (cellsP (e :: E))) :
    w.cell? ⟨g, E.length * 2, none⟩ = some (.slice e.a e.ts.length e.c) ∧ w.cell? ⟨g, E.length * 2 + 1, none⟩ = some (.slice e.a' e.us.length e.c') := by
  have hl := cellsP_len E
  refine ⟨(h.cellAt _ (by omega)).trans ?_, (h.cellAt _ (by omega)).trans ?_⟩
  · rw [cellsP, List.getElem?_append_right (by omega)]; simp [hl]
  · rw [cellsP, List.getElem?_append_right (by omega)]; simp [hl]

theorem cellsP_set {w : World} {B T g c : Nat} {e : PE} {E : List PE} (h : w.ownsRow B T 2 (.slice (some ⟨g, 0, none⟩) (E.length + 1) c) (E.length + 1) (cellsP (e :: E))) (d : PE) :
    ((w.setCell ⟨g, E.length * 2, none⟩ (.slice d.a d.ts.length d.c)).setCell ⟨g, E.length * 2 + 1, none⟩ (.slice d.a' d.us.length d.c')).ownsRow B T 2 (.slice (some ⟨g, 0, none⟩) (E.length + 1) c) (E.length + 1) (cellsP (d :: E)) := by
  have hl := cellsP_len E
  have h1 := ((h.stored (E.length * 2) (.slice d.a d.ts.length d.c)).1.stored (E.length * 2 + 1) (.slice d.a' d.us.length d.c')).1
  have e1 : ((cellsP (e :: E)).set (E.length * 2) (.slice d.a d.ts.length d.c)).set (E.length * 2 + 1) (.slice d.a' d.us.length d.c') = cellsP (d :: E) := by
    simp only [cellsP]
    rw [List.set_append_right _ _ (by omega), List.set_append_right _ _ (by omega)]
    simp [hl]
  rwa [e1] at h1

theorem cellsP_pop {w : World} {B T g c : Nat} {e : PE} {E : List PE} (h : w.ownsRow B T 2 (.slice (some ⟨g, 0, none⟩) (E.length + 1) c) (E.length + 1) (cellsP (e :: E))) :
    w.ownsRow B T 2 (.slice (some ⟨g, 0, none⟩) E.length c) E.length (cellsP E) := ownsRow_pop (cellsP_len E) h

theorem own_stay {w w' : World} {S : Nat → Prop} {base : Nat} {e : TypeId} {size : Nat} {v : Value} {n : Nat} {xs : List Value} (h : w.ownsRow base e size v n xs) (hb : Stay S w w') (hs : ∀ g, v.ownBlock = some g → S g) : w'.ownsRow base e size v n xs := by
  have hl := h.lt
  obtain ⟨h1, h2⟩ := h
  refine ⟨h1, ?_⟩
  rcases h2 with h2 | ⟨g, cap, cur, rfl, hg, hh, r⟩
  · exact .inl h2
  · exact .inr ⟨g, cap, cur, rfl, hg, by rw [hb.block g (hl g rfl).2 (hs g rfl)]; exact hh, r⟩

/-- The blocks that stay while the stack is worked on: what was there, and two of the call's own. -/
def Fx (n B k : Nat) : Prop := k < n ∨ k = B ∨ k = B + 1

/-- What lies in memory while two terms are held against each other. -/
structure OrdSt (w : World) (B T T' : Nat) (r : Int) (M : Nat) (E : List PE) (v : Value) (wr : World) : Prop where
  row : wr.ownsRow w.heap.size T 2 v E.length (cellsP E)
  k0 : ∃ cs fz, wr.heap[B]? = some (.cells cs T' fz)
  k1 : ∃ cs fz, wr.heap[B + 1]? = some (.cells cs T' fz)
  ne : T' ≠ T
  lo : w.heap.size ≤ B
  good : ∀ e ∈ E, e.Ok wr (Fx w.heap.size B)
  ord : ordS (dataP E) = r
  size : sizeS (dataP E) ≤ M
  below : Below w.heap.size w wr

namespace OrdSt
variable {w wr wr' : World} {B T T' : Nat} {r : Int} {M : Nat} {E : List PE} {v : Value}

theorem hi (h : OrdSt w B T T' r M E v wr) : B + 1 < wr.heap.size := by
  obtain ⟨cs, fz, e⟩ := h.k1; exact (Array.getElem?_eq_some_iff.1 e).1

theorem own (h : OrdSt w B T T' r M E v wr) : ∀ g, v.ownBlock = some g → ¬ Fx w.heap.size B g := by
  intro g hg hx
  have hlt := h.row.lt g hg
  rcases h.row.2 with ⟨rfl, _⟩ | ⟨g', cap, cur, rfl, _, hh, _⟩
  · cases hg
  · have e : g' = g := by simpa [Value.ownBlock] using hg
    subst e
    obtain ⟨cs, fz, e0⟩ := h.k0
    obtain ⟨cs1, fz1, e1⟩ := h.k1
    rcases hx with hx | hx | hx
    · omega
    · subst hx; rw [hh] at e0; cases e0; exact h.ne rfl
    · subst hx; rw [hh] at e1; cases e1; exact h.ne rfl

theorem on (h : OrdSt w B T T' r M E v wr) (hb : Below wr.heap.size wr wr') : OrdSt w B T T' r M E v wr' := by
  have hh := h.hi
  have hs : Stay (Fx w.heap.size B) wr wr' := .of_below hb (fun k hk _ => hk)
  refine ⟨own_on h.row hb, ?_, ?_, h.ne, h.lo, fun e he => (h.good e he).stay hs, h.ord, h.size, h.below.trans (hb.mono h.below.size)⟩
  · rw [hb.block _ (by omega)]; exact h.k0
  · rw [hb.block _ (by omega)]; exact h.k1

theorem pop {g c : Nat} {e : PE} (h : OrdSt w B T T' r M (e :: E) (.slice (some ⟨g, 0, none⟩) (E.length + 1) c) wr) (he : e.ts = []) : OrdSt w B T T' r M E (.slice (some ⟨g, 0, none⟩) E.length c) wr := by
  have he' : e.us = [] := List.eq_nil_of_length_eq_zero (by rw [← (h.good e (by simp)).eq, he]; rfl)
  have h1 := h.ord
  have h2 := h.size
  simp only [dataP, List.map_cons, he, he', ordS_pop] at h1 h2
  refine ⟨cellsP_pop h.row, h.k0, h.k1, h.ne, h.lo, fun e he => h.good e (by simp [he]), h1, ?_, h.below⟩
  simp only [sizeS] at h2
  exact Nat.le_trans (Nat.le_add_left _ _) h2

/-- Other lists stand at the stack's top. -/
theorem set {g c : Nat} {e d : PE} (h : OrdSt w B T T' r M (e :: E) (.slice (some ⟨g, 0, none⟩) (E.length + 1) c) wr) (hd : d.Ok wr (Fx w.heap.size B)) {r' : Int} (ho : ordS (dataP (d :: E)) = r') (hM : sizeS (dataP (d :: E)) ≤ M) :
    OrdSt w B T T' r' M (d :: E) (.slice (some ⟨g, 0, none⟩) (E.length + 1) c) ((wr.setCell ⟨g, E.length * 2, none⟩ (.slice d.a d.ts.length d.c)).setCell ⟨g, E.length * 2 + 1, none⟩ (.slice d.a' d.us.length d.c')) := by
  have hn := h.own g rfl
  have hlo := h.lo
  have hs : Stay (Fx w.heap.size B) wr ((wr.setCell ⟨g, E.length * 2, none⟩ (.slice d.a d.ts.length d.c)).setCell ⟨g, E.length * 2 + 1, none⟩ (.slice d.a' d.us.length d.c')) := (Stay.setCell _ _ hn).trans (Stay.setCell _ _ hn)
  have hh := h.hi
  refine ⟨cellsP_set h.row d, ?_, ?_, h.ne, h.lo, fun f hf => ?_, ho, hM, h.below.trans (hs.below h.below.size (fun k hk => .inl hk))⟩
  · rw [hs.block _ (by omega) (.inr (.inl rfl))]; exact h.k0
  · rw [hs.block _ (by omega) (.inr (.inr rfl))]; exact h.k1
  · rcases List.mem_cons.1 hf with rfl | hf
    · exact hd.stay hs
    · exact (h.good f (by simp [hf])).stay hs

/-- One more pair is put onto it. -/
theorem push {v' : Value} {d : PE} (h : OrdSt w B T T' r M E v wr) (hrow : wr'.ownsRow w.heap.size T 2 v' (E.length + 1) (cellsP E ++ [.slice d.a d.ts.length d.c, .slice d.a' d.us.length d.c'])) (hg : wr.grownBy wr' v.ownBlock) (hd : d.Ok wr (Fx w.heap.size B)) {r' : Int} (ho : ordS (dataP (d :: E)) = r') {M' : Nat} (hM : sizeS (dataP (d :: E)) ≤ M') :
    OrdSt w B T T' r' M' (d :: E) v' wr' := by
  have hs : Stay (Fx w.heap.size B) wr wr' := .grown hg (fun k hk => h.own k hk)
  have hh := h.hi
  have hlo := h.lo
  refine ⟨hrow, ?_, ?_, h.ne, h.lo, fun f hf => ?_, ho, hM, h.below.trans (hs.below h.below.size (fun k hk => .inl hk))⟩
  · rw [hs.block _ (by omega) (.inr (.inl rfl))]; exact h.k0
  · rw [hs.block _ (by omega) (.inr (.inr rfl))]; exact h.k1
  · rcases List.mem_cons.1 hf with rfl | hf
    · exact hd.stay hs
    · exact (h.good f hf).stay hs
end OrdSt

theorem own_form {w : World} {base : Nat} {e : TypeId} {size : Nat} {v : Value} {n : Nat} {xs : List Value} (h : w.ownsRow base e size v n xs) : ∃ a c, v = .slice a n c ∧ n ≤ c := by
  rcases h.2 with ⟨rfl, rfl⟩ | ⟨g, cap, _, rfl, _, _, hn, _⟩
  · exact ⟨none, 0, rfl, Nat.le_refl _⟩
  · exact ⟨_, cap, rfl, hn⟩
theorem own_slot {w : World} {base : Nat} {e : TypeId} {size : Nat} {v : Value} {n : Nat} {xs : List Value} (h : w.ownsRow base e size v (n + 1) xs) : ∃ g c, v = .slice (some ⟨g, 0, none⟩) (n + 1) c ∧ n + 1 ≤ c ∧ base ≤ g ∧ g < w.heap.size := by
  have hl := h.lt
  rcases h.2 with ⟨_, h0⟩ | ⟨g, cap, _, rfl, hb, _, hn, _⟩
  · omega
  · exact ⟨g, cap, rfl, hn, hb, (hl g rfl).2⟩

theorem two_new (w : World) (x y : Value) (t : TypeId) (n : Nat) (hn : n = w.heap.size) : ∀ j v, [x, y][j]? = some v → (w.alloc (.cells #[x, y] t)).cell? ((⟨n, 0, none⟩ : Addr).add j) = some v := by
  subst hn
  intro j v hj
  match j, hj with
  | 0, hj => simp at hj; subst hj; simp [Addr.add]
  | 1, hj => simp at hj; subst hj; simp [Addr.add]
  | j + 2, hj => simp at hj
theorem two_cell (a a' : Option Addr) (n n' c c' : Nat) : ∀ u ∈ [Value.slice a n c, Value.slice a' n' c'], u.oneCell' = true := by
  intro u hu
  simp at hu
  rcases hu with rfl | rfl <;> rfl
end Go.Proofs.Ytollijngiioonab
