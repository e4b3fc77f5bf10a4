/- All terms within a term, in the order in which the program goes over them, and its stack of lists. Conditions: none. -/
import Derived.Test.YtpmmgplpmonolabStk
namespace Go.Proofs.Ytpmmgplpmonolab
open Go.RowKit

mutual
/-- A term and all terms within it, a term ahead of its Kids. -/
def preT : TermD → List TermD
  | .mk f v ks => .mk f v ks :: preL ks
def preL : List TermD → List TermD
  | [] => []
  | t :: ts => preT t ++ preL ts
end
theorem preT_eq (t : TermD) : preT t = t :: preL t.kids := by cases t; rw [preT]; rfl
mutual
theorem preT_len : ∀ t : TermD, (preT t).length = partsT t
  | .mk f v ks => by have := preL_len ks; rw [preT, partsT, List.length_cons, this]
theorem preL_len : ∀ ts : List TermD, (preL ts).length = partsL ts
  | [] => by simp [preL, partsL]
  | t :: ts => by have h1 := preT_len t; have h2 := preL_len ts; rw [preL, partsL, List.length_append, h1, h2]
end
/-- How often variable v stands among terms. -/
def cntP (v : Int) (l : List TermD) : Nat := (l.filter fun x => x.f == -1 && x.v == v).length
theorem cntP_append (v : Int) (a b : List TermD) : cntP v (a ++ b) = cntP v a + cntP v b := by simp [cntP]
mutual
theorem cntP_pre (v : Int) : ∀ t : TermD, cntP v (preT t) = cntT v t
  | .mk f u ks => by
    have := cntP_preL v ks
    rw [preT, cntT, ← this, show TermD.mk f u ks :: preL ks = [TermD.mk f u ks] ++ preL ks from rfl, cntP_append]
    congr 1
    by_cases h1 : f = -1 <;> by_cases h2 : u = v <;> simp [cntP, TermD.f, TermD.v, h1, h2]
theorem cntP_preL (v : Int) : ∀ ts : List TermD, cntP v (preL ts) = cntL v ts
  | [] => by simp [preL, cntL, cntP]
  | t :: ts => by have h1 := cntP_pre v t; have h2 := cntP_preL v ts; rw [preL, cntL, cntP_append, h1, h2]
end

/-- What comes to the loop: a term, and where its Kids lie. -/
structure El where
  t : TermD
  a : Option Addr
  c : Nat
/-- As it comes. -/
def El.enc (x : El) : Array Value := #[.agg #[.int .i64 x.t.f, .int .i64 x.t.v, .slice x.a x.t.kids.length x.c]]

/-- One list on the stack. -/
structure LE where
  a : Option Addr
  c : Nat
  ts : List TermD
def cellsL : List LE → List Value
  | [] => []
  | e :: E => cellsL E ++ [.slice e.a e.ts.length e.c]
theorem cellsL_len (E : List LE) : (cellsL E).length = E.length * 1 := by
  induction E with
  | nil => rfl
  | cons e E ih => simp only [cellsL, List.length_append, ih, List.length_cons, List.length_nil]; omega
/-- All that is still to come. -/
def preS : List LE → List TermD
  | [] => []
  | e :: E => preL e.ts ++ preS E
def sizeL : List LE → Nat
  | [] => 0
  | e :: E => 2 * partsL e.ts + 1 + sizeL E
theorem sizeL_len (E : List LE) : E.length ≤ sizeL E := by
  induction E with
  | nil => simp
  | cons e E ih => simp only [sizeL, List.length_cons]; omega

theorem cellsL_top {w : World} {B T g c : Nat} {e : LE} {E : List LE} (h : w.ownsRow B T 1 (.slice (some ⟨g, 0, none⟩) (E.length + 1) c) (E.length + 1) (cellsL (e :: E))) :
    w.cell? ⟨g, E.length, none⟩ = some (.slice e.a e.ts.length e.c) := by
  have hl := cellsL_len E
  refine (h.cellAt _ (by omega)).trans ?_
  rw [cellsL, List.getElem?_append_right (by omega)]; simp [hl]
theorem cellsL_set {w : World} {B T g c : Nat} {e : LE} {E : List LE} (h : w.ownsRow B T 1 (.slice (some ⟨g, 0, none⟩) (E.length + 1) c) (E.length + 1) (cellsL (e :: E))) (d : LE) :
    (w.setCell ⟨g, E.length, none⟩ (.slice d.a d.ts.length d.c)).ownsRow B T 1 (.slice (some ⟨g, 0, none⟩) (E.length + 1) c) (E.length + 1) (cellsL (d :: E)) := by
  have hl := cellsL_len E
  have h1 := (h.stored E.length (.slice d.a d.ts.length d.c)).1
  have e1 : (cellsL (e :: E)).set E.length (.slice d.a d.ts.length d.c) = cellsL (d :: E) := by
    simp only [cellsL]
    rw [List.set_append_right _ _ (by omega)]
    simp [hl]
  rwa [e1] at h1
theorem cellsL_pop {w : World} {B T g c : Nat} {e : LE} {E : List LE} (h : w.ownsRow B T 1 (.slice (some ⟨g, 0, none⟩) (E.length + 1) c) (E.length + 1) (cellsL (e :: E))) :
    w.ownsRow B T 1 (.slice (some ⟨g, 0, none⟩) E.length c) E.length (cellsL E) := ownsRow_pop (cellsL_len E) h

/-- The blocks in which the terms lie. -/
def Rx (n B k : Nat) : Prop := k < n ∨ k = B

/-- The iterator's own memory, apart from the blocks of S. -/
structure WSt (n B T : Nat) (S : Nat → Prop) (E : List LE) (v : Value) (wr : World) : Prop where
  row : wr.ownsRow n T 1 v E.length (cellsL E)
  own : ∀ g, v.ownBlock = some g → ¬ S g ∧ g ≠ B
  nB : ¬ S B
  lB : B < wr.heap.size
  nle : n ≤ B
  good : ∀ e ∈ E, RdP wr (Rx n B) e.a e.ts ∧ e.ts.length ≤ e.c

namespace WSt
variable {n B T : Nat} {S S' : Nat → Prop} {E : List LE} {v : Value} {wr wr' : World}

theorem out (h : WSt n B T S E v wr) : ∀ g, v.ownBlock = some g → ¬ Rx n B g := fun g hg hx => hx.elim (fun h1 => by have := (h.row.lt g hg).1; omega) (h.own g hg).2

/-- New blocks alone. -/
theorem on (h : WSt n B T S E v wr) (hb : Below wr.heap.size wr wr') : WSt n B T S E v wr' :=
  ⟨own_on h.row hb, h.own, h.nB, Nat.lt_of_lt_of_le h.lB hb.size, h.nle, fun e he => ⟨(h.good e he).1.stay (.of_below hb (fun _ hk _ => hk)), (h.good e he).2⟩⟩

/-- Over a round: the body turns nothing below n, nor outside S. -/
theorem round (h : WSt n B T S E v wr) (hs : Stay (fun k => k < n ∨ ¬ S k) wr wr') (hS : ∀ k, S' k → S k ∨ wr.heap.size ≤ k) : WSt n B T S' E v wr' := by
  have hl := h.row.lt
  refine ⟨own_stay h.row hs (fun g hg => .inr (h.own g hg).1), fun g hg => ⟨fun hg' => ?_, (h.own g hg).2⟩, fun hB => ?_, Nat.lt_of_lt_of_le h.lB hs.size, h.nle, fun e he => ⟨(h.good e he).1.stay (hs.weak (fun _ _ hk => hk.elim .inl (fun e => .inr (e ▸ h.nB)))), (h.good e he).2⟩⟩
  · rcases hS g hg' with h1 | h1
    · exact (h.own g hg).1 h1
    · have := (hl g hg).2; omega
  · rcases hS B hB with h1 | h1
    · exact h.nB h1
    · have := h.lB; omega

theorem pop {g c : Nat} {e : LE} (h : WSt n B T S (e :: E) (.slice (some ⟨g, 0, none⟩) (E.length + 1) c) wr) : WSt n B T S E (.slice (some ⟨g, 0, none⟩) E.length c) wr :=
  ⟨cellsL_pop h.row, fun g' hg => h.own g' hg, h.nB, h.lB, h.nle, fun e he => h.good e (by simp [he])⟩

theorem set {g c : Nat} {e d : LE} (h : WSt n B T S (e :: E) (.slice (some ⟨g, 0, none⟩) (E.length + 1) c) wr) (hd : RdP wr (Rx n B) d.a d.ts ∧ d.ts.length ≤ d.c) :
    WSt n B T S (d :: E) (.slice (some ⟨g, 0, none⟩) (E.length + 1) c) (wr.setCell ⟨g, E.length, none⟩ (.slice d.a d.ts.length d.c)) := by
  have hs : Stay (Rx n B) wr (wr.setCell ⟨g, E.length, none⟩ (.slice d.a d.ts.length d.c)) := Stay.setCell _ _ (h.out g rfl)
  refine ⟨cellsL_set h.row d, h.own, h.nB, Nat.lt_of_lt_of_le h.lB hs.size, h.nle, fun f hf => ?_⟩
  rcases List.mem_cons.1 hf with rfl | hf
  · exact ⟨hd.1.stay hs, hd.2⟩
  · exact ⟨(h.good f (by simp [hf])).1.stay hs, (h.good f (by simp [hf])).2⟩

theorem push {v' : Value} {d : LE} (h : WSt n B T S E v wr) (hS : ∀ k, S k → k < wr.heap.size) (hrow : wr'.ownsRow n T 1 v' (E.length + 1) (cellsL E ++ [.slice d.a d.ts.length d.c])) (hg : wr.grownBy wr' v.ownBlock) (hv : v'.ownBlock = v.ownBlock ∨ v'.ownBlock = some wr.heap.size) (hd : RdP wr (Rx n B) d.a d.ts ∧ d.ts.length ≤ d.c) :
    WSt n B T S (d :: E) v' wr' := by
  have hs : Stay (Rx n B) wr wr' := .grown hg (fun k hk => h.out k hk)
  refine ⟨hrow, fun g hg' => ?_, h.nB, Nat.lt_of_lt_of_le h.lB hs.size, h.nle, fun f hf => ?_⟩
  · rcases hv with e | e
    · exact h.own g (e ▸ hg')
    · rw [hg'] at e
      cases e
      exact ⟨fun h1 => by have := hS _ h1; omega, fun e => by have := h.lB; omega⟩
  · rcases List.mem_cons.1 hf with rfl | hf
    · exact ⟨hd.1.stay hs, hd.2⟩
    · exact ⟨(h.good f hf).1.stay hs, (h.good f hf).2⟩
end WSt

theorem one_slice (x : Option Addr) (l c : Nat) : ∀ u ∈ [Value.slice x l c], u.oneCell' = true := by
  intro u hu; simp at hu; subst hu; rfl
theorem one_new1 (w : World) (u : Value) (t : TypeId) (n : Nat) (hn : n = w.heap.size) : ∀ j v, [u][j]? = some v → (w.alloc (.cells #[u] t)).cell? ((⟨n, 0, none⟩ : Addr).add j) = some v := by
  subst hn
  intro j v hj
  match j, hj with
  | 0, hj => simp at hj; subst hj; simp [Addr.add]
  | j + 1, hj => simp at hj
end Go.Proofs.Ytpmmgplpmonolab
