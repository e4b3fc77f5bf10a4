/- What the proof of FnExactSubOk stands on, part 9 of 12: each piece says what it proves and under which conditions. Conditions: as each piece says. -/
import Derived.Test.YtkjlldbgooogdabPackExactSubOk8
import Derived.RangeFuncNested
import Derived.RangeFuncBound
import Derived.RangeFuncCalls
import Derived.RangeFuncLeaves
import Derived.Shelf.Abstract
import Derived.Shelf.RegionOpen
import Derived.WalkKit
import Derived.OwnWalkIn
import Derived.TacticsInMore
import Derived.LoopNIn
import Derived.LoopIn
import Derived.Maps.OwnIn
import Derived.Test.YtkjlldbgooogdabProg
import Derived.Deep.RegionHeld3
import GoSem.Claim
import Derived.Below
import Derived.Deep.Draws
import Derived.BigQuiet
import Derived.Deep.QuietTactic
import Derived.OpenShut
import Derived.ProofKit
import Derived.WalkSmall
import Derived.Maps.Own
import Derived.Maps.OwnOps
import Derived.Maps.OwnSet
import Derived.Maps.RangeWalk
import Derived.Laws.AppendOwn
import Derived.StringKeys
/- All terms within a term, in the order in which the program goes over them, and its stack of lists. Conditions: none. -/
namespace Go.Proofs.Ytkjlldbgooogdab
set_option maxRecDepth 100000
open Go.RowKit

mutual
/-- A term and all terms within it, a term ahead of its Kids. -/
def preT : TermD → List TermD
  | .mk f v ks => .mk f v ks :: preL ks
def preL : List TermD → List TermD
  | [] => []
  | t :: ts => preT t ++ preL ts
end
theorem preT_eq (t : TermD) : preT t = t :: preL t.kids := by cases t; rw [preT]; rfl
mutual
theorem preT_len : ∀ t : TermD, (preT t).length = partsT t
  | .mk f v ks => by have := preL_len ks; rw [preT, partsT, List.length_cons, this]
theorem preL_len : ∀ ts : List TermD, (preL ts).length = partsL ts
  | [] => by simp [preL, partsL]
  | t :: ts => by have h1 := preT_len t; have h2 := preL_len ts; rw [preL, partsL, List.length_append, h1, h2]
end
/-- How often variable v stands among terms. -/
def cntP (v : Int) (l : List TermD) : Nat := (l.filter fun x => x.f == -1 && x.v == v).length
theorem cntP_append (v : Int) (a b : List TermD) : cntP v (a ++ b) = cntP v a + cntP v b := by simp [cntP]
mutual
theorem cntP_pre (v : Int) : ∀ t : TermD, cntP v (preT t) = cntT v t
  | .mk f u ks => by
    have := cntP_preL v ks
    rw [preT, cntT, ← this, show TermD.mk f u ks :: preL ks = [TermD.mk f u ks] ++ preL ks from rfl, cntP_append]
    congr 1
    by_cases h1 : f = -1 <;> by_cases h2 : u = v <;> simp [cntP, TermD.f, TermD.v, h1, h2]
theorem cntP_preL (v : Int) : ∀ ts : List TermD, cntP v (preL ts) = cntL v ts
  | [] => by simp [preL, cntL, cntP]
  | t :: ts => by have h1 := cntP_pre v t; have h2 := cntP_preL v ts; rw [preL, cntL, cntP_append, h1, h2]
end

/-- What comes to the loop: a term, and where its Kids lie. -/
structure El where
  t : TermD
  a : Option Addr
  c : Nat
/-- As it comes. -/
def El.enc (x : El) : Array Value := #[.agg #[.int .i64 x.t.f, .int .i64 x.t.v, .slice x.a x.t.kids.length x.c]]

/-- One list on the stack. -/
structure LE where
  a : Option Addr
  c : Nat
  ts : List TermD
def cellsL : List LE → List Value
  | [] => []
  | e :: E => cellsL E ++ [.slice e.a e.ts.length e.c]
theorem cellsL_len (E : List LE) : (cellsL E).length = E.length * 1 := by
  induction E with
  | nil => rfl
  | cons e E ih => simp only [cellsL, List.length_append, ih, List.length_cons, List.length_nil]; omega
/-- All that is still to come. -/
def preS : List LE → List TermD
  | [] => []
  | e :: E => preL e.ts ++ preS E
def sizeL : List LE → Nat
  | [] => 0
  | e :: E => 2 * partsL e.ts + 1 + sizeL E
theorem sizeL_len (E : List LE) : E.length ≤ sizeL E := by
  induction E with
  | nil => simp
  | cons e E ih => simp only [sizeL, List.length_cons]; omega

theorem cellsL_top {w : World} {B T g c : Nat} {e : LE} {E : List LE} (h : w.ownsRow B T 1 (.slice (some ⟨g, 0, none⟩) (E.length + 1) c) (E.length + 1) (cellsL (e :: E))) :
    w.cell? ⟨g, E.length, none⟩ = some (.slice e.a e.ts.length e.c) := by
  have hl := cellsL_len E
  refine (h.cellAt _ (by omega)).trans ?_
  rw [cellsL, List.getElem?_append_right (by omega)]; simp [hl]
theorem cellsL_set {w : World} {B T g c : Nat} {e : LE} {E : List LE} (h : w.ownsRow B T 1 (.slice (some ⟨g, 0, none⟩) (E.length + 1) c) (E.length + 1) (cellsL (e :: E))) (d : LE) :
    (w.setCell ⟨g, E.length, none⟩ (.slice d.a d.ts.length d.c)).ownsRow B T 1 (.slice (some ⟨g, 0, none⟩) (E.length + 1) c) (E.length + 1) (cellsL (d :: E)) := by
  have hl := cellsL_len E
  have h1 := (h.stored E.length (.slice d.a d.ts.length d.c)).1
  have e1 : (cellsL (e :: E)).set E.length (.slice d.a d.ts.length d.c) = cellsL (d :: E) := by
    simp only [cellsL]
    rw [List.set_append_right _ _ (by omega)]
    simp [hl]
  rwa [e1] at h1
theorem cellsL_pop {w : World} {B T g c : Nat} {e : LE} {E : List LE} (h : w.ownsRow B T 1 (.slice (some ⟨g, 0, none⟩) (E.length + 1) c) (E.length + 1) (cellsL (e :: E))) :
    w.ownsRow B T 1 (.slice (some ⟨g, 0, none⟩) E.length c) E.length (cellsL E) := ownsRow_pop (cellsL_len E) h

/-- The blocks in which the terms lie. -/
def Rx (n B k : Nat) : Prop := k < n ∨ k = B

/-- The list at 'a' lies in wr, in a block of S; its terms' Kids lie in w0 below n. -/
def RdF (w0 : World) (n : Nat) (wr : World) (S : Nat → Prop) (a : Option Addr) (ts : List TermD) : Prop :=
  ts = [] ∨ ∃ (b off : Nat) (A : Nat → Option Addr) (C : Nat → Nat), a = some ⟨b, off, none⟩ ∧ S b ∧ (∀ i, (h : i < ts.length) → ts[i].kids.length ≤ C i) ∧
    (∀ i, (h : i < ts.length) → wr.cell? ⟨b, off + i * 3, none⟩ = some (.int .i64 ts[i].f) ∧ wr.cell? ⟨b, off + i * 3 + 1, none⟩ = some (.int .i64 ts[i].v) ∧ wr.cell? ⟨b, off + i * 3 + 2, none⟩ = some (.slice (A i) ts[i].kids.length (C i))) ∧
    (∀ i, (h : i < ts.length) → RdK w0 n (A i) ts[i].kids)
theorem RdF.stay {w0 wr wr' : World} {n : Nat} {S : Nat → Prop} {a : Option Addr} {ts : List TermD} (h : RdF w0 n wr S a ts) (hb : Stay S wr wr') : RdF w0 n wr' S a ts := by
  rcases h with h | ⟨b, off, A, C, h1, h2, h3, h4, h5⟩
  · exact .inl h
  · refine .inr ⟨b, off, A, C, h1, h2, h3, fun i hi => ?_, h5⟩
    obtain ⟨q0, q1, q2⟩ := h4 i hi
    exact ⟨hb.cell q0 h2, hb.cell q1 h2, hb.cell q2 h2⟩
theorem RdF.head {w0 wr : World} {n : Nat} {S : Nat → Prop} {a : Option Addr} {t : TermD} {ts : List TermD} (h : RdF w0 n wr S a (t :: ts)) :
    ∃ b off a' c', a = some ⟨b, off, none⟩ ∧ S b ∧ wr.cell? ⟨b, off, none⟩ = some (.int .i64 t.f) ∧ wr.cell? ⟨b, off + 1, none⟩ = some (.int .i64 t.v) ∧ wr.cell? ⟨b, off + 2, none⟩ = some (.slice a' t.kids.length c') ∧ t.kids.length ≤ c' ∧ RdK w0 n a' t.kids := by
  rcases h with h | ⟨b, off, A, C, h1, h2, h3, h4, h5⟩
  · simp at h
  · have q := h4 0 (by simp)
    simp only [Nat.zero_mul, Nat.add_zero, List.getElem_cons_zero] at q
    exact ⟨b, off, A 0, C 0, h1, h2, q.1, q.2.1, q.2.2, h3 0 (by simp), h5 0 (by simp)⟩
theorem RdF.tailA {w0 wr : World} {n : Nat} {S : Nat → Prop} {b off : Nat} {t : TermD} {ts : List TermD} (h : RdF w0 n wr S (some ⟨b, off, none⟩) (t :: ts)) {c : Nat} (hc : ts.length + 1 ≤ c) : RdF w0 n wr S (tailA b off c) ts := by
  rcases h with h | ⟨b', off', A, C, h1, h2, h3, h4, h5⟩
  · simp at h
  · cases h1
    unfold Go.Proofs.Ytkjlldbgooogdab.tailA
    split
    · exact .inl (List.eq_nil_of_length_eq_zero (by omega))
    · refine .inr ⟨b, off + 3, fun i => A (i + 1), fun i => C (i + 1), rfl, h2, fun i hi => ?_, fun i hi => ?_, fun i hi => ?_⟩
      · have := h3 (i + 1) (by simpa using hi); simpa using this
      · have := h4 (i + 1) (by simpa using hi)
        rw [show off + (i + 1) * 3 = off + 3 + i * 3 by omega] at this
        simpa using this
      · have := h5 (i + 1) (by simpa using hi); simpa using this
theorem RdK.f {w0 wr : World} {n : Nat} {S : Nat → Prop} {a : Option Addr} {ts : List TermD} (h : RdK w0 n a ts) (he : ∀ k, k < n → wr.heap[k]? = w0.heap[k]?) (hs : ∀ k, k < n → S k) : RdF w0 n wr S a ts := by
  cases h with
  | nil a => exact .inl rfl
  | row b off ts A C hlt hl hz hc hk =>
    refine .inr ⟨b, off, A, C, rfl, hs _ hlt, hl.2, fun i hi => ?_, hk⟩
    obtain ⟨q0, q1, q2⟩ := hc i hi
    exact ⟨(World.cell?_of_block (he b hlt)).trans q0, (World.cell?_of_block (he b hlt)).trans q1, (World.cell?_of_block (he b hlt)).trans q2⟩
/-- It read so before what came behind it was laid. -/
theorem RdK.back {w w' : World} {hi : Nat} {a : Option Addr} {ts : List TermD} (h : RdK w' hi a ts) (hb : ∀ k, k < hi → w'.heap[k]? = w.heap[k]?) : RdK w hi a ts := by
  induction h with
  | nil a => exact .nil a
  | row b off ts A C hlt hl hz hc hk ih =>
    refine .row b off ts A C hlt hl hz (fun i h => ?_) ih
    obtain ⟨h0, h1, h2⟩ := hc i h
    exact ⟨(World.cell?_of_block (hb b hlt).symm).trans h0, (World.cell?_of_block (hb b hlt).symm).trans h1, (World.cell?_of_block (hb b hlt).symm).trans h2⟩

/-- The iterator's own memory, apart from the blocks of S. -/
structure WSt (w0 : World) (n B T : Nat) (S : Nat → Prop) (E : List LE) (v : Value) (wr : World) : Prop where
  row : wr.ownsRow n T 1 v E.length (cellsL E)
  own : ∀ g, v.ownBlock = some g → ¬ S g ∧ g ≠ B
  nB : ¬ S B
  lB : B < wr.heap.size
  nle : n ≤ B
  good : ∀ e ∈ E, RdF w0 n wr (Rx n B) e.a e.ts ∧ e.ts.length ≤ e.c
  same : ∀ k, k < n → wr.heap[k]? = w0.heap[k]?

namespace WSt
variable {w0 : World} {n B T : Nat} {S S' : Nat → Prop} {E : List LE} {v : Value} {wr wr' : World}

theorem out (h : WSt w0 n B T S E v wr) : ∀ g, v.ownBlock = some g → ¬ Rx n B g := fun g hg hx => hx.elim (fun h1 => by have := (h.row.lt g hg).1; omega) (h.own g hg).2

/-- New blocks alone. -/
theorem on (h : WSt w0 n B T S E v wr) (hb : Below wr.heap.size wr wr') : WSt w0 n B T S E v wr' :=
  ⟨own_on h.row hb, h.own, h.nB, Nat.lt_of_lt_of_le h.lB hb.size, h.nle, fun e he => ⟨(h.good e he).1.stay (.of_below hb (fun _ hk _ => hk)), (h.good e he).2⟩, fun k hk => (hb.block k (by have := h.lB; have := h.nle; omega)).trans (h.same k hk)⟩

/-- Over a round: the body turns nothing below n, nor outside S. -/
theorem round (h : WSt w0 n B T S E v wr) (hs : Stay (fun k => k < n ∨ ¬ S k) wr wr') (hS : ∀ k, S' k → S k ∨ wr.heap.size ≤ k) : WSt w0 n B T S' E v wr' := by
  have hl := h.row.lt
  refine ⟨own_stay h.row hs (fun g hg => .inr (h.own g hg).1), fun g hg => ⟨fun hg' => ?_, (h.own g hg).2⟩, fun hB => ?_, Nat.lt_of_lt_of_le h.lB hs.size, h.nle, fun e he => ⟨(h.good e he).1.stay (hs.weak (fun _ _ hk => hk.elim .inl (fun e => .inr (e ▸ h.nB)))), (h.good e he).2⟩, fun k hk => (hs.block k (by have := h.lB; have := h.nle; omega) (.inl hk)).trans (h.same k hk)⟩
  · rcases hS g hg' with h1 | h1
    · exact (h.own g hg).1 h1
    · have := (hl g hg).2; omega
  · rcases hS B hB with h1 | h1
    · exact h.nB h1
    · have := h.lB; omega

theorem pop {g c : Nat} {e : LE} (h : WSt w0 n B T S (e :: E) (.slice (some ⟨g, 0, none⟩) (E.length + 1) c) wr) : WSt w0 n B T S E (.slice (some ⟨g, 0, none⟩) E.length c) wr :=
  ⟨cellsL_pop h.row, fun g' hg => h.own g' hg, h.nB, h.lB, h.nle, fun e he => h.good e (by simp [he]), h.same⟩

theorem set {g c : Nat} {e d : LE} (h : WSt w0 n B T S (e :: E) (.slice (some ⟨g, 0, none⟩) (E.length + 1) c) wr) (hd : RdF w0 n wr (Rx n B) d.a d.ts ∧ d.ts.length ≤ d.c) :
    WSt w0 n B T S (d :: E) (.slice (some ⟨g, 0, none⟩) (E.length + 1) c) (wr.setCell ⟨g, E.length, none⟩ (.slice d.a d.ts.length d.c)) := by
  have hs : Stay (Rx n B) wr (wr.setCell ⟨g, E.length, none⟩ (.slice d.a d.ts.length d.c)) := Stay.setCell _ _ (h.out g rfl)
  refine ⟨cellsL_set h.row d, h.own, h.nB, Nat.lt_of_lt_of_le h.lB hs.size, h.nle, fun f hf => ?_, fun k hk => (hs.block k (by have := h.lB; have := h.nle; omega) (.inl hk)).trans (h.same k hk)⟩
  rcases List.mem_cons.1 hf with rfl | hf
  · exact ⟨hd.1.stay hs, hd.2⟩
  · exact ⟨(h.good f (by simp [hf])).1.stay hs, (h.good f (by simp [hf])).2⟩

theorem push {v' : Value} {d : LE} (h : WSt w0 n B T S E v wr) (hS : ∀ k, S k → k < wr.heap.size) (hrow : wr'.ownsRow n T 1 v' (E.length + 1) (cellsL E ++ [.slice d.a d.ts.length d.c])) (hg : wr.grownBy wr' v.ownBlock) (hv : v'.ownBlock = v.ownBlock ∨ v'.ownBlock = some wr.heap.size) (hd : RdF w0 n wr (Rx n B) d.a d.ts ∧ d.ts.length ≤ d.c) :
    WSt w0 n B T S (d :: E) v' wr' := by
  have hs : Stay (Rx n B) wr wr' := .grown hg (fun k hk => h.out k hk)
  refine ⟨hrow, fun g hg' => ?_, h.nB, Nat.lt_of_lt_of_le h.lB hs.size, h.nle, fun f hf => ?_, fun k hk => (hs.block k (by have := h.lB; have := h.nle; omega) (.inl hk)).trans (h.same k hk)⟩
  · rcases hv with e | e
    · exact h.own g (e ▸ hg')
    · rw [hg'] at e
      cases e
      exact ⟨fun h1 => by have := hS _ h1; omega, fun e => by have := h.lB; omega⟩
  · rcases List.mem_cons.1 hf with rfl | hf
    · exact ⟨hd.1.stay hs, hd.2⟩
    · exact ⟨(h.good f hf).1.stay hs, (h.good f hf).2⟩
end WSt

theorem one_slice (x : Option Addr) (l c : Nat) : ∀ u ∈ [Value.slice x l c], u.oneCell' = true := by
  intro u hu; simp at hu; subst hu; rfl
theorem one_new1 (w : World) (u : Value) (t : TypeId) (n : Nat) (hn : n = w.heap.size) : ∀ j v, [u][j]? = some v → (w.alloc (.cells #[u] t)).cell? ((⟨n, 0, none⟩ : Addr).add j) = some v := by
  subst hn
  intro j v hj
  match j, hj with
  | 0, hj => simp at hj; subst hj; simp [Addr.add]
  | j + 1, hj => simp at hj
end Go.Proofs.Ytkjlldbgooogdab

/- The program's iterator over all terms within a term: its contract. Conditions: terms of at most 4194304 parts. -/
namespace Go.Proofs.Ytkjlldbgooogdab
set_option maxRecDepth 100000
open Go.RowKit Go.Shelf
attribute [local go_sem] Oper.semAt_some

theorem info24 : (Try.prog.info? 26).map (fun i => (i.zero, i.size, i.bytes)) = some (some (.slice none 0 0), 1, 24) := by kernel_rfl

/-- What comes next: a term within t, all ahead of it having come; its Kids read. -/
def InT (w : World) (n₀ : Nat) (t : TermD) (pre : List El) (x : El) : Prop := (∃ r, pre.map El.t ++ x.t :: r = preT t) ∧ RdK w n₀ x.a x.t.kids ∧ x.t.kids.length ≤ x.c

/-- What holds between two rounds. -/
structure WRel (w0 : World) (n B M : Nat) (t : TermD) (J : List El → (Nat → Prop) → World → Prop) (pre : List El) (S : Nat → Prop) (E : List LE) (v : Value) (wr : World) : Prop where
  st : WSt w0 n B 26 S E v wr
  j : J pre S wr
  got : pre.map El.t ++ preS E = preT t
  size : sizeL E ≤ M

theorem with_start {t : TermD} {a : Option Addr} {c hi n : Nat} {w W : World} {S : Nat → Prop} (hc : t.kids.length ≤ c) (hr : RdK w hi a t.kids) (hhi : hi ≤ n) (hn : n ≤ w.heap.size) (hbW : Below w.heap.size w W) (hS : ∀ k, S k → k < W.heap.size) :
    WSt w n W.heap.size 26 S [⟨some ⟨W.heap.size, 0, none⟩, 1, [t]⟩] (.slice (some ⟨W.heap.size + 1, 0, none⟩) 1 1) ((W.alloc (.cells #[.int .i64 t.f, .int .i64 t.v, .slice a t.kids.length c] 28)).alloc (.cells #[.slice (some ⟨W.heap.size, 0, none⟩) 1 1] 26)) := by
  have hrow := World.ownsRow_lit (base := n) (size := 1) (e := 26) (W.alloc (.cells #[.int .i64 t.f, .int .i64 t.v, .slice a t.kids.length c] 28)) #[.slice (some ⟨W.heap.size, 0, none⟩) 1 1] 1 (by simp; have := hbW.size; omega) (by unfold maxLen; omega) rfl
  rw [World.size_alloc] at hrow
  have hb : Below W.heap.size W ((W.alloc (.cells #[.int .i64 t.f, .int .i64 t.v, .slice a t.kids.length c] 28)).alloc (.cells #[.slice (some ⟨W.heap.size, 0, none⟩) 1 1] 26)) := ((Below.refl _ _).alloc (Nat.le_refl _) _).alloc (by simp) _
  refine ⟨hrow, fun g hg => ?_, fun h => by have := hS _ h; omega, by simp; omega, Nat.le_trans hn hbW.size, fun e he => ?_, fun k hk => (hb.block k (by have := hbW.size; omega)).trans (hbW.block k (by omega))⟩
  · have e : W.heap.size + 1 = g := by simpa [Value.ownBlock] using hg
    subst e
    exact ⟨fun h => by have := hS _ h; omega, by omega⟩
  · simp only [List.mem_singleton] at he
    subst he
    refine ⟨.inr ⟨W.heap.size, 0, fun _ => a, fun _ => c, rfl, .inr rfl, fun i hi => ?_, fun i hi => ?_, fun i hi => ?_⟩, Nat.le_refl _⟩
    all_goals
      have e : i = 0 := by simp at hi; omega
      subst e
      simp only [List.getElem_cons_zero]
    · exact hc
    · simp [go_sem]
    · exact hr.mono hhi

set_option maxHeartbeats 3200000 in
set_option maxRecDepth 100000 in
theorem within_seq (F : Fence) (n : Nat) (h64 : F.fn 94) (hro : F.round = none) (hn : 1 ≤ n) (w : World) (t : TermD) (a : Option Addr) (c hi n₀ Bt : Nat) (hp : partsT t ≤ 4194304) (hc : t.kids.length ≤ c) (hr : RdK w hi a t.kids) (hhi : hi ≤ n₀) (hn₀ : n₀ ≤ w.heap.size)
    (b0 : w.cell? ⟨Bt, 0, none⟩ = some (.int .i64 t.f)) (b1 : w.cell? ⟨Bt, 1, none⟩ = some (.int .i64 t.v)) (b2 : w.cell? ⟨Bt, 2, none⟩ = some (.slice a t.kids.length c)) :
    SeqPriv F n Try.prog 94 #[.pointer (some ⟨Bt, 0, none⟩)] El.enc n₀ (fun xs => xs.map El.t = preT t) (fun pre => ∃ r, pre.map El.t ++ r = preT t) (InT w n₀ t) (partsT t) w := by
  intro l J Jx S₀ W hbW hJ hJx hJb hY h0
  obtain ⟨i0, hi0, hz0, hz1, hz2⟩ := info_parts info24
  have c0 := keepC hbW b0
  have c1 := keepC hbW b1
  have c2 := keepC hbW b2
  refine callsIn_of_wp Try.func94 rfl h64 ?_ hro
  simp only [Try.ntmps94, List.size_toArray, List.length_cons, List.length_nil, Nat.reduceAdd, Nat.reduceSub, Array.replicate_succ, Array.replicate_zero, List.push_toArray, List.append_toArray, List.nil_append, List.cons_append]
  have st0 := with_start (S := S₀) hc hr hhi hn₀ hbW (hJb _ _ _ h0)
  have R0 : WRel w n₀ W.heap.size (2 * partsT t + 1) t J [] S₀ [⟨some ⟨W.heap.size, 0, none⟩, 1, [t]⟩] (.slice (some ⟨W.heap.size + 1, 0, none⟩) 1 1) ((W.alloc (.cells #[.int .i64 t.f, .int .i64 t.v, .slice a t.kids.length c] 28)).alloc (.cells #[.slice (some ⟨W.heap.size, 0, none⟩) 1 1] 26)) :=
    ⟨st0, hJ _ _ _ _ (hJ _ _ _ _ h0 (.alloc _ _ _)) (.alloc _ _ _), by simp [preS, preL], by simp [sizeL, partsL]⟩
  have HM : Hid (2 * partsT t + 1 ≤ 8388609) := (by omega : 2 * partsT t + 1 ≤ 8388609)
  have HJ : Hid (∀ pre S A B, J pre S A → Stay S A B → J pre S B) := hJ
  have HJB : Hid (∀ pre S A, J pre S A → ∀ k, S k → k < A.heap.size) := hJb
  have HY : Hid (∀ pre x S A, J pre S A → pre.length < partsT t → InT w n₀ t pre x → YieldAt F (n - 1) Try.prog l (El.enc x) A fun e B =>
      (e = .returned (.bool true) ∧ ∃ S', J (pre ++ [x]) S' B ∧ (∀ k, S' k → S k ∨ A.heap.size ≤ k) ∧ Stay (fun k => k < n₀ ∨ ¬ S k) A B) ∨
      (e = .returned (.bool false) ∧ ∃ S', Jx (pre ++ [x]) S' B)) := hY
  clear hJ hJx hJb hY h0 st0 b0 b1 b2 hr hp hc hhi
  have HPT : Hid ((preT t).length = partsT t) := preT_len t
  generalize 2 * partsT t + 1 = M at *
  gi_wp2
  clear c0 c1 c2
  generalize W.heap.size = B at *
  gi_loopw [3] (fun v wr => ∃ pre S E, WRel w n₀ B M t J pre S E v wr) (fun v wr => leastN (fun m => ∃ pre S E, WRel w n₀ B M t J pre S E v wr ∧ sizeL E = m))
  case atStart => exact ⟨_, _, _, R0⟩
  case round =>
    obtain ⟨pre1, S1, E1, R1⟩ := hrel
    obtain ⟨m0, ⟨pre, S, E, R, hm0⟩, hmin⟩ := leastN_spec (p := fun m => ∃ pre S E, WRel w n₀ B M t J pre S E u3 wr ∧ sizeL E = m) ⟨_, pre1, S1, E1, R1, rfl⟩
    clear R1 R0
    obtain ⟨st, hj, hgot, hsz⟩ := R
    cases E with
    | nil =>
      obtain ⟨a5, c5, rfl, _⟩ := own_form st.row
      have HG : Hid (pre.map El.t = preT t) := by show _ = _; simpa [preS] using hgot
      clear st hmin hm0 hgot
      gi_wp2
      go_end0
      exact ⟨⟨_, rfl⟩, .inl ⟨pre, S, HG.out, hj⟩⟩
    | cons e E =>
      obtain ⟨g, cap, rfl, hcap, hg0, hgl⟩ := own_slot st.row
      have q0 := cellsL_top st.row
      obtain ⟨hrd, hlec⟩ := st.good e (by simp)
      have hlen := sizeL_len (e :: E)
      have HM' := HM.out
      have hEl : E.length ≤ 8388608 := by simp only [List.length_cons] at hlen; omega
      have hEi : (E.length : Int) ≤ cap := by omega
      clear hlen HM'
      obtain ⟨ea, ec, ets⟩ := e
      cases ets with
      | nil =>
        have R' : WRel w n₀ B M t J pre S E (.slice (some ⟨g, 0, none⟩) E.length cap) wr := ⟨st.pop, hj, by simpa [preS, preL] using hgot, by simp only [sizeL] at hsz; omega⟩
        have Q0 : Hid (sizeL E < m0) := by show _ < _; rw [← hm0]; simp only [sizeL]; omega
        simp only [List.length_nil] at q0
        clear st hgot hj hsz hm0 hrd hlec
        gi_wp2
        go_roundw
        case rel => exact ⟨_, _, _, R'⟩
        case measure => exact Nat.lt_of_le_of_lt (leastN_le ⟨_, _, _, R', rfl⟩) (by rw [hmin]; exact Q0.out)
      | cons x xs =>
        obtain ⟨b, off, xa, xc, hb, hSb, x0, x1, x2, hxc, hxr⟩ := hrd.head
        simp only at hb
        subst hb
        simp only [List.length_cons] at q0 hlec
        have hgg := st.out g rfl
        have hSg := (st.own g rfl).1
        have hbg : b ≠ g := fun e => hgg (e ▸ hSb)
        have hbl : b < wr.heap.size := World.block_lt_of_cell? _ _ x0
        have hbk : (0 : Int) ≤ E.length := by omega
        have hs1 := slice_tail b off xs.length ec
        have hs3 := sliceAt_tail b off xs.length ec
        have fz : ∀ j, wr.frozen? ⟨g, j, none⟩ = false := fun j => st.row.frozenAt j
        obtain ⟨W2, hW2⟩ : ∃ W2, W2 = wr.setCell ⟨g, E.length, none⟩ (.slice (tailA b off ec) xs.length (ec - 1)) := ⟨_, rfl⟩
        have hz2' : W2.heap.size = wr.heap.size := by rw [hW2]; simp
        have st2 : WSt w n₀ B 26 S (⟨tailA b off ec, ec - 1, xs⟩ :: E) (.slice (some ⟨g, 0, none⟩) (E.length + 1) cap) W2 := by
          rw [hW2]; exact st.set (d := ⟨tailA b off ec, ec - 1, xs⟩) ⟨hrd.tailA hlec, by simp only; omega⟩
        obtain ⟨W3, hW3⟩ : ∃ W3, W3 = W2.alloc (.cells #[.int .i64 x.f, .int .i64 x.v, .slice xa x.kids.length xc] 28) := ⟨_, rfl⟩
        have hb3 : Below W2.heap.size W2 W3 := by rw [hW3]; exact (Below.refl _ _).alloc (Nat.le_refl _) _
        have hz3 : W3.heap.size = wr.heap.size + 1 := by rw [hW3, ← hz2']; simp
        have st3 := st2.on hb3
        have hj3 : J pre S W3 := by
          rw [hW3, hW2]; exact HJ.out _ _ _ _ (HJ.out _ _ _ _ hj (.setCell _ _ hSg)) (.alloc _ _ _)
        have hSk := HJB.out _ _ _ hj
        have nbn : ¬ S wr.heap.size := fun h => by have := hSk _ h; omega
        have X0 : W3.cell? ⟨wr.heap.size, 0, none⟩ = some (.int .i64 x.f) ∧ W3.cell? ⟨wr.heap.size, 1, none⟩ = some (.int .i64 x.v) ∧ W3.cell? ⟨wr.heap.size, 2, none⟩ = some (.slice xa x.kids.length xc) := by
          rw [hW3, ← hz2']; simp [go_sem]
        have hxr3 : Hid (RdK w n₀ xa x.kids) := hxr
        have hin : InT w n₀ t pre ⟨x, xa, xc⟩ := ⟨⟨preL x.kids ++ (preL xs ++ preS E), by rw [← hgot]; simp [preS, preL, preT_eq]⟩, hxr, hxc⟩
        have HG : Hid ((pre ++ [(⟨x, xa, xc⟩ : El)]).map El.t ++ (preL x.kids ++ (preL xs ++ preS E)) = preT t) := by
          show _ = _
          rw [← hgot]; simp [preS, preL, preT_eq]
        have HS : Hid (sizeL (⟨xa, xc, x.kids⟩ :: ⟨tailA b off ec, ec - 1, xs⟩ :: E) < m0) := by show _ < _; rw [← hm0]; simp only [sizeL, partsL, partsT_eq]; omega
        have HS2 : Hid (m0 ≤ M) := by show _ ≤ _; rw [← hm0]; exact hsz
        have hpl : pre.length < partsT t := by rw [← HPT.out, ← hgot]; simp [preS, preL, preT_eq]
        obtain ⟨fn, tmps, assign, body, hy, hR⟩ := HY.out pre ⟨x, xa, xc⟩ S W3 hj3 hpl hin
        clear hin
        dsimp only [El.enc] at hy
        rw [hW2] at hW3
        rw [hW3] at hy
        clear st hj hgot hsz hm0 hrd st2 hxr hj3 hSk hb3 hz2' hW2
        gi_wp2
        rw [← hW3]
        refine hR.mono ?_
        rintro e W4 (⟨rfl, S', hj4, hsub, hst4⟩ | ⟨rfl, S', hjx⟩)
        · have st4 := st3.round hst4 hsub
          have X0 := hst4.cell X0.2.2 (.inr nbn)
          have HSk : Hid (∀ k, S' k → k < W4.heap.size) := HJB.out _ _ _ hj4
          have hE2 : E.length + 1 + 1 ≤ 8388610 := by omega
          have hn4 : n₀ ≤ W4.heap.size := Nat.le_trans st4.nle (Nat.le_of_lt st4.lB)
          clear hy hR hW3 hsub hst4 st3 q0 hs1 hs3 fz hz3
          gi_wp2_with (gi_at_builtin; refine wpListIn_append_own_at _ rfl (.tmp 42) (.tmp 45) 134 rfl n₀ 26 i0 _ 1 24 Try.underlying134 hi0 hz0 hz1 hz2 rfl (by decide) _ _ _ rfl (st4.row.alloc _) ⟨W4.heap.size, 0, none⟩ 1 1 _ rfl rfl (one_new1 _ _ _ _ rfl) (one_slice _ _ _) (by unfold maxLen; simp only [List.length_cons]; omega) (by simp only [List.length_cons]; omega) (by simp; omega) ?_; intro v6 w6 hown6 hgrow6 hnil6 hat6; clear hnil6)
          have st6 := (st4.on ((Below.refl _ _).alloc (Nat.le_refl _) _)).push (d := ⟨xa, xc, x.kids⟩) (fun k h => by have := HSk.out k h; simp; omega) hown6 hgrow6 hat6 ⟨hxr3.out.f (st4.on ((Below.refl _ _).alloc (Nat.le_refl _) _)).same (fun k hk => .inl hk), hxc⟩
          have hj6 := HJ.out _ _ _ _ (HJ.out _ _ _ _ hj4 (.alloc _ _ _)) (.grown hgrow6 (fun k hk => (st4.own k hk).1))
          have R6 : WRel w n₀ B M t J _ S' _ v6 w6 := ⟨st6, hj6, HG.out, by have h1 := HS.out; have h2 := HS2.out; exact Nat.le_of_lt (Nat.lt_of_lt_of_le h1 h2)⟩
          clear st4 st6 hj6 hown6 hgrow6 hat6 hxr3
          go_roundw
          case rel => exact ⟨_, _, _, R6⟩
          case measure => exact Nat.lt_of_le_of_lt (leastN_le ⟨_, _, _, R6, rfl⟩) (by rw [hmin]; exact HS.out)
        · clear hy hR hW3 st3 hxr3 q0 hs1 hs3 fz hz3
          gi_wp2
          refine bodyPost_ret (results_none rfl _ _ _) rfl ?_
          exact ⟨⟨_, rfl⟩, .inr ⟨_, S', ⟨_, HG.out⟩, hjx⟩⟩
end Go.Proofs.Ytkjlldbgooogdab

/- Whether a term is a variable, and which, as the program tells it by a type switch. Conditions: none. -/
namespace Go.Proofs.Ytkjlldbgooogdab
set_option maxRecDepth 100000
open Go.RowKit

theorem pieceOf_var (t : TermD) (a : Option Addr) (n c : Nat) (w : World) (h : t.f = -1) :
    Calls Try.prog 97 #[.agg #[.int .i64 t.f, .int .i64 t.v, .slice a n c]] w fun e w' => e = .returned (.iface 140 (.agg #[.int .i64 t.v])) ∧ Below w.heap.size w w' := by
  go_enter Try.func97, Try.ntmps97
  go_wp2
  go_ret
  exact ⟨rfl, (Below.refl _ _).alloc (Nat.le_refl _) _⟩

theorem pieceOf_fun (t : TermD) (a : Option Addr) (n c : Nat) (w : World) (h : (t.f == -1) = false) :
    Calls Try.prog 97 #[.agg #[.int .i64 t.f, .int .i64 t.v, .slice a n c]] w fun e w' => e = .returned (.iface 160 (.agg #[.int .i64 t.f, .slice a n c])) ∧ Below w.heap.size w w' := by
  go_enter Try.func97, Try.ntmps97
  go_wp2
  go_ret
  exact ⟨rfl, (Below.refl _ _).alloc (Nat.le_refl _) _⟩

theorem ta_hit (v : Value) (w : World) : (Instr.typeAssert (.iface 140 v) 137 140 true).run Try.prog w = .ok (.tuple #[v, .bool true]) w := by
  simp [Instr.typeAssert, run_underlying Try.underlying140, go_sem]
theorem ta_miss (v : Value) (w : World) : (Instr.typeAssert (.iface 160 v) 137 140 true).run Try.prog w = .ok (.tuple #[.agg #[.int .i64 0], .bool false]) w := by
  have hz : (zeroValue 140).run Try.prog w = .ok (.agg #[.int .i64 0]) w := by simp [go_sem]
  simp [Instr.typeAssert, run_underlying Try.underlying140, go_sem, hz]

/-- What is told of a term: its number where it is a variable. -/
def vofI (t : TermD) : Int := if t.f = -1 then t.v else 0
def vofB (t : TermD) : Bool := t.f == -1
theorem rtT {a b : Int} {p q : Bool} (h : a = b) (h' : p = q) : Ending.returned (.tuple #[.int .i64 a, .bool p]) = .returned (.tuple #[.int .i64 b, .bool q]) := by rw [h, h']

set_option maxHeartbeats 1600000 in
set_option maxRecDepth 100000 in
theorem variableOf_any (t : TermD) (a : Option Addr) (n c : Nat) (w : World) :
    Calls Try.prog 82 #[.agg #[.int .i64 t.f, .int .i64 t.v, .slice a n c]] w fun e w' => e = .returned (.tuple #[.int .i64 (vofI t), .bool (vofB t)]) ∧ Below w.heap.size w w' := by
  by_cases h : t.f = -1
  · have HI : Hid (vofI t = t.v) := by show _ = _; simp [vofI, h]
    have HB : Hid (vofB t = true) := by show _ = _; simp [vofB, h]
    have C := fun w => pieceOf_var t a n c w h
    clear h
    have hA := ta_hit
    go_enter Try.func82, Try.ntmps82
    go_wp2_with (go_at_call 97; refine (C _).mono ?_; rintro e w1 ⟨rfl, hb1⟩; clear C)
    go_ret2
    have h0 : Below w.heap.size w w1 := ((Below.refl _ _).alloc (Nat.le_refl _) _).trans (hb1.mono (by simp))
    exact ⟨rtT HI.out.symm HB.out.symm, h0.alloc h0.size _⟩
  · have h' : (t.f == -1) = false := by simp [h]
    have HI : Hid (vofI t = 0) := by show _ = _; simp [vofI, h]
    have HB : Hid (vofB t = false) := by show _ = _; simp [vofB, h]
    have C := fun w => pieceOf_fun t a n c w h'
    clear h h'
    have hA := ta_miss
    go_enter Try.func82, Try.ntmps82
    go_wp2_with (go_at_call 97; refine (C _).mono ?_; rintro e w1 ⟨rfl, hb1⟩; clear C)
    go_ret2
    exact ⟨rtT HI.out.symm HB.out.symm, ((Below.refl _ _).alloc (Nat.le_refl _) _).trans (hb1.mono (by simp))⟩
end Go.Proofs.Ytkjlldbgooogdab

/- The program makes an iterator over a term. Conditions: none. -/
namespace Go.Proofs.Ytkjlldbgooogdab
set_option maxRecDepth 100000
open Go.RowKit Go.Shelf
attribute [local go_sem] Oper.semAt_some

theorem within_any (t : TermD) (a : Option Addr) (c : Nat) (w : World) :
    Calls Try.prog 80 #[.agg #[.int .i64 t.f, .int .i64 t.v, .slice a t.kids.length c]] w fun e w' => e = .returned (.func (.func 94) #[] #[.pointer (some ⟨w.heap.size, 0, none⟩)]) ∧ w' = w.alloc (.cells #[.int .i64 t.f, .int .i64 t.v, .slice a t.kids.length c] 28) := by
  generalize t.kids.length = n at *
  go_enter Try.func80, Try.ntmps80
  go_wp2
  go_ret
  exact ⟨rfl, rfl⟩

end Go.Proofs.Ytkjlldbgooogdab

/- A round's own variable. Conditions: none. -/
namespace Go.Proofs.Ytkjlldbgooogdab
set_option maxRecDepth 100000
open Go.RowKit
/-- The round's own variable lies in a block of its own. -/
structure BoxEl (x : El) (Bx : Nat) (S : Nat → Prop) (W : World) : Prop where
  s : S Bx
  c0 : W.cell? ⟨Bx, 0, none⟩ = some (.int .i64 x.t.f)
  c1 : W.cell? ⟨Bx, 1, none⟩ = some (.int .i64 x.t.v)
  c2 : W.cell? ⟨Bx, 2, none⟩ = some (.slice x.a x.t.kids.length x.c)
theorem BoxEl.stay {x : El} {Bx : Nat} {S : Nat → Prop} {A B : World} (h : BoxEl x Bx S A) (hs : Stay S A B) : BoxEl x Bx S B := ⟨h.s, hs.cell h.c0 h.s, hs.cell h.c1 h.s, hs.cell h.c2 h.s⟩
end Go.Proofs.Ytkjlldbgooogdab

/- Whether a term has at most 60 parts, as the program tells it: it stops at the first one too many. Conditions: terms of at most 4194304 parts. -/
namespace Go.Proofs.Ytkjlldbgooogdab
set_option maxRecDepth 100000
open Go.RowKit Go.Shelf
attribute [local go_sem] Oper.semAt_some

/-- What the loop holds between two rounds. -/
structure FInv (w W0 : World) (pre : List El) (S : Nat → Prop) (W : World) : Prop where
  lo : ∀ k, k < W0.heap.size → S k
  hi : ∀ k, S k → k < W.heap.size
  r : W.cell? ⟨w.heap.size + 1, 0, none⟩ = some (.bool false)
  f : W.frozen? ⟨w.heap.size + 1, 0, none⟩ = false
  n : W.cell? ⟨w.heap.size + 1 + 1, 0, none⟩ = some (.int .i64 (pre.length : Int))
  g : W.frozen? ⟨w.heap.size + 1 + 1, 0, none⟩ = false
  b : Below w.heap.size w W
  z : w.heap.size + 1 + 1 < W0.heap.size
  le : pre.length ≤ 60
theorem FInv.stay {w W0 A B : World} {pre : List El} {S : Nat → Prop} (h : FInv w W0 pre S A) (hs : Stay S A B) : FInv w W0 pre S B := by
  have hz := h.z
  exact ⟨h.lo, fun k hk => Nat.lt_of_lt_of_le (h.hi k hk) hs.size, hs.cell h.r (h.lo _ (by simp only; omega)), (hs.frozen (World.block_lt_of_cell? _ _ h.r) (h.lo _ (by simp only; omega))).trans h.f, hs.cell h.n (h.lo _ hz), (hs.frozen (World.block_lt_of_cell? _ _ h.n) (h.lo _ hz)).trans h.g, h.b.trans (hs.below h.b.size (fun k hk => h.lo k (by omega))), hz, h.le⟩
/-- What is left where there was one too many. -/
structure FOut (w W0 : World) (pre : List El) (S : Nat → Prop) (W : World) : Prop where
  lo : ∀ k, k < W0.heap.size → S k
  r : W.cell? ⟨w.heap.size + 1, 0, none⟩ = some (.bool false)
  b : Below w.heap.size w W
  z : w.heap.size + 1 + 1 < W0.heap.size
  hit : 60 < pre.length
theorem FOut.stay {w W0 A B : World} {pre : List El} {S : Nat → Prop} (h : FOut w W0 pre S A) (hs : Stay S A B) : FOut w W0 pre S B := by
  have hz := h.z
  exact ⟨h.lo, hs.cell h.r (h.lo _ (by simp only; omega)), h.b.trans (hs.below h.b.size (fun k hk => h.lo k (by omega))), hz, h.hit⟩

set_option maxHeartbeats 3200000 in
theorem fewParts_any (t : TermD) (a : Option Addr) (c hi : Nat) (w : World) (hp : partsT t ≤ 4194304) (hr : RdK w hi a t.kids) (hhi : hi ≤ w.heap.size) (hc : t.kids.length ≤ c) :
    Calls Try.prog 79 #[.agg #[.int .i64 t.f, .int .i64 t.v, .slice a t.kids.length c]] w fun e w' => e = .returned (.bool (decide (partsT t ≤ 60))) ∧ Below w.heap.size w w' := by
  refine (callsIn_wide (n := 5)).1 ?_
  refine callsIn_of_wp_marks Try.func79 rfl trivial ?_ rfl
  simp only [Try.ntmps79, List.size_toArray, List.length_cons, List.length_nil, Nat.reduceAdd, Nat.reduceSub, Array.replicate_succ, Array.replicate_zero, List.push_toArray, List.append_toArray, List.nil_append, List.cons_append]
  gi_wp2_with (refine ⟨trivial, ?_⟩; gi_at_call 80; refine (callsIn_wide.2 (within_any t a c _)).mono ?_; rintro e w' ⟨rfl, rfl⟩)
  obtain ⟨W0, hW0⟩ : ∃ W0, W0 = (((w.alloc (.cells #[.int .i64 t.f, .int .i64 t.v, .slice a t.kids.length c] 28)).alloc (.cells #[.bool false] 4)).alloc (.cells #[.int .i64 0] 3)).alloc (.cells #[.int .i64 t.f, .int .i64 t.v, .slice a t.kids.length c] 28) := ⟨_, rfl⟩
  have hB0 : Below w.heap.size w W0 := by rw [hW0]; exact ((((Below.refl _ _).alloc (Nat.le_refl _) _).alloc (by simp) _).alloc (by simp; omega) _).alloc (by simp; omega) _
  have hz : W0.heap.size = w.heap.size + 1 + 1 + 1 + 1 := by rw [hW0]; simp
  have r0 : W0.cell? ⟨w.heap.size + 1, 0, none⟩ = some (.bool false) := by rw [hW0]; simp [go_sem]
  have f0 : W0.frozen? ⟨w.heap.size + 1, 0, none⟩ = false := by rw [hW0]; simp [go_sem]
  have n0 : W0.cell? ⟨w.heap.size + 1 + 1, 0, none⟩ = some (.int .i64 0) := by rw [hW0]; simp [go_sem]
  have g0 : W0.frozen? ⟨w.heap.size + 1 + 1, 0, none⟩ = false := by rw [hW0]; simp [go_sem]
  have t0 : W0.cell? ⟨w.heap.size + 1 + 1 + 1, 0, none⟩ = some (.int .i64 t.f) := by rw [hW0]; simp [go_sem]
  have t1 : W0.cell? ⟨w.heap.size + 1 + 1 + 1, 1, none⟩ = some (.int .i64 t.v) := by rw [hW0]; simp [go_sem]
  have t2 : W0.cell? ⟨w.heap.size + 1 + 1 + 1, 2, none⟩ = some (.slice a t.kids.length c) := by rw [hW0]; simp [go_sem]
  rw [← hW0]
  clear hW0
  refine wpIn_rangeFunc_priv rfl (by omega) (gf := 94) (lb := #[.pointer (some ⟨w.heap.size + 1 + 1 + 1, 0, none⟩)]) rfl trivial (enters_of Try.func94 (by kernel_rfl) rfl)
    (within_seq Fence.wide 4 trivial rfl (by omega) W0 t a c hi w.heap.size (w.heap.size + 1 + 1 + 1) hp hc (hr.on (hB0.mono hhi)) hhi hB0.size t0 t1 t2) hB0.size (Below.refl _ _) (fun _ => rfl)
    (fun pre S W => FInv w W0 pre S W) (fun cd pre S W => cd = .ret ∧ FOut w W0 pre S W) (fun pre S A B h hs => h.stay hs)
    (fun _ _ _ _ _ h hs => ⟨h.1, h.2.stay hs⟩) (fun pre S A h => h.hi) (fun k => k < W0.heap.size) (fun _ h => h) ⟨fun _ h => h, fun _ h => h, r0, f0, n0, g0, hB0, by omega, by simp⟩
    (fun pre x S a₁ W => FInv w W0 pre S W ∧ a₁ = { tmps := #[.agg #[.int .i64 t.f, .int .i64 t.v, .slice a t.kids.length c], .pointer (some ⟨w.heap.size, 0, none⟩), .pointer (some ⟨w.heap.size + 1, 0, none⟩), .pointer (some ⟨w.heap.size + 1 + 1, 0, none⟩), .agg #[.int .i64 t.f, .int .i64 t.v, .slice a t.kids.length c], .func (.func 94) #[] #[.pointer (some ⟨w.heap.size + 1 + 1 + 1, 0, none⟩)], .agg #[.int .i64 x.t.f, .int .i64 x.t.v, .slice x.a x.t.kids.length x.c], undef, undef, undef, undef], defers := [] })
    (fun pre x S a₁ A B h hs => ⟨h.1.stay hs, h.2⟩)
    ?assign ?body ?done ?stop
  case assign =>
    intro l pre x S W K hi hlen hok hK
    dsimp only [El.enc]
    gi_wp2
    exact hK _ S _ ⟨hi, by simp⟩ (fun _ h => .inl h) (.refl _ _)
  case body =>
    rintro l pre x S a₁ W ⟨h, rfl⟩ hlen hok
    have hr0 := h.r
    have hf0 := h.f
    have hn0 := h.n
    have hg0 := h.g
    have hz0 := h.z
    have hl0 := h.le
    have nlo : ∀ k, k < W0.heap.size → S k := h.lo
    have N1 : FInv w W0 pre S W := h
    by_cases h60 : pre.length < 60
    · have F0 : Hid (FInv w W0 (pre ++ [x]) S (W.setCell ⟨w.heap.size + 1 + 1, 0, none⟩ (.int .i64 ((pre.length : Int) + 1))) ∧ Stay (fun k => k < w.heap.size ∨ ¬ S k) W (W.setCell ⟨w.heap.size + 1 + 1, 0, none⟩ (.int .i64 ((pre.length : Int) + 1)))) := by
        refine ⟨⟨h.lo, fun k hk => by simpa using h.hi k hk, ?_, ?_, ?_, ?_, h.b.setCell (p := ⟨w.heap.size + 1 + 1, 0, none⟩) (by simp; omega) _, hz0, by simp; omega⟩, .setCell _ _ (fun h' => h'.elim (fun h' => by simp only at h'; omega) (fun h' => h' (h.lo _ hz0)))⟩
        · exact (World.cell?_of_block (Below.heap_setCell _ _ _ _ (by simp))).trans hr0
        · rw [World.frozen?_setCell]; exact hf0
        · rw [World.cell?_setCell_same _ _ _ hn0]; simp
        · rw [World.frozen?_setCell]; exact hg0
      have hb60 : (pre.length : Int) < 60 := by omega
      clear h N1 nlo hlen hok
      gi_wp2
      exact ⟨S, F0.out.1, fun k h => .inl h, F0.out.2⟩
    · have e60 : (pre.length : Int) = 60 := by omega
      have F1 : Hid (∀ v, FOut w W0 (pre ++ [x]) S ((W.setCell ⟨w.heap.size + 1 + 1, 0, none⟩ v).setCell ⟨w.heap.size + 1, 0, none⟩ (.bool false)) ∧ Stay (fun k => k < w.heap.size ∨ ¬ S k) W ((W.setCell ⟨w.heap.size + 1 + 1, 0, none⟩ v).setCell ⟨w.heap.size + 1, 0, none⟩ (.bool false))) := fun v => by
        refine ⟨⟨h.lo, ?_, (h.b.setCell (p := ⟨w.heap.size + 1 + 1, 0, none⟩) (by simp; omega) _).setCell (p := ⟨w.heap.size + 1, 0, none⟩) (by simp) _, hz0, by simp; omega⟩, (Stay.setCell _ _ (fun h' => h'.elim (fun h' => by simp only at h'; omega) (fun h' => h' (h.lo _ hz0)))).trans (.setCell _ _ (fun h' => h'.elim (fun h' => by simp only at h'; omega) (fun h' => h' (h.lo _ (by simp only; omega)))))⟩
        exact World.cell?_setCell_same _ _ _ ((World.cell?_of_block (Below.heap_setCell _ _ _ _ (by simp))).trans hr0)
      rw [e60] at hn0
      have hr1 : ∀ v, (W.setCell ⟨w.heap.size + 1 + 1, 0, none⟩ v).cell? ⟨w.heap.size + 1, 0, none⟩ = some (.bool false) := fun v => (World.cell?_of_block (Below.heap_setCell _ _ _ _ (by simp))).trans hr0
      have HR1 : Hid _ := hr1
      clear h N1 nlo hlen hok h60 e60 hl0 hr1
      gi_wp2
      exact ⟨S, ⟨rfl, (F1.out _).1⟩, fun k h => .inl h, (F1.out _).2⟩
  case done =>
    rintro D xs S W hxs h hK hD hSD
    have h3 := h.r
    have h4 := h.f
    have h5 := h.b
    have hg : Hid (decide (partsT t ≤ 60) = true) := by
      show _ = _
      have h6 := h.le
      have : xs.length = partsT t := by rw [← preT_len, ← hxs]; simp
      simp; omega
    clear h
    gi_wp2
    refine ⟨by simp, .inl ⟨_, _, rfl, run_takeDeferred (by rw [Below.heap_setCell _ _ _ _ (by simp only; omega)]; exact hK), ?_⟩⟩
    have e5 := (h5.setCell (p := ⟨w.heap.size + 1, 0, none⟩) (by simp) (.bool true))
    exact ⟨_, results_bool rfl rfl (b := true) ((World.cell?_of_block (World.putObj_heap_other (by simp only; omega))).trans (World.cell?_setCell_same _ _ _ h3)), rtB hg.out.symm, e5.trans ((Stay.putObj (S := fun k => k < w.heap.size) _ _ (by omega)).below e5.size (fun _ h => h))⟩
  case stop =>
    rintro D cd pre S W ⟨r, hpre⟩ ⟨rfl, h⟩ hK hD hSD
    have h3 := h.r
    have h5 := h.b
    have hg : Hid (decide (partsT t ≤ 60) = false) := by
      show _ = _
      have h6 := h.hit
      have : pre.length + r.length = partsT t := by rw [← preT_len, ← hpre]; simp
      simp; omega
    clear h
    gi_wp2
    refine ⟨by simp, .inl ⟨_, _, rfl, run_takeDeferred hK, ?_⟩⟩
    exact ⟨_, results_bool rfl rfl (b := false) ((World.cell?_of_block (World.putObj_heap_other (by simp only; omega))).trans h3), rtB hg.out.symm, h5.trans ((Stay.putObj (S := fun k => k < w.heap.size) W _ (by omega)).below h5.size (fun _ h => h))⟩
end Go.Proofs.Ytkjlldbgooogdab

/- Whether a blind function's Kids stand right, as the program tells it. Conditions: at most 4194304 parts. -/
namespace Go.Proofs.Ytkjlldbgooogdab
set_option maxRecDepth 100000
open Go.RowKit

/-- The Kids of a blind function: none of that function, none before the one ahead of it. -/
def bkL (f : Int) : Option TermD → List TermD → Bool
  | _, [] => true
  | p, k :: ks => !(k.f == f || befO k p) && bkL f (some k) ks
def bkOk (f : Int) (ks : List TermD) : Bool := decide (2 ≤ ks.length) && bkL f none ks

set_option maxHeartbeats 3200000 in
theorem blindKidsOk_any (f : Int) (ks : List TermD) (a : Option Addr) (c hi : Nat) (w : World) (hp : partsL ks ≤ 4194304) (hr : RdK w hi a ks) (hhi : hi ≤ w.heap.size) :
    Calls Try.prog 95 #[.int .i64 f, .slice a ks.length c] w fun e w' => e = .returned (.bool (bkOk f ks)) ∧ Below w.heap.size w w' := by
  have hlen := partsL_len ks
  by_cases h2 : ks.length < 2
  · have HB : Hid (bkOk f ks = false) := by show _ = _; unfold bkOk; rw [decide_eq_false (by omega)]; rfl
    go_enter Try.func95, Try.ntmps95
    go_wp2
    go_ret
    exact ⟨rtB HB.out.symm, Below.refl _ _⟩
  · have HB : Hid (bkOk f ks = bkL f none ks) := by show _ = _; unfold bkOk; rw [decide_eq_true (by omega)]; rfl
    go_enter Try.func95, Try.ntmps95
    have HR : Hid (RdK w hi a ks) := hr
    clear hr
    go_wp2
    go_loopw [12] (fun i wr => ∃ k : Nat, k ≤ ks.length ∧ i = .int .i64 k ∧ Hid (bkL f none ks = bkL f (if k = 0 then none else ks[k-1]?) (ks.drop k)) ∧ Below w.heap.size w wr) (fun i _ => ks.length - (intOf i).toNat)
    case atStart => exact ⟨0, Nat.zero_le _, rfl, by show _ = _; simp, Below.refl _ _⟩
    case round =>
      obtain ⟨k, hk, rfl, HK, hb⟩ := hrel
      by_cases hk' : k < ks.length
      · obtain ⟨b, off, a', c', rfl, hlt, d0, d1, d2, hle, hkr⟩ := RdK.kidc (HR.out.on (hb.mono hhi)) hk'
        have hki : (k : Int) < (ks.length : Int) := by omega
        have hpg := partsL_get hk'
        have HD : Hid (ks.drop k = ks[k] :: ks.drop (k + 1)) := List.drop_eq_getElem_cons hk'
        by_cases hf : ks[k].f = f
        · have HB2 : Hid (bkOk f ks = false) := by show _ = _; rw [HB.out, HK.out, HD.out, bkL]; simp [hf]
          have hfe : (ks[k].f == f) = true := by simp [hf]
          clear HK HB HD hf hkr
          go_wp2_with fail
          obtain ⟨W1, hW1⟩ : ∃ W1, W1 = wr.alloc (.cells #[.int .i64 ks[k].f, .int .i64 ks[k].v, .slice a' ks[k].kids.length c'] 28) := ⟨_, rfl⟩
          have hb1 : Below w.heap.size w W1 := by rw [hW1]; exact hb.alloc hb.size _
          have x0 : W1.cell? ⟨wr.heap.size, 0, none⟩ = some (.int .i64 ks[k].f) := by rw [hW1]; simp [go_sem]
          have x1 : W1.cell? ⟨wr.heap.size, 1, none⟩ = some (.int .i64 ks[k].v) := by rw [hW1]; simp [go_sem]
          have x2 : W1.cell? ⟨wr.heap.size, 2, none⟩ = some (.slice a' ks[k].kids.length c') := by rw [hW1]; simp [go_sem]
          rw [← hW1]
          clear hW1
          go_quiet ((fail))
          go_wp2_with fail
          go_ret
          exact ⟨rtB HB2.out.symm, below_drewN hb1 _⟩
        · have hfe : (ks[k].f == f) = false := by simp [hf]
          by_cases hk0 : k = 0
          · have HN : Hid (bkL f none ks = bkL f (some ks[k]) (ks.drop (k + 1))) := by show _ = _; rw [HK.out, HD.out, bkL, if_pos hk0, hfe]; rfl
            have hkn : decide ((0 : Int) < (k : Int)) = false := by simp; omega
            have hkn2 : decide (0 < k) = false := by simp; omega
            clear HK HD hf hkr hk0
            go_wp2_with fail
            obtain ⟨W1, hW1⟩ : ∃ W1, W1 = wr.alloc (.cells #[.int .i64 ks[k].f, .int .i64 ks[k].v, .slice a' ks[k].kids.length c'] 28) := ⟨_, rfl⟩
            have hb1 : Below w.heap.size w W1 := by rw [hW1]; exact hb.alloc hb.size _
            have x0 : W1.cell? ⟨wr.heap.size, 0, none⟩ = some (.int .i64 ks[k].f) := by rw [hW1]; simp [go_sem]
            have x1 : W1.cell? ⟨wr.heap.size, 1, none⟩ = some (.int .i64 ks[k].v) := by rw [hW1]; simp [go_sem]
            have x2 : W1.cell? ⟨wr.heap.size, 2, none⟩ = some (.slice a' ks[k].kids.length c') := by rw [hW1]; simp [go_sem]
            rw [← hW1]
            clear hW1
            go_quiet ((fail))
            go_wp2_with fail
            go_roundw
            case rel => exact ⟨k + 1, by omega, by go_num, by show _ = _; rw [HN.out, if_neg (by omega), show k + 1 - 1 = k by omega, List.getElem?_eq_getElem hk'], below_drewN hb1 _⟩
            case measure => simp [intOf]; omega
          · obtain ⟨j, rfl⟩ : ∃ j, k = j + 1 := ⟨k - 1, by omega⟩
            have hj : j < ks.length := by omega
            obtain ⟨b2, off2, a2, c2, e2, hlt2, g0, g1, g2, hle2, hkr2⟩ := RdK.kidc (HR.out.on (hb.mono hhi)) hj
            cases e2
            have hkn : (0 : Int) < ((j + 1 : Nat) : Int) := by omega
            have hj0 : (0 : Int) ≤ (j : Int) := by omega
            have hj1 : (j : Int) < (ks.length : Int) := by omega
            have hj2 : (ks.length : Int) ≤ 4194304 := by omega
            have hsub : IntKind.i64.wrap (((j + 1 : Nat) : Int) - 1) = (j : Int) := by rw [IntKind.wrap_i64]; omega
            have hsub2 : IntKind.i64.wrap ((j : Int) + 1 - 1) = (j : Int) := by rw [IntKind.wrap_i64]; omega
            have hsub3 : IntKind.i64.wrap (j : Int) = (j : Int) := by rw [IntKind.wrap_i64]; omega
            cases hbf : befT ks[j + 1] ks[j] with
            | true =>
              have HB2 : Hid (bkOk f ks = false) := by show _ = _; rw [HB.out, HK.out, HD.out, bkL, if_neg hk0, show j + 1 - 1 = j by omega, List.getElem?_eq_getElem hj]; simp [befO, hbf]
              have CC : ∀ W1, Below wr.heap.size wr W1 → ∀ W', Below W1.heap.size W1 W' → Calls Try.prog 75 #[.agg #[.int .i64 ks[j + 1].f, .int .i64 ks[j + 1].v, .slice a' ks[j + 1].kids.length c'], .agg #[.int .i64 ks[j].f, .int .i64 ks[j].v, .slice a2 ks[j].kids.length c2]] W' fun e w' => e = .returned (.bool true) ∧ Below W'.heap.size W' w' := fun W1 h1 W' h2 => by
                have hh : Below wr.heap.size wr W' := h1.trans (h2.mono h1.size)
                have hiw : hi ≤ wr.heap.size := Nat.le_trans hhi hb.size
                have := impBef_any (partsT ks[j + 1]) ks[j + 1] ks[j] a' a2 c' c2 hi W' (Nat.le_refl _) (by omega) (hkr.on (hh.mono hiw)) (hkr2.on (hh.mono hiw)) (Nat.le_trans hiw hh.size) hle hle2
                rwa [hbf] at this
              clear HK HD hf hk0 hbf
              go_wp2_with fail
              obtain ⟨W1, hW1⟩ : ∃ W1, W1 = wr.alloc (.cells #[.int .i64 ks[j + 1].f, .int .i64 ks[j + 1].v, .slice a' ks[j + 1].kids.length c'] 28) := ⟨_, rfl⟩
              have hb1 : Below w.heap.size w W1 := by rw [hW1]; exact hb.alloc hb.size _
              have hb01 : Below wr.heap.size wr W1 := by rw [hW1]; exact (Below.refl _ _).alloc (Nat.le_refl _) _
              have x0 : W1.cell? ⟨wr.heap.size, 0, none⟩ = some (.int .i64 ks[j + 1].f) := by rw [hW1]; simp [go_sem]
              have x1 : W1.cell? ⟨wr.heap.size, 1, none⟩ = some (.int .i64 ks[j + 1].v) := by rw [hW1]; simp [go_sem]
              have x2 : W1.cell? ⟨wr.heap.size, 2, none⟩ = some (.slice a' ks[j + 1].kids.length c') := by rw [hW1]; simp [go_sem]
              have y0 := keepC hb01 g0
              have y1 := keepC hb01 g1
              have y2 := keepC hb01 g2
              rw [← hW1]
              have C := CC W1 hb01
              clear hW1 CC g0 g1 g2 d0 d1 d2
              go_region_held3 (fun w' => w'.cell? ⟨wr.heap.size, 0, none⟩ = some (.int .i64 ks[j + 1].f) ∧ w'.cell? ⟨wr.heap.size, 1, none⟩ = some (.int .i64 ks[j + 1].v) ∧ w'.cell? ⟨wr.heap.size, 2, none⟩ = some (.slice a' ks[j + 1].kids.length c') ∧ w'.cell? ⟨b, off + j * 3, none⟩ = some (.int .i64 ks[j].f) ∧ w'.cell? ⟨b, off + j * 3 + 1, none⟩ = some (.int .i64 ks[j].v) ∧ w'.cell? ⟨b, off + j * 3 + 2, none⟩ = some (.slice a2 ks[j].kids.length c2)) (first | go_keep | exact ⟨x0, x1, x2, y0, y1, y2⟩)
                ((go_at_call 75; refine (C _ ?_).mono ?_; exact (Below.refl _ _).drew; rintro e w2 ⟨rfl, hb0⟩; have hb2 : Below W1.heap.size W1 w2 := (Below.refl _ _).drew.trans hb0; have hB2 : Below w.heap.size w w2 := hb1.trans (hb2.mono hb1.size); have z0 := keepC hb2 x0; have z1 := keepC hb2 x1; have z2 := keepC hb2 x2; have u0 := keepC hb2 y0; have u1 := keepC hb2 y1; have u2 := keepC hb2 y2; clear x0 x1 x2 y0 y1 y2 C hb0 hb2))
              go_wp2_with fail
              go_ret
              exact ⟨rtB HB2.out.symm, hB2⟩
            | false =>
              have HN : Hid (bkL f none ks = bkL f (some ks[j + 1]) (ks.drop (j + 1 + 1))) := by show _ = _; rw [HK.out, HD.out, bkL, if_neg hk0, show j + 1 - 1 = j by omega, List.getElem?_eq_getElem hj]; simp [befO, hbf, hfe]
              have CC : ∀ W1, Below wr.heap.size wr W1 → ∀ W', Below W1.heap.size W1 W' → Calls Try.prog 75 #[.agg #[.int .i64 ks[j + 1].f, .int .i64 ks[j + 1].v, .slice a' ks[j + 1].kids.length c'], .agg #[.int .i64 ks[j].f, .int .i64 ks[j].v, .slice a2 ks[j].kids.length c2]] W' fun e w' => e = .returned (.bool false) ∧ Below W'.heap.size W' w' := fun W1 h1 W' h2 => by
                have hh : Below wr.heap.size wr W' := h1.trans (h2.mono h1.size)
                have hiw : hi ≤ wr.heap.size := Nat.le_trans hhi hb.size
                have := impBef_any (partsT ks[j + 1]) ks[j + 1] ks[j] a' a2 c' c2 hi W' (Nat.le_refl _) (by omega) (hkr.on (hh.mono hiw)) (hkr2.on (hh.mono hiw)) (Nat.le_trans hiw hh.size) hle hle2
                rwa [hbf] at this
              clear HK HD hf hk0 hbf
              go_wp2_with fail
              obtain ⟨W1, hW1⟩ : ∃ W1, W1 = wr.alloc (.cells #[.int .i64 ks[j + 1].f, .int .i64 ks[j + 1].v, .slice a' ks[j + 1].kids.length c'] 28) := ⟨_, rfl⟩
              have hb1 : Below w.heap.size w W1 := by rw [hW1]; exact hb.alloc hb.size _
              have hb01 : Below wr.heap.size wr W1 := by rw [hW1]; exact (Below.refl _ _).alloc (Nat.le_refl _) _
              have x0 : W1.cell? ⟨wr.heap.size, 0, none⟩ = some (.int .i64 ks[j + 1].f) := by rw [hW1]; simp [go_sem]
              have x1 : W1.cell? ⟨wr.heap.size, 1, none⟩ = some (.int .i64 ks[j + 1].v) := by rw [hW1]; simp [go_sem]
              have x2 : W1.cell? ⟨wr.heap.size, 2, none⟩ = some (.slice a' ks[j + 1].kids.length c') := by rw [hW1]; simp [go_sem]
              have y0 := keepC hb01 g0
              have y1 := keepC hb01 g1
              have y2 := keepC hb01 g2
              rw [← hW1]
              have C := CC W1 hb01
              clear hW1 CC g0 g1 g2 d0 d1 d2
              go_region_held3 (fun w' => w'.cell? ⟨wr.heap.size, 0, none⟩ = some (.int .i64 ks[j + 1].f) ∧ w'.cell? ⟨wr.heap.size, 1, none⟩ = some (.int .i64 ks[j + 1].v) ∧ w'.cell? ⟨wr.heap.size, 2, none⟩ = some (.slice a' ks[j + 1].kids.length c') ∧ w'.cell? ⟨b, off + j * 3, none⟩ = some (.int .i64 ks[j].f) ∧ w'.cell? ⟨b, off + j * 3 + 1, none⟩ = some (.int .i64 ks[j].v) ∧ w'.cell? ⟨b, off + j * 3 + 2, none⟩ = some (.slice a2 ks[j].kids.length c2)) (first | go_keep | exact ⟨x0, x1, x2, y0, y1, y2⟩)
                ((go_at_call 75; refine (C _ ?_).mono ?_; exact (Below.refl _ _).drew; rintro e w2 ⟨rfl, hb0⟩; have hb2 : Below W1.heap.size W1 w2 := (Below.refl _ _).drew.trans hb0; have hB2 : Below w.heap.size w w2 := hb1.trans (hb2.mono hb1.size); have z0 := keepC hb2 x0; have z1 := keepC hb2 x1; have z2 := keepC hb2 x2; have u0 := keepC hb2 y0; have u1 := keepC hb2 y1; have u2 := keepC hb2 y2; clear x0 x1 x2 y0 y1 y2 C hb0 hb2))
              go_wp2_with fail
              go_roundw
              case rel => exact ⟨j + 1 + 1, by omega, by go_num, by show _ = _; rw [HN.out, if_neg (by omega), show j + 1 + 1 - 1 = j + 1 by omega, List.getElem?_eq_getElem hk'], hB2⟩
              case measure => simp [intOf]; omega
      · have HE : Hid (bkOk f ks = true) := by
          show _ = _
          rw [HB.out, HK.out, List.drop_eq_nil_of_le (by omega), bkL]
        clear HK HB
        go_wp2_with fail
        go_ret
        exact ⟨rtB HE.out.symm, hb⟩
end Go.Proofs.Ytkjlldbgooogdab

/- Whether one part of a term is right, and whether all are, as data and as the program tells it. Conditions: terms of at most 4194304 parts. -/
namespace Go.Proofs.Ytkjlldbgooogdab
set_option maxRecDepth 100000
open Go.RowKit

/-- Right, what is within the Kids left away. -/
def pOk (ss : List SymD) (t : TermD) : Bool :=
  if t.f = -1 then decide (0 ≤ t.v ∧ t.v ≤ 99) && t.kids.isEmpty
  else decide (0 ≤ t.f ∧ t.f < ss.length) && t.v == 0 && (if blindAt ss t.f then bkOk t.f t.kids else (t.kids.length : Int) == arityAt ss t.f)
theorem pOk_mk (ss : List SymD) (f v : Int) (ks : List TermD) : pOk ss (.mk f v ks) = if f = -1 then decide (0 ≤ v ∧ v ≤ 99) && ks.isEmpty
  else decide (0 ≤ f ∧ f < ss.length) && v == 0 && (if blindAt ss f then bkOk f ks else (ks.length : Int) == arityAt ss f) := rfl
theorem rightL_parts (ss : List SymD) (f : Int) : ∀ (ks : List TermD) (p : Option TermD), rightL ss f p ks = ((if blindAt ss f then bkL f p ks else true) && ks.all (rightT ss))
  | [], p => by simp [rightL, bkL]
  | k :: ks, p => by
    rw [rightL, rightL_parts ss f ks (some k), List.all_cons]
    cases hb : blindAt ss f
    · simp
    · simp only [Bool.true_and, if_true, bkL]
      cases rightT ss k <;> cases bkL f (some k) ks <;> cases (k.f == f || befO k p) <;> simp
mutual
theorem right_pre (ss : List SymD) : ∀ t : TermD, rightT ss t = (preT t).all (pOk ss)
  | .mk f v ks => by
    have h := right_preL ss ks
    rw [rightT, preT, List.all_cons, ← h, rightL_parts, pOk_mk]
    by_cases hf : f = -1
    · rw [if_pos hf, if_pos hf]
      cases ks with
      | nil => simp
      | cons k ks => simp
    · rw [if_neg hf, if_neg hf]
      cases hb : blindAt ss f
      · simp
      · simp only [if_true, bkOk]
        cases decide (0 ≤ f ∧ f < ss.length) <;> cases v == 0 <;> cases decide (2 ≤ ks.length) <;> cases bkL f none ks <;> simp
theorem right_preL (ss : List SymD) : ∀ ts : List TermD, ts.all (rightT ss) = (preL ts).all (pOk ss)
  | [] => by simp [preL]
  | t :: ts => by rw [List.all_cons, preL, List.all_append, right_pre ss t, right_preL ss ts]
end
theorem rtBB {a b : Bool} (h : a = b) : Ending.returned (.bool a) = .returned (.bool b) := by rw [h]

set_option maxHeartbeats 3200000 in
theorem partOk_any (sa : Option Addr) (ss : List SymD) (sc : Nat) (t : TermD) (a : Option Addr) (c hi : Nat) (w : World) (hs : RdS w sa ss) (hp : partsL t.kids ≤ 4194304) (hr : RdK w hi a t.kids) (hhi : hi ≤ w.heap.size) :
    Calls Try.prog 81 #[.slice sa ss.length sc, .agg #[.int .i64 t.f, .int .i64 t.v, .slice a t.kids.length c]] w fun e w' => e = .returned (.bool (pOk ss t)) ∧ Below w.heap.size w w' := by
  obtain ⟨W, hW⟩ : ∃ W, W = w.alloc (.cells #[.int .i64 t.f, .int .i64 t.v, .slice a t.kids.length c] 28) := ⟨_, rfl⟩
  have hB : Below w.heap.size w W := by rw [hW]; exact (Below.refl _ _).alloc (Nat.le_refl _) _
  have P0 : W.cell? ⟨w.heap.size, 0, none⟩ = some (.int .i64 t.f) ∧ W.cell? ⟨w.heap.size, 1, none⟩ = some (.int .i64 t.v) ∧ W.cell? ⟨w.heap.size, 2, none⟩ = some (.slice a t.kids.length c) := by rw [hW]; simp [go_sem]
  have CV := variableOf_any t a t.kids.length c W
  have hlen := partsL_len t.kids
  by_cases hf : t.f = -1
  · have HP : Hid (pOk ss t = (decide (0 ≤ t.v) && decide (t.v ≤ 99) && decide (t.kids.length = 0))) := by
      show _ = _
      unfold pOk
      rw [if_pos hf]
      cases t.kids <;> by_cases h1 : 0 ≤ t.v <;> by_cases h2 : t.v ≤ 99 <;> simp [h1, h2]
    rw [show vofI t = t.v by simp [vofI, hf], show vofB t = true by simp [vofB, hf]] at CV
    clear hf hs hr hp
    generalize t.kids.length = m at *
    go_enter Try.func81, Try.ntmps81
    go_wp2_with (go_at_call 82; rw [← hW]; refine CV.mono ?_; rintro e w2 ⟨rfl, hb2⟩; obtain ⟨p0, p1, p2⟩ := P0; have q0 := keepC hb2 p0; have q1 := keepC hb2 p1; have q2 := keepC hb2 p2; have hB2 : Below w.heap.size w w2 := hB.trans (hb2.mono hB.size); clear CV hW p0 p1 p2 hb2 hB)
    all_goals
      go_ret
      refine ⟨rtB ?_, hB2⟩
      rw [HP.out]
      first
        | (simp; omega)
        | (simp; intros; omega)
        | (by_cases hm : m = 0 <;> simp [*] <;> omega)
        | (by_cases hm : m = 0 <;> simp [*])
  · rw [show vofI t = 0 by simp [vofI, hf], show vofB t = false by simp [vofB, hf]] at CV
    have IS := fun w => isSym_any sa ss.length sc t.f w
    have IB := fun w (h : Below W.heap.size W w) => impBlind_any sa ss ss.length sc t.f w rfl ((hs.below hB).below h)
    have IA := fun w (h : Below W.heap.size W w) => impArity_any sa ss ss.length sc t.f w rfl ((hs.below hB).below h)
    have IK := fun w (h : Below W.heap.size W w) => blindKidsOk_any t.f t.kids a c hi w hp (hr.on ((hB.trans (h.mono hB.size)).mono hhi)) (Nat.le_trans hhi (Nat.le_trans hB.size h.size))
    have HP : Hid (pOk ss t = (decide (0 ≤ t.f) && decide (t.f < ss.length) && (t.v == 0) && (if blindAt ss t.f then bkOk t.f t.kids else (t.kids.length : Int) == arityAt ss t.f))) := by
      show _ = _
      unfold pOk
      rw [if_neg hf]
      by_cases h1 : 0 ≤ t.f <;> by_cases h2 : t.f < ss.length <;> simp [h1, h2]
    clear hf hs hr hp
    generalize t.kids.length = m at *
    by_cases hin : 0 ≤ t.f ∧ t.f < (ss.length : Int)
    · rw [decide_eq_true hin.1, decide_eq_true hin.2] at HP
      simp only [decide_eq_true hin.1, decide_eq_true hin.2, Bool.and_self] at IS
      by_cases hv : t.v = 0
      · have hve : (t.v == 0) = true := by simp [hv]
        rw [hve] at HP
        clear hv
        cases hbl : blindAt ss t.f with
        | true =>
          simp only [hbl] at IB HP
          clear IA hin
          go_enter Try.func81, Try.ntmps81
          go_wp2_with (first
            | (go_at_call 82; rw [← hW]; refine CV.mono ?_; rintro e w2 ⟨rfl, hb2⟩; obtain ⟨p0, p1, p2⟩ := P0; have q0 := keepC hb2 p0; have q1 := keepC hb2 p1; have q2 := keepC hb2 p2; have hB2 : Below w.heap.size w w2 := hB.trans (hb2.mono hB.size); clear CV hW p0 p1 p2 hB)
            | (go_at_call 39; refine (IS _).mono ?_; rintro e w3 ⟨rfl, hw⟩; subst w3)
            | (go_at_call 41; refine (IB _ hb2).mono ?_; rintro e w3 ⟨rfl, hw⟩; subst w3)
            | (go_at_call 95; refine (IK _ hb2).mono ?_; rintro e w3 ⟨rfl, hb3⟩; have hB3 : Below w.heap.size w w3 := hB2.trans (hb3.mono hB2.size)))
          go_ret
          exact ⟨rtB (by rw [HP.out]; simp), hB3⟩
        | false =>
          simp only [hbl] at IB HP
          clear IK hin
          go_enter Try.func81, Try.ntmps81
          go_wp2_with (first
            | (go_at_call 82; rw [← hW]; refine CV.mono ?_; rintro e w2 ⟨rfl, hb2⟩; obtain ⟨p0, p1, p2⟩ := P0; have q0 := keepC hb2 p0; have q1 := keepC hb2 p1; have q2 := keepC hb2 p2; have hB2 : Below w.heap.size w w2 := hB.trans (hb2.mono hB.size); clear CV hW p0 p1 p2 hB)
            | (go_at_call 39; refine (IS _).mono ?_; rintro e w3 ⟨rfl, hw⟩; subst w3)
            | (go_at_call 41; refine (IB _ hb2).mono ?_; rintro e w3 ⟨rfl, hw⟩; subst w3))
          go_region_held3 (fun w' => w'.cell? ⟨w.heap.size, 0, none⟩ = some (.int .i64 t.f) ∧ w'.cell? ⟨w.heap.size, 2, none⟩ = some (.slice a m c)) (first | go_keep | exact ⟨q0, q2⟩)
            ((go_at_call 96; refine (IA _ ?_).mono ?_; exact hb2.drew; rintro e w3 ⟨rfl, hw⟩; subst w3))
          go_wp2_with fail
          go_ret
          exact ⟨rtB (by rw [HP.out]; simp), hB2.drew⟩
      · have hve : (t.v == 0) = false := by simp [hv]
        rw [hve] at HP
        clear IA IB IK hv hin
        go_enter Try.func81, Try.ntmps81
        go_wp2_with (first
          | (go_at_call 82; rw [← hW]; refine CV.mono ?_; rintro e w2 ⟨rfl, hb2⟩; obtain ⟨p0, p1, p2⟩ := P0; have q0 := keepC hb2 p0; have q1 := keepC hb2 p1; have q2 := keepC hb2 p2; have hB2 : Below w.heap.size w w2 := hB.trans (hb2.mono hB.size); clear CV hW p0 p1 p2 hB)
          | (go_at_call 39; refine (IS _).mono ?_; rintro e w3 ⟨rfl, hw⟩; subst w3))
        go_ret
        exact ⟨rtB (by rw [HP.out]; simp), hB2⟩
    · have hinb : (decide (0 ≤ t.f) && decide (t.f < (ss.length : Int))) = false := by simp; omega
      rw [hinb] at HP
      simp only [hinb] at IS
      clear IA IB IK hin
      go_enter Try.func81, Try.ntmps81
      go_wp2_with (first
        | (go_at_call 82; rw [← hW]; refine CV.mono ?_; rintro e w2 ⟨rfl, hb2⟩; obtain ⟨p0, p1, p2⟩ := P0; have q0 := keepC hb2 p0; have q1 := keepC hb2 p1; have q2 := keepC hb2 p2; have hB2 : Below w.heap.size w w2 := hB.trans (hb2.mono hB.size); clear CV hW p0 p1 p2 hB)
        | (go_at_call 39; refine (IS _).mono ?_; rintro e w3 ⟨rfl, hw⟩; subst w3))
      go_ret
      exact ⟨rtB (by rw [HP.out]; simp), hB2⟩
end Go.Proofs.Ytkjlldbgooogdab

/- Plain facts on lists of whole numbers: what a loop over a list has seen so far. Conditions: none. -/
namespace Go.Proofs.Ytkjlldbgooogdab
set_option maxRecDepth 100000
open Go.RowKit

/-- Whether x is in the list. -/
def hasB (zs : List Int) (x : Int) : Bool := zs.any (fun y => y == x)

theorem take_snoc {zs : List Int} {k : Nat} (h : k < zs.length) : zs.take (k + 1) = zs.take k ++ [zs[k]] :=
  List.take_succ_eq_append_getElem h

theorem hasB_hit {zs : List Int} {k : Nat} {x : Int} (h : k < zs.length) (e : (zs[k] == x) = true) : hasB zs x = true := by
  unfold hasB
  rw [List.any_eq_true]
  exact ⟨zs[k], List.getElem_mem h, e⟩

theorem hasB_step {zs : List Int} {k : Nat} {x : Int} (h : k < zs.length) (e0 : hasB (zs.take k) x = false) (e : (zs[k] == x) = false) : hasB (zs.take (k + 1)) x = false := by
  unfold hasB at *
  rw [take_snoc h, List.any_append, e0]
  simpa using e

theorem hasB_all {zs : List Int} {k : Nat} {x : Int} (h : ¬ k < zs.length) (e0 : hasB (zs.take k) x = false) : hasB zs x = false := by
  rwa [List.take_of_length_le (by omega)] at e0

/-- Whether two lists are the same. -/
def eqB (zs ys : List Int) : Bool := zs == ys

theorem eqB_self (zs : List Int) : eqB zs zs = true := by simp [eqB]
theorem eqB_len {zs ys : List Int} (h : ¬ zs.length = ys.length) : eqB zs ys = false := by
  simp only [eqB, beq_eq_false_iff_ne]; intro e; exact h (by rw [e])
theorem eqB_hit {zs ys : List Int} {k : Nat} (h : k < zs.length) (h' : k < ys.length) (e : (zs[k] != ys[k]) = true) : eqB zs ys = false := by
  simp only [eqB, beq_eq_false_iff_ne]; intro e'; subst e'; simp at e
theorem eqB_step {zs ys : List Int} {k : Nat} (h : k < zs.length) (h' : k < ys.length) (e0 : zs.take k = ys.take k) (e : (zs[k] != ys[k]) = false) : zs.take (k + 1) = ys.take (k + 1) := by
  have e' : zs[k] = ys[k] := by simpa using e
  rw [take_snoc h, take_snoc h', e0, e']
theorem eqB_all {zs ys : List Int} {k : Nat} (h : ¬ k < zs.length) (hl : zs.length = ys.length) (e0 : zs.take k = ys.take k) : eqB zs ys = true := by
  rw [List.take_of_length_le (by omega), List.take_of_length_le (by omega)] at e0
  rw [e0]; exact eqB_self _

/-- The slice value that begins at 'a' reads in w as the numbers zs: it is empty, or it leads to their cells. -/
def Rd (w : World) (a : Option Addr) (zs : List Int) : Prop :=
  zs = [] ∨ ∃ b off, a = some ⟨b, off, none⟩ ∧ b < w.heap.size ∧ ∀ i, i < zs.length → w.cell? ⟨b, off + i, none⟩ = some (.int .i64 (zs[i]?.getD 0))

theorem Rd.below {w w' : World} {a : Option Addr} {zs : List Int} (h : Rd w a zs) (hb : Below w.heap.size w w') : Rd w' a zs := by
  rcases h with h | ⟨b, off, rfl, hlt, hc⟩
  · exact .inl h
  · exact .inr ⟨b, off, rfl, Nat.lt_of_lt_of_le hlt hb.size, fun i hi => (hb.cell (p := ⟨b, off + i, none⟩) hlt).trans (hc i hi)⟩

theorem Rd.drewN {w : World} {a : Option Addr} {zs : List Int} (h : Rd w a zs) (n : Nat) : Rd (w.drewN n) a zs := by
  rcases h with h | ⟨b, off, rfl, hlt, hc⟩
  · exact .inl h
  · exact .inr ⟨b, off, rfl, hlt, fun i hi => hc i hi⟩

/-- The cells of a list of numbers. -/
def ints (zs : List Int) : List Value := zs.map (Value.int .i64)

theorem copy_step {zs : List Int} {k : Nat} (h : k < zs.length) :
    (ints (zs.take k) ++ List.replicate (zs.length - k) (Value.int .i64 0)).set k (.int .i64 zs[k]) = ints (zs.take (k + 1)) ++ List.replicate (zs.length - (k + 1)) (Value.int .i64 0) := by
  have e : zs.length - k = (zs.length - (k + 1)) + 1 := by omega
  have l : (ints (zs.take k)).length = k := by simp [ints]; omega
  rw [List.set_append, if_neg (by omega), l, Nat.sub_self, e, List.replicate_succ, List.set_cons_zero, take_snoc h]
  simp only [ints, List.map_append, List.map_cons, List.map_nil, List.append_assoc, List.cons_append, List.nil_append]

theorem copy_at {zs : List Int} {k : Nat} (h : k < zs.length) : (ints (zs.take k) ++ List.replicate (zs.length - k) (Value.int .i64 0))[k]? = some (.int .i64 0) := by
  have l : (ints (zs.take k)).length = k := by simp [ints]; omega
  rw [List.getElem?_append_right (by omega), l, Nat.sub_self, List.getElem?_replicate, if_pos (by omega)]

theorem made_zero (n : Nat) : (madeCells #[Value.int .i64 0] n).toList = List.replicate n (Value.int .i64 0) := by
  apply List.ext_getElem
  · simp [madeCells]
  · intro i h1 h2
    simp [madeCells, Nat.mod_one]

theorem Rd.own {w : World} {base g cap : Nat} {zs : List Int} {n : Nat} (hn : n = zs.length) (h : w.ownsRow base 3 1 (.slice (some ⟨g, 0, none⟩) n cap) n (ints zs)) : Rd w (some ⟨g, 0, none⟩) zs := by
  subst hn
  refine .inr ⟨g, 0, rfl, (h.lt g rfl).2, fun i hi => ?_⟩
  rw [show (0 + i) = i by omega, h.cellAt i (by omega)]
  simp [ints, hi]
end Go.Proofs.Ytkjlldbgooogdab

/- Plain facts on a number put into a list where it comes by its size, and on lists that count up. Conditions: none. -/
namespace Go.Proofs.Ytkjlldbgooogdab
set_option maxRecDepth 100000
open Go.RowKit

/-- x put into zs where it comes by its size, once. -/
def ins (zs : List Int) (x : Int) : List Int :=
  if hasB zs x = true then zs else zs.takeWhile (fun y => decide (y < x)) ++ x :: zs.dropWhile (fun y => decide (y < x))

/-- One round of the program's own loop: what it has laid out, and whether x is placed. -/
def stepI (x : Int) (s : List Int × Bool) (y : Int) : List Int × Bool :=
  if (!s.2 && decide (x < y)) = true then (s.1 ++ [x] ++ [y], true) else (s.1 ++ [y], s.2)

theorem fold_placed (x : Int) : ∀ (l o : List Int), l.foldl (stepI x) (o, true) = (o ++ l, true)
  | [], o => by simp
  | y :: l, o => by rw [List.foldl_cons, show stepI x (o, true) y = (o ++ [y], true) from by simp [stepI], fold_placed x l]; simp

theorem fold_new (x : Int) : ∀ (l o : List Int), hasB l x = false →
    (let r := l.foldl (stepI x) (o, false); if r.2 = true then r.1 else r.1 ++ [x]) = o ++ (l.takeWhile (fun y => decide (y < x)) ++ x :: l.dropWhile (fun y => decide (y < x)))
  | [], o, _ => by simp
  | y :: l, o, h => by
    have hy : ¬ y = x := by intro e; simp [hasB, e] at h
    have hl : hasB l x = false := by simp [hasB] at h ⊢; exact h.2
    rw [List.foldl_cons]
    by_cases hxy : x < y
    · rw [show stepI x (o, false) y = (o ++ [x] ++ [y], true) from by simp [stepI, hxy], fold_placed]
      have : ¬ y < x := by omega
      simp [this]
    · rw [show stepI x (o, false) y = (o ++ [y], false) from by simp [stepI, hxy], fold_new x l (o ++ [y]) hl]
      have : y < x := by omega
      simp [this]

/-- What the program's loop has made of the first k numbers. -/
def made (zs : List Int) (x : Int) (k : Nat) : List Int × Bool := (zs.take k).foldl (stepI x) ([], hasB zs x)

theorem made_zero_ (zs : List Int) (x : Int) : made zs x 0 = ([], hasB zs x) := rfl
theorem made_succ {zs : List Int} {x : Int} {k : Nat} (h : k < zs.length) : made zs x (k + 1) = stepI x (made zs x k) zs[k] := by
  unfold made; rw [take_snoc h, List.foldl_append]; rfl
theorem made_put {zs : List Int} {x : Int} {k : Nat} (h : k < zs.length) (hp : (made zs x k).2 = false) (hx : x < zs[k]) :
    (made zs x (k + 1)).1 = (made zs x k).1 ++ [x] ++ [zs[k]] ∧ (made zs x (k + 1)).2 = true := by
  rw [made_succ h]; simp [stepI, hp, hx]
theorem made_not {zs : List Int} {x : Int} {k : Nat} (h : k < zs.length) (hp : (made zs x k).2 = true ∨ ¬ x < zs[k]) :
    (made zs x (k + 1)).1 = (made zs x k).1 ++ [zs[k]] ∧ (made zs x (k + 1)).2 = (made zs x k).2 := by
  rw [made_succ h]
  rcases hp with hp | hp <;> simp [stepI, hp]
theorem made_len (zs : List Int) (x : Int) : ∀ k, k ≤ zs.length → ((made zs x k).1.length = k ∨ ((made zs x k).1.length = k + 1 ∧ (made zs x k).2 = true))
  | 0, _ => .inl rfl
  | k + 1, h => by
    have ih := made_len zs x k (by omega)
    rw [made_succ (by omega)]
    by_cases c : (!(made zs x k).2 && decide (x < zs[k])) = true
    · simp only [stepI, c, if_true]
      simp at c
      rcases ih with ih | ⟨_, ih⟩
      · right; simp [ih]
      · simp [ih] at c
    · have e : stepI x (made zs x k) zs[k] = ((made zs x k).1 ++ [zs[k]], (made zs x k).2) := by
        rw [stepI, if_neg c]
      rw [e]
      rcases ih with ih | ⟨ih, ih'⟩
      · left; simp [ih]
      · right; simp [ih, ih']
theorem made_end (zs : List Int) (x : Int) : (if (made zs x zs.length).2 = true then (made zs x zs.length).1 else (made zs x zs.length).1 ++ [x]) = ins zs x := by
  unfold made ins
  rw [List.take_length]
  by_cases h : hasB zs x = true
  · rw [if_pos h, h, fold_placed]; simp
  · have h' : hasB zs x = false := by simpa using h
    rw [if_neg h, h']
    exact fold_new x zs [] h'

theorem ins_len (zs : List Int) (x : Int) : (ins zs x).length ≤ zs.length + 1 := by
  unfold ins
  split
  · omega
  · rw [List.length_append, List.length_cons]
    have h : (zs.takeWhile (fun y => decide (y < x)) ++ zs.dropWhile (fun y => decide (y < x))).length = zs.length := by rw [List.takeWhile_append_dropWhile]
    rw [List.length_append] at h
    omega

/-- Where the first number that is not less than x stands, once all ahead of k are less and that at k is not. -/
theorem ins_at {zs : List Int} {x : Int} {k : Nat} (hk : k ≤ zs.length) (h0 : hasB zs x = false) (hlt : ∀ j, (h : j < zs.length) → j < k → zs[j] < x) (hge : ∀ h : k < zs.length, ¬ zs[k] < x) :
    ins zs x = zs.take k ++ [x] ++ zs.drop k := by
  have e : zs = zs.take k ++ zs.drop k := (List.take_append_drop k zs).symm
  have a1 : (zs.take k).all (fun y => decide (y < x)) = true := by
    rw [List.all_eq_true]
    intro y hy
    obtain ⟨j, hj, rfl⟩ := List.getElem_of_mem hy
    rw [List.length_take] at hj
    rw [List.getElem_take]
    simpa using hlt j (by omega) (by omega)
  have t1 : zs.takeWhile (fun y => decide (y < x)) = zs.take k ∧ zs.dropWhile (fun y => decide (y < x)) = zs.drop k := by
    have g : ∀ (l r : List Int), l.all (fun y => decide (y < x)) = true → (∀ h : 0 < r.length, ¬ r[0] < x) → (l ++ r).takeWhile (fun y => decide (y < x)) = l ∧ (l ++ r).dropWhile (fun y => decide (y < x)) = r := by
      intro l r hl hr
      induction l with
      | nil =>
        cases r with
        | nil => exact ⟨rfl, rfl⟩
        | cons y r => have := hr (by simp); simp at this; have h' : ¬ y < x := by omega
                      simp [h']
      | cons y l ih =>
        simp at hl
        have := ih (by simpa using hl.2)
        simp [hl.1, this]
    have := g (zs.take k) (zs.drop k) a1 (by
      intro h
      rw [List.getElem_drop]
      simp at h
      exact hge (by omega))
    rwa [← e] at this
  unfold ins
  rw [if_neg (by simp [h0]), t1.1, t1.2]
  simp

/-- n numbers from k on, each one more. -/
def upFrom (k : Int) (n : Nat) : List Int := (List.range n).map (fun j : Nat => k + (j : Int))
theorem upFrom_len (k : Int) (n : Nat) : (upFrom k n).length = n := by simp [upFrom]
theorem upFrom_at (k : Int) (n j : Nat) (h : j < n) : (upFrom k n)[j]? = some (k + (j : Int)) := by simp [upFrom, h]
theorem upFrom_get (k : Int) (n j : Nat) (h : j < (upFrom k n).length) : (upFrom k n)[j] = k + (j : Int) := by simp [upFrom]
theorem upFrom_succ (k : Int) (n : Nat) : upFrom k (n + 1) = upFrom k n ++ [k + (n : Int)] := by simp [upFrom, List.range_succ]
theorem mark_step {zs : List Int} {k : Int} {j : Nat} (h : j < zs.length) : (ints (upFrom k j) ++ (ints zs).drop j).set j (.int .i64 (k + (j : Int))) = ints (upFrom k (j + 1)) ++ (ints zs).drop (j + 1) := by
  have l : (ints (upFrom k j)).length = j := by simp [ints, upFrom]
  have d : (ints zs).drop j = (ints zs)[j]'(by simpa [ints] using h) :: (ints zs).drop (j + 1) := List.drop_eq_getElem_cons _
  rw [List.set_append, if_neg (by omega), l, Nat.sub_self, d, List.set_cons_zero, upFrom_succ]
  simp only [ints, List.map_append, List.map_cons, List.map_nil, List.append_assoc, List.cons_append, List.nil_append]
theorem mark_at {zs : List Int} {k : Int} {j : Nat} (h : j < zs.length) : ∃ u, (ints (upFrom k j) ++ (ints zs).drop j)[j]? = some (.int .i64 u) := by
  have l : (ints (upFrom k j)).length = j := by simp [ints, upFrom]
  refine ⟨zs[j], ?_⟩
  rw [List.getElem?_append_right (by omega), l, Nat.sub_self, List.getElem?_drop]
  simp [ints, h]

/-- What is owned stays owned where no old block turns. -/
theorem own_below {w w' : World} {base : Nat} {e : TypeId} {size : Nat} {v : Value} {n : Nat} {xs : List Value} (h : w.ownsRow base e size v n xs) (hb : Below w.heap.size w w') : w'.ownsRow base e size v n xs := by
  have hl := h.lt
  obtain ⟨h1, h2⟩ := h
  refine ⟨h1, ?_⟩
  rcases h2 with h2 | ⟨g, cap, cur, rfl, hg, hh, r⟩
  · exact .inl h2
  · exact .inr ⟨g, cap, cur, rfl, hg, by rw [hb.block g (hl g rfl).2]; exact hh, r⟩
end Go.Proofs.Ytkjlldbgooogdab

/- Contracts of the specification's NumIn and NumAdd, and of the program's NumAdd: a number in a list, and put into it. Conditions: at most 1048577 numbers. -/
namespace Go.Proofs.Ytkjlldbgooogdab
set_option maxRecDepth 100000
open Go.RowKit

theorem one_new (w : World) (u : Value) (t : TypeId) : ∀ j v, [u][j]? = some v → (w.alloc (.cells #[u] t)).cell? ((⟨w.heap.size, 0, none⟩ : Addr).add j) = some v := by
  intro j v hj
  match j, hj with
  | 0, hj => simp at hj; subst hj; simp [Addr.add]
  | j + 1, hj => simp at hj
theorem one_cell (n : Int) : ∀ u ∈ [Value.int .i64 n], u.oneCell' = true := by
  intro u hu; simp at hu; subst hu; rfl
theorem own_some {w : World} {base : Nat} {e : TypeId} {size : Nat} {v : Value} {n : Nat} {xs : List Value} {a : Addr} {m c : Nat} {q : Prop} (h : w.ownsRow base e size v n xs) (hv : v = .slice none 0 0 ↔ .slice (some a) m c = Value.slice none 0 0 ∧ q) : ∃ g c, v = .slice (some ⟨g, 0, none⟩) n c := by
  rcases h.2 with ⟨h, _⟩ | ⟨g, cap, _, rfl, _⟩
  · have := (hv.1 h).1; simp at this
  · exact ⟨g, cap, rfl⟩
theorem Try.info3 : (Try.prog.info? 3).map (fun i => (i.zero, i.size, i.bytes)) = some (some (.int .i64 0), 1, 8) := by kernel_rfl

theorem own_one {w : World} {B g c : Nat} {o : List Int} {x : Int} (h : w.ownsRow B 3 1 (.slice (some ⟨g, 0, none⟩) (o.length + 1) c) (o.length + 1) (ints o ++ [.int .i64 x])) :
    w.ownsRow B 3 1 (.slice (some ⟨g, 0, none⟩) (o ++ [x]).length c) (o ++ [x]).length (ints (o ++ [x])) := by
  simpa [ints] using h
theorem own_two {w : World} {B g c : Nat} {o : List Int} {x y : Int} (h : w.ownsRow B 3 1 (.slice (some ⟨g, 0, none⟩) (o.length + 1 + 1) c) (o.length + 1 + 1) (ints o ++ [.int .i64 x] ++ [.int .i64 y])) :
    w.ownsRow B 3 1 (.slice (some ⟨g, 0, none⟩) (o ++ [x] ++ [y]).length c) (o ++ [x] ++ [y]).length (ints (o ++ [x] ++ [y])) := by
  simpa [ints] using h

theorem add_at (b off j : Nat) : (⟨b, off, none⟩ : Addr).add j = ⟨b, off + j, none⟩ := by
  by_cases h : j = 0 <;> simp [Addr.add, h]
theorem news_of {w : World} {b off : Nat} {l : List Int} (hc : ∀ i, i < l.length → w.cell? ⟨b, off + i, none⟩ = some (.int .i64 (l[i]?.getD 0))) : ∀ j u, (ints l)[j]? = some u → w.cell? ((⟨b, off, none⟩ : Addr).add j) = some u := by
  intro j u h
  have hj : j < l.length := by
    have := (List.getElem?_eq_some_iff.1 h).1
    simpa [ints] using this
  rw [add_at, hc j hj, ← h]
  simp [ints, hj]
theorem news_take {w W : World} {b : Nat} {zs : List Int} {k : Nat} (hlt : b < w.heap.size) (hc : ∀ i, i < zs.length → w.cell? ⟨b, 0 + i, none⟩ = some (.int .i64 (zs[i]?.getD 0))) (hb : Below w.heap.size w W) (o : Obj) :
    ∀ j u, (ints (zs.take k))[j]? = some u → (W.alloc o).cell? ((⟨b, 0, none⟩ : Addr).add j) = some u := by
  refine news_of (off := 0) fun i h => ?_
  rw [List.length_take] at h
  rw [(hb.alloc hb.size o).cell (p := ⟨b, 0 + i, none⟩) hlt, hc i (by omega), List.getElem?_take, if_pos (by omega)]
theorem news_drop {w W : World} {b : Nat} {zs : List Int} {k : Nat} (hlt : b < w.heap.size) (hc : ∀ i, i < zs.length → w.cell? ⟨b, 0 + i, none⟩ = some (.int .i64 (zs[i]?.getD 0))) (hb : Below w.heap.size w W) :
    ∀ j u, (ints (zs.drop k))[j]? = some u → W.cell? ((⟨b, k, none⟩ : Addr).add j) = some u := by
  refine news_of (off := k) fun i h => ?_
  rw [List.length_drop] at h
  have := hc (k + i) (by omega)
  rw [show 0 + (k + i) = k + i by omega] at this
  rw [hb.cell (p := ⟨b, k + i, none⟩) hlt, this, List.getElem?_drop]
theorem below_app {w w2 w3 : World} {g n c : Nat} {e : TypeId} {size : Nat} {xs : List Value} {o : Obj} (hb : Below w.heap.size w w2) (hown : w2.ownsRow w.heap.size e size (.slice (some ⟨g, 0, none⟩) n c) n xs) (hg : (w2.alloc o).grownBy w3 (some g)) : Below w.heap.size w w3 :=
  (hb.alloc hb.size o).grown hg (by have := hb.size; simp; omega) (fun k hk => by cases hk; exact (hown.lt g rfl).1)
theorem below_app' {w w2 w3 : World} {g n c : Nat} {e : TypeId} {size : Nat} {xs : List Value} (hb : Below w.heap.size w w2) (hown : w2.ownsRow w.heap.size e size (.slice (some ⟨g, 0, none⟩) n c) n xs) (hg : w2.grownBy w3 (some g)) : Below w.heap.size w w3 :=
  hb.grown hg hb.size (fun k hk => by cases hk; exact (hown.lt g rfl).1)
theorem own_cap {w : World} {base : Nat} {e : TypeId} {size g n c : Nat} {xs : List Value} (h : w.ownsRow base e size (.slice (some ⟨g, 0, none⟩) n c) n xs) : n ≤ c := by
  rcases h.2 with ⟨h, _⟩ | ⟨g', cap, _, h, _, _, hn, _⟩
  · simp at h
  · simp at h; omega
theorem ints_one (l : List Int) : ∀ u ∈ ints l, u.oneCell' = true := by
  intro u hu; simp [ints] at hu; obtain ⟨n, _, rfl⟩ := hu; rfl
end Go.Proofs.Ytkjlldbgooogdab

/- Functions by name: the first of each name in a map, the others' numbers in a list; what such a map holds. Conditions: none. -/
namespace Go.Proofs.Ytkjlldbgooogdab
set_option maxRecDepth 100000
open Go.RowKit Go.Maps

/-- Where the first function of that name stands. -/
def idx (l : List SymD) (n : List UInt8) : Option Nat := l.findIdx? (fun s => s.name.data.toList == n)

theorem idx_snoc (l : List SymD) (s : SymD) (n : List UInt8) : idx (l ++ [s]) n = (idx l n).or (if s.name.data.toList == n then some l.length else none) := by
  unfold idx
  rw [List.findIdx?_append]
  congr 1
  by_cases h : s.name.data.toList == n <;> simp [h]

theorem symOf_idx (l : List SymD) (n : ByteArray) : symOf l n = match idx l n.data.toList with | some i => (i : Int) | none => -1 := by
  unfold symOf idx
  simp only [ByteArray.toList_eq]
  generalize List.findIdx? _ l = o
  cases o <;> rfl

/-- The map holds at each name the number of the first function of that name. -/
def MapIs (D : DataW Unit) (l : List SymD) : Prop :=
  IsMap D ∧ ∀ n : List UInt8, Maps.has D (.string n) = (idx l n).isSome ∧ ∀ i, idx l n = some i → ∀ z, D.atKey (.string n) z = .lit (.int .i64 i)

theorem mapIs_nil : MapIs (.map []) [] := ⟨isMap_empty, fun n => ⟨rfl, fun i h => by simp [idx] at h⟩⟩

theorem mapIs_seen {D : DataW Unit} {l : List SymD} (h : MapIs D l) {s : SymD} (hs : (idx l s.name.data.toList).isSome = true) : MapIs D (l ++ [s]) := by
  refine ⟨h.1, fun n => ?_⟩
  have e : idx (l ++ [s]) n = idx l n := by
    rw [idx_snoc]
    cases hn : idx l n with
    | some i => rfl
    | none =>
      have : (s.name.data.toList == n) = false := by
        apply Bool.eq_false_iff.2
        intro h1
        have h2 : s.name.data.toList = n := by simpa using h1
        rw [h2, hn] at hs
        simp at hs
      simp [this]
  rw [e]
  exact h.2 n

theorem mapIs_new {D : DataW Unit} {l : List SymD} (h : MapIs D l) {s : SymD} (hs : (idx l s.name.data.toList).isSome = false) : MapIs (D.put (.string s.name.data.toList) (.lit (.int .i64 l.length))) (l ++ [s]) := by
  refine ⟨h.1.put _ _, fun n => ?_⟩
  by_cases he : s.name.data.toList = n
  · subst he
    have hn : idx l s.name.data.toList = none := by simpa using hs
    have e : idx (l ++ [s]) s.name.data.toList = some l.length := by rw [idx_snoc, hn]; simp
    rw [e]
    refine ⟨has_put_same (k := .string s.name.data.toList) h.1 trivial _, fun i hi z => ?_⟩
    simp at hi
    subst hi
    exact atKey_put_same (k := .string s.name.data.toList) h.1 trivial _ _
  · have e : idx (l ++ [s]) n = idx l n := by rw [idx_snoc]; simp [he]
    have hne : (Lit.string n) ≠ .string s.name.data.toList := fun h => he (by injection h with h; exact h.symm)
    rw [e, has_put_other hne]
    refine ⟨(h.2 n).1, fun i hi z => ?_⟩
    rw [atKey_put_other hne]
    exact (h.2 n).2 i hi z

/-- The numbers, of the first k, of those functions whose name an earlier one has. -/
def againTo (ss : List SymD) : Nat → List Int
  | 0 => []
  | k + 1 => againTo ss k ++ (if h : k < ss.length then (if (idx (ss.take k) ss[k].name.data.toList).isSome then [(k : Int)] else []) else [])

theorem again_seen {ss : List SymD} {k : Nat} (h : k < ss.length) (hs : (idx (ss.take k) ss[k].name.data.toList).isSome = true) : againTo ss (k + 1) = againTo ss k ++ [(k : Int)] := by
  rw [againTo, dif_pos h, if_pos hs]
theorem again_new {ss : List SymD} {k : Nat} (h : k < ss.length) (hs : (idx (ss.take k) ss[k].name.data.toList).isSome = false) : againTo ss (k + 1) = againTo ss k := by
  rw [againTo, dif_pos h, hs]; simp
theorem again_len (ss : List SymD) : ∀ k, (againTo ss k).length ≤ k
  | 0 => Nat.le_refl _
  | k + 1 => by
    have := again_len ss k
    rw [againTo]
    by_cases h : k < ss.length
    · rw [dif_pos h, List.length_append]
      split <;> simp <;> omega
    · rw [dif_neg h]; simp; omega

theorem take_next {ss : List SymD} {k : Nat} (h : k < ss.length) : ss.take (k + 1) = ss.take k ++ [ss[k]] := List.take_succ_eq_append_getElem h

theorem mapIs_step0 {D : DataW Unit} {ss : List SymD} {k : Nat} (h : k < ss.length) (hm : MapIs D (ss.take k)) (hs : (idx (ss.take k) ss[k].name.data.toList).isSome = true) : MapIs D (ss.take (k + 1)) := by
  rw [take_next h]; exact mapIs_seen hm hs
theorem mapIs_step1 {D : DataW Unit} {ss : List SymD} {k : Nat} (h : k < ss.length) (hm : MapIs D (ss.take k)) (hs : (idx (ss.take k) ss[k].name.data.toList).isSome = false) : MapIs (D.put (.string ss[k].name.data.toList) (.lit (.int .i64 k))) (ss.take (k + 1)) := by
  rw [take_next h]
  have := mapIs_new hm hs
  rwa [List.length_take_of_le (by omega)] at this

theorem one_new' (w : World) (u : Value) (t : TypeId) (n : Nat) (hn : n = w.heap.size) : ∀ j v, [u][j]? = some v → (w.alloc (.cells #[u] t)).cell? ((⟨n, 0, none⟩ : Addr).add j) = some v := by
  subst hn; exact one_new w u t
end Go.Proofs.Ytkjlldbgooogdab

