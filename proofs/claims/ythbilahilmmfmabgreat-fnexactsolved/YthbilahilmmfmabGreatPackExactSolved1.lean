/- What the proof of FnExactSolved stands on, part 1 of 13: each piece says what it proves and under which conditions. Conditions: as each piece says. -/
import Derived.WalkKit
import Derived.ProofKit
import Derived.OpenShut
import Derived.WalkSmall
import Derived.BigQuiet
import Derived.Below
import Derived.Test.YthbilahilmmfmabGreatProg
import Derived.Deep.Slices
import Derived.Deep.RegionHeld3
import Derived.Deep.DeepMust
import Derived.RangeFuncNested
import Derived.RangeFuncCalls
import Derived.RangeFuncLeaves
import Derived.Sort.AssemblyPlain
import Derived.Sort.WalkA
import Derived.BigCall
import Derived.BigGuard
import Derived.Laws.Externs
import Derived.Shelf.Abstract
import Derived.Shelf.RegionOpenPlain
import Derived.Sort.WalkB2
/- Terms as data: how they lie in memory, and what is told of them. Conditions: none. -/
namespace Go.Proofs.YthbilahilmmfmabGreat
set_option maxRecDepth 100000
open Go.RowKit

theorem rtI {a b : Int} (h : a = b) : Ending.returned (.int .i64 a) = .returned (.int .i64 b) := by rw [h]
theorem rtB {a b : Bool} (h : a = b) : Ending.returned (.bool a) = .returned (.bool b) := by rw [h]

/-- A term as data. -/
inductive TermD where
  | mk (f v : Int) (kids : List TermD)

namespace TermD
def f : TermD → Int | mk f _ _ => f
def v : TermD → Int | mk _ v _ => v
def kids : TermD → List TermD | mk _ _ k => k
end TermD

instance : Inhabited TermD := ⟨.mk 0 0 []⟩

mutual
/-- How many terms are within it, itself too. -/
def partsT : TermD → Nat
  | .mk _ _ ks => partsL ks + 1
def partsL : List TermD → Nat
  | [] => 0
  | t :: ts => partsT t + partsL ts
end

theorem partsT_eq (t : TermD) : partsT t = partsL t.kids + 1 := by cases t; simp [partsT, TermD.kids]

theorem partsL_append (a b : List TermD) : partsL (a ++ b) = partsL a + partsL b := by
  induction a with
  | nil => simp [partsL]
  | cons t ts ih => simp only [List.cons_append, partsL, ih]; omega

theorem partsL_get {ts : List TermD} {i : Nat} (h : i < ts.length) : partsT ts[i] ≤ partsL ts := by
  induction ts generalizing i with
  | nil => simp at h
  | cons t ts ih =>
    cases i with
    | zero => simp only [List.getElem_cons_zero, partsL]; omega
    | succ i =>
      simp only [List.getElem_cons_succ, partsL]
      have := ih (i := i) (by simpa using h)
      omega

theorem partsL_next {ts : List TermD} {k : Nat} (h : k < ts.length) : partsL (ts.take (k + 1)) = partsL (ts.take k) + partsT ts[k] := by
  rw [List.take_succ_eq_append_getElem h, partsL_append]
  simp [partsL]

theorem partsL_take (ts : List TermD) (k : Nat) : partsL (ts.take k) ≤ partsL ts := by
  have : partsL ts = partsL (ts.take k) + partsL (ts.drop k) := by rw [← partsL_append, List.take_append_drop]
  omega

theorem partsL_len (ts : List TermD) : ts.length ≤ partsL ts := by
  induction ts with
  | nil => simp
  | cons t ts ih => simp only [List.length_cons, partsL, partsT_eq]; omega

def isW (z : Int) : Prop := -9223372036854775808 ≤ z ∧ z ≤ 9223372036854775807

theorem partsL_rest (ts : List TermD) (k : Nat) : partsL (ts.take k) + (ts.length - k) ≤ partsL ts := by
  have h : partsL ts = partsL (ts.take k) + partsL (ts.drop k) := by rw [← partsL_append, List.take_append_drop]
  have h2 := partsL_len (ts.drop k)
  rw [List.length_drop] at h2
  omega

/-- What is left of m when the parts are counted off. -/
def szR (ts : List TermD) (m : Int) : Int := if (partsL ts : Int) ≤ m then m - partsL ts else -1

/-- A cell that was there is as it was behind whatever only lays new blocks. -/
theorem keepC {w w' : World} (h : Below w.heap.size w w') {p : Addr} {v : Value} (hc : w.cell? p = some v) : w'.cell? p = some v := (h.cell (World.block_lt_of_cell? w p hc)).trans hc

/-- The slice of terms that begins at 'a' reads in w as ts, all of its blocks below hi. -/
inductive RdK (w : World) (hi : Nat) : Option Addr → List TermD → Prop
  | nil (a : Option Addr) : RdK w hi a []
  | row (b off : Nat) (ts : List TermD) (A : Nat → Option Addr) (C : Nat → Nat) (hlt : b < hi) (hl : ts.length ≤ 9223372036854775807 ∧ ∀ i, (h : i < ts.length) → ts[i].kids.length ≤ C i) (hz : ∀ i, (h : i < ts.length) → isW ts[i].f ∧ isW ts[i].v)
      (hc : ∀ i, (h : i < ts.length) → w.cell? ⟨b, off + i * 3, none⟩ = some (.int .i64 ts[i].f) ∧ w.cell? ⟨b, off + i * 3 + 1, none⟩ = some (.int .i64 ts[i].v) ∧ w.cell? ⟨b, off + i * 3 + 2, none⟩ = some (.slice (A i) ts[i].kids.length (C i)))
      (hk : ∀ i, (h : i < ts.length) → RdK w hi (A i) ts[i].kids) : RdK w hi (some ⟨b, off, none⟩) ts

theorem RdK.on {w w' : World} {hi : Nat} {a : Option Addr} {ts : List TermD} (h : RdK w hi a ts) (hb : Below hi w w') : RdK w' hi a ts := by
  induction h with
  | nil a => exact .nil a
  | row b off ts A C hlt hl hz hc hk ih =>
    refine .row b off ts A C hlt hl hz (fun i h => ?_) ih
    obtain ⟨h0, h1, h2⟩ := hc i h
    exact ⟨(hb.cell (p := ⟨b, off + i * 3, none⟩) hlt).trans h0, (hb.cell (p := ⟨b, off + i * 3 + 1, none⟩) hlt).trans h1, (hb.cell (p := ⟨b, off + i * 3 + 2, none⟩) hlt).trans h2⟩

theorem RdK.mono {w : World} {hi hi' : Nat} {a : Option Addr} {ts : List TermD} (h : RdK w hi a ts) (hh : hi ≤ hi') : RdK w hi' a ts := by
  induction h with
  | nil a => exact .nil a
  | row b off ts A C hlt hl hz hc hk ih => exact .row b off ts A C (Nat.lt_of_lt_of_le hlt hh) hl hz hc ih

theorem RdK.len {w : World} {hi : Nat} {a : Option Addr} {ts : List TermD} (h : RdK w hi a ts) : ts.length ≤ 9223372036854775807 := by
  cases h with
  | nil a => simp
  | row b off ts A C hlt hl hz hc hk => exact hl.1

theorem RdK.ints {w : World} {hi : Nat} {a : Option Addr} {ts : List TermD} (h : RdK w hi a ts) {i : Nat} (hi' : i < ts.length) : isW ts[i].f ∧ isW ts[i].v := by
  cases h with
  | nil a => simp at hi'
  | row b off ts A C hlt hl hz hc hk => exact hz i hi'

/-- What stands at kid i. -/
theorem RdK.kid {w : World} {hi : Nat} {a : Option Addr} {ts : List TermD} (h : RdK w hi a ts) {i : Nat} (hi' : i < ts.length) :
    ∃ b off a' c', a = some ⟨b, off, none⟩ ∧ b < hi ∧ w.cell? ⟨b, off + i * 3, none⟩ = some (.int .i64 ts[i].f) ∧ w.cell? ⟨b, off + i * 3 + 1, none⟩ = some (.int .i64 ts[i].v) ∧ w.cell? ⟨b, off + i * 3 + 2, none⟩ = some (.slice a' ts[i].kids.length c') ∧ RdK w hi a' ts[i].kids := by
  cases h with
  | nil a => simp at hi'
  | row b off ts A C hlt hl hz hc hk =>
    obtain ⟨h0, h1, h2⟩ := hc i hi'
    exact ⟨b, off, _, _, rfl, hlt, h0, h1, h2, hk i hi'⟩

/-- What stands at kid i, with what its slice's room is. -/
theorem RdK.kidc {w : World} {hi : Nat} {a : Option Addr} {ts : List TermD} (h : RdK w hi a ts) {i : Nat} (hi' : i < ts.length) :
    ∃ b off a' c', a = some ⟨b, off, none⟩ ∧ b < hi ∧ w.cell? ⟨b, off + i * 3, none⟩ = some (.int .i64 ts[i].f) ∧ w.cell? ⟨b, off + i * 3 + 1, none⟩ = some (.int .i64 ts[i].v) ∧ w.cell? ⟨b, off + i * 3 + 2, none⟩ = some (.slice a' ts[i].kids.length c') ∧ ts[i].kids.length ≤ c' ∧ RdK w hi a' ts[i].kids := by
  cases h with
  | nil a => simp at hi'
  | row b off ts A C hlt hl hz hc hk =>
    obtain ⟨h0, h1, h2⟩ := hc i hi'
    exact ⟨b, off, _, _, rfl, hlt, h0, h1, h2, hl.2 i hi', hk i hi'⟩

/-- A term as a value. -/
def termV (t : TermD) (a : Option Addr) (c : Nat) : Value := .agg #[.int .i64 t.f, .int .i64 t.v, .slice a t.kids.length c]

mutual
/-- Whether two terms are the same. -/
def sameT : TermD → TermD → Bool
  | .mk f v ks, .mk f' v' ks' => f == f' && v == v' && ks.length == ks'.length && sameL ks ks'
def sameL : List TermD → List TermD → Bool
  | t :: ts, u :: us => sameT t u && sameL ts us
  | _, _ => true
end

theorem sameT_eq (t u : TermD) : sameT t u = (t.f == u.f && t.v == u.v && t.kids.length == u.kids.length && sameL t.kids u.kids) := by
  cases t; cases u; simp [sameT, TermD.f, TermD.v, TermD.kids]

theorem sameL_hit : ∀ {ts us : List TermD} {k : Nat} (h : k < ts.length) (h' : k < us.length), sameT ts[k] us[k] = false → sameL ts us = false
  | t :: ts, u :: us, 0, _, _, e => by simp only [List.getElem_cons_zero] at e; simp [sameL, e]
  | t :: ts, u :: us, k + 1, h, h', e => by
    simp only [List.getElem_cons_succ] at e
    have := sameL_hit (ts := ts) (us := us) (k := k) (by simpa using h) (by simpa using h') e
    simp [sameL, this]
  | [], _, _, h, _, _ => by simp at h
  | _ :: _, [], _, _, h', _ => by simp at h'

theorem sameL_all : ∀ {ts us : List TermD}, ts.length = us.length → (∀ k, (h : k < ts.length) → (h' : k < us.length) → sameT ts[k] us[k] = true) → sameL ts us = true
  | [], us, _, _ => by simp [sameL]
  | t :: ts, [], h, _ => by simp at h
  | t :: ts, u :: us, h, hall => by
    have h0 := hall 0 (by simp) (by simp)
    have h1 := sameL_all (ts := ts) (us := us) (by simpa using h) (fun k hk hk' => by have := hall (k + 1) (by simpa using hk) (by simpa using hk'); simpa using this)
    simp only [List.getElem_cons_zero] at h0
    simp [sameL, h0, h1]

mutual
/-- Whether a term is before another one. -/
def befT : TermD → TermD → Bool
  | .mk f v ks, .mk f' v' ks' => if f ≠ f' then decide (f < f') else if v ≠ v' then decide (v < v') else if ks.length ≠ ks'.length then decide (ks.length < ks'.length) else befL ks ks'
def befL : List TermD → List TermD → Bool
  | t :: ts, u :: us => if sameT t u then befL ts us else befT t u
  | _, _ => false
end

theorem befT_eq (t u : TermD) : befT t u = if t.f ≠ u.f then decide (t.f < u.f) else if t.v ≠ u.v then decide (t.v < u.v) else if t.kids.length ≠ u.kids.length then decide (t.kids.length < u.kids.length) else befL t.kids u.kids := by
  cases t; cases u; rw [befT]; rfl

theorem befL_hit : ∀ {ts us : List TermD} {k : Nat} (h : k < ts.length) (h' : k < us.length), (∀ j, (hj : j < k) → sameT (ts[j]'(by omega)) (us[j]'(by omega)) = true) → sameT ts[k] us[k] = false → befL ts us = befT ts[k] us[k]
  | t :: ts, u :: us, 0, _, _, _, e => by simp only [List.getElem_cons_zero] at e; simp [befL, e]
  | t :: ts, u :: us, k + 1, h, h', h0, e => by
    have e0 := h0 0 (by omega)
    simp only [List.getElem_cons_zero] at e0
    simp only [List.getElem_cons_succ] at e
    have := befL_hit (ts := ts) (us := us) (k := k) (by simpa using h) (by simpa using h') (fun j hj => by have := h0 (j + 1) (by omega); simpa using this) e
    simp [befL, e0, this]
  | [], _, _, h, _, _, _ => by simp at h
  | _ :: _, [], _, _, h', _, _ => by simp at h'

theorem befL_all : ∀ {ts us : List TermD}, (∀ k, (h : k < ts.length) → (h' : k < us.length) → sameT ts[k] us[k] = true) → befL ts us = false
  | [], us, _ => by simp [befL]
  | t :: ts, [], _ => by simp [befL]
  | t :: ts, u :: us, hall => by
    have h0 := hall 0 (by simp) (by simp)
    have h1 := befL_all (ts := ts) (us := us) (fun k hk hk' => by have := hall (k + 1) (by simpa using hk) (by simpa using hk'); simpa using this)
    simp only [List.getElem_cons_zero] at h0
    simp [befL, h0, h1]

mutual
/-- How often variable v stands in a term. -/
def cntT (v : Int) : TermD → Nat
  | .mk f u ks => (if f = -1 ∧ u = v then 1 else 0) + cntL v ks
def cntL (v : Int) : List TermD → Nat
  | [] => 0
  | t :: ts => cntT v t + cntL v ts
end

theorem cntT_eq (v : Int) (t : TermD) : cntT v t = (if t.f = -1 ∧ t.v = v then 1 else 0) + cntL v t.kids := by cases t; rw [cntT]; rfl
theorem cntL_append (v : Int) (a b : List TermD) : cntL v (a ++ b) = cntL v a + cntL v b := by
  induction a with
  | nil => simp [cntL]
  | cons t ts ih => simp only [List.cons_append, cntL, ih]; omega
theorem cntL_next (v : Int) {ts : List TermD} {k : Nat} (h : k < ts.length) : cntL v (ts.take (k + 1)) = cntL v (ts.take k) + cntT v ts[k] := by
  rw [List.take_succ_eq_append_getElem h, cntL_append]
  simp [cntL]
mutual
theorem cntT_le (v : Int) : ∀ t : TermD, cntT v t ≤ partsT t
  | .mk f u ks => by
    have := cntL_le v ks
    simp only [cntT, partsT]
    split <;> omega
theorem cntL_le (v : Int) : ∀ ts : List TermD, cntL v ts ≤ partsL ts
  | [] => by simp [cntL]
  | t :: ts => by
    have h1 := cntT_le v t
    have h2 := cntL_le v ts
    simp only [cntL, partsL]; omega
end
end Go.Proofs.YthbilahilmmfmabGreat

/- Terms that own their memory: no two parts of one lie in one block. Conditions: none. -/
namespace Go.Proofs.YthbilahilmmfmabGreat
set_option maxRecDepth 100000
open Go.RowKit

/-- The slice of terms that begins at 'a' reads in w as ts; its blocks are among S, and no two of its parts share one. -/
inductive OwnS (w : World) : (Nat → Prop) → Option Addr → List TermD → Prop
  | nil (S : Nat → Prop) (a : Option Addr) : OwnS w S a []
  | row (S : Nat → Prop) (b off : Nat) (ts : List TermD) (A : Nat → Option Addr) (C : Nat → Nat) (K : Nat → Nat → Prop) (hb : S b) (hlt : b < w.heap.size) (hl : ts.length ≤ 9223372036854775807 ∧ ∀ i, (h : i < ts.length) → ts[i].kids.length ≤ C i) (hz : ∀ i, (h : i < ts.length) → isW ts[i].f ∧ isW ts[i].v)
      (hc : ∀ i, (h : i < ts.length) → w.cell? ⟨b, off + i * 3, none⟩ = some (.int .i64 ts[i].f) ∧ w.cell? ⟨b, off + i * 3 + 1, none⟩ = some (.int .i64 ts[i].v) ∧ w.cell? ⟨b, off + i * 3 + 2, none⟩ = some (.slice (A i) ts[i].kids.length (C i)))
      (hf : ∀ j, w.frozen? ⟨b, j, none⟩ = false)
      (hsub : ∀ i x, i < ts.length → K i x → S x ∧ x ≠ b) (hdis : ∀ i j x, i < ts.length → j < ts.length → i ≠ j → K i x → ¬ K j x)
      (hk : ∀ i, (h : i < ts.length) → OwnS w (K i) (A i) ts[i].kids) : OwnS w S (some ⟨b, off, none⟩) ts

/-- Whatever leaves the blocks of S as they were leaves it. -/
theorem OwnS.frame {w w' : World} {S : Nat → Prop} {a : Option Addr} {ts : List TermD} (h : OwnS w S a ts) (hs : ∀ x, S x → w'.heap[x]? = w.heap[x]?) (hz : w.heap.size ≤ w'.heap.size) : OwnS w' S a ts := by
  induction h with
  | nil S a => exact .nil S a
  | row S b off ts A C K hb hlt hl hz' hc hf hsub hdis hk ih =>
    have e := hs b hb
    refine .row S b off ts A C K hb (Nat.lt_of_lt_of_le hlt hz) hl hz' (fun i h => ?_) (fun j => ?_) hsub hdis (fun i h => ih i h (fun x hx => hs x (hsub i x h hx).1))
    · obtain ⟨h0, h1, h2⟩ := hc i h
      exact ⟨(World.cell?_of_block (a := ⟨b, _, none⟩) e).trans h0, (World.cell?_of_block (a := ⟨b, _, none⟩) e).trans h1, (World.cell?_of_block (a := ⟨b, _, none⟩) e).trans h2⟩
    · exact (World.frozen?_of_block (a := ⟨b, j, none⟩) e).trans (hf j)

theorem OwnS.mono {w : World} {S S' : Nat → Prop} {a : Option Addr} {ts : List TermD} (h : OwnS w S a ts) (hs : ∀ x, S x → S' x) : OwnS w S' a ts := by
  cases h with
  | nil S a => exact .nil S' a
  | row S b off ts A C K hb hlt hl hz' hc hf hsub hdis hk => exact .row S' b off ts A C K (hs b hb) hlt hl hz' hc hf (fun i x h hx => ⟨hs x (hsub i x h hx).1, (hsub i x h hx).2⟩) hdis hk

theorem OwnS.rd {w : World} {S : Nat → Prop} {a : Option Addr} {ts : List TermD} (h : OwnS w S a ts) : RdK w w.heap.size a ts := by
  induction h with
  | nil S a => exact .nil a
  | row S b off ts A C K hb hlt hl hz hc hf hsub hdis hk ih => exact .row b off ts A C hlt hl hz hc ih

theorem OwnS.on {w w' : World} {lo hi : Nat} {a : Option Addr} {ts : List TermD} (h : OwnS w (fun x => lo ≤ x ∧ x < hi) a ts) (hb : Below hi w w') : OwnS w' (fun x => lo ≤ x ∧ x < hi) a ts :=
  h.frame (fun x hx => hb.block x hx.2) hb.size

theorem set3_cells {u : World} {r : Nat} {x y z p q s : Value} (h0 : u.cell? ⟨r, 0, none⟩ = some p) (h1 : u.cell? ⟨r, 1, none⟩ = some q) (h2 : u.cell? ⟨r, 2, none⟩ = some s) :
    (((u.setCell ⟨r, 0, none⟩ x).setCell ⟨r, 1, none⟩ y).setCell ⟨r, 2, none⟩ z).cell? ⟨r, 0, none⟩ = some x ∧ (((u.setCell ⟨r, 0, none⟩ x).setCell ⟨r, 1, none⟩ y).setCell ⟨r, 2, none⟩ z).cell? ⟨r, 1, none⟩ = some y ∧ (((u.setCell ⟨r, 0, none⟩ x).setCell ⟨r, 1, none⟩ y).setCell ⟨r, 2, none⟩ z).cell? ⟨r, 2, none⟩ = some z := by
  refine ⟨?_, ?_, ?_⟩
  · rw [World.cell?_setCell_other _ _ _ _ (by simp), World.cell?_setCell_other _ _ _ _ (by simp)]
    exact World.cell?_setCell_same _ _ _ h0
  · rw [World.cell?_setCell_other _ _ _ _ (by simp)]
    exact World.cell?_setCell_same _ _ _ (by rw [World.cell?_setCell_other _ _ _ _ (by simp)]; exact h1)
  · exact World.cell?_setCell_same _ _ _ (by rw [World.cell?_setCell_other _ _ _ _ (by simp), World.cell?_setCell_other _ _ _ _ (by simp)]; exact h2)

/-- Stores into blocks that are not among S. -/
theorem OwnS.setCell {w : World} {S : Nat → Prop} {a : Option Addr} {ts : List TermD} (h : OwnS w S a ts) (p : Addr) (hp : ¬ S p.block) (u : Value) : OwnS (w.setCell p u) S a ts :=
  h.frame (fun x hx => Below.heap_setCell w p u x (fun e => hp (e ▸ hx))) (by simp)

/-- Three cells an element. -/
def cs3 (l : List (Value × Value × Value)) : List Value := l.flatMap fun t => [t.1, t.2.1, t.2.2]

theorem cs3_len (l : List (Value × Value × Value)) : (cs3 l).length = l.length * 3 := by
  induction l with
  | nil => rfl
  | cons t l ih => simp only [cs3, List.flatMap_cons, List.length_append] at *; rw [ih]; simp; omega

theorem cs3_set (t : Value × Value × Value) : ∀ (l : List (Value × Value × Value)) (k : Nat), k < l.length → (((cs3 l).set (k * 3) t.1).set (k * 3 + 1) t.2.1).set (k * 3 + 2) t.2.2 = cs3 (l.set k t)
  | [], k, h => by simp at h
  | x :: l, 0, _ => by simp [cs3]
  | x :: l, k + 1, h => by
    have ih := cs3_set t l k (by simpa using h)
    have e : ∀ (m : Nat) (L : List Value) (v : Value), ([x.1, x.2.1, x.2.2] ++ L).set (m + 3) v = [x.1, x.2.1, x.2.2] ++ L.set m v := by intro m L v; simp
    have e0 : (k + 1) * 3 = k * 3 + 3 := by omega
    rw [List.set_cons_succ]
    simp only [cs3, List.flatMap_cons] at *
    rw [e0, e, show k * 3 + 3 + 1 = (k * 3 + 1) + 3 by omega, e, show k * 3 + 3 + 2 = (k * 3 + 2) + 3 by omega, e, ih]

theorem cs3_get : ∀ (l : List (Value × Value × Value)) (k : Nat), (h : k < l.length) → (cs3 l)[k * 3]? = some l[k].1 ∧ (cs3 l)[k * 3 + 1]? = some l[k].2.1 ∧ (cs3 l)[k * 3 + 2]? = some l[k].2.2
  | [], k, h => by simp at h
  | x :: l, 0, _ => by simp [cs3]
  | x :: l, k + 1, h => by
    have ih := cs3_get l k (by simpa using h)
    have e : ∀ (m : Nat) (L : List Value), ([x.1, x.2.1, x.2.2] ++ L)[m + 3]? = L[m]? := by
      intro m L
      rw [List.getElem?_append_right (by simp)]
      simp
    have e0 : (k + 1) * 3 = k * 3 + 3 := by omega
    simp only [cs3, List.flatMap_cons, List.getElem_cons_succ] at *
    rw [e0, e, show k * 3 + 3 + 1 = (k * 3 + 1) + 3 by omega, e, show k * 3 + 3 + 2 = (k * 3 + 2) + 3 by omega, e]
    exact ih

theorem cs3_made (a b c : Value) : ∀ (n : Nat), (madeCells #[a, b, c] (n * 3)).toList = cs3 (List.replicate n (a, b, c))
  | 0 => by simp [madeCells, cs3]
  | n + 1 => by
    have ih := cs3_made a b c n
    rw [List.replicate_succ', cs3, List.flatMap_append]
    rw [cs3] at ih
    rw [← ih]
    have e0 : (n + 1) * 3 = n * 3 + 1 + 1 + 1 := by omega
    rw [e0]
    simp only [madeCells, Array.toList_map, Array.toList_range, List.range_succ, List.map_append, List.map_cons, List.map_nil, List.append_assoc]
    have m0 : n * 3 % 3 = 0 := by omega
    have m1 : (n * 3 + 1) % 3 = 1 := by omega
    have m2 : (n * 3 + 1 + 1) % 3 = 2 := by omega
    simp [m0, m1, m2]

theorem own_on {w w' : World} {base : Nat} {e : TypeId} {size : Nat} {v : Value} {n : Nat} {xs : List Value} (h : w.ownsRow base e size v n xs) (hb : Below w.heap.size w w') : w'.ownsRow base e size v n xs := by
  have hl := h.lt
  obtain ⟨h1, h2⟩ := h
  refine ⟨h1, ?_⟩
  rcases h2 with h2 | ⟨g, cap, cur, rfl, hg, hh, r⟩
  · exact .inl h2
  · exact .inr ⟨g, cap, cur, rfl, hg, by rw [hb.block g (hl g rfl).2]; exact hh, r⟩

theorem cs3_store {w : World} {T : TypeId} {B g c n : Nat} {l : List (Value × Value × Value)} (t : Value × Value × Value) {k : Nat} (hk : k < l.length) (h : w.ownsRow B T 3 (.slice (some ⟨g, 0, none⟩) n c) n (cs3 l)) :
    (((w.setCell ⟨g, k * 3, none⟩ t.1).setCell ⟨g, k * 3 + 1, none⟩ t.2.1).setCell ⟨g, k * 3 + 2, none⟩ t.2.2).ownsRow B T 3 (.slice (some ⟨g, 0, none⟩) n c) n (cs3 (l.set k t)) := by
  have h1 := (((h.stored (k * 3) t.1).1.stored (k * 3 + 1) t.2.1).1.stored (k * 3 + 2) t.2.2).1
  rwa [cs3_set t l k hk] at h1

theorem cs3_cells {w : World} {T : TypeId} {B g c n : Nat} {l : List (Value × Value × Value)} {k : Nat} (hn : n = l.length) (hk : k < l.length) (h : w.ownsRow B T 3 (.slice (some ⟨g, 0, none⟩) n c) n (cs3 l)) :
    w.cell? ⟨g, k * 3, none⟩ = some l[k].1 ∧ w.cell? ⟨g, k * 3 + 1, none⟩ = some l[k].2.1 ∧ w.cell? ⟨g, k * 3 + 2, none⟩ = some l[k].2.2 := by
  obtain ⟨g0, g1, g2⟩ := cs3_get l k hk
  exact ⟨(h.cellAt _ (by omega)).trans g0, (h.cellAt _ (by omega)).trans g1, (h.cellAt _ (by omega)).trans g2⟩

/-- The elements of a copy when its first k have been laid. -/
def laidTo (ts : List TermD) (A : Nat → Option Addr) (k : Nat) : List (Value × Value × Value) :=
  (List.range ts.length).map fun i => if i < k then (.int .i64 (ts[i]?.getD default).f, .int .i64 (ts[i]?.getD default).v, .slice (A i) (ts[i]?.getD default).kids.length (ts[i]?.getD default).kids.length) else (.int .i64 0, .int .i64 0, .slice none 0 0)

theorem laidTo_len (ts : List TermD) (A : Nat → Option Addr) (k : Nat) : (laidTo ts A k).length = ts.length := by simp [laidTo]

theorem laidTo_zero (ts : List TermD) (A : Nat → Option Addr) : laidTo ts A 0 = List.replicate ts.length (.int .i64 0, .int .i64 0, .slice none 0 0) := by
  unfold laidTo
  apply List.ext_getElem <;> simp

theorem laidTo_set (ts : List TermD) (A : Nat → Option Addr) {k : Nat} (h : k < ts.length) (a : Option Addr) :
    (laidTo ts A k).set k (.int .i64 ts[k].f, .int .i64 ts[k].v, .slice a ts[k].kids.length ts[k].kids.length) = laidTo ts (fun i => if i = k then a else A i) (k + 1) := by
  unfold laidTo
  apply List.ext_getElem
  · simp
  · intro i h1 h2
    simp only [List.length_set, List.length_map, List.length_range] at h1
    rw [List.getElem_set]
    by_cases e : k = i
    · subst e
      simp [h]
    · rw [if_neg e]
      simp only [List.getElem_map, List.getElem_range]
      have e2 : ¬ i = k := fun h => e h.symm
      by_cases hi : i < k
      · simp [hi, e2, show i < k + 1 by omega]
      · simp [hi, show ¬ i < k + 1 by omega]
end Go.Proofs.YthbilahilmmfmabGreat

/- How a term that came in as an argument is opened: its cells, all the way down. Conditions: none. -/
namespace Go.Proofs.YthbilahilmmfmabGreat
set_option maxRecDepth 100000
open Go.RowKit Go.ChangeShapes Go.WideShapes Go.ChangeAt

theorem cellsT : Tryz.prog.cellsOf 26 = 3 := by kernel_rfl
theorem cellsI : Tryz.prog.cellsOf 3 = 1 := by kernel_rfl
theorem cellsK : Tryz.prog.cellsOf 24 = 1 := by kernel_rfl

theorem isW_of {z : Int} (h : (Lit.int .i64 z).wf = true) : isW z := by
  simp [Lit.wf, IntKind.min, IntKind.max, IntKind.signed, IntKind.bits] at h
  exact ⟨by omega, by omega⟩

set_option maxRecDepth 100000 in
/-- The three cells of a term, given what its list of kids reads as. -/
theorem term_trod {H : Type} {enc : TypeId × Value → H} {W : World} {base : Nat} {spare : Nat → Bool} {held : Bool} {fuel : Nat} {cs : List Value} {x : DataW H × List MemPlace}
    (h : DataW.trod enc Tryz.prog W base spare held fuel 26 cs = some x)
    (K : ∀ m, m < fuel → ∀ (cs : List Value) (x : DataW H × List MemPlace), DataW.trod enc Tryz.prog W base spare held m 24 cs = some x → ∃ a n cap ts, cs = [.slice a n cap] ∧ n = ts.length ∧ (n ≤ maxLen ∧ n ≤ cap) ∧ RdK W W.heap.size a ts) :
    ∃ (t : TermD) (a : Option Addr) (c : Nat), cs = [.int .i64 t.f, .int .i64 t.v, .slice a t.kids.length c] ∧ isW t.f ∧ isW t.v ∧ (t.kids.length ≤ maxLen ∧ t.kids.length ≤ c) ∧ RdK W W.heap.size a t.kids := by
  obtain ⟨xs, m, rfl, rfl, hlen, hxl, hf⟩ := DataW.trod_struct Tryz.underlying26 h
  rw [cellsT] at hlen
  match cs, hlen with
  | [c0, c1, c2], _ =>
    match xs, hxl with
    | [y0, y1, y2], _ =>
      have h0 : DataW.trod enc Tryz.prog W base spare held m 3 [c0] = some y0 := by have := hf 0 _ rfl; simpa [cellsI] using this
      have h1 : DataW.trod enc Tryz.prog W base spare held m 3 [c1] = some y1 := by have := hf 1 _ rfl; simpa [cellsI] using this
      have h2 : DataW.trod enc Tryz.prog W base spare held m 24 [c2] = some y2 := by have := hf 2 _ rfl; simpa [cellsK] using this
      obtain ⟨z0, e0, _, w0⟩ := DataW.trod_int Tryz.underlying3 h0
      obtain ⟨z1, e1, _, w1⟩ := DataW.trod_int Tryz.underlying3 h1
      obtain ⟨a, n, cap, ts, e2, hn, hm, hr⟩ := K m (by omega) _ _ h2
      simp at e0 e1 e2
      subst e0 e1 e2 hn
      exact ⟨.mk z0 z1 ts, a, cap, rfl, isW_of w0, isW_of w1, hm, hr⟩

theorem kids_trod {H : Type} {enc : TypeId × Value → H} {W : World} {base : Nat} {spare : Nat → Bool} {held : Bool} : ∀ (fuel : Nat) (cs : List Value) (x : DataW H × List MemPlace),
    DataW.trod enc Tryz.prog W base spare held fuel 24 cs = some x → ∃ a n cap ts, cs = [.slice a n cap] ∧ n = ts.length ∧ (n ≤ maxLen ∧ n ≤ cap) ∧ RdK W W.heap.size a ts := by
  intro fuel
  induction fuel using Nat.strongRecOn with
  | ind fuel ih =>
    intro cs x h
    rcases DataW.trod_slice Tryz.underlying24 h with ⟨rfl, _⟩ | ⟨x0, len, cap, elems, rest, n, rfl, rfl, _, hb, hl, hm, hlen, hel, _, _⟩
    · exact ⟨none, 0, 0, [], rfl, rfl, ⟨Nat.zero_le _, Nat.zero_le _⟩, .nil _⟩
    · rw [cellsT] at hel
      have hall : ∀ i, i < len → ∃ y : TermD × Option Addr × Nat, W.cells? base (x0.add (i * 3)) 3 = some [.int .i64 y.1.f, .int .i64 y.1.v, .slice y.2.1 y.1.kids.length y.2.2] ∧ isW y.1.f ∧ isW y.1.v ∧ RdK W W.heap.size y.2.1 y.1.kids ∧ y.1.kids.length ≤ y.2.2 := by
        intro i hi
        have h1 := hel i hi
        rw [List.getElem?_eq_getElem (by omega)] at h1
        obtain ⟨cs', g1, g2⟩ := Option.bind_eq_some_iff.1 h1
        obtain ⟨t, a, c, rfl, q1, q2, ⟨_, q4⟩, q3⟩ := term_trod g2 (fun m hm cs x hx => ih m (by omega) cs x hx)
        exact ⟨⟨t, a, c⟩, g1, q1, q2, q3, q4⟩
      obtain ⟨F, hF⟩ := Deep.choose_lt hall
      refine ⟨some x0, len, cap, (List.range len).map (fun i => (F i).1), rfl, by simp, ⟨by omega, by omega⟩, ?_⟩
      by_cases h0 : len = 0
      · subst h0; exact .nil _
      · have hcell : ∀ i, (hi : i < len) → ∀ j, j < 3 → W.cell? ((x0.add (i * 3)).add j) = [Value.int .i64 (F i).1.f, .int .i64 (F i).1.v, .slice (F i).2.1 (F i).1.kids.length (F i).2.2][j]? := fun i hi j hj => (World.cells?_some (hF i hi).1).2.2 j hj
        obtain ⟨b, off, spot⟩ := x0
        have hc0 := hcell 0 (by omega) 0 (by omega)
        have h1 : W.cell? (⟨b, off, spot⟩ : Addr) = some (.int .i64 (F 0).1.f) := by simpa [Addr.add] using hc0
        have hspot : spot = none := by simpa using World.cell?_spot h1
        subst hspot
        have hadd : ∀ i j, ((⟨b, off, none⟩ : Addr).add i).add j = ⟨b, off + i + j, none⟩ := by
          intro i j
          by_cases h1 : i = 0 <;> by_cases h2 : j = 0 <;> simp [Addr.add, h1, h2, Nat.add_assoc]
        have hbl : b < W.heap.size := World.block_lt_of_cell? _ _ h1
        refine .row b off _ (fun i => (F i).2.1) (fun i => (F i).2.2) hbl ⟨by simp; unfold maxLen at hm; omega, fun i hi => by simp at hi; simp only [List.getElem_map, List.getElem_range]; exact (hF i hi).2.2.2.2⟩ (fun i hi => ?_) (fun i hi => ?_) (fun i hi => ?_)
        · simp at hi
          simp only [List.getElem_map, List.getElem_range]
          exact ⟨(hF i hi).2.1, (hF i hi).2.2.1⟩
        · simp at hi
          simp only [List.getElem_map, List.getElem_range]
          have g0 := hcell i hi 0 (by omega)
          have g1 := hcell i hi 1 (by omega)
          have g2 := hcell i hi 2 (by omega)
          rw [hadd] at g0 g1 g2
          exact ⟨by simpa using g0, by simpa using g1, by simpa using g2⟩
        · simp at hi
          simp only [List.getElem_map, List.getElem_range]
          exact (hF i hi).2.2.2.1

theorem open_term {H : Type} {enc : TypeId × Value → H} {W : World} {base : Nat} {spare : Nat → Bool} {held : Bool} {v : Value} {d : DataW H} {p : List MemPlace} {cs : Array Value} (hv : v = .agg cs)
    (h : DataW.Trod enc Tryz.prog W base spare held 26 v d p) : ∃ (t : TermD) (a : Option Addr) (c : Nat), v = .agg #[.int .i64 t.f, .int .i64 t.v, .slice a t.kids.length c] ∧ isW t.f ∧ isW t.v ∧ (t.kids.length ≤ maxLen ∧ t.kids.length ≤ c) ∧ RdK W W.heap.size a t.kids := by
  subst hv
  obtain ⟨fuel, hf⟩ := h
  obtain ⟨t, a, c, e, r⟩ := term_trod hf (fun m _ cs x hx => kids_trod m cs x hx)
  refine ⟨t, a, c, ?_, r⟩
  have e2 : cs.toList = [.int .i64 t.f, .int .i64 t.v, .slice a t.kids.length c] := by simpa [Value.cells] using e
  rw [show cs = #[.int .i64 t.f, .int .i64 t.v, .slice a t.kids.length c] from Array.toList_inj.1 e2]
end Go.Proofs.YthbilahilmmfmabGreat

/- Contracts of the laws' helpers on terms: how much one holds. Conditions: none beyond the reading's. -/
namespace Go.Proofs.YthbilahilmmfmabGreat
set_option maxRecDepth 100000
open Go.RowKit

theorem rt_int {a b : Int} (h : a = b) : Ending.returned (.int .i64 a) = .returned (.int .i64 b) := by rw [h]

set_option maxHeartbeats 1600000 in
theorem szTerm_of (t : TermD) (a : Option Addr) (c : Nat) (m : Int) (w : World)
    (H : ∀ w', Below w.heap.size w w' → Calls Tryz.prog 17 #[.slice a t.kids.length c, .int .i64 m] w' fun e w'' => e = .returned (.int .i64 (szR t.kids m)) ∧ Below w'.heap.size w' w'') :
    Calls Tryz.prog 6 #[.agg #[.int .i64 t.f, .int .i64 t.v, .slice a t.kids.length c], .int .i64 m] w fun e w' => e = .returned (.int .i64 (szR t.kids m)) ∧ Below w.heap.size w w' := by
  have h0 : Below w.heap.size w (w.alloc (.cells #[.int .i64 t.f, .int .i64 t.v, .slice a t.kids.length c] 26)) := (Below.refl w.heap.size w).alloc (Nat.le_refl _) _
  have H1 := H _ h0
  clear H
  have hr : szR t.kids m < 0 → szR t.kids m = -1 := by unfold szR; split <;> omega
  generalize szR t.kids m = r at *
  by_cases hn : r < 0
  · have hr1 := hr hn
    subst hr1
    clear hr
    go_enter Tryz.func6, Tryz.ntmps6
    go_wp2_with (go_at_call 17; refine H1.mono ?_; rintro e w1 ⟨rfl, hb1⟩; clear H1)
    go_ret
    exact ⟨rfl, h0.trans (hb1.mono h0.size)⟩
  · clear hr
    go_enter Tryz.func6, Tryz.ntmps6
    go_wp2_with (go_at_call 17; refine H1.mono ?_; rintro e w1 ⟨rfl, hb1⟩; clear H1)
    go_ret
    exact ⟨rfl, h0.trans (hb1.mono h0.size)⟩

set_option maxHeartbeats 1600000 in
theorem szTermS_any (N : Nat) : ∀ (ts : List TermD) (a : Option Addr) (c hi : Nat) (m : Int) (w : World), partsL ts ≤ N → 0 ≤ m → m ≤ 1048576 → RdK w hi a ts → hi ≤ w.heap.size →
    Calls Tryz.prog 17 #[.slice a ts.length c, .int .i64 m] w fun e w' => e = .returned (.int .i64 (szR ts m)) ∧ Below w.heap.size w w' := by
  induction N with
  | zero =>
    intro ts a c hi m w hN hm0 hm hr hhi
    have h1 := partsL_len ts
    have : ts = [] := List.length_eq_zero_iff.1 (by omega)
    subst this
    have HS : Hid (szR [] m = m) := by show _ = _; simp [szR, partsL, hm0]
    have hm0' : ¬ m < 0 := by omega
    go_enter Tryz.func17, Tryz.ntmps17
    go_wp2_with fail
    refine wp_loop_rounds 1 ?_
    rw [rounds_succ]
    go_wp2_with fail
    go_ret
    exact ⟨rt_int HS.out.symm, Below.refl _ _⟩
  | succ N ih =>
    intro ts a c hi m w hN hm0 hm hr hhi
    have hlen := hr.len
    by_cases hbig : m - (ts.length : Int) < 0
    · have HS : Hid (szR ts m = -1) := by show _ = _; have := partsL_len ts; unfold szR; rw [if_neg (by omega)]
      clear hr
      go_enter Tryz.func17, Tryz.ntmps17
      go_wp2_with fail
      go_ret
      exact ⟨rt_int HS.out.symm, Below.refl _ _⟩
    · have HR : Hid (RdK w hi a ts) := hr
      clear hr
      go_enter Tryz.func17, Tryz.ntmps17
      go_wp2_with fail
      go_loopw [1, 5] (fun l i wr => ∃ (k : Nat) (x : Int), k ≤ ts.length ∧ i = .int .i64 k ∧ l = .int .i64 x ∧ 0 ≤ x ∧ x ≤ m ∧ Hid (x = m - ts.length + k - partsL (ts.take k)) ∧ Below w.heap.size w wr) (fun _ i _ => ts.length - (intOf i).toNat)
      case atStart => exact ⟨0, m - ts.length, Nat.zero_le _, rfl, rfl, by omega, by omega, by show _ = _; simp [partsL], Below.refl _ _⟩
      case round =>
        obtain ⟨k, x, hk, rfl, rfl, hx0, hx1, HX, hbr⟩ := hrel
        by_cases hk' : k < ts.length
        · obtain ⟨b, off, a', c', rfl, hlt, d0, d1, d2, hkr⟩ := RdK.kid (HR.out.on (hbr.mono hhi)) hk'
          have hpg := partsL_get hk'
          have hpt := partsT_eq ts[k]
          have hki : (k : Int) < (ts.length : Int) := by omega
          have hwr := Nat.le_trans hhi hbr.size
          have S := szTerm_of ts[k] a' c' x wr (fun w' h => ih ts[k].kids a' c' hi x w' (by omega) hx0 (by omega) (hkr.on (h.mono hwr)) (Nat.le_trans hwr h.size))
          have HP := partsL_next hk'
          have HR2 := partsL_rest ts (k + 1)
          have hxo := HX.out
          by_cases hle : (partsL ts[k].kids : Int) ≤ x
          · have e : szR ts[k].kids x = x - partsL ts[k].kids := by unfold szR; rw [if_pos hle]
            rw [e] at S
            have hnn : ¬ x - (partsL ts[k].kids : Int) < 0 := by omega
            have HX' : Hid (x - (partsL ts[k].kids : Int) = m - ts.length + ((k + 1 : Nat) : Int) - partsL (ts.take (k + 1))) := by show _ = _; omega
            clear hkr hxo HP HR2 hpt e
            go_wp2_with (go_at_call 6; refine S.mono ?_; rintro e w1 ⟨rfl, hb1⟩; clear S)
            go_roundw
            case rel => exact ⟨k + 1, _, by omega, by go_num, rfl, by omega, by omega, HX', hbr.trans (hb1.mono hbr.size)⟩
            case measure => simp [intOf]; omega
          · have e : szR ts[k].kids x = -1 := by unfold szR; rw [if_neg hle]
            rw [e] at S
            have HS : Hid (szR ts m = -1) := by show _ = _; unfold szR; rw [if_neg (by omega)]
            clear hkr hxo HP HR2 hpt e
            go_wp2_with (go_at_call 6; refine S.mono ?_; rintro e w1 ⟨rfl, hb1⟩; clear S)
            go_ret
            exact ⟨rt_int HS.out.symm, hbr.trans (hb1.mono hbr.size)⟩
        · have HS : Hid (szR ts m = x) := by
            show _ = _
            have hxo := HX.out
            have e : k = ts.length := by omega
            rw [e, List.take_length] at hxo
            unfold szR; rw [if_pos (by omega)]; omega
          go_wp2_with fail
          go_ret
          exact ⟨rt_int HS.out.symm, hbr⟩

theorem szTerm_any (t : TermD) (a : Option Addr) (c hi : Nat) (m : Int) (w : World) (hm0 : 0 ≤ m) (hm : m ≤ 1048576) (hr : RdK w hi a t.kids) (hhi : hi ≤ w.heap.size) :
    Calls Tryz.prog 6 #[.agg #[.int .i64 t.f, .int .i64 t.v, .slice a t.kids.length c], .int .i64 m] w fun e w' => e = .returned (.int .i64 (szR t.kids m)) ∧ Below w.heap.size w w' :=
  szTerm_of t a c m w (fun w' h => szTermS_any (partsL t.kids) t.kids a c hi m w' (Nat.le_refl _) hm0 hm (hr.on (h.mono hhi)) (Nat.le_trans hhi h.size))
end Go.Proofs.YthbilahilmmfmabGreat

/- What is put for variables, as data: a list of numbers and terms, how it lies in memory, how it came in as an argument. Conditions: none. -/
namespace Go.Proofs.YthbilahilmmfmabGreat
set_option maxRecDepth 100000
open Go.RowKit

structure BindD where
  n : Int
  t : TermD
instance : Inhabited BindD := ⟨⟨0, .mk 0 0 []⟩⟩

/-- The slice of Binds that begins at 'a' reads in w as us; all below hi. -/
inductive RdU (w : World) (hi : Nat) : Option Addr → List BindD → Prop
  | nil (a : Option Addr) : RdU w hi a []
  | row (b off : Nat) (us : List BindD) (A : Nat → Option Addr) (C : Nat → Nat) (hlt : b < hi) (hl : us.length ≤ 9223372036854775807 ∧ ∀ i, (h : i < us.length) → us[i].t.kids.length ≤ C i) (hz : ∀ i, (h : i < us.length) → isW us[i].n ∧ isW us[i].t.f ∧ isW us[i].t.v)
      (hc : ∀ i, (h : i < us.length) → w.cell? ⟨b, off + i * 4, none⟩ = some (.int .i64 us[i].n) ∧ w.cell? ⟨b, off + i * 4 + 1, none⟩ = some (.int .i64 us[i].t.f) ∧ w.cell? ⟨b, off + i * 4 + 2, none⟩ = some (.int .i64 us[i].t.v) ∧ w.cell? ⟨b, off + i * 4 + 3, none⟩ = some (.slice (A i) us[i].t.kids.length (C i)))
      (hk : ∀ i, (h : i < us.length) → RdK w hi (A i) us[i].t.kids) : RdU w hi (some ⟨b, off, none⟩) us
theorem RdU.on {w w' : World} {hi : Nat} {a : Option Addr} {us : List BindD} (h : RdU w hi a us) (hb : Below hi w w') : RdU w' hi a us := by
  cases h with
  | nil a => exact .nil a
  | row b off us A C hlt hl hz hc hk =>
    exact .row b off us A C hlt hl hz (fun i hi' => ⟨(hb.cell (p := ⟨b, _, none⟩) hlt).trans (hc i hi').1, (hb.cell (p := ⟨b, _, none⟩) hlt).trans (hc i hi').2.1, (hb.cell (p := ⟨b, _, none⟩) hlt).trans (hc i hi').2.2.1, (hb.cell (p := ⟨b, _, none⟩) hlt).trans (hc i hi').2.2.2⟩) (fun i hi' => (hk i hi').on hb)
theorem RdU.mono {w : World} {hi hi' : Nat} {a : Option Addr} {us : List BindD} (h : RdU w hi a us) (hh : hi ≤ hi') : RdU w hi' a us := by
  cases h with
  | nil a => exact .nil a
  | row b off us A C hlt hl hz hc hk => exact .row b off us A C (Nat.lt_of_lt_of_le hlt hh) hl hz hc (fun i hi' => (hk i hi').mono hh)
theorem RdU.get {w : World} {hi : Nat} {a : Option Addr} {us : List BindD} (h : RdU w hi a us) {i : Nat} (hi' : i < us.length) :
    ∃ b off a' c', a = some ⟨b, off, none⟩ ∧ b < hi ∧ w.cell? ⟨b, off + i * 4, none⟩ = some (.int .i64 us[i].n) ∧ w.cell? ⟨b, off + i * 4 + 1, none⟩ = some (.int .i64 us[i].t.f) ∧ w.cell? ⟨b, off + i * 4 + 2, none⟩ = some (.int .i64 us[i].t.v) ∧ w.cell? ⟨b, off + i * 4 + 3, none⟩ = some (.slice a' us[i].t.kids.length c') ∧ us[i].t.kids.length ≤ c' ∧ RdK w hi a' us[i].t.kids ∧ (isW us[i].n ∧ isW us[i].t.f ∧ isW us[i].t.v) := by
  cases h with
  | nil a => simp at hi'
  | row b off us A C hlt hl hz hc hk => exact ⟨b, off, A i, C i, rfl, hlt, (hc i hi').1, (hc i hi').2.1, (hc i hi').2.2.1, (hc i hi').2.2.2, hl.2 i hi', hk i hi', hz i hi'⟩

/-- It owns its memory: its blocks are among S, and no two of its parts share one. -/
inductive OwnU (w : World) : (Nat → Prop) → Option Addr → List BindD → Prop
  | nil (S : Nat → Prop) (a : Option Addr) : OwnU w S a []
  | row (S : Nat → Prop) (b off : Nat) (us : List BindD) (A : Nat → Option Addr) (C : Nat → Nat) (K : Nat → Nat → Prop) (hb : S b) (hlt : b < w.heap.size) (hl : us.length ≤ 9223372036854775807 ∧ ∀ i, (h : i < us.length) → us[i].t.kids.length ≤ C i) (hz : ∀ i, (h : i < us.length) → isW us[i].n ∧ isW us[i].t.f ∧ isW us[i].t.v)
      (hc : ∀ i, (h : i < us.length) → w.cell? ⟨b, off + i * 4, none⟩ = some (.int .i64 us[i].n) ∧ w.cell? ⟨b, off + i * 4 + 1, none⟩ = some (.int .i64 us[i].t.f) ∧ w.cell? ⟨b, off + i * 4 + 2, none⟩ = some (.int .i64 us[i].t.v) ∧ w.cell? ⟨b, off + i * 4 + 3, none⟩ = some (.slice (A i) us[i].t.kids.length (C i)))
      (hf : ∀ j, w.frozen? ⟨b, j, none⟩ = false)
      (hsub : ∀ i x, i < us.length → K i x → S x ∧ x ≠ b) (hdis : ∀ i j x, i < us.length → j < us.length → i ≠ j → K i x → ¬ K j x)
      (hk : ∀ i, (h : i < us.length) → OwnS w (K i) (A i) us[i].t.kids) : OwnU w S (some ⟨b, off, none⟩) us
theorem OwnU.frame {w w' : World} {S : Nat → Prop} {a : Option Addr} {us : List BindD} (h : OwnU w S a us) (hs : ∀ x, S x → w'.heap[x]? = w.heap[x]?) (hz : w.heap.size ≤ w'.heap.size) : OwnU w' S a us := by
  cases h with
  | nil a => exact .nil _ a
  | row b off us A C K hb hlt hl hz' hc hf hsub hdis hk =>
    have e := hs b hb
    exact .row _ b off us A C K hb (Nat.lt_of_lt_of_le hlt hz) hl hz' (fun i h => ⟨(World.cell?_of_block (a := ⟨b, _, none⟩) e).trans (hc i h).1, (World.cell?_of_block (a := ⟨b, _, none⟩) e).trans (hc i h).2.1, (World.cell?_of_block (a := ⟨b, _, none⟩) e).trans (hc i h).2.2.1, (World.cell?_of_block (a := ⟨b, _, none⟩) e).trans (hc i h).2.2.2⟩) (fun j => (World.frozen?_of_block (a := ⟨b, j, none⟩) e).trans (hf j)) hsub hdis (fun i h => (hk i h).frame (fun x hx => hs x (hsub i x h hx).1) hz)
theorem OwnU.rd {w : World} {S : Nat → Prop} {a : Option Addr} {us : List BindD} (h : OwnU w S a us) : RdU w w.heap.size a us := by
  cases h with
  | nil a => exact .nil a
  | row b off us A C K hb hlt hl hz hc hf hsub hdis hk => exact .row b off us A C hlt hl hz hc (fun i h => (hk i h).rd)

/-- How much it holds. -/
def partsU (us : List BindD) : Nat := us.length + (us.map (fun u => partsL u.t.kids)).sum
theorem sum_nextU {us : List BindD} {k : Nat} (h : k < us.length) : ((us.take (k + 1)).map (fun u => partsL u.t.kids)).sum = ((us.take k).map (fun u => partsL u.t.kids)).sum + partsL us[k].t.kids := by
  rw [List.take_succ_eq_append_getElem h, List.map_append, List.sum_append]; simp only [List.map_cons, List.map_nil, List.sum_cons, List.sum_nil, Nat.add_zero]
theorem sum_takeU (us : List BindD) (k : Nat) : ((us.take k).map (fun u => partsL u.t.kids)).sum ≤ (us.map (fun u => partsL u.t.kids)).sum := by
  conv => rhs; rw [← List.take_append_drop k us, List.map_append, List.sum_append]
  omega
theorem partsU_get {us : List BindD} {k : Nat} (h : k < us.length) : partsL us[k].t.kids + 1 ≤ partsU us := by
  have h1 := sum_nextU h
  have h2 := sum_takeU us (k + 1)
  unfold partsU
  omega
def szU (us : List BindD) (m : Int) : Int := if (partsU us : Int) ≤ m then m - partsU us else -1

/-- An argument, opened. -/
theorem cellsB : Tryz.prog.cellsOf 48 = 4 := by kernel_rfl
theorem bind_trod {H : Type} {enc : TypeId × Value → H} {W : World} {base : Nat} {spare : Nat → Bool} {held : Bool} {fuel : Nat} {cs : List Value} {x : DataW H × List MemPlace}
    (h : DataW.trod enc Tryz.prog W base spare held fuel 48 cs = some x) :
    ∃ (u : BindD) (a : Option Addr) (c : Nat), cs = [.int .i64 u.n, .int .i64 u.t.f, .int .i64 u.t.v, .slice a u.t.kids.length c] ∧ (isW u.n ∧ isW u.t.f ∧ isW u.t.v) ∧ u.t.kids.length ≤ c ∧ RdK W W.heap.size a u.t.kids := by
  obtain ⟨xs, m, rfl, rfl, hlen, hxl, hf⟩ := DataW.trod_struct Tryz.underlying48 h
  rw [cellsB] at hlen
  match cs, hlen with
  | [c0, c1, c2, c3], _ =>
    match xs, hxl with
    | [y0, y1], _ =>
      have h0 : DataW.trod enc Tryz.prog W base spare held m 3 [c0] = some y0 := by have := hf 0 _ rfl; simpa [cellsI] using this
      have h1 : DataW.trod enc Tryz.prog W base spare held m 26 [c1, c2, c3] = some y1 := by have := hf 1 _ rfl; simpa [cellsT] using this
      obtain ⟨z0, e0, _, w0⟩ := DataW.trod_int Tryz.underlying3 h0
      obtain ⟨t, a, c, e1, q1, q2, q3, q4⟩ := term_trod h1 (fun m _ cs x hx => kids_trod m cs x hx)
      simp at e0 e1
      obtain ⟨e1, e2, e3⟩ := e1
      subst e0 e1 e2 e3
      exact ⟨⟨z0, t⟩, a, c, rfl, ⟨isW_of w0, q1, q2⟩, q3.2, q4⟩
theorem open_binds {H : Type} {enc : TypeId × Value → H} {W : World} {base : Nat} {spare : Nat → Bool} {held : Bool} {v : Value} {d : DataW H} {p : List MemPlace} {a : Option Addr} {len cap : Nat} (hv : v = .slice a len cap)
    (h : DataW.Trod enc Tryz.prog W base spare held 23 v d p) : ∃ us : List BindD, len = us.length ∧ (len ≤ maxLen ∧ len ≤ cap) ∧ RdU W W.heap.size a us := by
  subst hv
  obtain ⟨fuel, hf⟩ := h
  rcases DataW.trod_slice Tryz.underlying23 hf with ⟨e, _⟩ | ⟨x0, l, c, elems, rest, n, rfl, e, _, hb, hl, hm, hlen, hel, _, _⟩
  · simp [Value.cells] at e
    obtain ⟨rfl, rfl, rfl⟩ := e
    exact ⟨[], rfl, ⟨Nat.zero_le _, Nat.zero_le _⟩, .nil _⟩
  · simp [Value.cells] at e
    obtain ⟨rfl, rfl, rfl⟩ := e
    rw [cellsB] at hel
    have hall : ∀ i, i < len → ∃ y : BindD × Option Addr × Nat, W.cells? base (x0.add (i * 4)) 4 = some [.int .i64 y.1.n, .int .i64 y.1.t.f, .int .i64 y.1.t.v, .slice y.2.1 y.1.t.kids.length y.2.2] ∧ (isW y.1.n ∧ isW y.1.t.f ∧ isW y.1.t.v) ∧ RdK W W.heap.size y.2.1 y.1.t.kids ∧ y.1.t.kids.length ≤ y.2.2 := by
      intro i hi
      have h1 := hel i hi
      rw [List.getElem?_eq_getElem (by omega)] at h1
      obtain ⟨cs', g1, g2⟩ := Option.bind_eq_some_iff.1 h1
      obtain ⟨u, a, c, rfl, q1, q2, q3⟩ := bind_trod g2
      exact ⟨⟨u, a, c⟩, g1, q1, q3, q2⟩
    obtain ⟨F, hF⟩ := Deep.choose_lt hall
    refine ⟨(List.range len).map (fun i => (F i).1), by simp, ⟨by omega, by omega⟩, ?_⟩
    by_cases h0 : len = 0
    · subst h0; exact .nil _
    · have hcell : ∀ i, (hi : i < len) → ∀ j, j < 4 → W.cell? ((x0.add (i * 4)).add j) = [Value.int .i64 (F i).1.n, .int .i64 (F i).1.t.f, .int .i64 (F i).1.t.v, .slice (F i).2.1 (F i).1.t.kids.length (F i).2.2][j]? := fun i hi j hj => (World.cells?_some (hF i hi).1).2.2 j hj
      obtain ⟨b, off, spot⟩ := x0
      have hc0 := hcell 0 (by omega) 0 (by omega)
      have h1 : W.cell? (⟨b, off, spot⟩ : Addr) = some (.int .i64 (F 0).1.n) := by simpa [Addr.add] using hc0
      have hspot : spot = none := by simpa using World.cell?_spot h1
      subst hspot
      have hadd : ∀ i j, ((⟨b, off, none⟩ : Addr).add i).add j = ⟨b, off + i + j, none⟩ := by
        intro i j
        by_cases h1 : i = 0 <;> by_cases h2 : j = 0 <;> simp [Addr.add, h1, h2, Nat.add_assoc]
      have hbl : b < W.heap.size := World.block_lt_of_cell? _ _ h1
      refine .row b off _ (fun i => (F i).2.1) (fun i => (F i).2.2) hbl ⟨by simp; unfold maxLen at hm; omega, fun i hi => by simp at hi; simp only [List.getElem_map, List.getElem_range]; exact (hF i hi).2.2.2⟩ (fun i hi => ?_) (fun i hi => ?_) (fun i hi => ?_)
      · simp at hi
        simp only [List.getElem_map, List.getElem_range]
        exact (hF i hi).2.1
      · simp at hi
        simp only [List.getElem_map, List.getElem_range]
        have g0 := hcell i hi 0 (by omega)
        have g1 := hcell i hi 1 (by omega)
        have g2 := hcell i hi 2 (by omega)
        have g3 := hcell i hi 3 (by omega)
        rw [hadd] at g0 g1 g2 g3
        exact ⟨by simpa using g0, by simpa using g1, by simpa using g2, by simpa using g3⟩
      · simp at hi
        simp only [List.getElem_map, List.getElem_range]
        exact (hF i hi).2.2.1
end Go.Proofs.YthbilahilmmfmabGreat

/- A range over a function whose iterator keeps memory of its own: what it promises the loop's body, and what the body promises it, told by sets of blocks; the statement's law. Conditions: none. -/
namespace Go.Proofs.YthbilahilmmfmabGreat
set_option maxRecDepth 100000
open Go.RowKit

/-- All blocks of S lie as they lay. -/
structure Stay (S : Nat → Prop) (w w' : World) : Prop where
  os : w'.os = w.os
  tape : w'.tape = w.tape
  output : w'.output = w.output
  size : w.heap.size ≤ w'.heap.size
  block : ∀ k, k < w.heap.size → S k → w'.heap[k]? = w.heap[k]?

theorem Stay.refl (S : Nat → Prop) (w : World) : Stay S w w := ⟨rfl, rfl, rfl, Nat.le_refl _, fun _ _ _ => rfl⟩
theorem Stay.trans {S : Nat → Prop} {a b c : World} (h : Stay S a b) (k : Stay S b c) : Stay S a c :=
  ⟨k.os.trans h.os, k.tape.trans h.tape, k.output.trans h.output, Nat.le_trans h.size k.size, fun i hi hs => (k.block i (Nat.lt_of_lt_of_le hi h.size) hs).trans (h.block i hi hs)⟩
theorem Stay.weak {S T : Nat → Prop} {a b : World} (h : Stay S a b) (ht : ∀ k, k < a.heap.size → T k → S k) : Stay T a b :=
  ⟨h.os, h.tape, h.output, h.size, fun k hk hs => h.block k hk (ht k hk hs)⟩
theorem Stay.below {S : Nat → Prop} {a b : World} {B : Nat} (h : Stay S a b) (hB : B ≤ a.heap.size) (hs : ∀ k, k < B → S k) : Below B a b :=
  ⟨h.os, h.tape, h.output, h.size, fun k hk => h.block k (by omega) (hs k hk)⟩
theorem Stay.of_below {S : Nat → Prop} {a b : World} {B : Nat} (h : Below B a b) (hs : ∀ k, k < a.heap.size → S k → k < B) : Stay S a b :=
  ⟨h.os, h.tape, h.output, h.size, fun k hk hk' => h.block k (hs k hk hk')⟩
theorem Stay.grown {S : Nat → Prop} {a b : World} {row : Option Nat} (h : a.grownBy b row) (hr : ∀ k, row = some k → ¬ S k) : Stay S a b :=
  ⟨h.os, h.tape, h.output, h.size, fun k hk hs => h.block k hk (fun e => hr k e.symm hs)⟩
theorem Stay.putObj {S : Nat → Prop} (a : World) {r : Nat} (o : Obj) (hr : ¬ S r) : Stay S a (a.putObj r o) :=
  .grown (grownBy_putObj' a r o) (fun k e => by cases e; exact hr)
theorem Stay.setCell {S : Nat → Prop} (a : World) {p : Addr} (v : Value) (hr : ¬ S p.block) : Stay S a (a.setCell p v) :=
  ⟨rfl, rfl, rfl, by simp [World.setCell], fun k _ hs => Below.heap_setCell _ _ _ _ (fun e => hr (e ▸ hs))⟩
theorem Stay.alloc (S : Nat → Prop) (a : World) (o : Obj) : Stay S a (a.alloc o) :=
  ⟨rfl, rfl, rfl, by simp, fun k hk _ => Below.heap_alloc _ _ _ hk⟩
theorem Stay.drew (S : Nat → Prop) (a : World) : Stay S a a.drew := ⟨rfl, rfl, rfl, Nat.le_refl _, fun _ _ _ => rfl⟩
theorem Stay.cell {S : Nat → Prop} {a b : World} (h : Stay S a b) {p : Addr} {v : Value} (hc : a.cell? p = some v) (hs : S p.block) : b.cell? p = some v :=
  (World.cell?_of_block (h.block p.block (World.block_lt_of_cell? a p hc) hs)).trans hc
theorem Stay.frozen {S : Nat → Prop} {a b : World} (h : Stay S a b) {p : Addr} (hl : p.block < a.heap.size) (hs : S p.block) : b.frozen? p = a.frozen? p :=
  World.frozen?_of_block (h.block p.block hl hs)

/-- The iterator's word: whatever stays while the blocks of S do is not turned by it; the body's: below n₀, and outside S, nothing is turned. -/
def SeqPriv {α : Type} (F : Fence) (n : Nat) (P : Program) (g : Nat) (lb : Array Value) (encs : α → Array Value) (n₀ : Nat) (Sa Sp : List α → Prop) (Ok : List α → α → Prop) (N : Nat) (w : World) : Prop :=
  ∀ (l : Nat) (J Jx : List α → (Nat → Prop) → World → Prop) (S₀ : Nat → Prop) (W : World), Below w.heap.size w W →
    (∀ pre S A B, J pre S A → Stay S A B → J pre S B) → (∀ pre S A B, Jx pre S A → Stay S A B → Jx pre S B) → (∀ pre S A, J pre S A → ∀ k, S k → k < A.heap.size) →
    (∀ pre x S A, J pre S A → pre.length < N → Ok pre x → YieldAt F (n - 1) P l (encs x) A fun e B =>
      (e = .returned (.bool true) ∧ ∃ S', J (pre ++ [x]) S' B ∧ (∀ k, S' k → S k ∨ A.heap.size ≤ k) ∧ Stay (fun k => k < n₀ ∨ ¬ S k) A B) ∨
      (e = .returned (.bool false) ∧ ∃ S', Jx (pre ++ [x]) S' B)) →
    J [] S₀ W →
    CallsIn F n P g (#[.func (.yield l) #[] #[]] ++ lb) W fun e B => (∃ v, e = .returned v) ∧ ((∃ xs S', Sa xs ∧ J xs S' B) ∨ (∃ pre S', Sp pre ∧ Jx pre S' B))

/-- How the body of a round may be left. -/
def privPost {α : Type} (n₀ : Nat) (I : List α → (Nat → Prop) → World → Prop) (Ix : Code → List α → (Nat → Prop) → World → Prop) (xs : List α) (S : Nat → Prop) (W : World) : Exit → Act → World → Prop
  | .normal, _, B => ∃ S', I xs S' B ∧ (∀ k, S' k → S k ∨ W.heap.size ≤ k) ∧ Stay (fun k => k < n₀ ∨ ¬ S k) W B
  | .ret, _, B => ∃ S', Ix .ret xs S' B ∧ (∀ k, S' k → S k ∨ W.heap.size ≤ k) ∧ Stay (fun k => k < n₀ ∨ ¬ S k) W B
  | .exit id, _, B => ∃ S', Ix (.exit id) xs S' B ∧ (∀ k, S' k → S k ∨ W.heap.size ≤ k) ∧ Stay (fun k => k < n₀ ∨ ¬ S k) W B
  | .goto t, _, B => ∃ S', Ix (.goto t) xs S' B ∧ (∀ k, S' k → S k ∨ W.heap.size ≤ k) ∧ Stay (fun k => k < n₀ ∨ ¬ S k) W B
  | .panic _, _, _ => False
  | .outgrown, _, _ => False

variable {F : Fence} {n : Nat} {P : Program}

theorem wpIn_rangeFunc_priv {α : Type} {g : Operand} {ps : Array Tmp} {assign body : Code} {Q : Exit → Act → World → Prop} {a : Act} {w : World}
    (hro : F.round = none) (h1 : 1 ≤ n) {gf : Nat} {lb : Array Value} (hg : a.eval g = .func (.func gf) #[] lb) (hFg : F.fn gf) (eg : ∀ args w, (callFunc gf args).run P w = .ok (.enter gf args) w)
    {encs : α → Array Value} {n₀ : Nat} {Sa Sp : List α → Prop} {Ok : List α → α → Prop} {N : Nat} {w0 : World} (hseq : SeqPriv F (n - 1) P gf lb encs n₀ Sa Sp Ok N w0) (hn₀ : n₀ ≤ w.heap.size) (hb0 : Below w0.heap.size w0 w) (hps : ∀ x, (encs x).size = ps.size)
    (I : List α → (Nat → Prop) → World → Prop) (Ix : Code → List α → (Nat → Prop) → World → Prop)
    (hI : ∀ pre S A B, I pre S A → Stay S A B → I pre S B) (hIx : ∀ c pre S A B, Ix c pre S A → Stay S A B → Ix c pre S B)
    (hIb : ∀ pre S A, I pre S A → ∀ k, S k → k < A.heap.size) (S₀ : Nat → Prop) (hS₀ : ∀ k, S₀ k → k < w.heap.size) (h0 : I [] S₀ w)
    (Ax : List α → α → (Nat → Prop) → Act → World → Prop) (hAx : ∀ pre x S a A B, Ax pre x S a A → Stay S A B → Ax pre x S a B)
    (hassign : ∀ (l : Nat) (pre : List α) (x : α) (S : Nat → Prop) (W : World) (K : Act → World → Prop), I pre S W → pre.length < N → Ok pre x →
      (∀ a₁ S₁ W₁, Ax pre x S₁ a₁ W₁ → (∀ k, S₁ k → S k ∨ W.heap.size ≤ k) → Stay (fun k => k < n₀ ∨ ¬ S k) W W₁ → K a₁ W₁) →
      assign.wpIn (F.inRound l) (n - 1 - 1) P (Exit.then K (fun _ _ _ => False)) { tmps := (ps.zip (encs x)).foldl (fun t (p, v) => t.setIfInBounds p v) a.tmps, defers := [] } W)
    (hbody : ∀ (l : Nat) (pre : List α) (x : α) (S : Nat → Prop) (a₁ : Act) (W : World), Ax pre x S a₁ W → pre.length < N → Ok pre x → body.wpIn (F.inRound l) (n - 1 - 1) P (privPost n₀ I Ix (pre ++ [x]) S W) a₁ W)
    (hdone : ∀ (D : Nat) (xs : List α) (S : Nat → Prop) (W : World), Sa xs → I xs S W → W.heap[D]? = some (.deferred (some [])) → w.heap.size ≤ D → ¬ S D → Q .normal { a with defers := { target := .collected D, args := #[] } :: a.defers } W)
    (hstop : ∀ (D : Nat) (c : Code) (pre : List α) (S : Nat → Prop) (W : World), Sp pre → Ix c pre S W → W.heap[D]? = some (.deferred (some [])) → w.heap.size ≤ D → ¬ S D → c.wpIn F n P Q { a with defers := { target := .collected D, args := #[] } :: a.defers } W) :
    (Code.rangeFunc g ps assign body).wpIn F n P Q a w := by
  refine wpIn_rangeFunc ?_
  intro fn hfn
  rw [hro]
  obtain ⟨rec, hrec⟩ : ∃ rec : LoopState → Option Code → Loop, rec = fun st pe => { state := st, pending := pe, fn, tmps := a.tmps, params := ps, assign, body, defers := w.heap.size } := ⟨_, rfl⟩
  obtain ⟨W1, hW1⟩ : ∃ W1, (w.alloc (.deferred (some []))).alloc (.loop (rec .ready none)) = W1 := ⟨_, rfl⟩
  have hL1 : W1.heap[w.heap.size + 1]? = some (.loop (rec .ready none)) := by
    rw [← hW1]; have := World.alloc_heap_new (w.alloc (.deferred (some []))) (.loop (rec .ready none)); rwa [World.size_alloc] at this
  have hK1 : W1.heap[w.heap.size]? = some (.deferred (some [])) := by
    rw [← hW1]; exact (Below.heap_alloc _ _ _ (by simp)).trans (World.alloc_heap_new w _)
  have hI1 : I [] S₀ W1 := by rw [← hW1]; exact hI _ _ _ _ (hI _ _ _ _ h0 (.alloc _ _ _)) (.alloc _ _ _)
  have hb1 : Below w0.heap.size w0 W1 := by
    rw [← hW1]; exact hb0.trans ((((Below.refl _ w).alloc (Nat.le_refl _) _).alloc (by simp) _).mono hb0.size)
  have hsz : ∀ {A : World} {r : Loop}, A.heap[w.heap.size + 1]? = some (.loop r) → w.heap.size + 1 < A.heap.size := fun h => (Array.getElem?_eq_some_iff.1 h).1
  refine ⟨w.heap.size + 1, [{ target := .collected w.heap.size, args := #[] }], W1, { target := .fn (.func gf) lb, args := #[.func (.yield (w.heap.size + 1)) #[] #[]] }, W1, gf,
    #[.func (.yield (w.heap.size + 1)) #[] #[]] ++ lb, W1, ?_, ?_, ?_, ?_, fun _ => h1, ?_⟩
  · rw [← hW1, hrec]; exact run_enterLoop_outer _ _ _ _ _
  · simp only [resolve, hg]
    simp [go_sem]
  · intro f' hf'; simp [Target.leads] at hf'; subst hf'; exact hFg
  · simp [invoke, go_sem, eg]
  · -- the sets: the caller's, and the two blocks of the loop
    have hst : ∀ {A B : World} {T S : Nat → Prop}, (∀ k, S k ↔ T k ∨ k = w.heap.size ∨ k = w.heap.size + 1) → Stay S A B → Stay T A B := fun hS h => h.weak (fun k _ ht => (hS k).2 (.inl ht))
    refine (hseq (w.heap.size + 1)
      (fun pre S W => ∃ T : Nat → Prop, (∀ k, S k ↔ T k ∨ k = w.heap.size ∨ k = w.heap.size + 1) ∧ (∀ k, T k → k ≠ w.heap.size ∧ k ≠ w.heap.size + 1) ∧ I pre T W ∧ W.heap[w.heap.size + 1]? = some (.loop (rec .ready none)) ∧ W.heap[w.heap.size]? = some (.deferred (some [])))
      (fun pre S W => ∃ T : Nat → Prop, (∀ k, S k ↔ T k ∨ k = w.heap.size ∨ k = w.heap.size + 1) ∧ (∀ k, T k → k ≠ w.heap.size ∧ k ≠ w.heap.size + 1) ∧ ∃ c, Ix c pre T W ∧ W.heap[w.heap.size + 1]? = some (.loop (rec .done (some c))) ∧ W.heap[w.heap.size]? = some (.deferred (some [])))
      (fun k => S₀ k ∨ k = w.heap.size ∨ k = w.heap.size + 1) W1 hb1 ?_ ?_ ?_ ?_ ⟨S₀, fun k => Iff.rfl, fun k hk => by have := hS₀ k hk; omega, hI1, hL1, hK1⟩).mono ?_
    · rintro pre S A B ⟨T, hS, hT, hi, hl, hk⟩ h
      have hlt := hsz hl
      exact ⟨T, hS, hT, hI _ _ _ _ hi (hst hS h), (h.block _ hlt ((hS _).2 (.inr (.inr rfl)))).trans hl, (h.block _ (by omega) ((hS _).2 (.inr (.inl rfl)))).trans hk⟩
    · rintro pre S A B ⟨T, hS, hT, c, hi, hl, hk⟩ h
      have hlt := hsz hl
      exact ⟨T, hS, hT, c, hIx _ _ _ _ _ hi (hst hS h), (h.block _ hlt ((hS _).2 (.inr (.inr rfl)))).trans hl, (h.block _ (by omega) ((hS _).2 (.inr (.inl rfl)))).trans hk⟩
    · rintro pre S A ⟨T, hS, hT, hi, hl, hk⟩ k hk'
      have hlt := hsz hl
      rcases (hS k).1 hk' with h | h | h
      · exact hIb _ _ _ hi k h
      · omega
      · omega
    · -- one round
      rintro pre x S W ⟨T, hS, hT, hi, hl, hk⟩ hlen hok
      have hlt := hsz hl
      have nL : ¬ T (w.heap.size + 1) := fun h => (hT _ h).2 rfl
      have nD : ¬ T w.heap.size := fun h => (hT _ h).1 rfl
      have hy := run_yield (P := P) (args := encs x) hl (by rw [hrec]; exact hps x)
      rw [hrec] at hy
      refine ⟨fn, _, assign, body, hy, roundIn_of_wpIn hfn (hassign _ pre x T W _ hi hlen hok ?_)⟩
      intro a₁ T₁ W₁ hax hT₁ hst₁
      have hL₁ := (hst₁.block (w.heap.size + 1) hlt (.inr nL)).trans hl
      have hD₁ := (hst₁.block w.heap.size (by omega) (.inr nD)).trans hk
      have nL₁ : ¬ T₁ (w.heap.size + 1) := fun h => (hT₁ _ h).elim nL (fun h => by omega)
      have nD₁ : ¬ T₁ w.heap.size := fun h => (hT₁ _ h).elim nD (fun h => by omega)
      have hz₁ := hst₁.size
      refine ⟨_, run_beginRound hL₁ (by rw [hrec]), ?_⟩
      obtain ⟨W2, hW2⟩ : ∃ W2, W2 = W₁.putObj (w.heap.size + 1) (.loop { rec .ready none with state := .busy }) := ⟨_, rfl⟩
      rw [← hW2]
      have hl2 : W2.heap[w.heap.size + 1]? = some (.loop { rec .ready none with state := .busy }) := by rw [hW2]; exact World.putObj_heap_same (by omega)
      have hk2 : W2.heap[w.heap.size]? = some (.deferred (some [])) := by rw [hW2]; exact (World.putObj_heap_other (by omega)).trans hD₁
      have hz2 : W2.heap.size = W₁.heap.size := by rw [hW2]; simp
      have hi2 : Ax pre x T₁ a₁ W2 := by rw [hW2]; exact hAx _ _ _ _ _ _ hax (.putObj _ _ nL₁)
      have hs2 : Stay (fun k => k < n₀ ∨ ¬ S k) W W2 := by
        rw [hW2]
        exact (hst₁.weak (fun k _ h => h.elim .inl (fun h => .inr (fun ht => h ((hS _).2 (.inl ht)))))).trans (.putObj _ _ (fun h => h.elim (fun h => by omega) (fun h => h ((hS _).2 (.inr (.inr rfl))))))
      have sub₁ : ∀ k, k < W.heap.size → T₁ k → T k := fun k hk h => (hT₁ k h).elim id (fun h => by omega)
      refine wpIn_mono (hbody _ pre x T₁ a₁ W2 hi2 hlen hok) ?_
      have fin : ∀ (jump : Option Code) (W3 : World), Stay (fun k => k < n₀ ∨ ¬ T₁ k) W2 W3 →
          (Instr.endRound (w.heap.size + 1) jump).run P W3 = .ok (.bool jump.isNone) (W3.putObj (w.heap.size + 1) (.loop (rec (if jump.isNone then .ready else .done) jump))) ∧
          (W3.putObj (w.heap.size + 1) (.loop (rec (if jump.isNone then .ready else .done) jump))).heap[w.heap.size + 1]? = some (.loop (rec (if jump.isNone then .ready else .done) jump)) ∧
          (W3.putObj (w.heap.size + 1) (.loop (rec (if jump.isNone then .ready else .done) jump))).heap[w.heap.size]? = some (.deferred (some [])) ∧
          Stay (fun k => k < n₀ ∨ ¬ S k) W (W3.putObj (w.heap.size + 1) (.loop (rec (if jump.isNone then .ready else .done) jump))) := fun jump W3 hk3 => by
        have hl3 := (hk3.block (w.heap.size + 1) (by omega) (.inr nL₁)).trans hl2
        have hd3 := (hk3.block w.heap.size (by omega) (.inr nD₁)).trans hk2
        have := run_endRound (P := P) jump hl3
        rw [hrec] at this ⊢
        refine ⟨this, World.putObj_heap_same (Array.getElem?_eq_some_iff.1 hl3).1, (World.putObj_heap_other (by omega)).trans hd3, ?_⟩
        have h34 : Stay (fun k => (k < n₀ ∨ ¬ S k) ∧ k < W.heap.size) W W3 := (hs2.weak (fun _ _ h => h.1)).trans (hk3.weak (fun k _ h => h.1.elim .inl (fun h' => .inr (fun ht => h' ((hS _).2 (.inl (sub₁ k h.2 ht)))))))
        exact (h34.weak (fun k hk h => ⟨h, hk⟩)).trans (.putObj _ _ (fun h => h.elim (fun h => by omega) (fun h => h ((hS _).2 (.inr (.inr rfl))))))
      have sub : ∀ {T' : Nat → Prop}, (∀ k, T' k → T₁ k ∨ W2.heap.size ≤ k) → (∀ k, T' k → k ≠ w.heap.size ∧ k ≠ w.heap.size + 1) ∧ (∀ k, (T' k ∨ k = w.heap.size ∨ k = w.heap.size + 1) → S k ∨ W.heap.size ≤ k) := fun hT' =>
        ⟨fun k hk => (hT' k hk).elim (fun h => (hT₁ k h).elim (hT k) (fun h => by omega)) (fun h => by omega), fun k hk => hk.elim (fun h => (hT' k h).elim (fun h => (hT₁ k h).elim (fun h => .inl ((hS _).2 (.inl h))) .inr) (fun h => .inr (by omega))) (fun h => .inl ((hS _).2 (.inr h)))⟩
      rintro e a3 W3 hp
      cases e with
      | normal =>
        obtain ⟨T', hi3, hT', hk3⟩ := hp
        obtain ⟨hr, hl4, hk4, hst4⟩ := fin none W3 hk3
        obtain ⟨q1, q2⟩ := sub hT'
        exact ⟨_, _, hr, .inl ⟨rfl, fun k => T' k ∨ k = w.heap.size ∨ k = w.heap.size + 1, ⟨T', fun k => Iff.rfl, q1, hI _ _ _ _ hi3 (.putObj _ _ (fun h => (q1 _ h).2 rfl)), hl4, hk4⟩, q2, hst4⟩⟩
      | ret =>
        obtain ⟨T', hi3, hT', hk3⟩ := hp
        obtain ⟨hr, hl4, hk4, hst4⟩ := fin (some .ret) W3 hk3
        obtain ⟨q1, q2⟩ := sub hT'
        exact ⟨_, _, hr, .inr ⟨rfl, fun k => T' k ∨ k = w.heap.size ∨ k = w.heap.size + 1, T', fun k => Iff.rfl, q1, .ret, hIx _ _ _ _ _ hi3 (.putObj _ _ (fun h => (q1 _ h).2 rfl)), hl4, hk4⟩⟩
      | exit id =>
        obtain ⟨T', hi3, hT', hk3⟩ := hp
        obtain ⟨hr, hl4, hk4, hst4⟩ := fin (some (.exit id)) W3 hk3
        obtain ⟨q1, q2⟩ := sub hT'
        exact ⟨_, _, hr, .inr ⟨rfl, fun k => T' k ∨ k = w.heap.size ∨ k = w.heap.size + 1, T', fun k => Iff.rfl, q1, .exit id, hIx _ _ _ _ _ hi3 (.putObj _ _ (fun h => (q1 _ h).2 rfl)), hl4, hk4⟩⟩
      | goto t =>
        obtain ⟨T', hi3, hT', hk3⟩ := hp
        obtain ⟨hr, hl4, hk4, hst4⟩ := fin (some (.goto t)) W3 hk3
        obtain ⟨q1, q2⟩ := sub hT'
        exact ⟨_, _, hr, .inr ⟨rfl, fun k => T' k ∨ k = w.heap.size ∨ k = w.heap.size + 1, T', fun k => Iff.rfl, q1, .goto t, hIx _ _ _ _ _ hi3 (.putObj _ _ (fun h => (q1 _ h).2 rfl)), hl4, hk4⟩⟩
      | panic ch => exact hp.elim
      | outgrown => exact hp.elim
    · -- behind the iterator
      rintro e W2 ⟨⟨v, rfl⟩, (⟨xs, S, hSa, T, hS, hT, hi, hl, hk⟩ | ⟨pre, S, hSp, T, hS, hT, c, hi, hl, hk⟩)⟩
      · exact ⟨none, _, by have := run_endLoop (P := P) hl (by rw [hrec]; simp); rw [hrec] at this; exact this, hdone _ xs T _ hSa (hI _ _ _ _ hi (.putObj _ _ (fun h => (hT _ h).2 rfl))) ((World.putObj_heap_other (by omega)).trans hk) (Nat.le_refl _) (fun h => (hT _ h).1 rfl)⟩
      · exact ⟨some c, _, by have := run_endLoop (P := P) hl (by rw [hrec]; simp); rw [hrec] at this; exact this, hstop _ c pre T _ hSp (hIx _ _ _ _ _ hi (.putObj _ _ (fun h => (hT _ h).2 rfl))) ((World.putObj_heap_other (by omega)).trans hk) (Nat.le_refl _) (fun h => (hT _ h).1 rfl)⟩
end Go.Proofs.YthbilahilmmfmabGreat

/- What a sort by a comparison of one's own needs: the comparison may lay blocks; what holds between two steps is a relation of one's own. sort.insertionSort_func. Conditions: rows of less than 2^62 elements. -/
namespace Go.Proofs.YthbilahilmmfmabGreat
set_option maxRecDepth 100000
open Go.RowKit Go.Sort

variable {α : Type} [Inhabited α]

/-- The row holds d in W, as I says. The comparison (function g, bound to lb) tells lt of what the row holds and leaves all that was there as it was, the row's block alone is not promised; the swap (sf, bound to sb) turns the row alone. -/
structure SEnv (g : Nat) (lb : Array Value) (sf : Nat) (sb : Array Value) (lt : α → α → Bool) (n blk base : Nat) (I : Array α → World → Prop) : Prop where
  eg : ∀ args w, (callFunc g args).run Tryz.prog w = .ok (.enter g args) w
  less : ∀ (d : Array α) (W : World) (i j : Nat), I d W → i < n → j < n → Calls Tryz.prog g (#[.int .i64 i, .int .i64 j] ++ lb) W fun e W' => e = .returned (.bool (lt d[i]! d[j]!)) ∧ I d W' ∧ Stay (fun k => k ≠ blk) W W'
  swap : ∀ (d : Array α) (W : World) (i j : Nat), I d W → i < n → j < n → ∃ W', (callFunc sf (#[.int .i64 i, .int .i64 j] ++ sb)).run Tryz.prog W = .ok (.value (.tuple #[])) W' ∧ I (swp d i j) W' ∧ Stay (fun k => k ≠ blk) W W'
  on : ∀ (d : Array α) (W W' : World), I d W → Below W.heap.size W W' → I d W'
  set : ∀ (d : Array α) (W : World) (p : Addr) (v : Value), I d W → base ≤ p.block → I d (W.setCell p v)
  lt : ∀ (d : Array α) (W : World), I d W → base ≤ W.heap.size
  bb : blk < base
  size : ∀ (d : Array α) (W : World), I d W → d.size = n
  big : n < 4611686018427387904

/-- While a function of the sort runs: its parameter lies in a block of its own. -/
structure SSt (blk : Nat) (I : Array α → World → Prop) (w : World) (B : Nat) (g : Nat) (lb : Array Value) (sf : Nat) (sb : Array Value) (d : Array α) (wr : World) : Prop where
  i : I d wr
  c0 : wr.cell? ⟨B, 0, none⟩ = some (.func (.func g) #[] lb)
  c1 : wr.cell? ⟨B, 1, none⟩ = some (.func (.func sf) #[] sb)
  st : Stay (fun k => k ≠ blk) w wr
omit [Inhabited α] in
theorem SSt.step {blk : Nat} {I : Array α → World → Prop} {w : World} {B g : Nat} {lb : Array Value} {sf : Nat} {sb : Array Value} {d d' : Array α} {wr wr' : World} (h : SSt blk I w B g lb sf sb d wr) (hB : B ≠ blk) (hi : I d' wr') (hs : Stay (fun k => k ≠ blk) wr wr') : SSt blk I w B g lb sf sb d' wr' :=
  ⟨hi, hs.cell h.c0 hB, hs.cell h.c1 hB, h.st.trans hs⟩
theorem SSt.start {blk : Nat} {I : Array α → World → Prop} {w : World} {g : Nat} {lb : Array Value} {sf : Nat} {sb : Array Value} {lt : α → α → Bool} {n base : Nat} (E : SEnv g lb sf sb lt n blk base I) {d : Array α} (hi : I d w) (T : TypeId) :
    SSt blk I w w.heap.size g lb sf sb d (w.alloc (.cells #[.func (.func g) #[] lb, .func (.func sf) #[] sb] T)) :=
  ⟨E.on _ _ _ hi ((Below.refl _ _).alloc (Nat.le_refl _) _), by simp, by simp, .alloc _ _ _⟩

set_option maxHeartbeats 2000000 in
theorem insertion_any {g : Nat} {lb : Array Value} {sf : Nat} {sb : Array Value} {lt : α → α → Bool} {n blk base : Nat} {I : Array α → World → Prop} (E : SEnv g lb sf sb lt n blk base I) (a b : Nat) (d : Array α) (w : World) (h : I d w) (hab : a ≤ b) (hb : b ≤ n) :
    Calls Tryz.prog 119 #[.agg #[.func (.func g) #[] lb, .func (.func sf) #[] sb], .int .i64 a, .int .i64 b] w fun e w' => e = .returned (.tuple #[]) ∧ I (Sort.insertionSort lt d a b) w' ∧ Stay (fun k => k ≠ blk) w w' := by
  have eg := E.eg
  have hbig := E.big
  have HB : Hid (w.heap.size ≠ blk) := by have := E.lt _ _ h; have := E.bb; show _ ≠ _; omega
  have HE : Hid (SEnv g lb sf sb lt n blk base I) := E
  have S0 := SSt.start E h 151
  clear E h
  go_enter Tryz.func119, Tryz.ntmps119
  go_wp2
  go_loopw [6] (fun vi wr => ∃ (i : Nat) (dk : Array α), vi = .int .i64 i ∧ a < i ∧ i ≤ b + 1 ∧ SSt blk I w w.heap.size g lb sf sb dk wr ∧ Hid (insOuter lt a b i dk = insOuter lt a b (a + 1) d)) (fun vi _ => b + 1 - (intOf vi).toNat)
  case atStart => exact ⟨a + 1, d, by go_num, by omega, by omega, S0, rfl⟩
  case round =>
    obtain ⟨i, dk, rfl, hai, hib, S, HO⟩ := hrel
    clear S0
    go_wp2
    · go_loopw [7] (fun vj wr2 => ∃ (j : Nat) (dj : Array α), vj = .int .i64 j ∧ a ≤ j ∧ j ≤ i ∧ SSt blk I w w.heap.size g lb sf sb dj wr2 ∧ Hid (insInner lt a j dj = insInner lt a i dk)) (fun vj _ => (intOf vj).toNat)
      case atStart => exact ⟨i, dk, rfl, by omega, Nat.le_refl _, S, rfl⟩
      case round =>
        obtain ⟨j, dj, rfl, haj, hji, S2, HI⟩ := hrel
        have hlt : i < b := by assumption
        clear S
        have c0 := S2.c0
        have c1 := S2.c1
        by_cases hja : a < j
        · have hl := HE.out.less dj wr j (j - 1) S2.i (by omega) (by omega)
          rw [show (((j - 1 : Nat) : Int)) = (j : Int) - 1 by omega] at hl
          cases hlv : lt dj[j]! dj[j - 1]! with
          | true =>
            rw [hlv] at hl
            have HI2 : Hid (insInner lt a (j - 1) (swp dj j (j - 1)) = insInner lt a i dk) := by show _ = _; rw [← HI.out, insInner_go lt a j dj hja hlv]
            go_wp2_with (go_at_fn g; refine hl.mono ?_; rintro e w' ⟨rfl, hI', hS'⟩; have c1' := hS'.cell c1 HB.out; clear c0 c1)
            obtain ⟨W', hrun, hI2, hS2⟩ := HE.out.swap dj w' j (j - 1) hI' (by omega) (by omega)
            rw [show (((j - 1 : Nat) : Int)) = (j : Int) - 1 by omega] at hrun
            rw [hrun, Oper.upon_value]
            have S3 := (S2.step HB.out hI' hS').step HB.out hI2 hS2
            clear hrun hl
            go_wp2
            go_roundw
            case rel =>
              (repeat apply Exists.intro)
              exact ⟨⟨j - 1, swp dj j (j - 1), by congr 1 <;> omega, by omega, by omega, S3, HI2⟩, by rw [decide_eq_true hlt, show ((j - 1 : Nat) : Int) = (j : Int) - 1 by omega]⟩
            case measure => simp [intOf]; omega
          | false =>
            rw [hlv] at hl
            have HO2 : Hid (insOuter lt a b (i + 1) dj = insOuter lt a b (a + 1) d) := by show _ = _; rw [← HO.out, insOuter_go _ _ _ _ _ hlt, ← HI.out, insInner_stop _ _ _ _ (Or.inr hlv)]
            go_wp2_with (go_at_fn g; refine hl.mono ?_; rintro e w' ⟨rfl, hI', hS'⟩; clear c0 c1)
            have S3 := S2.step HB.out hI' hS'
            go_roundw
            case rel => exact ⟨i + 1, dj, by go_num, by omega, by omega, S3, HO2⟩
            case measure => simp [intOf]; omega
        · have HO2 : Hid (insOuter lt a b (i + 1) dj = insOuter lt a b (a + 1) d) := by show _ = _; rw [← HO.out, insOuter_go _ _ _ _ _ hlt, ← HI.out, insInner_stop _ _ _ _ (Or.inl (by omega))]
          go_wp2
          go_roundw
          case rel => exact ⟨i + 1, dj, by go_num, by omega, by omega, S2, HO2⟩
          case measure => simp [intOf]; omega
    · have hge : ¬ i < b := by assumption
      go_end0
      exact ⟨rfl, by unfold Sort.insertionSort; rw [← HO.out, insOuter_stop _ _ _ _ _ hge]; exact S.i, S.st⟩
end Go.Proofs.YthbilahilmmfmabGreat

/- sort.siftDown_func, by a comparison that may lay blocks. Conditions: rows of less than 2^62 elements. -/
namespace Go.Proofs.YthbilahilmmfmabGreat
set_option maxRecDepth 100000
open Go.RowKit Go.Sort

variable {α : Type} [Inhabited α]
variable {g : Nat} {lb : Array Value} {sf : Nat} {sb : Array Value} {lt : α → α → Bool} {n blk base : Nat} {I : Array α → World → Prop}

/-- The comparison, the places as the walk has them. -/
theorem SEnv.lessI (E : SEnv g lb sf sb lt n blk base I) (d : Array α) (W : World) (i j : Nat) (x y : Int) (hx : x = i) (hy : y = j) (h : I d W) (hi : i < n) (hj : j < n) :
    Calls Tryz.prog g (#[.int .i64 x, .int .i64 y] ++ lb) W fun e W' => e = .returned (.bool (lt d[i]! d[j]!)) ∧ I d W' ∧ Stay (fun k => k ≠ blk) W W' := by
  subst hx hy
  exact E.less d W i j h hi hj
/-- The same, what it tells known. -/
theorem SEnv.lessV (E : SEnv g lb sf sb lt n blk base I) (d : Array α) (i j : Nat) (x y : Int) (v : Bool) (hv : lt d[i]! d[j]! = v) (hx : x = i) (hy : y = j) (hi : i < n) (hj : j < n) (W : World) (h : I d W) :
    Calls Tryz.prog g (#[.int .i64 x, .int .i64 y] ++ lb) W fun e W' => e = .returned (.bool v) ∧ I d W' ∧ Stay (fun k => k ≠ blk) W W' := by
  subst hv
  exact E.lessI d W i j x y hx hy h hi hj
theorem SEnv.swapI (E : SEnv g lb sf sb lt n blk base I) (d : Array α) (W : World) (i j : Nat) (x y : Int) (hx : x = i) (hy : y = j) (h : I d W) (hi : i < n) (hj : j < n) :
    ∃ W', (callFunc sf (#[.int .i64 x, .int .i64 y] ++ sb)).run Tryz.prog W = .ok (.value (.tuple #[])) W' ∧ I (swp d i j) W' ∧ Stay (fun k => k ≠ blk) W W' := by
  subst hx hy
  exact E.swap d W i j h hi hj

set_option maxHeartbeats 4000000 in
theorem siftDown_any (E : SEnv g lb sf sb lt n blk base I) (lo hi first : Nat) (d : Array α) (w : World) (h : I d w) (hlo : lo ≤ hi) (hb : first + hi ≤ n) :
    Calls Tryz.prog 128 #[.agg #[.func (.func g) #[] lb, .func (.func sf) #[] sb], .int .i64 lo, .int .i64 hi, .int .i64 first] w fun e w' => e = .returned (.tuple #[]) ∧ I (siftDown lt hi first lo d) w' ∧ Stay (fun k => k ≠ blk) w w' := by
  have eg := E.eg
  have hbig := E.big
  have HB : Hid (w.heap.size ≠ blk) := by have := E.lt _ _ h; have := E.bb; show _ ≠ _; omega
  have HE : Hid (SEnv g lb sf sb lt n blk base I) := E
  have S0 := SSt.start E h 151
  clear E h
  go_enter Tryz.func128, Tryz.ntmps128
  go_wp2
  go_loopw [8] (fun v wr => ∃ (root : Nat) (dk : Array α), v = .int .i64 root ∧ root ≤ hi ∧ SSt blk I w w.heap.size g lb sf sb dk wr ∧ Hid (siftDown lt hi first root dk = siftDown lt hi first lo d)) (fun v _ => hi - (intOf v).toNat)
  case atStart => exact ⟨lo, d, rfl, hlo, S0, rfl⟩
  case round =>
    obtain ⟨root, dk, rfl, hr, S, HK⟩ := hrel
    clear S0
    have c0 := S.c0
    have c1 := S.c1
    by_cases h0 : hi ≤ 2 * root + 1
    · have h0z : (hi : Int) ≤ 2 * (root : Int) + 1 := by omega
      go_wp2
      go_end0
      exact ⟨rfl, by rw [← HK.out, sd_end lt dk h0]; exact S.i, S.st⟩
    · have h0z : ¬ ((hi : Int) ≤ 2 * (root : Int) + 1) := by omega
      by_cases h1 : 2 * root + 2 < hi
      · have h1z : 2 * (root : Int) + 1 + 1 < (hi : Int) := by omega
        cases hL : lt dk[first + (2 * root + 1)]! dk[first + (2 * root + 2)]! with
        | true =>
          have hl1 := HE.out.lessV dk (first + (2 * root + 1)) (first + (2 * root + 2)) ((first : Int) + (2 * (root : Int) + 1)) ((first : Int) + (2 * (root : Int) + 1) + 1) true hL (by omega) (by omega) (by omega) (by omega)
          cases hG : lt dk[first + root]! dk[first + (2 * root + 2)]! with
          | true =>
            have hl2 := HE.out.lessV dk (first + root) (first + (2 * root + 2)) ((first : Int) + (root : Int)) ((first : Int) + (2 * (root : Int) + 1 + 1)) true hG (by omega) (by omega) (by omega) (by omega)
            have HN : Hid (siftDown lt hi first (2 * root + 2) (swp dk (first + root) (first + (2 * root + 2))) = siftDown lt hi first lo d) := by show _ = _; rw [← HK.out, sd_right_go lt dk h1 hL hG]
            go_wp2_with (first
              | (go_at_fn g; refine (hl1 _ S.i).mono ?_; rintro e w2 ⟨rfl, hI2, hS2⟩; have S2 := S.step HB.out hI2 hS2; clear c0 c1 hl1; have c0 := S2.c0; have c1 := S2.c1)
              | (go_at_fn g; refine (hl2 _ S2.i).mono ?_; rintro e w3 ⟨rfl, hI3, hS3⟩; have S3 := S2.step HB.out hI3 hS3; have k0 := S3.c0; have k1 := S3.c1; obtain ⟨W4, hrun, hI4, hS4⟩ := HE.out.swapI dk w3 (first + root) (first + (2 * root + 2)) ((first : Int) + (root : Int)) ((first : Int) + (2 * (root : Int) + 1 + 1)) (by omega) (by omega) S3.i (by omega) (by omega); have S4 := S3.step HB.out hI4 hS4; clear hl2))
            go_roundw
            case rel => exact ⟨2 * root + 2, swp dk (first + root) (first + (2 * root + 2)), by go_num, by omega, S4, HN⟩
            case measure => simp [intOf]; omega
          | false =>
            have hl2 := HE.out.lessV dk (first + root) (first + (2 * root + 2)) ((first : Int) + (root : Int)) ((first : Int) + (2 * (root : Int) + 1 + 1)) false hG (by omega) (by omega) (by omega) (by omega)
            have HN : Hid (dk = siftDown lt hi first lo d) := by show _ = _; rw [← HK.out, sd_right_stop lt dk h1 hL hG]
            go_wp2_with (first
              | (go_at_fn g; refine (hl1 _ S.i).mono ?_; rintro e w2 ⟨rfl, hI2, hS2⟩; have S2 := S.step HB.out hI2 hS2; clear c0 c1 hl1; have c0 := S2.c0; have c1 := S2.c1)
              | (go_at_fn g; refine (hl2 _ S2.i).mono ?_; rintro e w3 ⟨rfl, hI3, hS3⟩; have S3 := S2.step HB.out hI3 hS3; have k0 := S3.c0; have k1 := S3.c1; clear hl2))
            refine bodyPost_ret (results_none rfl _ _ _) rfl ?_
            exact ⟨rfl, by rw [← HN.out]; exact S3.i, S3.st⟩
        | false =>
          have hl1 := HE.out.lessV dk (first + (2 * root + 1)) (first + (2 * root + 2)) ((first : Int) + (2 * (root : Int) + 1)) ((first : Int) + (2 * (root : Int) + 1) + 1) false hL (by omega) (by omega) (by omega) (by omega)
          cases hG : lt dk[first + root]! dk[first + (2 * root + 1)]! with
          | true =>
            have hl2 := HE.out.lessV dk (first + root) (first + (2 * root + 1)) ((first : Int) + (root : Int)) ((first : Int) + (2 * (root : Int) + 1)) true hG (by omega) (by omega) (by omega) (by omega)
            have HN : Hid (siftDown lt hi first (2 * root + 1) (swp dk (first + root) (first + (2 * root + 1))) = siftDown lt hi first lo d) := by show _ = _; rw [← HK.out, sd_left_go lt dk (by omega) (fun _ => hL) hG]
            go_wp2_with (first
              | (go_at_fn g; refine (hl1 _ S.i).mono ?_; rintro e w2 ⟨rfl, hI2, hS2⟩; have S2 := S.step HB.out hI2 hS2; clear c0 c1 hl1; have c0 := S2.c0; have c1 := S2.c1)
              | (go_at_fn g; refine (hl2 _ S2.i).mono ?_; rintro e w3 ⟨rfl, hI3, hS3⟩; have S3 := S2.step HB.out hI3 hS3; have k0 := S3.c0; have k1 := S3.c1; obtain ⟨W4, hrun, hI4, hS4⟩ := HE.out.swapI dk w3 (first + root) (first + (2 * root + 1)) ((first : Int) + (root : Int)) ((first : Int) + (2 * (root : Int) + 1)) (by omega) (by omega) S3.i (by omega) (by omega); have S4 := S3.step HB.out hI4 hS4; clear hl2))
            go_roundw
            case rel => exact ⟨2 * root + 1, swp dk (first + root) (first + (2 * root + 1)), by go_num, by omega, S4, HN⟩
            case measure => simp [intOf]; omega
          | false =>
            have hl2 := HE.out.lessV dk (first + root) (first + (2 * root + 1)) ((first : Int) + (root : Int)) ((first : Int) + (2 * (root : Int) + 1)) false hG (by omega) (by omega) (by omega) (by omega)
            have HN : Hid (dk = siftDown lt hi first lo d) := by show _ = _; rw [← HK.out, sd_left_stop lt dk (by omega) (fun _ => hL) hG]
            go_wp2_with (first
              | (go_at_fn g; refine (hl1 _ S.i).mono ?_; rintro e w2 ⟨rfl, hI2, hS2⟩; have S2 := S.step HB.out hI2 hS2; clear c0 c1 hl1; have c0 := S2.c0; have c1 := S2.c1)
              | (go_at_fn g; refine (hl2 _ S2.i).mono ?_; rintro e w3 ⟨rfl, hI3, hS3⟩; have S3 := S2.step HB.out hI3 hS3; have k0 := S3.c0; have k1 := S3.c1; clear hl2))
            refine bodyPost_ret (results_none rfl _ _ _) rfl ?_
            exact ⟨rfl, by rw [← HN.out]; exact S3.i, S3.st⟩
      · have h1z : ¬ (2 * (root : Int) + 1 + 1 < (hi : Int)) := by omega
        cases hG : lt dk[first + root]! dk[first + (2 * root + 1)]! with
        | true =>
          have hl2 := HE.out.lessV dk (first + root) (first + (2 * root + 1)) ((first : Int) + (root : Int)) ((first : Int) + (2 * (root : Int) + 1)) true hG (by omega) (by omega) (by omega) (by omega)
          have HN : Hid (siftDown lt hi first (2 * root + 1) (swp dk (first + root) (first + (2 * root + 1))) = siftDown lt hi first lo d) := by show _ = _; rw [← HK.out, sd_left_go lt dk (by omega) (fun h => absurd h h1) hG]
          go_wp2_with (go_at_fn g; refine (hl2 _ S.i).mono ?_; rintro e w3 ⟨rfl, hI3, hS3⟩; have S3 := S.step HB.out hI3 hS3; have k0 := S3.c0; have k1 := S3.c1; obtain ⟨W4, hrun, hI4, hS4⟩ := HE.out.swapI dk w3 (first + root) (first + (2 * root + 1)) ((first : Int) + (root : Int)) ((first : Int) + (2 * (root : Int) + 1)) (by omega) (by omega) S3.i (by omega) (by omega); have S4 := S3.step HB.out hI4 hS4; clear hl2)
          go_roundw
          case rel => exact ⟨2 * root + 1, swp dk (first + root) (first + (2 * root + 1)), by go_num, by omega, S4, HN⟩
          case measure => simp [intOf]; omega
        | false =>
          have hl2 := HE.out.lessV dk (first + root) (first + (2 * root + 1)) ((first : Int) + (root : Int)) ((first : Int) + (2 * (root : Int) + 1)) false hG (by omega) (by omega) (by omega) (by omega)
          have HN : Hid (dk = siftDown lt hi first lo d) := by show _ = _; rw [← HK.out, sd_left_stop lt dk (by omega) (fun h => absurd h h1) hG]
          go_wp2_with (go_at_fn g; refine (hl2 _ S.i).mono ?_; rintro e w3 ⟨rfl, hI3, hS3⟩; have S3 := S.step HB.out hI3 hS3; have k0 := S3.c0; have k1 := S3.c1; clear hl2)
          refine bodyPost_ret (results_none rfl _ _ _) rfl ?_
          exact ⟨rfl, by rw [← HN.out]; exact S3.i, S3.st⟩
end Go.Proofs.YthbilahilmmfmabGreat

/- sort.heapSort_func, sort.reverseRange_func, by a comparison that may lay blocks. Conditions: rows of less than 2^62 elements. -/
namespace Go.Proofs.YthbilahilmmfmabGreat
set_option maxRecDepth 100000
open Go.RowKit Go.Sort

variable {α : Type} [Inhabited α]
variable {g : Nat} {lb : Array Value} {sf : Nat} {sb : Array Value} {lt : α → α → Bool} {n blk base : Nat} {I : Array α → World → Prop}

set_option maxHeartbeats 1000000 in
theorem reverse_any (E : SEnv g lb sf sb lt n blk base I) (a b : Nat) (d : Array α) (w : World) (h : I d w) (hab : a < b) (hb : b ≤ n) :
    Calls Tryz.prog 123 #[.agg #[.func (.func g) #[] lb, .func (.func sf) #[] sb], .int .i64 a, .int .i64 b] w fun e w' => e = .returned (.tuple #[]) ∧ I (reverseRange d a b) w' ∧ Stay (fun k => k ≠ blk) w w' := by
  have eg := E.eg
  have hbig := E.big
  have HB : Hid (w.heap.size ≠ blk) := by have := E.lt _ _ h; have := E.bb; show _ ≠ _; omega
  have HE : Hid (SEnv g lb sf sb lt n blk base I) := E
  have S0 := SSt.start E h 151
  clear E h
  go_enter Tryz.func123, Tryz.ntmps123
  go_wp2
  go_loopw [6, 7] (fun vi vj wr => ∃ (i j : Nat) (dk : Array α), vi = .int .i64 i ∧ vj = .int .i64 j ∧ j < b ∧ i ≤ b ∧ SSt blk I w w.heap.size g lb sf sb dk wr ∧ Hid (reverseLoop i j dk = reverseRange d a b)) (fun vi vj _ => (intOf vj).toNat - (intOf vi).toNat)
  case atStart => exact ⟨a, b - 1, d, rfl, by congr 1; omega, by omega, by omega, S0, rfl⟩
  case round =>
    obtain ⟨i, j, dk, rfl, rfl, hj, hi, S, HK⟩ := hrel
    clear S0
    have c0 := S.c0
    have c1 := S.c1
    by_cases hij : i < j
    · have hijz : (i : Int) < (j : Int) := by omega
      obtain ⟨W4, hrun, hI4, hS4⟩ := HE.out.swapI dk wr i j i j rfl rfl S.i (by omega) (by omega)
      have S4 := S.step HB.out hI4 hS4
      have HN : Hid (reverseLoop (i + 1) (j - 1) (swp dk i j) = reverseRange d a b) := by have := HK.out; rw [reverseLoop, if_pos hij] at this; exact this
      go_wp2
      go_roundw
      case rel => exact ⟨i + 1, j - 1, swp dk i j, by go_num, by congr 1; omega, by omega, by omega, S4, HN⟩
      case measure => simp [intOf] <;> omega
    · have hijz : ¬ (i : Int) < (j : Int) := by omega
      have HN : Hid (dk = reverseRange d a b) := by have := HK.out; rw [reverseLoop, if_neg hij] at this; exact this
      go_wp2
      go_end0
      exact ⟨rfl, by rw [← HN.out]; exact S.i, S.st⟩

set_option maxHeartbeats 1000000 in
theorem heapSort_any (E : SEnv g lb sf sb lt n blk base I) (a b : Nat) (d : Array α) (w : World) (h : I d w) (hab : a < b) (hb : b ≤ n) :
    Calls Tryz.prog 120 #[.agg #[.func (.func g) #[] lb, .func (.func sf) #[] sb], .int .i64 a, .int .i64 b] w fun e w' => e = .returned (.tuple #[]) ∧ I (heapSort lt d a b) w' ∧ Stay (fun k => k ≠ blk) w w' := by
  have eg := E.eg
  have hbig := E.big
  have HB : Hid (w.heap.size ≠ blk) := by have := E.lt _ _ h; have := E.bb; show _ ≠ _; omega
  have HE : Hid (SEnv g lb sf sb lt n blk base I) := E
  have S0 := SSt.start E h 151
  clear E h
  go_enter Tryz.func120, Tryz.ntmps120
  have hdiv : IntKind.i64.wrap ((b : Int) - (a : Int)) = ((b - a : Nat) : Int) := by rw [IntKind.wrap_i64]; omega
  have hcb : (b : Int) - (a : Int) = ((b - a : Nat) : Int) := by omega
  obtain ⟨N, hN⟩ : ∃ N, N = b - a := ⟨_, rfl⟩
  rw [← hN] at hdiv hcb
  have hN1 : 1 ≤ N := by omega
  have hNa : a + N ≤ n := by omega
  have HH : Hid (heapSort lt d a b = heapPop lt a N (heapBuild lt N a ((N - 1) / 2 + 1) d)) := by show _ = _; unfold heapSort; rw [hN]
  have htd : ((N : Int) - 1).tdiv 2 = (((N - 1) / 2 : Nat) : Int) := by rw [show (N : Int) - 1 = ((N - 1 : Nat) : Int) by omega]; rfl
  clear hN
  go_wp2
  go_loopw [9] (fun v wr => ∃ (kx : Nat) (dk : Array α), v = .int .i64 ((kx : Int) - 1) ∧ kx ≤ (N - 1) / 2 + 1 ∧ SSt blk I w w.heap.size g lb sf sb dk wr ∧ Hid (heapBuild lt N a kx dk = heapBuild lt N a ((N - 1) / 2 + 1) d)) (fun v _ => (intOf v + 1).toNat)
  case atStart => exact ⟨(N - 1) / 2 + 1, d, by congr 1; omega, Nat.le_refl _, S0, rfl⟩
  case round =>
    obtain ⟨kx, dk, rfl, hkx, S, HK⟩ := hrel
    clear S0
    have c0 := S.c0
    have c1 := S.c1
    cases kx with
    | zero =>
      have HK2 : Hid (dk = heapBuild lt N a ((N - 1) / 2 + 1) d) := by show _ = _; rw [← HK.out, heapBuild]
      clear HK
      go_wp2
      go_loopw [10] (fun v wr2 => ∃ (kx : Nat) (dj : Array α), v = .int .i64 ((kx : Int) - 1) ∧ kx ≤ N ∧ SSt blk I w w.heap.size g lb sf sb dj wr2 ∧ Hid (heapPop lt a kx dj = heapPop lt a N dk)) (fun v _ => (intOf v + 1).toNat)
      case atStart => exact ⟨N, dk, rfl, Nat.le_refl _, S, rfl⟩
      case round =>
        obtain ⟨kx, dj, rfl, hkx2, S2, HK3⟩ := hrel
        clear S c0 c1
        have c0 := S2.c0
        have c1 := S2.c1
        cases kx with
        | zero =>
          have HF : Hid (dj = heapSort lt d a b) := by show _ = _; rw [HH.out, ← HK2.out, ← HK3.out, heapPop]
          go_wp2
          go_end0
          exact ⟨rfl, by rw [← HF.out]; exact S2.i, S2.st⟩
        | succ kx =>
          simp only [show (((kx + 1 : Nat) : Int) - 1) = (kx : Int) by omega]
          have hz : (0 : Int) ≤ (kx : Int) := by omega
          have hw1 : IntKind.i64.wrap ((a : Int) + (kx : Int)) = (a : Int) + (kx : Int) := by rw [IntKind.wrap_i64]; omega
          obtain ⟨W4, hrun, hI4, hS4⟩ := HE.out.swapI dj wr a (a + kx) a ((a : Int) + (kx : Int)) rfl (by omega) S2.i (by omega) (by omega)
          have S4 := S2.step HB.out hI4 hS4
          have k0 := S4.c0
          have k1 := S4.c1
          have C := siftDown_any HE.out 0 kx a (swp dj a (a + kx)) W4 S4.i (by omega) (by omega)
          have HN : Hid (heapPop lt a kx (siftDown lt kx a 0 (swp dj a (a + kx))) = heapPop lt a N dk) := by show _ = _; rw [← HK3.out, heapPop]
          go_wp2_with (go_at_call 128; refine C.mono ?_; rintro e w5 ⟨rfl, hI5, hS5⟩; have S5 := S4.step HB.out hI5 hS5; clear C)
          go_roundw
          case rel =>
            first
              | exact ⟨kx, _, by first | rfl | (congr 1; omega), by omega, S5, HN⟩
              | ((repeat apply Exists.intro); exact ⟨⟨kx, _, by first | rfl | (congr 1; omega), by omega, S5, HN⟩, rfl⟩)
          case measure => simp [intOf] <;> omega
    | succ kx =>
      simp only [show (((kx + 1 : Nat) : Int) - 1) = (kx : Int) by omega]
      have hz : (0 : Int) ≤ (kx : Int) := by omega
      have C := siftDown_any HE.out kx N a dk wr S.i (by omega) (by omega)
      have HN : Hid (heapBuild lt N a kx (siftDown lt N a kx dk) = heapBuild lt N a ((N - 1) / 2 + 1) d) := by show _ = _; rw [← HK.out, heapBuild]
      go_wp2_with (go_at_call 128; refine C.mono ?_; rintro e w5 ⟨rfl, hI5, hS5⟩; have S5 := S.step HB.out hI5 hS5; clear C)
      go_roundw
      case rel =>
        first
          | exact ⟨kx, _, by first | rfl | (congr 1; omega), by omega, S5, HN⟩
          | ((repeat apply Exists.intro); exact ⟨⟨kx, _, by first | rfl | (congr 1; omega), by omega, S5, HN⟩, rfl⟩)
      case measure => simp [intOf] <;> omega
end Go.Proofs.YthbilahilmmfmabGreat

