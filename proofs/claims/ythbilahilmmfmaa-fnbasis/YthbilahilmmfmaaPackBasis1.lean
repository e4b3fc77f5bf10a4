/- What the proof of FnBasis stands on, part 1 of 10: each piece says what it proves and under which conditions. Conditions: as each piece says. -/
import Derived.WalkKit
import Derived.ProofKit
import Derived.OpenShut
import Derived.WalkSmall
import Derived.BigQuiet
import Derived.Below
import Derived.RangeFuncNested
import Derived.RangeFuncCalls
import Derived.RangeFuncLeaves
import Derived.Test.YthbilahilmmfmaaProg
/- Terms as data: how they lie in memory, and what is told of them. Conditions: none. -/
namespace Go.Proofs.Ythbilahilmmfmaa
set_option maxRecDepth 100000
open Go.RowKit

theorem rtI {a b : Int} (h : a = b) : Ending.returned (.int .i64 a) = .returned (.int .i64 b) := by rw [h]
theorem rtB {a b : Bool} (h : a = b) : Ending.returned (.bool a) = .returned (.bool b) := by rw [h]

/-- A term as data. -/
inductive TermD where
  | mk (f v : Int) (kids : List TermD)

namespace TermD
def f : TermD → Int | mk f _ _ => f
def v : TermD → Int | mk _ v _ => v
def kids : TermD → List TermD | mk _ _ k => k
end TermD

instance : Inhabited TermD := ⟨.mk 0 0 []⟩

mutual
/-- How many terms are within it, itself too. -/
def partsT : TermD → Nat
  | .mk _ _ ks => partsL ks + 1
def partsL : List TermD → Nat
  | [] => 0
  | t :: ts => partsT t + partsL ts
end

theorem partsT_eq (t : TermD) : partsT t = partsL t.kids + 1 := by cases t; simp [partsT, TermD.kids]

theorem partsL_append (a b : List TermD) : partsL (a ++ b) = partsL a + partsL b := by
  induction a with
  | nil => simp [partsL]
  | cons t ts ih => simp only [List.cons_append, partsL, ih]; omega

theorem partsL_get {ts : List TermD} {i : Nat} (h : i < ts.length) : partsT ts[i] ≤ partsL ts := by
  induction ts generalizing i with
  | nil => simp at h
  | cons t ts ih =>
    cases i with
    | zero => simp only [List.getElem_cons_zero, partsL]; omega
    | succ i =>
      simp only [List.getElem_cons_succ, partsL]
      have := ih (i := i) (by simpa using h)
      omega

theorem partsL_next {ts : List TermD} {k : Nat} (h : k < ts.length) : partsL (ts.take (k + 1)) = partsL (ts.take k) + partsT ts[k] := by
  rw [List.take_succ_eq_append_getElem h, partsL_append]
  simp [partsL]

theorem partsL_take (ts : List TermD) (k : Nat) : partsL (ts.take k) ≤ partsL ts := by
  have : partsL ts = partsL (ts.take k) + partsL (ts.drop k) := by rw [← partsL_append, List.take_append_drop]
  omega

theorem partsL_len (ts : List TermD) : ts.length ≤ partsL ts := by
  induction ts with
  | nil => simp
  | cons t ts ih => simp only [List.length_cons, partsL, partsT_eq]; omega

def isW (z : Int) : Prop := -9223372036854775808 ≤ z ∧ z ≤ 9223372036854775807

theorem partsL_rest (ts : List TermD) (k : Nat) : partsL (ts.take k) + (ts.length - k) ≤ partsL ts := by
  have h : partsL ts = partsL (ts.take k) + partsL (ts.drop k) := by rw [← partsL_append, List.take_append_drop]
  have h2 := partsL_len (ts.drop k)
  rw [List.length_drop] at h2
  omega

/-- What is left of m when the parts are counted off. -/
def szR (ts : List TermD) (m : Int) : Int := if (partsL ts : Int) ≤ m then m - partsL ts else -1

/-- A cell that was there is as it was behind whatever only lays new blocks. -/
theorem keepC {w w' : World} (h : Below w.heap.size w w') {p : Addr} {v : Value} (hc : w.cell? p = some v) : w'.cell? p = some v := (h.cell (World.block_lt_of_cell? w p hc)).trans hc

/-- The slice of terms that begins at 'a' reads in w as ts, all of its blocks below hi. -/
inductive RdK (w : World) (hi : Nat) : Option Addr → List TermD → Prop
  | nil (a : Option Addr) : RdK w hi a []
  | row (b off : Nat) (ts : List TermD) (A : Nat → Option Addr) (C : Nat → Nat) (hlt : b < hi) (hl : ts.length ≤ 9223372036854775807 ∧ ∀ i, (h : i < ts.length) → ts[i].kids.length ≤ C i) (hz : ∀ i, (h : i < ts.length) → isW ts[i].f ∧ isW ts[i].v)
      (hc : ∀ i, (h : i < ts.length) → w.cell? ⟨b, off + i * 3, none⟩ = some (.int .i64 ts[i].f) ∧ w.cell? ⟨b, off + i * 3 + 1, none⟩ = some (.int .i64 ts[i].v) ∧ w.cell? ⟨b, off + i * 3 + 2, none⟩ = some (.slice (A i) ts[i].kids.length (C i)))
      (hk : ∀ i, (h : i < ts.length) → RdK w hi (A i) ts[i].kids) : RdK w hi (some ⟨b, off, none⟩) ts

theorem RdK.on {w w' : World} {hi : Nat} {a : Option Addr} {ts : List TermD} (h : RdK w hi a ts) (hb : Below hi w w') : RdK w' hi a ts := by
  induction h with
  | nil a => exact .nil a
  | row b off ts A C hlt hl hz hc hk ih =>
    refine .row b off ts A C hlt hl hz (fun i h => ?_) ih
    obtain ⟨h0, h1, h2⟩ := hc i h
    exact ⟨(hb.cell (p := ⟨b, off + i * 3, none⟩) hlt).trans h0, (hb.cell (p := ⟨b, off + i * 3 + 1, none⟩) hlt).trans h1, (hb.cell (p := ⟨b, off + i * 3 + 2, none⟩) hlt).trans h2⟩

theorem RdK.mono {w : World} {hi hi' : Nat} {a : Option Addr} {ts : List TermD} (h : RdK w hi a ts) (hh : hi ≤ hi') : RdK w hi' a ts := by
  induction h with
  | nil a => exact .nil a
  | row b off ts A C hlt hl hz hc hk ih => exact .row b off ts A C (Nat.lt_of_lt_of_le hlt hh) hl hz hc ih

theorem RdK.len {w : World} {hi : Nat} {a : Option Addr} {ts : List TermD} (h : RdK w hi a ts) : ts.length ≤ 9223372036854775807 := by
  cases h with
  | nil a => simp
  | row b off ts A C hlt hl hz hc hk => exact hl.1

theorem RdK.ints {w : World} {hi : Nat} {a : Option Addr} {ts : List TermD} (h : RdK w hi a ts) {i : Nat} (hi' : i < ts.length) : isW ts[i].f ∧ isW ts[i].v := by
  cases h with
  | nil a => simp at hi'
  | row b off ts A C hlt hl hz hc hk => exact hz i hi'

/-- What stands at kid i. -/
theorem RdK.kid {w : World} {hi : Nat} {a : Option Addr} {ts : List TermD} (h : RdK w hi a ts) {i : Nat} (hi' : i < ts.length) :
    ∃ b off a' c', a = some ⟨b, off, none⟩ ∧ b < hi ∧ w.cell? ⟨b, off + i * 3, none⟩ = some (.int .i64 ts[i].f) ∧ w.cell? ⟨b, off + i * 3 + 1, none⟩ = some (.int .i64 ts[i].v) ∧ w.cell? ⟨b, off + i * 3 + 2, none⟩ = some (.slice a' ts[i].kids.length c') ∧ RdK w hi a' ts[i].kids := by
  cases h with
  | nil a => simp at hi'
  | row b off ts A C hlt hl hz hc hk =>
    obtain ⟨h0, h1, h2⟩ := hc i hi'
    exact ⟨b, off, _, _, rfl, hlt, h0, h1, h2, hk i hi'⟩

/-- What stands at kid i, with what its slice's room is. -/
theorem RdK.kidc {w : World} {hi : Nat} {a : Option Addr} {ts : List TermD} (h : RdK w hi a ts) {i : Nat} (hi' : i < ts.length) :
    ∃ b off a' c', a = some ⟨b, off, none⟩ ∧ b < hi ∧ w.cell? ⟨b, off + i * 3, none⟩ = some (.int .i64 ts[i].f) ∧ w.cell? ⟨b, off + i * 3 + 1, none⟩ = some (.int .i64 ts[i].v) ∧ w.cell? ⟨b, off + i * 3 + 2, none⟩ = some (.slice a' ts[i].kids.length c') ∧ ts[i].kids.length ≤ c' ∧ RdK w hi a' ts[i].kids := by
  cases h with
  | nil a => simp at hi'
  | row b off ts A C hlt hl hz hc hk =>
    obtain ⟨h0, h1, h2⟩ := hc i hi'
    exact ⟨b, off, _, _, rfl, hlt, h0, h1, h2, hl.2 i hi', hk i hi'⟩

/-- A term as a value. -/
def termV (t : TermD) (a : Option Addr) (c : Nat) : Value := .agg #[.int .i64 t.f, .int .i64 t.v, .slice a t.kids.length c]

mutual
/-- Whether two terms are the same. -/
def sameT : TermD → TermD → Bool
  | .mk f v ks, .mk f' v' ks' => f == f' && v == v' && ks.length == ks'.length && sameL ks ks'
def sameL : List TermD → List TermD → Bool
  | t :: ts, u :: us => sameT t u && sameL ts us
  | _, _ => true
end

theorem sameT_eq (t u : TermD) : sameT t u = (t.f == u.f && t.v == u.v && t.kids.length == u.kids.length && sameL t.kids u.kids) := by
  cases t; cases u; simp [sameT, TermD.f, TermD.v, TermD.kids]

theorem sameL_hit : ∀ {ts us : List TermD} {k : Nat} (h : k < ts.length) (h' : k < us.length), sameT ts[k] us[k] = false → sameL ts us = false
  | t :: ts, u :: us, 0, _, _, e => by simp only [List.getElem_cons_zero] at e; simp [sameL, e]
  | t :: ts, u :: us, k + 1, h, h', e => by
    simp only [List.getElem_cons_succ] at e
    have := sameL_hit (ts := ts) (us := us) (k := k) (by simpa using h) (by simpa using h') e
    simp [sameL, this]
  | [], _, _, h, _, _ => by simp at h
  | _ :: _, [], _, _, h', _ => by simp at h'

theorem sameL_all : ∀ {ts us : List TermD}, ts.length = us.length → (∀ k, (h : k < ts.length) → (h' : k < us.length) → sameT ts[k] us[k] = true) → sameL ts us = true
  | [], us, _, _ => by simp [sameL]
  | t :: ts, [], h, _ => by simp at h
  | t :: ts, u :: us, h, hall => by
    have h0 := hall 0 (by simp) (by simp)
    have h1 := sameL_all (ts := ts) (us := us) (by simpa using h) (fun k hk hk' => by have := hall (k + 1) (by simpa using hk) (by simpa using hk'); simpa using this)
    simp only [List.getElem_cons_zero] at h0
    simp [sameL, h0, h1]

mutual
/-- Whether a term is before another one. -/
def befT : TermD → TermD → Bool
  | .mk f v ks, .mk f' v' ks' => if f ≠ f' then decide (f < f') else if v ≠ v' then decide (v < v') else if ks.length ≠ ks'.length then decide (ks.length < ks'.length) else befL ks ks'
def befL : List TermD → List TermD → Bool
  | t :: ts, u :: us => if sameT t u then befL ts us else befT t u
  | _, _ => false
end

theorem befT_eq (t u : TermD) : befT t u = if t.f ≠ u.f then decide (t.f < u.f) else if t.v ≠ u.v then decide (t.v < u.v) else if t.kids.length ≠ u.kids.length then decide (t.kids.length < u.kids.length) else befL t.kids u.kids := by
  cases t; cases u; rw [befT]; rfl

theorem befL_hit : ∀ {ts us : List TermD} {k : Nat} (h : k < ts.length) (h' : k < us.length), (∀ j, (hj : j < k) → sameT (ts[j]'(by omega)) (us[j]'(by omega)) = true) → sameT ts[k] us[k] = false → befL ts us = befT ts[k] us[k]
  | t :: ts, u :: us, 0, _, _, _, e => by simp only [List.getElem_cons_zero] at e; simp [befL, e]
  | t :: ts, u :: us, k + 1, h, h', h0, e => by
    have e0 := h0 0 (by omega)
    simp only [List.getElem_cons_zero] at e0
    simp only [List.getElem_cons_succ] at e
    have := befL_hit (ts := ts) (us := us) (k := k) (by simpa using h) (by simpa using h') (fun j hj => by have := h0 (j + 1) (by omega); simpa using this) e
    simp [befL, e0, this]
  | [], _, _, h, _, _, _ => by simp at h
  | _ :: _, [], _, _, h', _, _ => by simp at h'

theorem befL_all : ∀ {ts us : List TermD}, (∀ k, (h : k < ts.length) → (h' : k < us.length) → sameT ts[k] us[k] = true) → befL ts us = false
  | [], us, _ => by simp [befL]
  | t :: ts, [], _ => by simp [befL]
  | t :: ts, u :: us, hall => by
    have h0 := hall 0 (by simp) (by simp)
    have h1 := befL_all (ts := ts) (us := us) (fun k hk hk' => by have := hall (k + 1) (by simpa using hk) (by simpa using hk'); simpa using this)
    simp only [List.getElem_cons_zero] at h0
    simp [befL, h0, h1]

mutual
/-- How often variable v stands in a term. -/
def cntT (v : Int) : TermD → Nat
  | .mk f u ks => (if f = -1 ∧ u = v then 1 else 0) + cntL v ks
def cntL (v : Int) : List TermD → Nat
  | [] => 0
  | t :: ts => cntT v t + cntL v ts
end

theorem cntT_eq (v : Int) (t : TermD) : cntT v t = (if t.f = -1 ∧ t.v = v then 1 else 0) + cntL v t.kids := by cases t; rw [cntT]; rfl
theorem cntL_append (v : Int) (a b : List TermD) : cntL v (a ++ b) = cntL v a + cntL v b := by
  induction a with
  | nil => simp [cntL]
  | cons t ts ih => simp only [List.cons_append, cntL, ih]; omega
theorem cntL_next (v : Int) {ts : List TermD} {k : Nat} (h : k < ts.length) : cntL v (ts.take (k + 1)) = cntL v (ts.take k) + cntT v ts[k] := by
  rw [List.take_succ_eq_append_getElem h, cntL_append]
  simp [cntL]
mutual
theorem cntT_le (v : Int) : ∀ t : TermD, cntT v t ≤ partsT t
  | .mk f u ks => by
    have := cntL_le v ks
    simp only [cntT, partsT]
    split <;> omega
theorem cntL_le (v : Int) : ∀ ts : List TermD, cntL v ts ≤ partsL ts
  | [] => by simp [cntL]
  | t :: ts => by
    have h1 := cntT_le v t
    have h2 := cntL_le v ts
    simp only [cntL, partsL]; omega
end
end Go.Proofs.Ythbilahilmmfmaa

/- The order of terms as plain mathematics, and a stack of pairs of lists still to be held against each other. Conditions: none. -/
namespace Go.Proofs.Ythbilahilmmfmaa
set_option maxRecDepth 100000
open Go.RowKit

/-- The least number of which p holds (0 where there is none). -/
theorem least_ex {p : Nat → Prop} (h : ∃ n, p n) : ∃ n, p n ∧ ∀ m, p m → n ≤ m := by
  obtain ⟨n, hn⟩ := h
  induction n using Nat.strongRecOn with
  | ind n ih =>
    by_cases hm : ∃ m, m < n ∧ p m
    · obtain ⟨m, hlt, hp⟩ := hm; exact ih m hlt hp
    · exact ⟨n, hn, fun m hp => Nat.le_of_not_lt fun hlt => hm ⟨m, hlt, hp⟩⟩

open Classical in
noncomputable def leastN (p : Nat → Prop) : Nat := if h : ∃ n, p n ∧ ∀ m, p m → n ≤ m then Classical.choose h else 0

theorem leastN_spec {p : Nat → Prop} (h : ∃ n, p n) : ∃ n, p n ∧ leastN p = n := by
  have h' := least_ex h
  refine ⟨leastN p, ?_, rfl⟩
  unfold leastN
  rw [dif_pos h']
  exact (Classical.choose_spec h').1
theorem leastN_le {p : Nat → Prop} {n : Nat} (h : p n) : leastN p ≤ n := by
  have h' := least_ex ⟨n, h⟩
  unfold leastN
  rw [dif_pos h']
  exact (Classical.choose_spec h').2 n h

def cmpI (x y : Int) : Int := if x < y then -1 else if y < x then 1 else 0
theorem cmpI_zero {x y : Int} : cmpI x y = 0 ↔ x = y := by unfold cmpI; split <;> (try split) <;> omega
theorem cmpI_self (x : Int) : cmpI x x = 0 := cmpI_zero.2 rfl
theorem cmpI_bd (x y : Int) : -1 ≤ cmpI x y ∧ cmpI x y ≤ 1 := by unfold cmpI; split <;> (try split) <;> omega
theorem cmpI_neg {x y : Int} : cmpI x y < 0 ↔ x < y := by unfold cmpI; split <;> (try split) <;> omega

/-- The first of three that is not 0. -/
def or3 (x y z : Int) : Int := if x ≠ 0 then x else if y ≠ 0 then y else z
/-- How the heads of two terms stand to each other. -/
def headO (t u : TermD) : Int := or3 (cmpI t.f u.f) (cmpI t.v u.v) (cmpI t.kids.length u.kids.length)

theorem headO_zero {t u : TermD} : headO t u = 0 ↔ t.f = u.f ∧ t.v = u.v ∧ t.kids.length = u.kids.length := by
  unfold headO or3
  by_cases h1 : t.f = u.f
  · have e1 := cmpI_zero.2 h1
    by_cases h2 : t.v = u.v
    · have e2 := cmpI_zero.2 h2
      simp only [e1, e2, ne_eq, not_true_eq_false, if_false, cmpI_zero]
      constructor
      · intro h; exact ⟨h1, h2, by omega⟩
      · intro h; omega
    · have e2 := mt cmpI_zero.1 h2
      simp [e1, e2, h2]
  · have e1 := mt cmpI_zero.1 h1
    simp [e1, h1]
theorem headO_bd (t u : TermD) : -1 ≤ headO t u ∧ headO t u ≤ 1 := by
  unfold headO or3
  have h1 := cmpI_bd t.f u.f; have h2 := cmpI_bd t.v u.v; have h3 := cmpI_bd t.kids.length u.kids.length
  split
  · exact h1
  · split
    · exact h2
    · exact h3

mutual
/-- How two terms stand to each other. -/
def ordT : TermD → TermD → Int
  | .mk f v ks, .mk f' v' ks' => if headO (.mk f v ks) (.mk f' v' ks') ≠ 0 then headO (.mk f v ks) (.mk f' v' ks') else ordL ks ks'
def ordL : List TermD → List TermD → Int
  | t :: ts, u :: us => if ordT t u ≠ 0 then ordT t u else ordL ts us
  | _, _ => 0
end
theorem ordT_eq (t u : TermD) : ordT t u = if headO t u ≠ 0 then headO t u else ordL t.kids u.kids := by
  cases t; cases u; rw [ordT]; rfl
theorem ordL_cons (t u : TermD) (ts us : List TermD) : ordL (t :: ts) (u :: us) = if ordT t u ≠ 0 then ordT t u else ordL ts us := by rw [ordL]
theorem ordL_nil : ordL [] [] = 0 := by rw [ordL]; simp

mutual
theorem ordT_same : ∀ t u : TermD, (ordT t u = 0) ↔ sameT t u = true
  | .mk f v ks, .mk f' v' ks' => by
    have hL : ks.length = ks'.length → ((ordL ks ks' = 0) ↔ sameL ks ks' = true) := ordL_same ks ks'
    rw [ordT_eq, sameT_eq]
    by_cases h : headO (.mk f v ks) (.mk f' v' ks') = 0
    · have e := headO_zero.1 h
      simp only [h, ne_eq, not_true_eq_false, if_false]
      obtain ⟨e1, e2, e3⟩ := e
      simp only [e1, e2, e3, beq_self_eq_true, Bool.true_and]
      exact hL e3
    · have e := mt headO_zero.2 h
      simp only [h, ne_eq, not_false_eq_true, if_true, false_iff]
      intro hh
      simp only [Bool.and_eq_true, beq_iff_eq] at hh
      exact e ⟨hh.1.1.1, hh.1.1.2, hh.1.2⟩
theorem ordL_same : ∀ ts us : List TermD, ts.length = us.length → ((ordL ts us = 0) ↔ sameL ts us = true)
  | [], us, _ => by
    cases us with
    | nil => simp [ordL, sameL]
    | cons u us => simp [ordL, sameL]
  | t :: ts, [], h => by simp at h
  | t :: ts, u :: us, h => by
    have h1 := ordT_same t u
    have h2 := ordL_same ts us (by simpa using h)
    rw [ordL_cons]
    by_cases e : ordT t u = 0
    · simp only [e, ne_eq, not_true_eq_false, if_false]
      rw [h2]
      simp [sameL, h1.1 e]
    · simp only [e, ne_eq, not_false_eq_true, if_true, false_iff]
      simp only [sameL, Bool.and_eq_true]
      intro hh
      exact e (h1.2 hh.1)
end

mutual
theorem ordT_bef : ∀ t u : TermD, decide (ordT t u < 0) = befT t u
  | .mk f v ks, .mk f' v' ks' => by
    have hL : ks.length = ks'.length → decide (ordL ks ks' < 0) = befL ks ks' := ordL_bef ks ks'
    rw [ordT_eq, befT_eq]
    show decide ((if headO (TermD.mk f v ks) (.mk f' v' ks') ≠ 0 then headO (.mk f v ks) (.mk f' v' ks') else ordL ks ks') < 0) = (if f ≠ f' then decide (f < f') else if v ≠ v' then decide (v < v') else if ks.length ≠ ks'.length then decide (ks.length < ks'.length) else befL ks ks')
    have hd : headO (TermD.mk f v ks) (.mk f' v' ks') = or3 (cmpI f f') (cmpI v v') (cmpI ks.length ks'.length) := rfl
    rw [hd]
    unfold or3
    by_cases h1 : f = f'
    · subst h1
      by_cases h2 : v = v'
      · subst h2
        by_cases h3 : ks.length = ks'.length
        · simp [cmpI_self, h3, hL h3]
        · have e : cmpI (ks.length : Int) (ks'.length : Int) ≠ 0 := mt cmpI_zero.1 (by omega)
          simp [cmpI_self, h3, e, cmpI_neg]
      · have e : cmpI v v' ≠ 0 := mt cmpI_zero.1 h2
        simp [cmpI_self, h2, e, cmpI_neg]
    · have e : cmpI f f' ≠ 0 := mt cmpI_zero.1 h1
      simp [h1, e, cmpI_neg]
theorem ordL_bef : ∀ ts us : List TermD, ts.length = us.length → decide (ordL ts us < 0) = befL ts us
  | [], us, _ => by
    cases us with
    | nil => simp [ordL, befL]
    | cons u us => simp [ordL, befL]
  | t :: ts, [], h => by simp at h
  | t :: ts, u :: us, h => by
    have h0 := ordT_same t u
    have h1 := ordT_bef t u
    have h2 := ordL_bef ts us (by simpa using h)
    rw [ordL_cons]
    cases hs : sameT t u with
    | true =>
      have e := h0.2 hs
      simp [e, befL, hs, h2]
    | false =>
      have e : ordT t u ≠ 0 := fun e => by rw [h0.1 e] at hs; cases hs
      simp [e, befL, hs, h1]
end

/-- What the stack comes to, its top first. -/
def ordS : List (List TermD × List TermD) → Int
  | [] => 0
  | p :: S => if ordL p.1 p.2 ≠ 0 then ordL p.1 p.2 else ordS S
/-- How much is left on it. -/
def sizeS : List (List TermD × List TermD) → Nat
  | [] => 0
  | p :: S => 2 * partsL p.1 + 1 + sizeS S

theorem ordS_pop (S : List (List TermD × List TermD)) : ordS (([], []) :: S) = ordS S := by simp [ordS, ordL_nil]
theorem ordS_hit {t u : TermD} {ts us : List TermD} {S : List (List TermD × List TermD)} (h : headO t u ≠ 0) : ordS ((t :: ts, u :: us) :: S) = headO t u := by
  have e : ordT t u = headO t u := by rw [ordT_eq, if_pos h]
  simp [ordS, ordL_cons, e, h]
theorem ordS_push {t u : TermD} {ts us : List TermD} {S : List (List TermD × List TermD)} (h : headO t u = 0) : ordS ((t :: ts, u :: us) :: S) = ordS ((t.kids, u.kids) :: (ts, us) :: S) := by
  have e : ordT t u = ordL t.kids u.kids := by rw [ordT_eq]; simp [h]
  simp only [ordS, ordL_cons, e]
  by_cases h1 : ordL t.kids u.kids = 0
  · simp [h1]
  · simp [h1]
theorem sizeS_push (t u : TermD) (ts us : List TermD) (S : List (List TermD × List TermD)) : sizeS ((t.kids, u.kids) :: (ts, us) :: S) < sizeS ((t :: ts, u :: us) :: S) := by
  simp only [sizeS, partsL, partsT_eq]; omega
theorem sizeS_len (S : List (List TermD × List TermD)) : S.length ≤ sizeS S := by
  induction S with
  | nil => simp [sizeS]
  | cons p S ih => simp only [sizeS, List.length_cons]; omega
end Go.Proofs.Ythbilahilmmfmaa

/- A range over a function whose iterator keeps memory of its own: what it promises the loop's body, and what the body promises it, told by sets of blocks; the statement's law. Conditions: none. -/
namespace Go.Proofs.Ythbilahilmmfmaa
set_option maxRecDepth 100000
open Go.RowKit

/-- All blocks of S lie as they lay. -/
structure Stay (S : Nat → Prop) (w w' : World) : Prop where
  os : w'.os = w.os
  tape : w'.tape = w.tape
  output : w'.output = w.output
  size : w.heap.size ≤ w'.heap.size
  block : ∀ k, k < w.heap.size → S k → w'.heap[k]? = w.heap[k]?

theorem Stay.refl (S : Nat → Prop) (w : World) : Stay S w w := ⟨rfl, rfl, rfl, Nat.le_refl _, fun _ _ _ => rfl⟩
theorem Stay.trans {S : Nat → Prop} {a b c : World} (h : Stay S a b) (k : Stay S b c) : Stay S a c :=
  ⟨k.os.trans h.os, k.tape.trans h.tape, k.output.trans h.output, Nat.le_trans h.size k.size, fun i hi hs => (k.block i (Nat.lt_of_lt_of_le hi h.size) hs).trans (h.block i hi hs)⟩
theorem Stay.weak {S T : Nat → Prop} {a b : World} (h : Stay S a b) (ht : ∀ k, k < a.heap.size → T k → S k) : Stay T a b :=
  ⟨h.os, h.tape, h.output, h.size, fun k hk hs => h.block k hk (ht k hk hs)⟩
theorem Stay.below {S : Nat → Prop} {a b : World} {B : Nat} (h : Stay S a b) (hB : B ≤ a.heap.size) (hs : ∀ k, k < B → S k) : Below B a b :=
  ⟨h.os, h.tape, h.output, h.size, fun k hk => h.block k (by omega) (hs k hk)⟩
theorem Stay.of_below {S : Nat → Prop} {a b : World} {B : Nat} (h : Below B a b) (hs : ∀ k, k < a.heap.size → S k → k < B) : Stay S a b :=
  ⟨h.os, h.tape, h.output, h.size, fun k hk hk' => h.block k (hs k hk hk')⟩
theorem Stay.grown {S : Nat → Prop} {a b : World} {row : Option Nat} (h : a.grownBy b row) (hr : ∀ k, row = some k → ¬ S k) : Stay S a b :=
  ⟨h.os, h.tape, h.output, h.size, fun k hk hs => h.block k hk (fun e => hr k e.symm hs)⟩
theorem Stay.putObj {S : Nat → Prop} (a : World) {r : Nat} (o : Obj) (hr : ¬ S r) : Stay S a (a.putObj r o) :=
  .grown (grownBy_putObj' a r o) (fun k e => by cases e; exact hr)
theorem Stay.setCell {S : Nat → Prop} (a : World) {p : Addr} (v : Value) (hr : ¬ S p.block) : Stay S a (a.setCell p v) :=
  ⟨rfl, rfl, rfl, by simp [World.setCell], fun k _ hs => Below.heap_setCell _ _ _ _ (fun e => hr (e ▸ hs))⟩
theorem Stay.alloc (S : Nat → Prop) (a : World) (o : Obj) : Stay S a (a.alloc o) :=
  ⟨rfl, rfl, rfl, by simp, fun k hk _ => Below.heap_alloc _ _ _ hk⟩
theorem Stay.drew (S : Nat → Prop) (a : World) : Stay S a a.drew := ⟨rfl, rfl, rfl, Nat.le_refl _, fun _ _ _ => rfl⟩
theorem Stay.cell {S : Nat → Prop} {a b : World} (h : Stay S a b) {p : Addr} {v : Value} (hc : a.cell? p = some v) (hs : S p.block) : b.cell? p = some v :=
  (World.cell?_of_block (h.block p.block (World.block_lt_of_cell? a p hc) hs)).trans hc
theorem Stay.frozen {S : Nat → Prop} {a b : World} (h : Stay S a b) {p : Addr} (hl : p.block < a.heap.size) (hs : S p.block) : b.frozen? p = a.frozen? p :=
  World.frozen?_of_block (h.block p.block hl hs)

/-- The iterator's word: whatever stays while the blocks of S do is not turned by it; the body's: below n₀, and outside S, nothing is turned. -/
def SeqPriv {α : Type} (F : Fence) (n : Nat) (P : Program) (g : Nat) (lb : Array Value) (encs : α → Array Value) (n₀ : Nat) (Sa Sp : List α → Prop) (Ok : List α → α → Prop) (N : Nat) (w : World) : Prop :=
  ∀ (l : Nat) (J Jx : List α → (Nat → Prop) → World → Prop) (S₀ : Nat → Prop) (W : World), Below w.heap.size w W →
    (∀ pre S A B, J pre S A → Stay S A B → J pre S B) → (∀ pre S A B, Jx pre S A → Stay S A B → Jx pre S B) → (∀ pre S A, J pre S A → ∀ k, S k → k < A.heap.size) →
    (∀ pre x S A, J pre S A → pre.length < N → Ok pre x → YieldAt F (n - 1) P l (encs x) A fun e B =>
      (e = .returned (.bool true) ∧ ∃ S', J (pre ++ [x]) S' B ∧ (∀ k, S' k → S k ∨ A.heap.size ≤ k) ∧ Stay (fun k => k < n₀ ∨ ¬ S k) A B) ∨
      (e = .returned (.bool false) ∧ ∃ S', Jx (pre ++ [x]) S' B)) →
    J [] S₀ W →
    CallsIn F n P g (#[.func (.yield l) #[] #[]] ++ lb) W fun e B => (∃ v, e = .returned v) ∧ ((∃ xs S', Sa xs ∧ J xs S' B) ∨ (∃ pre S', Sp pre ∧ Jx pre S' B))

/-- How the body of a round may be left. -/
def privPost {α : Type} (n₀ : Nat) (I : List α → (Nat → Prop) → World → Prop) (Ix : Code → List α → (Nat → Prop) → World → Prop) (xs : List α) (S : Nat → Prop) (W : World) : Exit → Act → World → Prop
  | .normal, _, B => ∃ S', I xs S' B ∧ (∀ k, S' k → S k ∨ W.heap.size ≤ k) ∧ Stay (fun k => k < n₀ ∨ ¬ S k) W B
  | .ret, _, B => ∃ S', Ix .ret xs S' B ∧ (∀ k, S' k → S k ∨ W.heap.size ≤ k) ∧ Stay (fun k => k < n₀ ∨ ¬ S k) W B
  | .exit id, _, B => ∃ S', Ix (.exit id) xs S' B ∧ (∀ k, S' k → S k ∨ W.heap.size ≤ k) ∧ Stay (fun k => k < n₀ ∨ ¬ S k) W B
  | .goto t, _, B => ∃ S', Ix (.goto t) xs S' B ∧ (∀ k, S' k → S k ∨ W.heap.size ≤ k) ∧ Stay (fun k => k < n₀ ∨ ¬ S k) W B
  | .panic _, _, _ => False
  | .outgrown, _, _ => False

variable {F : Fence} {n : Nat} {P : Program}

theorem wpIn_rangeFunc_priv {α : Type} {g : Operand} {ps : Array Tmp} {assign body : Code} {Q : Exit → Act → World → Prop} {a : Act} {w : World}
    (hro : F.round = none) (h1 : 1 ≤ n) {gf : Nat} {lb : Array Value} (hg : a.eval g = .func (.func gf) #[] lb) (hFg : F.fn gf) (eg : ∀ args w, (callFunc gf args).run P w = .ok (.enter gf args) w)
    {encs : α → Array Value} {n₀ : Nat} {Sa Sp : List α → Prop} {Ok : List α → α → Prop} {N : Nat} {w0 : World} (hseq : SeqPriv F (n - 1) P gf lb encs n₀ Sa Sp Ok N w0) (hn₀ : n₀ ≤ w.heap.size) (hb0 : Below w0.heap.size w0 w) (hps : ∀ x, (encs x).size = ps.size)
    (I : List α → (Nat → Prop) → World → Prop) (Ix : Code → List α → (Nat → Prop) → World → Prop)
    (hI : ∀ pre S A B, I pre S A → Stay S A B → I pre S B) (hIx : ∀ c pre S A B, Ix c pre S A → Stay S A B → Ix c pre S B)
    (hIb : ∀ pre S A, I pre S A → ∀ k, S k → k < A.heap.size) (S₀ : Nat → Prop) (hS₀ : ∀ k, S₀ k → k < w.heap.size) (h0 : I [] S₀ w)
    (Ax : List α → α → (Nat → Prop) → Act → World → Prop) (hAx : ∀ pre x S a A B, Ax pre x S a A → Stay S A B → Ax pre x S a B)
    (hassign : ∀ (l : Nat) (pre : List α) (x : α) (S : Nat → Prop) (W : World) (K : Act → World → Prop), I pre S W → pre.length < N → Ok pre x →
      (∀ a₁ S₁ W₁, Ax pre x S₁ a₁ W₁ → (∀ k, S₁ k → S k ∨ W.heap.size ≤ k) → Stay (fun k => k < n₀ ∨ ¬ S k) W W₁ → K a₁ W₁) →
      assign.wpIn (F.inRound l) (n - 1 - 1) P (Exit.then K (fun _ _ _ => False)) { tmps := (ps.zip (encs x)).foldl (fun t (p, v) => t.setIfInBounds p v) a.tmps, defers := [] } W)
    (hbody : ∀ (l : Nat) (pre : List α) (x : α) (S : Nat → Prop) (a₁ : Act) (W : World), Ax pre x S a₁ W → pre.length < N → Ok pre x → body.wpIn (F.inRound l) (n - 1 - 1) P (privPost n₀ I Ix (pre ++ [x]) S W) a₁ W)
    (hdone : ∀ (D : Nat) (xs : List α) (S : Nat → Prop) (W : World), Sa xs → I xs S W → W.heap[D]? = some (.deferred (some [])) → w.heap.size ≤ D → ¬ S D → Q .normal { a with defers := { target := .collected D, args := #[] } :: a.defers } W)
    (hstop : ∀ (D : Nat) (c : Code) (pre : List α) (S : Nat → Prop) (W : World), Sp pre → Ix c pre S W → W.heap[D]? = some (.deferred (some [])) → w.heap.size ≤ D → ¬ S D → c.wpIn F n P Q { a with defers := { target := .collected D, args := #[] } :: a.defers } W) :
    (Code.rangeFunc g ps assign body).wpIn F n P Q a w := by
  refine wpIn_rangeFunc ?_
  intro fn hfn
  rw [hro]
  obtain ⟨rec, hrec⟩ : ∃ rec : LoopState → Option Code → Loop, rec = fun st pe => { state := st, pending := pe, fn, tmps := a.tmps, params := ps, assign, body, defers := w.heap.size } := ⟨_, rfl⟩
  obtain ⟨W1, hW1⟩ : ∃ W1, (w.alloc (.deferred (some []))).alloc (.loop (rec .ready none)) = W1 := ⟨_, rfl⟩
  have hL1 : W1.heap[w.heap.size + 1]? = some (.loop (rec .ready none)) := by
    rw [← hW1]; have := World.alloc_heap_new (w.alloc (.deferred (some []))) (.loop (rec .ready none)); rwa [World.size_alloc] at this
  have hK1 : W1.heap[w.heap.size]? = some (.deferred (some [])) := by
    rw [← hW1]; exact (Below.heap_alloc _ _ _ (by simp)).trans (World.alloc_heap_new w _)
  have hI1 : I [] S₀ W1 := by rw [← hW1]; exact hI _ _ _ _ (hI _ _ _ _ h0 (.alloc _ _ _)) (.alloc _ _ _)
  have hb1 : Below w0.heap.size w0 W1 := by
    rw [← hW1]; exact hb0.trans ((((Below.refl _ w).alloc (Nat.le_refl _) _).alloc (by simp) _).mono hb0.size)
  have hsz : ∀ {A : World} {r : Loop}, A.heap[w.heap.size + 1]? = some (.loop r) → w.heap.size + 1 < A.heap.size := fun h => (Array.getElem?_eq_some_iff.1 h).1
  refine ⟨w.heap.size + 1, [{ target := .collected w.heap.size, args := #[] }], W1, { target := .fn (.func gf) lb, args := #[.func (.yield (w.heap.size + 1)) #[] #[]] }, W1, gf,
    #[.func (.yield (w.heap.size + 1)) #[] #[]] ++ lb, W1, ?_, ?_, ?_, ?_, fun _ => h1, ?_⟩
  · rw [← hW1, hrec]; exact run_enterLoop_outer _ _ _ _ _
  · simp only [resolve, hg]
    simp [go_sem]
  · intro f' hf'; simp [Target.leads] at hf'; subst hf'; exact hFg
  · simp [invoke, go_sem, eg]
  · -- the sets: the caller's, and the two blocks of the loop
    have hst : ∀ {A B : World} {T S : Nat → Prop}, (∀ k, S k ↔ T k ∨ k = w.heap.size ∨ k = w.heap.size + 1) → Stay S A B → Stay T A B := fun hS h => h.weak (fun k _ ht => (hS k).2 (.inl ht))
    refine (hseq (w.heap.size + 1)
      (fun pre S W => ∃ T : Nat → Prop, (∀ k, S k ↔ T k ∨ k = w.heap.size ∨ k = w.heap.size + 1) ∧ (∀ k, T k → k ≠ w.heap.size ∧ k ≠ w.heap.size + 1) ∧ I pre T W ∧ W.heap[w.heap.size + 1]? = some (.loop (rec .ready none)) ∧ W.heap[w.heap.size]? = some (.deferred (some [])))
      (fun pre S W => ∃ T : Nat → Prop, (∀ k, S k ↔ T k ∨ k = w.heap.size ∨ k = w.heap.size + 1) ∧ (∀ k, T k → k ≠ w.heap.size ∧ k ≠ w.heap.size + 1) ∧ ∃ c, Ix c pre T W ∧ W.heap[w.heap.size + 1]? = some (.loop (rec .done (some c))) ∧ W.heap[w.heap.size]? = some (.deferred (some [])))
      (fun k => S₀ k ∨ k = w.heap.size ∨ k = w.heap.size + 1) W1 hb1 ?_ ?_ ?_ ?_ ⟨S₀, fun k => Iff.rfl, fun k hk => by have := hS₀ k hk; omega, hI1, hL1, hK1⟩).mono ?_
    · rintro pre S A B ⟨T, hS, hT, hi, hl, hk⟩ h
      have hlt := hsz hl
      exact ⟨T, hS, hT, hI _ _ _ _ hi (hst hS h), (h.block _ hlt ((hS _).2 (.inr (.inr rfl)))).trans hl, (h.block _ (by omega) ((hS _).2 (.inr (.inl rfl)))).trans hk⟩
    · rintro pre S A B ⟨T, hS, hT, c, hi, hl, hk⟩ h
      have hlt := hsz hl
      exact ⟨T, hS, hT, c, hIx _ _ _ _ _ hi (hst hS h), (h.block _ hlt ((hS _).2 (.inr (.inr rfl)))).trans hl, (h.block _ (by omega) ((hS _).2 (.inr (.inl rfl)))).trans hk⟩
    · rintro pre S A ⟨T, hS, hT, hi, hl, hk⟩ k hk'
      have hlt := hsz hl
      rcases (hS k).1 hk' with h | h | h
      · exact hIb _ _ _ hi k h
      · omega
      · omega
    · -- one round
      rintro pre x S W ⟨T, hS, hT, hi, hl, hk⟩ hlen hok
      have hlt := hsz hl
      have nL : ¬ T (w.heap.size + 1) := fun h => (hT _ h).2 rfl
      have nD : ¬ T w.heap.size := fun h => (hT _ h).1 rfl
      have hy := run_yield (P := P) (args := encs x) hl (by rw [hrec]; exact hps x)
      rw [hrec] at hy
      refine ⟨fn, _, assign, body, hy, roundIn_of_wpIn hfn (hassign _ pre x T W _ hi hlen hok ?_)⟩
      intro a₁ T₁ W₁ hax hT₁ hst₁
      have hL₁ := (hst₁.block (w.heap.size + 1) hlt (.inr nL)).trans hl
      have hD₁ := (hst₁.block w.heap.size (by omega) (.inr nD)).trans hk
      have nL₁ : ¬ T₁ (w.heap.size + 1) := fun h => (hT₁ _ h).elim nL (fun h => by omega)
      have nD₁ : ¬ T₁ w.heap.size := fun h => (hT₁ _ h).elim nD (fun h => by omega)
      have hz₁ := hst₁.size
      refine ⟨_, run_beginRound hL₁ (by rw [hrec]), ?_⟩
      obtain ⟨W2, hW2⟩ : ∃ W2, W2 = W₁.putObj (w.heap.size + 1) (.loop { rec .ready none with state := .busy }) := ⟨_, rfl⟩
      rw [← hW2]
      have hl2 : W2.heap[w.heap.size + 1]? = some (.loop { rec .ready none with state := .busy }) := by rw [hW2]; exact World.putObj_heap_same (by omega)
      have hk2 : W2.heap[w.heap.size]? = some (.deferred (some [])) := by rw [hW2]; exact (World.putObj_heap_other (by omega)).trans hD₁
      have hz2 : W2.heap.size = W₁.heap.size := by rw [hW2]; simp
      have hi2 : Ax pre x T₁ a₁ W2 := by rw [hW2]; exact hAx _ _ _ _ _ _ hax (.putObj _ _ nL₁)
      have hs2 : Stay (fun k => k < n₀ ∨ ¬ S k) W W2 := by
        rw [hW2]
        exact (hst₁.weak (fun k _ h => h.elim .inl (fun h => .inr (fun ht => h ((hS _).2 (.inl ht)))))).trans (.putObj _ _ (fun h => h.elim (fun h => by omega) (fun h => h ((hS _).2 (.inr (.inr rfl))))))
      have sub₁ : ∀ k, k < W.heap.size → T₁ k → T k := fun k hk h => (hT₁ k h).elim id (fun h => by omega)
      refine wpIn_mono (hbody _ pre x T₁ a₁ W2 hi2 hlen hok) ?_
      have fin : ∀ (jump : Option Code) (W3 : World), Stay (fun k => k < n₀ ∨ ¬ T₁ k) W2 W3 →
          (Instr.endRound (w.heap.size + 1) jump).run P W3 = .ok (.bool jump.isNone) (W3.putObj (w.heap.size + 1) (.loop (rec (if jump.isNone then .ready else .done) jump))) ∧
          (W3.putObj (w.heap.size + 1) (.loop (rec (if jump.isNone then .ready else .done) jump))).heap[w.heap.size + 1]? = some (.loop (rec (if jump.isNone then .ready else .done) jump)) ∧
          (W3.putObj (w.heap.size + 1) (.loop (rec (if jump.isNone then .ready else .done) jump))).heap[w.heap.size]? = some (.deferred (some [])) ∧
          Stay (fun k => k < n₀ ∨ ¬ S k) W (W3.putObj (w.heap.size + 1) (.loop (rec (if jump.isNone then .ready else .done) jump))) := fun jump W3 hk3 => by
        have hl3 := (hk3.block (w.heap.size + 1) (by omega) (.inr nL₁)).trans hl2
        have hd3 := (hk3.block w.heap.size (by omega) (.inr nD₁)).trans hk2
        have := run_endRound (P := P) jump hl3
        rw [hrec] at this ⊢
        refine ⟨this, World.putObj_heap_same (Array.getElem?_eq_some_iff.1 hl3).1, (World.putObj_heap_other (by omega)).trans hd3, ?_⟩
        have h34 : Stay (fun k => (k < n₀ ∨ ¬ S k) ∧ k < W.heap.size) W W3 := (hs2.weak (fun _ _ h => h.1)).trans (hk3.weak (fun k _ h => h.1.elim .inl (fun h' => .inr (fun ht => h' ((hS _).2 (.inl (sub₁ k h.2 ht)))))))
        exact (h34.weak (fun k hk h => ⟨h, hk⟩)).trans (.putObj _ _ (fun h => h.elim (fun h => by omega) (fun h => h ((hS _).2 (.inr (.inr rfl))))))
      have sub : ∀ {T' : Nat → Prop}, (∀ k, T' k → T₁ k ∨ W2.heap.size ≤ k) → (∀ k, T' k → k ≠ w.heap.size ∧ k ≠ w.heap.size + 1) ∧ (∀ k, (T' k ∨ k = w.heap.size ∨ k = w.heap.size + 1) → S k ∨ W.heap.size ≤ k) := fun hT' =>
        ⟨fun k hk => (hT' k hk).elim (fun h => (hT₁ k h).elim (hT k) (fun h => by omega)) (fun h => by omega), fun k hk => hk.elim (fun h => (hT' k h).elim (fun h => (hT₁ k h).elim (fun h => .inl ((hS _).2 (.inl h))) .inr) (fun h => .inr (by omega))) (fun h => .inl ((hS _).2 (.inr h)))⟩
      rintro e a3 W3 hp
      cases e with
      | normal =>
        obtain ⟨T', hi3, hT', hk3⟩ := hp
        obtain ⟨hr, hl4, hk4, hst4⟩ := fin none W3 hk3
        obtain ⟨q1, q2⟩ := sub hT'
        exact ⟨_, _, hr, .inl ⟨rfl, fun k => T' k ∨ k = w.heap.size ∨ k = w.heap.size + 1, ⟨T', fun k => Iff.rfl, q1, hI _ _ _ _ hi3 (.putObj _ _ (fun h => (q1 _ h).2 rfl)), hl4, hk4⟩, q2, hst4⟩⟩
      | ret =>
        obtain ⟨T', hi3, hT', hk3⟩ := hp
        obtain ⟨hr, hl4, hk4, hst4⟩ := fin (some .ret) W3 hk3
        obtain ⟨q1, q2⟩ := sub hT'
        exact ⟨_, _, hr, .inr ⟨rfl, fun k => T' k ∨ k = w.heap.size ∨ k = w.heap.size + 1, T', fun k => Iff.rfl, q1, .ret, hIx _ _ _ _ _ hi3 (.putObj _ _ (fun h => (q1 _ h).2 rfl)), hl4, hk4⟩⟩
      | exit id =>
        obtain ⟨T', hi3, hT', hk3⟩ := hp
        obtain ⟨hr, hl4, hk4, hst4⟩ := fin (some (.exit id)) W3 hk3
        obtain ⟨q1, q2⟩ := sub hT'
        exact ⟨_, _, hr, .inr ⟨rfl, fun k => T' k ∨ k = w.heap.size ∨ k = w.heap.size + 1, T', fun k => Iff.rfl, q1, .exit id, hIx _ _ _ _ _ hi3 (.putObj _ _ (fun h => (q1 _ h).2 rfl)), hl4, hk4⟩⟩
      | goto t =>
        obtain ⟨T', hi3, hT', hk3⟩ := hp
        obtain ⟨hr, hl4, hk4, hst4⟩ := fin (some (.goto t)) W3 hk3
        obtain ⟨q1, q2⟩ := sub hT'
        exact ⟨_, _, hr, .inr ⟨rfl, fun k => T' k ∨ k = w.heap.size ∨ k = w.heap.size + 1, T', fun k => Iff.rfl, q1, .goto t, hIx _ _ _ _ _ hi3 (.putObj _ _ (fun h => (q1 _ h).2 rfl)), hl4, hk4⟩⟩
      | panic ch => exact hp.elim
      | outgrown => exact hp.elim
    · -- behind the iterator
      rintro e W2 ⟨⟨v, rfl⟩, (⟨xs, S, hSa, T, hS, hT, hi, hl, hk⟩ | ⟨pre, S, hSp, T, hS, hT, c, hi, hl, hk⟩)⟩
      · exact ⟨none, _, by have := run_endLoop (P := P) hl (by rw [hrec]; simp); rw [hrec] at this; exact this, hdone _ xs T _ hSa (hI _ _ _ _ hi (.putObj _ _ (fun h => (hT _ h).2 rfl))) ((World.putObj_heap_other (by omega)).trans hk) (Nat.le_refl _) (fun h => (hT _ h).1 rfl)⟩
      · exact ⟨some c, _, by have := run_endLoop (P := P) hl (by rw [hrec]; simp); rw [hrec] at this; exact this, hstop _ c pre T _ hSp (hIx _ _ _ _ _ hi (.putObj _ _ (fun h => (hT _ h).2 rfl))) ((World.putObj_heap_other (by omega)).trans hk) (Nat.le_refl _) (fun h => (hT _ h).1 rfl)⟩
end Go.Proofs.Ythbilahilmmfmaa

/- Terms that own their memory: no two parts of one lie in one block. Conditions: none. -/
namespace Go.Proofs.Ythbilahilmmfmaa
set_option maxRecDepth 100000
open Go.RowKit

/-- The slice of terms that begins at 'a' reads in w as ts; its blocks are among S, and no two of its parts share one. -/
inductive OwnS (w : World) : (Nat → Prop) → Option Addr → List TermD → Prop
  | nil (S : Nat → Prop) (a : Option Addr) : OwnS w S a []
  | row (S : Nat → Prop) (b off : Nat) (ts : List TermD) (A : Nat → Option Addr) (C : Nat → Nat) (K : Nat → Nat → Prop) (hb : S b) (hlt : b < w.heap.size) (hl : ts.length ≤ 9223372036854775807 ∧ ∀ i, (h : i < ts.length) → ts[i].kids.length ≤ C i) (hz : ∀ i, (h : i < ts.length) → isW ts[i].f ∧ isW ts[i].v)
      (hc : ∀ i, (h : i < ts.length) → w.cell? ⟨b, off + i * 3, none⟩ = some (.int .i64 ts[i].f) ∧ w.cell? ⟨b, off + i * 3 + 1, none⟩ = some (.int .i64 ts[i].v) ∧ w.cell? ⟨b, off + i * 3 + 2, none⟩ = some (.slice (A i) ts[i].kids.length (C i)))
      (hf : ∀ j, w.frozen? ⟨b, j, none⟩ = false)
      (hsub : ∀ i x, i < ts.length → K i x → S x ∧ x ≠ b) (hdis : ∀ i j x, i < ts.length → j < ts.length → i ≠ j → K i x → ¬ K j x)
      (hk : ∀ i, (h : i < ts.length) → OwnS w (K i) (A i) ts[i].kids) : OwnS w S (some ⟨b, off, none⟩) ts

/-- Whatever leaves the blocks of S as they were leaves it. -/
theorem OwnS.frame {w w' : World} {S : Nat → Prop} {a : Option Addr} {ts : List TermD} (h : OwnS w S a ts) (hs : ∀ x, S x → w'.heap[x]? = w.heap[x]?) (hz : w.heap.size ≤ w'.heap.size) : OwnS w' S a ts := by
  induction h with
  | nil S a => exact .nil S a
  | row S b off ts A C K hb hlt hl hz' hc hf hsub hdis hk ih =>
    have e := hs b hb
    refine .row S b off ts A C K hb (Nat.lt_of_lt_of_le hlt hz) hl hz' (fun i h => ?_) (fun j => ?_) hsub hdis (fun i h => ih i h (fun x hx => hs x (hsub i x h hx).1))
    · obtain ⟨h0, h1, h2⟩ := hc i h
      exact ⟨(World.cell?_of_block (a := ⟨b, _, none⟩) e).trans h0, (World.cell?_of_block (a := ⟨b, _, none⟩) e).trans h1, (World.cell?_of_block (a := ⟨b, _, none⟩) e).trans h2⟩
    · exact (World.frozen?_of_block (a := ⟨b, j, none⟩) e).trans (hf j)

theorem OwnS.mono {w : World} {S S' : Nat → Prop} {a : Option Addr} {ts : List TermD} (h : OwnS w S a ts) (hs : ∀ x, S x → S' x) : OwnS w S' a ts := by
  cases h with
  | nil S a => exact .nil S' a
  | row S b off ts A C K hb hlt hl hz' hc hf hsub hdis hk => exact .row S' b off ts A C K (hs b hb) hlt hl hz' hc hf (fun i x h hx => ⟨hs x (hsub i x h hx).1, (hsub i x h hx).2⟩) hdis hk

theorem OwnS.rd {w : World} {S : Nat → Prop} {a : Option Addr} {ts : List TermD} (h : OwnS w S a ts) : RdK w w.heap.size a ts := by
  induction h with
  | nil S a => exact .nil a
  | row S b off ts A C K hb hlt hl hz hc hf hsub hdis hk ih => exact .row b off ts A C hlt hl hz hc ih

theorem OwnS.on {w w' : World} {lo hi : Nat} {a : Option Addr} {ts : List TermD} (h : OwnS w (fun x => lo ≤ x ∧ x < hi) a ts) (hb : Below hi w w') : OwnS w' (fun x => lo ≤ x ∧ x < hi) a ts :=
  h.frame (fun x hx => hb.block x hx.2) hb.size

theorem set3_cells {u : World} {r : Nat} {x y z p q s : Value} (h0 : u.cell? ⟨r, 0, none⟩ = some p) (h1 : u.cell? ⟨r, 1, none⟩ = some q) (h2 : u.cell? ⟨r, 2, none⟩ = some s) :
    (((u.setCell ⟨r, 0, none⟩ x).setCell ⟨r, 1, none⟩ y).setCell ⟨r, 2, none⟩ z).cell? ⟨r, 0, none⟩ = some x ∧ (((u.setCell ⟨r, 0, none⟩ x).setCell ⟨r, 1, none⟩ y).setCell ⟨r, 2, none⟩ z).cell? ⟨r, 1, none⟩ = some y ∧ (((u.setCell ⟨r, 0, none⟩ x).setCell ⟨r, 1, none⟩ y).setCell ⟨r, 2, none⟩ z).cell? ⟨r, 2, none⟩ = some z := by
  refine ⟨?_, ?_, ?_⟩
  · rw [World.cell?_setCell_other _ _ _ _ (by simp), World.cell?_setCell_other _ _ _ _ (by simp)]
    exact World.cell?_setCell_same _ _ _ h0
  · rw [World.cell?_setCell_other _ _ _ _ (by simp)]
    exact World.cell?_setCell_same _ _ _ (by rw [World.cell?_setCell_other _ _ _ _ (by simp)]; exact h1)
  · exact World.cell?_setCell_same _ _ _ (by rw [World.cell?_setCell_other _ _ _ _ (by simp), World.cell?_setCell_other _ _ _ _ (by simp)]; exact h2)

/-- Stores into blocks that are not among S. -/
theorem OwnS.setCell {w : World} {S : Nat → Prop} {a : Option Addr} {ts : List TermD} (h : OwnS w S a ts) (p : Addr) (hp : ¬ S p.block) (u : Value) : OwnS (w.setCell p u) S a ts :=
  h.frame (fun x hx => Below.heap_setCell w p u x (fun e => hp (e ▸ hx))) (by simp)

/-- Three cells an element. -/
def cs3 (l : List (Value × Value × Value)) : List Value := l.flatMap fun t => [t.1, t.2.1, t.2.2]

theorem cs3_len (l : List (Value × Value × Value)) : (cs3 l).length = l.length * 3 := by
  induction l with
  | nil => rfl
  | cons t l ih => simp only [cs3, List.flatMap_cons, List.length_append] at *; rw [ih]; simp; omega

theorem cs3_set (t : Value × Value × Value) : ∀ (l : List (Value × Value × Value)) (k : Nat), k < l.length → (((cs3 l).set (k * 3) t.1).set (k * 3 + 1) t.2.1).set (k * 3 + 2) t.2.2 = cs3 (l.set k t)
  | [], k, h => by simp at h
  | x :: l, 0, _ => by simp [cs3]
  | x :: l, k + 1, h => by
    have ih := cs3_set t l k (by simpa using h)
    have e : ∀ (m : Nat) (L : List Value) (v : Value), ([x.1, x.2.1, x.2.2] ++ L).set (m + 3) v = [x.1, x.2.1, x.2.2] ++ L.set m v := by intro m L v; simp
    have e0 : (k + 1) * 3 = k * 3 + 3 := by omega
    rw [List.set_cons_succ]
    simp only [cs3, List.flatMap_cons] at *
    rw [e0, e, show k * 3 + 3 + 1 = (k * 3 + 1) + 3 by omega, e, show k * 3 + 3 + 2 = (k * 3 + 2) + 3 by omega, e, ih]

theorem cs3_get : ∀ (l : List (Value × Value × Value)) (k : Nat), (h : k < l.length) → (cs3 l)[k * 3]? = some l[k].1 ∧ (cs3 l)[k * 3 + 1]? = some l[k].2.1 ∧ (cs3 l)[k * 3 + 2]? = some l[k].2.2
  | [], k, h => by simp at h
  | x :: l, 0, _ => by simp [cs3]
  | x :: l, k + 1, h => by
    have ih := cs3_get l k (by simpa using h)
    have e : ∀ (m : Nat) (L : List Value), ([x.1, x.2.1, x.2.2] ++ L)[m + 3]? = L[m]? := by
      intro m L
      rw [List.getElem?_append_right (by simp)]
      simp
    have e0 : (k + 1) * 3 = k * 3 + 3 := by omega
    simp only [cs3, List.flatMap_cons, List.getElem_cons_succ] at *
    rw [e0, e, show k * 3 + 3 + 1 = (k * 3 + 1) + 3 by omega, e, show k * 3 + 3 + 2 = (k * 3 + 2) + 3 by omega, e]
    exact ih

theorem cs3_made (a b c : Value) : ∀ (n : Nat), (madeCells #[a, b, c] (n * 3)).toList = cs3 (List.replicate n (a, b, c))
  | 0 => by simp [madeCells, cs3]
  | n + 1 => by
    have ih := cs3_made a b c n
    rw [List.replicate_succ', cs3, List.flatMap_append]
    rw [cs3] at ih
    rw [← ih]
    have e0 : (n + 1) * 3 = n * 3 + 1 + 1 + 1 := by omega
    rw [e0]
    simp only [madeCells, Array.toList_map, Array.toList_range, List.range_succ, List.map_append, List.map_cons, List.map_nil, List.append_assoc]
    have m0 : n * 3 % 3 = 0 := by omega
    have m1 : (n * 3 + 1) % 3 = 1 := by omega
    have m2 : (n * 3 + 1 + 1) % 3 = 2 := by omega
    simp [m0, m1, m2]

theorem own_on {w w' : World} {base : Nat} {e : TypeId} {size : Nat} {v : Value} {n : Nat} {xs : List Value} (h : w.ownsRow base e size v n xs) (hb : Below w.heap.size w w') : w'.ownsRow base e size v n xs := by
  have hl := h.lt
  obtain ⟨h1, h2⟩ := h
  refine ⟨h1, ?_⟩
  rcases h2 with h2 | ⟨g, cap, cur, rfl, hg, hh, r⟩
  · exact .inl h2
  · exact .inr ⟨g, cap, cur, rfl, hg, by rw [hb.block g (hl g rfl).2]; exact hh, r⟩

theorem cs3_store {w : World} {T : TypeId} {B g c n : Nat} {l : List (Value × Value × Value)} (t : Value × Value × Value) {k : Nat} (hk : k < l.length) (h : w.ownsRow B T 3 (.slice (some ⟨g, 0, none⟩) n c) n (cs3 l)) :
    (((w.setCell ⟨g, k * 3, none⟩ t.1).setCell ⟨g, k * 3 + 1, none⟩ t.2.1).setCell ⟨g, k * 3 + 2, none⟩ t.2.2).ownsRow B T 3 (.slice (some ⟨g, 0, none⟩) n c) n (cs3 (l.set k t)) := by
  have h1 := (((h.stored (k * 3) t.1).1.stored (k * 3 + 1) t.2.1).1.stored (k * 3 + 2) t.2.2).1
  rwa [cs3_set t l k hk] at h1

theorem cs3_cells {w : World} {T : TypeId} {B g c n : Nat} {l : List (Value × Value × Value)} {k : Nat} (hn : n = l.length) (hk : k < l.length) (h : w.ownsRow B T 3 (.slice (some ⟨g, 0, none⟩) n c) n (cs3 l)) :
    w.cell? ⟨g, k * 3, none⟩ = some l[k].1 ∧ w.cell? ⟨g, k * 3 + 1, none⟩ = some l[k].2.1 ∧ w.cell? ⟨g, k * 3 + 2, none⟩ = some l[k].2.2 := by
  obtain ⟨g0, g1, g2⟩ := cs3_get l k hk
  exact ⟨(h.cellAt _ (by omega)).trans g0, (h.cellAt _ (by omega)).trans g1, (h.cellAt _ (by omega)).trans g2⟩

/-- The elements of a copy when its first k have been laid. -/
def laidTo (ts : List TermD) (A : Nat → Option Addr) (k : Nat) : List (Value × Value × Value) :=
  (List.range ts.length).map fun i => if i < k then (.int .i64 (ts[i]?.getD default).f, .int .i64 (ts[i]?.getD default).v, .slice (A i) (ts[i]?.getD default).kids.length (ts[i]?.getD default).kids.length) else (.int .i64 0, .int .i64 0, .slice none 0 0)

theorem laidTo_len (ts : List TermD) (A : Nat → Option Addr) (k : Nat) : (laidTo ts A k).length = ts.length := by simp [laidTo]

theorem laidTo_zero (ts : List TermD) (A : Nat → Option Addr) : laidTo ts A 0 = List.replicate ts.length (.int .i64 0, .int .i64 0, .slice none 0 0) := by
  unfold laidTo
  apply List.ext_getElem <;> simp

theorem laidTo_set (ts : List TermD) (A : Nat → Option Addr) {k : Nat} (h : k < ts.length) (a : Option Addr) :
    (laidTo ts A k).set k (.int .i64 ts[k].f, .int .i64 ts[k].v, .slice a ts[k].kids.length ts[k].kids.length) = laidTo ts (fun i => if i = k then a else A i) (k + 1) := by
  unfold laidTo
  apply List.ext_getElem
  · simp
  · intro i h1 h2
    simp only [List.length_set, List.length_map, List.length_range] at h1
    rw [List.getElem_set]
    by_cases e : k = i
    · subst e
      simp [h]
    · rw [if_neg e]
      simp only [List.getElem_map, List.getElem_range]
      have e2 : ¬ i = k := fun h => e h.symm
      by_cases hi : i < k
      · simp [hi, e2, show i < k + 1 by omega]
      · simp [hi, show ¬ i < k + 1 by omega]
end Go.Proofs.Ythbilahilmmfmaa

/- Lists of terms that read within a set of blocks, and stacks of them in a row of their own. Conditions: none. -/
namespace Go.Proofs.Ythbilahilmmfmaa
set_option maxRecDepth 100000
open Go.RowKit

/-- The slice of terms that begins at 'a' reads in w as ts, all of its blocks in S. -/
inductive RdP (w : World) (S : Nat → Prop) : Option Addr → List TermD → Prop
  | nil (a : Option Addr) : RdP w S a []
  | row (b off : Nat) (ts : List TermD) (A : Nat → Option Addr) (C : Nat → Nat) (hlt : S b) (hl : ∀ i, (h : i < ts.length) → ts[i].kids.length ≤ C i) 
      (hc : ∀ i, (h : i < ts.length) → w.cell? ⟨b, off + i * 3, none⟩ = some (.int .i64 ts[i].f) ∧ w.cell? ⟨b, off + i * 3 + 1, none⟩ = some (.int .i64 ts[i].v) ∧ w.cell? ⟨b, off + i * 3 + 2, none⟩ = some (.slice (A i) ts[i].kids.length (C i)))
      (hk : ∀ i, (h : i < ts.length) → RdP w S (A i) ts[i].kids) : RdP w S (some ⟨b, off, none⟩) ts

theorem RdK.p {w : World} {hi : Nat} {S : Nat → Prop} {a : Option Addr} {ts : List TermD} (h : RdK w hi a ts) (hs : ∀ k, k < hi → S k) : RdP w S a ts := by
  induction h with
  | nil a => exact .nil a
  | row b off ts A C hlt hl hz hc hk ih => exact .row b off ts A C (hs _ hlt) hl.2 hc ih

theorem RdP.stay {w w' : World} {S : Nat → Prop} {a : Option Addr} {ts : List TermD} (h : RdP w S a ts) (hb : Stay S w w') : RdP w' S a ts := by
  induction h with
  | nil a => exact .nil a
  | row b off ts A C hlt hl hc hk ih =>
    refine .row b off ts A C hlt hl (fun i h => ?_) ih
    obtain ⟨h0, h1, h2⟩ := hc i h
    exact ⟨hb.cell h0 hlt, hb.cell h1 hlt, hb.cell h2 hlt⟩

theorem RdP.weak {w : World} {S T : Nat → Prop} {a : Option Addr} {ts : List TermD} (h : RdP w S a ts) (hs : ∀ k, S k → T k) : RdP w T a ts := by
  induction h with
  | nil a => exact .nil a
  | row b off ts A C hlt hl hc hk ih => exact .row b off ts A C (hs _ hlt) hl hc ih

theorem RdP.head {w : World} {S : Nat → Prop} {a : Option Addr} {t : TermD} {ts : List TermD} (h : RdP w S a (t :: ts)) :
    ∃ b off a' c', a = some ⟨b, off, none⟩ ∧ S b ∧ w.cell? ⟨b, off, none⟩ = some (.int .i64 t.f) ∧ w.cell? ⟨b, off + 1, none⟩ = some (.int .i64 t.v) ∧ w.cell? ⟨b, off + 2, none⟩ = some (.slice a' t.kids.length c') ∧ t.kids.length ≤ c' ∧ RdP w S a' t.kids := by
  cases h with
  | row b off _ A C hlt hl hc hk =>
    have h0 := hc 0 (by simp)
    simp only [Nat.zero_mul, Nat.add_zero, List.getElem_cons_zero] at h0
    exact ⟨b, off, A 0, C 0, rfl, hlt, h0.1, h0.2.1, h0.2.2, hl 0 (by simp), hk 0 (by simp)⟩

theorem RdP.tail {w : World} {S : Nat → Prop} {b off : Nat} {t : TermD} {ts : List TermD} (h : RdP w S (some ⟨b, off, none⟩) (t :: ts)) : RdP w S (some ⟨b, off + 3, none⟩) ts := by
  cases h with
  | row _ _ _ A C hlt hl hc hk =>
    refine .row b (off + 3) ts (fun i => A (i + 1)) (fun i => C (i + 1)) hlt (fun i hi => ?_) (fun i hi => ?_) (fun i hi => ?_)
    · have := hl (i + 1) (by simpa using hi); simpa using this
    · have := hc (i + 1) (by simpa using hi)
      rw [show off + (i + 1) * 3 = off + 3 + i * 3 by omega] at this
      simpa using this
    · have := hk (i + 1) (by simpa using hi); simpa using this

/-- Where the rest of a list begins. -/
def tailA (b off c : Nat) : Option Addr := if c = 1 then some ⟨b, off, none⟩ else some ⟨b, off + 3, none⟩

theorem RdP.tailA {w : World} {S : Nat → Prop} {b off : Nat} {t : TermD} {ts : List TermD} (h : RdP w S (some ⟨b, off, none⟩) (t :: ts)) {c : Nat} (hc : ts.length + 1 ≤ c) : RdP w S (tailA b off c) ts := by
  unfold Go.Proofs.Ythbilahilmmfmaa.tailA
  split
  · have : ts = [] := List.eq_nil_of_length_eq_zero (by omega)
    subst this; exact .nil _
  · exact h.tail

/-- One pair of lists on the stack. -/
structure PE where
  a : Option Addr
  c : Nat
  ts : List TermD
  a' : Option Addr
  c' : Nat
  us : List TermD

/-- It reads, and its lists are of one length. -/
structure PE.Ok (e : PE) (w : World) (S : Nat → Prop) : Prop where
  r : RdP w S e.a e.ts
  r' : RdP w S e.a' e.us
  le : e.ts.length ≤ e.c
  le' : e.us.length ≤ e.c'
  eq : e.ts.length = e.us.length

theorem PE.Ok.stay {e : PE} {w w' : World} {S : Nat → Prop} (h : e.Ok w S) (hb : Stay S w w') : e.Ok w' S := ⟨h.r.stay hb, h.r'.stay hb, h.le, h.le', h.eq⟩

/-- The cells of a stack, its top last. -/
def cellsP : List PE → List Value
  | [] => []
  | e :: E => cellsP E ++ [.slice e.a e.ts.length e.c, .slice e.a' e.us.length e.c']
theorem cellsP_len (E : List PE) : (cellsP E).length = E.length * 2 := by
  induction E with
  | nil => rfl
  | cons e E ih => simp only [cellsP, List.length_append, ih, List.length_cons, List.length_nil]; omega
def dataP (E : List PE) : List (List TermD × List TermD) := E.map fun e => (e.ts, e.us)

theorem cellsP_top {w : World} {B T g c : Nat} {e : PE} {E : List PE} (h : w.ownsRow B T 2 (.slice (some ⟨g, 0, none⟩) (E.length + 1) c) (E.length + 1) (cellsP (e :: E))) :
    w.cell? ⟨g, E.length * 2, none⟩ = some (.slice e.a e.ts.length e.c) ∧ w.cell? ⟨g, E.length * 2 + 1, none⟩ = some (.slice e.a' e.us.length e.c') := by
  have hl := cellsP_len E
  refine ⟨(h.cellAt _ (by omega)).trans ?_, (h.cellAt _ (by omega)).trans ?_⟩
  · rw [cellsP, List.getElem?_append_right (by omega)]; simp [hl]
  · rw [cellsP, List.getElem?_append_right (by omega)]; simp [hl]

theorem cellsP_set {w : World} {B T g c : Nat} {e : PE} {E : List PE} (h : w.ownsRow B T 2 (.slice (some ⟨g, 0, none⟩) (E.length + 1) c) (E.length + 1) (cellsP (e :: E))) (d : PE) :
    ((w.setCell ⟨g, E.length * 2, none⟩ (.slice d.a d.ts.length d.c)).setCell ⟨g, E.length * 2 + 1, none⟩ (.slice d.a' d.us.length d.c')).ownsRow B T 2 (.slice (some ⟨g, 0, none⟩) (E.length + 1) c) (E.length + 1) (cellsP (d :: E)) := by
  have hl := cellsP_len E
  have h1 := ((h.stored (E.length * 2) (.slice d.a d.ts.length d.c)).1.stored (E.length * 2 + 1) (.slice d.a' d.us.length d.c')).1
  have e1 : ((cellsP (e :: E)).set (E.length * 2) (.slice d.a d.ts.length d.c)).set (E.length * 2 + 1) (.slice d.a' d.us.length d.c') = cellsP (d :: E) := by
    simp only [cellsP]
    rw [List.set_append_right _ _ (by omega), List.set_append_right _ _ (by omega)]
    simp [hl]
  rwa [e1] at h1

theorem cellsP_pop {w : World} {B T g c : Nat} {e : PE} {E : List PE} (h : w.ownsRow B T 2 (.slice (some ⟨g, 0, none⟩) (E.length + 1) c) (E.length + 1) (cellsP (e :: E))) :
    w.ownsRow B T 2 (.slice (some ⟨g, 0, none⟩) E.length c) E.length (cellsP E) := ownsRow_pop (cellsP_len E) h

theorem own_stay {w w' : World} {S : Nat → Prop} {base : Nat} {e : TypeId} {size : Nat} {v : Value} {n : Nat} {xs : List Value} (h : w.ownsRow base e size v n xs) (hb : Stay S w w') (hs : ∀ g, v.ownBlock = some g → S g) : w'.ownsRow base e size v n xs := by
  have hl := h.lt
  obtain ⟨h1, h2⟩ := h
  refine ⟨h1, ?_⟩
  rcases h2 with h2 | ⟨g, cap, cur, rfl, hg, hh, r⟩
  · exact .inl h2
  · exact .inr ⟨g, cap, cur, rfl, hg, by rw [hb.block g (hl g rfl).2 (hs g rfl)]; exact hh, r⟩

/-- The blocks that stay while the stack is worked on: what was there, and two of the call's own. -/
def Fx (n B k : Nat) : Prop := k < n ∨ k = B ∨ k = B + 1

/-- What lies in memory while two terms are held against each other. -/
structure OrdSt (w : World) (B T T' : Nat) (r : Int) (M : Nat) (E : List PE) (v : Value) (wr : World) : Prop where
  row : wr.ownsRow w.heap.size T 2 v E.length (cellsP E)
  k0 : ∃ cs fz, wr.heap[B]? = some (.cells cs T' fz)
  k1 : ∃ cs fz, wr.heap[B + 1]? = some (.cells cs T' fz)
  ne : T' ≠ T
  lo : w.heap.size ≤ B
  good : ∀ e ∈ E, e.Ok wr (Fx w.heap.size B)
  ord : ordS (dataP E) = r
  size : sizeS (dataP E) ≤ M
  below : Below w.heap.size w wr

namespace OrdSt
variable {w wr wr' : World} {B T T' : Nat} {r : Int} {M : Nat} {E : List PE} {v : Value}

theorem hi (h : OrdSt w B T T' r M E v wr) : B + 1 < wr.heap.size := by
  obtain ⟨cs, fz, e⟩ := h.k1; exact (Array.getElem?_eq_some_iff.1 e).1

theorem own (h : OrdSt w B T T' r M E v wr) : ∀ g, v.ownBlock = some g → ¬ Fx w.heap.size B g := by
  intro g hg hx
  have hlt := h.row.lt g hg
  rcases h.row.2 with ⟨rfl, _⟩ | ⟨g', cap, cur, rfl, _, hh, _⟩
  · cases hg
  · have e : g' = g := by simpa [Value.ownBlock] using hg
    subst e
    obtain ⟨cs, fz, e0⟩ := h.k0
    obtain ⟨cs1, fz1, e1⟩ := h.k1
    rcases hx with hx | hx | hx
    · omega
    · subst hx; rw [hh] at e0; cases e0; exact h.ne rfl
    · subst hx; rw [hh] at e1; cases e1; exact h.ne rfl

theorem on (h : OrdSt w B T T' r M E v wr) (hb : Below wr.heap.size wr wr') : OrdSt w B T T' r M E v wr' := by
  have hh := h.hi
  have hs : Stay (Fx w.heap.size B) wr wr' := .of_below hb (fun k hk _ => hk)
  refine ⟨own_on h.row hb, ?_, ?_, h.ne, h.lo, fun e he => (h.good e he).stay hs, h.ord, h.size, h.below.trans (hb.mono h.below.size)⟩
  · rw [hb.block _ (by omega)]; exact h.k0
  · rw [hb.block _ (by omega)]; exact h.k1

theorem pop {g c : Nat} {e : PE} (h : OrdSt w B T T' r M (e :: E) (.slice (some ⟨g, 0, none⟩) (E.length + 1) c) wr) (he : e.ts = []) : OrdSt w B T T' r M E (.slice (some ⟨g, 0, none⟩) E.length c) wr := by
  have he' : e.us = [] := List.eq_nil_of_length_eq_zero (by rw [← (h.good e (by simp)).eq, he]; rfl)
  have h1 := h.ord
  have h2 := h.size
  simp only [dataP, List.map_cons, he, he', ordS_pop] at h1 h2
  refine ⟨cellsP_pop h.row, h.k0, h.k1, h.ne, h.lo, fun e he => h.good e (by simp [he]), h1, ?_, h.below⟩
  simp only [sizeS] at h2
  exact Nat.le_trans (Nat.le_add_left _ _) h2

/-- Other lists stand at the stack's top. -/
theorem set {g c : Nat} {e d : PE} (h : OrdSt w B T T' r M (e :: E) (.slice (some ⟨g, 0, none⟩) (E.length + 1) c) wr) (hd : d.Ok wr (Fx w.heap.size B)) {r' : Int} (ho : ordS (dataP (d :: E)) = r') (hM : sizeS (dataP (d :: E)) ≤ M) :
    OrdSt w B T T' r' M (d :: E) (.slice (some ⟨g, 0, none⟩) (E.length + 1) c) ((wr.setCell ⟨g, E.length * 2, none⟩ (.slice d.a d.ts.length d.c)).setCell ⟨g, E.length * 2 + 1, none⟩ (.slice d.a' d.us.length d.c')) := by
  have hn := h.own g rfl
  have hlo := h.lo
  have hs : Stay (Fx w.heap.size B) wr ((wr.setCell ⟨g, E.length * 2, none⟩ (.slice d.a d.ts.length d.c)).setCell ⟨g, E.length * 2 + 1, none⟩ (.slice d.a' d.us.length d.c')) := (Stay.setCell _ _ hn).trans (Stay.setCell _ _ hn)
  have hh := h.hi
  refine ⟨cellsP_set h.row d, ?_, ?_, h.ne, h.lo, fun f hf => ?_, ho, hM, h.below.trans (hs.below h.below.size (fun k hk => .inl hk))⟩
  · rw [hs.block _ (by omega) (.inr (.inl rfl))]; exact h.k0
  · rw [hs.block _ (by omega) (.inr (.inr rfl))]; exact h.k1
  · rcases List.mem_cons.1 hf with rfl | hf
    · exact hd.stay hs
    · exact (h.good f (by simp [hf])).stay hs

/-- One more pair is put onto it. -/
theorem push {v' : Value} {d : PE} (h : OrdSt w B T T' r M E v wr) (hrow : wr'.ownsRow w.heap.size T 2 v' (E.length + 1) (cellsP E ++ [.slice d.a d.ts.length d.c, .slice d.a' d.us.length d.c'])) (hg : wr.grownBy wr' v.ownBlock) (hd : d.Ok wr (Fx w.heap.size B)) {r' : Int} (ho : ordS (dataP (d :: E)) = r') {M' : Nat} (hM : sizeS (dataP (d :: E)) ≤ M') :
    OrdSt w B T T' r' M' (d :: E) v' wr' := by
  have hs : Stay (Fx w.heap.size B) wr wr' := .grown hg (fun k hk => h.own k hk)
  have hh := h.hi
  have hlo := h.lo
  refine ⟨hrow, ?_, ?_, h.ne, h.lo, fun f hf => ?_, ho, hM, h.below.trans (hs.below h.below.size (fun k hk => .inl hk))⟩
  · rw [hs.block _ (by omega) (.inr (.inl rfl))]; exact h.k0
  · rw [hs.block _ (by omega) (.inr (.inr rfl))]; exact h.k1
  · rcases List.mem_cons.1 hf with rfl | hf
    · exact hd.stay hs
    · exact (h.good f hf).stay hs
end OrdSt

theorem own_form {w : World} {base : Nat} {e : TypeId} {size : Nat} {v : Value} {n : Nat} {xs : List Value} (h : w.ownsRow base e size v n xs) : ∃ a c, v = .slice a n c ∧ n ≤ c := by
  rcases h.2 with ⟨rfl, rfl⟩ | ⟨g, cap, _, rfl, _, _, hn, _⟩
  · exact ⟨none, 0, rfl, Nat.le_refl _⟩
  · exact ⟨_, cap, rfl, hn⟩
theorem own_slot {w : World} {base : Nat} {e : TypeId} {size : Nat} {v : Value} {n : Nat} {xs : List Value} (h : w.ownsRow base e size v (n + 1) xs) : ∃ g c, v = .slice (some ⟨g, 0, none⟩) (n + 1) c ∧ n + 1 ≤ c ∧ base ≤ g ∧ g < w.heap.size := by
  have hl := h.lt
  rcases h.2 with ⟨_, h0⟩ | ⟨g, cap, _, rfl, hb, _, hn, _⟩
  · omega
  · exact ⟨g, cap, rfl, hn, hb, (hl g rfl).2⟩

theorem two_new (w : World) (x y : Value) (t : TypeId) (n : Nat) (hn : n = w.heap.size) : ∀ j v, [x, y][j]? = some v → (w.alloc (.cells #[x, y] t)).cell? ((⟨n, 0, none⟩ : Addr).add j) = some v := by
  subst hn
  intro j v hj
  match j, hj with
  | 0, hj => simp at hj; subst hj; simp [Addr.add]
  | 1, hj => simp at hj; subst hj; simp [Addr.add]
  | j + 2, hj => simp at hj
theorem two_cell (a a' : Option Addr) (n n' c c' : Nat) : ∀ u ∈ [Value.slice a n c, Value.slice a' n' c'], u.oneCell' = true := by
  intro u hu
  simp at hu
  rcases hu with rfl | rfl <;> rfl
end Go.Proofs.Ythbilahilmmfmaa

/- The rest of a slice of terms behind its first. Conditions: none. -/
namespace Go.Proofs.Ythbilahilmmfmaa
set_option maxRecDepth 100000
open Go.RowKit

theorem slice_tail (b off n c : Nat) (w : World) : (Instr.slice 41 (.slice (some ⟨b, off, none⟩) (n + 1) c) (some (.int .i64 1)) none none).run Try.prog w = .ok (.slice (tailA b off c) n (c - 1)) w := by
  have h0 : (sizeOf 43).run Try.prog w = .ok 3 w := by simp [go_sem]
  simp only [Instr.slice, Sem.run_bind, run_underlying Try.underlying41, Result.andThen]
  have hb : (Instr.sliceBounds true (n + 1) c (some (.int .i64 1)) none none).run Try.prog w = .ok (1, n + 1, c) w := by
    simp [Instr.sliceBounds, Instr.sliceBound, asIntOf, go_sem]
    omega
  simp only [hb, h0, Sem.run_pure]
  unfold tailA
  split <;> simp [Addr.add]
theorem sliceAt_tail (b off n c : Nat) (w : World) : (Instr.sliceAt 41 (.slice (some ⟨b, off, none⟩) (n + 1) c) (some (.int .i64 1)) none none).run Try.prog w = .ok (.slice (tailA b off c) n (c - 1)) w := by
  simp only [Instr.sliceAt, Sem.run_bind, run_underlying Try.underlying41, Result.andThen, slice_tail b off n c w]

end Go.Proofs.Ythbilahilmmfmaa

/- A range over a function whose iterator keeps memory of its own, as YthbilahilmmfmaaPriv tells it, but for what the body leaves as it lies: told by a set of blocks; and the same within a round of another such loop. Conditions: none. -/
namespace Go.Proofs.Ythbilahilmmfmaa
set_option maxRecDepth 100000
open Go.RowKit

/-- The iterator's word: whatever stays while the blocks of S do is not turned by it; the body's: in the blocks of Kp, and outside S, nothing is turned, but for the blocks of G, which it is given with what comes. -/
def SeqKeep {α : Type} (F : Fence) (n : Nat) (P : Program) (g : Nat) (lb : Array Value) (encs : α → Array Value) (Kp : Nat → Prop) (Sa Sp : List α → Prop) (G : α → Nat → Prop) (Ok : List α → α → World → Prop) (N : Nat) (w : World) : Prop :=
  ∀ (l : Nat) (J Jx : List α → (Nat → Prop) → World → Prop) (S₀ : Nat → Prop) (W : World), Below w.heap.size w W →
    (∀ pre S A B, J pre S A → Stay S A B → J pre S B) → (∀ pre S A B, Jx pre S A → Stay S A B → Jx pre S B) → (∀ pre S A, J pre S A → ∀ k, S k → k < A.heap.size) →
    (∀ pre x S A, J pre S A → pre.length < N → (∀ k, G x k → ¬ S k ∧ k < A.heap.size) → Ok pre x A → YieldAt F (n - 1) P l (encs x) A fun e B =>
      (e = .returned (.bool true) ∧ ∃ S', J (pre ++ [x]) S' B ∧ (∀ k, S' k → S k ∨ G x k ∨ A.heap.size ≤ k) ∧ Stay (fun k => Kp k ∨ (¬ S k ∧ ¬ G x k)) A B) ∨
      (e = .returned (.bool false) ∧ ∃ S', Jx (pre ++ [x]) S' B ∧ (∀ k, S' k → S k ∨ G x k ∨ A.heap.size ≤ k) ∧ Stay (fun k => Kp k ∨ (¬ S k ∧ ¬ G x k)) A B)) →
    J [] S₀ W →
    CallsIn F n P g (#[.func (.yield l) #[] #[]] ++ lb) W fun e B => (∃ v, e = .returned v) ∧ ((∃ xs S', Sa xs ∧ J xs S' B) ∨ (∃ pre S', Sp pre ∧ Jx pre S' B))

/-- How the body of a round may be left. -/
def keepPost {α : Type} (Kp : Nat → Prop) (I : List α → (Nat → Prop) → World → Prop) (Ix : Code → List α → (Nat → Prop) → World → Prop) (xs : List α) (S : Nat → Prop) (W : World) : Exit → Act → World → Prop
  | .normal, _, B => ∃ S', I xs S' B ∧ (∀ k, S' k → S k ∨ W.heap.size ≤ k) ∧ Stay (fun k => Kp k ∨ ¬ S k) W B
  | .ret, _, B => ∃ S', Ix .ret xs S' B ∧ (∀ k, S' k → S k ∨ W.heap.size ≤ k) ∧ Stay (fun k => Kp k ∨ ¬ S k) W B
  | .exit id, _, B => ∃ S', Ix (.exit id) xs S' B ∧ (∀ k, S' k → S k ∨ W.heap.size ≤ k) ∧ Stay (fun k => Kp k ∨ ¬ S k) W B
  | .goto t, _, B => ∃ S', Ix (.goto t) xs S' B ∧ (∀ k, S' k → S k ∨ W.heap.size ≤ k) ∧ Stay (fun k => Kp k ∨ ¬ S k) W B
  | .panic _, _, _ => False
  | .outgrown, _, _ => False

variable {F : Fence} {n : Nat} {P : Program}

theorem wpIn_rangeFunc_keep {α : Type} {g : Operand} {ps : Array Tmp} {assign body : Code} {Q : Exit → Act → World → Prop} {a : Act} {w : World}
    (hro : F.round = none) (h1 : 1 ≤ n) {gf : Nat} {lb : Array Value} (hg : a.eval g = .func (.func gf) #[] lb) (hFg : F.fn gf) (eg : ∀ args w, (callFunc gf args).run P w = .ok (.enter gf args) w)
    {encs : α → Array Value} {Kp : Nat → Prop} {Sa Sp : List α → Prop} {G : α → Nat → Prop} {Ok : List α → α → World → Prop} {N : Nat} {w0 : World} (hseq : SeqKeep F (n - 1) P gf lb encs Kp Sa Sp G Ok N w0) (hn₀ : ∀ k, Kp k → k < w.heap.size) (hb0 : Below w0.heap.size w0 w) (hps : ∀ x, (encs x).size = ps.size)
    (I : List α → (Nat → Prop) → World → Prop) (Ix : Code → List α → (Nat → Prop) → World → Prop)
    (hI : ∀ pre S A B, I pre S A → Stay S A B → I pre S B) (hIx : ∀ c pre S A B, Ix c pre S A → Stay S A B → Ix c pre S B)
    (hIb : ∀ pre S A, I pre S A → ∀ k, S k → k < A.heap.size) (S₀ : Nat → Prop) (hS₀ : ∀ k, S₀ k → k < w.heap.size) (h0 : I [] S₀ w)
    (Ax : List α → α → (Nat → Prop) → Act → World → Prop) (hAx : ∀ pre x S a A B, Ax pre x S a A → Stay S A B → Ax pre x S a B)
    (hassign : ∀ (l : Nat) (pre : List α) (x : α) (S : Nat → Prop) (W : World) (K : Act → World → Prop), I pre S W → pre.length < N → (∀ k, G x k → ¬ S k ∧ k < W.heap.size) → Ok pre x W →
      (∀ a₁ S₁ W₁, Ax pre x S₁ a₁ W₁ → (∀ k, S₁ k → S k ∨ G x k ∨ W.heap.size ≤ k) → Stay (fun k => Kp k ∨ ¬ S k) W W₁ → K a₁ W₁) →
      assign.wpIn (F.inRound l) (n - 1 - 1) P (Exit.then K (fun _ _ _ => False)) { tmps := (ps.zip (encs x)).foldl (fun t (p, v) => t.setIfInBounds p v) a.tmps, defers := [] } W)
    (hbody : ∀ (l : Nat) (pre : List α) (x : α) (S : Nat → Prop) (a₁ : Act) (W : World), w.heap.size ≤ l → (∃ r, W.heap[l]? = some (.loop r)) → ¬ S l → Ax pre x S a₁ W → pre.length < N → body.wpIn (F.inRound l) (n - 1 - 1) P (keepPost Kp I Ix (pre ++ [x]) S W) a₁ W)
    (hdone : ∀ (D : Nat) (xs : List α) (S : Nat → Prop) (W : World), Sa xs → I xs S W → W.heap[D]? = some (.deferred (some [])) → w.heap.size ≤ D → ¬ S D → Q .normal { a with defers := { target := .collected D, args := #[] } :: a.defers } W)
    (hstop : ∀ (D : Nat) (c : Code) (pre : List α) (S : Nat → Prop) (W : World), Sp pre → Ix c pre S W → W.heap[D]? = some (.deferred (some [])) → w.heap.size ≤ D → ¬ S D → c.wpIn F n P Q { a with defers := { target := .collected D, args := #[] } :: a.defers } W) :
    (Code.rangeFunc g ps assign body).wpIn F n P Q a w := by
  refine wpIn_rangeFunc ?_
  intro fn hfn
  rw [hro]
  obtain ⟨rec, hrec⟩ : ∃ rec : LoopState → Option Code → Loop, rec = fun st pe => { state := st, pending := pe, fn, tmps := a.tmps, params := ps, assign, body, defers := w.heap.size } := ⟨_, rfl⟩
  obtain ⟨W1, hW1⟩ : ∃ W1, (w.alloc (.deferred (some []))).alloc (.loop (rec .ready none)) = W1 := ⟨_, rfl⟩
  have hL1 : W1.heap[w.heap.size + 1]? = some (.loop (rec .ready none)) := by
    rw [← hW1]; have := World.alloc_heap_new (w.alloc (.deferred (some []))) (.loop (rec .ready none)); rwa [World.size_alloc] at this
  have hK1 : W1.heap[w.heap.size]? = some (.deferred (some [])) := by
    rw [← hW1]; exact (Below.heap_alloc _ _ _ (by simp)).trans (World.alloc_heap_new w _)
  have hI1 : I [] S₀ W1 := by rw [← hW1]; exact hI _ _ _ _ (hI _ _ _ _ h0 (.alloc _ _ _)) (.alloc _ _ _)
  have hb1 : Below w0.heap.size w0 W1 := by
    rw [← hW1]; exact hb0.trans ((((Below.refl _ w).alloc (Nat.le_refl _) _).alloc (by simp) _).mono hb0.size)
  have hsz : ∀ {A : World} {r : Loop}, A.heap[w.heap.size + 1]? = some (.loop r) → w.heap.size + 1 < A.heap.size := fun h => (Array.getElem?_eq_some_iff.1 h).1
  refine ⟨w.heap.size + 1, [{ target := .collected w.heap.size, args := #[] }], W1, { target := .fn (.func gf) lb, args := #[.func (.yield (w.heap.size + 1)) #[] #[]] }, W1, gf,
    #[.func (.yield (w.heap.size + 1)) #[] #[]] ++ lb, W1, ?_, ?_, ?_, ?_, fun _ => h1, ?_⟩
  · rw [← hW1, hrec]; exact run_enterLoop_outer _ _ _ _ _
  · simp only [resolve, hg]
    simp [go_sem]
  · intro f' hf'; simp [Target.leads] at hf'; subst hf'; exact hFg
  · simp [invoke, go_sem, eg]
  · -- the sets: the caller's, and the two blocks of the loop
    have hst : ∀ {A B : World} {T S : Nat → Prop}, (∀ k, S k ↔ T k ∨ k = w.heap.size ∨ k = w.heap.size + 1) → Stay S A B → Stay T A B := fun hS h => h.weak (fun k _ ht => (hS k).2 (.inl ht))
    refine (hseq (w.heap.size + 1)
      (fun pre S W => ∃ T : Nat → Prop, (∀ k, S k ↔ T k ∨ k = w.heap.size ∨ k = w.heap.size + 1) ∧ (∀ k, T k → k ≠ w.heap.size ∧ k ≠ w.heap.size + 1) ∧ I pre T W ∧ W.heap[w.heap.size + 1]? = some (.loop (rec .ready none)) ∧ W.heap[w.heap.size]? = some (.deferred (some [])))
      (fun pre S W => ∃ T : Nat → Prop, (∀ k, S k ↔ T k ∨ k = w.heap.size ∨ k = w.heap.size + 1) ∧ (∀ k, T k → k ≠ w.heap.size ∧ k ≠ w.heap.size + 1) ∧ ∃ c, Ix c pre T W ∧ W.heap[w.heap.size + 1]? = some (.loop (rec .done (some c))) ∧ W.heap[w.heap.size]? = some (.deferred (some [])))
      (fun k => S₀ k ∨ k = w.heap.size ∨ k = w.heap.size + 1) W1 hb1 ?_ ?_ ?_ ?_ ⟨S₀, fun k => Iff.rfl, fun k hk => by have := hS₀ k hk; omega, hI1, hL1, hK1⟩).mono ?_
    · rintro pre S A B ⟨T, hS, hT, hi, hl, hk⟩ h
      have hlt := hsz hl
      exact ⟨T, hS, hT, hI _ _ _ _ hi (hst hS h), (h.block _ hlt ((hS _).2 (.inr (.inr rfl)))).trans hl, (h.block _ (by omega) ((hS _).2 (.inr (.inl rfl)))).trans hk⟩
    · rintro pre S A B ⟨T, hS, hT, c, hi, hl, hk⟩ h
      have hlt := hsz hl
      exact ⟨T, hS, hT, c, hIx _ _ _ _ _ hi (hst hS h), (h.block _ hlt ((hS _).2 (.inr (.inr rfl)))).trans hl, (h.block _ (by omega) ((hS _).2 (.inr (.inl rfl)))).trans hk⟩
    · rintro pre S A ⟨T, hS, hT, hi, hl, hk⟩ k hk'
      have hlt := hsz hl
      rcases (hS k).1 hk' with h | h | h
      · exact hIb _ _ _ hi k h
      · omega
      · omega
    · -- one round
      rintro pre x S W ⟨T, hS, hT, hi, hl, hk⟩ hlen hG hok
      have hlt := hsz hl
      have nL : ¬ T (w.heap.size + 1) := fun h => (hT _ h).2 rfl
      have nD : ¬ T w.heap.size := fun h => (hT _ h).1 rfl
      have hy := run_yield (P := P) (args := encs x) hl (by rw [hrec]; exact hps x)
      rw [hrec] at hy
      refine ⟨fn, _, assign, body, hy, roundIn_of_wpIn hfn (hassign _ pre x T W _ hi hlen (fun k hk => ⟨fun h => (hG k hk).1 ((hS k).2 (.inl h)), (hG k hk).2⟩) hok ?_)⟩
      intro a₁ T₁ W₁ hax hT₁ hst₁
      have hL₁ := (hst₁.block (w.heap.size + 1) hlt (.inr nL)).trans hl
      have hD₁ := (hst₁.block w.heap.size (by omega) (.inr nD)).trans hk
      have nL₁ : ¬ T₁ (w.heap.size + 1) := fun h => (hT₁ _ h).elim nL (fun h => h.elim (fun h => (hG _ h).1 ((hS _).2 (.inr (.inr rfl)))) (fun h => by omega))
      have nD₁ : ¬ T₁ w.heap.size := fun h => (hT₁ _ h).elim nD (fun h => h.elim (fun h => (hG _ h).1 ((hS _).2 (.inr (.inl rfl)))) (fun h => by omega))
      have hz₁ := hst₁.size
      refine ⟨_, run_beginRound hL₁ (by rw [hrec]), ?_⟩
      obtain ⟨W2, hW2⟩ : ∃ W2, W2 = W₁.putObj (w.heap.size + 1) (.loop { rec .ready none with state := .busy }) := ⟨_, rfl⟩
      rw [← hW2]
      have hl2 : W2.heap[w.heap.size + 1]? = some (.loop { rec .ready none with state := .busy }) := by rw [hW2]; exact World.putObj_heap_same (by omega)
      have hk2 : W2.heap[w.heap.size]? = some (.deferred (some [])) := by rw [hW2]; exact (World.putObj_heap_other (by omega)).trans hD₁
      have hz2 : W2.heap.size = W₁.heap.size := by rw [hW2]; simp
      have hi2 : Ax pre x T₁ a₁ W2 := by rw [hW2]; exact hAx _ _ _ _ _ _ hax (.putObj _ _ nL₁)
      have hs2 : Stay (fun k => Kp k ∨ ¬ S k) W W2 := by
        rw [hW2]
        exact (hst₁.weak (fun k _ h => h.elim .inl (fun h => .inr (fun ht => h ((hS _).2 (.inl ht)))))).trans (.putObj _ _ (fun h => h.elim (fun h => by have := hn₀ _ h; omega) (fun h => h ((hS _).2 (.inr (.inr rfl))))))
      have sub₁ : ∀ k, k < W.heap.size → T₁ k → T k ∨ G x k := fun k hk h => (hT₁ k h).elim .inl (fun h => h.elim .inr (fun h => by omega))
      refine wpIn_mono (hbody _ pre x T₁ a₁ W2 (by omega) ⟨_, hl2⟩ nL₁ hi2 hlen) ?_
      have fin : ∀ (jump : Option Code) (W3 : World), Stay (fun k => Kp k ∨ ¬ T₁ k) W2 W3 →
          (Instr.endRound (w.heap.size + 1) jump).run P W3 = .ok (.bool jump.isNone) (W3.putObj (w.heap.size + 1) (.loop (rec (if jump.isNone then .ready else .done) jump))) ∧
          (W3.putObj (w.heap.size + 1) (.loop (rec (if jump.isNone then .ready else .done) jump))).heap[w.heap.size + 1]? = some (.loop (rec (if jump.isNone then .ready else .done) jump)) ∧
          (W3.putObj (w.heap.size + 1) (.loop (rec (if jump.isNone then .ready else .done) jump))).heap[w.heap.size]? = some (.deferred (some [])) ∧
          Stay (fun k => Kp k ∨ (¬ S k ∧ ¬ G x k)) W (W3.putObj (w.heap.size + 1) (.loop (rec (if jump.isNone then .ready else .done) jump))) := fun jump W3 hk3 => by
        have hl3 := (hk3.block (w.heap.size + 1) (by omega) (.inr nL₁)).trans hl2
        have hd3 := (hk3.block w.heap.size (by omega) (.inr nD₁)).trans hk2
        have := run_endRound (P := P) jump hl3
        rw [hrec] at this ⊢
        refine ⟨this, World.putObj_heap_same (Array.getElem?_eq_some_iff.1 hl3).1, (World.putObj_heap_other (by omega)).trans hd3, ?_⟩
        have h34 : Stay (fun k => (Kp k ∨ (¬ S k ∧ ¬ G x k)) ∧ k < W.heap.size) W W3 := (hs2.weak (fun _ _ h => h.1.imp id (fun q => q.1))).trans (hk3.weak (fun k _ h => h.1.elim .inl (fun h' => .inr (fun ht => (sub₁ k h.2 ht).elim (fun q => h'.1 ((hS _).2 (.inl q))) h'.2))))
        exact (h34.weak (fun k hk h => ⟨h, hk⟩)).trans (.putObj _ _ (fun h => h.elim (fun h => by have := hn₀ _ h; omega) (fun h => h.1 ((hS _).2 (.inr (.inr rfl))))))
      have sub : ∀ {T' : Nat → Prop}, (∀ k, T' k → T₁ k ∨ W2.heap.size ≤ k) → (∀ k, T' k → k ≠ w.heap.size ∧ k ≠ w.heap.size + 1) ∧ (∀ k, (T' k ∨ k = w.heap.size ∨ k = w.heap.size + 1) → S k ∨ G x k ∨ W.heap.size ≤ k) := fun hT' =>
        ⟨fun k hk => (hT' k hk).elim (fun h => (hT₁ k h).elim (hT k) (fun h => h.elim (fun h => ⟨fun e => (hG k h).1 ((hS k).2 (.inr (.inl e))), fun e => (hG k h).1 ((hS k).2 (.inr (.inr e)))⟩) (fun h => by omega))) (fun h => by omega), fun k hk => hk.elim (fun h => (hT' k h).elim (fun h => (hT₁ k h).elim (fun h => .inl ((hS _).2 (.inl h))) .inr) (fun h => .inr (.inr (by omega)))) (fun h => .inl ((hS _).2 (.inr h)))⟩
      rintro e a3 W3 hp
      cases e with
      | normal =>
        obtain ⟨T', hi3, hT', hk3⟩ := hp
        obtain ⟨hr, hl4, hk4, hst4⟩ := fin none W3 hk3
        obtain ⟨q1, q2⟩ := sub hT'
        exact ⟨_, _, hr, .inl ⟨rfl, fun k => T' k ∨ k = w.heap.size ∨ k = w.heap.size + 1, ⟨T', fun k => Iff.rfl, q1, hI _ _ _ _ hi3 (.putObj _ _ (fun h => (q1 _ h).2 rfl)), hl4, hk4⟩, q2, hst4⟩⟩
      | ret =>
        obtain ⟨T', hi3, hT', hk3⟩ := hp
        obtain ⟨hr, hl4, hk4, hst4⟩ := fin (some .ret) W3 hk3
        obtain ⟨q1, q2⟩ := sub hT'
        exact ⟨_, _, hr, .inr ⟨rfl, fun k => T' k ∨ k = w.heap.size ∨ k = w.heap.size + 1, ⟨T', fun k => Iff.rfl, q1, .ret, hIx _ _ _ _ _ hi3 (.putObj _ _ (fun h => (q1 _ h).2 rfl)), hl4, hk4⟩, q2, hst4⟩⟩
      | exit id =>
        obtain ⟨T', hi3, hT', hk3⟩ := hp
        obtain ⟨hr, hl4, hk4, hst4⟩ := fin (some (.exit id)) W3 hk3
        obtain ⟨q1, q2⟩ := sub hT'
        exact ⟨_, _, hr, .inr ⟨rfl, fun k => T' k ∨ k = w.heap.size ∨ k = w.heap.size + 1, ⟨T', fun k => Iff.rfl, q1, .exit id, hIx _ _ _ _ _ hi3 (.putObj _ _ (fun h => (q1 _ h).2 rfl)), hl4, hk4⟩, q2, hst4⟩⟩
      | goto t =>
        obtain ⟨T', hi3, hT', hk3⟩ := hp
        obtain ⟨hr, hl4, hk4, hst4⟩ := fin (some (.goto t)) W3 hk3
        obtain ⟨q1, q2⟩ := sub hT'
        exact ⟨_, _, hr, .inr ⟨rfl, fun k => T' k ∨ k = w.heap.size ∨ k = w.heap.size + 1, ⟨T', fun k => Iff.rfl, q1, .goto t, hIx _ _ _ _ _ hi3 (.putObj _ _ (fun h => (q1 _ h).2 rfl)), hl4, hk4⟩, q2, hst4⟩⟩
      | panic ch => exact hp.elim
      | outgrown => exact hp.elim
    · -- behind the iterator
      rintro e W2 ⟨⟨v, rfl⟩, (⟨xs, S, hSa, T, hS, hT, hi, hl, hk⟩ | ⟨pre, S, hSp, T, hS, hT, c, hi, hl, hk⟩)⟩
      · exact ⟨none, _, by have := run_endLoop (P := P) hl (by rw [hrec]; simp); rw [hrec] at this; exact this, hdone _ xs T _ hSa (hI _ _ _ _ hi (.putObj _ _ (fun h => (hT _ h).2 rfl))) ((World.putObj_heap_other (by omega)).trans hk) (Nat.le_refl _) (fun h => (hT _ h).1 rfl)⟩
      · exact ⟨some c, _, by have := run_endLoop (P := P) hl (by rw [hrec]; simp); rw [hrec] at this; exact this, hstop _ c pre T _ hSp (hIx _ _ _ _ _ hi (.putObj _ _ (fun h => (hT _ h).2 rfl))) ((World.putObj_heap_other (by omega)).trans hk) (Nat.le_refl _) (fun h => (hT _ h).1 rfl)⟩
theorem wpIn_rangeFunc_keepN {α : Type} {g : Operand} {ps : Array Tmp} {assign body : Code} {Q : Exit → Act → World → Prop} {a : Act} {w : World}
    {l₀ : Nat} {r₀ : Loop} (hro : F.round = some l₀) (hl₀ : w.heap[l₀]? = some (.loop r₀)) (h1 : 1 ≤ n) {gf : Nat} {lb : Array Value} (hg : a.eval g = .func (.func gf) #[] lb) (hFg : F.fn gf) (eg : ∀ args w, (callFunc gf args).run P w = .ok (.enter gf args) w)
    {encs : α → Array Value} {Kp : Nat → Prop} {Sa Sp : List α → Prop} {G : α → Nat → Prop} {Ok : List α → α → World → Prop} {N : Nat} {w0 : World} (hseq : SeqKeep F (n - 1) P gf lb encs Kp Sa Sp G Ok N w0) (hn₀ : ∀ k, Kp k → k < w.heap.size) (hb0 : Below w0.heap.size w0 w) (hps : ∀ x, (encs x).size = ps.size)
    (I : List α → (Nat → Prop) → World → Prop) (Ix : Code → List α → (Nat → Prop) → World → Prop)
    (hI : ∀ pre S A B, I pre S A → Stay S A B → I pre S B) (hIx : ∀ c pre S A B, Ix c pre S A → Stay S A B → Ix c pre S B)
    (hIb : ∀ pre S A, I pre S A → ∀ k, S k → k < A.heap.size) (S₀ : Nat → Prop) (hS₀ : ∀ k, S₀ k → k < w.heap.size) (h0 : I [] S₀ w)
    (Ax : List α → α → (Nat → Prop) → Act → World → Prop) (hAx : ∀ pre x S a A B, Ax pre x S a A → Stay S A B → Ax pre x S a B)
    (hassign : ∀ (l : Nat) (pre : List α) (x : α) (S : Nat → Prop) (W : World) (K : Act → World → Prop), I pre S W → pre.length < N → (∀ k, G x k → ¬ S k ∧ k < W.heap.size) → Ok pre x W →
      (∀ a₁ S₁ W₁, Ax pre x S₁ a₁ W₁ → (∀ k, S₁ k → S k ∨ G x k ∨ W.heap.size ≤ k) → Stay (fun k => Kp k ∨ ¬ S k) W W₁ → K a₁ W₁) →
      assign.wpIn (F.inRound l) (n - 1 - 1) P (Exit.then K (fun _ _ _ => False)) { tmps := (ps.zip (encs x)).foldl (fun t (p, v) => t.setIfInBounds p v) a.tmps, defers := [] } W)
    (hbody : ∀ (l : Nat) (pre : List α) (x : α) (S : Nat → Prop) (a₁ : Act) (W : World), w.heap.size ≤ l → (∃ r, W.heap[l]? = some (.loop r)) → ¬ S l → Ax pre x S a₁ W → pre.length < N → body.wpIn (F.inRound l) (n - 1 - 1) P (keepPost Kp I Ix (pre ++ [x]) S W) a₁ W)
    (hdone : ∀ (xs : List α) (S : Nat → Prop) (W : World), Sa xs → I xs S W → Q .normal a W)
    (hstop : ∀ (c : Code) (pre : List α) (S : Nat → Prop) (W : World), Sp pre → Ix c pre S W → c.wpIn F n P Q a W) :
    (Code.rangeFunc g ps assign body).wpIn F n P Q a w := by
  refine wpIn_rangeFunc ?_
  intro fn hfn
  rw [hro]
  obtain ⟨rec, hrec⟩ : ∃ rec : LoopState → Option Code → Loop, rec = fun st pe => { state := st, pending := pe, fn, tmps := a.tmps, params := ps, assign, body, defers := r₀.defers } := ⟨_, rfl⟩
  obtain ⟨W1, hW1⟩ : ∃ W1, w.alloc (.loop (rec .ready none)) = W1 := ⟨_, rfl⟩
  have hL1 : W1.heap[w.heap.size]? = some (.loop (rec .ready none)) := by rw [← hW1]; exact World.alloc_heap_new w _
  have hI1 : I [] S₀ W1 := by rw [← hW1]; exact hI _ _ _ _ h0 (.alloc _ _ _)
  have hb1 : Below w0.heap.size w0 W1 := by
    rw [← hW1]; exact hb0.trans (((Below.refl _ w).alloc (Nat.le_refl _) _).mono hb0.size)
  have hsz : ∀ {A : World} {r : Loop}, A.heap[w.heap.size]? = some (.loop r) → w.heap.size < A.heap.size := fun h => (Array.getElem?_eq_some_iff.1 h).1
  refine ⟨w.heap.size, [], W1, { target := .fn (.func gf) lb, args := #[.func (.yield (w.heap.size)) #[] #[]] }, W1, gf,
    #[.func (.yield (w.heap.size)) #[] #[]] ++ lb, W1, ?_, ?_, ?_, ?_, fun _ => h1, ?_⟩
  · rw [← hW1, hrec]; exact run_enterLoop_inner hl₀ _ _ _ _ _
  · simp only [resolve, hg]
    simp [go_sem]
  · intro f' hf'; simp [Target.leads] at hf'; subst hf'; exact hFg
  · simp [invoke, go_sem, eg]
  · -- the sets: the caller's, and the two blocks of the loop
    have hst : ∀ {A B : World} {T S : Nat → Prop}, (∀ k, S k ↔ T k ∨ k = w.heap.size) → Stay S A B → Stay T A B := fun hS h => h.weak (fun k _ ht => (hS k).2 (.inl ht))
    refine (hseq (w.heap.size)
      (fun pre S W => ∃ T : Nat → Prop, (∀ k, S k ↔ T k ∨ k = w.heap.size) ∧ (∀ k, T k → k ≠ w.heap.size) ∧ I pre T W ∧ W.heap[w.heap.size]? = some (.loop (rec .ready none)))
      (fun pre S W => ∃ T : Nat → Prop, (∀ k, S k ↔ T k ∨ k = w.heap.size) ∧ (∀ k, T k → k ≠ w.heap.size) ∧ ∃ c, Ix c pre T W ∧ W.heap[w.heap.size]? = some (.loop (rec .done (some c))))
      (fun k => S₀ k ∨ k = w.heap.size) W1 hb1 ?_ ?_ ?_ ?_ ⟨S₀, fun k => Iff.rfl, fun k hk => by have := hS₀ k hk; omega, hI1, hL1⟩).mono ?_
    · rintro pre S A B ⟨T, hS, hT, hi, hl⟩ h
      have hlt := hsz hl
      exact ⟨T, hS, hT, hI _ _ _ _ hi (hst hS h), (h.block _ hlt ((hS _).2 (.inr rfl))).trans hl⟩
    · rintro pre S A B ⟨T, hS, hT, c, hi, hl⟩ h
      have hlt := hsz hl
      exact ⟨T, hS, hT, c, hIx _ _ _ _ _ hi (hst hS h), (h.block _ hlt ((hS _).2 (.inr rfl))).trans hl⟩
    · rintro pre S A ⟨T, hS, hT, hi, hl⟩ k hk'
      have hlt := hsz hl
      rcases (hS k).1 hk' with h | h
      · exact hIb _ _ _ hi k h
      · omega
    · -- one round
      rintro pre x S W ⟨T, hS, hT, hi, hl⟩ hlen hG hok
      have hlt := hsz hl
      have nL : ¬ T w.heap.size := fun h => hT _ h rfl
      have hy := run_yield (P := P) (args := encs x) hl (by rw [hrec]; exact hps x)
      rw [hrec] at hy
      refine ⟨fn, _, assign, body, hy, roundIn_of_wpIn hfn (hassign _ pre x T W _ hi hlen (fun k hk => ⟨fun h => (hG k hk).1 ((hS k).2 (.inl h)), (hG k hk).2⟩) hok ?_)⟩
      intro a₁ T₁ W₁ hax hT₁ hst₁
      have hL₁ := (hst₁.block (w.heap.size) hlt (.inr nL)).trans hl
      have nL₁ : ¬ T₁ (w.heap.size) := fun h => (hT₁ _ h).elim nL (fun h => h.elim (fun h => (hG _ h).1 ((hS _).2 (.inr rfl))) (fun h => by omega))
      have hz₁ := hst₁.size
      refine ⟨_, run_beginRound hL₁ (by rw [hrec]), ?_⟩
      obtain ⟨W2, hW2⟩ : ∃ W2, W2 = W₁.putObj (w.heap.size) (.loop { rec .ready none with state := .busy }) := ⟨_, rfl⟩
      rw [← hW2]
      have hl2 : W2.heap[w.heap.size]? = some (.loop { rec .ready none with state := .busy }) := by rw [hW2]; exact World.putObj_heap_same (by omega)
      have hz2 : W2.heap.size = W₁.heap.size := by rw [hW2]; simp
      have hi2 : Ax pre x T₁ a₁ W2 := by rw [hW2]; exact hAx _ _ _ _ _ _ hax (.putObj _ _ nL₁)
      have hs2 : Stay (fun k => Kp k ∨ ¬ S k) W W2 := by
        rw [hW2]
        exact (hst₁.weak (fun k _ h => h.elim .inl (fun h => .inr (fun ht => h ((hS _).2 (.inl ht)))))).trans (.putObj _ _ (fun h => h.elim (fun h => by have := hn₀ _ h; omega) (fun h => h ((hS _).2 (.inr rfl)))))
      have sub₁ : ∀ k, k < W.heap.size → T₁ k → T k ∨ G x k := fun k hk h => (hT₁ k h).elim .inl (fun h => h.elim .inr (fun h => by omega))
      refine wpIn_mono (hbody _ pre x T₁ a₁ W2 (by omega) ⟨_, hl2⟩ nL₁ hi2 hlen) ?_
      have fin : ∀ (jump : Option Code) (W3 : World), Stay (fun k => Kp k ∨ ¬ T₁ k) W2 W3 →
          (Instr.endRound (w.heap.size) jump).run P W3 = .ok (.bool jump.isNone) (W3.putObj (w.heap.size) (.loop (rec (if jump.isNone then .ready else .done) jump))) ∧
          (W3.putObj (w.heap.size) (.loop (rec (if jump.isNone then .ready else .done) jump))).heap[w.heap.size]? = some (.loop (rec (if jump.isNone then .ready else .done) jump)) ∧
          Stay (fun k => Kp k ∨ (¬ S k ∧ ¬ G x k)) W (W3.putObj (w.heap.size) (.loop (rec (if jump.isNone then .ready else .done) jump))) := fun jump W3 hk3 => by
        have hl3 := (hk3.block (w.heap.size) (by omega) (.inr nL₁)).trans hl2
        have := run_endRound (P := P) jump hl3
        rw [hrec] at this ⊢
        refine ⟨this, World.putObj_heap_same (Array.getElem?_eq_some_iff.1 hl3).1, ?_⟩
        have h34 : Stay (fun k => (Kp k ∨ (¬ S k ∧ ¬ G x k)) ∧ k < W.heap.size) W W3 := (hs2.weak (fun _ _ h => h.1.imp id (fun q => q.1))).trans (hk3.weak (fun k _ h => h.1.elim .inl (fun h' => .inr (fun ht => (sub₁ k h.2 ht).elim (fun q => h'.1 ((hS _).2 (.inl q))) h'.2))))
        exact (h34.weak (fun k hk h => ⟨h, hk⟩)).trans (.putObj _ _ (fun h => h.elim (fun h => by have := hn₀ _ h; omega) (fun h => h.1 ((hS _).2 (.inr rfl)))))
      have sub : ∀ {T' : Nat → Prop}, (∀ k, T' k → T₁ k ∨ W2.heap.size ≤ k) → (∀ k, T' k → k ≠ w.heap.size) ∧ (∀ k, (T' k ∨ k = w.heap.size) → S k ∨ G x k ∨ W.heap.size ≤ k) := fun hT' =>
        ⟨fun k hk => (hT' k hk).elim (fun h => (hT₁ k h).elim (hT k) (fun h => h.elim (fun h => fun e => (hG k h).1 ((hS k).2 (.inr e))) (fun h => by omega))) (fun h => by omega), fun k hk => hk.elim (fun h => (hT' k h).elim (fun h => (hT₁ k h).elim (fun h => .inl ((hS _).2 (.inl h))) .inr) (fun h => .inr (.inr (by omega)))) (fun h => .inl ((hS _).2 (.inr h)))⟩
      rintro e a3 W3 hp
      cases e with
      | normal =>
        obtain ⟨T', hi3, hT', hk3⟩ := hp
        obtain ⟨hr, hl4, hst4⟩ := fin none W3 hk3
        obtain ⟨q1, q2⟩ := sub hT'
        exact ⟨_, _, hr, .inl ⟨rfl, fun k => T' k ∨ k = w.heap.size, ⟨T', fun k => Iff.rfl, q1, hI _ _ _ _ hi3 (.putObj _ _ (fun h => q1 _ h rfl)), hl4⟩, q2, hst4⟩⟩
      | ret =>
        obtain ⟨T', hi3, hT', hk3⟩ := hp
        obtain ⟨hr, hl4, hst4⟩ := fin (some .ret) W3 hk3
        obtain ⟨q1, q2⟩ := sub hT'
        exact ⟨_, _, hr, .inr ⟨rfl, fun k => T' k ∨ k = w.heap.size, ⟨T', fun k => Iff.rfl, q1, .ret, hIx _ _ _ _ _ hi3 (.putObj _ _ (fun h => q1 _ h rfl)), hl4⟩, q2, hst4⟩⟩
      | exit id =>
        obtain ⟨T', hi3, hT', hk3⟩ := hp
        obtain ⟨hr, hl4, hst4⟩ := fin (some (.exit id)) W3 hk3
        obtain ⟨q1, q2⟩ := sub hT'
        exact ⟨_, _, hr, .inr ⟨rfl, fun k => T' k ∨ k = w.heap.size, ⟨T', fun k => Iff.rfl, q1, .exit id, hIx _ _ _ _ _ hi3 (.putObj _ _ (fun h => q1 _ h rfl)), hl4⟩, q2, hst4⟩⟩
      | goto t =>
        obtain ⟨T', hi3, hT', hk3⟩ := hp
        obtain ⟨hr, hl4, hst4⟩ := fin (some (.goto t)) W3 hk3
        obtain ⟨q1, q2⟩ := sub hT'
        exact ⟨_, _, hr, .inr ⟨rfl, fun k => T' k ∨ k = w.heap.size, ⟨T', fun k => Iff.rfl, q1, .goto t, hIx _ _ _ _ _ hi3 (.putObj _ _ (fun h => q1 _ h rfl)), hl4⟩, q2, hst4⟩⟩
      | panic ch => exact hp.elim
      | outgrown => exact hp.elim
    · -- behind the iterator
      rintro e W2 ⟨⟨v, rfl⟩, (⟨xs, S, hSa, T, hS, hT, hi, hl⟩ | ⟨pre, S, hSp, T, hS, hT, c, hi, hl⟩)⟩
      · exact ⟨none, _, by have := run_endLoop (P := P) hl (by rw [hrec]; simp); rw [hrec] at this; exact this, hdone xs T _ hSa (hI _ _ _ _ hi (.putObj _ _ (fun h => hT _ h rfl)))⟩
      · exact ⟨some c, _, by have := run_endLoop (P := P) hl (by rw [hrec]; simp); rw [hrec] at this; exact this, hstop c pre T _ hSp (hIx _ _ _ _ _ hi (.putObj _ _ (fun h => hT _ h rfl)))⟩
end Go.Proofs.Ythbilahilmmfmaa

