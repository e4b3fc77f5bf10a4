/- What the proof of FnBasis stands on, part 2 of 10: each piece says what it proves and under which conditions. Conditions: as each piece says. -/
import Derived.Test.YthbilahilmmfmaaPackBasis1
import GoSem.Claim
import Derived.Below
import Derived.Deep.Draws
import Derived.Test.YthbilahilmmfmaaProg
import Derived.BigQuiet
import Derived.Deep.QuietTactic
import Derived.OpenShut
import Derived.ProofKit
import Derived.WalkKit
import Derived.WalkSmall
import Derived.Deep.RegionHeld3
/- Plain facts on lists of whole numbers: what a loop over a list has seen so far. Conditions: none. -/
namespace Go.Proofs.Ythbilahilmmfmaa
set_option maxRecDepth 100000
open Go.RowKit

/-- Whether x is in the list. -/
def hasB (zs : List Int) (x : Int) : Bool := zs.any (fun y => y == x)

theorem take_snoc {zs : List Int} {k : Nat} (h : k < zs.length) : zs.take (k + 1) = zs.take k ++ [zs[k]] :=
  List.take_succ_eq_append_getElem h

theorem hasB_hit {zs : List Int} {k : Nat} {x : Int} (h : k < zs.length) (e : (zs[k] == x) = true) : hasB zs x = true := by
  unfold hasB
  rw [List.any_eq_true]
  exact ⟨zs[k], List.getElem_mem h, e⟩

theorem hasB_step {zs : List Int} {k : Nat} {x : Int} (h : k < zs.length) (e0 : hasB (zs.take k) x = false) (e : (zs[k] == x) = false) : hasB (zs.take (k + 1)) x = false := by
  unfold hasB at *
  rw [take_snoc h, List.any_append, e0]
  simpa using e

theorem hasB_all {zs : List Int} {k : Nat} {x : Int} (h : ¬ k < zs.length) (e0 : hasB (zs.take k) x = false) : hasB zs x = false := by
  rwa [List.take_of_length_le (by omega)] at e0

/-- Whether two lists are the same. -/
def eqB (zs ys : List Int) : Bool := zs == ys

theorem eqB_self (zs : List Int) : eqB zs zs = true := by simp [eqB]
theorem eqB_len {zs ys : List Int} (h : ¬ zs.length = ys.length) : eqB zs ys = false := by
  simp only [eqB, beq_eq_false_iff_ne]; intro e; exact h (by rw [e])
theorem eqB_hit {zs ys : List Int} {k : Nat} (h : k < zs.length) (h' : k < ys.length) (e : (zs[k] != ys[k]) = true) : eqB zs ys = false := by
  simp only [eqB, beq_eq_false_iff_ne]; intro e'; subst e'; simp at e
theorem eqB_step {zs ys : List Int} {k : Nat} (h : k < zs.length) (h' : k < ys.length) (e0 : zs.take k = ys.take k) (e : (zs[k] != ys[k]) = false) : zs.take (k + 1) = ys.take (k + 1) := by
  have e' : zs[k] = ys[k] := by simpa using e
  rw [take_snoc h, take_snoc h', e0, e']
theorem eqB_all {zs ys : List Int} {k : Nat} (h : ¬ k < zs.length) (hl : zs.length = ys.length) (e0 : zs.take k = ys.take k) : eqB zs ys = true := by
  rw [List.take_of_length_le (by omega), List.take_of_length_le (by omega)] at e0
  rw [e0]; exact eqB_self _

/-- The slice value that begins at 'a' reads in w as the numbers zs: it is empty, or it leads to their cells. -/
def Rd (w : World) (a : Option Addr) (zs : List Int) : Prop :=
  zs = [] ∨ ∃ b off, a = some ⟨b, off, none⟩ ∧ b < w.heap.size ∧ ∀ i, i < zs.length → w.cell? ⟨b, off + i, none⟩ = some (.int .i64 (zs[i]?.getD 0))

theorem Rd.below {w w' : World} {a : Option Addr} {zs : List Int} (h : Rd w a zs) (hb : Below w.heap.size w w') : Rd w' a zs := by
  rcases h with h | ⟨b, off, rfl, hlt, hc⟩
  · exact .inl h
  · exact .inr ⟨b, off, rfl, Nat.lt_of_lt_of_le hlt hb.size, fun i hi => (hb.cell (p := ⟨b, off + i, none⟩) hlt).trans (hc i hi)⟩

theorem Rd.drewN {w : World} {a : Option Addr} {zs : List Int} (h : Rd w a zs) (n : Nat) : Rd (w.drewN n) a zs := by
  rcases h with h | ⟨b, off, rfl, hlt, hc⟩
  · exact .inl h
  · exact .inr ⟨b, off, rfl, hlt, fun i hi => hc i hi⟩

/-- The cells of a list of numbers. -/
def ints (zs : List Int) : List Value := zs.map (Value.int .i64)

theorem copy_step {zs : List Int} {k : Nat} (h : k < zs.length) :
    (ints (zs.take k) ++ List.replicate (zs.length - k) (Value.int .i64 0)).set k (.int .i64 zs[k]) = ints (zs.take (k + 1)) ++ List.replicate (zs.length - (k + 1)) (Value.int .i64 0) := by
  have e : zs.length - k = (zs.length - (k + 1)) + 1 := by omega
  have l : (ints (zs.take k)).length = k := by simp [ints]; omega
  rw [List.set_append, if_neg (by omega), l, Nat.sub_self, e, List.replicate_succ, List.set_cons_zero, take_snoc h]
  simp only [ints, List.map_append, List.map_cons, List.map_nil, List.append_assoc, List.cons_append, List.nil_append]

theorem copy_at {zs : List Int} {k : Nat} (h : k < zs.length) : (ints (zs.take k) ++ List.replicate (zs.length - k) (Value.int .i64 0))[k]? = some (.int .i64 0) := by
  have l : (ints (zs.take k)).length = k := by simp [ints]; omega
  rw [List.getElem?_append_right (by omega), l, Nat.sub_self, List.getElem?_replicate, if_pos (by omega)]

theorem made_zero (n : Nat) : (madeCells #[Value.int .i64 0] n).toList = List.replicate n (Value.int .i64 0) := by
  apply List.ext_getElem
  · simp [madeCells]
  · intro i h1 h2
    simp [madeCells, Nat.mod_one]

theorem Rd.own {w : World} {base g cap : Nat} {zs : List Int} {n : Nat} (hn : n = zs.length) (h : w.ownsRow base 3 1 (.slice (some ⟨g, 0, none⟩) n cap) n (ints zs)) : Rd w (some ⟨g, 0, none⟩) zs := by
  subst hn
  refine .inr ⟨g, 0, rfl, (h.lt g rfl).2, fun i hi => ?_⟩
  rw [show (0 + i) = i by omega, h.cellAt i (by omega)]
  simp [ints, hi]
end Go.Proofs.Ythbilahilmmfmaa

/- Whether one list of numbers lies beneath another one: both ways of asking. Conditions: at most 1048577 numbers. -/
namespace Go.Proofs.Ythbilahilmmfmaa
set_option maxRecDepth 100000
open Go.RowKit

def abvB (xs ys : List Int) : Bool := (List.zip xs ys).any (fun p => decide (p.2 < p.1))
def blwB (xs ys : List Int) : Bool := (List.zip xs ys).any (fun p => decide (p.1 < p.2))
/-- Nowhere above, somewhere below, and as many. -/
def leastB (xs ys : List Int) : Bool := !abvB xs ys && blwB xs ys && (xs.length == ys.length)

theorem take_zip_ : ∀ (k : Nat) (xs ys : List Int), (List.zip xs ys).take k = List.zip (xs.take k) (ys.take k)
  | 0, _, _ => by simp
  | _ + 1, [], _ => by simp
  | _ + 1, _ :: _, [] => by simp
  | k + 1, x :: xs, y :: ys => by simp [take_zip_ k xs ys]
theorem zip_snoc {xs ys : List Int} {k : Nat} (h : k < xs.length) (h' : k < ys.length) : List.zip (xs.take (k + 1)) (ys.take (k + 1)) = List.zip (xs.take k) (ys.take k) ++ [(xs[k], ys[k])] := by
  rw [take_snoc h, take_snoc h', List.zip_append (by simp; omega)]; rfl
theorem any_take {xs ys : List Int} {k : Nat} {f : Int × Int → Bool} (h : (List.zip (xs.take k) (ys.take k)).any f = true) : (List.zip xs ys).any f = true := by
  rw [List.any_eq_true] at h ⊢
  obtain ⟨p, hp, hf⟩ := h
  rw [← take_zip_] at hp
  exact ⟨p, List.mem_of_mem_take hp, hf⟩
theorem abv_step {xs ys : List Int} {k : Nat} (h : k < xs.length) (h' : k < ys.length) (e0 : abvB (xs.take k) (ys.take k) = false) (e : decide (ys[k] < xs[k]) = false) : abvB (xs.take (k + 1)) (ys.take (k + 1)) = false := by
  unfold abvB at *
  rw [zip_snoc h h', List.any_append, e0]
  simpa using e
theorem abv_hit {xs ys : List Int} {k : Nat} (h : k < xs.length) (h' : k < ys.length) (e : decide (ys[k] < xs[k]) = true) : abvB xs ys = true := by
  unfold abvB
  rw [List.any_eq_true]
  refine ⟨(xs[k], ys[k]), ?_, e⟩
  have : (List.zip xs ys)[k]'(by simp; omega) = (xs[k], ys[k]) := by simp
  rw [← this]; exact List.getElem_mem _
theorem blw_step {xs ys : List Int} {k : Nat} (h : k < xs.length) (h' : k < ys.length) : blwB (xs.take (k + 1)) (ys.take (k + 1)) = (blwB (xs.take k) (ys.take k) || decide (xs[k] < ys[k])) := by
  unfold blwB
  rw [zip_snoc h h', List.any_append]
  simp
theorem zip_all {xs ys : List Int} {k : Nat} (h : ¬ (k < xs.length ∧ k < ys.length)) : List.zip (xs.take k) (ys.take k) = List.zip xs ys := by
  rw [← take_zip_, List.take_of_length_le (by simp; omega)]
theorem abv_all {xs ys : List Int} {k : Nat} (h : ¬ (k < xs.length ∧ k < ys.length)) : abvB (xs.take k) (ys.take k) = abvB xs ys := by unfold abvB; rw [zip_all h]
theorem blw_all {xs ys : List Int} {k : Nat} (h : ¬ (k < xs.length ∧ k < ys.length)) : blwB (xs.take k) (ys.take k) = blwB xs ys := by unfold blwB; rw [zip_all h]
theorem least_abv {xs ys : List Int} (h : abvB xs ys = true) : leastB xs ys = false := by simp [leastB, h]
theorem least_len {xs ys : List Int} (h : ¬ xs.length = ys.length) : leastB xs ys = false := by
  have : (xs.length == ys.length) = false := by simpa using h
  simp [leastB, this]
/-- Where nothing is above, beneath is 'not the same'. -/
theorem least_same : ∀ {xs ys : List Int}, xs.length = ys.length → abvB xs ys = false → leastB xs ys = !(eqB xs ys)
  | [], [], _, _ => rfl
  | x :: xs, y :: ys, hl, h => by
    have hl' : xs.length = ys.length := by simpa using hl
    have h' : (decide (y < x) || abvB xs ys) = false := h
    simp only [Bool.or_eq_false_iff, decide_eq_false_iff_not] at h'
    have I := least_same hl' h'.2
    simp only [leastB, h'.2, hl', beq_self_eq_true, Bool.and_true, Bool.not_false, Bool.true_and] at I
    have e1 : abvB (x :: xs) (y :: ys) = false := h
    have e2 : blwB (x :: xs) (y :: ys) = (decide (x < y) || blwB xs ys) := rfl
    have e3 : eqB (x :: xs) (y :: ys) = (decide (x = y) && eqB xs ys) := by
      simp only [eqB]
      by_cases q : x = y <;> simp [q]
    simp only [leastB, e1, e2, e3, hl, beq_self_eq_true, Bool.and_true, Bool.not_false, Bool.true_and, I]
    by_cases q : x = y
    · subst q; simp
    · have : x < y := by omega
      simp [q, this]
  | [], _ :: _, hl, _ => by simp at hl
  | _ :: _, [], hl, _ => by simp at hl
end Go.Proofs.Ythbilahilmmfmaa

/- The least ways of two sums, as plain mathematics: all ways in order, and which of them are least; what goes through them once in order finds just these. Conditions: none. -/
namespace Go.Proofs.Ythbilahilmmfmaa
set_option maxRecDepth 100000

/-- All lists of n numbers, none below 0, that come to m at most, in the order of their numbers from the left. -/
def waysL : Nat → Nat → List (List Int)
  | 0, _ => [[]]
  | n + 1, m => (List.range (m + 1)).flatMap (fun k => (waysL n (m - k)).map (fun x => (k : Int) :: x))

/-- One list stands ahead of another one, by the first number in which they part. -/
def lexB : List Int → List Int → Prop
  | x :: xs, y :: ys => x < y ∨ (x = y ∧ lexB xs ys)
  | _, _ => False
theorem lexB_irrefl : ∀ xs : List Int, ¬ lexB xs xs
  | [] => fun h => h
  | x :: xs => fun h => by
    rcases h with h | ⟨_, h⟩
    · omega
    · exact lexB_irrefl xs h
theorem lexB_asym : ∀ xs ys : List Int, lexB xs ys → ¬ lexB ys xs
  | [], _, h, _ => h
  | _ :: _, [], h, _ => h
  | x :: xs, y :: ys, h, k => by
    rcases h with h | ⟨h1, h⟩ <;> rcases k with k | ⟨k1, k⟩
    · omega
    · omega
    · omega
    · exact lexB_asym xs ys h k
theorem lexB_app : ∀ (xs ys zs vs : List Int), lexB xs ys → xs.length = ys.length → lexB (xs ++ zs) (ys ++ vs)
  | [], _, _, _, h, _ => h.elim
  | _ :: _, [], _, _, h, _ => h.elim
  | x :: xs, y :: ys, zs, vs, h, hl => by
    rcases h with h | ⟨h1, h⟩
    · exact .inl h
    · exact .inr ⟨h1, lexB_app xs ys zs vs h (by simpa using hl)⟩
theorem lexB_same : ∀ (xs zs vs : List Int), lexB zs vs → lexB (xs ++ zs) (xs ++ vs)
  | [], _, _, h => h
  | _ :: xs, zs, vs, h => .inr ⟨rfl, lexB_same xs zs vs h⟩

theorem waysL_len : ∀ (n m : Nat), ∀ x ∈ waysL n m, x.length = n
  | 0, m, x, h => by simp [waysL] at h; subst h; rfl
  | n + 1, m, x, h => by
    simp only [waysL, List.mem_flatMap, List.mem_map] at h
    obtain ⟨k, _, y, hy, rfl⟩ := h
    simp [waysL_len n (m - k) y hy]
theorem waysL_lex : ∀ (n m : Nat), (waysL n m).Pairwise lexB
  | 0, m => by simp [waysL]
  | n + 1, m => by
    simp only [waysL]
    rw [List.pairwise_flatMap]
    refine ⟨fun k _ => ?_, ?_⟩
    · rw [List.pairwise_map]
      exact (waysL_lex n (m - k)).imp (fun h => .inr ⟨rfl, h⟩)
    · refine List.pairwise_lt_range.imp (fun {i j} hij x hx y hy => ?_)
      simp only [List.mem_map] at hx hy
      obtain ⟨x', _, rfl⟩ := hx
      obtain ⟨y', _, rfl⟩ := hy
      exact .inl (by omega)
theorem waysL_nonneg : ∀ (n m : Nat), ∀ x ∈ waysL n m, (∀ v ∈ x, 0 ≤ v) ∧ x.sum ≤ m
  | 0, m, x, h => by simp [waysL] at h; subst h; simp
  | n + 1, m, x, h => by
    simp only [waysL, List.mem_flatMap, List.mem_map, List.mem_range] at h
    obtain ⟨k, hk, y, hy, rfl⟩ := h
    have ih := waysL_nonneg n (m - k) y hy
    refine ⟨fun v hv => ?_, ?_⟩
    · rcases List.mem_cons.1 hv with rfl | hv
      · omega
      · exact ih.1 v hv
    · simp only [List.sum_cons]
      have := ih.2
      omega

/-- What lies beneath stands ahead. -/
theorem least_lex : ∀ (xs ys : List Int), leastB xs ys = true → lexB xs ys
  | [], [], h => by simp [leastB, blwB] at h
  | [], _ :: _, h => by simp [leastB] at h
  | _ :: _, [], h => by simp [leastB] at h
  | x :: xs, y :: ys, h => by
    simp only [leastB, abvB, blwB, List.zip_cons_cons, List.any_cons, Bool.and_eq_true, Bool.not_eq_true', Bool.or_eq_false_iff, decide_eq_false_iff_not, Bool.or_eq_true, decide_eq_true_eq, List.length_cons, beq_iff_eq, Nat.add_right_cancel_iff] at h
    obtain ⟨⟨⟨h1, h2⟩, h3⟩, h4⟩ := h
    by_cases q : x < y
    · exact .inl q
    · refine .inr ⟨by omega, least_lex xs ys ?_⟩
      rcases h3 with h3 | h3
      · exact absurd h3 q
      · simp [leastB, abvB, blwB, h2, h3, h4]
theorem least_trans : ∀ (xs ys zs : List Int), leastB xs ys = true → leastB ys zs = true → leastB xs zs = true := by
  have key : ∀ (xs ys zs : List Int), xs.length = ys.length → ys.length = zs.length → abvB xs ys = false → abvB ys zs = false → abvB xs zs = false ∧ (blwB xs ys = true → blwB xs zs = true) := by
    intro xs
    induction xs with
    | nil => intro ys zs _ _ _ _; exact ⟨by simp [abvB], fun h => by simp [blwB] at h⟩
    | cons x xs ih =>
      intro ys zs h1 h2 h3 h4
      match ys, zs, h1, h2, h3, h4 with
      | y :: ys, z :: zs, h1, h2, h3, h4 =>
        simp only [abvB, blwB, List.zip_cons_cons, List.any_cons, Bool.or_eq_false_iff, decide_eq_false_iff_not, Bool.or_eq_true, decide_eq_true_eq] at *
        have I := ih ys zs (by simpa using h1) (by simpa using h2) h3.2 h4.2
        refine ⟨⟨by omega, I.1⟩, fun h => ?_⟩
        rcases h with h | h
        · exact .inl (by omega)
        · exact .inr (I.2 h)
  intro xs ys zs h k
  simp only [leastB, Bool.and_eq_true, Bool.not_eq_true', beq_iff_eq] at h k ⊢
  have K := key xs ys zs h.2 k.2 h.1.1 k.1.1
  exact ⟨⟨K.1, K.2 h.1.2⟩, h.2.trans k.2⟩
theorem least_sum : ∀ (xs ys : List Int), leastB xs ys = true → xs.sum < ys.sum := by
  have key : ∀ (xs ys : List Int), xs.length = ys.length → abvB xs ys = false → xs.sum ≤ ys.sum ∧ (blwB xs ys = true → xs.sum < ys.sum) := by
    intro xs
    induction xs with
    | nil => intro ys h _; have : ys = [] := by simpa using h.symm
             subst this; exact ⟨Int.le_refl _, fun h => by simp [blwB] at h⟩
    | cons x xs ih =>
      intro ys h1 h3
      match ys, h1, h3 with
      | y :: ys, h1, h3 =>
        simp only [abvB, blwB, List.zip_cons_cons, List.any_cons, Bool.or_eq_false_iff, decide_eq_false_iff_not, Bool.or_eq_true, decide_eq_true_eq, List.sum_cons] at *
        have I := ih ys (by simpa using h1) h3.2
        refine ⟨by omega, fun h => ?_⟩
        rcases h with h | h
        · omega
        · have := I.2 h; omega
  intro xs ys h
  simp only [leastB, Bool.and_eq_true, Bool.not_eq_true', beq_iff_eq] at h
  exact (key xs ys h.2 h.1.1).2 h.1.2

/-- Nothing of the list lies beneath it. -/
def minB (all : List (List Int)) (x : List Int) : Bool := !(all.any (fun y => leastB y x))
/-- What a walk through the list keeps. -/
def keepStep (acc : List (List Int)) (x : List Int) : List (List Int) := if acc.any (fun y => leastB y x) then acc else acc ++ [x]

theorem min_below {all : List (List Int)} (hn : ∀ x ∈ all, ∀ v ∈ x, 0 ≤ v) : ∀ (n : Nat) (x : List Int), x ∈ all → x.sum ≤ n → minB all x = false → ∃ y ∈ all, leastB y x = true ∧ minB all y = true
  | n, x, hx, hs, hm => by
    simp only [minB, Bool.not_eq_false', List.any_eq_true] at hm
    obtain ⟨y, hy, hl⟩ := hm
    by_cases q : minB all y = true
    · exact ⟨y, hy, hl, q⟩
    · have hlt := least_sum y x hl
      have h0 : 0 ≤ y.sum := by
        have : ∀ l : List Int, (∀ v ∈ l, 0 ≤ v) → 0 ≤ l.sum := by
          intro l
          induction l with
          | nil => intro _; simp
          | cons a l ih => intro h; simp only [List.sum_cons]; have := ih (fun v hv => h v (by simp [hv])); have := h a (by simp); omega
        exact this y (hn y hy)
      match n with
      | 0 => exact absurd hlt (by omega)
      | n + 1 =>
        obtain ⟨z, hz, h1, h2⟩ := min_below hn n y hy (by omega) (by simpa using q)
        exact ⟨z, hz, least_trans z y x h1 hl, h2⟩

/-- A walk in order keeps just what is least. -/
theorem keep_min {all : List (List Int)} (hlex : all.Pairwise lexB) (hn : ∀ x ∈ all, ∀ v ∈ x, 0 ≤ v) : ∀ (k : Nat), k ≤ all.length → (all.take k).foldl keepStep [] = (all.take k).filter (minB all)
  | 0, _ => by simp
  | k + 1, hk => by
    have hk' : k < all.length := by omega
    have ih := keep_min hlex hn k (by omega)
    rw [List.take_succ_eq_append_getElem hk', List.foldl_append, ih, List.filter_append]
    show keepStep _ all[k] = _
    have hmem := List.getElem_mem hk'
    have key : ((all.take k).filter (minB all)).any (fun y => leastB y all[k]) = !(minB all all[k]) := by
      cases hm : minB all all[k] with
      | true =>
        simp only [Bool.not_true, List.any_eq_false]
        intro y hy
        simp only [minB, Bool.not_eq_true', List.any_eq_false] at hm
        exact hm y (List.mem_of_mem_take (List.mem_filter.1 hy).1)
      | false =>
        simp only [Bool.not_false, List.any_eq_true]
        obtain ⟨y, hy, h1, h2⟩ := min_below hn all[k].sum.toNat all[k] hmem (by omega) hm
        refine ⟨y, ?_, h1⟩
        rw [List.mem_filter]
        refine ⟨?_, h2⟩
        obtain ⟨i, hi, rfl⟩ := List.getElem_of_mem hy
        have hlt : i < k := by
          rcases Nat.lt_trichotomy i k with q | q | q
          · exact q
          · subst q; exact absurd (least_lex _ _ h1) (lexB_irrefl _)
          · exact absurd (least_lex _ _ h1) (lexB_asym _ _ (List.pairwise_iff_getElem.1 hlex k i hk' hi q))
        rw [List.mem_take_iff_getElem]
        exact ⟨i, by omega, rfl⟩
    unfold keepStep
    rw [key]
    cases hm : minB all all[k] <;> simp [hm]
theorem keep_all {all : List (List Int)} (hlex : all.Pairwise lexB) (hn : ∀ x ∈ all, ∀ v ∈ x, 0 ≤ v) : all.foldl keepStep [] = all.filter (minB all) := by
  have := keep_min hlex hn all.length (Nat.le_refl _)
  rwa [List.take_length] at this
end Go.Proofs.Ythbilahilmmfmaa

/- The ways as the program goes over them: each follows on the one ahead of it. Conditions: none. -/
namespace Go.Proofs.Ythbilahilmmfmaa
set_option maxRecDepth 100000

/-- The place of the last number that is not 0; 0 where all are. -/
def lastN : List Int → Nat
  | [] => 0
  | _ :: xs => if xs.all (fun v => v == 0) then 0 else lastN xs + 1
/-- What follows, of n + 1 numbers that come to m at most; nothing behind the last one. -/
def nextL (m : Nat) (x : List Int) : Option (List Int) :=
  if x.sum < m then some (x.set (x.length - 1) (x.getD (x.length - 1) 0 + 1))
  else if lastN x = 0 then none
  else some ((x.set (lastN x) 0).set (lastN x - 1) (x.getD (lastN x - 1) 0 + 1))

def zerosL (n : Nat) : List Int := List.replicate n 0
/-- The last one of a row. -/
def endL (n m : Nat) : List Int := (m : Int) :: zerosL n

/-- Each follows on the one ahead of it. -/
def Link (f : List Int → Option (List Int)) : List (List Int) → Prop
  | [] => True
  | [_] => True
  | x :: y :: l => f x = some y ∧ Link f (y :: l)
theorem link_app {f : List Int → Option (List Int)} : ∀ (l1 l2 : List (List Int)), Link f l1 → Link f l2 → (∀ x y, l1.getLast? = some x → l2.head? = some y → f x = some y) → Link f (l1 ++ l2)
  | [], l2, _, h2, _ => h2
  | [x], [], _, _, _ => trivial
  | [x], y :: l2, _, h2, h => ⟨h x y rfl rfl, h2⟩
  | x :: y :: l1, l2, h1, h2, h => ⟨h1.1, link_app (y :: l1) l2 h1.2 h2 (fun a b ha hb => h a b (by rw [List.getLast?_cons_cons]; exact ha) hb)⟩
theorem link_map {f g : List Int → Option (List Int)} {k : Int} : ∀ (l : List (List Int)), (∀ x ∈ l, ∀ y, f x = some y → g (k :: x) = some (k :: y)) → Link f l → Link g (l.map (fun x => k :: x))
  | [], _, _ => trivial
  | [_], _, _ => trivial
  | x :: y :: l, h, hl => ⟨h x (by simp) y hl.1, link_map (y :: l) (fun a ha => h a (by simp [ha])) hl.2⟩

theorem zeros_all (n : Nat) : (zerosL n).all (fun v => v == 0) = true := by simp [zerosL]
theorem zeros_sum (n : Nat) : (zerosL n).sum = 0 := by
  induction n with
  | zero => rfl
  | succ n ih => simp only [zerosL, List.replicate_succ, List.sum_cons] at *; omega
theorem next_in {m k : Nat} {x y : List Int} (hk : k ≤ m) (hx : x ≠ []) (h : nextL (m - k) x = some y) : nextL m ((k : Int) :: x) = some ((k : Int) :: y) := by
  obtain ⟨v, xs, rfl⟩ : ∃ v xs, x = v :: xs := by cases x with
    | nil => exact absurd rfl hx
    | cons v xs => exact ⟨v, xs, rfl⟩
  unfold nextL at h ⊢
  by_cases q : (v :: xs).sum < ((m - k : Nat) : Int)
  · rw [if_pos q] at h
    rw [if_pos (by simp only [List.sum_cons] at *; omega)]
    cases h
    simp
  · rw [if_neg q] at h
    rw [if_neg (by simp only [List.sum_cons] at *; omega)]
    by_cases z : lastN (v :: xs) = 0
    · rw [if_pos z] at h; cases h
    · rw [if_neg z] at h
      have hall : (v :: xs).all (fun v => v == 0) = false := by
        cases ha : (v :: xs).all (fun v => v == 0) with
        | false => rfl
        | true =>
          exfalso
          apply z
          simp only [List.all_cons, Bool.and_eq_true] at ha
          simp [lastN, ha.2]
      have hl : lastN ((k : Int) :: v :: xs) = lastN (v :: xs) + 1 := by
        show (if (v :: xs).all (fun v => v == 0) = true then 0 else lastN (v :: xs) + 1) = _
        rw [hall]; simp
      rw [if_neg (by rw [hl]; omega), hl]
      cases h
      obtain ⟨j, hj⟩ : ∃ j, lastN (v :: xs) = j + 1 := ⟨lastN (v :: xs) - 1, by omega⟩
      rw [hj]
      simp
theorem next_edge {m k n : Nat} (hk : k < m) : nextL m ((k : Int) :: endL n (m - k)) = some (((k + 1 : Nat) : Int) :: zerosL (n + 1)) := by
  unfold nextL endL
  have hs : ((k : Int) :: ((m - k : Nat) : Int) :: zerosL n).sum = m := by simp only [List.sum_cons, zeros_sum]; omega
  rw [if_neg (by rw [hs]; omega)]
  have hz : lastN (((m - k : Nat) : Int) :: zerosL n) = 0 := by simp [lastN, zeros_all]
  have hall : (((m - k : Nat) : Int) :: zerosL n).all (fun v => v == 0) = false := by
    have : ((m - k : Nat) : Int) ≠ 0 := by omega
    simp only [List.all_cons, Bool.and_eq_false_iff, beq_eq_false_iff_ne]
    exact .inl this
  have hl : lastN ((k : Int) :: ((m - k : Nat) : Int) :: zerosL n) = 1 := by
    show (if (((m - k : Nat) : Int) :: zerosL n).all (fun v => v == 0) = true then 0 else lastN (((m - k : Nat) : Int) :: zerosL n) + 1) = _
    rw [hall, hz]; simp
  rw [hl, if_neg (by omega)]
  simp [zerosL, List.replicate_succ]
theorem next_end {m n : Nat} : nextL m (endL n m) = none := by
  unfold nextL endL
  have hs : ((m : Int) :: zerosL n).sum = m := by simp only [List.sum_cons, zeros_sum]; omega
  rw [if_neg (by rw [hs]; omega), if_pos (by simp [lastN, zeros_all])]

theorem ways_one (m : Nat) : waysL 1 m = (List.range (m + 1)).map (fun k : Nat => [(k : Int)]) := by
  simp only [waysL, List.map_cons, List.map_nil]
  induction (List.range (m + 1)) with
  | nil => rfl
  | cons a l ih =>
    simp only [List.flatMap_cons, List.map_cons, List.cons_append, List.nil_append]
    rw [ih]
/-- The ways, one behind the other. -/
theorem ways_link : ∀ (n m : Nat), Link (nextL m) (waysL (n + 1) m) ∧ (waysL (n + 1) m).head? = some (zerosL (n + 1)) ∧ (waysL (n + 1) m).getLast? = some (endL n m)
  | 0, m => by
    rw [ways_one]
    have key : ∀ j, j ≤ m → Link (nextL m) ((List.range (j + 1)).map (fun k : Nat => [(k : Int)])) ∧ ((List.range (j + 1)).map (fun k : Nat => [(k : Int)])).head? = some [0] ∧ ((List.range (j + 1)).map (fun k : Nat => [(k : Int)])).getLast? = some [(j : Int)] := by
      intro j
      induction j with
      | zero => intro _; exact ⟨trivial, rfl, rfl⟩
      | succ j ih =>
        intro hj
        obtain ⟨h1, h2, h3⟩ := ih (by omega)
        rw [List.range_succ, List.map_append]
        refine ⟨link_app _ _ h1 trivial (fun x y hx hy => ?_), ?_, ?_⟩
        · rw [h3] at hx; cases hx
          simp at hy; subst hy
          unfold nextL
          rw [if_pos (by simp; omega)]
          simp
        · rw [List.head?_append, h2]; rfl
        · simp
    exact key m (Nat.le_refl _)
  | n + 1, m => by
    have key : ∀ j, j ≤ m → Link (nextL m) ((List.range (j + 1)).flatMap (fun k : Nat => (waysL (n + 1) (m - k)).map (fun x => (k : Int) :: x))) ∧ ((List.range (j + 1)).flatMap (fun k : Nat => (waysL (n + 1) (m - k)).map (fun x => (k : Int) :: x))).head? = some (zerosL (n + 2)) ∧ ((List.range (j + 1)).flatMap (fun k : Nat => (waysL (n + 1) (m - k)).map (fun x => (k : Int) :: x))).getLast? = some ((j : Int) :: endL n (m - j)) := by
      intro j
      have blk : ∀ k, k ≤ m → Link (nextL m) ((waysL (n + 1) (m - k)).map (fun x => (k : Int) :: x)) ∧ ((waysL (n + 1) (m - k)).map (fun x => (k : Int) :: x)).head? = some ((k : Int) :: zerosL (n + 1)) ∧ ((waysL (n + 1) (m - k)).map (fun x => (k : Int) :: x)).getLast? = some ((k : Int) :: endL n (m - k)) := by
        intro k hk
        obtain ⟨h1, h2, h3⟩ := ways_link n (m - k)
        refine ⟨link_map _ (fun x hx y hy => next_in hk (fun e => by have := waysL_len _ _ x hx; rw [e] at this; simp at this) hy) h1, ?_, ?_⟩
        · rw [List.head?_map, h2]; rfl
        · rw [List.getLast?_map, h3]; rfl
      induction j with
      | zero =>
        intro _
        have B := blk 0 (Nat.zero_le _)
        simp only [List.range_succ, List.range_zero, List.nil_append, List.flatMap_cons, List.flatMap_nil, List.append_nil]
        exact ⟨B.1, by rw [B.2.1]; rfl, B.2.2⟩
      | succ j ih =>
        intro hj
        obtain ⟨h1, h2, h3⟩ := ih (by omega)
        have B := blk (j + 1) hj
        rw [List.range_succ, List.flatMap_append]
        simp only [List.flatMap_cons, List.flatMap_nil, List.append_nil]
        refine ⟨link_app _ _ h1 B.1 (fun x y hx hy => ?_), ?_, ?_⟩
        · rw [h3] at hx; cases hx
          rw [B.2.1] at hy; cases hy
          exact next_edge (by omega)
        · rw [List.head?_append, h2]; rfl
        · rw [List.getLast?_append, B.2.2]; rfl
    obtain ⟨h1, h2, h3⟩ := key m (Nat.le_refl _)
    refine ⟨h1, h2, ?_⟩
    show ((List.range (m + 1)).flatMap (fun k : Nat => (waysL (n + 1) (m - k)).map (fun x => (k : Int) :: x))).getLast? = _
    rw [h3, Nat.sub_self]
    rfl
end Go.Proofs.Ythbilahilmmfmaa

/- What follows of counts: the program's step from one way to the next one. Conditions: 1 to 5 counts, each from 0 to 1000; a bound of at most 1000. -/
namespace Go.Proofs.Ythbilahilmmfmaa
set_option maxRecDepth 100000
open Go.RowKit

theorem lastN_of : ∀ (x : List Int) (k : Nat), k < x.length → (∀ j, k < j → j < x.length → x.getD j 0 = 0) → (k = 0 ∨ x.getD k 0 ≠ 0) → lastN x = k
  | v :: xs, 0, _, h, _ => by
    have ha : xs.all (fun v => v == 0) = true := by
      rw [List.all_eq_true]
      intro u hu
      obtain ⟨i, hi, rfl⟩ := List.mem_iff_getElem.1 hu
      have := h (i + 1) (by omega) (by simpa using hi)
      simpa [hi] using this
    simp [lastN, ha]
  | v :: xs, k + 1, hk, h, h0 => by
    have hk' : k < xs.length := by simpa using hk
    have hne : xs.getD k 0 ≠ 0 := by simpa using h0
    have ha : xs.all (fun v => v == 0) = false := by
      rw [List.all_eq_false]
      refine ⟨xs[k], List.getElem_mem _, ?_⟩
      simpa [hk'] using hne
    have ih := lastN_of xs k hk' (fun j hj hj' => by simpa using h (j + 1) (by omega) (by simpa using hj')) (.inr hne)
    simp [lastN, ha, ih]

/-- The number at a place, 0 behind the last one. -/
def pd (x : List Int) (j : Nat) : Int := x.getD j 0
/-- Counts as the program keeps them: five numbers, 0 behind the last one. -/
def agg5 (x : List Int) : Value := .agg #[.int .i64 (pd x 0), .int .i64 (pd x 1), .int .i64 (pd x 2), .int .i64 (pd x 3), .int .i64 (pd x 4)]
/-- Where they lie. -/
def Box5 (W : World) (H : Nat) (x : List Int) : Prop := ∀ j, j < 5 → W.cell? ⟨H, j, none⟩ = some (.int .i64 (pd x j))
theorem Box5.set {W : World} {H l : Nat} {x : List Int} {v : Int} (h : Box5 W H x) (hl : l < x.length) (_h5 : x.length ≤ 5) : Box5 (W.setCell ⟨H, l, none⟩ (.int .i64 v)) H (x.set l v) := by
  intro j hj
  by_cases e : j = l
  · subst e
    rw [World.cell?_setCell_same' _ _ _ (by rw [h j hj]; rfl)]
    simp [hl, pd]
  · have hne : l ≠ j := fun q => e q.symm
    rw [World.cell?_setCell_other _ _ _ _ (by first | (simp; done) | (simp; omega)), h j hj]
    simp [hne, pd]
theorem Box5.other {W : World} {H B l : Nat} {x : List Int} {v : Value} (h : Box5 W H x) (hB : B ≠ H) : Box5 (W.setCell ⟨B, l, none⟩ v) H x := by
  intro j hj
  rw [World.cell?_setCell_other _ _ _ _ (by simp), h j hj]
theorem sum_next (x : List Int) (k : Nat) : (x.take (k + 1)).sum = (x.take k).sum + pd x k := by
  by_cases h : k < x.length
  · rw [List.take_succ_eq_append_getElem h, List.sum_append]; simp [h, pd]
  · rw [List.take_of_length_le (by omega), List.take_of_length_le (by omega)]; simp [h, pd]
theorem sum_range {x : List Int} (h : ∀ j, 0 ≤ pd x j ∧ pd x j ≤ 1000) : ∀ k, 0 ≤ (x.take k).sum ∧ (x.take k).sum ≤ 1000 * k
  | 0 => by simp
  | k + 1 => by
    have := sum_range h k
    have := h k
    rw [sum_next]
    omega
/-- What the step answers. -/
def nextP (m : Nat) (x : List Int) : List Int × Bool := match nextL m x with
  | some y => (y, true)
  | none => (x, false)

theorem index5_0 (a b c d e : Int) (w : World) : (Instr.index 97 (.agg #[.int .i64 a, .int .i64 b, .int .i64 c, .int .i64 d, .int .i64 e]) (.int .i64 0)).run Try.prog w = .ok (.int .i64 a) w := by kernel_rfl
theorem index5_1 (a b c d e : Int) (w : World) : (Instr.index 97 (.agg #[.int .i64 a, .int .i64 b, .int .i64 c, .int .i64 d, .int .i64 e]) (.int .i64 1)).run Try.prog w = .ok (.int .i64 b) w := by kernel_rfl
theorem index5_2 (a b c d e : Int) (w : World) : (Instr.index 97 (.agg #[.int .i64 a, .int .i64 b, .int .i64 c, .int .i64 d, .int .i64 e]) (.int .i64 2)).run Try.prog w = .ok (.int .i64 c) w := by kernel_rfl
theorem index5_3 (a b c d e : Int) (w : World) : (Instr.index 97 (.agg #[.int .i64 a, .int .i64 b, .int .i64 c, .int .i64 d, .int .i64 e]) (.int .i64 3)).run Try.prog w = .ok (.int .i64 d) w := by kernel_rfl
theorem index5_4 (a b c d e : Int) (w : World) : (Instr.index 97 (.agg #[.int .i64 a, .int .i64 b, .int .i64 c, .int .i64 d, .int .i64 e]) (.int .i64 4)).run Try.prog w = .ok (.int .i64 e) w := by kernel_rfl
set_option maxHeartbeats 3200000 in
theorem next_any (x : List Int) (m : Nat) (w : World) (h1 : 1 ≤ x.length) (h5 : x.length ≤ 5) (hx : ∀ j, 0 ≤ pd x j ∧ pd x j ≤ 1000) (_hm : m ≤ 1000) :
    Calls Try.prog 87 #[agg5 x, .int .i64 x.length, .int .i64 m] w fun e w' => e = .returned (.tuple #[agg5 (nextP m x).1, .bool (nextP m x).2]) ∧ Below w.heap.size w w' := by
  obtain ⟨l, hl⟩ : ∃ l, x.length = l + 1 := ⟨x.length - 1, by omega⟩
  have hn : ((l + 1 : Nat) : Int) - 1 = (l : Int) := by omega
  have HS : Hid (∀ k, (x.take (k + 1)).sum = (x.take k).sum + pd x k) := sum_next x
  have HR : Hid (∀ k, 0 ≤ (x.take k).sum ∧ (x.take k).sum ≤ 1000 * (k : Int)) := sum_range hx
  have HX : Hid (∀ j, 0 ≤ pd x j ∧ pd x j ≤ 1000) := hx
  have HT : Hid (x.take 5 = x) := List.take_of_length_le h5
  obtain ⟨N, hN⟩ : ∃ N, N = nextP m x := ⟨_, rfl⟩
  rw [← hN, hl]
  have HN : Hid (N = nextP m x) := hN
  clear hx hN
  unfold agg5
  go_enter Try.func87, Try.ntmps87
  go_wp2_with fail
  obtain ⟨W0, hW0⟩ : ∃ W0, W0 = (w.alloc (.cells #[.int .i64 (pd x 0), .int .i64 (pd x 1), .int .i64 (pd x 2), .int .i64 (pd x 3), .int .i64 (pd x 4)] 97)).alloc (.cells #[.int .i64 0, .int .i64 0, .int .i64 0, .int .i64 0, .int .i64 0] 97) := ⟨_, rfl⟩
  have hB0 : Below w.heap.size w W0 := by rw [hW0]; exact ((Below.refl _ _).alloc (Nat.le_refl _) _).alloc (by simp) _
  have hX0 : Box5 W0 w.heap.size x := by
    intro j hj
    rw [hW0]
    obtain rfl | rfl | rfl | rfl | rfl : j = 0 ∨ j = 1 ∨ j = 2 ∨ j = 3 ∨ j = 4 := by omega
    all_goals simp [go_sem]
  have hR0 : ∀ j, j < 5 → W0.cell? ⟨w.heap.size + 1, j, none⟩ = some (.int .i64 0) := by
    intro j hj
    rw [hW0]
    obtain rfl | rfl | rfl | rfl | rfl : j = 0 ∨ j = 1 ∨ j = 2 ∨ j = 3 ∨ j = 4 := by omega
    all_goals simp [go_sem]
  have hF0 : ∀ j, W0.frozen? ⟨w.heap.size, j, none⟩ = false := fun j => by rw [hW0]; simp [go_sem]
  have hF1 : ∀ j, W0.frozen? ⟨w.heap.size + 1, j, none⟩ = false := fun j => by rw [hW0]; simp [go_sem]
  rw [← hW0]
  clear hW0
  go_loop [8, 13] (fun s i => ∃ k : Nat, k ≤ 5 ∧ i = .int .i64 k ∧ s = .int .i64 (x.take k).sum) (fun _ i => 5 - (intOf i).toNat)
  case atStart => exact ⟨0, by omega, rfl, by simp⟩
  case round =>
    obtain ⟨k, hk, rfl, rfl⟩ := hrel
    by_cases hk' : k < 5
    · have r1 := HR.out k
      have r2 := HX.out k
      have HE := HS.out k
      have HE' : Hid ((x.take (k + 1)).sum = (x.take k).sum + pd x k) := HE
      clear HE hX0 hR0 hF0 hF1 hB0
      have I0 := index5_0 (pd x 0) (pd x 1) (pd x 2) (pd x 3) (pd x 4) W0
      have I1 := index5_1 (pd x 0) (pd x 1) (pd x 2) (pd x 3) (pd x 4) W0
      have I2 := index5_2 (pd x 0) (pd x 1) (pd x 2) (pd x 3) (pd x 4) W0
      have I3 := index5_3 (pd x 0) (pd x 1) (pd x 2) (pd x 3) (pd x 4) W0
      have I4 := index5_4 (pd x 0) (pd x 1) (pd x 2) (pd x 3) (pd x 4) W0
      obtain rfl | rfl | rfl | rfl | rfl : k = 0 ∨ k = 1 ∨ k = 2 ∨ k = 3 ∨ k = 4 := by omega
      all_goals
        generalize (x.take _).sum = s at r1 HE' ⊢
        generalize pd x _ = d at r2 HE' I0 I1 I2 I3 I4 ⊢
        go_wp2_with fail
        first
          | exact ⟨⟨1, by omega, rfl, by rw [HE'.out]⟩, by simp [intOf]⟩
          | exact ⟨⟨2, by omega, rfl, by rw [HE'.out]⟩, by simp [intOf]⟩
          | exact ⟨⟨3, by omega, rfl, by rw [HE'.out]⟩, by simp [intOf]⟩
          | exact ⟨⟨4, by omega, rfl, by rw [HE'.out]⟩, by simp [intOf]⟩
          | exact ⟨⟨5, by omega, rfl, by rw [HE'.out]⟩, by simp [intOf]⟩
    · have e : k = 5 := by omega
      subst e
      rw [HT.out]
      have hxs := HR.out 5
      rw [HT.out] at hxs
      by_cases hs : x.sum < (m : Int)
      · have HY : Hid (N = (x.set l (pd x l + 1), true)) := by
          show N = _
          rw [HN.out]
          simp only [nextP, nextL, if_pos hs, hl, Nat.add_sub_cancel, pd]
        have cl := hX0 l (by omega)
        have rl := HX.out l
        have fl := hF0 l
        have fr := hF1
        have hB1 : Box5 (W0.setCell ⟨w.heap.size, l, none⟩ (.int .i64 (pd x l + 1))) w.heap.size (x.set l (pd x l + 1)) := hX0.set (by omega) h5
        have hl5 : (l : Int) < 5 := by omega
        have hl0 : (0 : Int) ≤ (l : Int) := by omega
        generalize pd x l = d at cl rl HY hB1
        have q0 := hB1 0 (by omega)
        have q1 := hB1 1 (by omega)
        have q2 := hB1 2 (by omega)
        have q3 := hB1 3 (by omega)
        have q4 := hB1 4 (by omega)
        have hRR : ∀ j, j < 5 → (W0.setCell ⟨w.heap.size, l, none⟩ (.int .i64 (d + 1))).cell? ⟨w.heap.size + 1, j, none⟩ = some (.int .i64 0) := fun j hj => by rw [World.cell?_setCell_other _ _ _ _ (by simp)]; exact hR0 j hj
        have r0 := hRR 0 (by omega)
        have r1 := hRR 1 (by omega)
        have r2 := hRR 2 (by omega)
        have r3 := hRR 3 (by omega)
        have r4 := hRR 4 (by omega)
        clear hRR hB1 hX0 hR0 hF0 hF1
        generalize x.sum = sm at hs hxs ⊢
        go_wp2_with fail
        exact bodyPost_ret (v := .tuple #[agg5 (x.set l (d + 1)), .bool true]) (by simp [results, Try.results87, go_sem, r0, r1, r2, r3, r4, agg5]) rfl ⟨by rw [HY.out]; rfl, (((((hB0.setCell (Nat.le_refl _) _).setCell (by simp) _).setCell (by simp) _).setCell (by simp) _).setCell (by simp) _).setCell (by simp) _⟩
      · generalize hsm : x.sum = sm at hs hxs ⊢
        have HSM : Hid (x.sum = sm) := hsm
        have HXX : Hid (Box5 W0 w.heap.size x) := hX0
        have HRR : Hid (∀ j, j < 5 → W0.cell? ⟨w.heap.size + 1, j, none⟩ = some (.int .i64 0)) := hR0
        have q0 := hX0 0 (by omega)
        have q1 := hX0 1 (by omega)
        have q2 := hX0 2 (by omega)
        have q3 := hX0 3 (by omega)
        have q4 := hX0 4 (by omega)
        have r0 := hR0 0 (by omega)
        have r1 := hR0 1 (by omega)
        have r2 := hR0 2 (by omega)
        have r3 := hR0 3 (by omega)
        have r4 := hR0 4 (by omega)
        have HF0 : Hid (∀ j, W0.frozen? ⟨w.heap.size, j, none⟩ = false) := hF0
        have fr := hF1
        clear hX0 hR0 hF0 hF1 hsm
        go_wp2_with fail
        go_loop [11] (fun i => ∃ k : Nat, k ≤ l ∧ i = .int .i64 k ∧ Hid (∀ j, k < j → j < x.length → x.getD j 0 = 0)) (fun i => (intOf i).toNat)
        case atStart => exact ⟨l, Nat.le_refl _, rfl, fun j h1 h2 => by omega⟩
        case round =>
          obtain ⟨k, hk, rfl, H0⟩ := hrel
          by_cases hk0 : k = 0
          · subst hk0
            have HY : Hid (N = (x, false)) := by
              show N = _
              have hL := lastN_of x 0 (by omega) H0.out (.inl rfl)
              rw [HN.out]
              simp only [nextP, nextL, if_neg (show ¬ x.sum < (m : Int) by rw [HSM.out]; omega), hL, if_true]
            clear H0
            go_wp2_with fail
            exact bodyPost_ret (v := .tuple #[agg5 x, .bool false]) (by simp [results, Try.results87, go_sem, r0, r1, r2, r3, r4, agg5]) rfl ⟨by rw [HY.out]; rfl, ((((hB0.setCell (by simp) _).setCell (by simp) _).setCell (by simp) _).setCell (by simp) _).setCell (by simp) _⟩
          · obtain ⟨p, rfl⟩ : ∃ p, k = p + 1 := ⟨k - 1, by omega⟩
            have hp1 : (0 : Int) < ((p + 1 : Nat) : Int) := by omega
            have hp5 : ((p + 1 : Nat) : Int) < 5 := by omega
            have hp0 : (0 : Int) ≤ ((p + 1 : Nat) : Int) := by omega
            have hpt : (((p + 1 : Nat) : Int)).toNat = p + 1 := by omega
            have hpm : ((p + 1 : Nat) : Int) - 1 = (p : Int) := by omega
            have cl := HXX.out (p + 1) (by omega)
            have rl := HX.out (p + 1)
            by_cases hz : pd x (p + 1) = 0
            · rw [hz] at cl
              have H1 : Hid (∀ j, p < j → j < x.length → x.getD j 0 = 0) := fun j h1 h2 => by
                by_cases e : j = p + 1
                · subst e; exact hz
                · exact H0.out j (by omega) h2
              clear H0 hz rl
              go_wp2_with fail
              go_round
              case rel => exact ⟨p, by omega, by go_num, H1⟩
              case measure => simp [intOf]
            · have HY : Hid (N = ((x.set (p + 1) 0).set p (pd x p + 1), true)) := by
                show N = _
                have hL := lastN_of x (p + 1) (by omega) H0.out (.inr hz)
                rw [HN.out]
                simp only [nextP, nextL, if_neg (show ¬ x.sum < (m : Int) by rw [HSM.out]; omega), hL, Nat.add_sub_cancel, if_neg (Nat.succ_ne_zero p), pd]
              have hne : (pd x (p + 1) == 0) = false := by simpa using hz
              have hne2 : decide (pd x (p + 1) = 0) = false := by simpa using hz
              have fl := HF0.out (p + 1)
              have fl2 := HF0.out p
              have rp := HX.out p
              have hB1 : Box5 (W0.setCell ⟨w.heap.size, p + 1, none⟩ (.int .i64 0)) w.heap.size (x.set (p + 1) 0) := HXX.out.set (by omega) h5
              have hxl : (x.set (p + 1) 0).length = x.length := by simp
              have hB2 : Box5 ((W0.setCell ⟨w.heap.size, p + 1, none⟩ (.int .i64 0)).setCell ⟨w.heap.size, p, none⟩ (.int .i64 (pd x p + 1))) w.heap.size ((x.set (p + 1) 0).set p (pd x p + 1)) := hB1.set (by omega) (by omega)
              have cp : (W0.setCell ⟨w.heap.size, p + 1, none⟩ (.int .i64 0)).cell? ⟨w.heap.size, p, none⟩ = some (.int .i64 (pd x p)) := by
                rw [hB1 p (by omega)]
                simp [pd]
              have hpa : (p : Int) < 5 := by omega
              have hpb : (0 : Int) ≤ (p : Int) := by omega
              have hrr : ∀ j, j < 5 → ((W0.setCell ⟨w.heap.size, p + 1, none⟩ (.int .i64 0)).setCell ⟨w.heap.size, p, none⟩ (.int .i64 (pd x p + 1))).cell? ⟨w.heap.size + 1, j, none⟩ = some (.int .i64 0) := fun j hj => by
                rw [World.cell?_setCell_other _ _ _ _ (by simp), World.cell?_setCell_other _ _ _ _ (by simp)]; exact HRR.out j hj
              clear q0 q1 q2 q3 q4 r0 r1 r2 r3 r4
              generalize pd x p = d at rp cp hB2 hrr HY
              generalize pd x (p + 1) = dz at cl rl hz hne hne2
              have q0 := hB2 0 (by omega)
              have q1 := hB2 1 (by omega)
              have q2 := hB2 2 (by omega)
              have q3 := hB2 3 (by omega)
              have q4 := hB2 4 (by omega)
              have r0 := hrr 0 (by omega)
              have r1 := hrr 1 (by omega)
              have r2 := hrr 2 (by omega)
              have r3 := hrr 3 (by omega)
              have r4 := hrr 4 (by omega)
              clear hrr hB2 hB1 H0 hxl
              go_wp2_with fail
              exact bodyPost_ret (v := .tuple #[agg5 ((x.set (p + 1) 0).set p (d + 1)), .bool true]) (by simp [results, Try.results87, go_sem, r0, r1, r2, r3, r4, agg5]) rfl ⟨by rw [HY.out]; rfl, ((((((hB0.setCell (Nat.le_refl _) _).setCell (Nat.le_refl _) _).setCell (by simp) _).setCell (by simp) _).setCell (by simp) _).setCell (by simp) _).setCell (by simp) _⟩
end Go.Proofs.Ythbilahilmmfmaa

/- Plain facts on a number put into a list where it comes by its size, and on lists that count up. Conditions: none. -/
namespace Go.Proofs.Ythbilahilmmfmaa
set_option maxRecDepth 100000
open Go.RowKit

/-- x put into zs where it comes by its size, once. -/
def ins (zs : List Int) (x : Int) : List Int :=
  if hasB zs x = true then zs else zs.takeWhile (fun y => decide (y < x)) ++ x :: zs.dropWhile (fun y => decide (y < x))

/-- One round of the program's own loop: what it has laid out, and whether x is placed. -/
def stepI (x : Int) (s : List Int × Bool) (y : Int) : List Int × Bool :=
  if (!s.2 && decide (x < y)) = true then (s.1 ++ [x] ++ [y], true) else (s.1 ++ [y], s.2)

theorem fold_placed (x : Int) : ∀ (l o : List Int), l.foldl (stepI x) (o, true) = (o ++ l, true)
  | [], o => by simp
  | y :: l, o => by rw [List.foldl_cons, show stepI x (o, true) y = (o ++ [y], true) from by simp [stepI], fold_placed x l]; simp

theorem fold_new (x : Int) : ∀ (l o : List Int), hasB l x = false →
    (let r := l.foldl (stepI x) (o, false); if r.2 = true then r.1 else r.1 ++ [x]) = o ++ (l.takeWhile (fun y => decide (y < x)) ++ x :: l.dropWhile (fun y => decide (y < x)))
  | [], o, _ => by simp
  | y :: l, o, h => by
    have hy : ¬ y = x := by intro e; simp [hasB, e] at h
    have hl : hasB l x = false := by simp [hasB] at h ⊢; exact h.2
    rw [List.foldl_cons]
    by_cases hxy : x < y
    · rw [show stepI x (o, false) y = (o ++ [x] ++ [y], true) from by simp [stepI, hxy], fold_placed]
      have : ¬ y < x := by omega
      simp [this]
    · rw [show stepI x (o, false) y = (o ++ [y], false) from by simp [stepI, hxy], fold_new x l (o ++ [y]) hl]
      have : y < x := by omega
      simp [this]

/-- What the program's loop has made of the first k numbers. -/
def made (zs : List Int) (x : Int) (k : Nat) : List Int × Bool := (zs.take k).foldl (stepI x) ([], hasB zs x)

theorem made_zero_ (zs : List Int) (x : Int) : made zs x 0 = ([], hasB zs x) := rfl
theorem made_succ {zs : List Int} {x : Int} {k : Nat} (h : k < zs.length) : made zs x (k + 1) = stepI x (made zs x k) zs[k] := by
  unfold made; rw [take_snoc h, List.foldl_append]; rfl
theorem made_put {zs : List Int} {x : Int} {k : Nat} (h : k < zs.length) (hp : (made zs x k).2 = false) (hx : x < zs[k]) :
    (made zs x (k + 1)).1 = (made zs x k).1 ++ [x] ++ [zs[k]] ∧ (made zs x (k + 1)).2 = true := by
  rw [made_succ h]; simp [stepI, hp, hx]
theorem made_not {zs : List Int} {x : Int} {k : Nat} (h : k < zs.length) (hp : (made zs x k).2 = true ∨ ¬ x < zs[k]) :
    (made zs x (k + 1)).1 = (made zs x k).1 ++ [zs[k]] ∧ (made zs x (k + 1)).2 = (made zs x k).2 := by
  rw [made_succ h]
  rcases hp with hp | hp <;> simp [stepI, hp]
theorem made_len (zs : List Int) (x : Int) : ∀ k, k ≤ zs.length → ((made zs x k).1.length = k ∨ ((made zs x k).1.length = k + 1 ∧ (made zs x k).2 = true))
  | 0, _ => .inl rfl
  | k + 1, h => by
    have ih := made_len zs x k (by omega)
    rw [made_succ (by omega)]
    by_cases c : (!(made zs x k).2 && decide (x < zs[k])) = true
    · simp only [stepI, c, if_true]
      simp at c
      rcases ih with ih | ⟨_, ih⟩
      · right; simp [ih]
      · simp [ih] at c
    · have e : stepI x (made zs x k) zs[k] = ((made zs x k).1 ++ [zs[k]], (made zs x k).2) := by
        rw [stepI, if_neg c]
      rw [e]
      rcases ih with ih | ⟨ih, ih'⟩
      · left; simp [ih]
      · right; simp [ih, ih']
theorem made_end (zs : List Int) (x : Int) : (if (made zs x zs.length).2 = true then (made zs x zs.length).1 else (made zs x zs.length).1 ++ [x]) = ins zs x := by
  unfold made ins
  rw [List.take_length]
  by_cases h : hasB zs x = true
  · rw [if_pos h, h, fold_placed]; simp
  · have h' : hasB zs x = false := by simpa using h
    rw [if_neg h, h']
    exact fold_new x zs [] h'

theorem ins_len (zs : List Int) (x : Int) : (ins zs x).length ≤ zs.length + 1 := by
  unfold ins
  split
  · omega
  · rw [List.length_append, List.length_cons]
    have h : (zs.takeWhile (fun y => decide (y < x)) ++ zs.dropWhile (fun y => decide (y < x))).length = zs.length := by rw [List.takeWhile_append_dropWhile]
    rw [List.length_append] at h
    omega

/-- Where the first number that is not less than x stands, once all ahead of k are less and that at k is not. -/
theorem ins_at {zs : List Int} {x : Int} {k : Nat} (hk : k ≤ zs.length) (h0 : hasB zs x = false) (hlt : ∀ j, (h : j < zs.length) → j < k → zs[j] < x) (hge : ∀ h : k < zs.length, ¬ zs[k] < x) :
    ins zs x = zs.take k ++ [x] ++ zs.drop k := by
  have e : zs = zs.take k ++ zs.drop k := (List.take_append_drop k zs).symm
  have a1 : (zs.take k).all (fun y => decide (y < x)) = true := by
    rw [List.all_eq_true]
    intro y hy
    obtain ⟨j, hj, rfl⟩ := List.getElem_of_mem hy
    rw [List.length_take] at hj
    rw [List.getElem_take]
    simpa using hlt j (by omega) (by omega)
  have t1 : zs.takeWhile (fun y => decide (y < x)) = zs.take k ∧ zs.dropWhile (fun y => decide (y < x)) = zs.drop k := by
    have g : ∀ (l r : List Int), l.all (fun y => decide (y < x)) = true → (∀ h : 0 < r.length, ¬ r[0] < x) → (l ++ r).takeWhile (fun y => decide (y < x)) = l ∧ (l ++ r).dropWhile (fun y => decide (y < x)) = r := by
      intro l r hl hr
      induction l with
      | nil =>
        cases r with
        | nil => exact ⟨rfl, rfl⟩
        | cons y r => have := hr (by simp); simp at this; have h' : ¬ y < x := by omega
                      simp [h']
      | cons y l ih =>
        simp at hl
        have := ih (by simpa using hl.2)
        simp [hl.1, this]
    have := g (zs.take k) (zs.drop k) a1 (by
      intro h
      rw [List.getElem_drop]
      simp at h
      exact hge (by omega))
    rwa [← e] at this
  unfold ins
  rw [if_neg (by simp [h0]), t1.1, t1.2]
  simp

/-- n numbers from k on, each one more. -/
def upFrom (k : Int) (n : Nat) : List Int := (List.range n).map (fun j : Nat => k + (j : Int))
theorem upFrom_len (k : Int) (n : Nat) : (upFrom k n).length = n := by simp [upFrom]
theorem upFrom_at (k : Int) (n j : Nat) (h : j < n) : (upFrom k n)[j]? = some (k + (j : Int)) := by simp [upFrom, h]
theorem upFrom_get (k : Int) (n j : Nat) (h : j < (upFrom k n).length) : (upFrom k n)[j] = k + (j : Int) := by simp [upFrom]
theorem upFrom_succ (k : Int) (n : Nat) : upFrom k (n + 1) = upFrom k n ++ [k + (n : Int)] := by simp [upFrom, List.range_succ]
theorem mark_step {zs : List Int} {k : Int} {j : Nat} (h : j < zs.length) : (ints (upFrom k j) ++ (ints zs).drop j).set j (.int .i64 (k + (j : Int))) = ints (upFrom k (j + 1)) ++ (ints zs).drop (j + 1) := by
  have l : (ints (upFrom k j)).length = j := by simp [ints, upFrom]
  have d : (ints zs).drop j = (ints zs)[j]'(by simpa [ints] using h) :: (ints zs).drop (j + 1) := List.drop_eq_getElem_cons _
  rw [List.set_append, if_neg (by omega), l, Nat.sub_self, d, List.set_cons_zero, upFrom_succ]
  simp only [ints, List.map_append, List.map_cons, List.map_nil, List.append_assoc, List.cons_append, List.nil_append]
theorem mark_at {zs : List Int} {k : Int} {j : Nat} (h : j < zs.length) : ∃ u, (ints (upFrom k j) ++ (ints zs).drop j)[j]? = some (.int .i64 u) := by
  have l : (ints (upFrom k j)).length = j := by simp [ints, upFrom]
  refine ⟨zs[j], ?_⟩
  rw [List.getElem?_append_right (by omega), l, Nat.sub_self, List.getElem?_drop]
  simp [ints, h]

/-- What is owned stays owned where no old block turns. -/
theorem own_below {w w' : World} {base : Nat} {e : TypeId} {size : Nat} {v : Value} {n : Nat} {xs : List Value} (h : w.ownsRow base e size v n xs) (hb : Below w.heap.size w w') : w'.ownsRow base e size v n xs := by
  have hl := h.lt
  obtain ⟨h1, h2⟩ := h
  refine ⟨h1, ?_⟩
  rcases h2 with h2 | ⟨g, cap, cur, rfl, hg, hh, r⟩
  · exact .inl h2
  · exact .inr ⟨g, cap, cur, rfl, hg, by rw [hb.block g (hl g rfl).2]; exact hh, r⟩
end Go.Proofs.Ythbilahilmmfmaa

/- Lists of lists of numbers in memory, and what they come to, place by place. Conditions: none. -/
namespace Go.Proofs.Ythbilahilmmfmaa
set_option maxRecDepth 100000
open Go.RowKit

/-- The slice value that begins at 'a' reads in w as the rows. -/
def RdQ (w : World) (a : Option Addr) (rows : List (List Int)) : Prop :=
  rows = [] ∨ ∃ b off, a = some ⟨b, off, none⟩ ∧ b < w.heap.size ∧ ∀ i, (h : i < rows.length) → ∃ ai ci, w.cell? ⟨b, off + i, none⟩ = some (.slice ai rows[i].length ci) ∧ Rd w ai rows[i]
theorem RdQ.below {w w' : World} {a : Option Addr} {rows : List (List Int)} (h : RdQ w a rows) (hb : Below w.heap.size w w') : RdQ w' a rows := by
  rcases h with h | ⟨b, off, rfl, hlt, hc⟩
  · exact .inl h
  · refine .inr ⟨b, off, rfl, Nat.lt_of_lt_of_le hlt hb.size, fun i hi => ?_⟩
    obtain ⟨ai, ci, h1, h2⟩ := hc i hi
    exact ⟨ai, ci, (hb.cell (p := ⟨b, off + i, none⟩) hlt).trans h1, h2.below hb⟩
theorem RdQ.get {w : World} {a : Option Addr} {rows : List (List Int)} (h : RdQ w a rows) {i : Nat} (hi : i < rows.length) : ∃ b off ai ci, a = some ⟨b, off, none⟩ ∧ w.cell? ⟨b, off + i, none⟩ = some (.slice ai rows[i].length ci) ∧ Rd w ai rows[i] := by
  rcases h with h | ⟨b, off, rfl, hlt, hc⟩
  · subst h; simp at hi
  · obtain ⟨ai, ci, h1, h2⟩ := hc i hi
    exact ⟨b, off, ai, ci, rfl, h1, h2⟩
theorem Rd.get {w : World} {a : Option Addr} {zs : List Int} (h : Rd w a zs) {i : Nat} (hi : i < zs.length) : ∃ b off, a = some ⟨b, off, none⟩ ∧ b < w.heap.size ∧ w.cell? ⟨b, off + i, none⟩ = some (.int .i64 zs[i]) := by
  rcases h with h | ⟨b, off, rfl, hlt, hc⟩
  · subst h; simp at hi
  · refine ⟨b, off, rfl, hlt, ?_⟩
    rw [hc i hi]; simp [hi]

/-- One row more at place k, as an int goes round. -/
def sumStep (k : Nat) (t : Int) (row : List Int) : Int := if h : k < row.length then wrap64 (t + row[k]) else t
def sumAt (rows : List (List Int)) (k : Nat) : Int := rows.foldl (sumStep k) 0
def sumL (rows : List (List Int)) (n : Int) : List Int := if 1 ≤ n ∧ n ≤ 1000 then (List.range n.toNat).map (sumAt rows) else []
theorem sumL_len (rows : List (List Int)) (n : Int) : (sumL rows n).length ≤ 1000 := by
  unfold sumL
  split
  · simp; omega
  · simp
theorem take_snocQ {zs : List (List Int)} {k : Nat} (h : k < zs.length) : zs.take (k + 1) = zs.take k ++ [zs[k]] :=
  List.take_succ_eq_append_getElem h
theorem sumAt_step {rows : List (List Int)} {r : Nat} (h : r < rows.length) (k : Nat) : sumAt (rows.take (r + 1)) k = sumStep k (sumAt (rows.take r) k) rows[r] := by
  unfold sumAt
  rw [take_snocQ h, List.foldl_append]; rfl
theorem sumStep_in {k : Nat} {t : Int} {row : List Int} (h : k < row.length) : sumStep k t row = wrap64 (t + row[k]) := by unfold sumStep; rw [dif_pos h]
theorem sumStep_out {k : Nat} {t : Int} {row : List Int} (h : ¬ k < row.length) : sumStep k t row = t := by unfold sumStep; rw [dif_neg h]
/-- The places while row r is added: those ahead of i have it. -/
def mixL (rows : List (List Int)) (r i m : Nat) : List Int := (List.range m).map (fun j => if j < i then sumAt (rows.take (r + 1)) j else sumAt (rows.take r) j)
theorem mixL_len (rows : List (List Int)) (r i m : Nat) : (mixL rows r i m).length = m := by simp [mixL]
theorem mixL_start (rows : List (List Int)) (m : Nat) : mixL rows 0 0 m = List.replicate m 0 := by
  apply List.ext_getElem
  · simp [mixL]
  · intro i h1 h2
    simp [mixL, sumAt]
theorem mixL_get {rows : List (List Int)} {r i m : Nat} (hi : i < m) : (ints (mixL rows r i m))[i]? = some (.int .i64 (sumAt (rows.take r) i)) := by
  simp [ints, mixL, hi]
theorem mixL_set {rows : List (List Int)} {r i m : Nat} : (ints (mixL rows r i m)).set i (.int .i64 (sumAt (rows.take (r + 1)) i)) = ints (mixL rows r (i + 1) m) := by
  apply List.ext_getElem
  · simp [ints, mixL]
  · intro j h1 h2
    rw [List.getElem_set]
    simp only [ints, mixL, List.getElem_map, List.getElem_range]
    by_cases e : i = j
    · subst e; simp
    · rw [if_neg e]
      by_cases q : j < i
      · rw [if_pos q, if_pos (by omega)]
      · rw [if_neg q, if_neg (by omega)]
theorem mixL_end {rows : List (List Int)} {r i m : Nat} (h : r < rows.length) (hi : ¬ (i < rows[r].length ∧ i < m)) : mixL rows r i m = mixL rows (r + 1) 0 m := by
  apply List.ext_getElem
  · simp [mixL]
  · intro j h1 h2
    simp only [mixL, List.getElem_map, List.getElem_range, Nat.not_lt_zero, if_false]
    by_cases q : j < i
    · rw [if_pos q]
    · rw [if_neg q, sumAt_step h, sumStep_out (by simp [mixL] at h1; omega)]
theorem mixL_all {rows : List (List Int)} {r m : Nat} (h : rows.length ≤ r) : mixL rows r 0 m = (List.range m).map (sumAt rows) := by
  unfold mixL
  rw [List.take_of_length_le h]
  simp
theorem sumL_nat {rows : List (List Int)} {m : Nat} (h1 : 1 ≤ m) (h2 : m ≤ 1000) : sumL rows (m : Int) = (List.range m).map (sumAt rows) := by
  unfold sumL
  rw [if_pos (by omega)]; rfl
end Go.Proofs.Ythbilahilmmfmaa

/- Contracts of the specification's functions on terms: how many parts, how often a variable, whether two are the same, which is before. Conditions: terms of at most 549755813888 parts. -/
namespace Go.Proofs.Ythbilahilmmfmaa
set_option maxRecDepth 100000
open Go.RowKit


set_option maxHeartbeats 1600000 in
theorem specSame_any (N : Nat) : ∀ (t u : TermD) (a a' : Option Addr) (c c' hi : Nat) (w : World), partsT t ≤ N → N ≤ 549755813888 → RdK w hi a t.kids → RdK w hi a' u.kids → hi ≤ w.heap.size →
    Calls Try.prog 101 #[.agg #[.int .i64 t.f, .int .i64 t.v, .slice a t.kids.length c], .agg #[.int .i64 u.f, .int .i64 u.v, .slice a' u.kids.length c']] w fun e w' => e = .returned (.bool (sameT t u)) ∧ Below w.heap.size w w' := by
  induction N with
  | zero => intro t u a a' c c' hi w h; rw [partsT_eq] at h; omega
  | succ N ih =>
    intro t u a a' c c' hi w hN hM hr hr' hhi
    rw [partsT_eq] at hN
    have HS : Hid (sameT t u = (t.f == u.f && t.v == u.v && t.kids.length == u.kids.length && sameL t.kids u.kids)) := sameT_eq t u
    have hlen := partsL_len t.kids
    generalize t.kids = ks at *
    generalize u.kids = us at *
    have hB : ∀ o1 o2, Below w.heap.size w ((w.alloc o1).alloc o2) := fun o1 o2 => ((Below.refl _ _).alloc (Nat.le_refl _) o1).alloc (by simp) o2
    by_cases hf : t.f = u.f ∧ t.v = u.v ∧ ks.length = us.length
    · obtain ⟨h1, h2, h3⟩ := hf
      have HS2 : Hid (sameT t u = sameL ks us) := by show _ = _; rw [HS.out, h1, h2, h3]; simp
      have HR : Hid (RdK w hi a ks) := hr
      have HR' : Hid (RdK w hi a' us) := hr'
      have q1 : (t.f != u.f) = false := by simp [h1]
      have q2 : (t.v != u.v) = false := by simp [h2]
      have q3 : ((ks.length : Int) != (us.length : Int)) = false := by simp [h3]
      have H3 : Hid (ks.length = us.length) := h3
      clear hr hr' HS h1 h2 h3
      go_enter Try.func101, Try.ntmps101
      go_wp2_with fail
      go_loopw [5] (fun i wr => ∃ k : Nat, k ≤ ks.length ∧ i = .int .i64 k ∧ wr.cell? ⟨w.heap.size, 2, none⟩ = some (.slice a ks.length c) ∧ wr.cell? ⟨w.heap.size + 1, 2, none⟩ = some (.slice a' us.length c') ∧ Below w.heap.size w wr ∧ w.heap.size + 1 < wr.heap.size ∧ Hid (∀ j, (h : j < ks.length) → (h' : j < us.length) → j < k → sameT ks[j] us[j] = true)) (fun i _ => ks.length - (intOf i).toNat)
      case atStart => exact ⟨0, Nat.zero_le _, rfl, by simp [go_sem], by simp [go_sem], hB _ _, by simp, fun j _ _ h => absurd h (by omega)⟩
      case round =>
        obtain ⟨k, hk, rfl, hct, hcu, hbr, hwl, HA⟩ := hrel
        clear hB
        by_cases hk' : k < ks.length
        · have hku : k < us.length := by have := H3.out; omega
          obtain ⟨b, off, e1, c1, rfl, hlt, d0, d1, d2, hkr⟩ := RdK.kid (HR.out.on (hbr.mono hhi)) hk'
          obtain ⟨b', off', e2, c2, rfl, hlt', g0, g1, g2, hkr'⟩ := RdK.kid (HR'.out.on (hbr.mono hhi)) hku
          have hpg := partsL_get hk'
          have hki : (k : Int) < (ks.length : Int) := by omega
          have hkj : (k : Int) < (us.length : Int) := by omega
          have hwr := Nat.le_trans hhi hbr.size
          have I := fun (w' : World) (h : Below wr.heap.size wr w') => ih ks[k] us[k] e1 e2 c1 c2 hi w' (by omega) (by omega) (hkr.on (h.mono hwr)) (hkr'.on (h.mono hwr)) (Nat.le_trans hwr h.size)
          clear HR HR' hkr hkr'
          cases hsm : sameT ks[k] us[k] with
          | true =>
            rw [hsm] at I
            have HA' : Hid (∀ j, (h : j < ks.length) → (h' : j < us.length) → j < k + 1 → sameT ks[j] us[j] = true) := fun j h h' hj => by
              by_cases e : j = k
              · subst e; exact hsm
              · exact HA.out j h h' (by omega)
            clear HA hsm
            go_wp2_with fail
            go_region_held3 (fun w' => w'.cell? ⟨w.heap.size, 2, none⟩ = some (.slice (some ⟨b, off, none⟩) ks.length c) ∧ w'.cell? ⟨w.heap.size + 1, 2, none⟩ = some (.slice (some ⟨b', off', none⟩) us.length c') ∧ w'.cell? ⟨b, off + k * 3, none⟩ = some (.int .i64 ks[k].f) ∧ w'.cell? ⟨b, off + k * 3 + 1, none⟩ = some (.int .i64 ks[k].v) ∧ w'.cell? ⟨b, off + k * 3 + 2, none⟩ = some (.slice e1 ks[k].kids.length c1) ∧ w'.cell? ⟨b', off' + k * 3, none⟩ = some (.int .i64 us[k].f) ∧ w'.cell? ⟨b', off' + k * 3 + 1, none⟩ = some (.int .i64 us[k].v) ∧ w'.cell? ⟨b', off' + k * 3 + 2, none⟩ = some (.slice e2 us[k].kids.length c2)) (first | go_keep | exact ⟨keepC hbb hct, keepC hbb hcu, keepC hbb d0, keepC hbb d1, keepC hbb d2, keepC hbb g0, keepC hbb g1, keepC hbb g2⟩)
              (first | (go_at_call 101; refine (I _ ?_).mono ?_; exact (Below.refl _ _).drew; rintro e w1 ⟨rfl, hb1⟩; have hbb : Below wr.heap.size wr w1 := (Below.refl _ _).drew.trans hb1; clear hb1))
            go_wp2_with fail
            go_roundw
            case rel => exact ⟨k + 1, by omega, by go_num, keepC hbb hct, keepC hbb hcu, hbr.trans (hbb.mono hbr.size), Nat.lt_of_lt_of_le hwl hbb.size, HA'⟩
            case measure => simp [intOf]; omega
          | false =>
            rw [hsm] at I
            have HF : Hid (sameT t u = false) := by show _ = _; rw [HS2.out]; exact sameL_hit hk' hku hsm
            clear HA hsm
            go_wp2_with fail
            go_region_held3 (fun w' => w'.cell? ⟨w.heap.size, 2, none⟩ = some (.slice (some ⟨b, off, none⟩) ks.length c) ∧ w'.cell? ⟨w.heap.size + 1, 2, none⟩ = some (.slice (some ⟨b', off', none⟩) us.length c') ∧ w'.cell? ⟨b, off + k * 3, none⟩ = some (.int .i64 ks[k].f) ∧ w'.cell? ⟨b, off + k * 3 + 1, none⟩ = some (.int .i64 ks[k].v) ∧ w'.cell? ⟨b, off + k * 3 + 2, none⟩ = some (.slice e1 ks[k].kids.length c1) ∧ w'.cell? ⟨b', off' + k * 3, none⟩ = some (.int .i64 us[k].f) ∧ w'.cell? ⟨b', off' + k * 3 + 1, none⟩ = some (.int .i64 us[k].v) ∧ w'.cell? ⟨b', off' + k * 3 + 2, none⟩ = some (.slice e2 us[k].kids.length c2)) (first | go_keep | exact ⟨keepC hbb hct, keepC hbb hcu, keepC hbb d0, keepC hbb d1, keepC hbb d2, keepC hbb g0, keepC hbb g1, keepC hbb g2⟩)
              (first | (go_at_call 101; refine (I _ ?_).mono ?_; exact (Below.refl _ _).drew; rintro e w1 ⟨rfl, hb1⟩; have hbb : Below wr.heap.size wr w1 := (Below.refl _ _).drew.trans hb1; clear hb1))
            go_wp2_with fail
            go_ret
            exact ⟨rtB HF.out.symm, hbr.trans (hbb.mono hbr.size)⟩
        · have HT : Hid (sameT t u = true) := by show _ = _; rw [HS2.out]; exact sameL_all H3.out (fun j h h' => HA.out j h h' (by omega))
          go_wp2_with fail
          go_ret
          exact ⟨rtB HT.out.symm, hbr⟩
    · have HF : Hid (sameT t u = false) := by
        show _ = _
        rw [HS.out]
        by_cases h1 : t.f = u.f <;> by_cases h2 : t.v = u.v <;> by_cases h3 : ks.length = us.length <;> simp [h1, h2, h3] <;> exact absurd ⟨h1, h2, h3⟩ hf
      have hq : (t.f != u.f) = true ∨ ((t.f != u.f) = false ∧ (t.v != u.v) = true) ∨ ((t.f != u.f) = false ∧ (t.v != u.v) = false ∧ ((ks.length : Int) != (us.length : Int)) = true) := by
        by_cases h1 : t.f = u.f <;> by_cases h2 : t.v = u.v <;> simp [h1, h2]
        intro h3
        exact hf ⟨h1, h2, by omega⟩
      clear hr hr' HS hf
      rcases hq with q1 | ⟨q1, q2⟩ | ⟨q1, q2, q3⟩
      all_goals
        go_enter Try.func101, Try.ntmps101
        go_wp2_with fail
        go_ret
        exact ⟨rtB HF.out.symm, hB _ _⟩
end Go.Proofs.Ythbilahilmmfmaa

/- Contract of the specification's Before. Conditions: terms of at most 549755813888 parts. -/
namespace Go.Proofs.Ythbilahilmmfmaa
set_option maxRecDepth 100000
open Go.RowKit

set_option maxHeartbeats 1600000 in
theorem specBefore_any (N : Nat) : ∀ (t u : TermD) (a a' : Option Addr) (c c' hi : Nat) (w : World), partsT t ≤ N → N ≤ 549755813888 → RdK w hi a t.kids → RdK w hi a' u.kids → hi ≤ w.heap.size →
    Calls Try.prog 84 #[.agg #[.int .i64 t.f, .int .i64 t.v, .slice a t.kids.length c], .agg #[.int .i64 u.f, .int .i64 u.v, .slice a' u.kids.length c']] w fun e w' => e = .returned (.bool (befT t u)) ∧ Below w.heap.size w w' := by
  induction N with
  | zero => intro t u a a' c c' hi w h; rw [partsT_eq] at h; omega
  | succ N ih =>
    intro t u a a' c c' hi w hN hM hr hr' hhi
    rw [partsT_eq] at hN
    have HS : Hid (befT t u = if t.f ≠ u.f then decide (t.f < u.f) else if t.v ≠ u.v then decide (t.v < u.v) else if t.kids.length ≠ u.kids.length then decide (t.kids.length < u.kids.length) else befL t.kids u.kids) := befT_eq t u
    have hlen := partsL_len t.kids
    generalize t.kids = ks at *
    generalize u.kids = us at *
    have hB : ∀ o1 o2, Below w.heap.size w ((w.alloc o1).alloc o2) := fun o1 o2 => ((Below.refl _ _).alloc (Nat.le_refl _) o1).alloc (by simp) o2
    by_cases hf : t.f = u.f ∧ t.v = u.v ∧ ks.length = us.length
    · obtain ⟨h1, h2, h3⟩ := hf
      have HS2 : Hid (befT t u = befL ks us) := by show _ = _; rw [HS.out]; simp [h1, h2, h3]
      have HR : Hid (RdK w hi a ks) := hr
      have HR' : Hid (RdK w hi a' us) := hr'
      have q1 : (t.f != u.f) = false := by simp [h1]
      have q2 : (t.v != u.v) = false := by simp [h2]
      have q3 : ((ks.length : Int) != (us.length : Int)) = false := by simp [h3]
      have H3 : Hid (ks.length = us.length) := h3
      clear hr hr' HS h1 h2 h3
      go_enter Try.func84, Try.ntmps84
      go_wp2_with fail
      go_loopw [5] (fun i wr => ∃ k : Nat, k ≤ ks.length ∧ i = .int .i64 k ∧ wr.cell? ⟨w.heap.size, 2, none⟩ = some (.slice a ks.length c) ∧ wr.cell? ⟨w.heap.size + 1, 2, none⟩ = some (.slice a' us.length c') ∧ Below w.heap.size w wr ∧ w.heap.size + 1 < wr.heap.size ∧ Hid (∀ j, (h : j < ks.length) → (h' : j < us.length) → j < k → sameT ks[j] us[j] = true)) (fun i _ => ks.length - (intOf i).toNat)
      case atStart => exact ⟨0, Nat.zero_le _, rfl, by simp [go_sem], by simp [go_sem], hB _ _, by simp, fun j _ _ h => absurd h (by omega)⟩
      case round =>
        obtain ⟨k, hk, rfl, hct, hcu, hbr, hwl, HA⟩ := hrel
        clear hB
        by_cases hk' : k < ks.length
        · have hku : k < us.length := by have := H3.out; omega
          obtain ⟨b, off, e1, c1, rfl, hlt, d0, d1, d2, hkr⟩ := RdK.kid (HR.out.on (hbr.mono hhi)) hk'
          obtain ⟨b', off', e2, c2, rfl, hlt', g0, g1, g2, hkr'⟩ := RdK.kid (HR'.out.on (hbr.mono hhi)) hku
          have hpg := partsL_get hk'
          have hki : (k : Int) < (ks.length : Int) := by omega
          have hkj : (k : Int) < (us.length : Int) := by omega
          have hwr := Nat.le_trans hhi hbr.size
          have J := fun (w' : World) (h : Below wr.heap.size wr w') => specSame_any N ks[k] us[k] e1 e2 c1 c2 hi w' (by omega) (by omega) (hkr.on (h.mono hwr)) (hkr'.on (h.mono hwr)) (Nat.le_trans hwr h.size)
          have I := fun (w' : World) (h : Below wr.heap.size wr w') => ih ks[k] us[k] e1 e2 c1 c2 hi w' (by omega) (by omega) (hkr.on (h.mono hwr)) (hkr'.on (h.mono hwr)) (Nat.le_trans hwr h.size)
          clear HR HR' hkr hkr'
          cases hsm : sameT ks[k] us[k] with
          | true =>
            rw [hsm] at J
            have HA' : Hid (∀ j, (h : j < ks.length) → (h' : j < us.length) → j < k + 1 → sameT ks[j] us[j] = true) := fun j h h' hj => by
              by_cases e : j = k
              · subst e; exact hsm
              · exact HA.out j h h' (by omega)
            clear HA hsm
            go_wp2_with fail
            go_region_held3 (fun w' => w'.cell? ⟨w.heap.size, 2, none⟩ = some (.slice (some ⟨b, off, none⟩) ks.length c) ∧ w'.cell? ⟨w.heap.size + 1, 2, none⟩ = some (.slice (some ⟨b', off', none⟩) us.length c') ∧ w'.cell? ⟨b, off + k * 3, none⟩ = some (.int .i64 ks[k].f) ∧ w'.cell? ⟨b, off + k * 3 + 1, none⟩ = some (.int .i64 ks[k].v) ∧ w'.cell? ⟨b, off + k * 3 + 2, none⟩ = some (.slice e1 ks[k].kids.length c1) ∧ w'.cell? ⟨b', off' + k * 3, none⟩ = some (.int .i64 us[k].f) ∧ w'.cell? ⟨b', off' + k * 3 + 1, none⟩ = some (.int .i64 us[k].v) ∧ w'.cell? ⟨b', off' + k * 3 + 2, none⟩ = some (.slice e2 us[k].kids.length c2)) (first | go_keep | exact ⟨keepC hbb hct, keepC hbb hcu, keepC hbb d0, keepC hbb d1, keepC hbb d2, keepC hbb g0, keepC hbb g1, keepC hbb g2⟩)
              (first | (go_at_call 101; refine (J _ ?_).mono ?_; exact (Below.refl _ _).drew; rintro e w1 ⟨rfl, hb1⟩; have hbb : Below wr.heap.size wr w1 := (Below.refl _ _).drew.trans hb1; clear hb1))
            go_wp2_with fail
            go_roundw
            case rel => exact ⟨k + 1, by omega, by go_num, keepC hbb hct, keepC hbb hcu, hbr.trans (hbb.mono hbr.size), Nat.lt_of_lt_of_le hwl hbb.size, HA'⟩
            case measure => simp [intOf]; omega
          | false =>
            rw [hsm] at J
            have HF : Hid (befT t u = befT ks[k] us[k]) := by show _ = _; rw [HS2.out]; exact befL_hit hk' hku (fun j hj => HA.out j (by omega) (by omega) hj) hsm
            clear HA hsm
            go_wp2_with fail
            go_region_held3 (fun w' => w'.cell? ⟨w.heap.size, 2, none⟩ = some (.slice (some ⟨b, off, none⟩) ks.length c) ∧ w'.cell? ⟨w.heap.size + 1, 2, none⟩ = some (.slice (some ⟨b', off', none⟩) us.length c') ∧ w'.cell? ⟨b, off + k * 3, none⟩ = some (.int .i64 ks[k].f) ∧ w'.cell? ⟨b, off + k * 3 + 1, none⟩ = some (.int .i64 ks[k].v) ∧ w'.cell? ⟨b, off + k * 3 + 2, none⟩ = some (.slice e1 ks[k].kids.length c1) ∧ w'.cell? ⟨b', off' + k * 3, none⟩ = some (.int .i64 us[k].f) ∧ w'.cell? ⟨b', off' + k * 3 + 1, none⟩ = some (.int .i64 us[k].v) ∧ w'.cell? ⟨b', off' + k * 3 + 2, none⟩ = some (.slice e2 us[k].kids.length c2)) (first | go_keep | exact ⟨keepC hbb hct, keepC hbb hcu, keepC hbb d0, keepC hbb d1, keepC hbb d2, keepC hbb g0, keepC hbb g1, keepC hbb g2⟩)
              (first | (go_at_call 101; refine (J _ ?_).mono ?_; exact (Below.refl _ _).drew; rintro e w1 ⟨rfl, hb1⟩; have hbb : Below wr.heap.size wr w1 := (Below.refl _ _).drew.trans hb1; clear hb1))
            go_wp2_with fail
            have u0 := keepC hbb hct
            have u1 := keepC hbb hcu
            have u2 := keepC hbb d0
            have u3 := keepC hbb d1
            have u4 := keepC hbb d2
            have u5 := keepC hbb g0
            have u6 := keepC hbb g1
            have u7 := keepC hbb g2
            go_region_held3 (fun w' => w'.cell? ⟨w.heap.size, 2, none⟩ = some (.slice (some ⟨b, off, none⟩) ks.length c) ∧ w'.cell? ⟨w.heap.size + 1, 2, none⟩ = some (.slice (some ⟨b', off', none⟩) us.length c') ∧ w'.cell? ⟨b, off + k * 3, none⟩ = some (.int .i64 ks[k].f) ∧ w'.cell? ⟨b, off + k * 3 + 1, none⟩ = some (.int .i64 ks[k].v) ∧ w'.cell? ⟨b, off + k * 3 + 2, none⟩ = some (.slice e1 ks[k].kids.length c1) ∧ w'.cell? ⟨b', off' + k * 3, none⟩ = some (.int .i64 us[k].f) ∧ w'.cell? ⟨b', off' + k * 3 + 1, none⟩ = some (.int .i64 us[k].v) ∧ w'.cell? ⟨b', off' + k * 3 + 2, none⟩ = some (.slice e2 us[k].kids.length c2)) (first | go_keep | exact ⟨keepC hb2 hct, keepC hb2 hcu, keepC hb2 d0, keepC hb2 d1, keepC hb2 d2, keepC hb2 g0, keepC hb2 g1, keepC hb2 g2⟩)
              (first | (go_at_call 84; refine (I _ ?_).mono ?_; exact hbb.drew; rintro e w2 ⟨rfl, hb1⟩; have hb2 : Below wr.heap.size wr w2 := hbb.drew.trans (hb1.mono hbb.size); clear hb1))
            go_wp2_with fail
            go_ret
            exact ⟨rtB HF.out.symm, hbr.trans (hb2.mono hbr.size)⟩
        · have HT : Hid (befT t u = false) := by show _ = _; rw [HS2.out]; exact befL_all (fun j h h' => HA.out j h h' (by omega))
          go_wp2_with fail
          go_ret
          exact ⟨rtB HT.out.symm, hbr⟩
    · have hq : ((t.f != u.f) = true ∧ Hid (befT t u = decide (t.f < u.f))) ∨ ((t.f != u.f) = false ∧ (t.v != u.v) = true ∧ Hid (befT t u = decide (t.v < u.v))) ∨ ((t.f != u.f) = false ∧ (t.v != u.v) = false ∧ ((ks.length : Int) != (us.length : Int)) = true ∧ Hid (befT t u = decide (ks.length < us.length))) := by
        by_cases h1 : t.f = u.f
        · by_cases h2 : t.v = u.v
          · have h3 : ¬ ks.length = us.length := fun h => hf ⟨h1, h2, h⟩
            refine .inr (.inr ⟨by simp [h1], by simp [h2], by simp; omega, ?_⟩)
            show _ = _
            rw [HS.out]
            simp [h1, h2, h3]
          · refine .inr (.inl ⟨by simp [h1], by simpa using h2, ?_⟩)
            show _ = _
            rw [HS.out]
            simp [h1, h2]
        · refine .inl ⟨by simpa using h1, ?_⟩
          show _ = _
          rw [HS.out]
          simp [h1]
      clear hr hr' HS hf
      rcases hq with ⟨q1, HF⟩ | ⟨q1, q2, HF⟩ | ⟨q1, q2, q3, HF⟩
      all_goals
        go_enter Try.func84, Try.ntmps84
        go_wp2_with fail
        go_ret
        exact ⟨rtB HF.out.symm, hB _ _⟩
end Go.Proofs.Ythbilahilmmfmaa

/- Lists of functions (name, how many arguments, blind or not): what is right, and how they lie in memory. Conditions: none. -/
namespace Go.Proofs.Ythbilahilmmfmaa
set_option maxRecDepth 100000
open Go.RowKit


/-- A function as data. -/
structure SymD where
  name : ByteArray
  ar : Int
  ac : Bool

instance : Inhabited SymD := ⟨⟨ByteArray.empty, 0, false⟩⟩

/-- The slice of functions that begins at 'a' reads in w as ss. -/
def RdS (w : World) (a : Option Addr) (ss : List SymD) : Prop :=
  ss = [] ∨ ∃ b off, a = some ⟨b, off, none⟩ ∧ b < w.heap.size ∧ ∀ i, (h : i < ss.length) →
    w.cell? ⟨b, off + i * 3, none⟩ = some (.string ss[i].name) ∧ w.cell? ⟨b, off + i * 3 + 1, none⟩ = some (.int .i64 ss[i].ar) ∧ w.cell? ⟨b, off + i * 3 + 2, none⟩ = some (.bool ss[i].ac)

theorem RdS.below {w w' : World} {a : Option Addr} {ss : List SymD} (h : RdS w a ss) (hb : Below w.heap.size w w') : RdS w' a ss := by
  rcases h with h | ⟨b, off, rfl, hlt, hc⟩
  · exact .inl h
  · refine .inr ⟨b, off, rfl, Nat.lt_of_lt_of_le hlt hb.size, fun i hi => ?_⟩
    obtain ⟨h0, h1, h2⟩ := hc i hi
    exact ⟨(hb.cell (p := ⟨b, off + i * 3, none⟩) hlt).trans h0, (hb.cell (p := ⟨b, off + i * 3 + 1, none⟩) hlt).trans h1, (hb.cell (p := ⟨b, off + i * 3 + 2, none⟩) hlt).trans h2⟩

theorem ret_int {a b : Int} (h : a = b) : Ending.returned (.int .i64 a) = .returned (.int .i64 b) := by rw [h]

theorem ret_bool {a b : Bool} (h : a = b) : Ending.returned (.bool a) = .returned (.bool b) := by rw [h]

/-- Where the first function of that name stands; -1. -/
def symOf (ss : List SymD) (n : ByteArray) : Int := match ss.findIdx? (fun s => s.name.toList == n.toList) with
  | some i => i
  | none => -1

theorem symOf_hit {ss : List SymD} {n : ByteArray} {k : Nat} (hk : k < ss.length) (h0 : ∀ j, (h : j < ss.length) → j < k → (ss[j].name.toList == n.toList) = false) (h : (ss[k].name.toList == n.toList) = true) : symOf ss n = k := by
  have : ss.findIdx? (fun s => s.name.toList == n.toList) = some k := by
    rw [List.findIdx?_eq_some_iff_getElem]
    exact ⟨hk, h, fun j hj => by simp [h0 j (by omega) hj]⟩
  simp [symOf, this]

theorem symOf_none {ss : List SymD} {n : ByteArray} (h0 : ∀ j, (h : j < ss.length) → (ss[j].name.toList == n.toList) = false) : symOf ss n = -1 := by
  have : ss.findIdx? (fun s => s.name.toList == n.toList) = none := by
    rw [List.findIdx?_eq_none_iff]
    intro s hs
    obtain ⟨j, hj, rfl⟩ := List.getElem_of_mem hs
    exact h0 j hj
  simp [symOf, this]

/-- A function as a value. -/
def symV (s : SymD) : Value := .agg #[.string s.name, .int .i64 s.ar, .bool s.ac]

def symC (s : SymD) : List Value := [.string s.name, .int .i64 s.ar, .bool s.ac]

def symCs (ss : List SymD) : List Value := ss.flatMap symC

theorem symCs_len (ss : List SymD) : (symCs ss).length = ss.length * 3 := by
  induction ss with
  | nil => rfl
  | cons s ss ih => simp only [symCs, List.flatMap_cons, List.length_append] at *; rw [ih]; simp [symC]; omega

def zeroSym : SymD := ⟨⟨#[]⟩, 0, false⟩

theorem set3 (s : SymD) : ∀ (l : List SymD) (k : Nat), k < l.length → (((symCs l).set (k * 3) (.string s.name)).set (k * 3 + 1) (.int .i64 s.ar)).set (k * 3 + 2) (.bool s.ac) = symCs (l.set k s)
  | [], k, h => by simp at h
  | x :: l, 0, _ => by simp [symCs, symC]
  | x :: l, k + 1, h => by
    have ih := set3 s l k (by simpa using h)
    have e : ∀ (m : Nat) (L : List Value) (v : Value), (symC x ++ L).set (m + 3) v = symC x ++ L.set m v := by
      intro m L v
      simp [symC]
    have e0 : (k + 1) * 3 = k * 3 + 3 := by omega
    rw [List.set_cons_succ]
    simp only [symCs, List.flatMap_cons] at *
    rw [e0, e, show k * 3 + 3 + 1 = (k * 3 + 1) + 3 by omega, e, show k * 3 + 3 + 2 = (k * 3 + 2) + 3 by omega, e, ih]

theorem get3 : ∀ (l : List SymD) (k : Nat), (h : k < l.length) → (symCs l)[k * 3]? = some (.string l[k].name) ∧ (symCs l)[k * 3 + 1]? = some (.int .i64 l[k].ar) ∧ (symCs l)[k * 3 + 2]? = some (.bool l[k].ac)
  | [], k, h => by simp at h
  | x :: l, 0, _ => by simp [symCs, symC]
  | x :: l, k + 1, h => by
    have ih := get3 l k (by simpa using h)
    have e : ∀ (m : Nat) (L : List Value), (symC x ++ L)[m + 3]? = L[m]? := by
      intro m L
      rw [List.getElem?_append_right (by simp [symC])]
      simp [symC]
    have e0 : (k + 1) * 3 = k * 3 + 3 := by omega
    simp only [symCs, List.flatMap_cons, List.getElem_cons_succ] at *
    rw [e0, e, show k * 3 + 3 + 1 = (k * 3 + 1) + 3 by omega, e, show k * 3 + 3 + 2 = (k * 3 + 2) + 3 by omega, e]
    exact ih

theorem made3 : ∀ (n : Nat), (madeCells #[.string ⟨#[]⟩, .int .i64 0, .bool false] (n * 3)).toList = symCs (List.replicate n zeroSym)
  | 0 => by simp [madeCells, symCs]
  | n + 1 => by
    have ih := made3 n
    rw [List.replicate_succ', symCs, List.flatMap_append]
    rw [symCs] at ih
    rw [← ih]
    have e0 : (n + 1) * 3 = n * 3 + 1 + 1 + 1 := by omega
    rw [e0]
    simp only [madeCells, Array.toList_map, Array.toList_range, List.range_succ, List.map_append, List.map_cons, List.map_nil, List.append_assoc]
    have m0 : n * 3 % 3 = 0 := by omega
    have m1 : (n * 3 + 1) % 3 = 1 := by omega
    have m2 : (n * 3 + 1 + 1) % 3 = 2 := by omega
    simp [m0, m1, m2, symC, zeroSym]

theorem step3 {ss : List SymD} {k : Nat} (h : k < ss.length) : (ss.take k ++ List.replicate (ss.length - k) zeroSym).set k ss[k] = ss.take (k + 1) ++ List.replicate (ss.length - (k + 1)) zeroSym := by
  have l : (ss.take k).length = k := by rw [List.length_take]; omega
  have e : ss.length - k = (ss.length - (k + 1)) + 1 := by omega
  rw [List.set_append, if_neg (by omega), l, Nat.sub_self, e, List.replicate_succ, List.set_cons_zero, List.take_succ_eq_append_getElem h, List.append_assoc]
  rfl

theorem len3 {ss : List SymD} {k : Nat} (h : k ≤ ss.length) : ss.length = (ss.take k ++ List.replicate (ss.length - k) zeroSym).length := by simp; omega

theorem lt3 {ss : List SymD} {k : Nat} (h : k < ss.length) : k < (ss.take k ++ List.replicate (ss.length - k) zeroSym).length := by rw [← len3 (by omega)]; exact h

theorem own_belowS {w w' : World} {base : Nat} {e : TypeId} {size : Nat} {v : Value} {n : Nat} {xs : List Value} (h : w.ownsRow base e size v n xs) (hb : Below w.heap.size w w') : w'.ownsRow base e size v n xs := by
  have hl := h.lt
  obtain ⟨h1, h2⟩ := h
  refine ⟨h1, ?_⟩
  rcases h2 with h2 | ⟨g, cap, cur, rfl, hg, hh, r⟩
  · exact .inl h2
  · exact .inr ⟨g, cap, cur, rfl, hg, by rw [hb.block g (hl g rfl).2]; exact hh, r⟩

/-- Three stores that lay one function into an owned row. -/
theorem store3 {w : World} {T : TypeId} {B g c n : Nat} {l : List SymD} (s : SymD) {k : Nat} (hk : k < l.length) (h : w.ownsRow B T 3 (.slice (some ⟨g, 0, none⟩) n c) n (symCs l)) :
    (((w.setCell ⟨g, k * 3, none⟩ (.string s.name)).setCell ⟨g, k * 3 + 1, none⟩ (.int .i64 s.ar)).setCell ⟨g, k * 3 + 2, none⟩ (.bool s.ac)).ownsRow B T 3 (.slice (some ⟨g, 0, none⟩) n c) n (symCs (l.set k s)) := by
  have h1 := (((h.stored (k * 3) (.string s.name)).1.stored (k * 3 + 1) (.int .i64 s.ar)).1.stored (k * 3 + 2) (.bool s.ac)).1
  rwa [set3 s l k hk] at h1

theorem cells3 {w : World} {T : TypeId} {B g c n : Nat} {l : List SymD} {k : Nat} (hn : n = l.length) (hk : k < l.length) (h : w.ownsRow B T 3 (.slice (some ⟨g, 0, none⟩) n c) n (symCs l)) :
    w.cell? ⟨g, k * 3, none⟩ = some (.string l[k].name) ∧ w.cell? ⟨g, k * 3 + 1, none⟩ = some (.int .i64 l[k].ar) ∧ w.cell? ⟨g, k * 3 + 2, none⟩ = some (.bool l[k].ac) := by
  obtain ⟨g0, g1, g2⟩ := get3 l k hk
  exact ⟨(h.cellAt _ (by omega)).trans g0, (h.cellAt _ (by omega)).trans g1, (h.cellAt _ (by omega)).trans g2⟩

theorem RdS.own {w : World} {T : TypeId} {base g cap : Nat} {ss : List SymD} {n : Nat} (hn : n = ss.length) (h : w.ownsRow base T 3 (.slice (some ⟨g, 0, none⟩) n cap) n (symCs ss)) : RdS w (some ⟨g, 0, none⟩) ss := by
  refine .inr ⟨g, 0, rfl, (h.lt g rfl).2, fun i hi => ?_⟩
  have := cells3 hn hi h
  simpa using this


/-- How many bytes the names of the first functions take. -/
def bytesOf (ss : List SymD) : Nat := (ss.map fun s => s.name.size).sum

theorem bytesOf_next {ss : List SymD} {k : Nat} (h : k < ss.length) : bytesOf (ss.take (k + 1)) = bytesOf (ss.take k) + ss[k].name.size := by
  rw [List.take_succ_eq_append_getElem h, bytesOf, bytesOf, List.map_append, List.sum_append]
  simp only [List.map_cons, List.map_nil, List.sum_cons, List.sum_nil, Nat.add_zero]

/-- Whether two functions are alike. -/
def symEq (s t : SymD) : Bool := (s.name.toList == t.name.toList) && (s.ar == t.ar) && (s.ac == t.ac)

/-- Whether two lists of functions are alike. -/
def symsEq : List SymD → List SymD → Bool
  | [], [] => true
  | s :: ss, t :: ts => symEq s t && symsEq ss ts
  | _, _ => false

theorem symEq_self (s : SymD) : symEq s s = true := by simp [symEq]


/-- Whether byte c may stand at place i of a name. -/
def chOk (i : Nat) (c : UInt8) : Bool := (decide (97 ≤ c.toNat) && decide (c.toNat ≤ 122)) || (decide (0 < i) && decide (48 ≤ c.toNat) && decide (c.toNat ≤ 57))

/-- Whether the first k bytes may stand in a name. -/
def chsOk (s : ByteArray) : Nat → Bool
  | 0 => true
  | k + 1 => chsOk s k && (if h : k < s.size then chOk k s[k] else true)

def nameOk (s : ByteArray) : Bool := chsOk s s.size && decide (1 ≤ s.size) && decide (s.size ≤ 8)

theorem chs_bad (s : ByteArray) {k : Nat} (h : k < s.size) (hb : chOk k s[k] = false) : nameOk s = false := by
  have : ∀ n, k < n → chsOk s n = false := by
    intro n
    induction n with
    | zero => intro h; omega
    | succ n ih =>
      intro hn
      rw [chsOk]
      by_cases e : k = n
      · subst e; rw [dif_pos h, hb]; simp
      · rw [ih (by omega)]; simp
  rw [nameOk, this s.size h]; rfl

theorem name_pos {s : ByteArray} (h : chsOk s s.size = true) (h1 : (1 : Int) ≤ (s.size : Int)) : nameOk s = decide ((s.size : Int) ≤ 8) := by
  rw [nameOk, h, decide_eq_true (show 1 ≤ s.size by omega)]
  simp only [Bool.true_and]
  exact decide_eq_decide.2 (by omega)

theorem name_neg {s : ByteArray} (h1 : ¬ (1 : Int) ≤ (s.size : Int)) : nameOk s = false := by
  rw [nameOk, decide_eq_false (show ¬ 1 ≤ s.size by omega)]; simp

/-- Whether the function of that number is blind; how many arguments it has. -/
def blindAt (ss : List SymD) (f : Int) : Bool := if 0 ≤ f then (ss[f.toNat]?.map SymD.ac).getD false else false

def arityAt (ss : List SymD) (f : Int) : Int := if 0 ≤ f then (ss[f.toNat]?.map SymD.ar).getD (-1) else -1

theorem blindAt_in {ss : List SymD} {k : Nat} (h : k < ss.length) : blindAt ss k = ss[k].ac := by simp [blindAt, h]

theorem arityAt_in {ss : List SymD} {k : Nat} (h : k < ss.length) : arityAt ss k = ss[k].ar := by simp [arityAt, h]

theorem at_out {ss : List SymD} {f : Int} (h : f < 0 ∨ (ss.length : Int) - 1 < f) : blindAt ss f = false ∧ arityAt ss f = -1 := by
  unfold blindAt arityAt
  by_cases h0 : 0 ≤ f
  · have : ss[f.toNat]? = none := by rw [List.getElem?_eq_none_iff]; omega
    simp [this]
  · simp [h0]


/-- Whether function k of the list is right. -/
def goodAt (ss : List SymD) (k : Nat) (s : SymD) : Bool := nameOk s.name && (symOf ss s.name == (k : Int)) && (decide (0 ≤ s.ar) && decide (s.ar ≤ 3)) && (!s.ac || s.ar == 2)

def goodTo (ss : List SymD) : Nat → Bool
  | 0 => true
  | k + 1 => goodTo ss k && (if h : k < ss.length then goodAt ss k ss[k] else true)

def isTT (s : SymD) : Bool := (s.name.toList == [116, 116]) && (s.ar == 0) && !s.ac

def sigOk (ss : List SymD) : Bool := goodTo ss ss.length && (decide (1 ≤ ss.length) && decide (ss.length ≤ 8)) && (ss.head?.map isTT).getD false

theorem sig_bad {ss : List SymD} {k : Nat} (h : k < ss.length) (hb : goodAt ss k ss[k] = false) : sigOk ss = false := by
  have : ∀ n, k < n → goodTo ss n = false := by
    intro n
    induction n with
    | zero => intro h; omega
    | succ n ih =>
      intro hn
      rw [goodTo]
      by_cases e : k = n
      · subst e; rw [dif_pos h, hb]; simp
      · rw [ih (by omega)]; simp
  rw [sigOk, this ss.length h]; rfl

theorem good_next {ss : List SymD} {k : Nat} (h : k < ss.length) (h0 : goodTo ss k = true) (hg : goodAt ss k ss[k] = true) : goodTo ss (k + 1) = true := by
  rw [goodTo, h0, dif_pos h, hg]; rfl

theorem sig_end {ss : List SymD} (h : goodTo ss ss.length = true) (h1 : 0 < ss.length) (h8 : ss.length ≤ 8) : sigOk ss = isTT ss[0] := by
  rw [sigOk, h, decide_eq_true (show 1 ≤ ss.length by omega), decide_eq_true h8]
  cases ss with
  | nil => simp at h1
  | cons s ss => simp
end Go.Proofs.Ythbilahilmmfmaa

/- Whether a function is blind, as the specification tells it. Conditions: at most 1048577 functions. -/
namespace Go.Proofs.Ythbilahilmmfmaa
set_option maxRecDepth 100000
open Go.RowKit

set_option maxHeartbeats 800000 in
theorem specBlind_any (a : Option Addr) (ss : List SymD) (n cap : Nat) (f : Int) (w : World) (hn : n = ss.length) (hr : RdS w a ss) (hl : ss.length ≤ 1048577) (hf0 : -9223372036854775808 ≤ f) (hf1 : f ≤ 9223372036854775807) :
    Calls Try.prog 62 #[.slice a n cap, .int .i64 f] w fun e w' => e = .returned (.bool (blindAt ss f)) ∧ w' = w := by
  subst hn
  by_cases h0 : 0 ≤ f
  · by_cases h1 : f ≤ (ss.length : Int) - 1
    · obtain ⟨k, rfl⟩ := Int.eq_ofNat_of_zero_le h0
      have hk : k < ss.length := by omega
      rcases hr with rfl | ⟨b, off, rfl, hlt, hc⟩
      · simp at hk
      · obtain ⟨c0, c1, c2⟩ := hc k hk
        have hk2 : (k : Int) < (ss.length : Int) := by omega
        clear hc
        go_enter Try.func62, Try.ntmps62
        go_wp2_with go_in
        go_ret
        exact ⟨ret_bool (blindAt_in hk).symm, rfl⟩
    · have HN : Hid (blindAt ss f = false ∧ arityAt ss f = -1) := at_out (.inr (by omega))
      go_enter Try.func62, Try.ntmps62
      go_wp2_with go_in
      go_ret
      exact ⟨ret_bool HN.out.1.symm, rfl⟩
  · have HN : Hid (blindAt ss f = false ∧ arityAt ss f = -1) := at_out (.inl (by omega))
    go_enter Try.func62, Try.ntmps62
    go_wp2_with go_in
    go_ret
    exact ⟨ret_bool HN.out.1.symm, rfl⟩

end Go.Proofs.Ythbilahilmmfmaa

/- Contracts of the specification's functions on lists of functions. Conditions: at most 1048577 functions, names of at most 1048576 bytes. -/
namespace Go.Proofs.Ythbilahilmmfmaa
set_option maxRecDepth 100000
open Go.RowKit

end Go.Proofs.Ythbilahilmmfmaa

