/- What the proof of FnOneForm stands on, part 6 of 11: each piece says what it proves and under which conditions. Conditions: as each piece says. -/
import Derived.Test.YtollijngiioonaaPackOneForm5
import Derived.Test.YtollijngiioonaaProg
import Derived.Lib.SlicesCompact
import Derived.Shelf.Small.Bits
import Derived.Shelf.Small.Wraps
import Derived.Shelf.Strconv.Itoa0
import Derived.Ground.GgsProg
import Derived.Shelf.GgSortFunc.Tiny
import Derived.Shelf.SlSortFunc.Xorshift
import Derived.Sort.OwnSortedInts
import Derived.Lib.OwnBridge
import Derived.Lib.RowBridge
import Derived.Tactics
import Derived.WalkKit
import Derived.Deep.RegionLaw
import Derived.Deep.RegionHeld3
/- The variables of a term, and the contract of the specification's VarsOf. Conditions: terms of at most 1048576 parts. -/
namespace Go.Proofs.Ytollijngiioonaa
set_option maxRecDepth 100000
open Go.RowKit

mutual
/-- The variables of a term, put into a list. -/
def varsT : TermD → List Int → List Int
  | .mk f v ks, out => varsL ks (if f = -1 then ins out v else out)
def varsL : List TermD → List Int → List Int
  | [], out => out
  | t :: ts, out => varsL ts (varsT t out)
end

theorem varsT_eq (t : TermD) (out : List Int) : varsT t out = varsL t.kids (if t.f = -1 then ins out t.v else out) := by cases t; rw [varsT]; rfl
theorem varsL_append (a b : List TermD) (out : List Int) : varsL (a ++ b) out = varsL b (varsL a out) := by
  induction a generalizing out with
  | nil => simp [varsL]
  | cons t ts ih => simp only [List.cons_append, varsL, ih]
theorem varsL_next {ts : List TermD} {k : Nat} (h : k < ts.length) (out : List Int) : varsL (ts.take (k + 1)) out = varsT ts[k] (varsL (ts.take k) out) := by
  rw [List.take_succ_eq_append_getElem h, varsL_append]
  simp [varsL]
mutual
theorem varsT_len : ∀ (t : TermD) (out : List Int), (varsT t out).length ≤ out.length + partsT t
  | .mk f v ks, out => by
    have h1 := varsL_len ks (if f = -1 then ins out v else out)
    have h2 := ins_len out v
    rw [varsT, partsT]
    split at h1 <;> simp_all <;> omega
theorem varsL_len : ∀ (ts : List TermD) (out : List Int), (varsL ts out).length ≤ out.length + partsL ts
  | [], out => by simp [varsL, partsL]
  | t :: ts, out => by
    have h1 := varsT_len t out
    have h2 := varsL_len ts (varsT t out)
    rw [varsL, partsL]; omega
end

theorem own_lower {w : World} {base base' : Nat} {e : TypeId} {size : Nat} {v : Value} {n : Nat} {xs : List Value} (h : w.ownsRow base e size v n xs) (hb : base' ≤ base) : w.ownsRow base' e size v n xs := by
  obtain ⟨h1, h2⟩ := h
  refine ⟨h1, ?_⟩
  rcases h2 with h2 | ⟨g, cap, cur, rfl, hg1, r⟩
  · exact .inl h2
  · exact .inr ⟨g, cap, cur, rfl, Nat.le_trans hb hg1, r⟩

theorem own_cells {w : World} {base g c : Nat} {zs : List Int} {n : Nat} (hn : n = zs.length) (h : w.ownsRow base 3 1 (.slice (some ⟨g, 0, none⟩) n c) n (ints zs)) :
    g < w.heap.size ∧ ∀ i, i < zs.length → w.cell? ⟨g, 0 + i, none⟩ = some (.int .i64 (zs[i]?.getD 0)) := by
  subst hn
  refine ⟨(h.lt g rfl).2, fun i hi => ?_⟩
  rw [show (0 + i) = i by omega, h.cellAt i (by omega)]
  simp [ints, hi]

/-- The row of the numbers met so far. -/
def OutRow (w : World) (B g c : Nat) (zs : List Int) : Prop := w.ownsRow B 3 1 (.slice (some ⟨g, 0, none⟩) zs.length c) zs.length (ints zs)

end Go.Proofs.Ytollijngiioonaa

/- The variables of a term: put in one by one they are those that stand in it, in order, each once. Conditions: none. -/
namespace Go.Proofs.Ytollijngiioonaa
set_option maxRecDepth 100000
open Go.RowKit

/-- The numbers of the variables among terms. -/
def vl (l : List TermD) : List Int := (l.filter fun x => x.f == -1).map TermD.v
theorem vl_append (a b : List TermD) : vl (a ++ b) = vl a ++ vl b := by simp [vl]
theorem vl_len (l : List TermD) : (vl l).length ≤ l.length := by simp only [vl, List.length_map]; exact List.length_filter_le _ _
mutual
theorem vl_pre : ∀ (t : TermD) (out : List Int), varsT t out = (vl (preT t)).foldl ins out
  | .mk f v ks, out => by
    have h := vl_preL ks
    rw [varsT, preT, h, show TermD.mk f v ks :: preL ks = [TermD.mk f v ks] ++ preL ks from rfl, vl_append, List.foldl_append]
    congr 1
    by_cases e : f = -1 <;> simp [vl, TermD.f, TermD.v, e]
theorem vl_preL : ∀ (ts : List TermD) (out : List Int), varsL ts out = (vl (preL ts)).foldl ins out
  | [], out => by simp [varsL, preL, vl]
  | t :: ts, out => by
    rw [varsL, preL, vl_append, List.foldl_append, vl_pre t, vl_preL ts]
end

theorem ss_ext : ∀ {a b : List Int}, a.Pairwise (· < ·) → b.Pairwise (· < ·) → (∀ x, x ∈ a ↔ x ∈ b) → a = b
  | [], [], _, _, _ => rfl
  | [], y :: b, _, _, h => by have := (h y).2 (by simp); simp at this
  | x :: a, [], _, _, h => by have := (h x).1 (by simp); simp at this
  | x :: a, y :: b, ha, hb, h => by
    rw [List.pairwise_cons] at ha hb
    have e : x = y := by
      have h1 := (h x).1 (by simp)
      have h2 := (h y).2 (by simp)
      rcases List.mem_cons.1 h1 with h1 | h1
      · exact h1
      · rcases List.mem_cons.1 h2 with h2 | h2
        · exact h2.symm
        · have := hb.1 x h1; have := ha.1 y h2; omega
    subst e
    congr 1
    refine ss_ext ha.2 hb.2 (fun z => ⟨fun hz => ?_, fun hz => ?_⟩)
    · rcases List.mem_cons.1 ((h z).1 (by simp [hz])) with e | e
      · have := ha.1 z hz; omega
      · exact e
    · rcases List.mem_cons.1 ((h z).2 (by simp [hz])) with e | e
      · have := hb.1 z hz; omega
      · exact e

theorem drop_ge (x : Int) : ∀ {zs : List Int}, zs.Pairwise (· < ·) → ∀ z ∈ zs.dropWhile (fun y => decide (y < x)), ¬ z < x
  | [], _, z, h => by simp at h
  | y :: zs, hp, z, h => by
    rw [List.pairwise_cons] at hp
    by_cases e : y < x
    · simp only [List.dropWhile_cons, e, decide_true, if_true] at h
      exact drop_ge x hp.2 z h
    · simp only [List.dropWhile_cons, e, decide_false] at h
      rcases List.mem_cons.1 h with h | h
      · omega
      · have := hp.1 z h; omega
theorem take_lt (x : Int) : ∀ {zs : List Int}, ∀ z ∈ zs.takeWhile (fun y => decide (y < x)), z < x
  | [], z, h => by simp at h
  | y :: zs, z, h => by
    by_cases e : y < x
    · simp only [List.takeWhile_cons, e, decide_true, if_true] at h
      rcases List.mem_cons.1 h with h | h
      · omega
      · exact take_lt x z h
    · simp only [List.takeWhile_cons, e, decide_false] at h
      simp at h
theorem hasB_iff (zs : List Int) (x : Int) : hasB zs x = true ↔ x ∈ zs := by
  simp only [hasB, List.any_eq_true]
  constructor
  · rintro ⟨y, hy, e⟩; have : y = x := by simpa using e
    subst this; exact hy
  · intro h; exact ⟨x, h, by simp⟩
theorem ins_mem (zs : List Int) (x y : Int) : y ∈ ins zs x ↔ y = x ∨ y ∈ zs := by
  unfold ins
  split
  · rename_i h
    rw [hasB_iff] at h
    exact ⟨.inr, fun e => e.elim (fun e => e ▸ h) id⟩
  · rw [List.mem_append, List.mem_cons]
    conv => rhs; rw [← List.takeWhile_append_dropWhile (p := fun y => decide (y < x)) (l := zs), List.mem_append]
    exact ⟨fun h => h.elim (fun h => .inr (.inl h)) (fun h => h.elim .inl (fun h => .inr (.inr h))), fun h => h.elim (fun h => .inr (.inl h)) (fun h => h.elim .inl (fun h => .inr (.inr h)))⟩
theorem ins_ss {zs : List Int} (h : zs.Pairwise (· < ·)) (x : Int) : (ins zs x).Pairwise (· < ·) := by
  unfold ins
  split
  · exact h
  · rename_i hx
    rw [hasB_iff] at hx
    have hd : ∀ z ∈ zs.dropWhile (fun y => decide (y < x)), x < z := fun z hz => by
      have h1 := drop_ge x h z hz
      have h2 : z ≠ x := fun e => hx (e ▸ (List.dropWhile_sublist _).subset hz)
      omega
    rw [List.pairwise_append]
    refine ⟨h.sublist (List.takeWhile_sublist _), List.pairwise_cons.2 ⟨hd, h.sublist (List.dropWhile_sublist _)⟩, fun a ha b hb => ?_⟩
    have h1 := take_lt x a ha
    rcases List.mem_cons.1 hb with e | e
    · omega
    · have := hd b e; omega
theorem fold_ss : ∀ (l out : List Int), out.Pairwise (· < ·) → (l.foldl ins out).Pairwise (· < ·) ∧ ∀ y, y ∈ l.foldl ins out ↔ y ∈ l ∨ y ∈ out
  | [], out, h => by simp [h]
  | x :: l, out, h => by
    obtain ⟨h1, h2⟩ := fold_ss l (ins out x) (ins_ss h x)
    refine ⟨h1, fun y => ?_⟩
    rw [List.foldl_cons, h2, ins_mem, List.mem_cons]
    constructor
    · rintro (h | h | h)
      · exact .inl (.inr h)
      · exact .inl (.inl h)
      · exact .inr h
    · rintro ((h | h) | h)
      · exact .inr (.inl h)
      · exact .inl h
      · exact .inr (.inr h)

theorem comp_upto (d : Array Int) (hd : ∀ i j, i ≤ j → j < d.size → d[i]! ≤ d[j]!) : ∀ m, m ≤ d.size →
    (Lib.compactUpTo d m).Pairwise (· < ·) ∧ (∀ y, y ∈ Lib.compactUpTo d m ↔ ∃ j, j < m ∧ d[j]! = y)
  | 0, _ => by simp [Lib.compactUpTo]
  | m + 1, h => by
    obtain ⟨h1, h2⟩ := comp_upto d hd m (by omega)
    rw [Lib.compactUpTo_succ]
    by_cases e : m = 0
    · subst e
      have hk := Lib.keeps_lt_one d 0 (by omega)
      simp only [hk, if_true]
      have e0 : Lib.compactUpTo d 0 = [] := by simp [Lib.compactUpTo]
      rw [e0]
      refine ⟨by simp, fun y => ?_⟩
      simp only [List.nil_append, List.mem_singleton]
      constructor
      · intro h; exact ⟨0, by omega, h.symm⟩
      · rintro ⟨j, hj, rfl⟩; rw [show j = 0 by omega]
    · by_cases ed : d[m]! = d[m - 1]!
      · rw [Lib.keeps_neg (by omega) ed]
        simp only [Bool.false_eq_true, if_false, List.append_nil]
        refine ⟨h1, fun y => (h2 y).trans ⟨fun ⟨j, hj, e⟩ => ⟨j, by omega, e⟩, fun ⟨j, hj, e'⟩ => ?_⟩⟩
        by_cases ej : j = m
        · subst ej; exact ⟨j - 1, by omega, ed ▸ e'⟩
        · exact ⟨j, by omega, e'⟩
      · rw [Lib.keeps_pos ed]
        simp only [if_true]
        refine ⟨?_, fun y => ?_⟩
        · rw [List.pairwise_append]
          refine ⟨h1, by simp, fun a ha b hb => ?_⟩
          obtain ⟨j, hj, rfl⟩ := (h2 a).1 ha
          have eb : b = d[m]! := by simpa using hb
          subst eb
          have q1 := hd j (m - 1) (by omega) (by omega)
          have q2 := hd (m - 1) m (by omega) (by omega)
          omega
        · rw [List.mem_append, h2, List.mem_singleton]
          constructor
          · rintro (⟨j, hj, e'⟩ | e')
            · exact ⟨j, by omega, e'⟩
            · exact ⟨m, by omega, e'.symm⟩
          · rintro ⟨j, hj, e'⟩
            by_cases ej : j = m
            · subst ej; exact .inr e'.symm
            · exact .inl ⟨j, by omega, e'⟩

/-- Sorted and each once: as put in one by one. -/
theorem comp_fold (l : List Int) : Lib.compact (l.mergeSort fun x y => decide (x ≤ y)) = l.foldl ins [] := by
  have hs : (l.mergeSort fun x y => decide (x ≤ y)).Pairwise (fun a b => decide (a ≤ b) = true) := List.pairwise_mergeSort (fun a b c h1 h2 => by simp at *; omega) (fun a b => by simp; omega) l
  have hm : ∀ y, y ∈ (l.mergeSort fun x y => decide (x ≤ y)) ↔ y ∈ l := fun y => List.mem_mergeSort
  generalize l.mergeSort (fun x y => decide (x ≤ y)) = s at *
  have hd : ∀ i j, i ≤ j → j < s.toArray.size → s.toArray[i]! ≤ s.toArray[j]! := by
    intro i j hij hj
    simp only [List.size_toArray] at hj
    have hi : i < s.length := by omega
    have e1 : s.toArray[i]! = s[i] := by simp [hi]
    have e2 : s.toArray[j]! = s[j] := by simp [hj]
    rw [e1, e2]
    by_cases e : i = j
    · subst e; exact Int.le_refl _
    · have := List.pairwise_iff_getElem.1 hs i j hi hj (by omega)
      simpa using this
  obtain ⟨h1, h2⟩ := comp_upto s.toArray hd s.length (by simp)
  obtain ⟨h3, h4⟩ := fold_ss l [] (by simp)
  refine ss_ext h1 h3 (fun y => ?_)
  have e0 : y ∈ Lib.compact s ↔ ∃ j, j < s.length ∧ s.toArray[j]! = y := h2 y
  refine (h2 y).trans ?_
  rw [h4, ← hm]
  simp only [List.not_mem_nil, or_false]
  constructor
  · rintro ⟨j, hj, rfl⟩; simp [hj]
  · intro h
    obtain ⟨j, hj, e⟩ := List.getElem_of_mem h
    exact ⟨j, hj, by simp [hj, e]⟩

theorem vars_comp (t : TermD) : Lib.compact ((vl (preT t)).mergeSort fun x y => decide (x ≤ y)) = varsT t [] := by rw [comp_fold, vl_pre]
end Go.Proofs.Ytollijngiioonaa

/- The library's contracts for slices.Sort, slices.Compact, sort.Slice and what they call, laid at this program by the kit's own tool, in plain words. Conditions: as each says. -/
namespace Go.Proofs
open Go.Shelf
def Try.lays128_ren : Go.Shelf.Ren := ⟨fun | 128 => 107 | n => n, fun | 51 => 146 | 3 => 3 | 4 => 4 | 46 => 125 | 5 => 5 | 9 => 9 | n => n, fun | n => n⟩
theorem Try.lays128 : Go.Proofs.Lays.n128 Try.prog Try.lays128_ren := {
  mixed := by kernel_rfl
  f128 := Try.func107.trans (congrArg some (by kernel_rfl))
  t3 := Try.underlying3
  a3 := Try.isAgg3
  z3 := Try.sizeOf3
  v3 := Try.zeroValue3
  t4 := Try.underlying4
  a4 := Try.isAgg4
  z4 := Try.sizeOf4
  v4 := Try.zeroValue4
  t5 := Try.underlying5
  a5 := Try.isAgg5
  z5 := Try.sizeOf5
  v5 := Try.zeroValue5
  t9 := Try.underlying9
  a9 := Try.isAgg9
  z9 := Try.sizeOf9
  v9 := Try.zeroValue9
  t46 := Try.underlying125
  a46 := Try.isAgg125
  z46 := Try.sizeOf125
  v46 := Try.zeroValue125
  t51 := Try.underlying146
  a51 := Try.isAgg146
  z51 := Try.sizeOf146
  v51 := Try.zeroValue146 }
theorem Try.bits_Len32 (x : Int) (w : World) (h0 : 0 ≤ x) (h1 : x ≤ 4294967295) :
    Calls Try.prog 107 #[.int .u32 x] w fun e w' => e = .returned (.int .i64 (Lib.bitLen x.toNat)) ∧ w' = w := Any.bits_Len32 Try.lays128 x w h0 h1
def Try.lays125_ren : Go.Shelf.Ren := ⟨fun | 125 => 86 | 128 => 107 | 129 => 108 | n => n, fun | 46 => 125 | 3 => 3 | 51 => 146 | 53 => 148 | 4 => 4 | 5 => 5 | 9 => 9 | n => n, fun | n => n⟩
theorem Try.lays125 : Go.Proofs.Lays.n125 Try.prog Try.lays125_ren := {
  mixed := by kernel_rfl
  f125 := Try.func86.trans (congrArg some (by kernel_rfl))
  f128 := Try.func107.trans (congrArg some (by kernel_rfl))
  f129 := Try.func108.trans (congrArg some (by kernel_rfl))
  t3 := Try.underlying3
  a3 := Try.isAgg3
  z3 := Try.sizeOf3
  v3 := Try.zeroValue3
  t4 := Try.underlying4
  a4 := Try.isAgg4
  z4 := Try.sizeOf4
  v4 := Try.zeroValue4
  t5 := Try.underlying5
  a5 := Try.isAgg5
  z5 := Try.sizeOf5
  v5 := Try.zeroValue5
  t9 := Try.underlying9
  a9 := Try.isAgg9
  z9 := Try.sizeOf9
  v9 := Try.zeroValue9
  t46 := Try.underlying125
  a46 := Try.isAgg125
  z46 := Try.sizeOf125
  v46 := Try.zeroValue125
  t51 := Try.underlying146
  a51 := Try.isAgg146
  z51 := Try.sizeOf146
  v51 := Try.zeroValue146
  t53 := Try.underlying148
  a53 := Try.isAgg148
  z53 := Try.sizeOf148
  v53 := Try.zeroValue148 }
theorem Try.bits_Len (x : Int) (w : World) (h0 : 0 ≤ x) (h1 : x ≤ 18446744073709551615) :
    Calls Try.prog 86 #[.int .u64 x] w fun e w' => e = .returned (.int .i64 (Lib.bitLen x.toNat)) ∧ w' = w := Any.bits_Len Try.lays125 x w h0 h1
def Try.lays215_ren : Go.Shelf.Ren := ⟨fun | 215 => 117 | n => n, fun | 3 => 3 | 4 => 4 | n => n, fun | n => n⟩
theorem Try.lays215 : Go.Proofs.Lays.n215 Try.prog Try.lays215_ren := {
  mixed := by kernel_rfl
  f215 := Try.func117.trans (congrArg some (by kernel_rfl))
  t3 := Try.underlying3
  a3 := Try.isAgg3
  z3 := Try.sizeOf3
  v3 := Try.zeroValue3
  t4 := Try.underlying4
  a4 := Try.isAgg4
  z4 := Try.sizeOf4
  v4 := Try.zeroValue4 }
open Go.RowKit in
theorem Try.cmp_isNaN_int (x : Int) (w : World) :
    Calls Try.prog 117 #[.int .i64 x] w fun e w' => e = .returned (.bool false) ∧ w' = w := Any.cmp_isNaN_int Try.lays215 x w
def Try.lays122_ren : Go.Shelf.Ren := ⟨fun | 122 => 89 | 215 => 117 | n => n, fun | 3 => 3 | 4 => 4 | n => n, fun | n => n⟩
theorem Try.lays122 : Go.Proofs.Lays.n122 Try.prog Try.lays122_ren := {
  mixed := by kernel_rfl
  f122 := Try.func89.trans (congrArg some (by kernel_rfl))
  f215 := Try.func117.trans (congrArg some (by kernel_rfl))
  t3 := Try.underlying3
  a3 := Try.isAgg3
  z3 := Try.sizeOf3
  v3 := Try.zeroValue3
  t4 := Try.underlying4
  a4 := Try.isAgg4
  z4 := Try.sizeOf4
  v4 := Try.zeroValue4 }
open Go.RowKit in
theorem Try.cmp_Compare_int (x y : Int) (w : World) :
    Calls Try.prog 89 #[.int .i64 x, .int .i64 y] w fun e w' => e = .returned (.int .i64 (Lib.compareInt x y)) ∧ w' = w := Any.cmp_Compare_int Try.lays122 x y w
def Try.lays129_ren : Go.Shelf.Ren := ⟨fun | 129 => 108 | n => n, fun | 53 => 148 | 3 => 3 | 4 => 4 | 46 => 125 | 5 => 5 | 9 => 9 | n => n, fun | n => n⟩
theorem Try.lays129 : Go.Proofs.Lays.n129 Try.prog Try.lays129_ren := {
  mixed := by kernel_rfl
  f129 := Try.func108.trans (congrArg some (by kernel_rfl))
  t3 := Try.underlying3
  a3 := Try.isAgg3
  z3 := Try.sizeOf3
  v3 := Try.zeroValue3
  t4 := Try.underlying4
  a4 := Try.isAgg4
  z4 := Try.sizeOf4
  v4 := Try.zeroValue4
  t5 := Try.underlying5
  a5 := Try.isAgg5
  z5 := Try.sizeOf5
  v5 := Try.zeroValue5
  t9 := Try.underlying9
  a9 := Try.isAgg9
  z9 := Try.sizeOf9
  v9 := Try.zeroValue9
  t46 := Try.underlying125
  a46 := Try.isAgg125
  z46 := Try.sizeOf125
  v46 := Try.zeroValue125
  t53 := Try.underlying148
  a53 := Try.isAgg148
  z53 := Try.sizeOf148
  v53 := Try.zeroValue148 }
theorem Try.bits_Len64 (x : Int) (w : World) (h0 : 0 ≤ x) (h1 : x ≤ 18446744073709551615) :
    Calls Try.prog 108 #[.int .u64 x] w fun e w' => e = .returned (.int .i64 (Lib.bitLen x.toNat)) ∧ w' = w := Any.bits_Len64 Try.lays129 x w h0 h1
def Try.laysGg26_ren : Go.Shelf.Ren := ⟨fun | 26 => 109 | n => n, fun | 44 => 128 | 3 => 3 | 0 => 0 | 4 => 4 | 26 => 101 | 37 => 121 | n => n, fun | n => n⟩
theorem Try.laysGg26 : Go.Proofs.LaysGg.n26 Try.prog Try.laysGg26_ren := {
  mixed := by kernel_rfl
  f26 := Try.func109.trans (congrArg some (by kernel_rfl))
  t0 := Try.underlying0
  a0 := Try.isAgg0
  z0 := Try.sizeOf0
  v0 := Try.zeroValue0
  i0 := by kernel_rfl
  t3 := Try.underlying3
  a3 := Try.isAgg3
  z3 := Try.sizeOf3
  v3 := Try.zeroValue3
  i3 := by kernel_rfl
  t4 := Try.underlying4
  a4 := Try.isAgg4
  z4 := Try.sizeOf4
  v4 := Try.zeroValue4
  i4 := by kernel_rfl
  t26 := Try.underlying101
  a26 := Try.isAgg101
  z26 := Try.sizeOf101
  v26 := Try.zeroValue101
  i26 := by kernel_rfl
  t37 := Try.underlying121
  a37 := Try.isAgg121
  z37 := Try.sizeOf121
  v37 := Try.zeroValue121
  i37 := by kernel_rfl
  t44 := Try.underlying128
  a44 := Try.isAgg128
  z44 := Try.sizeOf128
  v44 := Try.zeroValue128
  i44 := by kernel_rfl }
open Go.RowKit Go.Lib Go.Sort in
theorem Try.insertionSort_func_none (lf : Fn) (la lb : Array Value) (f : Nat) (sb : Array Value) (a b : Nat) (h : b ≤ a + 1) (ha : a < 4611686018427387904) (w : World) :
    Calls Try.prog 109 #[.agg #[.func lf la lb, .func (.func f) #[] sb], .int .i64 a, .int .i64 b] w fun e w' => e = .returned (.tuple #[]) ∧ w' = w.alloc (.cells #[.func lf la lb, .func (.func f) #[] sb] 128) := Any.insertionSort_func_none Try.laysGg26 lf la lb f sb a b h ha w
def Try.laysGg14_ren : Go.Shelf.Ren := ⟨fun | 14 => 87 | 26 => 109 | 27 => 110 | 28 => 111 | 29 => 112 | 30 => 113 | 31 => 114 | 32 => 115 | 33 => 116 | 34 => 120 | 35 => 121 | 36 => 122 | 37 => 123 | 38 => 124 | 13 => 86 | 39 => 127 | 24 => 107 | 25 => 108 | n => n, fun | 44 => 128 | 3 => 3 | 0 => 0 | 4 => 4 | 54 => 151 | 53 => 150 | 26 => 101 | 58 => 139 | 37 => 121 | 60 => 162 | 41 => 125 | 51 => 148 | 64 => 166 | 66 => 171 | 67 => 172 | 49 => 146 | 5 => 5 | 9 => 9 | n => n, fun | n => n⟩
theorem Try.laysGg14 : Go.Proofs.LaysGg.n14 Try.prog Try.laysGg14_ren := {
  mixed := by kernel_rfl
  f13 := Try.func86.trans (congrArg some (by kernel_rfl))
  f14 := Try.func87.trans (congrArg some (by kernel_rfl))
  f24 := Try.func107.trans (congrArg some (by kernel_rfl))
  f25 := Try.func108.trans (congrArg some (by kernel_rfl))
  f26 := Try.func109.trans (congrArg some (by kernel_rfl))
  f27 := Try.func110.trans (congrArg some (by kernel_rfl))
  f28 := Try.func111.trans (congrArg some (by kernel_rfl))
  f29 := Try.func112.trans (congrArg some (by kernel_rfl))
  f30 := Try.func113.trans (congrArg some (by kernel_rfl))
  f31 := Try.func114.trans (congrArg some (by kernel_rfl))
  f32 := Try.func115.trans (congrArg some (by kernel_rfl))
  f33 := Try.func116.trans (congrArg some (by kernel_rfl))
  f34 := Try.func120.trans (congrArg some (by kernel_rfl))
  f35 := Try.func121.trans (congrArg some (by kernel_rfl))
  f36 := Try.func122.trans (congrArg some (by kernel_rfl))
  f37 := Try.func123.trans (congrArg some (by kernel_rfl))
  f38 := Try.func124.trans (congrArg some (by kernel_rfl))
  f39 := Try.func127.trans (congrArg some (by kernel_rfl))
  t0 := Try.underlying0
  a0 := Try.isAgg0
  z0 := Try.sizeOf0
  v0 := Try.zeroValue0
  i0 := by kernel_rfl
  t3 := Try.underlying3
  a3 := Try.isAgg3
  z3 := Try.sizeOf3
  v3 := Try.zeroValue3
  i3 := by kernel_rfl
  t4 := Try.underlying4
  a4 := Try.isAgg4
  z4 := Try.sizeOf4
  v4 := Try.zeroValue4
  i4 := by kernel_rfl
  t5 := Try.underlying5
  a5 := Try.isAgg5
  z5 := Try.sizeOf5
  v5 := Try.zeroValue5
  i5 := by kernel_rfl
  t9 := Try.underlying9
  a9 := Try.isAgg9
  z9 := Try.sizeOf9
  v9 := Try.zeroValue9
  i9 := by kernel_rfl
  t26 := Try.underlying101
  a26 := Try.isAgg101
  z26 := Try.sizeOf101
  v26 := Try.zeroValue101
  i26 := by kernel_rfl
  t37 := Try.underlying121
  a37 := Try.isAgg121
  z37 := Try.sizeOf121
  v37 := Try.zeroValue121
  i37 := by kernel_rfl
  t41 := Try.underlying125
  a41 := Try.isAgg125
  z41 := Try.sizeOf125
  v41 := Try.zeroValue125
  i41 := by kernel_rfl
  t44 := Try.underlying128
  a44 := Try.isAgg128
  z44 := Try.sizeOf128
  v44 := Try.zeroValue128
  i44 := by kernel_rfl
  t49 := Try.underlying146
  a49 := Try.isAgg146
  z49 := Try.sizeOf146
  v49 := Try.zeroValue146
  i49 := by kernel_rfl
  t51 := Try.underlying148
  a51 := Try.isAgg148
  z51 := Try.sizeOf148
  v51 := Try.zeroValue148
  i51 := by kernel_rfl
  t53 := Try.underlying150
  a53 := Try.isAgg150
  z53 := Try.sizeOf150
  v53 := Try.zeroValue150
  i53 := by kernel_rfl
  t54 := Try.underlying151
  a54 := Try.isAgg151
  z54 := Try.sizeOf151
  v54 := Try.zeroValue151
  i54 := by kernel_rfl
  t58 := Try.underlying139
  a58 := Try.isAgg139
  z58 := Try.sizeOf139
  v58 := Try.zeroValue139
  i58 := by kernel_rfl
  t60 := Try.underlying162
  a60 := Try.isAgg162
  z60 := Try.sizeOf162
  v60 := Try.zeroValue162
  i60 := by kernel_rfl
  t64 := Try.underlying166
  a64 := Try.isAgg166
  z64 := Try.sizeOf166
  v64 := Try.zeroValue166
  i64 := by kernel_rfl
  t66 := Try.underlying171
  a66 := Try.isAgg171
  z66 := Try.sizeOf171
  v66 := Try.zeroValue171
  i66 := by kernel_rfl
  t67 := Try.underlying172
  a67 := Try.isAgg172
  z67 := Try.sizeOf172
  v67 := Try.zeroValue172
  i67 := by kernel_rfl }
open Go.RowKit Go.Lib Go.Sort in
theorem Try.pdqsort_func_tiny (lf : Fn) (la lb : Array Value) (f : Nat) (sb : Array Value) (n : Nat) (h : n ≤ 1) (lim : Int) (w : World) :
    Calls Try.prog 87 #[.agg #[.func lf la lb, .func (.func f) #[] sb], .int .i64 0, .int .i64 n, .int .i64 lim] w fun e w' => e = .returned (.tuple #[]) ∧ w' = (w.alloc (.cells #[.func lf la lb, .func (.func f) #[] sb] 128)).alloc (.cells #[.func lf la lb, .func (.func f) #[] sb] 128) := Any.pdqsort_func_tiny Try.laysGg14 lf la lb f sb n h lim w
def Try.laysGg6_ren : Go.Shelf.Ren := ⟨fun | 6 => 67 | 10 => 83 | 11 => 84 | 12 => 85 | 13 => 86 | 14 => 87 | 24 => 107 | 25 => 108 | 26 => 109 | 27 => 110 | 28 => 111 | 29 => 112 | 30 => 113 | 31 => 114 | 32 => 115 | 33 => 116 | 34 => 120 | 35 => 121 | 36 => 122 | 37 => 123 | 38 => 124 | 39 => 127 | n => n, fun | 20 => 20 | 26 => 101 | 35 => 119 | 0 => 0 | 37 => 121 | 3 => 3 | 41 => 125 | 44 => 128 | 49 => 146 | 51 => 148 | 4 => 4 | 54 => 151 | 53 => 150 | 58 => 139 | 5 => 5 | 9 => 9 | 60 => 162 | 64 => 166 | 66 => 171 | 67 => 172 | 17 => 17 | 32 => 116 | 33 => 117 | 82 => 187 | 12 => 12 | 75 => 180 | 76 => 181 | 77 => 182 | 78 => 183 | 79 => 184 | 80 => 185 | n => n, fun | n => n⟩
theorem Try.laysGg6 : Go.Proofs.LaysGg.n6 Try.prog Try.laysGg6_ren := {
  mixed := by kernel_rfl
  f6 := Try.func67.trans (congrArg some (by kernel_rfl))
  f10 := Try.func83.trans (congrArg some (by kernel_rfl))
  f11 := Try.func84.trans (congrArg some (by kernel_rfl))
  f12 := Try.func85.trans (congrArg some (by kernel_rfl))
  f13 := Try.func86.trans (congrArg some (by kernel_rfl))
  f14 := Try.func87.trans (congrArg some (by kernel_rfl))
  f24 := Try.func107.trans (congrArg some (by kernel_rfl))
  f25 := Try.func108.trans (congrArg some (by kernel_rfl))
  f26 := Try.func109.trans (congrArg some (by kernel_rfl))
  f27 := Try.func110.trans (congrArg some (by kernel_rfl))
  f28 := Try.func111.trans (congrArg some (by kernel_rfl))
  f29 := Try.func112.trans (congrArg some (by kernel_rfl))
  f30 := Try.func113.trans (congrArg some (by kernel_rfl))
  f31 := Try.func114.trans (congrArg some (by kernel_rfl))
  f32 := Try.func115.trans (congrArg some (by kernel_rfl))
  f33 := Try.func116.trans (congrArg some (by kernel_rfl))
  f34 := Try.func120.trans (congrArg some (by kernel_rfl))
  f35 := Try.func121.trans (congrArg some (by kernel_rfl))
  f36 := Try.func122.trans (congrArg some (by kernel_rfl))
  f37 := Try.func123.trans (congrArg some (by kernel_rfl))
  f38 := Try.func124.trans (congrArg some (by kernel_rfl))
  f39 := Try.func127.trans (congrArg some (by kernel_rfl))
  t0 := Try.underlying0
  a0 := Try.isAgg0
  z0 := Try.sizeOf0
  v0 := Try.zeroValue0
  i0 := by kernel_rfl
  t3 := Try.underlying3
  a3 := Try.isAgg3
  z3 := Try.sizeOf3
  v3 := Try.zeroValue3
  i3 := by kernel_rfl
  t4 := Try.underlying4
  a4 := Try.isAgg4
  z4 := Try.sizeOf4
  v4 := Try.zeroValue4
  i4 := by kernel_rfl
  t5 := Try.underlying5
  a5 := Try.isAgg5
  z5 := Try.sizeOf5
  v5 := Try.zeroValue5
  i5 := by kernel_rfl
  t9 := Try.underlying9
  a9 := Try.isAgg9
  z9 := Try.sizeOf9
  v9 := Try.zeroValue9
  i9 := by kernel_rfl
  t12 := Try.underlying12
  a12 := Try.isAgg12
  z12 := Try.sizeOf12
  v12 := Try.zeroValue12
  i12 := by kernel_rfl
  t17 := Try.underlying17
  a17 := Try.isAgg17
  z17 := Try.sizeOf17
  v17 := Try.zeroValue17
  i17 := by kernel_rfl
  t20 := Try.underlying20
  a20 := Try.isAgg20
  z20 := Try.sizeOf20
  v20 := Try.zeroValue20
  i20 := by kernel_rfl
  t26 := Try.underlying101
  a26 := Try.isAgg101
  z26 := Try.sizeOf101
  v26 := Try.zeroValue101
  i26 := by kernel_rfl
  t32 := Try.underlying116
  a32 := Try.isAgg116
  z32 := Try.sizeOf116
  v32 := Try.zeroValue116
  i32 := by kernel_rfl
  t33 := Try.underlying117
  a33 := Try.isAgg117
  z33 := Try.sizeOf117
  v33 := Try.zeroValue117
  i33 := by kernel_rfl
  t35 := Try.underlying119
  a35 := Try.isAgg119
  z35 := Try.sizeOf119
  v35 := Try.zeroValue119
  i35 := by kernel_rfl
  t37 := Try.underlying121
  a37 := Try.isAgg121
  z37 := Try.sizeOf121
  v37 := Try.zeroValue121
  i37 := by kernel_rfl
  t41 := Try.underlying125
  a41 := Try.isAgg125
  z41 := Try.sizeOf125
  v41 := Try.zeroValue125
  i41 := by kernel_rfl
  t44 := Try.underlying128
  a44 := Try.isAgg128
  z44 := Try.sizeOf128
  v44 := Try.zeroValue128
  i44 := by kernel_rfl
  t49 := Try.underlying146
  a49 := Try.isAgg146
  z49 := Try.sizeOf146
  v49 := Try.zeroValue146
  i49 := by kernel_rfl
  t51 := Try.underlying148
  a51 := Try.isAgg148
  z51 := Try.sizeOf148
  v51 := Try.zeroValue148
  i51 := by kernel_rfl
  t53 := Try.underlying150
  a53 := Try.isAgg150
  z53 := Try.sizeOf150
  v53 := Try.zeroValue150
  i53 := by kernel_rfl
  t54 := Try.underlying151
  a54 := Try.isAgg151
  z54 := Try.sizeOf151
  v54 := Try.zeroValue151
  i54 := by kernel_rfl
  t58 := Try.underlying139
  a58 := Try.isAgg139
  z58 := Try.sizeOf139
  v58 := Try.zeroValue139
  i58 := by kernel_rfl
  t60 := Try.underlying162
  a60 := Try.isAgg162
  z60 := Try.sizeOf162
  v60 := Try.zeroValue162
  i60 := by kernel_rfl
  t64 := Try.underlying166
  a64 := Try.isAgg166
  z64 := Try.sizeOf166
  v64 := Try.zeroValue166
  i64 := by kernel_rfl
  t66 := Try.underlying171
  a66 := Try.isAgg171
  z66 := Try.sizeOf171
  v66 := Try.zeroValue171
  i66 := by kernel_rfl
  t67 := Try.underlying172
  a67 := Try.isAgg172
  z67 := Try.sizeOf172
  v67 := Try.zeroValue172
  i67 := by kernel_rfl
  t75 := Try.underlying180
  a75 := Try.isAgg180
  z75 := Try.sizeOf180
  v75 := Try.zeroValue180
  i75 := by kernel_rfl
  t76 := Try.underlying181
  a76 := Try.isAgg181
  z76 := Try.sizeOf181
  v76 := Try.zeroValue181
  i76 := by kernel_rfl
  t77 := Try.underlying182
  a77 := Try.isAgg182
  z77 := Try.sizeOf182
  v77 := Try.zeroValue182
  i77 := by kernel_rfl
  t78 := Try.underlying183
  a78 := Try.isAgg183
  z78 := Try.sizeOf183
  v78 := Try.zeroValue183
  i78 := by kernel_rfl
  t79 := Try.underlying184
  a79 := Try.isAgg184
  z79 := Try.sizeOf184
  v79 := Try.zeroValue184
  i79 := by kernel_rfl
  t80 := Try.underlying185
  a80 := Try.isAgg185
  z80 := Try.sizeOf185
  v80 := Try.zeroValue185
  i80 := by kernel_rfl
  t82 := Try.underlying187
  a82 := Try.isAgg187
  z82 := Try.sizeOf187
  v82 := Try.zeroValue187
  i82 := by kernel_rfl }
def Try.laysGg36_ren : Go.Shelf.Ren := ⟨fun | 36 => 122 | n => n, fun | 66 => 171 | 51 => 148 | 0 => 0 | 60 => 162 | 41 => 125 | n => n, fun | n => n⟩
theorem Try.laysGg36 : Go.Proofs.LaysGg.n36 Try.prog Try.laysGg36_ren := {
  mixed := by kernel_rfl
  f36 := Try.func122.trans (congrArg some (by kernel_rfl))
  t0 := Try.underlying0
  a0 := Try.isAgg0
  z0 := Try.sizeOf0
  v0 := Try.zeroValue0
  i0 := by kernel_rfl
  t41 := Try.underlying125
  a41 := Try.isAgg125
  z41 := Try.sizeOf125
  v41 := Try.zeroValue125
  i41 := by kernel_rfl
  t51 := Try.underlying148
  a51 := Try.isAgg148
  z51 := Try.sizeOf148
  v51 := Try.zeroValue148
  i51 := by kernel_rfl
  t60 := Try.underlying162
  a60 := Try.isAgg162
  z60 := Try.sizeOf162
  v60 := Try.zeroValue162
  i60 := by kernel_rfl
  t66 := Try.underlying171
  a66 := Try.isAgg171
  z66 := Try.sizeOf171
  v66 := Try.zeroValue171
  i66 := by kernel_rfl }
open Go.RowKit Go.Lib Go.Sort in
theorem Try.xorshift_Next (rb ro X : Nat) (hX : X < 18446744073709551616) (w : World) (hc : w.cell? ⟨rb, ro, none⟩ = some (.int .u64 X)) (hf : w.frozen? ⟨rb, ro, none⟩ = false) :
    Calls Try.prog 122 #[.pointer (some ⟨rb, ro, none⟩)] w fun e w' => e = .returned (.int .u64 (xorNextN X : Nat)) ∧ w' = (w.setCell ⟨rb, ro, none⟩ (.int .u64 (xorNextN X : Nat))).drewN 3 := Any.xorshift_Next Try.laysGg36 rb ro X hX w hc hf
def Try.laysGg35_ren : Go.Shelf.Ren := ⟨fun | 35 => 121 | 13 => 86 | 24 => 107 | 25 => 108 | n => n, fun | 3 => 3 | 41 => 125 | 49 => 146 | 51 => 148 | 4 => 4 | 5 => 5 | 9 => 9 | n => n, fun | n => n⟩
theorem Try.laysGg35 : Go.Proofs.LaysGg.n35 Try.prog Try.laysGg35_ren := {
  mixed := by kernel_rfl
  f13 := Try.func86.trans (congrArg some (by kernel_rfl))
  f24 := Try.func107.trans (congrArg some (by kernel_rfl))
  f25 := Try.func108.trans (congrArg some (by kernel_rfl))
  f35 := Try.func121.trans (congrArg some (by kernel_rfl))
  t3 := Try.underlying3
  a3 := Try.isAgg3
  z3 := Try.sizeOf3
  v3 := Try.zeroValue3
  i3 := by kernel_rfl
  t4 := Try.underlying4
  a4 := Try.isAgg4
  z4 := Try.sizeOf4
  v4 := Try.zeroValue4
  i4 := by kernel_rfl
  t5 := Try.underlying5
  a5 := Try.isAgg5
  z5 := Try.sizeOf5
  v5 := Try.zeroValue5
  i5 := by kernel_rfl
  t9 := Try.underlying9
  a9 := Try.isAgg9
  z9 := Try.sizeOf9
  v9 := Try.zeroValue9
  i9 := by kernel_rfl
  t41 := Try.underlying125
  a41 := Try.isAgg125
  z41 := Try.sizeOf125
  v41 := Try.zeroValue125
  i41 := by kernel_rfl
  t49 := Try.underlying146
  a49 := Try.isAgg146
  z49 := Try.sizeOf146
  v49 := Try.zeroValue146
  i49 := by kernel_rfl
  t51 := Try.underlying148
  a51 := Try.isAgg148
  z51 := Try.sizeOf148
  v51 := Try.zeroValue148
  i51 := by kernel_rfl }
open Go.RowKit Go.Lib Go.Sort in
theorem Try.nextPowerOfTwo (n : Nat) (hn : n < 4611686018427387904) (w : World) :
    Calls Try.prog 121 #[.int .i64 n] w fun e w' => e = .returned (.int .u64 ((1 <<< bitsLen n : Nat) : Int)) ∧ w' = w := Any.nextPowerOfTwo Try.laysGg35 n hn w
end Go.Proofs

/- The variables of a term as the program tells them: gathered, sorted, each once. Conditions: terms of at most 1048577 parts. -/
namespace Go.Proofs.Ytollijngiioonaa
set_option maxRecDepth 100000
open Go.RowKit Go.Shelf Go.Sort
attribute [local go_sem] Oper.semAt_some

theorem vl_snoc (l : List El) (x : El) : vl ((l ++ [x]).map El.t) = vl (l.map El.t) ++ if vofB x.t = true then [vofI x.t] else [] := by
  rw [List.map_append, vl_append]
  congr 1
  by_cases h1 : x.t.f = -1 <;> simp [vl, vofB, vofI, h1]
theorem ints_append (a b : List Int) : ints (a ++ b) = ints a ++ ints b := by simp [ints]

/-- What the loop holds between two rounds: the list that is gathered lies in memory of the call's own. -/
structure VInv (w W0 : World) (pre : List El) (S : Nat → Prop) (W : World) : Prop where
  lo : ∀ k, k < W0.heap.size → S k
  hi : ∀ k, S k → k < W.heap.size
  v : ∃ v, W.cell? ⟨w.heap.size + 1, 0, none⟩ = some v ∧ W.ownsRow W0.heap.size 3 1 v (vl (pre.map El.t)).length (ints (vl (pre.map El.t))) ∧ ∀ g, v.ownBlock = some g → S g
  f : W.frozen? ⟨w.heap.size + 1, 0, none⟩ = false
  b : Below w.heap.size w W
  z : w.heap.size + 1 < W0.heap.size
theorem VInv.lt {w W0 A : World} {pre : List El} {S : Nat → Prop} (h : VInv w W0 pre S A) : w.heap.size + 1 < A.heap.size := h.hi _ (h.lo _ h.z)
theorem VInv.le {w W0 A : World} {pre : List El} {S : Nat → Prop} (h : VInv w W0 pre S A) : W0.heap.size ≤ A.heap.size := by
  have hz := h.z
  have := h.hi (W0.heap.size - 1) (h.lo _ (by omega))
  omega
theorem VInv.stay {w W0 A B : World} {pre : List El} {S : Nat → Prop} (h : VInv w W0 pre S A) (hs : Stay S A B) : VInv w W0 pre S B := by
  have hz := h.z
  have hl := h.lt
  obtain ⟨v, h1, h2, h3⟩ := h.v
  exact ⟨h.lo, fun k hk => Nat.lt_of_lt_of_le (h.hi k hk) hs.size, ⟨v, hs.cell h1 (h.lo _ hz), own_stay h2 hs h3, h3⟩, (hs.frozen hl (h.lo _ hz)).trans h.f, h.b.trans (hs.below h.b.size (fun k hk => h.lo k (by omega))), hz⟩
theorem VInv.more {w W0 A : World} {pre : List El} {S T : Nat → Prop} (h : VInv w W0 pre S A) (hs : ∀ k, S k → T k) (ht : ∀ k, T k → k < A.heap.size) : VInv w W0 pre T A := by
  obtain ⟨v, h1, h2, h3⟩ := h.v
  exact ⟨fun k hk => hs k (h.lo k hk), ht, ⟨v, h1, h2, fun g hg => hs g (h3 g hg)⟩, h.f, h.b, h.z⟩

end Go.Proofs.Ytollijngiioonaa

/- Contracts of the laws' marks on a term that owns its memory: nothing else is written. Conditions: terms of at most 549755813888 parts. -/
namespace Go.Proofs.Ytollijngiioonaa
set_option maxRecDepth 100000
open Go.RowKit

/-- Between two worlds only blocks of S have turned. -/
structure Only (S : Nat → Prop) (w w' : World) : Prop where
  os : w'.os = w.os
  tape : w'.tape = w.tape
  output : w'.output = w.output
  size : w'.heap.size = w.heap.size
  block : ∀ x, ¬ S x → w'.heap[x]? = w.heap[x]?

theorem Only.refl (S : Nat → Prop) (w : World) : Only S w w := ⟨rfl, rfl, rfl, rfl, fun _ _ => rfl⟩
theorem Only.trans {S : Nat → Prop} {a b c : World} (h : Only S a b) (k : Only S b c) : Only S a c := ⟨k.os.trans h.os, k.tape.trans h.tape, k.output.trans h.output, k.size.trans h.size, fun x hx => (k.block x hx).trans (h.block x hx)⟩
theorem Only.mono {S S' : Nat → Prop} {a b : World} (h : Only S a b) (hs : ∀ x, S x → S' x) : Only S' a b := ⟨h.os, h.tape, h.output, h.size, fun x hx => h.block x (fun k => hx (hs x k))⟩
theorem Only.setCell {S : Nat → Prop} {a b : World} (h : Only S a b) (p : Addr) (hp : S p.block) (u : Value) : Only S a (b.setCell p u) :=
  ⟨h.os, by simp [h.tape], h.output, by simp [h.size], fun x hx => (Below.heap_setCell b p u x (fun e => hx (e ▸ hp))).trans (h.block x hx)⟩
theorem Only.below {S : Nat → Prop} {a b : World} {B : Nat} (h : Only S a b) (hs : ∀ x, S x → B ≤ x) : Below B a b := ⟨h.os, h.tape, h.output, Nat.le_of_eq h.size.symm, fun x hx => h.block x (fun k => by have := hs x k; omega)⟩
theorem Only.cell {S : Nat → Prop} {a b : World} (h : Only S a b) {p : Addr} (hp : ¬ S p.block) : b.cell? p = a.cell? p := World.cell?_of_block (h.block _ hp)
theorem Only.frozen {S : Nat → Prop} {a b : World} (h : Only S a b) {p : Addr} (hp : ¬ S p.block) : b.frozen? p = a.frozen? p := World.frozen?_of_block (h.block _ hp)

theorem rt_mark {a b : Int} (h : a = b) : Ending.returned (.int .i64 a) = .returned (.int .i64 b) := by rw [h]

/-- What is still to be marked of a row of terms. -/
structure MarkSt (wr : World) (S : Nat → Prop) (b off : Nat) (ts : List TermD) (A : Nat → Option Addr) (C : Nat → Nat) (K : Nat → Nat → Prop) (k : Nat) : Prop where
  cells : ∀ i, (h : i < ts.length) → k ≤ i → wr.cell? ⟨b, off + i * 3, none⟩ = some (.int .i64 ts[i].f) ∧ wr.cell? ⟨b, off + i * 3 + 1, none⟩ = some (.int .i64 ts[i].v) ∧ wr.cell? ⟨b, off + i * 3 + 2, none⟩ = some (.slice (A i) ts[i].kids.length (C i))
  frozen : ∀ j, wr.frozen? ⟨b, j, none⟩ = false
  kid : ∀ i, (h : i < ts.length) → k ≤ i → OwnS wr (K i) (A i) ts[i].kids

theorem MarkSt.next {wr w1 : World} {S : Nat → Prop} {b off : Nat} {ts : List TermD} {A : Nat → Option Addr} {C : Nat → Nat} {K : Nat → Nat → Prop} {k : Nat} (h : MarkSt wr S b off ts A C K k) (hk : k < ts.length)
    (hsub : ∀ i x, i < ts.length → K i x → S x ∧ x ≠ b) (hdis : ∀ i j x, i < ts.length → j < ts.length → i ≠ j → K i x → ¬ K j x) (x y : Value)
    (ho : Only (K k) ((wr.setCell ⟨b, off + k * 3, none⟩ x).setCell ⟨b, off + k * 3 + 1, none⟩ y) w1) : MarkSt w1 S b off ts A C K (k + 1) := by
  have hkb : ¬ K k b := fun e => (hsub k b hk e).2 rfl
  refine ⟨fun i hi hki => ?_, fun j => ?_, fun i hi hki => ?_⟩
  · obtain ⟨c0, c1, c2⟩ := h.cells i hi (by omega)
    have d : ∀ o v, (off + k * 3 ≠ o) → (off + k * 3 + 1 ≠ o) → wr.cell? ⟨b, o, none⟩ = some v → w1.cell? ⟨b, o, none⟩ = some v := by
      intro o v h1 h2 hv
      rw [ho.cell (p := ⟨b, o, none⟩) hkb, World.cell?_setCell_other _ _ _ _ (fun e => h2 (by injection e)), World.cell?_setCell_other _ _ _ _ (fun e => h1 (by injection e))]
      exact hv
    exact ⟨d _ _ (by omega) (by omega) c0, d _ _ (by omega) (by omega) c1, d _ _ (by omega) (by omega) c2⟩
  · rw [ho.frozen (p := ⟨b, j, none⟩) hkb]
    simp only [World.frozen?_setCell]
    exact h.frozen j
  · have hib : ¬ K i b := fun e => (hsub i b hi e).2 rfl
    have o := ((h.kid i hi (by omega)).setCell ⟨b, off + k * 3, none⟩ hib x).setCell ⟨b, off + k * 3 + 1, none⟩ hib y
    exact o.frame (fun z hz => ho.block z (fun e => hdis i k z hi hk (by omega) hz e)) (Nat.le_of_eq ho.size.symm)

set_option maxHeartbeats 1600000 in
theorem markTermS_any (N : Nat) : ∀ (ts : List TermD) (a : Option Addr) (c : Nat) (m : Int) (S : Nat → Prop) (w : World), partsL ts ≤ N → N ≤ 549755813888 → 0 ≤ m → m + 2 * partsL ts ≤ 4000000000000000 → OwnS w S a ts →
    Calls Try.prog 60 #[.slice a ts.length c, .int .i64 m] w fun e w' => e = .returned (.int .i64 (m + 2 * partsL ts)) ∧ Only S w w' := by
  induction N with
  | zero =>
    intro ts a c m S w hN hM hm0 hm ho
    have h1 := partsL_len ts
    have : ts = [] := List.length_eq_zero_iff.1 (by omega)
    subst this
    go_enter Try.func60, Try.ntmps60
    go_wp2_with fail
    refine wp_loop_rounds 1 ?_
    rw [rounds_succ]
    go_wp2_with fail
    go_ret
    exact ⟨by simp [partsL], Only.refl _ _⟩
  | succ N ih =>
    intro ts a c m S w hN hM hm0 hm ho
    have hlen := partsL_len ts
    cases ho with
    | nil S a =>
      go_enter Try.func60, Try.ntmps60
      go_wp2_with fail
      refine wp_loop_rounds 1 ?_
      rw [rounds_succ]
      go_wp2_with fail
      go_ret
      exact ⟨by simp [partsL], Only.refl _ _⟩
    | row S b off ts A C K hb hlt hl hz hc hf hsub hdis hk =>
      have M0 : MarkSt w S b off ts A C K 0 := ⟨fun i h _ => hc i h, hf, fun i h _ => hk i h⟩
      clear hc hf hk hz
      go_enter Try.func60, Try.ntmps60
      go_wp2_with fail
      go_loopw [1, 5] (fun l i wr => ∃ k : Nat, k ≤ ts.length ∧ i = .int .i64 k ∧ l = .int .i64 (m + 2 * partsL (ts.take k)) ∧ MarkSt wr S b off ts A C K k ∧ Only S w wr) (fun _ i _ => ts.length - (intOf i).toNat)
      case atStart => exact ⟨0, Nat.zero_le _, rfl, by simp [partsL], M0, Only.refl _ _⟩
      case round =>
        obtain ⟨k, hk, rfl, rfl, M, O⟩ := hrel
        clear M0
        have hpk := partsL_take ts k
        by_cases hk' : k < ts.length
        · obtain ⟨c0, c1, c2⟩ := M.cells k hk' (Nat.le_refl _)
          have hpg := partsL_get hk'
          have hpt := partsT_eq ts[k]
          have hpn := partsL_next hk'
          have hpk2 := partsL_take ts (k + 1)
          have hki : (k : Int) < (ts.length : Int) := by omega
          have hkb : ¬ K k b := fun e => (hsub k b hk' e).2 rfl
          have f0 := M.frozen (off + k * 3)
          have f1 := M.frozen (off + k * 3 + 1)
          obtain ⟨W, hW⟩ : ∃ W, W = (wr.setCell ⟨b, off + k * 3, none⟩ (.int .i64 (m + 2 * partsL (ts.take k)))).setCell ⟨b, off + k * 3 + 1, none⟩ (.int .i64 (m + 2 * partsL (ts.take k) + 1)) := ⟨_, rfl⟩
          have e1 : (wr.setCell ⟨b, off + k * 3, none⟩ (.int .i64 (m + 2 * partsL (ts.take k)))).cell? ⟨b, off + k * 3 + 1, none⟩ = some (.int .i64 ts[k].v) := by rw [World.cell?_setCell_other _ _ _ _ (by simp)]; exact c1
          have e2 : ((wr.setCell ⟨b, off + k * 3, none⟩ (.int .i64 (m + 2 * partsL (ts.take k)))).setCell ⟨b, off + k * 3 + 1, none⟩ (.int .i64 (m + 2 * partsL (ts.take k) + 1))).cell? ⟨b, off + k * 3 + 2, none⟩ = some (.slice (A k) ts[k].kids.length (C k)) := by rw [World.cell?_setCell_other _ _ _ _ (by simp), World.cell?_setCell_other _ _ _ _ (by simp)]; exact c2
          have oK : OwnS W (K k) (A k) ts[k].kids := by rw [hW]; exact ((M.kid k hk' (Nat.le_refl _)).setCell ⟨b, off + k * 3, none⟩ hkb _).setCell ⟨b, off + k * 3 + 1, none⟩ hkb _
          have O2 : Only S w W := by rw [hW]; exact (O.setCell ⟨b, off + k * 3, none⟩ hb _).setCell ⟨b, off + k * 3 + 1, none⟩ hb _
          have I := ih ts[k].kids (A k) (C k) (m + 2 * partsL (ts.take k) + 1 + 1) (K k) W (by omega) (by omega) (by omega) (by omega) oK
          have NX : ∀ w1, Only (K k) W w1 → MarkSt w1 S b off ts A C K (k + 1) := fun w1 h => M.next hk' hsub hdis _ _ (hW ▸ h)
          have HE : Hid (m + 2 * (partsL (ts.take k) : Int) + 1 + 1 + 2 * partsL ts[k].kids = m + 2 * partsL (ts.take (k + 1))) := by show _ = _; omega
          have hsubk : ∀ x, K k x → S x := fun x hx => (hsub k x hk' hx).1
          clear M hpt hpn oK
          go_wp2_with (go_at_call 60; rw [← hW]; refine I.mono ?_; rintro e w1 ⟨rfl, h1⟩; have M1 := NX _ h1; have O3 := O2.trans (h1.mono hsubk); clear I NX h1 O2 hW)
          go_roundw
          case rel => exact ⟨k + 1, by omega, by go_num, by rw [← HE.out], M1, O3⟩
          case measure => simp [intOf]; omega
        · have E : Hid (k = ts.length) := (by omega : k = ts.length)
          go_wp2_with fail
          go_ret
          refine ⟨rt_mark ?_, O⟩
          rw [E.out, List.take_length]

set_option maxHeartbeats 800000 in
theorem markTerm_any (t : TermD) (a : Option Addr) (c : Nat) (m : Int) (S : Nat → Prop) (w : World) (hp : partsT t ≤ 549755813888) (hm0 : 0 ≤ m) (hm : m ≤ 1000000000000000) (ho : OwnS w S a t.kids) (hs : ∀ x, S x → x < w.heap.size) :
    Calls Try.prog 25 #[.agg #[.int .i64 t.f, .int .i64 t.v, .slice a t.kids.length c], .int .i64 m] w fun e w' => e = .returned (.int .i64 (m + 2 * partsL t.kids)) ∧ ∃ w0, Below w.heap.size w w0 ∧ Only S w0 w' := by
  rw [partsT_eq] at hp
  have h0 : Below w.heap.size w (w.alloc (.cells #[.int .i64 t.f, .int .i64 t.v, .slice a t.kids.length c] 27)) := (Below.refl w.heap.size w).alloc (Nat.le_refl _) _
  have o1 : OwnS (w.alloc (.cells #[.int .i64 t.f, .int .i64 t.v, .slice a t.kids.length c] 27)) S a t.kids := ho.frame (fun x hx => h0.block x (hs x hx)) h0.size
  have I := markTermS_any (partsL t.kids) t.kids a c m S _ (Nat.le_refl _) (by omega) hm0 (by omega) o1
  generalize t.kids = ks at *
  go_enter Try.func25, Try.ntmps25
  go_wp2_with (go_at_call 60; refine I.mono ?_; rintro e w1 ⟨rfl, h1⟩; clear I)
  go_ret
  exact ⟨rfl, _, h0, h1⟩
end Go.Proofs.Ytollijngiioonaa

/- What lies in memory while the law on a term's variables goes on; marks on lists of numbers that may be nil. Conditions: at most 1048577 numbers. -/
namespace Go.Proofs.Ytollijngiioonaa
set_option maxRecDepth 100000
open Go.RowKit

theorem Rd.ownV {w : World} {base : Nat} {av : Option Addr} {n cap : Nat} {zs : List Int} (hn : n = zs.length) (h : w.ownsRow base 3 1 (.slice av n cap) n (ints zs)) : Rd w av zs := by
  rcases h.2 with ⟨_, h0⟩ | ⟨g, c, cur, hv, _⟩
  · exact .inl (List.length_eq_zero_iff.1 (by omega))
  · cases hv
    exact Rd.own hn h

/-- The middle of the law. -/
structure LSt (w : World) (t : TermD) (a : Option Addr) (c L1 L2 gW cW : Nat) (ag : Option Addr) (cg : Nat) (V G : List Int) (W : World) : Prop where
  bel : Below w.heap.size w W
  p0 : W.cell? ⟨w.heap.size, 0, none⟩ = some (.int .i64 t.f)
  p1 : W.cell? ⟨w.heap.size, 1, none⟩ = some (.int .i64 t.v)
  p2 : W.cell? ⟨w.heap.size, 2, none⟩ = some (.slice a t.kids.length c)
  rW : W.ownsRow (w.heap.size + 1) 3 1 (.slice (some ⟨gW, 0, none⟩) V.length cW) V.length (ints V)
  rG : W.ownsRow (L2 + 1) 3 1 (.slice ag V.length cg) V.length (ints G)
  gw : gW < L1
  lo : w.heap.size < L1
  l12 : L1 ≤ L2
  hi : L2 < W.heap.size

namespace LSt
variable {w : World} {t : TermD} {a : Option Addr} {c L1 L2 gW cW : Nat} {ag : Option Addr} {cg : Nat} {V G : List Int} {W W' : World}
theorem on (h : LSt w t a c L1 L2 gW cW ag cg V G W) (hb : Below W.heap.size W W') : LSt w t a c L1 L2 gW cW ag cg V G W' :=
  ⟨h.bel.trans (hb.mono h.bel.size), keepC hb h.p0, keepC hb h.p1, keepC hb h.p2, own_on h.rW hb, own_on h.rG hb, h.gw, h.lo, h.l12, Nat.lt_of_lt_of_le h.hi hb.size⟩
theorem draw (h : LSt w t a c L1 L2 gW cW ag cg V G W) (q : Nat) : LSt w t a c L1 L2 gW cW ag cg V G (W.drewN q) := h.on (below_drewN (Below.refl _ _) q)
theorem rdW (h : LSt w t a c L1 L2 gW cW ag cg V G W) : Rd W (some ⟨gW, 0, none⟩) V := Rd.own rfl h.rW
theorem rdG (h : LSt w t a c L1 L2 gW cW ag cg V V W) : Rd W ag V := Rd.ownV rfl h.rG
theorem rdM (h : LSt w t a c L1 L2 gW cW ag cg V (upFrom 1 V.length) W) : Rd W ag (upFrom 1 V.length) := Rd.ownV (upFrom_len _ _).symm h.rG
theorem stay {S : Nat → Prop} (h : LSt w t a c L1 L2 gW cW ag cg V G W) (hs : Stay S W W') (h1 : ∀ k, k < L1 → S k) (h2 : ∀ k, L2 < k → S k) : LSt w t a c L1 L2 gW cW ag cg V G W' := by
  have hlo := h.lo
  refine ⟨h.bel.trans (hs.below h.bel.size (fun k hk => h1 k (by omega))), hs.cell h.p0 (h1 _ hlo), hs.cell h.p1 (h1 _ hlo), hs.cell h.p2 (h1 _ hlo), own_stay h.rW hs (fun g hg => ?_), own_stay h.rG hs (fun g hg => h2 g (h.rG.lt g hg).1), h.gw, hlo, h.l12, Nat.lt_of_lt_of_le h.hi hs.size⟩
  have e : gW = g := by simpa [Value.ownBlock] using hg
  exact h1 g (e ▸ h.gw)
/-- The copy's own blocks are written. -/
theorem markX {w0 : World} (h : LSt w t a c L1 L2 gW cW ag cg V G W) (hb : Below W.heap.size W w0) (ho : Only (fun x => L1 ≤ x ∧ x < L2) w0 W') : LSt w t a c L1 L2 gW cW ag cg V G W' :=
  (h.on hb).stay (S := fun x => ¬ (L1 ≤ x ∧ x < L2)) ⟨ho.os, ho.tape, ho.output, Nat.le_of_eq ho.size.symm, fun k _ hk => ho.block k hk⟩ (fun k hk => by omega) (fun k hk => by omega)
/-- The answer's numbers are written. -/
theorem markG {G' : List Int} (h : LSt w t a c L1 L2 gW cW ag cg V G W) (ho : W'.ownsRow (L2 + 1) 3 1 (.slice ag V.length cg) V.length (ints G')) (hg : W.grownBy W' (Value.slice ag V.length cg).ownBlock) : LSt w t a c L1 L2 gW cW ag cg V G' W' := by
  have hlo := h.lo
  have hl := h.l12
  have hgw := h.gw
  have hs : Stay (fun k => k < L1) W W' := .grown hg (fun k e hk => by have := (h.rG.lt k e).1; omega)
  refine ⟨h.bel.trans (hs.below h.bel.size (fun k hk => by omega)), hs.cell h.p0 hlo, hs.cell h.p1 hlo, hs.cell h.p2 hlo, own_stay h.rW hs (fun g hg => ?_), ho, hgw, hlo, hl, Nat.lt_of_lt_of_le h.hi hs.size⟩
  have e : gW = g := by simpa [Value.ownBlock] using hg
  omega
end LSt
end Go.Proofs.Ytollijngiioonaa

/- The variables of a term stand in it once at least, and not more often together than it has parts. Conditions: none. -/
namespace Go.Proofs.Ytollijngiioonaa
set_option maxRecDepth 100000
open Go.RowKit

mutual
theorem cnt_pre (v : Int) : ∀ t : TermD, cntT v t = (vl (preT t)).count v
  | .mk f u ks => by
    have h := cnt_preL v ks
    rw [cntT, preT, h]
    by_cases hf : f = -1
    · by_cases hu : u = v
      · simp [vl, hf, hu, TermD.f, TermD.v]; omega
      · simp [vl, hf, hu, TermD.f, TermD.v]
    · simp [vl, hf, TermD.f]
theorem cnt_preL (v : Int) : ∀ ts : List TermD, cntL v ts = (vl (preL ts)).count v
  | [] => by simp [cntL, preL, vl]
  | t :: ts => by rw [cntL, preL, vl_append, List.count_append, cnt_pre v t, cnt_preL v ts]
end
theorem vars_mem (t : TermD) (v : Int) : v ∈ varsT t [] ↔ v ∈ vl (preT t) := by
  rw [vl_pre]
  simpa using (fold_ss (vl (preT t)) [] .nil).2 v
theorem vars_up (t : TermD) : (varsT t []).Pairwise (· < ·) := by
  rw [vl_pre]
  exact (fold_ss (vl (preT t)) [] .nil).1
theorem vars_cnt {t : TermD} {v : Int} (h : v ∈ varsT t []) : 1 ≤ cntT v t := by
  rw [cnt_pre]
  exact List.count_pos_iff.2 ((vars_mem t v).1 h)
theorem counts_le : ∀ (vs l : List Int), vs.Pairwise (· < ·) → (vs.map (fun v => l.count v)).sum ≤ l.length
  | [], l, _ => by simp
  | v :: vs, l, h => by
    have hv := (List.pairwise_cons.1 h).1
    have ih := counts_le vs (l.filter (fun x => x != v)) (List.pairwise_cons.1 h).2
    have e : vs.map (fun u => (l.filter (fun x => x != v)).count u) = vs.map (fun u => l.count u) := by
      refine List.map_congr_left (fun u hu => ?_)
      exact List.count_filter (by have := hv u hu; simp; omega)
    rw [e] at ih
    have hl : l.length = l.count v + (l.filter (fun x => x != v)).length := by
      clear ih e
      induction l with
      | nil => rfl
      | cons x xs ihx =>
        by_cases hx : x = v
        · subst hx; simp; omega
        · simp [hx]; omega
    rw [List.map_cons, List.sum_cons]
    omega
theorem vars_sum (t : TermD) : ((varsT t []).map (fun v => cntT v t)).sum ≤ partsT t := by
  have h := counts_le (varsT t []) (vl (preT t)) (vars_up t)
  have e : (varsT t []).map (fun v => cntT v t) = (varsT t []).map (fun v => (vl (preT t)).count v) := List.map_congr_left (fun v _ => cnt_pre v t)
  rw [e]
  have := vl_len (preT t)
  have := preT_len t
  omega
/-- The sum as far as the loop has come. -/
theorem sum_take (l : List Nat) (i : Nat) : (l.take i).sum ≤ l.sum := by
  have : l.sum = (l.take i).sum + (l.drop i).sum := by rw [← List.sum_append, List.take_append_drop]
  omega
end Go.Proofs.Ytollijngiioonaa

/- The one result of a function, where it lies in a cell. Conditions: none. -/
namespace Go.Proofs.Ytollijngiioonaa
set_option maxRecDepth 100000
open Go.RowKit

theorem results_cell1 {fn : Func} {p : Tmp} {ty : TypeId} (h : fn.results = #[.cell p ty]) (tmps : Array Value) (P : Program) (w : World) :
    (results fn tmps).run P w = ((asAddr (tmps.getD p undef)).run P w).andThen fun a w₁ => (loadVar ty a).run P w₁ := by
  simp only [results, h]
  simp [Sem.run_bind, Result.andThen]
theorem load_bool {w : World} {p : Addr} {b : Bool} (h : w.cell? p = some (.bool b)) : (loadVar 4 p).run Try.prog w = .ok (.bool b) w := by
  simp [loadVar, go_sem, h]
theorem results_bool {fn : Func} {p : Tmp} (h : fn.results = #[.cell p 4]) {tmps : Array Value} {w : World} {a : Addr} (ha : tmps.getD p undef = .pointer (some a)) {b : Bool} (hc : w.cell? a = some (.bool b)) :
    (results fn tmps).run Try.prog w = .ok (.bool b) w := by
  rw [results_cell1 h, ha]
  simp [go_sem, hc, Result.andThen]
end Go.Proofs.Ytollijngiioonaa

/- Whether a term has no variables, as the program tells it: it ranges over its iterator and stops at the first one. Conditions: terms of at most 549755813888 parts. -/
namespace Go.Proofs.Ytollijngiioonaa
set_option maxRecDepth 100000
open Go.RowKit Go.Shelf
attribute [local go_sem] Oper.semAt_some

/-- Without variables. -/
def grdT (t : TermD) : Bool := (varsT t []).isEmpty
theorem grd_all {t : TermD} (h : ∀ x ∈ preT t, vofB x = false) : grdT t = true := by
  unfold grdT
  rw [List.isEmpty_iff]
  apply List.eq_nil_iff_forall_not_mem.2
  intro v hv
  rw [vars_mem] at hv
  simp only [vl, List.mem_map, List.mem_filter] at hv
  obtain ⟨x, ⟨hx, hf⟩, _⟩ := hv
  have := h x hx
  simp only [vofB] at this
  rw [this] at hf; cases hf
theorem grd_hit {t x : TermD} (hx : x ∈ preT t) (h : vofB x = true) : grdT t = false := by
  unfold grdT
  have : x.v ∈ varsT t [] := by
    rw [vars_mem]
    simp only [vl, List.mem_map, List.mem_filter]
    exact ⟨x, ⟨hx, by simpa [vofB] using h⟩, rfl⟩
  cases e : varsT t [] with
  | nil => rw [e] at this; simp at this
  | cons _ _ => rfl

/-- What the loop holds between two rounds: the answer's place, and that no variable was met. -/
structure GInv (w W0 : World) (R : Nat) (pre : List El) (S : Nat → Prop) (W : World) : Prop where
  lo : ∀ k, k < W0.heap.size → S k
  hi : ∀ k, S k → k < W.heap.size
  r : W.cell? ⟨R, 0, none⟩ = some (.bool false)
  f : W.frozen? ⟨R, 0, none⟩ = false
  b : Below w.heap.size w W
  z : w.heap.size < W0.heap.size ∧ R < W0.heap.size
  no : ∀ x ∈ pre, vofB x.t = false
theorem GInv.stay {w W0 A B : World} {R : Nat} {pre : List El} {S : Nat → Prop} (h : GInv w W0 R pre S A) (hs : Stay S A B) : GInv w W0 R pre S B := by
  have hz := h.z
  exact ⟨h.lo, fun k hk => Nat.lt_of_lt_of_le (h.hi k hk) hs.size, hs.cell h.r (h.lo _ hz.2), (hs.frozen (World.block_lt_of_cell? _ _ h.r) (h.lo _ hz.2)).trans h.f, h.b.trans (hs.below h.b.size (fun k hk => h.lo k (by omega))), hz, h.no⟩
theorem GInv.more {w W0 A : World} {R : Nat} {pre : List El} {S S' : Nat → Prop} (h : GInv w W0 R pre S A) (hs : ∀ k, S k → S' k) (ht : ∀ k, S' k → k < A.heap.size) : GInv w W0 R pre S' A :=
  ⟨fun k hk => hs k (h.lo k hk), ht, h.r, h.f, h.b, h.z, h.no⟩
/-- What is left where a variable was met. -/
structure GOut (w W0 : World) (R : Nat) (pre : List El) (S : Nat → Prop) (W : World) : Prop where
  lo : ∀ k, k < W0.heap.size → S k
  r : W.cell? ⟨R, 0, none⟩ = some (.bool false)
  b : Below w.heap.size w W
  z : w.heap.size < W0.heap.size ∧ R < W0.heap.size
  hit : ∃ x ∈ pre, vofB x.t = true
theorem GOut.stay {w W0 A B : World} {R : Nat} {pre : List El} {S : Nat → Prop} (h : GOut w W0 R pre S A) (hs : Stay S A B) : GOut w W0 R pre S B := by
  have hz := h.z
  exact ⟨h.lo, hs.cell h.r (h.lo _ hz.2), h.b.trans (hs.below h.b.size (fun k hk => h.lo k (by omega))), hz, h.hit⟩

end Go.Proofs.Ytollijngiioonaa

/- The drawn term of the law on counts, and two lists of numbers that are alike. Conditions: at most 1048576 bytes, at most 1048577 numbers. -/
namespace Go.Proofs.Ytollijngiioonaa
set_option maxRecDepth 100000
open Go.RowKit

theorem grd_vars (t : TermD) : grdT t = ((((varsT t []).length : Nat) : Int) == 0) := by
  unfold grdT
  cases varsT t [] with
  | nil => rfl
  | cons x r => simp; omega
theorem RdB.on {w w' : World} {c : Nat} {a : Option Addr} {bs : List Int} (h : RdB w c a bs) (hb : Below w.heap.size w w') : RdB w' c a bs := by
  refine ⟨h.1, ?_⟩
  rcases h.2 with h | ⟨b, off, rfl, hlt, hne, hc⟩
  · exact .inl h
  · exact .inr ⟨b, off, rfl, Nat.lt_of_lt_of_le hlt hb.size, hne, fun i hi => (hb.cell (p := ⟨b, off + i, none⟩) hlt).trans (hc i hi)⟩
theorem RdB.lt {w : World} {c : Nat} {a : Option Addr} {bs : List Int} (h : RdB w c a bs) : bs = [] ∨ ∀ x, a = some x → x.block < w.heap.size := by
  rcases h.2 with h | ⟨b, off, rfl, hlt, hne, hc⟩
  · exact .inl h
  · exact .inr (fun x hx => by cases hx; exact hlt)

end Go.Proofs.Ytollijngiioonaa

/- A box of three cells, and two of them written. Conditions: none. -/
namespace Go.Proofs.Ytollijngiioonaa
set_option maxRecDepth 100000
open Go.RowKit

/-- A box of three cells. -/
def C3 (W : World) (b : Nat) (x y z : Value) : Prop := W.cell? ⟨b, 0, none⟩ = some x ∧ W.cell? ⟨b, 1, none⟩ = some y ∧ W.cell? ⟨b, 2, none⟩ = some z
theorem C3.stay {W W' : World} {b : Nat} {x y z : Value} {S : Nat → Prop} (h : C3 W b x y z) (hs : Stay S W W') (hb : S b) : C3 W' b x y z := ⟨hs.cell h.1 hb, hs.cell h.2.1 hb, hs.cell h.2.2 hb⟩
theorem C3.on {W W' : World} {b : Nat} {x y z : Value} (h : C3 W b x y z) (hb : Below W.heap.size W W') : C3 W' b x y z := ⟨keepC hb h.1, keepC hb h.2.1, keepC hb h.2.2⟩
theorem C3.lt {W : World} {b : Nat} {x y z : Value} (h : C3 W b x y z) : b < W.heap.size := World.block_lt_of_cell? _ _ h.1
theorem set3_stay (W : World) (b : Nat) (x y z : Value) : Stay (fun k => k ≠ b) W (((W.setCell ⟨b, 0, none⟩ x).setCell ⟨b, 1, none⟩ y).setCell ⟨b, 2, none⟩ z) := ((Stay.setCell _ _ (by simp)).trans (.setCell _ _ (by simp))).trans (.setCell _ _ (by simp))
theorem set3k {W : World} {b o B : Nat} {v x y z : Value} (h : W.cell? ⟨b, o, none⟩ = some v) (hne : b ≠ B) : (((W.setCell ⟨B, 0, none⟩ x).setCell ⟨B, 1, none⟩ y).setCell ⟨B, 2, none⟩ z).cell? ⟨b, o, none⟩ = some v := (set3_stay W B x y z).cell h hne
theorem C3.set {W : World} {b : Nat} {x y z : Value} (h : C3 W b x y z) (x' y' z' : Value) : C3 (((W.setCell ⟨b, 0, none⟩ x').setCell ⟨b, 1, none⟩ y').setCell ⟨b, 2, none⟩ z') b x' y' z' := by
  obtain ⟨z0, z1, z2⟩ := set3_cells (u := W) (r := b) (x := x') (y := y') (z := z') h.1 h.2.1 h.2.2
  exact ⟨z0, z1, z2⟩
theorem C3.new (W : World) (x y z : Value) (T : TypeId) : C3 (W.alloc (.cells #[x, y, z] T)) W.heap.size x y z := ⟨by simp, by simp, by simp⟩
theorem two_set {W : World} {R R' : Nat} {x y z x' y' z' : Value} (h : C3 W R (.int .i64 0) (.int .i64 0) (.slice none 0 0)) (h' : C3 W R' (.int .i64 0) (.int .i64 0) (.slice none 0 0)) (hne : R ≠ R') :
    C3 ((((((W.setCell ⟨R, 0, none⟩ x).setCell ⟨R, 1, none⟩ y).setCell ⟨R, 2, none⟩ z).setCell ⟨R', 0, none⟩ x').setCell ⟨R', 1, none⟩ y').setCell ⟨R', 2, none⟩ z') R x y z ∧ C3 ((((((W.setCell ⟨R, 0, none⟩ x).setCell ⟨R, 1, none⟩ y).setCell ⟨R, 2, none⟩ z).setCell ⟨R', 0, none⟩ x').setCell ⟨R', 1, none⟩ y').setCell ⟨R', 2, none⟩ z') R' x' y' z' ∧ Stay (fun k => k ≠ R ∧ k ≠ R') W ((((((W.setCell ⟨R, 0, none⟩ x).setCell ⟨R, 1, none⟩ y).setCell ⟨R, 2, none⟩ z).setCell ⟨R', 0, none⟩ x').setCell ⟨R', 1, none⟩ y').setCell ⟨R', 2, none⟩ z') :=
  ⟨(h.set x y z).stay (set3_stay _ _ _ _ _) hne, (h'.stay (set3_stay _ _ _ _ _) hne.symm).set _ _ _, ((set3_stay W R x y z).weak (fun _ _ hk => hk.1)).trans ((set3_stay _ R' x' y' z').weak (fun _ _ hk => hk.2))⟩
end Go.Proofs.Ytollijngiioonaa

/- The specification's copy of a term: it owns new memory. Conditions: terms of at most 549755813888 parts. -/
namespace Go.Proofs.Ytollijngiioonaa
set_option maxRecDepth 100000
open Go.RowKit

/-- Behind the append of a copied Kid: the boxes and the row. -/
theorem cpy_app {w X w1 w5 : World} {t u : TermD} {a a1 av : Option Addr} {c c1 cv m g5 c5 : Nat} {vo : Value} {L : List FE}
    (C1 : NC w t a c vo w1) (R1 : NR (w.heap.size + 1 + 1 + 1) L [⟨u, a1, c1, fun x => m ≤ x ∧ x < w1.heap.size⟩] av cv w1) (hb : Below w1.heap.size w1 X)
    (hO : w5.ownsRow (w.heap.size + 1 + 1 + 1) 27 3 (.slice (some ⟨g5, 0, none⟩) (L.length + 1) c5) (L.length + 1) (cs3 (L.map FE.cells) ++ [.int .i64 u.f, .int .i64 u.v, .slice a1 u.kids.length c1])) (hG : X.grownBy w5 (Value.slice av L.length cv).ownBlock) (hat : (Value.slice (some ⟨g5, 0, none⟩) (L.length + 1) c5).ownBlock = (Value.slice av L.length cv).ownBlock ∨ (Value.slice (some ⟨g5, 0, none⟩) (L.length + 1) c5).ownBlock = some X.heap.size) :
    NC w t a c vo w5 ∧ NR (w.heap.size + 1 + 1 + 1) (L ++ [⟨u, a1, c1, fun x => m ≤ x ∧ x < w1.heap.size⟩]) [] (some ⟨g5, 0, none⟩) c5 w5 := by
  have R2 := R1.on hb
  obtain ⟨g, c', hv, R3⟩ := R2.app hG hO hat
  cases hv
  exact ⟨(C1.on hb).stay (.grown hG (fun k e hk => by have := (R2.row.lt k e).1; omega)), R3⟩

set_option maxHeartbeats 3200000 in
set_option maxRecDepth 100000 in
theorem l3Copy_any (N : Nat) : ∀ (t : TermD) (a : Option Addr) (c hi : Nat) (w : World), partsT t ≤ N → N ≤ 549755813888 → RdK w hi a t.kids → hi ≤ w.heap.size → isW t.f → isW t.v →
    Calls Try.prog 71 #[.agg #[.int .i64 t.f, .int .i64 t.v, .slice a t.kids.length c]] w fun e w' => ∃ a' c', e = .returned (.agg #[.int .i64 t.f, .int .i64 t.v, .slice a' t.kids.length c']) ∧ OwnR w' (fun x => w.heap.size ≤ x ∧ x < w'.heap.size) a' c' t.kids ∧ t.kids.length ≤ c' ∧ Below w.heap.size w w' := by
  induction N with
  | zero => intro t a c hi w h; rw [partsT_eq] at h; omega
  | succ N ih =>
    intro t a c hi w hN hM hr hhi hfw hvw
    rw [partsT_eq] at hN
    obtain ⟨i0, hi0, hz0, hz1, hz2⟩ := info_parts info29
    have hlen := partsL_len t.kids
    have HR : Hid (RdK w hi a t.kids) := hr
    clear hr hfw hvw
    have C0 : NC w t a c (.slice none 0 0) (((w.alloc (.cells #[.int .i64 t.f, .int .i64 t.v, .slice a t.kids.length c] 27)).alloc (.cells #[.int .i64 0, .int .i64 0, .slice none 0 0] 27)).alloc (.cells #[.int .i64 t.f, .int .i64 t.v, .slice none 0 0] 27)) := by
      refine ⟨?_, ?_, ?_, ?_, ?_, ?_, ?_, ?_, fun j => ?_, fun j => ?_, (((Below.refl _ _).alloc (Nat.le_refl _) _).alloc (by simp) _).alloc (by simp; omega) _, ?_⟩
      all_goals simp [go_sem]
    go_enter Try.func71, Try.ntmps71
    go_wp2_with fail
    go_loopw [4] (fun i wr => ∃ (k : Nat) (L : List FE) (av : Option Addr) (cv : Nat), k ≤ t.kids.length ∧ i = .int .i64 k ∧ NC w t a c (.slice av L.length cv) wr ∧ NR (w.heap.size + 1 + 1 + 1) L [] av cv wr ∧ Hid (L.map FE.t = t.kids.take k)) (fun i _ => t.kids.length - (intOf i).toNat)
    case atStart => exact ⟨0, [], none, 0, Nat.zero_le _, rfl, C0, NR.start _ _, by show _ = _; simp⟩
    case round =>
      obtain ⟨k, L, av, cv, hk, rfl, C, R, HL⟩ := hrel
      clear C0
      have p2 := C.p2
      have hz := C.z
      have hLl : L.length ≤ t.kids.length := by have := congrArg List.length HL.out; simp at this; omega
      by_cases hk' : k < t.kids.length
      · obtain ⟨b, off, a', c', rfl, hlt, d0, d1, d2, hkr⟩ := RdK.kid (HR.out.on (C.bel.mono hhi)) hk'
        have hints := HR.out.ints hk'
        have hpg := partsL_get hk'
        have hki : (k : Int) < (t.kids.length : Int) := by omega
        have hki0 : (0 : Int) ≤ (k : Int) := by omega
        have hkz : (L.length : Int) < (L.length : Int) + 1 := by omega
        have hLb : L.length ≤ 549755813888 := by omega
        have HK : Hid (L.map FE.t ++ [t.kids[k]] = t.kids.take (k + 1)) := by show _ = _; rw [HL.out, List.take_succ_eq_append_getElem hk']
        have I := fun (w' : World) (h : Below wr.heap.size wr w') => ih t.kids[k] a' c' hi w' (by omega) (by omega) (hkr.on (h.mono (Nat.le_trans hhi C.bel.size))) (Nat.le_trans (Nat.le_trans hhi C.bel.size) h.size) hints.1 hints.2
        have HI : Hid (isW t.kids[k].f ∧ isW t.kids[k].v) := hints
        generalize t.kids[k] = u at d0 d1 d2 I HK HI
        have q2 := C.q2
        clear hkr hints hpg ih hlt
        have hlb : b < wr.heap.size := World.block_lt_of_cell? _ _ d0
        have b1 : Below wr.heap.size wr (wr.alloc (.cells #[.int .i64 0, .int .i64 0, .slice none 0 0] 27)) := (Below.refl _ _).alloc (Nat.le_refl _) _
        have p2a := keepC b1 p2
        have q2a := keepC b1 q2
        have d0a := keepC b1 d0
        have d1a := keepC b1 d1
        have d2a := keepC b1 d2
        clear b1
        go_wp2_with fail
        go_region_law (first
          | (go_simp; go_at_call 71; refine (I (wr.drew.alloc (.cells #[.int .i64 0, .int .i64 0, .slice none 0 0] 27)) ((Below.refl _ _).drew.alloc (by simp) _)).mono ?_; rintro e1 w1 ⟨a1, c1, rfl, o1, hle1, hb1⟩; have C1 := (C.on ((Below.refl _ _).drew.alloc (by simp) _)).on hb1; have R1 := (R.on ((Below.refl _ _).drew.alloc (by simp) _)).join hb1 (fe_one o1 hle1 HI.out.1 HI.out.2 (Nat.le_of_lt_succ (by simp; omega))) (fun e he x hx => by simp only [List.mem_singleton] at he; subst he; exact hx.1); have z0 := keepC (p := ⟨wr.heap.size, 0, none⟩) (v := .int .i64 0) hb1 (by simp [go_sem]); have z1 := keepC (p := ⟨wr.heap.size, 1, none⟩) (v := .int .i64 0) hb1 (by simp [go_sem]); have z2 := keepC (p := ⟨wr.heap.size, 2, none⟩) (v := .slice none 0 0) hb1 (by simp [go_sem]); have c2' := C1.q2; have f2' := C1.fq 2; have hbw := C1.z; have hne : (Value.slice av L.length cv).ownBlock ≠ some (w.heap.size + 1 + 1) := (fun q => by have := (R1.row.lt _ q).1; omega); have hrow := R1.row; have hxl := hrow.1; have hsz1 := hb1.size; have HC : Hid _ := C1; have HRR : Hid _ := R1; clear C1 R1 hb1 o1)
          | (go_simp; go_at_call 71; refine (I wr.drew (Below.refl _ _).drew).mono ?_; rintro e1 w1 ⟨a1, c1, rfl, o1, hle1, hb1⟩; have C1 := (C.on (Below.refl _ _).drew).on hb1; have R1 := (R.on (Below.refl _ _).drew).join hb1 (fe_one o1 hle1 HI.out.1 HI.out.2 (Nat.le_of_lt_succ (by simp; omega))) (fun e he x hx => by simp only [List.mem_singleton] at he; subst he; exact hx.1); have zB : True := trivial; have c2' := C1.q2; have f2' := C1.fq 2; have hbw := C1.z; have hne : (Value.slice av L.length cv).ownBlock ≠ some (w.heap.size + 1 + 1) := (fun q => by have := (R1.row.lt _ q).1; omega); have hrow := R1.row; have hxl := hrow.1; have hsz1 := hb1.size; have HC : Hid _ := C1; have HRR : Hid _ := R1; clear C1 R1 hb1 o1)
          | (have _ := zB; refine step_append_own rfl (.tmp 18) (.tmp 25) 25 rfl (w.heap.size + 1 + 1 + 1) 27 i0 _ 3 40 Try.underlying25 hi0 hz0 hz1 hz2 rfl (by decide) (.slice av L.length cv) L.length (cs3 (L.map FE.cells)) (by first | (simp [Act.eval]; done) | simp [Act.eval, Act.put]) (own_on hrow (by repeat (first | exact Below.refl _ _ | refine Below.drew ?_ | refine Below.alloc ?_ (by simp) _))) ⟨w1.heap.size, 0, none⟩ 1 1 [.int .i64 u.f, .int .i64 u.v, .slice a1 u.kids.length c1] (by first | (simp [Act.eval]; done) | simp [Act.eval, Act.put]) rfl (three_at (by simp) (by simp) (by simp)) (three_cell _ _ _ _ _) (by unfold maxLen; omega) (by omega) (by simp <;> omega) ?_; intro v5 w5 hown5 hgrow5 hat5; have HA5 : Hid _ := hat5; obtain ⟨g5, c5, rfl, _⟩ := own_slot hown5; have HO5 : Hid _ := hown5; have HG5 : Hid _ := hgrow5; have A5 := cpy_app HC.out HRR.out (by repeat (first | exact Below.refl _ _ | refine Below.drew ?_ | refine Below.alloc ?_ (by simp) _)) hown5 hgrow5 hat5; have c4' := A5.1.q2; have f4' := A5.1.fq 2; have HA : Hid _ := A5; clear A5 hown5 hgrow5 hat5)
          | (refine step_append_own rfl (.tmp 18) (.tmp 25) 25 rfl (w.heap.size + 1 + 1 + 1) 27 i0 _ 3 40 Try.underlying25 hi0 hz0 hz1 hz2 rfl (by decide) (.slice av L.length cv) L.length (cs3 (L.map FE.cells)) (by first | (simp [Act.eval]; done) | simp [Act.eval, Act.put]) (own_on hrow (by repeat (first | exact Below.refl _ _ | refine Below.drew ?_ | refine Below.alloc ?_ (by simp) _))) ⟨wr.heap.size, 0, none⟩ 1 1 [.int .i64 0, .int .i64 0, .slice none 0 0] (by first | (simp [Act.eval]; done) | simp [Act.eval, Act.put]) rfl (three_at z0 z1 z2) (three_cell _ _ _ _ _) (by unfold maxLen; omega) (by omega) (by simp <;> omega) ?_; intro v5 w5 hown5 hgrow5 hat5; have PF := put_facts hrow.1 hown5 hgrow5 hat5 (by repeat (first | exact Below.refl _ _ | refine Below.drew ?_ | refine Below.alloc ?_ (by simp) _)) hbw c2' f2' hne; have HA5 : Hid _ := hat5; obtain ⟨g5, c5, rfl, ⟨e0, e1, e2⟩, ⟨f0, f1, f2⟩, c4', f4', hg5, hc5, hat'⟩ := PF; have HO5 : Hid _ := hown5; have HG5 : Hid _ := hgrow5; clear hown5 hgrow5 hat5))
        all_goals
          clear c4' f4'
          have A5 := HA.out
          have C6 := A5.1.set (.slice (some ⟨g5, 0, none⟩) (L.length + 1) c5)
          have R6 := A5.2.set (p := ⟨w.heap.size + 1 + 1, 2, none⟩) (.slice (some ⟨g5, 0, none⟩) (L.length + 1) c5) (by simp only; omega)
          clear A5 HA
          go_wp2_with fail
          refine ⟨⟨k + 1, L ++ [⟨u, a1, c1, _⟩], some ⟨g5, 0, none⟩, c5, by omega, by go_num, by simpa using C6, R6, ?_⟩, by simp [intOf]; omega⟩
          show _ = _
          rw [fe_snoc, HK.out]
      · have E : Hid (k = t.kids.length) := (by omega : k = t.kids.length)
        have q0 := C.q0
        have q1 := C.q1
        have q2 := C.q2
        have r0 := C.r0
        have r1 := C.r1
        have r2 := C.r2
        have fr := C.fr
        have hL : Hid (L.map FE.t = t.kids) := by
          show _ = _
          rw [HL.out, E.out, List.take_length]
        have O : OwnR wr (fun x => w.heap.size + 1 + 1 + 1 ≤ x ∧ x < wr.heap.size) av cv (L.map FE.t) := by
          rcases R.row.2 with ⟨hv, h0⟩ | ⟨g, cap, _, hv, _⟩
          · have : L = [] := List.length_eq_zero_iff.1 h0
            subst this; cases hv; exact .nil _
          · cases hv
            exact (by simpa using R.fo : Forest wr _ L).owns R.row (fun e he => R.ap g rfl e (by simpa using he)) (by omega)
        have hcl : L.length ≤ cv := by obtain ⟨_, _, h, hh⟩ := own_form R.row; cases h; exact hh
        have hbel := C.bel
        clear C R HL E ih
        go_wp2_with fail
        obtain ⟨z0, z1, z2⟩ := set3_cells (u := wr) (r := w.heap.size + 1) (x := .int .i64 t.f) (y := .int .i64 t.v) (z := .slice av L.length cv) r0 r1 r2
        have hn : ¬ (w.heap.size + 1 + 1 + 1 ≤ w.heap.size + 1 ∧ w.heap.size + 1 < wr.heap.size) := by omega
        have O3 := ((O.setCell ⟨w.heap.size + 1, 0, none⟩ hn (.int .i64 t.f)).setCell ⟨w.heap.size + 1, 1, none⟩ hn (.int .i64 t.v)).setCell ⟨w.heap.size + 1, 2, none⟩ hn (.slice av L.length cv)
        rw [← hL.out, List.length_map]
        refine bodyPost_ret (v := .agg #[.int .i64 t.f, .int .i64 t.v, .slice av L.length cv]) (by simp [results, Try.results71, go_sem, z0, z1, z2]) rfl ⟨av, cv, rfl, O3.mono (fun x hx => ⟨by omega, by simpa using hx.2⟩), hcl, ?_⟩
        exact ((hbel.setCell (p := ⟨w.heap.size + 1, 0, none⟩) (by simp) _).setCell (p := ⟨w.heap.size + 1, 1, none⟩) (by simp) _).setCell (p := ⟨w.heap.size + 1, 2, none⟩) (by simp) _
end Go.Proofs.Ytollijngiioonaa

/- Two drawn terms, of the same functions. Conditions: at most 1048576 bytes. -/
namespace Go.Proofs.Ytollijngiioonaa
set_option maxRecDepth 100000
open Go.RowKit

/-- While two terms are drawn: the answers' places, the cursor. -/
structure LB (w : World) (c : Nat) (a : Option Addr) (bs : List Int) (cap : Nat) (W : World) : Prop where
  bel : Below w.heap.size w W
  hc : w.heap.size + 1 < c
  cur : Cur 95 W c a bs cap
  s : C3 W w.heap.size (.int .i64 0) (.int .i64 0) (.slice none 0 0)
  u : C3 W (w.heap.size + 1) (.int .i64 0) (.int .i64 0) (.slice none 0 0)
  fs : ∀ j, W.frozen? ⟨w.heap.size, j, none⟩ = false
  fu : ∀ j, W.frozen? ⟨w.heap.size + 1, j, none⟩ = false
theorem LB.stay {w : World} {c : Nat} {a : Option Addr} {bs : List Int} {cap : Nat} {W W' : World} (h : LB w c a bs cap W) (hs : Stay (fun k => k ≠ c) W W') (hc : Cur 95 W' c a bs cap) : LB w c a bs cap W' := by
  have h1 := h.hc
  have h2 := h.u.lt
  exact ⟨h.bel.trans (hs.below h.bel.size (fun k hk => by omega)), h.hc, hc, h.s.stay hs (by omega), h.u.stay hs (by omega), fun j => (hs.frozen (p := ⟨w.heap.size, j, none⟩) (by simp only; omega) (by simp only; omega)).trans (h.fs j), fun j => (hs.frozen (p := ⟨w.heap.size + 1, j, none⟩) (by simp only; omega) (by simp only; omega)).trans (h.fu j)⟩
theorem LB.on {w : World} {c : Nat} {a : Option Addr} {bs : List Int} {cap : Nat} {W W' : World} (h : LB w c a bs cap W) (hb : Below W.heap.size W W') : LB w c a bs cap W' := h.stay (.of_below hb (fun _ hk _ => hk)) (h.cur.below hb)
/-- A drawn term in its box. -/
structure DB (c B : Nat) (t : TermD) (ta : Option Addr) (tc lo hi : Nat) (W : World) : Prop where
  b : C3 W B (.int .i64 t.f) (.int .i64 t.v) (.slice ta t.kids.length tc)
  fb : ∀ j, W.frozen? ⟨B, j, none⟩ = false
  own : OwnR W (fun x => lo ≤ x ∧ x < hi) ta tc t.kids
  le : t.kids.length ≤ tc
  wf : isW t.f ∧ isW t.v
  p : partsT t ≤ 15
  hc : c < lo
  hB : c < B
  hz : hi ≤ W.heap.size
theorem DB.stay {c B : Nat} {t : TermD} {ta : Option Addr} {tc lo hi : Nat} {W W' : World} (h : DB c B t ta tc lo hi W) (hs : Stay (fun k => k ≠ c) W W') : DB c B t ta tc lo hi W' := by
  have h1 := h.hc
  have h2 := h.hB
  have h3 := h.b.lt
  have h4 := h.hz
  exact ⟨h.b.stay hs (by omega), fun j => (hs.frozen (p := ⟨B, j, none⟩) h3 (by simp only; omega)).trans (h.fb j), h.own.frame (fun k hk => hs.block k (by omega) (by omega)) hs.size, h.le, h.wf, h.p, h.hc, h.hB, Nat.le_trans h4 hs.size⟩
theorem DB.on {c B : Nat} {t : TermD} {ta : Option Addr} {tc lo hi : Nat} {W W' : World} (h : DB c B t ta tc lo hi W) (hb : Below W.heap.size W W') : DB c B t ta tc lo hi W' := h.stay (.of_below hb (fun _ hk _ => hk))
/-- Another box is written. -/
theorem DB.other {c B D : Nat} {t : TermD} {ta : Option Addr} {tc lo hi : Nat} {W W' : World} (h : DB c B t ta tc lo hi W) (hs : Stay (fun k => k ≠ D) W W') (h1 : D ≠ B) (h2 : hi ≤ D ∨ D < lo) : DB c B t ta tc lo hi W' := by
  have h3 := h.b.lt
  have h4 := h.hz
  exact ⟨h.b.stay hs (by omega), fun j => (hs.frozen (p := ⟨B, j, none⟩) h3 (by simp only; omega)).trans (h.fb j), h.own.frame (fun k hk => hs.block k (by omega) (by omega)) hs.size, h.le, h.wf, h.p, h.hc, h.hB, Nat.le_trans h4 hs.size⟩
theorem DB.new {w W : World} {c N : Nat} {a : Option Addr} {bs : List Int} {cap : Nat} {t : TermD} {ta : Option Addr} {tc : Nat} (T : DrawT w c a bs cap N t ta tc W) (hN : N ≤ 15) (hc : c < w.heap.size) : DB c W.heap.size t ta tc w.heap.size W.heap.size (W.alloc (.cells #[.int .i64 t.f, .int .i64 t.v, .slice ta t.kids.length tc] 27)) := by
  have hb := (Below.refl W.heap.size W).alloc (Nat.le_refl _) (.cells #[.int .i64 t.f, .int .i64 t.v, .slice ta t.kids.length tc] 27)
  exact ⟨C3.new _ _ _ _ _, fun j => by simp, T.own.frame (fun k hk => hb.block k hk.2) hb.size, T.le, T.wf, Nat.le_trans T.parts hN, hc, Nat.lt_of_lt_of_le hc T.st.size, by simp⟩
/-- The box gets another term. -/
theorem DB.put {W W' : World} {c B : Nat} {t u : TermD} {ta ua : Option Addr} {tc uc lo hi : Nat} (h : DB c B t ta tc lo hi W) (hs : Stay (fun k => k ≠ c) W W') (ho : OwnR W' (fun x => W.heap.size ≤ x ∧ x < W'.heap.size) ua uc u.kids) (hle : u.kids.length ≤ uc) (hwf : isW u.f ∧ isW u.v) (hp : partsT u ≤ 15) :
    DB c B u ua uc W.heap.size W'.heap.size (((W'.setCell ⟨B, 0, none⟩ (.int .i64 u.f)).setCell ⟨B, 1, none⟩ (.int .i64 u.v)).setCell ⟨B, 2, none⟩ (.slice ua u.kids.length uc)) := by
  have h1 := h.stay hs
  have h3 := h.b.lt
  have h4 := h.hB
  have hn : ∀ j, ¬ (W.heap.size ≤ (⟨B, j, none⟩ : Addr).block ∧ (⟨B, j, none⟩ : Addr).block < W'.heap.size) := fun j q => by have := q.1; simp only at this; omega
  exact ⟨h1.b.set _ _ _, fun j => by rw [World.frozen?_setCell, World.frozen?_setCell, World.frozen?_setCell]; exact h1.fb j, ((ho.setCell ⟨B, 0, none⟩ (hn 0) _).setCell ⟨B, 1, none⟩ (hn 1) _).setCell ⟨B, 2, none⟩ (hn 2) _, hle, hwf, hp, by omega, h4, by simp⟩
theorem LB.box {w : World} {c : Nat} {a : Option Addr} {bs : List Int} {cap : Nat} {W : World} {B : Nat} (h : LB w c a bs cap W) (hbs : bs = [] ∨ ∀ x, a = some x → x.block < w.heap.size) (hB : c < B) (x y z : Value) : LB w c a bs cap (((W.setCell ⟨B, 0, none⟩ x).setCell ⟨B, 1, none⟩ y).setCell ⟨B, 2, none⟩ z) := by
  have h1 := h.hc
  have h2 := h.u.lt
  have hs := set3_stay W B x y z
  have hg : W.grownBy (((W.setCell ⟨B, 0, none⟩ x).setCell ⟨B, 1, none⟩ y).setCell ⟨B, 2, none⟩ z) (some B) := grown_then (grown_then (grown_set _ _ _ _) (grown_set _ _ _ _)) (grown_set _ _ _ _)
  exact ⟨h.bel.trans (hs.below h.bel.size (fun k hk => by omega)), h.hc, h.cur.grown hg (B := c + 1) (by omega) (by omega) (hbs.imp id (fun q x hx => by have := q x hx; omega)), h.s.stay hs (by omega), h.u.stay hs (by omega), fun j => (hs.frozen (p := ⟨w.heap.size, j, none⟩) (by simp only; omega) (by simp only; omega)).trans (h.fs j), fun j => (hs.frozen (p := ⟨w.heap.size + 1, j, none⟩) (by simp only; omega) (by simp only; omega)).trans (h.fu j)⟩

/-- What two drawn terms are. -/
structure Two (w : World) (g : Nat) (t : TermD) (ta : Option Addr) (tc : Nat) (u : TermD) (ua : Option Addr) (uc : Nat) (W : World) : Prop where
  bel : Below w.heap.size w W
  s : RdS W (some ⟨g, 0, none⟩) sig7
  hg : w.heap.size ≤ g
  o1 : OwnR W (fun x => w.heap.size ≤ x ∧ x < W.heap.size) ta tc t.kids
  o2 : OwnR W (fun x => w.heap.size ≤ x ∧ x < W.heap.size) ua uc u.kids
  l1 : t.kids.length ≤ tc
  l2 : u.kids.length ≤ uc
  w1 : isW t.f ∧ isW t.v
  w2 : isW u.f ∧ isW u.v
  p1 : partsT t ≤ 15
  p2 : partsT u ≤ 15
theorem rdS_stay {W X : World} {g : Nat} {S : Nat → Prop} {ss : List SymD} (hs : RdS W (some ⟨g, 0, none⟩) ss) (hx : Stay S W X) (hg : S g) : RdS X (some ⟨g, 0, none⟩) ss := by
  rcases hs with h | ⟨b, off, e, hlt, hc⟩
  · exact .inl h
  · cases e
    exact .inr ⟨g, 0, rfl, Nat.lt_of_lt_of_le hlt hx.size, fun i hi => ⟨hx.cell (hc i hi).1 hg, hx.cell (hc i hi).2.1 hg, hx.cell (hc i hi).2.2 hg⟩⟩
/-- Blocks below what is drawn may change, down to w0's. -/
theorem Two.stay {w w0 : World} {g : Nat} {t : TermD} {ta : Option Addr} {tc : Nat} {u : TermD} {ua : Option Addr} {uc : Nat} {W W' : World} (h : Two w g t ta tc u ua uc W) (hs : Stay (fun k => w.heap.size ≤ k) W W') (hb : Below w0.heap.size w0 W') (hw : w0.heap.size ≤ w.heap.size) : Two w0 g t ta tc u ua uc W' :=
  ⟨hb, rdS_stay h.s hs h.hg, Nat.le_trans hw h.hg, (h.o1.frame (fun k hk => hs.block k hk.2 hk.1) hs.size).mono (fun _ hk => ⟨Nat.le_trans hw hk.1, Nat.lt_of_lt_of_le hk.2 hs.size⟩), (h.o2.frame (fun k hk => hs.block k hk.2 hk.1) hs.size).mono (fun _ hk => ⟨Nat.le_trans hw hk.1, Nat.lt_of_lt_of_le hk.2 hs.size⟩), h.l1, h.l2, h.w1, h.w2, h.p1, h.p2⟩
theorem Two.on {w : World} {g : Nat} {t : TermD} {ta : Option Addr} {tc : Nat} {u : TermD} {ua : Option Addr} {uc : Nat} {W W' : World} (h : Two w g t ta tc u ua uc W) (hb : Below W.heap.size W W') : Two w g t ta tc u ua uc W' :=
  h.stay (.of_below hb (fun _ hk _ => hk)) (h.bel.trans (hb.mono h.bel.size)) (Nat.le_refl _)
end Go.Proofs.Ytollijngiioonaa

/- Two drawn terms, of the same functions: the drawing functions' contracts. Conditions: at most 1048576 bytes. -/
namespace Go.Proofs.Ytollijngiioonaa
set_option maxRecDepth 100000
open Go.RowKit

theorem below_chain {A X Y : World} (h : Below A.heap.size A X) (k : Below X.heap.size X Y) : Below A.heap.size A Y := h.trans (k.mono h.size)

theorem LB.start {w w1 : World} {a : Option Addr} {bs : List Int} {cap : Nat} {W : World} (hW : W = (w.alloc (.cells #[.int .i64 0, .int .i64 0, .slice none 0 0] 27)).alloc (.cells #[.int .i64 0, .int .i64 0, .slice none 0 0] 27)) (hC : Cur 95 w1 W.heap.size a bs cap) (hb : Below W.heap.size W w1) : LB w W.heap.size a bs cap w1 := by
  have h0 : Below w.heap.size w W := by rw [hW]; exact ((Below.refl _ _).alloc (Nat.le_refl _) _).alloc (by simp) _
  have hz : W.heap.size = w.heap.size + 1 + 1 := by rw [hW]; simp
  have s : C3 W w.heap.size (.int .i64 0) (.int .i64 0) (.slice none 0 0) := by rw [hW]; exact ⟨by simp [go_sem], by simp [go_sem], by simp [go_sem]⟩
  have u : C3 W (w.heap.size + 1) (.int .i64 0) (.int .i64 0) (.slice none 0 0) := by rw [hW]; exact ⟨by simp [go_sem], by simp [go_sem], by simp [go_sem]⟩
  have fs : ∀ j, W.frozen? ⟨w.heap.size, j, none⟩ = false := fun j => by rw [hW]; simp [go_sem]
  have fu : ∀ j, W.frozen? ⟨w.heap.size + 1, j, none⟩ = false := fun j => by rw [hW]; simp [go_sem]
  exact ⟨h0.trans (hb.mono h0.size), by omega, hC, s.on hb, u.on hb, fun j => (hb.frozen (p := ⟨w.heap.size, j, none⟩) (by simp only; omega)).trans (fs j), fun j => (hb.frozen (p := ⟨w.heap.size + 1, j, none⟩) (by simp only; omega)).trans (fu j)⟩

/-- The end: both answers laid into their places. -/
theorem two_end {w W X : World} {c : Nat} {a : Option Addr} {bs : List Int} {cap : Nat} {g Ba Bb la lb ha hb : Nat} {t u : TermD} {ta ua : Option Addr} {tc uc : Nat} (L : LB w c a bs cap W) (A : DB c Ba t ta tc la ha W) (B : DB c Bb u ua uc lb hb W) (hs : RdS W (some ⟨g, 0, none⟩) sig7) (hg : w.heap.size + 1 < g) (hx : Stay (fun k => k ≠ w.heap.size ∧ k ≠ w.heap.size + 1) W X) : Two w g t ta tc u ua uc X := by
  have h1 := L.hc
  have h2 := A.hc
  have h3 := B.hc
  have h4 := A.hz
  have h5 := B.hz
  have h6 := hx.size
  have a1 := A.own.frame (w' := X) (fun k hk => hx.block k (by omega) (by omega)) hx.size
  have a2 := B.own.frame (w' := X) (fun k hk => hx.block k (by omega) (by omega)) hx.size
  exact ⟨L.bel.trans (hx.below L.bel.size (fun k hk => by omega)), rdS_stay hs hx (by omega), by omega, a1.mono (fun k hk => by omega), a2.mono (fun k hk => by omega), A.le, B.le, A.wf, B.wf, A.p, B.p⟩

end Go.Proofs.Ytollijngiioonaa

