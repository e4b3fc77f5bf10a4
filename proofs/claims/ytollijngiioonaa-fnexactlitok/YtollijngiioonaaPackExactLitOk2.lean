/- What the proof of FnExactLitOk stands on, part 2 of 6: each piece says what it proves and under which conditions. Conditions: as each piece says. -/
import Derived.Test.YtollijngiioonaaPackExactLitOk1
import Derived.WalkKit
import Derived.ProofKit
import Derived.OpenShut
import Derived.WalkSmall
import Derived.Deep.QuietTactic
import Derived.BigQuiet
import Derived.Below
import Derived.Deep.Draws
import Derived.Test.YtollijngiioonaaProg
import Derived.RangeFuncNested
import Derived.RangeFuncCalls
import Derived.RangeFuncLeaves
/- Lists of functions (name, how many arguments, blind or not): what is right, and how they lie in memory. Conditions: none. -/
namespace Go.Proofs.Ytollijngiioonaa
set_option maxRecDepth 100000
open Go.RowKit


/-- A function as data. -/
structure SymD where
  name : ByteArray
  ar : Int
  ac : Bool

instance : Inhabited SymD := ⟨⟨ByteArray.empty, 0, false⟩⟩

/-- The slice of functions that begins at 'a' reads in w as ss. -/
def RdS (w : World) (a : Option Addr) (ss : List SymD) : Prop :=
  ss = [] ∨ ∃ b off, a = some ⟨b, off, none⟩ ∧ b < w.heap.size ∧ ∀ i, (h : i < ss.length) →
    w.cell? ⟨b, off + i * 3, none⟩ = some (.string ss[i].name) ∧ w.cell? ⟨b, off + i * 3 + 1, none⟩ = some (.int .i64 ss[i].ar) ∧ w.cell? ⟨b, off + i * 3 + 2, none⟩ = some (.bool ss[i].ac)

theorem RdS.below {w w' : World} {a : Option Addr} {ss : List SymD} (h : RdS w a ss) (hb : Below w.heap.size w w') : RdS w' a ss := by
  rcases h with h | ⟨b, off, rfl, hlt, hc⟩
  · exact .inl h
  · refine .inr ⟨b, off, rfl, Nat.lt_of_lt_of_le hlt hb.size, fun i hi => ?_⟩
    obtain ⟨h0, h1, h2⟩ := hc i hi
    exact ⟨(hb.cell (p := ⟨b, off + i * 3, none⟩) hlt).trans h0, (hb.cell (p := ⟨b, off + i * 3 + 1, none⟩) hlt).trans h1, (hb.cell (p := ⟨b, off + i * 3 + 2, none⟩) hlt).trans h2⟩

theorem ret_int {a b : Int} (h : a = b) : Ending.returned (.int .i64 a) = .returned (.int .i64 b) := by rw [h]

theorem ret_bool {a b : Bool} (h : a = b) : Ending.returned (.bool a) = .returned (.bool b) := by rw [h]

/-- Where the first function of that name stands; -1. -/
def symOf (ss : List SymD) (n : ByteArray) : Int := match ss.findIdx? (fun s => s.name.toList == n.toList) with
  | some i => i
  | none => -1

theorem symOf_hit {ss : List SymD} {n : ByteArray} {k : Nat} (hk : k < ss.length) (h0 : ∀ j, (h : j < ss.length) → j < k → (ss[j].name.toList == n.toList) = false) (h : (ss[k].name.toList == n.toList) = true) : symOf ss n = k := by
  have : ss.findIdx? (fun s => s.name.toList == n.toList) = some k := by
    rw [List.findIdx?_eq_some_iff_getElem]
    exact ⟨hk, h, fun j hj => by simp [h0 j (by omega) hj]⟩
  simp [symOf, this]

theorem symOf_none {ss : List SymD} {n : ByteArray} (h0 : ∀ j, (h : j < ss.length) → (ss[j].name.toList == n.toList) = false) : symOf ss n = -1 := by
  have : ss.findIdx? (fun s => s.name.toList == n.toList) = none := by
    rw [List.findIdx?_eq_none_iff]
    intro s hs
    obtain ⟨j, hj, rfl⟩ := List.getElem_of_mem hs
    exact h0 j hj
  simp [symOf, this]

/-- A function as a value. -/
def symV (s : SymD) : Value := .agg #[.string s.name, .int .i64 s.ar, .bool s.ac]

def symC (s : SymD) : List Value := [.string s.name, .int .i64 s.ar, .bool s.ac]

def symCs (ss : List SymD) : List Value := ss.flatMap symC

theorem symCs_len (ss : List SymD) : (symCs ss).length = ss.length * 3 := by
  induction ss with
  | nil => rfl
  | cons s ss ih => simp only [symCs, List.flatMap_cons, List.length_append] at *; rw [ih]; simp [symC]; omega

def zeroSym : SymD := ⟨⟨#[]⟩, 0, false⟩

theorem set3 (s : SymD) : ∀ (l : List SymD) (k : Nat), k < l.length → (((symCs l).set (k * 3) (.string s.name)).set (k * 3 + 1) (.int .i64 s.ar)).set (k * 3 + 2) (.bool s.ac) = symCs (l.set k s)
  | [], k, h => by simp at h
  | x :: l, 0, _ => by simp [symCs, symC]
  | x :: l, k + 1, h => by
    have ih := set3 s l k (by simpa using h)
    have e : ∀ (m : Nat) (L : List Value) (v : Value), (symC x ++ L).set (m + 3) v = symC x ++ L.set m v := by
      intro m L v
      simp [symC]
    have e0 : (k + 1) * 3 = k * 3 + 3 := by omega
    rw [List.set_cons_succ]
    simp only [symCs, List.flatMap_cons] at *
    rw [e0, e, show k * 3 + 3 + 1 = (k * 3 + 1) + 3 by omega, e, show k * 3 + 3 + 2 = (k * 3 + 2) + 3 by omega, e, ih]

theorem get3 : ∀ (l : List SymD) (k : Nat), (h : k < l.length) → (symCs l)[k * 3]? = some (.string l[k].name) ∧ (symCs l)[k * 3 + 1]? = some (.int .i64 l[k].ar) ∧ (symCs l)[k * 3 + 2]? = some (.bool l[k].ac)
  | [], k, h => by simp at h
  | x :: l, 0, _ => by simp [symCs, symC]
  | x :: l, k + 1, h => by
    have ih := get3 l k (by simpa using h)
    have e : ∀ (m : Nat) (L : List Value), (symC x ++ L)[m + 3]? = L[m]? := by
      intro m L
      rw [List.getElem?_append_right (by simp [symC])]
      simp [symC]
    have e0 : (k + 1) * 3 = k * 3 + 3 := by omega
    simp only [symCs, List.flatMap_cons, List.getElem_cons_succ] at *
    rw [e0, e, show k * 3 + 3 + 1 = (k * 3 + 1) + 3 by omega, e, show k * 3 + 3 + 2 = (k * 3 + 2) + 3 by omega, e]
    exact ih

theorem made3 : ∀ (n : Nat), (madeCells #[.string ⟨#[]⟩, .int .i64 0, .bool false] (n * 3)).toList = symCs (List.replicate n zeroSym)
  | 0 => by simp [madeCells, symCs]
  | n + 1 => by
    have ih := made3 n
    rw [List.replicate_succ', symCs, List.flatMap_append]
    rw [symCs] at ih
    rw [← ih]
    have e0 : (n + 1) * 3 = n * 3 + 1 + 1 + 1 := by omega
    rw [e0]
    simp only [madeCells, Array.toList_map, Array.toList_range, List.range_succ, List.map_append, List.map_cons, List.map_nil, List.append_assoc]
    have m0 : n * 3 % 3 = 0 := by omega
    have m1 : (n * 3 + 1) % 3 = 1 := by omega
    have m2 : (n * 3 + 1 + 1) % 3 = 2 := by omega
    simp [m0, m1, m2, symC, zeroSym]

theorem step3 {ss : List SymD} {k : Nat} (h : k < ss.length) : (ss.take k ++ List.replicate (ss.length - k) zeroSym).set k ss[k] = ss.take (k + 1) ++ List.replicate (ss.length - (k + 1)) zeroSym := by
  have l : (ss.take k).length = k := by rw [List.length_take]; omega
  have e : ss.length - k = (ss.length - (k + 1)) + 1 := by omega
  rw [List.set_append, if_neg (by omega), l, Nat.sub_self, e, List.replicate_succ, List.set_cons_zero, List.take_succ_eq_append_getElem h, List.append_assoc]
  rfl

theorem len3 {ss : List SymD} {k : Nat} (h : k ≤ ss.length) : ss.length = (ss.take k ++ List.replicate (ss.length - k) zeroSym).length := by simp; omega

theorem lt3 {ss : List SymD} {k : Nat} (h : k < ss.length) : k < (ss.take k ++ List.replicate (ss.length - k) zeroSym).length := by rw [← len3 (by omega)]; exact h

theorem own_belowS {w w' : World} {base : Nat} {e : TypeId} {size : Nat} {v : Value} {n : Nat} {xs : List Value} (h : w.ownsRow base e size v n xs) (hb : Below w.heap.size w w') : w'.ownsRow base e size v n xs := by
  have hl := h.lt
  obtain ⟨h1, h2⟩ := h
  refine ⟨h1, ?_⟩
  rcases h2 with h2 | ⟨g, cap, cur, rfl, hg, hh, r⟩
  · exact .inl h2
  · exact .inr ⟨g, cap, cur, rfl, hg, by rw [hb.block g (hl g rfl).2]; exact hh, r⟩

/-- Three stores that lay one function into an owned row. -/
theorem store3 {w : World} {T : TypeId} {B g c n : Nat} {l : List SymD} (s : SymD) {k : Nat} (hk : k < l.length) (h : w.ownsRow B T 3 (.slice (some ⟨g, 0, none⟩) n c) n (symCs l)) :
    (((w.setCell ⟨g, k * 3, none⟩ (.string s.name)).setCell ⟨g, k * 3 + 1, none⟩ (.int .i64 s.ar)).setCell ⟨g, k * 3 + 2, none⟩ (.bool s.ac)).ownsRow B T 3 (.slice (some ⟨g, 0, none⟩) n c) n (symCs (l.set k s)) := by
  have h1 := (((h.stored (k * 3) (.string s.name)).1.stored (k * 3 + 1) (.int .i64 s.ar)).1.stored (k * 3 + 2) (.bool s.ac)).1
  rwa [set3 s l k hk] at h1

theorem cells3 {w : World} {T : TypeId} {B g c n : Nat} {l : List SymD} {k : Nat} (hn : n = l.length) (hk : k < l.length) (h : w.ownsRow B T 3 (.slice (some ⟨g, 0, none⟩) n c) n (symCs l)) :
    w.cell? ⟨g, k * 3, none⟩ = some (.string l[k].name) ∧ w.cell? ⟨g, k * 3 + 1, none⟩ = some (.int .i64 l[k].ar) ∧ w.cell? ⟨g, k * 3 + 2, none⟩ = some (.bool l[k].ac) := by
  obtain ⟨g0, g1, g2⟩ := get3 l k hk
  exact ⟨(h.cellAt _ (by omega)).trans g0, (h.cellAt _ (by omega)).trans g1, (h.cellAt _ (by omega)).trans g2⟩

theorem RdS.own {w : World} {T : TypeId} {base g cap : Nat} {ss : List SymD} {n : Nat} (hn : n = ss.length) (h : w.ownsRow base T 3 (.slice (some ⟨g, 0, none⟩) n cap) n (symCs ss)) : RdS w (some ⟨g, 0, none⟩) ss := by
  refine .inr ⟨g, 0, rfl, (h.lt g rfl).2, fun i hi => ?_⟩
  have := cells3 hn hi h
  simpa using this


/-- How many bytes the names of the first functions take. -/
def bytesOf (ss : List SymD) : Nat := (ss.map fun s => s.name.size).sum

theorem bytesOf_next {ss : List SymD} {k : Nat} (h : k < ss.length) : bytesOf (ss.take (k + 1)) = bytesOf (ss.take k) + ss[k].name.size := by
  rw [List.take_succ_eq_append_getElem h, bytesOf, bytesOf, List.map_append, List.sum_append]
  simp only [List.map_cons, List.map_nil, List.sum_cons, List.sum_nil, Nat.add_zero]

/-- Whether two functions are alike. -/
def symEq (s t : SymD) : Bool := (s.name.toList == t.name.toList) && (s.ar == t.ar) && (s.ac == t.ac)

/-- Whether two lists of functions are alike. -/
def symsEq : List SymD → List SymD → Bool
  | [], [] => true
  | s :: ss, t :: ts => symEq s t && symsEq ss ts
  | _, _ => false

theorem symEq_self (s : SymD) : symEq s s = true := by simp [symEq]


/-- Whether byte c may stand at place i of a name. -/
def chOk (i : Nat) (c : UInt8) : Bool := (decide (97 ≤ c.toNat) && decide (c.toNat ≤ 122)) || (decide (0 < i) && decide (48 ≤ c.toNat) && decide (c.toNat ≤ 57))

/-- Whether the first k bytes may stand in a name. -/
def chsOk (s : ByteArray) : Nat → Bool
  | 0 => true
  | k + 1 => chsOk s k && (if h : k < s.size then chOk k s[k] else true)

def nameOk (s : ByteArray) : Bool := chsOk s s.size && decide (1 ≤ s.size) && decide (s.size ≤ 8)

theorem chs_bad (s : ByteArray) {k : Nat} (h : k < s.size) (hb : chOk k s[k] = false) : nameOk s = false := by
  have : ∀ n, k < n → chsOk s n = false := by
    intro n
    induction n with
    | zero => intro h; omega
    | succ n ih =>
      intro hn
      rw [chsOk]
      by_cases e : k = n
      · subst e; rw [dif_pos h, hb]; simp
      · rw [ih (by omega)]; simp
  rw [nameOk, this s.size h]; rfl

theorem name_pos {s : ByteArray} (h : chsOk s s.size = true) (h1 : (1 : Int) ≤ (s.size : Int)) : nameOk s = decide ((s.size : Int) ≤ 8) := by
  rw [nameOk, h, decide_eq_true (show 1 ≤ s.size by omega)]
  simp only [Bool.true_and]
  exact decide_eq_decide.2 (by omega)

theorem name_neg {s : ByteArray} (h1 : ¬ (1 : Int) ≤ (s.size : Int)) : nameOk s = false := by
  rw [nameOk, decide_eq_false (show ¬ 1 ≤ s.size by omega)]; simp

/-- Whether the function of that number is blind; how many arguments it has. -/
def blindAt (ss : List SymD) (f : Int) : Bool := if 0 ≤ f then (ss[f.toNat]?.map SymD.ac).getD false else false

def arityAt (ss : List SymD) (f : Int) : Int := if 0 ≤ f then (ss[f.toNat]?.map SymD.ar).getD (-1) else -1

theorem blindAt_in {ss : List SymD} {k : Nat} (h : k < ss.length) : blindAt ss k = ss[k].ac := by simp [blindAt, h]

theorem arityAt_in {ss : List SymD} {k : Nat} (h : k < ss.length) : arityAt ss k = ss[k].ar := by simp [arityAt, h]

theorem at_out {ss : List SymD} {f : Int} (h : f < 0 ∨ (ss.length : Int) - 1 < f) : blindAt ss f = false ∧ arityAt ss f = -1 := by
  unfold blindAt arityAt
  by_cases h0 : 0 ≤ f
  · have : ss[f.toNat]? = none := by rw [List.getElem?_eq_none_iff]; omega
    simp [this]
  · simp [h0]


/-- Whether function k of the list is right. -/
def goodAt (ss : List SymD) (k : Nat) (s : SymD) : Bool := nameOk s.name && (symOf ss s.name == (k : Int)) && (decide (0 ≤ s.ar) && decide (s.ar ≤ 3)) && (!s.ac || s.ar == 2)

def goodTo (ss : List SymD) : Nat → Bool
  | 0 => true
  | k + 1 => goodTo ss k && (if h : k < ss.length then goodAt ss k ss[k] else true)

def isTT (s : SymD) : Bool := (s.name.toList == [116, 116]) && (s.ar == 0) && !s.ac

def sigOk (ss : List SymD) : Bool := goodTo ss ss.length && (decide (1 ≤ ss.length) && decide (ss.length ≤ 8)) && (ss.head?.map isTT).getD false

theorem sig_bad {ss : List SymD} {k : Nat} (h : k < ss.length) (hb : goodAt ss k ss[k] = false) : sigOk ss = false := by
  have : ∀ n, k < n → goodTo ss n = false := by
    intro n
    induction n with
    | zero => intro h; omega
    | succ n ih =>
      intro hn
      rw [goodTo]
      by_cases e : k = n
      · subst e; rw [dif_pos h, hb]; simp
      · rw [ih (by omega)]; simp
  rw [sigOk, this ss.length h]; rfl

theorem good_next {ss : List SymD} {k : Nat} (h : k < ss.length) (h0 : goodTo ss k = true) (hg : goodAt ss k ss[k] = true) : goodTo ss (k + 1) = true := by
  rw [goodTo, h0, dif_pos h, hg]; rfl

theorem sig_end {ss : List SymD} (h : goodTo ss ss.length = true) (h1 : 0 < ss.length) (h8 : ss.length ≤ 8) : sigOk ss = isTT ss[0] := by
  rw [sigOk, h, decide_eq_true (show 1 ≤ ss.length by omega), decide_eq_true h8]
  cases ss with
  | nil => simp at h1
  | cons s ss => simp
end Go.Proofs.Ytollijngiioonaa

/- Whether a function is blind, as the specification tells it. Conditions: at most 1048577 functions. -/
namespace Go.Proofs.Ytollijngiioonaa
set_option maxRecDepth 100000
open Go.RowKit

set_option maxHeartbeats 800000 in
theorem specBlind_any (a : Option Addr) (ss : List SymD) (n cap : Nat) (f : Int) (w : World) (hn : n = ss.length) (hr : RdS w a ss) (hl : ss.length ≤ 1048577) (hf0 : -9223372036854775808 ≤ f) (hf1 : f ≤ 9223372036854775807) :
    Calls Try.prog 46 #[.slice a n cap, .int .i64 f] w fun e w' => e = .returned (.bool (blindAt ss f)) ∧ w' = w := by
  subst hn
  by_cases h0 : 0 ≤ f
  · by_cases h1 : f ≤ (ss.length : Int) - 1
    · obtain ⟨k, rfl⟩ := Int.eq_ofNat_of_zero_le h0
      have hk : k < ss.length := by omega
      rcases hr with rfl | ⟨b, off, rfl, hlt, hc⟩
      · simp at hk
      · obtain ⟨c0, c1, c2⟩ := hc k hk
        have hk2 : (k : Int) < (ss.length : Int) := by omega
        clear hc
        go_enter Try.func46, Try.ntmps46
        go_wp2_with go_in
        go_ret
        exact ⟨ret_bool (blindAt_in hk).symm, rfl⟩
    · have HN : Hid (blindAt ss f = false ∧ arityAt ss f = -1) := at_out (.inr (by omega))
      go_enter Try.func46, Try.ntmps46
      go_wp2_with go_in
      go_ret
      exact ⟨ret_bool HN.out.1.symm, rfl⟩
  · have HN : Hid (blindAt ss f = false ∧ arityAt ss f = -1) := at_out (.inl (by omega))
    go_enter Try.func46, Try.ntmps46
    go_wp2_with go_in
    go_ret
    exact ⟨ret_bool HN.out.1.symm, rfl⟩

end Go.Proofs.Ytollijngiioonaa

/- Contracts of the specification's functions on lists of functions. Conditions: at most 1048577 functions, names of at most 1048576 bytes. -/
namespace Go.Proofs.Ytollijngiioonaa
set_option maxRecDepth 100000
open Go.RowKit

set_option maxHeartbeats 800000 in
theorem specSymOf_any (a : Option Addr) (ss : List SymD) (n cap : Nat) (nm : ByteArray) (w : World) (hn : n = ss.length) (hr : RdS w a ss) (hl : ss.length ≤ 1048577) :
    Calls Try.prog 91 #[.slice a n cap, .string nm] w fun e w' => e = .returned (.int .i64 (symOf ss nm)) ∧ w' = w := by
  subst hn
  rcases hr with rfl | ⟨b, off, rfl, hlt, hc⟩
  · go_enter Try.func91, Try.ntmps91
    go_wp2
    refine wp_loop_rounds 1 ?_
    rw [rounds_succ]
    go_wp2
    go_ret
    exact ⟨rfl, rfl⟩
  · go_enter Try.func91, Try.ntmps91
    go_wp2
    go_loop [5] (fun i => ∃ k : Nat, k ≤ ss.length ∧ i = .int .i64 k ∧ Hid (∀ j, (h : j < ss.length) → j < k → (ss[j].name.toList == nm.toList) = false)) (fun i => ss.length - (intOf i).toNat)
    case atStart => exact ⟨0, Nat.zero_le _, rfl, fun j _ hj => absurd hj (by omega)⟩
    case round =>
      obtain ⟨k, hk, rfl, H0⟩ := hrel
      by_cases hk' : k < ss.length
      · obtain ⟨c0, c1, c2⟩ := hc k hk'
        clear hc
        go_wp2
        · go_ret
          exact ⟨ret_int (symOf_hit hk' (fun j h hj => H0.out j h hj) (by assumption)).symm, rfl⟩
        · have hf : (ss[k].name.toList == nm.toList) = false := by assumption
          go_round
          case rel => exact ⟨k + 1, by omega, by go_num, fun j h hj => by
            by_cases e : j = k
            · subst e; exact hf
            · exact H0.out j h (by omega)⟩
          case measure => simp [intOf]; omega
      · go_wp2
        go_ret
        exact ⟨ret_int (symOf_none fun j hj => H0.out j hj (by omega)).symm, rfl⟩

set_option maxHeartbeats 1600000 in
theorem specNameOk_any (s : ByteArray) (w : World) (hs : s.size ≤ 9223372036854775806) :
    Calls Try.prog 90 #[.string s] w fun e w' => e = .returned (.bool (nameOk s)) ∧ w' = w := by
  go_enter Try.func90, Try.ntmps90
  go_wp2
  go_loop [3] (fun i => ∃ k : Nat, k ≤ s.size ∧ i = .int .i64 k ∧ Hid (chsOk s k = true)) (fun i => s.size - (intOf i).toNat)
  case atStart => exact ⟨0, Nat.zero_le _, rfl, rfl⟩
  case round =>
    obtain ⟨k, hk, rfl, HA⟩ := hrel
    by_cases hk' : k < s.size
    · have HG : Hid (chOk k s[k] = true → chsOk s (k + 1) = true) := fun h => by rw [chsOk, HA.out, dif_pos hk', h]; rfl
      have HB : Hid (chOk k s[k] = false → nameOk s = false) := chs_bad s hk'
      rcases (show ((97 : Int) ≤ (s[k].toNat : Int) ∧ (s[k].toNat : Int) ≤ 122) ∨ (122 : Int) < (s[k].toNat : Int) ∨ ((57 : Int) < (s[k].toNat : Int) ∧ (s[k].toNat : Int) < 97) ∨ ((48 : Int) ≤ (s[k].toNat : Int) ∧ (s[k].toNat : Int) ≤ 57) ∨ (s[k].toNat : Int) < 48 by omega) with ⟨h1, h2⟩ | h1 | ⟨h1, h2⟩ | ⟨h1, h2⟩ | h1
      · have HC : Hid (chsOk s (k + 1) = true) := HG.out (by simp [chOk]; omega)
        go_wp2
        go_round
        case rel => exact ⟨k + 1, by omega, by go_num, HC⟩
        case measure => simp [intOf]; omega
      · have HC : Hid (nameOk s = false) := HB.out (by simp [chOk]; omega)
        have hd1 : decide ((s[k].toNat : Int) ≤ 122) = false := by simp; omega
        have hd2 : decide ((s[k].toNat : Int) ≤ 57) = false := by simp; omega
        by_cases hk0 : (0 : Int) < (k : Int)
        all_goals
          go_wp2
          go_ret
          exact ⟨ret_bool HC.out.symm, rfl⟩
      · have HC : Hid (nameOk s = false) := HB.out (by simp [chOk]; omega)
        have hd2 : decide ((s[k].toNat : Int) ≤ 57) = false := by simp; omega
        by_cases hk0 : (0 : Int) < (k : Int)
        all_goals
          go_wp2
          go_ret
          exact ⟨ret_bool HC.out.symm, rfl⟩
      · by_cases hk0 : (0 : Int) < (k : Int)
        · have HC : Hid (chsOk s (k + 1) = true) := HG.out (by simp [chOk]; omega)
          have hd2 : decide ((s[k].toNat : Int) ≤ 57) = true := by simp; omega
          go_wp2
          go_round
          case rel => exact ⟨k + 1, by omega, by go_num, HC⟩
          case measure => simp [intOf]; omega
        · have HC : Hid (nameOk s = false) := HB.out (by simp [chOk]; omega)
          go_wp2
          go_ret
          exact ⟨ret_bool HC.out.symm, rfl⟩
      · have HC : Hid (nameOk s = false) := HB.out (by simp [chOk]; omega)
        by_cases hk0 : (0 : Int) < (k : Int)
        all_goals
          go_wp2
          go_ret
          exact ⟨ret_bool HC.out.symm, rfl⟩
    · have e : k = s.size := by omega
      have HC : Hid (chsOk s s.size = true) := by rw [← e]; exact HA
      clear e HA
      by_cases h1 : (1 : Int) ≤ (s.size : Int)
      · have HN : Hid (nameOk s = decide ((s.size : Int) ≤ 8)) := name_pos HC.out h1
        go_wp2_with go_in
        go_ret
        exact ⟨ret_bool HN.out.symm, rfl⟩
      · have HN : Hid (nameOk s = false) := name_neg h1
        go_wp2_with go_in
        go_ret
        exact ⟨ret_bool HN.out.symm, rfl⟩

set_option maxHeartbeats 3200000 in
theorem specSigOk_any (a : Option Addr) (ss : List SymD) (n cap : Nat) (w : World) (hn : n = ss.length) (hr : RdS w a ss) (hl : ss.length ≤ 1048577) (hnm : ∀ s ∈ ss, s.name.size ≤ 1048576) :
    Calls Try.prog 74 #[.slice a n cap] w fun e w' => e = .returned (.bool (sigOk ss)) ∧ w' = w := by
  subst hn
  have HR : Hid (RdS w a ss) := hr
  rcases hr with rfl | ⟨b, off, rfl, hlt, hc⟩
  · go_enter Try.func74, Try.ntmps74
    go_wp2
    refine wp_loop_rounds 1 ?_
    rw [rounds_succ]
    go_wp2_with go_in
    go_ret
    exact ⟨rfl, rfl⟩
  · go_enter Try.func74, Try.ntmps74
    go_wp2
    go_loop [3] (fun i => ∃ k : Nat, k ≤ ss.length ∧ i = .int .i64 k ∧ Hid (goodTo ss k = true)) (fun i => ss.length - (intOf i).toNat)
    case atStart => exact ⟨0, Nat.zero_le _, rfl, rfl⟩
    case round =>
      obtain ⟨k, hk, rfl, HA⟩ := hrel
      by_cases hk' : k < ss.length
      · obtain ⟨c0, c1, c2⟩ := hc k hk'
        have hsz := hnm ss[k] (List.getElem_mem hk')
        have NM := specNameOk_any ss[k].name w (by omega)
        have SO := specSymOf_any (some ⟨b, off, none⟩) ss _ cap ss[k].name w rfl HR.out hl
        have HB : Hid (goodAt ss k ss[k] = false → sigOk ss = false) := sig_bad hk'
        have HG : Hid (goodAt ss k ss[k] = true → goodTo ss (k + 1) = true) := good_next hk' HA.out
        have DG : Hid (goodAt ss k ss[k] = (nameOk ss[k].name && (symOf ss ss[k].name == (k : Int)) && (decide (0 ≤ ss[k].ar) && decide (ss[k].ar ≤ 3)) && (!ss[k].ac || ss[k].ar == 2))) := rfl
        generalize hav : ss[k].ar = av at c1 DG
        generalize hcv : ss[k].ac = cv at c2 DG
        generalize hnv : ss[k].name = nv at c0 NM SO DG
        clear hc hnm hsz hav hcv hnv
        cases hN : nameOk nv with
        | false =>
          rw [hN] at NM DG
          have HC : Hid (sigOk ss = false) := HB.out (by rw [DG.out]; rfl)
          clear HB HG DG SO hN
          go_wp2_with (go_at_call 90; refine NM.mono ?_; rintro e w' ⟨rfl, hw⟩; subst w')
          go_ret
          exact ⟨ret_bool HC.out.symm, rfl⟩
        | true =>
          rw [hN] at NM DG
          clear hN
          generalize symOf ss nv = so at SO DG
          by_cases hS : so = (k : Int)
          · subst hS
            by_cases h3 : 0 ≤ av ∧ av ≤ 3
            · obtain ⟨h31, h32⟩ := h3
              cases cv with
              | false =>
                have HC : Hid (goodTo ss (k + 1) = true) := HG.out (by rw [DG.out]; simp; omega)
                clear HB HG DG
                go_wp2_with (first | (go_at_call 90; refine NM.mono ?_; rintro e w' ⟨rfl, hw⟩; subst w') | (go_at_call 91; refine SO.mono ?_; rintro e w' ⟨rfl, hw⟩; subst w') | (go_at_call 48; go_in))
                go_round
                case rel => exact ⟨k + 1, by omega, by go_num, HC⟩
                case measure => simp [intOf]; omega
              | true =>
                by_cases h2 : av = 2
                · subst h2
                  have HC : Hid (goodTo ss (k + 1) = true) := HG.out (by rw [DG.out]; simp)
                  clear HB HG DG
                  go_wp2_with (first | (go_at_call 90; refine NM.mono ?_; rintro e w' ⟨rfl, hw⟩; subst w') | (go_at_call 91; refine SO.mono ?_; rintro e w' ⟨rfl, hw⟩; subst w') | (go_at_call 48; go_in))
                  go_round
                  case rel => exact ⟨k + 1, by omega, by go_num, HC⟩
                  case measure => simp [intOf]; omega
                · have HC : Hid (sigOk ss = false) := HB.out (by rw [DG.out]; simp [h2])
                  have h2' : (av != 2) = true := by simpa using h2
                  clear HB HG DG h2
                  go_wp2_with (first | (go_at_call 90; refine NM.mono ?_; rintro e w' ⟨rfl, hw⟩; subst w') | (go_at_call 91; refine SO.mono ?_; rintro e w' ⟨rfl, hw⟩; subst w') | (go_at_call 48; go_in))
                  go_ret
                  exact ⟨ret_bool HC.out.symm, rfl⟩
            · have HC : Hid (sigOk ss = false) := HB.out (by rw [DG.out]; simp; omega)
              clear HB HG DG
              rcases (show av < 0 ∨ 3 < av by omega) with h3 | h3
              all_goals
                go_wp2_with (first | (go_at_call 90; refine NM.mono ?_; rintro e w' ⟨rfl, hw⟩; subst w') | (go_at_call 91; refine SO.mono ?_; rintro e w' ⟨rfl, hw⟩; subst w') | (go_at_call 48; go_in))
                go_ret
                exact ⟨ret_bool HC.out.symm, rfl⟩
          · have HC : Hid (sigOk ss = false) := HB.out (by rw [DG.out]; simp [hS])
            have hS' : (so != (k : Int)) = true := by simpa using hS
            clear HB HG DG hS
            go_wp2_with (first | (go_at_call 90; refine NM.mono ?_; rintro e w' ⟨rfl, hw⟩; subst w') | (go_at_call 91; refine SO.mono ?_; rintro e w' ⟨rfl, hw⟩; subst w'))
            go_ret
            exact ⟨ret_bool HC.out.symm, rfl⟩
      · have e : k = ss.length := by omega
        have HC : Hid (goodTo ss ss.length = true) := by rw [← e]; exact HA
        clear e HA hnm
        by_cases h1 : (1 : Int) ≤ (ss.length : Int)
        · by_cases h8 : (ss.length : Int) ≤ 8
          · obtain ⟨c0, c1, c2⟩ := hc 0 (by omega)
            simp only [Nat.zero_mul, Nat.add_zero] at c0 c1 c2
            have hp : (0 : Int) < (ss.length : Int) := by omega
            have HE : Hid (sigOk ss = isTT ss[0]) := sig_end HC.out (by omega) (by omega)
            clear hc
            go_wp2_with (go_at_call 48; go_in)
            · have q3 : ss[0].ac = true := by assumption
              go_ret
              exact ⟨ret_bool (by rw [HE.out, isTT, q3]; simp), rfl⟩
            · have q1 : ss[0].name.toList = [116, 116] := by assumption
              have q2 : ss[0].ar = 0 := by assumption
              have q3 : ¬ ss[0].ac = true := by assumption
              go_ret
              exact ⟨ret_bool (by rw [HE.out, isTT, q1, q2]; simp [q3]), rfl⟩
            · have q2 : ¬ ss[0].ar = 0 := by assumption
              go_ret
              exact ⟨ret_bool (by rw [HE.out, isTT]; simp [q2]), rfl⟩
            · have q1 : ¬ ss[0].name.toList = [116, 116] := by assumption
              go_ret
              exact ⟨ret_bool (by rw [HE.out, isTT]; simp [q1]), rfl⟩
          · have HN : Hid (sigOk ss = false) := by show _ = _; rw [sigOk, decide_eq_false (show ¬ ss.length ≤ 8 by omega)]; simp
            clear hc
            go_wp2_with (go_at_call 48; go_in)
            go_ret
            exact ⟨ret_bool HN.out.symm, rfl⟩
        · have HN : Hid (sigOk ss = false) := by show _ = _; rw [sigOk, decide_eq_false (show ¬ 1 ≤ ss.length by omega)]; simp
          clear hc
          go_wp2_with (go_at_call 48; go_in)
          go_ret
          exact ⟨ret_bool HN.out.symm, rfl⟩
end Go.Proofs.Ytollijngiioonaa

/- The order of terms as plain mathematics, and a stack of pairs of lists still to be held against each other. Conditions: none. -/
namespace Go.Proofs.Ytollijngiioonaa
set_option maxRecDepth 100000
open Go.RowKit

/-- The least number of which p holds (0 where there is none). -/
theorem least_ex {p : Nat → Prop} (h : ∃ n, p n) : ∃ n, p n ∧ ∀ m, p m → n ≤ m := by
  obtain ⟨n, hn⟩ := h
  induction n using Nat.strongRecOn with
  | ind n ih =>
    by_cases hm : ∃ m, m < n ∧ p m
    · obtain ⟨m, hlt, hp⟩ := hm; exact ih m hlt hp
    · exact ⟨n, hn, fun m hp => Nat.le_of_not_lt fun hlt => hm ⟨m, hlt, hp⟩⟩

open Classical in
noncomputable def leastN (p : Nat → Prop) : Nat := if h : ∃ n, p n ∧ ∀ m, p m → n ≤ m then Classical.choose h else 0

theorem leastN_spec {p : Nat → Prop} (h : ∃ n, p n) : ∃ n, p n ∧ leastN p = n := by
  have h' := least_ex h
  refine ⟨leastN p, ?_, rfl⟩
  unfold leastN
  rw [dif_pos h']
  exact (Classical.choose_spec h').1
theorem leastN_le {p : Nat → Prop} {n : Nat} (h : p n) : leastN p ≤ n := by
  have h' := least_ex ⟨n, h⟩
  unfold leastN
  rw [dif_pos h']
  exact (Classical.choose_spec h').2 n h

def cmpI (x y : Int) : Int := if x < y then -1 else if y < x then 1 else 0
theorem cmpI_zero {x y : Int} : cmpI x y = 0 ↔ x = y := by unfold cmpI; split <;> (try split) <;> omega
theorem cmpI_self (x : Int) : cmpI x x = 0 := cmpI_zero.2 rfl
theorem cmpI_bd (x y : Int) : -1 ≤ cmpI x y ∧ cmpI x y ≤ 1 := by unfold cmpI; split <;> (try split) <;> omega
theorem cmpI_neg {x y : Int} : cmpI x y < 0 ↔ x < y := by unfold cmpI; split <;> (try split) <;> omega

/-- The first of three that is not 0. -/
def or3 (x y z : Int) : Int := if x ≠ 0 then x else if y ≠ 0 then y else z
/-- How the heads of two terms stand to each other. -/
def headO (t u : TermD) : Int := or3 (cmpI t.f u.f) (cmpI t.v u.v) (cmpI t.kids.length u.kids.length)

theorem headO_zero {t u : TermD} : headO t u = 0 ↔ t.f = u.f ∧ t.v = u.v ∧ t.kids.length = u.kids.length := by
  unfold headO or3
  by_cases h1 : t.f = u.f
  · have e1 := cmpI_zero.2 h1
    by_cases h2 : t.v = u.v
    · have e2 := cmpI_zero.2 h2
      simp only [e1, e2, ne_eq, not_true_eq_false, if_false, cmpI_zero]
      constructor
      · intro h; exact ⟨h1, h2, by omega⟩
      · intro h; omega
    · have e2 := mt cmpI_zero.1 h2
      simp [e1, e2, h2]
  · have e1 := mt cmpI_zero.1 h1
    simp [e1, h1]
theorem headO_bd (t u : TermD) : -1 ≤ headO t u ∧ headO t u ≤ 1 := by
  unfold headO or3
  have h1 := cmpI_bd t.f u.f; have h2 := cmpI_bd t.v u.v; have h3 := cmpI_bd t.kids.length u.kids.length
  split
  · exact h1
  · split
    · exact h2
    · exact h3

mutual
/-- How two terms stand to each other. -/
def ordT : TermD → TermD → Int
  | .mk f v ks, .mk f' v' ks' => if headO (.mk f v ks) (.mk f' v' ks') ≠ 0 then headO (.mk f v ks) (.mk f' v' ks') else ordL ks ks'
def ordL : List TermD → List TermD → Int
  | t :: ts, u :: us => if ordT t u ≠ 0 then ordT t u else ordL ts us
  | _, _ => 0
end
theorem ordT_eq (t u : TermD) : ordT t u = if headO t u ≠ 0 then headO t u else ordL t.kids u.kids := by
  cases t; cases u; rw [ordT]; rfl
theorem ordL_cons (t u : TermD) (ts us : List TermD) : ordL (t :: ts) (u :: us) = if ordT t u ≠ 0 then ordT t u else ordL ts us := by rw [ordL]
theorem ordL_nil : ordL [] [] = 0 := by rw [ordL]; simp

mutual
theorem ordT_same : ∀ t u : TermD, (ordT t u = 0) ↔ sameT t u = true
  | .mk f v ks, .mk f' v' ks' => by
    have hL : ks.length = ks'.length → ((ordL ks ks' = 0) ↔ sameL ks ks' = true) := ordL_same ks ks'
    rw [ordT_eq, sameT_eq]
    by_cases h : headO (.mk f v ks) (.mk f' v' ks') = 0
    · have e := headO_zero.1 h
      simp only [h, ne_eq, not_true_eq_false, if_false]
      obtain ⟨e1, e2, e3⟩ := e
      simp only [e1, e2, e3, beq_self_eq_true, Bool.true_and]
      exact hL e3
    · have e := mt headO_zero.2 h
      simp only [h, ne_eq, not_false_eq_true, if_true, false_iff]
      intro hh
      simp only [Bool.and_eq_true, beq_iff_eq] at hh
      exact e ⟨hh.1.1.1, hh.1.1.2, hh.1.2⟩
theorem ordL_same : ∀ ts us : List TermD, ts.length = us.length → ((ordL ts us = 0) ↔ sameL ts us = true)
  | [], us, _ => by
    cases us with
    | nil => simp [ordL, sameL]
    | cons u us => simp [ordL, sameL]
  | t :: ts, [], h => by simp at h
  | t :: ts, u :: us, h => by
    have h1 := ordT_same t u
    have h2 := ordL_same ts us (by simpa using h)
    rw [ordL_cons]
    by_cases e : ordT t u = 0
    · simp only [e, ne_eq, not_true_eq_false, if_false]
      rw [h2]
      simp [sameL, h1.1 e]
    · simp only [e, ne_eq, not_false_eq_true, if_true, false_iff]
      simp only [sameL, Bool.and_eq_true]
      intro hh
      exact e (h1.2 hh.1)
end

mutual
theorem ordT_bef : ∀ t u : TermD, decide (ordT t u < 0) = befT t u
  | .mk f v ks, .mk f' v' ks' => by
    have hL : ks.length = ks'.length → decide (ordL ks ks' < 0) = befL ks ks' := ordL_bef ks ks'
    rw [ordT_eq, befT_eq]
    show decide ((if headO (TermD.mk f v ks) (.mk f' v' ks') ≠ 0 then headO (.mk f v ks) (.mk f' v' ks') else ordL ks ks') < 0) = (if f ≠ f' then decide (f < f') else if v ≠ v' then decide (v < v') else if ks.length ≠ ks'.length then decide (ks.length < ks'.length) else befL ks ks')
    have hd : headO (TermD.mk f v ks) (.mk f' v' ks') = or3 (cmpI f f') (cmpI v v') (cmpI ks.length ks'.length) := rfl
    rw [hd]
    unfold or3
    by_cases h1 : f = f'
    · subst h1
      by_cases h2 : v = v'
      · subst h2
        by_cases h3 : ks.length = ks'.length
        · simp [cmpI_self, h3, hL h3]
        · have e : cmpI (ks.length : Int) (ks'.length : Int) ≠ 0 := mt cmpI_zero.1 (by omega)
          simp [cmpI_self, h3, e, cmpI_neg]
      · have e : cmpI v v' ≠ 0 := mt cmpI_zero.1 h2
        simp [cmpI_self, h2, e, cmpI_neg]
    · have e : cmpI f f' ≠ 0 := mt cmpI_zero.1 h1
      simp [h1, e, cmpI_neg]
theorem ordL_bef : ∀ ts us : List TermD, ts.length = us.length → decide (ordL ts us < 0) = befL ts us
  | [], us, _ => by
    cases us with
    | nil => simp [ordL, befL]
    | cons u us => simp [ordL, befL]
  | t :: ts, [], h => by simp at h
  | t :: ts, u :: us, h => by
    have h0 := ordT_same t u
    have h1 := ordT_bef t u
    have h2 := ordL_bef ts us (by simpa using h)
    rw [ordL_cons]
    cases hs : sameT t u with
    | true =>
      have e := h0.2 hs
      simp [e, befL, hs, h2]
    | false =>
      have e : ordT t u ≠ 0 := fun e => by rw [h0.1 e] at hs; cases hs
      simp [e, befL, hs, h1]
end

/-- What the stack comes to, its top first. -/
def ordS : List (List TermD × List TermD) → Int
  | [] => 0
  | p :: S => if ordL p.1 p.2 ≠ 0 then ordL p.1 p.2 else ordS S
/-- How much is left on it. -/
def sizeS : List (List TermD × List TermD) → Nat
  | [] => 0
  | p :: S => 2 * partsL p.1 + 1 + sizeS S

theorem ordS_pop (S : List (List TermD × List TermD)) : ordS (([], []) :: S) = ordS S := by simp [ordS, ordL_nil]
theorem ordS_hit {t u : TermD} {ts us : List TermD} {S : List (List TermD × List TermD)} (h : headO t u ≠ 0) : ordS ((t :: ts, u :: us) :: S) = headO t u := by
  have e : ordT t u = headO t u := by rw [ordT_eq, if_pos h]
  simp [ordS, ordL_cons, e, h]
theorem ordS_push {t u : TermD} {ts us : List TermD} {S : List (List TermD × List TermD)} (h : headO t u = 0) : ordS ((t :: ts, u :: us) :: S) = ordS ((t.kids, u.kids) :: (ts, us) :: S) := by
  have e : ordT t u = ordL t.kids u.kids := by rw [ordT_eq]; simp [h]
  simp only [ordS, ordL_cons, e]
  by_cases h1 : ordL t.kids u.kids = 0
  · simp [h1]
  · simp [h1]
theorem sizeS_push (t u : TermD) (ts us : List TermD) (S : List (List TermD × List TermD)) : sizeS ((t.kids, u.kids) :: (ts, us) :: S) < sizeS ((t :: ts, u :: us) :: S) := by
  simp only [sizeS, partsL, partsT_eq]; omega
theorem sizeS_len (S : List (List TermD × List TermD)) : S.length ≤ sizeS S := by
  induction S with
  | nil => simp [sizeS]
  | cons p S ih => simp only [sizeS, List.length_cons]; omega
end Go.Proofs.Ytollijngiioonaa

/- A range over a function whose iterator keeps memory of its own: what it promises the loop's body, and what the body promises it, told by sets of blocks; the statement's law. Conditions: none. -/
namespace Go.Proofs.Ytollijngiioonaa
set_option maxRecDepth 100000
open Go.RowKit

/-- All blocks of S lie as they lay. -/
structure Stay (S : Nat → Prop) (w w' : World) : Prop where
  os : w'.os = w.os
  tape : w'.tape = w.tape
  output : w'.output = w.output
  size : w.heap.size ≤ w'.heap.size
  block : ∀ k, k < w.heap.size → S k → w'.heap[k]? = w.heap[k]?

theorem Stay.refl (S : Nat → Prop) (w : World) : Stay S w w := ⟨rfl, rfl, rfl, Nat.le_refl _, fun _ _ _ => rfl⟩
theorem Stay.trans {S : Nat → Prop} {a b c : World} (h : Stay S a b) (k : Stay S b c) : Stay S a c :=
  ⟨k.os.trans h.os, k.tape.trans h.tape, k.output.trans h.output, Nat.le_trans h.size k.size, fun i hi hs => (k.block i (Nat.lt_of_lt_of_le hi h.size) hs).trans (h.block i hi hs)⟩
theorem Stay.weak {S T : Nat → Prop} {a b : World} (h : Stay S a b) (ht : ∀ k, k < a.heap.size → T k → S k) : Stay T a b :=
  ⟨h.os, h.tape, h.output, h.size, fun k hk hs => h.block k hk (ht k hk hs)⟩
theorem Stay.below {S : Nat → Prop} {a b : World} {B : Nat} (h : Stay S a b) (hB : B ≤ a.heap.size) (hs : ∀ k, k < B → S k) : Below B a b :=
  ⟨h.os, h.tape, h.output, h.size, fun k hk => h.block k (by omega) (hs k hk)⟩
theorem Stay.of_below {S : Nat → Prop} {a b : World} {B : Nat} (h : Below B a b) (hs : ∀ k, k < a.heap.size → S k → k < B) : Stay S a b :=
  ⟨h.os, h.tape, h.output, h.size, fun k hk hk' => h.block k (hs k hk hk')⟩
theorem Stay.grown {S : Nat → Prop} {a b : World} {row : Option Nat} (h : a.grownBy b row) (hr : ∀ k, row = some k → ¬ S k) : Stay S a b :=
  ⟨h.os, h.tape, h.output, h.size, fun k hk hs => h.block k hk (fun e => hr k e.symm hs)⟩
theorem Stay.putObj {S : Nat → Prop} (a : World) {r : Nat} (o : Obj) (hr : ¬ S r) : Stay S a (a.putObj r o) :=
  .grown (grownBy_putObj' a r o) (fun k e => by cases e; exact hr)
theorem Stay.setCell {S : Nat → Prop} (a : World) {p : Addr} (v : Value) (hr : ¬ S p.block) : Stay S a (a.setCell p v) :=
  ⟨rfl, rfl, rfl, by simp [World.setCell], fun k _ hs => Below.heap_setCell _ _ _ _ (fun e => hr (e ▸ hs))⟩
theorem Stay.alloc (S : Nat → Prop) (a : World) (o : Obj) : Stay S a (a.alloc o) :=
  ⟨rfl, rfl, rfl, by simp, fun k hk _ => Below.heap_alloc _ _ _ hk⟩
theorem Stay.drew (S : Nat → Prop) (a : World) : Stay S a a.drew := ⟨rfl, rfl, rfl, Nat.le_refl _, fun _ _ _ => rfl⟩
theorem Stay.cell {S : Nat → Prop} {a b : World} (h : Stay S a b) {p : Addr} {v : Value} (hc : a.cell? p = some v) (hs : S p.block) : b.cell? p = some v :=
  (World.cell?_of_block (h.block p.block (World.block_lt_of_cell? a p hc) hs)).trans hc
theorem Stay.frozen {S : Nat → Prop} {a b : World} (h : Stay S a b) {p : Addr} (hl : p.block < a.heap.size) (hs : S p.block) : b.frozen? p = a.frozen? p :=
  World.frozen?_of_block (h.block p.block hl hs)

/-- The iterator's word: whatever stays while the blocks of S do is not turned by it; the body's: below n₀, and outside S, nothing is turned. -/
def SeqPriv {α : Type} (F : Fence) (n : Nat) (P : Program) (g : Nat) (lb : Array Value) (encs : α → Array Value) (n₀ : Nat) (Sa Sp : List α → Prop) (Ok : List α → α → Prop) (N : Nat) (w : World) : Prop :=
  ∀ (l : Nat) (J Jx : List α → (Nat → Prop) → World → Prop) (S₀ : Nat → Prop) (W : World), Below w.heap.size w W →
    (∀ pre S A B, J pre S A → Stay S A B → J pre S B) → (∀ pre S A B, Jx pre S A → Stay S A B → Jx pre S B) → (∀ pre S A, J pre S A → ∀ k, S k → k < A.heap.size) →
    (∀ pre x S A, J pre S A → pre.length < N → Ok pre x → YieldAt F (n - 1) P l (encs x) A fun e B =>
      (e = .returned (.bool true) ∧ ∃ S', J (pre ++ [x]) S' B ∧ (∀ k, S' k → S k ∨ A.heap.size ≤ k) ∧ Stay (fun k => k < n₀ ∨ ¬ S k) A B) ∨
      (e = .returned (.bool false) ∧ ∃ S', Jx (pre ++ [x]) S' B)) →
    J [] S₀ W →
    CallsIn F n P g (#[.func (.yield l) #[] #[]] ++ lb) W fun e B => (∃ v, e = .returned v) ∧ ((∃ xs S', Sa xs ∧ J xs S' B) ∨ (∃ pre S', Sp pre ∧ Jx pre S' B))

/-- How the body of a round may be left. -/
def privPost {α : Type} (n₀ : Nat) (I : List α → (Nat → Prop) → World → Prop) (Ix : Code → List α → (Nat → Prop) → World → Prop) (xs : List α) (S : Nat → Prop) (W : World) : Exit → Act → World → Prop
  | .normal, _, B => ∃ S', I xs S' B ∧ (∀ k, S' k → S k ∨ W.heap.size ≤ k) ∧ Stay (fun k => k < n₀ ∨ ¬ S k) W B
  | .ret, _, B => ∃ S', Ix .ret xs S' B ∧ (∀ k, S' k → S k ∨ W.heap.size ≤ k) ∧ Stay (fun k => k < n₀ ∨ ¬ S k) W B
  | .exit id, _, B => ∃ S', Ix (.exit id) xs S' B ∧ (∀ k, S' k → S k ∨ W.heap.size ≤ k) ∧ Stay (fun k => k < n₀ ∨ ¬ S k) W B
  | .goto t, _, B => ∃ S', Ix (.goto t) xs S' B ∧ (∀ k, S' k → S k ∨ W.heap.size ≤ k) ∧ Stay (fun k => k < n₀ ∨ ¬ S k) W B
  | .panic _, _, _ => False
  | .outgrown, _, _ => False

variable {F : Fence} {n : Nat} {P : Program}

theorem wpIn_rangeFunc_priv {α : Type} {g : Operand} {ps : Array Tmp} {assign body : Code} {Q : Exit → Act → World → Prop} {a : Act} {w : World}
    (hro : F.round = none) (h1 : 1 ≤ n) {gf : Nat} {lb : Array Value} (hg : a.eval g = .func (.func gf) #[] lb) (hFg : F.fn gf) (eg : ∀ args w, (callFunc gf args).run P w = .ok (.enter gf args) w)
    {encs : α → Array Value} {n₀ : Nat} {Sa Sp : List α → Prop} {Ok : List α → α → Prop} {N : Nat} {w0 : World} (hseq : SeqPriv F (n - 1) P gf lb encs n₀ Sa Sp Ok N w0) (hn₀ : n₀ ≤ w.heap.size) (hb0 : Below w0.heap.size w0 w) (hps : ∀ x, (encs x).size = ps.size)
    (I : List α → (Nat → Prop) → World → Prop) (Ix : Code → List α → (Nat → Prop) → World → Prop)
    (hI : ∀ pre S A B, I pre S A → Stay S A B → I pre S B) (hIx : ∀ c pre S A B, Ix c pre S A → Stay S A B → Ix c pre S B)
    (hIb : ∀ pre S A, I pre S A → ∀ k, S k → k < A.heap.size) (S₀ : Nat → Prop) (hS₀ : ∀ k, S₀ k → k < w.heap.size) (h0 : I [] S₀ w)
    (Ax : List α → α → (Nat → Prop) → Act → World → Prop) (hAx : ∀ pre x S a A B, Ax pre x S a A → Stay S A B → Ax pre x S a B)
    (hassign : ∀ (l : Nat) (pre : List α) (x : α) (S : Nat → Prop) (W : World) (K : Act → World → Prop), I pre S W → pre.length < N → Ok pre x →
      (∀ a₁ S₁ W₁, Ax pre x S₁ a₁ W₁ → (∀ k, S₁ k → S k ∨ W.heap.size ≤ k) → Stay (fun k => k < n₀ ∨ ¬ S k) W W₁ → K a₁ W₁) →
      assign.wpIn (F.inRound l) (n - 1 - 1) P (Exit.then K (fun _ _ _ => False)) { tmps := (ps.zip (encs x)).foldl (fun t (p, v) => t.setIfInBounds p v) a.tmps, defers := [] } W)
    (hbody : ∀ (l : Nat) (pre : List α) (x : α) (S : Nat → Prop) (a₁ : Act) (W : World), Ax pre x S a₁ W → pre.length < N → Ok pre x → body.wpIn (F.inRound l) (n - 1 - 1) P (privPost n₀ I Ix (pre ++ [x]) S W) a₁ W)
    (hdone : ∀ (D : Nat) (xs : List α) (S : Nat → Prop) (W : World), Sa xs → I xs S W → W.heap[D]? = some (.deferred (some [])) → w.heap.size ≤ D → ¬ S D → Q .normal { a with defers := { target := .collected D, args := #[] } :: a.defers } W)
    (hstop : ∀ (D : Nat) (c : Code) (pre : List α) (S : Nat → Prop) (W : World), Sp pre → Ix c pre S W → W.heap[D]? = some (.deferred (some [])) → w.heap.size ≤ D → ¬ S D → c.wpIn F n P Q { a with defers := { target := .collected D, args := #[] } :: a.defers } W) :
    (Code.rangeFunc g ps assign body).wpIn F n P Q a w := by
  refine wpIn_rangeFunc ?_
  intro fn hfn
  rw [hro]
  obtain ⟨rec, hrec⟩ : ∃ rec : LoopState → Option Code → Loop, rec = fun st pe => { state := st, pending := pe, fn, tmps := a.tmps, params := ps, assign, body, defers := w.heap.size } := ⟨_, rfl⟩
  obtain ⟨W1, hW1⟩ : ∃ W1, (w.alloc (.deferred (some []))).alloc (.loop (rec .ready none)) = W1 := ⟨_, rfl⟩
  have hL1 : W1.heap[w.heap.size + 1]? = some (.loop (rec .ready none)) := by
    rw [← hW1]; have := World.alloc_heap_new (w.alloc (.deferred (some []))) (.loop (rec .ready none)); rwa [World.size_alloc] at this
  have hK1 : W1.heap[w.heap.size]? = some (.deferred (some [])) := by
    rw [← hW1]; exact (Below.heap_alloc _ _ _ (by simp)).trans (World.alloc_heap_new w _)
  have hI1 : I [] S₀ W1 := by rw [← hW1]; exact hI _ _ _ _ (hI _ _ _ _ h0 (.alloc _ _ _)) (.alloc _ _ _)
  have hb1 : Below w0.heap.size w0 W1 := by
    rw [← hW1]; exact hb0.trans ((((Below.refl _ w).alloc (Nat.le_refl _) _).alloc (by simp) _).mono hb0.size)
  have hsz : ∀ {A : World} {r : Loop}, A.heap[w.heap.size + 1]? = some (.loop r) → w.heap.size + 1 < A.heap.size := fun h => (Array.getElem?_eq_some_iff.1 h).1
  refine ⟨w.heap.size + 1, [{ target := .collected w.heap.size, args := #[] }], W1, { target := .fn (.func gf) lb, args := #[.func (.yield (w.heap.size + 1)) #[] #[]] }, W1, gf,
    #[.func (.yield (w.heap.size + 1)) #[] #[]] ++ lb, W1, ?_, ?_, ?_, ?_, fun _ => h1, ?_⟩
  · rw [← hW1, hrec]; exact run_enterLoop_outer _ _ _ _ _
  · simp only [resolve, hg]
    simp [go_sem]
  · intro f' hf'; simp [Target.leads] at hf'; subst hf'; exact hFg
  · simp [invoke, go_sem, eg]
  · -- the sets: the caller's, and the two blocks of the loop
    have hst : ∀ {A B : World} {T S : Nat → Prop}, (∀ k, S k ↔ T k ∨ k = w.heap.size ∨ k = w.heap.size + 1) → Stay S A B → Stay T A B := fun hS h => h.weak (fun k _ ht => (hS k).2 (.inl ht))
    refine (hseq (w.heap.size + 1)
      (fun pre S W => ∃ T : Nat → Prop, (∀ k, S k ↔ T k ∨ k = w.heap.size ∨ k = w.heap.size + 1) ∧ (∀ k, T k → k ≠ w.heap.size ∧ k ≠ w.heap.size + 1) ∧ I pre T W ∧ W.heap[w.heap.size + 1]? = some (.loop (rec .ready none)) ∧ W.heap[w.heap.size]? = some (.deferred (some [])))
      (fun pre S W => ∃ T : Nat → Prop, (∀ k, S k ↔ T k ∨ k = w.heap.size ∨ k = w.heap.size + 1) ∧ (∀ k, T k → k ≠ w.heap.size ∧ k ≠ w.heap.size + 1) ∧ ∃ c, Ix c pre T W ∧ W.heap[w.heap.size + 1]? = some (.loop (rec .done (some c))) ∧ W.heap[w.heap.size]? = some (.deferred (some [])))
      (fun k => S₀ k ∨ k = w.heap.size ∨ k = w.heap.size + 1) W1 hb1 ?_ ?_ ?_ ?_ ⟨S₀, fun k => Iff.rfl, fun k hk => by have := hS₀ k hk; omega, hI1, hL1, hK1⟩).mono ?_
    · rintro pre S A B ⟨T, hS, hT, hi, hl, hk⟩ h
      have hlt := hsz hl
      exact ⟨T, hS, hT, hI _ _ _ _ hi (hst hS h), (h.block _ hlt ((hS _).2 (.inr (.inr rfl)))).trans hl, (h.block _ (by omega) ((hS _).2 (.inr (.inl rfl)))).trans hk⟩
    · rintro pre S A B ⟨T, hS, hT, c, hi, hl, hk⟩ h
      have hlt := hsz hl
      exact ⟨T, hS, hT, c, hIx _ _ _ _ _ hi (hst hS h), (h.block _ hlt ((hS _).2 (.inr (.inr rfl)))).trans hl, (h.block _ (by omega) ((hS _).2 (.inr (.inl rfl)))).trans hk⟩
    · rintro pre S A ⟨T, hS, hT, hi, hl, hk⟩ k hk'
      have hlt := hsz hl
      rcases (hS k).1 hk' with h | h | h
      · exact hIb _ _ _ hi k h
      · omega
      · omega
    · -- one round
      rintro pre x S W ⟨T, hS, hT, hi, hl, hk⟩ hlen hok
      have hlt := hsz hl
      have nL : ¬ T (w.heap.size + 1) := fun h => (hT _ h).2 rfl
      have nD : ¬ T w.heap.size := fun h => (hT _ h).1 rfl
      have hy := run_yield (P := P) (args := encs x) hl (by rw [hrec]; exact hps x)
      rw [hrec] at hy
      refine ⟨fn, _, assign, body, hy, roundIn_of_wpIn hfn (hassign _ pre x T W _ hi hlen hok ?_)⟩
      intro a₁ T₁ W₁ hax hT₁ hst₁
      have hL₁ := (hst₁.block (w.heap.size + 1) hlt (.inr nL)).trans hl
      have hD₁ := (hst₁.block w.heap.size (by omega) (.inr nD)).trans hk
      have nL₁ : ¬ T₁ (w.heap.size + 1) := fun h => (hT₁ _ h).elim nL (fun h => by omega)
      have nD₁ : ¬ T₁ w.heap.size := fun h => (hT₁ _ h).elim nD (fun h => by omega)
      have hz₁ := hst₁.size
      refine ⟨_, run_beginRound hL₁ (by rw [hrec]), ?_⟩
      obtain ⟨W2, hW2⟩ : ∃ W2, W2 = W₁.putObj (w.heap.size + 1) (.loop { rec .ready none with state := .busy }) := ⟨_, rfl⟩
      rw [← hW2]
      have hl2 : W2.heap[w.heap.size + 1]? = some (.loop { rec .ready none with state := .busy }) := by rw [hW2]; exact World.putObj_heap_same (by omega)
      have hk2 : W2.heap[w.heap.size]? = some (.deferred (some [])) := by rw [hW2]; exact (World.putObj_heap_other (by omega)).trans hD₁
      have hz2 : W2.heap.size = W₁.heap.size := by rw [hW2]; simp
      have hi2 : Ax pre x T₁ a₁ W2 := by rw [hW2]; exact hAx _ _ _ _ _ _ hax (.putObj _ _ nL₁)
      have hs2 : Stay (fun k => k < n₀ ∨ ¬ S k) W W2 := by
        rw [hW2]
        exact (hst₁.weak (fun k _ h => h.elim .inl (fun h => .inr (fun ht => h ((hS _).2 (.inl ht)))))).trans (.putObj _ _ (fun h => h.elim (fun h => by omega) (fun h => h ((hS _).2 (.inr (.inr rfl))))))
      have sub₁ : ∀ k, k < W.heap.size → T₁ k → T k := fun k hk h => (hT₁ k h).elim id (fun h => by omega)
      refine wpIn_mono (hbody _ pre x T₁ a₁ W2 hi2 hlen hok) ?_
      have fin : ∀ (jump : Option Code) (W3 : World), Stay (fun k => k < n₀ ∨ ¬ T₁ k) W2 W3 →
          (Instr.endRound (w.heap.size + 1) jump).run P W3 = .ok (.bool jump.isNone) (W3.putObj (w.heap.size + 1) (.loop (rec (if jump.isNone then .ready else .done) jump))) ∧
          (W3.putObj (w.heap.size + 1) (.loop (rec (if jump.isNone then .ready else .done) jump))).heap[w.heap.size + 1]? = some (.loop (rec (if jump.isNone then .ready else .done) jump)) ∧
          (W3.putObj (w.heap.size + 1) (.loop (rec (if jump.isNone then .ready else .done) jump))).heap[w.heap.size]? = some (.deferred (some [])) ∧
          Stay (fun k => k < n₀ ∨ ¬ S k) W (W3.putObj (w.heap.size + 1) (.loop (rec (if jump.isNone then .ready else .done) jump))) := fun jump W3 hk3 => by
        have hl3 := (hk3.block (w.heap.size + 1) (by omega) (.inr nL₁)).trans hl2
        have hd3 := (hk3.block w.heap.size (by omega) (.inr nD₁)).trans hk2
        have := run_endRound (P := P) jump hl3
        rw [hrec] at this ⊢
        refine ⟨this, World.putObj_heap_same (Array.getElem?_eq_some_iff.1 hl3).1, (World.putObj_heap_other (by omega)).trans hd3, ?_⟩
        have h34 : Stay (fun k => (k < n₀ ∨ ¬ S k) ∧ k < W.heap.size) W W3 := (hs2.weak (fun _ _ h => h.1)).trans (hk3.weak (fun k _ h => h.1.elim .inl (fun h' => .inr (fun ht => h' ((hS _).2 (.inl (sub₁ k h.2 ht)))))))
        exact (h34.weak (fun k hk h => ⟨h, hk⟩)).trans (.putObj _ _ (fun h => h.elim (fun h => by omega) (fun h => h ((hS _).2 (.inr (.inr rfl))))))
      have sub : ∀ {T' : Nat → Prop}, (∀ k, T' k → T₁ k ∨ W2.heap.size ≤ k) → (∀ k, T' k → k ≠ w.heap.size ∧ k ≠ w.heap.size + 1) ∧ (∀ k, (T' k ∨ k = w.heap.size ∨ k = w.heap.size + 1) → S k ∨ W.heap.size ≤ k) := fun hT' =>
        ⟨fun k hk => (hT' k hk).elim (fun h => (hT₁ k h).elim (hT k) (fun h => by omega)) (fun h => by omega), fun k hk => hk.elim (fun h => (hT' k h).elim (fun h => (hT₁ k h).elim (fun h => .inl ((hS _).2 (.inl h))) .inr) (fun h => .inr (by omega))) (fun h => .inl ((hS _).2 (.inr h)))⟩
      rintro e a3 W3 hp
      cases e with
      | normal =>
        obtain ⟨T', hi3, hT', hk3⟩ := hp
        obtain ⟨hr, hl4, hk4, hst4⟩ := fin none W3 hk3
        obtain ⟨q1, q2⟩ := sub hT'
        exact ⟨_, _, hr, .inl ⟨rfl, fun k => T' k ∨ k = w.heap.size ∨ k = w.heap.size + 1, ⟨T', fun k => Iff.rfl, q1, hI _ _ _ _ hi3 (.putObj _ _ (fun h => (q1 _ h).2 rfl)), hl4, hk4⟩, q2, hst4⟩⟩
      | ret =>
        obtain ⟨T', hi3, hT', hk3⟩ := hp
        obtain ⟨hr, hl4, hk4, hst4⟩ := fin (some .ret) W3 hk3
        obtain ⟨q1, q2⟩ := sub hT'
        exact ⟨_, _, hr, .inr ⟨rfl, fun k => T' k ∨ k = w.heap.size ∨ k = w.heap.size + 1, T', fun k => Iff.rfl, q1, .ret, hIx _ _ _ _ _ hi3 (.putObj _ _ (fun h => (q1 _ h).2 rfl)), hl4, hk4⟩⟩
      | exit id =>
        obtain ⟨T', hi3, hT', hk3⟩ := hp
        obtain ⟨hr, hl4, hk4, hst4⟩ := fin (some (.exit id)) W3 hk3
        obtain ⟨q1, q2⟩ := sub hT'
        exact ⟨_, _, hr, .inr ⟨rfl, fun k => T' k ∨ k = w.heap.size ∨ k = w.heap.size + 1, T', fun k => Iff.rfl, q1, .exit id, hIx _ _ _ _ _ hi3 (.putObj _ _ (fun h => (q1 _ h).2 rfl)), hl4, hk4⟩⟩
      | goto t =>
        obtain ⟨T', hi3, hT', hk3⟩ := hp
        obtain ⟨hr, hl4, hk4, hst4⟩ := fin (some (.goto t)) W3 hk3
        obtain ⟨q1, q2⟩ := sub hT'
        exact ⟨_, _, hr, .inr ⟨rfl, fun k => T' k ∨ k = w.heap.size ∨ k = w.heap.size + 1, T', fun k => Iff.rfl, q1, .goto t, hIx _ _ _ _ _ hi3 (.putObj _ _ (fun h => (q1 _ h).2 rfl)), hl4, hk4⟩⟩
      | panic ch => exact hp.elim
      | outgrown => exact hp.elim
    · -- behind the iterator
      rintro e W2 ⟨⟨v, rfl⟩, (⟨xs, S, hSa, T, hS, hT, hi, hl, hk⟩ | ⟨pre, S, hSp, T, hS, hT, c, hi, hl, hk⟩)⟩
      · exact ⟨none, _, by have := run_endLoop (P := P) hl (by rw [hrec]; simp); rw [hrec] at this; exact this, hdone _ xs T _ hSa (hI _ _ _ _ hi (.putObj _ _ (fun h => (hT _ h).2 rfl))) ((World.putObj_heap_other (by omega)).trans hk) (Nat.le_refl _) (fun h => (hT _ h).1 rfl)⟩
      · exact ⟨some c, _, by have := run_endLoop (P := P) hl (by rw [hrec]; simp); rw [hrec] at this; exact this, hstop _ c pre T _ hSp (hIx _ _ _ _ _ hi (.putObj _ _ (fun h => (hT _ h).2 rfl))) ((World.putObj_heap_other (by omega)).trans hk) (Nat.le_refl _) (fun h => (hT _ h).1 rfl)⟩
end Go.Proofs.Ytollijngiioonaa

/- Lists of terms that read within a set of blocks, and stacks of them in a row of their own. Conditions: none. -/
namespace Go.Proofs.Ytollijngiioonaa
set_option maxRecDepth 100000
open Go.RowKit

/-- The slice of terms that begins at 'a' reads in w as ts, all of its blocks in S. -/
inductive RdP (w : World) (S : Nat → Prop) : Option Addr → List TermD → Prop
  | nil (a : Option Addr) : RdP w S a []
  | row (b off : Nat) (ts : List TermD) (A : Nat → Option Addr) (C : Nat → Nat) (hlt : S b) (hl : ∀ i, (h : i < ts.length) → ts[i].kids.length ≤ C i) 
      (hc : ∀ i, (h : i < ts.length) → w.cell? ⟨b, off + i * 3, none⟩ = some (.int .i64 ts[i].f) ∧ w.cell? ⟨b, off + i * 3 + 1, none⟩ = some (.int .i64 ts[i].v) ∧ w.cell? ⟨b, off + i * 3 + 2, none⟩ = some (.slice (A i) ts[i].kids.length (C i)))
      (hk : ∀ i, (h : i < ts.length) → RdP w S (A i) ts[i].kids) : RdP w S (some ⟨b, off, none⟩) ts

theorem RdK.p {w : World} {hi : Nat} {S : Nat → Prop} {a : Option Addr} {ts : List TermD} (h : RdK w hi a ts) (hs : ∀ k, k < hi → S k) : RdP w S a ts := by
  induction h with
  | nil a => exact .nil a
  | row b off ts A C hlt hl hz hc hk ih => exact .row b off ts A C (hs _ hlt) hl.2 hc ih

theorem RdP.stay {w w' : World} {S : Nat → Prop} {a : Option Addr} {ts : List TermD} (h : RdP w S a ts) (hb : Stay S w w') : RdP w' S a ts := by
  induction h with
  | nil a => exact .nil a
  | row b off ts A C hlt hl hc hk ih =>
    refine .row b off ts A C hlt hl (fun i h => ?_) ih
    obtain ⟨h0, h1, h2⟩ := hc i h
    exact ⟨hb.cell h0 hlt, hb.cell h1 hlt, hb.cell h2 hlt⟩

theorem RdP.weak {w : World} {S T : Nat → Prop} {a : Option Addr} {ts : List TermD} (h : RdP w S a ts) (hs : ∀ k, S k → T k) : RdP w T a ts := by
  induction h with
  | nil a => exact .nil a
  | row b off ts A C hlt hl hc hk ih => exact .row b off ts A C (hs _ hlt) hl hc ih

theorem RdP.head {w : World} {S : Nat → Prop} {a : Option Addr} {t : TermD} {ts : List TermD} (h : RdP w S a (t :: ts)) :
    ∃ b off a' c', a = some ⟨b, off, none⟩ ∧ S b ∧ w.cell? ⟨b, off, none⟩ = some (.int .i64 t.f) ∧ w.cell? ⟨b, off + 1, none⟩ = some (.int .i64 t.v) ∧ w.cell? ⟨b, off + 2, none⟩ = some (.slice a' t.kids.length c') ∧ t.kids.length ≤ c' ∧ RdP w S a' t.kids := by
  cases h with
  | row b off _ A C hlt hl hc hk =>
    have h0 := hc 0 (by simp)
    simp only [Nat.zero_mul, Nat.add_zero, List.getElem_cons_zero] at h0
    exact ⟨b, off, A 0, C 0, rfl, hlt, h0.1, h0.2.1, h0.2.2, hl 0 (by simp), hk 0 (by simp)⟩

theorem RdP.tail {w : World} {S : Nat → Prop} {b off : Nat} {t : TermD} {ts : List TermD} (h : RdP w S (some ⟨b, off, none⟩) (t :: ts)) : RdP w S (some ⟨b, off + 3, none⟩) ts := by
  cases h with
  | row _ _ _ A C hlt hl hc hk =>
    refine .row b (off + 3) ts (fun i => A (i + 1)) (fun i => C (i + 1)) hlt (fun i hi => ?_) (fun i hi => ?_) (fun i hi => ?_)
    · have := hl (i + 1) (by simpa using hi); simpa using this
    · have := hc (i + 1) (by simpa using hi)
      rw [show off + (i + 1) * 3 = off + 3 + i * 3 by omega] at this
      simpa using this
    · have := hk (i + 1) (by simpa using hi); simpa using this

/-- Where the rest of a list begins. -/
def tailA (b off c : Nat) : Option Addr := if c = 1 then some ⟨b, off, none⟩ else some ⟨b, off + 3, none⟩

theorem RdP.tailA {w : World} {S : Nat → Prop} {b off : Nat} {t : TermD} {ts : List TermD} (h : RdP w S (some ⟨b, off, none⟩) (t :: ts)) {c : Nat} (hc : ts.length + 1 ≤ c) : RdP w S (tailA b off c) ts := by
  unfold Go.Proofs.Ytollijngiioonaa.tailA
  split
  · have : ts = [] := List.eq_nil_of_length_eq_zero (by omega)
    subst this; exact .nil _
  · exact h.tail

/-- One pair of lists on the stack. -/
structure PE where
  a : Option Addr
  c : Nat
  ts : List TermD
  a' : Option Addr
  c' : Nat
  us : List TermD

/-- It reads, and its lists are of one length. -/
structure PE.Ok (e : PE) (w : World) (S : Nat → Prop) : Prop where
  r : RdP w S e.a e.ts
  r' : RdP w S e.a' e.us
  le : e.ts.length ≤ e.c
  le' : e.us.length ≤ e.c'
  eq : e.ts.length = e.us.length

theorem PE.Ok.stay {e : PE} {w w' : World} {S : Nat → Prop} (h : e.Ok w S) (hb : Stay S w w') : e.Ok w' S := ⟨h.r.stay hb, h.r'.stay hb, h.le, h.le', h.eq⟩

/-- The cells of a stack, its top last. -/
def cellsP : List PE → List Value
  | [] => []
  | e :: E => cellsP E ++ [.slice e.a e.ts.length e.c, .slice e.a' e.us.length e.c']
theorem cellsP_len (E : List PE) : (cellsP E).length = E.length * 2 := by
  induction E with
  | nil => rfl
  | cons e E ih => simp only [cellsP, List.length_append, ih, List.length_cons, List.length_nil]; omega
def dataP (E : List PE) : List (List TermD × List TermD) := E.map fun e => (e.ts, e.us)

theorem cellsP_top {w : World} {B T g c : Nat} {e : PE} {E : List PE} (h : w.ownsRow B T 2 (.slice (some ⟨g, 0, none⟩) (E.length + 1) c) (E.length + 1) (cellsP (e :: E))) :
    w.cell? ⟨g, E.length * 2, none⟩ = some (.slice e.a e.ts.length e.c) ∧ w.cell? ⟨g, E.length * 2 + 1, none⟩ = some (.slice e.a' e.us.length e.c') := by
  have hl := cellsP_len E
  refine ⟨(h.cellAt _ (by omega)).trans ?_, (h.cellAt _ (by omega)).trans ?_⟩
  · rw [cellsP, List.getElem?_append_right (by omega)]; simp [hl]
  · rw [cellsP, List.getElem?_append_right (by omega)]; simp [hl]

theorem cellsP_set {w : World} {B T g c : Nat} {e : PE} {E : List PE} (h : w.ownsRow B T 2 (.slice (some ⟨g, 0, none⟩) (E.length + 1) c) (E.length + 1) (cellsP (e :: E))) (d : PE) :
    ((w.setCell ⟨g, E.length * 2, none⟩ (.slice d.a d.ts.length d.c)).setCell ⟨g, E.length * 2 + 1, none⟩ (.slice d.a' d.us.length d.c')).ownsRow B T 2 (.slice (some ⟨g, 0, none⟩) (E.length + 1) c) (E.length + 1) (cellsP (d :: E)) := by
  have hl := cellsP_len E
  have h1 := ((h.stored (E.length * 2) (.slice d.a d.ts.length d.c)).1.stored (E.length * 2 + 1) (.slice d.a' d.us.length d.c')).1
  have e1 : ((cellsP (e :: E)).set (E.length * 2) (.slice d.a d.ts.length d.c)).set (E.length * 2 + 1) (.slice d.a' d.us.length d.c') = cellsP (d :: E) := by
    simp only [cellsP]
    rw [List.set_append_right _ _ (by omega), List.set_append_right _ _ (by omega)]
    simp [hl]
  rwa [e1] at h1

theorem cellsP_pop {w : World} {B T g c : Nat} {e : PE} {E : List PE} (h : w.ownsRow B T 2 (.slice (some ⟨g, 0, none⟩) (E.length + 1) c) (E.length + 1) (cellsP (e :: E))) :
    w.ownsRow B T 2 (.slice (some ⟨g, 0, none⟩) E.length c) E.length (cellsP E) := ownsRow_pop (cellsP_len E) h

theorem own_stay {w w' : World} {S : Nat → Prop} {base : Nat} {e : TypeId} {size : Nat} {v : Value} {n : Nat} {xs : List Value} (h : w.ownsRow base e size v n xs) (hb : Stay S w w') (hs : ∀ g, v.ownBlock = some g → S g) : w'.ownsRow base e size v n xs := by
  have hl := h.lt
  obtain ⟨h1, h2⟩ := h
  refine ⟨h1, ?_⟩
  rcases h2 with h2 | ⟨g, cap, cur, rfl, hg, hh, r⟩
  · exact .inl h2
  · exact .inr ⟨g, cap, cur, rfl, hg, by rw [hb.block g (hl g rfl).2 (hs g rfl)]; exact hh, r⟩

/-- The blocks that stay while the stack is worked on: what was there, and two of the call's own. -/
def Fx (n B k : Nat) : Prop := k < n ∨ k = B ∨ k = B + 1

/-- What lies in memory while two terms are held against each other. -/
structure OrdSt (w : World) (B T T' : Nat) (r : Int) (M : Nat) (E : List PE) (v : Value) (wr : World) : Prop where
  row : wr.ownsRow w.heap.size T 2 v E.length (cellsP E)
  k0 : ∃ cs fz, wr.heap[B]? = some (.cells cs T' fz)
  k1 : ∃ cs fz, wr.heap[B + 1]? = some (.cells cs T' fz)
  ne : T' ≠ T
  lo : w.heap.size ≤ B
  good : ∀ e ∈ E, e.Ok wr (Fx w.heap.size B)
  ord : ordS (dataP E) = r
  size : sizeS (dataP E) ≤ M
  below : Below w.heap.size w wr

namespace OrdSt
variable {w wr wr' : World} {B T T' : Nat} {r : Int} {M : Nat} {E : List PE} {v : Value}

theorem hi (h : OrdSt w B T T' r M E v wr) : B + 1 < wr.heap.size := by
  obtain ⟨cs, fz, e⟩ := h.k1; exact (Array.getElem?_eq_some_iff.1 e).1

theorem own (h : OrdSt w B T T' r M E v wr) : ∀ g, v.ownBlock = some g → ¬ Fx w.heap.size B g := by
  intro g hg hx
  have hlt := h.row.lt g hg
  rcases h.row.2 with ⟨rfl, _⟩ | ⟨g', cap, cur, rfl, _, hh, _⟩
  · cases hg
  · have e : g' = g := by simpa [Value.ownBlock] using hg
    subst e
    obtain ⟨cs, fz, e0⟩ := h.k0
    obtain ⟨cs1, fz1, e1⟩ := h.k1
    rcases hx with hx | hx | hx
    · omega
    · subst hx; rw [hh] at e0; cases e0; exact h.ne rfl
    · subst hx; rw [hh] at e1; cases e1; exact h.ne rfl

theorem on (h : OrdSt w B T T' r M E v wr) (hb : Below wr.heap.size wr wr') : OrdSt w B T T' r M E v wr' := by
  have hh := h.hi
  have hs : Stay (Fx w.heap.size B) wr wr' := .of_below hb (fun k hk _ => hk)
  refine ⟨own_on h.row hb, ?_, ?_, h.ne, h.lo, fun e he => (h.good e he).stay hs, h.ord, h.size, h.below.trans (hb.mono h.below.size)⟩
  · rw [hb.block _ (by omega)]; exact h.k0
  · rw [hb.block _ (by omega)]; exact h.k1

theorem pop {g c : Nat} {e : PE} (h : OrdSt w B T T' r M (e :: E) (.slice (some ⟨g, 0, none⟩) (E.length + 1) c) wr) (he : e.ts = []) : OrdSt w B T T' r M E (.slice (some ⟨g, 0, none⟩) E.length c) wr := by
  have he' : e.us = [] := List.eq_nil_of_length_eq_zero (by rw [← (h.good e (by simp)).eq, he]; rfl)
  have h1 := h.ord
  have h2 := h.size
  simp only [dataP, List.map_cons, he, he', ordS_pop] at h1 h2
  refine ⟨cellsP_pop h.row, h.k0, h.k1, h.ne, h.lo, fun e he => h.good e (by simp [he]), h1, ?_, h.below⟩
  simp only [sizeS] at h2
  exact Nat.le_trans (Nat.le_add_left _ _) h2

/-- Other lists stand at the stack's top. -/
theorem set {g c : Nat} {e d : PE} (h : OrdSt w B T T' r M (e :: E) (.slice (some ⟨g, 0, none⟩) (E.length + 1) c) wr) (hd : d.Ok wr (Fx w.heap.size B)) {r' : Int} (ho : ordS (dataP (d :: E)) = r') (hM : sizeS (dataP (d :: E)) ≤ M) :
    OrdSt w B T T' r' M (d :: E) (.slice (some ⟨g, 0, none⟩) (E.length + 1) c) ((wr.setCell ⟨g, E.length * 2, none⟩ (.slice d.a d.ts.length d.c)).setCell ⟨g, E.length * 2 + 1, none⟩ (.slice d.a' d.us.length d.c')) := by
  have hn := h.own g rfl
  have hlo := h.lo
  have hs : Stay (Fx w.heap.size B) wr ((wr.setCell ⟨g, E.length * 2, none⟩ (.slice d.a d.ts.length d.c)).setCell ⟨g, E.length * 2 + 1, none⟩ (.slice d.a' d.us.length d.c')) := (Stay.setCell _ _ hn).trans (Stay.setCell _ _ hn)
  have hh := h.hi
  refine ⟨cellsP_set h.row d, ?_, ?_, h.ne, h.lo, fun f hf => ?_, ho, hM, h.below.trans (hs.below h.below.size (fun k hk => .inl hk))⟩
  · rw [hs.block _ (by omega) (.inr (.inl rfl))]; exact h.k0
  · rw [hs.block _ (by omega) (.inr (.inr rfl))]; exact h.k1
  · rcases List.mem_cons.1 hf with rfl | hf
    · exact hd.stay hs
    · exact (h.good f (by simp [hf])).stay hs

/-- One more pair is put onto it. -/
theorem push {v' : Value} {d : PE} (h : OrdSt w B T T' r M E v wr) (hrow : wr'.ownsRow w.heap.size T 2 v' (E.length + 1) (cellsP E ++ [.slice d.a d.ts.length d.c, .slice d.a' d.us.length d.c'])) (hg : wr.grownBy wr' v.ownBlock) (hd : d.Ok wr (Fx w.heap.size B)) {r' : Int} (ho : ordS (dataP (d :: E)) = r') {M' : Nat} (hM : sizeS (dataP (d :: E)) ≤ M') :
    OrdSt w B T T' r' M' (d :: E) v' wr' := by
  have hs : Stay (Fx w.heap.size B) wr wr' := .grown hg (fun k hk => h.own k hk)
  have hh := h.hi
  have hlo := h.lo
  refine ⟨hrow, ?_, ?_, h.ne, h.lo, fun f hf => ?_, ho, hM, h.below.trans (hs.below h.below.size (fun k hk => .inl hk))⟩
  · rw [hs.block _ (by omega) (.inr (.inl rfl))]; exact h.k0
  · rw [hs.block _ (by omega) (.inr (.inr rfl))]; exact h.k1
  · rcases List.mem_cons.1 hf with rfl | hf
    · exact hd.stay hs
    · exact (h.good f hf).stay hs
end OrdSt

theorem own_form {w : World} {base : Nat} {e : TypeId} {size : Nat} {v : Value} {n : Nat} {xs : List Value} (h : w.ownsRow base e size v n xs) : ∃ a c, v = .slice a n c ∧ n ≤ c := by
  rcases h.2 with ⟨rfl, rfl⟩ | ⟨g, cap, _, rfl, _, _, hn, _⟩
  · exact ⟨none, 0, rfl, Nat.le_refl _⟩
  · exact ⟨_, cap, rfl, hn⟩
theorem own_slot {w : World} {base : Nat} {e : TypeId} {size : Nat} {v : Value} {n : Nat} {xs : List Value} (h : w.ownsRow base e size v (n + 1) xs) : ∃ g c, v = .slice (some ⟨g, 0, none⟩) (n + 1) c ∧ n + 1 ≤ c ∧ base ≤ g ∧ g < w.heap.size := by
  have hl := h.lt
  rcases h.2 with ⟨_, h0⟩ | ⟨g, cap, _, rfl, hb, _, hn, _⟩
  · omega
  · exact ⟨g, cap, rfl, hn, hb, (hl g rfl).2⟩

theorem two_new (w : World) (x y : Value) (t : TypeId) (n : Nat) (hn : n = w.heap.size) : ∀ j v, [x, y][j]? = some v → (w.alloc (.cells #[x, y] t)).cell? ((⟨n, 0, none⟩ : Addr).add j) = some v := by
  subst hn
  intro j v hj
  match j, hj with
  | 0, hj => simp at hj; subst hj; simp [Addr.add]
  | 1, hj => simp at hj; subst hj; simp [Addr.add]
  | j + 2, hj => simp at hj
theorem two_cell (a a' : Option Addr) (n n' c c' : Nat) : ∀ u ∈ [Value.slice a n c, Value.slice a' n' c'], u.oneCell' = true := by
  intro u hu
  simp at hu
  rcases hu with rfl | rfl <;> rfl
end Go.Proofs.Ytollijngiioonaa

/- One form of a term as data: Kids put in by their order, Kids of the same blind function joined; forests of terms that own their memory. Conditions: none. -/
namespace Go.Proofs.Ytollijngiioonaa
set_option maxRecDepth 100000
open Go.RowKit

/-- A term put into a list by its order, behind those that are not behind it. -/
def putT (t : TermD) (l : List TermD) : List TermD := l.takeWhile (fun e => !befT t e) ++ t :: l.dropWhile (fun e => !befT t e)
/-- What becomes of the list made so far when one more Kid, in one form, comes. -/
def stepN (b : Bool) (f : Int) (k : TermD) (out : List TermD) : List TermD :=
  if b = false then out ++ [k] else if k.f ≠ f then putT k out else k.kids.foldl (fun o x => putT x o) out
mutual
/-- One form. -/
def normT (bl : Int → Bool) : TermD → TermD
  | .mk f v ks => .mk f v (normL bl f ks [])
def normL (bl : Int → Bool) (f : Int) : List TermD → List TermD → List TermD
  | [], out => out
  | k :: ks, out => normL bl f ks (stepN (bl f) f (normT bl k) out)
end
theorem normT_eq (bl : Int → Bool) (t : TermD) : normT bl t = .mk t.f t.v (normL bl t.f t.kids []) := by cases t; rw [normT]; rfl
theorem normL_append (bl : Int → Bool) (f : Int) (a b out : List TermD) : normL bl f (a ++ b) out = normL bl f b (normL bl f a out) := by
  induction a generalizing out with
  | nil => simp [normL]
  | cons t ts ih => simp only [List.cons_append, normL, ih]
theorem normL_next (bl : Int → Bool) (f : Int) {ts : List TermD} {k : Nat} (h : k < ts.length) (out : List TermD) : normL bl f (ts.take (k + 1)) out = stepN (bl f) f (normT bl ts[k]) (normL bl f (ts.take k) out) := by
  rw [List.take_succ_eq_append_getElem h, normL_append]
  simp [normL]

theorem putT_perm (t : TermD) (l : List TermD) : (putT t l).Perm (t :: l) := by
  unfold putT
  refine List.perm_middle.trans ?_
  rw [List.takeWhile_append_dropWhile]
theorem putT_parts (t : TermD) (l : List TermD) : partsL (putT t l) = partsL l + partsT t := by
  unfold putT
  have h : partsL l = partsL (l.takeWhile fun e => !befT t e) + partsL (l.dropWhile fun e => !befT t e) := by rw [← partsL_append, List.takeWhile_append_dropWhile]
  rw [partsL_append, partsL, h]; omega
theorem foldP_parts (ks out : List TermD) : partsL (ks.foldl (fun o x => putT x o) out) = partsL out + partsL ks := by
  induction ks generalizing out with
  | nil => simp [partsL]
  | cons t ts ih => rw [List.foldl_cons, ih, putT_parts, partsL]; omega
theorem stepN_parts (b : Bool) (f : Int) (k : TermD) (out : List TermD) : partsL (stepN b f k out) ≤ partsL out + partsT k := by
  unfold stepN
  split
  · rw [partsL_append]; simp [partsL]
  · split
    · rw [putT_parts]; omega
    · rw [foldP_parts, partsT_eq]; omega
mutual
theorem normT_parts (bl : Int → Bool) : ∀ t : TermD, partsT (normT bl t) ≤ partsT t
  | .mk f v ks => by have := normL_parts bl f ks []; simp only [normT, partsT, partsL] at *; omega
theorem normL_parts (bl : Int → Bool) (f : Int) : ∀ ks out : List TermD, partsL (normL bl f ks out) ≤ partsL out + partsL ks
  | [], out => by simp [normL, partsL]
  | k :: ks, out => by
    have h1 := normT_parts bl k
    have h2 := normL_parts bl f ks (stepN (bl f) f (normT bl k) out)
    have h3 := stepN_parts (bl f) f (normT bl k) out
    rw [normL, partsL]; omega
end

/-- As 'OwnS', and each row has its block to itself, with all the room that its capacity says: so one may append to it in its place. -/
inductive OwnR (w : World) : (Nat → Prop) → Option Addr → Nat → List TermD → Prop
  | nil (S : Nat → Prop) : OwnR w S none 0 []
  | row (S : Nat → Prop) (g c : Nat) (ts : List TermD) (A : Nat → Option Addr) (C : Nat → Nat) (K : Nat → Nat → Prop) (xs : List Value) (hb : S g) (hrow : w.ownsRow 0 27 3 (.slice (some ⟨g, 0, none⟩) ts.length c) ts.length xs) (hl : ts.length ≤ 9223372036854775807) (hz : ∀ i, (h : i < ts.length) → isW ts[i].f ∧ isW ts[i].v)
      (hc : ∀ i, (h : i < ts.length) → w.cell? ⟨g, i * 3, none⟩ = some (.int .i64 ts[i].f) ∧ w.cell? ⟨g, i * 3 + 1, none⟩ = some (.int .i64 ts[i].v) ∧ w.cell? ⟨g, i * 3 + 2, none⟩ = some (.slice (A i) ts[i].kids.length (C i)))
      (hsub : ∀ i x, i < ts.length → K i x → S x ∧ x ≠ g) (hdis : ∀ i j x, i < ts.length → j < ts.length → i ≠ j → K i x → ¬ K j x)
      (hk : ∀ i, (h : i < ts.length) → OwnR w (K i) (A i) (C i) ts[i].kids) : OwnR w S (some ⟨g, 0, none⟩) c ts

theorem OwnR.own {w : World} {S : Nat → Prop} {a : Option Addr} {c : Nat} {ts : List TermD} (h : OwnR w S a c ts) : ∃ xs, w.ownsRow 0 27 3 (.slice a ts.length c) ts.length xs := by
  cases h with
  | nil => exact ⟨[], World.ownsRow_nil w 0 27 3⟩
  | row S g c ts A C K xs hb hrow => exact ⟨xs, hrow⟩
theorem OwnR.le {w : World} {S : Nat → Prop} {a : Option Addr} {c : Nat} {ts : List TermD} (h : OwnR w S a c ts) : ts.length ≤ c := by
  obtain ⟨xs, h⟩ := h.own
  obtain ⟨_, _, e, hh⟩ := own_form h
  cases e
  exact hh
theorem OwnR.s {w : World} {S : Nat → Prop} {a : Option Addr} {c : Nat} {ts : List TermD} (h : OwnR w S a c ts) : OwnS w S a ts := by
  induction h with
  | nil S => exact .nil S none
  | row S g c ts A C K xs hb hrow hl hz hc hsub hdis hk ih => exact .row S g 0 ts A C K hb (hrow.lt g rfl).2 ⟨hl, fun i h => (hk i h).le⟩ hz (fun i h => by simpa using hc i h) (fun j => hrow.frozenAt j) hsub hdis ih
theorem OwnR.rd {w : World} {S : Nat → Prop} {a : Option Addr} {c : Nat} {ts : List TermD} (h : OwnR w S a c ts) : RdK w w.heap.size a ts := h.s.rd
theorem own_frame {w w' : World} {base : Nat} {e : TypeId} {size : Nat} {v : Value} {n : Nat} {xs : List Value} (h : w.ownsRow base e size v n xs) (hb : ∀ g, v.ownBlock = some g → w'.heap[g]? = w.heap[g]?) : w'.ownsRow base e size v n xs := by
  obtain ⟨h1, h2⟩ := h
  refine ⟨h1, ?_⟩
  rcases h2 with h2 | ⟨g, cap, cur, rfl, hg, hh, r⟩
  · exact .inl h2
  · exact .inr ⟨g, cap, cur, rfl, hg, by rw [hb g rfl]; exact hh, r⟩
theorem own_zero {w : World} {base : Nat} {e : TypeId} {size : Nat} {v : Value} {n : Nat} {xs : List Value} (h : w.ownsRow base e size v n xs) : w.ownsRow 0 e size v n xs := by
  obtain ⟨h1, h2⟩ := h
  refine ⟨h1, ?_⟩
  rcases h2 with h2 | ⟨g, cap, cur, rfl, hg, r⟩
  · exact .inl h2
  · exact .inr ⟨g, cap, cur, rfl, Nat.zero_le _, r⟩
theorem OwnR.frame {w w' : World} {S : Nat → Prop} {a : Option Addr} {c : Nat} {ts : List TermD} (h : OwnR w S a c ts) (hs : ∀ x, S x → w'.heap[x]? = w.heap[x]?) (_hz : w.heap.size ≤ w'.heap.size) : OwnR w' S a c ts := by
  induction h with
  | nil S => exact .nil S
  | row S g c ts A C K xs hb hrow hl hz' hc hsub hdis hk ih =>
    have e := hs g hb
    refine .row S g c ts A C K xs hb (own_frame hrow (fun k hk => by cases hk; exact e)) hl hz' (fun i h => ?_) hsub hdis (fun i h => ih i h (fun x hx => hs x (hsub i x h hx).1))
    obtain ⟨h0, h1, h2⟩ := hc i h
    exact ⟨(World.cell?_of_block (a := ⟨g, _, none⟩) e).trans h0, (World.cell?_of_block (a := ⟨g, _, none⟩) e).trans h1, (World.cell?_of_block (a := ⟨g, _, none⟩) e).trans h2⟩
theorem OwnR.mono {w : World} {S S' : Nat → Prop} {a : Option Addr} {c : Nat} {ts : List TermD} (h : OwnR w S a c ts) (hs : ∀ x, S x → S' x) : OwnR w S' a c ts := by
  cases h with
  | nil S => exact .nil S'
  | row S g c ts A C K xs hb hrow hl hz hc hsub hdis hk => exact .row S' g c ts A C K xs (hs g hb) hrow hl hz hc (fun i x h hx => ⟨hs x (hsub i x h hx).1, (hsub i x h hx).2⟩) hdis hk
theorem OwnR.setCell {w : World} {S : Nat → Prop} {a : Option Addr} {c : Nat} {ts : List TermD} (h : OwnR w S a c ts) (p : Addr) (hp : ¬ S p.block) (u : Value) : OwnR (w.setCell p u) S a c ts :=
  h.frame (fun x hx => Below.heap_setCell w p u x (fun e => hp (e ▸ hx))) (by simp)

/-- One of a row of terms: where its Kids lie, and in which blocks. -/
structure FE where
  t : TermD
  a : Option Addr
  c : Nat
  K : Nat → Prop
def FE.cells (e : FE) : Value × Value × Value := (.int .i64 e.t.f, .int .i64 e.t.v, .slice e.a e.t.kids.length e.c)

/-- Terms of which no two share a block; all from B on. -/
structure Forest (w : World) (B : Nat) (L : List FE) : Prop where
  own : ∀ e ∈ L, OwnR w e.K e.a e.c e.t.kids ∧ e.t.kids.length ≤ e.c ∧ (isW e.t.f ∧ isW e.t.v) ∧ ∀ x, e.K x → B ≤ x ∧ x < w.heap.size
  dis : L.Pairwise fun e d => ∀ x, e.K x → ¬ d.K x

theorem Forest.nil (w : World) (B : Nat) : Forest w B [] := ⟨fun e h => by simp at h, .nil⟩
theorem Forest.on {w w' : World} {B : Nat} {L : List FE} (h : Forest w B L) (hb : Below w.heap.size w w') : Forest w' B L :=
  ⟨fun e he => ⟨(h.own e he).1.frame (fun x hx => hb.block x ((h.own e he).2.2.2 x hx).2) hb.size, (h.own e he).2.1, (h.own e he).2.2.1, fun x hx => ⟨((h.own e he).2.2.2 x hx).1, Nat.lt_of_lt_of_le ((h.own e he).2.2.2 x hx).2 hb.size⟩⟩, h.dis⟩
theorem Forest.setCell {w : World} {B : Nat} {L : List FE} (h : Forest w B L) (p : Addr) (u : Value) (hp : ∀ e ∈ L, ¬ e.K p.block) : Forest (w.setCell p u) B L :=
  ⟨fun e he => ⟨(h.own e he).1.setCell p (hp e he) u, (h.own e he).2.1, (h.own e he).2.2.1, fun x hx => by simpa using (h.own e he).2.2.2 x hx⟩, h.dis⟩
theorem Forest.perm {w : World} {B : Nat} {L M : List FE} (h : Forest w B L) (hp : M.Perm L) : Forest w B M :=
  ⟨fun e he => h.own e (hp.subset he), (hp.pairwise_iff (fun hxy z hz hz' => hxy z hz' hz)).2 h.dis⟩
theorem Forest.append {w : World} {B : Nat} {L M : List FE} (h : Forest w B L) (k : Forest w B M) (hd : ∀ e ∈ L, ∀ d ∈ M, ∀ x, e.K x → ¬ d.K x) : Forest w B (L ++ M) :=
  ⟨fun e he => (List.mem_append.1 he).elim (h.own e) (k.own e), List.pairwise_append.2 ⟨h.dis, k.dis, fun e he d hd' => hd e he d hd'⟩⟩
theorem Forest.sub {w : World} {B : Nat} {L M : List FE} (h : Forest w B L) (hs : M.Sublist L) : Forest w B M := ⟨fun e he => h.own e (hs.subset he), h.dis.sublist hs⟩

/-- The row of a forest's terms, its own block apart, is a list of terms that owns its memory. -/
theorem Forest.owns {w : World} {B g cap : Nat} {L : List FE} (h : Forest w B L) (hrow : w.ownsRow B 27 3 (.slice (some ⟨g, 0, none⟩) L.length cap) L.length (cs3 (L.map FE.cells))) (hg : ∀ e ∈ L, ¬ e.K g) (hl : L.length ≤ 9223372036854775807) :
    OwnR w (fun x => B ≤ x ∧ x < w.heap.size) (some ⟨g, 0, none⟩) cap (L.map FE.t) := by
  have hlt := hrow.lt g rfl
  refine .row _ g cap (L.map FE.t) (fun i => (L[i]?.map FE.a).getD none) (fun i => (L[i]?.map FE.c).getD 0) (fun i x => ∃ e, L[i]? = some e ∧ e.K x) (cs3 (L.map FE.cells)) ⟨hlt.1, hlt.2⟩ (by simpa using own_zero hrow) (by simpa using hl) (fun i hi => ?_) (fun i hi => ?_) (fun i x hi hx => ?_) (fun i j x hi hj hne hx hy => ?_) (fun i hi => ?_)
  · have hi' : i < L.length := by simpa using hi
    simpa using (h.own _ (List.getElem_mem hi')).2.2.1
  · have hi' : i < L.length := by simpa using hi
    obtain ⟨c0, c1, c2⟩ := cs3_cells (l := L.map FE.cells) (k := i) (by simp) (by simpa using hi') hrow
    simp only [List.getElem_map, FE.cells] at c0 c1 c2
    simp only [List.getElem_map]
    exact ⟨c0, c1, by simpa [hi'] using c2⟩
  · obtain ⟨e, he, hx⟩ := hx
    obtain ⟨hi', e0⟩ := List.getElem?_eq_some_iff.1 he
    have hm : e ∈ L := e0 ▸ List.getElem_mem hi'
    exact ⟨(h.own e hm).2.2.2 x hx, fun ex => hg e hm (ex ▸ hx)⟩
  · obtain ⟨e, he, hx⟩ := hx
    obtain ⟨d, hd, hy⟩ := hy
    obtain ⟨hi', e0⟩ := List.getElem?_eq_some_iff.1 he
    obtain ⟨hj', e1⟩ := List.getElem?_eq_some_iff.1 hd
    rcases Nat.lt_or_gt_of_ne hne with hh | hh
    · exact (e0 ▸ e1 ▸ List.pairwise_iff_getElem.1 h.dis i j hi' hj' hh) x hx hy
    · exact (e1 ▸ e0 ▸ List.pairwise_iff_getElem.1 h.dis j i hj' hi' hh) x hy hx
  · have hi' : i < L.length := by simpa using hi
    have := (h.own _ (List.getElem_mem hi')).1
    simp only [hi', List.getElem?_eq_getElem, Option.map_some, Option.getD_some, List.getElem_map]
    exact this.mono (fun x hx => ⟨_, rfl, hx⟩)

/-- The Kids of a term that owns its memory are a forest. -/
theorem OwnR.forest {w : World} {S : Nat → Prop} {a : Option Addr} {c : Nat} {ts : List TermD} {B : Nat} (h : OwnR w S a c ts) (hs : ∀ x, S x → B ≤ x ∧ x < w.heap.size) :
    ∃ L : List FE, L.map FE.t = ts ∧ Forest w B L ∧ (∀ e ∈ L, ∀ x, e.K x → S x) ∧ (ts = [] ∨ ∃ b off, a = some ⟨b, off, none⟩ ∧ S b ∧ ∀ i, (hi : i < L.length) → w.cell? ⟨b, off + i * 3, none⟩ = some (L[i].cells).1 ∧ w.cell? ⟨b, off + i * 3 + 1, none⟩ = some (L[i].cells).2.1 ∧ w.cell? ⟨b, off + i * 3 + 2, none⟩ = some (L[i].cells).2.2) := by
  cases h with
  | nil S => exact ⟨[], rfl, .nil _ _, fun e h => by simp at h, .inl rfl⟩
  | row S b c ts A C K xs hb hrow hl hz hc hsub hdis hk =>
    refine ⟨(List.range ts.length).map fun i => ⟨ts[i]?.getD default, A i, C i, K i⟩, ?_, ⟨fun e he => ?_, ?_⟩, fun e he x hx => ?_, .inr ⟨b, 0, rfl, hb, fun i hi => ?_⟩⟩
    · apply List.ext_getElem
      · simp
      · intro i h1 h2; simp [h2]
    · simp only [List.mem_map, List.mem_range] at he
      obtain ⟨i, hi, rfl⟩ := he
      have e0 : ts[i]?.getD default = ts[i] := by simp [hi]
      simp only [e0]
      exact ⟨hk i hi, (hk i hi).le, hz i hi, fun x hx => hs x (hsub i x hi hx).1⟩
    · rw [List.pairwise_iff_getElem]
      intro i j hi hj hij x hx hy
      simp only [List.length_map, List.length_range] at hi hj
      simp only [List.getElem_map, List.getElem_range] at hx hy
      exact hdis i j x hi hj (by omega) hx hy
    · simp only [List.mem_map, List.mem_range] at he
      obtain ⟨i, hi, rfl⟩ := he
      exact (hsub i x hi hx).1
    · simp only [List.length_map, List.length_range] at hi
      have := hc i hi
      simp only [List.getElem_map, List.getElem_range, FE.cells]
      simpa [hi] using this
end Go.Proofs.Ytollijngiioonaa

/- The order of terms is total: alike terms are the same, and of two one is not behind the other; a list in order is told by what is in it. Conditions: none. -/
namespace Go.Proofs.Ytollijngiioonaa
set_option maxRecDepth 100000
open Go.RowKit

mutual
theorem sameT_eqT : ∀ t u : TermD, sameT t u = true → t = u
  | .mk f v ks, .mk f' v' ks', h => by
    simp only [sameT, Bool.and_eq_true, beq_iff_eq] at h
    obtain ⟨⟨⟨h1, h2⟩, h3⟩, h4⟩ := h
    rw [h1, h2, sameL_eqL ks ks' h3 h4]
theorem sameL_eqL : ∀ ts us : List TermD, ts.length = us.length → sameL ts us = true → ts = us
  | [], us, hl, _ => by cases us with | nil => rfl | cons u us => simp at hl
  | t :: ts, [], hl, _ => by simp at hl
  | t :: ts, u :: us, hl, h => by
    simp only [sameL, Bool.and_eq_true] at h
    rw [sameT_eqT t u h.1, sameL_eqL ts us (by simpa using hl) h.2]
end
theorem ordT_zero {t u : TermD} : ordT t u = 0 ↔ t = u := by
  constructor
  · intro h; exact sameT_eqT t u ((ordT_same t u).1 h)
  · rintro rfl
    refine (ordT_same t t).2 ?_
    have : ∀ n : Nat, ∀ t : TermD, partsT t ≤ n → sameT t t = true := by
      intro n
      induction n with
      | zero => intro t h; rw [partsT_eq] at h; omega
      | succ n ih =>
        intro t h
        rw [sameT_eq]
        rw [partsT_eq] at h
        simp only [beq_self_eq_true, Bool.true_and]
        exact sameL_all rfl (fun k hk _ => ih _ (by have := partsL_get hk; omega))
    exact this _ t (Nat.le_refl _)

theorem cmpI_swap (x y : Int) : cmpI y x = - cmpI x y := by unfold cmpI; split <;> (try split) <;> (try split) <;> omega
theorem or3_swap (x y z : Int) : or3 (-x) (-y) (-z) = - or3 x y z := by unfold or3; split <;> (try split) <;> (try split) <;> (try split) <;> omega
theorem headO_swap (t u : TermD) : headO u t = - headO t u := by
  unfold headO
  rw [cmpI_swap t.f u.f, cmpI_swap t.v u.v, cmpI_swap (t.kids.length : Int) u.kids.length, or3_swap]
mutual
theorem ordT_swap : ∀ t u : TermD, ordT u t = - ordT t u
  | .mk f v ks, .mk f' v' ks' => by
    have h1 := headO_swap (.mk f v ks) (.mk f' v' ks')
    have h2 := ordL_swap ks ks'
    rw [ordT_eq, ordT_eq, h1]
    show (if -headO (TermD.mk f v ks) (.mk f' v' ks') ≠ 0 then -headO (TermD.mk f v ks) (.mk f' v' ks') else ordL ks' ks) = -(if headO (TermD.mk f v ks) (.mk f' v' ks') ≠ 0 then headO (TermD.mk f v ks) (.mk f' v' ks') else ordL ks ks')
    rw [h2]
    split <;> split <;> omega
theorem ordL_swap : ∀ ts us : List TermD, ordL us ts = - ordL ts us
  | [], us => by cases us <;> simp [ordL]
  | t :: ts, [] => by simp [ordL]
  | t :: ts, u :: us => by
    have h1 := ordT_swap t u
    have h2 := ordL_swap ts us
    rw [ordL_cons, ordL_cons, h1, h2]
    split <;> split <;> omega
end

theorem headO_neg {t u : TermD} : headO t u < 0 ↔ (t.f < u.f ∨ (t.f = u.f ∧ (t.v < u.v ∨ (t.v = u.v ∧ t.kids.length < u.kids.length)))) := by
  unfold headO or3
  by_cases e1 : t.f = u.f
  · rw [cmpI_zero.2 e1]
    by_cases e2 : t.v = u.v
    · rw [cmpI_zero.2 e2]
      simp only [ne_eq, not_true_eq_false, if_false, cmpI_neg]
      omega
    · have h2 := mt cmpI_zero.1 e2
      simp only [ne_eq, not_true_eq_false, if_false, h2, not_false_eq_true, if_true, cmpI_neg]
      omega
  · have h1 := mt cmpI_zero.1 e1
    simp only [ne_eq, h1, not_false_eq_true, if_true, cmpI_neg]
    omega
theorem headO_le {a b : TermD} (h : ordT a b ≤ 0) : headO a b ≤ 0 := by
  rw [ordT_eq] at h
  split at h
  · exact h
  · omega
theorem headO_lt {a b : TermD} (h : headO a b < 0) : ordT a b < 0 := by
  rw [ordT_eq, if_pos (by omega)]; exact h

theorem ordT_trans : ∀ (n : Nat) (a b c : TermD), partsT a ≤ n → ordT a b ≤ 0 → ordT b c ≤ 0 → ordT a c ≤ 0 := by
  intro n
  induction n with
  | zero => intro a b c h; rw [partsT_eq] at h; omega
  | succ n ih =>
    have hL : ∀ (ts us vs : List TermD), partsL ts ≤ n → ts.length = us.length → us.length = vs.length → ordL ts us ≤ 0 → ordL us vs ≤ 0 → ordL ts vs ≤ 0 := by
      intro ts
      induction ts with
      | nil => intro us vs _ h1 h2 _ _; cases us with
        | nil => cases vs with
          | nil => simp [ordL]
          | cons v vs => simp at h2
        | cons u us => simp at h1
      | cons t ts iht =>
        intro us vs hp h1 h2 g1 g2
        cases us with
        | nil => simp at h1
        | cons u us => cases vs with
          | nil => simp at h2
          | cons v vs =>
            rw [partsL] at hp
            rw [ordL_cons] at g1 g2 ⊢
            by_cases e1 : ordT t u = 0
            · have e := ordT_zero.1 e1
              subst e
              rw [if_neg (by omega)] at g1
              by_cases e2 : ordT t v = 0
              · rw [if_neg (by omega)] at g2 ⊢
                exact iht us vs (by omega) (by simpa using h1) (by simpa using h2) g1 g2
              · rw [if_pos e2] at g2 ⊢; exact g2
            · rw [if_pos e1] at g1
              have g3 : ordT u v ≤ 0 := by
                by_cases e2 : ordT u v = 0
                · omega
                · rw [if_pos e2] at g2; exact g2
              have g4 := ih t u v (by omega) g1 g3
              have g5 : ordT t v ≠ 0 := fun e => by
                have := ordT_zero.1 e
                subst this
                have := ordT_swap t u
                omega
              rw [if_pos g5]; exact g4
    intro a b c hp h1 h2
    rw [partsT_eq] at hp
    have k1 := headO_le h1
    have k2 := headO_le h2
    by_cases e1 : headO a b = 0
    · by_cases e2 : headO b c = 0
      · have z1 := headO_zero.1 e1
        have z2 := headO_zero.1 e2
        have e3 : headO a c = 0 := headO_zero.2 ⟨z1.1.trans z2.1, z1.2.1.trans z2.2.1, z1.2.2.trans z2.2.2⟩
        rw [ordT_eq, if_neg (by omega)] at h1 h2 ⊢
        exact hL _ _ _ (by omega) z1.2.2 z2.2.2 h1 h2
      · have z1 := headO_zero.1 e1
        have z2 := headO_neg.1 (show headO b c < 0 by omega)
        exact Int.le_of_lt (headO_lt (headO_neg.2 (by omega)))
    · have z1 := headO_neg.1 (show headO a b < 0 by omega)
      by_cases e2 : headO b c = 0
      · have z2 := headO_zero.1 e2
        exact Int.le_of_lt (headO_lt (headO_neg.2 (by omega)))
      · have z2 := headO_neg.1 (show headO b c < 0 by omega)
        exact Int.le_of_lt (headO_lt (headO_neg.2 (by omega)))

/-- Not behind. -/
def leT (a b : TermD) : Prop := ordT a b ≤ 0
theorem leT_refl (a : TermD) : leT a a := by show ordT a a ≤ 0; rw [ordT_zero.2 rfl]; omega
theorem leT_trans {a b c : TermD} (h1 : leT a b) (h2 : leT b c) : leT a c := ordT_trans _ a b c (Nat.le_refl _) h1 h2
theorem leT_total (a b : TermD) : leT a b ∨ leT b a := by
  unfold leT
  have := ordT_swap a b
  omega
theorem leT_anti {a b : TermD} (h1 : leT a b) (h2 : leT b a) : a = b := by
  unfold leT at *
  have := ordT_swap a b
  exact ordT_zero.1 (by omega)
theorem befT_leT (a b : TermD) : befT a b = false ↔ leT b a := by
  rw [← ordT_bef]
  unfold leT
  have := ordT_swap a b
  simp
  omega

/-- Two lists in order of which one is the other in another order are the same. -/
theorem sorted_ext : ∀ {a b : List TermD}, a.Pairwise leT → b.Pairwise leT → a.Perm b → a = b
  | [], b, _, _, h => by rw [List.nil_perm] at h; rw [h]
  | x :: a, [], _, _, h => by have := h.length_eq; simp at this
  | x :: a, y :: b, ha, hb, h => by
    rw [List.pairwise_cons] at ha hb
    have e : x = y := by
      have h1 : x ∈ y :: b := h.subset (by simp)
      have h2 : y ∈ x :: a := h.symm.subset (by simp)
      rcases List.mem_cons.1 h1 with h1 | h1
      · exact h1
      · rcases List.mem_cons.1 h2 with h2 | h2
        · exact h2.symm
        · exact leT_anti (ha.1 y h2) (hb.1 x h1)
    subst e
    rw [sorted_ext ha.2 hb.2 (h.cons_inv)]

theorem tw_all (p : TermD → Bool) : ∀ (l : List TermD), ∀ x ∈ l.takeWhile p, p x = true
  | [], x, h => by simp at h
  | y :: l, x, h => by
    by_cases e : p y = true
    · simp only [List.takeWhile_cons, e, if_true] at h
      rcases List.mem_cons.1 h with h | h
      · rw [h]; exact e
      · exact tw_all p l x h
    · simp only [List.takeWhile_cons, e] at h
      simp at h
theorem putT_sorted {t : TermD} {l : List TermD} (h : l.Pairwise leT) : (putT t l).Pairwise leT := by
  unfold putT
  have h1 : ∀ x ∈ l.takeWhile (fun e => !befT t e), leT x t := fun x hx => by
    have := tw_all _ l x hx
    exact (befT_leT t x).1 (by simpa using this)
  have h2 : ∀ x ∈ l.dropWhile (fun e => !befT t e), leT t x := by
    intro x hx
    have hd := h.sublist (List.dropWhile_sublist (fun e => !befT t e))
    cases hc : l.dropWhile (fun e => !befT t e) with
    | nil => rw [hc] at hx; simp at hx
    | cons y ys =>
      have hy : leT t y := by
        have := List.head?_dropWhile_not (fun e => !befT t e) l
        rw [hc] at this
        simp at this
        rcases leT_total t y with q | q
        · exact q
        · have := (befT_leT t y).2 q
          simp_all
      rw [hc] at hx hd
      rcases List.mem_cons.1 hx with e | e
      · exact e ▸ hy
      · exact leT_trans hy ((List.pairwise_cons.1 hd).1 x e)
  rw [List.pairwise_append]
  refine ⟨h.sublist (List.takeWhile_sublist _), List.pairwise_cons.2 ⟨h2, h.sublist (List.dropWhile_sublist _)⟩, fun x hx y hy => ?_⟩
  rcases List.mem_cons.1 hy with e | e
  · exact e ▸ h1 x hx
  · exact leT_trans (h1 x hx) (h2 y e)
end Go.Proofs.Ytollijngiioonaa

