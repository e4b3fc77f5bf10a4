/- What the proof of FnExactSubOk stands on, part 1 of 12: each piece says what it proves and under which conditions. Conditions: as each piece says. -/
import Derived.WalkKit
import Derived.ProofKit
import Derived.OpenShut
import Derived.WalkSmall
import Derived.Deep.QuietTactic
import Derived.BigQuiet
import Derived.Below
import Derived.Deep.Draws
import Derived.Test.YtkjlldbgooogdabProg
import Derived.Deep.Slices
import Derived.Deep.RegionWith
import Derived.Deep.RegionHeld3
import Derived.Deep.DeepMust
/- Lists of functions (name, how many arguments, blind or not): what is right, and how they lie in memory. Conditions: none. -/
namespace Go.Proofs.Ytkjlldbgooogdab
set_option maxRecDepth 100000
open Go.RowKit


/-- A function as data. -/
structure SymD where
  name : ByteArray
  ar : Int
  ac : Bool

instance : Inhabited SymD := ⟨⟨ByteArray.empty, 0, false⟩⟩

/-- The slice of functions that begins at 'a' reads in w as ss. -/
def RdS (w : World) (a : Option Addr) (ss : List SymD) : Prop :=
  ss = [] ∨ ∃ b off, a = some ⟨b, off, none⟩ ∧ b < w.heap.size ∧ ∀ i, (h : i < ss.length) →
    w.cell? ⟨b, off + i * 3, none⟩ = some (.string ss[i].name) ∧ w.cell? ⟨b, off + i * 3 + 1, none⟩ = some (.int .i64 ss[i].ar) ∧ w.cell? ⟨b, off + i * 3 + 2, none⟩ = some (.bool ss[i].ac)

theorem RdS.below {w w' : World} {a : Option Addr} {ss : List SymD} (h : RdS w a ss) (hb : Below w.heap.size w w') : RdS w' a ss := by
  rcases h with h | ⟨b, off, rfl, hlt, hc⟩
  · exact .inl h
  · refine .inr ⟨b, off, rfl, Nat.lt_of_lt_of_le hlt hb.size, fun i hi => ?_⟩
    obtain ⟨h0, h1, h2⟩ := hc i hi
    exact ⟨(hb.cell (p := ⟨b, off + i * 3, none⟩) hlt).trans h0, (hb.cell (p := ⟨b, off + i * 3 + 1, none⟩) hlt).trans h1, (hb.cell (p := ⟨b, off + i * 3 + 2, none⟩) hlt).trans h2⟩

theorem ret_int {a b : Int} (h : a = b) : Ending.returned (.int .i64 a) = .returned (.int .i64 b) := by rw [h]

theorem ret_bool {a b : Bool} (h : a = b) : Ending.returned (.bool a) = .returned (.bool b) := by rw [h]

/-- Where the first function of that name stands; -1. -/
def symOf (ss : List SymD) (n : ByteArray) : Int := match ss.findIdx? (fun s => s.name.toList == n.toList) with
  | some i => i
  | none => -1

theorem symOf_hit {ss : List SymD} {n : ByteArray} {k : Nat} (hk : k < ss.length) (h0 : ∀ j, (h : j < ss.length) → j < k → (ss[j].name.toList == n.toList) = false) (h : (ss[k].name.toList == n.toList) = true) : symOf ss n = k := by
  have : ss.findIdx? (fun s => s.name.toList == n.toList) = some k := by
    rw [List.findIdx?_eq_some_iff_getElem]
    exact ⟨hk, h, fun j hj => by simp [h0 j (by omega) hj]⟩
  simp [symOf, this]

theorem symOf_none {ss : List SymD} {n : ByteArray} (h0 : ∀ j, (h : j < ss.length) → (ss[j].name.toList == n.toList) = false) : symOf ss n = -1 := by
  have : ss.findIdx? (fun s => s.name.toList == n.toList) = none := by
    rw [List.findIdx?_eq_none_iff]
    intro s hs
    obtain ⟨j, hj, rfl⟩ := List.getElem_of_mem hs
    exact h0 j hj
  simp [symOf, this]

/-- A function as a value. -/
def symV (s : SymD) : Value := .agg #[.string s.name, .int .i64 s.ar, .bool s.ac]

def symC (s : SymD) : List Value := [.string s.name, .int .i64 s.ar, .bool s.ac]

def symCs (ss : List SymD) : List Value := ss.flatMap symC

theorem symCs_len (ss : List SymD) : (symCs ss).length = ss.length * 3 := by
  induction ss with
  | nil => rfl
  | cons s ss ih => simp only [symCs, List.flatMap_cons, List.length_append] at *; rw [ih]; simp [symC]; omega

def zeroSym : SymD := ⟨⟨#[]⟩, 0, false⟩

theorem set3 (s : SymD) : ∀ (l : List SymD) (k : Nat), k < l.length → (((symCs l).set (k * 3) (.string s.name)).set (k * 3 + 1) (.int .i64 s.ar)).set (k * 3 + 2) (.bool s.ac) = symCs (l.set k s)
  | [], k, h => by simp at h
  | x :: l, 0, _ => by simp [symCs, symC]
  | x :: l, k + 1, h => by
    have ih := set3 s l k (by simpa using h)
    have e : ∀ (m : Nat) (L : List Value) (v : Value), (symC x ++ L).set (m + 3) v = symC x ++ L.set m v := by
      intro m L v
      simp [symC]
    have e0 : (k + 1) * 3 = k * 3 + 3 := by omega
    rw [List.set_cons_succ]
    simp only [symCs, List.flatMap_cons] at *
    rw [e0, e, show k * 3 + 3 + 1 = (k * 3 + 1) + 3 by omega, e, show k * 3 + 3 + 2 = (k * 3 + 2) + 3 by omega, e, ih]

theorem get3 : ∀ (l : List SymD) (k : Nat), (h : k < l.length) → (symCs l)[k * 3]? = some (.string l[k].name) ∧ (symCs l)[k * 3 + 1]? = some (.int .i64 l[k].ar) ∧ (symCs l)[k * 3 + 2]? = some (.bool l[k].ac)
  | [], k, h => by simp at h
  | x :: l, 0, _ => by simp [symCs, symC]
  | x :: l, k + 1, h => by
    have ih := get3 l k (by simpa using h)
    have e : ∀ (m : Nat) (L : List Value), (symC x ++ L)[m + 3]? = L[m]? := by
      intro m L
      rw [List.getElem?_append_right (by simp [symC])]
      simp [symC]
    have e0 : (k + 1) * 3 = k * 3 + 3 := by omega
    simp only [symCs, List.flatMap_cons, List.getElem_cons_succ] at *
    rw [e0, e, show k * 3 + 3 + 1 = (k * 3 + 1) + 3 by omega, e, show k * 3 + 3 + 2 = (k * 3 + 2) + 3 by omega, e]
    exact ih

theorem made3 : ∀ (n : Nat), (madeCells #[.string ⟨#[]⟩, .int .i64 0, .bool false] (n * 3)).toList = symCs (List.replicate n zeroSym)
  | 0 => by simp [madeCells, symCs]
  | n + 1 => by
    have ih := made3 n
    rw [List.replicate_succ', symCs, List.flatMap_append]
    rw [symCs] at ih
    rw [← ih]
    have e0 : (n + 1) * 3 = n * 3 + 1 + 1 + 1 := by omega
    rw [e0]
    simp only [madeCells, Array.toList_map, Array.toList_range, List.range_succ, List.map_append, List.map_cons, List.map_nil, List.append_assoc]
    have m0 : n * 3 % 3 = 0 := by omega
    have m1 : (n * 3 + 1) % 3 = 1 := by omega
    have m2 : (n * 3 + 1 + 1) % 3 = 2 := by omega
    simp [m0, m1, m2, symC, zeroSym]

theorem step3 {ss : List SymD} {k : Nat} (h : k < ss.length) : (ss.take k ++ List.replicate (ss.length - k) zeroSym).set k ss[k] = ss.take (k + 1) ++ List.replicate (ss.length - (k + 1)) zeroSym := by
  have l : (ss.take k).length = k := by rw [List.length_take]; omega
  have e : ss.length - k = (ss.length - (k + 1)) + 1 := by omega
  rw [List.set_append, if_neg (by omega), l, Nat.sub_self, e, List.replicate_succ, List.set_cons_zero, List.take_succ_eq_append_getElem h, List.append_assoc]
  rfl

theorem len3 {ss : List SymD} {k : Nat} (h : k ≤ ss.length) : ss.length = (ss.take k ++ List.replicate (ss.length - k) zeroSym).length := by simp; omega

theorem lt3 {ss : List SymD} {k : Nat} (h : k < ss.length) : k < (ss.take k ++ List.replicate (ss.length - k) zeroSym).length := by rw [← len3 (by omega)]; exact h

theorem own_belowS {w w' : World} {base : Nat} {e : TypeId} {size : Nat} {v : Value} {n : Nat} {xs : List Value} (h : w.ownsRow base e size v n xs) (hb : Below w.heap.size w w') : w'.ownsRow base e size v n xs := by
  have hl := h.lt
  obtain ⟨h1, h2⟩ := h
  refine ⟨h1, ?_⟩
  rcases h2 with h2 | ⟨g, cap, cur, rfl, hg, hh, r⟩
  · exact .inl h2
  · exact .inr ⟨g, cap, cur, rfl, hg, by rw [hb.block g (hl g rfl).2]; exact hh, r⟩

/-- Three stores that lay one function into an owned row. -/
theorem store3 {w : World} {T : TypeId} {B g c n : Nat} {l : List SymD} (s : SymD) {k : Nat} (hk : k < l.length) (h : w.ownsRow B T 3 (.slice (some ⟨g, 0, none⟩) n c) n (symCs l)) :
    (((w.setCell ⟨g, k * 3, none⟩ (.string s.name)).setCell ⟨g, k * 3 + 1, none⟩ (.int .i64 s.ar)).setCell ⟨g, k * 3 + 2, none⟩ (.bool s.ac)).ownsRow B T 3 (.slice (some ⟨g, 0, none⟩) n c) n (symCs (l.set k s)) := by
  have h1 := (((h.stored (k * 3) (.string s.name)).1.stored (k * 3 + 1) (.int .i64 s.ar)).1.stored (k * 3 + 2) (.bool s.ac)).1
  rwa [set3 s l k hk] at h1

theorem cells3 {w : World} {T : TypeId} {B g c n : Nat} {l : List SymD} {k : Nat} (hn : n = l.length) (hk : k < l.length) (h : w.ownsRow B T 3 (.slice (some ⟨g, 0, none⟩) n c) n (symCs l)) :
    w.cell? ⟨g, k * 3, none⟩ = some (.string l[k].name) ∧ w.cell? ⟨g, k * 3 + 1, none⟩ = some (.int .i64 l[k].ar) ∧ w.cell? ⟨g, k * 3 + 2, none⟩ = some (.bool l[k].ac) := by
  obtain ⟨g0, g1, g2⟩ := get3 l k hk
  exact ⟨(h.cellAt _ (by omega)).trans g0, (h.cellAt _ (by omega)).trans g1, (h.cellAt _ (by omega)).trans g2⟩

theorem RdS.own {w : World} {T : TypeId} {base g cap : Nat} {ss : List SymD} {n : Nat} (hn : n = ss.length) (h : w.ownsRow base T 3 (.slice (some ⟨g, 0, none⟩) n cap) n (symCs ss)) : RdS w (some ⟨g, 0, none⟩) ss := by
  refine .inr ⟨g, 0, rfl, (h.lt g rfl).2, fun i hi => ?_⟩
  have := cells3 hn hi h
  simpa using this


/-- How many bytes the names of the first functions take. -/
def bytesOf (ss : List SymD) : Nat := (ss.map fun s => s.name.size).sum

theorem bytesOf_next {ss : List SymD} {k : Nat} (h : k < ss.length) : bytesOf (ss.take (k + 1)) = bytesOf (ss.take k) + ss[k].name.size := by
  rw [List.take_succ_eq_append_getElem h, bytesOf, bytesOf, List.map_append, List.sum_append]
  simp only [List.map_cons, List.map_nil, List.sum_cons, List.sum_nil, Nat.add_zero]

/-- Whether two functions are alike. -/
def symEq (s t : SymD) : Bool := (s.name.toList == t.name.toList) && (s.ar == t.ar) && (s.ac == t.ac)

/-- Whether two lists of functions are alike. -/
def symsEq : List SymD → List SymD → Bool
  | [], [] => true
  | s :: ss, t :: ts => symEq s t && symsEq ss ts
  | _, _ => false

theorem symEq_self (s : SymD) : symEq s s = true := by simp [symEq]


/-- Whether byte c may stand at place i of a name. -/
def chOk (i : Nat) (c : UInt8) : Bool := (decide (97 ≤ c.toNat) && decide (c.toNat ≤ 122)) || (decide (0 < i) && decide (48 ≤ c.toNat) && decide (c.toNat ≤ 57))

/-- Whether the first k bytes may stand in a name. -/
def chsOk (s : ByteArray) : Nat → Bool
  | 0 => true
  | k + 1 => chsOk s k && (if h : k < s.size then chOk k s[k] else true)

def nameOk (s : ByteArray) : Bool := chsOk s s.size && decide (1 ≤ s.size) && decide (s.size ≤ 8)

theorem chs_bad (s : ByteArray) {k : Nat} (h : k < s.size) (hb : chOk k s[k] = false) : nameOk s = false := by
  have : ∀ n, k < n → chsOk s n = false := by
    intro n
    induction n with
    | zero => intro h; omega
    | succ n ih =>
      intro hn
      rw [chsOk]
      by_cases e : k = n
      · subst e; rw [dif_pos h, hb]; simp
      · rw [ih (by omega)]; simp
  rw [nameOk, this s.size h]; rfl

theorem name_pos {s : ByteArray} (h : chsOk s s.size = true) (h1 : (1 : Int) ≤ (s.size : Int)) : nameOk s = decide ((s.size : Int) ≤ 8) := by
  rw [nameOk, h, decide_eq_true (show 1 ≤ s.size by omega)]
  simp only [Bool.true_and]
  exact decide_eq_decide.2 (by omega)

theorem name_neg {s : ByteArray} (h1 : ¬ (1 : Int) ≤ (s.size : Int)) : nameOk s = false := by
  rw [nameOk, decide_eq_false (show ¬ 1 ≤ s.size by omega)]; simp

/-- Whether the function of that number is blind; how many arguments it has. -/
def blindAt (ss : List SymD) (f : Int) : Bool := if 0 ≤ f then (ss[f.toNat]?.map SymD.ac).getD false else false

def arityAt (ss : List SymD) (f : Int) : Int := if 0 ≤ f then (ss[f.toNat]?.map SymD.ar).getD (-1) else -1

theorem blindAt_in {ss : List SymD} {k : Nat} (h : k < ss.length) : blindAt ss k = ss[k].ac := by simp [blindAt, h]

theorem arityAt_in {ss : List SymD} {k : Nat} (h : k < ss.length) : arityAt ss k = ss[k].ar := by simp [arityAt, h]

theorem at_out {ss : List SymD} {f : Int} (h : f < 0 ∨ (ss.length : Int) - 1 < f) : blindAt ss f = false ∧ arityAt ss f = -1 := by
  unfold blindAt arityAt
  by_cases h0 : 0 ≤ f
  · have : ss[f.toNat]? = none := by rw [List.getElem?_eq_none_iff]; omega
    simp [this]
  · simp [h0]


/-- Whether function k of the list is right. -/
def goodAt (ss : List SymD) (k : Nat) (s : SymD) : Bool := nameOk s.name && (symOf ss s.name == (k : Int)) && (decide (0 ≤ s.ar) && decide (s.ar ≤ 3)) && (!s.ac || s.ar == 2)

def goodTo (ss : List SymD) : Nat → Bool
  | 0 => true
  | k + 1 => goodTo ss k && (if h : k < ss.length then goodAt ss k ss[k] else true)

def isTT (s : SymD) : Bool := (s.name.toList == [116, 116]) && (s.ar == 0) && !s.ac

def sigOk (ss : List SymD) : Bool := goodTo ss ss.length && (decide (1 ≤ ss.length) && decide (ss.length ≤ 8)) && (ss.head?.map isTT).getD false

theorem sig_bad {ss : List SymD} {k : Nat} (h : k < ss.length) (hb : goodAt ss k ss[k] = false) : sigOk ss = false := by
  have : ∀ n, k < n → goodTo ss n = false := by
    intro n
    induction n with
    | zero => intro h; omega
    | succ n ih =>
      intro hn
      rw [goodTo]
      by_cases e : k = n
      · subst e; rw [dif_pos h, hb]; simp
      · rw [ih (by omega)]; simp
  rw [sigOk, this ss.length h]; rfl

theorem good_next {ss : List SymD} {k : Nat} (h : k < ss.length) (h0 : goodTo ss k = true) (hg : goodAt ss k ss[k] = true) : goodTo ss (k + 1) = true := by
  rw [goodTo, h0, dif_pos h, hg]; rfl

theorem sig_end {ss : List SymD} (h : goodTo ss ss.length = true) (h1 : 0 < ss.length) (h8 : ss.length ≤ 8) : sigOk ss = isTT ss[0] := by
  rw [sigOk, h, decide_eq_true (show 1 ≤ ss.length by omega), decide_eq_true h8]
  cases ss with
  | nil => simp at h1
  | cons s ss => simp
end Go.Proofs.Ytkjlldbgooogdab

/- How a list of functions that came in as an argument is opened: its cells, and that each part is in its bounds. Conditions: none. -/
namespace Go.Proofs.Ytkjlldbgooogdab
set_option maxRecDepth 100000
open Go.RowKit Go.ChangeShapes Go.WideShapes Go.ChangeAt

theorem cells38 : Try.prog.cellsOf 58 = 3 := by kernel_rfl
theorem cells9 : Try.prog.cellsOf 9 = 1 := by kernel_rfl
theorem cells3i : Try.prog.cellsOf 3 = 1 := by kernel_rfl
theorem cells4 : Try.prog.cellsOf 4 = 1 := by kernel_rfl

set_option maxRecDepth 100000 in
theorem sym_of_trod {H : Type} {enc : TypeId × Value → H} {w : World} {base : Nat} {spare : Nat → Bool} {held : Bool} {n : Nat} {cs : List Value} {x : DataW H × List MemPlace}
    (h : DataW.trod enc Try.prog w base spare held n 58 cs = some x) : ∃ s : SymD, cs = symC s ∧ s.name.size ≤ maxLen ∧ (Lit.int .i64 s.ar).wf = true := by
  obtain ⟨xs, m, rfl, rfl, hlen, hxl, hf⟩ := DataW.trod_struct Try.underlying58 h
  rw [cells38] at hlen
  match cs, hlen with
  | [c0, c1, c2], _ =>
    match xs, hxl with
    | [y0, y1, y2], _ =>
      have h0 : DataW.trod enc Try.prog w base spare held m 9 [c0] = some y0 := by have := hf 0 _ rfl; simpa [cells9] using this
      have h1 : DataW.trod enc Try.prog w base spare held m 3 [c1] = some y1 := by have := hf 1 _ rfl; simpa [cells3i] using this
      have h2 : DataW.trod enc Try.prog w base spare held m 4 [c2] = some y2 := by have := hf 2 _ rfl; simpa [cells4] using this
      obtain ⟨s, e0, _, hs⟩ := DataW.trod_string Try.underlying9 h0
      obtain ⟨z, e1, _, hz⟩ := DataW.trod_int Try.underlying3 h1
      obtain ⟨b, e2, _⟩ := DataW.trod_bool Try.underlying4 h2
      simp at e0 e1 e2
      subst e0 e1 e2
      exact ⟨⟨s, z, b⟩, rfl, hs, hz⟩

set_option maxRecDepth 100000 in
theorem open_syms {H : Type} {enc : TypeId × Value → H} {W : World} {base : Nat} {spare : Nat → Bool} {held : Bool} {v : Value} {d : DataW H} {p : List MemPlace} {a : Option Addr} {len cap : Nat} (hv : v = .slice a len cap)
    (h : DataW.Trod enc Try.prog W base spare held 22 v d p) : ∃ ss : List SymD, len = ss.length ∧ len ≤ maxLen ∧ RdS W a ss ∧ ∀ s ∈ ss, s.name.size ≤ maxLen ∧ (Lit.int .i64 s.ar).wf = true := by
  subst hv
  obtain ⟨fuel, hf⟩ := h
  rcases Deep.open_slice Try.underlying22 hf with ⟨hcs, _⟩ | ⟨x, l, c, m, n, Dd, Pl, hcs, _, hl, hm, hmm, _, hel⟩
  · simp [Value.cells] at hcs
    obtain ⟨rfl, rfl, rfl⟩ := hcs
    exact ⟨[], rfl, Nat.zero_le _, .inl rfl, fun s hs => by simp at hs⟩
  · simp [Value.cells] at hcs
    obtain ⟨rfl, rfl, rfl⟩ := hcs
    rw [cells38] at hel
    have hlm : len ≤ m := by rw [hmm]; split <;> omega
    have hall : ∀ i, i < len → ∃ s : SymD, W.cells? base (x.add (i * 3)) 3 = some (symC s) ∧ s.name.size ≤ maxLen ∧ (Lit.int .i64 s.ar).wf = true := by
      intro i hi
      obtain ⟨cs', h1, h2⟩ := hel i (by omega)
      obtain ⟨s, rfl, h3, h4⟩ := sym_of_trod h2
      exact ⟨s, h1, h3, h4⟩
    obtain ⟨F, hF⟩ := Deep.choose_lt hall
    refine ⟨(List.range len).map F, by simp, by omega, ?_, ?_⟩
    · by_cases h0 : len = 0
      · subst h0; exact .inl rfl
      · have hcell : ∀ i, (hi : i < len) → ∀ j, j < 3 → W.cell? ((x.add (i * 3)).add j) = (symC (F i))[j]? := fun i hi j hj => (World.cells?_some (hF i hi).1).2.2 j hj
        obtain ⟨b, off, spot⟩ := x
        have hc0 := hcell 0 (by omega) 0 (by omega)
        have hspot : spot = none := by
          have h1 : W.cell? (⟨b, off, spot⟩ : Addr) = some (.string (F 0).name) := by simpa [Addr.add, symC] using hc0
          simpa using World.cell?_spot h1
        subst hspot
        have hadd : ∀ i j, ((⟨b, off, none⟩ : Addr).add i).add j = ⟨b, off + i + j, none⟩ := by
          intro i j
          by_cases h1 : i = 0 <;> by_cases h2 : j = 0 <;> simp [Addr.add, h1, h2, Nat.add_assoc]
        have hb : b < W.heap.size := by
          have h1 : W.cell? (⟨b, off, none⟩ : Addr) = some (.string (F 0).name) := by simpa [Addr.add, symC] using hc0
          exact World.block_lt_of_cell? _ _ h1
        refine .inr ⟨b, off, rfl, hb, fun i hi => ?_⟩
        simp at hi
        have g0 := hcell i hi 0 (by omega)
        have g1 := hcell i hi 1 (by omega)
        have g2 := hcell i hi 2 (by omega)
        rw [hadd] at g0 g1 g2
        simp [symC] at g0 g1 g2
        simp [g0, g1, g2]
    · intro s hs
      simp at hs
      obtain ⟨i, hi, rfl⟩ := hs
      exact ⟨(hF i hi).2.1, (hF i hi).2.2⟩
end Go.Proofs.Ytkjlldbgooogdab

/- Contracts of the laws' helpers on lists of functions: a copy, how much it holds, whether two are alike. Conditions: lists that are copied have at most 1048577 functions. -/
namespace Go.Proofs.Ytkjlldbgooogdab
set_option maxRecDepth 100000
open Go.RowKit

set_option maxHeartbeats 800000 in
theorem toSym_any (n : ByteArray) (ar : Int) (ac : Bool) (w : World) :
    Calls Try.prog 38 #[.agg #[.string n, .int .i64 ar, .bool ac]] w fun e w' => e = .returned (.agg #[.string n, .int .i64 ar, .bool ac]) ∧ Below w.heap.size w w' := by
  go_enter Try.func38, Try.ntmps38
  go_wp2
  exact bodyPost_ret (v := .agg #[.string n, .int .i64 ar, .bool ac]) (by simp [results, Try.results38, go_sem]) rfl ⟨rfl, (((Below.refl _ _).alloc (Nat.le_refl _) _).alloc (by simp) _).alloc (by simp; omega) _⟩

set_option maxHeartbeats 800000 in
theorem szSym_any (n : ByteArray) (ar : Int) (ac : Bool) (k : Int) (w : World) (hk : k ≤ 1048576) (hk0 : 0 ≤ k) (hn : n.size ≤ 9223372036854775807) :
    Calls Try.prog 32 #[.agg #[.string n, .int .i64 ar, .bool ac], .int .i64 k] w fun e w' => e = .returned (.int .i64 (if k < n.size then -1 else k - n.size)) ∧ Below w.heap.size w w' := by
  by_cases h : k < n.size
  · rw [if_pos h]
    have h' : k - (n.size : Int) < 0 := by omega
    go_enter Try.func32, Try.ntmps32
    go_wp2
    go_ret
    exact ⟨rfl, (Below.refl _ _).alloc (Nat.le_refl _) _⟩
  · rw [if_neg h]
    have h' : ¬ k - (n.size : Int) < 0 := by omega
    go_enter Try.func32, Try.ntmps32
    go_wp2
    go_ret
    exact ⟨rfl, (Below.refl _ _).alloc (Nat.le_refl _) _⟩


theorem info39 : (Try.prog.info? 64).map (fun i => (i.zero, i.size, i.bytes)) = some (some (.agg #[.string ⟨#[]⟩, .int .i64 0, .bool false]), 3, 32) := by kernel_rfl

set_option maxHeartbeats 1600000 in
theorem toSyms_any (a : Option Addr) (ss : List SymD) (n cap : Nat) (w : World) (hn : n = ss.length) (hr : RdS w a ss) (hl : ss.length ≤ 1048577) :
    Calls Try.prog 10 #[.slice a n cap] w fun e w' => e = .returned (.slice (some ⟨w.heap.size, 0, none⟩) n n) ∧ w'.ownsRow w.heap.size 64 3 (.slice (some ⟨w.heap.size, 0, none⟩) n n) n (symCs ss) ∧ Below w.heap.size w w' := by
  subst hn
  obtain ⟨i0, hi, hz0, hz1, hz2⟩ := info_parts info39
  rcases hr with rfl | ⟨b, off, rfl, hlt, hc⟩
  · go_enter Try.func10, Try.ntmps10
    go_wp2_with (first
      | (at_make; refine wpList_make_full _ rfl _ _ 30 rfl w.heap.size 64 i0 _ 3 Try.underlying30 hi hz0 hz1 _ _ _ _ 0 rfl rfl rfl rfl (by omega) (by unfold maxLen; omega) (Nat.le_refl _) ?_)
      | go_in)
    intro w1 hown hgrow
    have hb1 : Below w.heap.size w w1 := (Below.refl _ _).grown hgrow (Nat.le_refl _) (by simp)
    clear hgrow
    go_wp2
    refine wp_loop_rounds 1 ?_
    rw [rounds_succ]
    go_wp2
    go_ret
    exact ⟨rfl, by simpa [madeCells, symCs] using hown, hb1⟩
  · go_enter Try.func10, Try.ntmps10
    go_wp2_with (first
      | (at_make; refine wpList_make_full _ rfl _ _ 30 rfl w.heap.size 64 i0 _ 3 Try.underlying30 hi hz0 hz1 _ _ _ _ ss.length rfl rfl rfl rfl (by rw [hz2]; omega) (by unfold maxLen; omega) (Nat.le_refl _) ?_)
      | go_in)
    intro w1 hown hgrow
    have hb1 : Below w.heap.size w w1 := (Below.refl _ _).grown hgrow (Nat.le_refl _) (by simp)
    clear hgrow
    go_wp2
    go_loopw [4] (fun i wr => ∃ k : Nat, k ≤ ss.length ∧ i = .int .i64 k ∧ wr.ownsRow w.heap.size 64 3 (.slice (some ⟨w.heap.size, 0, none⟩) ss.length ss.length) ss.length (symCs (ss.take k ++ List.replicate (ss.length - k) zeroSym)) ∧ Below w.heap.size w wr) (fun i _ => ss.length - (intOf i).toNat)
    case atStart => exact ⟨0, Nat.zero_le _, rfl, by have h := hown; rw [made3] at h; simpa using h, hb1⟩
    case round =>
      obtain ⟨k, hk, rfl, hown', hb⟩ := hrel
      clear hown hb1
      by_cases hk' : k < ss.length
      · obtain ⟨c0, c1, c2⟩ := hc k hk'
        have d0 := (hb.cell (p := ⟨b, off + k * 3, none⟩) hlt).trans c0
        have d1 := (hb.cell (p := ⟨b, off + k * 3 + 1, none⟩) hlt).trans c1
        have d2 := (hb.cell (p := ⟨b, off + k * 3 + 2, none⟩) hlt).trans c2
        clear c0 c1 c2 hc
        go_wp2_with (go_at_call 38; refine (toSym_any _ _ _ _).mono ?_; rintro e w2 ⟨rfl, hb2⟩; have hown2 := own_belowS hown' hb2; obtain ⟨e0, e1, e2⟩ := cells3 (len3 hk) (lt3 hk') hown2; have f0 := hown2.frozenAt (k * 3); have f1 := hown2.frozenAt (k * 3 + 1); have f2 := hown2.frozenAt (k * 3 + 2); have R1 := store3 ss[k] (lt3 hk') hown2; rw [step3 hk'] at R1; have hB := hb.trans (hb2.mono hb.size); clear hown' hown2 hb hb2 d0 d1 d2)
        go_roundw
        case rel => exact ⟨k + 1, by omega, by go_num, R1, ((hB.setCell (p := ⟨w.heap.size, _, none⟩) (Nat.le_refl _) _).setCell (p := ⟨w.heap.size, _, none⟩) (Nat.le_refl _) _).setCell (p := ⟨w.heap.size, _, none⟩) (Nat.le_refl _) _⟩
        case measure => simp [intOf]; omega
      · go_wp2
        go_ret
        have e : k = ss.length := by omega
        subst e
        refine ⟨rfl, ?_, hb⟩
        simpa using hown'

set_option maxHeartbeats 1600000 in
theorem szSyms_any (a : Option Addr) (ss : List SymD) (n cap : Nat) (m : Int) (w : World) (hn : n = ss.length) (hr : RdS w a ss) (hl : ss.length ≤ 9223372036854775807) (hm0 : 0 ≤ m) (hm : m ≤ 1048576) (hsz : ∀ s ∈ ss, s.name.size ≤ 9223372036854775807) :
    Calls Try.prog 7 #[.slice a n cap, .int .i64 m] w fun e w' => ∃ r : Int, e = .returned (.int .i64 r) ∧ (0 ≤ r → (ss.length : Int) + bytesOf ss ≤ m) ∧ r ≤ m ∧ Below w.heap.size w w' := by
  subst hn
  by_cases hbig : m - (ss.length : Int) < 0
  · go_enter Try.func7, Try.ntmps7
    go_wp2
    go_ret
    exact ⟨-1, rfl, fun h => by omega, by omega, Below.refl _ _⟩
  · rcases hr with rfl | ⟨b, off, rfl, hlt, hc⟩
    · go_enter Try.func7, Try.ntmps7
      go_wp2
      refine wp_loop_rounds 1 ?_
      rw [rounds_succ]
      go_wp2
      go_ret
      exact ⟨m, rfl, fun _ => (by simp [bytesOf]; omega), Int.le_refl _, Below.refl _ _⟩
    · go_enter Try.func7, Try.ntmps7
      go_wp2
      go_loopw [1, 5] (fun t i wr => ∃ (k : Nat) (l : Int), k ≤ ss.length ∧ i = .int .i64 k ∧ t = .int .i64 l ∧ 0 ≤ l ∧ l ≤ m ∧ Hid ((ss.length : Int) + bytesOf (ss.take k) + l = m) ∧ Below w.heap.size w wr) (fun _ i _ => ss.length - (intOf i).toNat)
      case atStart => exact ⟨0, m - ss.length, Nat.zero_le _, rfl, rfl, by omega, by omega, by show _ = _; simp [bytesOf]; omega, Below.refl _ _⟩
      case round =>
        obtain ⟨k, l, hk, rfl, rfl, hl0, hl1, HS, hb⟩ := hrel
        by_cases hk' : k < ss.length
        · obtain ⟨c0, c1, c2⟩ := hc k hk'
          have d0 := (hb.cell (p := ⟨b, off + k * 3, none⟩) hlt).trans c0
          have d1 := (hb.cell (p := ⟨b, off + k * 3 + 1, none⟩) hlt).trans c1
          have d2 := (hb.cell (p := ⟨b, off + k * 3 + 2, none⟩) hlt).trans c2
          have hs := hsz ss[k] (List.getElem_mem hk')
          have HB : Hid (bytesOf (ss.take (k + 1)) = bytesOf (ss.take k) + ss[k].name.size) := bytesOf_next hk'
          have S := szSym_any ss[k].name ss[k].ar ss[k].ac l wr (by omega) hl0 hs
          clear c0 c1 c2 hc hsz
          by_cases hlt2 : l < (ss[k].name.size : Int)
          · rw [if_pos hlt2] at S
            go_wp2_with (go_at_call 32; refine S.mono ?_; rintro e w2 ⟨rfl, hb2⟩; clear S)
            go_ret
            exact ⟨-1, rfl, fun h => by omega, by omega, hb.trans (hb2.mono hb.size)⟩
          · rw [if_neg hlt2] at S
            have hge : ¬ l - (ss[k].name.size : Int) < 0 := by omega
            go_wp2_with (go_at_call 32; refine S.mono ?_; rintro e w2 ⟨rfl, hb2⟩; clear S)
            go_roundw
            case rel => exact ⟨k + 1, l - ss[k].name.size, by omega, by go_num, rfl, by omega, by omega, by have h1 := HS.out; have h2 := HB.out; show _ = _; omega, hb.trans (hb2.mono hb.size)⟩
            case measure => simp [intOf]; omega
        · go_wp2
          go_ret
          have e : k = ss.length := by omega
          have h1 := HS.out
          rw [e, List.take_length] at h1
          exact ⟨l, rfl, fun _ => by omega, hl1, hb⟩

set_option maxHeartbeats 1600000 in
theorem eqSym_any (s t : SymD) (w : World) :
    Calls Try.prog 43 #[.agg #[.string s.name, .int .i64 s.ar, .bool s.ac], .agg #[.string t.name, .int .i64 t.ar, .bool t.ac]] w fun e w' => e = .returned (.bool (symEq s t)) ∧ Below w.heap.size w w' := by
  have hB : ∀ o1 o2, Below w.heap.size w ((w.alloc o1).alloc o2) := fun o1 o2 => ((Below.refl _ _).alloc (Nat.le_refl _) o1).alloc (by simp) o2
  go_enter Try.func43, Try.ntmps43
  go_wp2
  · go_ret
    have h : (!s.name.toList == t.name.toList) = true := by assumption
    exact ⟨ret_bool (by simp at h; simp [symEq, h]), hB _ _⟩
  · go_ret
    have h : (s.ar != t.ar) = true := by assumption
    exact ⟨ret_bool (by simp at h; simp [symEq, h]), hB _ _⟩
  · go_ret
    have h : (!s.ac == t.ac) = true := by assumption
    exact ⟨ret_bool (by simp at h; simp [symEq, h]), hB _ _⟩
  · go_ret
    have h1 : (!s.name.toList == t.name.toList) = false := by assumption
    have h2 : (s.ar != t.ar) = false := by assumption
    have h3 : (!s.ac == t.ac) = false := by assumption
    exact ⟨ret_bool (by simp at h1 h2 h3; simp [symEq, h1, h2, h3]), hB _ _⟩

set_option maxHeartbeats 1600000 in
theorem eqSyms_same (a a' : Option Addr) (ss : List SymD) (n cap n' cap' : Nat) (w : World) (hn : n = ss.length) (hn' : n' = ss.length) (hr : RdS w a ss) (hr' : RdS w a' ss) (hl : ss.length ≤ 1048577) :
    Calls Try.prog 14 #[.slice a n cap, .slice a' n' cap'] w fun e w' => e = .returned (.bool true) ∧ Below w.heap.size w w' := by
  subst hn hn'
  rcases hr with rfl | ⟨b, off, rfl, hlt, hc⟩
  · go_enter Try.func14, Try.ntmps14
    go_wp2
    refine wp_loop_rounds 1 ?_
    rw [rounds_succ]
    go_wp2
    go_ret
    exact ⟨rfl, Below.refl _ _⟩
  · rcases hr' with rfl | ⟨b', off', rfl, hlt', hc'⟩
    · go_enter Try.func14, Try.ntmps14
      go_wp2
      refine wp_loop_rounds 1 ?_
      rw [rounds_succ]
      go_wp2
      go_ret
      exact ⟨rfl, Below.refl _ _⟩
    · go_enter Try.func14, Try.ntmps14
      go_wp2
      go_loopw [5] (fun i wr => ∃ k : Nat, k ≤ ss.length ∧ i = .int .i64 k ∧ Below w.heap.size w wr) (fun i _ => ss.length - (intOf i).toNat)
      case atStart => exact ⟨0, Nat.zero_le _, rfl, Below.refl _ _⟩
      case round =>
        obtain ⟨k, hk, rfl, hb⟩ := hrel
        by_cases hk' : k < ss.length
        · obtain ⟨c0, c1, c2⟩ := hc k hk'
          obtain ⟨g0, g1, g2⟩ := hc' k hk'
          have d0 := (hb.cell (p := ⟨b, off + k * 3, none⟩) hlt).trans c0
          have d1 := (hb.cell (p := ⟨b, off + k * 3 + 1, none⟩) hlt).trans c1
          have d2 := (hb.cell (p := ⟨b, off + k * 3 + 2, none⟩) hlt).trans c2
          have q0 := (hb.cell (p := ⟨b', off' + k * 3, none⟩) hlt').trans g0
          have q1 := (hb.cell (p := ⟨b', off' + k * 3 + 1, none⟩) hlt').trans g1
          have q2 := (hb.cell (p := ⟨b', off' + k * 3 + 2, none⟩) hlt').trans g2
          have hi1 : (k : Int) < (ss.length : Int) := by omega
          clear c0 c1 c2 g0 g1 g2 hc hc'
          go_wp2
          go_region_with (go_at_call 43; refine (eqSym_any ss[k] ss[k] _).mono ?_; rw [symEq_self]; rintro e w2 ⟨rfl, hb2⟩)
          all_goals go_wp2
          all_goals
            go_roundw
            case rel => exact ⟨k + 1, by omega, by go_num, hb.drew.trans (hb2.mono hb.size)⟩
            case measure => simp [intOf]; omega
        · go_wp2
          go_ret
          exact ⟨rfl, hb⟩
end Go.Proofs.Ytkjlldbgooogdab

/- Terms as data: how they lie in memory, and what is told of them. Conditions: none. -/
namespace Go.Proofs.Ytkjlldbgooogdab
set_option maxRecDepth 100000
open Go.RowKit

theorem rtI {a b : Int} (h : a = b) : Ending.returned (.int .i64 a) = .returned (.int .i64 b) := by rw [h]
theorem rtB {a b : Bool} (h : a = b) : Ending.returned (.bool a) = .returned (.bool b) := by rw [h]

/-- A term as data. -/
inductive TermD where
  | mk (f v : Int) (kids : List TermD)

namespace TermD
def f : TermD → Int | mk f _ _ => f
def v : TermD → Int | mk _ v _ => v
def kids : TermD → List TermD | mk _ _ k => k
end TermD

instance : Inhabited TermD := ⟨.mk 0 0 []⟩

mutual
/-- How many terms are within it, itself too. -/
def partsT : TermD → Nat
  | .mk _ _ ks => partsL ks + 1
def partsL : List TermD → Nat
  | [] => 0
  | t :: ts => partsT t + partsL ts
end

theorem partsT_eq (t : TermD) : partsT t = partsL t.kids + 1 := by cases t; simp [partsT, TermD.kids]

theorem partsL_append (a b : List TermD) : partsL (a ++ b) = partsL a + partsL b := by
  induction a with
  | nil => simp [partsL]
  | cons t ts ih => simp only [List.cons_append, partsL, ih]; omega

theorem partsL_get {ts : List TermD} {i : Nat} (h : i < ts.length) : partsT ts[i] ≤ partsL ts := by
  induction ts generalizing i with
  | nil => simp at h
  | cons t ts ih =>
    cases i with
    | zero => simp only [List.getElem_cons_zero, partsL]; omega
    | succ i =>
      simp only [List.getElem_cons_succ, partsL]
      have := ih (i := i) (by simpa using h)
      omega

theorem partsL_next {ts : List TermD} {k : Nat} (h : k < ts.length) : partsL (ts.take (k + 1)) = partsL (ts.take k) + partsT ts[k] := by
  rw [List.take_succ_eq_append_getElem h, partsL_append]
  simp [partsL]

theorem partsL_take (ts : List TermD) (k : Nat) : partsL (ts.take k) ≤ partsL ts := by
  have : partsL ts = partsL (ts.take k) + partsL (ts.drop k) := by rw [← partsL_append, List.take_append_drop]
  omega

theorem partsL_len (ts : List TermD) : ts.length ≤ partsL ts := by
  induction ts with
  | nil => simp
  | cons t ts ih => simp only [List.length_cons, partsL, partsT_eq]; omega

def isW (z : Int) : Prop := -9223372036854775808 ≤ z ∧ z ≤ 9223372036854775807

theorem partsL_rest (ts : List TermD) (k : Nat) : partsL (ts.take k) + (ts.length - k) ≤ partsL ts := by
  have h : partsL ts = partsL (ts.take k) + partsL (ts.drop k) := by rw [← partsL_append, List.take_append_drop]
  have h2 := partsL_len (ts.drop k)
  rw [List.length_drop] at h2
  omega

/-- What is left of m when the parts are counted off. -/
def szR (ts : List TermD) (m : Int) : Int := if (partsL ts : Int) ≤ m then m - partsL ts else -1

/-- A cell that was there is as it was behind whatever only lays new blocks. -/
theorem keepC {w w' : World} (h : Below w.heap.size w w') {p : Addr} {v : Value} (hc : w.cell? p = some v) : w'.cell? p = some v := (h.cell (World.block_lt_of_cell? w p hc)).trans hc

/-- The slice of terms that begins at 'a' reads in w as ts, all of its blocks below hi. -/
inductive RdK (w : World) (hi : Nat) : Option Addr → List TermD → Prop
  | nil (a : Option Addr) : RdK w hi a []
  | row (b off : Nat) (ts : List TermD) (A : Nat → Option Addr) (C : Nat → Nat) (hlt : b < hi) (hl : ts.length ≤ 9223372036854775807 ∧ ∀ i, (h : i < ts.length) → ts[i].kids.length ≤ C i) (hz : ∀ i, (h : i < ts.length) → isW ts[i].f ∧ isW ts[i].v)
      (hc : ∀ i, (h : i < ts.length) → w.cell? ⟨b, off + i * 3, none⟩ = some (.int .i64 ts[i].f) ∧ w.cell? ⟨b, off + i * 3 + 1, none⟩ = some (.int .i64 ts[i].v) ∧ w.cell? ⟨b, off + i * 3 + 2, none⟩ = some (.slice (A i) ts[i].kids.length (C i)))
      (hk : ∀ i, (h : i < ts.length) → RdK w hi (A i) ts[i].kids) : RdK w hi (some ⟨b, off, none⟩) ts

theorem RdK.on {w w' : World} {hi : Nat} {a : Option Addr} {ts : List TermD} (h : RdK w hi a ts) (hb : Below hi w w') : RdK w' hi a ts := by
  induction h with
  | nil a => exact .nil a
  | row b off ts A C hlt hl hz hc hk ih =>
    refine .row b off ts A C hlt hl hz (fun i h => ?_) ih
    obtain ⟨h0, h1, h2⟩ := hc i h
    exact ⟨(hb.cell (p := ⟨b, off + i * 3, none⟩) hlt).trans h0, (hb.cell (p := ⟨b, off + i * 3 + 1, none⟩) hlt).trans h1, (hb.cell (p := ⟨b, off + i * 3 + 2, none⟩) hlt).trans h2⟩

theorem RdK.mono {w : World} {hi hi' : Nat} {a : Option Addr} {ts : List TermD} (h : RdK w hi a ts) (hh : hi ≤ hi') : RdK w hi' a ts := by
  induction h with
  | nil a => exact .nil a
  | row b off ts A C hlt hl hz hc hk ih => exact .row b off ts A C (Nat.lt_of_lt_of_le hlt hh) hl hz hc ih

theorem RdK.len {w : World} {hi : Nat} {a : Option Addr} {ts : List TermD} (h : RdK w hi a ts) : ts.length ≤ 9223372036854775807 := by
  cases h with
  | nil a => simp
  | row b off ts A C hlt hl hz hc hk => exact hl.1

theorem RdK.ints {w : World} {hi : Nat} {a : Option Addr} {ts : List TermD} (h : RdK w hi a ts) {i : Nat} (hi' : i < ts.length) : isW ts[i].f ∧ isW ts[i].v := by
  cases h with
  | nil a => simp at hi'
  | row b off ts A C hlt hl hz hc hk => exact hz i hi'

/-- What stands at kid i. -/
theorem RdK.kid {w : World} {hi : Nat} {a : Option Addr} {ts : List TermD} (h : RdK w hi a ts) {i : Nat} (hi' : i < ts.length) :
    ∃ b off a' c', a = some ⟨b, off, none⟩ ∧ b < hi ∧ w.cell? ⟨b, off + i * 3, none⟩ = some (.int .i64 ts[i].f) ∧ w.cell? ⟨b, off + i * 3 + 1, none⟩ = some (.int .i64 ts[i].v) ∧ w.cell? ⟨b, off + i * 3 + 2, none⟩ = some (.slice a' ts[i].kids.length c') ∧ RdK w hi a' ts[i].kids := by
  cases h with
  | nil a => simp at hi'
  | row b off ts A C hlt hl hz hc hk =>
    obtain ⟨h0, h1, h2⟩ := hc i hi'
    exact ⟨b, off, _, _, rfl, hlt, h0, h1, h2, hk i hi'⟩

/-- What stands at kid i, with what its slice's room is. -/
theorem RdK.kidc {w : World} {hi : Nat} {a : Option Addr} {ts : List TermD} (h : RdK w hi a ts) {i : Nat} (hi' : i < ts.length) :
    ∃ b off a' c', a = some ⟨b, off, none⟩ ∧ b < hi ∧ w.cell? ⟨b, off + i * 3, none⟩ = some (.int .i64 ts[i].f) ∧ w.cell? ⟨b, off + i * 3 + 1, none⟩ = some (.int .i64 ts[i].v) ∧ w.cell? ⟨b, off + i * 3 + 2, none⟩ = some (.slice a' ts[i].kids.length c') ∧ ts[i].kids.length ≤ c' ∧ RdK w hi a' ts[i].kids := by
  cases h with
  | nil a => simp at hi'
  | row b off ts A C hlt hl hz hc hk =>
    obtain ⟨h0, h1, h2⟩ := hc i hi'
    exact ⟨b, off, _, _, rfl, hlt, h0, h1, h2, hl.2 i hi', hk i hi'⟩

/-- A term as a value. -/
def termV (t : TermD) (a : Option Addr) (c : Nat) : Value := .agg #[.int .i64 t.f, .int .i64 t.v, .slice a t.kids.length c]

mutual
/-- Whether two terms are the same. -/
def sameT : TermD → TermD → Bool
  | .mk f v ks, .mk f' v' ks' => f == f' && v == v' && ks.length == ks'.length && sameL ks ks'
def sameL : List TermD → List TermD → Bool
  | t :: ts, u :: us => sameT t u && sameL ts us
  | _, _ => true
end

theorem sameT_eq (t u : TermD) : sameT t u = (t.f == u.f && t.v == u.v && t.kids.length == u.kids.length && sameL t.kids u.kids) := by
  cases t; cases u; simp [sameT, TermD.f, TermD.v, TermD.kids]

theorem sameL_hit : ∀ {ts us : List TermD} {k : Nat} (h : k < ts.length) (h' : k < us.length), sameT ts[k] us[k] = false → sameL ts us = false
  | t :: ts, u :: us, 0, _, _, e => by simp only [List.getElem_cons_zero] at e; simp [sameL, e]
  | t :: ts, u :: us, k + 1, h, h', e => by
    simp only [List.getElem_cons_succ] at e
    have := sameL_hit (ts := ts) (us := us) (k := k) (by simpa using h) (by simpa using h') e
    simp [sameL, this]
  | [], _, _, h, _, _ => by simp at h
  | _ :: _, [], _, _, h', _ => by simp at h'

theorem sameL_all : ∀ {ts us : List TermD}, ts.length = us.length → (∀ k, (h : k < ts.length) → (h' : k < us.length) → sameT ts[k] us[k] = true) → sameL ts us = true
  | [], us, _, _ => by simp [sameL]
  | t :: ts, [], h, _ => by simp at h
  | t :: ts, u :: us, h, hall => by
    have h0 := hall 0 (by simp) (by simp)
    have h1 := sameL_all (ts := ts) (us := us) (by simpa using h) (fun k hk hk' => by have := hall (k + 1) (by simpa using hk) (by simpa using hk'); simpa using this)
    simp only [List.getElem_cons_zero] at h0
    simp [sameL, h0, h1]

mutual
/-- Whether a term is before another one. -/
def befT : TermD → TermD → Bool
  | .mk f v ks, .mk f' v' ks' => if f ≠ f' then decide (f < f') else if v ≠ v' then decide (v < v') else if ks.length ≠ ks'.length then decide (ks.length < ks'.length) else befL ks ks'
def befL : List TermD → List TermD → Bool
  | t :: ts, u :: us => if sameT t u then befL ts us else befT t u
  | _, _ => false
end

theorem befT_eq (t u : TermD) : befT t u = if t.f ≠ u.f then decide (t.f < u.f) else if t.v ≠ u.v then decide (t.v < u.v) else if t.kids.length ≠ u.kids.length then decide (t.kids.length < u.kids.length) else befL t.kids u.kids := by
  cases t; cases u; rw [befT]; rfl

theorem befL_hit : ∀ {ts us : List TermD} {k : Nat} (h : k < ts.length) (h' : k < us.length), (∀ j, (hj : j < k) → sameT (ts[j]'(by omega)) (us[j]'(by omega)) = true) → sameT ts[k] us[k] = false → befL ts us = befT ts[k] us[k]
  | t :: ts, u :: us, 0, _, _, _, e => by simp only [List.getElem_cons_zero] at e; simp [befL, e]
  | t :: ts, u :: us, k + 1, h, h', h0, e => by
    have e0 := h0 0 (by omega)
    simp only [List.getElem_cons_zero] at e0
    simp only [List.getElem_cons_succ] at e
    have := befL_hit (ts := ts) (us := us) (k := k) (by simpa using h) (by simpa using h') (fun j hj => by have := h0 (j + 1) (by omega); simpa using this) e
    simp [befL, e0, this]
  | [], _, _, h, _, _, _ => by simp at h
  | _ :: _, [], _, _, h', _, _ => by simp at h'

theorem befL_all : ∀ {ts us : List TermD}, (∀ k, (h : k < ts.length) → (h' : k < us.length) → sameT ts[k] us[k] = true) → befL ts us = false
  | [], us, _ => by simp [befL]
  | t :: ts, [], _ => by simp [befL]
  | t :: ts, u :: us, hall => by
    have h0 := hall 0 (by simp) (by simp)
    have h1 := befL_all (ts := ts) (us := us) (fun k hk hk' => by have := hall (k + 1) (by simpa using hk) (by simpa using hk'); simpa using this)
    simp only [List.getElem_cons_zero] at h0
    simp [befL, h0, h1]

mutual
/-- How often variable v stands in a term. -/
def cntT (v : Int) : TermD → Nat
  | .mk f u ks => (if f = -1 ∧ u = v then 1 else 0) + cntL v ks
def cntL (v : Int) : List TermD → Nat
  | [] => 0
  | t :: ts => cntT v t + cntL v ts
end

theorem cntT_eq (v : Int) (t : TermD) : cntT v t = (if t.f = -1 ∧ t.v = v then 1 else 0) + cntL v t.kids := by cases t; rw [cntT]; rfl
theorem cntL_append (v : Int) (a b : List TermD) : cntL v (a ++ b) = cntL v a + cntL v b := by
  induction a with
  | nil => simp [cntL]
  | cons t ts ih => simp only [List.cons_append, cntL, ih]; omega
theorem cntL_next (v : Int) {ts : List TermD} {k : Nat} (h : k < ts.length) : cntL v (ts.take (k + 1)) = cntL v (ts.take k) + cntT v ts[k] := by
  rw [List.take_succ_eq_append_getElem h, cntL_append]
  simp [cntL]
mutual
theorem cntT_le (v : Int) : ∀ t : TermD, cntT v t ≤ partsT t
  | .mk f u ks => by
    have := cntL_le v ks
    simp only [cntT, partsT]
    split <;> omega
theorem cntL_le (v : Int) : ∀ ts : List TermD, cntL v ts ≤ partsL ts
  | [] => by simp [cntL]
  | t :: ts => by
    have h1 := cntT_le v t
    have h2 := cntL_le v ts
    simp only [cntL, partsL]; omega
end
end Go.Proofs.Ytkjlldbgooogdab

/- Terms that own their memory: no two parts of one lie in one block. Conditions: none. -/
namespace Go.Proofs.Ytkjlldbgooogdab
set_option maxRecDepth 100000
open Go.RowKit

/-- The slice of terms that begins at 'a' reads in w as ts; its blocks are among S, and no two of its parts share one. -/
inductive OwnS (w : World) : (Nat → Prop) → Option Addr → List TermD → Prop
  | nil (S : Nat → Prop) (a : Option Addr) : OwnS w S a []
  | row (S : Nat → Prop) (b off : Nat) (ts : List TermD) (A : Nat → Option Addr) (C : Nat → Nat) (K : Nat → Nat → Prop) (hb : S b) (hlt : b < w.heap.size) (hl : ts.length ≤ 9223372036854775807 ∧ ∀ i, (h : i < ts.length) → ts[i].kids.length ≤ C i) (hz : ∀ i, (h : i < ts.length) → isW ts[i].f ∧ isW ts[i].v)
      (hc : ∀ i, (h : i < ts.length) → w.cell? ⟨b, off + i * 3, none⟩ = some (.int .i64 ts[i].f) ∧ w.cell? ⟨b, off + i * 3 + 1, none⟩ = some (.int .i64 ts[i].v) ∧ w.cell? ⟨b, off + i * 3 + 2, none⟩ = some (.slice (A i) ts[i].kids.length (C i)))
      (hf : ∀ j, w.frozen? ⟨b, j, none⟩ = false)
      (hsub : ∀ i x, i < ts.length → K i x → S x ∧ x ≠ b) (hdis : ∀ i j x, i < ts.length → j < ts.length → i ≠ j → K i x → ¬ K j x)
      (hk : ∀ i, (h : i < ts.length) → OwnS w (K i) (A i) ts[i].kids) : OwnS w S (some ⟨b, off, none⟩) ts

/-- Whatever leaves the blocks of S as they were leaves it. -/
theorem OwnS.frame {w w' : World} {S : Nat → Prop} {a : Option Addr} {ts : List TermD} (h : OwnS w S a ts) (hs : ∀ x, S x → w'.heap[x]? = w.heap[x]?) (hz : w.heap.size ≤ w'.heap.size) : OwnS w' S a ts := by
  induction h with
  | nil S a => exact .nil S a
  | row S b off ts A C K hb hlt hl hz' hc hf hsub hdis hk ih =>
    have e := hs b hb
    refine .row S b off ts A C K hb (Nat.lt_of_lt_of_le hlt hz) hl hz' (fun i h => ?_) (fun j => ?_) hsub hdis (fun i h => ih i h (fun x hx => hs x (hsub i x h hx).1))
    · obtain ⟨h0, h1, h2⟩ := hc i h
      exact ⟨(World.cell?_of_block (a := ⟨b, _, none⟩) e).trans h0, (World.cell?_of_block (a := ⟨b, _, none⟩) e).trans h1, (World.cell?_of_block (a := ⟨b, _, none⟩) e).trans h2⟩
    · exact (World.frozen?_of_block (a := ⟨b, j, none⟩) e).trans (hf j)

theorem OwnS.mono {w : World} {S S' : Nat → Prop} {a : Option Addr} {ts : List TermD} (h : OwnS w S a ts) (hs : ∀ x, S x → S' x) : OwnS w S' a ts := by
  cases h with
  | nil S a => exact .nil S' a
  | row S b off ts A C K hb hlt hl hz' hc hf hsub hdis hk => exact .row S' b off ts A C K (hs b hb) hlt hl hz' hc hf (fun i x h hx => ⟨hs x (hsub i x h hx).1, (hsub i x h hx).2⟩) hdis hk

theorem OwnS.rd {w : World} {S : Nat → Prop} {a : Option Addr} {ts : List TermD} (h : OwnS w S a ts) : RdK w w.heap.size a ts := by
  induction h with
  | nil S a => exact .nil a
  | row S b off ts A C K hb hlt hl hz hc hf hsub hdis hk ih => exact .row b off ts A C hlt hl hz hc ih

theorem OwnS.on {w w' : World} {lo hi : Nat} {a : Option Addr} {ts : List TermD} (h : OwnS w (fun x => lo ≤ x ∧ x < hi) a ts) (hb : Below hi w w') : OwnS w' (fun x => lo ≤ x ∧ x < hi) a ts :=
  h.frame (fun x hx => hb.block x hx.2) hb.size

theorem set3_cells {u : World} {r : Nat} {x y z p q s : Value} (h0 : u.cell? ⟨r, 0, none⟩ = some p) (h1 : u.cell? ⟨r, 1, none⟩ = some q) (h2 : u.cell? ⟨r, 2, none⟩ = some s) :
    (((u.setCell ⟨r, 0, none⟩ x).setCell ⟨r, 1, none⟩ y).setCell ⟨r, 2, none⟩ z).cell? ⟨r, 0, none⟩ = some x ∧ (((u.setCell ⟨r, 0, none⟩ x).setCell ⟨r, 1, none⟩ y).setCell ⟨r, 2, none⟩ z).cell? ⟨r, 1, none⟩ = some y ∧ (((u.setCell ⟨r, 0, none⟩ x).setCell ⟨r, 1, none⟩ y).setCell ⟨r, 2, none⟩ z).cell? ⟨r, 2, none⟩ = some z := by
  refine ⟨?_, ?_, ?_⟩
  · rw [World.cell?_setCell_other _ _ _ _ (by simp), World.cell?_setCell_other _ _ _ _ (by simp)]
    exact World.cell?_setCell_same _ _ _ h0
  · rw [World.cell?_setCell_other _ _ _ _ (by simp)]
    exact World.cell?_setCell_same _ _ _ (by rw [World.cell?_setCell_other _ _ _ _ (by simp)]; exact h1)
  · exact World.cell?_setCell_same _ _ _ (by rw [World.cell?_setCell_other _ _ _ _ (by simp), World.cell?_setCell_other _ _ _ _ (by simp)]; exact h2)

/-- Stores into blocks that are not among S. -/
theorem OwnS.setCell {w : World} {S : Nat → Prop} {a : Option Addr} {ts : List TermD} (h : OwnS w S a ts) (p : Addr) (hp : ¬ S p.block) (u : Value) : OwnS (w.setCell p u) S a ts :=
  h.frame (fun x hx => Below.heap_setCell w p u x (fun e => hp (e ▸ hx))) (by simp)

/-- Three cells an element. -/
def cs3 (l : List (Value × Value × Value)) : List Value := l.flatMap fun t => [t.1, t.2.1, t.2.2]

theorem cs3_len (l : List (Value × Value × Value)) : (cs3 l).length = l.length * 3 := by
  induction l with
  | nil => rfl
  | cons t l ih => simp only [cs3, List.flatMap_cons, List.length_append] at *; rw [ih]; simp; omega

theorem cs3_set (t : Value × Value × Value) : ∀ (l : List (Value × Value × Value)) (k : Nat), k < l.length → (((cs3 l).set (k * 3) t.1).set (k * 3 + 1) t.2.1).set (k * 3 + 2) t.2.2 = cs3 (l.set k t)
  | [], k, h => by simp at h
  | x :: l, 0, _ => by simp [cs3]
  | x :: l, k + 1, h => by
    have ih := cs3_set t l k (by simpa using h)
    have e : ∀ (m : Nat) (L : List Value) (v : Value), ([x.1, x.2.1, x.2.2] ++ L).set (m + 3) v = [x.1, x.2.1, x.2.2] ++ L.set m v := by intro m L v; simp
    have e0 : (k + 1) * 3 = k * 3 + 3 := by omega
    rw [List.set_cons_succ]
    simp only [cs3, List.flatMap_cons] at *
    rw [e0, e, show k * 3 + 3 + 1 = (k * 3 + 1) + 3 by omega, e, show k * 3 + 3 + 2 = (k * 3 + 2) + 3 by omega, e, ih]

theorem cs3_get : ∀ (l : List (Value × Value × Value)) (k : Nat), (h : k < l.length) → (cs3 l)[k * 3]? = some l[k].1 ∧ (cs3 l)[k * 3 + 1]? = some l[k].2.1 ∧ (cs3 l)[k * 3 + 2]? = some l[k].2.2
  | [], k, h => by simp at h
  | x :: l, 0, _ => by simp [cs3]
  | x :: l, k + 1, h => by
    have ih := cs3_get l k (by simpa using h)
    have e : ∀ (m : Nat) (L : List Value), ([x.1, x.2.1, x.2.2] ++ L)[m + 3]? = L[m]? := by
      intro m L
      rw [List.getElem?_append_right (by simp)]
      simp
    have e0 : (k + 1) * 3 = k * 3 + 3 := by omega
    simp only [cs3, List.flatMap_cons, List.getElem_cons_succ] at *
    rw [e0, e, show k * 3 + 3 + 1 = (k * 3 + 1) + 3 by omega, e, show k * 3 + 3 + 2 = (k * 3 + 2) + 3 by omega, e]
    exact ih

theorem cs3_made (a b c : Value) : ∀ (n : Nat), (madeCells #[a, b, c] (n * 3)).toList = cs3 (List.replicate n (a, b, c))
  | 0 => by simp [madeCells, cs3]
  | n + 1 => by
    have ih := cs3_made a b c n
    rw [List.replicate_succ', cs3, List.flatMap_append]
    rw [cs3] at ih
    rw [← ih]
    have e0 : (n + 1) * 3 = n * 3 + 1 + 1 + 1 := by omega
    rw [e0]
    simp only [madeCells, Array.toList_map, Array.toList_range, List.range_succ, List.map_append, List.map_cons, List.map_nil, List.append_assoc]
    have m0 : n * 3 % 3 = 0 := by omega
    have m1 : (n * 3 + 1) % 3 = 1 := by omega
    have m2 : (n * 3 + 1 + 1) % 3 = 2 := by omega
    simp [m0, m1, m2]

theorem own_on {w w' : World} {base : Nat} {e : TypeId} {size : Nat} {v : Value} {n : Nat} {xs : List Value} (h : w.ownsRow base e size v n xs) (hb : Below w.heap.size w w') : w'.ownsRow base e size v n xs := by
  have hl := h.lt
  obtain ⟨h1, h2⟩ := h
  refine ⟨h1, ?_⟩
  rcases h2 with h2 | ⟨g, cap, cur, rfl, hg, hh, r⟩
  · exact .inl h2
  · exact .inr ⟨g, cap, cur, rfl, hg, by rw [hb.block g (hl g rfl).2]; exact hh, r⟩

theorem cs3_store {w : World} {T : TypeId} {B g c n : Nat} {l : List (Value × Value × Value)} (t : Value × Value × Value) {k : Nat} (hk : k < l.length) (h : w.ownsRow B T 3 (.slice (some ⟨g, 0, none⟩) n c) n (cs3 l)) :
    (((w.setCell ⟨g, k * 3, none⟩ t.1).setCell ⟨g, k * 3 + 1, none⟩ t.2.1).setCell ⟨g, k * 3 + 2, none⟩ t.2.2).ownsRow B T 3 (.slice (some ⟨g, 0, none⟩) n c) n (cs3 (l.set k t)) := by
  have h1 := (((h.stored (k * 3) t.1).1.stored (k * 3 + 1) t.2.1).1.stored (k * 3 + 2) t.2.2).1
  rwa [cs3_set t l k hk] at h1

theorem cs3_cells {w : World} {T : TypeId} {B g c n : Nat} {l : List (Value × Value × Value)} {k : Nat} (hn : n = l.length) (hk : k < l.length) (h : w.ownsRow B T 3 (.slice (some ⟨g, 0, none⟩) n c) n (cs3 l)) :
    w.cell? ⟨g, k * 3, none⟩ = some l[k].1 ∧ w.cell? ⟨g, k * 3 + 1, none⟩ = some l[k].2.1 ∧ w.cell? ⟨g, k * 3 + 2, none⟩ = some l[k].2.2 := by
  obtain ⟨g0, g1, g2⟩ := cs3_get l k hk
  exact ⟨(h.cellAt _ (by omega)).trans g0, (h.cellAt _ (by omega)).trans g1, (h.cellAt _ (by omega)).trans g2⟩

/-- The elements of a copy when its first k have been laid. -/
def laidTo (ts : List TermD) (A : Nat → Option Addr) (k : Nat) : List (Value × Value × Value) :=
  (List.range ts.length).map fun i => if i < k then (.int .i64 (ts[i]?.getD default).f, .int .i64 (ts[i]?.getD default).v, .slice (A i) (ts[i]?.getD default).kids.length (ts[i]?.getD default).kids.length) else (.int .i64 0, .int .i64 0, .slice none 0 0)

theorem laidTo_len (ts : List TermD) (A : Nat → Option Addr) (k : Nat) : (laidTo ts A k).length = ts.length := by simp [laidTo]

theorem laidTo_zero (ts : List TermD) (A : Nat → Option Addr) : laidTo ts A 0 = List.replicate ts.length (.int .i64 0, .int .i64 0, .slice none 0 0) := by
  unfold laidTo
  apply List.ext_getElem <;> simp

theorem laidTo_set (ts : List TermD) (A : Nat → Option Addr) {k : Nat} (h : k < ts.length) (a : Option Addr) :
    (laidTo ts A k).set k (.int .i64 ts[k].f, .int .i64 ts[k].v, .slice a ts[k].kids.length ts[k].kids.length) = laidTo ts (fun i => if i = k then a else A i) (k + 1) := by
  unfold laidTo
  apply List.ext_getElem
  · simp
  · intro i h1 h2
    simp only [List.length_set, List.length_map, List.length_range] at h1
    rw [List.getElem_set]
    by_cases e : k = i
    · subst e
      simp [h]
    · rw [if_neg e]
      simp only [List.getElem_map, List.getElem_range]
      have e2 : ¬ i = k := fun h => e h.symm
      by_cases hi : i < k
      · simp [hi, e2, show i < k + 1 by omega]
      · simp [hi, show ¬ i < k + 1 by omega]
end Go.Proofs.Ytkjlldbgooogdab

/- How a term that came in as an argument is opened: its cells, all the way down. Conditions: none. -/
namespace Go.Proofs.Ytkjlldbgooogdab
set_option maxRecDepth 100000
open Go.RowKit Go.ChangeShapes Go.WideShapes Go.ChangeAt

theorem cellsT : Try.prog.cellsOf 51 = 3 := by kernel_rfl
theorem cellsI : Try.prog.cellsOf 3 = 1 := by kernel_rfl
theorem cellsK : Try.prog.cellsOf 23 = 1 := by kernel_rfl

theorem isW_of {z : Int} (h : (Lit.int .i64 z).wf = true) : isW z := by
  simp [Lit.wf, IntKind.min, IntKind.max, IntKind.signed, IntKind.bits] at h
  exact ⟨by omega, by omega⟩

set_option maxRecDepth 100000 in
/-- The three cells of a term, given what its list of kids reads as. -/
theorem term_trod {H : Type} {enc : TypeId × Value → H} {W : World} {base : Nat} {spare : Nat → Bool} {held : Bool} {fuel : Nat} {cs : List Value} {x : DataW H × List MemPlace}
    (h : DataW.trod enc Try.prog W base spare held fuel 51 cs = some x)
    (K : ∀ m, m < fuel → ∀ (cs : List Value) (x : DataW H × List MemPlace), DataW.trod enc Try.prog W base spare held m 23 cs = some x → ∃ a n cap ts, cs = [.slice a n cap] ∧ n = ts.length ∧ (n ≤ maxLen ∧ n ≤ cap) ∧ RdK W W.heap.size a ts) :
    ∃ (t : TermD) (a : Option Addr) (c : Nat), cs = [.int .i64 t.f, .int .i64 t.v, .slice a t.kids.length c] ∧ isW t.f ∧ isW t.v ∧ (t.kids.length ≤ maxLen ∧ t.kids.length ≤ c) ∧ RdK W W.heap.size a t.kids := by
  obtain ⟨xs, m, rfl, rfl, hlen, hxl, hf⟩ := DataW.trod_struct Try.underlying51 h
  rw [cellsT] at hlen
  match cs, hlen with
  | [c0, c1, c2], _ =>
    match xs, hxl with
    | [y0, y1, y2], _ =>
      have h0 : DataW.trod enc Try.prog W base spare held m 3 [c0] = some y0 := by have := hf 0 _ rfl; simpa [cellsI] using this
      have h1 : DataW.trod enc Try.prog W base spare held m 3 [c1] = some y1 := by have := hf 1 _ rfl; simpa [cellsI] using this
      have h2 : DataW.trod enc Try.prog W base spare held m 23 [c2] = some y2 := by have := hf 2 _ rfl; simpa [cellsK] using this
      obtain ⟨z0, e0, _, w0⟩ := DataW.trod_int Try.underlying3 h0
      obtain ⟨z1, e1, _, w1⟩ := DataW.trod_int Try.underlying3 h1
      obtain ⟨a, n, cap, ts, e2, hn, hm, hr⟩ := K m (by omega) _ _ h2
      simp at e0 e1 e2
      subst e0 e1 e2 hn
      exact ⟨.mk z0 z1 ts, a, cap, rfl, isW_of w0, isW_of w1, hm, hr⟩

theorem kids_trod {H : Type} {enc : TypeId × Value → H} {W : World} {base : Nat} {spare : Nat → Bool} {held : Bool} : ∀ (fuel : Nat) (cs : List Value) (x : DataW H × List MemPlace),
    DataW.trod enc Try.prog W base spare held fuel 23 cs = some x → ∃ a n cap ts, cs = [.slice a n cap] ∧ n = ts.length ∧ (n ≤ maxLen ∧ n ≤ cap) ∧ RdK W W.heap.size a ts := by
  intro fuel
  induction fuel using Nat.strongRecOn with
  | ind fuel ih =>
    intro cs x h
    rcases DataW.trod_slice Try.underlying23 h with ⟨rfl, _⟩ | ⟨x0, len, cap, elems, rest, n, rfl, rfl, _, hb, hl, hm, hlen, hel, _, _⟩
    · exact ⟨none, 0, 0, [], rfl, rfl, ⟨Nat.zero_le _, Nat.zero_le _⟩, .nil _⟩
    · rw [cellsT] at hel
      have hall : ∀ i, i < len → ∃ y : TermD × Option Addr × Nat, W.cells? base (x0.add (i * 3)) 3 = some [.int .i64 y.1.f, .int .i64 y.1.v, .slice y.2.1 y.1.kids.length y.2.2] ∧ isW y.1.f ∧ isW y.1.v ∧ RdK W W.heap.size y.2.1 y.1.kids ∧ y.1.kids.length ≤ y.2.2 := by
        intro i hi
        have h1 := hel i hi
        rw [List.getElem?_eq_getElem (by omega)] at h1
        obtain ⟨cs', g1, g2⟩ := Option.bind_eq_some_iff.1 h1
        obtain ⟨t, a, c, rfl, q1, q2, ⟨_, q4⟩, q3⟩ := term_trod g2 (fun m hm cs x hx => ih m (by omega) cs x hx)
        exact ⟨⟨t, a, c⟩, g1, q1, q2, q3, q4⟩
      obtain ⟨F, hF⟩ := Deep.choose_lt hall
      refine ⟨some x0, len, cap, (List.range len).map (fun i => (F i).1), rfl, by simp, ⟨by omega, by omega⟩, ?_⟩
      by_cases h0 : len = 0
      · subst h0; exact .nil _
      · have hcell : ∀ i, (hi : i < len) → ∀ j, j < 3 → W.cell? ((x0.add (i * 3)).add j) = [Value.int .i64 (F i).1.f, .int .i64 (F i).1.v, .slice (F i).2.1 (F i).1.kids.length (F i).2.2][j]? := fun i hi j hj => (World.cells?_some (hF i hi).1).2.2 j hj
        obtain ⟨b, off, spot⟩ := x0
        have hc0 := hcell 0 (by omega) 0 (by omega)
        have h1 : W.cell? (⟨b, off, spot⟩ : Addr) = some (.int .i64 (F 0).1.f) := by simpa [Addr.add] using hc0
        have hspot : spot = none := by simpa using World.cell?_spot h1
        subst hspot
        have hadd : ∀ i j, ((⟨b, off, none⟩ : Addr).add i).add j = ⟨b, off + i + j, none⟩ := by
          intro i j
          by_cases h1 : i = 0 <;> by_cases h2 : j = 0 <;> simp [Addr.add, h1, h2, Nat.add_assoc]
        have hbl : b < W.heap.size := World.block_lt_of_cell? _ _ h1
        refine .row b off _ (fun i => (F i).2.1) (fun i => (F i).2.2) hbl ⟨by simp; unfold maxLen at hm; omega, fun i hi => by simp at hi; simp only [List.getElem_map, List.getElem_range]; exact (hF i hi).2.2.2.2⟩ (fun i hi => ?_) (fun i hi => ?_) (fun i hi => ?_)
        · simp at hi
          simp only [List.getElem_map, List.getElem_range]
          exact ⟨(hF i hi).2.1, (hF i hi).2.2.1⟩
        · simp at hi
          simp only [List.getElem_map, List.getElem_range]
          have g0 := hcell i hi 0 (by omega)
          have g1 := hcell i hi 1 (by omega)
          have g2 := hcell i hi 2 (by omega)
          rw [hadd] at g0 g1 g2
          exact ⟨by simpa using g0, by simpa using g1, by simpa using g2⟩
        · simp at hi
          simp only [List.getElem_map, List.getElem_range]
          exact (hF i hi).2.2.2.1

theorem open_term {H : Type} {enc : TypeId × Value → H} {W : World} {base : Nat} {spare : Nat → Bool} {held : Bool} {v : Value} {d : DataW H} {p : List MemPlace} {cs : Array Value} (hv : v = .agg cs)
    (h : DataW.Trod enc Try.prog W base spare held 51 v d p) : ∃ (t : TermD) (a : Option Addr) (c : Nat), v = .agg #[.int .i64 t.f, .int .i64 t.v, .slice a t.kids.length c] ∧ isW t.f ∧ isW t.v ∧ (t.kids.length ≤ maxLen ∧ t.kids.length ≤ c) ∧ RdK W W.heap.size a t.kids := by
  subst hv
  obtain ⟨fuel, hf⟩ := h
  obtain ⟨t, a, c, e, r⟩ := term_trod hf (fun m _ cs x hx => kids_trod m cs x hx)
  refine ⟨t, a, c, ?_, r⟩
  have e2 : cs.toList = [.int .i64 t.f, .int .i64 t.v, .slice a t.kids.length c] := by simpa [Value.cells] using e
  rw [show cs = #[.int .i64 t.f, .int .i64 t.v, .slice a t.kids.length c] from Array.toList_inj.1 e2]
end Go.Proofs.Ytkjlldbgooogdab

/- Contracts of the laws' helpers on terms: how much one holds. Conditions: none beyond the reading's. -/
namespace Go.Proofs.Ytkjlldbgooogdab
set_option maxRecDepth 100000
open Go.RowKit

theorem rt_int {a b : Int} (h : a = b) : Ending.returned (.int .i64 a) = .returned (.int .i64 b) := by rw [h]

set_option maxHeartbeats 1600000 in
theorem szTerm_of (t : TermD) (a : Option Addr) (c : Nat) (m : Int) (w : World)
    (H : ∀ w', Below w.heap.size w w' → Calls Try.prog 8 #[.slice a t.kids.length c, .int .i64 m] w' fun e w'' => e = .returned (.int .i64 (szR t.kids m)) ∧ Below w'.heap.size w' w'') :
    Calls Try.prog 28 #[.agg #[.int .i64 t.f, .int .i64 t.v, .slice a t.kids.length c], .int .i64 m] w fun e w' => e = .returned (.int .i64 (szR t.kids m)) ∧ Below w.heap.size w w' := by
  have h0 : Below w.heap.size w (w.alloc (.cells #[.int .i64 t.f, .int .i64 t.v, .slice a t.kids.length c] 51)) := (Below.refl w.heap.size w).alloc (Nat.le_refl _) _
  have H1 := H _ h0
  clear H
  have hr : szR t.kids m < 0 → szR t.kids m = -1 := by unfold szR; split <;> omega
  generalize szR t.kids m = r at *
  by_cases hn : r < 0
  · have hr1 := hr hn
    subst hr1
    clear hr
    go_enter Try.func28, Try.ntmps28
    go_wp2_with (go_at_call 8; refine H1.mono ?_; rintro e w1 ⟨rfl, hb1⟩; clear H1)
    go_ret
    exact ⟨rfl, h0.trans (hb1.mono h0.size)⟩
  · clear hr
    go_enter Try.func28, Try.ntmps28
    go_wp2_with (go_at_call 8; refine H1.mono ?_; rintro e w1 ⟨rfl, hb1⟩; clear H1)
    go_ret
    exact ⟨rfl, h0.trans (hb1.mono h0.size)⟩

set_option maxHeartbeats 1600000 in
theorem szTermS_any (N : Nat) : ∀ (ts : List TermD) (a : Option Addr) (c hi : Nat) (m : Int) (w : World), partsL ts ≤ N → 0 ≤ m → m ≤ 1048576 → RdK w hi a ts → hi ≤ w.heap.size →
    Calls Try.prog 8 #[.slice a ts.length c, .int .i64 m] w fun e w' => e = .returned (.int .i64 (szR ts m)) ∧ Below w.heap.size w w' := by
  induction N with
  | zero =>
    intro ts a c hi m w hN hm0 hm hr hhi
    have h1 := partsL_len ts
    have : ts = [] := List.length_eq_zero_iff.1 (by omega)
    subst this
    have HS : Hid (szR [] m = m) := by show _ = _; simp [szR, partsL, hm0]
    have hm0' : ¬ m < 0 := by omega
    go_enter Try.func8, Try.ntmps8
    go_wp2_with fail
    refine wp_loop_rounds 1 ?_
    rw [rounds_succ]
    go_wp2_with fail
    go_ret
    exact ⟨rt_int HS.out.symm, Below.refl _ _⟩
  | succ N ih =>
    intro ts a c hi m w hN hm0 hm hr hhi
    have hlen := hr.len
    by_cases hbig : m - (ts.length : Int) < 0
    · have HS : Hid (szR ts m = -1) := by show _ = _; have := partsL_len ts; unfold szR; rw [if_neg (by omega)]
      clear hr
      go_enter Try.func8, Try.ntmps8
      go_wp2_with fail
      go_ret
      exact ⟨rt_int HS.out.symm, Below.refl _ _⟩
    · have HR : Hid (RdK w hi a ts) := hr
      clear hr
      go_enter Try.func8, Try.ntmps8
      go_wp2_with fail
      go_loopw [1, 5] (fun l i wr => ∃ (k : Nat) (x : Int), k ≤ ts.length ∧ i = .int .i64 k ∧ l = .int .i64 x ∧ 0 ≤ x ∧ x ≤ m ∧ Hid (x = m - ts.length + k - partsL (ts.take k)) ∧ Below w.heap.size w wr) (fun _ i _ => ts.length - (intOf i).toNat)
      case atStart => exact ⟨0, m - ts.length, Nat.zero_le _, rfl, rfl, by omega, by omega, by show _ = _; simp [partsL], Below.refl _ _⟩
      case round =>
        obtain ⟨k, x, hk, rfl, rfl, hx0, hx1, HX, hbr⟩ := hrel
        by_cases hk' : k < ts.length
        · obtain ⟨b, off, a', c', rfl, hlt, d0, d1, d2, hkr⟩ := RdK.kid (HR.out.on (hbr.mono hhi)) hk'
          have hpg := partsL_get hk'
          have hpt := partsT_eq ts[k]
          have hki : (k : Int) < (ts.length : Int) := by omega
          have hwr := Nat.le_trans hhi hbr.size
          have S := szTerm_of ts[k] a' c' x wr (fun w' h => ih ts[k].kids a' c' hi x w' (by omega) hx0 (by omega) (hkr.on (h.mono hwr)) (Nat.le_trans hwr h.size))
          have HP := partsL_next hk'
          have HR2 := partsL_rest ts (k + 1)
          have hxo := HX.out
          by_cases hle : (partsL ts[k].kids : Int) ≤ x
          · have e : szR ts[k].kids x = x - partsL ts[k].kids := by unfold szR; rw [if_pos hle]
            rw [e] at S
            have hnn : ¬ x - (partsL ts[k].kids : Int) < 0 := by omega
            have HX' : Hid (x - (partsL ts[k].kids : Int) = m - ts.length + ((k + 1 : Nat) : Int) - partsL (ts.take (k + 1))) := by show _ = _; omega
            clear hkr hxo HP HR2 hpt e
            go_wp2_with (go_at_call 28; refine S.mono ?_; rintro e w1 ⟨rfl, hb1⟩; clear S)
            go_roundw
            case rel => exact ⟨k + 1, _, by omega, by go_num, rfl, by omega, by omega, HX', hbr.trans (hb1.mono hbr.size)⟩
            case measure => simp [intOf]; omega
          · have e : szR ts[k].kids x = -1 := by unfold szR; rw [if_neg hle]
            rw [e] at S
            have HS : Hid (szR ts m = -1) := by show _ = _; unfold szR; rw [if_neg (by omega)]
            clear hkr hxo HP HR2 hpt e
            go_wp2_with (go_at_call 28; refine S.mono ?_; rintro e w1 ⟨rfl, hb1⟩; clear S)
            go_ret
            exact ⟨rt_int HS.out.symm, hbr.trans (hb1.mono hbr.size)⟩
        · have HS : Hid (szR ts m = x) := by
            show _ = _
            have hxo := HX.out
            have e : k = ts.length := by omega
            rw [e, List.take_length] at hxo
            unfold szR; rw [if_pos (by omega)]; omega
          go_wp2_with fail
          go_ret
          exact ⟨rt_int HS.out.symm, hbr⟩

theorem szTerm_any (t : TermD) (a : Option Addr) (c hi : Nat) (m : Int) (w : World) (hm0 : 0 ≤ m) (hm : m ≤ 1048576) (hr : RdK w hi a t.kids) (hhi : hi ≤ w.heap.size) :
    Calls Try.prog 28 #[.agg #[.int .i64 t.f, .int .i64 t.v, .slice a t.kids.length c], .int .i64 m] w fun e w' => e = .returned (.int .i64 (szR t.kids m)) ∧ Below w.heap.size w w' :=
  szTerm_of t a c m w (fun w' h => szTermS_any (partsL t.kids) t.kids a c hi m w' (Nat.le_refl _) hm0 hm (hr.on (h.mono hhi)) (Nat.le_trans hhi h.size))
end Go.Proofs.Ytkjlldbgooogdab

/- What is put for variables, as data: a list of numbers and terms, how it lies in memory, how it came in as an argument. Conditions: none. -/
namespace Go.Proofs.Ytkjlldbgooogdab
set_option maxRecDepth 100000
open Go.RowKit

structure BindD where
  n : Int
  t : TermD
instance : Inhabited BindD := ⟨⟨0, .mk 0 0 []⟩⟩

/-- The slice of Binds that begins at 'a' reads in w as us; all below hi. -/
inductive RdU (w : World) (hi : Nat) : Option Addr → List BindD → Prop
  | nil (a : Option Addr) : RdU w hi a []
  | row (b off : Nat) (us : List BindD) (A : Nat → Option Addr) (C : Nat → Nat) (hlt : b < hi) (hl : us.length ≤ 9223372036854775807 ∧ ∀ i, (h : i < us.length) → us[i].t.kids.length ≤ C i) (hz : ∀ i, (h : i < us.length) → isW us[i].n ∧ isW us[i].t.f ∧ isW us[i].t.v)
      (hc : ∀ i, (h : i < us.length) → w.cell? ⟨b, off + i * 4, none⟩ = some (.int .i64 us[i].n) ∧ w.cell? ⟨b, off + i * 4 + 1, none⟩ = some (.int .i64 us[i].t.f) ∧ w.cell? ⟨b, off + i * 4 + 2, none⟩ = some (.int .i64 us[i].t.v) ∧ w.cell? ⟨b, off + i * 4 + 3, none⟩ = some (.slice (A i) us[i].t.kids.length (C i)))
      (hk : ∀ i, (h : i < us.length) → RdK w hi (A i) us[i].t.kids) : RdU w hi (some ⟨b, off, none⟩) us
theorem RdU.on {w w' : World} {hi : Nat} {a : Option Addr} {us : List BindD} (h : RdU w hi a us) (hb : Below hi w w') : RdU w' hi a us := by
  cases h with
  | nil a => exact .nil a
  | row b off us A C hlt hl hz hc hk =>
    exact .row b off us A C hlt hl hz (fun i hi' => ⟨(hb.cell (p := ⟨b, _, none⟩) hlt).trans (hc i hi').1, (hb.cell (p := ⟨b, _, none⟩) hlt).trans (hc i hi').2.1, (hb.cell (p := ⟨b, _, none⟩) hlt).trans (hc i hi').2.2.1, (hb.cell (p := ⟨b, _, none⟩) hlt).trans (hc i hi').2.2.2⟩) (fun i hi' => (hk i hi').on hb)
theorem RdU.mono {w : World} {hi hi' : Nat} {a : Option Addr} {us : List BindD} (h : RdU w hi a us) (hh : hi ≤ hi') : RdU w hi' a us := by
  cases h with
  | nil a => exact .nil a
  | row b off us A C hlt hl hz hc hk => exact .row b off us A C (Nat.lt_of_lt_of_le hlt hh) hl hz hc (fun i hi' => (hk i hi').mono hh)
theorem RdU.get {w : World} {hi : Nat} {a : Option Addr} {us : List BindD} (h : RdU w hi a us) {i : Nat} (hi' : i < us.length) :
    ∃ b off a' c', a = some ⟨b, off, none⟩ ∧ b < hi ∧ w.cell? ⟨b, off + i * 4, none⟩ = some (.int .i64 us[i].n) ∧ w.cell? ⟨b, off + i * 4 + 1, none⟩ = some (.int .i64 us[i].t.f) ∧ w.cell? ⟨b, off + i * 4 + 2, none⟩ = some (.int .i64 us[i].t.v) ∧ w.cell? ⟨b, off + i * 4 + 3, none⟩ = some (.slice a' us[i].t.kids.length c') ∧ us[i].t.kids.length ≤ c' ∧ RdK w hi a' us[i].t.kids ∧ (isW us[i].n ∧ isW us[i].t.f ∧ isW us[i].t.v) := by
  cases h with
  | nil a => simp at hi'
  | row b off us A C hlt hl hz hc hk => exact ⟨b, off, A i, C i, rfl, hlt, (hc i hi').1, (hc i hi').2.1, (hc i hi').2.2.1, (hc i hi').2.2.2, hl.2 i hi', hk i hi', hz i hi'⟩

/-- It owns its memory: its blocks are among S, and no two of its parts share one. -/
inductive OwnU (w : World) : (Nat → Prop) → Option Addr → List BindD → Prop
  | nil (S : Nat → Prop) (a : Option Addr) : OwnU w S a []
  | row (S : Nat → Prop) (b off : Nat) (us : List BindD) (A : Nat → Option Addr) (C : Nat → Nat) (K : Nat → Nat → Prop) (hb : S b) (hlt : b < w.heap.size) (hl : us.length ≤ 9223372036854775807 ∧ ∀ i, (h : i < us.length) → us[i].t.kids.length ≤ C i) (hz : ∀ i, (h : i < us.length) → isW us[i].n ∧ isW us[i].t.f ∧ isW us[i].t.v)
      (hc : ∀ i, (h : i < us.length) → w.cell? ⟨b, off + i * 4, none⟩ = some (.int .i64 us[i].n) ∧ w.cell? ⟨b, off + i * 4 + 1, none⟩ = some (.int .i64 us[i].t.f) ∧ w.cell? ⟨b, off + i * 4 + 2, none⟩ = some (.int .i64 us[i].t.v) ∧ w.cell? ⟨b, off + i * 4 + 3, none⟩ = some (.slice (A i) us[i].t.kids.length (C i)))
      (hf : ∀ j, w.frozen? ⟨b, j, none⟩ = false)
      (hsub : ∀ i x, i < us.length → K i x → S x ∧ x ≠ b) (hdis : ∀ i j x, i < us.length → j < us.length → i ≠ j → K i x → ¬ K j x)
      (hk : ∀ i, (h : i < us.length) → OwnS w (K i) (A i) us[i].t.kids) : OwnU w S (some ⟨b, off, none⟩) us
theorem OwnU.frame {w w' : World} {S : Nat → Prop} {a : Option Addr} {us : List BindD} (h : OwnU w S a us) (hs : ∀ x, S x → w'.heap[x]? = w.heap[x]?) (hz : w.heap.size ≤ w'.heap.size) : OwnU w' S a us := by
  cases h with
  | nil a => exact .nil _ a
  | row b off us A C K hb hlt hl hz' hc hf hsub hdis hk =>
    have e := hs b hb
    exact .row _ b off us A C K hb (Nat.lt_of_lt_of_le hlt hz) hl hz' (fun i h => ⟨(World.cell?_of_block (a := ⟨b, _, none⟩) e).trans (hc i h).1, (World.cell?_of_block (a := ⟨b, _, none⟩) e).trans (hc i h).2.1, (World.cell?_of_block (a := ⟨b, _, none⟩) e).trans (hc i h).2.2.1, (World.cell?_of_block (a := ⟨b, _, none⟩) e).trans (hc i h).2.2.2⟩) (fun j => (World.frozen?_of_block (a := ⟨b, j, none⟩) e).trans (hf j)) hsub hdis (fun i h => (hk i h).frame (fun x hx => hs x (hsub i x h hx).1) hz)
theorem OwnU.rd {w : World} {S : Nat → Prop} {a : Option Addr} {us : List BindD} (h : OwnU w S a us) : RdU w w.heap.size a us := by
  cases h with
  | nil a => exact .nil a
  | row b off us A C K hb hlt hl hz hc hf hsub hdis hk => exact .row b off us A C hlt hl hz hc (fun i h => (hk i h).rd)

/-- How much it holds. -/
def partsU (us : List BindD) : Nat := us.length + (us.map (fun u => partsL u.t.kids)).sum
theorem sum_nextU {us : List BindD} {k : Nat} (h : k < us.length) : ((us.take (k + 1)).map (fun u => partsL u.t.kids)).sum = ((us.take k).map (fun u => partsL u.t.kids)).sum + partsL us[k].t.kids := by
  rw [List.take_succ_eq_append_getElem h, List.map_append, List.sum_append]; simp only [List.map_cons, List.map_nil, List.sum_cons, List.sum_nil, Nat.add_zero]
theorem sum_takeU (us : List BindD) (k : Nat) : ((us.take k).map (fun u => partsL u.t.kids)).sum ≤ (us.map (fun u => partsL u.t.kids)).sum := by
  conv => rhs; rw [← List.take_append_drop k us, List.map_append, List.sum_append]
  omega
theorem partsU_get {us : List BindD} {k : Nat} (h : k < us.length) : partsL us[k].t.kids + 1 ≤ partsU us := by
  have h1 := sum_nextU h
  have h2 := sum_takeU us (k + 1)
  unfold partsU
  omega
def szU (us : List BindD) (m : Int) : Int := if (partsU us : Int) ≤ m then m - partsU us else -1

/-- An argument, opened. -/
theorem cellsB : Try.prog.cellsOf 71 = 4 := by kernel_rfl
theorem bind_trod {H : Type} {enc : TypeId × Value → H} {W : World} {base : Nat} {spare : Nat → Bool} {held : Bool} {fuel : Nat} {cs : List Value} {x : DataW H × List MemPlace}
    (h : DataW.trod enc Try.prog W base spare held fuel 71 cs = some x) :
    ∃ (u : BindD) (a : Option Addr) (c : Nat), cs = [.int .i64 u.n, .int .i64 u.t.f, .int .i64 u.t.v, .slice a u.t.kids.length c] ∧ (isW u.n ∧ isW u.t.f ∧ isW u.t.v) ∧ u.t.kids.length ≤ c ∧ RdK W W.heap.size a u.t.kids := by
  obtain ⟨xs, m, rfl, rfl, hlen, hxl, hf⟩ := DataW.trod_struct Try.underlying71 h
  rw [cellsB] at hlen
  match cs, hlen with
  | [c0, c1, c2, c3], _ =>
    match xs, hxl with
    | [y0, y1], _ =>
      have h0 : DataW.trod enc Try.prog W base spare held m 3 [c0] = some y0 := by have := hf 0 _ rfl; simpa [cellsI] using this
      have h1 : DataW.trod enc Try.prog W base spare held m 51 [c1, c2, c3] = some y1 := by have := hf 1 _ rfl; simpa [cellsT] using this
      obtain ⟨z0, e0, _, w0⟩ := DataW.trod_int Try.underlying3 h0
      obtain ⟨t, a, c, e1, q1, q2, q3, q4⟩ := term_trod h1 (fun m _ cs x hx => kids_trod m cs x hx)
      simp at e0 e1
      obtain ⟨e1, e2, e3⟩ := e1
      subst e0 e1 e2 e3
      exact ⟨⟨z0, t⟩, a, c, rfl, ⟨isW_of w0, q1, q2⟩, q3.2, q4⟩
theorem open_binds {H : Type} {enc : TypeId × Value → H} {W : World} {base : Nat} {spare : Nat → Bool} {held : Bool} {v : Value} {d : DataW H} {p : List MemPlace} {a : Option Addr} {len cap : Nat} (hv : v = .slice a len cap)
    (h : DataW.Trod enc Try.prog W base spare held 40 v d p) : ∃ us : List BindD, len = us.length ∧ (len ≤ maxLen ∧ len ≤ cap) ∧ RdU W W.heap.size a us := by
  subst hv
  obtain ⟨fuel, hf⟩ := h
  rcases DataW.trod_slice Try.underlying40 hf with ⟨e, _⟩ | ⟨x0, l, c, elems, rest, n, rfl, e, _, hb, hl, hm, hlen, hel, _, _⟩
  · simp [Value.cells] at e
    obtain ⟨rfl, rfl, rfl⟩ := e
    exact ⟨[], rfl, ⟨Nat.zero_le _, Nat.zero_le _⟩, .nil _⟩
  · simp [Value.cells] at e
    obtain ⟨rfl, rfl, rfl⟩ := e
    rw [cellsB] at hel
    have hall : ∀ i, i < len → ∃ y : BindD × Option Addr × Nat, W.cells? base (x0.add (i * 4)) 4 = some [.int .i64 y.1.n, .int .i64 y.1.t.f, .int .i64 y.1.t.v, .slice y.2.1 y.1.t.kids.length y.2.2] ∧ (isW y.1.n ∧ isW y.1.t.f ∧ isW y.1.t.v) ∧ RdK W W.heap.size y.2.1 y.1.t.kids ∧ y.1.t.kids.length ≤ y.2.2 := by
      intro i hi
      have h1 := hel i hi
      rw [List.getElem?_eq_getElem (by omega)] at h1
      obtain ⟨cs', g1, g2⟩ := Option.bind_eq_some_iff.1 h1
      obtain ⟨u, a, c, rfl, q1, q2, q3⟩ := bind_trod g2
      exact ⟨⟨u, a, c⟩, g1, q1, q3, q2⟩
    obtain ⟨F, hF⟩ := Deep.choose_lt hall
    refine ⟨(List.range len).map (fun i => (F i).1), by simp, ⟨by omega, by omega⟩, ?_⟩
    by_cases h0 : len = 0
    · subst h0; exact .nil _
    · have hcell : ∀ i, (hi : i < len) → ∀ j, j < 4 → W.cell? ((x0.add (i * 4)).add j) = [Value.int .i64 (F i).1.n, .int .i64 (F i).1.t.f, .int .i64 (F i).1.t.v, .slice (F i).2.1 (F i).1.t.kids.length (F i).2.2][j]? := fun i hi j hj => (World.cells?_some (hF i hi).1).2.2 j hj
      obtain ⟨b, off, spot⟩ := x0
      have hc0 := hcell 0 (by omega) 0 (by omega)
      have h1 : W.cell? (⟨b, off, spot⟩ : Addr) = some (.int .i64 (F 0).1.n) := by simpa [Addr.add] using hc0
      have hspot : spot = none := by simpa using World.cell?_spot h1
      subst hspot
      have hadd : ∀ i j, ((⟨b, off, none⟩ : Addr).add i).add j = ⟨b, off + i + j, none⟩ := by
        intro i j
        by_cases h1 : i = 0 <;> by_cases h2 : j = 0 <;> simp [Addr.add, h1, h2, Nat.add_assoc]
      have hbl : b < W.heap.size := World.block_lt_of_cell? _ _ h1
      refine .row b off _ (fun i => (F i).2.1) (fun i => (F i).2.2) hbl ⟨by simp; unfold maxLen at hm; omega, fun i hi => by simp at hi; simp only [List.getElem_map, List.getElem_range]; exact (hF i hi).2.2.2⟩ (fun i hi => ?_) (fun i hi => ?_) (fun i hi => ?_)
      · simp at hi
        simp only [List.getElem_map, List.getElem_range]
        exact (hF i hi).2.1
      · simp at hi
        simp only [List.getElem_map, List.getElem_range]
        have g0 := hcell i hi 0 (by omega)
        have g1 := hcell i hi 1 (by omega)
        have g2 := hcell i hi 2 (by omega)
        have g3 := hcell i hi 3 (by omega)
        rw [hadd] at g0 g1 g2 g3
        exact ⟨by simpa using g0, by simpa using g1, by simpa using g2, by simpa using g3⟩
      · simp at hi
        simp only [List.getElem_map, List.getElem_range]
        exact (hF i hi).2.2.1
end Go.Proofs.Ytkjlldbgooogdab

/- Contracts of the laws' comparison of terms, where both read as the same. Conditions: terms of at most 4194304 parts. -/
namespace Go.Proofs.Ytkjlldbgooogdab
set_option maxRecDepth 100000
open Go.RowKit

set_option maxHeartbeats 1600000 in
theorem eqTerm_of (t : TermD) (a a' : Option Addr) (c c' : Nat) (w : World)
    (H : ∀ w', Below w.heap.size w w' → Calls Try.prog 15 #[.slice a t.kids.length c, .slice a' t.kids.length c'] w' fun e w'' => e = .returned (.bool true) ∧ Below w'.heap.size w' w'') :
    Calls Try.prog 13 #[.agg #[.int .i64 t.f, .int .i64 t.v, .slice a t.kids.length c], .agg #[.int .i64 t.f, .int .i64 t.v, .slice a' t.kids.length c']] w fun e w' => e = .returned (.bool true) ∧ Below w.heap.size w w' := by
  generalize t.kids = ks at *
  have h0 : Below w.heap.size w ((w.alloc (.cells #[.int .i64 t.f, .int .i64 t.v, .slice a ks.length c] 28)).alloc (.cells #[.int .i64 t.f, .int .i64 t.v, .slice a' ks.length c'] 28)) := ((Below.refl _ _).alloc (Nat.le_refl _) _).alloc (by simp) _
  have H1 := H _ h0
  clear H
  go_enter Try.func13, Try.ntmps13
  go_wp2_with (go_at_call 15; refine H1.mono ?_; rintro e w1 ⟨rfl, hb1⟩; clear H1)
  go_ret
  exact ⟨rfl, h0.trans (hb1.mono h0.size)⟩

set_option maxHeartbeats 1600000 in
theorem eqTermS_same (N : Nat) : ∀ (ts : List TermD) (a a' : Option Addr) (c c' hi : Nat) (w : World), partsL ts ≤ N → N ≤ 4194304 → RdK w hi a ts → RdK w hi a' ts → hi ≤ w.heap.size →
    Calls Try.prog 15 #[.slice a ts.length c, .slice a' ts.length c'] w fun e w' => e = .returned (.bool true) ∧ Below w.heap.size w w' := by
  induction N with
  | zero =>
    intro ts a a' c c' hi w hN hM hr hr' hhi
    have h1 := partsL_len ts
    have : ts = [] := List.length_eq_zero_iff.1 (by omega)
    subst this
    go_enter Try.func15, Try.ntmps15
    go_wp2_with fail
    refine wp_loop_rounds 1 ?_
    rw [rounds_succ]
    go_wp2_with fail
    go_ret
    exact ⟨rfl, Below.refl _ _⟩
  | succ N ih =>
    intro ts a a' c c' hi w hN hM hr hr' hhi
    have hlen := partsL_len ts
    have HR : Hid (RdK w hi a ts) := hr
    have HR' : Hid (RdK w hi a' ts) := hr'
    clear hr hr'
    go_enter Try.func15, Try.ntmps15
    go_wp2_with fail
    go_loopw [5] (fun i wr => ∃ k : Nat, k ≤ ts.length ∧ i = .int .i64 k ∧ Below w.heap.size w wr) (fun i _ => ts.length - (intOf i).toNat)
    case atStart => exact ⟨0, Nat.zero_le _, rfl, Below.refl _ _⟩
    case round =>
      obtain ⟨k, hk, rfl, hbr⟩ := hrel
      by_cases hk' : k < ts.length
      · obtain ⟨b, off, e1, c1, rfl, hlt, d0, d1, d2, hkr⟩ := RdK.kid (HR.out.on (hbr.mono hhi)) hk'
        obtain ⟨b', off', e2, c2, rfl, hlt', g0, g1, g2, hkr'⟩ := RdK.kid (HR'.out.on (hbr.mono hhi)) hk'
        have hpg := partsL_get hk'
        have hpt := partsT_eq ts[k]
        have hki : (k : Int) < (ts.length : Int) := by omega
        have hwr := Nat.le_trans hhi hbr.size
        have I := fun (w' : World) (h : Below wr.heap.size wr w') => eqTerm_of ts[k] e1 e2 c1 c2 w' (fun w'' h' => ih ts[k].kids e1 e2 c1 c2 hi w'' (by omega) (by omega) (hkr.on ((h.trans (h'.mono h.size)).mono hwr)) (hkr'.on ((h.trans (h'.mono h.size)).mono hwr)) (Nat.le_trans hwr (Nat.le_trans h.size h'.size)))
        clear HR HR' hkr hkr' hpt
        go_wp2_with fail
        go_region_held3 (fun w' => w'.cell? ⟨b, off + k * 3, none⟩ = some (.int .i64 ts[k].f) ∧ w'.cell? ⟨b, off + k * 3 + 1, none⟩ = some (.int .i64 ts[k].v) ∧ w'.cell? ⟨b, off + k * 3 + 2, none⟩ = some (.slice e1 ts[k].kids.length c1) ∧ w'.cell? ⟨b', off' + k * 3, none⟩ = some (.int .i64 ts[k].f) ∧ w'.cell? ⟨b', off' + k * 3 + 1, none⟩ = some (.int .i64 ts[k].v) ∧ w'.cell? ⟨b', off' + k * 3 + 2, none⟩ = some (.slice e2 ts[k].kids.length c2)) (first | go_keep | exact ⟨keepC hbb d0, keepC hbb d1, keepC hbb d2, keepC hbb g0, keepC hbb g1, keepC hbb g2⟩)
          (first | (go_at_call 13; refine (I _ ?_).mono ?_; exact (Below.refl _ _).drew; rintro e w1 ⟨rfl, hb1⟩; have hbb : Below wr.heap.size wr w1 := (Below.refl _ _).drew.trans hb1; clear hb1))
        go_wp2_with fail
        go_roundw
        case rel => exact ⟨k + 1, by omega, by go_num, hbr.trans (hbb.mono hbr.size)⟩
        case measure => simp [intOf]; omega
      · go_wp2_with fail
        go_ret
        exact ⟨rfl, hbr⟩

theorem eqTerm_same (t : TermD) (a a' : Option Addr) (c c' hi : Nat) (w : World) (hp : partsT t ≤ 4194304) (hr : RdK w hi a t.kids) (hr' : RdK w hi a' t.kids) (hhi : hi ≤ w.heap.size) :
    Calls Try.prog 13 #[.agg #[.int .i64 t.f, .int .i64 t.v, .slice a t.kids.length c], .agg #[.int .i64 t.f, .int .i64 t.v, .slice a' t.kids.length c']] w fun e w' => e = .returned (.bool true) ∧ Below w.heap.size w w' :=
  eqTerm_of t a a' c c' w (fun w' h => eqTermS_same (partsL t.kids) t.kids a a' c c' hi w' (Nat.le_refl _) (by rw [partsT_eq] at hp; omega) (hr.on (h.mono hhi)) (hr'.on (h.mono hhi)) (Nat.le_trans hhi h.size))
end Go.Proofs.Ytkjlldbgooogdab

/- A region that draws its order, whose operations only read and whose callees may lay blocks of their own, walked once, in the order of the text: the class of worlds in which all that was there lies as it lay. Conditions: none. -/
namespace Go.Proofs.Ytkjlldbgooogdab
set_option maxRecDepth 100000
open Go.RowKit

/-- A world in which all that lay in w lies as it lay. -/
structure BW (w : World) where
  u : World
  b : Below w.heap.size w u
instance (w : World) : Inhabited (BW w) := ⟨⟨w, Below.refl _ _⟩⟩
theorem wp_region_below {P : Program} {id : Nat} {Q : Exit → Act → World → Prop} {a : Act} {w : World} {l : List Oper} (hm : P.follows .mixedOrders = true) (hB : Region.lexB .any l.toArray = true)
    (h : wpQuiet P l.toArray (fun w' => ∃ p : BW w, w' = p.u) (fun a' => ∀ w', (∃ p : BW w, w' = p.u) → Q .normal a' w') l a) : (Code.region id l.toArray true).wp P Q a w :=
  wp_region_quiet (C := fun w' => ∃ p : BW w, w' = p.u) hm hB ⟨⟨w.drew, (Below.refl _ _).drew⟩, rfl⟩ (by simpa using h)
/-- What was there is there. -/
theorem cellB {w : World} {a : Addr} {v : Value} (h : w.cell? a = some v) (p : BW w) : p.u.cell? a = some v := (p.b.cell (World.block_lt_of_cell? w a h)).trans h
/-- A callee's contract, met in a world of the class. -/
theorem callsB {P : Program} {f : FuncId} {args : Array Value} {w : World} {p : BW w} {v : Value}
    (h : Calls P f args p.u fun e w' => e = .returned v ∧ Below p.u.heap.size p.u w') : Calls P f args p.u fun e w'' => e = .returned v ∧ ∃ q : BW w, w'' = q.u :=
  h.mono fun _ w' ⟨he, hb⟩ => ⟨he, ⟨w', p.b.trans (hb.mono p.b.size)⟩, rfl⟩
end Go.Proofs.Ytkjlldbgooogdab

