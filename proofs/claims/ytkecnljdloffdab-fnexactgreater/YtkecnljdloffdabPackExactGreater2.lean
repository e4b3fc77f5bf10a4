/- What the proof of FnExactGreater stands on, part 2 of 8: each piece says what it proves and under which conditions. Conditions: as each piece says. -/
import Derived.Test.YtkecnljdloffdabPackExactGreater1
import Derived.Test.YtkecnljdloffdabProg
import Derived.Deep.RegionHeld3
import GoSem.Claim
import Derived.Below
import Derived.Deep.Draws
import Derived.BigQuiet
import Derived.Deep.QuietTactic
import Derived.OpenShut
import Derived.ProofKit
import Derived.WalkKit
import Derived.WalkSmall
import Derived.Lib.SlicesCompact
/- Whether a term is a variable, and which, as the program tells it by a type switch. Conditions: none. -/
namespace Go.Proofs.Ytkecnljdloffdab
set_option maxRecDepth 100000
open Go.RowKit

theorem pieceOf_var (t : TermD) (a : Option Addr) (n c : Nat) (w : World) (h : t.f = -1) :
    Calls Try.prog 84 #[.agg #[.int .i64 t.f, .int .i64 t.v, .slice a n c]] w fun e w' => e = .returned (.iface 108 (.agg #[.int .i64 t.v])) ∧ Below w.heap.size w w' := by
  go_enter Try.func84, Try.ntmps84
  go_wp2
  go_ret
  exact ⟨rfl, (Below.refl _ _).alloc (Nat.le_refl _) _⟩

theorem pieceOf_fun (t : TermD) (a : Option Addr) (n c : Nat) (w : World) (h : (t.f == -1) = false) :
    Calls Try.prog 84 #[.agg #[.int .i64 t.f, .int .i64 t.v, .slice a n c]] w fun e w' => e = .returned (.iface 128 (.agg #[.int .i64 t.f, .slice a n c])) ∧ Below w.heap.size w w' := by
  go_enter Try.func84, Try.ntmps84
  go_wp2
  go_ret
  exact ⟨rfl, (Below.refl _ _).alloc (Nat.le_refl _) _⟩

theorem ta_hit (v : Value) (w : World) : (Instr.typeAssert (.iface 108 v) 105 108 true).run Try.prog w = .ok (.tuple #[v, .bool true]) w := by
  simp [Instr.typeAssert, run_underlying Try.underlying108, go_sem]
theorem ta_miss (v : Value) (w : World) : (Instr.typeAssert (.iface 128 v) 105 108 true).run Try.prog w = .ok (.tuple #[.agg #[.int .i64 0], .bool false]) w := by
  have hz : (zeroValue 108).run Try.prog w = .ok (.agg #[.int .i64 0]) w := by simp [go_sem]
  simp [Instr.typeAssert, run_underlying Try.underlying108, go_sem, hz]

/-- What is told of a term: its number where it is a variable. -/
def vofI (t : TermD) : Int := if t.f = -1 then t.v else 0
def vofB (t : TermD) : Bool := t.f == -1
theorem rtT {a b : Int} {p q : Bool} (h : a = b) (h' : p = q) : Ending.returned (.tuple #[.int .i64 a, .bool p]) = .returned (.tuple #[.int .i64 b, .bool q]) := by rw [h, h']

set_option maxHeartbeats 1600000 in
set_option maxRecDepth 100000 in
theorem variableOf_any (t : TermD) (a : Option Addr) (n c : Nat) (w : World) :
    Calls Try.prog 68 #[.agg #[.int .i64 t.f, .int .i64 t.v, .slice a n c]] w fun e w' => e = .returned (.tuple #[.int .i64 (vofI t), .bool (vofB t)]) ∧ Below w.heap.size w w' := by
  by_cases h : t.f = -1
  · have HI : Hid (vofI t = t.v) := by show _ = _; simp [vofI, h]
    have HB : Hid (vofB t = true) := by show _ = _; simp [vofB, h]
    have C := fun w => pieceOf_var t a n c w h
    clear h
    have hA := ta_hit
    go_enter Try.func68, Try.ntmps68
    go_wp2_with (go_at_call 84; refine (C _).mono ?_; rintro e w1 ⟨rfl, hb1⟩; clear C)
    go_ret2
    have h0 : Below w.heap.size w w1 := ((Below.refl _ _).alloc (Nat.le_refl _) _).trans (hb1.mono (by simp))
    exact ⟨rtT HI.out.symm HB.out.symm, h0.alloc h0.size _⟩
  · have h' : (t.f == -1) = false := by simp [h]
    have HI : Hid (vofI t = 0) := by show _ = _; simp [vofI, h]
    have HB : Hid (vofB t = false) := by show _ = _; simp [vofB, h]
    have C := fun w => pieceOf_fun t a n c w h'
    clear h h'
    have hA := ta_miss
    go_enter Try.func68, Try.ntmps68
    go_wp2_with (go_at_call 84; refine (C _).mono ?_; rintro e w1 ⟨rfl, hb1⟩; clear C)
    go_ret2
    exact ⟨rtT HI.out.symm HB.out.symm, ((Below.refl _ _).alloc (Nat.le_refl _) _).trans (hb1.mono (by simp))⟩
end Go.Proofs.Ytkecnljdloffdab

/- The program makes an iterator over a term. Conditions: none. -/
namespace Go.Proofs.Ytkecnljdloffdab
set_option maxRecDepth 100000
open Go.RowKit Go.Shelf
attribute [local go_sem] Oper.semAt_some

theorem within_any (t : TermD) (a : Option Addr) (c : Nat) (w : World) :
    Calls Try.prog 62 #[.agg #[.int .i64 t.f, .int .i64 t.v, .slice a t.kids.length c]] w fun e w' => e = .returned (.func (.func 77) #[] #[.pointer (some ⟨w.heap.size, 0, none⟩)]) ∧ w' = w.alloc (.cells #[.int .i64 t.f, .int .i64 t.v, .slice a t.kids.length c] 28) := by
  generalize t.kids.length = n at *
  go_enter Try.func62, Try.ntmps62
  go_wp2
  go_ret
  exact ⟨rfl, rfl⟩

end Go.Proofs.Ytkecnljdloffdab

/- How many terms are within a term, and how often a variable, as the program tells it: it ranges over its iterator. Conditions: terms of at most 4194304 parts. -/
namespace Go.Proofs.Ytkecnljdloffdab
set_option maxRecDepth 100000
open Go.RowKit Go.Shelf
attribute [local go_sem] Oper.semAt_some

end Go.Proofs.Ytkecnljdloffdab

/- A round's own variable. Conditions: none. -/
namespace Go.Proofs.Ytkecnljdloffdab
set_option maxRecDepth 100000
open Go.RowKit
/-- The round's own variable lies in a block of its own. -/
structure BoxEl (x : El) (Bx : Nat) (S : Nat → Prop) (W : World) : Prop where
  s : S Bx
  c0 : W.cell? ⟨Bx, 0, none⟩ = some (.int .i64 x.t.f)
  c1 : W.cell? ⟨Bx, 1, none⟩ = some (.int .i64 x.t.v)
  c2 : W.cell? ⟨Bx, 2, none⟩ = some (.slice x.a x.t.kids.length x.c)
theorem BoxEl.stay {x : El} {Bx : Nat} {S : Nat → Prop} {A B : World} (h : BoxEl x Bx S A) (hs : Stay S A B) : BoxEl x Bx S B := ⟨h.s, hs.cell h.c0 h.s, hs.cell h.c1 h.s, hs.cell h.c2 h.s⟩
end Go.Proofs.Ytkecnljdloffdab

/- How often a variable stands in a term, as the program tells it: it ranges over its iterator. Conditions: terms of at most 4194304 parts. -/
namespace Go.Proofs.Ytkecnljdloffdab
set_option maxRecDepth 100000
open Go.RowKit Go.Shelf
attribute [local go_sem] Oper.semAt_some

theorem cntP_snoc (v : Int) (l : List El) (x : El) : cntP v ((l ++ [x]).map El.t) = cntP v (l.map El.t) + if vofB x.t = true ∧ vofI x.t = v then 1 else 0 := by
  rw [List.map_append, cntP_append]
  congr 1
  by_cases h1 : x.t.f = -1 <;> by_cases h2 : x.t.v = v <;> simp [cntP, vofB, vofI, h1, h2]
theorem cntP_le (v : Int) (l : List TermD) : cntP v l ≤ l.length := List.length_filter_le _ _

/-- What the count's loop holds between two rounds. -/
structure CInv (w W0 : World) (vv : Int) (pre : List El) (S : Nat → Prop) (W : World) : Prop where
  lo : ∀ k, k < W0.heap.size → S k
  hi : ∀ k, S k → k < W.heap.size
  v : W.cell? ⟨w.heap.size + 1, 0, none⟩ = some (.int .i64 vv)
  n : W.cell? ⟨w.heap.size + 1 + 1, 0, none⟩ = some (.int .i64 (cntP vv (pre.map El.t)))
  f : W.frozen? ⟨w.heap.size + 1 + 1, 0, none⟩ = false
  b : Below w.heap.size w W
  z : w.heap.size + 1 + 1 < W0.heap.size
theorem CInv.stay {w W0 A B : World} {v : Int} {pre : List El} {S : Nat → Prop} (h : CInv w W0 v pre S A) (hs : Stay S A B) : CInv w W0 v pre S B := by
  have hz := h.z
  exact ⟨h.lo, fun k hk => Nat.lt_of_lt_of_le (h.hi k hk) hs.size, hs.cell h.v (h.lo _ (by simp only; omega)), hs.cell h.n (h.lo _ (by simp only; omega)), (hs.frozen (World.block_lt_of_cell? _ _ h.n) (h.lo _ (by simp only; omega))).trans h.f, h.b.trans (hs.below h.b.size (fun k hk => h.lo k (by omega))), hz⟩
theorem CInv.alloc {w W0 A : World} {v : Int} {pre : List El} {S : Nat → Prop} (h : CInv w W0 v pre S A) (o : Obj) : CInv w W0 v pre (fun k => S k ∨ k = A.heap.size) (A.alloc o) := by
  have h' := h.stay (.alloc S A o)
  exact ⟨fun k hk => .inl (h'.lo k hk), fun k hk => hk.elim (h'.hi k) (fun e => by simp; omega), h'.v, h'.n, h'.f, h'.b, h'.z⟩
set_option maxHeartbeats 3200000 in
set_option maxRecDepth 100000 in
theorem impCount_any (N : Nat) (t : TermD) (a : Option Addr) (c hi : Nat) (v : Int) (w : World) (hN : partsT t ≤ N) (hM : N ≤ 4194304) (hr : RdK w hi a t.kids) (hhi : hi ≤ w.heap.size) (hc : t.kids.length ≤ c) :
    Calls Try.prog 65 #[.agg #[.int .i64 t.f, .int .i64 t.v, .slice a t.kids.length c], .int .i64 v] w fun e w' => e = .returned (.int .i64 (cntT v t)) ∧ Below w.heap.size w w' := by
  refine (callsIn_wide (n := 5)).1 ?_
  have hp : partsT t ≤ 4194304 := Nat.le_trans hN hM
  refine callsIn_of_wp_marks Try.func65 rfl trivial ?_ rfl
  simp only [Try.ntmps65, List.size_toArray, List.length_cons, List.length_nil, Nat.reduceAdd, Nat.reduceSub, Array.replicate_succ, Array.replicate_zero, List.push_toArray, List.append_toArray, List.nil_append, List.cons_append]
  gi_wp2_with (refine ⟨trivial, ?_⟩; gi_at_call 62; refine (callsIn_wide.2 (within_any t a c _)).mono ?_; rintro e w' ⟨rfl, rfl⟩)
  obtain ⟨W0, hW0⟩ : ∃ W0, W0 = (((w.alloc (.cells #[.int .i64 t.f, .int .i64 t.v, .slice a t.kids.length c] 28)).alloc (.cells #[.int .i64 v] 3)).alloc (.cells #[.int .i64 0] 3)).alloc (.cells #[.int .i64 t.f, .int .i64 t.v, .slice a t.kids.length c] 28) := ⟨_, rfl⟩
  have hB0 : Below w.heap.size w W0 := by rw [hW0]; exact ((((Below.refl _ _).alloc (Nat.le_refl _) _).alloc (by simp) _).alloc (by simp; omega) _).alloc (by simp; omega) _
  have hz : W0.heap.size = w.heap.size + 1 + 1 + 1 + 1 := by rw [hW0]; simp
  have v0 : W0.cell? ⟨w.heap.size + 1, 0, none⟩ = some (.int .i64 v) := by rw [hW0]; simp [go_sem]
  have n0 : W0.cell? ⟨w.heap.size + 1 + 1, 0, none⟩ = some (.int .i64 0) := by rw [hW0]; simp [go_sem]
  have f0 : W0.frozen? ⟨w.heap.size + 1 + 1, 0, none⟩ = false := by rw [hW0]; simp [go_sem]
  have t0 : W0.cell? ⟨w.heap.size + 1 + 1 + 1, 0, none⟩ = some (.int .i64 t.f) := by rw [hW0]; simp [go_sem]
  have t1 : W0.cell? ⟨w.heap.size + 1 + 1 + 1, 1, none⟩ = some (.int .i64 t.v) := by rw [hW0]; simp [go_sem]
  have t2 : W0.cell? ⟨w.heap.size + 1 + 1 + 1, 2, none⟩ = some (.slice a t.kids.length c) := by rw [hW0]; simp [go_sem]
  rw [← hW0]
  clear hW0
  refine wpIn_rangeFunc_priv rfl (by omega) (gf := 77) (lb := #[.pointer (some ⟨w.heap.size + 1 + 1 + 1, 0, none⟩)]) rfl trivial (enters_of Try.func77 (by kernel_rfl) rfl)
    (within_seq Fence.wide 4 trivial rfl (by omega) W0 t a c hi w.heap.size (w.heap.size + 1 + 1 + 1) hp hc (hr.on (hB0.mono hhi)) hhi hB0.size t0 t1 t2) hB0.size (Below.refl _ _) (fun _ => rfl)
    (fun pre S W => CInv w W0 v pre S W) (fun _ _ _ _ => False) (fun pre S A B h hs => h.stay hs)
    (fun _ _ _ _ _ h _ => h) (fun pre S A h => h.hi) (fun k => k < W0.heap.size) (fun _ h => h) ⟨fun _ h => h, fun _ h => h, v0, by simpa [cntP] using n0, f0, hB0, by omega⟩
    (fun pre x S a₁ W => CInv w W0 v pre S W ∧ ∃ Bx, BoxEl x Bx S W ∧ a₁ = { tmps := #[.agg #[.int .i64 t.f, .int .i64 t.v, .slice a t.kids.length c], .int .i64 v, .pointer (some ⟨w.heap.size, 0, none⟩), .pointer (some ⟨w.heap.size + 1, 0, none⟩), .int .i64 0, .pointer (some ⟨w.heap.size + 1 + 1, 0, none⟩), .pointer (some ⟨Bx, 0, none⟩), undef, undef, .agg #[.int .i64 t.f, .int .i64 t.v, .slice a t.kids.length c], .func (.func 77) #[] #[.pointer (some ⟨w.heap.size + 1 + 1 + 1, 0, none⟩)], .agg #[.int .i64 x.t.f, .int .i64 x.t.v, .slice x.a x.t.kids.length x.c], undef, undef, undef, undef, undef, undef, undef, undef, undef, undef, undef, undef, undef, undef], defers := [] })
    (fun pre x S a₁ A B h hs => by
      obtain ⟨h1, Bx, h2, h3⟩ := h
      exact ⟨h1.stay hs, Bx, h2.stay hs, h3⟩)
    ?assign ?body ?done ?stop
  case assign =>
    intro l pre x S W K hi hlen hok hK
    dsimp only [El.enc]
    gi_wp2
    refine hK _ (fun k => S k ∨ k = W.heap.size) _ ⟨hi.alloc _, W.heap.size, ⟨.inr rfl, ?_, ?_, ?_⟩, by simp⟩ (fun k h => h.imp id (fun e => by omega)) (.alloc _ _ _)
    all_goals simp [go_sem]
  case body =>
    rintro l pre x S a₁ W ⟨h, Bx, hx, rfl⟩ hlen hok
    have hv := h.v
    have hn := h.n
    have hf := h.f
    have x0 := hx.c0
    have x1 := hx.c1
    have x2 := hx.c2
    have hcl : (cntP v (pre.map El.t) : Int) < 4194304 := by have := cntP_le v (pre.map El.t); simp at this; omega
    have hcn := cntP_snoc v pre x
    have C := variableOf_any x.t x.a x.t.kids.length x.c W
    have fin0 : ∀ w1, Below W.heap.size W w1 → cntP v ((pre ++ [x]).map El.t) = cntP v (pre.map El.t) → CInv w W0 v (pre ++ [x]) S w1 := fun w1 hb e => by
      have h1 := h.stay (.of_below hb (fun _ hk _ => hk))
      exact ⟨h1.lo, h1.hi, h1.v, by rw [e]; exact h1.n, h1.f, h1.b, h1.z⟩
    have fin1 : ∀ w1, Below W.heap.size W w1 → cntP v ((pre ++ [x]).map El.t) = cntP v (pre.map El.t) + 1 → CInv w W0 v (pre ++ [x]) S (w1.setCell ⟨w.heap.size + 1 + 1, 0, none⟩ (.int .i64 (cntP v (pre.map El.t) + 1))) := fun w1 hb e => by
      have h1 := h.stay (.of_below hb (fun _ hk _ => hk))
      refine ⟨h1.lo, fun k hk => by simpa using h1.hi k hk, ?_, ?_, ?_, h1.b.setCell (p := ⟨w.heap.size + 1 + 1, 0, none⟩) (by simp; omega) _, h1.z⟩
      · exact (World.cell?_of_block (Below.heap_setCell _ _ _ _ (by simp))).trans h1.v
      · rw [e, World.cell?_setCell_same' _ _ _ (by rw [h1.n]; rfl)]; simp
      · rw [World.frozen?_setCell]; exact h1.f
    have st1 : ∀ w1, Below W.heap.size W w1 → Stay (fun k => k < w.heap.size ∨ ¬ S k) W w1 := fun w1 hb => .of_below hb (fun _ hk _ => hk)
    have hbox : S (w.heap.size + 1 + 1) := h.lo _ h.z
    have st2 : ∀ w1 u, Below W.heap.size W w1 → Stay (fun k => k < w.heap.size ∨ ¬ S k) W (w1.setCell ⟨w.heap.size + 1 + 1, 0, none⟩ u) := fun w1 u hb => (st1 w1 hb).trans (.setCell _ _ (fun h => h.elim (fun h => by simp only at h; omega) (fun h => h hbox)))
    have F0 : Hid _ := fin0
    have F1 : Hid _ := fin1
    have S1 : Hid _ := st1
    have S2 : Hid _ := st2
    clear fin0 fin1 st1 st2 h hx
    cases hvb : vofB x.t with
    | false =>
      rw [hvb] at C
      have HC : Hid (cntP v ((pre ++ [x]).map El.t) = cntP v (pre.map El.t)) := by show _ = _; rw [hcn, hvb]; simp
      clear hcn hvb
      gi_wp2_with (refine ⟨trivial, ?_⟩; gi_at_call 68; refine (CallsIn.inRound l (callsIn_wide.2 C)).mono ?_; rintro e w1 ⟨rfl, hb1⟩; clear C; have hv := keepC hb1 hv; have hn := keepC hb1 hn; have hf := (hb1.frozen (p := ⟨w.heap.size + 1 + 1, 0, none⟩) (World.block_lt_of_cell? _ _ ‹W.cell? ⟨w.heap.size + 1 + 1, 0, none⟩ = _›)).trans hf)
      exact ⟨S, F0.out w1 hb1 HC.out, fun k h => .inl h, S1.out w1 hb1⟩
    | true =>
      rw [hvb] at C
      by_cases hvv : vofI x.t = v
      · have HC : Hid (cntP v ((pre ++ [x]).map El.t) = cntP v (pre.map El.t) + 1) := by show _ = _; rw [hcn, hvb]; simp [hvv]
        clear hcn hvb
        gi_wp2_with (refine ⟨trivial, ?_⟩; gi_at_call 68; refine (CallsIn.inRound l (callsIn_wide.2 C)).mono ?_; rintro e w1 ⟨rfl, hb1⟩; clear C; have hv := keepC hb1 hv; have hn := keepC hb1 hn; have hf := (hb1.frozen (p := ⟨w.heap.size + 1 + 1, 0, none⟩) (World.block_lt_of_cell? _ _ ‹W.cell? ⟨w.heap.size + 1 + 1, 0, none⟩ = _›)).trans hf)
        exact ⟨S, F1.out w1 hb1 HC.out, fun k h => .inl h, S2.out w1 _ hb1⟩
      · have hve : (vofI x.t == v) = false := by simp [hvv]
        have HC : Hid (cntP v ((pre ++ [x]).map El.t) = cntP v (pre.map El.t)) := by show _ = _; rw [hcn]; simp [hvv]
        clear hcn hvb hvv
        gi_wp2_with (refine ⟨trivial, ?_⟩; gi_at_call 68; refine (CallsIn.inRound l (callsIn_wide.2 C)).mono ?_; rintro e w1 ⟨rfl, hb1⟩; clear C; have hv := keepC hb1 hv; have hn := keepC hb1 hn; have hf := (hb1.frozen (p := ⟨w.heap.size + 1 + 1, 0, none⟩) (World.block_lt_of_cell? _ _ ‹W.cell? ⟨w.heap.size + 1 + 1, 0, none⟩ = _›)).trans hf)
        exact ⟨S, F0.out w1 hb1 HC.out, fun k h => .inl h, S1.out w1 hb1⟩
  case done =>
    rintro D xs S W hxs h hK hD hSD
    have h3 := h.n
    have h5 := h.b
    rw [hxs, cntP_pre] at h3
    clear h
    gi_wp2
    refine ⟨by simp, .inl ⟨_, _, rfl, run_takeDeferred hK, ?_⟩⟩
    exact ⟨_, results_tmp rfl _ _ _, rfl, h5.trans ((Stay.putObj (S := fun k => k < w.heap.size) W _ (by omega)).below h5.size (fun _ h => h))⟩
  case stop =>
    rintro D c pre S W _ h
    exact h.elim
end Go.Proofs.Ytkecnljdloffdab

/- Plain facts on lists of whole numbers: what a loop over a list has seen so far. Conditions: none. -/
namespace Go.Proofs.Ytkecnljdloffdab
set_option maxRecDepth 100000
open Go.RowKit

/-- Whether x is in the list. -/
def hasB (zs : List Int) (x : Int) : Bool := zs.any (fun y => y == x)

theorem take_snoc {zs : List Int} {k : Nat} (h : k < zs.length) : zs.take (k + 1) = zs.take k ++ [zs[k]] :=
  List.take_succ_eq_append_getElem h

theorem hasB_hit {zs : List Int} {k : Nat} {x : Int} (h : k < zs.length) (e : (zs[k] == x) = true) : hasB zs x = true := by
  unfold hasB
  rw [List.any_eq_true]
  exact ⟨zs[k], List.getElem_mem h, e⟩

theorem hasB_step {zs : List Int} {k : Nat} {x : Int} (h : k < zs.length) (e0 : hasB (zs.take k) x = false) (e : (zs[k] == x) = false) : hasB (zs.take (k + 1)) x = false := by
  unfold hasB at *
  rw [take_snoc h, List.any_append, e0]
  simpa using e

theorem hasB_all {zs : List Int} {k : Nat} {x : Int} (h : ¬ k < zs.length) (e0 : hasB (zs.take k) x = false) : hasB zs x = false := by
  rwa [List.take_of_length_le (by omega)] at e0

/-- Whether two lists are the same. -/
def eqB (zs ys : List Int) : Bool := zs == ys

theorem eqB_self (zs : List Int) : eqB zs zs = true := by simp [eqB]
theorem eqB_len {zs ys : List Int} (h : ¬ zs.length = ys.length) : eqB zs ys = false := by
  simp only [eqB, beq_eq_false_iff_ne]; intro e; exact h (by rw [e])
theorem eqB_hit {zs ys : List Int} {k : Nat} (h : k < zs.length) (h' : k < ys.length) (e : (zs[k] != ys[k]) = true) : eqB zs ys = false := by
  simp only [eqB, beq_eq_false_iff_ne]; intro e'; subst e'; simp at e
theorem eqB_step {zs ys : List Int} {k : Nat} (h : k < zs.length) (h' : k < ys.length) (e0 : zs.take k = ys.take k) (e : (zs[k] != ys[k]) = false) : zs.take (k + 1) = ys.take (k + 1) := by
  have e' : zs[k] = ys[k] := by simpa using e
  rw [take_snoc h, take_snoc h', e0, e']
theorem eqB_all {zs ys : List Int} {k : Nat} (h : ¬ k < zs.length) (hl : zs.length = ys.length) (e0 : zs.take k = ys.take k) : eqB zs ys = true := by
  rw [List.take_of_length_le (by omega), List.take_of_length_le (by omega)] at e0
  rw [e0]; exact eqB_self _

/-- The slice value that begins at 'a' reads in w as the numbers zs: it is empty, or it leads to their cells. -/
def Rd (w : World) (a : Option Addr) (zs : List Int) : Prop :=
  zs = [] ∨ ∃ b off, a = some ⟨b, off, none⟩ ∧ b < w.heap.size ∧ ∀ i, i < zs.length → w.cell? ⟨b, off + i, none⟩ = some (.int .i64 (zs[i]?.getD 0))

theorem Rd.below {w w' : World} {a : Option Addr} {zs : List Int} (h : Rd w a zs) (hb : Below w.heap.size w w') : Rd w' a zs := by
  rcases h with h | ⟨b, off, rfl, hlt, hc⟩
  · exact .inl h
  · exact .inr ⟨b, off, rfl, Nat.lt_of_lt_of_le hlt hb.size, fun i hi => (hb.cell (p := ⟨b, off + i, none⟩) hlt).trans (hc i hi)⟩

theorem Rd.drewN {w : World} {a : Option Addr} {zs : List Int} (h : Rd w a zs) (n : Nat) : Rd (w.drewN n) a zs := by
  rcases h with h | ⟨b, off, rfl, hlt, hc⟩
  · exact .inl h
  · exact .inr ⟨b, off, rfl, hlt, fun i hi => hc i hi⟩

/-- The cells of a list of numbers. -/
def ints (zs : List Int) : List Value := zs.map (Value.int .i64)

theorem copy_step {zs : List Int} {k : Nat} (h : k < zs.length) :
    (ints (zs.take k) ++ List.replicate (zs.length - k) (Value.int .i64 0)).set k (.int .i64 zs[k]) = ints (zs.take (k + 1)) ++ List.replicate (zs.length - (k + 1)) (Value.int .i64 0) := by
  have e : zs.length - k = (zs.length - (k + 1)) + 1 := by omega
  have l : (ints (zs.take k)).length = k := by simp [ints]; omega
  rw [List.set_append, if_neg (by omega), l, Nat.sub_self, e, List.replicate_succ, List.set_cons_zero, take_snoc h]
  simp only [ints, List.map_append, List.map_cons, List.map_nil, List.append_assoc, List.cons_append, List.nil_append]

theorem copy_at {zs : List Int} {k : Nat} (h : k < zs.length) : (ints (zs.take k) ++ List.replicate (zs.length - k) (Value.int .i64 0))[k]? = some (.int .i64 0) := by
  have l : (ints (zs.take k)).length = k := by simp [ints]; omega
  rw [List.getElem?_append_right (by omega), l, Nat.sub_self, List.getElem?_replicate, if_pos (by omega)]

theorem made_zero (n : Nat) : (madeCells #[Value.int .i64 0] n).toList = List.replicate n (Value.int .i64 0) := by
  apply List.ext_getElem
  · simp [madeCells]
  · intro i h1 h2
    simp [madeCells, Nat.mod_one]

theorem Rd.own {w : World} {base g cap : Nat} {zs : List Int} {n : Nat} (hn : n = zs.length) (h : w.ownsRow base 3 1 (.slice (some ⟨g, 0, none⟩) n cap) n (ints zs)) : Rd w (some ⟨g, 0, none⟩) zs := by
  subst hn
  refine .inr ⟨g, 0, rfl, (h.lt g rfl).2, fun i hi => ?_⟩
  rw [show (0 + i) = i by omega, h.cellAt i (by omega)]
  simp [ints, hi]
end Go.Proofs.Ytkecnljdloffdab

/- Plain facts on a number put into a list where it comes by its size, and on lists that count up. Conditions: none. -/
namespace Go.Proofs.Ytkecnljdloffdab
set_option maxRecDepth 100000
open Go.RowKit

/-- x put into zs where it comes by its size, once. -/
def ins (zs : List Int) (x : Int) : List Int :=
  if hasB zs x = true then zs else zs.takeWhile (fun y => decide (y < x)) ++ x :: zs.dropWhile (fun y => decide (y < x))

/-- One round of the program's own loop: what it has laid out, and whether x is placed. -/
def stepI (x : Int) (s : List Int × Bool) (y : Int) : List Int × Bool :=
  if (!s.2 && decide (x < y)) = true then (s.1 ++ [x] ++ [y], true) else (s.1 ++ [y], s.2)

theorem fold_placed (x : Int) : ∀ (l o : List Int), l.foldl (stepI x) (o, true) = (o ++ l, true)
  | [], o => by simp
  | y :: l, o => by rw [List.foldl_cons, show stepI x (o, true) y = (o ++ [y], true) from by simp [stepI], fold_placed x l]; simp

theorem fold_new (x : Int) : ∀ (l o : List Int), hasB l x = false →
    (let r := l.foldl (stepI x) (o, false); if r.2 = true then r.1 else r.1 ++ [x]) = o ++ (l.takeWhile (fun y => decide (y < x)) ++ x :: l.dropWhile (fun y => decide (y < x)))
  | [], o, _ => by simp
  | y :: l, o, h => by
    have hy : ¬ y = x := by intro e; simp [hasB, e] at h
    have hl : hasB l x = false := by simp [hasB] at h ⊢; exact h.2
    rw [List.foldl_cons]
    by_cases hxy : x < y
    · rw [show stepI x (o, false) y = (o ++ [x] ++ [y], true) from by simp [stepI, hxy], fold_placed]
      have : ¬ y < x := by omega
      simp [this]
    · rw [show stepI x (o, false) y = (o ++ [y], false) from by simp [stepI, hxy], fold_new x l (o ++ [y]) hl]
      have : y < x := by omega
      simp [this]

/-- What the program's loop has made of the first k numbers. -/
def made (zs : List Int) (x : Int) (k : Nat) : List Int × Bool := (zs.take k).foldl (stepI x) ([], hasB zs x)

theorem made_zero_ (zs : List Int) (x : Int) : made zs x 0 = ([], hasB zs x) := rfl
theorem made_succ {zs : List Int} {x : Int} {k : Nat} (h : k < zs.length) : made zs x (k + 1) = stepI x (made zs x k) zs[k] := by
  unfold made; rw [take_snoc h, List.foldl_append]; rfl
theorem made_put {zs : List Int} {x : Int} {k : Nat} (h : k < zs.length) (hp : (made zs x k).2 = false) (hx : x < zs[k]) :
    (made zs x (k + 1)).1 = (made zs x k).1 ++ [x] ++ [zs[k]] ∧ (made zs x (k + 1)).2 = true := by
  rw [made_succ h]; simp [stepI, hp, hx]
theorem made_not {zs : List Int} {x : Int} {k : Nat} (h : k < zs.length) (hp : (made zs x k).2 = true ∨ ¬ x < zs[k]) :
    (made zs x (k + 1)).1 = (made zs x k).1 ++ [zs[k]] ∧ (made zs x (k + 1)).2 = (made zs x k).2 := by
  rw [made_succ h]
  rcases hp with hp | hp <;> simp [stepI, hp]
theorem made_len (zs : List Int) (x : Int) : ∀ k, k ≤ zs.length → ((made zs x k).1.length = k ∨ ((made zs x k).1.length = k + 1 ∧ (made zs x k).2 = true))
  | 0, _ => .inl rfl
  | k + 1, h => by
    have ih := made_len zs x k (by omega)
    rw [made_succ (by omega)]
    by_cases c : (!(made zs x k).2 && decide (x < zs[k])) = true
    · simp only [stepI, c, if_true]
      simp at c
      rcases ih with ih | ⟨_, ih⟩
      · right; simp [ih]
      · simp [ih] at c
    · have e : stepI x (made zs x k) zs[k] = ((made zs x k).1 ++ [zs[k]], (made zs x k).2) := by
        rw [stepI, if_neg c]
      rw [e]
      rcases ih with ih | ⟨ih, ih'⟩
      · left; simp [ih]
      · right; simp [ih, ih']
theorem made_end (zs : List Int) (x : Int) : (if (made zs x zs.length).2 = true then (made zs x zs.length).1 else (made zs x zs.length).1 ++ [x]) = ins zs x := by
  unfold made ins
  rw [List.take_length]
  by_cases h : hasB zs x = true
  · rw [if_pos h, h, fold_placed]; simp
  · have h' : hasB zs x = false := by simpa using h
    rw [if_neg h, h']
    exact fold_new x zs [] h'

theorem ins_len (zs : List Int) (x : Int) : (ins zs x).length ≤ zs.length + 1 := by
  unfold ins
  split
  · omega
  · rw [List.length_append, List.length_cons]
    have h : (zs.takeWhile (fun y => decide (y < x)) ++ zs.dropWhile (fun y => decide (y < x))).length = zs.length := by rw [List.takeWhile_append_dropWhile]
    rw [List.length_append] at h
    omega

/-- Where the first number that is not less than x stands, once all ahead of k are less and that at k is not. -/
theorem ins_at {zs : List Int} {x : Int} {k : Nat} (hk : k ≤ zs.length) (h0 : hasB zs x = false) (hlt : ∀ j, (h : j < zs.length) → j < k → zs[j] < x) (hge : ∀ h : k < zs.length, ¬ zs[k] < x) :
    ins zs x = zs.take k ++ [x] ++ zs.drop k := by
  have e : zs = zs.take k ++ zs.drop k := (List.take_append_drop k zs).symm
  have a1 : (zs.take k).all (fun y => decide (y < x)) = true := by
    rw [List.all_eq_true]
    intro y hy
    obtain ⟨j, hj, rfl⟩ := List.getElem_of_mem hy
    rw [List.length_take] at hj
    rw [List.getElem_take]
    simpa using hlt j (by omega) (by omega)
  have t1 : zs.takeWhile (fun y => decide (y < x)) = zs.take k ∧ zs.dropWhile (fun y => decide (y < x)) = zs.drop k := by
    have g : ∀ (l r : List Int), l.all (fun y => decide (y < x)) = true → (∀ h : 0 < r.length, ¬ r[0] < x) → (l ++ r).takeWhile (fun y => decide (y < x)) = l ∧ (l ++ r).dropWhile (fun y => decide (y < x)) = r := by
      intro l r hl hr
      induction l with
      | nil =>
        cases r with
        | nil => exact ⟨rfl, rfl⟩
        | cons y r => have := hr (by simp); simp at this; have h' : ¬ y < x := by omega
                      simp [h']
      | cons y l ih =>
        simp at hl
        have := ih (by simpa using hl.2)
        simp [hl.1, this]
    have := g (zs.take k) (zs.drop k) a1 (by
      intro h
      rw [List.getElem_drop]
      simp at h
      exact hge (by omega))
    rwa [← e] at this
  unfold ins
  rw [if_neg (by simp [h0]), t1.1, t1.2]
  simp

/-- n numbers from k on, each one more. -/
def upFrom (k : Int) (n : Nat) : List Int := (List.range n).map (fun j : Nat => k + (j : Int))
theorem upFrom_len (k : Int) (n : Nat) : (upFrom k n).length = n := by simp [upFrom]
theorem upFrom_at (k : Int) (n j : Nat) (h : j < n) : (upFrom k n)[j]? = some (k + (j : Int)) := by simp [upFrom, h]
theorem upFrom_get (k : Int) (n j : Nat) (h : j < (upFrom k n).length) : (upFrom k n)[j] = k + (j : Int) := by simp [upFrom]
theorem upFrom_succ (k : Int) (n : Nat) : upFrom k (n + 1) = upFrom k n ++ [k + (n : Int)] := by simp [upFrom, List.range_succ]
theorem mark_step {zs : List Int} {k : Int} {j : Nat} (h : j < zs.length) : (ints (upFrom k j) ++ (ints zs).drop j).set j (.int .i64 (k + (j : Int))) = ints (upFrom k (j + 1)) ++ (ints zs).drop (j + 1) := by
  have l : (ints (upFrom k j)).length = j := by simp [ints, upFrom]
  have d : (ints zs).drop j = (ints zs)[j]'(by simpa [ints] using h) :: (ints zs).drop (j + 1) := List.drop_eq_getElem_cons _
  rw [List.set_append, if_neg (by omega), l, Nat.sub_self, d, List.set_cons_zero, upFrom_succ]
  simp only [ints, List.map_append, List.map_cons, List.map_nil, List.append_assoc, List.cons_append, List.nil_append]
theorem mark_at {zs : List Int} {k : Int} {j : Nat} (h : j < zs.length) : ∃ u, (ints (upFrom k j) ++ (ints zs).drop j)[j]? = some (.int .i64 u) := by
  have l : (ints (upFrom k j)).length = j := by simp [ints, upFrom]
  refine ⟨zs[j], ?_⟩
  rw [List.getElem?_append_right (by omega), l, Nat.sub_self, List.getElem?_drop]
  simp [ints, h]

/-- What is owned stays owned where no old block turns. -/
theorem own_below {w w' : World} {base : Nat} {e : TypeId} {size : Nat} {v : Value} {n : Nat} {xs : List Value} (h : w.ownsRow base e size v n xs) (hb : Below w.heap.size w w') : w'.ownsRow base e size v n xs := by
  have hl := h.lt
  obtain ⟨h1, h2⟩ := h
  refine ⟨h1, ?_⟩
  rcases h2 with h2 | ⟨g, cap, cur, rfl, hg, hh, r⟩
  · exact .inl h2
  · exact .inr ⟨g, cap, cur, rfl, hg, by rw [hb.block g (hl g rfl).2]; exact hh, r⟩
end Go.Proofs.Ytkecnljdloffdab

/- Contracts of the specification's NumIn and NumAdd, and of the program's NumAdd: a number in a list, and put into it. Conditions: at most 1048577 numbers. -/
namespace Go.Proofs.Ytkecnljdloffdab
set_option maxRecDepth 100000
open Go.RowKit

theorem one_new (w : World) (u : Value) (t : TypeId) : ∀ j v, [u][j]? = some v → (w.alloc (.cells #[u] t)).cell? ((⟨w.heap.size, 0, none⟩ : Addr).add j) = some v := by
  intro j v hj
  match j, hj with
  | 0, hj => simp at hj; subst hj; simp [Addr.add]
  | j + 1, hj => simp at hj
theorem one_cell (n : Int) : ∀ u ∈ [Value.int .i64 n], u.oneCell' = true := by
  intro u hu; simp at hu; subst hu; rfl
theorem own_some {w : World} {base : Nat} {e : TypeId} {size : Nat} {v : Value} {n : Nat} {xs : List Value} {a : Addr} {m c : Nat} {q : Prop} (h : w.ownsRow base e size v n xs) (hv : v = .slice none 0 0 ↔ .slice (some a) m c = Value.slice none 0 0 ∧ q) : ∃ g c, v = .slice (some ⟨g, 0, none⟩) n c := by
  rcases h.2 with ⟨h, _⟩ | ⟨g, cap, _, rfl, _⟩
  · have := (hv.1 h).1; simp at this
  · exact ⟨g, cap, rfl⟩
theorem Try.info3 : (Try.prog.info? 3).map (fun i => (i.zero, i.size, i.bytes)) = some (some (.int .i64 0), 1, 8) := by kernel_rfl

set_option maxHeartbeats 400000 in
theorem specNumIn_any (a : Option Addr) (zs : List Int) (n cap : Nat) (x : Int) (w : World) (hn : n = zs.length) (hr : Rd w a zs) (hl : zs.length ≤ 1048577) :
    Calls Try.prog 91 #[.slice a n cap, .int .i64 x] w fun e w' => e = .returned (.bool (hasB zs x)) ∧ w' = w := by
  subst hn
  rcases hr with rfl | ⟨b, off, rfl, hlt, hc⟩
  · go_enter Try.func91, Try.ntmps91
    go_wp2
    refine wp_loop_rounds 1 ?_
    rw [rounds_succ]
    go_wp2
    go_ret
    exact ⟨rfl, rfl⟩
  · go_enter Try.func91, Try.ntmps91
    go_wp2
    go_loop [5] (fun i => ∃ k : Nat, k ≤ zs.length ∧ i = .int .i64 k ∧ hasB (zs.take k) x = false) (fun i => zs.length - (intOf i).toNat)
    case atStart => exact ⟨0, Nat.zero_le _, rfl, rfl⟩
    case round =>
      obtain ⟨k, hk, rfl, h0⟩ := hrel
      have H0 : Hid (hasB (zs.take k) x = false) := h0
      clear h0
      by_cases hk' : k < zs.length
      · have hck := hc k hk'
        go_wp2
        · go_ret
          exact ⟨rtB (hasB_hit hk' (by assumption)).symm, rfl⟩
        · go_round
          case rel => exact ⟨k + 1, by omega, by go_num, hasB_step hk' H0.out (by assumption)⟩
          case measure => simp [intOf]; omega
      · go_wp2
        go_ret
        exact ⟨rtB (hasB_all hk' H0.out).symm, rfl⟩

theorem own_one {w : World} {B g c : Nat} {o : List Int} {x : Int} (h : w.ownsRow B 3 1 (.slice (some ⟨g, 0, none⟩) (o.length + 1) c) (o.length + 1) (ints o ++ [.int .i64 x])) :
    w.ownsRow B 3 1 (.slice (some ⟨g, 0, none⟩) (o ++ [x]).length c) (o ++ [x]).length (ints (o ++ [x])) := by
  simpa [ints] using h
theorem own_two {w : World} {B g c : Nat} {o : List Int} {x y : Int} (h : w.ownsRow B 3 1 (.slice (some ⟨g, 0, none⟩) (o.length + 1 + 1) c) (o.length + 1 + 1) (ints o ++ [.int .i64 x] ++ [.int .i64 y])) :
    w.ownsRow B 3 1 (.slice (some ⟨g, 0, none⟩) (o ++ [x] ++ [y]).length c) (o ++ [x] ++ [y]).length (ints (o ++ [x] ++ [y])) := by
  simpa [ints] using h

theorem add_at (b off j : Nat) : (⟨b, off, none⟩ : Addr).add j = ⟨b, off + j, none⟩ := by
  by_cases h : j = 0 <;> simp [Addr.add, h]
theorem news_of {w : World} {b off : Nat} {l : List Int} (hc : ∀ i, i < l.length → w.cell? ⟨b, off + i, none⟩ = some (.int .i64 (l[i]?.getD 0))) : ∀ j u, (ints l)[j]? = some u → w.cell? ((⟨b, off, none⟩ : Addr).add j) = some u := by
  intro j u h
  have hj : j < l.length := by
    have := (List.getElem?_eq_some_iff.1 h).1
    simpa [ints] using this
  rw [add_at, hc j hj, ← h]
  simp [ints, hj]
theorem news_take {w W : World} {b : Nat} {zs : List Int} {k : Nat} (hlt : b < w.heap.size) (hc : ∀ i, i < zs.length → w.cell? ⟨b, 0 + i, none⟩ = some (.int .i64 (zs[i]?.getD 0))) (hb : Below w.heap.size w W) (o : Obj) :
    ∀ j u, (ints (zs.take k))[j]? = some u → (W.alloc o).cell? ((⟨b, 0, none⟩ : Addr).add j) = some u := by
  refine news_of (off := 0) fun i h => ?_
  rw [List.length_take] at h
  rw [(hb.alloc hb.size o).cell (p := ⟨b, 0 + i, none⟩) hlt, hc i (by omega), List.getElem?_take, if_pos (by omega)]
theorem news_drop {w W : World} {b : Nat} {zs : List Int} {k : Nat} (hlt : b < w.heap.size) (hc : ∀ i, i < zs.length → w.cell? ⟨b, 0 + i, none⟩ = some (.int .i64 (zs[i]?.getD 0))) (hb : Below w.heap.size w W) :
    ∀ j u, (ints (zs.drop k))[j]? = some u → W.cell? ((⟨b, k, none⟩ : Addr).add j) = some u := by
  refine news_of (off := k) fun i h => ?_
  rw [List.length_drop] at h
  have := hc (k + i) (by omega)
  rw [show 0 + (k + i) = k + i by omega] at this
  rw [hb.cell (p := ⟨b, k + i, none⟩) hlt, this, List.getElem?_drop]
theorem below_app {w w2 w3 : World} {g n c : Nat} {e : TypeId} {size : Nat} {xs : List Value} {o : Obj} (hb : Below w.heap.size w w2) (hown : w2.ownsRow w.heap.size e size (.slice (some ⟨g, 0, none⟩) n c) n xs) (hg : (w2.alloc o).grownBy w3 (some g)) : Below w.heap.size w w3 :=
  (hb.alloc hb.size o).grown hg (by have := hb.size; simp; omega) (fun k hk => by cases hk; exact (hown.lt g rfl).1)
theorem below_app' {w w2 w3 : World} {g n c : Nat} {e : TypeId} {size : Nat} {xs : List Value} (hb : Below w.heap.size w w2) (hown : w2.ownsRow w.heap.size e size (.slice (some ⟨g, 0, none⟩) n c) n xs) (hg : w2.grownBy w3 (some g)) : Below w.heap.size w w3 :=
  hb.grown hg hb.size (fun k hk => by cases hk; exact (hown.lt g rfl).1)
theorem own_cap {w : World} {base : Nat} {e : TypeId} {size g n c : Nat} {xs : List Value} (h : w.ownsRow base e size (.slice (some ⟨g, 0, none⟩) n c) n xs) : n ≤ c := by
  rcases h.2 with ⟨h, _⟩ | ⟨g', cap, _, h, _, _, hn, _⟩
  · simp at h
  · simp at h; omega
theorem ints_one (l : List Int) : ∀ u ∈ ints l, u.oneCell' = true := by
  intro u hu; simp [ints] at hu; obtain ⟨n, _, rfl⟩ := hu; rfl
set_option maxRecDepth 100000 in
set_option maxHeartbeats 1600000 in
theorem specNumAdd_any (b : Nat) (zs : List Int) (n cap : Nat) (x : Int) (w : World) (hn : n = zs.length) (hcap : n ≤ cap) (hlt : b < w.heap.size) (hc : ∀ i, i < zs.length → w.cell? ⟨b, 0 + i, none⟩ = some (.int .i64 (zs[i]?.getD 0))) (hl : zs.length ≤ 1048577) :
    Calls Try.prog 74 #[.slice (some ⟨b, 0, none⟩) n cap, .int .i64 x] w fun e w' => ∃ g c, e = .returned (.slice (some ⟨g, 0, none⟩) (ins zs x).length c) ∧ w'.ownsRow w.heap.size 3 1 (.slice (some ⟨g, 0, none⟩) (ins zs x).length c) (ins zs x).length (ints (ins zs x)) ∧ Below w.heap.size w w' := by
  subst hn
  obtain ⟨i0, hi, hz0, hz1, hz2⟩ := info_parts Try.info3
  have H := specNumIn_any (some ⟨b, 0, none⟩) zs _ cap x w rfl (.inr ⟨b, 0, rfl, hlt, hc⟩) hl
  by_cases hh : hasB zs x = true
  · rw [hh] at H
    go_enter Try.func74, Try.ntmps74
    have hN := news_of (off := 0) (l := zs) (w := w.alloc (.cells #[] 3)) (fun i h => ((((Below.refl w.heap.size w).alloc (Nat.le_refl _) _).cell (p := ⟨b, 0 + i, none⟩) hlt).trans (hc i h)))
    clear hc
    go_wp2_with (first
      | (go_at_call 91; refine H.mono ?_; rintro e w' ⟨rfl, hw⟩; subst w'; clear H)
      | (at_builtin; refine wpList_append_own _ rfl (.tmp 10) (.tmp 11) 60 rfl w.heap.size 3 i0 (.int .i64 0) 1 8 Try.underlying60 hi hz0 hz1 hz2 rfl (by decide) _ 0 [] rfl (World.ownsRow_made w #[] 0 (Nat.le_refl _) (Nat.zero_le _) rfl) ⟨b, 0, none⟩ zs.length cap (ints zs) rfl (by simp [ints]) hN (ints_one zs) (by unfold maxLen; omega) (by omega) (by simp) ?_; intro v' w2 hown2 hgrow2 hnil2; obtain ⟨g, c, rfl⟩ := own_some hown2 hnil2; have hg2 : (w.alloc (.cells #[] 3)).grownBy w2 (some w.heap.size) := hgrow2; clear hnil2 hN hgrow2; simp only [Nat.zero_add, List.nil_append] at hown2 ⊢))
    go_ret
    have e : ins zs x = zs := by simp [ins, hh]
    rw [e]
    exact ⟨g, c, rfl, hown2, ((Below.refl w.heap.size w).alloc (Nat.le_refl _) _).grown hg2 (by simp) (by simp)⟩
  · have hh' : hasB zs x = false := by simpa using hh
    rw [hh'] at H
    have HH : Hid (hasB zs x = false) := hh'
    clear hh hh'
    go_enter Try.func74, Try.ntmps74
    go_wp2_with (go_at_call 91; refine H.mono ?_; rintro e w' ⟨rfl, hw⟩; subst w'; clear H)
    go_loop [5] (fun i => ∃ k : Nat, k ≤ zs.length ∧ i = .int .i64 k ∧ Hid (∀ j, (h : j < zs.length) → j < k → zs[j] < x)) (fun i => zs.length - (intOf i).toNat)
    case atStart => exact ⟨0, Nat.zero_le _, rfl, fun j _ hj => absurd hj (by omega)⟩
    case round =>
      obtain ⟨k, hk, rfl, HL⟩ := hrel
      by_cases hgo : ∃ h : k < zs.length, zs[k] < x
      · obtain ⟨hk', hlx⟩ := hgo
        have hck : w.cell? ⟨b, k, none⟩ = some (.int .i64 zs[k]) := by have := hc k hk'; simpa [hk'] using this
        have HL' : Hid (∀ j, (h : j < zs.length) → j < k + 1 → zs[j] < x) := by
          intro j h hj
          by_cases e : j = k
          · subst e; exact hlx
          · exact HL.out j h (by omega)
        clear hc
        go_wp2
        go_round
        case rel => exact ⟨k + 1, by omega, by go_num, HL'⟩
        case measure => simp [intOf]; omega
      · have HI := ins_at hk HH.out HL.out (fun h hx => hgo ⟨h, hx⟩)
        have HIH : Hid (ins zs x = zs.take k ++ [x] ++ zs.drop k) := HI
        clear HI HL
        by_cases hk' : k < zs.length
        · have hlx : ¬ zs[k] < x := fun h => hgo ⟨hk', h⟩
          have hck : w.cell? ⟨b, k, none⟩ = some (.int .i64 zs[k]) := by have := hc k hk'; simpa [hk'] using this
          have hN1 := news_take (k := k) hlt hc (Below.refl w.heap.size w) (.cells #[] 3)
          have hD := fun W (hW : Below w.heap.size w W) => news_drop (k := k) hlt hc hW
          clear hgo hc
          go_wp2_with (first
            | (at_builtin; refine wpList_append_own _ rfl (.tmp 27) (.tmp 30) 60 rfl w.heap.size 3 i0 (.int .i64 0) 1 8 Try.underlying60 hi hz0 hz1 hz2 rfl (by decide) _ 0 [] rfl (World.ownsRow_made w #[] 0 (Nat.le_refl _) (Nat.zero_le _) rfl) ⟨b, 0, none⟩ k cap (ints (zs.take k)) rfl (by simp [ints]; omega) hN1 (ints_one _) (by unfold maxLen; omega) (by omega) (by simp) ?_; intro v' w2 hown2 hgrow2 hnil2; obtain ⟨g, c, rfl⟩ := own_some hown2 hnil2; have hb2 : Below w.heap.size w w2 := ((Below.refl w.heap.size w).alloc (Nat.le_refl _) (.cells #[] 3)).grown (row := some w.heap.size) hgrow2 (by simp) (by simp); clear hnil2 hN1 hgrow2; simp only [Nat.zero_add, List.nil_append] at hown2 ⊢)
            | (at_builtin; refine wpList_append_own _ rfl (.tmp 32) (.tmp 34) 60 rfl w.heap.size 3 i0 (.int .i64 0) 1 8 Try.underlying60 hi hz0 hz1 hz2 rfl (by decide) _ k _ rfl (hown2.alloc _) ⟨w2.heap.size, 0, none⟩ 1 1 [.int .i64 x] rfl rfl (one_new _ _ _) (one_cell _) (by unfold maxLen; omega) (by omega) (by have := hb2.size; simp; omega) ?_; intro v3 w3 hown3 hgrow3 hnil3; obtain ⟨g3, c3, rfl⟩ := own_some hown3 hnil3; have hb3 := below_app hb2 hown2 hgrow3; clear hnil3 hgrow3 hown2 hb2)
            | (at_builtin; refine wpList_append_own _ rfl (.tmp 36) (.tmp 39) 60 rfl w.heap.size 3 i0 (.int .i64 0) 1 8 Try.underlying60 hi hz0 hz1 hz2 rfl (by decide) _ (k + 1) _ rfl hown3 ⟨b, k, none⟩ (zs.length - k) (cap - k) (ints (zs.drop k)) rfl (by simp [ints]) (hD w3 hb3) (ints_one _) (by unfold maxLen; omega) (by omega) hb3.size ?_; intro v4 w4 hown4 hgrow4 hnil4; obtain ⟨g4, c4, rfl⟩ := own_some hown4 hnil4; have hb4 := below_app' hb3 hown3 hgrow4; clear hnil4 hgrow4 hown3 hb3 hD))
          go_ret
          have HE := HIH.out
          have hlen : (ins zs x).length = k + 1 + (zs.length - k) := by rw [HE]; simp; omega
          have hin : ints (ins zs x) = ints (zs.take k) ++ [Value.int .i64 x] ++ ints (zs.drop k) := by rw [HE]; simp [ints]
          rw [hlen, hin]
          exact ⟨g4, c4, rfl, hown4, hb4⟩
        · have e : k = zs.length := by omega
          subst e
          have hN1 := news_of (off := 0) (l := zs) (w := w.alloc (.cells #[] 3)) (fun i h => ((((Below.refl w.heap.size w).alloc (Nat.le_refl _) _).cell (p := ⟨b, 0 + i, none⟩) hlt).trans (hc i h)))
          clear hgo hc hk' hk
          go_wp2_with (first
            | (at_builtin; refine wpList_append_own _ rfl (.tmp 27) (.tmp 30) 60 rfl w.heap.size 3 i0 (.int .i64 0) 1 8 Try.underlying60 hi hz0 hz1 hz2 rfl (by decide) _ 0 [] rfl (World.ownsRow_made w #[] 0 (Nat.le_refl _) (Nat.zero_le _) rfl) ⟨b, 0, none⟩ zs.length cap (ints zs) rfl (by simp [ints]) hN1 (ints_one _) (by unfold maxLen; omega) (by omega) (by simp) ?_; intro v' w2 hown2 hgrow2 hnil2; obtain ⟨g, c, rfl⟩ := own_some hown2 hnil2; have hb2 : Below w.heap.size w w2 := ((Below.refl w.heap.size w).alloc (Nat.le_refl _) (.cells #[] 3)).grown (row := some w.heap.size) hgrow2 (by simp) (by simp); clear hnil2 hN1 hgrow2; simp only [Nat.zero_add, List.nil_append] at hown2 ⊢)
            | (at_builtin; refine wpList_append_own _ rfl (.tmp 32) (.tmp 34) 60 rfl w.heap.size 3 i0 (.int .i64 0) 1 8 Try.underlying60 hi hz0 hz1 hz2 rfl (by decide) _ zs.length _ rfl (hown2.alloc _) ⟨w2.heap.size, 0, none⟩ 1 1 [.int .i64 x] rfl rfl (one_new _ _ _) (one_cell _) (by unfold maxLen; omega) (by omega) (by have := hb2.size; simp; omega) ?_; intro v3 w3 hown3 hgrow3 hnil3; obtain ⟨g3, c3, rfl⟩ := own_some hown3 hnil3; have hcap3 := own_cap hown3; have hb3 := below_app hb2 hown2 hgrow3; clear hnil3 hgrow3 hown2 hb2))
          all_goals
            go_ret
            have HE := HIH.out
            have hlen : (ins zs x).length = zs.length + 1 := by rw [HE]; simp
            have hin : ints (ins zs x) = ints zs ++ [Value.int .i64 x] := by rw [HE]; simp [ints]
            rw [hlen, hin]
            exact ⟨g3, c3, rfl, hown3, hb3⟩

end Go.Proofs.Ytkecnljdloffdab

/- The variables of a term, and the contract of the specification's VarsOf. Conditions: terms of at most 1048576 parts. -/
namespace Go.Proofs.Ytkecnljdloffdab
set_option maxRecDepth 100000
open Go.RowKit

mutual
/-- The variables of a term, put into a list. -/
def varsT : TermD → List Int → List Int
  | .mk f v ks, out => varsL ks (if f = -1 then ins out v else out)
def varsL : List TermD → List Int → List Int
  | [], out => out
  | t :: ts, out => varsL ts (varsT t out)
end

theorem varsT_eq (t : TermD) (out : List Int) : varsT t out = varsL t.kids (if t.f = -1 then ins out t.v else out) := by cases t; rw [varsT]; rfl
theorem varsL_append (a b : List TermD) (out : List Int) : varsL (a ++ b) out = varsL b (varsL a out) := by
  induction a generalizing out with
  | nil => simp [varsL]
  | cons t ts ih => simp only [List.cons_append, varsL, ih]
theorem varsL_next {ts : List TermD} {k : Nat} (h : k < ts.length) (out : List Int) : varsL (ts.take (k + 1)) out = varsT ts[k] (varsL (ts.take k) out) := by
  rw [List.take_succ_eq_append_getElem h, varsL_append]
  simp [varsL]
mutual
theorem varsT_len : ∀ (t : TermD) (out : List Int), (varsT t out).length ≤ out.length + partsT t
  | .mk f v ks, out => by
    have h1 := varsL_len ks (if f = -1 then ins out v else out)
    have h2 := ins_len out v
    rw [varsT, partsT]
    split at h1 <;> simp_all <;> omega
theorem varsL_len : ∀ (ts : List TermD) (out : List Int), (varsL ts out).length ≤ out.length + partsL ts
  | [], out => by simp [varsL, partsL]
  | t :: ts, out => by
    have h1 := varsT_len t out
    have h2 := varsL_len ts (varsT t out)
    rw [varsL, partsL]; omega
end

theorem own_lower {w : World} {base base' : Nat} {e : TypeId} {size : Nat} {v : Value} {n : Nat} {xs : List Value} (h : w.ownsRow base e size v n xs) (hb : base' ≤ base) : w.ownsRow base' e size v n xs := by
  obtain ⟨h1, h2⟩ := h
  refine ⟨h1, ?_⟩
  rcases h2 with h2 | ⟨g, cap, cur, rfl, hg1, r⟩
  · exact .inl h2
  · exact .inr ⟨g, cap, cur, rfl, Nat.le_trans hb hg1, r⟩

theorem own_cells {w : World} {base g c : Nat} {zs : List Int} {n : Nat} (hn : n = zs.length) (h : w.ownsRow base 3 1 (.slice (some ⟨g, 0, none⟩) n c) n (ints zs)) :
    g < w.heap.size ∧ ∀ i, i < zs.length → w.cell? ⟨g, 0 + i, none⟩ = some (.int .i64 (zs[i]?.getD 0)) := by
  subst hn
  refine ⟨(h.lt g rfl).2, fun i hi => ?_⟩
  rw [show (0 + i) = i by omega, h.cellAt i (by omega)]
  simp [ints, hi]

/-- The row of the numbers met so far. -/
def OutRow (w : World) (B g c : Nat) (zs : List Int) : Prop := w.ownsRow B 3 1 (.slice (some ⟨g, 0, none⟩) zs.length c) zs.length (ints zs)

set_option maxHeartbeats 1600000 in
theorem specVars_any (N : Nat) : ∀ (t : TermD) (a : Option Addr) (c hi B g oc : Nat) (zs : List Int) (w : World), partsT t ≤ N → zs.length + partsT t ≤ 1048577 → RdK w hi a t.kids → hi ≤ w.heap.size → B ≤ w.heap.size → OutRow w B g oc zs →
    Calls Try.prog 57 #[.agg #[.int .i64 t.f, .int .i64 t.v, .slice a t.kids.length c], .slice (some ⟨g, 0, none⟩) zs.length oc] w fun e w' => ∃ g' c', e = .returned (.slice (some ⟨g', 0, none⟩) (varsT t zs).length c') ∧ OutRow w' B g' c' (varsT t zs) ∧ Below w.heap.size w w' := by
  induction N with
  | zero => intro t a c hi B g oc zs w h; rw [partsT_eq] at h; omega
  | succ N ih =>
    intro t a c hi B g oc zs w hN hM hr hhi hBw hout
    rw [partsT_eq] at hN hM
    rw [varsT_eq]
    have hlen := partsL_len t.kids
    generalize t.kids = ks at *
    have HR : Hid (RdK w hi a ks) := hr
    clear hr
    by_cases hf : t.f = -1
    · obtain ⟨zs1, hz1⟩ : ∃ z, z = ins zs t.v := ⟨_, rfl⟩
      have HV : Hid (varsL ks (if t.f = -1 then ins zs t.v else zs) = varsL ks zs1) := by show _ = _; rw [if_pos hf, hz1]
      rw [HV.out]
      have hlz : zs1.length ≤ zs.length + 1 := by rw [hz1]; exact ins_len zs t.v
      have h0 : Below w.heap.size w (w.alloc (.cells #[.int .i64 (-1), .int .i64 t.v, .slice a ks.length c] 28)) := (Below.refl w.heap.size w).alloc (Nat.le_refl _) _
      have hout1 := own_below hout h0
      obtain ⟨hgl, hgc⟩ := own_cells rfl hout1
      have A := specNumAdd_any g zs _ oc t.v _ rfl (own_cap hout) hgl hgc (by omega)
      rw [← hz1] at A
      clear hz1 hgl hgc hout1 hout
      go_enter Try.func57, Try.ntmps57
      go_wp2_with (go_at_call 74; refine A.mono ?_; rintro e w1 ⟨g1, c1, rfl, hO0, hb1⟩; clear A; have hB1 := h0.trans (hb1.mono h0.size); have hO : OutRow w1 B g1 c1 zs1 := own_lower hO0 (Nat.le_trans hBw h0.size); have hct : w1.cell? ⟨w.heap.size, 2, none⟩ = some (.slice a ks.length c) := keepC hb1 (by simp [go_sem]); have hwl1 : w.heap.size < w1.heap.size := (by have := hb1.size; simp at this; omega); clear hO0 hb1 h0)
      go_loopw [1, 5] (fun o i wr => ∃ (k g2 c2 : Nat), k ≤ ks.length ∧ i = .int .i64 k ∧ o = .slice (some ⟨g2, 0, none⟩) (varsL (ks.take k) zs1).length c2 ∧ OutRow wr B g2 c2 (varsL (ks.take k) zs1) ∧ wr.cell? ⟨w.heap.size, 2, none⟩ = some (.slice a ks.length c) ∧ Below w.heap.size w wr ∧ w.heap.size < wr.heap.size) (fun _ i _ => ks.length - (intOf i).toNat)
      case atStart => exact ⟨0, g1, c1, Nat.zero_le _, rfl, by simp [varsL], by simpa [varsL] using hO, hct, hB1, hwl1⟩
      case round =>
        obtain ⟨k, g2, c2, hk, rfl, rfl, hO2, hct2, hbr, hwl⟩ := hrel
        have hpk := partsL_take ks k
        have hvl := varsL_len (ks.take k) zs1
        clear hO hct hB1 hwl1
        by_cases hk' : k < ks.length
        · obtain ⟨b, off, a', c', rfl, hlt, d0, d1, d2, hkr⟩ := RdK.kid (HR.out.on (hbr.mono hhi)) hk'
          have hpg := partsL_get hk'
          have hpn := partsL_next hk'
          have hpk2 := partsL_take ks (k + 1)
          have hki : (k : Int) < (ks.length : Int) := by omega
          have HP : Hid (varsL (ks.take (k + 1)) zs1 = varsT ks[k] (varsL (ks.take k) zs1)) := varsL_next hk' zs1
          have I := ih ks[k] a' c' hi B g2 c2 (varsL (ks.take k) zs1) wr (by omega) (by omega) hkr (Nat.le_trans hhi hbr.size) (Nat.le_trans hBw hbr.size) hO2
          clear hkr hO2
          go_wp2_with (go_at_call 57; refine I.mono ?_; rintro e w3 ⟨g3, c3, rfl, hO3, hb3⟩; clear I; have hct3 := keepC hb3 hct2; have hbb := hbr.trans (hb3.mono hbr.size); have hwl3 : w.heap.size < w3.heap.size := (Nat.lt_of_lt_of_le hwl hb3.size); clear hbr hb3)
          go_roundw
          case rel => exact ⟨k + 1, g3, c3, by omega, by go_num, by rw [HP.out], by rw [HP.out]; exact hO3, hct3, hbb, hwl3⟩
          case measure => simp [intOf]; omega
        · have E : Hid (k = ks.length) := (by omega : k = ks.length)
          go_wp2_with fail
          go_ret
          have e2 : varsL (ks.take k) zs1 = varsL ks zs1 := by rw [E.out, List.take_length]
          rw [e2] at hO2 ⊢
          exact ⟨g2, c2, rfl, hO2, hbr⟩
    · obtain ⟨zs1, hz1⟩ : ∃ z, z = zs := ⟨_, rfl⟩
      have HV : Hid (varsL ks (if t.f = -1 then ins zs t.v else zs) = varsL ks zs1) := by show _ = _; rw [if_neg hf, hz1]
      rw [HV.out]
      subst hz1
      have hf' : (t.f == -1) = false := by simp [hf]
      have hlz : zs1.length ≤ zs1.length + 1 := by omega
      have hB1 : Below w.heap.size w (w.alloc (.cells #[.int .i64 t.f, .int .i64 t.v, .slice a ks.length c] 28)) := (Below.refl w.heap.size w).alloc (Nat.le_refl _) _
      obtain ⟨g1, hg1⟩ : ∃ x, x = g := ⟨_, rfl⟩
      obtain ⟨c1, hc1⟩ : ∃ x, x = oc := ⟨_, rfl⟩
      subst hg1 hc1
      have hO : OutRow (w.alloc (.cells #[.int .i64 t.f, .int .i64 t.v, .slice a ks.length c] 28)) B g1 c1 zs1 := own_below hout hB1
      have hct : (w.alloc (.cells #[.int .i64 t.f, .int .i64 t.v, .slice a ks.length c] 28)).cell? ⟨w.heap.size, 2, none⟩ = some (.slice a ks.length c) := by simp [go_sem]
      have hwl1 : w.heap.size < (w.alloc (.cells #[.int .i64 t.f, .int .i64 t.v, .slice a ks.length c] 28)).heap.size := by simp
      clear hf hout
      go_enter Try.func57, Try.ntmps57
      go_wp2_with fail
      go_loopw [1, 5] (fun o i wr => ∃ (k g2 c2 : Nat), k ≤ ks.length ∧ i = .int .i64 k ∧ o = .slice (some ⟨g2, 0, none⟩) (varsL (ks.take k) zs1).length c2 ∧ OutRow wr B g2 c2 (varsL (ks.take k) zs1) ∧ wr.cell? ⟨w.heap.size, 2, none⟩ = some (.slice a ks.length c) ∧ Below w.heap.size w wr ∧ w.heap.size < wr.heap.size) (fun _ i _ => ks.length - (intOf i).toNat)
      case atStart => exact ⟨0, g1, c1, Nat.zero_le _, rfl, by simp [varsL], by simpa [varsL] using hO, hct, hB1, hwl1⟩
      case round =>
        obtain ⟨k, g2, c2, hk, rfl, rfl, hO2, hct2, hbr, hwl⟩ := hrel
        have hpk := partsL_take ks k
        have hvl := varsL_len (ks.take k) zs1
        clear hO hct hB1 hwl1
        by_cases hk' : k < ks.length
        · obtain ⟨b, off, a', c', rfl, hlt, d0, d1, d2, hkr⟩ := RdK.kid (HR.out.on (hbr.mono hhi)) hk'
          have hpg := partsL_get hk'
          have hpn := partsL_next hk'
          have hpk2 := partsL_take ks (k + 1)
          have hki : (k : Int) < (ks.length : Int) := by omega
          have HP : Hid (varsL (ks.take (k + 1)) zs1 = varsT ks[k] (varsL (ks.take k) zs1)) := varsL_next hk' zs1
          have I := ih ks[k] a' c' hi B g2 c2 (varsL (ks.take k) zs1) wr (by omega) (by omega) hkr (Nat.le_trans hhi hbr.size) (Nat.le_trans hBw hbr.size) hO2
          clear hkr hO2
          go_wp2_with (go_at_call 57; refine I.mono ?_; rintro e w3 ⟨g3, c3, rfl, hO3, hb3⟩; clear I; have hct3 := keepC hb3 hct2; have hbb := hbr.trans (hb3.mono hbr.size); have hwl3 : w.heap.size < w3.heap.size := (Nat.lt_of_lt_of_le hwl hb3.size); clear hbr hb3)
          go_roundw
          case rel => exact ⟨k + 1, g3, c3, by omega, by go_num, by rw [HP.out], by rw [HP.out]; exact hO3, hct3, hbb, hwl3⟩
          case measure => simp [intOf]; omega
        · have E : Hid (k = ks.length) := (by omega : k = ks.length)
          go_wp2_with fail
          go_ret
          have e2 : varsL (ks.take k) zs1 = varsL ks zs1 := by rw [E.out, List.take_length]
          rw [e2] at hO2 ⊢
          exact ⟨g2, c2, rfl, hO2, hbr⟩

set_option maxHeartbeats 800000 in
theorem specVarsOf_any (t : TermD) (a : Option Addr) (c hi : Nat) (w : World) (hp : partsT t ≤ 1048577) (hr : RdK w hi a t.kids) (hhi : hi ≤ w.heap.size) :
    Calls Try.prog 37 #[.agg #[.int .i64 t.f, .int .i64 t.v, .slice a t.kids.length c]] w fun e w' => ∃ g' c', e = .returned (.slice (some ⟨g', 0, none⟩) (varsT t []).length c') ∧ OutRow w' w.heap.size g' c' (varsT t []) ∧ Below w.heap.size w w' := by
  have h0 : Below w.heap.size w ((w.alloc (.cells #[.int .i64 t.f, .int .i64 t.v, .slice a t.kids.length c] 28)).alloc (.cells #[] 3)) := ((Below.refl w.heap.size w).alloc (Nat.le_refl _) _).alloc (by simp) _
  have O0 : OutRow ((w.alloc (.cells #[.int .i64 t.f, .int .i64 t.v, .slice a t.kids.length c] 28)).alloc (.cells #[] 3)) (w.heap.size + 1) (w.heap.size + 1) 0 [] := by
    have := World.ownsRow_made (e := 3) (size := 1) (w.alloc (.cells #[.int .i64 t.f, .int .i64 t.v, .slice a t.kids.length c] 28)) #[] 0 (Nat.le_refl _) (Nat.zero_le _) rfl
    simpa [OutRow, ints] using this
  have I := specVars_any (partsT t) t a c hi w.heap.size (w.heap.size + 1) 0 [] _ (Nat.le_refl _) (by simpa using hp) (hr.on (h0.mono hhi)) (Nat.le_trans hhi h0.size) h0.size (own_lower O0 (by omega))
  simp only [List.length_nil] at I
  generalize t.kids = ks at *
  go_enter Try.func37, Try.ntmps37
  go_wp2_with (go_at_call 57; refine I.mono ?_; rintro e w1 ⟨g1, c1, rfl, hO1, hb1⟩; clear I)
  go_ret
  exact ⟨g1, c1, rfl, hO1, h0.trans (hb1.mono h0.size)⟩
end Go.Proofs.Ytkecnljdloffdab

/- The variables of a term: put in one by one they are those that stand in it, in order, each once. Conditions: none. -/
namespace Go.Proofs.Ytkecnljdloffdab
set_option maxRecDepth 100000
open Go.RowKit

/-- The numbers of the variables among terms. -/
def vl (l : List TermD) : List Int := (l.filter fun x => x.f == -1).map TermD.v
theorem vl_append (a b : List TermD) : vl (a ++ b) = vl a ++ vl b := by simp [vl]
theorem vl_len (l : List TermD) : (vl l).length ≤ l.length := by simp only [vl, List.length_map]; exact List.length_filter_le _ _
mutual
theorem vl_pre : ∀ (t : TermD) (out : List Int), varsT t out = (vl (preT t)).foldl ins out
  | .mk f v ks, out => by
    have h := vl_preL ks
    rw [varsT, preT, h, show TermD.mk f v ks :: preL ks = [TermD.mk f v ks] ++ preL ks from rfl, vl_append, List.foldl_append]
    congr 1
    by_cases e : f = -1 <;> simp [vl, TermD.f, TermD.v, e]
theorem vl_preL : ∀ (ts : List TermD) (out : List Int), varsL ts out = (vl (preL ts)).foldl ins out
  | [], out => by simp [varsL, preL, vl]
  | t :: ts, out => by
    rw [varsL, preL, vl_append, List.foldl_append, vl_pre t, vl_preL ts]
end

theorem ss_ext : ∀ {a b : List Int}, a.Pairwise (· < ·) → b.Pairwise (· < ·) → (∀ x, x ∈ a ↔ x ∈ b) → a = b
  | [], [], _, _, _ => rfl
  | [], y :: b, _, _, h => by have := (h y).2 (by simp); simp at this
  | x :: a, [], _, _, h => by have := (h x).1 (by simp); simp at this
  | x :: a, y :: b, ha, hb, h => by
    rw [List.pairwise_cons] at ha hb
    have e : x = y := by
      have h1 := (h x).1 (by simp)
      have h2 := (h y).2 (by simp)
      rcases List.mem_cons.1 h1 with h1 | h1
      · exact h1
      · rcases List.mem_cons.1 h2 with h2 | h2
        · exact h2.symm
        · have := hb.1 x h1; have := ha.1 y h2; omega
    subst e
    congr 1
    refine ss_ext ha.2 hb.2 (fun z => ⟨fun hz => ?_, fun hz => ?_⟩)
    · rcases List.mem_cons.1 ((h z).1 (by simp [hz])) with e | e
      · have := ha.1 z hz; omega
      · exact e
    · rcases List.mem_cons.1 ((h z).2 (by simp [hz])) with e | e
      · have := hb.1 z hz; omega
      · exact e

theorem drop_ge (x : Int) : ∀ {zs : List Int}, zs.Pairwise (· < ·) → ∀ z ∈ zs.dropWhile (fun y => decide (y < x)), ¬ z < x
  | [], _, z, h => by simp at h
  | y :: zs, hp, z, h => by
    rw [List.pairwise_cons] at hp
    by_cases e : y < x
    · simp only [List.dropWhile_cons, e, decide_true, if_true] at h
      exact drop_ge x hp.2 z h
    · simp only [List.dropWhile_cons, e, decide_false] at h
      rcases List.mem_cons.1 h with h | h
      · omega
      · have := hp.1 z h; omega
theorem take_lt (x : Int) : ∀ {zs : List Int}, ∀ z ∈ zs.takeWhile (fun y => decide (y < x)), z < x
  | [], z, h => by simp at h
  | y :: zs, z, h => by
    by_cases e : y < x
    · simp only [List.takeWhile_cons, e, decide_true, if_true] at h
      rcases List.mem_cons.1 h with h | h
      · omega
      · exact take_lt x z h
    · simp only [List.takeWhile_cons, e, decide_false] at h
      simp at h
theorem hasB_iff (zs : List Int) (x : Int) : hasB zs x = true ↔ x ∈ zs := by
  simp only [hasB, List.any_eq_true]
  constructor
  · rintro ⟨y, hy, e⟩; have : y = x := by simpa using e
    subst this; exact hy
  · intro h; exact ⟨x, h, by simp⟩
theorem ins_mem (zs : List Int) (x y : Int) : y ∈ ins zs x ↔ y = x ∨ y ∈ zs := by
  unfold ins
  split
  · rename_i h
    rw [hasB_iff] at h
    exact ⟨.inr, fun e => e.elim (fun e => e ▸ h) id⟩
  · rw [List.mem_append, List.mem_cons]
    conv => rhs; rw [← List.takeWhile_append_dropWhile (p := fun y => decide (y < x)) (l := zs), List.mem_append]
    exact ⟨fun h => h.elim (fun h => .inr (.inl h)) (fun h => h.elim .inl (fun h => .inr (.inr h))), fun h => h.elim (fun h => .inr (.inl h)) (fun h => h.elim .inl (fun h => .inr (.inr h)))⟩
theorem ins_ss {zs : List Int} (h : zs.Pairwise (· < ·)) (x : Int) : (ins zs x).Pairwise (· < ·) := by
  unfold ins
  split
  · exact h
  · rename_i hx
    rw [hasB_iff] at hx
    have hd : ∀ z ∈ zs.dropWhile (fun y => decide (y < x)), x < z := fun z hz => by
      have h1 := drop_ge x h z hz
      have h2 : z ≠ x := fun e => hx (e ▸ (List.dropWhile_sublist _).subset hz)
      omega
    rw [List.pairwise_append]
    refine ⟨h.sublist (List.takeWhile_sublist _), List.pairwise_cons.2 ⟨hd, h.sublist (List.dropWhile_sublist _)⟩, fun a ha b hb => ?_⟩
    have h1 := take_lt x a ha
    rcases List.mem_cons.1 hb with e | e
    · omega
    · have := hd b e; omega
theorem fold_ss : ∀ (l out : List Int), out.Pairwise (· < ·) → (l.foldl ins out).Pairwise (· < ·) ∧ ∀ y, y ∈ l.foldl ins out ↔ y ∈ l ∨ y ∈ out
  | [], out, h => by simp [h]
  | x :: l, out, h => by
    obtain ⟨h1, h2⟩ := fold_ss l (ins out x) (ins_ss h x)
    refine ⟨h1, fun y => ?_⟩
    rw [List.foldl_cons, h2, ins_mem, List.mem_cons]
    constructor
    · rintro (h | h | h)
      · exact .inl (.inr h)
      · exact .inl (.inl h)
      · exact .inr h
    · rintro ((h | h) | h)
      · exact .inr (.inl h)
      · exact .inl h
      · exact .inr (.inr h)

theorem comp_upto (d : Array Int) (hd : ∀ i j, i ≤ j → j < d.size → d[i]! ≤ d[j]!) : ∀ m, m ≤ d.size →
    (Lib.compactUpTo d m).Pairwise (· < ·) ∧ (∀ y, y ∈ Lib.compactUpTo d m ↔ ∃ j, j < m ∧ d[j]! = y)
  | 0, _ => by simp [Lib.compactUpTo]
  | m + 1, h => by
    obtain ⟨h1, h2⟩ := comp_upto d hd m (by omega)
    rw [Lib.compactUpTo_succ]
    by_cases e : m = 0
    · subst e
      have hk := Lib.keeps_lt_one d 0 (by omega)
      simp only [hk, if_true]
      have e0 : Lib.compactUpTo d 0 = [] := by simp [Lib.compactUpTo]
      rw [e0]
      refine ⟨by simp, fun y => ?_⟩
      simp only [List.nil_append, List.mem_singleton]
      constructor
      · intro h; exact ⟨0, by omega, h.symm⟩
      · rintro ⟨j, hj, rfl⟩; rw [show j = 0 by omega]
    · by_cases ed : d[m]! = d[m - 1]!
      · rw [Lib.keeps_neg (by omega) ed]
        simp only [Bool.false_eq_true, if_false, List.append_nil]
        refine ⟨h1, fun y => (h2 y).trans ⟨fun ⟨j, hj, e⟩ => ⟨j, by omega, e⟩, fun ⟨j, hj, e'⟩ => ?_⟩⟩
        by_cases ej : j = m
        · subst ej; exact ⟨j - 1, by omega, ed ▸ e'⟩
        · exact ⟨j, by omega, e'⟩
      · rw [Lib.keeps_pos ed]
        simp only [if_true]
        refine ⟨?_, fun y => ?_⟩
        · rw [List.pairwise_append]
          refine ⟨h1, by simp, fun a ha b hb => ?_⟩
          obtain ⟨j, hj, rfl⟩ := (h2 a).1 ha
          have eb : b = d[m]! := by simpa using hb
          subst eb
          have q1 := hd j (m - 1) (by omega) (by omega)
          have q2 := hd (m - 1) m (by omega) (by omega)
          omega
        · rw [List.mem_append, h2, List.mem_singleton]
          constructor
          · rintro (⟨j, hj, e'⟩ | e')
            · exact ⟨j, by omega, e'⟩
            · exact ⟨m, by omega, e'.symm⟩
          · rintro ⟨j, hj, e'⟩
            by_cases ej : j = m
            · subst ej; exact .inr e'.symm
            · exact .inl ⟨j, by omega, e'⟩

/-- Sorted and each once: as put in one by one. -/
theorem comp_fold (l : List Int) : Lib.compact (l.mergeSort fun x y => decide (x ≤ y)) = l.foldl ins [] := by
  have hs : (l.mergeSort fun x y => decide (x ≤ y)).Pairwise (fun a b => decide (a ≤ b) = true) := List.pairwise_mergeSort (fun a b c h1 h2 => by simp at *; omega) (fun a b => by simp; omega) l
  have hm : ∀ y, y ∈ (l.mergeSort fun x y => decide (x ≤ y)) ↔ y ∈ l := fun y => List.mem_mergeSort
  generalize l.mergeSort (fun x y => decide (x ≤ y)) = s at *
  have hd : ∀ i j, i ≤ j → j < s.toArray.size → s.toArray[i]! ≤ s.toArray[j]! := by
    intro i j hij hj
    simp only [List.size_toArray] at hj
    have hi : i < s.length := by omega
    have e1 : s.toArray[i]! = s[i] := by simp [hi]
    have e2 : s.toArray[j]! = s[j] := by simp [hj]
    rw [e1, e2]
    by_cases e : i = j
    · subst e; exact Int.le_refl _
    · have := List.pairwise_iff_getElem.1 hs i j hi hj (by omega)
      simpa using this
  obtain ⟨h1, h2⟩ := comp_upto s.toArray hd s.length (by simp)
  obtain ⟨h3, h4⟩ := fold_ss l [] (by simp)
  refine ss_ext h1 h3 (fun y => ?_)
  have e0 : y ∈ Lib.compact s ↔ ∃ j, j < s.length ∧ s.toArray[j]! = y := h2 y
  refine (h2 y).trans ?_
  rw [h4, ← hm]
  simp only [List.not_mem_nil, or_false]
  constructor
  · rintro ⟨j, hj, rfl⟩; simp [hj]
  · intro h
    obtain ⟨j, hj, e⟩ := List.getElem_of_mem h
    exact ⟨j, hj, by simp [hj, e]⟩

theorem vars_comp (t : TermD) : Lib.compact ((vl (preT t)).mergeSort fun x y => decide (x ≤ y)) = varsT t [] := by rw [comp_fold, vl_pre]
end Go.Proofs.Ytkecnljdloffdab

