/- What the proof of FnExactSolved stands on, part 11 of 13: each piece says what it proves and under which conditions. Conditions: as each piece says. -/
import Derived.Test.YthbilahilmmfmabGreatPackExactSolved10
import Derived.Sort.OwnSortedInts
import Derived.Lib.OwnBridge
import Derived.Lib.RowBridge
import Derived.Test.YthbilahilmmfmabGreatProg
import Derived.BigQuiet
import Derived.Deep.QuietTactic
import Derived.OpenShut
import Derived.ProofKit
import Derived.WalkKit
import Derived.WalkSmall
/- The variables of a term as the program tells them: gathered, sorted, each once. Conditions: terms of at most 1048577 parts. -/
namespace Go.Proofs.YthbilahilmmfmabGreat
set_option maxRecDepth 100000
open Go.RowKit Go.Shelf Go.Sort
attribute [local go_sem] Oper.semAt_some

/-- A row of numbers of one's own, sorted. -/
theorem sort_any (base : Nat) (av : Option Addr) (zs : List Int) (n cv : Nat) (w : World) (hn : n = zs.length) (h : w.ownsRow base 3 1 (.slice av n cv) n (ints zs)) (hl : zs.length ≤ 549755813888) :
    Calls Tryz.prog 64 #[.slice av n cv] w fun e w' => e = .returned (.tuple #[]) ∧ w'.ownsRow base 3 1 (.slice av n cv) n (ints (zs.mergeSort fun x y => decide (x ≤ y))) ∧ w.grownBy w' (Value.slice av n cv).ownBlock := by
  subst hn
  rcases h.2 with ⟨hv, h0⟩ | ⟨g, cap, cur, hv, hg, hb, hc1, hc2, hc3, hc4⟩
  · have hz : zs = [] := List.length_eq_zero_iff.1 h0
    subst hz
    obtain ⟨rfl, rfl⟩ : av = none ∧ cv = 0 := by simpa using hv
    refine (Tryz.slices_Sort_int_none none 0 w).mono ?_
    rintro e w' ⟨rfl, rfl⟩
    exact ⟨rfl, by simpa using h, World.grownBy.refl _ _⟩
  · cases hv
    rw [Nat.mul_one] at hc4
    have hH : Holds (Value.int .i64) w g 0 zs.toArray := holds_of_blockI hb hc4
    refine (Tryz.slices_Sort_int g 0 cv zs w hH (Array.getElem?_eq_some_iff.1 hb).1 (by omega)).mono ?_
    rintro e w' ⟨rfl, m, os, rfl⟩
    exact ⟨rfl, ownsRow_sortedI (by simp) hg hb hc1 hc2 hc3, grownBy_sortedI _⟩

theorem compact_any (base : Nat) (av : Option Addr) (zs : List Int) (n cv : Nat) (w : World) (hn : n = zs.length) (h : w.ownsRow base 3 1 (.slice av n cv) n (ints zs)) (hl : zs.length ≤ 549755813888) :
    Calls Tryz.prog 65 #[.slice av n cv] w fun e w' => e = .returned (.slice av (Lib.compact zs).length cv) ∧ w'.ownsRow base 3 1 (.slice av (Lib.compact zs).length cv) (Lib.compact zs).length (ints (Lib.compact zs)) ∧ w.grownBy w' (Value.slice av n cv).ownBlock := by
  subst hn
  rcases h.2 with ⟨hv, h0⟩ | ⟨g, cap, cur, hv, hg, hb, hc1, hc2, hc3, hc4⟩
  · have hz : zs = [] := List.length_eq_zero_iff.1 h0
    subst hz
    obtain ⟨rfl, rfl⟩ : av = none ∧ cv = 0 := by simpa using hv
    have e0 : Lib.compact ([] : List Int) = [] := rfl
    rw [e0]
    refine (Tryz.slices_Compact_int_empty none 0 w).mono ?_
    rintro e w' ⟨rfl, rfl⟩
    exact ⟨rfl, by simpa using h, World.grownBy.refl _ _⟩
  · cases hv
    rw [Nat.mul_one] at hc4
    have hH : Holds (Value.int .i64) w g 0 zs.toArray := holds_of_blockI hb hc4
    have hle := Lib.compact_length_le zs
    refine (Tryz.slices_Compact_int g 0 cv zs w hH (by omega) hc1).mono ?_
    rintro e w' ⟨rfl, q, rfl⟩
    have := Lib.ownsRow_putRow (enc := Value.int .i64) (q := q) (k := (Lib.compact zs).length) (ys := Lib.compact zs ++ List.replicate (zs.length - (Lib.compact zs).length) 0) h (by simp; omega) (by omega)
    rw [List.take_left] at this
    have hgr := grownBy_sortedI (w := w) (g := g) (n := q) (os := #[]) (Lib.compact zs ++ List.replicate (zs.length - (Lib.compact zs).length) 0).toArray
    have e1 : ∀ u : World, grow u #[] = u := fun u => by simp [grow]
    rw [e1] at hgr
    exact ⟨rfl, this, hgr⟩

theorem vl_snoc (l : List El) (x : El) : vl ((l ++ [x]).map El.t) = vl (l.map El.t) ++ if vofB x.t = true then [vofI x.t] else [] := by
  rw [List.map_append, vl_append]
  congr 1
  by_cases h1 : x.t.f = -1 <;> simp [vl, vofB, vofI, h1]
theorem ints_append (a b : List Int) : ints (a ++ b) = ints a ++ ints b := by simp [ints]

/-- What the loop holds between two rounds: the list that is gathered lies in memory of the call's own. -/
structure VInv (w W0 : World) (pre : List El) (S : Nat → Prop) (W : World) : Prop where
  lo : ∀ k, k < W0.heap.size → S k
  hi : ∀ k, S k → k < W.heap.size
  v : ∃ v, W.cell? ⟨w.heap.size + 1, 0, none⟩ = some v ∧ W.ownsRow W0.heap.size 3 1 v (vl (pre.map El.t)).length (ints (vl (pre.map El.t))) ∧ ∀ g, v.ownBlock = some g → S g
  f : W.frozen? ⟨w.heap.size + 1, 0, none⟩ = false
  b : Below w.heap.size w W
  z : w.heap.size + 1 < W0.heap.size
theorem VInv.lt {w W0 A : World} {pre : List El} {S : Nat → Prop} (h : VInv w W0 pre S A) : w.heap.size + 1 < A.heap.size := h.hi _ (h.lo _ h.z)
theorem VInv.le {w W0 A : World} {pre : List El} {S : Nat → Prop} (h : VInv w W0 pre S A) : W0.heap.size ≤ A.heap.size := by
  have hz := h.z
  have := h.hi (W0.heap.size - 1) (h.lo _ (by omega))
  omega
theorem VInv.stay {w W0 A B : World} {pre : List El} {S : Nat → Prop} (h : VInv w W0 pre S A) (hs : Stay S A B) : VInv w W0 pre S B := by
  have hz := h.z
  have hl := h.lt
  obtain ⟨v, h1, h2, h3⟩ := h.v
  exact ⟨h.lo, fun k hk => Nat.lt_of_lt_of_le (h.hi k hk) hs.size, ⟨v, hs.cell h1 (h.lo _ hz), own_stay h2 hs h3, h3⟩, (hs.frozen hl (h.lo _ hz)).trans h.f, h.b.trans (hs.below h.b.size (fun k hk => h.lo k (by omega))), hz⟩
theorem VInv.more {w W0 A : World} {pre : List El} {S T : Nat → Prop} (h : VInv w W0 pre S A) (hs : ∀ k, S k → T k) (ht : ∀ k, T k → k < A.heap.size) : VInv w W0 pre T A := by
  obtain ⟨v, h1, h2, h3⟩ := h.v
  exact ⟨fun k hk => hs k (h.lo k hk), ht, ⟨v, h1, h2, fun g hg => hs g (h3 g hg)⟩, h.f, h.b, h.z⟩

set_option maxHeartbeats 3200000 in
set_option maxRecDepth 100000 in
theorem impVarsOf_any (t : TermD) (a : Option Addr) (c hi : Nat) (w : World) (hp : partsT t ≤ 549755813888) (hr : RdK w hi a t.kids) (hhi : hi ≤ w.heap.size) (hc : t.kids.length ≤ c) :
    Calls Tryz.prog 48 #[.agg #[.int .i64 t.f, .int .i64 t.v, .slice a t.kids.length c]] w fun e w' => ∃ a' c', e = .returned (.slice a' (varsT t []).length c') ∧ w'.ownsRow w.heap.size 3 1 (.slice a' (varsT t []).length c') (varsT t []).length (ints (varsT t [])) ∧ Below w.heap.size w w' := by
  refine (callsIn_wide (n := 5)).1 ?_
  obtain ⟨i0, hi0, hz0, hz1, hz2⟩ := info_parts Tryz.info3
  refine callsIn_of_wp_marks Tryz.func48 rfl trivial ?_ rfl
  simp only [Tryz.ntmps48, List.size_toArray, List.length_cons, List.length_nil, Nat.reduceAdd, Nat.reduceSub, Array.replicate_succ, Array.replicate_zero, List.push_toArray, List.append_toArray, List.nil_append, List.cons_append]
  gi_wp2_with (refine ⟨trivial, ?_⟩; gi_at_call 61; refine (callsIn_wide.2 (within_any t a c _)).mono ?_; rintro e w' ⟨rfl, rfl⟩)
  obtain ⟨W0, hW0⟩ : ∃ W0, W0 = ((w.alloc (.cells #[.int .i64 t.f, .int .i64 t.v, .slice a t.kids.length c] 37)).alloc (.cells #[.slice none 0 0] 77)).alloc (.cells #[.int .i64 t.f, .int .i64 t.v, .slice a t.kids.length c] 37) := ⟨_, rfl⟩
  have hB0 : Below w.heap.size w W0 := by rw [hW0]; exact (((Below.refl _ _).alloc (Nat.le_refl _) _).alloc (by simp) _).alloc (by simp; omega) _
  have hz : W0.heap.size = w.heap.size + 1 + 1 + 1 := by rw [hW0]; simp
  have v0 : W0.cell? ⟨w.heap.size + 1, 0, none⟩ = some (.slice none 0 0) := by rw [hW0]; simp [go_sem]
  have f0 : W0.frozen? ⟨w.heap.size + 1, 0, none⟩ = false := by rw [hW0]; simp [go_sem]
  have t0 : W0.cell? ⟨w.heap.size + 1 + 1, 0, none⟩ = some (.int .i64 t.f) := by rw [hW0]; simp [go_sem]
  have t1 : W0.cell? ⟨w.heap.size + 1 + 1, 1, none⟩ = some (.int .i64 t.v) := by rw [hW0]; simp [go_sem]
  have t2 : W0.cell? ⟨w.heap.size + 1 + 1, 2, none⟩ = some (.slice a t.kids.length c) := by rw [hW0]; simp [go_sem]
  rw [← hW0]
  clear hW0
  refine wpIn_rangeFunc_priv rfl (by omega) (gf := 75) (lb := #[.pointer (some ⟨w.heap.size + 1 + 1, 0, none⟩)]) rfl trivial (enters_of Tryz.func75 (by kernel_rfl) rfl)
    (within_seq Fence.wide 4 trivial rfl (by omega) W0 t a c hi w.heap.size (w.heap.size + 1 + 1) hp hc (hr.on (hB0.mono hhi)) hhi hB0.size t0 t1 t2) hB0.size (Below.refl _ _) (fun _ => rfl)
    (fun pre S W => VInv w W0 pre S W) (fun _ _ _ _ => False) (fun pre S A B h hs => h.stay hs)
    (fun _ _ _ _ _ h _ => h) (fun pre S A h => h.hi) (fun k => k < W0.heap.size) (fun _ h => h) ⟨fun _ h => h, fun _ h => h, ⟨_, v0, by simpa [vl, ints] using World.ownsRow_nil W0 W0.heap.size 3 1, fun g hg => by cases hg⟩, f0, hB0, by omega⟩
    (fun pre x S a₁ W => VInv w W0 pre S W ∧ ∃ Bx, BoxEl x Bx S W ∧ a₁ = { tmps := #[.agg #[.int .i64 t.f, .int .i64 t.v, .slice a t.kids.length c], .pointer (some ⟨w.heap.size, 0, none⟩), .slice none 0 0, .pointer (some ⟨w.heap.size + 1, 0, none⟩), .pointer (some ⟨Bx, 0, none⟩), undef, undef, .agg #[.int .i64 t.f, .int .i64 t.v, .slice a t.kids.length c], .func (.func 75) #[] #[.pointer (some ⟨w.heap.size + 1 + 1, 0, none⟩)], .agg #[.int .i64 x.t.f, .int .i64 x.t.v, .slice x.a x.t.kids.length x.c], undef, undef, undef, undef, undef, undef, undef, undef, undef, undef, undef, undef, undef, undef], defers := [] })
    (fun pre x S a₁ A B h hs => by
      obtain ⟨h1, Bx, h2, h3⟩ := h
      exact ⟨h1.stay hs, Bx, h2.stay hs, h3⟩)
    ?assign ?body ?done ?stop
  case assign =>
    intro l pre x S W K hi hlen hok hK
    dsimp only [El.enc]
    gi_wp2
    refine hK _ (fun k => S k ∨ k = W.heap.size) _ ⟨(hi.stay (.alloc _ _ _)).more (fun _ h => .inl h) (fun k h => h.elim (fun h => by have := hi.hi k h; simp; omega) (fun e => by simp; omega)), W.heap.size, ⟨.inr rfl, ?_, ?_, ?_⟩, by simp⟩ (fun k h => h.imp id (fun e => by omega)) (.alloc _ _ _)
    all_goals simp [go_sem]
  case body =>
    rintro l pre x S a₁ W ⟨h, Bx, hx, rfl⟩ hlen hok
    have C := variableOf_any x.t x.a x.t.kids.length x.c W
    have x0 := hx.c0
    have x1 := hx.c1
    have x2 := hx.c2
    have hvn := vl_snoc pre x
    have hvl : (vl (pre.map El.t)).length < 549755813888 := by have := vl_len (pre.map El.t); simp at this; omega
    cases hvb : vofB x.t with
    | false =>
      rw [hvb] at C hvn
      have e0 : vl ((pre ++ [x]).map El.t) = vl (pre.map El.t) := by rw [hvn]; simp
      have F0 : Hid (∀ w1, Below W.heap.size W w1 → VInv w W0 (pre ++ [x]) S w1 ∧ Stay (fun k => k < w.heap.size ∨ ¬ S k) W w1) := fun w1 hb => by
        have h1 := h.stay (.of_below hb (fun _ hk _ => hk))
        exact ⟨⟨h1.lo, h1.hi, by rw [e0]; exact h1.v, h1.f, h1.b, h1.z⟩, .of_below hb (fun _ hk _ => hk)⟩
      clear hvn hvb e0 h hx
      gi_wp2_with (refine ⟨trivial, ?_⟩; gi_at_call 63; refine (CallsIn.inRound l (callsIn_wide.2 C)).mono ?_; rintro e w1 ⟨rfl, hb1⟩; clear C)
      obtain ⟨q1, q2⟩ := F0.out w1 hb1
      exact ⟨S, q1, fun k h => .inl h, q2⟩
    | true =>
      rw [hvb] at C hvn
      have e0 : vl ((pre ++ [x]).map El.t) = vl (pre.map El.t) ++ [vofI x.t] := by rw [hvn]; simp
      clear hvn hvb
      gi_wp2_with (first
        | (refine ⟨trivial, ?_⟩; gi_at_call 63; refine (CallsIn.inRound l (callsIn_wide.2 C)).mono ?_; rintro e w1 ⟨rfl, hb1⟩; clear C; have h1 := h.stay (.of_below hb1 (fun _ hk _ => hk)); have hle1 := h1.le; obtain ⟨v1, c1, r1, s1⟩ := h1.v; obtain ⟨av, cv, rfl, _⟩ := own_form r1; clear x0 x1 x2 h hx)
        | (gi_at_builtin; (refine wpListIn_append_own_at _ rfl (.tmp 16) (.tmp 18) 77 rfl W0.heap.size 3 i0 (.int .i64 0) 1 8 Tryz.underlying77 hi0 hz0 hz1 hz2 rfl (by decide) _ _ _ rfl (r1.alloc _) ⟨w1.heap.size, 0, none⟩ 1 1 [.int .i64 (vofI x.t)] rfl rfl (one_new1 _ _ _ _ rfl) (one_cell _) (by unfold maxLen; omega) (by omega) (by simp; omega) ?_; intro v6 w6 hown6 hgrow6 hnil6 hat6; clear hnil6; have HAT : Hid _ := hat6; clear hat6; obtain ⟨g6, c6, rfl, _, hg6, hl6⟩ := own_slot hown6; have hne : ∀ g, (Value.slice av (vl (List.map El.t pre)).length cv).ownBlock = some g → W0.heap.size ≤ g := (fun g hg => (r1.lt g hg).1); have hbk : w6.heap[w.heap.size + 1]? = w1.heap[w.heap.size + 1]? := (hgrow6.block (w.heap.size + 1) (by simp; omega) (fun e => by have := hne _ e.symm; omega)).trans (Below.heap_alloc _ _ _ h1.lt); have c6' : w6.cell? ⟨w.heap.size + 1, 0, none⟩ = some (.slice av (vl (List.map El.t pre)).length cv) := (World.cell?_of_block hbk).trans c1; have f6 : w6.frozen? ⟨w.heap.size + 1, 0, none⟩ = false := (World.frozen?_of_block hbk).trans h1.f; clear hbk)))
      have hz6 := hgrow6.size
      simp only [World.size_alloc] at hz6
      have hz1' := hb1.size
      have hgS : S g6 ∨ w1.heap.size ≤ g6 := by
        rcases HAT.out with e | e
        · exact .inl (s1 g6 e.symm)
        · have : g6 = w1.heap.size + 1 := by simpa [Value.ownBlock] using e
          exact .inr (by omega)
      have hng : ∀ g, (Value.slice (some ⟨g6, 0, none⟩) ((vl (pre.map El.t)).length + 1) c6).ownBlock = some g → g ≠ w.heap.size + 1 := fun g hg => by
        have e : g6 = g := by simpa [Value.ownBlock] using hg
        omega
      have hrow : (w6.setCell ⟨w.heap.size + 1, 0, none⟩ (.slice (some ⟨g6, 0, none⟩) ((vl (pre.map El.t)).length + 1) c6)).ownsRow W0.heap.size 3 1 (.slice (some ⟨g6, 0, none⟩) ((vl (pre.map El.t)).length + 1) c6) ((vl (pre.map El.t)).length + 1) (ints (vl (pre.map El.t)) ++ [.int .i64 (vofI x.t)]) :=
        own_stay hown6 (Stay.setCell (S := fun k => k ≠ w.heap.size + 1) _ _ (by simp)) (fun g hg => hng g hg)
      refine ⟨fun k => S k ∨ (w1.heap.size ≤ k ∧ k < w6.heap.size), ⟨fun k hk => .inl (h1.lo k hk), fun k hk => ?_, ⟨_, World.cell?_setCell_same' _ _ _ (by rw [c6']; rfl), ?_, fun g hg => ?_⟩, by rw [World.frozen?_setCell]; exact f6, ((h1.b.alloc h1.b.size _).grown hgrow6 (by simp; omega) (fun k e => by have := hne k e; omega)).setCell (p := ⟨w.heap.size + 1, 0, none⟩) (by simp) _, h1.z⟩, fun k h => h.imp id (fun h => by omega), ?_⟩
      · have : k < w6.heap.size := hk.elim (fun h => by have := h1.hi k h; omega) (fun h => h.2)
        simpa using this
      · rw [e0, List.length_append, ints_append]; exact hrow
      · have e : g6 = g := by simpa [Value.ownBlock] using hg
        subst e
        exact hgS.imp id (fun h => ⟨h, hl6⟩)
      · exact (((Stay.of_below hb1 (fun _ hk _ => hk)).trans (.alloc _ _ _)).trans (.grown hgrow6 (fun k e h => h.elim (fun h => by have := hne k e; omega) (fun h => h (s1 k e))))).trans (.setCell _ _ (fun h => h.elim (fun h => by simp only at h; omega) (fun h => h (h1.lo _ (by simp only; omega)))))
  case done =>
    rintro D xs S W hxs h hK hD hSD
    obtain ⟨v1, c1, r1, s1⟩ := h.v
    rw [hxs] at r1
    have hll : (vl (preT t)).length ≤ 549755813888 := by have := vl_len (preT t); rw [preT_len] at this; omega
    have hfin := vars_comp t
    have h5 := h.b
    have hlt := h.lt
    generalize vl (preT t) = zs at *
    obtain ⟨av, cv, rfl, _⟩ := own_form r1
    have hne : ∀ g, (Value.slice av zs.length cv).ownBlock = some g → W0.heap.size ≤ g := fun g hg => (r1.lt g hg).1
    have hnD : ∀ g, (Value.slice av zs.length cv).ownBlock = some g → g ≠ D := fun g hg e => hSD (e ▸ s1 g hg)
    have SO := sort_any _ av zs zs.length cv W rfl r1 hll
    have HN : Hid _ := hne
    have HD : Hid _ := hnD
    have HF : Hid _ := hfin
    clear hne hnD s1 h hfin
    gi_wp2_with (first
      | (refine ⟨trivial, ?_⟩; gi_at_call 64; refine (callsIn_wide.2 SO).mono ?_; rintro e w2 ⟨rfl, r2, hg2⟩; clear SO; have c2 : w2.cell? ⟨w.heap.size + 1, 0, none⟩ = some (.slice av zs.length cv) := (World.cell?_of_block (hg2.block (w.heap.size + 1) hlt (fun e => by have := HN.out _ e.symm; omega))).trans c1; have hb2 : Below w.heap.size w w2 := (h5.grown hg2 h5.size (fun k e => by have := HN.out k e; omega)); have hK2 : w2.heap[D]? = some (.deferred (some [])) := (hg2.block D (Array.getElem?_eq_some_iff.1 hK).1 (fun e => HD.out _ e.symm rfl)).trans hK; have hz2 := hg2.size; have CO := compact_any _ av _ zs.length cv w2 (by simp) r2 (by simpa using hll); clear r1 c1 hK h5 hg2)
      | (refine ⟨trivial, ?_⟩; gi_at_call 65; refine (callsIn_wide.2 CO).mono ?_; rintro e w3 ⟨rfl, r3, hg3⟩; clear CO; have hb3 : Below w.heap.size w w3 := (hb2.grown hg3 hb2.size (fun k e => by have := HN.out k e; omega)); have hK3 : w3.heap[D]? = some (.deferred (some [])) := (hg3.block D (Array.getElem?_eq_some_iff.1 hK2).1 (fun e => HD.out _ e.symm rfl)).trans hK2; clear hg3 hK2 hb2 c2))
    have r4 : (w3.putObj D (.deferred none)).ownsRow w.heap.size 3 1 (.slice av (Lib.compact (zs.mergeSort fun x y => decide (x ≤ y))).length cv) (Lib.compact (zs.mergeSort fun x y => decide (x ≤ y))).length (ints (Lib.compact (zs.mergeSort fun x y => decide (x ≤ y)))) :=
      own_lower (own_stay r3 (Stay.putObj (S := fun k => k ≠ D) _ _ (by simp)) (fun g hg => HD.out g (by cases av with | none => cases hg | some b => exact hg))) (by omega)
    rw [HF.out] at r4 ⊢
    refine ⟨by simp, .inl ⟨_, _, rfl, run_takeDeferred hK3, ?_⟩⟩
    exact ⟨_, results_tmp rfl _ _ _, av, cv, rfl, r4, hb3.trans ((Stay.putObj (S := fun k => k < w.heap.size) w3 _ (by omega)).below hb3.size (fun _ h => h))⟩
  case stop =>
    rintro D c pre S W _ h
    exact h.elim
end Go.Proofs.YthbilahilmmfmabGreat

/- Contracts of the laws' helpers on lists of numbers: whether two are alike, marks, and whether the marks are there. Conditions: at most 1048577 numbers. -/
namespace Go.Proofs.YthbilahilmmfmabGreat
set_option maxRecDepth 100000
open Go.RowKit

theorem grown_trans {a w w' : World} {row : Option Nat} (h : a.grownBy w row) (k : w.grownBy w' row) : a.grownBy w' row :=
  ⟨k.os.trans h.os, k.tape.trans h.tape, k.output.trans h.output, Nat.le_trans h.size k.size, fun i hi hr => (k.block i (Nat.lt_of_lt_of_le hi h.size) hr).trans (h.block i hi hr)⟩

end Go.Proofs.YthbilahilmmfmabGreat

/- Contracts of the laws' marks on a term that owns its memory: nothing else is written. Conditions: terms of at most 549755813888 parts. -/
namespace Go.Proofs.YthbilahilmmfmabGreat
set_option maxRecDepth 100000
open Go.RowKit

/-- Between two worlds only blocks of S have turned. -/
structure Only (S : Nat → Prop) (w w' : World) : Prop where
  os : w'.os = w.os
  tape : w'.tape = w.tape
  output : w'.output = w.output
  size : w'.heap.size = w.heap.size
  block : ∀ x, ¬ S x → w'.heap[x]? = w.heap[x]?

theorem Only.refl (S : Nat → Prop) (w : World) : Only S w w := ⟨rfl, rfl, rfl, rfl, fun _ _ => rfl⟩
theorem Only.trans {S : Nat → Prop} {a b c : World} (h : Only S a b) (k : Only S b c) : Only S a c := ⟨k.os.trans h.os, k.tape.trans h.tape, k.output.trans h.output, k.size.trans h.size, fun x hx => (k.block x hx).trans (h.block x hx)⟩
theorem Only.mono {S S' : Nat → Prop} {a b : World} (h : Only S a b) (hs : ∀ x, S x → S' x) : Only S' a b := ⟨h.os, h.tape, h.output, h.size, fun x hx => h.block x (fun k => hx (hs x k))⟩
theorem Only.setCell {S : Nat → Prop} {a b : World} (h : Only S a b) (p : Addr) (hp : S p.block) (u : Value) : Only S a (b.setCell p u) :=
  ⟨h.os, by simp [h.tape], h.output, by simp [h.size], fun x hx => (Below.heap_setCell b p u x (fun e => hx (e ▸ hp))).trans (h.block x hx)⟩
theorem Only.below {S : Nat → Prop} {a b : World} {B : Nat} (h : Only S a b) (hs : ∀ x, S x → B ≤ x) : Below B a b := ⟨h.os, h.tape, h.output, Nat.le_of_eq h.size.symm, fun x hx => h.block x (fun k => by have := hs x k; omega)⟩
theorem Only.cell {S : Nat → Prop} {a b : World} (h : Only S a b) {p : Addr} (hp : ¬ S p.block) : b.cell? p = a.cell? p := World.cell?_of_block (h.block _ hp)
theorem Only.frozen {S : Nat → Prop} {a b : World} (h : Only S a b) {p : Addr} (hp : ¬ S p.block) : b.frozen? p = a.frozen? p := World.frozen?_of_block (h.block _ hp)

theorem rt_mark {a b : Int} (h : a = b) : Ending.returned (.int .i64 a) = .returned (.int .i64 b) := by rw [h]

/-- What is still to be marked of a row of terms. -/
structure MarkSt (wr : World) (S : Nat → Prop) (b off : Nat) (ts : List TermD) (A : Nat → Option Addr) (C : Nat → Nat) (K : Nat → Nat → Prop) (k : Nat) : Prop where
  cells : ∀ i, (h : i < ts.length) → k ≤ i → wr.cell? ⟨b, off + i * 3, none⟩ = some (.int .i64 ts[i].f) ∧ wr.cell? ⟨b, off + i * 3 + 1, none⟩ = some (.int .i64 ts[i].v) ∧ wr.cell? ⟨b, off + i * 3 + 2, none⟩ = some (.slice (A i) ts[i].kids.length (C i))
  frozen : ∀ j, wr.frozen? ⟨b, j, none⟩ = false
  kid : ∀ i, (h : i < ts.length) → k ≤ i → OwnS wr (K i) (A i) ts[i].kids

theorem MarkSt.next {wr w1 : World} {S : Nat → Prop} {b off : Nat} {ts : List TermD} {A : Nat → Option Addr} {C : Nat → Nat} {K : Nat → Nat → Prop} {k : Nat} (h : MarkSt wr S b off ts A C K k) (hk : k < ts.length)
    (hsub : ∀ i x, i < ts.length → K i x → S x ∧ x ≠ b) (hdis : ∀ i j x, i < ts.length → j < ts.length → i ≠ j → K i x → ¬ K j x) (x y : Value)
    (ho : Only (K k) ((wr.setCell ⟨b, off + k * 3, none⟩ x).setCell ⟨b, off + k * 3 + 1, none⟩ y) w1) : MarkSt w1 S b off ts A C K (k + 1) := by
  have hkb : ¬ K k b := fun e => (hsub k b hk e).2 rfl
  refine ⟨fun i hi hki => ?_, fun j => ?_, fun i hi hki => ?_⟩
  · obtain ⟨c0, c1, c2⟩ := h.cells i hi (by omega)
    have d : ∀ o v, (off + k * 3 ≠ o) → (off + k * 3 + 1 ≠ o) → wr.cell? ⟨b, o, none⟩ = some v → w1.cell? ⟨b, o, none⟩ = some v := by
      intro o v h1 h2 hv
      rw [ho.cell (p := ⟨b, o, none⟩) hkb, World.cell?_setCell_other _ _ _ _ (fun e => h2 (by injection e)), World.cell?_setCell_other _ _ _ _ (fun e => h1 (by injection e))]
      exact hv
    exact ⟨d _ _ (by omega) (by omega) c0, d _ _ (by omega) (by omega) c1, d _ _ (by omega) (by omega) c2⟩
  · rw [ho.frozen (p := ⟨b, j, none⟩) hkb]
    simp only [World.frozen?_setCell]
    exact h.frozen j
  · have hib : ¬ K i b := fun e => (hsub i b hi e).2 rfl
    have o := ((h.kid i hi (by omega)).setCell ⟨b, off + k * 3, none⟩ hib x).setCell ⟨b, off + k * 3 + 1, none⟩ hib y
    exact o.frame (fun z hz => ho.block z (fun e => hdis i k z hi hk (by omega) hz e)) (Nat.le_of_eq ho.size.symm)

end Go.Proofs.YthbilahilmmfmabGreat

/- What lies in memory while the law on a term's variables goes on; marks on lists of numbers that may be nil. Conditions: at most 1048577 numbers. -/
namespace Go.Proofs.YthbilahilmmfmabGreat
set_option maxRecDepth 100000
open Go.RowKit

theorem Rd.ownV {w : World} {base : Nat} {av : Option Addr} {n cap : Nat} {zs : List Int} (hn : n = zs.length) (h : w.ownsRow base 3 1 (.slice av n cap) n (ints zs)) : Rd w av zs := by
  rcases h.2 with ⟨_, h0⟩ | ⟨g, c, cur, hv, _⟩
  · exact .inl (List.length_eq_zero_iff.1 (by omega))
  · cases hv
    exact Rd.own hn h

/-- The middle of the law. -/
structure LSt (w : World) (t : TermD) (a : Option Addr) (c L1 L2 gW cW : Nat) (ag : Option Addr) (cg : Nat) (V G : List Int) (W : World) : Prop where
  bel : Below w.heap.size w W
  p0 : W.cell? ⟨w.heap.size, 0, none⟩ = some (.int .i64 t.f)
  p1 : W.cell? ⟨w.heap.size, 1, none⟩ = some (.int .i64 t.v)
  p2 : W.cell? ⟨w.heap.size, 2, none⟩ = some (.slice a t.kids.length c)
  rW : W.ownsRow (w.heap.size + 1) 3 1 (.slice (some ⟨gW, 0, none⟩) V.length cW) V.length (ints V)
  rG : W.ownsRow (L2 + 1) 3 1 (.slice ag V.length cg) V.length (ints G)
  gw : gW < L1
  lo : w.heap.size < L1
  l12 : L1 ≤ L2
  hi : L2 < W.heap.size

namespace LSt
variable {w : World} {t : TermD} {a : Option Addr} {c L1 L2 gW cW : Nat} {ag : Option Addr} {cg : Nat} {V G : List Int} {W W' : World}
theorem on (h : LSt w t a c L1 L2 gW cW ag cg V G W) (hb : Below W.heap.size W W') : LSt w t a c L1 L2 gW cW ag cg V G W' :=
  ⟨h.bel.trans (hb.mono h.bel.size), keepC hb h.p0, keepC hb h.p1, keepC hb h.p2, own_on h.rW hb, own_on h.rG hb, h.gw, h.lo, h.l12, Nat.lt_of_lt_of_le h.hi hb.size⟩
theorem draw (h : LSt w t a c L1 L2 gW cW ag cg V G W) (q : Nat) : LSt w t a c L1 L2 gW cW ag cg V G (W.drewN q) := h.on (below_drewN (Below.refl _ _) q)
theorem rdW (h : LSt w t a c L1 L2 gW cW ag cg V G W) : Rd W (some ⟨gW, 0, none⟩) V := Rd.own rfl h.rW
theorem rdG (h : LSt w t a c L1 L2 gW cW ag cg V V W) : Rd W ag V := Rd.ownV rfl h.rG
theorem rdM (h : LSt w t a c L1 L2 gW cW ag cg V (upFrom 1 V.length) W) : Rd W ag (upFrom 1 V.length) := Rd.ownV (upFrom_len _ _).symm h.rG
theorem stay {S : Nat → Prop} (h : LSt w t a c L1 L2 gW cW ag cg V G W) (hs : Stay S W W') (h1 : ∀ k, k < L1 → S k) (h2 : ∀ k, L2 < k → S k) : LSt w t a c L1 L2 gW cW ag cg V G W' := by
  have hlo := h.lo
  refine ⟨h.bel.trans (hs.below h.bel.size (fun k hk => h1 k (by omega))), hs.cell h.p0 (h1 _ hlo), hs.cell h.p1 (h1 _ hlo), hs.cell h.p2 (h1 _ hlo), own_stay h.rW hs (fun g hg => ?_), own_stay h.rG hs (fun g hg => h2 g (h.rG.lt g hg).1), h.gw, hlo, h.l12, Nat.lt_of_lt_of_le h.hi hs.size⟩
  have e : gW = g := by simpa [Value.ownBlock] using hg
  exact h1 g (e ▸ h.gw)
/-- The copy's own blocks are written. -/
theorem markX {w0 : World} (h : LSt w t a c L1 L2 gW cW ag cg V G W) (hb : Below W.heap.size W w0) (ho : Only (fun x => L1 ≤ x ∧ x < L2) w0 W') : LSt w t a c L1 L2 gW cW ag cg V G W' :=
  (h.on hb).stay (S := fun x => ¬ (L1 ≤ x ∧ x < L2)) ⟨ho.os, ho.tape, ho.output, Nat.le_of_eq ho.size.symm, fun k _ hk => ho.block k hk⟩ (fun k hk => by omega) (fun k hk => by omega)
/-- The answer's numbers are written. -/
theorem markG {G' : List Int} (h : LSt w t a c L1 L2 gW cW ag cg V G W) (ho : W'.ownsRow (L2 + 1) 3 1 (.slice ag V.length cg) V.length (ints G')) (hg : W.grownBy W' (Value.slice ag V.length cg).ownBlock) : LSt w t a c L1 L2 gW cW ag cg V G' W' := by
  have hlo := h.lo
  have hl := h.l12
  have hgw := h.gw
  have hs : Stay (fun k => k < L1) W W' := .grown hg (fun k e hk => by have := (h.rG.lt k e).1; omega)
  refine ⟨h.bel.trans (hs.below h.bel.size (fun k hk => by omega)), hs.cell h.p0 hlo, hs.cell h.p1 hlo, hs.cell h.p2 hlo, own_stay h.rW hs (fun g hg => ?_), ho, hgw, hlo, hl, Nat.lt_of_lt_of_le h.hi hs.size⟩
  have e : gW = g := by simpa [Value.ownBlock] using hg
  omega
end LSt
end Go.Proofs.YthbilahilmmfmabGreat

/- The variables of a term stand in it once at least, and not more often together than it has parts. Conditions: none. -/
namespace Go.Proofs.YthbilahilmmfmabGreat
set_option maxRecDepth 100000
open Go.RowKit

mutual
theorem cnt_pre (v : Int) : ∀ t : TermD, cntT v t = (vl (preT t)).count v
  | .mk f u ks => by
    have h := cnt_preL v ks
    rw [cntT, preT, h]
    by_cases hf : f = -1
    · by_cases hu : u = v
      · simp [vl, hf, hu, TermD.f, TermD.v]; omega
      · simp [vl, hf, hu, TermD.f, TermD.v]
    · simp [vl, hf, TermD.f]
theorem cnt_preL (v : Int) : ∀ ts : List TermD, cntL v ts = (vl (preL ts)).count v
  | [] => by simp [cntL, preL, vl]
  | t :: ts => by rw [cntL, preL, vl_append, List.count_append, cnt_pre v t, cnt_preL v ts]
end
theorem vars_mem (t : TermD) (v : Int) : v ∈ varsT t [] ↔ v ∈ vl (preT t) := by
  rw [vl_pre]
  simpa using (fold_ss (vl (preT t)) [] .nil).2 v
theorem vars_up (t : TermD) : (varsT t []).Pairwise (· < ·) := by
  rw [vl_pre]
  exact (fold_ss (vl (preT t)) [] .nil).1
theorem vars_cnt {t : TermD} {v : Int} (h : v ∈ varsT t []) : 1 ≤ cntT v t := by
  rw [cnt_pre]
  exact List.count_pos_iff.2 ((vars_mem t v).1 h)
theorem counts_le : ∀ (vs l : List Int), vs.Pairwise (· < ·) → (vs.map (fun v => l.count v)).sum ≤ l.length
  | [], l, _ => by simp
  | v :: vs, l, h => by
    have hv := (List.pairwise_cons.1 h).1
    have ih := counts_le vs (l.filter (fun x => x != v)) (List.pairwise_cons.1 h).2
    have e : vs.map (fun u => (l.filter (fun x => x != v)).count u) = vs.map (fun u => l.count u) := by
      refine List.map_congr_left (fun u hu => ?_)
      exact List.count_filter (by have := hv u hu; simp; omega)
    rw [e] at ih
    have hl : l.length = l.count v + (l.filter (fun x => x != v)).length := by
      clear ih e
      induction l with
      | nil => rfl
      | cons x xs ihx =>
        by_cases hx : x = v
        · subst hx; simp; omega
        · simp [hx]; omega
    rw [List.map_cons, List.sum_cons]
    omega
theorem vars_sum (t : TermD) : ((varsT t []).map (fun v => cntT v t)).sum ≤ partsT t := by
  have h := counts_le (varsT t []) (vl (preT t)) (vars_up t)
  have e : (varsT t []).map (fun v => cntT v t) = (varsT t []).map (fun v => (vl (preT t)).count v) := List.map_congr_left (fun v _ => cnt_pre v t)
  rw [e]
  have := vl_len (preT t)
  have := preT_len t
  omega
/-- The sum as far as the loop has come. -/
theorem sum_take (l : List Nat) (i : Nat) : (l.take i).sum ≤ l.sum := by
  have : l.sum = (l.take i).sum + (l.drop i).sum := by rw [← List.sum_append, List.take_append_drop]
  omega
end Go.Proofs.YthbilahilmmfmabGreat

/- Whether what is put for variables is right: the program's way. Conditions: at most 1048576 parts. -/
namespace Go.Proofs.YthbilahilmmfmabGreat
set_option maxRecDepth 100000
open Go.RowKit

def numP (us : List BindD) : Prop := (∀ i, (h : i < us.length) → 0 ≤ us[i].n ∧ us[i].n ≤ 99) ∧ ∀ i, (h : i + 1 < us.length) → us[i].n < us[i + 1].n
def tokP (ss : List SymD) (us : List BindD) : Prop := ∀ i, (h : i < us.length) → (sigOk ss && decide (partsT us[i].t ≤ 60) && rightT ss us[i].t) = true
def goneP (us : List BindD) : Prop := ∀ i, (h : i < us.length) → ∀ v ∈ varsT us[i].t [], ∀ j, (hj : j < us.length) → us[j].n ≠ v
noncomputable def tb (p : Prop) : Bool := @decide p (Classical.propDecidable p)
theorem tb_true {p : Prop} (h : p) : tb p = true := by unfold tb; exact @decide_eq_true p (Classical.propDecidable p) h
theorem tb_false {p : Prop} (h : ¬ p) : tb p = false := by unfold tb; exact @decide_eq_false p (Classical.propDecidable p) h
theorem rtB_tb {b : Bool} {p : Prop} (h : tb p = b) : Ending.returned (.bool b) = .returned (.bool (tb p)) := by rw [h]

set_option maxHeartbeats 1600000 in
theorem numbersOk_any (p : Nat) (us : List BindD) (a : Option Addr) (c hi : Nat) (w : World) (hl : us.length ≤ 549755813888) (hp : w.cell? ⟨p, 0, none⟩ = some (.slice a us.length c)) (hr : RdU w hi a us) (hhi : hi ≤ w.heap.size) :
    Calls Tryz.prog 35 #[.pointer (some ⟨p, 0, none⟩)] w fun e w' => e = .returned (.bool (tb (numP us))) ∧ Below w.heap.size w w' := by
  have HR : Hid (RdU w hi a us) := hr
  clear hr
  go_enter Tryz.func35, Tryz.ntmps35
  go_wp2_with fail
  go_loopw [3, 11] (fun l i wr => ∃ (k : Nat) (z : Int), i = .int .i64 k ∧ l = .int .i64 z ∧ k ≤ us.length ∧ Below w.heap.size w wr ∧ (0 ≤ z ∧ z ≤ 100) ∧ Hid ((∀ j, (hj : j < us.length) → j < k → 0 ≤ us[j].n ∧ us[j].n ≤ 99) ∧ (∀ j, (hj : j + 1 < us.length) → j + 1 < k → us[j].n < us[j + 1].n) ∧ (k = 0 → z = 0) ∧ (∀ j, (hj : j < us.length) → j + 1 = k → z = us[j].n + 1))) (fun _ i _ => us.length - (intOf i).toNat)
  case atStart => exact ⟨0, 0, rfl, rfl, Nat.zero_le _, Below.refl _ _, by omega, fun j _ h => absurd h (Nat.not_lt_zero _), fun j _ h => absurd h (Nat.not_lt_zero _), fun _ => rfl, fun j _ h => by omega⟩
  case round =>
    obtain ⟨k, z, rfl, rfl, hk, hb, hz, HA⟩ := hrel
    by_cases hk' : k < us.length
    · obtain ⟨b, off, a', c', rfl, hlt, d0, d1, d2, d3, hc', hkr, hzz⟩ := RdU.get (HR.out.on (hb.mono hhi)) hk'
      have hki : (k : Int) < (us.length : Int) := by omega
      have hki0 : (0 : Int) ≤ (k : Int) := by omega
      have hnew := hb.alloc hb.size (.cells #[.int .i64 us[k].n, .int .i64 us[k].t.f, .int .i64 us[k].t.v, .slice a' us[k].t.kids.length c'] 55)
      obtain ⟨x, hx⟩ : ∃ x, x = us[k].n := ⟨_, rfl⟩
      have HX : Hid (x = us[k].n) := hx
      rw [← hx] at d0 hnew
      clear hx hkr hzz hc'
      by_cases h1 : x < z
      · have HF : Hid (¬ numP us) := fun q => by
          obtain ⟨q1, q2⟩ := q
          have hA := HA.out
          have h3 := HX.out
          by_cases hk0 : k = 0
          · have := hA.2.2.1 hk0
            have := (q1 k hk').1
            omega
          · obtain ⟨j, rfl⟩ : ∃ j, k = j + 1 := ⟨k - 1, by omega⟩
            have := hA.2.2.2 j (by omega) rfl
            have := q2 j hk'
            omega
        go_wp2_with fail
        go_ret
        exact ⟨rtB_tb (tb_false HF.out), hnew⟩
      · by_cases h2 : 99 < x
        · have HF : Hid (¬ numP us) := fun q => by have := (q.1 k hk').2; have := HX.out; omega
          go_wp2_with fail
          go_ret
          exact ⟨rtB_tb (tb_false HF.out), hnew⟩
        · go_wp2_with fail
          go_roundw
          case rel => exact ⟨k + 1, x + 1, by go_num, by go_num, by omega, hnew, by omega, fun j hj hjk => by
              rcases Nat.lt_or_ge j k with h | h
              · exact HA.out.1 j hj h
              · have : j = k := by omega
                subst this
                have := HX.out
                omega, fun j hj hjk => by
              rcases Nat.lt_or_ge (j + 1) k with h | h
              · exact HA.out.2.1 j hj h
              · have : j + 1 = k := by omega
                subst this
                have h4 := HA.out.2.2.2 j (by omega) rfl
                have := HX.out
                omega, fun h => by omega, fun j hj hjk => by
              have : j = k := by omega
              subst this
              rw [HX.out]⟩
          case measure => simp [intOf]; omega
    · have HF : Hid (numP us) := ⟨fun j hj => HA.out.1 j hj (by omega), fun j hj => HA.out.2.1 j hj (by omega)⟩
      have hki : ¬ (k : Int) < (us.length : Int) := by omega
      go_wp2_with fail
      go_ret
      exact ⟨rtB_tb (tb_true HF.out), hb⟩

set_option maxHeartbeats 1600000 in
theorem termsOk_any (p : Nat) (sa : Option Addr) (ss : List SymD) (sc : Nat) (hsz : ∀ s ∈ ss, s.name.size ≤ maxLen) (us : List BindD) (a : Option Addr) (c hi : Nat) (w : World) (hpu : partsU us ≤ 549755813887) (hp : w.cell? ⟨p, 0, none⟩ = some (.slice a us.length c)) (hs : RdS w sa ss) (hr : RdU w hi a us) (hhi : hi ≤ w.heap.size) :
    Calls Tryz.prog 36 #[.pointer (some ⟨p, 0, none⟩), .slice sa ss.length sc] w fun e w' => e = .returned (.bool (tb (tokP ss us))) ∧ Below w.heap.size w w' := by
  have hl : us.length ≤ 549755813888 := by unfold partsU at hpu; omega
  have HR : Hid (RdU w hi a us) := hr
  have HS : Hid (RdS w sa ss) := hs
  clear hr hs
  go_enter Tryz.func36, Tryz.ntmps36
  go_wp2_with fail
  go_loopw [12] (fun i wr => ∃ (k : Nat), i = .int .i64 k ∧ k ≤ us.length ∧ Below w.heap.size w wr ∧ Hid (∀ j, (hj : j < us.length) → j < k → (sigOk ss && decide (partsT us[j].t ≤ 60) && rightT ss us[j].t) = true)) (fun i _ => us.length - (intOf i).toNat)
  case atStart => exact ⟨0, rfl, Nat.zero_le _, Below.refl _ _, fun j _ h => absurd h (Nat.not_lt_zero _)⟩
  case round =>
    obtain ⟨k, rfl, hk, hb, HA⟩ := hrel
    by_cases hk' : k < us.length
    · obtain ⟨b, off, a', c', rfl, hlt, d0, d1, d2, d3, hc', hkr, hzz⟩ := RdU.get (HR.out.on (hb.mono hhi)) hk'
      have hki : (k : Int) < (us.length : Int) := by omega
      have hki0 : (0 : Int) ≤ (k : Int) := by omega
      have hpg := partsU_get hk'
      have hpt := partsT_eq us[k].t
      have hnew := hb.alloc hb.size (.cells #[.int .i64 us[k].n, .int .i64 us[k].t.f, .int .i64 us[k].t.v, .slice a' us[k].t.kids.length c'] 55)
      have C := impTermOk_all sa ss sc hsz us[k].t a' c' hi _ (HS.out.below hnew) (by omega) (hkr.on ((Below.refl _ _).alloc (Nat.le_trans hhi hb.size) (.cells #[.int .i64 us[k].n, .int .i64 us[k].t.f, .int .i64 us[k].t.v, .slice a' us[k].t.kids.length c'] 55))) (Nat.le_trans hhi hnew.size) hc'
      clear hkr hzz hpg hpt
      cases ht : (sigOk ss && decide (partsT us[k].t ≤ 60) && rightT ss us[k].t) with
      | false =>
        rw [ht] at C
        have HF : Hid (¬ tokP ss us) := fun q => by have := q k hk'; rw [ht] at this; cases this
        clear ht
        go_wp2_with (go_at_call 47; refine C.mono ?_; rintro e w1 ⟨rfl, hb1⟩; clear C)
        go_ret
        exact ⟨rtB_tb (tb_false HF.out), hnew.trans (hb1.mono hnew.size)⟩
      | true =>
        rw [ht] at C
        have HT : Hid _ := ht
        clear ht
        go_wp2_with (go_at_call 47; refine C.mono ?_; rintro e w1 ⟨rfl, hb1⟩; clear C)
        go_roundw
        case rel => exact ⟨k + 1, by go_num, by omega, hnew.trans (hb1.mono hnew.size), fun j hj hjk => by
          rcases Nat.lt_or_ge j k with h | h
          · exact HA.out j hj h
          · have : j = k := by omega
            subst this
            exact HT.out⟩
        case measure => simp [intOf]; omega
    · have HF : Hid (tokP ss us) := fun j hj => HA.out j hj (by omega)
      have hki : ¬ (k : Int) < (us.length : Int) := by omega
      go_wp2_with fail
      go_ret
      exact ⟨rtB_tb (tb_true HF.out), hb⟩
end Go.Proofs.YthbilahilmmfmabGreat

/- Whether what is put for variables is right: the program's way, whole. Conditions: at most 1048576 parts. -/
namespace Go.Proofs.YthbilahilmmfmabGreat
set_option maxRecDepth 100000
open Go.RowKit

set_option maxHeartbeats 3200000 in
theorem gone_any (p : Nat) (us : List BindD) (a : Option Addr) (c hi : Nat) (w : World) (hpu : partsU us ≤ 1048576) (hp : w.cell? ⟨p, 0, none⟩ = some (.slice a us.length c)) (hr : RdU w hi a us) (hhi : hi ≤ w.heap.size) :
    Calls Tryz.prog 37 #[.pointer (some ⟨p, 0, none⟩)] w fun e w' => e = .returned (.bool (tb (goneP us))) ∧ Below w.heap.size w w' := by
  have hl : us.length ≤ 549755813888 := by unfold partsU at hpu; omega
  have HR : Hid (RdU w hi a us) := hr
  have HP : Hid _ := hp
  clear hr
  go_enter Tryz.func37, Tryz.ntmps37
  go_wp2_with fail
  clear hp
  go_loopw [14] (fun i wr => ∃ (k : Nat), i = .int .i64 k ∧ k ≤ us.length ∧ Below w.heap.size w wr ∧ Hid (∀ i, (h : i < us.length) → i < k → ∀ v ∈ varsT us[i].t [], ∀ j, (hj : j < us.length) → us[j].n ≠ v)) (fun i _ => us.length - (intOf i).toNat)
  case atStart => exact ⟨0, rfl, Nat.zero_le _, Below.refl _ _, fun j _ h => absurd h (Nat.not_lt_zero _)⟩
  case round =>
    obtain ⟨k, rfl, hk, hb, HA⟩ := hrel
    by_cases hk' : k < us.length
    · obtain ⟨b, off, a', c', rfl, hlt, d0, d1, d2, d3, hc', hkr, hzz⟩ := RdU.get (HR.out.on (hb.mono hhi)) hk'
      have hki : (k : Int) < (us.length : Int) := by omega
      have hki0 : (0 : Int) ≤ (k : Int) := by omega
      have hpg := partsU_get hk'
      have hpt := partsT_eq us[k].t
      have hbx : Below wr.heap.size wr (wr.alloc (.cells #[.int .i64 us[k].n, .int .i64 us[k].t.f, .int .i64 us[k].t.v, .slice a' us[k].t.kids.length c'] 55)) := (Below.refl _ _).alloc (Nat.le_refl _) _
      have hnew := hb.trans (hbx.mono hb.size)
      have C := impVarsOf_any us[k].t a' c' hi _ (by omega) (hkr.on (hbx.mono (Nat.le_trans hhi hb.size))) (Nat.le_trans hhi hnew.size) hc'
      have hvl : (varsT us[k].t []).length ≤ partsT us[k].t := by simpa using varsT_len us[k].t []
      have HV : Hid (∀ zs, zs = varsT us[k].t [] → (∀ v ∈ zs, ∀ j, (hj : j < us.length) → us[j].n ≠ v) → ∀ v ∈ varsT us[k].t [], ∀ j, (hj : j < us.length) → us[j].n ≠ v) := fun zs e h => e ▸ h
      have HV2 : Hid (∀ zs, zs = varsT us[k].t [] → ∀ v ∈ zs, ∀ j, (hj : j < us.length) → us[j].n = v → ¬ goneP us) := fun zs e v hv j hj e2 q => q k hk' v (e ▸ hv) j hj e2
      obtain ⟨zs, hzs⟩ : ∃ zs, zs = varsT us[k].t [] := ⟨_, rfl⟩
      have HZ : Hid (zs = varsT us[k].t []) := hzs
      rw [← hzs] at C hvl
      clear hzs hkr hzz hpg hpt
      have hzl : zs.length ≤ 549755813888 := by have := partsU_get hk'; have := partsT_eq us[k].t; omega
      clear hvl
      go_wp2_with (go_at_call 48; refine C.mono ?_; rintro e w1 ⟨av, cv, rfl, ho1, hb1⟩; clear C)
      have hB1 := hnew.trans (hb1.mono hnew.size)
      have hrd : Rd w1 av zs := Rd.ownV rfl ho1
      clear ho1 hb1 hnew hbx d0 d1 d2 d3
      go_loopw [22] (fun i wr => ∃ (m : Nat), i = .int .i64 m ∧ m ≤ zs.length ∧ Below w1.heap.size w1 wr ∧ Hid (∀ q, (h : q < zs.length) → q < m → ∀ j, (hj : j < us.length) → us[j].n ≠ zs[q])) (fun i _ => zs.length - (intOf i).toNat)
      case atStart => exact ⟨0, rfl, Nat.zero_le _, Below.refl _ _, fun j _ h => absurd h (Nat.not_lt_zero _)⟩
      case round =>
        obtain ⟨m, rfl, hm, hbm, HM⟩ := hrel
        have hBm := hB1.trans (hbm.mono hB1.size)
        by_cases hm' : m < zs.length
        · rcases hrd.below hbm with h | ⟨b2, off2, rfl, hbl, hcz⟩
          · rw [h] at hm'; simp at hm'
          · have hck := hcz m hm'
            rw [List.getElem?_eq_getElem hm', Option.getD_some] at hck
            have hmi : (m : Int) < (zs.length : Int) := by omega
            have hmi0 : (0 : Int) ≤ (m : Int) := by omega
            have CF := find_any p us (some ⟨b, off, none⟩) c hi zs[m] wr hl (keepC hBm HP.out) (HR.out.on (hBm.mono hhi)) (Nat.le_trans hhi hBm.size)
            have HQ : Hid (zs[m] ∈ zs) := List.getElem_mem hm'
            clear hcz
            go_upto_region 8 with (go_at_call 49; refine CF.mono ?_; rintro e w2 ⟨hb2, hc⟩; have hB2 := hBm.trans (hb2.mono hBm.size); clear CF; rcases hc with ⟨q, hq, hqn, hlow, rfl⟩ | ⟨hnone, rfl⟩)
            · have HF : Hid (¬ goneP us) := HV2.out zs HZ.out zs[m] HQ.out q hq hqn
              clear hqn hlow
              go_wp2_with fail
              go_ret
              exact ⟨rtB_tb (tb_false HF.out), hB2⟩
            · have HNN : Hid (∀ j, (hj : j < us.length) → us[j].n ≠ zs[m]) := hnone
              clear hnone
              go_wp2_with fail
              go_roundw
              case rel => exact ⟨m + 1, by go_num, by omega, hbm.trans (hb2.mono hbm.size), fun q hq hqm => by
                rcases Nat.lt_or_ge q m with h | h
                · exact HM.out q hq h
                · have : q = m := by omega
                  subst this
                  exact HNN.out⟩
              case measure => simp [intOf]; omega
        · have hmi : ¬ (m : Int) < (zs.length : Int) := by omega
          have HF : Hid (∀ v ∈ varsT us[k].t [], ∀ j, (hj : j < us.length) → us[j].n ≠ v) := HV.out zs HZ.out (fun v hv j hj => by
            obtain ⟨q, hq, e⟩ := List.getElem_of_mem hv
            rw [← e]
            exact HM.out q hq (by omega) j hj)
          go_wp2_with fail
          go_roundw
          case rel => exact ⟨k + 1, by go_num, by omega, hBm, fun i hi' hik => by
            rcases Nat.lt_or_ge i k with h | h
            · exact HA.out i hi' h
            · have : i = k := by omega
              subst this
              exact HF.out⟩
          case measure => simp [intOf]; omega
    · have HF : Hid (goneP us) := fun i hi' => HA.out i hi' (by omega)
      have hki : ¬ (k : Int) < (us.length : Int) := by omega
      go_wp2_with fail
      go_ret
      exact ⟨rtB_tb (tb_true HF.out), hb⟩

set_option maxHeartbeats 1600000 in
theorem impSubOk_any (sa : Option Addr) (ss : List SymD) (sc : Nat) (hsz : ∀ s ∈ ss, s.name.size ≤ maxLen) (us : List BindD) (a : Option Addr) (c hi : Nat) (w : World) (hpu : partsU us ≤ 1048576) (hs : RdS w sa ss) (hr : RdU w hi a us) (hhi : hi ≤ w.heap.size) :
    Calls Tryz.prog 24 #[.slice sa ss.length sc, .slice a us.length c] w fun e w' => e = .returned (.bool (tb (numP us ∧ tokP ss us ∧ goneP us))) ∧ Below w.heap.size w w' := by
  have hl : us.length ≤ 549755813888 := by unfold partsU at hpu; omega
  have h0 : Below w.heap.size w (w.alloc (.cells #[.slice a us.length c] 68)) := (Below.refl _ _).alloc (Nat.le_refl _) _
  have cp : (w.alloc (.cells #[.slice a us.length c] 68)).cell? ⟨w.heap.size, 0, none⟩ = some (.slice a us.length c) := by simp [go_sem]
  have C1 := numbersOk_any w.heap.size us a c hi _ hl cp (hr.on (h0.mono hhi)) (Nat.le_trans hhi h0.size)
  have C2 := fun (W' : World) (h : Below (w.alloc (.cells #[.slice a us.length c] 68)).heap.size (w.alloc (.cells #[.slice a us.length c] 68)) W') => termsOk_any w.heap.size sa ss sc hsz us a c hi W' (by omega) (keepC h cp) (hs.below (h0.trans (h.mono h0.size))) (hr.on ((h0.trans (h.mono h0.size)).mono hhi)) (Nat.le_trans (Nat.le_trans hhi h0.size) h.size)
  have C3 := fun (W' : World) (h : Below (w.alloc (.cells #[.slice a us.length c] 68)).heap.size (w.alloc (.cells #[.slice a us.length c] 68)) W') => gone_any w.heap.size us a c hi W' hpu (keepC h cp) (hr.on ((h0.trans (h.mono h0.size)).mono hhi)) (Nat.le_trans (Nat.le_trans hhi h0.size) h.size)
  have H1 : Hid (tb (numP us ∧ tokP ss us ∧ goneP us) = (tb (numP us) && tb (tokP ss us) && tb (goneP us))) := by
    show _ = _
    by_cases h1 : numP us
    · by_cases h2 : tokP ss us
      · by_cases h3 : goneP us
        · rw [tb_true ⟨h1, h2, h3⟩, tb_true h1, tb_true h2, tb_true h3]; rfl
        · rw [tb_false (fun q => h3 q.2.2), tb_true h1, tb_true h2, tb_false h3]; rfl
      · rw [tb_false (fun q => h2 q.2.1), tb_true h1, tb_false h2]; rfl
    · rw [tb_false (fun q => h1 q.1), tb_false h1]; rfl
  rw [H1.out]
  generalize tb (numP us) = b1 at C1 ⊢
  generalize tb (tokP ss us) = b2 at C2 ⊢
  generalize tb (goneP us) = b3 at C3 ⊢
  clear H1 hr hs
  cases b1
  · go_enter Tryz.func24, Tryz.ntmps24
    go_wp2_with (go_at_call 35; refine C1.mono ?_; rintro e w1 ⟨rfl, hb1⟩; clear C1)
    go_ret
    exact ⟨rfl, h0.trans (hb1.mono h0.size)⟩
  · cases b2
    · go_enter Tryz.func24, Tryz.ntmps24
      go_wp2_with (first
        | (go_at_call 35; refine C1.mono ?_; rintro e w1 ⟨rfl, hb1⟩; clear C1)
        | (go_at_call 36; refine (C2 w1 hb1).mono ?_; rintro e w2 ⟨rfl, hb2⟩; have hB2 := hb1.trans (hb2.mono hb1.size); clear C2))
      go_ret
      exact ⟨rfl, h0.trans (hB2.mono h0.size)⟩
    · go_enter Tryz.func24, Tryz.ntmps24
      go_wp2_with (first
        | (go_at_call 35; refine C1.mono ?_; rintro e w1 ⟨rfl, hb1⟩; clear C1)
        | (go_at_call 36; refine (C2 w1 hb1).mono ?_; rintro e w2 ⟨rfl, hb2⟩; have hB2 := hb1.trans (hb2.mono hb1.size); clear C2)
        | (go_at_call 37; refine (C3 w2 hB2).mono ?_; rintro e w3 ⟨rfl, hb3⟩; have hB3 := hB2.trans (hb3.mono hB2.size); clear C3))
      go_ret
      exact ⟨by simp, h0.trans (hB3.mono h0.size)⟩
end Go.Proofs.YthbilahilmmfmabGreat

/- Contracts of the specification's functions on lists of functions. Conditions: at most 1048577 functions, names of at most 1048576 bytes. -/
namespace Go.Proofs.YthbilahilmmfmabGreat
set_option maxRecDepth 100000
open Go.RowKit

set_option maxHeartbeats 800000 in
theorem specSymOf_any (a : Option Addr) (ss : List SymD) (n cap : Nat) (nm : ByteArray) (w : World) (hn : n = ss.length) (hr : RdS w a ss) (hl : ss.length ≤ 1048577) :
    Calls Tryz.prog 55 #[.slice a n cap, .string nm] w fun e w' => e = .returned (.int .i64 (symOf ss nm)) ∧ w' = w := by
  subst hn
  rcases hr with rfl | ⟨b, off, rfl, hlt, hc⟩
  · go_enter Tryz.func55, Tryz.ntmps55
    go_wp2
    refine wp_loop_rounds 1 ?_
    rw [rounds_succ]
    go_wp2
    go_ret
    exact ⟨rfl, rfl⟩
  · go_enter Tryz.func55, Tryz.ntmps55
    go_wp2
    go_loop [5] (fun i => ∃ k : Nat, k ≤ ss.length ∧ i = .int .i64 k ∧ Hid (∀ j, (h : j < ss.length) → j < k → (ss[j].name.toList == nm.toList) = false)) (fun i => ss.length - (intOf i).toNat)
    case atStart => exact ⟨0, Nat.zero_le _, rfl, fun j _ hj => absurd hj (by omega)⟩
    case round =>
      obtain ⟨k, hk, rfl, H0⟩ := hrel
      by_cases hk' : k < ss.length
      · obtain ⟨c0, c1, c2⟩ := hc k hk'
        clear hc
        go_wp2
        · go_ret
          exact ⟨ret_int (symOf_hit hk' (fun j h hj => H0.out j h hj) (by assumption)).symm, rfl⟩
        · have hf : (ss[k].name.toList == nm.toList) = false := by assumption
          go_round
          case rel => exact ⟨k + 1, by omega, by go_num, fun j h hj => by
            by_cases e : j = k
            · subst e; exact hf
            · exact H0.out j h (by omega)⟩
          case measure => simp [intOf]; omega
      · go_wp2
        go_ret
        exact ⟨ret_int (symOf_none fun j hj => H0.out j hj (by omega)).symm, rfl⟩

set_option maxHeartbeats 1600000 in
theorem specNameOk_any (s : ByteArray) (w : World) (hs : s.size ≤ 9223372036854775806) :
    Calls Tryz.prog 54 #[.string s] w fun e w' => e = .returned (.bool (nameOk s)) ∧ w' = w := by
  go_enter Tryz.func54, Tryz.ntmps54
  go_wp2
  go_loop [3] (fun i => ∃ k : Nat, k ≤ s.size ∧ i = .int .i64 k ∧ Hid (chsOk s k = true)) (fun i => s.size - (intOf i).toNat)
  case atStart => exact ⟨0, Nat.zero_le _, rfl, rfl⟩
  case round =>
    obtain ⟨k, hk, rfl, HA⟩ := hrel
    by_cases hk' : k < s.size
    · have HG : Hid (chOk k s[k] = true → chsOk s (k + 1) = true) := fun h => by rw [chsOk, HA.out, dif_pos hk', h]; rfl
      have HB : Hid (chOk k s[k] = false → nameOk s = false) := chs_bad s hk'
      rcases (show ((97 : Int) ≤ (s[k].toNat : Int) ∧ (s[k].toNat : Int) ≤ 122) ∨ (122 : Int) < (s[k].toNat : Int) ∨ ((57 : Int) < (s[k].toNat : Int) ∧ (s[k].toNat : Int) < 97) ∨ ((48 : Int) ≤ (s[k].toNat : Int) ∧ (s[k].toNat : Int) ≤ 57) ∨ (s[k].toNat : Int) < 48 by omega) with ⟨h1, h2⟩ | h1 | ⟨h1, h2⟩ | ⟨h1, h2⟩ | h1
      · have HC : Hid (chsOk s (k + 1) = true) := HG.out (by simp [chOk]; omega)
        go_wp2
        go_round
        case rel => exact ⟨k + 1, by omega, by go_num, HC⟩
        case measure => simp [intOf]; omega
      · have HC : Hid (nameOk s = false) := HB.out (by simp [chOk]; omega)
        have hd1 : decide ((s[k].toNat : Int) ≤ 122) = false := by simp; omega
        have hd2 : decide ((s[k].toNat : Int) ≤ 57) = false := by simp; omega
        by_cases hk0 : (0 : Int) < (k : Int)
        all_goals
          go_wp2
          go_ret
          exact ⟨ret_bool HC.out.symm, rfl⟩
      · have HC : Hid (nameOk s = false) := HB.out (by simp [chOk]; omega)
        have hd2 : decide ((s[k].toNat : Int) ≤ 57) = false := by simp; omega
        by_cases hk0 : (0 : Int) < (k : Int)
        all_goals
          go_wp2
          go_ret
          exact ⟨ret_bool HC.out.symm, rfl⟩
      · by_cases hk0 : (0 : Int) < (k : Int)
        · have HC : Hid (chsOk s (k + 1) = true) := HG.out (by simp [chOk]; omega)
          have hd2 : decide ((s[k].toNat : Int) ≤ 57) = true := by simp; omega
          go_wp2
          go_round
          case rel => exact ⟨k + 1, by omega, by go_num, HC⟩
          case measure => simp [intOf]; omega
        · have HC : Hid (nameOk s = false) := HB.out (by simp [chOk]; omega)
          go_wp2
          go_ret
          exact ⟨ret_bool HC.out.symm, rfl⟩
      · have HC : Hid (nameOk s = false) := HB.out (by simp [chOk]; omega)
        by_cases hk0 : (0 : Int) < (k : Int)
        all_goals
          go_wp2
          go_ret
          exact ⟨ret_bool HC.out.symm, rfl⟩
    · have e : k = s.size := by omega
      have HC : Hid (chsOk s s.size = true) := by rw [← e]; exact HA
      clear e HA
      by_cases h1 : (1 : Int) ≤ (s.size : Int)
      · have HN : Hid (nameOk s = decide ((s.size : Int) ≤ 8)) := name_pos HC.out h1
        go_wp2_with go_in
        go_ret
        exact ⟨ret_bool HN.out.symm, rfl⟩
      · have HN : Hid (nameOk s = false) := name_neg h1
        go_wp2_with go_in
        go_ret
        exact ⟨ret_bool HN.out.symm, rfl⟩

set_option maxHeartbeats 3200000 in
theorem specSigOk_any (a : Option Addr) (ss : List SymD) (n cap : Nat) (w : World) (hn : n = ss.length) (hr : RdS w a ss) (hl : ss.length ≤ 1048577) (hnm : ∀ s ∈ ss, s.name.size ≤ 1048576) :
    Calls Tryz.prog 40 #[.slice a n cap] w fun e w' => e = .returned (.bool (sigOk ss)) ∧ w' = w := by
  subst hn
  have HR : Hid (RdS w a ss) := hr
  rcases hr with rfl | ⟨b, off, rfl, hlt, hc⟩
  · go_enter Tryz.func40, Tryz.ntmps40
    go_wp2
    refine wp_loop_rounds 1 ?_
    rw [rounds_succ]
    go_wp2_with go_in
    go_ret
    exact ⟨rfl, rfl⟩
  · go_enter Tryz.func40, Tryz.ntmps40
    go_wp2
    go_loop [3] (fun i => ∃ k : Nat, k ≤ ss.length ∧ i = .int .i64 k ∧ Hid (goodTo ss k = true)) (fun i => ss.length - (intOf i).toNat)
    case atStart => exact ⟨0, Nat.zero_le _, rfl, rfl⟩
    case round =>
      obtain ⟨k, hk, rfl, HA⟩ := hrel
      by_cases hk' : k < ss.length
      · obtain ⟨c0, c1, c2⟩ := hc k hk'
        have hsz := hnm ss[k] (List.getElem_mem hk')
        have NM := specNameOk_any ss[k].name w (by omega)
        have SO := specSymOf_any (some ⟨b, off, none⟩) ss _ cap ss[k].name w rfl HR.out hl
        have HB : Hid (goodAt ss k ss[k] = false → sigOk ss = false) := sig_bad hk'
        have HG : Hid (goodAt ss k ss[k] = true → goodTo ss (k + 1) = true) := good_next hk' HA.out
        have DG : Hid (goodAt ss k ss[k] = (nameOk ss[k].name && (symOf ss ss[k].name == (k : Int)) && (decide (0 ≤ ss[k].ar) && decide (ss[k].ar ≤ 3)) && (!ss[k].ac || ss[k].ar == 2))) := rfl
        generalize hav : ss[k].ar = av at c1 DG
        generalize hcv : ss[k].ac = cv at c2 DG
        generalize hnv : ss[k].name = nv at c0 NM SO DG
        clear hc hnm hsz hav hcv hnv
        cases hN : nameOk nv with
        | false =>
          rw [hN] at NM DG
          have HC : Hid (sigOk ss = false) := HB.out (by rw [DG.out]; rfl)
          clear HB HG DG SO hN
          go_wp2_with (go_at_call 54; refine NM.mono ?_; rintro e w' ⟨rfl, hw⟩; subst w')
          go_ret
          exact ⟨ret_bool HC.out.symm, rfl⟩
        | true =>
          rw [hN] at NM DG
          clear hN
          generalize symOf ss nv = so at SO DG
          by_cases hS : so = (k : Int)
          · subst hS
            by_cases h3 : 0 ≤ av ∧ av ≤ 3
            · obtain ⟨h31, h32⟩ := h3
              cases cv with
              | false =>
                have HC : Hid (goodTo ss (k + 1) = true) := HG.out (by rw [DG.out]; simp; omega)
                clear HB HG DG
                go_wp2_with (first | (go_at_call 54; refine NM.mono ?_; rintro e w' ⟨rfl, hw⟩; subst w') | (go_at_call 55; refine SO.mono ?_; rintro e w' ⟨rfl, hw⟩; subst w') | (go_at_call 30; go_in))
                go_round
                case rel => exact ⟨k + 1, by omega, by go_num, HC⟩
                case measure => simp [intOf]; omega
              | true =>
                by_cases h2 : av = 2
                · subst h2
                  have HC : Hid (goodTo ss (k + 1) = true) := HG.out (by rw [DG.out]; simp)
                  clear HB HG DG
                  go_wp2_with (first | (go_at_call 54; refine NM.mono ?_; rintro e w' ⟨rfl, hw⟩; subst w') | (go_at_call 55; refine SO.mono ?_; rintro e w' ⟨rfl, hw⟩; subst w') | (go_at_call 30; go_in))
                  go_round
                  case rel => exact ⟨k + 1, by omega, by go_num, HC⟩
                  case measure => simp [intOf]; omega
                · have HC : Hid (sigOk ss = false) := HB.out (by rw [DG.out]; simp [h2])
                  have h2' : (av != 2) = true := by simpa using h2
                  clear HB HG DG h2
                  go_wp2_with (first | (go_at_call 54; refine NM.mono ?_; rintro e w' ⟨rfl, hw⟩; subst w') | (go_at_call 55; refine SO.mono ?_; rintro e w' ⟨rfl, hw⟩; subst w') | (go_at_call 30; go_in))
                  go_ret
                  exact ⟨ret_bool HC.out.symm, rfl⟩
            · have HC : Hid (sigOk ss = false) := HB.out (by rw [DG.out]; simp; omega)
              clear HB HG DG
              rcases (show av < 0 ∨ 3 < av by omega) with h3 | h3
              all_goals
                go_wp2_with (first | (go_at_call 54; refine NM.mono ?_; rintro e w' ⟨rfl, hw⟩; subst w') | (go_at_call 55; refine SO.mono ?_; rintro e w' ⟨rfl, hw⟩; subst w') | (go_at_call 30; go_in))
                go_ret
                exact ⟨ret_bool HC.out.symm, rfl⟩
          · have HC : Hid (sigOk ss = false) := HB.out (by rw [DG.out]; simp [hS])
            have hS' : (so != (k : Int)) = true := by simpa using hS
            clear HB HG DG hS
            go_wp2_with (first | (go_at_call 54; refine NM.mono ?_; rintro e w' ⟨rfl, hw⟩; subst w') | (go_at_call 55; refine SO.mono ?_; rintro e w' ⟨rfl, hw⟩; subst w'))
            go_ret
            exact ⟨ret_bool HC.out.symm, rfl⟩
      · have e : k = ss.length := by omega
        have HC : Hid (goodTo ss ss.length = true) := by rw [← e]; exact HA
        clear e HA hnm
        by_cases h1 : (1 : Int) ≤ (ss.length : Int)
        · by_cases h8 : (ss.length : Int) ≤ 8
          · obtain ⟨c0, c1, c2⟩ := hc 0 (by omega)
            simp only [Nat.zero_mul, Nat.add_zero] at c0 c1 c2
            have hp : (0 : Int) < (ss.length : Int) := by omega
            have HE : Hid (sigOk ss = isTT ss[0]) := sig_end HC.out (by omega) (by omega)
            clear hc
            go_wp2_with (go_at_call 30; go_in)
            · have q3 : ss[0].ac = true := by assumption
              go_ret
              exact ⟨ret_bool (by rw [HE.out, isTT, q3]; simp), rfl⟩
            · have q1 : ss[0].name.toList = [116, 116] := by assumption
              have q2 : ss[0].ar = 0 := by assumption
              have q3 : ¬ ss[0].ac = true := by assumption
              go_ret
              exact ⟨ret_bool (by rw [HE.out, isTT, q1, q2]; simp [q3]), rfl⟩
            · have q2 : ¬ ss[0].ar = 0 := by assumption
              go_ret
              exact ⟨ret_bool (by rw [HE.out, isTT]; simp [q2]), rfl⟩
            · have q1 : ¬ ss[0].name.toList = [116, 116] := by assumption
              go_ret
              exact ⟨ret_bool (by rw [HE.out, isTT]; simp [q1]), rfl⟩
          · have HN : Hid (sigOk ss = false) := by show _ = _; rw [sigOk, decide_eq_false (show ¬ ss.length ≤ 8 by omega)]; simp
            clear hc
            go_wp2_with (go_at_call 30; go_in)
            go_ret
            exact ⟨ret_bool HN.out.symm, rfl⟩
        · have HN : Hid (sigOk ss = false) := by show _ = _; rw [sigOk, decide_eq_false (show ¬ 1 ≤ ss.length by omega)]; simp
          clear hc
          go_wp2_with (go_at_call 30; go_in)
          go_ret
          exact ⟨ret_bool HN.out.symm, rfl⟩
end Go.Proofs.YthbilahilmmfmabGreat

/- Whether a term is right, as the specification tells it. Conditions: terms of at most 549755813888 parts, at most 1048577 functions. -/
namespace Go.Proofs.YthbilahilmmfmabGreat
set_option maxRecDepth 100000
open Go.RowKit Go.BigFrame

theorem rightT_mk (ss : List SymD) (f v : Int) (ks : List TermD) : rightT ss (.mk f v ks) = if f = -1 then decide (0 ≤ v ∧ v ≤ 99) && ks.isEmpty
    else decide (0 ≤ f ∧ f < ss.length) && v == 0 && (if blindAt ss f then decide (2 ≤ ks.length) else (ks.length : Int) == arityAt ss f) && rightL ss f none ks := by rw [rightT]

theorem l1In_any (x lo hi : Int) (w : World) : Calls Tryz.prog 30 #[.int .i64 x, .int .i64 lo, .int .i64 hi] w fun e w' => e = .returned (.bool (decide (lo ≤ x) && decide (x ≤ hi))) ∧ w' = w := by
  by_cases h : lo ≤ x
  · go_enter Tryz.func30, Tryz.ntmps30
    go_wp2
    go_ret
    exact ⟨rtB (by simp [h]), rfl⟩
  · go_enter Tryz.func30, Tryz.ntmps30
    go_wp2
    go_ret
    exact ⟨rtB (by simp; omega), rfl⟩

set_option maxHeartbeats 3200000 in
theorem l4Right_any (sa : Option Addr) (ss : List SymD) (sc : Nat) (hss : ss.length ≤ 1048577) (N : Nat) : ∀ (t : TermD) (a : Option Addr) (c hi : Nat) (w : World), isW t.f → RdS w sa ss → partsT t ≤ N → N ≤ 549755813888 → RdK w hi a t.kids → hi ≤ w.heap.size →
    Calls Tryz.prog 42 #[.slice sa ss.length sc, .agg #[.int .i64 t.f, .int .i64 t.v, .slice a t.kids.length c]] w fun e w' => e = .returned (.bool (rightT ss t)) ∧ Below w.heap.size w w' := by
  induction N with
  | zero => intro t a c hi w _ _ h; rw [partsT_eq] at h; omega
  | succ N ih =>
    intro t a c hi w hf hs hN hM hr hhi
    obtain ⟨f, v, ks⟩ := t
    simp only [TermD.f, TermD.v, TermD.kids] at hf hr ⊢
    rw [partsT] at hN
    have hlen := partsL_len ks
    have HR : Hid (RdK w hi a ks) := hr
    have HS : Hid (RdS w sa ss) := hs
    have HW0 : Hid _ := rightT_mk ss f v ks
    obtain ⟨W, hW⟩ : ∃ W, W = w.alloc (.cells #[.int .i64 f, .int .i64 v, .slice a ks.length c] 37) := ⟨_, rfl⟩
    have hb0 : Below w.heap.size w W := by rw [hW]; exact (Below.refl w.heap.size w).alloc (Nat.le_refl _) _
    have p0 : W.cell? ⟨w.heap.size, 0, none⟩ = some (.int .i64 f) := by rw [hW]; simp [go_sem]
    have p1 : W.cell? ⟨w.heap.size, 1, none⟩ = some (.int .i64 v) := by rw [hW]; simp [go_sem]
    have p2 : W.cell? ⟨w.heap.size, 2, none⟩ = some (.slice a ks.length c) := by rw [hW]; simp [go_sem]
    have hwl0 : w.heap.size < W.heap.size := by rw [hW]; simp
    have hf0 := hf.1
    have hf1 := hf.2
    clear hf hr
    by_cases hv : f = -1
    · have HW : Hid (rightT ss (.mk f v ks) = (decide (0 ≤ v) && decide (v ≤ 99) && decide (ks.length = 0))) := by
        show _ = _
        rw [HW0.out, if_pos hv]
        cases ks <;> by_cases h1 : 0 ≤ v <;> by_cases h2 : v ≤ 99 <;> simp [h1, h2]
      have hfe : (f == -1) = true := by simp [hv]
      clear HW0 hs hv
      generalize ks.length = m at *
      go_enter Tryz.func42, Tryz.ntmps42
      go_wp2_with go_in
      all_goals
        go_ret
        refine ⟨rtB ?_, by rw [hW] at hb0; exact hb0⟩
        rw [HW.out]
        first
          | (simp; omega)
          | (simp; intros; omega)
          | (by_cases hm : m = 0 <;> simp [*] <;> omega)
          | (by_cases hm : m = 0 <;> simp [*])
    · have hfe : (f == -1) = false := by simp [hv]
      by_cases hin : 0 ≤ f ∧ f < (ss.length : Int)
      · obtain ⟨k, rfl⟩ := Int.eq_ofNat_of_zero_le hin.1
        have hk : k < ss.length := by omega
        have IN := fun w => l1In_any k 0 ((ss.length : Int) - 1) w
        rw [show (decide ((0 : Int) ≤ k) && decide ((k : Int) ≤ (ss.length : Int) - 1)) = true by simp; omega] at IN
        have hki : (k : Int) < (ss.length : Int) := by omega
        have hk0 : (0 : Int) ≤ (k : Int) := by omega
        have hsl : (ss.length : Int) ≤ 1048577 := by omega
        rcases hs with rfl | ⟨b0, o0, rfl, hbl, hcs⟩
        · simp at hk
        · obtain ⟨_, c1, c2⟩ := hcs k hk
          have c2o := c2
          have c1 := keepC hb0 c1
          have c2 := keepC hb0 c2
          have hwr : IntKind.i64.wrap ((ss.length : Int) - 1) = (ss.length : Int) - 1 := by rw [IntKind.wrap_i64]; omega
          have HA : Hid (blindAt ss k = ss[k].ac ∧ arityAt ss k = ss[k].ar) := ⟨blindAt_in hk, arityAt_in hk⟩
          clear hcs hin
          by_cases hv0 : v = 0
          · have hve : (v == 0) = true := by simp [hv0]
            have hvn : (v != 0) = false := by simp [hv0]
            cases hac : ss[k].ac with
            | false =>
              have hnac : (!ss[k].ac) = true := by rw [hac]; rfl
              rw [hac] at HA c2 c2o
              by_cases hea : (ks.length : Int) = ss[k].ar
              · have hne : ((ks.length : Int) == ss[k].ar) = true := by simp [hea]
                have hnn : ((ks.length : Int) != ss[k].ar) = false := by simp [hea]
                have HW : Hid (rightT ss (.mk k v ks) = rightL ss k none ks) := by show _ = _; rw [HW0.out, if_neg hv, HA.out.1, HA.out.2, hve, hne, decide_eq_true (by omega)]; simp
                have cc2 := c2o
                clear HW0 hv hv0 hea
                go_enter Tryz.func42, Tryz.ntmps42
                go_wp2_with fail
                rw [← hW]
                clear hW
                go_quiet ((go_at_call 30; refine Calls.quiet_of_same (IN _)))
                go_wp2_with fail
                go_loopw [5] (fun i wr => ∃ j : Nat, j ≤ ks.length ∧ i = .int .i64 j ∧ Hid (rightL ss k none ks = rightL ss k (if j = 0 then none else ks[j-1]?) (ks.drop j)) ∧ wr.cell? ⟨w.heap.size, 0, none⟩ = some (.int .i64 k) ∧ wr.cell? ⟨w.heap.size, 2, none⟩ = some (.slice a ks.length c) ∧ Below w.heap.size w wr ∧ w.heap.size < wr.heap.size) (fun i _ => ks.length - (intOf i).toNat)
                case atStart => exact ⟨0, Nat.zero_le _, rfl, by show _ = _; simp, p0, p2, below_drewN hb0 _, hwl0⟩
                case round =>
                  obtain ⟨j, hj, rfl, HK, hp0, hp2, hbr, hwl⟩ := hrel
                  clear p0 p1 p2 hb0 hwl0 c1
                  by_cases hj' : j < ks.length
                  · obtain ⟨b, off, a', c', rfl, hlt, d0, d1, d2, hkr⟩ := RdK.kid (HR.out.on (hbr.mono hhi)) hj'
                    have hji : (j : Int) < (ks.length : Int) := by omega
                    have hj0 : (0 : Int) ≤ (j : Int) := by omega
                    have hli : (ks.length : Int) ≤ 549755813888 := by omega
                    have hpg := partsL_get hj'
                    have HD : Hid (ks.drop j = ks[j] :: ks.drop (j + 1)) := List.drop_eq_getElem_cons hj'
                    have g2 : wr.cell? ⟨b0, o0 + k * 3 + 2, none⟩ = some (.bool false) := hbr.cell (p := ⟨b0, o0 + k * 3 + 2, none⟩) hbl |>.trans cc2
                    have IR0 := fun W' (h : Below wr.heap.size wr W') => ih ks[j] a' c' hi W' (RdK.ints HR.out hj').1 (HS.out.below (hbr.trans (h.mono hbr.size))) (by omega) (by omega) (hkr.on (h.mono (Nat.le_trans hhi hbr.size))) (Nat.le_trans hhi (Nat.le_trans hbr.size h.size))
                    cases hrt : rightT ss ks[j] with
                    | false =>
                      have IR : ∀ W', Below wr.heap.size wr W' → Calls Tryz.prog 42 #[.slice (some ⟨b0, o0, none⟩) ss.length sc, .agg #[.int .i64 ks[j].f, .int .i64 ks[j].v, .slice a' ks[j].kids.length c']] W' fun e w' => e = .returned (.bool false) ∧ Below W'.heap.size W' w' := fun W' h => by have := IR0 W' h; rwa [hrt] at this
                      have HF : Hid (rightT ss (.mk k v ks) = false) := by show _ = _; rw [HW.out, HK.out, HD.out, rightL, hrt]; simp
                      clear IR0 HK HD hrt hkr
                      go_wp2_with fail
                      have k0 := cellB hp0
                      have k2 := cellB hp2
                      have k3 := cellB g2
                      have k4 := cellB d0
                      have k5 := cellB d1
                      have k6 := cellB d2
                      refine wp_region_below (by kernel_rfl) (by kernel_rfl) ?_
                      repeat (go_big_quiet_step ((first | (go_at_call 42; refine callsB (IR _ (BW.b _))))))
                      refine wpQuiet_nil ?_
                      intro w2 hw'
                      have hb2 : Below wr.heap.size wr w2 := by obtain ⟨p, rfl⟩ := hw'; exact p.b
                      clear hw'
                      have hB2 : Below w.heap.size w w2 := hbr.trans (hb2.mono hbr.size)
                      have q0 := keepC hb2 hp0
                      have q2 := keepC hb2 hp2
                      clear k0 k2 k3 k4 k5 k6
                      go_wp2_with fail
                      go_ret
                      exact ⟨rtB HF.out.symm, hB2⟩
                    | true =>
                      have IR : ∀ W', Below wr.heap.size wr W' → Calls Tryz.prog 42 #[.slice (some ⟨b0, o0, none⟩) ss.length sc, .agg #[.int .i64 ks[j].f, .int .i64 ks[j].v, .slice a' ks[j].kids.length c']] W' fun e w' => e = .returned (.bool true) ∧ Below W'.heap.size W' w' := fun W' h => by have := IR0 W' h; rwa [hrt] at this
                      have HN : Hid (rightL ss k none ks = rightL ss k (if j + 1 = 0 then none else ks[j + 1 - 1]?) (ks.drop (j + 1))) := by show _ = _; rw [HK.out, HD.out, rightL, hrt, if_neg (by omega : ¬ j + 1 = 0), show j + 1 - 1 = j by omega, List.getElem?_eq_getElem hj']; rw [HA.out.1]; simp
                      clear IR0 HK HD hrt hkr
                      go_wp2_with fail
                      have k0 := cellB hp0
                      have k2 := cellB hp2
                      have k3 := cellB g2
                      have k4 := cellB d0
                      have k5 := cellB d1
                      have k6 := cellB d2
                      refine wp_region_below (by kernel_rfl) (by kernel_rfl) ?_
                      repeat (go_big_quiet_step ((first | (go_at_call 42; refine callsB (IR _ (BW.b _))))))
                      refine wpQuiet_nil ?_
                      intro w2 hw'
                      have hb2 : Below wr.heap.size wr w2 := by obtain ⟨p, rfl⟩ := hw'; exact p.b
                      clear hw'
                      have hB2 : Below w.heap.size w w2 := hbr.trans (hb2.mono hbr.size)
                      have q0 := keepC hb2 hp0
                      have q2 := keepC hb2 hp2
                      clear k0 k2 k3 k4 k5 k6
                      go_wp2_with fail
                      go_roundw
                      case rel => exact ⟨j + 1, by omega, by go_num, HN, q0, q2, hB2, World.block_lt_of_cell? _ _ q0⟩
                      case measure => simp [intOf]; omega
                  · have HE : Hid (rightT ss (.mk k v ks) = true) := by show _ = _; rw [HW.out, HK.out, List.drop_eq_nil_of_le (by omega), rightL]
                    clear HK
                    go_wp2_with fail
                    go_ret
                    exact ⟨rtB HE.out.symm, hbr⟩
              · have hne : ((ks.length : Int) == ss[k].ar) = false := by simp [hea]
                have hnn : ((ks.length : Int) != ss[k].ar) = true := by simp [hea]
                have HW : Hid (rightT ss (.mk k v ks) = false) := by show _ = _; rw [HW0.out, if_neg hv, HA.out.1, HA.out.2, hne]; simp
                clear HW0 hv hv0 HA hea
                go_enter Tryz.func42, Tryz.ntmps42
                go_wp2_with fail
                rw [← hW]
                clear hW
                go_quiet ((go_at_call 30; refine Calls.quiet_of_same (IN _)))
                go_wp2_with fail
                go_ret
                exact ⟨rtB HW.out.symm, below_drewN hb0 _⟩
            | true =>
              have hnac : (!ss[k].ac) = false := by rw [hac]; rfl
              rw [hac] at HA c2 c2o
              by_cases hl2 : ks.length < 2
              · have hl2i : decide ((ks.length : Int) < 2) = true := by simp; omega
                have HW : Hid (rightT ss (.mk k v ks) = false) := by show _ = _; rw [HW0.out, if_neg hv, HA.out.1, if_pos rfl, decide_eq_false (by omega : ¬ 2 ≤ ks.length)]; simp
                clear HW0 hv hv0 HA hl2
                go_enter Tryz.func42, Tryz.ntmps42
                go_wp2_with fail
                rw [← hW]
                clear hW
                go_quiet ((go_at_call 30; refine Calls.quiet_of_same (IN _)))
                go_wp2_with fail
                go_ret
                exact ⟨rtB HW.out.symm, below_drewN hb0 _⟩
              · have hl2i : decide ((ks.length : Int) < 2) = false := by simp; omega
                have HW : Hid (rightT ss (.mk k v ks) = rightL ss k none ks) := by show _ = _; rw [HW0.out, if_neg hv, HA.out.1, if_pos rfl, hve, decide_eq_true (by omega : 2 ≤ ks.length), decide_eq_true (by omega)]; simp
                have cc2 := c2o
                clear HW0 hv hv0 hl2
                go_enter Tryz.func42, Tryz.ntmps42
                go_wp2_with fail
                rw [← hW]
                clear hW
                go_quiet ((go_at_call 30; refine Calls.quiet_of_same (IN _)))
                go_wp2_with fail
                go_loopw [5] (fun i wr => ∃ j : Nat, j ≤ ks.length ∧ i = .int .i64 j ∧ Hid (rightL ss k none ks = rightL ss k (if j = 0 then none else ks[j-1]?) (ks.drop j)) ∧ wr.cell? ⟨w.heap.size, 0, none⟩ = some (.int .i64 k) ∧ wr.cell? ⟨w.heap.size, 2, none⟩ = some (.slice a ks.length c) ∧ Below w.heap.size w wr ∧ w.heap.size < wr.heap.size) (fun i _ => ks.length - (intOf i).toNat)
                case atStart => exact ⟨0, Nat.zero_le _, rfl, by show _ = _; simp, p0, p2, below_drewN hb0 _, hwl0⟩
                case round =>
                  obtain ⟨j, hj, rfl, HK, hp0, hp2, hbr, hwl⟩ := hrel
                  clear p0 p1 p2 hb0 hwl0 c1
                  by_cases hj' : j < ks.length
                  · obtain ⟨b, off, a', c', rfl, hlt, d0, d1, d2, hkr⟩ := RdK.kid (HR.out.on (hbr.mono hhi)) hj'
                    have hji : (j : Int) < (ks.length : Int) := by omega
                    have hj0 : (0 : Int) ≤ (j : Int) := by omega
                    have hli : (ks.length : Int) ≤ 549755813888 := by omega
                    have hpg := partsL_get hj'
                    have HD : Hid (ks.drop j = ks[j] :: ks.drop (j + 1)) := List.drop_eq_getElem_cons hj'
                    have g2 : wr.cell? ⟨b0, o0 + k * 3 + 2, none⟩ = some (.bool true) := hbr.cell (p := ⟨b0, o0 + k * 3 + 2, none⟩) hbl |>.trans cc2
                    have IR0 := fun W' (h : Below wr.heap.size wr W') => ih ks[j] a' c' hi W' (RdK.ints HR.out hj').1 (HS.out.below (hbr.trans (h.mono hbr.size))) (by omega) (by omega) (hkr.on (h.mono (Nat.le_trans hhi hbr.size))) (Nat.le_trans hhi (Nat.le_trans hbr.size h.size))
                    by_cases hkf : ks[j].f = k
                    · have hkfe : (ks[j].f == (k : Int)) = true := by simp [hkf]
                      have HF : Hid (rightT ss (.mk k v ks) = false) := by show _ = _; rw [HW.out, HK.out, HD.out, rightL, HA.out.1, hkfe]; simp
                      clear IR0 HK HD hkr hkf
                      go_wp2_with fail
                      go_quiet ((fail))
                      go_wp2_with fail
                      go_ret
                      exact ⟨rtB HF.out.symm, below_drewN hbr _⟩
                    · have hkfe : (ks[j].f == (k : Int)) = false := by simp [hkf]
                      by_cases hjz : j = 0
                      · have hjn : decide ((0 : Int) < (j : Int)) = false := by simp; omega
                        have hjn2 : decide (0 < j) = false := by simp; omega
                        have HJ : Hid ((if j = 0 then (none : Option TermD) else ks[j-1]?) = none) := by show _ = _; rw [if_pos hjz]
                        clear hjz hkf
                        cases hrt : rightT ss ks[j] with
                        | false =>
                          have IR : ∀ W', Below wr.heap.size wr W' → Calls Tryz.prog 42 #[.slice (some ⟨b0, o0, none⟩) ss.length sc, .agg #[.int .i64 ks[j].f, .int .i64 ks[j].v, .slice a' ks[j].kids.length c']] W' fun e w' => e = .returned (.bool false) ∧ Below W'.heap.size W' w' := fun W' h => by have := IR0 W' h; rwa [hrt] at this
                          have HF : Hid (rightT ss (.mk k v ks) = false) := by show _ = _; rw [HW.out, HK.out, HD.out, rightL, hrt]; simp
                          clear IR0 HK HD hrt hkr
                          go_wp2_with fail
                          have k0 := cellB hp0
                          have k2 := cellB hp2
                          have k3 := cellB g2
                          have k4 := cellB d0
                          have k5 := cellB d1
                          have k6 := cellB d2
                          refine wp_region_below (by kernel_rfl) (by kernel_rfl) ?_
                          repeat (go_big_quiet_step ((first | (go_at_call 42; refine callsB (IR _ (BW.b _))))))
                          refine wpQuiet_nil ?_
                          intro w2 hw'
                          have hb2 : Below wr.heap.size wr w2 := by obtain ⟨p, rfl⟩ := hw'; exact p.b
                          clear hw'
                          have hB2 : Below w.heap.size w w2 := hbr.trans (hb2.mono hbr.size)
                          have q0 := keepC hb2 hp0
                          have q2 := keepC hb2 hp2
                          clear k0 k2 k3 k4 k5 k6
                          go_wp2_with fail
                          go_ret
                          exact ⟨rtB HF.out.symm, hB2⟩
                        | true =>
                          have IR : ∀ W', Below wr.heap.size wr W' → Calls Tryz.prog 42 #[.slice (some ⟨b0, o0, none⟩) ss.length sc, .agg #[.int .i64 ks[j].f, .int .i64 ks[j].v, .slice a' ks[j].kids.length c']] W' fun e w' => e = .returned (.bool true) ∧ Below W'.heap.size W' w' := fun W' h => by have := IR0 W' h; rwa [hrt] at this
                          have HN : Hid (rightL ss k none ks = rightL ss k (if j + 1 = 0 then none else ks[j + 1 - 1]?) (ks.drop (j + 1))) := by show _ = _; rw [HK.out, HD.out, rightL, hrt, if_neg (by omega : ¬ j + 1 = 0), show j + 1 - 1 = j by omega, List.getElem?_eq_getElem hj']; rw [HJ.out, HA.out.1, hkfe]; simp [befO]
                          clear IR0 HK HD hrt hkr
                          go_wp2_with fail
                          have k0 := cellB hp0
                          have k2 := cellB hp2
                          have k3 := cellB g2
                          have k4 := cellB d0
                          have k5 := cellB d1
                          have k6 := cellB d2
                          refine wp_region_below (by kernel_rfl) (by kernel_rfl) ?_
                          repeat (go_big_quiet_step ((first | (go_at_call 42; refine callsB (IR _ (BW.b _))))))
                          refine wpQuiet_nil ?_
                          intro w2 hw'
                          have hb2 : Below wr.heap.size wr w2 := by obtain ⟨p, rfl⟩ := hw'; exact p.b
                          clear hw'
                          have hB2 : Below w.heap.size w w2 := hbr.trans (hb2.mono hbr.size)
                          have q0 := keepC hb2 hp0
                          have q2 := keepC hb2 hp2
                          clear k0 k2 k3 k4 k5 k6
                          go_wp2_with fail
                          go_roundw
                          case rel => exact ⟨j + 1, by omega, by go_num, HN, q0, q2, hB2, World.block_lt_of_cell? _ _ q0⟩
                          case measure => simp [intOf]; omega
                      · obtain ⟨i, rfl⟩ : ∃ i, j = i + 1 := ⟨j - 1, by omega⟩
                        have hi' : i < ks.length := by omega
                        obtain ⟨b9, off9, a9, c9, e9, hlt9, y0, y1, y2, hkr9⟩ := RdK.kid (HR.out.on (hbr.mono hhi)) hi'
                        cases e9
                        have hjn : (0 : Int) < ((i + 1 : Nat) : Int) := by omega
                        have hi0 : (0 : Int) ≤ (i : Int) := by omega
                        have hi1 : (i : Int) < (ks.length : Int) := by omega
                        have hsub : IntKind.i64.wrap (((i + 1 : Nat) : Int) - 1) = (i : Int) := by rw [IntKind.wrap_i64]; omega
                        have hsub2 : IntKind.i64.wrap ((i : Int) + 1 - 1) = (i : Int) := by rw [IntKind.wrap_i64]; omega
                        have hsub3 : IntKind.i64.wrap (i : Int) = (i : Int) := by rw [IntKind.wrap_i64]; omega
                        have HJ : Hid ((if i + 1 = 0 then (none : Option TermD) else ks[i + 1 - 1]?) = some ks[i]) := by show _ = _; rw [if_neg hjz, show i + 1 - 1 = i by omega, List.getElem?_eq_getElem hi']
                        have CB0 := fun W' (h : Below wr.heap.size wr W') => specBefore_any (partsT ks[i + 1]) ks[i + 1] ks[i] a' a9 c' c9 hi W' (Nat.le_refl _) (by omega) (hkr.on (h.mono (Nat.le_trans hhi hbr.size))) (hkr9.on (h.mono (Nat.le_trans hhi hbr.size))) (Nat.le_trans hhi (Nat.le_trans hbr.size h.size))
                        clear hjz hkf
                        cases hbf : befT ks[i + 1] ks[i] with
                        | true =>
                          have CB : ∀ W', Below wr.heap.size wr W' → Calls Tryz.prog 56 #[.agg #[.int .i64 ks[i + 1].f, .int .i64 ks[i + 1].v, .slice a' ks[i + 1].kids.length c'], .agg #[.int .i64 ks[i].f, .int .i64 ks[i].v, .slice a9 ks[i].kids.length c9]] W' fun e w' => e = .returned (.bool true) ∧ Below W'.heap.size W' w' := fun W' h => by have := CB0 W' h; rwa [hbf] at this
                          have HF : Hid (rightT ss (.mk k v ks) = false) := by show _ = _; rw [HW.out, HK.out, HD.out, rightL, HJ.out, HA.out.1, befO, hbf]; simp
                          clear IR0 CB0 HK HD hkr hkr9 hbf
                          go_wp2_with fail
                          have k0 := cellB hp0
                          have k2 := cellB hp2
                          have k3 := cellB g2
                          have k4 := cellB d0
                          have k5 := cellB d1
                          have k6 := cellB d2
                          have k7 := cellB y0
                          have k8 := cellB y1
                          have k9 := cellB y2
                          refine wp_region_below (by kernel_rfl) (by kernel_rfl) ?_
                          repeat (go_big_quiet_step ((go_at_call 56; refine callsB (CB _ (BW.b _)))))
                          refine wpQuiet_nil ?_
                          intro w2 hw'
                          have hb2 : Below wr.heap.size wr w2 := by obtain ⟨p, rfl⟩ := hw'; exact p.b
                          clear hw'
                          have hB2 : Below w.heap.size w w2 := hbr.trans (hb2.mono hbr.size)
                          clear k0 k2 k3 k4 k5 k6 k7 k8 k9
                          go_wp2_with fail
                          go_ret
                          exact ⟨rtB HF.out.symm, hB2⟩
                        | false =>
                          have CB : ∀ W', Below wr.heap.size wr W' → Calls Tryz.prog 56 #[.agg #[.int .i64 ks[i + 1].f, .int .i64 ks[i + 1].v, .slice a' ks[i + 1].kids.length c'], .agg #[.int .i64 ks[i].f, .int .i64 ks[i].v, .slice a9 ks[i].kids.length c9]] W' fun e w' => e = .returned (.bool false) ∧ Below W'.heap.size W' w' := fun W' h => by have := CB0 W' h; rwa [hbf] at this
                          clear CB0 hkr9
                          cases hrt : rightT ss ks[i + 1] with
                          | false =>
                            have IR : ∀ W', Below wr.heap.size wr W' → Calls Tryz.prog 42 #[.slice (some ⟨b0, o0, none⟩) ss.length sc, .agg #[.int .i64 ks[i + 1].f, .int .i64 ks[i + 1].v, .slice a' ks[i + 1].kids.length c']] W' fun e w' => e = .returned (.bool false) ∧ Below W'.heap.size W' w' := fun W' h => by have := IR0 W' h; rwa [hrt] at this
                            have HF : Hid (rightT ss (.mk k v ks) = false) := by show _ = _; rw [HW.out, HK.out, HD.out, rightL, hrt]; simp
                            clear IR0 HK HD hrt hkr hbf
                            go_wp2_with fail
                            have k0 := cellB hp0
                            have k2 := cellB hp2
                            have k3 := cellB g2
                            have k4 := cellB d0
                            have k5 := cellB d1
                            have k6 := cellB d2
                            have k7 := cellB y0
                            have k8 := cellB y1
                            have k9 := cellB y2
                            refine wp_region_below (by kernel_rfl) (by kernel_rfl) ?_
                            repeat (go_big_quiet_step ((first | (go_at_call 42; refine callsB (IR _ (BW.b _))) | (go_at_call 56; refine callsB (CB _ (BW.b _))))))
                            refine wpQuiet_nil ?_
                            intro w2 hw'
                            have hb2 : Below wr.heap.size wr w2 := by obtain ⟨p, rfl⟩ := hw'; exact p.b
                            clear hw'
                            have hB2 : Below w.heap.size w w2 := hbr.trans (hb2.mono hbr.size)
                            have q0 := keepC hb2 hp0
                            have q2 := keepC hb2 hp2
                            clear k0 k2 k3 k4 k5 k6
                            go_wp2_with fail
                            go_ret
                            exact ⟨rtB HF.out.symm, hB2⟩
                          | true =>
                            have IR : ∀ W', Below wr.heap.size wr W' → Calls Tryz.prog 42 #[.slice (some ⟨b0, o0, none⟩) ss.length sc, .agg #[.int .i64 ks[i + 1].f, .int .i64 ks[i + 1].v, .slice a' ks[i + 1].kids.length c']] W' fun e w' => e = .returned (.bool true) ∧ Below W'.heap.size W' w' := fun W' h => by have := IR0 W' h; rwa [hrt] at this
                            have HN : Hid (rightL ss k none ks = rightL ss k (if i + 1 + 1 = 0 then none else ks[i + 1 + 1 - 1]?) (ks.drop (i + 1 + 1))) := by show _ = _; rw [HK.out, HD.out, rightL, hrt, if_neg (by omega : ¬ i + 1 + 1 = 0), show i + 1 + 1 - 1 = i + 1 by omega, List.getElem?_eq_getElem hj']; rw [HJ.out, HA.out.1, hkfe, befO, hbf]; simp
                            clear IR0 HK HD hrt hkr hbf
                            go_wp2_with fail
                            have k0 := cellB hp0
                            have k2 := cellB hp2
                            have k3 := cellB g2
                            have k4 := cellB d0
                            have k5 := cellB d1
                            have k6 := cellB d2
                            have k7 := cellB y0
                            have k8 := cellB y1
                            have k9 := cellB y2
                            refine wp_region_below (by kernel_rfl) (by kernel_rfl) ?_
                            repeat (go_big_quiet_step ((first | (go_at_call 42; refine callsB (IR _ (BW.b _))) | (go_at_call 56; refine callsB (CB _ (BW.b _))))))
                            refine wpQuiet_nil ?_
                            intro w2 hw'
                            have hb2 : Below wr.heap.size wr w2 := by obtain ⟨p, rfl⟩ := hw'; exact p.b
                            clear hw'
                            have hB2 : Below w.heap.size w w2 := hbr.trans (hb2.mono hbr.size)
                            have q0 := keepC hb2 hp0
                            have q2 := keepC hb2 hp2
                            clear k0 k2 k3 k4 k5 k6
                            go_wp2_with fail
                            go_roundw
                            case rel => exact ⟨i + 1 + 1, by omega, by go_num, HN, q0, q2, hB2, World.block_lt_of_cell? _ _ q0⟩
                            case measure => simp [intOf]; omega
                  · have HE : Hid (rightT ss (.mk k v ks) = true) := by show _ = _; rw [HW.out, HK.out, List.drop_eq_nil_of_le (by omega), rightL]
                    clear HK
                    go_wp2_with fail
                    go_ret
                    exact ⟨rtB HE.out.symm, hbr⟩
          · have hve : (v == 0) = false := by simp [hv0]
            have hvn : (v != 0) = true := by simp [hv0]
            have HW : Hid (rightT ss (.mk k v ks) = false) := by show _ = _; rw [HW0.out, if_neg hv, hve]; simp
            clear HW0 hv hv0 HA
            go_enter Tryz.func42, Tryz.ntmps42
            go_wp2_with fail
            rw [← hW]
            clear hW
            go_quiet ((go_at_call 30; refine Calls.quiet_of_same (IN _)))
            go_wp2_with fail
            go_ret
            exact ⟨rtB HW.out.symm, below_drewN hb0 _⟩
      · have HW : Hid (rightT ss (.mk f v ks) = false) := by show _ = _; rw [HW0.out, if_neg hv, decide_eq_false hin]; simp
        have IN := fun w => l1In_any f 0 ((ss.length : Int) - 1) w
        rw [show (decide ((0 : Int) ≤ f) && decide (f ≤ (ss.length : Int) - 1)) = false by simp; omega] at IN
        have hsl : (ss.length : Int) ≤ 1048577 := by omega
        clear HW0 hv hs hin
        go_enter Tryz.func42, Tryz.ntmps42
        go_wp2_with fail
        rw [← hW]
        clear hW
        have hwr : IntKind.i64.wrap ((ss.length : Int) - 1) = (ss.length : Int) - 1 := by rw [IntKind.wrap_i64]; omega
        go_quiet ((go_at_call 30; refine Calls.quiet_of_same (IN _)))
        go_wp2_with fail
        go_ret
        exact ⟨rtB HW.out.symm, below_drewN hb0 _⟩
end Go.Proofs.YthbilahilmmfmabGreat

