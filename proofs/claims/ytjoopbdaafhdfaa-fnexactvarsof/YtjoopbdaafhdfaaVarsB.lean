/- The variables of a term as the program tells them: gathered, sorted, each once. Conditions: terms of at most 1048577 parts. -/
import Derived.Test.YtjoopbdaafhdfaaLoops2
import Derived.Test.YtjoopbdaafhdfaaVarsA
import Derived.Test.YtjoopbdaafhdfaaShelf
import Derived.Sort.OwnSortedInts
import Derived.Lib.OwnBridge
import Derived.Lib.RowBridge
namespace Go.Proofs.Ytjoopbdaafhdfaa
open Go.RowKit Go.Shelf Go.Sort
attribute [local go_sem] Oper.semAt_some

/-- A row of numbers of one's own, sorted. -/
theorem sort_any (base : Nat) (av : Option Addr) (zs : List Int) (n cv : Nat) (w : World) (hn : n = zs.length) (h : w.ownsRow base 3 1 (.slice av n cv) n (ints zs)) (hl : zs.length ≤ 4194304) :
    Calls Try.prog 45 #[.slice av n cv] w fun e w' => e = .returned (.tuple #[]) ∧ w'.ownsRow base 3 1 (.slice av n cv) n (ints (zs.mergeSort fun x y => decide (x ≤ y))) ∧ w.grownBy w' (Value.slice av n cv).ownBlock := by
  subst hn
  rcases h.2 with ⟨hv, h0⟩ | ⟨g, cap, cur, hv, hg, hb, hc1, hc2, hc3, hc4⟩
  · have hz : zs = [] := List.length_eq_zero_iff.1 h0
    subst hz
    obtain ⟨rfl, rfl⟩ : av = none ∧ cv = 0 := by simpa using hv
    refine (Try.slices_Sort_int_none none 0 w).mono ?_
    rintro e w' ⟨rfl, rfl⟩
    exact ⟨rfl, by simpa using h, World.grownBy.refl _ _⟩
  · cases hv
    rw [Nat.mul_one] at hc4
    have hH : Holds (Value.int .i64) w g 0 zs.toArray := holds_of_blockI hb hc4
    refine (Try.slices_Sort_int g 0 cv zs w hH (Array.getElem?_eq_some_iff.1 hb).1 (by omega)).mono ?_
    rintro e w' ⟨rfl, m, os, rfl⟩
    exact ⟨rfl, ownsRow_sortedI (by simp) hg hb hc1 hc2 hc3, grownBy_sortedI _⟩

theorem compact_any (base : Nat) (av : Option Addr) (zs : List Int) (n cv : Nat) (w : World) (hn : n = zs.length) (h : w.ownsRow base 3 1 (.slice av n cv) n (ints zs)) (hl : zs.length ≤ 4194304) :
    Calls Try.prog 46 #[.slice av n cv] w fun e w' => e = .returned (.slice av (Lib.compact zs).length cv) ∧ w'.ownsRow base 3 1 (.slice av (Lib.compact zs).length cv) (Lib.compact zs).length (ints (Lib.compact zs)) ∧ w.grownBy w' (Value.slice av n cv).ownBlock := by
  subst hn
  rcases h.2 with ⟨hv, h0⟩ | ⟨g, cap, cur, hv, hg, hb, hc1, hc2, hc3, hc4⟩
  · have hz : zs = [] := List.length_eq_zero_iff.1 h0
    subst hz
    obtain ⟨rfl, rfl⟩ : av = none ∧ cv = 0 := by simpa using hv
    have e0 : Lib.compact ([] : List Int) = [] := rfl
    rw [e0]
    refine (Try.slices_Compact_int_empty none 0 w).mono ?_
    rintro e w' ⟨rfl, rfl⟩
    exact ⟨rfl, by simpa using h, World.grownBy.refl _ _⟩
  · cases hv
    rw [Nat.mul_one] at hc4
    have hH : Holds (Value.int .i64) w g 0 zs.toArray := holds_of_blockI hb hc4
    have hle := Lib.compact_length_le zs
    refine (Try.slices_Compact_int g 0 cv zs w hH (by omega) hc1).mono ?_
    rintro e w' ⟨rfl, q, rfl⟩
    have := Lib.ownsRow_putRow (enc := Value.int .i64) (q := q) (k := (Lib.compact zs).length) (ys := Lib.compact zs ++ List.replicate (zs.length - (Lib.compact zs).length) 0) h (by simp; omega) (by omega)
    rw [List.take_left] at this
    have hgr := grownBy_sortedI (w := w) (g := g) (n := q) (os := #[]) (Lib.compact zs ++ List.replicate (zs.length - (Lib.compact zs).length) 0).toArray
    have e1 : ∀ u : World, grow u #[] = u := fun u => by simp [grow]
    rw [e1] at hgr
    exact ⟨rfl, this, hgr⟩

theorem vl_snoc (l : List El) (x : El) : vl ((l ++ [x]).map El.t) = vl (l.map El.t) ++ if vofB x.t = true then [vofI x.t] else [] := by
  rw [List.map_append, vl_append]
  congr 1
  by_cases h1 : x.t.f = -1 <;> simp [vl, vofB, vofI, h1]
theorem ints_append (a b : List Int) : ints (a ++ b) = ints a ++ ints b := by simp [ints]

/-- What the loop holds between two rounds: the list that is gathered lies in memory of the call's own. -/
structure VInv (w W0 : World) (pre : List El) (S : Nat → Prop) (W : World) : Prop where
  lo : ∀ k, k < W0.heap.size → S k
  hi : ∀ k, S k → k < W.heap.size
  v : ∃ v, W.cell? ⟨w.heap.size + 1, 0, none⟩ = some v ∧ W.ownsRow W0.heap.size 3 1 v (vl (pre.map El.t)).length (ints (vl (pre.map El.t))) ∧ ∀ g, v.ownBlock = some g → S g
  f : W.frozen? ⟨w.heap.size + 1, 0, none⟩ = false
  b : Below w.heap.size w W
  z : w.heap.size + 1 < W0.heap.size
theorem VInv.lt {w W0 A : World} {pre : List El} {S : Nat → Prop} (h : VInv w W0 pre S A) : w.heap.size + 1 < A.heap.size := h.hi _ (h.lo _ h.z)
theorem VInv.le {w W0 A : World} {pre : List El} {S : Nat → Prop} (h : VInv w W0 pre S A) : W0.heap.size ≤ A.heap.size := by
  have hz := h.z
  have := h.hi (W0.heap.size - 1) (h.lo _ (by omega))
  omega
theorem VInv.stay {w W0 A B : World} {pre : List El} {S : Nat → Prop} (h : VInv w W0 pre S A) (hs : Stay S A B) : VInv w W0 pre S B := by
  have hz := h.z
  have hl := h.lt
  obtain ⟨v, h1, h2, h3⟩ := h.v
  exact ⟨h.lo, fun k hk => Nat.lt_of_lt_of_le (h.hi k hk) hs.size, ⟨v, hs.cell h1 (h.lo _ hz), own_stay h2 hs h3, h3⟩, (hs.frozen hl (h.lo _ hz)).trans h.f, h.b.trans (hs.below h.b.size (fun k hk => h.lo k (by omega))), hz⟩
theorem VInv.more {w W0 A : World} {pre : List El} {S T : Nat → Prop} (h : VInv w W0 pre S A) (hs : ∀ k, S k → T k) (ht : ∀ k, T k → k < A.heap.size) : VInv w W0 pre T A := by
  obtain ⟨v, h1, h2, h3⟩ := h.v
  exact ⟨fun k hk => hs k (h.lo k hk), ht, ⟨v, h1, h2, fun g hg => hs g (h3 g hg)⟩, h.f, h.b, h.z⟩

set_option maxHeartbeats 3200000 in
set_option maxRecDepth 100000 in
theorem impVarsOf_any (t : TermD) (a : Option Addr) (c hi : Nat) (w : World) (hp : partsT t ≤ 4194304) (hr : RdK w hi a t.kids) (hhi : hi ≤ w.heap.size) (hc : t.kids.length ≤ c) :
    Calls Try.prog 21 #[.agg #[.int .i64 t.f, .int .i64 t.v, .slice a t.kids.length c]] w fun e w' => ∃ a' c', e = .returned (.slice a' (varsT t []).length c') ∧ w'.ownsRow w.heap.size 3 1 (.slice a' (varsT t []).length c') (varsT t []).length (ints (varsT t [])) ∧ Below w.heap.size w w' := by
  refine (callsIn_wide (n := 5)).1 ?_
  obtain ⟨i0, hi0, hz0, hz1, hz2⟩ := info_parts Try.info3
  refine callsIn_of_wp_marks Try.func21 rfl trivial ?_ rfl
  simp only [Try.ntmps21, List.size_toArray, List.length_cons, List.length_nil, Nat.reduceAdd, Nat.reduceSub, Array.replicate_succ, Array.replicate_zero, List.push_toArray, List.append_toArray, List.nil_append, List.cons_append]
  gi_wp2_with (refine ⟨trivial, ?_⟩; gi_at_call 43; refine (callsIn_wide.2 (within_any t a c _)).mono ?_; rintro e w' ⟨rfl, rfl⟩)
  obtain ⟨W0, hW0⟩ : ∃ W0, W0 = ((w.alloc (.cells #[.int .i64 t.f, .int .i64 t.v, .slice a t.kids.length c] 26)).alloc (.cells #[.slice none 0 0] 37)).alloc (.cells #[.int .i64 t.f, .int .i64 t.v, .slice a t.kids.length c] 26) := ⟨_, rfl⟩
  have hB0 : Below w.heap.size w W0 := by rw [hW0]; exact (((Below.refl _ _).alloc (Nat.le_refl _) _).alloc (by simp) _).alloc (by simp; omega) _
  have hz : W0.heap.size = w.heap.size + 1 + 1 + 1 := by rw [hW0]; simp
  have v0 : W0.cell? ⟨w.heap.size + 1, 0, none⟩ = some (.slice none 0 0) := by rw [hW0]; simp [go_sem]
  have f0 : W0.frozen? ⟨w.heap.size + 1, 0, none⟩ = false := by rw [hW0]; simp [go_sem]
  have t0 : W0.cell? ⟨w.heap.size + 1 + 1, 0, none⟩ = some (.int .i64 t.f) := by rw [hW0]; simp [go_sem]
  have t1 : W0.cell? ⟨w.heap.size + 1 + 1, 1, none⟩ = some (.int .i64 t.v) := by rw [hW0]; simp [go_sem]
  have t2 : W0.cell? ⟨w.heap.size + 1 + 1, 2, none⟩ = some (.slice a t.kids.length c) := by rw [hW0]; simp [go_sem]
  rw [← hW0]
  clear hW0
  refine wpIn_rangeFunc_priv rfl (by omega) (gf := 64) (lb := #[.pointer (some ⟨w.heap.size + 1 + 1, 0, none⟩)]) rfl trivial (enters_of Try.func64 (by kernel_rfl) rfl)
    (within_seq Fence.wide 4 trivial rfl (by omega) W0 t a c hi w.heap.size (w.heap.size + 1 + 1) hp hc (hr.on (hB0.mono hhi)) hhi hB0.size t0 t1 t2) hB0.size (Below.refl _ _) (fun _ => rfl)
    (fun pre S W => VInv w W0 pre S W) (fun _ _ _ _ => False) (fun pre S A B h hs => h.stay hs)
    (fun _ _ _ _ _ h _ => h) (fun pre S A h => h.hi) (fun k => k < W0.heap.size) (fun _ h => h) ⟨fun _ h => h, fun _ h => h, ⟨_, v0, by simpa [vl, ints] using World.ownsRow_nil W0 W0.heap.size 3 1, fun g hg => by cases hg⟩, f0, hB0, by omega⟩
    (fun pre x S a₁ W => VInv w W0 pre S W ∧ ∃ Bx, BoxEl x Bx S W ∧ a₁ = { tmps := #[.agg #[.int .i64 t.f, .int .i64 t.v, .slice a t.kids.length c], .pointer (some ⟨w.heap.size, 0, none⟩), .slice none 0 0, .pointer (some ⟨w.heap.size + 1, 0, none⟩), .pointer (some ⟨Bx, 0, none⟩), undef, undef, .agg #[.int .i64 t.f, .int .i64 t.v, .slice a t.kids.length c], .func (.func 64) #[] #[.pointer (some ⟨w.heap.size + 1 + 1, 0, none⟩)], .agg #[.int .i64 x.t.f, .int .i64 x.t.v, .slice x.a x.t.kids.length x.c], undef, undef, undef, undef, undef, undef, undef, undef, undef, undef, undef, undef, undef, undef], defers := [] })
    (fun pre x S a₁ A B h hs => by
      obtain ⟨h1, Bx, h2, h3⟩ := h
      exact ⟨h1.stay hs, Bx, h2.stay hs, h3⟩)
    ?assign ?body ?done ?stop
  case assign =>
    intro l pre x S W K hi hlen hK
    dsimp only [El.enc]
    gi_wp2
    refine hK _ (fun k => S k ∨ k = W.heap.size) _ ⟨(hi.stay (.alloc _ _ _)).more (fun _ h => .inl h) (fun k h => h.elim (fun h => by have := hi.hi k h; simp; omega) (fun e => by simp; omega)), W.heap.size, ⟨.inr rfl, ?_, ?_, ?_⟩, by simp⟩ (fun k h => h.imp id (fun e => by omega)) (.alloc _ _ _)
    all_goals simp [go_sem]
  case body =>
    rintro l pre x S a₁ W ⟨h, Bx, hx, rfl⟩ hlen
    have C := variableOf_any x.t x.a x.t.kids.length x.c W
    have x0 := hx.c0
    have x1 := hx.c1
    have x2 := hx.c2
    have hvn := vl_snoc pre x
    have hvl : (vl (pre.map El.t)).length < 4194304 := by have := vl_len (pre.map El.t); simp at this; omega
    cases hvb : vofB x.t with
    | false =>
      rw [hvb] at C hvn
      have e0 : vl ((pre ++ [x]).map El.t) = vl (pre.map El.t) := by rw [hvn]; simp
      have F0 : Hid (∀ w1, Below W.heap.size W w1 → VInv w W0 (pre ++ [x]) S w1 ∧ Stay (fun k => k < w.heap.size ∨ ¬ S k) W w1) := fun w1 hb => by
        have h1 := h.stay (.of_below hb (fun _ hk _ => hk))
        exact ⟨⟨h1.lo, h1.hi, by rw [e0]; exact h1.v, h1.f, h1.b, h1.z⟩, .of_below hb (fun _ hk _ => hk)⟩
      clear hvn hvb e0 h hx
      gi_wp2_with (refine ⟨trivial, ?_⟩; gi_at_call 44; refine (CallsIn.inRound l (callsIn_wide.2 C)).mono ?_; rintro e w1 ⟨rfl, hb1⟩; clear C)
      obtain ⟨q1, q2⟩ := F0.out w1 hb1
      exact ⟨S, q1, fun k h => .inl h, q2⟩
    | true =>
      rw [hvb] at C hvn
      have e0 : vl ((pre ++ [x]).map El.t) = vl (pre.map El.t) ++ [vofI x.t] := by rw [hvn]; simp
      clear hvn hvb
      gi_wp2_with (first
        | (refine ⟨trivial, ?_⟩; gi_at_call 44; refine (CallsIn.inRound l (callsIn_wide.2 C)).mono ?_; rintro e w1 ⟨rfl, hb1⟩; clear C; have h1 := h.stay (.of_below hb1 (fun _ hk _ => hk)); have hle1 := h1.le; obtain ⟨v1, c1, r1, s1⟩ := h1.v; obtain ⟨av, cv, rfl, _⟩ := own_form r1; clear x0 x1 x2 h hx)
        | (gi_at_builtin; (refine wpListIn_append_own_at _ rfl (.tmp 16) (.tmp 18) 37 rfl W0.heap.size 3 i0 (.int .i64 0) 1 8 Try.underlying37 hi0 hz0 hz1 hz2 rfl (by decide) _ _ _ rfl (r1.alloc _) ⟨w1.heap.size, 0, none⟩ 1 1 [.int .i64 (vofI x.t)] rfl rfl (one_new1 _ _ _ _ rfl) (one_cell _) (by unfold maxLen; omega) (by omega) (by simp; omega) ?_; intro v6 w6 hown6 hgrow6 hnil6 hat6; clear hnil6; have HAT : Hid _ := hat6; clear hat6; obtain ⟨g6, c6, rfl, _, hg6, hl6⟩ := own_slot hown6; have hne : ∀ g, (Value.slice av (vl (List.map El.t pre)).length cv).ownBlock = some g → W0.heap.size ≤ g := (fun g hg => (r1.lt g hg).1); have hbk : w6.heap[w.heap.size + 1]? = w1.heap[w.heap.size + 1]? := (hgrow6.block (w.heap.size + 1) (by simp; omega) (fun e => by have := hne _ e.symm; omega)).trans (Below.heap_alloc _ _ _ h1.lt); have c6' : w6.cell? ⟨w.heap.size + 1, 0, none⟩ = some (.slice av (vl (List.map El.t pre)).length cv) := (World.cell?_of_block hbk).trans c1; have f6 : w6.frozen? ⟨w.heap.size + 1, 0, none⟩ = false := (World.frozen?_of_block hbk).trans h1.f; clear hbk)))
      have hz6 := hgrow6.size
      simp only [World.size_alloc] at hz6
      have hz1' := hb1.size
      have hgS : S g6 ∨ w1.heap.size ≤ g6 := by
        rcases HAT.out with e | e
        · exact .inl (s1 g6 e.symm)
        · have : g6 = w1.heap.size + 1 := by simpa [Value.ownBlock] using e
          exact .inr (by omega)
      have hng : ∀ g, (Value.slice (some ⟨g6, 0, none⟩) ((vl (pre.map El.t)).length + 1) c6).ownBlock = some g → g ≠ w.heap.size + 1 := fun g hg => by
        have e : g6 = g := by simpa [Value.ownBlock] using hg
        omega
      have hrow : (w6.setCell ⟨w.heap.size + 1, 0, none⟩ (.slice (some ⟨g6, 0, none⟩) ((vl (pre.map El.t)).length + 1) c6)).ownsRow W0.heap.size 3 1 (.slice (some ⟨g6, 0, none⟩) ((vl (pre.map El.t)).length + 1) c6) ((vl (pre.map El.t)).length + 1) (ints (vl (pre.map El.t)) ++ [.int .i64 (vofI x.t)]) :=
        own_stay hown6 (Stay.setCell (S := fun k => k ≠ w.heap.size + 1) _ _ (by simp)) (fun g hg => hng g hg)
      refine ⟨fun k => S k ∨ (w1.heap.size ≤ k ∧ k < w6.heap.size), ⟨fun k hk => .inl (h1.lo k hk), fun k hk => ?_, ⟨_, World.cell?_setCell_same' _ _ _ (by rw [c6']; rfl), ?_, fun g hg => ?_⟩, by rw [World.frozen?_setCell]; exact f6, ((h1.b.alloc h1.b.size _).grown hgrow6 (by simp; omega) (fun k e => by have := hne k e; omega)).setCell (p := ⟨w.heap.size + 1, 0, none⟩) (by simp) _, h1.z⟩, fun k h => h.imp id (fun h => by omega), ?_⟩
      · have : k < w6.heap.size := hk.elim (fun h => by have := h1.hi k h; omega) (fun h => h.2)
        simpa using this
      · rw [e0, List.length_append, ints_append]; exact hrow
      · have e : g6 = g := by simpa [Value.ownBlock] using hg
        subst e
        exact hgS.imp id (fun h => ⟨h, hl6⟩)
      · exact (((Stay.of_below hb1 (fun _ hk _ => hk)).trans (.alloc _ _ _)).trans (.grown hgrow6 (fun k e h => h.elim (fun h => by have := hne k e; omega) (fun h => h (s1 k e))))).trans (.setCell _ _ (fun h => h.elim (fun h => by simp only at h; omega) (fun h => h (h1.lo _ (by simp only; omega)))))
  case done =>
    rintro D xs S W hxs h hK hD hSD
    obtain ⟨v1, c1, r1, s1⟩ := h.v
    rw [hxs] at r1
    have hll : (vl (preT t)).length ≤ 4194304 := by have := vl_len (preT t); rw [preT_len] at this; omega
    have hfin := vars_comp t
    have h5 := h.b
    have hlt := h.lt
    generalize vl (preT t) = zs at *
    obtain ⟨av, cv, rfl, _⟩ := own_form r1
    have hne : ∀ g, (Value.slice av zs.length cv).ownBlock = some g → W0.heap.size ≤ g := fun g hg => (r1.lt g hg).1
    have hnD : ∀ g, (Value.slice av zs.length cv).ownBlock = some g → g ≠ D := fun g hg e => hSD (e ▸ s1 g hg)
    have SO := sort_any _ av zs zs.length cv W rfl r1 hll
    have HN : Hid _ := hne
    have HD : Hid _ := hnD
    have HF : Hid _ := hfin
    clear hne hnD s1 h hfin
    gi_wp2_with (first
      | (refine ⟨trivial, ?_⟩; gi_at_call 45; refine (callsIn_wide.2 SO).mono ?_; rintro e w2 ⟨rfl, r2, hg2⟩; clear SO; have c2 : w2.cell? ⟨w.heap.size + 1, 0, none⟩ = some (.slice av zs.length cv) := (World.cell?_of_block (hg2.block (w.heap.size + 1) hlt (fun e => by have := HN.out _ e.symm; omega))).trans c1; have hb2 : Below w.heap.size w w2 := (h5.grown hg2 h5.size (fun k e => by have := HN.out k e; omega)); have hK2 : w2.heap[D]? = some (.deferred (some [])) := (hg2.block D (Array.getElem?_eq_some_iff.1 hK).1 (fun e => HD.out _ e.symm rfl)).trans hK; have hz2 := hg2.size; have CO := compact_any _ av _ zs.length cv w2 (by simp) r2 (by simpa using hll); clear r1 c1 hK h5 hg2)
      | (refine ⟨trivial, ?_⟩; gi_at_call 46; refine (callsIn_wide.2 CO).mono ?_; rintro e w3 ⟨rfl, r3, hg3⟩; clear CO; have hb3 : Below w.heap.size w w3 := (hb2.grown hg3 hb2.size (fun k e => by have := HN.out k e; omega)); have hK3 : w3.heap[D]? = some (.deferred (some [])) := (hg3.block D (Array.getElem?_eq_some_iff.1 hK2).1 (fun e => HD.out _ e.symm rfl)).trans hK2; clear hg3 hK2 hb2 c2))
    have r4 : (w3.putObj D (.deferred none)).ownsRow w.heap.size 3 1 (.slice av (Lib.compact (zs.mergeSort fun x y => decide (x ≤ y))).length cv) (Lib.compact (zs.mergeSort fun x y => decide (x ≤ y))).length (ints (Lib.compact (zs.mergeSort fun x y => decide (x ≤ y)))) :=
      own_lower (own_stay r3 (Stay.putObj (S := fun k => k ≠ D) _ _ (by simp)) (fun g hg => HD.out g (by cases av with | none => cases hg | some b => exact hg))) (by omega)
    rw [HF.out] at r4 ⊢
    refine ⟨by simp, .inl ⟨_, _, rfl, run_takeDeferred hK3, ?_⟩⟩
    exact ⟨_, results_tmp rfl _ _ _, av, cv, rfl, r4, hb3.trans ((Stay.putObj (S := fun k => k < w.heap.size) w3 _ (by omega)).below hb3.size (fun _ h => h))⟩
  case stop =>
    rintro D c pre S W _ h
    exact h.elim
end Go.Proofs.Ytjoopbdaafhdfaa
