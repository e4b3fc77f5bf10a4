/- How often a variable stands in a term, as the program tells it: it ranges over its iterator. Conditions: terms of at most 4194304 parts. -/
import Derived.Test.YtjoopbdaafhdfaaLoops
namespace Go.Proofs.Ytjoopbdaafhdfaa
open Go.RowKit Go.Shelf
attribute [local go_sem] Oper.semAt_some

theorem cntP_snoc (v : Int) (l : List El) (x : El) : cntP v ((l ++ [x]).map El.t) = cntP v (l.map El.t) + if vofB x.t = true ∧ vofI x.t = v then 1 else 0 := by
  rw [List.map_append, cntP_append]
  congr 1
  by_cases h1 : x.t.f = -1 <;> by_cases h2 : x.t.v = v <;> simp [cntP, vofB, vofI, h1, h2]
theorem cntP_le (v : Int) (l : List TermD) : cntP v l ≤ l.length := List.length_filter_le _ _

/-- What the count's loop holds between two rounds. -/
structure CInv (w W0 : World) (vv : Int) (pre : List El) (S : Nat → Prop) (W : World) : Prop where
  lo : ∀ k, k < W0.heap.size → S k
  hi : ∀ k, S k → k < W.heap.size
  v : W.cell? ⟨w.heap.size + 1, 0, none⟩ = some (.int .i64 vv)
  n : W.cell? ⟨w.heap.size + 1 + 1, 0, none⟩ = some (.int .i64 (cntP vv (pre.map El.t)))
  f : W.frozen? ⟨w.heap.size + 1 + 1, 0, none⟩ = false
  b : Below w.heap.size w W
  z : w.heap.size + 1 + 1 < W0.heap.size
theorem CInv.stay {w W0 A B : World} {v : Int} {pre : List El} {S : Nat → Prop} (h : CInv w W0 v pre S A) (hs : Stay S A B) : CInv w W0 v pre S B := by
  have hz := h.z
  exact ⟨h.lo, fun k hk => Nat.lt_of_lt_of_le (h.hi k hk) hs.size, hs.cell h.v (h.lo _ (by simp only; omega)), hs.cell h.n (h.lo _ (by simp only; omega)), (hs.frozen (World.block_lt_of_cell? _ _ h.n) (h.lo _ (by simp only; omega))).trans h.f, h.b.trans (hs.below h.b.size (fun k hk => h.lo k (by omega))), hz⟩
theorem CInv.alloc {w W0 A : World} {v : Int} {pre : List El} {S : Nat → Prop} (h : CInv w W0 v pre S A) (o : Obj) : CInv w W0 v pre (fun k => S k ∨ k = A.heap.size) (A.alloc o) := by
  have h' := h.stay (.alloc S A o)
  exact ⟨fun k hk => .inl (h'.lo k hk), fun k hk => hk.elim (h'.hi k) (fun e => by simp; omega), h'.v, h'.n, h'.f, h'.b, h'.z⟩
/-- The round's own variable lies in a block of its own. -/
structure BoxEl (x : El) (Bx : Nat) (S : Nat → Prop) (W : World) : Prop where
  s : S Bx
  c0 : W.cell? ⟨Bx, 0, none⟩ = some (.int .i64 x.t.f)
  c1 : W.cell? ⟨Bx, 1, none⟩ = some (.int .i64 x.t.v)
  c2 : W.cell? ⟨Bx, 2, none⟩ = some (.slice x.a x.t.kids.length x.c)
theorem BoxEl.stay {x : El} {Bx : Nat} {S : Nat → Prop} {A B : World} (h : BoxEl x Bx S A) (hs : Stay S A B) : BoxEl x Bx S B := ⟨h.s, hs.cell h.c0 h.s, hs.cell h.c1 h.s, hs.cell h.c2 h.s⟩

set_option maxHeartbeats 3200000 in
set_option maxRecDepth 100000 in
theorem impCount_any (N : Nat) (t : TermD) (a : Option Addr) (c hi : Nat) (v : Int) (w : World) (hN : partsT t ≤ N) (hM : N ≤ 4194304) (hr : RdK w hi a t.kids) (hhi : hi ≤ w.heap.size) (hc : t.kids.length ≤ c) :
    Calls Try.prog 25 #[.agg #[.int .i64 t.f, .int .i64 t.v, .slice a t.kids.length c], .int .i64 v] w fun e w' => e = .returned (.int .i64 (cntT v t)) ∧ Below w.heap.size w w' := by
  refine (callsIn_wide (n := 5)).1 ?_
  have hp : partsT t ≤ 4194304 := Nat.le_trans hN hM
  refine callsIn_of_wp_marks Try.func25 rfl trivial ?_ rfl
  simp only [Try.ntmps25, List.size_toArray, List.length_cons, List.length_nil, Nat.reduceAdd, Nat.reduceSub, Array.replicate_succ, Array.replicate_zero, List.push_toArray, List.append_toArray, List.nil_append, List.cons_append]
  gi_wp2_with (refine ⟨trivial, ?_⟩; gi_at_call 43; refine (callsIn_wide.2 (within_any t a c _)).mono ?_; rintro e w' ⟨rfl, rfl⟩)
  obtain ⟨W0, hW0⟩ : ∃ W0, W0 = (((w.alloc (.cells #[.int .i64 t.f, .int .i64 t.v, .slice a t.kids.length c] 26)).alloc (.cells #[.int .i64 v] 3)).alloc (.cells #[.int .i64 0] 3)).alloc (.cells #[.int .i64 t.f, .int .i64 t.v, .slice a t.kids.length c] 26) := ⟨_, rfl⟩
  have hB0 : Below w.heap.size w W0 := by rw [hW0]; exact ((((Below.refl _ _).alloc (Nat.le_refl _) _).alloc (by simp) _).alloc (by simp; omega) _).alloc (by simp; omega) _
  have hz : W0.heap.size = w.heap.size + 1 + 1 + 1 + 1 := by rw [hW0]; simp
  have v0 : W0.cell? ⟨w.heap.size + 1, 0, none⟩ = some (.int .i64 v) := by rw [hW0]; simp [go_sem]
  have n0 : W0.cell? ⟨w.heap.size + 1 + 1, 0, none⟩ = some (.int .i64 0) := by rw [hW0]; simp [go_sem]
  have f0 : W0.frozen? ⟨w.heap.size + 1 + 1, 0, none⟩ = false := by rw [hW0]; simp [go_sem]
  have t0 : W0.cell? ⟨w.heap.size + 1 + 1 + 1, 0, none⟩ = some (.int .i64 t.f) := by rw [hW0]; simp [go_sem]
  have t1 : W0.cell? ⟨w.heap.size + 1 + 1 + 1, 1, none⟩ = some (.int .i64 t.v) := by rw [hW0]; simp [go_sem]
  have t2 : W0.cell? ⟨w.heap.size + 1 + 1 + 1, 2, none⟩ = some (.slice a t.kids.length c) := by rw [hW0]; simp [go_sem]
  rw [← hW0]
  clear hW0
  refine wpIn_rangeFunc_priv rfl (by omega) (gf := 64) (lb := #[.pointer (some ⟨w.heap.size + 1 + 1 + 1, 0, none⟩)]) rfl trivial (enters_of Try.func64 (by kernel_rfl) rfl)
    (within_seq Fence.wide 4 trivial rfl (by omega) W0 t a c hi w.heap.size (w.heap.size + 1 + 1 + 1) hp hc (hr.on (hB0.mono hhi)) hhi hB0.size t0 t1 t2) hB0.size (Below.refl _ _) (fun _ => rfl)
    (fun pre S W => CInv w W0 v pre S W) (fun _ _ _ _ => False) (fun pre S A B h hs => h.stay hs)
    (fun _ _ _ _ _ h _ => h) (fun pre S A h => h.hi) (fun k => k < W0.heap.size) (fun _ h => h) ⟨fun _ h => h, fun _ h => h, v0, by simpa [cntP] using n0, f0, hB0, by omega⟩
    (fun pre x S a₁ W => CInv w W0 v pre S W ∧ ∃ Bx, BoxEl x Bx S W ∧ a₁ = { tmps := #[.agg #[.int .i64 t.f, .int .i64 t.v, .slice a t.kids.length c], .int .i64 v, .pointer (some ⟨w.heap.size, 0, none⟩), .pointer (some ⟨w.heap.size + 1, 0, none⟩), .int .i64 0, .pointer (some ⟨w.heap.size + 1 + 1, 0, none⟩), .pointer (some ⟨Bx, 0, none⟩), undef, undef, .agg #[.int .i64 t.f, .int .i64 t.v, .slice a t.kids.length c], .func (.func 64) #[] #[.pointer (some ⟨w.heap.size + 1 + 1 + 1, 0, none⟩)], .agg #[.int .i64 x.t.f, .int .i64 x.t.v, .slice x.a x.t.kids.length x.c], undef, undef, undef, undef, undef, undef, undef, undef, undef, undef, undef, undef, undef, undef], defers := [] })
    (fun pre x S a₁ A B h hs => by
      obtain ⟨h1, Bx, h2, h3⟩ := h
      exact ⟨h1.stay hs, Bx, h2.stay hs, h3⟩)
    ?assign ?body ?done ?stop
  case assign =>
    intro l pre x S W K hi hlen hK
    dsimp only [El.enc]
    gi_wp2
    refine hK _ (fun k => S k ∨ k = W.heap.size) _ ⟨hi.alloc _, W.heap.size, ⟨.inr rfl, ?_, ?_, ?_⟩, by simp⟩ (fun k h => h.imp id (fun e => by omega)) (.alloc _ _ _)
    all_goals simp [go_sem]
  case body =>
    rintro l pre x S a₁ W ⟨h, Bx, hx, rfl⟩ hlen
    have hv := h.v
    have hn := h.n
    have hf := h.f
    have x0 := hx.c0
    have x1 := hx.c1
    have x2 := hx.c2
    have hcl : (cntP v (pre.map El.t) : Int) < 4194304 := by have := cntP_le v (pre.map El.t); simp at this; omega
    have hcn := cntP_snoc v pre x
    have C := variableOf_any x.t x.a x.t.kids.length x.c W
    have fin0 : ∀ w1, Below W.heap.size W w1 → cntP v ((pre ++ [x]).map El.t) = cntP v (pre.map El.t) → CInv w W0 v (pre ++ [x]) S w1 := fun w1 hb e => by
      have h1 := h.stay (.of_below hb (fun _ hk _ => hk))
      exact ⟨h1.lo, h1.hi, h1.v, by rw [e]; exact h1.n, h1.f, h1.b, h1.z⟩
    have fin1 : ∀ w1, Below W.heap.size W w1 → cntP v ((pre ++ [x]).map El.t) = cntP v (pre.map El.t) + 1 → CInv w W0 v (pre ++ [x]) S (w1.setCell ⟨w.heap.size + 1 + 1, 0, none⟩ (.int .i64 (cntP v (pre.map El.t) + 1))) := fun w1 hb e => by
      have h1 := h.stay (.of_below hb (fun _ hk _ => hk))
      refine ⟨h1.lo, fun k hk => by simpa using h1.hi k hk, ?_, ?_, ?_, h1.b.setCell (p := ⟨w.heap.size + 1 + 1, 0, none⟩) (by simp; omega) _, h1.z⟩
      · exact (World.cell?_of_block (Below.heap_setCell _ _ _ _ (by simp))).trans h1.v
      · rw [e, World.cell?_setCell_same' _ _ _ (by rw [h1.n]; rfl)]; simp
      · rw [World.frozen?_setCell]; exact h1.f
    have st1 : ∀ w1, Below W.heap.size W w1 → Stay (fun k => k < w.heap.size ∨ ¬ S k) W w1 := fun w1 hb => .of_below hb (fun _ hk _ => hk)
    have hbox : S (w.heap.size + 1 + 1) := h.lo _ h.z
    have st2 : ∀ w1 u, Below W.heap.size W w1 → Stay (fun k => k < w.heap.size ∨ ¬ S k) W (w1.setCell ⟨w.heap.size + 1 + 1, 0, none⟩ u) := fun w1 u hb => (st1 w1 hb).trans (.setCell _ _ (fun h => h.elim (fun h => by simp only at h; omega) (fun h => h hbox)))
    have F0 : Hid _ := fin0
    have F1 : Hid _ := fin1
    have S1 : Hid _ := st1
    have S2 : Hid _ := st2
    clear fin0 fin1 st1 st2 h hx
    cases hvb : vofB x.t with
    | false =>
      rw [hvb] at C
      have HC : Hid (cntP v ((pre ++ [x]).map El.t) = cntP v (pre.map El.t)) := by show _ = _; rw [hcn, hvb]; simp
      clear hcn hvb
      gi_wp2_with (refine ⟨trivial, ?_⟩; gi_at_call 44; refine (CallsIn.inRound l (callsIn_wide.2 C)).mono ?_; rintro e w1 ⟨rfl, hb1⟩; clear C; have hv := keepC hb1 hv; have hn := keepC hb1 hn; have hf := (hb1.frozen (p := ⟨w.heap.size + 1 + 1, 0, none⟩) (World.block_lt_of_cell? _ _ ‹W.cell? ⟨w.heap.size + 1 + 1, 0, none⟩ = _›)).trans hf)
      exact ⟨S, F0.out w1 hb1 HC.out, fun k h => .inl h, S1.out w1 hb1⟩
    | true =>
      rw [hvb] at C
      by_cases hvv : vofI x.t = v
      · have HC : Hid (cntP v ((pre ++ [x]).map El.t) = cntP v (pre.map El.t) + 1) := by show _ = _; rw [hcn, hvb]; simp [hvv]
        clear hcn hvb
        gi_wp2_with (refine ⟨trivial, ?_⟩; gi_at_call 44; refine (CallsIn.inRound l (callsIn_wide.2 C)).mono ?_; rintro e w1 ⟨rfl, hb1⟩; clear C; have hv := keepC hb1 hv; have hn := keepC hb1 hn; have hf := (hb1.frozen (p := ⟨w.heap.size + 1 + 1, 0, none⟩) (World.block_lt_of_cell? _ _ ‹W.cell? ⟨w.heap.size + 1 + 1, 0, none⟩ = _›)).trans hf)
        exact ⟨S, F1.out w1 hb1 HC.out, fun k h => .inl h, S2.out w1 _ hb1⟩
      · have hve : (vofI x.t == v) = false := by simp [hvv]
        have HC : Hid (cntP v ((pre ++ [x]).map El.t) = cntP v (pre.map El.t)) := by show _ = _; rw [hcn]; simp [hvv]
        clear hcn hvb hvv
        gi_wp2_with (refine ⟨trivial, ?_⟩; gi_at_call 44; refine (CallsIn.inRound l (callsIn_wide.2 C)).mono ?_; rintro e w1 ⟨rfl, hb1⟩; clear C; have hv := keepC hb1 hv; have hn := keepC hb1 hn; have hf := (hb1.frozen (p := ⟨w.heap.size + 1 + 1, 0, none⟩) (World.block_lt_of_cell? _ _ ‹W.cell? ⟨w.heap.size + 1 + 1, 0, none⟩ = _›)).trans hf)
        exact ⟨S, F0.out w1 hb1 HC.out, fun k h => .inl h, S1.out w1 hb1⟩
  case done =>
    rintro D xs S W hxs h hK hD hSD
    have h3 := h.n
    have h5 := h.b
    rw [hxs, cntP_pre] at h3
    clear h
    gi_wp2
    refine ⟨by simp, .inl ⟨_, _, rfl, run_takeDeferred hK, ?_⟩⟩
    exact ⟨_, results_tmp rfl _ _ _, rfl, h5.trans ((Stay.putObj (S := fun k => k < w.heap.size) W _ (by omega)).below h5.size (fun _ h => h))⟩
  case stop =>
    rintro D c pre S W _ h
    exact h.elim
end Go.Proofs.Ytjoopbdaafhdfaa
