/- Whether a term has no variables, as the program tells it: it ranges over its iterator and stops at the first one. Conditions: terms of at most 4194304 parts. -/
import Derived.Test.YtpmmgplpmonolabWithin
import Derived.Test.YtpmmgplpmonolabCountsA
import Derived.Test.YtpmmgplpmonolabBox
import Derived.Test.YtpmmgplpmonolabRes
namespace Go.Proofs.Ytpmmgplpmonolab
open Go.RowKit Go.Shelf
attribute [local go_sem] Oper.semAt_some

/-- Without variables. -/
def grdT (t : TermD) : Bool := (varsT t []).isEmpty
theorem grd_all {t : TermD} (h : ∀ x ∈ preT t, vofB x = false) : grdT t = true := by
  unfold grdT
  rw [List.isEmpty_iff]
  apply List.eq_nil_iff_forall_not_mem.2
  intro v hv
  rw [vars_mem] at hv
  simp only [vl, List.mem_map, List.mem_filter] at hv
  obtain ⟨x, ⟨hx, hf⟩, _⟩ := hv
  have := h x hx
  simp only [vofB] at this
  rw [this] at hf; cases hf
theorem grd_hit {t x : TermD} (hx : x ∈ preT t) (h : vofB x = true) : grdT t = false := by
  unfold grdT
  have : x.v ∈ varsT t [] := by
    rw [vars_mem]
    simp only [vl, List.mem_map, List.mem_filter]
    exact ⟨x, ⟨hx, by simpa [vofB] using h⟩, rfl⟩
  cases e : varsT t [] with
  | nil => rw [e] at this; simp at this
  | cons _ _ => rfl

/-- What the loop holds between two rounds: the answer's place, and that no variable was met. -/
structure GInv (w W0 : World) (R : Nat) (pre : List El) (S : Nat → Prop) (W : World) : Prop where
  lo : ∀ k, k < W0.heap.size → S k
  hi : ∀ k, S k → k < W.heap.size
  r : W.cell? ⟨R, 0, none⟩ = some (.bool false)
  f : W.frozen? ⟨R, 0, none⟩ = false
  b : Below w.heap.size w W
  z : w.heap.size < W0.heap.size ∧ R < W0.heap.size
  no : ∀ x ∈ pre, vofB x.t = false
theorem GInv.stay {w W0 A B : World} {R : Nat} {pre : List El} {S : Nat → Prop} (h : GInv w W0 R pre S A) (hs : Stay S A B) : GInv w W0 R pre S B := by
  have hz := h.z
  exact ⟨h.lo, fun k hk => Nat.lt_of_lt_of_le (h.hi k hk) hs.size, hs.cell h.r (h.lo _ hz.2), (hs.frozen (World.block_lt_of_cell? _ _ h.r) (h.lo _ hz.2)).trans h.f, h.b.trans (hs.below h.b.size (fun k hk => h.lo k (by omega))), hz, h.no⟩
theorem GInv.more {w W0 A : World} {R : Nat} {pre : List El} {S S' : Nat → Prop} (h : GInv w W0 R pre S A) (hs : ∀ k, S k → S' k) (ht : ∀ k, S' k → k < A.heap.size) : GInv w W0 R pre S' A :=
  ⟨fun k hk => hs k (h.lo k hk), ht, h.r, h.f, h.b, h.z, h.no⟩
/-- What is left where a variable was met. -/
structure GOut (w W0 : World) (R : Nat) (pre : List El) (S : Nat → Prop) (W : World) : Prop where
  lo : ∀ k, k < W0.heap.size → S k
  r : W.cell? ⟨R, 0, none⟩ = some (.bool false)
  b : Below w.heap.size w W
  z : w.heap.size < W0.heap.size ∧ R < W0.heap.size
  hit : ∃ x ∈ pre, vofB x.t = true
theorem GOut.stay {w W0 A B : World} {R : Nat} {pre : List El} {S : Nat → Prop} (h : GOut w W0 R pre S A) (hs : Stay S A B) : GOut w W0 R pre S B := by
  have hz := h.z
  exact ⟨h.lo, hs.cell h.r (h.lo _ hz.2), h.b.trans (hs.below h.b.size (fun k hk => h.lo k (by omega))), hz, h.hit⟩

set_option maxHeartbeats 3200000 in
set_option maxRecDepth 100000 in
theorem impGround_any (t : TermD) (a : Option Addr) (c hi : Nat) (w : World) (hp : partsT t ≤ 4194304) (hr : RdK w hi a t.kids) (hhi : hi ≤ w.heap.size) (hc : t.kids.length ≤ c) :
    Calls Try.prog 14 #[.agg #[.int .i64 t.f, .int .i64 t.v, .slice a t.kids.length c]] w fun e w' => e = .returned (.bool (grdT t)) ∧ Below w.heap.size w w' := by
  refine (callsIn_wide (n := 5)).1 ?_
  refine callsIn_of_wp_marks Try.func14 rfl trivial ?_ rfl
  simp only [Try.ntmps14, List.size_toArray, List.length_cons, List.length_nil, Nat.reduceAdd, Nat.reduceSub, Array.replicate_succ, Array.replicate_zero, List.push_toArray, List.append_toArray, List.nil_append, List.cons_append]
  gi_wp2_with (refine ⟨trivial, ?_⟩; gi_at_call 20; refine (callsIn_wide.2 (within_any t a c _)).mono ?_; rintro e w' ⟨rfl, rfl⟩)
  obtain ⟨W0, hW0⟩ : ∃ W0, W0 = ((w.alloc (.cells #[.int .i64 t.f, .int .i64 t.v, .slice a t.kids.length c] 33)).alloc (.cells #[.bool false] 4)).alloc (.cells #[.int .i64 t.f, .int .i64 t.v, .slice a t.kids.length c] 33) := ⟨_, rfl⟩
  have hB0 : Below w.heap.size w W0 := by rw [hW0]; exact (((Below.refl _ _).alloc (Nat.le_refl _) _).alloc (by simp) _).alloc (by simp; omega) _
  have hz : W0.heap.size = w.heap.size + 1 + 1 + 1 := by rw [hW0]; simp
  have v0 : W0.cell? ⟨w.heap.size + 1, 0, none⟩ = some (.bool false) := by rw [hW0]; simp [go_sem]
  have f0 : W0.frozen? ⟨w.heap.size + 1, 0, none⟩ = false := by rw [hW0]; simp [go_sem]
  have t0 : W0.cell? ⟨w.heap.size + 1 + 1, 0, none⟩ = some (.int .i64 t.f) := by rw [hW0]; simp [go_sem]
  have t1 : W0.cell? ⟨w.heap.size + 1 + 1, 1, none⟩ = some (.int .i64 t.v) := by rw [hW0]; simp [go_sem]
  have t2 : W0.cell? ⟨w.heap.size + 1 + 1, 2, none⟩ = some (.slice a t.kids.length c) := by rw [hW0]; simp [go_sem]
  rw [← hW0]
  clear hW0
  refine wpIn_rangeFunc_priv rfl (by omega) (gf := 27) (lb := #[.pointer (some ⟨w.heap.size + 1 + 1, 0, none⟩)]) rfl trivial (enters_of Try.func27 (by kernel_rfl) rfl)
    (within_seq Fence.wide 4 trivial rfl (by omega) W0 t a c hi w.heap.size (w.heap.size + 1 + 1) hp hc (hr.on (hB0.mono hhi)) hhi hB0.size t0 t1 t2) hB0.size (Below.refl _ _) (fun _ => rfl)
    (fun pre S W => GInv w W0 (w.heap.size + 1) pre S W) (fun cd pre S W => cd = .ret ∧ GOut w W0 (w.heap.size + 1) pre S W) (fun pre S A B h hs => h.stay hs)
    (fun _ _ _ _ _ h hs => ⟨h.1, h.2.stay hs⟩) (fun pre S A h => h.hi) (fun k => k < W0.heap.size) (fun _ h => h) ⟨fun _ h => h, fun _ h => h, v0, f0, hB0, by omega, by simp⟩
    (fun pre x S a₁ W => GInv w W0 (w.heap.size + 1) pre S W ∧ ∃ Bx, BoxEl x Bx S W ∧ a₁ = { tmps := #[.agg #[.int .i64 t.f, .int .i64 t.v, .slice a t.kids.length c], .pointer (some ⟨w.heap.size, 0, none⟩), .pointer (some ⟨w.heap.size + 1, 0, none⟩), .pointer (some ⟨Bx, 0, none⟩), undef, undef, .agg #[.int .i64 t.f, .int .i64 t.v, .slice a t.kids.length c], .func (.func 27) #[] #[.pointer (some ⟨w.heap.size + 1 + 1, 0, none⟩)], .agg #[.int .i64 x.t.f, .int .i64 x.t.v, .slice x.a x.t.kids.length x.c], undef, undef, undef, undef, undef, undef], defers := [] })
    (fun pre x S a₁ A B h hs => by
      obtain ⟨h1, Bx, h2, h3⟩ := h
      exact ⟨h1.stay hs, Bx, h2.stay hs, h3⟩)
    ?assign ?body ?done ?stop
  case assign =>
    intro l pre x S W K hi hlen hK
    dsimp only [El.enc]
    gi_wp2
    refine hK _ (fun k => S k ∨ k = W.heap.size) _ ⟨(hi.stay (.alloc _ _ _)).more (fun _ h => .inl h) (fun k h => h.elim (fun h => by have := hi.hi k h; simp; omega) (fun e => by simp; omega)), W.heap.size, ⟨.inr rfl, ?_, ?_, ?_⟩, by simp⟩ (fun k h => h.imp id (fun e => by omega)) (.alloc _ _ _)
    all_goals simp [go_sem]
  case body =>
    rintro l pre x S a₁ W ⟨h, Bx, hx, rfl⟩ hlen
    have C := variableOf_any x.t x.a x.t.kids.length x.c W
    have x0 := hx.c0
    have x1 := hx.c1
    have x2 := hx.c2
    have hr0 := h.r
    have hf0 := h.f
    have hzz := h.z
    cases hvb : vofB x.t with
    | false =>
      rw [hvb] at C
      have F0 : Hid (∀ w1, Below W.heap.size W w1 → GInv w W0 (w.heap.size + 1) (pre ++ [x]) S w1 ∧ Stay (fun k => k < w.heap.size ∨ ¬ S k) W w1) := fun w1 hb => by
        have h1 := h.stay (.of_below hb (fun _ hk _ => hk))
        refine ⟨⟨h1.lo, h1.hi, h1.r, h1.f, h1.b, h1.z, fun y hy => ?_⟩, .of_below hb (fun _ hk _ => hk)⟩
        rcases List.mem_append.1 hy with hy | hy
        · exact h1.no y hy
        · simp only [List.mem_singleton] at hy; subst hy; exact hvb
      clear h hx hvb
      gi_wp2_with (refine ⟨trivial, ?_⟩; gi_at_call 25; refine (CallsIn.inRound l (callsIn_wide.2 C)).mono ?_; rintro e w1 ⟨rfl, hb1⟩; clear C)
      obtain ⟨q1, q2⟩ := F0.out w1 hb1
      exact ⟨S, q1, fun k h => .inl h, q2⟩
    | true =>
      rw [hvb] at C
      have F1 : Hid (∀ w1, Below W.heap.size W w1 → GOut w W0 (w.heap.size + 1) (pre ++ [x]) S (w1.setCell ⟨w.heap.size + 1, 0, none⟩ (.bool false)) ∧ Stay (fun k => k < w.heap.size ∨ ¬ S k) W (w1.setCell ⟨w.heap.size + 1, 0, none⟩ (.bool false))) := fun w1 hb => by
        have h1 := h.stay (.of_below hb (fun _ hk _ => hk))
        refine ⟨⟨h1.lo, ?_, h1.b.setCell (p := ⟨w.heap.size + 1, 0, none⟩) (by simp) _, h1.z, x, by simp, hvb⟩, (Stay.of_below hb (fun _ hk _ => hk)).trans (.setCell _ _ (fun h => h.elim (fun h => by simp only at h; omega) (fun h' => h' (h1.lo _ h1.z.2))))⟩
        exact World.cell?_setCell_same _ _ _ h1.r
      clear h hx hvb
      gi_wp2_with (refine ⟨trivial, ?_⟩; gi_at_call 25; refine (CallsIn.inRound l (callsIn_wide.2 C)).mono ?_; rintro e w1 ⟨rfl, hb1⟩; clear C; have hr0 := keepC hb1 hr0; have hf0 := (hb1.frozen (p := ⟨w.heap.size + 1, 0, none⟩) (World.block_lt_of_cell? _ _ ‹W.cell? ⟨w.heap.size + 1, 0, none⟩ = _›)).trans hf0)
      obtain ⟨q1, q2⟩ := F1.out w1 hb1
      exact ⟨S, ⟨rfl, q1⟩, fun k h => .inl h, q2⟩
  case done =>
    rintro D xs S W hxs h hK hD hSD
    have h3 := h.r
    have h4 := h.f
    have h5 := h.b
    have hg : Hid (grdT t = true) := grd_all (fun x hx => by rw [← hxs] at hx; obtain ⟨y, hy, rfl⟩ := List.mem_map.1 hx; exact h.no y hy)
    clear h
    gi_wp2
    refine ⟨by simp, .inl ⟨_, _, rfl, run_takeDeferred (by rw [Below.heap_setCell _ _ _ _ (by simp only; omega)]; exact hK), ?_⟩⟩
    have e5 := (h5.setCell (p := ⟨w.heap.size + 1, 0, none⟩) (by simp) (.bool true))
    exact ⟨_, results_bool rfl rfl (b := true) ((World.cell?_of_block (World.putObj_heap_other (by simp only; omega))).trans (World.cell?_setCell_same _ _ _ h3)), rtB hg.out.symm, e5.trans ((Stay.putObj (S := fun k => k < w.heap.size) _ _ (by omega)).below e5.size (fun _ h => h))⟩
  case stop =>
    rintro D cd pre S W ⟨r, hpre⟩ ⟨rfl, h⟩ hK hD hSD
    have h3 := h.r
    have h5 := h.b
    have hg : Hid (grdT t = false) := by
      obtain ⟨x, hx, hv⟩ := h.hit
      exact grd_hit (by rw [← hpre]; exact List.mem_append_left _ (List.mem_map_of_mem hx)) hv
    clear h
    gi_wp2
    refine ⟨by simp, .inl ⟨_, _, rfl, run_takeDeferred hK, ?_⟩⟩
    exact ⟨_, results_bool rfl rfl (b := false) ((World.cell?_of_block (World.putObj_heap_other (by simp only; omega))).trans h3), rtB hg.out.symm, h5.trans ((Stay.putObj (S := fun k => k < w.heap.size) W _ (by omega)).below h5.size (fun _ h => h))⟩
end Go.Proofs.Ytpmmgplpmonolab
