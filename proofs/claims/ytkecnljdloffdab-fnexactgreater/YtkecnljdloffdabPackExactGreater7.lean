/- What the proof of FnExactGreater stands on, part 7 of 8: each piece says what it proves and under which conditions. Conditions: as each piece says. -/
import Derived.Test.YtkecnljdloffdabPackExactGreater6
import Derived.Test.YtkecnljdloffdabProg
import Derived.Deep.RegionHeld3
import Derived.Deep.DeepMust
/- Weights, as the specification tells them. Conditions: terms of at most 4194304 parts. -/
namespace Go.Proofs.Ytkecnljdloffdab
set_option maxRecDepth 100000
open Go.RowKit

theorem wgtT_split (bl : Int → Bool) (f v : Int) (ks : List TermD) : wgtT bl (.mk f v ks) = (if bl f && !ks.isEmpty then ks.length - 1 else 1) + wgtL bl ks := by rw [wgtT]

set_option maxHeartbeats 3200000 in
theorem specWeight_any (sa : Option Addr) (ss : List SymD) (sc : Nat) (hss : ss.length ≤ 1048577) (N : Nat) : ∀ (t : TermD) (a : Option Addr) (c hi : Nat) (w : World), isW t.f → RdS w sa ss → partsT t ≤ N → N ≤ 4194304 → RdK w hi a t.kids → hi ≤ w.heap.size →
    Calls Try.prog 39 #[.slice sa ss.length sc, .agg #[.int .i64 t.f, .int .i64 t.v, .slice a t.kids.length c]] w fun e w' => e = .returned (.int .i64 (wgtT (blindAt ss) t : Nat)) ∧ Below w.heap.size w w' := by
  induction N with
  | zero => intro t a c hi w _ _ h; rw [partsT_eq] at h; omega
  | succ N ih =>
    intro t a c hi w hf hs hN hM hr hhi
    obtain ⟨f, v, ks⟩ := t
    simp only [TermD.f, TermD.v, TermD.kids] at *
    rw [partsT] at hN
    have hlen := partsL_len ks
    have HR : Hid (RdK w hi a ks) := hr
    have HS : Hid (RdS w sa ss) := hs
    have HW0 : Hid (wgtT (blindAt ss) (.mk f v ks) = (if blindAt ss f && !ks.isEmpty then ks.length - 1 else 1) + wgtL (blindAt ss) ks) := wgtT_split _ f v ks
    clear hr
    obtain ⟨W, hW⟩ : ∃ W, W = w.alloc (.cells #[.int .i64 f, .int .i64 v, .slice a ks.length c] 28) := ⟨_, rfl⟩
    have hb0 : Below w.heap.size w W := by rw [hW]; exact (Below.refl w.heap.size w).alloc (Nat.le_refl _) _
    have C := specBlind_any sa ss ss.length sc f W rfl (hs.below hb0) hss hf.1 hf.2
    have hct0 : W.cell? ⟨w.heap.size, 2, none⟩ = some (.slice a ks.length c) := by rw [hW]; simp [go_sem]
    have hwl0 : w.heap.size < W.heap.size := by rw [hW]; simp
    clear hf hs
    cases hbl : blindAt ss f with
    | true =>
      rw [hbl] at C
      by_cases h0 : ks.length = 0
      · have hke := List.eq_nil_of_length_eq_zero h0
        subst hke
        have HW : Hid (wgtT (blindAt ss) (.mk f v []) = 1) := by show _ = _; rw [HW0.out]; simp [wgtL]
        simp only [List.length_nil] at *
        clear HW0 hbl
        go_enter Try.func39, Try.ntmps39
        go_wp2_with (go_at_call 23; rw [← hW]; refine C.mono ?_; rintro e w2 ⟨rfl, hw⟩; subst w2; clear hW C)
        refine wp_loop_rounds 1 ?_
        rw [rounds_succ]
        go_wp2
        go_ret
        exact ⟨rtI (by rw [HW.out]; rfl), hb0⟩
      · have HW : Hid (wgtT (blindAt ss) (.mk f v ks) = (ks.length - 1) + wgtL (blindAt ss) ks) := by
          show _ = _; rw [HW0.out, hbl]
          cases ks with
          | nil => simp at h0
          | cons x xs => simp
        have h1 : 0 < ks.length := by omega
        clear HW0 hbl h0
        go_enter Try.func39, Try.ntmps39
        go_wp2_with (go_at_call 23; rw [← hW]; refine C.mono ?_; rintro e w2 ⟨rfl, hw⟩; subst w2; clear hW C)
        go_loopw [5, 6] (fun n i wr => ∃ k : Nat, k ≤ ks.length ∧ i = .int .i64 k ∧ n = .int .i64 (((ks.length - 1) + wgtL (blindAt ss) (ks.take k) : Nat) : Int) ∧ wr.cell? ⟨w.heap.size, 2, none⟩ = some (.slice a ks.length c) ∧ Below w.heap.size w wr ∧ w.heap.size < wr.heap.size) (fun _ i _ => ks.length - (intOf i).toNat)
        case atStart => exact ⟨0, Nat.zero_le _, rfl, by simp [wgtL]; omega, hct0, hb0, hwl0⟩
        case round =>
          obtain ⟨k, hk, rfl, rfl, hct, hbr, hwl⟩ := hrel
          have hpk := partsL_rest ks k
          have hwk := wgtL_parts (blindAt ss) (ks.take k)
          have hlt2 : (ks.take k).length ≤ ks.length := by rw [List.length_take]; omega
          clear hb0 hct0 hwl0
          by_cases hk' : k < ks.length
          · obtain ⟨b, off, a', c', rfl, hlt, d0, d1, d2, hkr⟩ := RdK.kid (HR.out.on (hbr.mono hhi)) hk'
            have hpg := partsL_get hk'
            have hwg := wgtT_parts (blindAt ss) ks[k]
            have hki : (k : Int) < (ks.length : Int) := by omega
            have HP : Hid (wgtL (blindAt ss) (ks.take (k + 1)) = wgtL (blindAt ss) (ks.take k) + wgtT (blindAt ss) ks[k]) := wgtL_next (blindAt ss) hk'
            have I := ih ks[k] a' c' hi wr (RdK.ints HR.out hk').1 (HS.out.below (hbr.mono (Nat.le_refl _))) (by omega) (by omega) hkr (Nat.le_trans hhi hbr.size)
            clear hkr
            go_wp2_with (go_at_call 39; refine I.mono ?_; rintro e w1 ⟨rfl, hb1⟩; clear I; have hct1 := (hb1.cell (p := ⟨w.heap.size, 2, none⟩) hwl).trans hct; have hbb := hbr.trans (hb1.mono hbr.size); have hwl1 : w.heap.size < w1.heap.size := (Nat.lt_of_lt_of_le hwl hb1.size); clear hbr hb1)
            go_roundw
            case rel => exact ⟨k + 1, by omega, by go_num, by rw [HP.out]; go_num, hct1, hbb, hwl1⟩
            case measure => simp [intOf]; omega
          · have E : Hid (k = ks.length) := (by omega : k = ks.length)
            go_wp2_with fail
            go_ret
            refine ⟨rtI ?_, hbr⟩
            rw [HW.out, E.out, List.take_length]
    | false =>
      rw [hbl] at C
      have HW : Hid (wgtT (blindAt ss) (.mk f v ks) = 1 + wgtL (blindAt ss) ks) := by show _ = _; rw [HW0.out, hbl]; simp
      clear HW0 hbl
      go_enter Try.func39, Try.ntmps39
      go_wp2_with (go_at_call 23; rw [← hW]; refine C.mono ?_; rintro e w2 ⟨rfl, hw⟩; subst w2; clear hW C)
      go_loopw [5, 6] (fun n i wr => ∃ k : Nat, k ≤ ks.length ∧ i = .int .i64 k ∧ n = .int .i64 ((1 + wgtL (blindAt ss) (ks.take k) : Nat) : Int) ∧ wr.cell? ⟨w.heap.size, 2, none⟩ = some (.slice a ks.length c) ∧ Below w.heap.size w wr ∧ w.heap.size < wr.heap.size) (fun _ i _ => ks.length - (intOf i).toNat)
      case atStart => exact ⟨0, Nat.zero_le _, rfl, by simp [wgtL], hct0, hb0, hwl0⟩
      case round =>
        obtain ⟨k, hk, rfl, rfl, hct, hbr, hwl⟩ := hrel
        have hpk := partsL_rest ks k
        have hwk := wgtL_parts (blindAt ss) (ks.take k)
        have hlt2 : (ks.take k).length ≤ ks.length := by rw [List.length_take]; omega
        clear hb0 hct0 hwl0
        by_cases hk' : k < ks.length
        · obtain ⟨b, off, a', c', rfl, hlt, d0, d1, d2, hkr⟩ := RdK.kid (HR.out.on (hbr.mono hhi)) hk'
          have hpg := partsL_get hk'
          have hwg := wgtT_parts (blindAt ss) ks[k]
          have hki : (k : Int) < (ks.length : Int) := by omega
          have HP : Hid (wgtL (blindAt ss) (ks.take (k + 1)) = wgtL (blindAt ss) (ks.take k) + wgtT (blindAt ss) ks[k]) := wgtL_next (blindAt ss) hk'
          have I := ih ks[k] a' c' hi wr (RdK.ints HR.out hk').1 (HS.out.below (hbr.mono (Nat.le_refl _))) (by omega) (by omega) hkr (Nat.le_trans hhi hbr.size)
          clear hkr
          go_wp2_with (go_at_call 39; refine I.mono ?_; rintro e w1 ⟨rfl, hb1⟩; clear I; have hct1 := (hb1.cell (p := ⟨w.heap.size, 2, none⟩) hwl).trans hct; have hbb := hbr.trans (hb1.mono hbr.size); have hwl1 : w.heap.size < w1.heap.size := (Nat.lt_of_lt_of_le hwl hb1.size); clear hbr hb1)
          go_roundw
          case rel => exact ⟨k + 1, by omega, by go_num, by rw [HP.out]; go_num, hct1, hbb, hwl1⟩
          case measure => simp [intOf]; omega
        · have E : Hid (k = ks.length) := (by omega : k = ks.length)
          go_wp2_with fail
          go_ret
          refine ⟨rtI ?_, hbr⟩
          rw [HW.out, E.out, List.take_length]
end Go.Proofs.Ytkecnljdloffdab

/- Whether a term has no variables, as the program tells it: it ranges over its iterator and stops at the first one. Conditions: terms of at most 4194304 parts. -/
namespace Go.Proofs.Ytkecnljdloffdab
set_option maxRecDepth 100000
open Go.RowKit Go.Shelf
attribute [local go_sem] Oper.semAt_some

/-- Without variables. -/
def grdT (t : TermD) : Bool := (varsT t []).isEmpty
theorem grd_all {t : TermD} (h : ∀ x ∈ preT t, vofB x = false) : grdT t = true := by
  unfold grdT
  rw [List.isEmpty_iff]
  apply List.eq_nil_iff_forall_not_mem.2
  intro v hv
  rw [vars_mem] at hv
  simp only [vl, List.mem_map, List.mem_filter] at hv
  obtain ⟨x, ⟨hx, hf⟩, _⟩ := hv
  have := h x hx
  simp only [vofB] at this
  rw [this] at hf; cases hf
theorem grd_hit {t x : TermD} (hx : x ∈ preT t) (h : vofB x = true) : grdT t = false := by
  unfold grdT
  have : x.v ∈ varsT t [] := by
    rw [vars_mem]
    simp only [vl, List.mem_map, List.mem_filter]
    exact ⟨x, ⟨hx, by simpa [vofB] using h⟩, rfl⟩
  cases e : varsT t [] with
  | nil => rw [e] at this; simp at this
  | cons _ _ => rfl

/-- What the loop holds between two rounds: the answer's place, and that no variable was met. -/
structure GInv (w W0 : World) (R : Nat) (pre : List El) (S : Nat → Prop) (W : World) : Prop where
  lo : ∀ k, k < W0.heap.size → S k
  hi : ∀ k, S k → k < W.heap.size
  r : W.cell? ⟨R, 0, none⟩ = some (.bool false)
  f : W.frozen? ⟨R, 0, none⟩ = false
  b : Below w.heap.size w W
  z : w.heap.size < W0.heap.size ∧ R < W0.heap.size
  no : ∀ x ∈ pre, vofB x.t = false
theorem GInv.stay {w W0 A B : World} {R : Nat} {pre : List El} {S : Nat → Prop} (h : GInv w W0 R pre S A) (hs : Stay S A B) : GInv w W0 R pre S B := by
  have hz := h.z
  exact ⟨h.lo, fun k hk => Nat.lt_of_lt_of_le (h.hi k hk) hs.size, hs.cell h.r (h.lo _ hz.2), (hs.frozen (World.block_lt_of_cell? _ _ h.r) (h.lo _ hz.2)).trans h.f, h.b.trans (hs.below h.b.size (fun k hk => h.lo k (by omega))), hz, h.no⟩
theorem GInv.more {w W0 A : World} {R : Nat} {pre : List El} {S S' : Nat → Prop} (h : GInv w W0 R pre S A) (hs : ∀ k, S k → S' k) (ht : ∀ k, S' k → k < A.heap.size) : GInv w W0 R pre S' A :=
  ⟨fun k hk => hs k (h.lo k hk), ht, h.r, h.f, h.b, h.z, h.no⟩
/-- What is left where a variable was met. -/
structure GOut (w W0 : World) (R : Nat) (pre : List El) (S : Nat → Prop) (W : World) : Prop where
  lo : ∀ k, k < W0.heap.size → S k
  r : W.cell? ⟨R, 0, none⟩ = some (.bool false)
  b : Below w.heap.size w W
  z : w.heap.size < W0.heap.size ∧ R < W0.heap.size
  hit : ∃ x ∈ pre, vofB x.t = true
theorem GOut.stay {w W0 A B : World} {R : Nat} {pre : List El} {S : Nat → Prop} (h : GOut w W0 R pre S A) (hs : Stay S A B) : GOut w W0 R pre S B := by
  have hz := h.z
  exact ⟨h.lo, hs.cell h.r (h.lo _ hz.2), h.b.trans (hs.below h.b.size (fun k hk => h.lo k (by omega))), hz, h.hit⟩

set_option maxHeartbeats 3200000 in
set_option maxRecDepth 100000 in
theorem impGround_any (t : TermD) (a : Option Addr) (c hi : Nat) (w : World) (hp : partsT t ≤ 4194304) (hr : RdK w hi a t.kids) (hhi : hi ≤ w.heap.size) (hc : t.kids.length ≤ c) :
    Calls Try.prog 46 #[.agg #[.int .i64 t.f, .int .i64 t.v, .slice a t.kids.length c]] w fun e w' => e = .returned (.bool (grdT t)) ∧ Below w.heap.size w w' := by
  refine (callsIn_wide (n := 5)).1 ?_
  refine callsIn_of_wp_marks Try.func46 rfl trivial ?_ rfl
  simp only [Try.ntmps46, List.size_toArray, List.length_cons, List.length_nil, Nat.reduceAdd, Nat.reduceSub, Array.replicate_succ, Array.replicate_zero, List.push_toArray, List.append_toArray, List.nil_append, List.cons_append]
  gi_wp2_with (refine ⟨trivial, ?_⟩; gi_at_call 62; refine (callsIn_wide.2 (within_any t a c _)).mono ?_; rintro e w' ⟨rfl, rfl⟩)
  obtain ⟨W0, hW0⟩ : ∃ W0, W0 = ((w.alloc (.cells #[.int .i64 t.f, .int .i64 t.v, .slice a t.kids.length c] 28)).alloc (.cells #[.bool false] 4)).alloc (.cells #[.int .i64 t.f, .int .i64 t.v, .slice a t.kids.length c] 28) := ⟨_, rfl⟩
  have hB0 : Below w.heap.size w W0 := by rw [hW0]; exact (((Below.refl _ _).alloc (Nat.le_refl _) _).alloc (by simp) _).alloc (by simp; omega) _
  have hz : W0.heap.size = w.heap.size + 1 + 1 + 1 := by rw [hW0]; simp
  have v0 : W0.cell? ⟨w.heap.size + 1, 0, none⟩ = some (.bool false) := by rw [hW0]; simp [go_sem]
  have f0 : W0.frozen? ⟨w.heap.size + 1, 0, none⟩ = false := by rw [hW0]; simp [go_sem]
  have t0 : W0.cell? ⟨w.heap.size + 1 + 1, 0, none⟩ = some (.int .i64 t.f) := by rw [hW0]; simp [go_sem]
  have t1 : W0.cell? ⟨w.heap.size + 1 + 1, 1, none⟩ = some (.int .i64 t.v) := by rw [hW0]; simp [go_sem]
  have t2 : W0.cell? ⟨w.heap.size + 1 + 1, 2, none⟩ = some (.slice a t.kids.length c) := by rw [hW0]; simp [go_sem]
  rw [← hW0]
  clear hW0
  refine wpIn_rangeFunc_priv rfl (by omega) (gf := 77) (lb := #[.pointer (some ⟨w.heap.size + 1 + 1, 0, none⟩)]) rfl trivial (enters_of Try.func77 (by kernel_rfl) rfl)
    (within_seq Fence.wide 4 trivial rfl (by omega) W0 t a c hi w.heap.size (w.heap.size + 1 + 1) hp hc (hr.on (hB0.mono hhi)) hhi hB0.size t0 t1 t2) hB0.size (Below.refl _ _) (fun _ => rfl)
    (fun pre S W => GInv w W0 (w.heap.size + 1) pre S W) (fun cd pre S W => cd = .ret ∧ GOut w W0 (w.heap.size + 1) pre S W) (fun pre S A B h hs => h.stay hs)
    (fun _ _ _ _ _ h hs => ⟨h.1, h.2.stay hs⟩) (fun pre S A h => h.hi) (fun k => k < W0.heap.size) (fun _ h => h) ⟨fun _ h => h, fun _ h => h, v0, f0, hB0, by omega, by simp⟩
    (fun pre x S a₁ W => GInv w W0 (w.heap.size + 1) pre S W ∧ ∃ Bx, BoxEl x Bx S W ∧ a₁ = { tmps := #[.agg #[.int .i64 t.f, .int .i64 t.v, .slice a t.kids.length c], .pointer (some ⟨w.heap.size, 0, none⟩), .pointer (some ⟨w.heap.size + 1, 0, none⟩), .pointer (some ⟨Bx, 0, none⟩), undef, undef, .agg #[.int .i64 t.f, .int .i64 t.v, .slice a t.kids.length c], .func (.func 77) #[] #[.pointer (some ⟨w.heap.size + 1 + 1, 0, none⟩)], .agg #[.int .i64 x.t.f, .int .i64 x.t.v, .slice x.a x.t.kids.length x.c], undef, undef, undef, undef, undef, undef], defers := [] })
    (fun pre x S a₁ A B h hs => by
      obtain ⟨h1, Bx, h2, h3⟩ := h
      exact ⟨h1.stay hs, Bx, h2.stay hs, h3⟩)
    ?assign ?body ?done ?stop
  case assign =>
    intro l pre x S W K hi hlen hok hK
    dsimp only [El.enc]
    gi_wp2
    refine hK _ (fun k => S k ∨ k = W.heap.size) _ ⟨(hi.stay (.alloc _ _ _)).more (fun _ h => .inl h) (fun k h => h.elim (fun h => by have := hi.hi k h; simp; omega) (fun e => by simp; omega)), W.heap.size, ⟨.inr rfl, ?_, ?_, ?_⟩, by simp⟩ (fun k h => h.imp id (fun e => by omega)) (.alloc _ _ _)
    all_goals simp [go_sem]
  case body =>
    rintro l pre x S a₁ W ⟨h, Bx, hx, rfl⟩ hlen hok
    have C := variableOf_any x.t x.a x.t.kids.length x.c W
    have x0 := hx.c0
    have x1 := hx.c1
    have x2 := hx.c2
    have hr0 := h.r
    have hf0 := h.f
    have hzz := h.z
    cases hvb : vofB x.t with
    | false =>
      rw [hvb] at C
      have F0 : Hid (∀ w1, Below W.heap.size W w1 → GInv w W0 (w.heap.size + 1) (pre ++ [x]) S w1 ∧ Stay (fun k => k < w.heap.size ∨ ¬ S k) W w1) := fun w1 hb => by
        have h1 := h.stay (.of_below hb (fun _ hk _ => hk))
        refine ⟨⟨h1.lo, h1.hi, h1.r, h1.f, h1.b, h1.z, fun y hy => ?_⟩, .of_below hb (fun _ hk _ => hk)⟩
        rcases List.mem_append.1 hy with hy | hy
        · exact h1.no y hy
        · simp only [List.mem_singleton] at hy; subst hy; exact hvb
      clear h hx hvb
      gi_wp2_with (refine ⟨trivial, ?_⟩; gi_at_call 68; refine (CallsIn.inRound l (callsIn_wide.2 C)).mono ?_; rintro e w1 ⟨rfl, hb1⟩; clear C)
      obtain ⟨q1, q2⟩ := F0.out w1 hb1
      exact ⟨S, q1, fun k h => .inl h, q2⟩
    | true =>
      rw [hvb] at C
      have F1 : Hid (∀ w1, Below W.heap.size W w1 → GOut w W0 (w.heap.size + 1) (pre ++ [x]) S (w1.setCell ⟨w.heap.size + 1, 0, none⟩ (.bool false)) ∧ Stay (fun k => k < w.heap.size ∨ ¬ S k) W (w1.setCell ⟨w.heap.size + 1, 0, none⟩ (.bool false))) := fun w1 hb => by
        have h1 := h.stay (.of_below hb (fun _ hk _ => hk))
        refine ⟨⟨h1.lo, ?_, h1.b.setCell (p := ⟨w.heap.size + 1, 0, none⟩) (by simp) _, h1.z, x, by simp, hvb⟩, (Stay.of_below hb (fun _ hk _ => hk)).trans (.setCell _ _ (fun h => h.elim (fun h => by simp only at h; omega) (fun h' => h' (h1.lo _ h1.z.2))))⟩
        exact World.cell?_setCell_same _ _ _ h1.r
      clear h hx hvb
      gi_wp2_with (refine ⟨trivial, ?_⟩; gi_at_call 68; refine (CallsIn.inRound l (callsIn_wide.2 C)).mono ?_; rintro e w1 ⟨rfl, hb1⟩; clear C; have hr0 := keepC hb1 hr0; have hf0 := (hb1.frozen (p := ⟨w.heap.size + 1, 0, none⟩) (World.block_lt_of_cell? _ _ ‹W.cell? ⟨w.heap.size + 1, 0, none⟩ = _›)).trans hf0)
      obtain ⟨q1, q2⟩ := F1.out w1 hb1
      exact ⟨S, ⟨rfl, q1⟩, fun k h => .inl h, q2⟩
  case done =>
    rintro D xs S W hxs h hK hD hSD
    have h3 := h.r
    have h4 := h.f
    have h5 := h.b
    have hg : Hid (grdT t = true) := grd_all (fun x hx => by rw [← hxs] at hx; obtain ⟨y, hy, rfl⟩ := List.mem_map.1 hx; exact h.no y hy)
    clear h
    gi_wp2
    refine ⟨by simp, .inl ⟨_, _, rfl, run_takeDeferred (by rw [Below.heap_setCell _ _ _ _ (by simp only; omega)]; exact hK), ?_⟩⟩
    have e5 := (h5.setCell (p := ⟨w.heap.size + 1, 0, none⟩) (by simp) (.bool true))
    exact ⟨_, results_bool rfl rfl (b := true) ((World.cell?_of_block (World.putObj_heap_other (by simp only; omega))).trans (World.cell?_setCell_same _ _ _ h3)), rtB hg.out.symm, e5.trans ((Stay.putObj (S := fun k => k < w.heap.size) _ _ (by omega)).below e5.size (fun _ h => h))⟩
  case stop =>
    rintro D cd pre S W ⟨r, hpre⟩ ⟨rfl, h⟩ hK hD hSD
    have h3 := h.r
    have h5 := h.b
    have hg : Hid (grdT t = false) := by
      obtain ⟨x, hx, hv⟩ := h.hit
      exact grd_hit (by rw [← hpre]; exact List.mem_append_left _ (List.mem_map_of_mem hx)) hv
    clear h
    gi_wp2
    refine ⟨by simp, .inl ⟨_, _, rfl, run_takeDeferred hK, ?_⟩⟩
    exact ⟨_, results_bool rfl rfl (b := false) ((World.cell?_of_block (World.putObj_heap_other (by simp only; omega))).trans h3), rtB hg.out.symm, h5.trans ((Stay.putObj (S := fun k => k < w.heap.size) W _ (by omega)).below h5.size (fun _ h => h))⟩
end Go.Proofs.Ytkecnljdloffdab

/- Whether a term has no variables, as the specification tells it. Conditions: terms of at most 1048577 parts. -/
namespace Go.Proofs.Ytkecnljdloffdab
set_option maxRecDepth 100000
open Go.RowKit

set_option maxHeartbeats 800000 in
theorem specGround_any (t : TermD) (a : Option Addr) (c hi : Nat) (w : World) (hp : partsT t ≤ 1048577) (hr : RdK w hi a t.kids) (hhi : hi ≤ w.heap.size) :
    Calls Try.prog 40 #[.agg #[.int .i64 t.f, .int .i64 t.v, .slice a t.kids.length c]] w fun e w' => e = .returned (.bool (grdT t)) ∧ Below w.heap.size w w' := by
  have h0 : Below w.heap.size w (w.alloc (.cells #[.int .i64 t.f, .int .i64 t.v, .slice a t.kids.length c] 28)) := (Below.refl w.heap.size w).alloc (Nat.le_refl _) _
  have I := specVarsOf_any t a c hi _ hp (hr.on (h0.mono hhi)) (Nat.le_trans hhi h0.size)
  have HG : Hid (grdT t = ((((varsT t []).length : Nat) : Int) == 0)) := by
    show _ = _
    unfold grdT
    cases varsT t [] with
    | nil => rfl
    | cons x xs =>
      have : ¬ (((x :: xs).length : Int) = 0) := by rw [List.length_cons]; omega
      simp only [List.isEmpty_cons, Bool.false_eq, beq_eq_false_iff_ne]; exact this
  go_enter Try.func40, Try.ntmps40
  go_wp2_with (go_at_call 37; refine I.mono ?_; rintro e w1 ⟨g1, c1, rfl, hO1, hb1⟩; clear I)
  go_ret
  exact ⟨rtB HG.out.symm, h0.trans (hb1.mono h0.size)⟩
end Go.Proofs.Ytkecnljdloffdab

/- Which of two terms is greater: as data, and as the specification and the program tell it. Conditions: terms of at most 1048577 parts. -/
namespace Go.Proofs.Ytkecnljdloffdab
set_option maxRecDepth 100000
open Go.RowKit

/-- Each variable of b stands in a as often at least. -/
def oftL (a b : TermD) (vs : List Int) : Bool := vs.all fun v => decide (cntT v b ≤ cntT v a)
def oftT (a b : TermD) : Bool := oftL a b (varsT b [])
def tok3 (ss : List SymD) (t : TermD) : Bool := sigOk ss && decide (partsT t ≤ 60) && rightT ss t
/-- By weight, and where these are alike by order. -/
def ovrT (ss : List SymD) (a b : TermD) : Bool := decide (wgtT (blindAt ss) b < wgtT (blindAt ss) a) || (decide (wgtT (blindAt ss) a = wgtT (blindAt ss) b) && grdT a && grdT b && befT b a)
def gtrT (ss : List SymD) (a b : TermD) : Bool := tok3 ss a && tok3 ss b && oftT a b && ovrT ss a b

theorem oft_hit {a b : TermD} {vs : List Int} {k : Nat} (h : k < vs.length) (hv : ¬ cntT vs[k] b ≤ cntT vs[k] a) : oftL a b vs = false := by
  unfold oftL
  rw [List.all_eq_false]
  exact ⟨vs[k], List.getElem_mem h, by simpa using hv⟩
theorem oft_all {a b : TermD} {vs : List Int} (h : ∀ k, (hk : k < vs.length) → cntT vs[k] b ≤ cntT vs[k] a) : oftL a b vs = true := by
  unfold oftL
  rw [List.all_eq_true]
  intro v hv
  obtain ⟨k, hk, rfl⟩ := List.getElem_of_mem hv
  simpa using h k hk
theorem sum_ge (f : Int → Nat) : ∀ l : List Int, (∀ v ∈ l, 1 ≤ f v) → l.length ≤ (l.map f).sum
  | [], _ => by simp
  | v :: l, h => by
    have h1 := h v (by simp)
    have h2 := sum_ge f l (fun x hx => h x (by simp [hx]))
    simp only [List.length_cons, List.map_cons, List.sum_cons]
    omega
theorem vars_len (t : TermD) : (varsT t []).length ≤ partsT t := Nat.le_trans (sum_ge _ _ (fun _ hv => vars_cnt hv)) (vars_sum t)

set_option maxHeartbeats 1600000 in
theorem standAsOften_any (t u : TermD) (a a' : Option Addr) (c c' hi : Nat) (w : World) (hp : partsT t ≤ 1048577) (hp' : partsT u ≤ 1048577) (hr : RdK w hi a t.kids) (hr' : RdK w hi a' u.kids) (hhi : hi ≤ w.heap.size) (hc : t.kids.length ≤ c) (hc' : u.kids.length ≤ c') :
    Calls Try.prog 43 #[.agg #[.int .i64 t.f, .int .i64 t.v, .slice a t.kids.length c], .agg #[.int .i64 u.f, .int .i64 u.v, .slice a' u.kids.length c']] w fun e w' => e = .returned (.bool (oftT t u)) ∧ Below w.heap.size w w' := by
  obtain ⟨W, hW⟩ : ∃ W, W = (w.alloc (.cells #[.int .i64 t.f, .int .i64 t.v, .slice a t.kids.length c] 28)).alloc (.cells #[.int .i64 u.f, .int .i64 u.v, .slice a' u.kids.length c'] 28) := ⟨_, rfl⟩
  have hWb : Below w.heap.size w W := by rw [hW]; exact ((Below.refl _ _).alloc (Nat.le_refl _) _).alloc (by simp) _
  have p0 : W.cell? ⟨w.heap.size, 0, none⟩ = some (.int .i64 t.f) := by rw [hW]; simp [go_sem]
  have p1 : W.cell? ⟨w.heap.size, 1, none⟩ = some (.int .i64 t.v) := by rw [hW]; simp [go_sem]
  have p2 : W.cell? ⟨w.heap.size, 2, none⟩ = some (.slice a t.kids.length c) := by rw [hW]; simp [go_sem]
  have q0 : W.cell? ⟨w.heap.size + 1, 0, none⟩ = some (.int .i64 u.f) := by rw [hW]; simp [go_sem]
  have q1 : W.cell? ⟨w.heap.size + 1, 1, none⟩ = some (.int .i64 u.v) := by rw [hW]; simp [go_sem]
  have q2 : W.cell? ⟨w.heap.size + 1, 2, none⟩ = some (.slice a' u.kids.length c') := by rw [hW]; simp [go_sem]
  have CV := impVarsOf_any u a' c' hi W (by omega) (hr'.on (hWb.mono hhi)) (Nat.le_trans hhi hWb.size) hc'
  have CT : ∀ v w', Below w.heap.size w w' → Calls Try.prog 65 #[.agg #[.int .i64 t.f, .int .i64 t.v, .slice a t.kids.length c], .int .i64 v] w' fun e w'' => e = .returned (.int .i64 (cntT v t)) ∧ Below w'.heap.size w' w'' := fun v w' hb =>
    impCount_any _ t a c hi v w' (Nat.le_refl _) (by omega) (hr.on (hb.mono hhi)) (Nat.le_trans hhi hb.size) hc
  have CU : ∀ v w', Below w.heap.size w w' → Calls Try.prog 65 #[.agg #[.int .i64 u.f, .int .i64 u.v, .slice a' u.kids.length c'], .int .i64 v] w' fun e w'' => e = .returned (.int .i64 (cntT v u)) ∧ Below w'.heap.size w' w'' := fun v w' hb =>
    impCount_any _ u a' c' hi v w' (Nat.le_refl _) (by omega) (hr'.on (hb.mono hhi)) (Nat.le_trans hhi hb.size) hc'
  have hvl := vars_len u
  have HCT : Hid _ := CT
  have HCU : Hid _ := CU
  clear hr hr' CT CU
  unfold oftT
  obtain ⟨zs, hzs⟩ : ∃ zs, zs = varsT u [] := ⟨_, rfl⟩
  rw [← hzs] at CV hvl ⊢
  clear hzs
  go_enter Try.func43, Try.ntmps43
  go_wp2_with (go_at_call 64; rw [← hW]; refine CV.mono ?_; rintro e w1 ⟨av, cv, rfl, ho, hb⟩; clear CV hW)
  have hrd : Rd w1 av zs := Rd.ownV rfl ho
  have hB1 : Below w.heap.size w w1 := hWb.trans (hb.mono hWb.size)
  have P0 := keepC hb p0
  have P1 := keepC hb p1
  have P2 := keepC hb p2
  have Q0 := keepC hb q0
  have Q1 := keepC hb q1
  have Q2 := keepC hb q2
  clear p0 p1 p2 q0 q1 q2 ho hb hWb
  go_loopw [10] (fun vk wr => ∃ k : Nat, vk = .int .i64 k ∧ k ≤ zs.length ∧ Below w1.heap.size w1 wr ∧ Hid (∀ j, (hj : j < zs.length) → j < k → cntT zs[j] u ≤ cntT zs[j] t)) (fun vk _ => zs.length - (intOf vk).toNat)
  case atStart => exact ⟨0, rfl, Nat.zero_le _, Below.refl _ _, fun j _ h => absurd h (Nat.not_lt_zero _)⟩
  case round =>
    obtain ⟨k, rfl, hk, hb, HA⟩ := hrel
    have hB : Below w.heap.size w wr := hB1.trans (hb.mono hB1.size)
    have r0 := keepC hb P0
    have r1 := keepC hb P1
    have r2 := keepC hb P2
    have s0 := keepC hb Q0
    have s1 := keepC hb Q1
    have s2 := keepC hb Q2
    by_cases hkl : k < zs.length
    · have hklz : (k : Int) < (zs.length : Int) := by omega
      rcases hrd.below hb with h | ⟨b, off, rfl, hbl, hcz⟩
      · rw [h] at hkl; simp at hkl
      · have hck := hcz k hkl
        rw [List.getElem?_eq_getElem hkl, Option.getD_some] at hck
        have IT := fun W' (h : Below wr.heap.size wr W') => HCT.out zs[k] W' (hB.trans (h.mono hB.size))
        have IU := fun W' (h : Below wr.heap.size wr W') => HCU.out zs[k] W' (hB.trans (h.mono hB.size))
        have HZ : Hid (∀ j, (hj : j < zs.length) → j < k + 1 → cntT zs[k] u ≤ cntT zs[k] t → cntT zs[j] u ≤ cntT zs[j] t) := fun j hj hjk h => by
          rcases Nat.lt_or_ge j k with h1 | h1
          · exact HA.out j hj h1
          · have : j = k := by omega
            subst this; exact h
        have HF : Hid (¬ cntT zs[k] u ≤ cntT zs[k] t → oftL t u zs = false) := fun h => oft_hit hkl h
        clear hcz
        generalize zs[k] = x at hck IT IU HZ HF
        by_cases hcmp : cntT x u ≤ cntT x t
        · have hcz2 : ¬ ((cntT x t : Nat) : Int) < ((cntT x u : Nat) : Int) := by omega
          generalize cntT x t = m1 at IT hcz2
          generalize cntT x u = m2 at IU hcz2
          go_wp2
          have k0 := cellB r0
          have k1 := cellB r1
          have k2 := cellB r2
          have l0 := cellB s0
          have l1 := cellB s1
          have l2 := cellB s2
          refine wp_region_below (by kernel_rfl) (by kernel_rfl) ?_
          repeat (go_big_quiet_step ((first | (go_at_call_of 65 t; refine callsB (IT _ (BW.b _))) | (go_at_call_of 65 u; refine callsB (IU _ (BW.b _))))))
          refine wpQuiet_nil ?_
          intro w2 hw'
          have hb2 : Below wr.heap.size wr w2 := by obtain ⟨p, rfl⟩ := hw'; exact p.b
          clear hw' k0 k1 k2 l0 l1 l2
          go_wp2_with fail
          go_roundw
          case rel => exact ⟨k + 1, by go_num, by omega, hb.trans (hb2.mono hb.size), fun j hj hjk => HZ.out j hj hjk hcmp⟩
          case measure => simp [intOf]; omega
        · have hcz2 : ((cntT x t : Nat) : Int) < ((cntT x u : Nat) : Int) := by omega
          have HF2 := HF.out hcmp
          generalize cntT x t = m1 at IT hcz2
          generalize cntT x u = m2 at IU hcz2
          go_wp2
          have k0 := cellB r0
          have k1 := cellB r1
          have k2 := cellB r2
          have l0 := cellB s0
          have l1 := cellB s1
          have l2 := cellB s2
          refine wp_region_below (by kernel_rfl) (by kernel_rfl) ?_
          repeat (go_big_quiet_step ((first | (go_at_call_of 65 t; refine callsB (IT _ (BW.b _))) | (go_at_call_of 65 u; refine callsB (IU _ (BW.b _))))))
          refine wpQuiet_nil ?_
          intro w2 hw'
          have hb2 : Below wr.heap.size wr w2 := by obtain ⟨p, rfl⟩ := hw'; exact p.b
          clear hw' k0 k1 k2 l0 l1 l2
          go_wp2_with fail
          go_ret
          exact ⟨rtB HF2.symm, hB.trans (hb2.mono hB.size)⟩
    · have hklz : ¬ (k : Int) < (zs.length : Int) := by omega
      have HF2 : oftL t u zs = true := oft_all (fun j hj => HA.out j hj (by omega))
      go_wp2
      go_ret
      first | exact ⟨rtB HF2.symm, hB⟩ | exact ⟨rfl, hB⟩

theorem scaleWeight_any (sa : Option Addr) (ss : List SymD) (sc : Nat) (t : TermD) (a : Option Addr) (c hi : Nat) (w : World) (hs : RdS w sa ss) (hp : partsT t ≤ 1048577) (hr : RdK w hi a t.kids) (hhi : hi ≤ w.heap.size) (hc : t.kids.length ≤ c) :
    Calls Try.prog 45 #[.slice sa ss.length sc, .agg #[.int .i64 t.f, .int .i64 t.v, .slice a t.kids.length c]] w fun e w' => e = .returned (.int .i64 (wgtT (blindAt ss) t : Nat)) ∧ Below w.heap.size w w' := by
  obtain ⟨W, hW⟩ : ∃ W, W = w.alloc (.cells #[.int .i64 t.f, .int .i64 t.v, .slice a t.kids.length c] 28) := ⟨_, rfl⟩
  have hWb : Below w.heap.size w W := by rw [hW]; exact (Below.refl _ _).alloc (Nat.le_refl _) _
  have C := impWeight_any sa ss ss.length sc t a c hi W rfl (hs.below hWb) hp (hr.on (hWb.mono hhi)) (Nat.le_trans hhi hWb.size) hc
  generalize wgtT (blindAt ss) t = m at C ⊢
  go_enter Try.func45, Try.ntmps45
  go_wp2_with (go_at_call 67; rw [← hW]; refine C.mono ?_; rintro e w1 ⟨rfl, hb⟩)
  go_ret
  exact ⟨rfl, hWb.trans (hb.mono hWb.size)⟩

def cmpW (x y : Nat) : Int := Lib.compareInt x y

theorem orderBy_any (sa : Option Addr) (ss : List SymD) (sc : Nat) (t u : TermD) (a a' : Option Addr) (c c' hi : Nat) (w : World) (hs : RdS w sa ss) (hp : partsT t ≤ 1048577) (hp' : partsT u ≤ 1048577) (hr : RdK w hi a t.kids) (hr' : RdK w hi a' u.kids) (hhi : hi ≤ w.heap.size) (hc : t.kids.length ≤ c) (hc' : u.kids.length ≤ c') :
    Calls Try.prog 44 #[.func (.func 45) #[.slice sa ss.length sc] #[], .agg #[.int .i64 t.f, .int .i64 t.v, .slice a t.kids.length c], .agg #[.int .i64 u.f, .int .i64 u.v, .slice a' u.kids.length c']] w fun e w' => e = .returned (.int .i64 (cmpW (wgtT (blindAt ss) t) (wgtT (blindAt ss) u))) ∧ Below w.heap.size w w' := by
  obtain ⟨W, hW⟩ : ∃ W, W = (w.alloc (.cells #[.int .i64 t.f, .int .i64 t.v, .slice a t.kids.length c] 28)).alloc (.cells #[.int .i64 u.f, .int .i64 u.v, .slice a' u.kids.length c'] 28) := ⟨_, rfl⟩
  have hWb : Below w.heap.size w W := by rw [hW]; exact ((Below.refl _ _).alloc (Nat.le_refl _) _).alloc (by simp) _
  have p0 : W.cell? ⟨w.heap.size, 0, none⟩ = some (.int .i64 t.f) := by rw [hW]; simp [go_sem]
  have p1 : W.cell? ⟨w.heap.size, 1, none⟩ = some (.int .i64 t.v) := by rw [hW]; simp [go_sem]
  have p2 : W.cell? ⟨w.heap.size, 2, none⟩ = some (.slice a t.kids.length c) := by rw [hW]; simp [go_sem]
  have q0 : W.cell? ⟨w.heap.size + 1, 0, none⟩ = some (.int .i64 u.f) := by rw [hW]; simp [go_sem]
  have q1 : W.cell? ⟨w.heap.size + 1, 1, none⟩ = some (.int .i64 u.v) := by rw [hW]; simp [go_sem]
  have q2 : W.cell? ⟨w.heap.size + 1, 2, none⟩ = some (.slice a' u.kids.length c') := by rw [hW]; simp [go_sem]
  have CT := fun W' (h : Below W.heap.size W W') => scaleWeight_any sa ss sc t a c hi W' (hs.below (hWb.trans (h.mono hWb.size))) hp (hr.on ((hWb.trans (h.mono hWb.size)).mono hhi)) (Nat.le_trans hhi (hWb.trans (h.mono hWb.size)).size) hc
  have CU := fun W' (h : Below W.heap.size W W') => scaleWeight_any sa ss sc u a' c' hi W' (hs.below (hWb.trans (h.mono hWb.size))) hp' (hr'.on ((hWb.trans (h.mono hWb.size)).mono hhi)) (Nat.le_trans hhi (hWb.trans (h.mono hWb.size)).size) hc'
  generalize wgtT (blindAt ss) t = m at CT ⊢
  generalize wgtT (blindAt ss) u = m' at CU ⊢
  have CC : ∀ W' : World, Calls Try.prog 66 #[.int .i64 (m : Int), .int .i64 (m' : Int)] W' fun e w' => e = .returned (.int .i64 (cmpW m m')) ∧ Below W'.heap.size W' w' := fun W' => (Try.cmp_Compare_int m m' W').mono (by rintro e w' ⟨rfl, rfl⟩; exact ⟨rfl, Below.refl _ _⟩)
  generalize cmpW m m' = r at CC ⊢
  have k0 := cellB p0
  have k1 := cellB p1
  have k2 := cellB p2
  have l0 := cellB q0
  have l1 := cellB q1
  have l2 := cellB q2
  clear hs hr hr' p0 p1 p2 q0 q1 q2
  go_enter Try.func44, Try.ntmps44
  go_wp2
  rw [← hW]
  refine wp_region_below (by kernel_rfl) (by kernel_rfl) ?_
  repeat (go_big_quiet_step ((first | (go_at_call_of 45 t; refine callsB (CT _ (BW.b _))) | (go_at_call_of 45 u; refine callsB (CU _ (BW.b _))) | (go_at_call 66; refine callsB (CC _)))))
  refine wpQuiet_nil ?_
  intro w2 hw'
  have hb2 : Below W.heap.size W w2 := by obtain ⟨p, rfl⟩ := hw'; exact p.b
  clear hw' k0 k1 k2 l0 l1 l2
  go_wp2_with fail
  go_ret
  exact ⟨rfl, hWb.trans (hb2.mono hWb.size)⟩
end Go.Proofs.Ytkecnljdloffdab

/- Which of two terms is greater, as the program and the specification tell it. Conditions: terms of at most 1048577 parts. -/
namespace Go.Proofs.Ytkecnljdloffdab
set_option maxRecDepth 100000
open Go.RowKit

theorem cmpW_lt {x y : Nat} (h : x < y) : cmpW x y = -1 := by unfold cmpW Lib.compareInt; rw [if_pos (by omega)]
theorem cmpW_gt {x y : Nat} (h : y < x) : cmpW x y = 1 := by unfold cmpW Lib.compareInt; rw [if_neg (by omega), if_pos (by omega)]
theorem cmpW_eq {x y : Nat} (h : x = y) : cmpW x y = 0 := by unfold cmpW Lib.compareInt; rw [if_neg (by omega), if_neg (by omega)]

theorem keep6 {W W' : World} {n : Nat} {x0 x1 x2 y0 y1 y2 : Value} (h : (W.cell? ⟨n, 0, none⟩ = some x0 ∧ W.cell? ⟨n, 1, none⟩ = some x1 ∧ W.cell? ⟨n, 2, none⟩ = some x2) ∧ W.cell? ⟨n + 1, 0, none⟩ = some y0 ∧ W.cell? ⟨n + 1, 1, none⟩ = some y1 ∧ W.cell? ⟨n + 1, 2, none⟩ = some y2) (hb : Below W.heap.size W W') :
    (W'.cell? ⟨n, 0, none⟩ = some x0 ∧ W'.cell? ⟨n, 1, none⟩ = some x1 ∧ W'.cell? ⟨n, 2, none⟩ = some x2) ∧ W'.cell? ⟨n + 1, 0, none⟩ = some y0 ∧ W'.cell? ⟨n + 1, 1, none⟩ = some y1 ∧ W'.cell? ⟨n + 1, 2, none⟩ = some y2 :=
  ⟨⟨keepC hb h.1.1, keepC hb h.1.2.1, keepC hb h.1.2.2⟩, keepC hb h.2.1, keepC hb h.2.2.1, keepC hb h.2.2.2⟩

set_option maxHeartbeats 3200000 in
theorem impGreater_any (sa : Option Addr) (ss : List SymD) (sc : Nat) (hsz : ∀ s ∈ ss, s.name.size ≤ maxLen) (t u : TermD) (a a' : Option Addr) (c c' hi : Nat) (w : World) (hs : RdS w sa ss) (hp : partsT t ≤ 1048577) (hp' : partsT u ≤ 1048577) (hr : RdK w hi a t.kids) (hr' : RdK w hi a' u.kids) (hhi : hi ≤ w.heap.size) (hc : t.kids.length ≤ c) (hc' : u.kids.length ≤ c') :
    Calls Try.prog 21 #[.slice sa ss.length sc, .agg #[.int .i64 t.f, .int .i64 t.v, .slice a t.kids.length c], .agg #[.int .i64 u.f, .int .i64 u.v, .slice a' u.kids.length c']] w fun e w' => e = .returned (.bool (gtrT ss t u)) ∧ Below w.heap.size w w' := by
  obtain ⟨W, hW⟩ : ∃ W, W = (w.alloc (.cells #[.int .i64 t.f, .int .i64 t.v, .slice a t.kids.length c] 28)).alloc (.cells #[.int .i64 u.f, .int .i64 u.v, .slice a' u.kids.length c'] 28) := ⟨_, rfl⟩
  have hWb : Below w.heap.size w W := by rw [hW]; exact ((Below.refl _ _).alloc (Nat.le_refl _) _).alloc (by simp) _
  have P0 : (W.cell? ⟨w.heap.size, 0, none⟩ = some (.int .i64 t.f) ∧ W.cell? ⟨w.heap.size, 1, none⟩ = some (.int .i64 t.v) ∧ W.cell? ⟨w.heap.size, 2, none⟩ = some (.slice a t.kids.length c)) ∧ W.cell? ⟨w.heap.size + 1, 0, none⟩ = some (.int .i64 u.f) ∧ W.cell? ⟨w.heap.size + 1, 1, none⟩ = some (.int .i64 u.v) ∧ W.cell? ⟨w.heap.size + 1, 2, none⟩ = some (.slice a' u.kids.length c') := by rw [hW]; simp [go_sem]
  have KT : ∀ W', Below w.heap.size w W' → Calls Try.prog 42 #[.slice sa ss.length sc, .agg #[.int .i64 t.f, .int .i64 t.v, .slice a t.kids.length c]] W' fun e w' => e = .returned (.bool (tok3 ss t)) ∧ Below W'.heap.size W' w' := fun W' h => impTermOk_all sa ss sc hsz t a c hi W' (hs.below h) (by omega) (hr.on (h.mono hhi)) (Nat.le_trans hhi h.size) hc
  have KU : ∀ W', Below w.heap.size w W' → Calls Try.prog 42 #[.slice sa ss.length sc, .agg #[.int .i64 u.f, .int .i64 u.v, .slice a' u.kids.length c']] W' fun e w' => e = .returned (.bool (tok3 ss u)) ∧ Below W'.heap.size W' w' := fun W' h => impTermOk_all sa ss sc hsz u a' c' hi W' (hs.below h) (by omega) (hr'.on (h.mono hhi)) (Nat.le_trans hhi h.size) hc'
  have KO : ∀ W', Below w.heap.size w W' → Calls Try.prog 43 #[.agg #[.int .i64 t.f, .int .i64 t.v, .slice a t.kids.length c], .agg #[.int .i64 u.f, .int .i64 u.v, .slice a' u.kids.length c']] W' fun e w' => e = .returned (.bool (oftT t u)) ∧ Below W'.heap.size W' w' := fun W' h => standAsOften_any t u a a' c c' hi W' hp hp' (hr.on (h.mono hhi)) (hr'.on (h.mono hhi)) (Nat.le_trans hhi h.size) hc hc'
  have KW : ∀ W', Below w.heap.size w W' → Calls Try.prog 44 #[.func (.func 45) #[.slice sa ss.length sc] #[], .agg #[.int .i64 t.f, .int .i64 t.v, .slice a t.kids.length c], .agg #[.int .i64 u.f, .int .i64 u.v, .slice a' u.kids.length c']] W' fun e w' => e = .returned (.int .i64 (cmpW (wgtT (blindAt ss) t) (wgtT (blindAt ss) u))) ∧ Below W'.heap.size W' w' := fun W' h => orderBy_any sa ss sc t u a a' c c' hi W' (hs.below h) hp hp' (hr.on (h.mono hhi)) (hr'.on (h.mono hhi)) (Nat.le_trans hhi h.size) hc hc'
  have KG : ∀ W', Below w.heap.size w W' → Calls Try.prog 46 #[.agg #[.int .i64 t.f, .int .i64 t.v, .slice a t.kids.length c]] W' fun e w' => e = .returned (.bool (grdT t)) ∧ Below W'.heap.size W' w' := fun W' h => impGround_any t a c hi W' (by omega) (hr.on (h.mono hhi)) (Nat.le_trans hhi h.size) hc
  have KH : ∀ W', Below w.heap.size w W' → Calls Try.prog 46 #[.agg #[.int .i64 u.f, .int .i64 u.v, .slice a' u.kids.length c']] W' fun e w' => e = .returned (.bool (grdT u)) ∧ Below W'.heap.size W' w' := fun W' h => impGround_any u a' c' hi W' (by omega) (hr'.on (h.mono hhi)) (Nat.le_trans hhi h.size) hc'
  have KB : ∀ W', Below w.heap.size w W' → Calls Try.prog 47 #[.agg #[.int .i64 u.f, .int .i64 u.v, .slice a' u.kids.length c'], .agg #[.int .i64 t.f, .int .i64 t.v, .slice a t.kids.length c]] W' fun e w' => e = .returned (.bool (befT u t)) ∧ Below W'.heap.size W' w' := fun W' h => impBef_any 1048577 u t a' a c' c hi W' hp' (by omega) (hr'.on (h.mono hhi)) (hr.on (h.mono hhi)) (Nat.le_trans hhi h.size) hc' hc
  clear hs hr hr'
  unfold gtrT ovrT
  cases h1 : tok3 ss t with
  | false =>
    rw [h1] at KT
    go_enter Try.func21, Try.ntmps21
    go_wp2_with (go_at_call_of 42 t; rw [← hW]; refine (KT _ hWb).mono ?_; rintro e w1 ⟨rfl, hb⟩; have hB1 : Below w.heap.size w w1 := hWb.trans (hb.mono hWb.size); have P := keep6 P0 hb; obtain ⟨⟨p0, p1, p2⟩, q0, q1, q2⟩ := P; clear hb hW)
    go_ret
    exact ⟨rtB (by simp), hB1⟩
  | true =>
    rw [h1] at KT
    cases h2 : tok3 ss u with
    | false =>
      rw [h2] at KU
      go_enter Try.func21, Try.ntmps21
      go_wp2_with (first
        | (go_at_call_of 42 t; rw [← hW]; refine (KT _ hWb).mono ?_; rintro e w1 ⟨rfl, hb⟩; have hB1 : Below w.heap.size w w1 := hWb.trans (hb.mono hWb.size); have P := keep6 P0 hb; obtain ⟨⟨p0, p1, p2⟩, q0, q1, q2⟩ := P; clear hb hW)
        | (go_at_call_of 42 u; refine (KU _ hB1).mono ?_; rintro e w2 ⟨rfl, hb⟩; have hB2 : Below w.heap.size w w2 := hB1.trans (hb.mono hB1.size); have P := keep6 ⟨⟨p0, p1, p2⟩, q0, q1, q2⟩ hb; clear p0 p1 p2 q0 q1 q2; obtain ⟨⟨p0, p1, p2⟩, q0, q1, q2⟩ := P; clear hb hB1))
      go_ret
      exact ⟨rtB (by simp), hB2⟩
    | true =>
      rw [h2] at KU
      cases h3 : oftT t u with
      | false =>
        rw [h3] at KO
        go_enter Try.func21, Try.ntmps21
        go_wp2_with (first
          | (go_at_call_of 42 t; rw [← hW]; refine (KT _ hWb).mono ?_; rintro e w1 ⟨rfl, hb⟩; have hB1 : Below w.heap.size w w1 := hWb.trans (hb.mono hWb.size); have P := keep6 P0 hb; obtain ⟨⟨p0, p1, p2⟩, q0, q1, q2⟩ := P; clear hb hW)
          | (go_at_call_of 42 u; refine (KU _ hB1).mono ?_; rintro e w2 ⟨rfl, hb⟩; have hB2 : Below w.heap.size w w2 := hB1.trans (hb.mono hB1.size); have P := keep6 ⟨⟨p0, p1, p2⟩, q0, q1, q2⟩ hb; clear p0 p1 p2 q0 q1 q2; obtain ⟨⟨p0, p1, p2⟩, q0, q1, q2⟩ := P; clear hb hB1)
          | (go_at_call 43; refine (KO _ hB2).mono ?_; rintro e w3 ⟨rfl, hb⟩; have hB3 : Below w.heap.size w w3 := hB2.trans (hb.mono hB2.size); have P := keep6 ⟨⟨p0, p1, p2⟩, q0, q1, q2⟩ hb; clear p0 p1 p2 q0 q1 q2; obtain ⟨⟨p0, p1, p2⟩, q0, q1, q2⟩ := P; clear hb hB2))
        go_ret
        exact ⟨rtB (by simp), hB3⟩
      | true =>
        rw [h3] at KO
        generalize wgtT (blindAt ss) t = m at KW ⊢
        generalize wgtT (blindAt ss) u = m' at KW ⊢
        rcases Nat.lt_trichotomy m m' with hm | hm | hm
        · rw [cmpW_lt hm] at KW
          have hv : (true && true && true && (decide (m' < m) || (decide (m = m') && grdT t && grdT u && befT u t))) = false := by rw [decide_eq_false (show ¬ m' < m by omega), decide_eq_false (show ¬ m = m' by omega)]; rfl
          rw [hv]
          clear hv hm
          go_enter Try.func21, Try.ntmps21
          go_wp2_with (first
            | (go_at_call_of 42 t; rw [← hW]; refine (KT _ hWb).mono ?_; rintro e w1 ⟨rfl, hb⟩; have hB1 : Below w.heap.size w w1 := hWb.trans (hb.mono hWb.size); have P := keep6 P0 hb; obtain ⟨⟨p0, p1, p2⟩, q0, q1, q2⟩ := P; clear hb hW)
            | (go_at_call_of 42 u; refine (KU _ hB1).mono ?_; rintro e w2 ⟨rfl, hb⟩; have hB2 : Below w.heap.size w w2 := hB1.trans (hb.mono hB1.size); have P := keep6 ⟨⟨p0, p1, p2⟩, q0, q1, q2⟩ hb; clear p0 p1 p2 q0 q1 q2; obtain ⟨⟨p0, p1, p2⟩, q0, q1, q2⟩ := P; clear hb hB1)
            | (go_at_call 43; refine (KO _ hB2).mono ?_; rintro e w3 ⟨rfl, hb⟩; have hB3 : Below w.heap.size w w3 := hB2.trans (hb.mono hB2.size); have P := keep6 ⟨⟨p0, p1, p2⟩, q0, q1, q2⟩ hb; clear p0 p1 p2 q0 q1 q2; obtain ⟨⟨p0, p1, p2⟩, q0, q1, q2⟩ := P; clear hb hB2)
            | (go_at_call 44; refine (KW _ hB3).mono ?_; rintro e w4 ⟨rfl, hb⟩; have hB4 : Below w.heap.size w w4 := hB3.trans (hb.mono hB3.size); have P := keep6 ⟨⟨p0, p1, p2⟩, q0, q1, q2⟩ hb; clear p0 p1 p2 q0 q1 q2; obtain ⟨⟨p0, p1, p2⟩, q0, q1, q2⟩ := P; clear hb hB3))
          go_ret
          exact ⟨rtB (by simp), hB4⟩
        · rw [cmpW_eq hm] at KW
          rw [decide_eq_false (show ¬ m' < m by omega), decide_eq_true hm]
          clear hm
          cases h4 : grdT t with
          | false =>
            rw [h4] at KG
            go_enter Try.func21, Try.ntmps21
            go_wp2_with (first
              | (go_at_call_of 42 t; rw [← hW]; refine (KT _ hWb).mono ?_; rintro e w1 ⟨rfl, hb⟩; have hB1 : Below w.heap.size w w1 := hWb.trans (hb.mono hWb.size); have P := keep6 P0 hb; obtain ⟨⟨p0, p1, p2⟩, q0, q1, q2⟩ := P; clear hb hW)
              | (go_at_call_of 42 u; refine (KU _ hB1).mono ?_; rintro e w2 ⟨rfl, hb⟩; have hB2 : Below w.heap.size w w2 := hB1.trans (hb.mono hB1.size); have P := keep6 ⟨⟨p0, p1, p2⟩, q0, q1, q2⟩ hb; clear p0 p1 p2 q0 q1 q2; obtain ⟨⟨p0, p1, p2⟩, q0, q1, q2⟩ := P; clear hb hB1)
              | (go_at_call 43; refine (KO _ hB2).mono ?_; rintro e w3 ⟨rfl, hb⟩; have hB3 : Below w.heap.size w w3 := hB2.trans (hb.mono hB2.size); have P := keep6 ⟨⟨p0, p1, p2⟩, q0, q1, q2⟩ hb; clear p0 p1 p2 q0 q1 q2; obtain ⟨⟨p0, p1, p2⟩, q0, q1, q2⟩ := P; clear hb hB2)
              | (go_at_call 44; refine (KW _ hB3).mono ?_; rintro e w4 ⟨rfl, hb⟩; have hB4 : Below w.heap.size w w4 := hB3.trans (hb.mono hB3.size); have P := keep6 ⟨⟨p0, p1, p2⟩, q0, q1, q2⟩ hb; clear p0 p1 p2 q0 q1 q2; obtain ⟨⟨p0, p1, p2⟩, q0, q1, q2⟩ := P; clear hb hB3)
              | (go_at_call_of 46 t; refine (KG _ hB4).mono ?_; rintro e w5 ⟨rfl, hb⟩; have hB5 : Below w.heap.size w w5 := hB4.trans (hb.mono hB4.size); have P := keep6 ⟨⟨p0, p1, p2⟩, q0, q1, q2⟩ hb; clear p0 p1 p2 q0 q1 q2; obtain ⟨⟨p0, p1, p2⟩, q0, q1, q2⟩ := P; clear hb hB4))
            go_ret
            exact ⟨rtB (by simp), hB5⟩
          | true =>
            rw [h4] at KG
            cases h5 : grdT u with
            | false =>
              rw [h5] at KH
              go_enter Try.func21, Try.ntmps21
              go_wp2_with (first
                | (go_at_call_of 42 t; rw [← hW]; refine (KT _ hWb).mono ?_; rintro e w1 ⟨rfl, hb⟩; have hB1 : Below w.heap.size w w1 := hWb.trans (hb.mono hWb.size); have P := keep6 P0 hb; obtain ⟨⟨p0, p1, p2⟩, q0, q1, q2⟩ := P; clear hb hW)
                | (go_at_call_of 42 u; refine (KU _ hB1).mono ?_; rintro e w2 ⟨rfl, hb⟩; have hB2 : Below w.heap.size w w2 := hB1.trans (hb.mono hB1.size); have P := keep6 ⟨⟨p0, p1, p2⟩, q0, q1, q2⟩ hb; clear p0 p1 p2 q0 q1 q2; obtain ⟨⟨p0, p1, p2⟩, q0, q1, q2⟩ := P; clear hb hB1)
                | (go_at_call 43; refine (KO _ hB2).mono ?_; rintro e w3 ⟨rfl, hb⟩; have hB3 : Below w.heap.size w w3 := hB2.trans (hb.mono hB2.size); have P := keep6 ⟨⟨p0, p1, p2⟩, q0, q1, q2⟩ hb; clear p0 p1 p2 q0 q1 q2; obtain ⟨⟨p0, p1, p2⟩, q0, q1, q2⟩ := P; clear hb hB2)
                | (go_at_call 44; refine (KW _ hB3).mono ?_; rintro e w4 ⟨rfl, hb⟩; have hB4 : Below w.heap.size w w4 := hB3.trans (hb.mono hB3.size); have P := keep6 ⟨⟨p0, p1, p2⟩, q0, q1, q2⟩ hb; clear p0 p1 p2 q0 q1 q2; obtain ⟨⟨p0, p1, p2⟩, q0, q1, q2⟩ := P; clear hb hB3)
                | (go_at_call_of 46 t; refine (KG _ hB4).mono ?_; rintro e w5 ⟨rfl, hb⟩; have hB5 : Below w.heap.size w w5 := hB4.trans (hb.mono hB4.size); have P := keep6 ⟨⟨p0, p1, p2⟩, q0, q1, q2⟩ hb; clear p0 p1 p2 q0 q1 q2; obtain ⟨⟨p0, p1, p2⟩, q0, q1, q2⟩ := P; clear hb hB4)
                | (go_at_call_of 46 u; refine (KH _ hB5).mono ?_; rintro e w6 ⟨rfl, hb⟩; have hB6 : Below w.heap.size w w6 := hB5.trans (hb.mono hB5.size); have P := keep6 ⟨⟨p0, p1, p2⟩, q0, q1, q2⟩ hb; clear p0 p1 p2 q0 q1 q2; obtain ⟨⟨p0, p1, p2⟩, q0, q1, q2⟩ := P; clear hb hB5))
              go_ret
              exact ⟨rtB (by simp), hB6⟩
            | true =>
              rw [h5] at KH
              generalize befT u t = bv at KB ⊢
              go_enter Try.func21, Try.ntmps21
              go_wp2_with (first
                | (go_at_call_of 42 t; rw [← hW]; refine (KT _ hWb).mono ?_; rintro e w1 ⟨rfl, hb⟩; have hB1 : Below w.heap.size w w1 := hWb.trans (hb.mono hWb.size); have P := keep6 P0 hb; obtain ⟨⟨p0, p1, p2⟩, q0, q1, q2⟩ := P; clear hb hW)
                | (go_at_call_of 42 u; refine (KU _ hB1).mono ?_; rintro e w2 ⟨rfl, hb⟩; have hB2 : Below w.heap.size w w2 := hB1.trans (hb.mono hB1.size); have P := keep6 ⟨⟨p0, p1, p2⟩, q0, q1, q2⟩ hb; clear p0 p1 p2 q0 q1 q2; obtain ⟨⟨p0, p1, p2⟩, q0, q1, q2⟩ := P; clear hb hB1)
                | (go_at_call 43; refine (KO _ hB2).mono ?_; rintro e w3 ⟨rfl, hb⟩; have hB3 : Below w.heap.size w w3 := hB2.trans (hb.mono hB2.size); have P := keep6 ⟨⟨p0, p1, p2⟩, q0, q1, q2⟩ hb; clear p0 p1 p2 q0 q1 q2; obtain ⟨⟨p0, p1, p2⟩, q0, q1, q2⟩ := P; clear hb hB2)
                | (go_at_call 44; refine (KW _ hB3).mono ?_; rintro e w4 ⟨rfl, hb⟩; have hB4 : Below w.heap.size w w4 := hB3.trans (hb.mono hB3.size); have P := keep6 ⟨⟨p0, p1, p2⟩, q0, q1, q2⟩ hb; clear p0 p1 p2 q0 q1 q2; obtain ⟨⟨p0, p1, p2⟩, q0, q1, q2⟩ := P; clear hb hB3)
                | (go_at_call_of 46 t; refine (KG _ hB4).mono ?_; rintro e w5 ⟨rfl, hb⟩; have hB5 : Below w.heap.size w w5 := hB4.trans (hb.mono hB4.size); have P := keep6 ⟨⟨p0, p1, p2⟩, q0, q1, q2⟩ hb; clear p0 p1 p2 q0 q1 q2; obtain ⟨⟨p0, p1, p2⟩, q0, q1, q2⟩ := P; clear hb hB4)
                | (go_at_call_of 46 u; refine (KH _ hB5).mono ?_; rintro e w6 ⟨rfl, hb⟩; have hB6 : Below w.heap.size w w6 := hB5.trans (hb.mono hB5.size); have P := keep6 ⟨⟨p0, p1, p2⟩, q0, q1, q2⟩ hb; clear p0 p1 p2 q0 q1 q2; obtain ⟨⟨p0, p1, p2⟩, q0, q1, q2⟩ := P; clear hb hB5)
                | (go_at_call 47; refine (KB _ hB6).mono ?_; rintro e w7 ⟨rfl, hb⟩; have hB7 : Below w.heap.size w w7 := hB6.trans (hb.mono hB6.size); have P := keep6 ⟨⟨p0, p1, p2⟩, q0, q1, q2⟩ hb; clear p0 p1 p2 q0 q1 q2; obtain ⟨⟨p0, p1, p2⟩, q0, q1, q2⟩ := P; clear hb hB6))
              go_ret
              exact ⟨rtB (by simp), hB7⟩
        · rw [cmpW_gt hm] at KW
          rw [decide_eq_true hm]
          clear hm
          go_enter Try.func21, Try.ntmps21
          go_wp2_with (first
            | (go_at_call_of 42 t; rw [← hW]; refine (KT _ hWb).mono ?_; rintro e w1 ⟨rfl, hb⟩; have hB1 : Below w.heap.size w w1 := hWb.trans (hb.mono hWb.size); have P := keep6 P0 hb; obtain ⟨⟨p0, p1, p2⟩, q0, q1, q2⟩ := P; clear hb hW)
            | (go_at_call_of 42 u; refine (KU _ hB1).mono ?_; rintro e w2 ⟨rfl, hb⟩; have hB2 : Below w.heap.size w w2 := hB1.trans (hb.mono hB1.size); have P := keep6 ⟨⟨p0, p1, p2⟩, q0, q1, q2⟩ hb; clear p0 p1 p2 q0 q1 q2; obtain ⟨⟨p0, p1, p2⟩, q0, q1, q2⟩ := P; clear hb hB1)
            | (go_at_call 43; refine (KO _ hB2).mono ?_; rintro e w3 ⟨rfl, hb⟩; have hB3 : Below w.heap.size w w3 := hB2.trans (hb.mono hB2.size); have P := keep6 ⟨⟨p0, p1, p2⟩, q0, q1, q2⟩ hb; clear p0 p1 p2 q0 q1 q2; obtain ⟨⟨p0, p1, p2⟩, q0, q1, q2⟩ := P; clear hb hB2)
            | (go_at_call 44; refine (KW _ hB3).mono ?_; rintro e w4 ⟨rfl, hb⟩; have hB4 : Below w.heap.size w w4 := hB3.trans (hb.mono hB3.size); have P := keep6 ⟨⟨p0, p1, p2⟩, q0, q1, q2⟩ hb; clear p0 p1 p2 q0 q1 q2; obtain ⟨⟨p0, p1, p2⟩, q0, q1, q2⟩ := P; clear hb hB3))
          go_ret
          exact ⟨rtB (by simp), hB4⟩
end Go.Proofs.Ytkecnljdloffdab

/- Which of two terms is greater, as the specification tells it. Conditions: terms of at most 1048577 parts, at most 1048577 functions. -/
namespace Go.Proofs.Ytkecnljdloffdab
set_option maxRecDepth 100000
open Go.RowKit

set_option maxHeartbeats 6400000 in
theorem specGreater_any (sa : Option Addr) (ss : List SymD) (sc : Nat) (hss : ss.length ≤ 1048577) (hnm : ∀ s ∈ ss, s.name.size ≤ 1048576) (t u : TermD) (a a' : Option Addr) (c c' hi : Nat) (w : World) (hf : isW t.f) (hf' : isW u.f) (hs : RdS w sa ss) (hp : partsT t ≤ 1048577) (hp' : partsT u ≤ 1048577) (hr : RdK w hi a t.kids) (hr' : RdK w hi a' u.kids) (hhi : hi ≤ w.heap.size) :
    Calls Try.prog 19 #[.slice sa ss.length sc, .agg #[.int .i64 t.f, .int .i64 t.v, .slice a t.kids.length c], .agg #[.int .i64 u.f, .int .i64 u.v, .slice a' u.kids.length c']] w fun e w' => e = .returned (.bool (gtrT ss t u)) ∧ Below w.heap.size w w' := by
  obtain ⟨W, hW⟩ : ∃ W, W = (w.alloc (.cells #[.int .i64 t.f, .int .i64 t.v, .slice a t.kids.length c] 28)).alloc (.cells #[.int .i64 u.f, .int .i64 u.v, .slice a' u.kids.length c'] 28) := ⟨_, rfl⟩
  have hWb : Below w.heap.size w W := by rw [hW]; exact ((Below.refl _ _).alloc (Nat.le_refl _) _).alloc (by simp) _
  have P0 : (W.cell? ⟨w.heap.size, 0, none⟩ = some (.int .i64 t.f) ∧ W.cell? ⟨w.heap.size, 1, none⟩ = some (.int .i64 t.v) ∧ W.cell? ⟨w.heap.size, 2, none⟩ = some (.slice a t.kids.length c)) ∧ W.cell? ⟨w.heap.size + 1, 0, none⟩ = some (.int .i64 u.f) ∧ W.cell? ⟨w.heap.size + 1, 1, none⟩ = some (.int .i64 u.v) ∧ W.cell? ⟨w.heap.size + 1, 2, none⟩ = some (.slice a' u.kids.length c') := by rw [hW]; simp [go_sem]
  have KT : ∀ W', Below w.heap.size w W' → Calls Try.prog 36 #[.slice sa ss.length sc, .agg #[.int .i64 t.f, .int .i64 t.v, .slice a t.kids.length c]] W' fun e w' => e = .returned (.bool (tok3 ss t)) ∧ Below W'.heap.size W' w' := fun W' h => specTermOk_any sa ss sc hss hnm t a c hi W' hf (hs.below h) (by omega) (hr.on (h.mono hhi)) (Nat.le_trans hhi h.size)
  have KU : ∀ W', Below w.heap.size w W' → Calls Try.prog 36 #[.slice sa ss.length sc, .agg #[.int .i64 u.f, .int .i64 u.v, .slice a' u.kids.length c']] W' fun e w' => e = .returned (.bool (tok3 ss u)) ∧ Below W'.heap.size W' w' := fun W' h => specTermOk_any sa ss sc hss hnm u a' c' hi W' hf' (hs.below h) (by omega) (hr'.on (h.mono hhi)) (Nat.le_trans hhi h.size)
  have KV : ∀ W', Below w.heap.size w W' → Calls Try.prog 37 #[.agg #[.int .i64 u.f, .int .i64 u.v, .slice a' u.kids.length c']] W' fun e w' => ∃ g' c', e = .returned (.slice (some ⟨g', 0, none⟩) (varsT u []).length c') ∧ OutRow w' W'.heap.size g' c' (varsT u []) ∧ Below W'.heap.size W' w' := fun W' h => specVarsOf_any u a' c' hi W' hp' (hr'.on (h.mono hhi)) (Nat.le_trans hhi h.size)
  have KC : Hid (∀ x W', Below w.heap.size w W' → Calls Try.prog 38 #[.agg #[.int .i64 t.f, .int .i64 t.v, .slice a t.kids.length c], .int .i64 x] W' fun e w' => e = .returned (.int .i64 (cntT x t)) ∧ Below W'.heap.size W' w') := fun x W' h => specCount_any 1048577 t a c hi x W' hp (by omega) (hr.on (h.mono hhi)) (Nat.le_trans hhi h.size)
  have KD : Hid (∀ x W', Below w.heap.size w W' → Calls Try.prog 38 #[.agg #[.int .i64 u.f, .int .i64 u.v, .slice a' u.kids.length c'], .int .i64 x] W' fun e w' => e = .returned (.int .i64 (cntT x u)) ∧ Below W'.heap.size W' w') := fun x W' h => specCount_any 1048577 u a' c' hi x W' hp' (by omega) (hr'.on (h.mono hhi)) (Nat.le_trans hhi h.size)
  have KW : ∀ W', Below w.heap.size w W' → Calls Try.prog 39 #[.slice sa ss.length sc, .agg #[.int .i64 t.f, .int .i64 t.v, .slice a t.kids.length c]] W' fun e w' => e = .returned (.int .i64 (wgtT (blindAt ss) t : Nat)) ∧ Below W'.heap.size W' w' := fun W' h => specWeight_any sa ss sc hss 1048577 t a c hi W' hf (hs.below h) hp (by omega) (hr.on (h.mono hhi)) (Nat.le_trans hhi h.size)
  have KX : ∀ W', Below w.heap.size w W' → Calls Try.prog 39 #[.slice sa ss.length sc, .agg #[.int .i64 u.f, .int .i64 u.v, .slice a' u.kids.length c']] W' fun e w' => e = .returned (.int .i64 (wgtT (blindAt ss) u : Nat)) ∧ Below W'.heap.size W' w' := fun W' h => specWeight_any sa ss sc hss 1048577 u a' c' hi W' hf' (hs.below h) hp' (by omega) (hr'.on (h.mono hhi)) (Nat.le_trans hhi h.size)
  have KG : ∀ W', Below w.heap.size w W' → Calls Try.prog 40 #[.agg #[.int .i64 t.f, .int .i64 t.v, .slice a t.kids.length c]] W' fun e w' => e = .returned (.bool (grdT t)) ∧ Below W'.heap.size W' w' := fun W' h => specGround_any t a c hi W' hp (hr.on (h.mono hhi)) (Nat.le_trans hhi h.size)
  have KH : ∀ W', Below w.heap.size w W' → Calls Try.prog 40 #[.agg #[.int .i64 u.f, .int .i64 u.v, .slice a' u.kids.length c']] W' fun e w' => e = .returned (.bool (grdT u)) ∧ Below W'.heap.size W' w' := fun W' h => specGround_any u a' c' hi W' hp' (hr'.on (h.mono hhi)) (Nat.le_trans hhi h.size)
  have KB : ∀ W', Below w.heap.size w W' → Calls Try.prog 41 #[.agg #[.int .i64 u.f, .int .i64 u.v, .slice a' u.kids.length c'], .agg #[.int .i64 t.f, .int .i64 t.v, .slice a t.kids.length c]] W' fun e w' => e = .returned (.bool (befT u t)) ∧ Below W'.heap.size W' w' := fun W' h => specBefore_any 1048577 u t a' a c' c hi W' hp' (by omega) (hr'.on (h.mono hhi)) (hr.on (h.mono hhi)) (Nat.le_trans hhi h.size)
  have hvl := vars_len u
  clear hs hr hr' hf hf'
  unfold gtrT ovrT oftT
  obtain ⟨zs, hzs⟩ : ∃ zs, zs = varsT u [] := ⟨_, rfl⟩
  rw [← hzs] at KV hvl ⊢
  clear hzs
  cases h1 : tok3 ss t with
  | false =>
    rw [h1] at KT
    clear KU KV KW KX KG KH KB
    go_enter Try.func19, Try.ntmps19
    go_wp2_with (go_at_call_of 36 t; rw [← hW]; refine (KT _ hWb).mono ?_; rintro e w1 ⟨rfl, hb⟩; have hB1 : Below w.heap.size w w1 := hWb.trans (hb.mono hWb.size); have P := keep6 P0 hb; obtain ⟨⟨p0, p1, p2⟩, q0, q1, q2⟩ := P; clear hb hW)
    go_ret
    exact ⟨rtB (by simp), hB1⟩
  | true =>
    rw [h1] at KT
    cases h2 : tok3 ss u with
    | false =>
      rw [h2] at KU
      clear KV KW KX KG KH KB
      go_enter Try.func19, Try.ntmps19
      go_wp2_with (first
        | (go_at_call_of 36 t; rw [← hW]; refine (KT _ hWb).mono ?_; rintro e w1 ⟨rfl, hb⟩; have hB1 : Below w.heap.size w w1 := hWb.trans (hb.mono hWb.size); have P := keep6 P0 hb; obtain ⟨⟨p0, p1, p2⟩, q0, q1, q2⟩ := P; clear hb hW)
        | (go_at_call_of 36 u; refine (KU _ hB1).mono ?_; rintro e w2 ⟨rfl, hb⟩; have hB2 : Below w.heap.size w w2 := hB1.trans (hb.mono hB1.size); have P := keep6 ⟨⟨p0, p1, p2⟩, q0, q1, q2⟩ hb; clear p0 p1 p2 q0 q1 q2; obtain ⟨⟨p0, p1, p2⟩, q0, q1, q2⟩ := P; clear hb hB1))
      go_ret
      exact ⟨rtB (by simp), hB2⟩
    | true =>
      rw [h2] at KU
      generalize wgtT (blindAt ss) t = m at KW ⊢
      generalize wgtT (blindAt ss) u = m' at KX ⊢
      generalize grdT t = gt at KG ⊢
      generalize grdT u = gu at KH ⊢
      generalize befT u t = bv at KB ⊢
      go_enter Try.func19, Try.ntmps19
      go_wp2_with (first
        | (go_at_call_of 36 t; rw [← hW]; refine (KT _ hWb).mono ?_; rintro e w1 ⟨rfl, hb⟩; have hB1 : Below w.heap.size w w1 := hWb.trans (hb.mono hWb.size); have P := keep6 P0 hb; obtain ⟨⟨p0, p1, p2⟩, q0, q1, q2⟩ := P; clear hb hW)
        | (go_at_call_of 36 u; refine (KU _ hB1).mono ?_; rintro e w2 ⟨rfl, hb⟩; have hB2 : Below w.heap.size w w2 := hB1.trans (hb.mono hB1.size); have P := keep6 ⟨⟨p0, p1, p2⟩, q0, q1, q2⟩ hb; clear p0 p1 p2 q0 q1 q2; obtain ⟨⟨p0, p1, p2⟩, q0, q1, q2⟩ := P; clear hb hB1)
        | (go_at_call 37; refine (KV _ hB2).mono ?_; rintro e w3 ⟨gz, cz, rfl, ho, hb⟩; have hB3 : Below w.heap.size w w3 := hB2.trans (hb.mono hB2.size); have P := keep6 ⟨⟨p0, p1, p2⟩, q0, q1, q2⟩ hb; clear p0 p1 p2 q0 q1 q2; have hrd : Rd w3 (some ⟨gz, 0, none⟩) zs := Rd.own rfl ho; clear hb hB2 ho KV KT KU))
      go_loopw [8] (fun vk wr => ∃ k : Nat, vk = .int .i64 k ∧ k ≤ zs.length ∧ Below w3.heap.size w3 wr ∧ Hid (∀ j, (hj : j < zs.length) → j < k → cntT zs[j] u ≤ cntT zs[j] t)) (fun vk _ => zs.length - (intOf vk).toNat)
      case atStart => exact ⟨0, rfl, Nat.zero_le _, Below.refl _ _, fun j _ h => absurd h (Nat.not_lt_zero _)⟩
      case round =>
        obtain ⟨k, rfl, hk, hb, HA⟩ := hrel
        have hB : Below w.heap.size w wr := hB3.trans (hb.mono hB3.size)
        obtain ⟨⟨r0, r1, r2⟩, s0, s1, s2⟩ := keep6 P hb
        by_cases hkl : k < zs.length
        · have hklz : (k : Int) < (zs.length : Int) := by omega
          clear KW KX KG KH KB
          rcases hrd.below hb with h | ⟨b, off, hboff, hbl, hcz⟩
          · rw [h] at hkl; simp at hkl
          · cases hboff
            have hck := hcz k hkl
            rw [List.getElem?_eq_getElem hkl, Option.getD_some, Nat.zero_add] at hck
            have IT := fun W' (h : Below wr.heap.size wr W') => KC.out zs[k] W' (hB.trans (h.mono hB.size))
            have IU := fun W' (h : Below wr.heap.size wr W') => KD.out zs[k] W' (hB.trans (h.mono hB.size))
            have HZ : Hid (∀ j, (hj : j < zs.length) → j < k + 1 → cntT zs[k] u ≤ cntT zs[k] t → cntT zs[j] u ≤ cntT zs[j] t) := fun j hj hjk h => by
              rcases Nat.lt_or_ge j k with h1 | h1
              · exact HA.out j hj h1
              · have : j = k := by omega
                subst this; exact h
            have HF : Hid (¬ cntT zs[k] u ≤ cntT zs[k] t → oftL t u zs = false) := fun h => oft_hit hkl h
            clear hcz
            generalize zs[k] = x at hck IT IU HZ HF
            by_cases hcmp : cntT x u ≤ cntT x t
            · have hcz2 : ¬ ((cntT x t : Nat) : Int) < ((cntT x u : Nat) : Int) := by omega
              generalize cntT x t = m1 at IT hcz2
              generalize cntT x u = m2 at IU hcz2
              go_wp2
              have k0 := cellB r0
              have k1 := cellB r1
              have k2 := cellB r2
              have l0 := cellB s0
              have l1 := cellB s1
              have l2 := cellB s2
              have kz := cellB hck
              refine wp_region_below (by kernel_rfl) (by kernel_rfl) ?_
              repeat (go_big_quiet_step ((first | (go_at_call_of 38 t; refine callsB (IT _ (BW.b _))) | (go_at_call_of 38 u; refine callsB (IU _ (BW.b _))))))
              refine wpQuiet_nil ?_
              intro w4 hw'
              have hb2 : Below wr.heap.size wr w4 := by obtain ⟨p, rfl⟩ := hw'; exact p.b
              clear hw' k0 k1 k2 l0 l1 l2 kz
              go_wp2_with fail
              go_roundw
              case rel => exact ⟨k + 1, by go_num, by omega, hb.trans (hb2.mono hb.size), fun j hj hjk => HZ.out j hj hjk hcmp⟩
              case measure => simp [intOf]; omega
            · have hcz2 : ((cntT x t : Nat) : Int) < ((cntT x u : Nat) : Int) := by omega
              have HF2 : Hid (oftL t u zs = false) := HF.out hcmp
              generalize cntT x t = m1 at IT hcz2
              generalize cntT x u = m2 at IU hcz2
              go_wp2
              have k0 := cellB r0
              have k1 := cellB r1
              have k2 := cellB r2
              have l0 := cellB s0
              have l1 := cellB s1
              have l2 := cellB s2
              have kz := cellB hck
              refine wp_region_below (by kernel_rfl) (by kernel_rfl) ?_
              repeat (go_big_quiet_step ((first | (go_at_call_of 38 t; refine callsB (IT _ (BW.b _))) | (go_at_call_of 38 u; refine callsB (IU _ (BW.b _))))))
              refine wpQuiet_nil ?_
              intro w4 hw'
              have hb2 : Below wr.heap.size wr w4 := by obtain ⟨p, rfl⟩ := hw'; exact p.b
              clear hw' k0 k1 k2 l0 l1 l2 kz
              go_wp2_with fail
              go_ret
              exact ⟨rtB (by rw [HF2.out]; simp), hB.trans (hb2.mono hB.size)⟩
        · have hklz : ¬ (k : Int) < (zs.length : Int) := by omega
          have HF2 : Hid (oftL t u zs = true) := oft_all (fun j hj => HA.out j hj (by omega))
          clear HA KC KD hrd
          have IW := fun W' (h : Below wr.heap.size wr W') => KW W' (hB.trans (h.mono hB.size))
          have IX := fun W' (h : Below wr.heap.size wr W') => KX W' (hB.trans (h.mono hB.size))
          go_wp2
          have k0 := cellB r0
          have k1 := cellB r1
          have k2 := cellB r2
          have l0 := cellB s0
          have l1 := cellB s1
          have l2 := cellB s2
          refine wp_region_below (by kernel_rfl) (by kernel_rfl) ?_
          repeat (go_big_quiet_step ((first | (go_at_call_of 39 t; refine callsB (IW _ (BW.b _))) | (go_at_call_of 39 u; refine callsB (IX _ (BW.b _))))))
          refine wpQuiet_nil ?_
          intro w4 hw'
          have hb2 : Below wr.heap.size wr w4 := by obtain ⟨p, rfl⟩ := hw'; exact p.b
          have hB4 : Below w.heap.size w w4 := hB.trans (hb2.mono hB.size)
          have P4 := keep6 ⟨⟨r0, r1, r2⟩, s0, s1, s2⟩ hb2
          clear hw' k0 k1 k2 l0 l1 l2 r0 r1 r2 s0 s1 s2 P KW KX IW IX hb hb2 hB hB3
          obtain ⟨⟨p0, p1, p2⟩, q0, q1, q2⟩ := P4
          rcases Nat.lt_trichotomy m m' with hm | hm | hm
          · have z1 : ¬ (m' : Int) < (m : Int) := by omega
            have z2 : ¬ (m : Int) = (m' : Int) := by omega
            have HD : Hid (decide (m' < m) = false ∧ decide (m = m') = false) := ⟨decide_eq_false (by omega), decide_eq_false (by omega)⟩
            clear hm
            go_wp2_with fail
            go_ret
            exact ⟨rtB (by first | rfl | simp [HF2.out, HD.out.1, HD.out.2]), hB4⟩
          · subst hm
            have z1 : ¬ (m : Int) < (m : Int) := by omega
            have HD : Hid (decide (m < m) = false ∧ decide (m = m) = true) := ⟨decide_eq_false (by omega), decide_eq_true rfl⟩
            cases gt with
            | false =>
              go_wp2_with (go_at_call_of 40 t; refine (KG _ hB4).mono ?_; rintro e w5 ⟨rfl, hb⟩; have hB5 : Below w.heap.size w w5 := hB4.trans (hb.mono hB4.size); have P := keep6 ⟨⟨p0, p1, p2⟩, q0, q1, q2⟩ hb; clear p0 p1 p2 q0 q1 q2; obtain ⟨⟨p0, p1, p2⟩, q0, q1, q2⟩ := P; clear hb hB4)
              go_ret
              exact ⟨rtB (by first | rfl | simp [HF2.out, HD.out.1, HD.out.2]), hB5⟩
            | true =>
              cases gu with
              | false =>
                go_wp2_with (first
                  | (go_at_call_of 40 t; refine (KG _ hB4).mono ?_; rintro e w5 ⟨rfl, hb⟩; have hB5 : Below w.heap.size w w5 := hB4.trans (hb.mono hB4.size); have P := keep6 ⟨⟨p0, p1, p2⟩, q0, q1, q2⟩ hb; clear p0 p1 p2 q0 q1 q2; obtain ⟨⟨p0, p1, p2⟩, q0, q1, q2⟩ := P; clear hb hB4)
                  | (go_at_call_of 40 u; refine (KH _ hB5).mono ?_; rintro e w6 ⟨rfl, hb⟩; have hB6 : Below w.heap.size w w6 := hB5.trans (hb.mono hB5.size); have P := keep6 ⟨⟨p0, p1, p2⟩, q0, q1, q2⟩ hb; clear p0 p1 p2 q0 q1 q2; obtain ⟨⟨p0, p1, p2⟩, q0, q1, q2⟩ := P; clear hb hB5))
                go_ret
                exact ⟨rtB (by first | rfl | simp [HF2.out, HD.out.1, HD.out.2]), hB6⟩
              | true =>
                go_wp2_with (first
                  | (go_at_call_of 40 t; refine (KG _ hB4).mono ?_; rintro e w5 ⟨rfl, hb⟩; have hB5 : Below w.heap.size w w5 := hB4.trans (hb.mono hB4.size); have P := keep6 ⟨⟨p0, p1, p2⟩, q0, q1, q2⟩ hb; clear p0 p1 p2 q0 q1 q2; obtain ⟨⟨p0, p1, p2⟩, q0, q1, q2⟩ := P; clear hb hB4)
                  | (go_at_call_of 40 u; refine (KH _ hB5).mono ?_; rintro e w6 ⟨rfl, hb⟩; have hB6 : Below w.heap.size w w6 := hB5.trans (hb.mono hB5.size); have P := keep6 ⟨⟨p0, p1, p2⟩, q0, q1, q2⟩ hb; clear p0 p1 p2 q0 q1 q2; obtain ⟨⟨p0, p1, p2⟩, q0, q1, q2⟩ := P; clear hb hB5)
                  | (go_at_call 41; refine (KB _ hB6).mono ?_; rintro e w7 ⟨rfl, hb⟩; have hB7 : Below w.heap.size w w7 := hB6.trans (hb.mono hB6.size); have P := keep6 ⟨⟨p0, p1, p2⟩, q0, q1, q2⟩ hb; clear p0 p1 p2 q0 q1 q2; obtain ⟨⟨p0, p1, p2⟩, q0, q1, q2⟩ := P; clear hb hB6))
                go_ret
                exact ⟨rtB (by first | rfl | simp [HF2.out]), hB7⟩
          · have z1 : (m' : Int) < (m : Int) := by omega
            have HD : Hid (decide (m' < m) = true ∧ decide (m = m') = false) := ⟨decide_eq_true hm, decide_eq_false (by omega)⟩
            clear hm
            go_wp2_with fail
            go_ret
            exact ⟨rtB (by first | rfl | simp [HF2.out, HD.out.1, HD.out.2]), hB4⟩
end Go.Proofs.Ytkecnljdloffdab

/- Contracts of the laws' copies of terms. Conditions: terms of at most 4194304 parts. -/
namespace Go.Proofs.Ytkecnljdloffdab
set_option maxRecDepth 100000
open Go.RowKit

set_option maxHeartbeats 1600000 in
theorem toTerm_of (t : TermD) (a : Option Addr) (c : Nat) (w : World)
    (H : ∀ w', Below w.heap.size w w' → Calls Try.prog 9 #[.slice a t.kids.length c] w' fun e w'' => e = .returned (.slice (some ⟨w'.heap.size, 0, none⟩) t.kids.length t.kids.length) ∧ OwnS w'' (fun x => w'.heap.size ≤ x ∧ x < w''.heap.size) (some ⟨w'.heap.size, 0, none⟩) t.kids ∧ Below w'.heap.size w' w'') :
    Calls Try.prog 20 #[.agg #[.int .i64 t.f, .int .i64 t.v, .slice a t.kids.length c]] w fun e w' => ∃ a', e = .returned (.agg #[.int .i64 t.f, .int .i64 t.v, .slice a' t.kids.length t.kids.length]) ∧ OwnS w' (fun x => w.heap.size ≤ x ∧ x < w'.heap.size) a' t.kids ∧ Below w.heap.size w w' := by
  generalize t.kids = ks at *
  obtain ⟨W, hW⟩ : ∃ W, W = (((w.alloc (.cells #[.int .i64 t.f, .int .i64 t.v, .slice a ks.length c] 41)).alloc (.cells #[.int .i64 0, .int .i64 0, .slice none 0 0] 28)).alloc (.cells #[.int .i64 t.f, .int .i64 t.v, .slice none 0 0] 28)) := ⟨_, rfl⟩
  have hWs : W.heap.size = w.heap.size + 1 + 1 + 1 := by rw [hW]; simp
  have h0 : Below w.heap.size w W := by rw [hW]; exact (((Below.refl _ _).alloc (Nat.le_refl _) _).alloc (by simp) _).alloc (by simp; omega) _
  have H1 := H W h0
  have x0 : W.cell? ⟨w.heap.size + 1, 0, none⟩ = some (.int .i64 0) := by rw [hW]; simp [go_sem]
  have x1 : W.cell? ⟨w.heap.size + 1, 1, none⟩ = some (.int .i64 0) := by rw [hW]; simp [go_sem]
  have x2 : W.cell? ⟨w.heap.size + 1, 2, none⟩ = some (.slice none 0 0) := by rw [hW]; simp [go_sem]
  have y0 : W.cell? ⟨w.heap.size + 1 + 1, 0, none⟩ = some (.int .i64 t.f) := by rw [hW]; simp [go_sem]
  have y1 : W.cell? ⟨w.heap.size + 1 + 1, 1, none⟩ = some (.int .i64 t.v) := by rw [hW]; simp [go_sem]
  have y2 : W.cell? ⟨w.heap.size + 1 + 1, 2, none⟩ = some (.slice none 0 0) := by rw [hW]; simp [go_sem]
  have fz : ∀ j, W.frozen? ⟨w.heap.size + 1, j, none⟩ = false := by intro j; rw [hW]; simp [go_sem]
  have gz : ∀ j, W.frozen? ⟨w.heap.size + 1 + 1, j, none⟩ = false := by intro j; rw [hW]; simp [go_sem]
  rw [hWs] at H1
  clear H
  go_enter Try.func20, Try.ntmps20
  go_wp2_with (go_at_call 9; (rw [← hW]; refine H1.mono ?_; rintro e w1 ⟨rfl, ho1, hb1⟩; have hb3 := hb1; have hbW : Below W.heap.size W w1 := (by rw [hWs]; exact hb1); have a0 := keepC hbW x0; have a1 := keepC hbW x1; have a2 := keepC hbW x2; have b0 := keepC hbW y0; have b1 := keepC hbW y1; have b2 := keepC hbW y2; have fa : ∀ j, w1.frozen? ⟨w.heap.size + 1, j, none⟩ = false := (fun j => (World.frozen?_of_block (a := ⟨w.heap.size + 1, j, none⟩) (hb3.block (w.heap.size + 1) (by omega))).trans (fz j)); have fb : ∀ j, w1.frozen? ⟨w.heap.size + 1 + 1, j, none⟩ = false := (fun j => (World.frozen?_of_block (a := ⟨w.heap.size + 1 + 1, j, none⟩) (hb3.block (w.heap.size + 1 + 1) (by omega))).trans (gz j)); have hB1 := h0.trans (hbW.mono h0.size); have hsz := hb3.size; clear H1 hb1 hb3 hbW x0 x1 x2 y0 y1 y2 fz gz h0 hW))
  have other : ∀ j, (w1.setCell ⟨w.heap.size + 1 + 1, 2, none⟩ (.slice (some ⟨w.heap.size + 1 + 1 + 1, 0, none⟩) ks.length ks.length)).cell? ⟨w.heap.size + 1, j, none⟩ = w1.cell? ⟨w.heap.size + 1, j, none⟩ := fun j => World.cell?_setCell_other _ _ _ _ (by simp)
  obtain ⟨q0, q1, q2⟩ := set3_cells (u := w1.setCell ⟨w.heap.size + 1 + 1, 2, none⟩ (.slice (some ⟨w.heap.size + 1 + 1 + 1, 0, none⟩) ks.length ks.length)) (r := w.heap.size + 1) (x := .int .i64 t.f) (y := .int .i64 t.v) (z := .slice (some ⟨w.heap.size + 1 + 1 + 1, 0, none⟩) ks.length ks.length) ((other 0).trans a0) ((other 1).trans a1) ((other 2).trans a2)
  have hn2 : ¬ (w.heap.size + 1 + 1 + 1 ≤ w.heap.size + 1 + 1 ∧ w.heap.size + 1 + 1 < w1.heap.size) := by omega
  have hn1 : ¬ (w.heap.size + 1 + 1 + 1 ≤ w.heap.size + 1 ∧ w.heap.size + 1 < w1.heap.size) := by omega
  have O := (((ho1.setCell ⟨w.heap.size + 1 + 1, 2, none⟩ hn2 (.slice (some ⟨w.heap.size + 1 + 1 + 1, 0, none⟩) ks.length ks.length)).setCell ⟨w.heap.size + 1, 0, none⟩ hn1 (.int .i64 t.f)).setCell ⟨w.heap.size + 1, 1, none⟩ hn1 (.int .i64 t.v)).setCell ⟨w.heap.size + 1, 2, none⟩ hn1 (.slice (some ⟨w.heap.size + 1 + 1 + 1, 0, none⟩) ks.length ks.length)
  refine bodyPost_ret (v := .agg #[.int .i64 t.f, .int .i64 t.v, .slice (some ⟨w.heap.size + 1 + 1 + 1, 0, none⟩) ks.length ks.length]) (by simp [results, Try.results20, go_sem, q0, q1, q2]) rfl ⟨_, rfl, O.mono (fun x hx => ⟨by omega, by simpa using hx.2⟩), ?_⟩
  exact (((hB1.setCell (p := ⟨w.heap.size + 1 + 1, 2, none⟩) (by simp; omega) _).setCell (p := ⟨w.heap.size + 1, 0, none⟩) (by simp) _).setCell (p := ⟨w.heap.size + 1, 1, none⟩) (by simp) _).setCell (p := ⟨w.heap.size + 1, 2, none⟩) (by simp) _

theorem info29 : (Try.prog.info? 28).map (fun i => (i.zero, i.size, i.bytes)) = some (some (.agg #[.int .i64 0, .int .i64 0, .slice none 0 0]), 3, 40) := by kernel_rfl

/-- What lies in memory when the first k terms of a list are copied. -/
structure CopySt (w wr : World) (ts : List TermD) (k : Nat) (A : Nat → Option Addr) (L : Nat → Nat) : Prop where
  row : wr.ownsRow w.heap.size 28 3 (.slice (some ⟨w.heap.size, 0, none⟩) ts.length ts.length) ts.length (cs3 (laidTo ts A k))
  low : w.heap.size < L 0
  mono : ∀ i, i < k → L i ≤ L (i + 1)
  top : L k ≤ wr.heap.size
  kid : ∀ i, (h : i < ts.length) → i < k → OwnS wr (fun x => L i ≤ x ∧ x < L (i + 1)) (A i) ts[i].kids
  below : Below w.heap.size w wr

theorem CopySt.le {w wr : World} {ts : List TermD} {k : Nat} {A : Nat → Option Addr} {L : Nat → Nat} (h : CopySt w wr ts k A L) : ∀ i j, i ≤ j → j ≤ k → L i ≤ L j := by
  intro i j
  induction j with
  | zero => intro h1 _; have : i = 0 := by omega
            subst this; exact Nat.le_refl _
  | succ j ih =>
    intro h1 h2
    by_cases e : i = j + 1
    · subst e; exact Nat.le_refl _
    · exact Nat.le_trans (ih (by omega) (by omega)) (h.mono j (by omega))

theorem CopySt.done {w wr : World} {ts : List TermD} {A : Nat → Option Addr} {L : Nat → Nat} (h : CopySt w wr ts ts.length A L) (hl : ts.length ≤ 9223372036854775807) (hz : ∀ i, (h : i < ts.length) → isW ts[i].f ∧ isW ts[i].v) :
    OwnS wr (fun x => w.heap.size ≤ x ∧ x < wr.heap.size) (some ⟨w.heap.size, 0, none⟩) ts := by
  have hlt := (h.row.lt _ rfl).2
  refine .row _ w.heap.size 0 ts A (fun i => (ts[i]?.getD default).kids.length) (fun i x => L i ≤ x ∧ x < L (i + 1)) ⟨Nat.le_refl _, hlt⟩ hlt ⟨hl, fun i hi => by simp [hi]⟩ hz (fun i hi => ?_) (fun j => h.row.frozenAt j) (fun i x hi hx => ?_) (fun i j x hi hj hne hx hy => ?_) (fun i hi => h.kid i hi hi)
  · obtain ⟨c0, c1, c2⟩ := cs3_cells (by rw [laidTo_len]) (k := i) (by rw [laidTo_len]; exact hi) h.row
    have e : (laidTo ts A ts.length)[i]'(by rw [laidTo_len]; exact hi) = (.int .i64 ts[i].f, .int .i64 ts[i].v, .slice (A i) ts[i].kids.length ts[i].kids.length) := by
      simp [laidTo, hi]
    rw [e] at c0 c1 c2
    simp only [Nat.zero_add]
    exact ⟨c0, c1, by simpa [hi] using c2⟩
  · have h1 := h.le 0 i (by omega) (by omega)
    have h2 := h.le (i + 1) ts.length (by omega) (Nat.le_refl _)
    have h3 := h.low
    have h4 := h.top
    exact ⟨⟨by omega, by omega⟩, by omega⟩
  · rcases Nat.lt_or_gt_of_ne hne with hh | hh
    · have := h.le (i + 1) j (by omega) (by omega)
      omega
    · have := h.le (j + 1) i (by omega) (by omega)
      omega

/-- One more term is copied. -/
theorem CopySt.step {w wr w1 : World} {ts : List TermD} {k : Nat} {A : Nat → Option Addr} {L : Nat → Nat} (h : CopySt w wr ts k A L) (hk : k < ts.length) {a' : Option Addr} (ho : OwnS w1 (fun x => wr.heap.size ≤ x ∧ x < w1.heap.size) a' ts[k].kids) (hb : Below wr.heap.size wr w1) :
    CopySt w (((w1.setCell ⟨w.heap.size, k * 3, none⟩ (.int .i64 ts[k].f)).setCell ⟨w.heap.size, k * 3 + 1, none⟩ (.int .i64 ts[k].v)).setCell ⟨w.heap.size, k * 3 + 2, none⟩ (.slice a' ts[k].kids.length ts[k].kids.length)) ts (k + 1) (fun i => if i = k then a' else A i) (fun i => if i ≤ k then L i else w1.heap.size) := by
  have h3 := h.low
  have h4 := h.top
  have h5 := hb.size
  have hle := h.le
  refine ⟨?_, ?_, fun i hi => ?_, ?_, fun i hi hik => ?_, ?_⟩
  · have r := cs3_store (t := (.int .i64 ts[k].f, .int .i64 ts[k].v, .slice a' ts[k].kids.length ts[k].kids.length)) (k := k) (by rw [laidTo_len]; exact hk) (own_on h.row hb)
    rwa [laidTo_set ts A hk a'] at r
  · simp only [Nat.zero_le, if_true]; exact h3
  · by_cases e : i = k
    · subst e
      simp only [Nat.le_refl, if_true, show ¬ i + 1 ≤ i by omega, if_false]; omega
    · simp only [show i ≤ k by omega, show i + 1 ≤ k by omega, if_true]; exact h.mono i (by omega)
  · simp only [show ¬ k + 1 ≤ k by omega, if_false, World.size_setCell]; exact Nat.le_refl _
  · have h0i := hle 0 i (by omega) (by omega)
    by_cases e : i = k
    · subst e
      simp only [Nat.le_refl, if_true, show ¬ i + 1 ≤ i by omega, if_false]
      have hn : ¬ (L i ≤ w.heap.size ∧ w.heap.size < w1.heap.size) := by omega
      exact (((ho.mono (S' := fun x => L i ≤ x ∧ x < w1.heap.size) (fun x hx => ⟨by omega, hx.2⟩)).setCell ⟨w.heap.size, i * 3, none⟩ hn _).setCell ⟨w.heap.size, i * 3 + 1, none⟩ hn _).setCell ⟨w.heap.size, i * 3 + 2, none⟩ hn _
    · simp only [show i ≤ k by omega, show i + 1 ≤ k by omega, if_true, e, if_false]
      have h6 := hle (i + 1) k (by omega) (Nat.le_refl _)
      have hn : ¬ (L i ≤ w.heap.size ∧ w.heap.size < L (i + 1)) := by omega
      have o := (h.kid i hi (by omega)).frame (w' := w1) (fun x hx => hb.block x (by omega)) hb.size
      exact ((o.setCell ⟨w.heap.size, k * 3, none⟩ hn _).setCell ⟨w.heap.size, k * 3 + 1, none⟩ hn _).setCell ⟨w.heap.size, k * 3 + 2, none⟩ hn _
  · have hB := h.below.trans (hb.mono h.below.size)
    exact ((hB.setCell (p := ⟨w.heap.size, k * 3, none⟩) (Nat.le_refl _) _).setCell (p := ⟨w.heap.size, k * 3 + 1, none⟩) (Nat.le_refl _) _).setCell (p := ⟨w.heap.size, k * 3 + 2, none⟩) (Nat.le_refl _) _

set_option maxHeartbeats 1600000 in
theorem toTermS_any (N : Nat) : ∀ (ts : List TermD) (a : Option Addr) (c hi : Nat) (w : World), partsL ts ≤ N → N ≤ 4194304 → RdK w hi a ts → hi ≤ w.heap.size →
    Calls Try.prog 9 #[.slice a ts.length c] w fun e w' => e = .returned (.slice (some ⟨w.heap.size, 0, none⟩) ts.length ts.length) ∧ OwnS w' (fun x => w.heap.size ≤ x ∧ x < w'.heap.size) (some ⟨w.heap.size, 0, none⟩) ts ∧ Below w.heap.size w w' := by
  obtain ⟨i0, hi0, hz0, hz1, hz2⟩ := info_parts info29
  induction N with
  | zero =>
    intro ts a c hi w hN hM hr hhi
    have h1 := partsL_len ts
    have : ts = [] := List.length_eq_zero_iff.1 (by omega)
    subst this
    go_enter Try.func9, Try.ntmps9
    go_wp2_with (first
      | (at_make; refine wpList_make_full _ rfl _ _ 26 rfl w.heap.size 28 i0 _ 3 Try.underlying26 hi0 hz0 hz1 _ _ _ _ 0 rfl rfl rfl rfl (by omega) (by unfold maxLen; omega) (Nat.le_refl _) ?_; intro w1 hown hgrow))
    refine wp_loop_rounds 1 ?_
    rw [rounds_succ]
    go_wp2_with fail
    go_ret
    exact ⟨rfl, .nil _ _, (Below.refl _ _).grown hgrow (Nat.le_refl _) (by simp)⟩
  | succ N ih =>
    intro ts a c hi w hN hM hr hhi
    have hlen := partsL_len ts
    have HZ : Hid (∀ i, (h : i < ts.length) → isW ts[i].f ∧ isW ts[i].v) := fun i h => hr.ints h
    have HR : Hid (RdK w hi a ts) := hr
    clear hr
    go_enter Try.func9, Try.ntmps9
    go_wp2_with (first
      | (at_make; refine wpList_make_full _ rfl _ _ 26 rfl w.heap.size 28 i0 _ 3 Try.underlying26 hi0 hz0 hz1 _ _ _ _ ts.length rfl rfl rfl rfl (by rw [hz2]; omega) (by unfold maxLen; omega) (Nat.le_refl _) ?_; intro w1 hown hgrow))
    have hlt1 : w.heap.size < w1.heap.size := (hown.lt _ rfl).2
    have S0 : CopySt w w1 ts 0 (fun _ => none) (fun _ => w1.heap.size) := ⟨by rw [laidTo_zero, ← cs3_made]; exact hown, hlt1, fun i hi => absurd hi (by omega), Nat.le_refl _, fun i _ hi => absurd hi (by omega), (Below.refl _ _).grown hgrow (Nat.le_refl _) (by simp)⟩
    clear hown hgrow hlt1
    go_loopw [4] (fun i wr => ∃ (k : Nat) (A : Nat → Option Addr) (L : Nat → Nat), k ≤ ts.length ∧ i = .int .i64 k ∧ CopySt w wr ts k A L) (fun i _ => ts.length - (intOf i).toNat)
    case atStart => exact ⟨0, _, _, Nat.zero_le _, rfl, S0⟩
    case round =>
      obtain ⟨k, A, L, hk, rfl, S⟩ := hrel
      clear S0
      by_cases hk' : k < ts.length
      · obtain ⟨b, off, a', c', rfl, hlt, d0, d1, d2, hkr⟩ := RdK.kid (HR.out.on (S.below.mono hhi)) hk'
        have hpg := partsL_get hk'
        have hpt := partsT_eq ts[k]
        have hki : (k : Int) < (ts.length : Int) := by omega
        have hwr := Nat.le_trans hhi S.below.size
        have T := toTerm_of ts[k] a' c' wr (fun w' h => ih ts[k].kids a' c' hi w' (by omega) (by omega) (hkr.on (h.mono hwr)) (Nat.le_trans hwr h.size))
        have hlen2 := laidTo_len ts A k
        have hkl : k < (laidTo ts A k).length := by rw [hlen2]; exact hk'
        clear hkr hpt
        go_wp2_with (go_at_call 20; refine T.mono ?_; rintro e w2 ⟨a2, rfl, ho, hb⟩; clear T; have S1 := S.step hk' ho hb; have hown2 := own_on S.row hb; obtain ⟨e0, e1, e2⟩ := cs3_cells hlen2.symm hkl hown2; have f0 := hown2.frozenAt (k * 3); have f1 := hown2.frozenAt (k * 3 + 1); have f2 := hown2.frozenAt (k * 3 + 2); clear hown2 S ho hb d0 d1 d2 hlen2)
        go_roundw
        case rel => exact ⟨k + 1, _, _, by omega, by go_num, S1⟩
        case measure => simp [intOf]; omega
      · have e : k = ts.length := by omega
        have S1 : CopySt w wr ts ts.length A L := e ▸ S
        clear e S
        go_wp2_with fail
        go_ret
        exact ⟨rfl, S1.done (by omega) HZ.out, S1.below⟩

theorem toTerm_any (t : TermD) (a : Option Addr) (c hi : Nat) (w : World) (hp : partsT t ≤ 4194304) (hr : RdK w hi a t.kids) (hhi : hi ≤ w.heap.size) :
    Calls Try.prog 20 #[.agg #[.int .i64 t.f, .int .i64 t.v, .slice a t.kids.length c]] w fun e w' => ∃ a', e = .returned (.agg #[.int .i64 t.f, .int .i64 t.v, .slice a' t.kids.length t.kids.length]) ∧ OwnS w' (fun x => w.heap.size ≤ x ∧ x < w'.heap.size) a' t.kids ∧ Below w.heap.size w w' :=
  toTerm_of t a c w (fun w' h => toTermS_any (partsL t.kids) t.kids a c hi w' (Nat.le_refl _) (by rw [partsT_eq] at hp; omega) (hr.on (h.mono hhi)) (Nat.le_trans hhi h.size))
end Go.Proofs.Ytkecnljdloffdab

/- Contracts of the laws' comparison of terms, where both read as the same. Conditions: terms of at most 4194304 parts. -/
namespace Go.Proofs.Ytkecnljdloffdab
set_option maxRecDepth 100000
open Go.RowKit

set_option maxHeartbeats 1600000 in
theorem eqTerm_of (t : TermD) (a a' : Option Addr) (c c' : Nat) (w : World)
    (H : ∀ w', Below w.heap.size w w' → Calls Try.prog 13 #[.slice a t.kids.length c, .slice a' t.kids.length c'] w' fun e w'' => e = .returned (.bool true) ∧ Below w'.heap.size w' w'') :
    Calls Try.prog 11 #[.agg #[.int .i64 t.f, .int .i64 t.v, .slice a t.kids.length c], .agg #[.int .i64 t.f, .int .i64 t.v, .slice a' t.kids.length c']] w fun e w' => e = .returned (.bool true) ∧ Below w.heap.size w w' := by
  generalize t.kids = ks at *
  have h0 : Below w.heap.size w ((w.alloc (.cells #[.int .i64 t.f, .int .i64 t.v, .slice a ks.length c] 28)).alloc (.cells #[.int .i64 t.f, .int .i64 t.v, .slice a' ks.length c'] 28)) := ((Below.refl _ _).alloc (Nat.le_refl _) _).alloc (by simp) _
  have H1 := H _ h0
  clear H
  go_enter Try.func11, Try.ntmps11
  go_wp2_with (go_at_call 13; refine H1.mono ?_; rintro e w1 ⟨rfl, hb1⟩; clear H1)
  go_ret
  exact ⟨rfl, h0.trans (hb1.mono h0.size)⟩

set_option maxHeartbeats 1600000 in
theorem eqTermS_same (N : Nat) : ∀ (ts : List TermD) (a a' : Option Addr) (c c' hi : Nat) (w : World), partsL ts ≤ N → N ≤ 4194304 → RdK w hi a ts → RdK w hi a' ts → hi ≤ w.heap.size →
    Calls Try.prog 13 #[.slice a ts.length c, .slice a' ts.length c'] w fun e w' => e = .returned (.bool true) ∧ Below w.heap.size w w' := by
  induction N with
  | zero =>
    intro ts a a' c c' hi w hN hM hr hr' hhi
    have h1 := partsL_len ts
    have : ts = [] := List.length_eq_zero_iff.1 (by omega)
    subst this
    go_enter Try.func13, Try.ntmps13
    go_wp2_with fail
    refine wp_loop_rounds 1 ?_
    rw [rounds_succ]
    go_wp2_with fail
    go_ret
    exact ⟨rfl, Below.refl _ _⟩
  | succ N ih =>
    intro ts a a' c c' hi w hN hM hr hr' hhi
    have hlen := partsL_len ts
    have HR : Hid (RdK w hi a ts) := hr
    have HR' : Hid (RdK w hi a' ts) := hr'
    clear hr hr'
    go_enter Try.func13, Try.ntmps13
    go_wp2_with fail
    go_loopw [5] (fun i wr => ∃ k : Nat, k ≤ ts.length ∧ i = .int .i64 k ∧ Below w.heap.size w wr) (fun i _ => ts.length - (intOf i).toNat)
    case atStart => exact ⟨0, Nat.zero_le _, rfl, Below.refl _ _⟩
    case round =>
      obtain ⟨k, hk, rfl, hbr⟩ := hrel
      by_cases hk' : k < ts.length
      · obtain ⟨b, off, e1, c1, rfl, hlt, d0, d1, d2, hkr⟩ := RdK.kid (HR.out.on (hbr.mono hhi)) hk'
        obtain ⟨b', off', e2, c2, rfl, hlt', g0, g1, g2, hkr'⟩ := RdK.kid (HR'.out.on (hbr.mono hhi)) hk'
        have hpg := partsL_get hk'
        have hpt := partsT_eq ts[k]
        have hki : (k : Int) < (ts.length : Int) := by omega
        have hwr := Nat.le_trans hhi hbr.size
        have I := fun (w' : World) (h : Below wr.heap.size wr w') => eqTerm_of ts[k] e1 e2 c1 c2 w' (fun w'' h' => ih ts[k].kids e1 e2 c1 c2 hi w'' (by omega) (by omega) (hkr.on ((h.trans (h'.mono h.size)).mono hwr)) (hkr'.on ((h.trans (h'.mono h.size)).mono hwr)) (Nat.le_trans hwr (Nat.le_trans h.size h'.size)))
        clear HR HR' hkr hkr' hpt
        go_wp2_with fail
        go_region_held3 (fun w' => w'.cell? ⟨b, off + k * 3, none⟩ = some (.int .i64 ts[k].f) ∧ w'.cell? ⟨b, off + k * 3 + 1, none⟩ = some (.int .i64 ts[k].v) ∧ w'.cell? ⟨b, off + k * 3 + 2, none⟩ = some (.slice e1 ts[k].kids.length c1) ∧ w'.cell? ⟨b', off' + k * 3, none⟩ = some (.int .i64 ts[k].f) ∧ w'.cell? ⟨b', off' + k * 3 + 1, none⟩ = some (.int .i64 ts[k].v) ∧ w'.cell? ⟨b', off' + k * 3 + 2, none⟩ = some (.slice e2 ts[k].kids.length c2)) (first | go_keep | exact ⟨keepC hbb d0, keepC hbb d1, keepC hbb d2, keepC hbb g0, keepC hbb g1, keepC hbb g2⟩)
          (first | (go_at_call 11; refine (I _ ?_).mono ?_; exact (Below.refl _ _).drew; rintro e w1 ⟨rfl, hb1⟩; have hbb : Below wr.heap.size wr w1 := (Below.refl _ _).drew.trans hb1; clear hb1))
        go_wp2_with fail
        go_roundw
        case rel => exact ⟨k + 1, by omega, by go_num, hbr.trans (hbb.mono hbr.size)⟩
        case measure => simp [intOf]; omega
      · go_wp2_with fail
        go_ret
        exact ⟨rfl, hbr⟩

theorem eqTerm_same (t : TermD) (a a' : Option Addr) (c c' hi : Nat) (w : World) (hp : partsT t ≤ 4194304) (hr : RdK w hi a t.kids) (hr' : RdK w hi a' t.kids) (hhi : hi ≤ w.heap.size) :
    Calls Try.prog 11 #[.agg #[.int .i64 t.f, .int .i64 t.v, .slice a t.kids.length c], .agg #[.int .i64 t.f, .int .i64 t.v, .slice a' t.kids.length c']] w fun e w' => e = .returned (.bool true) ∧ Below w.heap.size w w' :=
  eqTerm_of t a a' c c' w (fun w' h => eqTermS_same (partsL t.kids) t.kids a a' c c' hi w' (Nat.le_refl _) (by rw [partsT_eq] at hp; omega) (hr.on (h.mono hhi)) (hr'.on (h.mono hhi)) (Nat.le_trans hhi h.size))
end Go.Proofs.Ytkecnljdloffdab

