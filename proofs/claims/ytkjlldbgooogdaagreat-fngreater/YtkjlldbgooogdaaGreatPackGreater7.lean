/- What the proof of FnGreater stands on, part 7 of 12: each piece says what it proves and under which conditions. Conditions: as each piece says. -/
import Derived.Test.YtkjlldbgooogdaaGreatPackGreater6
import Derived.Test.YtkjlldbgooogdaaGreatProg
import Derived.Tactics
import Derived.WalkKit
import Derived.Deep.RegionLaw
import Derived.Deep.RegionHeld3
/- The variables of a term stand in it once at least, and not more often together than it has parts. Conditions: none. -/
namespace Go.Proofs.YtkjlldbgooogdaaGreat
set_option maxRecDepth 100000
open Go.RowKit

mutual
theorem cnt_pre (v : Int) : ∀ t : TermD, cntT v t = (vl (preT t)).count v
  | .mk f u ks => by
    have h := cnt_preL v ks
    rw [cntT, preT, h]
    by_cases hf : f = -1
    · by_cases hu : u = v
      · simp [vl, hf, hu, TermD.f, TermD.v]; omega
      · simp [vl, hf, hu, TermD.f, TermD.v]
    · simp [vl, hf, TermD.f]
theorem cnt_preL (v : Int) : ∀ ts : List TermD, cntL v ts = (vl (preL ts)).count v
  | [] => by simp [cntL, preL, vl]
  | t :: ts => by rw [cntL, preL, vl_append, List.count_append, cnt_pre v t, cnt_preL v ts]
end
theorem vars_mem (t : TermD) (v : Int) : v ∈ varsT t [] ↔ v ∈ vl (preT t) := by
  rw [vl_pre]
  simpa using (fold_ss (vl (preT t)) [] .nil).2 v
theorem vars_up (t : TermD) : (varsT t []).Pairwise (· < ·) := by
  rw [vl_pre]
  exact (fold_ss (vl (preT t)) [] .nil).1
theorem vars_cnt {t : TermD} {v : Int} (h : v ∈ varsT t []) : 1 ≤ cntT v t := by
  rw [cnt_pre]
  exact List.count_pos_iff.2 ((vars_mem t v).1 h)
theorem counts_le : ∀ (vs l : List Int), vs.Pairwise (· < ·) → (vs.map (fun v => l.count v)).sum ≤ l.length
  | [], l, _ => by simp
  | v :: vs, l, h => by
    have hv := (List.pairwise_cons.1 h).1
    have ih := counts_le vs (l.filter (fun x => x != v)) (List.pairwise_cons.1 h).2
    have e : vs.map (fun u => (l.filter (fun x => x != v)).count u) = vs.map (fun u => l.count u) := by
      refine List.map_congr_left (fun u hu => ?_)
      exact List.count_filter (by have := hv u hu; simp; omega)
    rw [e] at ih
    have hl : l.length = l.count v + (l.filter (fun x => x != v)).length := by
      clear ih e
      induction l with
      | nil => rfl
      | cons x xs ihx =>
        by_cases hx : x = v
        · subst hx; simp; omega
        · simp [hx]; omega
    rw [List.map_cons, List.sum_cons]
    omega
theorem vars_sum (t : TermD) : ((varsT t []).map (fun v => cntT v t)).sum ≤ partsT t := by
  have h := counts_le (varsT t []) (vl (preT t)) (vars_up t)
  have e : (varsT t []).map (fun v => cntT v t) = (varsT t []).map (fun v => (vl (preT t)).count v) := List.map_congr_left (fun v _ => cnt_pre v t)
  rw [e]
  have := vl_len (preT t)
  have := preT_len t
  omega
/-- The sum as far as the loop has come. -/
theorem sum_take (l : List Nat) (i : Nat) : (l.take i).sum ≤ l.sum := by
  have : l.sum = (l.take i).sum + (l.drop i).sum := by rw [← List.sum_append, List.take_append_drop]
  omega
end Go.Proofs.YtkjlldbgooogdaaGreat

/- The one result of a function, where it lies in a cell. Conditions: none. -/
namespace Go.Proofs.YtkjlldbgooogdaaGreat
set_option maxRecDepth 100000
open Go.RowKit

theorem results_cell1 {fn : Func} {p : Tmp} {ty : TypeId} (h : fn.results = #[.cell p ty]) (tmps : Array Value) (P : Program) (w : World) :
    (results fn tmps).run P w = ((asAddr (tmps.getD p undef)).run P w).andThen fun a w₁ => (loadVar ty a).run P w₁ := by
  simp only [results, h]
  simp [Sem.run_bind, Result.andThen]
theorem load_bool {w : World} {p : Addr} {b : Bool} (h : w.cell? p = some (.bool b)) : (loadVar 4 p).run Tryz.prog w = .ok (.bool b) w := by
  simp [loadVar, go_sem, h]
theorem results_bool {fn : Func} {p : Tmp} (h : fn.results = #[.cell p 4]) {tmps : Array Value} {w : World} {a : Addr} (ha : tmps.getD p undef = .pointer (some a)) {b : Bool} (hc : w.cell? a = some (.bool b)) :
    (results fn tmps).run Tryz.prog w = .ok (.bool b) w := by
  rw [results_cell1 h, ha]
  simp [go_sem, hc, Result.andThen]
end Go.Proofs.YtkjlldbgooogdaaGreat

/- Whether a term has no variables, as the program tells it: it ranges over its iterator and stops at the first one. Conditions: terms of at most 4194304 parts. -/
namespace Go.Proofs.YtkjlldbgooogdaaGreat
set_option maxRecDepth 100000
open Go.RowKit Go.Shelf
attribute [local go_sem] Oper.semAt_some

/-- Without variables. -/
def grdT (t : TermD) : Bool := (varsT t []).isEmpty
theorem grd_all {t : TermD} (h : ∀ x ∈ preT t, vofB x = false) : grdT t = true := by
  unfold grdT
  rw [List.isEmpty_iff]
  apply List.eq_nil_iff_forall_not_mem.2
  intro v hv
  rw [vars_mem] at hv
  simp only [vl, List.mem_map, List.mem_filter] at hv
  obtain ⟨x, ⟨hx, hf⟩, _⟩ := hv
  have := h x hx
  simp only [vofB] at this
  rw [this] at hf; cases hf
theorem grd_hit {t x : TermD} (hx : x ∈ preT t) (h : vofB x = true) : grdT t = false := by
  unfold grdT
  have : x.v ∈ varsT t [] := by
    rw [vars_mem]
    simp only [vl, List.mem_map, List.mem_filter]
    exact ⟨x, ⟨hx, by simpa [vofB] using h⟩, rfl⟩
  cases e : varsT t [] with
  | nil => rw [e] at this; simp at this
  | cons _ _ => rfl

/-- What the loop holds between two rounds: the answer's place, and that no variable was met. -/
structure GInv (w W0 : World) (R : Nat) (pre : List El) (S : Nat → Prop) (W : World) : Prop where
  lo : ∀ k, k < W0.heap.size → S k
  hi : ∀ k, S k → k < W.heap.size
  r : W.cell? ⟨R, 0, none⟩ = some (.bool false)
  f : W.frozen? ⟨R, 0, none⟩ = false
  b : Below w.heap.size w W
  z : w.heap.size < W0.heap.size ∧ R < W0.heap.size
  no : ∀ x ∈ pre, vofB x.t = false
theorem GInv.stay {w W0 A B : World} {R : Nat} {pre : List El} {S : Nat → Prop} (h : GInv w W0 R pre S A) (hs : Stay S A B) : GInv w W0 R pre S B := by
  have hz := h.z
  exact ⟨h.lo, fun k hk => Nat.lt_of_lt_of_le (h.hi k hk) hs.size, hs.cell h.r (h.lo _ hz.2), (hs.frozen (World.block_lt_of_cell? _ _ h.r) (h.lo _ hz.2)).trans h.f, h.b.trans (hs.below h.b.size (fun k hk => h.lo k (by omega))), hz, h.no⟩
theorem GInv.more {w W0 A : World} {R : Nat} {pre : List El} {S S' : Nat → Prop} (h : GInv w W0 R pre S A) (hs : ∀ k, S k → S' k) (ht : ∀ k, S' k → k < A.heap.size) : GInv w W0 R pre S' A :=
  ⟨fun k hk => hs k (h.lo k hk), ht, h.r, h.f, h.b, h.z, h.no⟩
/-- What is left where a variable was met. -/
structure GOut (w W0 : World) (R : Nat) (pre : List El) (S : Nat → Prop) (W : World) : Prop where
  lo : ∀ k, k < W0.heap.size → S k
  r : W.cell? ⟨R, 0, none⟩ = some (.bool false)
  b : Below w.heap.size w W
  z : w.heap.size < W0.heap.size ∧ R < W0.heap.size
  hit : ∃ x ∈ pre, vofB x.t = true
theorem GOut.stay {w W0 A B : World} {R : Nat} {pre : List El} {S : Nat → Prop} (h : GOut w W0 R pre S A) (hs : Stay S A B) : GOut w W0 R pre S B := by
  have hz := h.z
  exact ⟨h.lo, hs.cell h.r (h.lo _ hz.2), h.b.trans (hs.below h.b.size (fun k hk => h.lo k (by omega))), hz, h.hit⟩

set_option maxHeartbeats 3200000 in
set_option maxRecDepth 100000 in
theorem impGround_any (t : TermD) (a : Option Addr) (c hi : Nat) (w : World) (hp : partsT t ≤ 4194304) (hr : RdK w hi a t.kids) (hhi : hi ≤ w.heap.size) (hc : t.kids.length ≤ c) :
    Calls Tryz.prog 20 #[.agg #[.int .i64 t.f, .int .i64 t.v, .slice a t.kids.length c]] w fun e w' => e = .returned (.bool (grdT t)) ∧ Below w.heap.size w w' := by
  refine (callsIn_wide (n := 5)).1 ?_
  refine callsIn_of_wp_marks Tryz.func20 rfl trivial ?_ rfl
  simp only [Tryz.ntmps20, List.size_toArray, List.length_cons, List.length_nil, Nat.reduceAdd, Nat.reduceSub, Array.replicate_succ, Array.replicate_zero, List.push_toArray, List.append_toArray, List.nil_append, List.cons_append]
  gi_wp2_with (refine ⟨trivial, ?_⟩; gi_at_call 41; refine (callsIn_wide.2 (within_any t a c _)).mono ?_; rintro e w' ⟨rfl, rfl⟩)
  obtain ⟨W0, hW0⟩ : ∃ W0, W0 = ((w.alloc (.cells #[.int .i64 t.f, .int .i64 t.v, .slice a t.kids.length c] 27)).alloc (.cells #[.bool false] 4)).alloc (.cells #[.int .i64 t.f, .int .i64 t.v, .slice a t.kids.length c] 27) := ⟨_, rfl⟩
  have hB0 : Below w.heap.size w W0 := by rw [hW0]; exact (((Below.refl _ _).alloc (Nat.le_refl _) _).alloc (by simp) _).alloc (by simp; omega) _
  have hz : W0.heap.size = w.heap.size + 1 + 1 + 1 := by rw [hW0]; simp
  have v0 : W0.cell? ⟨w.heap.size + 1, 0, none⟩ = some (.bool false) := by rw [hW0]; simp [go_sem]
  have f0 : W0.frozen? ⟨w.heap.size + 1, 0, none⟩ = false := by rw [hW0]; simp [go_sem]
  have t0 : W0.cell? ⟨w.heap.size + 1 + 1, 0, none⟩ = some (.int .i64 t.f) := by rw [hW0]; simp [go_sem]
  have t1 : W0.cell? ⟨w.heap.size + 1 + 1, 1, none⟩ = some (.int .i64 t.v) := by rw [hW0]; simp [go_sem]
  have t2 : W0.cell? ⟨w.heap.size + 1 + 1, 2, none⟩ = some (.slice a t.kids.length c) := by rw [hW0]; simp [go_sem]
  rw [← hW0]
  clear hW0
  refine wpIn_rangeFunc_priv rfl (by omega) (gf := 67) (lb := #[.pointer (some ⟨w.heap.size + 1 + 1, 0, none⟩)]) rfl trivial (enters_of Tryz.func67 (by kernel_rfl) rfl)
    (within_seq Fence.wide 4 trivial rfl (by omega) W0 t a c hi w.heap.size (w.heap.size + 1 + 1) hp hc (hr.on (hB0.mono hhi)) hhi hB0.size t0 t1 t2) hB0.size (Below.refl _ _) (fun _ => rfl)
    (fun pre S W => GInv w W0 (w.heap.size + 1) pre S W) (fun cd pre S W => cd = .ret ∧ GOut w W0 (w.heap.size + 1) pre S W) (fun pre S A B h hs => h.stay hs)
    (fun _ _ _ _ _ h hs => ⟨h.1, h.2.stay hs⟩) (fun pre S A h => h.hi) (fun k => k < W0.heap.size) (fun _ h => h) ⟨fun _ h => h, fun _ h => h, v0, f0, hB0, by omega, by simp⟩
    (fun pre x S a₁ W => GInv w W0 (w.heap.size + 1) pre S W ∧ ∃ Bx, BoxEl x Bx S W ∧ a₁ = { tmps := #[.agg #[.int .i64 t.f, .int .i64 t.v, .slice a t.kids.length c], .pointer (some ⟨w.heap.size, 0, none⟩), .pointer (some ⟨w.heap.size + 1, 0, none⟩), .pointer (some ⟨Bx, 0, none⟩), undef, undef, .agg #[.int .i64 t.f, .int .i64 t.v, .slice a t.kids.length c], .func (.func 67) #[] #[.pointer (some ⟨w.heap.size + 1 + 1, 0, none⟩)], .agg #[.int .i64 x.t.f, .int .i64 x.t.v, .slice x.a x.t.kids.length x.c], undef, undef, undef, undef, undef, undef], defers := [] })
    (fun pre x S a₁ A B h hs => by
      obtain ⟨h1, Bx, h2, h3⟩ := h
      exact ⟨h1.stay hs, Bx, h2.stay hs, h3⟩)
    ?assign ?body ?done ?stop
  case assign =>
    intro l pre x S W K hi hlen hok hK
    dsimp only [El.enc]
    gi_wp2
    refine hK _ (fun k => S k ∨ k = W.heap.size) _ ⟨(hi.stay (.alloc _ _ _)).more (fun _ h => .inl h) (fun k h => h.elim (fun h => by have := hi.hi k h; simp; omega) (fun e => by simp; omega)), W.heap.size, ⟨.inr rfl, ?_, ?_, ?_⟩, by simp⟩ (fun k h => h.imp id (fun e => by omega)) (.alloc _ _ _)
    all_goals simp [go_sem]
  case body =>
    rintro l pre x S a₁ W ⟨h, Bx, hx, rfl⟩ hlen hok
    have C := variableOf_any x.t x.a x.t.kids.length x.c W
    have x0 := hx.c0
    have x1 := hx.c1
    have x2 := hx.c2
    have hr0 := h.r
    have hf0 := h.f
    have hzz := h.z
    cases hvb : vofB x.t with
    | false =>
      rw [hvb] at C
      have F0 : Hid (∀ w1, Below W.heap.size W w1 → GInv w W0 (w.heap.size + 1) (pre ++ [x]) S w1 ∧ Stay (fun k => k < w.heap.size ∨ ¬ S k) W w1) := fun w1 hb => by
        have h1 := h.stay (.of_below hb (fun _ hk _ => hk))
        refine ⟨⟨h1.lo, h1.hi, h1.r, h1.f, h1.b, h1.z, fun y hy => ?_⟩, .of_below hb (fun _ hk _ => hk)⟩
        rcases List.mem_append.1 hy with hy | hy
        · exact h1.no y hy
        · simp only [List.mem_singleton] at hy; subst hy; exact hvb
      clear h hx hvb
      gi_wp2_with (refine ⟨trivial, ?_⟩; gi_at_call 49; refine (CallsIn.inRound l (callsIn_wide.2 C)).mono ?_; rintro e w1 ⟨rfl, hb1⟩; clear C)
      obtain ⟨q1, q2⟩ := F0.out w1 hb1
      exact ⟨S, q1, fun k h => .inl h, q2⟩
    | true =>
      rw [hvb] at C
      have F1 : Hid (∀ w1, Below W.heap.size W w1 → GOut w W0 (w.heap.size + 1) (pre ++ [x]) S (w1.setCell ⟨w.heap.size + 1, 0, none⟩ (.bool false)) ∧ Stay (fun k => k < w.heap.size ∨ ¬ S k) W (w1.setCell ⟨w.heap.size + 1, 0, none⟩ (.bool false))) := fun w1 hb => by
        have h1 := h.stay (.of_below hb (fun _ hk _ => hk))
        refine ⟨⟨h1.lo, ?_, h1.b.setCell (p := ⟨w.heap.size + 1, 0, none⟩) (by simp) _, h1.z, x, by simp, hvb⟩, (Stay.of_below hb (fun _ hk _ => hk)).trans (.setCell _ _ (fun h => h.elim (fun h => by simp only at h; omega) (fun h' => h' (h1.lo _ h1.z.2))))⟩
        exact World.cell?_setCell_same _ _ _ h1.r
      clear h hx hvb
      gi_wp2_with (refine ⟨trivial, ?_⟩; gi_at_call 49; refine (CallsIn.inRound l (callsIn_wide.2 C)).mono ?_; rintro e w1 ⟨rfl, hb1⟩; clear C; have hr0 := keepC hb1 hr0; have hf0 := (hb1.frozen (p := ⟨w.heap.size + 1, 0, none⟩) (World.block_lt_of_cell? _ _ ‹W.cell? ⟨w.heap.size + 1, 0, none⟩ = _›)).trans hf0)
      obtain ⟨q1, q2⟩ := F1.out w1 hb1
      exact ⟨S, ⟨rfl, q1⟩, fun k h => .inl h, q2⟩
  case done =>
    rintro D xs S W hxs h hK hD hSD
    have h3 := h.r
    have h4 := h.f
    have h5 := h.b
    have hg : Hid (grdT t = true) := grd_all (fun x hx => by rw [← hxs] at hx; obtain ⟨y, hy, rfl⟩ := List.mem_map.1 hx; exact h.no y hy)
    clear h
    gi_wp2
    refine ⟨by simp, .inl ⟨_, _, rfl, run_takeDeferred (by rw [Below.heap_setCell _ _ _ _ (by simp only; omega)]; exact hK), ?_⟩⟩
    have e5 := (h5.setCell (p := ⟨w.heap.size + 1, 0, none⟩) (by simp) (.bool true))
    exact ⟨_, results_bool rfl rfl (b := true) ((World.cell?_of_block (World.putObj_heap_other (by simp only; omega))).trans (World.cell?_setCell_same _ _ _ h3)), rtB hg.out.symm, e5.trans ((Stay.putObj (S := fun k => k < w.heap.size) _ _ (by omega)).below e5.size (fun _ h => h))⟩
  case stop =>
    rintro D cd pre S W ⟨r, hpre⟩ ⟨rfl, h⟩ hK hD hSD
    have h3 := h.r
    have h5 := h.b
    have hg : Hid (grdT t = false) := by
      obtain ⟨x, hx, hv⟩ := h.hit
      exact grd_hit (by rw [← hpre]; exact List.mem_append_left _ (List.mem_map_of_mem hx)) hv
    clear h
    gi_wp2
    refine ⟨by simp, .inl ⟨_, _, rfl, run_takeDeferred hK, ?_⟩⟩
    exact ⟨_, results_bool rfl rfl (b := false) ((World.cell?_of_block (World.putObj_heap_other (by simp only; omega))).trans h3), rtB hg.out.symm, h5.trans ((Stay.putObj (S := fun k => k < w.heap.size) W _ (by omega)).below h5.size (fun _ h => h))⟩
end Go.Proofs.YtkjlldbgooogdaaGreat

/- The drawn term of the law on counts, and two lists of numbers that are alike. Conditions: at most 1048576 bytes, at most 1048577 numbers. -/
namespace Go.Proofs.YtkjlldbgooogdaaGreat
set_option maxRecDepth 100000
open Go.RowKit

theorem grd_vars (t : TermD) : grdT t = ((((varsT t []).length : Nat) : Int) == 0) := by
  unfold grdT
  cases varsT t [] with
  | nil => rfl
  | cons x r => simp; omega
theorem RdB.on {w w' : World} {c : Nat} {a : Option Addr} {bs : List Int} (h : RdB w c a bs) (hb : Below w.heap.size w w') : RdB w' c a bs := by
  refine ⟨h.1, ?_⟩
  rcases h.2 with h | ⟨b, off, rfl, hlt, hne, hc⟩
  · exact .inl h
  · exact .inr ⟨b, off, rfl, Nat.lt_of_lt_of_le hlt hb.size, hne, fun i hi => (hb.cell (p := ⟨b, off + i, none⟩) hlt).trans (hc i hi)⟩
theorem RdB.lt {w : World} {c : Nat} {a : Option Addr} {bs : List Int} (h : RdB w c a bs) : bs = [] ∨ ∀ x, a = some x → x.block < w.heap.size := by
  rcases h.2 with h | ⟨b, off, rfl, hlt, hne, hc⟩
  · exact .inl h
  · exact .inr (fun x hx => by cases hx; exact hlt)

end Go.Proofs.YtkjlldbgooogdaaGreat

/- A box of three cells, and two of them written. Conditions: none. -/
namespace Go.Proofs.YtkjlldbgooogdaaGreat
set_option maxRecDepth 100000
open Go.RowKit

/-- A box of three cells. -/
def C3 (W : World) (b : Nat) (x y z : Value) : Prop := W.cell? ⟨b, 0, none⟩ = some x ∧ W.cell? ⟨b, 1, none⟩ = some y ∧ W.cell? ⟨b, 2, none⟩ = some z
theorem C3.stay {W W' : World} {b : Nat} {x y z : Value} {S : Nat → Prop} (h : C3 W b x y z) (hs : Stay S W W') (hb : S b) : C3 W' b x y z := ⟨hs.cell h.1 hb, hs.cell h.2.1 hb, hs.cell h.2.2 hb⟩
theorem C3.on {W W' : World} {b : Nat} {x y z : Value} (h : C3 W b x y z) (hb : Below W.heap.size W W') : C3 W' b x y z := ⟨keepC hb h.1, keepC hb h.2.1, keepC hb h.2.2⟩
theorem C3.lt {W : World} {b : Nat} {x y z : Value} (h : C3 W b x y z) : b < W.heap.size := World.block_lt_of_cell? _ _ h.1
theorem set3_stay (W : World) (b : Nat) (x y z : Value) : Stay (fun k => k ≠ b) W (((W.setCell ⟨b, 0, none⟩ x).setCell ⟨b, 1, none⟩ y).setCell ⟨b, 2, none⟩ z) := ((Stay.setCell _ _ (by simp)).trans (.setCell _ _ (by simp))).trans (.setCell _ _ (by simp))
theorem set3k {W : World} {b o B : Nat} {v x y z : Value} (h : W.cell? ⟨b, o, none⟩ = some v) (hne : b ≠ B) : (((W.setCell ⟨B, 0, none⟩ x).setCell ⟨B, 1, none⟩ y).setCell ⟨B, 2, none⟩ z).cell? ⟨b, o, none⟩ = some v := (set3_stay W B x y z).cell h hne
theorem C3.set {W : World} {b : Nat} {x y z : Value} (h : C3 W b x y z) (x' y' z' : Value) : C3 (((W.setCell ⟨b, 0, none⟩ x').setCell ⟨b, 1, none⟩ y').setCell ⟨b, 2, none⟩ z') b x' y' z' := by
  obtain ⟨z0, z1, z2⟩ := set3_cells (u := W) (r := b) (x := x') (y := y') (z := z') h.1 h.2.1 h.2.2
  exact ⟨z0, z1, z2⟩
theorem C3.new (W : World) (x y z : Value) (T : TypeId) : C3 (W.alloc (.cells #[x, y, z] T)) W.heap.size x y z := ⟨by simp, by simp, by simp⟩
theorem two_set {W : World} {R R' : Nat} {x y z x' y' z' : Value} (h : C3 W R (.int .i64 0) (.int .i64 0) (.slice none 0 0)) (h' : C3 W R' (.int .i64 0) (.int .i64 0) (.slice none 0 0)) (hne : R ≠ R') :
    C3 ((((((W.setCell ⟨R, 0, none⟩ x).setCell ⟨R, 1, none⟩ y).setCell ⟨R, 2, none⟩ z).setCell ⟨R', 0, none⟩ x').setCell ⟨R', 1, none⟩ y').setCell ⟨R', 2, none⟩ z') R x y z ∧ C3 ((((((W.setCell ⟨R, 0, none⟩ x).setCell ⟨R, 1, none⟩ y).setCell ⟨R, 2, none⟩ z).setCell ⟨R', 0, none⟩ x').setCell ⟨R', 1, none⟩ y').setCell ⟨R', 2, none⟩ z') R' x' y' z' ∧ Stay (fun k => k ≠ R ∧ k ≠ R') W ((((((W.setCell ⟨R, 0, none⟩ x).setCell ⟨R, 1, none⟩ y).setCell ⟨R, 2, none⟩ z).setCell ⟨R', 0, none⟩ x').setCell ⟨R', 1, none⟩ y').setCell ⟨R', 2, none⟩ z') :=
  ⟨(h.set x y z).stay (set3_stay _ _ _ _ _) hne, (h'.stay (set3_stay _ _ _ _ _) hne.symm).set _ _ _, ((set3_stay W R x y z).weak (fun _ _ hk => hk.1)).trans ((set3_stay _ R' x' y' z').weak (fun _ _ hk => hk.2))⟩
end Go.Proofs.YtkjlldbgooogdaaGreat

/- The specification's copy of a term: it owns new memory. Conditions: terms of at most 4194304 parts. -/
namespace Go.Proofs.YtkjlldbgooogdaaGreat
set_option maxRecDepth 100000
open Go.RowKit

/-- Behind the append of a copied Kid: the boxes and the row. -/
theorem cpy_app {w X w1 w5 : World} {t u : TermD} {a a1 av : Option Addr} {c c1 cv m g5 c5 : Nat} {vo : Value} {L : List FE}
    (C1 : NC w t a c vo w1) (R1 : NR (w.heap.size + 1 + 1 + 1) L [⟨u, a1, c1, fun x => m ≤ x ∧ x < w1.heap.size⟩] av cv w1) (hb : Below w1.heap.size w1 X)
    (hO : w5.ownsRow (w.heap.size + 1 + 1 + 1) 27 3 (.slice (some ⟨g5, 0, none⟩) (L.length + 1) c5) (L.length + 1) (cs3 (L.map FE.cells) ++ [.int .i64 u.f, .int .i64 u.v, .slice a1 u.kids.length c1])) (hG : X.grownBy w5 (Value.slice av L.length cv).ownBlock) (hat : (Value.slice (some ⟨g5, 0, none⟩) (L.length + 1) c5).ownBlock = (Value.slice av L.length cv).ownBlock ∨ (Value.slice (some ⟨g5, 0, none⟩) (L.length + 1) c5).ownBlock = some X.heap.size) :
    NC w t a c vo w5 ∧ NR (w.heap.size + 1 + 1 + 1) (L ++ [⟨u, a1, c1, fun x => m ≤ x ∧ x < w1.heap.size⟩]) [] (some ⟨g5, 0, none⟩) c5 w5 := by
  have R2 := R1.on hb
  obtain ⟨g, c', hv, R3⟩ := R2.app hG hO hat
  cases hv
  exact ⟨(C1.on hb).stay (.grown hG (fun k e hk => by have := (R2.row.lt k e).1; omega)), R3⟩

set_option maxHeartbeats 3200000 in
set_option maxRecDepth 100000 in
theorem l3Copy_any (N : Nat) : ∀ (t : TermD) (a : Option Addr) (c hi : Nat) (w : World), partsT t ≤ N → N ≤ 4194304 → RdK w hi a t.kids → hi ≤ w.heap.size → isW t.f → isW t.v →
    Calls Tryz.prog 23 #[.agg #[.int .i64 t.f, .int .i64 t.v, .slice a t.kids.length c]] w fun e w' => ∃ a' c', e = .returned (.agg #[.int .i64 t.f, .int .i64 t.v, .slice a' t.kids.length c']) ∧ OwnR w' (fun x => w.heap.size ≤ x ∧ x < w'.heap.size) a' c' t.kids ∧ t.kids.length ≤ c' ∧ Below w.heap.size w w' := by
  induction N with
  | zero => intro t a c hi w h; rw [partsT_eq] at h; omega
  | succ N ih =>
    intro t a c hi w hN hM hr hhi hfw hvw
    rw [partsT_eq] at hN
    obtain ⟨i0, hi0, hz0, hz1, hz2⟩ := info_parts info29
    have hlen := partsL_len t.kids
    have HR : Hid (RdK w hi a t.kids) := hr
    clear hr hfw hvw
    have C0 : NC w t a c (.slice none 0 0) (((w.alloc (.cells #[.int .i64 t.f, .int .i64 t.v, .slice a t.kids.length c] 27)).alloc (.cells #[.int .i64 0, .int .i64 0, .slice none 0 0] 27)).alloc (.cells #[.int .i64 t.f, .int .i64 t.v, .slice none 0 0] 27)) := by
      refine ⟨?_, ?_, ?_, ?_, ?_, ?_, ?_, ?_, fun j => ?_, fun j => ?_, (((Below.refl _ _).alloc (Nat.le_refl _) _).alloc (by simp) _).alloc (by simp; omega) _, ?_⟩
      all_goals simp [go_sem]
    go_enter Tryz.func23, Tryz.ntmps23
    go_wp2_with fail
    go_loopw [4] (fun i wr => ∃ (k : Nat) (L : List FE) (av : Option Addr) (cv : Nat), k ≤ t.kids.length ∧ i = .int .i64 k ∧ NC w t a c (.slice av L.length cv) wr ∧ NR (w.heap.size + 1 + 1 + 1) L [] av cv wr ∧ Hid (L.map FE.t = t.kids.take k)) (fun i _ => t.kids.length - (intOf i).toNat)
    case atStart => exact ⟨0, [], none, 0, Nat.zero_le _, rfl, C0, NR.start _ _, by show _ = _; simp⟩
    case round =>
      obtain ⟨k, L, av, cv, hk, rfl, C, R, HL⟩ := hrel
      clear C0
      have p2 := C.p2
      have hz := C.z
      have hLl : L.length ≤ t.kids.length := by have := congrArg List.length HL.out; simp at this; omega
      by_cases hk' : k < t.kids.length
      · obtain ⟨b, off, a', c', rfl, hlt, d0, d1, d2, hkr⟩ := RdK.kid (HR.out.on (C.bel.mono hhi)) hk'
        have hints := HR.out.ints hk'
        have hpg := partsL_get hk'
        have hki : (k : Int) < (t.kids.length : Int) := by omega
        have hki0 : (0 : Int) ≤ (k : Int) := by omega
        have hkz : (L.length : Int) < (L.length : Int) + 1 := by omega
        have hLb : L.length ≤ 4194304 := by omega
        have HK : Hid (L.map FE.t ++ [t.kids[k]] = t.kids.take (k + 1)) := by show _ = _; rw [HL.out, List.take_succ_eq_append_getElem hk']
        have I := fun (w' : World) (h : Below wr.heap.size wr w') => ih t.kids[k] a' c' hi w' (by omega) (by omega) (hkr.on (h.mono (Nat.le_trans hhi C.bel.size))) (Nat.le_trans (Nat.le_trans hhi C.bel.size) h.size) hints.1 hints.2
        have HI : Hid (isW t.kids[k].f ∧ isW t.kids[k].v) := hints
        generalize t.kids[k] = u at d0 d1 d2 I HK HI
        have q2 := C.q2
        clear hkr hints hpg ih hlt
        have hlb : b < wr.heap.size := World.block_lt_of_cell? _ _ d0
        have b1 : Below wr.heap.size wr (wr.alloc (.cells #[.int .i64 0, .int .i64 0, .slice none 0 0] 27)) := (Below.refl _ _).alloc (Nat.le_refl _) _
        have p2a := keepC b1 p2
        have q2a := keepC b1 q2
        have d0a := keepC b1 d0
        have d1a := keepC b1 d1
        have d2a := keepC b1 d2
        clear b1
        go_wp2_with fail
        go_region_law (first
          | (go_simp; go_at_call 23; refine (I (wr.drew.alloc (.cells #[.int .i64 0, .int .i64 0, .slice none 0 0] 27)) ((Below.refl _ _).drew.alloc (by simp) _)).mono ?_; rintro e1 w1 ⟨a1, c1, rfl, o1, hle1, hb1⟩; have C1 := (C.on ((Below.refl _ _).drew.alloc (by simp) _)).on hb1; have R1 := (R.on ((Below.refl _ _).drew.alloc (by simp) _)).join hb1 (fe_one o1 hle1 HI.out.1 HI.out.2 (Nat.le_of_lt_succ (by simp; omega))) (fun e he x hx => by simp only [List.mem_singleton] at he; subst he; exact hx.1); have z0 := keepC (p := ⟨wr.heap.size, 0, none⟩) (v := .int .i64 0) hb1 (by simp [go_sem]); have z1 := keepC (p := ⟨wr.heap.size, 1, none⟩) (v := .int .i64 0) hb1 (by simp [go_sem]); have z2 := keepC (p := ⟨wr.heap.size, 2, none⟩) (v := .slice none 0 0) hb1 (by simp [go_sem]); have c2' := C1.q2; have f2' := C1.fq 2; have hbw := C1.z; have hne : (Value.slice av L.length cv).ownBlock ≠ some (w.heap.size + 1 + 1) := (fun q => by have := (R1.row.lt _ q).1; omega); have hrow := R1.row; have hxl := hrow.1; have hsz1 := hb1.size; have HC : Hid _ := C1; have HRR : Hid _ := R1; clear C1 R1 hb1 o1)
          | (go_simp; go_at_call 23; refine (I wr.drew (Below.refl _ _).drew).mono ?_; rintro e1 w1 ⟨a1, c1, rfl, o1, hle1, hb1⟩; have C1 := (C.on (Below.refl _ _).drew).on hb1; have R1 := (R.on (Below.refl _ _).drew).join hb1 (fe_one o1 hle1 HI.out.1 HI.out.2 (Nat.le_of_lt_succ (by simp; omega))) (fun e he x hx => by simp only [List.mem_singleton] at he; subst he; exact hx.1); have zB : True := trivial; have c2' := C1.q2; have f2' := C1.fq 2; have hbw := C1.z; have hne : (Value.slice av L.length cv).ownBlock ≠ some (w.heap.size + 1 + 1) := (fun q => by have := (R1.row.lt _ q).1; omega); have hrow := R1.row; have hxl := hrow.1; have hsz1 := hb1.size; have HC : Hid _ := C1; have HRR : Hid _ := R1; clear C1 R1 hb1 o1)
          | (have _ := zB; refine step_append_own rfl (.tmp 18) (.tmp 25) 25 rfl (w.heap.size + 1 + 1 + 1) 27 i0 _ 3 40 Tryz.underlying25 hi0 hz0 hz1 hz2 rfl (by decide) (.slice av L.length cv) L.length (cs3 (L.map FE.cells)) (by first | (simp [Act.eval]; done) | simp [Act.eval, Act.put]) (own_on hrow (by repeat (first | exact Below.refl _ _ | refine Below.drew ?_ | refine Below.alloc ?_ (by simp) _))) ⟨w1.heap.size, 0, none⟩ 1 1 [.int .i64 u.f, .int .i64 u.v, .slice a1 u.kids.length c1] (by first | (simp [Act.eval]; done) | simp [Act.eval, Act.put]) rfl (three_at (by simp) (by simp) (by simp)) (three_cell _ _ _ _ _) (by unfold maxLen; omega) (by omega) (by simp <;> omega) ?_; intro v5 w5 hown5 hgrow5 hat5; have HA5 : Hid _ := hat5; obtain ⟨g5, c5, rfl, _⟩ := own_slot hown5; have HO5 : Hid _ := hown5; have HG5 : Hid _ := hgrow5; have A5 := cpy_app HC.out HRR.out (by repeat (first | exact Below.refl _ _ | refine Below.drew ?_ | refine Below.alloc ?_ (by simp) _)) hown5 hgrow5 hat5; have c4' := A5.1.q2; have f4' := A5.1.fq 2; have HA : Hid _ := A5; clear A5 hown5 hgrow5 hat5)
          | (refine step_append_own rfl (.tmp 18) (.tmp 25) 25 rfl (w.heap.size + 1 + 1 + 1) 27 i0 _ 3 40 Tryz.underlying25 hi0 hz0 hz1 hz2 rfl (by decide) (.slice av L.length cv) L.length (cs3 (L.map FE.cells)) (by first | (simp [Act.eval]; done) | simp [Act.eval, Act.put]) (own_on hrow (by repeat (first | exact Below.refl _ _ | refine Below.drew ?_ | refine Below.alloc ?_ (by simp) _))) ⟨wr.heap.size, 0, none⟩ 1 1 [.int .i64 0, .int .i64 0, .slice none 0 0] (by first | (simp [Act.eval]; done) | simp [Act.eval, Act.put]) rfl (three_at z0 z1 z2) (three_cell _ _ _ _ _) (by unfold maxLen; omega) (by omega) (by simp <;> omega) ?_; intro v5 w5 hown5 hgrow5 hat5; have PF := put_facts hrow.1 hown5 hgrow5 hat5 (by repeat (first | exact Below.refl _ _ | refine Below.drew ?_ | refine Below.alloc ?_ (by simp) _)) hbw c2' f2' hne; have HA5 : Hid _ := hat5; obtain ⟨g5, c5, rfl, ⟨e0, e1, e2⟩, ⟨f0, f1, f2⟩, c4', f4', hg5, hc5, hat'⟩ := PF; have HO5 : Hid _ := hown5; have HG5 : Hid _ := hgrow5; clear hown5 hgrow5 hat5))
        all_goals
          clear c4' f4'
          have A5 := HA.out
          have C6 := A5.1.set (.slice (some ⟨g5, 0, none⟩) (L.length + 1) c5)
          have R6 := A5.2.set (p := ⟨w.heap.size + 1 + 1, 2, none⟩) (.slice (some ⟨g5, 0, none⟩) (L.length + 1) c5) (by simp only; omega)
          clear A5 HA
          go_wp2_with fail
          refine ⟨⟨k + 1, L ++ [⟨u, a1, c1, _⟩], some ⟨g5, 0, none⟩, c5, by omega, by go_num, by simpa using C6, R6, ?_⟩, by simp [intOf]; omega⟩
          show _ = _
          rw [fe_snoc, HK.out]
      · have E : Hid (k = t.kids.length) := (by omega : k = t.kids.length)
        have q0 := C.q0
        have q1 := C.q1
        have q2 := C.q2
        have r0 := C.r0
        have r1 := C.r1
        have r2 := C.r2
        have fr := C.fr
        have hL : Hid (L.map FE.t = t.kids) := by
          show _ = _
          rw [HL.out, E.out, List.take_length]
        have O : OwnR wr (fun x => w.heap.size + 1 + 1 + 1 ≤ x ∧ x < wr.heap.size) av cv (L.map FE.t) := by
          rcases R.row.2 with ⟨hv, h0⟩ | ⟨g, cap, _, hv, _⟩
          · have : L = [] := List.length_eq_zero_iff.1 h0
            subst this; cases hv; exact .nil _
          · cases hv
            exact (by simpa using R.fo : Forest wr _ L).owns R.row (fun e he => R.ap g rfl e (by simpa using he)) (by omega)
        have hcl : L.length ≤ cv := by obtain ⟨_, _, h, hh⟩ := own_form R.row; cases h; exact hh
        have hbel := C.bel
        clear C R HL E ih
        go_wp2_with fail
        obtain ⟨z0, z1, z2⟩ := set3_cells (u := wr) (r := w.heap.size + 1) (x := .int .i64 t.f) (y := .int .i64 t.v) (z := .slice av L.length cv) r0 r1 r2
        have hn : ¬ (w.heap.size + 1 + 1 + 1 ≤ w.heap.size + 1 ∧ w.heap.size + 1 < wr.heap.size) := by omega
        have O3 := ((O.setCell ⟨w.heap.size + 1, 0, none⟩ hn (.int .i64 t.f)).setCell ⟨w.heap.size + 1, 1, none⟩ hn (.int .i64 t.v)).setCell ⟨w.heap.size + 1, 2, none⟩ hn (.slice av L.length cv)
        rw [← hL.out, List.length_map]
        refine bodyPost_ret (v := .agg #[.int .i64 t.f, .int .i64 t.v, .slice av L.length cv]) (by simp [results, Tryz.results23, go_sem, z0, z1, z2]) rfl ⟨av, cv, rfl, O3.mono (fun x hx => ⟨by omega, by simpa using hx.2⟩), hcl, ?_⟩
        exact ((hbel.setCell (p := ⟨w.heap.size + 1, 0, none⟩) (by simp) _).setCell (p := ⟨w.heap.size + 1, 1, none⟩) (by simp) _).setCell (p := ⟨w.heap.size + 1, 2, none⟩) (by simp) _
end Go.Proofs.YtkjlldbgooogdaaGreat

/- Two drawn terms, of the same functions. Conditions: at most 1048576 bytes. -/
namespace Go.Proofs.YtkjlldbgooogdaaGreat
set_option maxRecDepth 100000
open Go.RowKit

/-- While two terms are drawn: the answers' places, the cursor. -/
structure LB (w : World) (c : Nat) (a : Option Addr) (bs : List Int) (cap : Nat) (W : World) : Prop where
  bel : Below w.heap.size w W
  hc : w.heap.size + 1 < c
  cur : Cur 76 W c a bs cap
  s : C3 W w.heap.size (.int .i64 0) (.int .i64 0) (.slice none 0 0)
  u : C3 W (w.heap.size + 1) (.int .i64 0) (.int .i64 0) (.slice none 0 0)
  fs : ∀ j, W.frozen? ⟨w.heap.size, j, none⟩ = false
  fu : ∀ j, W.frozen? ⟨w.heap.size + 1, j, none⟩ = false
theorem LB.stay {w : World} {c : Nat} {a : Option Addr} {bs : List Int} {cap : Nat} {W W' : World} (h : LB w c a bs cap W) (hs : Stay (fun k => k ≠ c) W W') (hc : Cur 76 W' c a bs cap) : LB w c a bs cap W' := by
  have h1 := h.hc
  have h2 := h.u.lt
  exact ⟨h.bel.trans (hs.below h.bel.size (fun k hk => by omega)), h.hc, hc, h.s.stay hs (by omega), h.u.stay hs (by omega), fun j => (hs.frozen (p := ⟨w.heap.size, j, none⟩) (by simp only; omega) (by simp only; omega)).trans (h.fs j), fun j => (hs.frozen (p := ⟨w.heap.size + 1, j, none⟩) (by simp only; omega) (by simp only; omega)).trans (h.fu j)⟩
theorem LB.on {w : World} {c : Nat} {a : Option Addr} {bs : List Int} {cap : Nat} {W W' : World} (h : LB w c a bs cap W) (hb : Below W.heap.size W W') : LB w c a bs cap W' := h.stay (.of_below hb (fun _ hk _ => hk)) (h.cur.below hb)
/-- A drawn term in its box. -/
structure DB (c B : Nat) (t : TermD) (ta : Option Addr) (tc lo hi : Nat) (W : World) : Prop where
  b : C3 W B (.int .i64 t.f) (.int .i64 t.v) (.slice ta t.kids.length tc)
  fb : ∀ j, W.frozen? ⟨B, j, none⟩ = false
  own : OwnR W (fun x => lo ≤ x ∧ x < hi) ta tc t.kids
  le : t.kids.length ≤ tc
  wf : isW t.f ∧ isW t.v
  p : partsT t ≤ 15
  hc : c < lo
  hB : c < B
  hz : hi ≤ W.heap.size
theorem DB.stay {c B : Nat} {t : TermD} {ta : Option Addr} {tc lo hi : Nat} {W W' : World} (h : DB c B t ta tc lo hi W) (hs : Stay (fun k => k ≠ c) W W') : DB c B t ta tc lo hi W' := by
  have h1 := h.hc
  have h2 := h.hB
  have h3 := h.b.lt
  have h4 := h.hz
  exact ⟨h.b.stay hs (by omega), fun j => (hs.frozen (p := ⟨B, j, none⟩) h3 (by simp only; omega)).trans (h.fb j), h.own.frame (fun k hk => hs.block k (by omega) (by omega)) hs.size, h.le, h.wf, h.p, h.hc, h.hB, Nat.le_trans h4 hs.size⟩
theorem DB.on {c B : Nat} {t : TermD} {ta : Option Addr} {tc lo hi : Nat} {W W' : World} (h : DB c B t ta tc lo hi W) (hb : Below W.heap.size W W') : DB c B t ta tc lo hi W' := h.stay (.of_below hb (fun _ hk _ => hk))
/-- Another box is written. -/
theorem DB.other {c B D : Nat} {t : TermD} {ta : Option Addr} {tc lo hi : Nat} {W W' : World} (h : DB c B t ta tc lo hi W) (hs : Stay (fun k => k ≠ D) W W') (h1 : D ≠ B) (h2 : hi ≤ D ∨ D < lo) : DB c B t ta tc lo hi W' := by
  have h3 := h.b.lt
  have h4 := h.hz
  exact ⟨h.b.stay hs (by omega), fun j => (hs.frozen (p := ⟨B, j, none⟩) h3 (by simp only; omega)).trans (h.fb j), h.own.frame (fun k hk => hs.block k (by omega) (by omega)) hs.size, h.le, h.wf, h.p, h.hc, h.hB, Nat.le_trans h4 hs.size⟩
theorem DB.new {w W : World} {c N : Nat} {a : Option Addr} {bs : List Int} {cap : Nat} {t : TermD} {ta : Option Addr} {tc : Nat} (T : DrawT w c a bs cap N t ta tc W) (hN : N ≤ 15) (hc : c < w.heap.size) : DB c W.heap.size t ta tc w.heap.size W.heap.size (W.alloc (.cells #[.int .i64 t.f, .int .i64 t.v, .slice ta t.kids.length tc] 27)) := by
  have hb := (Below.refl W.heap.size W).alloc (Nat.le_refl _) (.cells #[.int .i64 t.f, .int .i64 t.v, .slice ta t.kids.length tc] 27)
  exact ⟨C3.new _ _ _ _ _, fun j => by simp, T.own.frame (fun k hk => hb.block k hk.2) hb.size, T.le, T.wf, Nat.le_trans T.parts hN, hc, Nat.lt_of_lt_of_le hc T.st.size, by simp⟩
/-- The box gets another term. -/
theorem DB.put {W W' : World} {c B : Nat} {t u : TermD} {ta ua : Option Addr} {tc uc lo hi : Nat} (h : DB c B t ta tc lo hi W) (hs : Stay (fun k => k ≠ c) W W') (ho : OwnR W' (fun x => W.heap.size ≤ x ∧ x < W'.heap.size) ua uc u.kids) (hle : u.kids.length ≤ uc) (hwf : isW u.f ∧ isW u.v) (hp : partsT u ≤ 15) :
    DB c B u ua uc W.heap.size W'.heap.size (((W'.setCell ⟨B, 0, none⟩ (.int .i64 u.f)).setCell ⟨B, 1, none⟩ (.int .i64 u.v)).setCell ⟨B, 2, none⟩ (.slice ua u.kids.length uc)) := by
  have h1 := h.stay hs
  have h3 := h.b.lt
  have h4 := h.hB
  have hn : ∀ j, ¬ (W.heap.size ≤ (⟨B, j, none⟩ : Addr).block ∧ (⟨B, j, none⟩ : Addr).block < W'.heap.size) := fun j q => by have := q.1; simp only at this; omega
  exact ⟨h1.b.set _ _ _, fun j => by rw [World.frozen?_setCell, World.frozen?_setCell, World.frozen?_setCell]; exact h1.fb j, ((ho.setCell ⟨B, 0, none⟩ (hn 0) _).setCell ⟨B, 1, none⟩ (hn 1) _).setCell ⟨B, 2, none⟩ (hn 2) _, hle, hwf, hp, by omega, h4, by simp⟩
theorem LB.box {w : World} {c : Nat} {a : Option Addr} {bs : List Int} {cap : Nat} {W : World} {B : Nat} (h : LB w c a bs cap W) (hbs : bs = [] ∨ ∀ x, a = some x → x.block < w.heap.size) (hB : c < B) (x y z : Value) : LB w c a bs cap (((W.setCell ⟨B, 0, none⟩ x).setCell ⟨B, 1, none⟩ y).setCell ⟨B, 2, none⟩ z) := by
  have h1 := h.hc
  have h2 := h.u.lt
  have hs := set3_stay W B x y z
  have hg : W.grownBy (((W.setCell ⟨B, 0, none⟩ x).setCell ⟨B, 1, none⟩ y).setCell ⟨B, 2, none⟩ z) (some B) := grown_then (grown_then (grown_set _ _ _ _) (grown_set _ _ _ _)) (grown_set _ _ _ _)
  exact ⟨h.bel.trans (hs.below h.bel.size (fun k hk => by omega)), h.hc, h.cur.grown hg (B := c + 1) (by omega) (by omega) (hbs.imp id (fun q x hx => by have := q x hx; omega)), h.s.stay hs (by omega), h.u.stay hs (by omega), fun j => (hs.frozen (p := ⟨w.heap.size, j, none⟩) (by simp only; omega) (by simp only; omega)).trans (h.fs j), fun j => (hs.frozen (p := ⟨w.heap.size + 1, j, none⟩) (by simp only; omega) (by simp only; omega)).trans (h.fu j)⟩

/-- What two drawn terms are. -/
structure Two (w : World) (g : Nat) (t : TermD) (ta : Option Addr) (tc : Nat) (u : TermD) (ua : Option Addr) (uc : Nat) (W : World) : Prop where
  bel : Below w.heap.size w W
  s : RdS W (some ⟨g, 0, none⟩) sig7
  hg : w.heap.size ≤ g
  o1 : OwnR W (fun x => w.heap.size ≤ x ∧ x < W.heap.size) ta tc t.kids
  o2 : OwnR W (fun x => w.heap.size ≤ x ∧ x < W.heap.size) ua uc u.kids
  l1 : t.kids.length ≤ tc
  l2 : u.kids.length ≤ uc
  w1 : isW t.f ∧ isW t.v
  w2 : isW u.f ∧ isW u.v
  p1 : partsT t ≤ 15
  p2 : partsT u ≤ 15
theorem rdS_stay {W X : World} {g : Nat} {S : Nat → Prop} {ss : List SymD} (hs : RdS W (some ⟨g, 0, none⟩) ss) (hx : Stay S W X) (hg : S g) : RdS X (some ⟨g, 0, none⟩) ss := by
  rcases hs with h | ⟨b, off, e, hlt, hc⟩
  · exact .inl h
  · cases e
    exact .inr ⟨g, 0, rfl, Nat.lt_of_lt_of_le hlt hx.size, fun i hi => ⟨hx.cell (hc i hi).1 hg, hx.cell (hc i hi).2.1 hg, hx.cell (hc i hi).2.2 hg⟩⟩
/-- Blocks below what is drawn may change, down to w0's. -/
theorem Two.stay {w w0 : World} {g : Nat} {t : TermD} {ta : Option Addr} {tc : Nat} {u : TermD} {ua : Option Addr} {uc : Nat} {W W' : World} (h : Two w g t ta tc u ua uc W) (hs : Stay (fun k => w.heap.size ≤ k) W W') (hb : Below w0.heap.size w0 W') (hw : w0.heap.size ≤ w.heap.size) : Two w0 g t ta tc u ua uc W' :=
  ⟨hb, rdS_stay h.s hs h.hg, Nat.le_trans hw h.hg, (h.o1.frame (fun k hk => hs.block k hk.2 hk.1) hs.size).mono (fun _ hk => ⟨Nat.le_trans hw hk.1, Nat.lt_of_lt_of_le hk.2 hs.size⟩), (h.o2.frame (fun k hk => hs.block k hk.2 hk.1) hs.size).mono (fun _ hk => ⟨Nat.le_trans hw hk.1, Nat.lt_of_lt_of_le hk.2 hs.size⟩), h.l1, h.l2, h.w1, h.w2, h.p1, h.p2⟩
theorem Two.on {w : World} {g : Nat} {t : TermD} {ta : Option Addr} {tc : Nat} {u : TermD} {ua : Option Addr} {uc : Nat} {W W' : World} (h : Two w g t ta tc u ua uc W) (hb : Below W.heap.size W W') : Two w g t ta tc u ua uc W' :=
  h.stay (.of_below hb (fun _ hk _ => hk)) (h.bel.trans (hb.mono h.bel.size)) (Nat.le_refl _)
end Go.Proofs.YtkjlldbgooogdaaGreat

/- Two drawn terms, of the same functions: the drawing functions' contracts. Conditions: at most 1048576 bytes. -/
namespace Go.Proofs.YtkjlldbgooogdaaGreat
set_option maxRecDepth 100000
open Go.RowKit

theorem below_chain {A X Y : World} (h : Below A.heap.size A X) (k : Below X.heap.size X Y) : Below A.heap.size A Y := h.trans (k.mono h.size)

theorem LB.start {w w1 : World} {a : Option Addr} {bs : List Int} {cap : Nat} {W : World} (hW : W = (w.alloc (.cells #[.int .i64 0, .int .i64 0, .slice none 0 0] 27)).alloc (.cells #[.int .i64 0, .int .i64 0, .slice none 0 0] 27)) (hC : Cur 76 w1 W.heap.size a bs cap) (hb : Below W.heap.size W w1) : LB w W.heap.size a bs cap w1 := by
  have h0 : Below w.heap.size w W := by rw [hW]; exact ((Below.refl _ _).alloc (Nat.le_refl _) _).alloc (by simp) _
  have hz : W.heap.size = w.heap.size + 1 + 1 := by rw [hW]; simp
  have s : C3 W w.heap.size (.int .i64 0) (.int .i64 0) (.slice none 0 0) := by rw [hW]; exact ⟨by simp [go_sem], by simp [go_sem], by simp [go_sem]⟩
  have u : C3 W (w.heap.size + 1) (.int .i64 0) (.int .i64 0) (.slice none 0 0) := by rw [hW]; exact ⟨by simp [go_sem], by simp [go_sem], by simp [go_sem]⟩
  have fs : ∀ j, W.frozen? ⟨w.heap.size, j, none⟩ = false := fun j => by rw [hW]; simp [go_sem]
  have fu : ∀ j, W.frozen? ⟨w.heap.size + 1, j, none⟩ = false := fun j => by rw [hW]; simp [go_sem]
  exact ⟨h0.trans (hb.mono h0.size), by omega, hC, s.on hb, u.on hb, fun j => (hb.frozen (p := ⟨w.heap.size, j, none⟩) (by simp only; omega)).trans (fs j), fun j => (hb.frozen (p := ⟨w.heap.size + 1, j, none⟩) (by simp only; omega)).trans (fu j)⟩

/-- The end: both answers laid into their places. -/
theorem two_end {w W X : World} {c : Nat} {a : Option Addr} {bs : List Int} {cap : Nat} {g Ba Bb la lb ha hb : Nat} {t u : TermD} {ta ua : Option Addr} {tc uc : Nat} (L : LB w c a bs cap W) (A : DB c Ba t ta tc la ha W) (B : DB c Bb u ua uc lb hb W) (hs : RdS W (some ⟨g, 0, none⟩) sig7) (hg : w.heap.size + 1 < g) (hx : Stay (fun k => k ≠ w.heap.size ∧ k ≠ w.heap.size + 1) W X) : Two w g t ta tc u ua uc X := by
  have h1 := L.hc
  have h2 := A.hc
  have h3 := B.hc
  have h4 := A.hz
  have h5 := B.hz
  have h6 := hx.size
  have a1 := A.own.frame (w' := X) (fun k hk => hx.block k (by omega) (by omega)) hx.size
  have a2 := B.own.frame (w' := X) (fun k hk => hx.block k (by omega) (by omega)) hx.size
  exact ⟨L.bel.trans (hx.below L.bel.size (fun k hk => by omega)), rdS_stay hs hx (by omega), by omega, a1.mono (fun k hk => by omega), a2.mono (fun k hk => by omega), A.le, B.le, A.wf, B.wf, A.p, B.p⟩

set_option maxHeartbeats 3200000 in
set_option maxRecDepth 100000 in
theorem l5Draw_any (a : Option Addr) (bs : List Int) (cap : Nat) (w : World) (hl : bs.length ≤ 1048576) (hr : ∀ c, w.heap.size ≤ c → RdB w c a bs) :
    Calls Tryz.prog 16 #[.slice a bs.length cap] w fun e w' => ∃ g t ta tc u ua uc, e = .returned (.tuple #[.slice (some ⟨g, 0, none⟩) 7 7, .agg #[.int .i64 t.f, .int .i64 t.v, .slice ta t.kids.length tc], .agg #[.int .i64 u.f, .int .i64 u.v, .slice ua u.kids.length uc]]) ∧ Two w g t ta tc u ua uc w' := by
  obtain ⟨W, hW⟩ : ∃ W, W = (w.alloc (.cells #[.int .i64 0, .int .i64 0, .slice none 0 0] 27)).alloc (.cells #[.int .i64 0, .int .i64 0, .slice none 0 0] 27) := ⟨_, rfl⟩
  have hb0 : Below w.heap.size w W := by rw [hW]; exact ((Below.refl _ _).alloc (Nat.le_refl _) _).alloc (by simp) _
  have hlt := (hr _ (Nat.le_refl _)).lt
  have HL : Hid (bs = [] ∨ ∀ x, a = some x → x.block < w.heap.size) := hlt
  have HBS : Hid (∀ w' : World, w.heap.size ≤ w'.heap.size → (bs = [] ∨ ∀ x, a = some x → x.block < w'.heap.size)) := fun w' h => hlt.imp id (fun q x hx => Nat.lt_of_lt_of_le (q x hx) h)
  have CN := new_any a bs bs.length cap W rfl hl (fun c hc => (hr c (Nat.le_trans hb0.size hc)).on hb0)
  have HW : Hid _ := hW
  clear hW hr hlt
  go_enter Tryz.func16, Tryz.ntmps16
  go_wp2_with (first
    | (go_at_call 31; rw [← HW.out]; refine CN.mono ?_; rintro e w1 ⟨rfl, hC, hb1⟩; have L1 := LB.start HW.out hC hb1; generalize W.heap.size = c at L1 ⊢; clear CN hC hb1 HW hb0)
    | (go_at_call 43; refine (below_any c a bs cap 3 _ hl (by omega) (by omega) L1.cur).mono ?_; rintro e w2 ⟨q, rfl, hq, hC, hg⟩; have L2 := L1.stay (stay_of_grown hg) hC; clear L1 hC hg)
    | (go_at_call 44; refine (right_any c a bs cap (q : Int) _ hl (by omega) (by omega) L2.cur (HBS.out _ L2.bel.size)).mono ?_; rintro e w3 ⟨t0, ta, tc, rfl, T3⟩; generalize normT (blindAt sig7) t0 = t at T3 ⊢; have A3 := DB.new T3 (by omega) L2.cur.lt; have L3 := (L2.stay T3.st T3.cur).on (W' := w3.alloc (.cells #[.int .i64 t.f, .int .i64 t.v, .slice ta t.kids.length tc] 27)) ((Below.refl _ _).alloc (Nat.le_refl _) _); clear L2 T3)
    | (go_at_call 44; refine (right_any c a bs cap (q : Int) _ hl (by omega) (by omega) L3.cur (HBS.out _ L3.bel.size)).mono ?_; rintro e w4 ⟨t1, ua, uc, rfl, T4⟩; generalize normT (blindAt sig7) t1 = u at T4 ⊢; have B4 := DB.new T4 (by omega) L3.cur.lt; have A4 := (A3.stay T4.st).on (W' := w4.alloc (.cells #[.int .i64 u.f, .int .i64 u.v, .slice ua u.kids.length uc] 27)) ((Below.refl _ _).alloc (Nat.le_refl _) _); have L4 := (L3.stay T4.st T4.cur).on (W' := w4.alloc (.cells #[.int .i64 u.f, .int .i64 u.v, .slice ua u.kids.length uc] 27)) ((Below.refl _ _).alloc (Nat.le_refl _) _); have hz34 : w3.heap.size < w4.heap.size := Nat.lt_of_lt_of_le (by simp) T4.st.size; clear L3 T4 A3)
    | (go_at_call 43; refine (below_any c a bs cap 8 _ hl (by omega) (by omega) L4.cur).mono ?_; rintro e w5 ⟨q2, rfl, hq2, hC, hg⟩; have L5 := L4.stay (stay_of_grown hg) hC; have A5 := A4.stay (stay_of_grown hg); have B5 := B4.stay (stay_of_grown hg); clear L4 A4 B4 hC hg; have b0 := B5.b.1; have b1 := B5.b.2.1; have b2 := B5.b.2.2; have fb := B5.fb; have a0 := A5.b.1; have a1 := A5.b.2.1; have a2 := A5.b.2.2))
  · clear a0 a1 a2
    refine (draw_any c a bs cap w5 hl L5.cur (HBS.out _ L5.bel.size)).mono ?_
    rintro e w6 ⟨v, va, vc, rfl, T6⟩
    have L6 := (L5.stay T6.st T6.cur).box HL.out B5.hB (.int .i64 v.f) (.int .i64 v.v) (.slice va v.kids.length vc)
    have A6 := (A5.stay T6.st).other (set3_stay w6 w4.heap.size (.int .i64 v.f) (.int .i64 v.v) (.slice va v.kids.length vc)) (by omega) (by omega)
    have B6 := B5.put T6.st T6.own T6.le T6.wf T6.parts
    have B60 := B5.stay T6.st
    clear b0 b1 b2 fb
    have b0 := B60.b.1
    have b1 := B60.b.2.1
    have b2 := B60.b.2.2
    have fb := B60.fb
    clear B60 L5 A5 B5 T6
    go_wp2_with fail
    clear b0 b1 b2 fb
    obtain ⟨X, hX⟩ : ∃ X, X = (((w6.setCell ⟨w4.heap.size, 0, none⟩ (.int .i64 v.f)).setCell ⟨w4.heap.size, 1, none⟩ (.int .i64 v.v)).setCell ⟨w4.heap.size, 2, none⟩ (.slice va v.kids.length vc)) := ⟨_, rfl⟩
    rw [← hX] at L6 A6 B6 ⊢
    clear hX
    have hA := A6.hB
    have hBb := B6.hB
    have hLc := L6.hc
    have a0 := A6.b.1
    have a1 := A6.b.2.1
    have a2 := A6.b.2.2
    have b0 := B6.b.1
    have b1 := B6.b.2.1
    have b2 := B6.b.2.2
    have fs := L6.fs
    have fu := L6.fu
    have s0 := L6.s.1
    have s1 := L6.s.2.1
    have s2 := L6.s.2.2
    have u0 := L6.u.1
    have u1 := L6.u.2.1
    have u2 := L6.u.2.2
    have n1 : w.heap.size ≠ w3.heap.size := by omega
    have n2 : w.heap.size ≠ w4.heap.size := by omega
    have n3 : w.heap.size + 1 ≠ w3.heap.size := by omega
    have n4 : w.heap.size + 1 ≠ w4.heap.size := by omega
    have hlx := A6.b.lt
    have hly := B6.b.lt
    have hlz := L6.u.lt
    have HLL : Hid _ := L6
    have HAA : Hid _ := A6
    have HBB : Hid _ := B6
    clear L6 A6 B6
    go_region_with (go_at_call 33; refine (l2Sig_any _).mono ?_; rintro e w8 ⟨rfl, ho8, hb80⟩; have hb8 : Below X.heap.size X w8 := (Below.refl _ _).drew.trans hb80; have L8 := HLL.out.on hb8; have A8 := HAA.out.on hb8; have B8 := HBB.out.on hb8; clear hb80 hb8 a0 a1 a2 b0 b1 b2 fs fu s0 s1 s2 u0 u1 u2; have a0 := A8.b.1; have a1 := A8.b.2.1; have a2 := A8.b.2.2; have b0 := B8.b.1; have b1 := B8.b.2.1; have b2 := B8.b.2.2; have fs := L8.fs; have fu := L8.fu; have s0 := L8.s.1; have s1 := L8.s.2.1; have s2 := L8.s.2.2; have u0 := L8.u.1; have u1 := L8.u.2.1; have u2 := L8.u.2.2; have HL8 : Hid _ := L8; have HA8 : Hid _ := A8; have HB8 : Hid _ := B8; have HO8 : Hid _ := ho8; clear L8 A8 B8 ho8)
    all_goals
      try go_wp2_with fail
      obtain ⟨c1, c2, hx⟩ := two_set (x := .int .i64 t.f) (y := .int .i64 t.v) (z := .slice ta t.kids.length tc) (x' := .int .i64 v.f) (y' := .int .i64 v.v) (z' := .slice va v.kids.length vc) HL8.out.s HL8.out.u (by omega)
      exact bodyPost_ret (v := .tuple #[.slice (some ⟨_, 0, none⟩) 7 7, .agg #[.int .i64 t.f, .int .i64 t.v, .slice ta t.kids.length tc], .agg #[.int .i64 v.f, .int .i64 v.v, .slice va v.kids.length vc]]) (by simp [results, Tryz.results16, go_sem, c1.1, c1.2.1, c1.2.2, c2.1, c2.2.1, c2.2.2]) rfl ⟨_, t, ta, tc, v, va, vc, rfl, two_end HL8.out HA8.out HB8.out (RdS.own rfl HO8.out) (by simp; omega) hx⟩
  · clear a0 a1 a2
    refine (l3Copy_any 4194304 t ta tc w5.heap.size w5 (by have := A5.p; omega) (Nat.le_refl _) A5.own.rd (Nat.le_refl _) A5.wf.1 A5.wf.2).mono ?_
    rintro e w6 ⟨va, vc, rfl, O6, hle6, hb6⟩
    have L6 := (L5.on hb6).box HL.out B5.hB (.int .i64 t.f) (.int .i64 t.v) (.slice va t.kids.length vc)
    have A6 := (A5.on hb6).other (set3_stay w6 w4.heap.size (.int .i64 t.f) (.int .i64 t.v) (.slice va t.kids.length vc)) (by omega) (by omega)
    have B6 := B5.put (.of_below hb6 (fun _ hk _ => hk)) O6 hle6 A5.wf A5.p
    have B60 := B5.on hb6
    clear b0 b1 b2 fb
    have b0 := B60.b.1
    have b1 := B60.b.2.1
    have b2 := B60.b.2.2
    have fb := B60.fb
    clear B60 L5 A5 B5 O6 hb6
    go_wp2_with fail
    clear b0 b1 b2 fb
    obtain ⟨X, hX⟩ : ∃ X, X = (((w6.setCell ⟨w4.heap.size, 0, none⟩ (.int .i64 t.f)).setCell ⟨w4.heap.size, 1, none⟩ (.int .i64 t.v)).setCell ⟨w4.heap.size, 2, none⟩ (.slice va t.kids.length vc)) := ⟨_, rfl⟩
    rw [← hX] at L6 A6 B6 ⊢
    clear hX
    have hA := A6.hB
    have hBb := B6.hB
    have hLc := L6.hc
    have a0 := A6.b.1
    have a1 := A6.b.2.1
    have a2 := A6.b.2.2
    have b0 := B6.b.1
    have b1 := B6.b.2.1
    have b2 := B6.b.2.2
    have fs := L6.fs
    have fu := L6.fu
    have s0 := L6.s.1
    have s1 := L6.s.2.1
    have s2 := L6.s.2.2
    have u0 := L6.u.1
    have u1 := L6.u.2.1
    have u2 := L6.u.2.2
    have n1 : w.heap.size ≠ w3.heap.size := by omega
    have n2 : w.heap.size ≠ w4.heap.size := by omega
    have n3 : w.heap.size + 1 ≠ w3.heap.size := by omega
    have n4 : w.heap.size + 1 ≠ w4.heap.size := by omega
    have hlx := A6.b.lt
    have hly := B6.b.lt
    have hlz := L6.u.lt
    have HLL : Hid _ := L6
    have HAA : Hid _ := A6
    have HBB : Hid _ := B6
    clear L6 A6 B6
    go_region_with (go_at_call 33; refine (l2Sig_any _).mono ?_; rintro e w8 ⟨rfl, ho8, hb80⟩; have hb8 : Below X.heap.size X w8 := (Below.refl _ _).drew.trans hb80; have L8 := HLL.out.on hb8; have A8 := HAA.out.on hb8; have B8 := HBB.out.on hb8; clear hb80 hb8 a0 a1 a2 b0 b1 b2 fs fu s0 s1 s2 u0 u1 u2; have a0 := A8.b.1; have a1 := A8.b.2.1; have a2 := A8.b.2.2; have b0 := B8.b.1; have b1 := B8.b.2.1; have b2 := B8.b.2.2; have fs := L8.fs; have fu := L8.fu; have s0 := L8.s.1; have s1 := L8.s.2.1; have s2 := L8.s.2.2; have u0 := L8.u.1; have u1 := L8.u.2.1; have u2 := L8.u.2.2; have HL8 : Hid _ := L8; have HA8 : Hid _ := A8; have HB8 : Hid _ := B8; have HO8 : Hid _ := ho8; clear L8 A8 B8 ho8)
    all_goals
      try go_wp2_with fail
      obtain ⟨c1, c2, hx⟩ := two_set (x := .int .i64 t.f) (y := .int .i64 t.v) (z := .slice ta t.kids.length tc) (x' := .int .i64 t.f) (y' := .int .i64 t.v) (z' := .slice va t.kids.length vc) HL8.out.s HL8.out.u (by omega)
      exact bodyPost_ret (v := .tuple #[.slice (some ⟨_, 0, none⟩) 7 7, .agg #[.int .i64 t.f, .int .i64 t.v, .slice ta t.kids.length tc], .agg #[.int .i64 t.f, .int .i64 t.v, .slice va t.kids.length vc]]) (by simp [results, Tryz.results16, go_sem, c1.1, c1.2.1, c1.2.2, c2.1, c2.2.1, c2.2.2]) rfl ⟨_, t, ta, tc, t, va, vc, rfl, two_end HL8.out HA8.out HB8.out (RdS.own rfl HO8.out) (by simp; omega) hx⟩
  · clear a0 a1 a2 b0 b1 b2 fb
    have hA := A5.hB
    have hBb := B5.hB
    have hLc := L5.hc
    have a0 := A5.b.1
    have a1 := A5.b.2.1
    have a2 := A5.b.2.2
    have b0 := B5.b.1
    have b1 := B5.b.2.1
    have b2 := B5.b.2.2
    have fs := L5.fs
    have fu := L5.fu
    have s0 := L5.s.1
    have s1 := L5.s.2.1
    have s2 := L5.s.2.2
    have u0 := L5.u.1
    have u1 := L5.u.2.1
    have u2 := L5.u.2.2
    have n1 : w.heap.size ≠ w3.heap.size := by omega
    have n2 : w.heap.size ≠ w4.heap.size := by omega
    have n3 : w.heap.size + 1 ≠ w3.heap.size := by omega
    have n4 : w.heap.size + 1 ≠ w4.heap.size := by omega
    have hlx := A5.b.lt
    have hly := B5.b.lt
    have hlz := L5.u.lt
    have HLL : Hid _ := L5
    have HAA : Hid _ := A5
    have HBB : Hid _ := B5
    clear L5 A5 B5
    go_region_with (go_at_call 33; refine (l2Sig_any _).mono ?_; rintro e w8 ⟨rfl, ho8, hb80⟩; have hb8 : Below w5.heap.size w5 w8 := (Below.refl _ _).drew.trans hb80; have L8 := HLL.out.on hb8; have A8 := HAA.out.on hb8; have B8 := HBB.out.on hb8; clear hb80 hb8 a0 a1 a2 b0 b1 b2 fs fu s0 s1 s2 u0 u1 u2; have a0 := A8.b.1; have a1 := A8.b.2.1; have a2 := A8.b.2.2; have b0 := B8.b.1; have b1 := B8.b.2.1; have b2 := B8.b.2.2; have fs := L8.fs; have fu := L8.fu; have s0 := L8.s.1; have s1 := L8.s.2.1; have s2 := L8.s.2.2; have u0 := L8.u.1; have u1 := L8.u.2.1; have u2 := L8.u.2.2; have HL8 : Hid _ := L8; have HA8 : Hid _ := A8; have HB8 : Hid _ := B8; have HO8 : Hid _ := ho8; clear L8 A8 B8 ho8)
    all_goals
      try go_wp2_with fail
      obtain ⟨c1, c2, hx⟩ := two_set (x := .int .i64 t.f) (y := .int .i64 t.v) (z := .slice ta t.kids.length tc) (x' := .int .i64 u.f) (y' := .int .i64 u.v) (z' := .slice ua u.kids.length uc) HL8.out.s HL8.out.u (by omega)
      exact bodyPost_ret (v := .tuple #[.slice (some ⟨_, 0, none⟩) 7 7, .agg #[.int .i64 t.f, .int .i64 t.v, .slice ta t.kids.length tc], .agg #[.int .i64 u.f, .int .i64 u.v, .slice ua u.kids.length uc]]) (by simp [results, Tryz.results16, go_sem, c1.1, c1.2.1, c1.2.2, c2.1, c2.2.1, c2.2.2]) rfl ⟨_, t, ta, tc, u, ua, uc, rfl, two_end HL8.out HA8.out HB8.out (RdS.own rfl HO8.out) (by simp; omega) hx⟩
end Go.Proofs.YtkjlldbgooogdaaGreat

/- Two drawn terms, as the laws draw them. Conditions: at most 1048576 bytes. -/
namespace Go.Proofs.YtkjlldbgooogdaaGreat
set_option maxRecDepth 100000
open Go.RowKit

set_option maxHeartbeats 800000 in
theorem drawGreater_any (a : Option Addr) (bs : List Int) (cap : Nat) (w : World) (hl : bs.length ≤ 1048576) (hr : ∀ c, w.heap.size ≤ c → RdB w c a bs) :
    Calls Tryz.prog 6 #[.slice a bs.length cap] w fun e w' => ∃ g t ta tc u ua uc, e = .returned (.tuple #[.slice (some ⟨g, 0, none⟩) 7 7, .agg #[.int .i64 t.f, .int .i64 t.v, .slice ta t.kids.length tc], .agg #[.int .i64 u.f, .int .i64 u.v, .slice ua u.kids.length uc]]) ∧ Two w g t ta tc u ua uc w' := by
  obtain ⟨W, hW⟩ : ∃ W, W = (w.alloc (.cells #[.int .i64 0, .int .i64 0, .slice none 0 0] 27)).alloc (.cells #[.int .i64 0, .int .i64 0, .slice none 0 0] 27) := ⟨_, rfl⟩
  have h0 : Below w.heap.size w W := by rw [hW]; exact ((Below.refl _ _).alloc (Nat.le_refl _) _).alloc (by simp) _
  have hz : w.heap.size + 1 < W.heap.size := by rw [hW]; simp
  have s : C3 W w.heap.size (.int .i64 0) (.int .i64 0) (.slice none 0 0) := by rw [hW]; exact ⟨by simp [go_sem], by simp [go_sem], by simp [go_sem]⟩
  have u : C3 W (w.heap.size + 1) (.int .i64 0) (.int .i64 0) (.slice none 0 0) := by rw [hW]; exact ⟨by simp [go_sem], by simp [go_sem], by simp [go_sem]⟩
  have fs : ∀ j, W.frozen? ⟨w.heap.size, j, none⟩ = false := fun j => by rw [hW]; simp [go_sem]
  have fu : ∀ j, W.frozen? ⟨w.heap.size + 1, j, none⟩ = false := fun j => by rw [hW]; simp [go_sem]
  have C5 := l5Draw_any a bs cap W hl (fun c hc => (hr c (Nat.le_trans h0.size hc)).on h0)
  have HW : Hid _ := hW
  clear hW hr
  go_enter Tryz.func6, Tryz.ntmps6
  go_wp2_with (go_at_call 16; rw [← HW.out]; refine C5.mono ?_; rintro e w1 ⟨g, t, ta, tc, v, va, vc, rfl, T1⟩; clear C5 HW)
  obtain ⟨X, hX⟩ : ∃ X, X = ((w1.alloc (.cells #[.int .i64 t.f, .int .i64 t.v, .slice ta t.kids.length tc] 27)).alloc (.cells #[.int .i64 v.f, .int .i64 v.v, .slice va v.kids.length vc] 27)) := ⟨_, rfl⟩
  have hbx : Below w1.heap.size w1 X := by rw [hX]; exact ((Below.refl _ _).alloc (Nat.le_refl _) _).alloc (by simp) _
  obtain ⟨x0, x1, x2⟩ : C3 X w1.heap.size (.int .i64 t.f) (.int .i64 t.v) (.slice ta t.kids.length tc) := by rw [hX]; exact ⟨by simp [go_sem], by simp [go_sem], by simp [go_sem]⟩
  obtain ⟨y0, y1, y2⟩ : C3 X (w1.heap.size + 1) (.int .i64 v.f) (.int .i64 v.v) (.slice va v.kids.length vc) := by rw [hX]; exact ⟨by simp [go_sem], by simp [go_sem], by simp [go_sem]⟩
  rw [← hX]
  clear hX
  have hbX : Below W.heap.size W X := T1.bel.trans (hbx.mono T1.bel.size)
  have hWz := hbX.size
  have HT : Hid (Two W g t ta tc v va vc X) := T1.on hbx
  have HS : Hid (C3 X w.heap.size (.int .i64 0) (.int .i64 0) (.slice none 0 0)) := s.on hbX
  have HU : Hid (C3 X (w.heap.size + 1) (.int .i64 0) (.int .i64 0) (.slice none 0 0)) := u.on hbX
  have HB : Hid (Below w.heap.size w X) := h0.trans (hbX.mono h0.size)
  have f1 : ∀ j, X.frozen? ⟨w.heap.size, j, none⟩ = false := fun j => (hbX.frozen (p := ⟨w.heap.size, j, none⟩) (by simp only; omega)).trans (fs j)
  have f2 : ∀ j, X.frozen? ⟨w.heap.size + 1, j, none⟩ = false := fun j => (hbX.frozen (p := ⟨w.heap.size + 1, j, none⟩) (by simp only; omega)).trans (fu j)
  obtain ⟨s10, s11, s12⟩ := s.on hbX
  obtain ⟨u10, u11, u12⟩ := u.on hbX
  have hzw := T1.bel.size
  have n1 : w.heap.size ≠ w1.heap.size := by omega
  have n2 : w.heap.size + 1 ≠ w1.heap.size := by omega
  have n3 : w.heap.size ≠ w1.heap.size + 1 := by omega
  generalize w1.heap.size = B1 at x0 x1 x2 y0 y1 y2 n1 n2 n3 hzw ⊢
  have n4 : w.heap.size + 1 ≠ B1 + 1 := by omega
  generalize B1 + 1 = B2 at y0 y1 y2 n3 n4 ⊢
  clear T1 s u fs fu hbx hbX
  go_region
  all_goals
    try go_wp2_with fail
    obtain ⟨c1, c2, hx⟩ := two_set (x := .int .i64 t.f) (y := .int .i64 t.v) (z := .slice ta t.kids.length tc) (x' := .int .i64 v.f) (y' := .int .i64 v.v) (z' := .slice va v.kids.length vc) HS.out HU.out (by omega)
    have hx := hx.trans (Stay.drew _ _)
    have hT := HT.out.stay (w0 := w) (hx.weak (fun k _ hk => by omega)) (HB.out.trans (hx.below HB.out.size (fun k hk => by omega))) (by omega)
    exact bodyPost_ret (v := .tuple #[.slice (some ⟨g, 0, none⟩) 7 7, .agg #[.int .i64 t.f, .int .i64 t.v, .slice ta t.kids.length tc], .agg #[.int .i64 v.f, .int .i64 v.v, .slice va v.kids.length vc]]) (by simp [results, Tryz.results6, go_sem, c1.1, c1.2.1, c1.2.2, c2.1, c2.2.1, c2.2.2]) rfl ⟨g, t, ta, tc, v, va, vc, rfl, hT⟩
end Go.Proofs.YtkjlldbgooogdaaGreat

/- Whether a term has at most 60 parts, as the program tells it: it stops at the first one too many. Conditions: terms of at most 4194304 parts. -/
namespace Go.Proofs.YtkjlldbgooogdaaGreat
set_option maxRecDepth 100000
open Go.RowKit Go.Shelf
attribute [local go_sem] Oper.semAt_some

/-- What the loop holds between two rounds. -/
structure FInv (w W0 : World) (pre : List El) (S : Nat → Prop) (W : World) : Prop where
  lo : ∀ k, k < W0.heap.size → S k
  hi : ∀ k, S k → k < W.heap.size
  r : W.cell? ⟨w.heap.size + 1, 0, none⟩ = some (.bool false)
  f : W.frozen? ⟨w.heap.size + 1, 0, none⟩ = false
  n : W.cell? ⟨w.heap.size + 1 + 1, 0, none⟩ = some (.int .i64 (pre.length : Int))
  g : W.frozen? ⟨w.heap.size + 1 + 1, 0, none⟩ = false
  b : Below w.heap.size w W
  z : w.heap.size + 1 + 1 < W0.heap.size
  le : pre.length ≤ 60
theorem FInv.stay {w W0 A B : World} {pre : List El} {S : Nat → Prop} (h : FInv w W0 pre S A) (hs : Stay S A B) : FInv w W0 pre S B := by
  have hz := h.z
  exact ⟨h.lo, fun k hk => Nat.lt_of_lt_of_le (h.hi k hk) hs.size, hs.cell h.r (h.lo _ (by simp only; omega)), (hs.frozen (World.block_lt_of_cell? _ _ h.r) (h.lo _ (by simp only; omega))).trans h.f, hs.cell h.n (h.lo _ hz), (hs.frozen (World.block_lt_of_cell? _ _ h.n) (h.lo _ hz)).trans h.g, h.b.trans (hs.below h.b.size (fun k hk => h.lo k (by omega))), hz, h.le⟩
/-- What is left where there was one too many. -/
structure FOut (w W0 : World) (pre : List El) (S : Nat → Prop) (W : World) : Prop where
  lo : ∀ k, k < W0.heap.size → S k
  r : W.cell? ⟨w.heap.size + 1, 0, none⟩ = some (.bool false)
  b : Below w.heap.size w W
  z : w.heap.size + 1 + 1 < W0.heap.size
  hit : 60 < pre.length
theorem FOut.stay {w W0 A B : World} {pre : List El} {S : Nat → Prop} (h : FOut w W0 pre S A) (hs : Stay S A B) : FOut w W0 pre S B := by
  have hz := h.z
  exact ⟨h.lo, hs.cell h.r (h.lo _ (by simp only; omega)), h.b.trans (hs.below h.b.size (fun k hk => h.lo k (by omega))), hz, h.hit⟩

set_option maxHeartbeats 3200000 in
theorem fewParts_any (t : TermD) (a : Option Addr) (c hi : Nat) (w : World) (hp : partsT t ≤ 4194304) (hr : RdK w hi a t.kids) (hhi : hi ≤ w.heap.size) (hc : t.kids.length ≤ c) :
    Calls Tryz.prog 40 #[.agg #[.int .i64 t.f, .int .i64 t.v, .slice a t.kids.length c]] w fun e w' => e = .returned (.bool (decide (partsT t ≤ 60))) ∧ Below w.heap.size w w' := by
  refine (callsIn_wide (n := 5)).1 ?_
  refine callsIn_of_wp_marks Tryz.func40 rfl trivial ?_ rfl
  simp only [Tryz.ntmps40, List.size_toArray, List.length_cons, List.length_nil, Nat.reduceAdd, Nat.reduceSub, Array.replicate_succ, Array.replicate_zero, List.push_toArray, List.append_toArray, List.nil_append, List.cons_append]
  gi_wp2_with (refine ⟨trivial, ?_⟩; gi_at_call 41; refine (callsIn_wide.2 (within_any t a c _)).mono ?_; rintro e w' ⟨rfl, rfl⟩)
  obtain ⟨W0, hW0⟩ : ∃ W0, W0 = (((w.alloc (.cells #[.int .i64 t.f, .int .i64 t.v, .slice a t.kids.length c] 27)).alloc (.cells #[.bool false] 4)).alloc (.cells #[.int .i64 0] 3)).alloc (.cells #[.int .i64 t.f, .int .i64 t.v, .slice a t.kids.length c] 27) := ⟨_, rfl⟩
  have hB0 : Below w.heap.size w W0 := by rw [hW0]; exact ((((Below.refl _ _).alloc (Nat.le_refl _) _).alloc (by simp) _).alloc (by simp; omega) _).alloc (by simp; omega) _
  have hz : W0.heap.size = w.heap.size + 1 + 1 + 1 + 1 := by rw [hW0]; simp
  have r0 : W0.cell? ⟨w.heap.size + 1, 0, none⟩ = some (.bool false) := by rw [hW0]; simp [go_sem]
  have f0 : W0.frozen? ⟨w.heap.size + 1, 0, none⟩ = false := by rw [hW0]; simp [go_sem]
  have n0 : W0.cell? ⟨w.heap.size + 1 + 1, 0, none⟩ = some (.int .i64 0) := by rw [hW0]; simp [go_sem]
  have g0 : W0.frozen? ⟨w.heap.size + 1 + 1, 0, none⟩ = false := by rw [hW0]; simp [go_sem]
  have t0 : W0.cell? ⟨w.heap.size + 1 + 1 + 1, 0, none⟩ = some (.int .i64 t.f) := by rw [hW0]; simp [go_sem]
  have t1 : W0.cell? ⟨w.heap.size + 1 + 1 + 1, 1, none⟩ = some (.int .i64 t.v) := by rw [hW0]; simp [go_sem]
  have t2 : W0.cell? ⟨w.heap.size + 1 + 1 + 1, 2, none⟩ = some (.slice a t.kids.length c) := by rw [hW0]; simp [go_sem]
  rw [← hW0]
  clear hW0
  refine wpIn_rangeFunc_priv rfl (by omega) (gf := 67) (lb := #[.pointer (some ⟨w.heap.size + 1 + 1 + 1, 0, none⟩)]) rfl trivial (enters_of Tryz.func67 (by kernel_rfl) rfl)
    (within_seq Fence.wide 4 trivial rfl (by omega) W0 t a c hi w.heap.size (w.heap.size + 1 + 1 + 1) hp hc (hr.on (hB0.mono hhi)) hhi hB0.size t0 t1 t2) hB0.size (Below.refl _ _) (fun _ => rfl)
    (fun pre S W => FInv w W0 pre S W) (fun cd pre S W => cd = .ret ∧ FOut w W0 pre S W) (fun pre S A B h hs => h.stay hs)
    (fun _ _ _ _ _ h hs => ⟨h.1, h.2.stay hs⟩) (fun pre S A h => h.hi) (fun k => k < W0.heap.size) (fun _ h => h) ⟨fun _ h => h, fun _ h => h, r0, f0, n0, g0, hB0, by omega, by simp⟩
    (fun pre x S a₁ W => FInv w W0 pre S W ∧ a₁ = { tmps := #[.agg #[.int .i64 t.f, .int .i64 t.v, .slice a t.kids.length c], .pointer (some ⟨w.heap.size, 0, none⟩), .pointer (some ⟨w.heap.size + 1, 0, none⟩), .pointer (some ⟨w.heap.size + 1 + 1, 0, none⟩), .agg #[.int .i64 t.f, .int .i64 t.v, .slice a t.kids.length c], .func (.func 67) #[] #[.pointer (some ⟨w.heap.size + 1 + 1 + 1, 0, none⟩)], .agg #[.int .i64 x.t.f, .int .i64 x.t.v, .slice x.a x.t.kids.length x.c], undef, undef, undef, undef], defers := [] })
    (fun pre x S a₁ A B h hs => ⟨h.1.stay hs, h.2⟩)
    ?assign ?body ?done ?stop
  case assign =>
    intro l pre x S W K hi hlen hok hK
    dsimp only [El.enc]
    gi_wp2
    exact hK _ S _ ⟨hi, by simp⟩ (fun _ h => .inl h) (.refl _ _)
  case body =>
    rintro l pre x S a₁ W ⟨h, rfl⟩ hlen hok
    have hr0 := h.r
    have hf0 := h.f
    have hn0 := h.n
    have hg0 := h.g
    have hz0 := h.z
    have hl0 := h.le
    have nlo : ∀ k, k < W0.heap.size → S k := h.lo
    have N1 : FInv w W0 pre S W := h
    by_cases h60 : pre.length < 60
    · have F0 : Hid (FInv w W0 (pre ++ [x]) S (W.setCell ⟨w.heap.size + 1 + 1, 0, none⟩ (.int .i64 ((pre.length : Int) + 1))) ∧ Stay (fun k => k < w.heap.size ∨ ¬ S k) W (W.setCell ⟨w.heap.size + 1 + 1, 0, none⟩ (.int .i64 ((pre.length : Int) + 1)))) := by
        refine ⟨⟨h.lo, fun k hk => by simpa using h.hi k hk, ?_, ?_, ?_, ?_, h.b.setCell (p := ⟨w.heap.size + 1 + 1, 0, none⟩) (by simp; omega) _, hz0, by simp; omega⟩, .setCell _ _ (fun h' => h'.elim (fun h' => by simp only at h'; omega) (fun h' => h' (h.lo _ hz0)))⟩
        · exact (World.cell?_of_block (Below.heap_setCell _ _ _ _ (by simp))).trans hr0
        · rw [World.frozen?_setCell]; exact hf0
        · rw [World.cell?_setCell_same _ _ _ hn0]; simp
        · rw [World.frozen?_setCell]; exact hg0
      have hb60 : (pre.length : Int) < 60 := by omega
      clear h N1 nlo hlen hok
      gi_wp2
      exact ⟨S, F0.out.1, fun k h => .inl h, F0.out.2⟩
    · have e60 : (pre.length : Int) = 60 := by omega
      have F1 : Hid (∀ v, FOut w W0 (pre ++ [x]) S ((W.setCell ⟨w.heap.size + 1 + 1, 0, none⟩ v).setCell ⟨w.heap.size + 1, 0, none⟩ (.bool false)) ∧ Stay (fun k => k < w.heap.size ∨ ¬ S k) W ((W.setCell ⟨w.heap.size + 1 + 1, 0, none⟩ v).setCell ⟨w.heap.size + 1, 0, none⟩ (.bool false))) := fun v => by
        refine ⟨⟨h.lo, ?_, (h.b.setCell (p := ⟨w.heap.size + 1 + 1, 0, none⟩) (by simp; omega) _).setCell (p := ⟨w.heap.size + 1, 0, none⟩) (by simp) _, hz0, by simp; omega⟩, (Stay.setCell _ _ (fun h' => h'.elim (fun h' => by simp only at h'; omega) (fun h' => h' (h.lo _ hz0)))).trans (.setCell _ _ (fun h' => h'.elim (fun h' => by simp only at h'; omega) (fun h' => h' (h.lo _ (by simp only; omega)))))⟩
        exact World.cell?_setCell_same _ _ _ ((World.cell?_of_block (Below.heap_setCell _ _ _ _ (by simp))).trans hr0)
      rw [e60] at hn0
      have hr1 : ∀ v, (W.setCell ⟨w.heap.size + 1 + 1, 0, none⟩ v).cell? ⟨w.heap.size + 1, 0, none⟩ = some (.bool false) := fun v => (World.cell?_of_block (Below.heap_setCell _ _ _ _ (by simp))).trans hr0
      have HR1 : Hid _ := hr1
      clear h N1 nlo hlen hok h60 e60 hl0 hr1
      gi_wp2
      exact ⟨S, ⟨rfl, (F1.out _).1⟩, fun k h => .inl h, (F1.out _).2⟩
  case done =>
    rintro D xs S W hxs h hK hD hSD
    have h3 := h.r
    have h4 := h.f
    have h5 := h.b
    have hg : Hid (decide (partsT t ≤ 60) = true) := by
      show _ = _
      have h6 := h.le
      have : xs.length = partsT t := by rw [← preT_len, ← hxs]; simp
      simp; omega
    clear h
    gi_wp2
    refine ⟨by simp, .inl ⟨_, _, rfl, run_takeDeferred (by rw [Below.heap_setCell _ _ _ _ (by simp only; omega)]; exact hK), ?_⟩⟩
    have e5 := (h5.setCell (p := ⟨w.heap.size + 1, 0, none⟩) (by simp) (.bool true))
    exact ⟨_, results_bool rfl rfl (b := true) ((World.cell?_of_block (World.putObj_heap_other (by simp only; omega))).trans (World.cell?_setCell_same _ _ _ h3)), rtB hg.out.symm, e5.trans ((Stay.putObj (S := fun k => k < w.heap.size) _ _ (by omega)).below e5.size (fun _ h => h))⟩
  case stop =>
    rintro D cd pre S W ⟨r, hpre⟩ ⟨rfl, h⟩ hK hD hSD
    have h3 := h.r
    have h5 := h.b
    have hg : Hid (decide (partsT t ≤ 60) = false) := by
      show _ = _
      have h6 := h.hit
      have : pre.length + r.length = partsT t := by rw [← preT_len, ← hpre]; simp
      simp; omega
    clear h
    gi_wp2
    refine ⟨by simp, .inl ⟨_, _, rfl, run_takeDeferred hK, ?_⟩⟩
    exact ⟨_, results_bool rfl rfl (b := false) ((World.cell?_of_block (World.putObj_heap_other (by simp only; omega))).trans h3), rtB hg.out.symm, h5.trans ((Stay.putObj (S := fun k => k < w.heap.size) W _ (by omega)).below h5.size (fun _ h => h))⟩
end Go.Proofs.YtkjlldbgooogdaaGreat

/- Whether two terms are the same, and which is before, as the program tells it. Conditions: terms of at most 4194304 parts. -/
namespace Go.Proofs.YtkjlldbgooogdaaGreat
set_option maxRecDepth 100000
open Go.RowKit

set_option maxHeartbeats 1600000 in
theorem impSame_any (N : Nat) (t u : TermD) (a a' : Option Addr) (c c' hi : Nat) (w : World) (hN : partsT t ≤ N) (hM : N ≤ 4194304) (hr : RdK w hi a t.kids) (hr' : RdK w hi a' u.kids) (hhi : hi ≤ w.heap.size) (hc : t.kids.length ≤ c) (hc' : u.kids.length ≤ c') :
    Calls Tryz.prog 11 #[.agg #[.int .i64 t.f, .int .i64 t.v, .slice a t.kids.length c], .agg #[.int .i64 u.f, .int .i64 u.v, .slice a' u.kids.length c']] w fun e w' => e = .returned (.bool (sameT t u)) ∧ Below w.heap.size w w' := by
  obtain ⟨W, hW⟩ : ∃ W, W = (w.alloc (.cells #[.int .i64 t.f, .int .i64 t.v, .slice a t.kids.length c] 27)).alloc (.cells #[.int .i64 u.f, .int .i64 u.v, .slice a' u.kids.length c'] 27) := ⟨_, rfl⟩
  have hWb : Below w.heap.size w W := by rw [hW]; exact ((Below.refl _ _).alloc (Nat.le_refl _) _).alloc (by simp) _
  have C := termOrder_any t u a a' c c' hi W (Nat.le_trans hN hM) (hr.on (hWb.mono hhi)) (hr'.on (hWb.mono hhi)) hc hc' (Nat.le_trans hhi hWb.size)
  have HE : Hid ((ordT t u == 0) = sameT t u) := by
    show _ = _
    rw [Bool.eq_iff_iff, ← ordT_same]
    simp
  clear hr hr' hc hc' hN
  generalize t.kids.length = n at *
  generalize u.kids.length = m at *
  go_enter Tryz.func11, Tryz.ntmps11
  go_wp2_with (go_at_call 30; rw [← hW]; refine C.mono ?_; rintro e w1 ⟨rfl, hb1⟩; clear C hW)
  go_ret
  exact ⟨rtB HE.out, hWb.trans (hb1.mono hWb.size)⟩

set_option maxHeartbeats 1600000 in
theorem impBef_any (N : Nat) (t u : TermD) (a a' : Option Addr) (c c' hi : Nat) (w : World) (hN : partsT t ≤ N) (hM : N ≤ 4194304) (hr : RdK w hi a t.kids) (hr' : RdK w hi a' u.kids) (hhi : hi ≤ w.heap.size) (hc : t.kids.length ≤ c) (hc' : u.kids.length ≤ c') :
    Calls Tryz.prog 21 #[.agg #[.int .i64 t.f, .int .i64 t.v, .slice a t.kids.length c], .agg #[.int .i64 u.f, .int .i64 u.v, .slice a' u.kids.length c']] w fun e w' => e = .returned (.bool (befT t u)) ∧ Below w.heap.size w w' := by
  obtain ⟨W, hW⟩ : ∃ W, W = (w.alloc (.cells #[.int .i64 t.f, .int .i64 t.v, .slice a t.kids.length c] 27)).alloc (.cells #[.int .i64 u.f, .int .i64 u.v, .slice a' u.kids.length c'] 27) := ⟨_, rfl⟩
  have hWb : Below w.heap.size w W := by rw [hW]; exact ((Below.refl _ _).alloc (Nat.le_refl _) _).alloc (by simp) _
  have C := termOrder_any t u a a' c c' hi W (Nat.le_trans hN hM) (hr.on (hWb.mono hhi)) (hr'.on (hWb.mono hhi)) hc hc' (Nat.le_trans hhi hWb.size)
  have HE : Hid (decide (ordT t u < 0) = befT t u) := ordT_bef t u
  clear hr hr' hc hc' hN
  generalize t.kids.length = n at *
  generalize u.kids.length = m at *
  go_enter Tryz.func21, Tryz.ntmps21
  go_wp2_with (go_at_call 30; rw [← hW]; refine C.mono ?_; rintro e w1 ⟨rfl, hb1⟩; clear C hW)
  go_ret
  exact ⟨rtB HE.out, hWb.trans (hb1.mono hWb.size)⟩
end Go.Proofs.YtkjlldbgooogdaaGreat

/- Weights as data. Conditions: none. -/
namespace Go.Proofs.YtkjlldbgooogdaaGreat
set_option maxRecDepth 100000
open Go.RowKit

mutual
/-- The weight. -/
def wgtT (bl : Int → Bool) : TermD → Nat
  | .mk f _ ks => (if bl f && !ks.isEmpty then ks.length - 1 else 1) + wgtL bl ks
def wgtL (bl : Int → Bool) : List TermD → Nat
  | [] => 0
  | k :: ks => wgtT bl k + wgtL bl ks
end
theorem wgtT_eq (bl : Int → Bool) (t : TermD) : wgtT bl t = (if bl t.f && !t.kids.isEmpty then t.kids.length - 1 else 1) + wgtL bl t.kids := by cases t; rw [wgtT]; rfl
theorem wgtL_append (bl : Int → Bool) (a b : List TermD) : wgtL bl (a ++ b) = wgtL bl a + wgtL bl b := by
  induction a with
  | nil => simp [wgtL]
  | cons t ts ih => simp only [List.cons_append, wgtL, ih]; omega
theorem wgtL_next (bl : Int → Bool) {ts : List TermD} {k : Nat} (h : k < ts.length) : wgtL bl (ts.take (k + 1)) = wgtL bl (ts.take k) + wgtT bl ts[k] := by
  rw [List.take_succ_eq_append_getElem h, wgtL_append]
  simp [wgtL]
mutual
theorem wgtT_pos (bl : Int → Bool) : ∀ t : TermD, 1 ≤ wgtT bl t
  | .mk f v ks => by
    have h := wgtL_pos bl ks
    rw [wgtT]
    split
    · next hb =>
      have : ks ≠ [] := by intro e; subst e; simp at hb
      have := List.length_pos_iff.2 this
      omega
    · omega
theorem wgtL_pos (bl : Int → Bool) : ∀ ks : List TermD, ks.length ≤ wgtL bl ks
  | [] => by simp
  | k :: ks => by have := wgtT_pos bl k; have := wgtL_pos bl ks; rw [wgtL, List.length_cons]; omega
end
mutual
/-- A weight is less than twice the number of parts. -/
theorem wgtT_parts (bl : Int → Bool) : ∀ t : TermD, wgtT bl t + 1 ≤ 2 * partsT t
  | .mk f v ks => by
    have h := wgtL_parts bl ks
    rw [wgtT, partsT]
    split <;> omega
theorem wgtL_parts (bl : Int → Bool) : ∀ ks : List TermD, wgtL bl ks + ks.length ≤ 2 * partsL ks
  | [] => by simp [wgtL, partsL]
  | k :: ks => by have := wgtT_parts bl k; have := wgtL_parts bl ks; rw [wgtL, partsL, List.length_cons]; omega
end
end Go.Proofs.YtkjlldbgooogdaaGreat

/- Right terms, weights, and terms that are made, as data; what a right term's form and weight are. Conditions: none. -/
namespace Go.Proofs.YtkjlldbgooogdaaGreat
set_option maxRecDepth 100000
open Go.RowKit

/-- Before the one ahead of it, if there is one. -/
def befO (k : TermD) : Option TermD → Bool
  | some q => befT k q
  | none => false
mutual
/-- Right, of any size. -/
def rightT (ss : List SymD) : TermD → Bool
  | .mk f v ks => if f = -1 then decide (0 ≤ v ∧ v ≤ 99) && ks.isEmpty
    else decide (0 ≤ f ∧ f < ss.length) && v == 0 && (if blindAt ss f then decide (2 ≤ ks.length) else (ks.length : Int) == arityAt ss f) && rightL ss f none ks
/-- The Kids, the one ahead of them known. -/
def rightL (ss : List SymD) (f : Int) : Option TermD → List TermD → Bool
  | _, [] => true
  | p, k :: ks => !(blindAt ss f && (k.f == f || befO k p)) && rightT ss k && rightL ss f (some k) ks
end
theorem rightT_eq (ss : List SymD) (t : TermD) : rightT ss t = if t.f = -1 then decide (0 ≤ t.v ∧ t.v ≤ 99) && t.kids.isEmpty
    else decide (0 ≤ t.f ∧ t.f < ss.length) && t.v == 0 && (if blindAt ss t.f then decide (2 ≤ t.kids.length) else (t.kids.length : Int) == arityAt ss t.f) && rightL ss t.f none t.kids := by
  cases t; rw [rightT]; rfl
theorem rightL_all (ss : List SymD) (f : Int) : ∀ (ks : List TermD) (p : Option TermD), rightL ss f p ks = true → ∀ k ∈ ks, rightT ss k = true ∧ (blindAt ss f = true → k.f ≠ f)
  | [], _, _ => by simp
  | x :: xs, p, h => by
    rw [rightL, Bool.and_eq_true, Bool.and_eq_true] at h
    intro k hk
    rcases List.mem_cons.1 hk with rfl | hk
    · refine ⟨h.1.2, fun hb e => ?_⟩
      have := h.1.1
      rw [hb, e] at this
      simp at this
    · exact rightL_all ss f xs (some x) h.2 k hk
theorem rightL_from (ss : List SymD) (f : Int) (hb : blindAt ss f = true) : ∀ (ks : List TermD) (q : TermD), rightL ss f (some q) ks = true → (q :: ks).Pairwise leT
  | [], q, _ => by simp
  | x :: xs, q, h => by
    rw [rightL, Bool.and_eq_true, Bool.and_eq_true] at h
    have h0 : leT q x := by
      rw [← befT_leT]
      have := h.1.1
      rw [hb] at this
      simp only [Bool.true_and, Bool.not_eq_true', Bool.or_eq_false_iff] at this
      exact this.2
    have h1 := rightL_from ss f hb xs x h.2
    refine List.Pairwise.cons (fun y hy => ?_) h1
    rcases List.mem_cons.1 hy with rfl | hy
    · exact h0
    · exact leT_trans h0 ((List.pairwise_cons.1 h1).1 y hy)
theorem rightL_sorted (ss : List SymD) (f : Int) (hb : blindAt ss f = true) (ks : List TermD) (h : rightL ss f none ks = true) : ks.Pairwise leT := by
  cases ks with
  | nil => exact .nil
  | cons x xs =>
    rw [rightL, Bool.and_eq_true] at h
    exact rightL_from ss f hb xs x h.2
theorem right_isN (ss : List SymD) : ∀ (n : Nat) (t : TermD), partsT t ≤ n → rightT ss t = true → IsN (blindAt ss) t := by
  intro n
  induction n with
  | zero => intro t h; rw [partsT_eq] at h; omega
  | succ n ih =>
    intro t hn h
    rw [partsT_eq] at hn
    rw [rightT_eq] at h
    split at h
    · simp only [Bool.and_eq_true, List.isEmpty_iff] at h
      exact .mk t (by simp [h.2]) (fun _ => by simp [h.2])
    · simp only [Bool.and_eq_true] at h
      have ha := rightL_all ss t.f t.kids none h.2
      exact .mk t (fun k hk => ih k (by have := parts_kid hk; omega) (ha k hk).1) (fun hb => ⟨rightL_sorted ss t.f hb t.kids h.2, fun k hk => (ha k hk).2 hb⟩)
/-- One form of what is right is it. -/
theorem right_self (ss : List SymD) {t : TermD} (h : rightT ss t = true) : normT (blindAt ss) t = t := normT_self _ (right_isN ss _ t (Nat.le_refl _) h)


/-- A term that is made of a function and Kids. -/
def makeT (ss : List SymD) (f : Int) (ks : List TermD) : TermD :=
  if blindAt ss f = true ∧ ks = [] then .mk 0 0 []
  else if blindAt ss f = true ∧ ks.length = 1 then normT (blindAt ss) (ks.headD (.mk 0 0 []))
  else if ¬ (0 ≤ f ∧ f < ss.length) then .mk f 0 ks
  else normT (blindAt ss) (.mk f 0 ks)
theorem blindAt_lt {ss : List SymD} {f : Int} (h : blindAt ss f = true) : 0 ≤ f ∧ f < ss.length := by
  unfold blindAt at h
  split at h
  · next h0 =>
    refine ⟨h0, ?_⟩
    by_cases hl : f.toNat < ss.length
    · omega
    · rw [List.getElem?_eq_none (by omega)] at h; cases h
  · cases h
theorem makeT_blind {ss : List SymD} {f : Int} (h : blindAt ss f = true) {ks : List TermD} (hl : 2 ≤ ks.length) : makeT ss f ks = normT (blindAt ss) (.mk f 0 ks) := by
  unfold makeT
  rw [if_neg (by rintro ⟨_, rfl⟩; simp at hl), if_neg (by rintro ⟨_, e⟩; omega), if_neg (by simpa using blindAt_lt h)]
/-- In any order. -/
theorem makeT_perm {ss : List SymD} {f : Int} (h : blindAt ss f = true) {us bs : List TermD} (hl : 2 ≤ us.length) (hp : us.Perm bs) : makeT ss f us = makeT ss f bs := by
  rw [makeT_blind h hl, makeT_blind h (by rw [← hp.length_eq]; exact hl)]
  exact normT_perm _ h hp
/-- In brackets. -/
theorem makeT_in {ss : List SymD} {f : Int} (h : blindAt ss f = true) {us bs : List TermD} (ha : 2 ≤ us.length) (hb : 1 ≤ bs.length) : makeT ss f (makeT ss f us :: bs) = makeT ss f (us ++ bs) := by
  rw [makeT_blind h (by simp; omega), makeT_blind h ha, makeT_blind h (by simp; omega)]
  exact normT_in _ h us bs
end Go.Proofs.YtkjlldbgooogdaaGreat

