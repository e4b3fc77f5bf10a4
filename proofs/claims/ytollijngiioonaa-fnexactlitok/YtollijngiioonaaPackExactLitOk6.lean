/- What the proof of FnExactLitOk stands on, part 6 of 6: each piece says what it proves and under which conditions. Conditions: as each piece says. -/
import Derived.Test.YtollijngiioonaaPackExactLitOk5
/- Whether a term is right, as the program tells it. Conditions: terms of at most 549755813888 parts. -/
namespace Go.Proofs.Ytollijngiioonaa
set_option maxRecDepth 100000
open Go.RowKit Go.Shelf
attribute [local go_sem] Oper.semAt_some

/-- Right. -/
def tokT (ss : List SymD) (t : TermD) : Bool := sigOk ss && decide (partsT t ≤ 60) && rightT ss t

mutual
theorem parts_pre : ∀ (t x : TermD), x ∈ preT t → partsT x ≤ partsT t
  | .mk f v ks, x, h => by
    rw [preT] at h
    rcases List.mem_cons.1 h with rfl | h
    · exact Nat.le_refl _
    · have := parts_preL ks x h; rw [partsT]; omega
theorem parts_preL : ∀ (ts : List TermD) (x : TermD), x ∈ preL ts → partsT x ≤ partsL ts
  | [], x, h => by simp [preL] at h
  | t :: ts, x, h => by
    rw [preL] at h
    rcases List.mem_append.1 h with h | h
    · have := parts_pre t x h; rw [partsL]; omega
    · have := parts_preL ts x h; rw [partsL]; omega
end

/-- What the loop holds between two rounds. -/
structure TInv (w W0 : World) (sa : Option Addr) (ss : List SymD) (sc : Nat) (pre : List El) (S : Nat → Prop) (W : World) : Prop where
  lo : ∀ k, k < W0.heap.size → S k
  hi : ∀ k, S k → k < W.heap.size
  r : W.cell? ⟨w.heap.size + 1 + 1, 0, none⟩ = some (.bool false)
  f : W.frozen? ⟨w.heap.size + 1 + 1, 0, none⟩ = false
  s : W.cell? ⟨w.heap.size, 0, none⟩ = some (.slice sa ss.length sc)
  b : Below w.heap.size w W
  z : w.heap.size + 1 + 1 < W0.heap.size
  ok : ∀ x ∈ pre, pOk ss x.t = true
theorem TInv.stay {w W0 A B : World} {sa : Option Addr} {ss : List SymD} {sc : Nat} {pre : List El} {S : Nat → Prop} (h : TInv w W0 sa ss sc pre S A) (hs : Stay S A B) : TInv w W0 sa ss sc pre S B := by
  have hz := h.z
  exact ⟨h.lo, fun k hk => Nat.lt_of_lt_of_le (h.hi k hk) hs.size, hs.cell h.r (h.lo _ hz), (hs.frozen (World.block_lt_of_cell? _ _ h.r) (h.lo _ hz)).trans h.f, hs.cell h.s (h.lo _ (by simp only; omega)), h.b.trans (hs.below h.b.size (fun k hk => h.lo k (by omega))), hz, h.ok⟩
theorem TInv.more {w W0 A : World} {sa : Option Addr} {ss : List SymD} {sc : Nat} {pre : List El} {S S' : Nat → Prop} (h : TInv w W0 sa ss sc pre S A) (hs : ∀ k, S k → S' k) (ht : ∀ k, S' k → k < A.heap.size) : TInv w W0 sa ss sc pre S' A :=
  ⟨fun k hk => hs k (h.lo k hk), ht, h.r, h.f, h.s, h.b, h.z, h.ok⟩
/-- What is left where a part is not right. -/
structure TOut (w W0 : World) (ss : List SymD) (pre : List El) (S : Nat → Prop) (W : World) : Prop where
  lo : ∀ k, k < W0.heap.size → S k
  r : W.cell? ⟨w.heap.size + 1 + 1, 0, none⟩ = some (.bool false)
  b : Below w.heap.size w W
  z : w.heap.size + 1 + 1 < W0.heap.size
  hit : ∃ x ∈ pre, pOk ss x.t = false
theorem TOut.stay {w W0 A B : World} {ss : List SymD} {pre : List El} {S : Nat → Prop} (h : TOut w W0 ss pre S A) (hs : Stay S A B) : TOut w W0 ss pre S B := by
  have hz := h.z
  exact ⟨h.lo, hs.cell h.r (h.lo _ hz), h.b.trans (hs.below h.b.size (fun k hk => h.lo k (by omega))), hz, h.hit⟩

set_option maxHeartbeats 3200000 in
theorem impTermOk_any (sa : Option Addr) (ss : List SymD) (sc : Nat) (hsz : ∀ s ∈ ss, s.name.size ≤ maxLen) (t : TermD) (a : Option Addr) (c hi : Nat) (w : World) (hs : RdS w sa ss) (hp : partsT t ≤ 549755813888) (hr : RdK w hi a t.kids) (hhi : hi ≤ w.heap.size) (hc : t.kids.length ≤ c) :
    Calls Try.prog 63 #[.slice sa ss.length sc, .agg #[.int .i64 t.f, .int .i64 t.v, .slice a t.kids.length c]] w fun e w' => e = .returned (.bool (tokT ss t)) ∧ Below w.heap.size w w' := by
  refine (callsIn_wide (n := 5)).1 ?_
  refine callsIn_of_wp_marks Try.func63 rfl trivial ?_ rfl
  simp only [Try.ntmps63, List.size_toArray, List.length_cons, List.length_nil, Nat.reduceAdd, Nat.reduceSub, Array.replicate_succ, Array.replicate_zero, List.push_toArray, List.append_toArray, List.nil_append, List.cons_append]
  obtain ⟨W1, hW1⟩ : ∃ W1, W1 = ((w.alloc (.cells #[.slice sa ss.length sc] 24)).alloc (.cells #[.int .i64 t.f, .int .i64 t.v, .slice a t.kids.length c] 27)).alloc (.cells #[.bool false] 4) := ⟨_, rfl⟩
  have hB1 : Below w.heap.size w W1 := by rw [hW1]; exact (((Below.refl _ _).alloc (Nat.le_refl _) _).alloc (by simp) _).alloc (by simp; omega) _
  have hz1 : W1.heap.size = w.heap.size + 1 + 1 + 1 := by rw [hW1]; simp
  have s1 : W1.cell? ⟨w.heap.size, 0, none⟩ = some (.slice sa ss.length sc) := by rw [hW1]; simp [go_sem]
  have x0 : W1.cell? ⟨w.heap.size + 1, 0, none⟩ = some (.int .i64 t.f) := by rw [hW1]; simp [go_sem]
  have x1 : W1.cell? ⟨w.heap.size + 1, 1, none⟩ = some (.int .i64 t.v) := by rw [hW1]; simp [go_sem]
  have x2 : W1.cell? ⟨w.heap.size + 1, 2, none⟩ = some (.slice a t.kids.length c) := by rw [hW1]; simp [go_sem]
  have r1 : W1.cell? ⟨w.heap.size + 1 + 1, 0, none⟩ = some (.bool false) := by rw [hW1]; simp [go_sem]
  have f1 : W1.frozen? ⟨w.heap.size + 1 + 1, 0, none⟩ = false := by rw [hW1]; simp [go_sem]
  have CS := impSigOk_any sa ss ss.length sc W1 rfl (hs.below hB1) hsz
  have CF := fun W' (h : Below W1.heap.size W1 W') => fewParts_any t a c hi W' hp (hr.on ((hB1.trans (h.mono hB1.size)).mono hhi)) (Nat.le_trans hhi (Nat.le_trans hB1.size h.size)) hc
  cases hsg : sigOk ss with
  | false =>
    rw [hsg] at CS
    have HT : Hid (tokT ss t = false) := by show _ = _; unfold tokT; rw [hsg]; rfl
    clear hsg CF
    gi_wp2_with (first
      | (refine ⟨trivial, ?_⟩; gi_at_call 77; rw [← hW1]; refine (callsIn_wide.2 CS).mono ?_; rintro e w2 ⟨rfl, hb2⟩; have r2 := keepC hb2 r1; have f2 := (hb2.frozen (p := ⟨w.heap.size + 1 + 1, 0, none⟩) (World.block_lt_of_cell? _ _ r1)).trans f1; have s2 := keepC hb2 s1; have y0 := keepC hb2 x0; have y1 := keepC hb2 x1; have y2 := keepC hb2 x2; have hB2 : Below w.heap.size w w2 := hB1.trans (hb2.mono hB1.size); clear CS hW1 r1 f1 s1 x0 x1 x2)
      | (refine ⟨trivial, ?_⟩))
    exact ⟨_, results_bool rfl rfl (b := false) (World.cell?_setCell_same _ _ _ r2), rtB HT.out.symm, hB2.setCell (p := ⟨w.heap.size + 1 + 1, 0, none⟩) (by simp; omega) _⟩
  | true =>
    rw [hsg] at CS
    by_cases h60 : partsT t ≤ 60
    · rw [decide_eq_true h60] at CF
      have HT : Hid (tokT ss t = (preT t).all (pOk ss)) := by show _ = _; unfold tokT; rw [hsg, decide_eq_true h60, right_pre]; simp
      clear hsg
      gi_wp2_with (first
        | (refine ⟨trivial, ?_⟩; gi_at_call 77; rw [← hW1]; refine (callsIn_wide.2 CS).mono ?_; rintro e w2 ⟨rfl, hb2⟩; have r2 := keepC hb2 r1; have f2 := (hb2.frozen (p := ⟨w.heap.size + 1 + 1, 0, none⟩) (World.block_lt_of_cell? _ _ r1)).trans f1; have s2 := keepC hb2 s1; have y0 := keepC hb2 x0; have y1 := keepC hb2 x1; have y2 := keepC hb2 x2; have hB2 : Below w.heap.size w w2 := hB1.trans (hb2.mono hB1.size); clear CS hW1 r1 f1 s1 x0 x1 x2)
        | (refine ⟨trivial, ?_⟩; gi_at_call 78; refine (callsIn_wide.2 (CF _ hb2)).mono ?_; rintro e w3 ⟨rfl, hb3⟩; have r3 := keepC hb3 r2; have f3 := (hb3.frozen (p := ⟨w.heap.size + 1 + 1, 0, none⟩) (World.block_lt_of_cell? _ _ r2)).trans f2; have s3 := keepC hb3 s2; have z0 := keepC hb3 y0; have z1 := keepC hb3 y1; have z2 := keepC hb3 y2; have hB3 : Below w.heap.size w w3 := hB2.trans (hb3.mono hB2.size); have hz3 : w.heap.size + 1 + 1 < w3.heap.size := World.block_lt_of_cell? _ _ r3; clear CF r2 f2 s2 y0 y1 y2 hb2 hb3 hB2)
        | (refine ⟨trivial, ?_⟩; gi_at_call 79; refine (callsIn_wide.2 (within_any t a c _)).mono ?_; rintro e w' ⟨rfl, rfl⟩))
      obtain ⟨W0, hW0⟩ : ∃ W0, W0 = w3.alloc (.cells #[.int .i64 t.f, .int .i64 t.v, .slice a t.kids.length c] 27) := ⟨_, rfl⟩
      have hb0 : Below w3.heap.size w3 W0 := by rw [hW0]; exact (Below.refl _ _).alloc (Nat.le_refl _) _
      have hB0 : Below w.heap.size w W0 := hB3.trans (hb0.mono hB3.size)
      have hz : W0.heap.size = w3.heap.size + 1 := by rw [hW0]; simp
      have t0 : W0.cell? ⟨w3.heap.size, 0, none⟩ = some (.int .i64 t.f) := by rw [hW0]; simp [go_sem]
      have t1 : W0.cell? ⟨w3.heap.size, 1, none⟩ = some (.int .i64 t.v) := by rw [hW0]; simp [go_sem]
      have t2 : W0.cell? ⟨w3.heap.size, 2, none⟩ = some (.slice a t.kids.length c) := by rw [hW0]; simp [go_sem]
      have r0 := keepC hb0 r3
      have f0 := (hb0.frozen (p := ⟨w.heap.size + 1 + 1, 0, none⟩) (World.block_lt_of_cell? _ _ r3)).trans f3
      have s0 := keepC hb0 s3
      rw [← hW0]
      clear hW0 r3 f3 s3 z0 z1 z2
      refine wpIn_rangeFunc_priv rfl (by omega) (gf := 94) (lb := #[.pointer (some ⟨w3.heap.size, 0, none⟩)]) rfl trivial (enters_of Try.func94 (by kernel_rfl) rfl)
        (within_seq Fence.wide 4 trivial rfl (by omega) W0 t a c hi w.heap.size w3.heap.size hp hc (hr.on (hB0.mono hhi)) hhi hB0.size t0 t1 t2) hB0.size (Below.refl _ _) (fun _ => rfl)
        (fun pre S W => TInv w W0 sa ss sc pre S W) (fun cd pre S W => cd = .ret ∧ TOut w W0 ss pre S W) (fun pre S A B h hs => h.stay hs)
        (fun _ _ _ _ _ h hs => ⟨h.1, h.2.stay hs⟩) (fun pre S A h => h.hi) (fun k => k < W0.heap.size) (fun _ h => h) ⟨fun _ h => h, fun _ h => h, r0, f0, s0, hB0, by omega, by simp⟩
        (fun pre x S a₁ W => TInv w W0 sa ss sc pre S W ∧ ∃ Bx, BoxEl x Bx S W ∧ a₁ = { tmps := #[.slice sa ss.length sc, .agg #[.int .i64 t.f, .int .i64 t.v, .slice a t.kids.length c], .pointer (some ⟨w.heap.size, 0, none⟩), .pointer (some ⟨w.heap.size + 1, 0, none⟩), .pointer (some ⟨w.heap.size + 1 + 1, 0, none⟩), .pointer (some ⟨Bx, 0, none⟩), .slice sa ss.length sc, .bool true, .bool false, .bool false, .agg #[.int .i64 t.f, .int .i64 t.v, .slice a t.kids.length c], .bool true, .bool false, .bool false, .agg #[.int .i64 t.f, .int .i64 t.v, .slice a t.kids.length c], .func (.func 94) #[] #[.pointer (some ⟨w3.heap.size, 0, none⟩)], .agg #[.int .i64 x.t.f, .int .i64 x.t.v, .slice x.a x.t.kids.length x.c], undef, undef, undef, undef], defers := [] })
        (fun pre x S a₁ A B h hs => by
          obtain ⟨h1, Bx, h2, h3⟩ := h
          exact ⟨h1.stay hs, Bx, h2.stay hs, h3⟩)
        ?assign ?body ?done ?stop
      case assign =>
        intro l pre x S W K hi hlen hok hK
        dsimp only [El.enc]
        gi_wp2
        refine hK _ (fun k => S k ∨ k = W.heap.size) _ ⟨(hi.stay (.alloc _ _ _)).more (fun _ h => .inl h) (fun k h => h.elim (fun h => by have := hi.hi k h; simp; omega) (fun e => by simp; omega)), W.heap.size, ⟨.inr rfl, ?_, ?_, ?_⟩, by simp⟩ (fun k h => h.imp id (fun e => by omega)) (.alloc _ _ _)
        all_goals simp [go_sem]
      case body =>
        rintro l pre x S a₁ W ⟨h, Bx, hx, rfl⟩ hlen hok
        obtain ⟨⟨rr, hpre⟩, hkr, _⟩ := hok
        have hpx : partsL x.t.kids ≤ 549755813888 := by
          have h1 := parts_pre t x.t (by rw [← hpre]; simp)
          have h2 := partsT_eq x.t
          omega
        have C := partOk_any sa ss sc x.t x.a x.c w.heap.size W (hs.below h.b) hpx ((hkr.back (fun k hk => hB0.block k hk)).on h.b) h.b.size
        have x0 := hx.c0
        have x1 := hx.c1
        have x2 := hx.c2
        have hr0 := h.r
        have hf0 := h.f
        have hs0 := h.s
        have hzz := h.z
        cases hvb : pOk ss x.t with
        | true =>
          rw [hvb] at C
          have F0 : Hid (∀ w1, Below W.heap.size W w1 → TInv w W0 sa ss sc (pre ++ [x]) S w1 ∧ Stay (fun k => k < w.heap.size ∨ ¬ S k) W w1) := fun w1 hb => by
            have h1 := h.stay (.of_below hb (fun _ hk _ => hk))
            refine ⟨⟨h1.lo, h1.hi, h1.r, h1.f, h1.s, h1.b, h1.z, fun y hy => ?_⟩, .of_below hb (fun _ hk _ => hk)⟩
            rcases List.mem_append.1 hy with hy | hy
            · exact h1.ok y hy
            · simp only [List.mem_singleton] at hy; subst hy; exact hvb
          clear h hx hvb hkr hpre
          gi_wp2_with (refine ⟨trivial, ?_⟩; gi_at_call 80; refine (CallsIn.inRound l (callsIn_wide.2 C)).mono ?_; rintro e w1 ⟨rfl, hb1⟩; clear C)
          obtain ⟨q1, q2⟩ := F0.out w1 hb1
          exact ⟨S, q1, fun k h => .inl h, q2⟩
        | false =>
          rw [hvb] at C
          have F1 : Hid (∀ w1, Below W.heap.size W w1 → TOut w W0 ss (pre ++ [x]) S (w1.setCell ⟨w.heap.size + 1 + 1, 0, none⟩ (.bool false)) ∧ Stay (fun k => k < w.heap.size ∨ ¬ S k) W (w1.setCell ⟨w.heap.size + 1 + 1, 0, none⟩ (.bool false))) := fun w1 hb => by
            have h1 := h.stay (.of_below hb (fun _ hk _ => hk))
            refine ⟨⟨h1.lo, ?_, h1.b.setCell (p := ⟨w.heap.size + 1 + 1, 0, none⟩) (by simp; omega) _, h1.z, x, by simp, hvb⟩, (Stay.of_below hb (fun _ hk _ => hk)).trans (.setCell _ _ (fun h => h.elim (fun h => by simp only at h; omega) (fun h' => h' (h1.lo _ h1.z))))⟩
            exact World.cell?_setCell_same _ _ _ h1.r
          clear h hx hvb hkr hpre
          gi_wp2_with (refine ⟨trivial, ?_⟩; gi_at_call 80; refine (CallsIn.inRound l (callsIn_wide.2 C)).mono ?_; rintro e w1 ⟨rfl, hb1⟩; clear C; have hr0 := keepC hb1 hr0; have hf0 := (hb1.frozen (p := ⟨w.heap.size + 1 + 1, 0, none⟩) (World.block_lt_of_cell? _ _ ‹W.cell? ⟨w.heap.size + 1 + 1, 0, none⟩ = _›)).trans hf0)
          obtain ⟨q1, q2⟩ := F1.out w1 hb1
          exact ⟨S, ⟨rfl, q1⟩, fun k h => .inl h, q2⟩
      case done =>
        rintro D xs S W hxs h hK hD hSD
        have h3 := h.r
        have h4 := h.f
        have h5 := h.b
        have hg : Hid (tokT ss t = true) := by
          show _ = _
          rw [HT.out, List.all_eq_true]
          intro x hx
          rw [← hxs] at hx
          obtain ⟨y, hy, rfl⟩ := List.mem_map.1 hx
          exact h.ok y hy
        clear h
        gi_wp2
        refine ⟨by simp, .inl ⟨_, _, rfl, run_takeDeferred (by rw [Below.heap_setCell _ _ _ _ (by simp only; omega)]; exact hK), ?_⟩⟩
        have e5 := (h5.setCell (p := ⟨w.heap.size + 1 + 1, 0, none⟩) (by simp; omega) (.bool true))
        exact ⟨_, results_bool rfl rfl (b := true) ((World.cell?_of_block (World.putObj_heap_other (by simp only; omega))).trans (World.cell?_setCell_same _ _ _ h3)), rtB hg.out.symm, e5.trans ((Stay.putObj (S := fun k => k < w.heap.size) _ _ (by omega)).below e5.size (fun _ h => h))⟩
      case stop =>
        rintro D cd pre S W ⟨rr, hpre⟩ ⟨rfl, h⟩ hK hD hSD
        have h3 := h.r
        have h5 := h.b
        have hg : Hid (tokT ss t = false) := by
          obtain ⟨x, hx, hv⟩ := h.hit
          show _ = _
          rw [HT.out, List.all_eq_false]
          exact ⟨x.t, by rw [← hpre]; exact List.mem_append_left _ (List.mem_map_of_mem hx), by simp [hv]⟩
        clear h
        gi_wp2
        refine ⟨by simp, .inl ⟨_, _, rfl, run_takeDeferred hK, ?_⟩⟩
        exact ⟨_, results_bool rfl rfl (b := false) ((World.cell?_of_block (World.putObj_heap_other (by simp only; omega))).trans h3), rtB hg.out.symm, h5.trans ((Stay.putObj (S := fun k => k < w.heap.size) W _ (by omega)).below h5.size (fun _ h => h))⟩
    · rw [decide_eq_false h60] at CF
      have HT : Hid (tokT ss t = false) := by show _ = _; unfold tokT; rw [decide_eq_false h60]; simp
      clear hsg
      gi_wp2_with (first
        | (refine ⟨trivial, ?_⟩; gi_at_call 77; rw [← hW1]; refine (callsIn_wide.2 CS).mono ?_; rintro e w2 ⟨rfl, hb2⟩; have r2 := keepC hb2 r1; have f2 := (hb2.frozen (p := ⟨w.heap.size + 1 + 1, 0, none⟩) (World.block_lt_of_cell? _ _ r1)).trans f1; have s2 := keepC hb2 s1; have y0 := keepC hb2 x0; have y1 := keepC hb2 x1; have y2 := keepC hb2 x2; have hB2 : Below w.heap.size w w2 := hB1.trans (hb2.mono hB1.size); clear CS hW1 r1 f1 s1 x0 x1 x2)
        | (refine ⟨trivial, ?_⟩; gi_at_call 78; refine (callsIn_wide.2 (CF _ hb2)).mono ?_; rintro e w3 ⟨rfl, hb3⟩; have r3 := keepC hb3 r2; have f3 := (hb3.frozen (p := ⟨w.heap.size + 1 + 1, 0, none⟩) (World.block_lt_of_cell? _ _ r2)).trans f2; have s3 := keepC hb3 s2; have z0 := keepC hb3 y0; have z1 := keepC hb3 y1; have z2 := keepC hb3 y2; have hB3 : Below w.heap.size w w3 := hB2.trans (hb3.mono hB2.size); have hz3 : w.heap.size + 1 + 1 < w3.heap.size := World.block_lt_of_cell? _ _ r3; clear CF r2 f2 s2 y0 y1 y2 hb2 hb3 hB2))
      exact ⟨_, results_bool rfl rfl (b := false) (World.cell?_setCell_same _ _ _ r3), rtB HT.out.symm, hB3.setCell (p := ⟨w.heap.size + 1 + 1, 0, none⟩) (by simp; omega) _⟩
theorem impTermOk_all (sa : Option Addr) (ss : List SymD) (sc : Nat) (hsz : ∀ s ∈ ss, s.name.size ≤ maxLen) (t : TermD) (a : Option Addr) (c hi : Nat) (w : World) (hs : RdS w sa ss) (hp : partsT t ≤ 549755813888) (hr : RdK w hi a t.kids) (hhi : hi ≤ w.heap.size) (hc : t.kids.length ≤ c) :
    Calls Try.prog 63 #[.slice sa ss.length sc, .agg #[.int .i64 t.f, .int .i64 t.v, .slice a t.kids.length c]] w fun e w' => e = .returned (.bool (sigOk ss && decide (partsT t ≤ 60) && rightT ss t)) ∧ Below w.heap.size w w' :=
  impTermOk_any sa ss sc hsz t a c hi w hs hp hr hhi hc
end Go.Proofs.Ytollijngiioonaa

/- Which equation is right, as the program tells. Conditions: at most 549755813888 parts; capacities that hold the lists. -/
namespace Go.Proofs.Ytollijngiioonaa
set_option maxRecDepth 100000
open Go.RowKit

set_option maxHeartbeats 1600000 in
theorem impLitOk_any (sa : Option Addr) (ss : List SymD) (sc : Nat) (x : LitD) (a1 a2 : Option Addr) (c1 c2 hi : Nat) (w : World) (_ : ss.length ≤ 1048577) (hnm : ∀ s ∈ ss, s.name.size ≤ 1048576) (hs : RdS w sa ss) (_ : isW x.l.f) (_ : isW x.r.f) (hp1 : partsT x.l ≤ 549755813888) (hp2 : partsT x.r ≤ 549755813888) (hx1 : RdK w hi a1 x.l.kids) (hx2 : RdK w hi a2 x.r.kids) (hhi : hi ≤ w.heap.size) (hc1 : x.l.kids.length ≤ c1) (hc2 : x.r.kids.length ≤ c2) :
    Calls Try.prog 31 #[.slice sa ss.length sc, litV x a1 c1 a2 c2] w fun e w' => e = .returned (.bool (okX ss x)) ∧ Below w.heap.size w w' := by
  unfold litV
  obtain ⟨W, hW⟩ : ∃ W, W = w.alloc (.cells #[.bool x.p, .int .i64 x.l.f, .int .i64 x.l.v, .slice a1 x.l.kids.length c1, .int .i64 x.r.f, .int .i64 x.r.v, .slice a2 x.r.kids.length c2] 43) := ⟨_, rfl⟩
  have h0 : Below w.heap.size w W := by rw [hW]; exact (Below.refl _ _).alloc (Nat.le_refl _) _
  have p0 : W.cell? ⟨w.heap.size, 0, none⟩ = some (.bool x.p) := by rw [hW]; simp [go_sem]
  have p1 : W.cell? ⟨w.heap.size, 1, none⟩ = some (.int .i64 x.l.f) := by rw [hW]; simp [go_sem]
  have p2 : W.cell? ⟨w.heap.size, 2, none⟩ = some (.int .i64 x.l.v) := by rw [hW]; simp [go_sem]
  have p3 : W.cell? ⟨w.heap.size, 3, none⟩ = some (.slice a1 x.l.kids.length c1) := by rw [hW]; simp [go_sem]
  have p4 : W.cell? ⟨w.heap.size, 4, none⟩ = some (.int .i64 x.r.f) := by rw [hW]; simp [go_sem]
  have p5 : W.cell? ⟨w.heap.size, 5, none⟩ = some (.int .i64 x.r.v) := by rw [hW]; simp [go_sem]
  have p6 : W.cell? ⟨w.heap.size, 6, none⟩ = some (.slice a2 x.r.kids.length c2) := by rw [hW]; simp [go_sem]
  have E1 := impTermOk_all sa ss sc (fun s hs => Nat.le_trans (hnm s hs) (by unfold maxLen; omega)) x.l a1 c1 hi W (hs.below h0) hp1 (hx1.on (h0.mono hhi)) (Nat.le_trans hhi h0.size) hc1
  have E2 := fun (W' : World) (h : Below w.heap.size w W') => impTermOk_all sa ss sc (fun s hs => Nat.le_trans (hnm s hs) (by unfold maxLen; omega)) x.r a2 c2 hi W' (hs.below h) hp2 (hx2.on (h.mono hhi)) (Nat.le_trans hhi h.size) hc2
  have E3 := fun (W' : World) (h : Below w.heap.size w W') => impBef_any (partsT x.l) x.l x.r a1 a2 c1 c2 hi W' (Nat.le_refl _) hp1 (hx1.on (h.mono hhi)) (hx2.on (h.mono hhi)) (Nat.le_trans hhi h.size) hc1 hc2
  have HS : Hid (okX ss x = ((sigOk ss && decide (partsT x.l ≤ 60) && rightT ss x.l) && (sigOk ss && decide (partsT x.r ≤ 60) && rightT ss x.r) && !befT x.l x.r)) := rfl
  clear hx1 hx2 hp1 hp2 hs hnm hc1 hc2
  generalize (sigOk ss && decide (partsT x.l ≤ 60) && rightT ss x.l) = s1 at E1 HS
  generalize (sigOk ss && decide (partsT x.r ≤ 60) && rightT ss x.r) = s2 at E2 HS
  generalize befT x.l x.r = s3 at E3 HS
  cases s1
  · have HF : Hid (okX ss x = false) := HS.out.trans rfl
    clear HS E2 E3
    go_enter Try.func31, Try.ntmps31
    go_wp2_with (go_at_call_of 63 a1; rw [← hW]; clear hW; refine E1.mono ?_; rintro e w1 ⟨rfl, hb1⟩; have hB1 := h0.trans (hb1.mono h0.size); have p0' := keepC hb1 p0; have p1' := keepC hb1 p1; have p2' := keepC hb1 p2; have p3' := keepC hb1 p3; have p4' := keepC hb1 p4; have p5' := keepC hb1 p5; have p6' := keepC hb1 p6; clear p0 p1 p2 p3 p4 p5 p6; have p0 := p0'; have p1 := p1'; have p2 := p2'; have p3 := p3'; have p4 := p4'; have p5 := p5'; have p6 := p6'; clear p0' p1' p2' p3' p4' p5' p6'; clear hb1)
    go_ret
    exact ⟨rtB HF.out.symm, hB1⟩
  · cases s2
    · have HF : Hid (okX ss x = false) := HS.out.trans rfl
      clear HS E3
      go_enter Try.func31, Try.ntmps31
      go_wp2_with (first
        | (go_at_call_of 63 a1; rw [← hW]; clear hW; refine E1.mono ?_; rintro e w1 ⟨rfl, hb1⟩; have hB1 := h0.trans (hb1.mono h0.size); have p0' := keepC hb1 p0; have p1' := keepC hb1 p1; have p2' := keepC hb1 p2; have p3' := keepC hb1 p3; have p4' := keepC hb1 p4; have p5' := keepC hb1 p5; have p6' := keepC hb1 p6; clear p0 p1 p2 p3 p4 p5 p6; have p0 := p0'; have p1 := p1'; have p2 := p2'; have p3 := p3'; have p4 := p4'; have p5 := p5'; have p6 := p6'; clear p0' p1' p2' p3' p4' p5' p6'; clear hb1)
        | (go_at_call_of 63 a2; refine (E2 w1 hB1).mono ?_; rintro e w2 ⟨rfl, hb2⟩; have hB2 := hB1.trans (hb2.mono hB1.size); have p0' := keepC hb2 p0; have p1' := keepC hb2 p1; have p2' := keepC hb2 p2; have p3' := keepC hb2 p3; have p4' := keepC hb2 p4; have p5' := keepC hb2 p5; have p6' := keepC hb2 p6; clear p0 p1 p2 p3 p4 p5 p6; have p0 := p0'; have p1 := p1'; have p2 := p2'; have p3 := p3'; have p4 := p4'; have p5 := p5'; have p6 := p6'; clear p0' p1' p2' p3' p4' p5' p6'; clear hb2))
      go_ret
      exact ⟨rtB HF.out.symm, hB2⟩
    · have HF : Hid (okX ss x = !s3) := HS.out.trans (by simp)
      clear HS
      go_enter Try.func31, Try.ntmps31
      go_wp2_with (first
        | (go_at_call_of 63 a1; rw [← hW]; clear hW; refine E1.mono ?_; rintro e w1 ⟨rfl, hb1⟩; have hB1 := h0.trans (hb1.mono h0.size); have p0' := keepC hb1 p0; have p1' := keepC hb1 p1; have p2' := keepC hb1 p2; have p3' := keepC hb1 p3; have p4' := keepC hb1 p4; have p5' := keepC hb1 p5; have p6' := keepC hb1 p6; clear p0 p1 p2 p3 p4 p5 p6; have p0 := p0'; have p1 := p1'; have p2 := p2'; have p3 := p3'; have p4 := p4'; have p5 := p5'; have p6 := p6'; clear p0' p1' p2' p3' p4' p5' p6'; clear hb1)
        | (go_at_call_of 63 a2; refine (E2 w1 hB1).mono ?_; rintro e w2 ⟨rfl, hb2⟩; have hB2 := hB1.trans (hb2.mono hB1.size); have p0' := keepC hb2 p0; have p1' := keepC hb2 p1; have p2' := keepC hb2 p2; have p3' := keepC hb2 p3; have p4' := keepC hb2 p4; have p5' := keepC hb2 p5; have p6' := keepC hb2 p6; clear p0 p1 p2 p3 p4 p5 p6; have p0 := p0'; have p1 := p1'; have p2 := p2'; have p3 := p3'; have p4 := p4'; have p5 := p5'; have p6 := p6'; clear p0' p1' p2' p3' p4' p5' p6'; clear hb2)
        | (go_at_call 56; refine (E3 w2 hB2).mono ?_; rintro e w3 ⟨rfl, hb3⟩; have hB3 := hB2.trans (hb3.mono hB2.size); clear hb3))
      go_ret
      exact ⟨rtB HF.out.symm, hB3⟩
end Go.Proofs.Ytollijngiioonaa

