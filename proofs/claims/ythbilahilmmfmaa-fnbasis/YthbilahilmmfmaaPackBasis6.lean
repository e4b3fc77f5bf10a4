/- What the proof of FnBasis stands on, part 6 of 10: each piece says what it proves and under which conditions. Conditions: as each piece says. -/
import Derived.Test.YthbilahilmmfmaaPackBasis5
import Derived.Maps.OwnIn
/- The basis, as the program makes it. Conditions: at most 1048577 numbers on each side. -/
namespace Go.Proofs.Ythbilahilmmfmaa
set_option maxRecDepth 100000
open Go.RowKit Go.Shelf
attribute [local go_sem] Oper.semAt_some

/-- A list of rows of the call's own. -/
structure LI (B : Nat) (S : Nat → Prop) (W : World) (v : Value) (L : List (List Int)) : Prop where
  own : ∃ gs, W.ownsRow B 24 1 v L.length (cellsG gs L) ∧ RowO S B v W gs L
  s : ∀ g, v.ownBlock = some g → S g
theorem LI.stay {B : Nat} {S : Nat → Prop} {A W : World} {v : Value} {L : List (List Int)} (h : LI B S A v L) (hs : Stay S A W) : LI B S W v L := by
  obtain ⟨gs, h1, h2⟩ := h.own
  exact ⟨⟨gs, own_stay h1 hs h.s, h2.grow hs (fun x hx _ _ => hx) (fun x hx _ h3 _ => ⟨hx, h3⟩)⟩, h.s⟩
theorem LI.stay2 {B : Nat} {S T : Nat → Prop} {A W : World} {v : Value} {L : List (List Int)} (h : LI B S A v L) (hs : Stay T A W) (ht : ∀ k, S k → B ≤ k → T k) : LI B S W v L := by
  obtain ⟨gs, h1, h2⟩ := h.own
  exact ⟨⟨gs, own_stay h1 hs (fun g hg => ht g (h.s g hg) (h1.lt g hg).1), h2.grow hs (fun x hx hb _ => ht x hx hb) (fun x hx _ h3 _ => ⟨hx, h3⟩)⟩, h.s⟩
theorem LI.rd {B : Nat} {S : Nat → Prop} {W : World} {la : Option Addr} {c : Nat} {L : List (List Int)} (h : LI B S W (.slice la L.length c) L) : RdQ W la L := by
  obtain ⟨gs, h1, h2⟩ := h.own
  rcases h1.2 with ⟨_, e0⟩ | ⟨g, cap, _, e, _⟩
  · exact .inl (List.length_eq_zero_iff.1 e0)
  · cases e
    exact (RowsV.rd (S' := fun _ => True) rfl h1 h2.rows trivial (fun _ _ => trivial)).rd
theorem LI.out {B B' : Nat} {S : Nat → Prop} {W : World} {v : Value} {L : List (List Int)} (h : LI B S W v L) (hb : B' ≤ B) : LI B' (fun _ => True) W v L := by
  obtain ⟨gs, h1, h2⟩ := h.own
  exact ⟨⟨gs, own_low h1 hb, ⟨h2.len, fun i q1 q2 => own_low (h2.own i q1 q2) hb, fun p hp => ⟨trivial, Nat.le_trans hb (h2.s p hp).2.1, (h2.s p hp).2.2⟩, h2.nd⟩⟩, fun _ _ => trivial⟩
theorem LI.none (B : Nat) (W : World) : LI B (fun _ => True) W (.slice none 0 0) [] := ⟨⟨[], World.ownsRow_nil _ _ _ _, RowO.nil _ _ _ _⟩, fun _ _ => trivial⟩
/-- What holds in the loop. -/
structure BI (w W0 : World) (v : Value) (L : List (List Int)) (S : Nat → Prop) (W : World) : Prop where
  lo : ∀ k, k < W0.heap.size → S k
  hi : ∀ k, S k → k < W.heap.size
  r0 : W.cell? ⟨w.heap.size, 0, none⟩ = some (.slice none 0 0)
  f0 : W.frozen? ⟨w.heap.size, 0, none⟩ = false
  r1 : W.cell? ⟨w.heap.size + 1, 0, none⟩ = some (.bool false)
  f1 : W.frozen? ⟨w.heap.size + 1, 0, none⟩ = false
  li : W.cell? ⟨w.heap.size + 1 + 1, 0, none⟩ = some v
  fi : W.frozen? ⟨w.heap.size + 1 + 1, 0, none⟩ = false
  l : LI W0.heap.size S W v L
  b : Below w.heap.size w W
  z : w.heap.size + 5 = W0.heap.size
  le : L.length ≤ 60
  len : ∀ r ∈ L, r.length ≤ 10
theorem BI.stay {w W0 A W : World} {v : Value} {L : List (List Int)} {S : Nat → Prop} (h : BI w W0 v L S A) (hs : Stay S A W) : BI w W0 v L S W := by
  have hz := h.z
  have k0 := h.lo w.heap.size (by omega)
  have k1 := h.lo (w.heap.size + 1) (by omega)
  have k2 := h.lo (w.heap.size + 1 + 1) (by omega)
  exact ⟨h.lo, fun k hk => Nat.lt_of_lt_of_le (h.hi k hk) hs.size, hs.cell h.r0 k0, (hs.frozen (World.block_lt_of_cell? _ _ h.r0) k0).trans h.f0, hs.cell h.r1 k1, (hs.frozen (World.block_lt_of_cell? _ _ h.r1) k1).trans h.f1, hs.cell h.li k2, (hs.frozen (World.block_lt_of_cell? _ _ h.li) k2).trans h.fi, h.l.stay hs, h.b.trans (hs.below h.b.size (fun k hk => h.lo k (by omega))), hz, h.le, h.len⟩
theorem BI.more {w W0 W : World} {v : Value} {L : List (List Int)} {S S' : Nat → Prop} (h : BI w W0 v L S W) (hS : ∀ k, S k → S' k) (hi : ∀ k, S' k → k < W.heap.size) : BI w W0 v L S' W := by
  obtain ⟨gs, h1, h2⟩ := h.l.own
  exact ⟨fun k hk => hS k (h.lo k hk), hi, h.r0, h.f0, h.r1, h.f1, h.li, h.fi, ⟨⟨gs, h1, h2.grow (Stay.refl (fun _ => True) _) (fun _ _ _ _ => trivial) (fun x hx _ h3 _ => ⟨hS x hx, h3⟩)⟩, fun g hg => hS g (h.l.s g hg)⟩, h.b, h.z, h.le, h.len⟩
/-- What is left where there were too many. -/
structure BO (w W0 : World) (L : List (List Int)) (S : Nat → Prop) (W : World) : Prop where
  lo : ∀ k, k < W0.heap.size → S k
  r0 : W.cell? ⟨w.heap.size, 0, none⟩ = some (.slice none 0 0)
  r1 : W.cell? ⟨w.heap.size + 1, 0, none⟩ = some (.bool false)
  b : Below w.heap.size w W
  z : w.heap.size + 5 = W0.heap.size
  hit : 60 < L.length
theorem BO.stay {w W0 A W : World} {L : List (List Int)} {S : Nat → Prop} (h : BO w W0 L S A) (hs : Stay S A W) : BO w W0 L S W := by
  have hz := h.z
  exact ⟨h.lo, hs.cell h.r0 (h.lo _ (by simp only; omega)), hs.cell h.r1 (h.lo _ (by simp only; omega)), h.b.trans (hs.below h.b.size (fun k hk => h.lo k (by omega))), hz, h.hit⟩
def keptL (pre : List So) : List (List Int) := (pre.map So.t).foldl keepStep []
theorem kept_snoc (pre : List So) (x : So) : keptL (pre ++ [x]) = keepStep (keptL pre) x.t := by
  unfold keptL; simp [List.foldl_append]
theorem keep_grow : ∀ (l acc : List (List Int)), acc.length ≤ (l.foldl keepStep acc).length
  | [], _ => Nat.le_refl _
  | x :: l, acc => Nat.le_trans (by unfold keepStep; split <;> simp) (keep_grow l (keepStep acc x))
theorem step_miss {L : List (List Int)} {x : List Int} (h : benB L x = true) : keepStep L x = L := by
  unfold benB at h; unfold keepStep; rw [h]; rfl
theorem step_hit {L : List (List Int)} {x : List Int} (h : benB L x = false) : keepStep L x = L ++ [x] := by
  unfold benB at h; unfold keepStep; rw [h]; rfl

set_option maxHeartbeats 6400000 in
set_option maxRecDepth 100000 in
theorem basis_any (HS : SolsSeq) (a0 a1 : Option Addr) (a b : List Int) (c0 c1 : Nat) (w : World) (hra : Rd w a0 a) (hrb : Rd w a1 b) (hla : a.length ≤ 1048577) (hlb : b.length ≤ 1048577) :
    Calls Try.prog 9 #[.slice a0 a.length c0, .slice a1 b.length c1] w fun e w' => ∃ a' c, e = .returned (.tuple #[.slice a' (basP a b).1.length c, .bool (basP a b).2]) ∧ LI w.heap.size (fun _ => True) w' (.slice a' (basP a b).1.length c) (basP a b).1 ∧ Below w.heap.size w w' := by
  refine (callsIn_wide (n := 12)).1 ?_
  refine callsIn_of_wp_marks Try.func9 rfl trivial ?_ rfl
  simp only [Try.ntmps9, List.size_toArray, List.length_cons, List.length_nil, Nat.reduceAdd, Nat.reduceSub, Array.replicate_succ, Array.replicate_zero, List.push_toArray, List.append_toArray, List.nil_append, List.cons_append]
  obtain ⟨W0, hW0⟩ : ∃ W0, W0 = (w.alloc (.cells #[.slice none 0 0] 27)).alloc (.cells #[.bool false] 4) := ⟨_, rfl⟩
  have hB0 : Below w.heap.size w W0 := by rw [hW0]; exact ((Below.refl _ _).alloc (Nat.le_refl _) _).alloc (by simp) _
  have hz0 : W0.heap.size = w.heap.size + 2 := by rw [hW0]; simp
  have r0 : W0.cell? ⟨w.heap.size, 0, none⟩ = some (.slice none 0 0) := by rw [hW0]; simp [go_sem]
  have r1 : W0.cell? ⟨w.heap.size + 1, 0, none⟩ = some (.bool false) := by rw [hW0]; simp [go_sem]
  have f0 : W0.frozen? ⟨w.heap.size, 0, none⟩ = false := by rw [hW0]; simp [go_sem]
  have f1 : W0.frozen? ⟨w.heap.size + 1, 0, none⟩ = false := by rw [hW0]; simp [go_sem]
  have F1 := callsIn_wide (n := 11).2 (basisOk_any a0 a c0 W0 (hra.below hB0) hla)
  have F2 := callsIn_wide (n := 11).2 (basisOk_any a1 b c1 W0 (hrb.below hB0) hlb)
  obtain ⟨i0, hii, hz0', hz1', hz2'⟩ := info_parts Try.infoR
  have HW0 : Hid (W0 = (w.alloc (.cells #[.slice none 0 0] 27)).alloc (.cells #[.bool false] 4)) := hW0
  cases hfa : fineB a with
  | false =>
    have HP : Hid (basP a b = ([], false)) := by show _ = _; simp [basP, hfa]
    rw [hfa] at F1
    rw [HP.out]
    subst hW0
    gi_wp2_with (refine ⟨trivial, ?_⟩; gi_at_call 40; refine F1.mono ?_; rintro e w1 ⟨rfl, hw⟩; subst w1; clear F1 F2)
    refine ⟨trivial, ?_⟩
    gi_wp2_with fail
    exact ⟨.tuple #[.slice none 0 0, .bool false], by simp [results, Try.results9, go_sem, r0, r1], none, 0, rfl, LI.none _ _, hB0⟩
  | true =>
    cases hfb : fineB b with
    | false =>
      have HP : Hid (basP a b = ([], false)) := by show _ = _; simp [basP, hfb]
      rw [hfa] at F1
      rw [hfb] at F2
      rw [HP.out]
      subst hW0
      gi_wp2_with (first
        | (refine ⟨trivial, ?_⟩; gi_at_call 40; refine F1.mono ?_; rintro e w1 ⟨rfl, hw⟩; subst w1; clear F1)
        | (refine ⟨trivial, ?_⟩; gi_at_call 40; refine F2.mono ?_; rintro e w1 ⟨rfl, hw⟩; subst w1; clear F2))
      exact ⟨.tuple #[.slice none 0 0, .bool false], by simp [results, Try.results9, go_sem, r0, r1], none, 0, rfl, LI.none _ _, hB0⟩
    | true =>
      rw [hfa] at F1
      rw [hfb] at F2
      rw [hW0] at F1 F2
      gi_wp2_with (first
        | (refine ⟨trivial, ?_⟩; gi_at_call 40; refine F1.mono ?_; rintro e w1 ⟨rfl, hw⟩; subst w1; clear F1)
        | (refine ⟨trivial, ?_⟩; gi_at_call 40; refine F2.mono ?_; rintro e w1 ⟨rfl, hw⟩; subst w1; clear F2)
        | (refine ⟨trivial, ?_⟩; gi_at_call 41; refine (callsIn_wide.2 (solutions_any a0 a1 a.length c0 b.length c1 _)).mono ?_; rintro e w1 ⟨rfl, hw⟩; subst w1))
      obtain ⟨W1, hW1⟩ : ∃ W1, W1 = ((W0.alloc (.cells #[.slice none 0 0] 27)).alloc (.cells #[.slice a0 a.length c0] 24)).alloc (.cells #[.slice a1 b.length c1] 24) := ⟨_, rfl⟩
      have hB1 : Below W0.heap.size W0 W1 := by rw [hW1]; exact (((Below.refl _ _).alloc (Nat.le_refl _) _).alloc (by simp) _).alloc (by simp; omega) _
      have hz1 : W1.heap.size = w.heap.size + 5 := by rw [hW1]; simp; omega
      have l1 : W1.cell? ⟨w.heap.size + 1 + 1, 0, none⟩ = some (.slice none 0 0) := by rw [hW1, show w.heap.size + 1 + 1 = W0.heap.size by omega]; simp [go_sem]
      have fl : W1.frozen? ⟨w.heap.size + 1 + 1, 0, none⟩ = false := by rw [hW1, show w.heap.size + 1 + 1 = W0.heap.size by omega]; simp [go_sem]
      have l2 : W1.cell? ⟨w.heap.size + 1 + 1 + 1, 0, none⟩ = some (.slice a0 a.length c0) := by rw [hW1, show w.heap.size + 1 + 1 + 1 = W0.heap.size + 1 by omega]; simp [go_sem]
      have l3 : W1.cell? ⟨w.heap.size + 1 + 1 + 1 + 1, 0, none⟩ = some (.slice a1 b.length c1) := by rw [hW1, show w.heap.size + 1 + 1 + 1 + 1 = W0.heap.size + 1 + 1 by omega]; simp [go_sem]
      have s0 := keepC hB1 r0
      have s1 := keepC hB1 r1
      have g0 := (hB1.frozen (p := ⟨w.heap.size, 0, none⟩) (by simp only; omega)).trans f0
      have g1 := (hB1.frozen (p := ⟨w.heap.size + 1, 0, none⟩) (by simp only; omega)).trans f1
      have hbw : Below w.heap.size w W1 := hB0.trans (hB1.mono hB0.size)
      obtain ⟨la1, la5, _⟩ := fine_len hfa
      obtain ⟨lb1, lb5, _⟩ := fine_len hfb
      have kd : ∀ (p : Option Addr) (zs : List Int), Rd w p zs → 1 ≤ zs.length → RdI (fun k => k < w.heap.size ∨ k = w.heap.size + 1 + 1 + 1 ∨ k = w.heap.size + 1 + 1 + 1 + 1) W1 p zs := by
        intro p zs h h1
        rcases h.below hbw with e | ⟨q, o, e, hq, hc⟩
        · rw [e] at h1; simp at h1
        · rcases h with e' | ⟨q', o', e', hq', _⟩
          · rw [e'] at h1; simp at h1
          · rw [e] at e'
            cases e'
            exact ⟨q, o, e, .inl hq', hq, hc⟩
      have SQ := HS W1 a b a0 a1 c0 c1 (w.heap.size + 1 + 1 + 1) (w.heap.size + 1 + 1 + 1 + 1) hfa hfb (fun k => k < w.heap.size ∨ k = w.heap.size + 1 + 1 + 1 ∨ k = w.heap.size + 1 + 1 + 1 + 1) (.inr (.inl rfl)) (.inr (.inr rfl)) (fun k hk => by omega) l2 l3 (kd _ _ hra la1) (kd _ _ hrb lb1)
      obtain ⟨hs1, hs2⟩ := solL_le a b hfa hfb
      have HSL : Hid (∀ x ∈ solL a b, x.length ≤ 10) := hs2
      have HPB : Hid (basP a b = if 60 < (basL a b).length then ([], false) else (basL a b, true)) := by show _ = _; simp only [basP, hfa, hfb, Bool.and_true, if_true]
      have HBF : Hid ((solL a b).foldl keepStep [] = basL a b) := basL_fold a b
      rw [show (((((w.alloc (.cells #[.slice none 0 0] 27)).alloc (.cells #[.bool false] 4)).alloc (.cells #[.slice none 0 0] 27)).alloc (.cells #[.slice a0 a.length c0] 24)).alloc (.cells #[.slice a1 b.length c1] 24)) = W1 by rw [hW1, hW0]]
      have I0 : BI w W1 (.slice none 0 0) (keptL []) (fun k => k < W1.heap.size) W1 := ⟨fun _ h => h, fun _ h => h, s0, g0, s1, g1, l1, fl, ⟨⟨[], World.ownsRow_nil _ _ _ _, RowO.nil _ _ _ _⟩, fun g hg => by cases hg⟩, hbw, by omega, by simp [keptL], by simp [keptL]⟩
      clear hW1 hW0 HW0 l1 fl l2 l3 s0 s1 g0 g1 kd hs2 r0 r1 f0 f1
      refine wpIn_rangeFunc_keep (α := So) (encs := So.enc) rfl (by omega) (gf := 68) (lb := #[.pointer (some ⟨w.heap.size + 1 + 1 + 1, 0, none⟩), .pointer (some ⟨w.heap.size + 1 + 1 + 1 + 1, 0, none⟩)]) rfl trivial (enters_of Try.func68 (by kernel_rfl) rfl)
        SQ (fun k hk => by omega) (Below.refl _ _) (fun _ => rfl)
        (fun pre S W => ∃ v, BI w W1 v (keptL pre) S W)
        (fun cd pre S W => cd = .ret ∧ BO w W1 (keptL pre) S W)
        (fun pre S A B h hs => by obtain ⟨v, h⟩ := h; exact ⟨v, h.stay hs⟩)
        (fun cd pre S A B h hs => ⟨h.1, h.2.stay hs⟩)
        (fun pre S A h => by obtain ⟨v, h⟩ := h; exact h.hi) (fun k => k < W1.heap.size) (fun _ h => h) ⟨_, I0⟩
        (fun pre x S a₁ W => ∃ v S0, BI w W1 v (keptL pre) S0 W ∧ (∀ k, S0 k → S k) ∧ (∀ k, S k → k < W.heap.size) ∧ ¬ S0 x.g ∧ W.ownsRow W1.heap.size 3 1 (.slice (some ⟨x.g, 0, none⟩) x.t.length x.c) x.t.length (ints x.t) ∧ S x.g ∧ W1.heap.size ≤ x.g ∧ x.t.length ≤ 10 ∧ a₁ = { tmps := #[.slice a0 a.length c0, .slice a1 b.length c1, undef, undef, .pointer (some ⟨w.heap.size, 0, none⟩), .pointer (some ⟨w.heap.size + 1, 0, none⟩), .pointer (some ⟨w.heap.size + 1 + 1, 0, none⟩), .slice (some ⟨x.g, 0, none⟩) x.t.length x.c, .slice a0 a.length c0, .bool true, .bool false, .bool false, .slice a1 b.length c1, .bool true, .bool false, .bool false, .slice a0 a.length c0, .slice a1 b.length c1, .func (.func 68) #[] #[.pointer (some ⟨w.heap.size + 1 + 1 + 1, 0, none⟩), .pointer (some ⟨w.heap.size + 1 + 1 + 1 + 1, 0, none⟩)], .slice (some ⟨x.g, 0, none⟩) x.t.length x.c, undef, undef, undef, undef, undef, undef, undef, undef, undef, undef, undef], defers := [] })
        (fun pre x S a₁ A B h hs => by
          obtain ⟨v, S0, h1, h2, h3, h4, h5, h6, h7⟩ := h
          exact ⟨v, S0, h1.stay (hs.weak (fun k _ hk => h2 k hk)), h2, fun k hk => Nat.lt_of_lt_of_le (h3 k hk) hs.size, h4, own_stay h5 hs (fun g hg => by
            have e : x.g = g := by simpa [Value.ownBlock] using hg
            exact e ▸ h6), h6, h7⟩)
        ?assign ?body ?done ?stop
      case assign =>
        intro l pre x S W K hi hlen hG hok hK
        obtain ⟨v, hi⟩ := hi
        obtain ⟨hg1, hg2⟩ := hG x.g rfl
        obtain ⟨⟨r, hr⟩, ho⟩ := hok
        have hx10 := HSL.out x.t (by rw [← hr]; simp)
        have hlo := ho.lt x.g rfl
        dsimp only [So.enc]
        gi_wp2
        exact hK _ (fun k => S k ∨ k = x.g) W ⟨v, S, hi, fun _ h => .inl h, fun k h => h.elim (hi.hi k) (fun e => e ▸ hg2), hg1, ho, .inr rfl, hlo.1, hx10, rfl⟩ (fun k h => h.imp id .inl) (.refl _ _)
      case body =>
        rintro l pre x S a₁ W hl hloop hSl ⟨v, S0, h0, hsub, hSi, hnx0, hox, hSx, hgx, hx10, rfl⟩ hlen
        have hvx : v.ownBlock ≠ some x.g := fun e => hnx0 (h0.l.s _ e)
        have hrx : RdI (fun k => k = x.g) W (some ⟨x.g, 0, none⟩) x.t := own_rdi rfl hox rfl
        have h := h0.more hsub hSi
        obtain ⟨gs, hov, hrv0⟩ := h0.l.own
        have hrv : RowO S W1.heap.size v W gs (keptL pre) := hrv0.grow (Stay.refl (fun _ => True) _) (fun _ _ _ _ => trivial) (fun y hy _ h3 _ => ⟨hsub y hy, h3⟩)
        have hnx : ∀ p ∈ gs, p.1 ≠ x.g := fun p hp e => hnx0 (e ▸ (hrv0.s p hp).1)
        clear h0 hrv0 hsub hSi hnx0
        obtain ⟨la, cv, rfl, hcv⟩ := own_form hov
        have C := liesBeneath_any la (some ⟨x.g, 0, none⟩) (keptL pre) x.t cv x.c W h.l.rd hrx.rd (by have := h.le; omega) (fun r hr => by have := h.len r hr; omega) (by omega)
        have hvn := kept_snoc pre x
        have hli := h.li
        have hle := h.le
        clear SQ I0 hra hrb hlen
        cases hbb : benB (keptL pre) x.t with
        | true =>
          rw [hbb] at C
          rw [step_miss hbb] at hvn
          have F0 : Hid (∀ q, (∃ v, BI w W1 v (keptL (pre ++ [x])) S (W.drewN q)) ∧ ∀ T, Stay T W (W.drewN q)) := fun q => ⟨⟨_, by rw [hvn]; exact h.stay (drewN_stay _ W q)⟩, fun T => drewN_stay T W q⟩
          clear h hov hrv hvn hox hnx
          have HRX : Hid _ := hrx
          have HVX : Hid _ := hvx
          have HCV : Hid _ := hcv
          clear hrx hvx hcv hSx hgx hx10 hbb hl hloop hSl hB0 hB1 hz0 hz1 hbw la1 la5 lb1 lb5 hs1 hfa hfb hle
          show Code.wpIn (Fence.wide.inRound l) 10 _ _ _ _ _
          have CC := CallsIn.inRound l (callsIn_wide (n := 9).2 C)
          clear C
          gi_wp2_with (refine ⟨trivial, ?_⟩; gi_at_call 42; refine CC.mono ?_; rintro e w1 ⟨rfl, q, rfl⟩; clear CC)
          exact ⟨S, (F0.out q).1, fun k h => .inl h, (F0.out q).2 _⟩
        | false =>
          rw [hbb] at C
          rw [step_hit hbb] at hvn
          by_cases h60 : (keptL pre).length = 60
          · have e60 : ((keptL pre).length : Int) = 60 := by omega
            have q0 := h.r0
            have q1 := h.r1
            have qf0 := h.f0
            have qf1 := h.f1
            have F1 : Hid (∀ q, BO w W1 (keptL (pre ++ [x])) S (((W.drewN q).setCell ⟨w.heap.size, 0, none⟩ (.slice none 0 0)).setCell ⟨w.heap.size + 1, 0, none⟩ (.bool false)) ∧ Stay (fun k => (k < w.heap.size ∨ k = w.heap.size + 1 + 1 + 1 ∨ k = w.heap.size + 1 + 1 + 1 + 1) ∨ ¬ S k) W (((W.drewN q).setCell ⟨w.heap.size, 0, none⟩ (.slice none 0 0)).setCell ⟨w.heap.size + 1, 0, none⟩ (.bool false))) := fun q => by
              have hz := h.z
              have k0 := h.lo w.heap.size (by omega)
              have k1 := h.lo (w.heap.size + 1) (by omega)
              refine ⟨⟨h.lo, ?_, ?_, ((below_drewN h.b q).setCell (p := ⟨w.heap.size, 0, none⟩) (Nat.le_refl _) _).setCell (p := ⟨w.heap.size + 1, 0, none⟩) (by simp) _, hz, by rw [hvn, List.length_append, List.length_singleton]; omega⟩, ((drewN_stay _ W q).trans (.setCell _ _ (fun h' => ?_))).trans (.setCell _ _ (fun h' => ?_))⟩
              · exact (World.cell?_of_block (Below.heap_setCell _ _ _ _ (by simp))).trans (World.cell?_setCell_same' _ _ _ (by rw [World.cell?_drewN, q0]; rfl))
              · exact World.cell?_setCell_same' _ _ _ (by rw [(World.cell?_of_block (Below.heap_setCell _ _ _ _ (by simp))).trans (show (W.drewN q).cell? _ = _ from q1)]; rfl)
              · exact h'.elim (fun h' => by simp only at h'; omega) (fun h' => h' k0)
              · exact h'.elim (fun h' => by simp only at h'; omega) (fun h' => h' k1)
            have q1' : ∀ q v, ((W.drewN q).setCell ⟨w.heap.size, 0, none⟩ v).cell? ⟨w.heap.size + 1, 0, none⟩ = some (.bool false) := fun q v => (World.cell?_of_block (Below.heap_setCell _ _ _ _ (by simp))).trans q1
            have HRX : Hid _ := hrx
            have HVX : Hid _ := hvx
            have HCV : Hid _ := hcv
            have CC := CallsIn.inRound l (callsIn_wide (n := 9).2 C)
            clear h hov hrv C hvn hox hnx hrx hvx hcv hSx hgx hx10 hbb hl hloop hSl hB0 hB1 hz0 hz1 hbw la1 la5 lb1 lb5 hs1 hfa hfb hle h60
            show Code.wpIn (Fence.wide.inRound l) 10 _ _ _ _ _
            gi_wp2_with (refine ⟨trivial, ?_⟩; gi_at_call 42; refine CC.mono ?_; rintro e w1 ⟨rfl, q, rfl⟩; clear CC)
            exact ⟨S, ⟨rfl, (F1.out q).1⟩, fun k h => .inl h, (F1.out q).2⟩
          · have e60 : ¬ ((keptL pre).length : Int) = 60 := by omega
            have hL : (keptL pre).length < 60 := by omega
            have HH : Hid (BI w W1 (.slice la (keptL pre).length cv) (keptL pre) S W) := h
            have hfi := h.fi
            have hbs := h.b.size
            have hz := h.z
            have hbx : W1.heap.size ≤ W.heap.size := by
              have := h.hi (W1.heap.size - 1) (h.lo _ (by omega))
              omega
            have HOV : Hid (W.ownsRow W1.heap.size 24 1 (.slice la (keptL pre).length cv) (keptL pre).length (cellsG gs (keptL pre))) := hov
            have HRV : Hid (RowO S W1.heap.size (.slice la (keptL pre).length cv) W gs (keptL pre)) := hrv
            have HOX : Hid (W.ownsRow W1.heap.size 3 1 (.slice (some ⟨x.g, 0, none⟩) x.t.length x.c) x.t.length (ints x.t)) := hox
            have HNX : Hid (∀ p ∈ gs, p.1 ≠ x.g) := hnx
            have HLT : Hid (w.heap.size + 1 + 1 < W.heap.size) := World.block_lt_of_cell? _ _ hli
            have HNE : Hid (∀ g, (Value.slice la (keptL pre).length cv).ownBlock = some g → W1.heap.size ≤ g) := fun g hg => (hov.lt g hg).1
            have HVX : Hid _ := hvx
            have HX10 : Hid (x.t.length ≤ 10) := hx10
            have HVN : Hid _ := hvn
            have CC := CallsIn.inRound l (callsIn_wide (n := 9).2 C)
            clear h hov hrv C hvn hox hnx hrx hvx hcv hx10 hbb hl hloop hSl hB0 hB1 hz0 hz1 hbw la1 la5 lb1 lb5 hs1 hfa hfb hle h60
            show Code.wpIn (Fence.wide.inRound l) 10 _ _ _ _ _
            gi_wp2_with (first
              | (refine ⟨trivial, ?_⟩; gi_at_call 42; refine CC.mono ?_; rintro e w1 ⟨rfl, q, rfl⟩; clear CC)
              | (gi_at_builtin; refine wpListIn_append_own_at _ rfl (.tmp 26) (.tmp 28) 27 rfl W1.heap.size 24 i0 (.slice none 0 0) 1 24 Try.underlying27 hii hz0' hz1' hz2' rfl (by decide) _ _ (cellsG gs (keptL pre)) rfl ((own_stay HOV.out (drewN_stay (fun _ => True) W q) (fun _ _ => trivial)).alloc _) ⟨W.heap.size, 0, none⟩ 1 1 [.slice (some ⟨x.g, 0, none⟩) x.t.length x.c] rfl rfl (one_new _ _ _) (slice_one _ _ _) (by unfold maxLen; omega) (by omega) (by simp; omega) ?_; intro v6 w6 hown6 hgrow6 hnil6 hat6; clear hnil6; have HAT : Hid _ := hat6; clear hat6; obtain ⟨g6, c6, rfl, _, hg6, hl6⟩ := own_slot hown6; have hbk : w6.heap[w.heap.size + 1 + 1]? = W.heap[w.heap.size + 1 + 1]? := (hgrow6.block (w.heap.size + 1 + 1) (by have := HLT.out; simp; omega) (fun e => by have := HNE.out _ e.symm; omega)).trans (Below.heap_alloc _ _ _ HLT.out); have c6' : w6.cell? ⟨w.heap.size + 1 + 1, 0, none⟩ = some (.slice la (keptL pre).length cv) := (World.cell?_of_block hbk).trans hli; have f6 : w6.frozen? ⟨w.heap.size + 1 + 1, 0, none⟩ = false := (World.frozen?_of_block hbk).trans hfi; clear hbk))
            have hz6 := hgrow6.size
            simp only [World.size_alloc] at hz6
            have hzq : (W.drewN q).heap.size = W.heap.size := rfl
            have hSt : Stay (fun k => k ≠ w.heap.size + 1 + 1 ∧ ∀ g, (Value.slice la (keptL pre).length cv).ownBlock = some g → k ≠ g) W (w6.setCell ⟨w.heap.size + 1 + 1, 0, none⟩ (.slice (some ⟨g6, 0, none⟩) ((keptL pre).length + 1) c6)) :=
              (((drewN_stay _ W q).trans (.alloc _ _ _)).trans (.grown hgrow6 (fun k e h => h.2 k e rfl))).trans (.setCell _ _ (fun h => h.1 rfl))
            have hat : ∀ k, k < W.heap.size → (Value.slice la (keptL pre).length cv).ownBlock ≠ some k → (Value.slice (some ⟨g6, 0, none⟩) ((keptL pre).length + 1) c6).ownBlock ≠ some k := fun k hk hne e => by
              rcases HAT.out with h | h
              · exact hne (h.symm.trans e)
              · rw [e] at h
                have := Option.some.inj h
                simp only [World.size_alloc] at this
                omega
            have HB := HH.out
            have kp : ∀ k, k < w.heap.size + 1 + 1 → k ≠ w.heap.size + 1 + 1 ∧ ∀ g, (Value.slice la (keptL pre).length cv).ownBlock = some g → k ≠ g := fun k hk => ⟨by omega, fun g hg => by have := HNE.out g hg; omega⟩
            refine ⟨fun k => S k ∨ (W.heap.size ≤ k ∧ k < w6.heap.size), ⟨_, fun k hk => .inl (HB.lo k hk), fun k hk => ?_, hSt.cell HB.r0 (kp _ (by simp only; omega)), (hSt.frozen (World.block_lt_of_cell? _ _ HB.r0) (kp _ (by simp only; omega))).trans HB.f0, hSt.cell HB.r1 (kp _ (by simp only; omega)), (hSt.frozen (World.block_lt_of_cell? _ _ HB.r1) (kp _ (by simp only; omega))).trans HB.f1, World.cell?_setCell_same' _ _ _ (by rw [c6']; rfl), by rw [World.frozen?_setCell]; exact f6, ⟨⟨gs ++ [(x.g, x.c)], ?_, ?_⟩, fun g hg => ?_⟩, HB.b.trans (hSt.below HB.b.size (fun k hk => kp k (by omega))), HB.z, ?_, ?_⟩, fun k h => h.imp id (fun h => h.1), hSt.weak (fun k _ h => ⟨fun e => ?_, fun g hg e => ?_⟩)⟩
            · have : k < w6.heap.size := hk.elim (fun h => by have := HB.hi k h; omega) (fun h => h.2)
              simpa using this
            · rw [HVN.out, cellsG_snoc HRV.out.len, List.length_append, List.length_singleton]
              exact own_stay hown6 (Stay.setCell (S := fun k => k ≠ w.heap.size + 1 + 1) _ _ (by simp)) (fun g hg => by
                have e : g6 = g := by simpa [Value.ownBlock] using hg
                omega)
            · rw [HVN.out]
              exact (HRV.out.grow hSt (fun y hy hb h3 => ⟨by omega, fun g hg e => h3 (by rw [hg, e])⟩) (fun y hy hb h3 hyl => ⟨.inl hy, hat y hyl h3⟩)).snoc (own_stay HOX.out hSt (fun g hg => by
                have e : x.g = g := by simpa [Value.ownBlock] using hg
                subst e
                exact ⟨by omega, fun g' hg' e' => HVX.out (by rw [hg', ← e'])⟩)) ⟨.inl hSx, hgx, hat _ (HOX.out.lt _ rfl).2 HVX.out⟩ HNX.out
            · have e : g6 = g := by simpa [Value.ownBlock] using hg
              subst e
              rcases HAT.out with h | h
              · exact .inl (HB.l.s _ (h.symm.trans rfl))
              · have : g6 = (W.drewN q).heap.size + 1 := by simpa [Value.ownBlock] using h
                exact .inr ⟨by omega, hl6⟩
            · rw [HVN.out, List.length_append, List.length_singleton]; omega
            · intro r hr
              rw [HVN.out] at hr
              rcases List.mem_append.1 hr with h | h
              · exact HB.len r h
              · rw [List.mem_singleton.1 h]; exact HX10.out
            · subst e
              exact h.elim (fun h => by omega) (fun h => h (HB.lo _ (by omega)))
            · subst e
              have := HNE.out _ hg
              exact h.elim (fun h => by omega) (fun h => h (HB.l.s _ hg))
      case done =>
        rintro D xs S W hxs ⟨v, h⟩ hK hDw hSD
        obtain ⟨vs, hov, hrv⟩ := h.l.own
        obtain ⟨la, cv, rfl, hcv⟩ := own_form hov
        have eL : keptL xs = basL a b := by unfold keptL; rw [hxs]; exact HBF.out
        have hPB : basP a b = (basL a b, true) := by rw [HPB.out, if_neg (by rw [← eL]; have := h.le; omega)]
        have HP2 : Hid (basP a b = (basL a b, true)) := hPB
        rw [eL] at h
        have q0 := h.r0
        have q1 := h.r1
        have qf0 := h.f0
        have qf1 := h.f1
        have hli := h.li
        have hz := h.z
        have q1' : ∀ v, (W.setCell ⟨w.heap.size, 0, none⟩ v).cell? ⟨w.heap.size + 1, 0, none⟩ = some (.bool false) := fun v => (World.cell?_of_block (Below.heap_setCell _ _ _ _ (by simp))).trans q1
        have HLI : Hid (LI W1.heap.size S W (.slice la (basL a b).length cv) (basL a b)) := h.l
        have hb := h.b
        have hlo : w.heap.size + 1 < D := by omega
        have HNO : Hid (¬ S D) := hSD
        clear h hov hrv eL hPB HPB HBF SQ I0 hSD hra hrb hla hlb hxs hB0 hB1 hz0 hz1 hbw la1 la5 lb1 lb5 hs1 hfa hfb hcv
        gi_wp2_with fail
        refine ⟨by simp, .inl ⟨_, _, rfl, run_takeDeferred (by rw [Below.heap_setCell _ _ _ _ (by simp only; omega), Below.heap_setCell _ _ _ _ (by simp only; omega)]; exact hK), ?_⟩⟩
        have z0 : (((W.setCell ⟨w.heap.size, 0, none⟩ (.slice la (basL a b).length cv)).setCell ⟨w.heap.size + 1, 0, none⟩ (.bool true)).putObj D (.deferred none)).cell? ⟨w.heap.size, 0, none⟩ = some (.slice la (basL a b).length cv) :=
          (World.cell?_of_block (World.putObj_heap_other (by simp only; omega))).trans ((World.cell?_of_block (Below.heap_setCell _ _ _ _ (by simp))).trans (World.cell?_setCell_same' _ _ _ (by rw [q0]; rfl)))
        have z1 : (((W.setCell ⟨w.heap.size, 0, none⟩ (.slice la (basL a b).length cv)).setCell ⟨w.heap.size + 1, 0, none⟩ (.bool true)).putObj D (.deferred none)).cell? ⟨w.heap.size + 1, 0, none⟩ = some (.bool true) :=
          (World.cell?_of_block (World.putObj_heap_other (by simp only; omega))).trans (World.cell?_setCell_same' _ _ _ (by rw [q1']; rfl))
        have hSt : Stay (fun k => k ≠ w.heap.size ∧ k ≠ w.heap.size + 1 ∧ k ≠ D) W (((W.setCell ⟨w.heap.size, 0, none⟩ (.slice la (basL a b).length cv)).setCell ⟨w.heap.size + 1, 0, none⟩ (.bool true)).putObj D (.deferred none)) := ((Stay.setCell _ _ (fun h => h.1 rfl)).trans (.setCell _ _ (fun h => h.2.1 rfl))).trans (.putObj _ _ (fun h => h.2.2 rfl))
        have hL2 := HLI.out.stay2 hSt (fun k hk hb' => ⟨by omega, by omega, fun e => HNO.out (e ▸ hk)⟩)
        exact ⟨.tuple #[.slice la (basL a b).length cv, .bool true], by simp [results, Try.results9, go_sem, z0, z1], by rw [HP2.out]; exact ⟨_, _, rfl, hL2.out (by omega), hb.trans (hSt.below hb.size (fun k hk => ⟨by omega, by omega, by omega⟩))⟩⟩
      case stop =>
        rintro D cd pre S W ⟨r, hpre⟩ ⟨rfl, h⟩ hK hDw hSD
        have hPB : basP a b = ([], false) := by
          rw [HPB.out, if_pos]
          rw [← HBF.out, ← hpre, List.foldl_append]
          exact Nat.lt_of_lt_of_le h.hit (keep_grow _ _)
        have HP2 : Hid (basP a b = ([], false)) := hPB
        have hz := h.z
        have z0 : (W.putObj D (.deferred none)).cell? ⟨w.heap.size, 0, none⟩ = some (.slice none 0 0) := (World.cell?_of_block (World.putObj_heap_other (by simp only; omega))).trans h.r0
        have z1 : (W.putObj D (.deferred none)).cell? ⟨w.heap.size + 1, 0, none⟩ = some (.bool false) := (World.cell?_of_block (World.putObj_heap_other (by simp only; omega))).trans h.r1
        have hb := h.b
        clear h hPB HPB HBF
        gi_wp2_with fail
        refine ⟨by simp, .inl ⟨_, _, rfl, run_takeDeferred hK, ?_⟩⟩
        exact ⟨.tuple #[.slice none 0 0, .bool false], by simp [results, Try.results9, go_sem, z0, z1], by rw [HP2.out]; exact ⟨none, 0, rfl, LI.none _ _, hb.trans ((Stay.putObj (S := fun k => k < w.heap.size) W _ (by omega)).below hb.size (fun _ h => h))⟩⟩
end Go.Proofs.Ythbilahilmmfmaa

