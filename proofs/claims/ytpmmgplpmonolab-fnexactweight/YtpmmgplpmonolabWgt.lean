/- Weights, as the program tells them: it ranges over its iterator. Conditions: terms of at most 1048577 parts. -/
import Derived.Test.YtpmmgplpmonolabBox
import Derived.Test.YtpmmgplpmonolabWgtA
import Derived.Test.YtpmmgplpmonolabImpName
import Derived.Sort.QuietIn
namespace Go.Proofs.Ytpmmgplpmonolab
set_option maxRecDepth 100000
open Go.RowKit Go.Shelf
attribute [local go_sem] Oper.semAt_some

/-- The weight of a term, its Kids' left away. -/
def pwT (bl : Int → Bool) (t : TermD) : Nat := if bl t.f && !t.kids.isEmpty then t.kids.length - 1 else 1
def sumP (bl : Int → Bool) (l : List TermD) : Nat := (l.map (pwT bl)).sum
theorem sumP_append (bl : Int → Bool) (a b : List TermD) : sumP bl (a ++ b) = sumP bl a + sumP bl b := by simp [sumP]
mutual
theorem sumP_pre (bl : Int → Bool) : ∀ t : TermD, sumP bl (preT t) = wgtT bl t
  | .mk f v ks => by
    have h := sumP_preL bl ks
    rw [preT, wgtT, ← h]
    simp [sumP, pwT, TermD.f, TermD.kids]
theorem sumP_preL (bl : Int → Bool) : ∀ ts : List TermD, sumP bl (preL ts) = wgtL bl ts
  | [] => by simp [preL, wgtL, sumP]
  | t :: ts => by rw [preL, wgtL, sumP_append, sumP_pre bl t, sumP_preL bl ts]
end

mutual
theorem kids_pre : ∀ (t x : TermD), x ∈ preT t → x.kids.length < partsT t
  | .mk f v ks, x, h => by
    rw [preT] at h
    rcases List.mem_cons.1 h with rfl | h
    · have := partsL_len ks; simp only [TermD.kids, partsT]; omega
    · have := kids_preL ks x h; rw [partsT]; omega
theorem kids_preL : ∀ (ts : List TermD) (x : TermD), x ∈ preL ts → x.kids.length < partsL ts
  | [], x, h => by simp [preL] at h
  | t :: ts, x, h => by
    rw [preL] at h
    rcases List.mem_append.1 h with h | h
    · have := kids_pre t x h; rw [partsL]; omega
    · have := kids_preL ts x h; rw [partsL]; omega
end

/-- What the loop holds between two rounds. -/
structure QInv (w W0 : World) (sa : Option Addr) (ss : List SymD) (sc : Nat) (pre : List El) (S : Nat → Prop) (W : World) : Prop where
  lo : ∀ k, k < W0.heap.size → S k
  hi : ∀ k, S k → k < W.heap.size
  s : W.cell? ⟨w.heap.size, 0, none⟩ = some (.slice sa ss.length sc)
  n : W.cell? ⟨w.heap.size + 1 + 1, 0, none⟩ = some (.int .i64 (sumP (blindAt ss) (pre.map El.t)))
  f : W.frozen? ⟨w.heap.size + 1 + 1, 0, none⟩ = false
  b : Below w.heap.size w W
  z : w.heap.size + 1 + 1 < W0.heap.size
theorem QInv.stay {w W0 A B : World} {sa : Option Addr} {ss : List SymD} {sc : Nat} {pre : List El} {S : Nat → Prop} (h : QInv w W0 sa ss sc pre S A) (hs : Stay S A B) : QInv w W0 sa ss sc pre S B := by
  have hz := h.z
  exact ⟨h.lo, fun k hk => Nat.lt_of_lt_of_le (h.hi k hk) hs.size, hs.cell h.s (h.lo _ (by simp only; omega)), hs.cell h.n (h.lo _ hz), (hs.frozen (World.block_lt_of_cell? _ _ h.n) (h.lo _ hz)).trans h.f, h.b.trans (hs.below h.b.size (fun k hk => h.lo k (by omega))), hz⟩
theorem QInv.more {w W0 A : World} {sa : Option Addr} {ss : List SymD} {sc : Nat} {pre : List El} {S S' : Nat → Prop} (h : QInv w W0 sa ss sc pre S A) (hs : ∀ k, S k → S' k) (ht : ∀ k, S' k → k < A.heap.size) : QInv w W0 sa ss sc pre S' A :=
  ⟨fun k hk => hs k (h.lo k hk), ht, h.s, h.n, h.f, h.b, h.z⟩

set_option maxHeartbeats 1600000 in
theorem partWeight_any (sa : Option Addr) (ss : List SymD) (n cap : Nat) (t : TermD) (a : Option Addr) (c : Nat) (w : World) (hn : n = ss.length) (hr : RdS w sa ss) (hk : t.kids.length ≤ 4194304) :
    Calls Try.prog 21 #[.slice sa n cap, .agg #[.int .i64 t.f, .int .i64 t.v, .slice a t.kids.length c]] w fun e w' => e = .returned (.int .i64 (pwT (blindAt ss) t : Nat)) ∧ Below w.heap.size w w' := by
  subst hn
  obtain ⟨W, hW⟩ : ∃ W, W = w.alloc (.cells #[.int .i64 t.f, .int .i64 t.v, .slice a t.kids.length c] 33) := ⟨_, rfl⟩
  have hB : Below w.heap.size w W := by rw [hW]; exact (Below.refl _ _).alloc (Nat.le_refl _) _
  have C := impBlind_any sa ss ss.length cap t.f W rfl (hr.below hB)
  cases hbl : blindAt ss t.f with
  | true =>
    rw [hbl] at C
    by_cases h0 : t.kids.length = 0
    · have HP : Hid (pwT (blindAt ss) t = 1) := by show _ = _; unfold pwT; rw [List.eq_nil_of_length_eq_zero h0]; simp
      rw [h0] at hW ⊢
      clear hk hbl h0
      go_enter Try.func21, Try.ntmps21
      go_wp2_with (go_at_call 28; rw [← hW]; refine C.mono ?_; rintro e w2 ⟨rfl, hw⟩; subst w2; subst hW)
      go_ret
      exact ⟨rtI (by rw [HP.out]; rfl), hB⟩
    · have HP : Hid (pwT (blindAt ss) t = t.kids.length - 1) := by
        show _ = _; unfold pwT; rw [hbl]
        cases hk : t.kids with
        | nil => rw [hk] at h0; simp at h0
        | cons x xs => simp
      have h1 : 0 < t.kids.length := by omega
      clear hbl h0
      generalize t.kids.length = m at *
      go_enter Try.func21, Try.ntmps21
      go_wp2_with (go_at_call 28; rw [← hW]; refine C.mono ?_; rintro e w2 ⟨rfl, hw⟩; subst w2; subst hW)
      go_ret
      exact ⟨rtI (by rw [HP.out]; omega), hB⟩
  | false =>
    rw [hbl] at C
    have HP : Hid (pwT (blindAt ss) t = 1) := by show _ = _; unfold pwT; rw [hbl]; simp
    clear hbl
    generalize t.kids.length = m at *
    go_enter Try.func21, Try.ntmps21
    go_wp2_with (go_at_call 28; rw [← hW]; refine C.mono ?_; rintro e w2 ⟨rfl, hw⟩; subst w2; subst hW)
    go_ret
    exact ⟨rtI (by rw [HP.out]; rfl), hB⟩

set_option maxHeartbeats 3200000 in
theorem impWeight_any (sa : Option Addr) (ss : List SymD) (ns sc : Nat) (t : TermD) (a : Option Addr) (c hi : Nat) (w : World) (hn : ns = ss.length) (hs : RdS w sa ss) (hp : partsT t ≤ 1048577) (hr : RdK w hi a t.kids) (hhi : hi ≤ w.heap.size) (hc : t.kids.length ≤ c) :
    Calls Try.prog 10 #[.slice sa ns sc, .agg #[.int .i64 t.f, .int .i64 t.v, .slice a t.kids.length c]] w fun e w' => e = .returned (.int .i64 (wgtT (blindAt ss) t : Nat)) ∧ Below w.heap.size w w' := by
  subst hn
  refine (callsIn_wide (n := 5)).1 ?_
  refine callsIn_of_wp_marks Try.func10 rfl trivial ?_ rfl
  simp only [Try.ntmps10, List.size_toArray, List.length_cons, List.length_nil, Nat.reduceAdd, Nat.reduceSub, Array.replicate_succ, Array.replicate_zero, List.push_toArray, List.append_toArray, List.nil_append, List.cons_append]
  gi_wp2_with (refine ⟨trivial, ?_⟩; gi_at_call 20; refine (callsIn_wide.2 (within_any t a c _)).mono ?_; rintro e w' ⟨rfl, rfl⟩)
  obtain ⟨W0, hW0⟩ : ∃ W0, W0 = (((w.alloc (.cells #[.slice sa ss.length sc] 29)).alloc (.cells #[.int .i64 t.f, .int .i64 t.v, .slice a t.kids.length c] 33)).alloc (.cells #[.int .i64 0] 3)).alloc (.cells #[.int .i64 t.f, .int .i64 t.v, .slice a t.kids.length c] 33) := ⟨_, rfl⟩
  have hB0 : Below w.heap.size w W0 := by rw [hW0]; exact ((((Below.refl _ _).alloc (Nat.le_refl _) _).alloc (by simp) _).alloc (by simp; omega) _).alloc (by simp; omega) _
  have hz : W0.heap.size = w.heap.size + 1 + 1 + 1 + 1 := by rw [hW0]; simp
  have s0 : W0.cell? ⟨w.heap.size, 0, none⟩ = some (.slice sa ss.length sc) := by rw [hW0]; simp [go_sem]
  have v0 : W0.cell? ⟨w.heap.size + 1 + 1, 0, none⟩ = some (.int .i64 0) := by rw [hW0]; simp [go_sem]
  have f0 : W0.frozen? ⟨w.heap.size + 1 + 1, 0, none⟩ = false := by rw [hW0]; simp [go_sem]
  have t0 : W0.cell? ⟨w.heap.size + 1 + 1 + 1, 0, none⟩ = some (.int .i64 t.f) := by rw [hW0]; simp [go_sem]
  have t1 : W0.cell? ⟨w.heap.size + 1 + 1 + 1, 1, none⟩ = some (.int .i64 t.v) := by rw [hW0]; simp [go_sem]
  have t2 : W0.cell? ⟨w.heap.size + 1 + 1 + 1, 2, none⟩ = some (.slice a t.kids.length c) := by rw [hW0]; simp [go_sem]
  rw [← hW0]
  clear hW0
  refine wpIn_rangeFunc_priv rfl (by omega) (gf := 27) (lb := #[.pointer (some ⟨w.heap.size + 1 + 1 + 1, 0, none⟩)]) rfl trivial (enters_of Try.func27 (by kernel_rfl) rfl)
    (within_seq Fence.wide 4 trivial rfl (by omega) W0 t a c hi w.heap.size (w.heap.size + 1 + 1 + 1) (by omega) hc (hr.on (hB0.mono hhi)) hhi hB0.size t0 t1 t2) hB0.size (Below.refl _ _) (fun _ => rfl)
    (fun pre S W => QInv w W0 sa ss sc pre S W) (fun _ _ _ _ => False) (fun pre S A B h hs => h.stay hs)
    (fun _ _ _ _ _ h _ => h) (fun pre S A h => h.hi) (fun k => k < W0.heap.size) (fun _ h => h) ⟨fun _ h => h, fun _ h => h, s0, by simpa [sumP] using v0, f0, hB0, by omega⟩
    (fun pre x S a₁ W => QInv w W0 sa ss sc pre S W ∧ ∃ Bx, BoxEl x Bx S W ∧ a₁ = { tmps := #[.slice sa ss.length sc, .agg #[.int .i64 t.f, .int .i64 t.v, .slice a t.kids.length c], .pointer (some ⟨w.heap.size, 0, none⟩), .pointer (some ⟨w.heap.size + 1, 0, none⟩), .int .i64 0, .pointer (some ⟨w.heap.size + 1 + 1, 0, none⟩), .pointer (some ⟨Bx, 0, none⟩), .agg #[.int .i64 t.f, .int .i64 t.v, .slice a t.kids.length c], .func (.func 27) #[] #[.pointer (some ⟨w.heap.size + 1 + 1 + 1, 0, none⟩)], .agg #[.int .i64 x.t.f, .int .i64 x.t.v, .slice x.a x.t.kids.length x.c], undef, undef, undef, undef, undef, undef], defers := [] })
    (fun pre x S a₁ A B h hs => by
      obtain ⟨h1, Bx, h2, h3⟩ := h
      exact ⟨h1.stay hs, Bx, h2.stay hs, h3⟩)
    ?assign ?body ?done ?stop
  case assign =>
    intro l pre x S W K hi hlen hok hK
    dsimp only [El.enc]
    gi_wp2
    refine hK _ (fun k => S k ∨ k = W.heap.size) _ ⟨(hi.stay (.alloc _ _ _)).more (fun _ h => .inl h) (fun k h => h.elim (fun h => by have := hi.hi k h; simp; omega) (fun e => by simp; omega)), W.heap.size, ⟨.inr rfl, ?_, ?_, ?_⟩, by simp⟩ (fun k h => h.imp id (fun e => by omega)) (.alloc _ _ _)
    all_goals simp [go_sem]
  case body =>
    rintro l pre x S a₁ W ⟨h, Bx, hx, rfl⟩ hlen hok
    obtain ⟨⟨r, hpre⟩, _, _⟩ := hok
    have hsum : sumP (blindAt ss) (pre.map El.t) + pwT (blindAt ss) x.t ≤ 2 * partsT t := by
      have h1 := sumP_pre (blindAt ss) t
      have h2 := wgtT_parts (blindAt ss) t
      rw [← hpre, sumP_append] at h1
      simp only [sumP, List.map_cons, List.sum_cons] at h1 ⊢
      omega
    have hkx : x.t.kids.length ≤ 4194304 := by
      have h1 : x.t ∈ preT t := by rw [← hpre]; simp
      have h2 := kids_pre t x.t h1
      omega
    have C := fun (W' : World) (hb : Below W.heap.size W W') => partWeight_any sa ss ss.length sc x.t x.a x.c W' rfl (hs.below (h.b.trans (hb.mono h.b.size))) hkx
    have x0 := hx.c0
    have x1 := hx.c1
    have x2 := hx.c2
    have hr0 := h.s
    have hn0 := h.n
    have hf0 := h.f
    have hzz := h.z
    have b1 : (sumP (blindAt ss) (pre.map El.t) : Int) + (pwT (blindAt ss) x.t : Nat) ≤ 2097154 := by omega
    have F1 : Hid (∀ w1, Below W.heap.size W w1 → QInv w W0 sa ss sc (pre ++ [x]) S (w1.setCell ⟨w.heap.size + 1 + 1, 0, none⟩ (.int .i64 ((sumP (blindAt ss) (pre.map El.t) : Int) + (pwT (blindAt ss) x.t : Nat)))) ∧ Stay (fun k => k < w.heap.size ∨ ¬ S k) W (w1.setCell ⟨w.heap.size + 1 + 1, 0, none⟩ (.int .i64 ((sumP (blindAt ss) (pre.map El.t) : Int) + (pwT (blindAt ss) x.t : Nat))))) := fun w1 hb => by
      have h1 := h.stay (.of_below hb (fun _ hk _ => hk))
      refine ⟨⟨h1.lo, fun k hk => by simpa using h1.hi k hk, ?_, ?_, ?_, h1.b.setCell (p := ⟨w.heap.size + 1 + 1, 0, none⟩) (by simp; omega) _, h1.z⟩, (Stay.of_below hb (fun _ hk _ => hk)).trans (.setCell _ _ (fun h => h.elim (fun h => by simp only at h; omega) (fun h' => h' (h1.lo _ h1.z))))⟩
      · exact (World.cell?_of_block (Below.heap_setCell _ _ _ _ (by simp only; omega))).trans h1.s
      · rw [World.cell?_setCell_same _ _ _ h1.n, List.map_append, sumP_append]
        simp [sumP]
      · rw [World.frozen?_setCell]; exact h1.f
    clear h hx hpre hsum
    gi_wp2_with fail
    gi_region_with (refine ⟨trivial, ?_⟩; gi_at_call 21; refine (CallsIn.inRound l (callsIn_wide.2 (C _ ?_))).mono ?_; exact (Below.refl _ _).drew; rintro e w1 ⟨rfl, hb0⟩; have hb1 : Below W.heap.size W w1 := (Below.refl _ _).drew.trans hb0; have hn1 := keepC hb1 hn0; have hf1 := (hb1.frozen (p := ⟨w.heap.size + 1 + 1, 0, none⟩) (World.block_lt_of_cell? _ _ hn0)).trans hf0; clear C hb0 hn0 hf0 x0 x1 x2 hr0)
    all_goals
      rw [show IntKind.i64.wrap ((sumP (blindAt ss) (pre.map El.t) : Int) + (pwT (blindAt ss) x.t : Nat)) = (sumP (blindAt ss) (pre.map El.t) : Int) + (pwT (blindAt ss) x.t : Nat) by rw [IntKind.wrap_i64]; omega]
      gi_wp2
      obtain ⟨q1, q2⟩ := F1.out w1 hb1
      exact ⟨S, q1, fun k h => .inl h, q2⟩
  case done =>
    rintro D xs S W hxs h hK hD hSD
    have h3 := h.n
    have h5 := h.b
    rw [hxs, sumP_pre] at h3
    clear h
    gi_wp2
    refine ⟨by simp, .inl ⟨_, _, rfl, run_takeDeferred hK, ?_⟩⟩
    exact ⟨_, results_tmp rfl _ _ _, rfl, h5.trans ((Stay.putObj (S := fun k => k < w.heap.size) W _ (by omega)).below h5.size (fun _ h => h))⟩
  case stop =>
    rintro D c pre S W _ h
    exact h.elim
end Go.Proofs.Ytpmmgplpmonolab
