/- The variables of a term, and the contract of the specification's VarsOf. Conditions: terms of at most 1048576 parts. -/
import Derived.Test.YtpmmgplpmonolabProg
import Derived.Test.YtpmmgplpmonolabTermA
import Derived.Test.YtpmmgplpmonolabNum
namespace Go.Proofs.Ytpmmgplpmonolab
open Go.RowKit

mutual
/-- The variables of a term, put into a list. -/
def varsT : TermD → List Int → List Int
  | .mk f v ks, out => varsL ks (if f = -1 then ins out v else out)
def varsL : List TermD → List Int → List Int
  | [], out => out
  | t :: ts, out => varsL ts (varsT t out)
end

theorem varsT_eq (t : TermD) (out : List Int) : varsT t out = varsL t.kids (if t.f = -1 then ins out t.v else out) := by cases t; rw [varsT]; rfl
theorem varsL_append (a b : List TermD) (out : List Int) : varsL (a ++ b) out = varsL b (varsL a out) := by
  induction a generalizing out with
  | nil => simp [varsL]
  | cons t ts ih => simp only [List.cons_append, varsL, ih]
theorem varsL_next {ts : List TermD} {k : Nat} (h : k < ts.length) (out : List Int) : varsL (ts.take (k + 1)) out = varsT ts[k] (varsL (ts.take k) out) := by
  rw [List.take_succ_eq_append_getElem h, varsL_append]
  simp [varsL]
mutual
theorem varsT_len : ∀ (t : TermD) (out : List Int), (varsT t out).length ≤ out.length + partsT t
  | .mk f v ks, out => by
    have h1 := varsL_len ks (if f = -1 then ins out v else out)
    have h2 := ins_len out v
    rw [varsT, partsT]
    split at h1 <;> simp_all <;> omega
theorem varsL_len : ∀ (ts : List TermD) (out : List Int), (varsL ts out).length ≤ out.length + partsL ts
  | [], out => by simp [varsL, partsL]
  | t :: ts, out => by
    have h1 := varsT_len t out
    have h2 := varsL_len ts (varsT t out)
    rw [varsL, partsL]; omega
end

theorem own_lower {w : World} {base base' : Nat} {e : TypeId} {size : Nat} {v : Value} {n : Nat} {xs : List Value} (h : w.ownsRow base e size v n xs) (hb : base' ≤ base) : w.ownsRow base' e size v n xs := by
  obtain ⟨h1, h2⟩ := h
  refine ⟨h1, ?_⟩
  rcases h2 with h2 | ⟨g, cap, cur, rfl, hg1, r⟩
  · exact .inl h2
  · exact .inr ⟨g, cap, cur, rfl, Nat.le_trans hb hg1, r⟩

theorem own_cells {w : World} {base g c : Nat} {zs : List Int} {n : Nat} (hn : n = zs.length) (h : w.ownsRow base 3 1 (.slice (some ⟨g, 0, none⟩) n c) n (ints zs)) :
    g < w.heap.size ∧ ∀ i, i < zs.length → w.cell? ⟨g, 0 + i, none⟩ = some (.int .i64 (zs[i]?.getD 0)) := by
  subst hn
  refine ⟨(h.lt g rfl).2, fun i hi => ?_⟩
  rw [show (0 + i) = i by omega, h.cellAt i (by omega)]
  simp [ints, hi]

/-- The row of the numbers met so far. -/
def OutRow (w : World) (B g c : Nat) (zs : List Int) : Prop := w.ownsRow B 3 1 (.slice (some ⟨g, 0, none⟩) zs.length c) zs.length (ints zs)

set_option maxHeartbeats 1600000 in
theorem specVars_any (N : Nat) : ∀ (t : TermD) (a : Option Addr) (c hi B g oc : Nat) (zs : List Int) (w : World), partsT t ≤ N → zs.length + partsT t ≤ 1048577 → RdK w hi a t.kids → hi ≤ w.heap.size → B ≤ w.heap.size → OutRow w B g oc zs →
    Calls Try.prog 29 #[.agg #[.int .i64 t.f, .int .i64 t.v, .slice a t.kids.length c], .slice (some ⟨g, 0, none⟩) zs.length oc] w fun e w' => ∃ g' c', e = .returned (.slice (some ⟨g', 0, none⟩) (varsT t zs).length c') ∧ OutRow w' B g' c' (varsT t zs) ∧ Below w.heap.size w w' := by
  induction N with
  | zero => intro t a c hi B g oc zs w h; rw [partsT_eq] at h; omega
  | succ N ih =>
    intro t a c hi B g oc zs w hN hM hr hhi hBw hout
    rw [partsT_eq] at hN hM
    rw [varsT_eq]
    have hlen := partsL_len t.kids
    generalize t.kids = ks at *
    have HR : Hid (RdK w hi a ks) := hr
    clear hr
    by_cases hf : t.f = -1
    · obtain ⟨zs1, hz1⟩ : ∃ z, z = ins zs t.v := ⟨_, rfl⟩
      have HV : Hid (varsL ks (if t.f = -1 then ins zs t.v else zs) = varsL ks zs1) := by show _ = _; rw [if_pos hf, hz1]
      rw [HV.out]
      have hlz : zs1.length ≤ zs.length + 1 := by rw [hz1]; exact ins_len zs t.v
      have h0 : Below w.heap.size w (w.alloc (.cells #[.int .i64 (-1), .int .i64 t.v, .slice a ks.length c] 33)) := (Below.refl w.heap.size w).alloc (Nat.le_refl _) _
      have hout1 := own_below hout h0
      obtain ⟨hgl, hgc⟩ := own_cells rfl hout1
      have A := specNumAdd_any g zs _ oc t.v _ rfl (own_cap hout) hgl hgc (by omega)
      rw [← hz1] at A
      clear hz1 hgl hgc hout1 hout
      go_enter Try.func29, Try.ntmps29
      go_wp2_with (go_at_call 32; refine A.mono ?_; rintro e w1 ⟨g1, c1, rfl, hO0, hb1⟩; clear A; have hB1 := h0.trans (hb1.mono h0.size); have hO : OutRow w1 B g1 c1 zs1 := own_lower hO0 (Nat.le_trans hBw h0.size); have hct : w1.cell? ⟨w.heap.size, 2, none⟩ = some (.slice a ks.length c) := keepC hb1 (by simp [go_sem]); have hwl1 : w.heap.size < w1.heap.size := (by have := hb1.size; simp at this; omega); clear hO0 hb1 h0)
      go_loopw [1, 5] (fun o i wr => ∃ (k g2 c2 : Nat), k ≤ ks.length ∧ i = .int .i64 k ∧ o = .slice (some ⟨g2, 0, none⟩) (varsL (ks.take k) zs1).length c2 ∧ OutRow wr B g2 c2 (varsL (ks.take k) zs1) ∧ wr.cell? ⟨w.heap.size, 2, none⟩ = some (.slice a ks.length c) ∧ Below w.heap.size w wr ∧ w.heap.size < wr.heap.size) (fun _ i _ => ks.length - (intOf i).toNat)
      case atStart => exact ⟨0, g1, c1, Nat.zero_le _, rfl, by simp [varsL], by simpa [varsL] using hO, hct, hB1, hwl1⟩
      case round =>
        obtain ⟨k, g2, c2, hk, rfl, rfl, hO2, hct2, hbr, hwl⟩ := hrel
        have hpk := partsL_take ks k
        have hvl := varsL_len (ks.take k) zs1
        clear hO hct hB1 hwl1
        by_cases hk' : k < ks.length
        · obtain ⟨b, off, a', c', rfl, hlt, d0, d1, d2, hkr⟩ := RdK.kid (HR.out.on (hbr.mono hhi)) hk'
          have hpg := partsL_get hk'
          have hpn := partsL_next hk'
          have hpk2 := partsL_take ks (k + 1)
          have hki : (k : Int) < (ks.length : Int) := by omega
          have HP : Hid (varsL (ks.take (k + 1)) zs1 = varsT ks[k] (varsL (ks.take k) zs1)) := varsL_next hk' zs1
          have I := ih ks[k] a' c' hi B g2 c2 (varsL (ks.take k) zs1) wr (by omega) (by omega) hkr (Nat.le_trans hhi hbr.size) (Nat.le_trans hBw hbr.size) hO2
          clear hkr hO2
          go_wp2_with (go_at_call 29; refine I.mono ?_; rintro e w3 ⟨g3, c3, rfl, hO3, hb3⟩; clear I; have hct3 := keepC hb3 hct2; have hbb := hbr.trans (hb3.mono hbr.size); have hwl3 : w.heap.size < w3.heap.size := (Nat.lt_of_lt_of_le hwl hb3.size); clear hbr hb3)
          go_roundw
          case rel => exact ⟨k + 1, g3, c3, by omega, by go_num, by rw [HP.out], by rw [HP.out]; exact hO3, hct3, hbb, hwl3⟩
          case measure => simp [intOf]; omega
        · have E : Hid (k = ks.length) := (by omega : k = ks.length)
          go_wp2_with fail
          go_ret
          have e2 : varsL (ks.take k) zs1 = varsL ks zs1 := by rw [E.out, List.take_length]
          rw [e2] at hO2 ⊢
          exact ⟨g2, c2, rfl, hO2, hbr⟩
    · obtain ⟨zs1, hz1⟩ : ∃ z, z = zs := ⟨_, rfl⟩
      have HV : Hid (varsL ks (if t.f = -1 then ins zs t.v else zs) = varsL ks zs1) := by show _ = _; rw [if_neg hf, hz1]
      rw [HV.out]
      subst hz1
      have hf' : (t.f == -1) = false := by simp [hf]
      have hlz : zs1.length ≤ zs1.length + 1 := by omega
      have hB1 : Below w.heap.size w (w.alloc (.cells #[.int .i64 t.f, .int .i64 t.v, .slice a ks.length c] 33)) := (Below.refl w.heap.size w).alloc (Nat.le_refl _) _
      obtain ⟨g1, hg1⟩ : ∃ x, x = g := ⟨_, rfl⟩
      obtain ⟨c1, hc1⟩ : ∃ x, x = oc := ⟨_, rfl⟩
      subst hg1 hc1
      have hO : OutRow (w.alloc (.cells #[.int .i64 t.f, .int .i64 t.v, .slice a ks.length c] 33)) B g1 c1 zs1 := own_below hout hB1
      have hct : (w.alloc (.cells #[.int .i64 t.f, .int .i64 t.v, .slice a ks.length c] 33)).cell? ⟨w.heap.size, 2, none⟩ = some (.slice a ks.length c) := by simp [go_sem]
      have hwl1 : w.heap.size < (w.alloc (.cells #[.int .i64 t.f, .int .i64 t.v, .slice a ks.length c] 33)).heap.size := by simp
      clear hf hout
      go_enter Try.func29, Try.ntmps29
      go_wp2_with fail
      go_loopw [1, 5] (fun o i wr => ∃ (k g2 c2 : Nat), k ≤ ks.length ∧ i = .int .i64 k ∧ o = .slice (some ⟨g2, 0, none⟩) (varsL (ks.take k) zs1).length c2 ∧ OutRow wr B g2 c2 (varsL (ks.take k) zs1) ∧ wr.cell? ⟨w.heap.size, 2, none⟩ = some (.slice a ks.length c) ∧ Below w.heap.size w wr ∧ w.heap.size < wr.heap.size) (fun _ i _ => ks.length - (intOf i).toNat)
      case atStart => exact ⟨0, g1, c1, Nat.zero_le _, rfl, by simp [varsL], by simpa [varsL] using hO, hct, hB1, hwl1⟩
      case round =>
        obtain ⟨k, g2, c2, hk, rfl, rfl, hO2, hct2, hbr, hwl⟩ := hrel
        have hpk := partsL_take ks k
        have hvl := varsL_len (ks.take k) zs1
        clear hO hct hB1 hwl1
        by_cases hk' : k < ks.length
        · obtain ⟨b, off, a', c', rfl, hlt, d0, d1, d2, hkr⟩ := RdK.kid (HR.out.on (hbr.mono hhi)) hk'
          have hpg := partsL_get hk'
          have hpn := partsL_next hk'
          have hpk2 := partsL_take ks (k + 1)
          have hki : (k : Int) < (ks.length : Int) := by omega
          have HP : Hid (varsL (ks.take (k + 1)) zs1 = varsT ks[k] (varsL (ks.take k) zs1)) := varsL_next hk' zs1
          have I := ih ks[k] a' c' hi B g2 c2 (varsL (ks.take k) zs1) wr (by omega) (by omega) hkr (Nat.le_trans hhi hbr.size) (Nat.le_trans hBw hbr.size) hO2
          clear hkr hO2
          go_wp2_with (go_at_call 29; refine I.mono ?_; rintro e w3 ⟨g3, c3, rfl, hO3, hb3⟩; clear I; have hct3 := keepC hb3 hct2; have hbb := hbr.trans (hb3.mono hbr.size); have hwl3 : w.heap.size < w3.heap.size := (Nat.lt_of_lt_of_le hwl hb3.size); clear hbr hb3)
          go_roundw
          case rel => exact ⟨k + 1, g3, c3, by omega, by go_num, by rw [HP.out], by rw [HP.out]; exact hO3, hct3, hbb, hwl3⟩
          case measure => simp [intOf]; omega
        · have E : Hid (k = ks.length) := (by omega : k = ks.length)
          go_wp2_with fail
          go_ret
          have e2 : varsL (ks.take k) zs1 = varsL ks zs1 := by rw [E.out, List.take_length]
          rw [e2] at hO2 ⊢
          exact ⟨g2, c2, rfl, hO2, hbr⟩

set_option maxHeartbeats 800000 in
theorem specVarsOf_any (t : TermD) (a : Option Addr) (c hi : Nat) (w : World) (hp : partsT t ≤ 1048577) (hr : RdK w hi a t.kids) (hhi : hi ≤ w.heap.size) :
    Calls Try.prog 24 #[.agg #[.int .i64 t.f, .int .i64 t.v, .slice a t.kids.length c]] w fun e w' => ∃ g' c', e = .returned (.slice (some ⟨g', 0, none⟩) (varsT t []).length c') ∧ OutRow w' w.heap.size g' c' (varsT t []) ∧ Below w.heap.size w w' := by
  have h0 : Below w.heap.size w ((w.alloc (.cells #[.int .i64 t.f, .int .i64 t.v, .slice a t.kids.length c] 33)).alloc (.cells #[] 3)) := ((Below.refl w.heap.size w).alloc (Nat.le_refl _) _).alloc (by simp) _
  have O0 : OutRow ((w.alloc (.cells #[.int .i64 t.f, .int .i64 t.v, .slice a t.kids.length c] 33)).alloc (.cells #[] 3)) (w.heap.size + 1) (w.heap.size + 1) 0 [] := by
    have := World.ownsRow_made (e := 3) (size := 1) (w.alloc (.cells #[.int .i64 t.f, .int .i64 t.v, .slice a t.kids.length c] 33)) #[] 0 (Nat.le_refl _) (Nat.zero_le _) rfl
    simpa [OutRow, ints] using this
  have I := specVars_any (partsT t) t a c hi w.heap.size (w.heap.size + 1) 0 [] _ (Nat.le_refl _) (by simpa using hp) (hr.on (h0.mono hhi)) (Nat.le_trans hhi h0.size) h0.size (own_lower O0 (by omega))
  simp only [List.length_nil] at I
  generalize t.kids = ks at *
  go_enter Try.func24, Try.ntmps24
  go_wp2_with (go_at_call 29; refine I.mono ?_; rintro e w1 ⟨g1, c1, rfl, hO1, hb1⟩; clear I)
  go_ret
  exact ⟨g1, c1, rfl, hO1, h0.trans (hb1.mono h0.size)⟩
end Go.Proofs.Ytpmmgplpmonolab
