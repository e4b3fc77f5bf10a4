/- Weights, as the specification tells them. Conditions: terms of at most 4194304 parts. -/
import Derived.Test.YtpmmgplpmonolabWgtA
import Derived.Test.YtpmmgplpmonolabBl
namespace Go.Proofs.Ytpmmgplpmonolab
set_option maxRecDepth 100000
open Go.RowKit

theorem wgtT_split (bl : Int → Bool) (f v : Int) (ks : List TermD) : wgtT bl (.mk f v ks) = (if bl f && !ks.isEmpty then ks.length - 1 else 1) + wgtL bl ks := by rw [wgtT]

set_option maxHeartbeats 3200000 in
theorem specWeight_any (sa : Option Addr) (ss : List SymD) (sc : Nat) (hss : ss.length ≤ 1048577) (N : Nat) : ∀ (t : TermD) (a : Option Addr) (c hi : Nat) (w : World), isW t.f → RdS w sa ss → partsT t ≤ N → N ≤ 4194304 → RdK w hi a t.kids → hi ≤ w.heap.size →
    Calls Try.prog 7 #[.slice sa ss.length sc, .agg #[.int .i64 t.f, .int .i64 t.v, .slice a t.kids.length c]] w fun e w' => e = .returned (.int .i64 (wgtT (blindAt ss) t : Nat)) ∧ Below w.heap.size w w' := by
  induction N with
  | zero => intro t a c hi w _ _ h; rw [partsT_eq] at h; omega
  | succ N ih =>
    intro t a c hi w hf hs hN hM hr hhi
    obtain ⟨f, v, ks⟩ := t
    simp only [TermD.f, TermD.v, TermD.kids] at *
    rw [partsT] at hN
    have hlen := partsL_len ks
    have HR : Hid (RdK w hi a ks) := hr
    have HS : Hid (RdS w sa ss) := hs
    have HW0 : Hid (wgtT (blindAt ss) (.mk f v ks) = (if blindAt ss f && !ks.isEmpty then ks.length - 1 else 1) + wgtL (blindAt ss) ks) := wgtT_split _ f v ks
    clear hr
    obtain ⟨W, hW⟩ : ∃ W, W = w.alloc (.cells #[.int .i64 f, .int .i64 v, .slice a ks.length c] 33) := ⟨_, rfl⟩
    have hb0 : Below w.heap.size w W := by rw [hW]; exact (Below.refl w.heap.size w).alloc (Nat.le_refl _) _
    have C := specBlind_any sa ss ss.length sc f W rfl (hs.below hb0) hss hf.1 hf.2
    have hct0 : W.cell? ⟨w.heap.size, 2, none⟩ = some (.slice a ks.length c) := by rw [hW]; simp [go_sem]
    have hwl0 : w.heap.size < W.heap.size := by rw [hW]; simp
    clear hf hs
    cases hbl : blindAt ss f with
    | true =>
      rw [hbl] at C
      by_cases h0 : ks.length = 0
      · have hke := List.eq_nil_of_length_eq_zero h0
        subst hke
        have HW : Hid (wgtT (blindAt ss) (.mk f v []) = 1) := by show _ = _; rw [HW0.out]; simp [wgtL]
        simp only [List.length_nil] at *
        clear HW0 hbl
        go_enter Try.func7, Try.ntmps7
        go_wp2_with (go_at_call 17; rw [← hW]; refine C.mono ?_; rintro e w2 ⟨rfl, hw⟩; subst w2; clear hW C)
        refine wp_loop_rounds 1 ?_
        rw [rounds_succ]
        go_wp2
        go_ret
        exact ⟨rtI (by rw [HW.out]; rfl), hb0⟩
      · have HW : Hid (wgtT (blindAt ss) (.mk f v ks) = (ks.length - 1) + wgtL (blindAt ss) ks) := by
          show _ = _; rw [HW0.out, hbl]
          cases ks with
          | nil => simp at h0
          | cons x xs => simp
        have h1 : 0 < ks.length := by omega
        clear HW0 hbl h0
        go_enter Try.func7, Try.ntmps7
        go_wp2_with (go_at_call 17; rw [← hW]; refine C.mono ?_; rintro e w2 ⟨rfl, hw⟩; subst w2; clear hW C)
        go_loopw [5, 6] (fun n i wr => ∃ k : Nat, k ≤ ks.length ∧ i = .int .i64 k ∧ n = .int .i64 (((ks.length - 1) + wgtL (blindAt ss) (ks.take k) : Nat) : Int) ∧ wr.cell? ⟨w.heap.size, 2, none⟩ = some (.slice a ks.length c) ∧ Below w.heap.size w wr ∧ w.heap.size < wr.heap.size) (fun _ i _ => ks.length - (intOf i).toNat)
        case atStart => exact ⟨0, Nat.zero_le _, rfl, by simp [wgtL]; omega, hct0, hb0, hwl0⟩
        case round =>
          obtain ⟨k, hk, rfl, rfl, hct, hbr, hwl⟩ := hrel
          have hpk := partsL_rest ks k
          have hwk := wgtL_parts (blindAt ss) (ks.take k)
          have hlt2 : (ks.take k).length ≤ ks.length := by rw [List.length_take]; omega
          clear hb0 hct0 hwl0
          by_cases hk' : k < ks.length
          · obtain ⟨b, off, a', c', rfl, hlt, d0, d1, d2, hkr⟩ := RdK.kid (HR.out.on (hbr.mono hhi)) hk'
            have hpg := partsL_get hk'
            have hwg := wgtT_parts (blindAt ss) ks[k]
            have hki : (k : Int) < (ks.length : Int) := by omega
            have HP : Hid (wgtL (blindAt ss) (ks.take (k + 1)) = wgtL (blindAt ss) (ks.take k) + wgtT (blindAt ss) ks[k]) := wgtL_next (blindAt ss) hk'
            have I := ih ks[k] a' c' hi wr (RdK.ints HR.out hk').1 (HS.out.below (hbr.mono (Nat.le_refl _))) (by omega) (by omega) hkr (Nat.le_trans hhi hbr.size)
            clear hkr
            go_wp2_with (go_at_call 7; refine I.mono ?_; rintro e w1 ⟨rfl, hb1⟩; clear I; have hct1 := (hb1.cell (p := ⟨w.heap.size, 2, none⟩) hwl).trans hct; have hbb := hbr.trans (hb1.mono hbr.size); have hwl1 : w.heap.size < w1.heap.size := (Nat.lt_of_lt_of_le hwl hb1.size); clear hbr hb1)
            go_roundw
            case rel => exact ⟨k + 1, by omega, by go_num, by rw [HP.out]; go_num, hct1, hbb, hwl1⟩
            case measure => simp [intOf]; omega
          · have E : Hid (k = ks.length) := (by omega : k = ks.length)
            go_wp2_with fail
            go_ret
            refine ⟨rtI ?_, hbr⟩
            rw [HW.out, E.out, List.take_length]
    | false =>
      rw [hbl] at C
      have HW : Hid (wgtT (blindAt ss) (.mk f v ks) = 1 + wgtL (blindAt ss) ks) := by show _ = _; rw [HW0.out, hbl]; simp
      clear HW0 hbl
      go_enter Try.func7, Try.ntmps7
      go_wp2_with (go_at_call 17; rw [← hW]; refine C.mono ?_; rintro e w2 ⟨rfl, hw⟩; subst w2; clear hW C)
      go_loopw [5, 6] (fun n i wr => ∃ k : Nat, k ≤ ks.length ∧ i = .int .i64 k ∧ n = .int .i64 ((1 + wgtL (blindAt ss) (ks.take k) : Nat) : Int) ∧ wr.cell? ⟨w.heap.size, 2, none⟩ = some (.slice a ks.length c) ∧ Below w.heap.size w wr ∧ w.heap.size < wr.heap.size) (fun _ i _ => ks.length - (intOf i).toNat)
      case atStart => exact ⟨0, Nat.zero_le _, rfl, by simp [wgtL], hct0, hb0, hwl0⟩
      case round =>
        obtain ⟨k, hk, rfl, rfl, hct, hbr, hwl⟩ := hrel
        have hpk := partsL_rest ks k
        have hwk := wgtL_parts (blindAt ss) (ks.take k)
        have hlt2 : (ks.take k).length ≤ ks.length := by rw [List.length_take]; omega
        clear hb0 hct0 hwl0
        by_cases hk' : k < ks.length
        · obtain ⟨b, off, a', c', rfl, hlt, d0, d1, d2, hkr⟩ := RdK.kid (HR.out.on (hbr.mono hhi)) hk'
          have hpg := partsL_get hk'
          have hwg := wgtT_parts (blindAt ss) ks[k]
          have hki : (k : Int) < (ks.length : Int) := by omega
          have HP : Hid (wgtL (blindAt ss) (ks.take (k + 1)) = wgtL (blindAt ss) (ks.take k) + wgtT (blindAt ss) ks[k]) := wgtL_next (blindAt ss) hk'
          have I := ih ks[k] a' c' hi wr (RdK.ints HR.out hk').1 (HS.out.below (hbr.mono (Nat.le_refl _))) (by omega) (by omega) hkr (Nat.le_trans hhi hbr.size)
          clear hkr
          go_wp2_with (go_at_call 7; refine I.mono ?_; rintro e w1 ⟨rfl, hb1⟩; clear I; have hct1 := (hb1.cell (p := ⟨w.heap.size, 2, none⟩) hwl).trans hct; have hbb := hbr.trans (hb1.mono hbr.size); have hwl1 : w.heap.size < w1.heap.size := (Nat.lt_of_lt_of_le hwl hb1.size); clear hbr hb1)
          go_roundw
          case rel => exact ⟨k + 1, by omega, by go_num, by rw [HP.out]; go_num, hct1, hbb, hwl1⟩
          case measure => simp [intOf]; omega
        · have E : Hid (k = ks.length) := (by omega : k = ks.length)
          go_wp2_with fail
          go_ret
          refine ⟨rtI ?_, hbr⟩
          rw [HW.out, E.out, List.take_length]
end Go.Proofs.Ytpmmgplpmonolab
