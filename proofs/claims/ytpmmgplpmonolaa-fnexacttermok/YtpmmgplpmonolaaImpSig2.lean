/- Contract of the program's SigOk. Conditions: names that are strings of the model. -/
import Derived.Test.YtpmmgplpmonolaaImpSig
import Derived.Deep.DeepMust
namespace Go.Proofs.Ytpmmgplpmonolaa
set_option maxRecDepth 100000
open Go.RowKit Go.Maps Go.WideMaps

theorem len_pos_iff (l : List Int) : l ≠ [] ↔ (0 : Int) < (l.length : Int) := by
  cases l <;> simp

theorem isTT_parts {s : SymD} (h : isTT s = true) : s.name = ⟨#[116, 116]⟩ ∧ s.ar = 0 ∧ s.ac = false := by
  unfold isTT at h
  simp only [ByteArray.toList_eq, Bool.and_eq_true, beq_iff_eq, Bool.not_eq_true'] at h
  obtain ⟨⟨a1, a2⟩, a3⟩ := h
  refine ⟨?_, a2, a3⟩
  have e1 : s.name.data = #[116, 116] := by apply Array.toList_inj.1; exact a1
  cases hx : s.name with
  | mk d => rw [hx] at e1; exact congrArg _ e1

theorem after_del {w w3 : World} {m c : Nat} {av : Option Addr} {t : TypeId} {n : Nat} (h : (w.alloc (.cells #[.map (some m), .slice av n c] t)).grownBy w3 (some m)) (hm : m < w.heap.size) : w3.cell? ⟨w.heap.size, 0, none⟩ = some (.map (some m)) :=
  h.cell (by simp [go_sem]) (by simp; omega)

theorem below_grown {w w' : World} (h : Below w.heap.size w w') : w.grownBy w' none := ⟨h.os, h.tape, h.output, h.size, fun k hk _ => h.block k hk⟩

theorem key_tt : keyOf Try.prog 9 (.string ⟨#[116, 116]⟩) = some (.string [116, 116]) := keyOf_string_mk Try.underlying9 (by decide)

set_option maxHeartbeats 1600000 in
theorem impSigOk_any (a : Option Addr) (ss : List SymD) (n cap : Nat) (w : World) (hn : n = ss.length) (hr : RdS w a ss) (hsz : ∀ s ∈ ss, s.name.size ≤ maxLen) :
    Calls Try.prog 68 #[.slice a n cap] w fun e w' => e = .returned (.bool (sigOk ss)) ∧ Below w.heap.size w w' := by
  subst hn
  by_cases h1 : (ss.length : Int) < 1
  · have HN : Hid (sigOk ss = false) := sig_short h1
    go_enter Try.func68, Try.ntmps68
    go_wp2
    go_ret
    exact ⟨ret_bool HN.out.symm, Below.refl _ _⟩
  by_cases h8 : (8 : Int) < (ss.length : Int)
  · have HN : Hid (sigOk ss = false) := sig_long h8
    go_enter Try.func68, Try.ntmps68
    go_wp2
    go_ret
    exact ⟨ret_bool HN.out.symm, Below.refl _ _⟩
  have TB := tableOf_any a ss _ cap w rfl hr (by omega) hsz
  have hf0 := field0
  have hf1 := field1
  cases HA0 : againTo ss ss.length with
  | cons x xs =>
    have HN : Hid (sigOk ss = false) := again_bad (by rw [HA0]; simp)
    rw [HA0] at TB
    clear HA0
    go_enter Try.func68, Try.ntmps68
    go_wp2_with (go_at_call 95; refine TB.mono ?_; rintro e w2 ⟨av, cv, D, rfl, hown, hm, _, hb, _⟩; clear TB)
    go_ret
    exact ⟨ret_bool HN.out.symm, hb.alloc (by have := hb.size; omega) _⟩
  | nil =>
  have HA : Hid (againTo ss ss.length = []) := HA0
  rw [HA0] at TB
  clear HA0
  rcases hr with rfl | ⟨b, off, rfl, hlt, hc⟩
  · simp at h1
  obtain ⟨c0, c1, c2⟩ := hc 0 (by omega)
  simp only [Nat.zero_mul, Nat.add_zero] at c0 c1 c2
  have hp : (0 : Int) < (ss.length : Int) := by omega
  have hp' : 0 < ss.length := by omega
  by_cases hT : isTT ss[0] = true
  · have e0 : ss[0].name = ⟨#[116, 116]⟩ ∧ ss[0].ar = 0 ∧ ss[0].ac = false := isTT_parts hT
    have HT : Hid (isTT ss[0] = true) := hT
    rw [e0.1] at c0
    rw [e0.2.1] at c1
    rw [e0.2.2] at c2
    clear e0 hT
    go_enter Try.func68, Try.ntmps68
    go_wp2_with (first
      | (go_at_call 95; refine TB.mono ?_; rintro e w2 ⟨av, cv, D, rfl, hown, hm, _, hb, hw2⟩; have hlt2 : b < w2.heap.size := (by have := hb.size; omega); have d0 := (hb.cell (p := ⟨b, off, none⟩) hlt).trans c0; have d1 := (hb.cell (p := ⟨b, off + 1, none⟩) hlt).trans c1; have d2 := (hb.cell (p := ⟨b, off + 2, none⟩) hlt).trans c2; clear TB)
      | (at_delete; (refine wpList_delete_own _ rfl _ _ 123 9 rfl 3 law9 Try.underlying123 _ (w.heap.size + 1) ss.length D rfl (hown.alloc _) _ _ rfl key_tt ?_; intro w3 hown3 hturn3; have hg3 := hturn3.grown; have q0 := after_del hg3 (by omega); have hb3 : Below w.heap.size w w3 := (hb.alloc (by omega) _).grown hg3 (by simp; omega) (by intro j hj; cases hj; omega); clear hturn3 hown hb d0 d1 d2))
      | (at_range; (refine wpList_range_own _ rfl _ 123 rfl 9 3 law9 Try.underlying123 _ (w.heap.size + 1) ss.length _ rfl hown3 ?_; intro w4 hrg0 hg4 hs4)))
    go_frame
    have hb4 : Below w.heap.size w w4 := hb3.grown hg4 (by have := hb3.size; omega) (by simp)
    have hr3 : w.heap.size ≤ w3.heap.size := hb3.size
    have HR : Hid (∀ n i, n ≠ [116, 116] → (hi : idx ss n = some i) → okB (ss[i]'(idx_lt hi)) = true) → Hid (sigOk ss = true) := fun h => sig_right hp' (by omega) HA.out HT.out h.out
    have HA1 := asked_start hm
    clear q0 hb3 hg3 hg4 hs4 hown3
    go_loopw [5] (fun _ wr => ∃ (left : Lit → Bool) (cnt : Nat), wr.ranges Try.prog 9 (plainElem Try.prog 3) (w.heap.size + 1) w3.heap.size ss.length (D.del (.string [116, 116])) left cnt ∧ Asked ss (D.del (.string [116, 116])) left ∧ Below w.heap.size w wr) (fun _ wr => wr.rangeLeft (w.heap.size + 1) w3.heap.size)
    case atStart => exact ⟨_, _, hrg0, HA1, hb4⟩
    case round =>
      obtain ⟨left, cnt, hrg, hA, hbr⟩ := hrel
      clear hrg0 hb4 HA1
      go_wp2_with (at_next; refine next_si Try.underlying9 Try.underlying3 _ rfl _ rfl (w.heap.size + 1) w3.heap.size ss.length _ left cnt rfl hrg ?_ ?_)
      · intro _ hl0
        have HE : Hid (sigOk ss = true) := HR (fun n i hn hi => hA.right n i hn (hl0 _) hi)
        go_wp2
        go_ret
        exact ⟨ret_bool HE.out.symm, hbr⟩
      · intro s c w5 cnt5 hls hat hrg5 hlt5 hg5 hs5 hen
        obtain ⟨i, hi, rfl⟩ := asked_one hm hA hls hat
        have hil := idx_lt hi
        have hil' : (i : Int) < (ss.length : Int) := by omega
        obtain ⟨e0, e1, e2⟩ := hc i hil
        have hb5 : Below w.heap.size w w5 := hbr.grown hg5 hbr.size (by intro j hj; cases hj; omega)
        have f0 := (hb5.cell (p := ⟨b, off + i * 3, none⟩) hlt).trans e0
        have f1 := (hb5.cell (p := ⟨b, off + i * 3 + 1, none⟩) hlt).trans e1
        have f2 := (hb5.cell (p := ⟨b, off + i * 3 + 2, none⟩) hlt).trans e2
        have SO := fun w => symIsOk_any ss[i] w
        clear e0 e1 e2 hat hls
        cases ho : okB ss[i] with
        | true =>
          have hA5 := asked_next hA hi ho
          rw [ho] at SO
          go_wp2_with (go_at_call 96; refine (SO _).mono ?_; rintro e w6 ⟨rfl, hb6⟩)
          go_roundw
          case rel => exact ⟨_, cnt5, hrg5.kept (below_grown hb6) (by simp) (by simp), hA5, hb5.trans (hb6.mono hb5.size)⟩
          case measure => rw [(hrg5.kept (below_grown hb6) (by simp) (by simp)).left_eq, hrg.left_eq]; omega
        | false =>
          have HN : Hid (sigOk ss = false) := sig_bad hil (bad_ok ho)
          rw [ho] at SO
          go_wp2_with (go_at_call 96; refine (SO _).mono ?_; rintro e w6 ⟨rfl, hb6⟩)
          go_ret
          exact ⟨ret_bool HN.out.symm, hb5.trans (hb6.mono hb5.size)⟩
  · rw [Bool.not_eq_true] at hT
    have HN : Hid (sigOk ss = false) := sig_notTT hp' hT
    go_enter Try.func68, Try.ntmps68
    go_wp2_with (go_at_call 95; refine TB.mono ?_; rintro e w2 ⟨av, cv, D, rfl, hown, hm, _, hb, _⟩; have hlt2 : b < w2.heap.size := (by have := hb.size; omega); have d0 := (hb.cell (p := ⟨b, off, none⟩) hlt).trans c0; have d1 := (hb.cell (p := ⟨b, off + 1, none⟩) hlt).trans c1; have d2 := (hb.cell (p := ⟨b, off + 2, none⟩) hlt).trans c2; clear TB)
    all_goals first
      | (go_ret; exact ⟨ret_bool HN.out.symm, hb.alloc (by have := hb.size; omega) _⟩)
      | (exfalso; revert hT; simp [isTT, *])
end Go.Proofs.Ytpmmgplpmonolaa
