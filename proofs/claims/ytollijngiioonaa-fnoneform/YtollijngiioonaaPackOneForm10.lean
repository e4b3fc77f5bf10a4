/- What the proof of FnOneForm stands on, part 10 of 11: each piece says what it proves and under which conditions. Conditions: as each piece says. -/
import Derived.Test.YtollijngiioonaaPackOneForm9
import Derived.Deep.QuietTactic
import Derived.BigQuiet
import Derived.WalkKit
import Derived.ProofKit
import Derived.OpenShut
import Derived.WalkSmall
import Derived.Below
import Derived.RegionTactic
/- Whether a term is right, as the specification tells it. Conditions: terms of at most 549755813888 parts, at most 1048577 functions. -/
namespace Go.Proofs.Ytollijngiioonaa
set_option maxRecDepth 100000
open Go.RowKit Go.BigFrame

theorem rightT_mk (ss : List SymD) (f v : Int) (ks : List TermD) : rightT ss (.mk f v ks) = if f = -1 then decide (0 ≤ v ∧ v ≤ 99) && ks.isEmpty
    else decide (0 ≤ f ∧ f < ss.length) && v == 0 && (if blindAt ss f then decide (2 ≤ ks.length) else (ks.length : Int) == arityAt ss f) && rightL ss f none ks := by rw [rightT]

theorem l1In_any (x lo hi : Int) (w : World) : Calls Try.prog 48 #[.int .i64 x, .int .i64 lo, .int .i64 hi] w fun e w' => e = .returned (.bool (decide (lo ≤ x) && decide (x ≤ hi))) ∧ w' = w := by
  by_cases h : lo ≤ x
  · go_enter Try.func48, Try.ntmps48
    go_wp2
    go_ret
    exact ⟨rtB (by simp [h]), rfl⟩
  · go_enter Try.func48, Try.ntmps48
    go_wp2
    go_ret
    exact ⟨rtB (by simp; omega), rfl⟩

set_option maxHeartbeats 3200000 in
theorem l4Right_any (sa : Option Addr) (ss : List SymD) (sc : Nat) (hss : ss.length ≤ 1048577) (N : Nat) : ∀ (t : TermD) (a : Option Addr) (c hi : Nat) (w : World), isW t.f → RdS w sa ss → partsT t ≤ N → N ≤ 549755813888 → RdK w hi a t.kids → hi ≤ w.heap.size →
    Calls Try.prog 76 #[.slice sa ss.length sc, .agg #[.int .i64 t.f, .int .i64 t.v, .slice a t.kids.length c]] w fun e w' => e = .returned (.bool (rightT ss t)) ∧ Below w.heap.size w w' := by
  induction N with
  | zero => intro t a c hi w _ _ h; rw [partsT_eq] at h; omega
  | succ N ih =>
    intro t a c hi w hf hs hN hM hr hhi
    obtain ⟨f, v, ks⟩ := t
    simp only [TermD.f, TermD.v, TermD.kids] at hf hr ⊢
    rw [partsT] at hN
    have hlen := partsL_len ks
    have HR : Hid (RdK w hi a ks) := hr
    have HS : Hid (RdS w sa ss) := hs
    have HW0 : Hid _ := rightT_mk ss f v ks
    obtain ⟨W, hW⟩ : ∃ W, W = w.alloc (.cells #[.int .i64 f, .int .i64 v, .slice a ks.length c] 27) := ⟨_, rfl⟩
    have hb0 : Below w.heap.size w W := by rw [hW]; exact (Below.refl w.heap.size w).alloc (Nat.le_refl _) _
    have p0 : W.cell? ⟨w.heap.size, 0, none⟩ = some (.int .i64 f) := by rw [hW]; simp [go_sem]
    have p1 : W.cell? ⟨w.heap.size, 1, none⟩ = some (.int .i64 v) := by rw [hW]; simp [go_sem]
    have p2 : W.cell? ⟨w.heap.size, 2, none⟩ = some (.slice a ks.length c) := by rw [hW]; simp [go_sem]
    have hwl0 : w.heap.size < W.heap.size := by rw [hW]; simp
    have hf0 := hf.1
    have hf1 := hf.2
    clear hf hr
    by_cases hv : f = -1
    · have HW : Hid (rightT ss (.mk f v ks) = (decide (0 ≤ v) && decide (v ≤ 99) && decide (ks.length = 0))) := by
        show _ = _
        rw [HW0.out, if_pos hv]
        cases ks <;> by_cases h1 : 0 ≤ v <;> by_cases h2 : v ≤ 99 <;> simp [h1, h2]
      have hfe : (f == -1) = true := by simp [hv]
      clear HW0 hs hv
      generalize ks.length = m at *
      go_enter Try.func76, Try.ntmps76
      go_wp2_with go_in
      all_goals
        go_ret
        refine ⟨rtB ?_, by rw [hW] at hb0; exact hb0⟩
        rw [HW.out]
        first
          | (simp; omega)
          | (simp; intros; omega)
          | (by_cases hm : m = 0 <;> simp [*] <;> omega)
          | (by_cases hm : m = 0 <;> simp [*])
    · have hfe : (f == -1) = false := by simp [hv]
      by_cases hin : 0 ≤ f ∧ f < (ss.length : Int)
      · obtain ⟨k, rfl⟩ := Int.eq_ofNat_of_zero_le hin.1
        have hk : k < ss.length := by omega
        have IN := fun w => l1In_any k 0 ((ss.length : Int) - 1) w
        rw [show (decide ((0 : Int) ≤ k) && decide ((k : Int) ≤ (ss.length : Int) - 1)) = true by simp; omega] at IN
        have hki : (k : Int) < (ss.length : Int) := by omega
        have hk0 : (0 : Int) ≤ (k : Int) := by omega
        have hsl : (ss.length : Int) ≤ 1048577 := by omega
        rcases hs with rfl | ⟨b0, o0, rfl, hbl, hcs⟩
        · simp at hk
        · obtain ⟨_, c1, c2⟩ := hcs k hk
          have c2o := c2
          have c1 := keepC hb0 c1
          have c2 := keepC hb0 c2
          have hwr : IntKind.i64.wrap ((ss.length : Int) - 1) = (ss.length : Int) - 1 := by rw [IntKind.wrap_i64]; omega
          have HA : Hid (blindAt ss k = ss[k].ac ∧ arityAt ss k = ss[k].ar) := ⟨blindAt_in hk, arityAt_in hk⟩
          clear hcs hin
          by_cases hv0 : v = 0
          · have hve : (v == 0) = true := by simp [hv0]
            have hvn : (v != 0) = false := by simp [hv0]
            cases hac : ss[k].ac with
            | false =>
              have hnac : (!ss[k].ac) = true := by rw [hac]; rfl
              rw [hac] at HA c2 c2o
              by_cases hea : (ks.length : Int) = ss[k].ar
              · have hne : ((ks.length : Int) == ss[k].ar) = true := by simp [hea]
                have hnn : ((ks.length : Int) != ss[k].ar) = false := by simp [hea]
                have HW : Hid (rightT ss (.mk k v ks) = rightL ss k none ks) := by show _ = _; rw [HW0.out, if_neg hv, HA.out.1, HA.out.2, hve, hne, decide_eq_true (by omega)]; simp
                have cc2 := c2o
                clear HW0 hv hv0 hea
                go_enter Try.func76, Try.ntmps76
                go_wp2_with fail
                rw [← hW]
                clear hW
                go_quiet ((go_at_call 48; refine Calls.quiet_of_same (IN _)))
                go_wp2_with fail
                go_loopw [5] (fun i wr => ∃ j : Nat, j ≤ ks.length ∧ i = .int .i64 j ∧ Hid (rightL ss k none ks = rightL ss k (if j = 0 then none else ks[j-1]?) (ks.drop j)) ∧ wr.cell? ⟨w.heap.size, 0, none⟩ = some (.int .i64 k) ∧ wr.cell? ⟨w.heap.size, 2, none⟩ = some (.slice a ks.length c) ∧ Below w.heap.size w wr ∧ w.heap.size < wr.heap.size) (fun i _ => ks.length - (intOf i).toNat)
                case atStart => exact ⟨0, Nat.zero_le _, rfl, by show _ = _; simp, p0, p2, below_drewN hb0 _, hwl0⟩
                case round =>
                  obtain ⟨j, hj, rfl, HK, hp0, hp2, hbr, hwl⟩ := hrel
                  clear p0 p1 p2 hb0 hwl0 c1
                  by_cases hj' : j < ks.length
                  · obtain ⟨b, off, a', c', rfl, hlt, d0, d1, d2, hkr⟩ := RdK.kid (HR.out.on (hbr.mono hhi)) hj'
                    have hji : (j : Int) < (ks.length : Int) := by omega
                    have hj0 : (0 : Int) ≤ (j : Int) := by omega
                    have hli : (ks.length : Int) ≤ 549755813888 := by omega
                    have hpg := partsL_get hj'
                    have HD : Hid (ks.drop j = ks[j] :: ks.drop (j + 1)) := List.drop_eq_getElem_cons hj'
                    have g2 : wr.cell? ⟨b0, o0 + k * 3 + 2, none⟩ = some (.bool false) := hbr.cell (p := ⟨b0, o0 + k * 3 + 2, none⟩) hbl |>.trans cc2
                    have IR0 := fun W' (h : Below wr.heap.size wr W') => ih ks[j] a' c' hi W' (RdK.ints HR.out hj').1 (HS.out.below (hbr.trans (h.mono hbr.size))) (by omega) (by omega) (hkr.on (h.mono (Nat.le_trans hhi hbr.size))) (Nat.le_trans hhi (Nat.le_trans hbr.size h.size))
                    cases hrt : rightT ss ks[j] with
                    | false =>
                      have IR : ∀ W', Below wr.heap.size wr W' → Calls Try.prog 76 #[.slice (some ⟨b0, o0, none⟩) ss.length sc, .agg #[.int .i64 ks[j].f, .int .i64 ks[j].v, .slice a' ks[j].kids.length c']] W' fun e w' => e = .returned (.bool false) ∧ Below W'.heap.size W' w' := fun W' h => by have := IR0 W' h; rwa [hrt] at this
                      have HF : Hid (rightT ss (.mk k v ks) = false) := by show _ = _; rw [HW.out, HK.out, HD.out, rightL, hrt]; simp
                      clear IR0 HK HD hrt hkr
                      go_wp2_with fail
                      have k0 := cellB hp0
                      have k2 := cellB hp2
                      have k3 := cellB g2
                      have k4 := cellB d0
                      have k5 := cellB d1
                      have k6 := cellB d2
                      refine wp_region_below (by kernel_rfl) (by kernel_rfl) ?_
                      repeat (go_big_quiet_step ((first | (go_at_call 76; refine callsB (IR _ (BW.b _))))))
                      refine wpQuiet_nil ?_
                      intro w2 hw'
                      have hb2 : Below wr.heap.size wr w2 := by obtain ⟨p, rfl⟩ := hw'; exact p.b
                      clear hw'
                      have hB2 : Below w.heap.size w w2 := hbr.trans (hb2.mono hbr.size)
                      have q0 := keepC hb2 hp0
                      have q2 := keepC hb2 hp2
                      clear k0 k2 k3 k4 k5 k6
                      go_wp2_with fail
                      go_ret
                      exact ⟨rtB HF.out.symm, hB2⟩
                    | true =>
                      have IR : ∀ W', Below wr.heap.size wr W' → Calls Try.prog 76 #[.slice (some ⟨b0, o0, none⟩) ss.length sc, .agg #[.int .i64 ks[j].f, .int .i64 ks[j].v, .slice a' ks[j].kids.length c']] W' fun e w' => e = .returned (.bool true) ∧ Below W'.heap.size W' w' := fun W' h => by have := IR0 W' h; rwa [hrt] at this
                      have HN : Hid (rightL ss k none ks = rightL ss k (if j + 1 = 0 then none else ks[j + 1 - 1]?) (ks.drop (j + 1))) := by show _ = _; rw [HK.out, HD.out, rightL, hrt, if_neg (by omega : ¬ j + 1 = 0), show j + 1 - 1 = j by omega, List.getElem?_eq_getElem hj']; rw [HA.out.1]; simp
                      clear IR0 HK HD hrt hkr
                      go_wp2_with fail
                      have k0 := cellB hp0
                      have k2 := cellB hp2
                      have k3 := cellB g2
                      have k4 := cellB d0
                      have k5 := cellB d1
                      have k6 := cellB d2
                      refine wp_region_below (by kernel_rfl) (by kernel_rfl) ?_
                      repeat (go_big_quiet_step ((first | (go_at_call 76; refine callsB (IR _ (BW.b _))))))
                      refine wpQuiet_nil ?_
                      intro w2 hw'
                      have hb2 : Below wr.heap.size wr w2 := by obtain ⟨p, rfl⟩ := hw'; exact p.b
                      clear hw'
                      have hB2 : Below w.heap.size w w2 := hbr.trans (hb2.mono hbr.size)
                      have q0 := keepC hb2 hp0
                      have q2 := keepC hb2 hp2
                      clear k0 k2 k3 k4 k5 k6
                      go_wp2_with fail
                      go_roundw
                      case rel => exact ⟨j + 1, by omega, by go_num, HN, q0, q2, hB2, World.block_lt_of_cell? _ _ q0⟩
                      case measure => simp [intOf]; omega
                  · have HE : Hid (rightT ss (.mk k v ks) = true) := by show _ = _; rw [HW.out, HK.out, List.drop_eq_nil_of_le (by omega), rightL]
                    clear HK
                    go_wp2_with fail
                    go_ret
                    exact ⟨rtB HE.out.symm, hbr⟩
              · have hne : ((ks.length : Int) == ss[k].ar) = false := by simp [hea]
                have hnn : ((ks.length : Int) != ss[k].ar) = true := by simp [hea]
                have HW : Hid (rightT ss (.mk k v ks) = false) := by show _ = _; rw [HW0.out, if_neg hv, HA.out.1, HA.out.2, hne]; simp
                clear HW0 hv hv0 HA hea
                go_enter Try.func76, Try.ntmps76
                go_wp2_with fail
                rw [← hW]
                clear hW
                go_quiet ((go_at_call 48; refine Calls.quiet_of_same (IN _)))
                go_wp2_with fail
                go_ret
                exact ⟨rtB HW.out.symm, below_drewN hb0 _⟩
            | true =>
              have hnac : (!ss[k].ac) = false := by rw [hac]; rfl
              rw [hac] at HA c2 c2o
              by_cases hl2 : ks.length < 2
              · have hl2i : decide ((ks.length : Int) < 2) = true := by simp; omega
                have HW : Hid (rightT ss (.mk k v ks) = false) := by show _ = _; rw [HW0.out, if_neg hv, HA.out.1, if_pos rfl, decide_eq_false (by omega : ¬ 2 ≤ ks.length)]; simp
                clear HW0 hv hv0 HA hl2
                go_enter Try.func76, Try.ntmps76
                go_wp2_with fail
                rw [← hW]
                clear hW
                go_quiet ((go_at_call 48; refine Calls.quiet_of_same (IN _)))
                go_wp2_with fail
                go_ret
                exact ⟨rtB HW.out.symm, below_drewN hb0 _⟩
              · have hl2i : decide ((ks.length : Int) < 2) = false := by simp; omega
                have HW : Hid (rightT ss (.mk k v ks) = rightL ss k none ks) := by show _ = _; rw [HW0.out, if_neg hv, HA.out.1, if_pos rfl, hve, decide_eq_true (by omega : 2 ≤ ks.length), decide_eq_true (by omega)]; simp
                have cc2 := c2o
                clear HW0 hv hv0 hl2
                go_enter Try.func76, Try.ntmps76
                go_wp2_with fail
                rw [← hW]
                clear hW
                go_quiet ((go_at_call 48; refine Calls.quiet_of_same (IN _)))
                go_wp2_with fail
                go_loopw [5] (fun i wr => ∃ j : Nat, j ≤ ks.length ∧ i = .int .i64 j ∧ Hid (rightL ss k none ks = rightL ss k (if j = 0 then none else ks[j-1]?) (ks.drop j)) ∧ wr.cell? ⟨w.heap.size, 0, none⟩ = some (.int .i64 k) ∧ wr.cell? ⟨w.heap.size, 2, none⟩ = some (.slice a ks.length c) ∧ Below w.heap.size w wr ∧ w.heap.size < wr.heap.size) (fun i _ => ks.length - (intOf i).toNat)
                case atStart => exact ⟨0, Nat.zero_le _, rfl, by show _ = _; simp, p0, p2, below_drewN hb0 _, hwl0⟩
                case round =>
                  obtain ⟨j, hj, rfl, HK, hp0, hp2, hbr, hwl⟩ := hrel
                  clear p0 p1 p2 hb0 hwl0 c1
                  by_cases hj' : j < ks.length
                  · obtain ⟨b, off, a', c', rfl, hlt, d0, d1, d2, hkr⟩ := RdK.kid (HR.out.on (hbr.mono hhi)) hj'
                    have hji : (j : Int) < (ks.length : Int) := by omega
                    have hj0 : (0 : Int) ≤ (j : Int) := by omega
                    have hli : (ks.length : Int) ≤ 549755813888 := by omega
                    have hpg := partsL_get hj'
                    have HD : Hid (ks.drop j = ks[j] :: ks.drop (j + 1)) := List.drop_eq_getElem_cons hj'
                    have g2 : wr.cell? ⟨b0, o0 + k * 3 + 2, none⟩ = some (.bool true) := hbr.cell (p := ⟨b0, o0 + k * 3 + 2, none⟩) hbl |>.trans cc2
                    have IR0 := fun W' (h : Below wr.heap.size wr W') => ih ks[j] a' c' hi W' (RdK.ints HR.out hj').1 (HS.out.below (hbr.trans (h.mono hbr.size))) (by omega) (by omega) (hkr.on (h.mono (Nat.le_trans hhi hbr.size))) (Nat.le_trans hhi (Nat.le_trans hbr.size h.size))
                    by_cases hkf : ks[j].f = k
                    · have hkfe : (ks[j].f == (k : Int)) = true := by simp [hkf]
                      have HF : Hid (rightT ss (.mk k v ks) = false) := by show _ = _; rw [HW.out, HK.out, HD.out, rightL, HA.out.1, hkfe]; simp
                      clear IR0 HK HD hkr hkf
                      go_wp2_with fail
                      go_quiet ((fail))
                      go_wp2_with fail
                      go_ret
                      exact ⟨rtB HF.out.symm, below_drewN hbr _⟩
                    · have hkfe : (ks[j].f == (k : Int)) = false := by simp [hkf]
                      by_cases hjz : j = 0
                      · have hjn : decide ((0 : Int) < (j : Int)) = false := by simp; omega
                        have hjn2 : decide (0 < j) = false := by simp; omega
                        have HJ : Hid ((if j = 0 then (none : Option TermD) else ks[j-1]?) = none) := by show _ = _; rw [if_pos hjz]
                        clear hjz hkf
                        cases hrt : rightT ss ks[j] with
                        | false =>
                          have IR : ∀ W', Below wr.heap.size wr W' → Calls Try.prog 76 #[.slice (some ⟨b0, o0, none⟩) ss.length sc, .agg #[.int .i64 ks[j].f, .int .i64 ks[j].v, .slice a' ks[j].kids.length c']] W' fun e w' => e = .returned (.bool false) ∧ Below W'.heap.size W' w' := fun W' h => by have := IR0 W' h; rwa [hrt] at this
                          have HF : Hid (rightT ss (.mk k v ks) = false) := by show _ = _; rw [HW.out, HK.out, HD.out, rightL, hrt]; simp
                          clear IR0 HK HD hrt hkr
                          go_wp2_with fail
                          have k0 := cellB hp0
                          have k2 := cellB hp2
                          have k3 := cellB g2
                          have k4 := cellB d0
                          have k5 := cellB d1
                          have k6 := cellB d2
                          refine wp_region_below (by kernel_rfl) (by kernel_rfl) ?_
                          repeat (go_big_quiet_step ((first | (go_at_call 76; refine callsB (IR _ (BW.b _))))))
                          refine wpQuiet_nil ?_
                          intro w2 hw'
                          have hb2 : Below wr.heap.size wr w2 := by obtain ⟨p, rfl⟩ := hw'; exact p.b
                          clear hw'
                          have hB2 : Below w.heap.size w w2 := hbr.trans (hb2.mono hbr.size)
                          have q0 := keepC hb2 hp0
                          have q2 := keepC hb2 hp2
                          clear k0 k2 k3 k4 k5 k6
                          go_wp2_with fail
                          go_ret
                          exact ⟨rtB HF.out.symm, hB2⟩
                        | true =>
                          have IR : ∀ W', Below wr.heap.size wr W' → Calls Try.prog 76 #[.slice (some ⟨b0, o0, none⟩) ss.length sc, .agg #[.int .i64 ks[j].f, .int .i64 ks[j].v, .slice a' ks[j].kids.length c']] W' fun e w' => e = .returned (.bool true) ∧ Below W'.heap.size W' w' := fun W' h => by have := IR0 W' h; rwa [hrt] at this
                          have HN : Hid (rightL ss k none ks = rightL ss k (if j + 1 = 0 then none else ks[j + 1 - 1]?) (ks.drop (j + 1))) := by show _ = _; rw [HK.out, HD.out, rightL, hrt, if_neg (by omega : ¬ j + 1 = 0), show j + 1 - 1 = j by omega, List.getElem?_eq_getElem hj']; rw [HJ.out, HA.out.1, hkfe]; simp [befO]
                          clear IR0 HK HD hrt hkr
                          go_wp2_with fail
                          have k0 := cellB hp0
                          have k2 := cellB hp2
                          have k3 := cellB g2
                          have k4 := cellB d0
                          have k5 := cellB d1
                          have k6 := cellB d2
                          refine wp_region_below (by kernel_rfl) (by kernel_rfl) ?_
                          repeat (go_big_quiet_step ((first | (go_at_call 76; refine callsB (IR _ (BW.b _))))))
                          refine wpQuiet_nil ?_
                          intro w2 hw'
                          have hb2 : Below wr.heap.size wr w2 := by obtain ⟨p, rfl⟩ := hw'; exact p.b
                          clear hw'
                          have hB2 : Below w.heap.size w w2 := hbr.trans (hb2.mono hbr.size)
                          have q0 := keepC hb2 hp0
                          have q2 := keepC hb2 hp2
                          clear k0 k2 k3 k4 k5 k6
                          go_wp2_with fail
                          go_roundw
                          case rel => exact ⟨j + 1, by omega, by go_num, HN, q0, q2, hB2, World.block_lt_of_cell? _ _ q0⟩
                          case measure => simp [intOf]; omega
                      · obtain ⟨i, rfl⟩ : ∃ i, j = i + 1 := ⟨j - 1, by omega⟩
                        have hi' : i < ks.length := by omega
                        obtain ⟨b9, off9, a9, c9, e9, hlt9, y0, y1, y2, hkr9⟩ := RdK.kid (HR.out.on (hbr.mono hhi)) hi'
                        cases e9
                        have hjn : (0 : Int) < ((i + 1 : Nat) : Int) := by omega
                        have hi0 : (0 : Int) ≤ (i : Int) := by omega
                        have hi1 : (i : Int) < (ks.length : Int) := by omega
                        have hsub : IntKind.i64.wrap (((i + 1 : Nat) : Int) - 1) = (i : Int) := by rw [IntKind.wrap_i64]; omega
                        have hsub2 : IntKind.i64.wrap ((i : Int) + 1 - 1) = (i : Int) := by rw [IntKind.wrap_i64]; omega
                        have hsub3 : IntKind.i64.wrap (i : Int) = (i : Int) := by rw [IntKind.wrap_i64]; omega
                        have HJ : Hid ((if i + 1 = 0 then (none : Option TermD) else ks[i + 1 - 1]?) = some ks[i]) := by show _ = _; rw [if_neg hjz, show i + 1 - 1 = i by omega, List.getElem?_eq_getElem hi']
                        have CB0 := fun W' (h : Below wr.heap.size wr W') => specBefore_any (partsT ks[i + 1]) ks[i + 1] ks[i] a' a9 c' c9 hi W' (Nat.le_refl _) (by omega) (hkr.on (h.mono (Nat.le_trans hhi hbr.size))) (hkr9.on (h.mono (Nat.le_trans hhi hbr.size))) (Nat.le_trans hhi (Nat.le_trans hbr.size h.size))
                        clear hjz hkf
                        cases hbf : befT ks[i + 1] ks[i] with
                        | true =>
                          have CB : ∀ W', Below wr.heap.size wr W' → Calls Try.prog 53 #[.agg #[.int .i64 ks[i + 1].f, .int .i64 ks[i + 1].v, .slice a' ks[i + 1].kids.length c'], .agg #[.int .i64 ks[i].f, .int .i64 ks[i].v, .slice a9 ks[i].kids.length c9]] W' fun e w' => e = .returned (.bool true) ∧ Below W'.heap.size W' w' := fun W' h => by have := CB0 W' h; rwa [hbf] at this
                          have HF : Hid (rightT ss (.mk k v ks) = false) := by show _ = _; rw [HW.out, HK.out, HD.out, rightL, HJ.out, HA.out.1, befO, hbf]; simp
                          clear IR0 CB0 HK HD hkr hkr9 hbf
                          go_wp2_with fail
                          have k0 := cellB hp0
                          have k2 := cellB hp2
                          have k3 := cellB g2
                          have k4 := cellB d0
                          have k5 := cellB d1
                          have k6 := cellB d2
                          have k7 := cellB y0
                          have k8 := cellB y1
                          have k9 := cellB y2
                          refine wp_region_below (by kernel_rfl) (by kernel_rfl) ?_
                          repeat (go_big_quiet_step ((go_at_call 53; refine callsB (CB _ (BW.b _)))))
                          refine wpQuiet_nil ?_
                          intro w2 hw'
                          have hb2 : Below wr.heap.size wr w2 := by obtain ⟨p, rfl⟩ := hw'; exact p.b
                          clear hw'
                          have hB2 : Below w.heap.size w w2 := hbr.trans (hb2.mono hbr.size)
                          clear k0 k2 k3 k4 k5 k6 k7 k8 k9
                          go_wp2_with fail
                          go_ret
                          exact ⟨rtB HF.out.symm, hB2⟩
                        | false =>
                          have CB : ∀ W', Below wr.heap.size wr W' → Calls Try.prog 53 #[.agg #[.int .i64 ks[i + 1].f, .int .i64 ks[i + 1].v, .slice a' ks[i + 1].kids.length c'], .agg #[.int .i64 ks[i].f, .int .i64 ks[i].v, .slice a9 ks[i].kids.length c9]] W' fun e w' => e = .returned (.bool false) ∧ Below W'.heap.size W' w' := fun W' h => by have := CB0 W' h; rwa [hbf] at this
                          clear CB0 hkr9
                          cases hrt : rightT ss ks[i + 1] with
                          | false =>
                            have IR : ∀ W', Below wr.heap.size wr W' → Calls Try.prog 76 #[.slice (some ⟨b0, o0, none⟩) ss.length sc, .agg #[.int .i64 ks[i + 1].f, .int .i64 ks[i + 1].v, .slice a' ks[i + 1].kids.length c']] W' fun e w' => e = .returned (.bool false) ∧ Below W'.heap.size W' w' := fun W' h => by have := IR0 W' h; rwa [hrt] at this
                            have HF : Hid (rightT ss (.mk k v ks) = false) := by show _ = _; rw [HW.out, HK.out, HD.out, rightL, hrt]; simp
                            clear IR0 HK HD hrt hkr hbf
                            go_wp2_with fail
                            have k0 := cellB hp0
                            have k2 := cellB hp2
                            have k3 := cellB g2
                            have k4 := cellB d0
                            have k5 := cellB d1
                            have k6 := cellB d2
                            have k7 := cellB y0
                            have k8 := cellB y1
                            have k9 := cellB y2
                            refine wp_region_below (by kernel_rfl) (by kernel_rfl) ?_
                            repeat (go_big_quiet_step ((first | (go_at_call 76; refine callsB (IR _ (BW.b _))) | (go_at_call 53; refine callsB (CB _ (BW.b _))))))
                            refine wpQuiet_nil ?_
                            intro w2 hw'
                            have hb2 : Below wr.heap.size wr w2 := by obtain ⟨p, rfl⟩ := hw'; exact p.b
                            clear hw'
                            have hB2 : Below w.heap.size w w2 := hbr.trans (hb2.mono hbr.size)
                            have q0 := keepC hb2 hp0
                            have q2 := keepC hb2 hp2
                            clear k0 k2 k3 k4 k5 k6
                            go_wp2_with fail
                            go_ret
                            exact ⟨rtB HF.out.symm, hB2⟩
                          | true =>
                            have IR : ∀ W', Below wr.heap.size wr W' → Calls Try.prog 76 #[.slice (some ⟨b0, o0, none⟩) ss.length sc, .agg #[.int .i64 ks[i + 1].f, .int .i64 ks[i + 1].v, .slice a' ks[i + 1].kids.length c']] W' fun e w' => e = .returned (.bool true) ∧ Below W'.heap.size W' w' := fun W' h => by have := IR0 W' h; rwa [hrt] at this
                            have HN : Hid (rightL ss k none ks = rightL ss k (if i + 1 + 1 = 0 then none else ks[i + 1 + 1 - 1]?) (ks.drop (i + 1 + 1))) := by show _ = _; rw [HK.out, HD.out, rightL, hrt, if_neg (by omega : ¬ i + 1 + 1 = 0), show i + 1 + 1 - 1 = i + 1 by omega, List.getElem?_eq_getElem hj']; rw [HJ.out, HA.out.1, hkfe, befO, hbf]; simp
                            clear IR0 HK HD hrt hkr hbf
                            go_wp2_with fail
                            have k0 := cellB hp0
                            have k2 := cellB hp2
                            have k3 := cellB g2
                            have k4 := cellB d0
                            have k5 := cellB d1
                            have k6 := cellB d2
                            have k7 := cellB y0
                            have k8 := cellB y1
                            have k9 := cellB y2
                            refine wp_region_below (by kernel_rfl) (by kernel_rfl) ?_
                            repeat (go_big_quiet_step ((first | (go_at_call 76; refine callsB (IR _ (BW.b _))) | (go_at_call 53; refine callsB (CB _ (BW.b _))))))
                            refine wpQuiet_nil ?_
                            intro w2 hw'
                            have hb2 : Below wr.heap.size wr w2 := by obtain ⟨p, rfl⟩ := hw'; exact p.b
                            clear hw'
                            have hB2 : Below w.heap.size w w2 := hbr.trans (hb2.mono hbr.size)
                            have q0 := keepC hb2 hp0
                            have q2 := keepC hb2 hp2
                            clear k0 k2 k3 k4 k5 k6
                            go_wp2_with fail
                            go_roundw
                            case rel => exact ⟨i + 1 + 1, by omega, by go_num, HN, q0, q2, hB2, World.block_lt_of_cell? _ _ q0⟩
                            case measure => simp [intOf]; omega
                  · have HE : Hid (rightT ss (.mk k v ks) = true) := by show _ = _; rw [HW.out, HK.out, List.drop_eq_nil_of_le (by omega), rightL]
                    clear HK
                    go_wp2_with fail
                    go_ret
                    exact ⟨rtB HE.out.symm, hbr⟩
          · have hve : (v == 0) = false := by simp [hv0]
            have hvn : (v != 0) = true := by simp [hv0]
            have HW : Hid (rightT ss (.mk k v ks) = false) := by show _ = _; rw [HW0.out, if_neg hv, hve]; simp
            clear HW0 hv hv0 HA
            go_enter Try.func76, Try.ntmps76
            go_wp2_with fail
            rw [← hW]
            clear hW
            go_quiet ((go_at_call 48; refine Calls.quiet_of_same (IN _)))
            go_wp2_with fail
            go_ret
            exact ⟨rtB HW.out.symm, below_drewN hb0 _⟩
      · have HW : Hid (rightT ss (.mk f v ks) = false) := by show _ = _; rw [HW0.out, if_neg hv, decide_eq_false hin]; simp
        have IN := fun w => l1In_any f 0 ((ss.length : Int) - 1) w
        rw [show (decide ((0 : Int) ≤ f) && decide (f ≤ (ss.length : Int) - 1)) = false by simp; omega] at IN
        have hsl : (ss.length : Int) ≤ 1048577 := by omega
        clear HW0 hv hs hin
        go_enter Try.func76, Try.ntmps76
        go_wp2_with fail
        rw [← hW]
        clear hW
        have hwr : IntKind.i64.wrap ((ss.length : Int) - 1) = (ss.length : Int) - 1 := by rw [IntKind.wrap_i64]; omega
        go_quiet ((go_at_call 48; refine Calls.quiet_of_same (IN _)))
        go_wp2_with fail
        go_ret
        exact ⟨rtB HW.out.symm, below_drewN hb0 _⟩
end Go.Proofs.Ytollijngiioonaa

/- A term that is made, as the specification makes it; a list of terms copied. Conditions: terms of at most 549755813888 parts, at most 1048577 functions. -/
namespace Go.Proofs.Ytollijngiioonaa
set_option maxRecDepth 100000
open Go.RowKit

/-- Behind the append of a copied term: the row. -/
theorem lst_app {B : Nat} {X w1 w5 : World} {u : TermD} {a1 av : Option Addr} {c1 cv m g5 c5 : Nat} {L : List FE}
    (hB : B ≤ w1.heap.size) (R1 : NR B L [⟨u, a1, c1, fun x => m ≤ x ∧ x < w1.heap.size⟩] av cv w1) (hb : Below w1.heap.size w1 X)
    (hO : w5.ownsRow B 27 3 (.slice (some ⟨g5, 0, none⟩) (L.length + 1) c5) (L.length + 1) (cs3 (L.map FE.cells) ++ [.int .i64 u.f, .int .i64 u.v, .slice a1 u.kids.length c1])) (hG : X.grownBy w5 (Value.slice av L.length cv).ownBlock) (hat : (Value.slice (some ⟨g5, 0, none⟩) (L.length + 1) c5).ownBlock = (Value.slice av L.length cv).ownBlock ∨ (Value.slice (some ⟨g5, 0, none⟩) (L.length + 1) c5).ownBlock = some X.heap.size) :
    NR B (L ++ [⟨u, a1, c1, fun x => m ≤ x ∧ x < w1.heap.size⟩]) [] (some ⟨g5, 0, none⟩) c5 w5 ∧ Below B w1 w5 := by
  have R2 := R1.on hb
  obtain ⟨g, c', hv, R3⟩ := R2.app hG hO hat
  cases hv
  refine ⟨R3, ?_⟩
  have hs : Stay (fun k => k < B) w1 w5 := (Stay.of_below (S := fun k => k < B) hb (fun _ hk _ => hk)).trans (.grown hG (fun k e hk => by have := (R2.row.lt k e).1; omega))
  exact hs.below hB (fun k hk => hk)

set_option maxHeartbeats 3200000 in
set_option maxRecDepth 100000 in
theorem l3List_any (ts : List TermD) (a : Option Addr) (c hi : Nat) (w : World) (hp : partsL ts ≤ 549755813888) (hr : RdK w hi a ts) (hhi : hi ≤ w.heap.size) :
    Calls Try.prog 50 #[.slice a ts.length c] w fun e w' => ∃ a' c', e = .returned (.slice a' ts.length c') ∧ OwnR w' (fun x => w.heap.size ≤ x ∧ x < w'.heap.size) a' c' ts ∧ ts.length ≤ c' ∧ Below w.heap.size w w' := by
  obtain ⟨i0, hi0, hz0, hz1, hz2⟩ := info_parts info29
  have hlen := partsL_len ts
  have HR : Hid (RdK w hi a ts) := hr
  clear hr
  go_enter Try.func50, Try.ntmps50
  go_wp2_with fail
  go_loopw [3, 4] (fun o i wr => ∃ (k : Nat) (L : List FE) (av : Option Addr) (cv : Nat), k ≤ ts.length ∧ i = .int .i64 k ∧ o = .slice av L.length cv ∧ NR w.heap.size L [] av cv wr ∧ Hid (L.map FE.t = ts.take k) ∧ Below w.heap.size w wr) (fun _ i _ => ts.length - (intOf i).toNat)
  case atStart => exact ⟨0, [], some ⟨w.heap.size, 0, none⟩, 0, Nat.zero_le _, rfl, rfl, ⟨by simpa [cs3] using World.ownsRow_made (e := 27) (size := 3) w #[] 0 (Nat.le_refl _) (Nat.zero_le _) rfl, .nil _ _, fun g hg d hd => by simp at hd⟩, by show _ = _; simp, (Below.refl _ _).alloc (Nat.le_refl _) _⟩
  case round =>
    obtain ⟨k, L, av, cv, hk, rfl, rfl, R, HL, hbw⟩ := hrel
    have hLl : L.length ≤ ts.length := by have := congrArg List.length HL.out; simp at this; omega
    by_cases hk' : k < ts.length
    · obtain ⟨b, off, a', c', rfl, hlt, d0, d1, d2, hkr⟩ := RdK.kid (HR.out.on (hbw.mono hhi)) hk'
      have hints := HR.out.ints hk'
      have hpg := partsL_get hk'
      have hki : (k : Int) < (ts.length : Int) := by omega
      have hki0 : (0 : Int) ≤ (k : Int) := by omega
      have hLb : L.length ≤ 549755813888 := by omega
      have HK : Hid (L.map FE.t ++ [ts[k]] = ts.take (k + 1)) := by show _ = _; rw [HL.out, List.take_succ_eq_append_getElem hk']
      have I := fun (w' : World) (h : Below wr.heap.size wr w') => l3Copy_any 549755813888 ts[k] a' c' hi w' (by omega) (Nat.le_refl _) (hkr.on (h.mono (Nat.le_trans hhi hbw.size))) (Nat.le_trans (Nat.le_trans hhi hbw.size) h.size) hints.1 hints.2
      have HI : Hid (isW ts[k].f ∧ isW ts[k].v) := hints
      generalize ts[k] = u at d0 d1 d2 I HK HI
      clear hkr hints hpg
      go_wp2_with (first
        | (go_at_call 71; refine (I _ (Below.refl _ _)).mono ?_; rintro e1 w1 ⟨a1, c1, rfl, o1, hle1, hb1⟩; have R1 := R.join hb1 (fe_one o1 hle1 HI.out.1 HI.out.2 hbw.size) (fun e he x hx => by simp only [List.mem_singleton] at he; subst he; exact hx.1); have hsz1 := Nat.le_trans hbw.size hb1.size; clear o1)
        | (at_builtin; refine wpList_append_own_at _ rfl (.tmp 12) (.tmp 18) 25 rfl w.heap.size 27 i0 _ 3 40 Try.underlying25 hi0 hz0 hz1 hz2 rfl (by decide) _ L.length _ rfl (own_on R1.row ((Below.refl _ _).alloc (Nat.le_refl _) _)) ⟨w1.heap.size, 0, none⟩ 1 1 _ rfl rfl (three_new _ _ _ _ _ _ (by simp)) (three_cell _ _ _ _ _) (by unfold maxLen; omega) (by omega) (by simp; omega) ?_; intro v5 w5 hown5 hgrow5 hnil5 hat5; clear hnil5; obtain ⟨g5, c5, rfl, _⟩ := own_slot hown5; have A5 := lst_app (Nat.le_trans hbw.size hb1.size) R1 ((Below.refl _ _).alloc (Nat.le_refl _) _) hown5 hgrow5 hat5; clear hown5 hgrow5 hat5))
      refine ⟨⟨k + 1, L ++ [⟨u, a1, c1, _⟩], some ⟨g5, 0, none⟩, c5, by omega, by go_num, by simp, A5.1, ?_, (hbw.trans (hb1.mono hbw.size)).trans A5.2⟩, by simp [intOf]; omega⟩
      show _ = _
      rw [fe_snoc, HK.out]
    · have E : Hid (k = ts.length) := (by omega : k = ts.length)
      have hL : Hid (L.map FE.t = ts) := by
        show _ = _
        rw [HL.out, E.out, List.take_length]
      have O : OwnR wr (fun x => w.heap.size ≤ x ∧ x < wr.heap.size) av cv (L.map FE.t) := by
        rcases R.row.2 with ⟨hv, h0⟩ | ⟨g, cap, _, hv, _⟩
        · have : L = [] := List.length_eq_zero_iff.1 h0
          subst this; cases hv; exact .nil _
        · cases hv
          exact (by simpa using R.fo : Forest wr _ L).owns R.row (fun e he => R.ap g rfl e (by simpa using he)) (by omega)
      have hcl : L.length ≤ cv := by obtain ⟨_, _, h, hh⟩ := own_form R.row; cases h; exact hh
      clear R HL E
      go_wp2_with fail
      go_ret
      have hl2 : L.length = ts.length := by rw [← hL.out]; simp
      rw [hL.out] at O
      exact ⟨av, cv, by rw [hl2]; rfl, O, by omega, hbw⟩

theorem specMake_any (sa : Option Addr) (ss : List SymD) (sc : Nat) (f : Int) (ks : List TermD) (ka : Option Addr) (kc hi : Nat) (w : World) (hs : RdS w sa ss) (hsl : ss.length ≤ 1048577) (hp : partsL ks + 1 ≤ 549755813888) (hr : RdK w hi ka ks) (hhi : hi ≤ w.heap.size) (hf : isW f) :
    Calls Try.prog 13 #[.slice sa ss.length sc, .int .i64 f, .slice ka ks.length kc] w fun e w' => ∃ a' c', e = .returned (.agg #[.int .i64 (makeT ss f ks).f, .int .i64 (makeT ss f ks).v, .slice a' (makeT ss f ks).kids.length c']) ∧ OwnS w' (fun k => w.heap.size ≤ k ∧ k < w'.heap.size) a' (makeT ss f ks).kids ∧ (makeT ss f ks).kids.length ≤ c' ∧ Below w.heap.size w w' := by
  obtain ⟨W, hW⟩ : ∃ W, W = w.alloc (.cells #[.int .i64 0, .int .i64 0, .slice none 0 0] 27) := ⟨_, rfl⟩
  have hb0 : Below w.heap.size w W := by rw [hW]; exact (Below.refl _ _).alloc (Nat.le_refl _) _
  have hz0 : W.heap.size = w.heap.size + 1 := by rw [hW]; simp
  have nb0 : MB w W := ⟨hb0, by rw [hW]; simp [go_sem], by rw [hW]; simp [go_sem], by rw [hW]; simp [go_sem], fun j => by rw [hW]; simp [go_sem], by omega⟩
  have hpm : partsT (.mk f 0 ks) ≤ 549755813888 := by rw [partsT]; omega
  have hrW := hr.on (hb0.mono hhi)
  have hsW := hs.below hb0
  have hhW := Nat.le_trans hhi hb0.size
  have CB := specBlind_any sa ss ss.length sc f W rfl hsW hsl hf.1 hf.2
  have CN := l1In_any f 0 ((ss.length : Int) - 1) W
  have HW : Hid _ := hW
  have hi0 : isW 0 := by unfold isW; omega
  have HO : Hid (¬ (blindAt ss f = true ∧ ks.length ≤ 1) → 0 ≤ f ∧ f < (ss.length : Int) → makeT ss f ks = normT (blindAt ss) (.mk f 0 ks)) := by
    intro h hsy
    unfold makeT
    rw [if_neg (fun q => h ⟨q.1, by rw [q.2]; simp⟩), if_neg (fun q => h ⟨q.1, by omega⟩), if_neg (fun q => q hsy)]
  have hlp := partsL_len ks
  clear hW hs hr hhi
  by_cases hB : blindAt ss f = true
  · have hsy := blindAt_lt hB
    rw [hB] at CB
    rcases ks with _ | ⟨k, _ | ⟨k2, r⟩⟩
    · have hm : makeT ss f [] = .mk 0 0 [] := by unfold makeT; rw [if_pos ⟨hB, rfl⟩]
      rw [hm]
      have d0 := nb0.c0; have d1 := nb0.c1; have d2 := nb0.c2; have df := nb0.cf
      clear hrW HO CN
      go_enter Try.func13, Try.ntmps13
      go_wp2_with (go_at_call 46; (try rw [← HW.out]); refine CB.mono ?_; rintro e w2 ⟨rfl, hw2⟩; subst hw2)
      obtain ⟨z0, z1, z2, hoF, hbF⟩ := make_end (x := 0) (y := 0) (us := []) (a' := none) (c' := 0) nb0 (.nil _ _)
      simp only [List.length_nil] at z0 z1 z2 hoF hbF
      exact bodyPost_ret (v := .agg #[.int .i64 0, .int .i64 0, .slice none [].length 0]) (by simp [results, Try.results13, go_sem, z0, z1, z2]) rfl ⟨none, 0, rfl, hoF, (Nat.le_refl _), hbF⟩
    · have hm : makeT ss f [k] = normT (blindAt ss) k := by unfold makeT; rw [if_neg (by simp), if_pos ⟨hB, rfl⟩]; rfl
      rw [hm]
      obtain ⟨b, off, ak, ck, hka, hlt, q0, q1, q2, hck, hrk, hwk⟩ := hrW.head
      subst hka
      have C := specNorm_any ss sa sc hsl 549755813888 k ak ck hi W (by simp [partsL] at hp; omega) (Nat.le_refl _) hrk hhW hwk.1 hwk.2 hsW
      have e1 : (normT (blindAt ss) k).f = k.f := by rw [normT_eq]; rfl
      have e2 : (normT (blindAt ss) k).v = k.v := by rw [normT_eq]; rfl
      rw [e1, e2]
      generalize (normT (blindAt ss) k).kids = N at C ⊢
      clear hrW hrk hck hwk e1 e2 hm HO CN hsW
      go_enter Try.func13, Try.ntmps13
      go_wp2_with (first
        | (go_at_call 46; (try rw [← HW.out]); refine CB.mono ?_; rintro e w2 ⟨rfl, hw2⟩; subst hw2)
        | (go_at_call 12; refine C.mono ?_; rintro e w4 ⟨a', c', rfl, ho4, hc4, hb4⟩; have nb4 := nb0.on hb4; have d0 := nb4.c0; have d1 := nb4.c1; have d2 := nb4.c2; have df := nb4.cf; have hz4 : w.heap.size < w4.heap.size := nb4.z; clear C))
      obtain ⟨z0, z1, z2, hoF, hbF⟩ := make_end (x := k.f) (y := k.v) (us := N) (a' := a') (c' := c') nb4 (ho4.s.mono (fun k hk => ⟨by omega, hk.2⟩))
      exact bodyPost_ret (v := .agg #[.int .i64 k.f, .int .i64 k.v, .slice a' N.length c']) (by simp [results, Try.results13, go_sem, z0, z1, z2]) rfl ⟨a', c', rfl, hoF, hc4, hbF⟩
    · have hm := HO.out (fun q => by have := q.2; simp at this) hsy
      rw [hm, normT_eq]
      have hnn : (decide (0 ≤ f) && decide (f ≤ (ss.length : Int) - 1)) = true := by simp; omega
      rw [hnn] at CN
      have CO := l3Of_any f ka (k :: k2 :: r).length kc W
      have CT := fun (w' : World) (h : Below W.heap.size W w') => specNorm_any ss sa sc hsl 549755813888 (.mk f 0 (k :: k2 :: r)) ka kc hi w' hpm (Nat.le_refl _) (hrW.on (h.mono hhW)) (Nat.le_trans hhW h.size) hf hi0 (hsW.below h)
      rw [normT_eq] at CT
      dsimp only [TermD.f, TermD.v, TermD.kids] at CT ⊢
      generalize normL (blindAt ss) f (k :: k2 :: r) [] = N at CT ⊢
      simp only [List.length_cons] at CO CT ⊢
      have hl0 : ((r.length : Int) + 1 + 1 == 0) = false := by simp; omega
      have hl1 : ((r.length : Int) + 1 + 1 == 1) = false := by simp; omega
      have hl2 : ¬ (r.length : Int) + 1 + 1 = 0 := by omega
      have hl3 : ¬ (r.length : Int) + 1 + 1 = 1 := by omega
      clear hm HO hrW hsW hpm hp hlp
      go_enter Try.func13, Try.ntmps13
      go_wp2_with (first
        | (go_at_call 46; (try rw [← HW.out]); refine CB.mono ?_; rintro e w2 ⟨rfl, hw2⟩; subst hw2)
        | (go_at_call 48; (try rw [← HW.out]); refine CN.mono ?_; rintro e w2 ⟨rfl, hw2⟩; subst hw2)
        | (go_at_call 49; refine CO.mono ?_; rintro e w3 ⟨rfl, hb3⟩; clear CO)
        | (go_at_call 12; refine (CT _ hb3).mono ?_; rintro e w4 ⟨a', c', rfl, ho4, hc4, hb04⟩; have hb4 := hb3.trans (hb04.mono hb3.size); have hz34 := hb3.size; have nb4 := nb0.on hb4; have d0 := nb4.c0; have d1 := nb4.c1; have d2 := nb4.c2; have df := nb4.cf; have hz4 : w.heap.size < w4.heap.size := nb4.z; clear CT))
      obtain ⟨z0, z1, z2, hoF, hbF⟩ := make_end (x := f) (y := 0) (us := N) (a' := a') (c' := c') nb4 (ho4.s.mono (fun k hk => ⟨by omega, hk.2⟩))
      exact bodyPost_ret (v := .agg #[.int .i64 f, .int .i64 0, .slice a' N.length c']) (by simp [results, Try.results13, go_sem, z0, z1, z2]) rfl ⟨a', c', rfl, hoF, hc4, hbF⟩
  · have hBf : blindAt ss f = false := by simpa using hB
    rw [hBf] at CB
    by_cases hsy : 0 ≤ f ∧ f < (ss.length : Int)
    · have hm := HO.out (fun q => hB q.1) hsy
      rw [hm, normT_eq]
      have hnn : (decide (0 ≤ f) && decide (f ≤ (ss.length : Int) - 1)) = true := by simp; omega
      rw [hnn] at CN
      have CO := l3Of_any f ka ks.length kc W
      have CT := fun (w' : World) (h : Below W.heap.size W w') => specNorm_any ss sa sc hsl 549755813888 (.mk f 0 ks) ka kc hi w' hpm (Nat.le_refl _) (hrW.on (h.mono hhW)) (Nat.le_trans hhW h.size) hf hi0 (hsW.below h)
      rw [normT_eq] at CT
      dsimp only [TermD.f, TermD.v, TermD.kids] at CT ⊢
      generalize normL (blindAt ss) f ks [] = N at CT ⊢
      clear hm HO hrW hsW hpm hp hlp
      go_enter Try.func13, Try.ntmps13
      go_wp2_with (first
        | (go_at_call 46; (try rw [← HW.out]); refine CB.mono ?_; rintro e w2 ⟨rfl, hw2⟩; subst hw2)
        | (go_at_call 48; (try rw [← HW.out]); refine CN.mono ?_; rintro e w2 ⟨rfl, hw2⟩; subst hw2)
        | (go_at_call 49; refine CO.mono ?_; rintro e w3 ⟨rfl, hb3⟩; clear CO)
        | (go_at_call 12; refine (CT _ hb3).mono ?_; rintro e w4 ⟨a', c', rfl, ho4, hc4, hb04⟩; have hb4 := hb3.trans (hb04.mono hb3.size); have hz34 := hb3.size; have nb4 := nb0.on hb4; have d0 := nb4.c0; have d1 := nb4.c1; have d2 := nb4.c2; have df := nb4.cf; have hz4 : w.heap.size < w4.heap.size := nb4.z; clear CT))
      obtain ⟨z0, z1, z2, hoF, hbF⟩ := make_end (x := f) (y := 0) (us := N) (a' := a') (c' := c') nb4 (ho4.s.mono (fun k hk => ⟨by omega, hk.2⟩))
      exact bodyPost_ret (v := .agg #[.int .i64 f, .int .i64 0, .slice a' N.length c']) (by simp [results, Try.results13, go_sem, z0, z1, z2]) rfl ⟨a', c', rfl, hoF, hc4, hbF⟩
    · have hm : makeT ss f ks = .mk f 0 ks := by unfold makeT; simp [hBf]; intro h1 h2; exact absurd ⟨h1, h2⟩ hsy
      rw [hm]
      have hnn : (decide (0 ≤ f) && decide (f ≤ (ss.length : Int) - 1)) = false := by simp; omega
      rw [hnn] at CN
      have CL := l3List_any ks ka kc hi W (by omega) hrW hhW
      have CO := fun (a' : Option Addr) (c' : Nat) (w' : World) => l3Of_any f a' ks.length c' w'
      dsimp only [TermD.f, TermD.v, TermD.kids]
      clear hm HO hrW hsW hpm hp hlp
      go_enter Try.func13, Try.ntmps13
      go_wp2_with (first
        | (go_at_call 46; (try rw [← HW.out]); refine CB.mono ?_; rintro e w2 ⟨rfl, hw2⟩; subst hw2)
        | (go_at_call 48; (try rw [← HW.out]); refine CN.mono ?_; rintro e w2 ⟨rfl, hw2⟩; subst hw2)
        | (go_at_call 50; refine CL.mono ?_; rintro e w3 ⟨a', c', rfl, ho3, hc4, hb3⟩; clear CL)
        | (go_at_call 49; refine (CO a' c' w3).mono ?_; rintro e w4 ⟨rfl, hb04⟩; have ho4 := ho3.frame (fun k hk => hb04.block k hk.2) hb04.size; have hb4 := hb3.trans (hb04.mono hb3.size); have hz34 := hb04.size; have nb4 := nb0.on hb4; have d0 := nb4.c0; have d1 := nb4.c1; have d2 := nb4.c2; have df := nb4.cf; have hz4 : w.heap.size < w4.heap.size := nb4.z; clear CO))
      obtain ⟨z0, z1, z2, hoF, hbF⟩ := make_end (x := f) (y := 0) (us := ks) (a' := a') (c' := c') nb4 (ho4.s.mono (fun k hk => ⟨by omega, by omega⟩))
      exact bodyPost_ret (v := .agg #[.int .i64 f, .int .i64 0, .slice a' ks.length c']) (by simp [results, Try.results13, go_sem, z0, z1, z2]) rfl ⟨a', c', rfl, hoF, hc4, hbF⟩
end Go.Proofs.Ytollijngiioonaa

/- What the law on one form draws: a list of terms, and the function that they are made into. Conditions: at most 1048576 bytes. -/
namespace Go.Proofs.Ytollijngiioonaa
set_option maxRecDepth 100000
open Go.RowKit

/-- While the list is drawn. -/
structure MD (w : World) (a : Option Addr) (bs : List Int) (cap : Nat) (L : List FE) (g cv : Nat) (W : World) : Prop where
  r : NR (w.heap.size + 1) L [] (some ⟨g, 0, none⟩) cv W
  cur : Cur 95 W w.heap.size a bs cap
  bel : Below w.heap.size w W
  z : w.heap.size + 1 ≤ W.heap.size
theorem MD.stay {w : World} {a : Option Addr} {bs : List Int} {cap : Nat} {L : List FE} {g cv : Nat} {W W' : World} (h : MD w a bs cap L g cv W) (hs : Stay (fun k => k ≠ w.heap.size) W W') (hc : Cur 95 W' w.heap.size a bs cap) : MD w a bs cap L g cv W' :=
  ⟨h.r.joinS (M := []) hs (Nat.lt_succ_self _) (.nil _ _) (fun e he => by cases he), hc, h.bel.trans (hs.below h.bel.size (fun k hk => by omega)), Nat.le_trans h.z hs.size⟩
theorem MD.on {w : World} {a : Option Addr} {bs : List Int} {cap : Nat} {L : List FE} {g cv : Nat} {W W' : World} (h : MD w a bs cap L g cv W) (hb : Below W.heap.size W W') : MD w a bs cap L g cv W' := h.stay (.of_below hb (fun _ hk _ => hk)) (h.cur.below hb)
theorem MD.start {w w1 : World} {a : Option Addr} {bs : List Int} {cap : Nat} (hC : Cur 95 w1 w.heap.size a bs cap) (hb : Below w.heap.size w w1) : MD w a bs cap [] w1.heap.size 0 (w1.alloc (.cells #[] 27)) := by
  have hlt := hC.lt
  have hb2 : Below w1.heap.size w1 (w1.alloc (.cells #[] 27)) := (Below.refl _ _).alloc (Nat.le_refl _) _
  have hB : w.heap.size + 1 ≤ w1.heap.size := hlt
  exact ⟨⟨by simpa [cs3] using World.ownsRow_made (e := 27) (size := 3) w1 #[] 0 hB (Nat.zero_le _) rfl, .nil _ _, fun g hg d hd => by simp at hd⟩, hC.below hb2, hb.trans (hb2.mono hb.size), by simp; omega⟩
theorem md_app {w : World} {a : Option Addr} {bs : List Int} {cap : Nat} {L : List FE} {g cv : Nat} {W W' : World} {e : FE} {v : Value} (h : MD w a bs cap L g cv W) (hbs : bs = [] ∨ ∀ x, a = some x → x.block < w.heap.size) (R : NR (w.heap.size + 1) L [e] (some ⟨g, 0, none⟩) cv W) (hg : W.grownBy W' (Value.slice (some ⟨g, 0, none⟩) L.length cv).ownBlock)
    (hrow : W'.ownsRow (w.heap.size + 1) 27 3 v (L.length + 1) (cs3 (L.map FE.cells) ++ [.int .i64 e.t.f, .int .i64 e.t.v, .slice e.a e.t.kids.length e.c])) (hat : v.ownBlock = (Value.slice (some ⟨g, 0, none⟩) L.length cv).ownBlock ∨ v.ownBlock = some W.heap.size) :
    ∃ g' c', v = .slice (some ⟨g', 0, none⟩) (L.length + 1) c' ∧ MD w a bs cap (L ++ [e]) g' c' W' := by
  have hgz := (h.r.row.lt g rfl).1
  obtain ⟨g', c', hv, R'⟩ := R.app hg hrow hat
  have hg2 : W.grownBy W' (some g) := hg
  refine ⟨g', c', hv, R', ?_, ?_, ?_⟩
  · rcases hbs with rfl | hbs
    · exact h.cur.grown (B := w.heap.size + 1) hg2 (Nat.lt_succ_self _) hgz (.inl rfl)
    · exact h.cur.grown (B := w.heap.size + 1) hg2 (Nat.lt_succ_self _) hgz (.inr fun x hx => Nat.lt_succ_of_lt (hbs x hx))
  · have st : Stay (fun k => k < w.heap.size) W W' := .grown hg2 (fun k e hk => by cases e; omega)
    exact h.bel.trans (st.below h.bel.size (fun k hk => hk))
  · have st : Stay (fun k => k < w.heap.size) W W' := .grown hg2 (fun k e hk => by cases e; omega)
    exact Nat.le_trans h.z st.size

set_option maxHeartbeats 6400000 in
set_option maxRecDepth 100000 in
theorem drawMake_any (a : Option Addr) (bs : List Int) (cap : Nat) (w : World) (hl : bs.length ≤ 1048576) (hr : ∀ c, w.heap.size ≤ c → RdB w c a bs) :
    Calls Try.prog 9 #[.slice a bs.length cap] w fun e w' => ∃ g f ka ks kc, e = .returned (.tuple #[.slice (some ⟨g, 0, none⟩) 7 7, .int .i64 f, .slice ka ks.length kc]) ∧ isW f ∧ RdS w' (some ⟨g, 0, none⟩) sig7 ∧ OwnR w' (fun k => w.heap.size ≤ k ∧ k < w'.heap.size) ka kc ks ∧ ks.length ≤ kc ∧ ks.length ≤ 3 ∧ partsL ks ≤ 21 ∧ Below w.heap.size w w' := by
  obtain ⟨i0, hi0, hz0, hz1, hz2⟩ := info_parts info29
  have hlt := (hr _ (Nat.le_refl _)).lt
  have HB0 : Hid (bs = [] ∨ ∀ x, a = some x → x.block < w.heap.size) := hlt
  have HBS : Hid (∀ w' : World, w.heap.size ≤ w'.heap.size → (bs = [] ∨ ∀ x, a = some x → x.block < w'.heap.size)) := fun w' h => hlt.imp id (fun q x hx => Nat.lt_of_lt_of_le (q x hx) h)
  have CN := new_any a bs bs.length cap w rfl hl hr
  clear hr hlt
  go_enter Try.func9, Try.ntmps9
  go_wp2_with (go_at_call 32; refine CN.mono ?_; rintro e w1 ⟨rfl, hC, hb1⟩; clear CN)
  have M0 := MD.start hC hb1
  clear hC hb1
  go_loopw [6, 7] (fun o i wr => ∃ (k : Nat) (L : List FE) (g cv : Nat), k ≤ 3 ∧ i = .int .i64 k ∧ o = .slice (some ⟨g, 0, none⟩) L.length cv ∧ Hid (L.length = k) ∧ partsL (L.map FE.t) ≤ 7 * k ∧ MD w a bs cap L g cv wr) (fun _ i _ => 3 - (intOf i).toNat)
  case atStart => exact ⟨0, [], w1.heap.size, 0, by omega, rfl, rfl, (show _ = _ from rfl), by simp [partsL], M0⟩
  case round =>
    obtain ⟨k, L, g, cv, hk, rfl, rfl, hLk, hpl, M⟩ := hrel
    have hLb : L.length ≤ 3 := by have := hLk.out; omega
    go_wp2_with (first
      | (go_at_call 41; refine (below_any w.heap.size a bs cap 4 wr hl (by omega) (by omega) M.cur).mono ?_; rintro e w2 ⟨n, rfl, hn, hC2, hg2⟩; have M2 := M.stay (stay_of_grown hg2) hC2; clear M hC2 hg2)
      | (go_at_call 35; refine (deep_any w.heap.size a bs cap 2 hl (by omega) (by omega) 2 w2 (by omega) M2.cur (HBS.out _ M2.bel.size)).mono ?_; rintro e w3 ⟨t, ta, tc, rfl, T3⟩; have M3 := M2.stay T3.st T3.cur; have R3 := M2.r.joinS T3.st (Nat.lt_succ_self _) (fe_one (B := w.heap.size + 1) T3.own T3.le T3.wf.1 T3.wf.2 M2.z) (fun e he x hx => by simp only [List.mem_singleton] at he; subst he; exact hx.1); have hp3 := T3.parts; have hz3 := T3.st.size; have hz2' := M2.z; clear T3 M2)
      | (at_builtin; (refine wpList_append_own_at _ rfl (.tmp 17) (.tmp 20) 25 rfl (w.heap.size + 1) 27 i0 _ 3 40 Try.underlying25 hi0 hz0 hz1 hz2 rfl (by decide) _ L.length _ rfl (own_on R3.row ((Below.refl _ _).alloc (Nat.le_refl _) _)) ⟨w3.heap.size, 0, none⟩ 1 1 _ rfl rfl (three_new _ _ _ _ _ _ (by simp)) (three_cell _ _ _ _ _) (by unfold maxLen; omega) (by omega) (by simp; omega) ?_; intro v5 w5 hown5 hgrow5 hnil5 hat5; clear hnil5; have hba : Below w3.heap.size w3 (w3.alloc (.cells #[.int .i64 t.f, .int .i64 t.v, .slice ta t.kids.length tc] 27)) := (Below.refl _ _).alloc (Nat.le_refl _) _; obtain ⟨g5, c5, rfl, M5⟩ := md_app (M3.on hba) HB0.out (R3.on hba) hgrow5 hown5 hat5; clear hown5 hgrow5 hat5 M3 R3 hba))
      | (go_at_call 34; refine (l2Sig_any _).mono ?_; rintro e w8 ⟨rfl, ho8, hb8⟩; have M8 := M2.on hb8; have HO8 : Hid (RdS w8 (some ⟨w2.heap.size, 0, none⟩) sig7) := RdS.own rfl ho8; have hz8 := hb8.size; have hw2 := M2.z; clear M2 hb8 ho8)
      | (go_at_call 42; refine (pickInt_any w.heap.size a bs cap w8.heap.size 8 [5, 5, 6, 4, 3, 1, -1, 9] 8 _ hl rfl (by simp) (by simp) (M8.on ((Below.refl _ _).alloc (Nat.le_refl _) _)).cur (by simp) (by have := M8.z; omega) (lit_cells w8 [5, 5, 6, 4, 3, 1, -1, 9])).mono ?_; rintro e w9 ⟨f, rfl, hf, hC9, hg9⟩; have M9 := (M8.on ((Below.refl _ _).alloc (Nat.le_refl _) _)).stay (stay_of_grown hg9) hC9; have HS9 : Hid (RdS w9 (some ⟨w2.heap.size, 0, none⟩) sig7) := (rdS_stay2 (RdS.below HO8.out ((Below.refl _ _).alloc (Nat.le_refl _) _)) (stay_of_grown hg9) (by omega)); clear M8 hC9 hg9))
    · refine ⟨⟨k + 1, L ++ [⟨t, ta, tc, _⟩], g5, c5, by omega, by go_num, by simp, ?_, ?_, M5⟩, by simp [intOf]; omega⟩
      · show _ = _
        have := hLk.out
        simp [this]
      · rw [fe_snoc, partsL_append]
        have hb : bdN 2 = 7 := rfl
        simp only [partsL]
        omega
    · have hc9 : L.length ≤ cv := own_len M9.r.row
      have hf' : isW f := by simp at hf; unfold isW; omega
      exact bodyPost_ret (v := .tuple #[.slice (some ⟨w2.heap.size, 0, none⟩) 7 7, .int .i64 f, .slice (some ⟨g, 0, none⟩) L.length cv]) (by simp [results, Try.results9, go_sem]) rfl ⟨_, f, _, L.map FE.t, cv, by simp, hf', HS9.out, (M9.r.owns (by omega)).mono (fun k hk => ⟨by omega, hk.2⟩), by simpa using hc9, by simpa using hLb, by omega, M9.bel⟩
end Go.Proofs.Ytollijngiioonaa

/- A region whose order is drawn: what each operation keeps, whatever has been done so far, holds behind it. Conditions: each operation waits only for earlier ones. -/
namespace Go.Proofs.Ytollijngiioonaa
set_option maxRecDepth 100000
open Go.RowKit

section
variable {P : Program} {ops : Array Oper} {Q : Exit → Act → World → Prop} {md : Region.Mode}

/-- The operation has been done. -/
def Dn (L : Array Bool) (i : Nat) : Prop := L.getD i false = true
theorem dn_set {L : Array Bool} {i j : Nat} (hi : i < L.size) : Dn (L.setIfInBounds i true) j ↔ j = i ∨ Dn L j := by
  unfold Dn
  by_cases h : j = i
  · subst h; simp [Array.getD, hi]
  · by_cases hj : j < L.size
    · have h' : ¬ i = j := fun e => h e.symm
      simp [Array.getD, hj, h, h']
    · simp [Array.getD, hj, h]
theorem dn_none {n j : Nat} : ¬ Dn (Array.replicate n false) j := by
  unfold Dn
  by_cases h : j < n <;> simp [Array.getD, h]

/-- What an operation waits for. -/
def Waits (md : Region.Mode) (o : Oper) : List Nat := (o.after.toList.filter (Region.binds md)).map (·.on)
/-- What has been done waits for nothing. -/
def Cl (ops : Array Oper) (md : Region.Mode) (L : Array Bool) : Prop := ∀ i o, ops[i]? = some o → Dn L i → ∀ d ∈ Waits md o, Dn L d
/-- What one operation keeps. -/
def StepKeeps (P : Program) (ops : Array Oper) (Q : Exit → Act → World → Prop) (md : Region.Mode) (I : Array Bool → Act → World → Prop) (i : Nat) : Prop :=
  ∀ (L : Array Bool) (a : Act) (w : World), L.size = ops.size → Cl ops md L → ¬ Dn L i → (∀ o, ops[i]? = some o → ∀ d ∈ Waits md o, Dn L d) → I L a w → wpOp P ops Q i (I (L.setIfInBounds i true)) a w

theorem ready_mem {L : Array Bool} {i : Nat} (hL : L.size = ops.size) : i ∈ Region.ready md ops L ↔ i < ops.size ∧ ¬ Dn L i ∧ ∀ o, ops[i]? = some o → ∀ d ∈ Waits md o, Dn L d := by
  unfold Region.ready
  rw [List.mem_filter, List.mem_range]
  constructor
  · rintro ⟨hi, hr⟩
    rw [Bool.and_eq_true] at hr
    obtain ⟨h1, h2⟩ := hr
    refine ⟨hi, fun h => ?_, fun o ho d hd => ?_⟩
    · unfold Dn at h
      have hi' : i < L.size := by omega
      simp [Array.getD, hi'] at h h1
      rw [h] at h1
      cases h1
    · rw [ho] at h2
      simp only [Option.map_some, Option.getD_some, Array.all_eq_true] at h2
      obtain ⟨e, he, rfl⟩ := List.mem_map.1 hd
      rw [List.mem_filter] at he
      obtain ⟨k, hk, rfl⟩ := List.getElem_of_mem he.1
      have := h2 k (by simpa using hk)
      have he2 : Region.binds md o.after[k] = true := by simpa using he.2
      rw [he2] at this
      simpa [Dn] using this
  · rintro ⟨hi, h1, h2⟩
    refine ⟨hi, ?_⟩
    have hi' : i < L.size := by omega
    have hn : L.getD i true = false := by
      unfold Dn at h1
      simp [Array.getD, hi'] at h1 ⊢
      exact h1
    rw [hn]
    have ho : ops[i]? = some ops[i] := by simp [hi]
    rw [ho]
    simp only [Bool.not_false, Bool.true_and, Option.map_some, Option.getD_some, Array.all_eq_true]
    intro k hk
    by_cases hb : Region.binds md ops[i].after[k] = true
    · have := h2 _ ho (ops[i].after[k]).on (List.mem_map.2 ⟨_, List.mem_filter.2 ⟨by simp, hb⟩, rfl⟩)
      unfold Dn at this
      simp [this]
    · simp [hb]

theorem all_done {L : Array Bool} (hL : L.size = ops.size) (hord : ∀ i o, ops[i]? = some o → ∀ d ∈ Waits md o, d < i) (h : Region.ready md ops L = []) : ∀ n j, j < n → j < ops.size → Dn L j := by
  intro n
  induction n with
  | zero => intro j hj; omega
  | succ n ih =>
    intro j hj hs
    by_cases hd : Dn L j
    · exact hd
    · exfalso
      have : j ∈ Region.ready md ops L := (ready_mem hL).2 ⟨hs, hd, fun o ho d hdd => ih d (by have := hord j o ho d hdd; omega) (by have := hord j o ho d hdd; omega)⟩
      rw [h] at this
      cases this

theorem count_set_true {l : List Bool} {i : Nat} (h : i < l.length) (he : l[i] = false) : (l.set i true).count false + 1 = l.count false := by
  induction l generalizing i with
  | nil => simp at h
  | cons x xs ih =>
    cases i with
    | zero => simp at he; subst he; simp
    | succ i =>
      have := ih (i := i) (by simpa using h) (by simpa using he)
      cases x <;> simp <;> omega

theorem wpAny_keeps (I : Array Bool → Act → World → Prop) (hord : ∀ i o, ops[i]? = some o → ∀ d ∈ Waits md o, d < i)
    (hend : ∀ L a w, (∀ j, j < ops.size → Dn L j) → I L a w → Q .normal a w) (hstep : ∀ i, i < ops.size → StepKeeps P ops Q md I i) :
    ∀ (fuel : Nat) (L : Array Bool) (a : Act) (w : World), L.size = ops.size → Cl ops md L → L.toList.count false ≤ fuel → I L a w → wpAny P md ops Q fuel L a w := by
  intro fuel
  induction fuel with
  | zero =>
    intro L a w hL _ hc hI
    have hall : ∀ j, j < ops.size → Dn L j := by
      intro j hj
      unfold Dn
      have hj' : j < L.size := by omega
      simp only [Array.getD, hj', ↓reduceDIte]
      cases hx : L[j] with
      | true => simpa using hx
      | false =>
        exfalso
        have : false ∈ L.toList := List.mem_of_getElem (i := j) (h := by rw [Array.length_toList]; exact hj') (by simpa using hx)
        have := List.count_pos_iff.2 this
        omega
    refine ⟨?_, hend L a w hall hI⟩
    refine List.eq_nil_iff_forall_not_mem.2 fun i hi => ?_
    have := (ready_mem hL).1 hi
    exact this.2.1 (hall i this.1)
  | succ fuel ih =>
    intro L a w hL hcl hc hI
    refine ⟨fun h0 => hend L a w (fun j hj => all_done hL hord h0 (j + 1) j (Nat.lt_succ_self j) hj) hI, fun i hi => ?_⟩
    obtain ⟨h1, h2, h3⟩ := (ready_mem hL).1 hi
    refine wpOp_mono (fun a' w' hI' => ih _ a' w' (by simpa using hL) ?_ ?_ hI') (hstep i h1 L a w hL hcl h2 h3 hI)
    · intro j o ho hj d hd
      have hiL : i < L.size := by omega
      rcases (dn_set hiL).1 hj with rfl | hj
      · exact (dn_set hiL).2 (.inr (h3 o ho d hd))
      · exact (dn_set hiL).2 (.inr (hcl j o ho hj d hd))
    have hi' : i < L.toList.length := by simp; omega
    have he : L.toList[i] = false := by
      unfold Dn at h2
      have : i < L.size := by omega
      simp [Array.getD, this] at h2
      simpa using h2
    have := count_set_true hi' he
    rw [Array.toList_setIfInBounds]
    omega

/-- Each of some operations keeps it. -/
def KeepAll (P : Program) (ops : Array Oper) (Q : Exit → Act → World → Prop) (md : Region.Mode) (I : Array Bool → Act → World → Prop) (rs : List Nat) : Prop := ∀ i ∈ rs, StepKeeps P ops Q md I i
theorem KeepAll.nil {I : Array Bool → Act → World → Prop} : KeepAll P ops Q md I [] := fun _ h => by cases h
theorem KeepAll.cons {I : Array Bool → Act → World → Prop} {i : Nat} {o : Oper} {rs ds : List Nat} (ho : ops[i]? = some o) (hd : Waits md o = ds)
    (h : ∀ (L : Array Bool) (a : Act) (w : World) (K' : Act → World → Prop), (∀ a w, I (L.setIfInBounds i true) a w → K' a w) → i < L.size → Cl ops md L → ¬ Dn L i → (∀ d ∈ ds, Dn L d) → I L a w →
      if Region.wanted o (yielded ops a.tmps) = true then Oper.wp P o a w K' Q else K' (a.put o.dst undef) w)
    (hs : KeepAll P ops Q md I rs) : KeepAll P ops Q md I (i :: rs) := fun j hj => by
  rcases List.mem_cons.1 hj with rfl | hj
  · intro L a w hL hcl hn hw hI
    have hj : j < L.size := by
      rw [hL]
      by_cases h : j < ops.size
      · exact h
      · rw [Array.getElem?_eq_none (by omega)] at ho; cases ho
    exact wpOp_step ho fun K' hK' => h L a w K' hK' hj hcl hn (fun d hdd => hw o ho d (hd ▸ hdd)) hI
  · exact hs j hj

/-- The same for an operation that nothing guards. -/
theorem KeepAll.consU {I : Array Bool → Act → World → Prop} {i : Nat} {o : Oper} {rs ds : List Nat} (ho : ops[i]? = some o) (hg : o.guard = none) (hd : Waits md o = ds)
    (h : ∀ (L : Array Bool) (a : Act) (w : World) (K' : Act → World → Prop), (∀ a w, I (L.setIfInBounds i true) a w → K' a w) → i < L.size → Cl ops md L → ¬ Dn L i → (∀ d ∈ ds, Dn L d) → I L a w → Oper.wp P o a w K' Q)
    (hs : KeepAll P ops Q md I rs) : KeepAll P ops Q md I (i :: rs) :=
  KeepAll.cons ho hd (fun L a w K' hK hL hcl hn hdd hI => by
    have e : Region.wanted o (yielded ops a.tmps) = true := by unfold Region.wanted; rw [hg]
    rw [if_pos e]
    exact h L a w K' hK hL hcl hn hdd hI) hs
/-- The same for an operation whose guard holds. -/
theorem KeepAll.consG {I : Array Bool → Act → World → Prop} {i j : Nat} {b : Bool} {s : Nat} {o : Oper} {rs ds : List Nat} (ho : ops[i]? = some o) (hg : o.guard = some (j, b)) (hj : (ops[j]?).bind (·.dst) = some s) (hd : Waits md o = ds)
    (h : ∀ (L : Array Bool) (a : Act) (w : World) (K' : Act → World → Prop), (∀ a w, I (L.setIfInBounds i true) a w → K' a w) → i < L.size → Cl ops md L → ¬ Dn L i → (∀ d ∈ ds, Dn L d) → I L a w → a.tmps[s]? = some (.bool b) ∧ Oper.wp P o a w K' Q)
    (hs : KeepAll P ops Q md I rs) : KeepAll P ops Q md I (i :: rs) :=
  KeepAll.cons ho hd (fun L a w K' hK hL hcl hn hdd hI => by
    obtain ⟨h1, h2⟩ := h L a w K' hK hL hcl hn hdd hI
    have e : Region.wanted o (yielded ops a.tmps) = true := by
      unfold Region.wanted
      rw [hg]
      show (yielded ops a.tmps j == some b) = true
      unfold yielded
      rw [hj]
      show ((match (a.tmps[s]? : Option Value) with | some (.bool b) => some b | _ => none) == some b) = true
      rw [h1]
      cases b <;> rfl
    rw [if_pos e]
    exact h2) hs

/-- A region whose order is drawn, by what each of its operations keeps. -/
theorem wp_region_keeps {id : Nat} {a : Act} {w : World} (hm : P.follows .mixedOrders = true) (I : Array Bool → Act → World → Prop) {rs : List Nat} (hrs : List.range ops.size = rs)
    (hord : ((List.range ops.size).all fun i => ((ops[i]?).map fun o => (Waits .any o).all fun d => decide (d < i)).getD true) = true)
    (h0 : I (Array.replicate ops.size false) a w.drew) (hend : ∀ L a w, (∀ j, j < ops.size → Dn L j) → I L a w → Q .normal a w) (hstep : KeepAll P ops Q .any I rs) : (Code.region id ops true).wp P Q a w := by
  refine wp_region_any hm (wpAny_keeps I ?_ hend (fun i hi => hstep i (hrs ▸ List.mem_range.2 hi)) ops.size _ a _ (by simp) (fun i o _ h => absurd h dn_none) (by simp) h0)
  intro i o ho d hd
  have hi : i < ops.size := by
    by_cases h : i < ops.size
    · exact h
    · rw [Array.getElem?_eq_none (by omega)] at ho; cases ho
  have := List.all_eq_true.1 hord i (List.mem_range.2 hi)
  rw [ho] at this
  simp only [Option.map_some, Option.getD_some] at this
  have := List.all_eq_true.1 this d hd
  simpa using this
end
end Go.Proofs.Ytollijngiioonaa

/- While a region whose order is drawn goes on: which block belongs to what; answers that own their memory, boxes of three cells. Conditions: none. -/
namespace Go.Proofs.Ytollijngiioonaa
set_option maxRecDepth 100000
open Go.RowKit

/-- Which block belongs to what (0: to nothing that is laid here). -/
structure Tg (w0 : World) (o : Nat → Nat) (W : World) : Prop where
  bel : Below w0.heap.size w0 W
  own : ∀ k, o k ≠ 0 → w0.heap.size ≤ k ∧ k < W.heap.size
/-- A step that writes only into what belongs to t. -/
structure TFr (t : Nat) (o : Nat → Nat) (W : World) (o' : Nat → Nat) (W' : World) : Prop where
  st : Stay (fun k => o k ≠ t) W W'
  old : ∀ k, k < W.heap.size → o' k = o k
theorem Tg.start (w : World) : Tg w (fun _ => 0) w.drew := ⟨Below.drew (Below.refl _ _), fun _ h => absurd rfl h⟩
def upd (o : Nat → Nat) (lo hi g : Nat) : Nat → Nat := fun k => if lo ≤ k ∧ k < hi then g else o k
theorem upd_old {o : Nat → Nat} {lo hi g k : Nat} (h : k < lo) : upd o lo hi g k = o k := by unfold upd; rw [if_neg (by omega)]
theorem upd_new {o : Nat → Nat} {lo hi g k : Nat} (h : lo ≤ k) (h' : k < hi) : upd o lo hi g k = g := by unfold upd; rw [if_pos ⟨h, h'⟩]
theorem Tg.grow {w0 : World} {o : Nat → Nat} {W W' : World} (h : Tg w0 o W) (hb : Below W.heap.size W W') (g : Nat) : Tg w0 (upd o W.heap.size W'.heap.size g) W' := by
  have hs := hb.size
  have hz := h.bel.size
  refine ⟨h.bel.trans (hb.mono hz), fun k hk => ?_⟩
  by_cases hlt : k < W.heap.size
  · rw [upd_old hlt] at hk
    have := h.own k hk
    omega
  · unfold upd at hk
    by_cases hn : W.heap.size ≤ k ∧ k < W'.heap.size
    · omega
    · rw [if_neg hn] at hk
      have := h.own k hk
      omega
theorem TFr.grow (t : Nat) {o : Nat → Nat} {W W' : World} (hb : Below W.heap.size W W') (g : Nat) : TFr t o W (upd o W.heap.size W'.heap.size g) W' := ⟨.of_below hb (fun _ hk _ => hk), fun _ hk => upd_old hk⟩
theorem Tg.set {w0 : World} {o : Nat → Nat} {W : World} {b : Nat} (h : Tg w0 o W) (hb : o b ≠ 0) (x y z : Value) : Tg w0 o (((W.setCell ⟨b, 0, none⟩ x).setCell ⟨b, 1, none⟩ y).setCell ⟨b, 2, none⟩ z) := by
  have hst := set3_stay W b x y z
  have hh := h.own b hb
  refine ⟨h.bel.trans (hst.below h.bel.size (fun k hk => by omega)), fun k hk => ?_⟩
  have := h.own k hk
  have := hst.size
  omega
theorem TFr.set {o : Nat → Nat} {W : World} {b t : Nat} (hb : o b = t) (x y z : Value) : TFr t o W o (((W.setCell ⟨b, 0, none⟩ x).setCell ⟨b, 1, none⟩ y).setCell ⟨b, 2, none⟩ z) := ⟨(set3_stay W b x y z).weak (fun _ _ hk e => hk (e ▸ hb)), fun _ _ => rfl⟩

/-- A term that came of a call: it owns its memory. -/
def FC (o : Nat → Nat) (W : World) (g : Nat) (s : Value) (N : TermD) : Prop := ∃ a c, s = .agg #[.int .i64 N.f, .int .i64 N.v, .slice a N.kids.length c] ∧ OwnS W (fun k => o k = g) a N.kids ∧ N.kids.length ≤ c
/-- A box of three cells. -/
def FB (o : Nat → Nat) (W : World) (g : Nat) (s v : Value) : Prop := ∃ B x y z, s = .pointer (some ⟨B, 0, none⟩) ∧ v = .agg #[x, y, z] ∧ o B = g ∧ (∀ j, W.frozen? ⟨B, j, none⟩ = false) ∧ C3 W B x y z
def FZ (o : Nat → Nat) (W : World) (g : Nat) (s : Value) : Prop := FB o W g s (.agg #[.int .i64 0, .int .i64 0, .slice none 0 0])
theorem FC.fr {w0 : World} {o o' : Nat → Nat} {W W' : World} {g t : Nat} {s : Value} {N : TermD} (h : FC o W g s N) (hT : Tg w0 o W) (hf : TFr t o W o' W') (h0 : g ≠ 0) (hne : g ≠ t) : FC o' W' g s N := by
  obtain ⟨a, c, rfl, ho, hc⟩ := h
  have hl : ∀ k, o k = g → k < W.heap.size := fun k hk => (hT.own k (by rw [hk]; exact h0)).2
  refine ⟨a, c, rfl, (ho.frame (fun k hk => hf.st.block k (hl k hk) ?_) hf.st.size).mono fun k hk => ?_, hc⟩
  · intro e
    exact hne (hk.symm.trans e)
  · rw [hf.old k (hl k hk)]; exact hk
theorem FB.fr {o o' : Nat → Nat} {W W' : World} {g t : Nat} {s v : Value} (h : FB o W g s v) (hf : TFr t o W o' W') (hne : g ≠ t) : FB o' W' g s v := by
  obtain ⟨B, x, y, z, rfl, rfl, hb, hz, hC⟩ := h
  have hn : o B ≠ t := fun e => hne (hb.symm.trans e)
  exact ⟨B, x, y, z, rfl, rfl, (hf.old B hC.lt).trans hb, fun j => (hf.st.frozen (p := ⟨B, j, none⟩) hC.lt hn).trans (hz j), hC.stay hf.st hn⟩
theorem FC.new {o : Nat → Nat} {W W' : World} {a : Option Addr} {c : Nat} {N : TermD} (g : Nat) (ho : OwnS W' (fun x => W.heap.size ≤ x ∧ x < W'.heap.size) a N.kids) (hc : N.kids.length ≤ c) : FC (upd o W.heap.size W'.heap.size g) W' g (.agg #[.int .i64 N.f, .int .i64 N.v, .slice a N.kids.length c]) N :=
  ⟨a, c, rfl, ho.mono fun _ hk => upd_new hk.1 hk.2, hc⟩
theorem FZ.new (o : Nat → Nat) (W : World) (g : Nat) (T : TypeId) : FZ (upd o W.heap.size (W.alloc (.cells #[.int .i64 0, .int .i64 0, .slice none 0 0] T)).heap.size g) (W.alloc (.cells #[.int .i64 0, .int .i64 0, .slice none 0 0] T)) g (.pointer (some ⟨W.heap.size, 0, none⟩)) :=
  ⟨W.heap.size, _, _, _, rfl, rfl, upd_new (Nat.le_refl _) (by simp), fun j => by simp, C3.new _ _ _ _ _⟩
theorem FB.put {o : Nat → Nat} {W : World} {g B : Nat} {x y z : Value} (hb : o B = g) (hz : ∀ j, W.frozen? ⟨B, j, none⟩ = false) (hC : C3 W B x y z) (x' y' z' : Value) : FB o (((W.setCell ⟨B, 0, none⟩ x').setCell ⟨B, 1, none⟩ y').setCell ⟨B, 2, none⟩ z') g (.pointer (some ⟨B, 0, none⟩)) (.agg #[x', y', z']) :=
  ⟨B, x', y', z', rfl, rfl, hb, fun j => by simp [hz j], hC.set _ _ _⟩

/-- Two calls that each answer a term, and a box for either: what lies in memory, whatever has been done so far (i: the calls, j: the boxes laid, k: the boxes written). -/
structure CB (w0 : World) (N1 N2 : TermD) (i1 i2 j1 j2 k1 k2 : Nat) (L : Array Bool) (o : Nat → Nat) (W : World) (v1 v2 p1 p2 : Value) : Prop where
  tg : Tg w0 o W
  c1 : Dn L i1 → FC o W 1 v1 N1
  c2 : Dn L i2 → FC o W 2 v2 N2
  z1 : Dn L j1 → ¬ Dn L k1 → FZ o W 3 p1
  z2 : Dn L j2 → ¬ Dn L k2 → FZ o W 4 p2
  f1 : Dn L k1 → FB o W 3 p1 v1
  f2 : Dn L k2 → FB o W 4 p2 v2
theorem CB.start (w : World) (N1 N2 : TermD) (i1 i2 j1 j2 k1 k2 n : Nat) (v1 v2 p1 p2 : Value) : CB w N1 N2 i1 i2 j1 j2 k1 k2 (Array.replicate n false) (fun _ => 0) w.drew v1 v2 p1 p2 :=
  ⟨Tg.start w, fun h => absurd h dn_none, fun h => absurd h dn_none, fun h => absurd h dn_none, fun h => absurd h dn_none, fun h => absurd h dn_none, fun h => absurd h dn_none⟩
section
variable {w0 : World} {N1 N2 : TermD} {i1 i2 j1 j2 k1 k2 : Nat} {L : Array Bool} {o : Nat → Nat} {W : World} {v1 v2 p1 p2 : Value}
/-- An operation that touches none of them. -/
theorem CB.pure (h : CB w0 N1 N2 i1 i2 j1 j2 k1 k2 L o W v1 v2 p1 p2) {i : Nat} (hi : i < L.size) (hn : i ≠ i1 ∧ i ≠ i2 ∧ i ≠ j1 ∧ i ≠ j2 ∧ i ≠ k1 ∧ i ≠ k2) : CB w0 N1 N2 i1 i2 j1 j2 k1 k2 (L.setIfInBounds i true) o W v1 v2 p1 p2 := by
  obtain ⟨n1, n2, n3, n4, n5, n6⟩ := hn
  have e : ∀ j, i ≠ j → Dn (L.setIfInBounds i true) j → Dn L j := fun j hj hd => ((dn_set hi).1 hd).resolve_left (fun e => hj e.symm)
  have e' : ∀ j, ¬ Dn (L.setIfInBounds i true) j → ¬ Dn L j := fun j hd hx => hd ((dn_set hi).2 (.inr hx))
  exact ⟨h.tg, fun d => h.c1 (e _ n1 d), fun d => h.c2 (e _ n2 d), fun d d' => h.z1 (e _ n3 d) (e' _ d'), fun d d' => h.z2 (e _ n4 d) (e' _ d'), fun d => h.f1 (e _ n5 d), fun d => h.f2 (e _ n6 d)⟩
theorem CB.call1 (h : CB w0 N1 N2 i1 i2 j1 j2 k1 k2 L o W v1 v2 p1 p2) (hi : i1 < L.size) (hn : i1 ≠ i2 ∧ i1 ≠ j1 ∧ i1 ≠ j2 ∧ i1 ≠ k1 ∧ i1 ≠ k2) (hk : ¬ Dn L k1) {W' : World} (hb : Below W.heap.size W W') {a : Option Addr} {c : Nat}
    (ho : OwnS W' (fun x => W.heap.size ≤ x ∧ x < W'.heap.size) a N1.kids) (hc : N1.kids.length ≤ c) : ∃ o', CB w0 N1 N2 i1 i2 j1 j2 k1 k2 (L.setIfInBounds i1 true) o' W' (.agg #[.int .i64 N1.f, .int .i64 N1.v, .slice a N1.kids.length c]) v2 p1 p2 := by
  obtain ⟨n2, n3, n4, n5, n6⟩ := hn
  have e : ∀ j, i1 ≠ j → Dn (L.setIfInBounds i1 true) j → Dn L j := fun j hj hd => ((dn_set hi).1 hd).resolve_left (fun e => hj e.symm)
  have e' : ∀ j, ¬ Dn (L.setIfInBounds i1 true) j → ¬ Dn L j := fun j hd hx => hd ((dn_set hi).2 (.inr hx))
  have F := TFr.grow 9 (o := o) hb 1
  exact ⟨_, h.tg.grow hb 1, fun _ => FC.new 1 ho hc, fun d => (h.c2 (e _ n2 d)).fr h.tg F (by decide) (by decide), fun d d' => FB.fr (h.z1 (e _ n3 d) (e' _ d')) F (by decide), fun d d' => FB.fr (h.z2 (e _ n4 d) (e' _ d')) F (by decide), fun d => absurd (e _ n5 d) hk, fun d => (h.f2 (e _ n6 d)).fr F (by decide)⟩
theorem CB.call2 (h : CB w0 N1 N2 i1 i2 j1 j2 k1 k2 L o W v1 v2 p1 p2) (hi : i2 < L.size) (hn : i2 ≠ i1 ∧ i2 ≠ j1 ∧ i2 ≠ j2 ∧ i2 ≠ k1 ∧ i2 ≠ k2) (hk : ¬ Dn L k2) {W' : World} (hb : Below W.heap.size W W') {a : Option Addr} {c : Nat}
    (ho : OwnS W' (fun x => W.heap.size ≤ x ∧ x < W'.heap.size) a N2.kids) (hc : N2.kids.length ≤ c) : ∃ o', CB w0 N1 N2 i1 i2 j1 j2 k1 k2 (L.setIfInBounds i2 true) o' W' v1 (.agg #[.int .i64 N2.f, .int .i64 N2.v, .slice a N2.kids.length c]) p1 p2 := by
  obtain ⟨n2, n3, n4, n5, n6⟩ := hn
  have e : ∀ j, i2 ≠ j → Dn (L.setIfInBounds i2 true) j → Dn L j := fun j hj hd => ((dn_set hi).1 hd).resolve_left (fun e => hj e.symm)
  have e' : ∀ j, ¬ Dn (L.setIfInBounds i2 true) j → ¬ Dn L j := fun j hd hx => hd ((dn_set hi).2 (.inr hx))
  have F := TFr.grow 9 (o := o) hb 2
  exact ⟨_, h.tg.grow hb 2, fun d => (h.c1 (e _ n2 d)).fr h.tg F (by decide) (by decide), fun _ => FC.new 2 ho hc, fun d d' => FB.fr (h.z1 (e _ n3 d) (e' _ d')) F (by decide), fun d d' => FB.fr (h.z2 (e _ n4 d) (e' _ d')) F (by decide), fun d => (h.f1 (e _ n5 d)).fr F (by decide), fun d => absurd (e _ n6 d) hk⟩
theorem CB.box1 (h : CB w0 N1 N2 i1 i2 j1 j2 k1 k2 L o W v1 v2 p1 p2) (hi : j1 < L.size) (hn : j1 ≠ i1 ∧ j1 ≠ i2 ∧ j1 ≠ j2 ∧ j1 ≠ k1 ∧ j1 ≠ k2) (hk : ¬ Dn L k1) (T : TypeId) :
    ∃ o', CB w0 N1 N2 i1 i2 j1 j2 k1 k2 (L.setIfInBounds j1 true) o' (W.alloc (.cells #[.int .i64 0, .int .i64 0, .slice none 0 0] T)) v1 v2 (.pointer (some ⟨W.heap.size, 0, none⟩)) p2 := by
  obtain ⟨n2, n3, n4, n5, n6⟩ := hn
  have e : ∀ j, j1 ≠ j → Dn (L.setIfInBounds j1 true) j → Dn L j := fun j hj hd => ((dn_set hi).1 hd).resolve_left (fun e => hj e.symm)
  have e' : ∀ j, ¬ Dn (L.setIfInBounds j1 true) j → ¬ Dn L j := fun j hd hx => hd ((dn_set hi).2 (.inr hx))
  have hb : Below W.heap.size W (W.alloc (.cells #[.int .i64 0, .int .i64 0, .slice none 0 0] T)) := (Below.refl _ _).alloc (Nat.le_refl _) _
  have F := TFr.grow 9 (o := o) hb 3
  exact ⟨_, h.tg.grow hb 3, fun d => (h.c1 (e _ n2 d)).fr h.tg F (by decide) (by decide), fun d => (h.c2 (e _ n3 d)).fr h.tg F (by decide) (by decide), fun _ _ => FZ.new o W 3 T, fun d d' => FB.fr (h.z2 (e _ n4 d) (e' _ d')) F (by decide), fun d => absurd (e _ n5 d) hk, fun d => (h.f2 (e _ n6 d)).fr F (by decide)⟩
theorem CB.box2 (h : CB w0 N1 N2 i1 i2 j1 j2 k1 k2 L o W v1 v2 p1 p2) (hi : j2 < L.size) (hn : j2 ≠ i1 ∧ j2 ≠ i2 ∧ j2 ≠ j1 ∧ j2 ≠ k1 ∧ j2 ≠ k2) (hk : ¬ Dn L k2) (T : TypeId) :
    ∃ o', CB w0 N1 N2 i1 i2 j1 j2 k1 k2 (L.setIfInBounds j2 true) o' (W.alloc (.cells #[.int .i64 0, .int .i64 0, .slice none 0 0] T)) v1 v2 p1 (.pointer (some ⟨W.heap.size, 0, none⟩)) := by
  obtain ⟨n2, n3, n4, n5, n6⟩ := hn
  have e : ∀ j, j2 ≠ j → Dn (L.setIfInBounds j2 true) j → Dn L j := fun j hj hd => ((dn_set hi).1 hd).resolve_left (fun e => hj e.symm)
  have e' : ∀ j, ¬ Dn (L.setIfInBounds j2 true) j → ¬ Dn L j := fun j hd hx => hd ((dn_set hi).2 (.inr hx))
  have hb : Below W.heap.size W (W.alloc (.cells #[.int .i64 0, .int .i64 0, .slice none 0 0] T)) := (Below.refl _ _).alloc (Nat.le_refl _) _
  have F := TFr.grow 9 (o := o) hb 4
  exact ⟨_, h.tg.grow hb 4, fun d => (h.c1 (e _ n2 d)).fr h.tg F (by decide) (by decide), fun d => (h.c2 (e _ n3 d)).fr h.tg F (by decide) (by decide), fun d d' => FB.fr (h.z1 (e _ n4 d) (e' _ d')) F (by decide), fun _ _ => FZ.new o W 4 T, fun d => (h.f1 (e _ n5 d)).fr F (by decide), fun d => absurd (e _ n6 d) hk⟩
/-- A box that is written. -/
theorem CB.put1 {B : Nat} {x y z x' y' z' : Value} (h : CB w0 N1 N2 i1 i2 j1 j2 k1 k2 L o W (.agg #[x', y', z']) v2 (.pointer (some ⟨B, 0, none⟩)) p2) (hi : k1 < L.size) (hn : k1 ≠ i1 ∧ k1 ≠ i2 ∧ k1 ≠ j1 ∧ k1 ≠ j2 ∧ k1 ≠ k2) (hob : o B = 3) (hz : ∀ j, W.frozen? ⟨B, j, none⟩ = false) (hC : C3 W B x y z) :
    CB w0 N1 N2 i1 i2 j1 j2 k1 k2 (L.setIfInBounds k1 true) o (((W.setCell ⟨B, 0, none⟩ x').setCell ⟨B, 1, none⟩ y').setCell ⟨B, 2, none⟩ z') (.agg #[x', y', z']) v2 (.pointer (some ⟨B, 0, none⟩)) p2 := by
  obtain ⟨n2, n3, n4, n5, n6⟩ := hn
  have e : ∀ j, k1 ≠ j → Dn (L.setIfInBounds k1 true) j → Dn L j := fun j hj hd => ((dn_set hi).1 hd).resolve_left (fun e => hj e.symm)
  have e' : ∀ j, ¬ Dn (L.setIfInBounds k1 true) j → ¬ Dn L j := fun j hd hx => hd ((dn_set hi).2 (.inr hx))
  have F := TFr.set (W := W) hob x' y' z'
  exact ⟨h.tg.set (by omega) _ _ _, fun d => (h.c1 (e _ n2 d)).fr h.tg F (by decide) (by decide), fun d => (h.c2 (e _ n3 d)).fr h.tg F (by decide) (by decide), fun _ d' => absurd ((dn_set hi).2 (.inl rfl)) d', fun d d' => FB.fr (h.z2 (e _ n5 d) (e' _ d')) F (by decide), fun _ => FB.put hob hz hC _ _ _, fun d => (h.f2 (e _ n6 d)).fr F (by decide)⟩
theorem CB.put2 {B : Nat} {x y z x' y' z' : Value} (h : CB w0 N1 N2 i1 i2 j1 j2 k1 k2 L o W v1 (.agg #[x', y', z']) p1 (.pointer (some ⟨B, 0, none⟩))) (hi : k2 < L.size) (hn : k2 ≠ i1 ∧ k2 ≠ i2 ∧ k2 ≠ j1 ∧ k2 ≠ j2 ∧ k2 ≠ k1) (hob : o B = 4) (hz : ∀ j, W.frozen? ⟨B, j, none⟩ = false) (hC : C3 W B x y z) :
    CB w0 N1 N2 i1 i2 j1 j2 k1 k2 (L.setIfInBounds k2 true) o (((W.setCell ⟨B, 0, none⟩ x').setCell ⟨B, 1, none⟩ y').setCell ⟨B, 2, none⟩ z') v1 (.agg #[x', y', z']) p1 (.pointer (some ⟨B, 0, none⟩)) := by
  obtain ⟨n2, n3, n4, n5, n6⟩ := hn
  have e : ∀ j, k2 ≠ j → Dn (L.setIfInBounds k2 true) j → Dn L j := fun j hj hd => ((dn_set hi).1 hd).resolve_left (fun e => hj e.symm)
  have e' : ∀ j, ¬ Dn (L.setIfInBounds k2 true) j → ¬ Dn L j := fun j hd hx => hd ((dn_set hi).2 (.inr hx))
  have F := TFr.set (W := W) hob x' y' z'
  exact ⟨h.tg.set (by omega) _ _ _, fun d => (h.c1 (e _ n2 d)).fr h.tg F (by decide) (by decide), fun d => (h.c2 (e _ n3 d)).fr h.tg F (by decide) (by decide), fun d d' => FB.fr (h.z1 (e _ n4 d) (e' _ d')) F (by decide), fun _ d' => absurd ((dn_set hi).2 (.inl rfl)) d', fun d => (h.f1 (e _ n6 d)).fr F (by decide), fun _ => FB.put hob hz hC _ _ _⟩
end
end Go.Proofs.Ytollijngiioonaa

/- What lies in memory while the law on one form goes on. Conditions: none. -/
namespace Go.Proofs.Ytollijngiioonaa
set_option maxRecDepth 100000
open Go.RowKit

/-- The drawn term, its functions. -/
structure OF1 (w : World) (g o : Nat) (ss : List SymD) (Bt : Nat) (t : TermD) (ta : Option Addr) (tc : Nat) (W : World) : Prop where
  bel : Below w.heap.size w W
  s : RdS W (some ⟨g, o, none⟩) ss
  b : C3 W Bt (.int .i64 t.f) (.int .i64 t.v) (.slice ta t.kids.length tc)
  r : RdK W W.heap.size ta t.kids
theorem OF1.on {w : World} {g o : Nat} {ss : List SymD} {Bt : Nat} {t : TermD} {ta : Option Addr} {tc : Nat} {W W' : World} (h : OF1 w g o ss Bt t ta tc W) (hb : Below W.heap.size W W') : OF1 w g o ss Bt t ta tc W' :=
  ⟨h.bel.trans (hb.mono h.bel.size), h.s.below hb, h.b.on hb, (h.r.on hb).mono hb.size⟩
theorem OF1.new {w : World} {g o : Nat} {ss : List SymD} {t : TermD} {ta : Option Addr} {tc : Nat} {W : World} (h : One w g o ss t ta tc W) : OF1 w g o ss W.heap.size t ta tc (W.alloc (.cells #[.int .i64 t.f, .int .i64 t.v, .slice ta t.kids.length tc] 27)) := by
  have hb : Below W.heap.size W (W.alloc (.cells #[.int .i64 t.f, .int .i64 t.v, .slice ta t.kids.length tc] 27)) := (Below.refl _ _).alloc (Nat.le_refl _) _
  exact ⟨h.bel.trans (hb.mono h.bel.size), h.s.below hb, C3.new _ _ _ _ _, (h.o1.rd.on hb).mono hb.size⟩
/-- And its one form. -/
structure OF2 (w : World) (g o : Nat) (ss : List SymD) (Bt : Nat) (t : TermD) (ta : Option Addr) (tc : Nat) (Bn : Nat) (N : TermD) (na : Option Addr) (nc : Nat) (W : World) : Prop where
  q : OF1 w g o ss Bt t ta tc W
  b : C3 W Bn (.int .i64 N.f) (.int .i64 N.v) (.slice na N.kids.length nc)
  r : RdK W W.heap.size na N.kids
theorem OF2.on {w : World} {g o : Nat} {ss : List SymD} {Bt : Nat} {t : TermD} {ta : Option Addr} {tc : Nat} {Bn : Nat} {N : TermD} {na : Option Addr} {nc : Nat} {W W' : World} (h : OF2 w g o ss Bt t ta tc Bn N na nc W) (hb : Below W.heap.size W W') : OF2 w g o ss Bt t ta tc Bn N na nc W' := ⟨h.q.on hb, h.b.on hb, (h.r.on hb).mono hb.size⟩
theorem OF1.two {w : World} {g o : Nat} {ss : List SymD} {Bt : Nat} {t : TermD} {ta : Option Addr} {tc : Nat} {N : TermD} {na : Option Addr} {nc : Nat} {W W' : World} (h : OF1 w g o ss Bt t ta tc W) (hb : Below W.heap.size W W') (ho : OwnS W' (fun k => W.heap.size ≤ k ∧ k < W'.heap.size) na N.kids) : OF2 w g o ss Bt t ta tc W'.heap.size N na nc (W'.alloc (.cells #[.int .i64 N.f, .int .i64 N.v, .slice na N.kids.length nc] 27)) := by
  have hb2 : Below W'.heap.size W' (W'.alloc (.cells #[.int .i64 N.f, .int .i64 N.v, .slice na N.kids.length nc] 27)) := (Below.refl _ _).alloc (Nat.le_refl _) _
  exact ⟨(h.on hb).on hb2, C3.new _ _ _ _ _, (ho.rd.on hb2).mono hb2.size⟩
/-- And the drawn list. -/
structure OF3 (w : World) (g o : Nat) (ss : List SymD) (Bt : Nat) (t : TermD) (ta : Option Addr) (tc : Nat) (Bn : Nat) (N : TermD) (na : Option Addr) (nc gu : Nat) (ka : Option Addr) (ks : List TermD) (W : World) : Prop where
  q : OF2 w g o ss Bt t ta tc Bn N na nc W
  u : RdS W (some ⟨gu, 0, none⟩) sig7
  k : RdK W W.heap.size ka ks
theorem OF3.on {w : World} {g o : Nat} {ss : List SymD} {Bt : Nat} {t : TermD} {ta : Option Addr} {tc : Nat} {Bn : Nat} {N : TermD} {na : Option Addr} {nc gu : Nat} {ka : Option Addr} {ks : List TermD} {W W' : World} (h : OF3 w g o ss Bt t ta tc Bn N na nc gu ka ks W) (hb : Below W.heap.size W W') : OF3 w g o ss Bt t ta tc Bn N na nc gu ka ks W' := ⟨h.q.on hb, h.u.below hb, (h.k.on hb).mono hb.size⟩
/-- And what it is made into. -/
structure OF4 (w : World) (g o : Nat) (ss : List SymD) (Bt : Nat) (t : TermD) (ta : Option Addr) (tc : Nat) (Bn : Nat) (N : TermD) (na : Option Addr) (nc gu : Nat) (ka : Option Addr) (ks : List TermD) (Bm : Nat) (M : TermD) (ma : Option Addr) (mc : Nat) (W : World) : Prop where
  q : OF3 w g o ss Bt t ta tc Bn N na nc gu ka ks W
  b : C3 W Bm (.int .i64 M.f) (.int .i64 M.v) (.slice ma M.kids.length mc)
  r : RdK W W.heap.size ma M.kids
theorem OF4.on {w : World} {g o : Nat} {ss : List SymD} {Bt : Nat} {t : TermD} {ta : Option Addr} {tc : Nat} {Bn : Nat} {N : TermD} {na : Option Addr} {nc gu : Nat} {ka : Option Addr} {ks : List TermD} {Bm : Nat} {M : TermD} {ma : Option Addr} {mc : Nat} {W W' : World} (h : OF4 w g o ss Bt t ta tc Bn N na nc gu ka ks Bm M ma mc W) (hb : Below W.heap.size W W') : OF4 w g o ss Bt t ta tc Bn N na nc gu ka ks Bm M ma mc W' := ⟨h.q.on hb, h.b.on hb, (h.r.on hb).mono hb.size⟩
theorem OF3.four {w : World} {g o : Nat} {ss : List SymD} {Bt : Nat} {t : TermD} {ta : Option Addr} {tc : Nat} {Bn : Nat} {N : TermD} {na : Option Addr} {nc gu : Nat} {ka : Option Addr} {ks : List TermD} {M : TermD} {ma : Option Addr} {mc : Nat} {W W' : World} (h : OF3 w g o ss Bt t ta tc Bn N na nc gu ka ks W) (hb : Below W.heap.size W W') (ho : OwnS W' (fun k => W.heap.size ≤ k ∧ k < W'.heap.size) ma M.kids) : OF4 w g o ss Bt t ta tc Bn N na nc gu ka ks W'.heap.size M ma mc (W'.alloc (.cells #[.int .i64 M.f, .int .i64 M.v, .slice ma M.kids.length mc] 27)) := by
  have hb2 : Below W'.heap.size W' (W'.alloc (.cells #[.int .i64 M.f, .int .i64 M.v, .slice ma M.kids.length mc] 27)) := (Below.refl _ _).alloc (Nat.le_refl _) _
  exact ⟨(h.on hb).on hb2, C3.new _ _ _ _ _, (ho.rd.on hb2).mono hb2.size⟩
/-- A value that holds a term. -/
def KR (W : World) (s : Value) (N : TermD) : Prop := ∃ y k, s = .agg #[.int .i64 N.f, .int .i64 N.v, .slice y N.kids.length k] ∧ RdK W W.heap.size y N.kids ∧ N.kids.length ≤ k
theorem KR.on {W W' : World} {s : Value} {N : TermD} (h : KR W s N) (hb : Below W.heap.size W W') : KR W' s N := by
  obtain ⟨y, k, e, hr, hk⟩ := h
  exact ⟨y, k, e, (hr.on hb).mono hb.size, hk⟩
theorem same_self (t : TermD) : sameT t t = true := (ordT_same t t).1 (ordT_zero.2 rfl)
theorem make_parts (ss : List SymD) (f : Int) (ks : List TermD) : partsT (makeT ss f ks) ≤ partsL ks + 1 := by
  have hm : partsT (.mk f 0 ks) ≤ partsL ks + 1 := by
    rw [partsT_eq]
    show _ ≤ partsL ks + 1
    simp only [TermD.kids]
    omega
  unfold makeT
  split
  · rw [partsT_eq]
    simp only [TermD.kids, partsL]
    omega
  · split
    · rename_i h
      refine Nat.le_trans (normT_parts _ _) ?_
      match ks, h.2 with
      | [k], _ => simp only [List.headD_cons, partsL]; omega
    · split
      · exact hm
      · exact Nat.le_trans (normT_parts _ _) hm
end Go.Proofs.Ytollijngiioonaa

