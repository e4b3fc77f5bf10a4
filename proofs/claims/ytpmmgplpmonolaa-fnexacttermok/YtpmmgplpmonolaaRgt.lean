/- Whether a term is right, as the specification tells it. Conditions: terms of at most 4194304 parts, at most 1048577 functions. -/
import Derived.Test.YtpmmgplpmonolaaTermBef
import Derived.Test.YtpmmgplpmonolaaTermSpec
import Derived.Test.YtpmmgplpmonolaaSymSpec
import Derived.Test.YtpmmgplpmonolaaNormD
import Derived.Test.YtpmmgplpmonolaaQB
import Derived.Deep.QuietTactic
import Derived.BigQuiet
namespace Go.Proofs.Ytpmmgplpmonolaa
set_option maxRecDepth 100000
open Go.RowKit Go.BigFrame

theorem rightT_mk (ss : List SymD) (f v : Int) (ks : List TermD) : rightT ss (.mk f v ks) = if f = -1 then decide (0 ≤ v ∧ v ≤ 99) && ks.isEmpty
    else decide (0 ≤ f ∧ f < ss.length) && v == 0 && (if blindAt ss f then decide (2 ≤ ks.length) else (ks.length : Int) == arityAt ss f) && rightL ss f none ks := by rw [rightT]

theorem l1In_any (x lo hi : Int) (w : World) : Calls Try.prog 59 #[.int .i64 x, .int .i64 lo, .int .i64 hi] w fun e w' => e = .returned (.bool (decide (lo ≤ x) && decide (x ≤ hi))) ∧ w' = w := by
  by_cases h : lo ≤ x
  · go_enter Try.func59, Try.ntmps59
    go_wp2
    go_ret
    exact ⟨rtB (by simp [h]), rfl⟩
  · go_enter Try.func59, Try.ntmps59
    go_wp2
    go_ret
    exact ⟨rtB (by simp; omega), rfl⟩

set_option maxHeartbeats 3200000 in
theorem l4Right_any (sa : Option Addr) (ss : List SymD) (sc : Nat) (hss : ss.length ≤ 1048577) (N : Nat) : ∀ (t : TermD) (a : Option Addr) (c hi : Nat) (w : World), isW t.f → RdS w sa ss → partsT t ≤ N → N ≤ 4194304 → RdK w hi a t.kids → hi ≤ w.heap.size →
    Calls Try.prog 73 #[.slice sa ss.length sc, .agg #[.int .i64 t.f, .int .i64 t.v, .slice a t.kids.length c]] w fun e w' => e = .returned (.bool (rightT ss t)) ∧ Below w.heap.size w w' := by
  induction N with
  | zero => intro t a c hi w _ _ h; rw [partsT_eq] at h; omega
  | succ N ih =>
    intro t a c hi w hf hs hN hM hr hhi
    obtain ⟨f, v, ks⟩ := t
    simp only [TermD.f, TermD.v, TermD.kids] at hf hr ⊢
    rw [partsT] at hN
    have hlen := partsL_len ks
    have HR : Hid (RdK w hi a ks) := hr
    have HS : Hid (RdS w sa ss) := hs
    have HW0 : Hid _ := rightT_mk ss f v ks
    obtain ⟨W, hW⟩ : ∃ W, W = w.alloc (.cells #[.int .i64 f, .int .i64 v, .slice a ks.length c] 27) := ⟨_, rfl⟩
    have hb0 : Below w.heap.size w W := by rw [hW]; exact (Below.refl w.heap.size w).alloc (Nat.le_refl _) _
    have p0 : W.cell? ⟨w.heap.size, 0, none⟩ = some (.int .i64 f) := by rw [hW]; simp [go_sem]
    have p1 : W.cell? ⟨w.heap.size, 1, none⟩ = some (.int .i64 v) := by rw [hW]; simp [go_sem]
    have p2 : W.cell? ⟨w.heap.size, 2, none⟩ = some (.slice a ks.length c) := by rw [hW]; simp [go_sem]
    have hwl0 : w.heap.size < W.heap.size := by rw [hW]; simp
    have hf0 := hf.1
    have hf1 := hf.2
    clear hf hr
    by_cases hv : f = -1
    · have HW : Hid (rightT ss (.mk f v ks) = (decide (0 ≤ v) && decide (v ≤ 99) && decide (ks.length = 0))) := by
        show _ = _
        rw [HW0.out, if_pos hv]
        cases ks <;> by_cases h1 : 0 ≤ v <;> by_cases h2 : v ≤ 99 <;> simp [h1, h2]
      have hfe : (f == -1) = true := by simp [hv]
      clear HW0 hs hv
      generalize ks.length = m at *
      go_enter Try.func73, Try.ntmps73
      go_wp2_with go_in
      all_goals
        go_ret
        refine ⟨rtB ?_, by rw [hW] at hb0; exact hb0⟩
        rw [HW.out]
        first
          | (simp; omega)
          | (simp; intros; omega)
          | (by_cases hm : m = 0 <;> simp [*] <;> omega)
          | (by_cases hm : m = 0 <;> simp [*])
    · have hfe : (f == -1) = false := by simp [hv]
      by_cases hin : 0 ≤ f ∧ f < (ss.length : Int)
      · obtain ⟨k, rfl⟩ := Int.eq_ofNat_of_zero_le hin.1
        have hk : k < ss.length := by omega
        have IN := fun w => l1In_any k 0 ((ss.length : Int) - 1) w
        rw [show (decide ((0 : Int) ≤ k) && decide ((k : Int) ≤ (ss.length : Int) - 1)) = true by simp; omega] at IN
        have hki : (k : Int) < (ss.length : Int) := by omega
        have hk0 : (0 : Int) ≤ (k : Int) := by omega
        have hsl : (ss.length : Int) ≤ 1048577 := by omega
        rcases hs with rfl | ⟨b0, o0, rfl, hbl, hcs⟩
        · simp at hk
        · obtain ⟨_, c1, c2⟩ := hcs k hk
          have c2o := c2
          have c1 := keepC hb0 c1
          have c2 := keepC hb0 c2
          have hwr : IntKind.i64.wrap ((ss.length : Int) - 1) = (ss.length : Int) - 1 := by rw [IntKind.wrap_i64]; omega
          have HA : Hid (blindAt ss k = ss[k].ac ∧ arityAt ss k = ss[k].ar) := ⟨blindAt_in hk, arityAt_in hk⟩
          clear hcs hin
          by_cases hv0 : v = 0
          · have hve : (v == 0) = true := by simp [hv0]
            have hvn : (v != 0) = false := by simp [hv0]
            cases hac : ss[k].ac with
            | false =>
              have hnac : (!ss[k].ac) = true := by rw [hac]; rfl
              rw [hac] at HA c2 c2o
              by_cases hea : (ks.length : Int) = ss[k].ar
              · have hne : ((ks.length : Int) == ss[k].ar) = true := by simp [hea]
                have hnn : ((ks.length : Int) != ss[k].ar) = false := by simp [hea]
                have HW : Hid (rightT ss (.mk k v ks) = rightL ss k none ks) := by show _ = _; rw [HW0.out, if_neg hv, HA.out.1, HA.out.2, hve, hne, decide_eq_true (by omega)]; simp
                have cc2 := c2o
                clear HW0 hv hv0 hea
                go_enter Try.func73, Try.ntmps73
                go_wp2_with fail
                rw [← hW]
                clear hW
                go_quiet ((go_at_call 59; refine Calls.quiet_of_same (IN _)))
                go_wp2_with fail
                go_loopw [5] (fun i wr => ∃ j : Nat, j ≤ ks.length ∧ i = .int .i64 j ∧ Hid (rightL ss k none ks = rightL ss k (if j = 0 then none else ks[j-1]?) (ks.drop j)) ∧ wr.cell? ⟨w.heap.size, 0, none⟩ = some (.int .i64 k) ∧ wr.cell? ⟨w.heap.size, 2, none⟩ = some (.slice a ks.length c) ∧ Below w.heap.size w wr ∧ w.heap.size < wr.heap.size) (fun i _ => ks.length - (intOf i).toNat)
                case atStart => exact ⟨0, Nat.zero_le _, rfl, by show _ = _; simp, p0, p2, below_drewN hb0 _, hwl0⟩
                case round =>
                  obtain ⟨j, hj, rfl, HK, hp0, hp2, hbr, hwl⟩ := hrel
                  clear p0 p1 p2 hb0 hwl0 c1
                  by_cases hj' : j < ks.length
                  · obtain ⟨b, off, a', c', rfl, hlt, d0, d1, d2, hkr⟩ := RdK.kid (HR.out.on (hbr.mono hhi)) hj'
                    have hji : (j : Int) < (ks.length : Int) := by omega
                    have hj0 : (0 : Int) ≤ (j : Int) := by omega
                    have hli : (ks.length : Int) ≤ 4194304 := by omega
                    have hpg := partsL_get hj'
                    have HD : Hid (ks.drop j = ks[j] :: ks.drop (j + 1)) := List.drop_eq_getElem_cons hj'
                    have g2 : wr.cell? ⟨b0, o0 + k * 3 + 2, none⟩ = some (.bool false) := hbr.cell (p := ⟨b0, o0 + k * 3 + 2, none⟩) hbl |>.trans cc2
                    have IR0 := fun W' (h : Below wr.heap.size wr W') => ih ks[j] a' c' hi W' (RdK.ints HR.out hj').1 (HS.out.below (hbr.trans (h.mono hbr.size))) (by omega) (by omega) (hkr.on (h.mono (Nat.le_trans hhi hbr.size))) (Nat.le_trans hhi (Nat.le_trans hbr.size h.size))
                    cases hrt : rightT ss ks[j] with
                    | false =>
                      have IR : ∀ W', Below wr.heap.size wr W' → Calls Try.prog 73 #[.slice (some ⟨b0, o0, none⟩) ss.length sc, .agg #[.int .i64 ks[j].f, .int .i64 ks[j].v, .slice a' ks[j].kids.length c']] W' fun e w' => e = .returned (.bool false) ∧ Below W'.heap.size W' w' := fun W' h => by have := IR0 W' h; rwa [hrt] at this
                      have HF : Hid (rightT ss (.mk k v ks) = false) := by show _ = _; rw [HW.out, HK.out, HD.out, rightL, hrt]; simp
                      clear IR0 HK HD hrt hkr
                      go_wp2_with fail
                      have k0 := cellB hp0
                      have k2 := cellB hp2
                      have k3 := cellB g2
                      have k4 := cellB d0
                      have k5 := cellB d1
                      have k6 := cellB d2
                      refine wp_region_below (by kernel_rfl) (by kernel_rfl) ?_
                      repeat (go_big_quiet_step ((first | (go_at_call 73; refine callsB (IR _ (BW.b _))))))
                      refine wpQuiet_nil ?_
                      intro w2 hw'
                      have hb2 : Below wr.heap.size wr w2 := by obtain ⟨p, rfl⟩ := hw'; exact p.b
                      clear hw'
                      have hB2 : Below w.heap.size w w2 := hbr.trans (hb2.mono hbr.size)
                      have q0 := keepC hb2 hp0
                      have q2 := keepC hb2 hp2
                      clear k0 k2 k3 k4 k5 k6
                      go_wp2_with fail
                      go_ret
                      exact ⟨rtB HF.out.symm, hB2⟩
                    | true =>
                      have IR : ∀ W', Below wr.heap.size wr W' → Calls Try.prog 73 #[.slice (some ⟨b0, o0, none⟩) ss.length sc, .agg #[.int .i64 ks[j].f, .int .i64 ks[j].v, .slice a' ks[j].kids.length c']] W' fun e w' => e = .returned (.bool true) ∧ Below W'.heap.size W' w' := fun W' h => by have := IR0 W' h; rwa [hrt] at this
                      have HN : Hid (rightL ss k none ks = rightL ss k (if j + 1 = 0 then none else ks[j + 1 - 1]?) (ks.drop (j + 1))) := by show _ = _; rw [HK.out, HD.out, rightL, hrt, if_neg (by omega : ¬ j + 1 = 0), show j + 1 - 1 = j by omega, List.getElem?_eq_getElem hj']; rw [HA.out.1]; simp
                      clear IR0 HK HD hrt hkr
                      go_wp2_with fail
                      have k0 := cellB hp0
                      have k2 := cellB hp2
                      have k3 := cellB g2
                      have k4 := cellB d0
                      have k5 := cellB d1
                      have k6 := cellB d2
                      refine wp_region_below (by kernel_rfl) (by kernel_rfl) ?_
                      repeat (go_big_quiet_step ((first | (go_at_call 73; refine callsB (IR _ (BW.b _))))))
                      refine wpQuiet_nil ?_
                      intro w2 hw'
                      have hb2 : Below wr.heap.size wr w2 := by obtain ⟨p, rfl⟩ := hw'; exact p.b
                      clear hw'
                      have hB2 : Below w.heap.size w w2 := hbr.trans (hb2.mono hbr.size)
                      have q0 := keepC hb2 hp0
                      have q2 := keepC hb2 hp2
                      clear k0 k2 k3 k4 k5 k6
                      go_wp2_with fail
                      go_roundw
                      case rel => exact ⟨j + 1, by omega, by go_num, HN, q0, q2, hB2, World.block_lt_of_cell? _ _ q0⟩
                      case measure => simp [intOf]; omega
                  · have HE : Hid (rightT ss (.mk k v ks) = true) := by show _ = _; rw [HW.out, HK.out, List.drop_eq_nil_of_le (by omega), rightL]
                    clear HK
                    go_wp2_with fail
                    go_ret
                    exact ⟨rtB HE.out.symm, hbr⟩
              · have hne : ((ks.length : Int) == ss[k].ar) = false := by simp [hea]
                have hnn : ((ks.length : Int) != ss[k].ar) = true := by simp [hea]
                have HW : Hid (rightT ss (.mk k v ks) = false) := by show _ = _; rw [HW0.out, if_neg hv, HA.out.1, HA.out.2, hne]; simp
                clear HW0 hv hv0 HA hea
                go_enter Try.func73, Try.ntmps73
                go_wp2_with fail
                rw [← hW]
                clear hW
                go_quiet ((go_at_call 59; refine Calls.quiet_of_same (IN _)))
                go_wp2_with fail
                go_ret
                exact ⟨rtB HW.out.symm, below_drewN hb0 _⟩
            | true =>
              have hnac : (!ss[k].ac) = false := by rw [hac]; rfl
              rw [hac] at HA c2 c2o
              by_cases hl2 : ks.length < 2
              · have hl2i : decide ((ks.length : Int) < 2) = true := by simp; omega
                have HW : Hid (rightT ss (.mk k v ks) = false) := by show _ = _; rw [HW0.out, if_neg hv, HA.out.1, if_pos rfl, decide_eq_false (by omega : ¬ 2 ≤ ks.length)]; simp
                clear HW0 hv hv0 HA hl2
                go_enter Try.func73, Try.ntmps73
                go_wp2_with fail
                rw [← hW]
                clear hW
                go_quiet ((go_at_call 59; refine Calls.quiet_of_same (IN _)))
                go_wp2_with fail
                go_ret
                exact ⟨rtB HW.out.symm, below_drewN hb0 _⟩
              · have hl2i : decide ((ks.length : Int) < 2) = false := by simp; omega
                have HW : Hid (rightT ss (.mk k v ks) = rightL ss k none ks) := by show _ = _; rw [HW0.out, if_neg hv, HA.out.1, if_pos rfl, hve, decide_eq_true (by omega : 2 ≤ ks.length), decide_eq_true (by omega)]; simp
                have cc2 := c2o
                clear HW0 hv hv0 hl2
                go_enter Try.func73, Try.ntmps73
                go_wp2_with fail
                rw [← hW]
                clear hW
                go_quiet ((go_at_call 59; refine Calls.quiet_of_same (IN _)))
                go_wp2_with fail
                go_loopw [5] (fun i wr => ∃ j : Nat, j ≤ ks.length ∧ i = .int .i64 j ∧ Hid (rightL ss k none ks = rightL ss k (if j = 0 then none else ks[j-1]?) (ks.drop j)) ∧ wr.cell? ⟨w.heap.size, 0, none⟩ = some (.int .i64 k) ∧ wr.cell? ⟨w.heap.size, 2, none⟩ = some (.slice a ks.length c) ∧ Below w.heap.size w wr ∧ w.heap.size < wr.heap.size) (fun i _ => ks.length - (intOf i).toNat)
                case atStart => exact ⟨0, Nat.zero_le _, rfl, by show _ = _; simp, p0, p2, below_drewN hb0 _, hwl0⟩
                case round =>
                  obtain ⟨j, hj, rfl, HK, hp0, hp2, hbr, hwl⟩ := hrel
                  clear p0 p1 p2 hb0 hwl0 c1
                  by_cases hj' : j < ks.length
                  · obtain ⟨b, off, a', c', rfl, hlt, d0, d1, d2, hkr⟩ := RdK.kid (HR.out.on (hbr.mono hhi)) hj'
                    have hji : (j : Int) < (ks.length : Int) := by omega
                    have hj0 : (0 : Int) ≤ (j : Int) := by omega
                    have hli : (ks.length : Int) ≤ 4194304 := by omega
                    have hpg := partsL_get hj'
                    have HD : Hid (ks.drop j = ks[j] :: ks.drop (j + 1)) := List.drop_eq_getElem_cons hj'
                    have g2 : wr.cell? ⟨b0, o0 + k * 3 + 2, none⟩ = some (.bool true) := hbr.cell (p := ⟨b0, o0 + k * 3 + 2, none⟩) hbl |>.trans cc2
                    have IR0 := fun W' (h : Below wr.heap.size wr W') => ih ks[j] a' c' hi W' (RdK.ints HR.out hj').1 (HS.out.below (hbr.trans (h.mono hbr.size))) (by omega) (by omega) (hkr.on (h.mono (Nat.le_trans hhi hbr.size))) (Nat.le_trans hhi (Nat.le_trans hbr.size h.size))
                    by_cases hkf : ks[j].f = k
                    · have hkfe : (ks[j].f == (k : Int)) = true := by simp [hkf]
                      have HF : Hid (rightT ss (.mk k v ks) = false) := by show _ = _; rw [HW.out, HK.out, HD.out, rightL, HA.out.1, hkfe]; simp
                      clear IR0 HK HD hkr hkf
                      go_wp2_with fail
                      go_quiet ((fail))
                      go_wp2_with fail
                      go_ret
                      exact ⟨rtB HF.out.symm, below_drewN hbr _⟩
                    · have hkfe : (ks[j].f == (k : Int)) = false := by simp [hkf]
                      by_cases hjz : j = 0
                      · have hjn : decide ((0 : Int) < (j : Int)) = false := by simp; omega
                        have hjn2 : decide (0 < j) = false := by simp; omega
                        have HJ : Hid ((if j = 0 then (none : Option TermD) else ks[j-1]?) = none) := by show _ = _; rw [if_pos hjz]
                        clear hjz hkf
                        cases hrt : rightT ss ks[j] with
                        | false =>
                          have IR : ∀ W', Below wr.heap.size wr W' → Calls Try.prog 73 #[.slice (some ⟨b0, o0, none⟩) ss.length sc, .agg #[.int .i64 ks[j].f, .int .i64 ks[j].v, .slice a' ks[j].kids.length c']] W' fun e w' => e = .returned (.bool false) ∧ Below W'.heap.size W' w' := fun W' h => by have := IR0 W' h; rwa [hrt] at this
                          have HF : Hid (rightT ss (.mk k v ks) = false) := by show _ = _; rw [HW.out, HK.out, HD.out, rightL, hrt]; simp
                          clear IR0 HK HD hrt hkr
                          go_wp2_with fail
                          have k0 := cellB hp0
                          have k2 := cellB hp2
                          have k3 := cellB g2
                          have k4 := cellB d0
                          have k5 := cellB d1
                          have k6 := cellB d2
                          refine wp_region_below (by kernel_rfl) (by kernel_rfl) ?_
                          repeat (go_big_quiet_step ((first | (go_at_call 73; refine callsB (IR _ (BW.b _))))))
                          refine wpQuiet_nil ?_
                          intro w2 hw'
                          have hb2 : Below wr.heap.size wr w2 := by obtain ⟨p, rfl⟩ := hw'; exact p.b
                          clear hw'
                          have hB2 : Below w.heap.size w w2 := hbr.trans (hb2.mono hbr.size)
                          have q0 := keepC hb2 hp0
                          have q2 := keepC hb2 hp2
                          clear k0 k2 k3 k4 k5 k6
                          go_wp2_with fail
                          go_ret
                          exact ⟨rtB HF.out.symm, hB2⟩
                        | true =>
                          have IR : ∀ W', Below wr.heap.size wr W' → Calls Try.prog 73 #[.slice (some ⟨b0, o0, none⟩) ss.length sc, .agg #[.int .i64 ks[j].f, .int .i64 ks[j].v, .slice a' ks[j].kids.length c']] W' fun e w' => e = .returned (.bool true) ∧ Below W'.heap.size W' w' := fun W' h => by have := IR0 W' h; rwa [hrt] at this
                          have HN : Hid (rightL ss k none ks = rightL ss k (if j + 1 = 0 then none else ks[j + 1 - 1]?) (ks.drop (j + 1))) := by show _ = _; rw [HK.out, HD.out, rightL, hrt, if_neg (by omega : ¬ j + 1 = 0), show j + 1 - 1 = j by omega, List.getElem?_eq_getElem hj']; rw [HJ.out, HA.out.1, hkfe]; simp [befO]
                          clear IR0 HK HD hrt hkr
                          go_wp2_with fail
                          have k0 := cellB hp0
                          have k2 := cellB hp2
                          have k3 := cellB g2
                          have k4 := cellB d0
                          have k5 := cellB d1
                          have k6 := cellB d2
                          refine wp_region_below (by kernel_rfl) (by kernel_rfl) ?_
                          repeat (go_big_quiet_step ((first | (go_at_call 73; refine callsB (IR _ (BW.b _))))))
                          refine wpQuiet_nil ?_
                          intro w2 hw'
                          have hb2 : Below wr.heap.size wr w2 := by obtain ⟨p, rfl⟩ := hw'; exact p.b
                          clear hw'
                          have hB2 : Below w.heap.size w w2 := hbr.trans (hb2.mono hbr.size)
                          have q0 := keepC hb2 hp0
                          have q2 := keepC hb2 hp2
                          clear k0 k2 k3 k4 k5 k6
                          go_wp2_with fail
                          go_roundw
                          case rel => exact ⟨j + 1, by omega, by go_num, HN, q0, q2, hB2, World.block_lt_of_cell? _ _ q0⟩
                          case measure => simp [intOf]; omega
                      · obtain ⟨i, rfl⟩ : ∃ i, j = i + 1 := ⟨j - 1, by omega⟩
                        have hi' : i < ks.length := by omega
                        obtain ⟨b9, off9, a9, c9, e9, hlt9, y0, y1, y2, hkr9⟩ := RdK.kid (HR.out.on (hbr.mono hhi)) hi'
                        cases e9
                        have hjn : (0 : Int) < ((i + 1 : Nat) : Int) := by omega
                        have hi0 : (0 : Int) ≤ (i : Int) := by omega
                        have hi1 : (i : Int) < (ks.length : Int) := by omega
                        have hsub : IntKind.i64.wrap (((i + 1 : Nat) : Int) - 1) = (i : Int) := by rw [IntKind.wrap_i64]; omega
                        have hsub2 : IntKind.i64.wrap ((i : Int) + 1 - 1) = (i : Int) := by rw [IntKind.wrap_i64]; omega
                        have hsub3 : IntKind.i64.wrap (i : Int) = (i : Int) := by rw [IntKind.wrap_i64]; omega
                        have HJ : Hid ((if i + 1 = 0 then (none : Option TermD) else ks[i + 1 - 1]?) = some ks[i]) := by show _ = _; rw [if_neg hjz, show i + 1 - 1 = i by omega, List.getElem?_eq_getElem hi']
                        have CB0 := fun W' (h : Below wr.heap.size wr W') => specBefore_any (partsT ks[i + 1]) ks[i + 1] ks[i] a' a9 c' c9 hi W' (Nat.le_refl _) (by omega) (hkr.on (h.mono (Nat.le_trans hhi hbr.size))) (hkr9.on (h.mono (Nat.le_trans hhi hbr.size))) (Nat.le_trans hhi (Nat.le_trans hbr.size h.size))
                        clear hjz hkf
                        cases hbf : befT ks[i + 1] ks[i] with
                        | true =>
                          have CB : ∀ W', Below wr.heap.size wr W' → Calls Try.prog 87 #[.agg #[.int .i64 ks[i + 1].f, .int .i64 ks[i + 1].v, .slice a' ks[i + 1].kids.length c'], .agg #[.int .i64 ks[i].f, .int .i64 ks[i].v, .slice a9 ks[i].kids.length c9]] W' fun e w' => e = .returned (.bool true) ∧ Below W'.heap.size W' w' := fun W' h => by have := CB0 W' h; rwa [hbf] at this
                          have HF : Hid (rightT ss (.mk k v ks) = false) := by show _ = _; rw [HW.out, HK.out, HD.out, rightL, HJ.out, HA.out.1, befO, hbf]; simp
                          clear IR0 CB0 HK HD hkr hkr9 hbf
                          go_wp2_with fail
                          have k0 := cellB hp0
                          have k2 := cellB hp2
                          have k3 := cellB g2
                          have k4 := cellB d0
                          have k5 := cellB d1
                          have k6 := cellB d2
                          have k7 := cellB y0
                          have k8 := cellB y1
                          have k9 := cellB y2
                          refine wp_region_below (by kernel_rfl) (by kernel_rfl) ?_
                          repeat (go_big_quiet_step ((go_at_call 87; refine callsB (CB _ (BW.b _)))))
                          refine wpQuiet_nil ?_
                          intro w2 hw'
                          have hb2 : Below wr.heap.size wr w2 := by obtain ⟨p, rfl⟩ := hw'; exact p.b
                          clear hw'
                          have hB2 : Below w.heap.size w w2 := hbr.trans (hb2.mono hbr.size)
                          clear k0 k2 k3 k4 k5 k6 k7 k8 k9
                          go_wp2_with fail
                          go_ret
                          exact ⟨rtB HF.out.symm, hB2⟩
                        | false =>
                          have CB : ∀ W', Below wr.heap.size wr W' → Calls Try.prog 87 #[.agg #[.int .i64 ks[i + 1].f, .int .i64 ks[i + 1].v, .slice a' ks[i + 1].kids.length c'], .agg #[.int .i64 ks[i].f, .int .i64 ks[i].v, .slice a9 ks[i].kids.length c9]] W' fun e w' => e = .returned (.bool false) ∧ Below W'.heap.size W' w' := fun W' h => by have := CB0 W' h; rwa [hbf] at this
                          clear CB0 hkr9
                          cases hrt : rightT ss ks[i + 1] with
                          | false =>
                            have IR : ∀ W', Below wr.heap.size wr W' → Calls Try.prog 73 #[.slice (some ⟨b0, o0, none⟩) ss.length sc, .agg #[.int .i64 ks[i + 1].f, .int .i64 ks[i + 1].v, .slice a' ks[i + 1].kids.length c']] W' fun e w' => e = .returned (.bool false) ∧ Below W'.heap.size W' w' := fun W' h => by have := IR0 W' h; rwa [hrt] at this
                            have HF : Hid (rightT ss (.mk k v ks) = false) := by show _ = _; rw [HW.out, HK.out, HD.out, rightL, hrt]; simp
                            clear IR0 HK HD hrt hkr hbf
                            go_wp2_with fail
                            have k0 := cellB hp0
                            have k2 := cellB hp2
                            have k3 := cellB g2
                            have k4 := cellB d0
                            have k5 := cellB d1
                            have k6 := cellB d2
                            have k7 := cellB y0
                            have k8 := cellB y1
                            have k9 := cellB y2
                            refine wp_region_below (by kernel_rfl) (by kernel_rfl) ?_
                            repeat (go_big_quiet_step ((first | (go_at_call 73; refine callsB (IR _ (BW.b _))) | (go_at_call 87; refine callsB (CB _ (BW.b _))))))
                            refine wpQuiet_nil ?_
                            intro w2 hw'
                            have hb2 : Below wr.heap.size wr w2 := by obtain ⟨p, rfl⟩ := hw'; exact p.b
                            clear hw'
                            have hB2 : Below w.heap.size w w2 := hbr.trans (hb2.mono hbr.size)
                            have q0 := keepC hb2 hp0
                            have q2 := keepC hb2 hp2
                            clear k0 k2 k3 k4 k5 k6
                            go_wp2_with fail
                            go_ret
                            exact ⟨rtB HF.out.symm, hB2⟩
                          | true =>
                            have IR : ∀ W', Below wr.heap.size wr W' → Calls Try.prog 73 #[.slice (some ⟨b0, o0, none⟩) ss.length sc, .agg #[.int .i64 ks[i + 1].f, .int .i64 ks[i + 1].v, .slice a' ks[i + 1].kids.length c']] W' fun e w' => e = .returned (.bool true) ∧ Below W'.heap.size W' w' := fun W' h => by have := IR0 W' h; rwa [hrt] at this
                            have HN : Hid (rightL ss k none ks = rightL ss k (if i + 1 + 1 = 0 then none else ks[i + 1 + 1 - 1]?) (ks.drop (i + 1 + 1))) := by show _ = _; rw [HK.out, HD.out, rightL, hrt, if_neg (by omega : ¬ i + 1 + 1 = 0), show i + 1 + 1 - 1 = i + 1 by omega, List.getElem?_eq_getElem hj']; rw [HJ.out, HA.out.1, hkfe, befO, hbf]; simp
                            clear IR0 HK HD hrt hkr hbf
                            go_wp2_with fail
                            have k0 := cellB hp0
                            have k2 := cellB hp2
                            have k3 := cellB g2
                            have k4 := cellB d0
                            have k5 := cellB d1
                            have k6 := cellB d2
                            have k7 := cellB y0
                            have k8 := cellB y1
                            have k9 := cellB y2
                            refine wp_region_below (by kernel_rfl) (by kernel_rfl) ?_
                            repeat (go_big_quiet_step ((first | (go_at_call 73; refine callsB (IR _ (BW.b _))) | (go_at_call 87; refine callsB (CB _ (BW.b _))))))
                            refine wpQuiet_nil ?_
                            intro w2 hw'
                            have hb2 : Below wr.heap.size wr w2 := by obtain ⟨p, rfl⟩ := hw'; exact p.b
                            clear hw'
                            have hB2 : Below w.heap.size w w2 := hbr.trans (hb2.mono hbr.size)
                            have q0 := keepC hb2 hp0
                            have q2 := keepC hb2 hp2
                            clear k0 k2 k3 k4 k5 k6
                            go_wp2_with fail
                            go_roundw
                            case rel => exact ⟨i + 1 + 1, by omega, by go_num, HN, q0, q2, hB2, World.block_lt_of_cell? _ _ q0⟩
                            case measure => simp [intOf]; omega
                  · have HE : Hid (rightT ss (.mk k v ks) = true) := by show _ = _; rw [HW.out, HK.out, List.drop_eq_nil_of_le (by omega), rightL]
                    clear HK
                    go_wp2_with fail
                    go_ret
                    exact ⟨rtB HE.out.symm, hbr⟩
          · have hve : (v == 0) = false := by simp [hv0]
            have hvn : (v != 0) = true := by simp [hv0]
            have HW : Hid (rightT ss (.mk k v ks) = false) := by show _ = _; rw [HW0.out, if_neg hv, hve]; simp
            clear HW0 hv hv0 HA
            go_enter Try.func73, Try.ntmps73
            go_wp2_with fail
            rw [← hW]
            clear hW
            go_quiet ((go_at_call 59; refine Calls.quiet_of_same (IN _)))
            go_wp2_with fail
            go_ret
            exact ⟨rtB HW.out.symm, below_drewN hb0 _⟩
      · have HW : Hid (rightT ss (.mk f v ks) = false) := by show _ = _; rw [HW0.out, if_neg hv, decide_eq_false hin]; simp
        have IN := fun w => l1In_any f 0 ((ss.length : Int) - 1) w
        rw [show (decide ((0 : Int) ≤ f) && decide (f ≤ (ss.length : Int) - 1)) = false by simp; omega] at IN
        have hsl : (ss.length : Int) ≤ 1048577 := by omega
        clear HW0 hv hs hin
        go_enter Try.func73, Try.ntmps73
        go_wp2_with fail
        rw [← hW]
        clear hW
        have hwr : IntKind.i64.wrap ((ss.length : Int) - 1) = (ss.length : Int) - 1 := by rw [IntKind.wrap_i64]; omega
        go_quiet ((go_at_call 59; refine Calls.quiet_of_same (IN _)))
        go_wp2_with fail
        go_ret
        exact ⟨rtB HW.out.symm, below_drewN hb0 _⟩
end Go.Proofs.Ytpmmgplpmonolaa
