/- What the proof of FnExactSubOk stands on, part 12 of 12: each piece says what it proves and under which conditions. Conditions: as each piece says. -/
import Derived.Test.YtkjlldbgooogdabPackExactSubOk11
import Derived.Deep.Cut
import Derived.Deep.CutRange
/- Whether what is put for variables is right: the specification's way, and that both are one. Conditions: at most 1048576 parts. -/
namespace Go.Proofs.Ytkjlldbgooogdab
set_option maxRecDepth 100000
open Go.RowKit

/-- What the specification asks of one Bind. -/
def oneP (ss : List SymD) (us : List BindD) (i : Nat) : Prop := ∀ h : i < us.length, (0 ≤ us[i].n ∧ us[i].n ≤ 99) ∧ (∀ j, (hj : j + 1 = i) → (us[j]'(by omega)).n < us[i].n) ∧ (sigOk ss && decide (partsT us[i].t ≤ 60) && rightT ss us[i].t) = true ∧ ∀ k, (hk : k < us.length) → cntT us[i].n us[k].t = 0
theorem cnt_mem (t : TermD) (v : Int) : v ∈ varsT t [] ↔ cntT v t ≠ 0 := by
  rw [vars_mem, cnt_pre]
  constructor
  · intro h e; exact absurd (List.count_eq_zero.1 e) (by simpa using h)
  · intro h; exact Classical.byContradiction fun q => h (List.count_eq_zero.2 q)
theorem sub_same (ss : List SymD) (us : List BindD) : (numP us ∧ tokP ss us ∧ goneP us) ↔ ∀ i, i < us.length → oneP ss us i := by
  constructor
  · rintro ⟨h1, h2, h3⟩ i hi h
    refine ⟨h1.1 i h, fun j hj => ?_, h2 i h, fun k hk => ?_⟩
    · subst hj; exact h1.2 j h
    · refine Classical.byContradiction fun q => ?_
      exact h3 k hk us[i].n ((cnt_mem _ _).2 q) i h rfl
  · intro h
    refine ⟨⟨fun i hi => (h i hi hi).1, fun i hi => (h (i + 1) hi hi).2.1 i rfl⟩, fun i hi => (h i hi hi).2.2.1, fun i hi v hv j hj e => ?_⟩
    have h1 := (h j hj hj).2.2.2 i hi
    rw [e] at h1
    exact (cnt_mem _ _).1 hv h1

theorem l1In_below (x lo hi : Int) (w : World) : Calls Try.prog 35 #[.int .i64 x, .int .i64 lo, .int .i64 hi] w fun e w' => e = .returned (.bool (decide (lo ≤ x) && decide (x ≤ hi))) ∧ Below w.heap.size w w' :=
  (l1In_any x lo hi w).mono (fun _ w' h => ⟨h.1, by rw [h.2]; exact Below.refl _ _⟩)

set_option maxHeartbeats 6400000 in
theorem specSubOk_any (sa : Option Addr) (ss : List SymD) (sc : Nat) (hss : ss.length ≤ 1048577) (hnm : ∀ s ∈ ss, s.name.size ≤ 1048576) (us : List BindD) (a : Option Addr) (c hi : Nat) (w : World) (hpu : partsU us ≤ 1048576) (hs : RdS w sa ss) (hr : RdU w hi a us) (hhi : hi ≤ w.heap.size) :
    Calls Try.prog 21 #[.slice sa ss.length sc, .slice a us.length c] w fun e w' => e = .returned (.bool (tb (∀ i, i < us.length → oneP ss us i))) ∧ Below w.heap.size w w' := by
  have hl : us.length ≤ 4194304 := by unfold partsU at hpu; omega
  have HR : Hid (RdU w hi a us) := hr
  have HS : Hid (RdS w sa ss) := hs
  clear hr hs
  go_enter Try.func21, Try.ntmps21
  go_wp2_with fail
  go_loopw [5] (fun i wr => ∃ (k : Nat), i = .int .i64 k ∧ k ≤ us.length ∧ Below w.heap.size w wr ∧ Hid (∀ i, i < us.length → i < k → oneP ss us i)) (fun i _ => us.length - (intOf i).toNat)
  case atStart => exact ⟨0, rfl, Nat.zero_le _, Below.refl _ _, fun j _ h => absurd h (Nat.not_lt_zero _)⟩
  case round =>
    obtain ⟨k, rfl, hk, hb, HA⟩ := hrel
    by_cases hk' : k < us.length
    · obtain ⟨b, off, a', c', rfl, hlt, d0, d1, d2, d3, hc', hkr, hzz⟩ := RdU.get (HR.out.on (hb.mono hhi)) hk'
      have hki : (k : Int) < (us.length : Int) := by omega
      have hki0 : (0 : Int) ≤ (k : Int) := by omega
      have hpg := partsU_get hk'
      have hpt := partsT_eq us[k].t
      have hhr := Nat.le_trans hhi hb.size
      have CI := fun (W' : World) (_ : Below wr.heap.size wr W') => l1In_below us[k].n 0 99 W'
      have CT := fun (W' : World) (h : Below wr.heap.size wr W') => specTermOk_any sa ss sc hss hnm us[k].t a' c' hi W' hzz.2.1 (HS.out.below (hb.trans (h.mono hb.size))) (by omega) (hkr.on (h.mono hhr)) (Nat.le_trans hhr h.size)
      have HN : Hid (∀ x, x = us[k].n → ¬ (0 ≤ x ∧ x ≤ 99) → ¬ ∀ i, i < us.length → oneP ss us i) := fun x e h q => h (e ▸ (q k hk' hk').1)
      have HO : Hid ((sigOk ss && decide (partsT us[k].t ≤ 60) && rightT ss us[k].t) = false → ¬ ∀ i, i < us.length → oneP ss us i) := fun h q => by have := (q k hk' hk').2.2.1; rw [h] at this; cases this
      have HG : Hid (∀ j, (hj : j + 1 = k) → us[k].n ≤ (us[j]'(by omega)).n → ¬ ∀ i, i < us.length → oneP ss us i) := fun j hj h q => by have := (q k hk' hk').2.1 j hj; omega
      have k0 := cellB d0
      have k1 := cellB d1
      have k2 := cellB d2
      have k3 := cellB d3
      clear hkr hpg hpt hc'
      have HD : Hid (∀ x, x = us[k].n → (0 ≤ x ∧ x ≤ 99) → (∀ j, (hj : j + 1 = k) → (us[j]'(by omega)).n < us[k].n) → (sigOk ss && decide (partsT us[k].t ≤ 60) && rightT ss us[k].t) = true → (∀ q, (hq : q < us.length) → cntT us[k].n us[q].t = 0) → oneP ss us k) := fun x e h1 h2 h3 h4 h => ⟨e ▸ h1, h2, h3, h4⟩
      have HC0 : Hid (∀ q, (hq : q < us.length) → cntT us[k].n us[q].t ≠ 0 → ¬ ∀ i, i < us.length → oneP ss us i) := fun q hq h g => h ((g k hk' hk').2.2.2 q hq)
      go_upto_region 4 with fail
      go_cut [47] from 7 to 65 (fun s47 wx => ∃ bad : Bool, s47 = .bool bad ∧ Below wr.heap.size wr wx ∧ Hid (bad = true → ¬ ∀ i, i < us.length → oneP ss us i) ∧ Hid (bad = false → (0 ≤ us[k].n ∧ us[k].n ≤ 99) ∧ (∀ j, (hj : j + 1 = k) → (us[j]'(by omega)).n < us[k].n) ∧ (sigOk ss && decide (partsT us[k].t ≤ 60) && rightT ss us[k].t) = true))
      case first =>
        clear HD HC0
        obtain ⟨x, hx⟩ : ∃ x, x = us[k].n := ⟨_, rfl⟩
        have HX : Hid (x = us[k].n) := hx
        obtain ⟨o, ho⟩ : ∃ o, o = (sigOk ss && decide (partsT us[k].t ≤ 60) && rightT ss us[k].t) := ⟨_, rfl⟩
        have HOT : Hid (o = (sigOk ss && decide (partsT us[k].t ≤ 60) && rightT ss us[k].t)) := ho
        rw [← hx] at k0 CI
        rw [← ho] at CT
        clear hx ho d0 d1 d2 d3
        by_cases hin : 0 ≤ x ∧ x ≤ 99
        · have hin1 : (decide (0 ≤ x) && decide (x ≤ 99)) = true := by simp [hin.1, hin.2]
          rw [hin1] at CI
          by_cases hk0 : k = 0
          · have hkn : decide ((0 : Int) < (k : Int)) = false := by simp; omega
            have hkn2 : decide (0 < k) = false := by simp; omega
            have HK0 : Hid (k = 0) := hk0
            clear hk0 hin1
            cases o
            · refine wp_region_below (by kernel_rfl) (by kernel_rfl) ?_
              repeat (go_big_quiet_step ((first | (go_at_call 35; refine callsB (CI _ (BW.b _))) | (go_at_call 47; refine callsB (CT _ (BW.b _))))))
              refine wpQuiet_nil ?_
              intro w2 hw'
              have hb2 : Below wr.heap.size wr w2 := by obtain ⟨p, rfl⟩ := hw'; exact p.b
              clear hw'
              go_wp2_with fail
              go_meet
              case rel => exact ⟨true, rfl, hb2, fun _ => HO.out HOT.out.symm, fun h => by cases h⟩
            · refine wp_region_below (by kernel_rfl) (by kernel_rfl) ?_
              repeat (go_big_quiet_step ((first | (go_at_call 35; refine callsB (CI _ (BW.b _))) | (go_at_call 47; refine callsB (CT _ (BW.b _))))))
              refine wpQuiet_nil ?_
              intro w2 hw'
              have hb2 : Below wr.heap.size wr w2 := by obtain ⟨p, rfl⟩ := hw'; exact p.b
              clear hw'
              go_wp2_with fail
              go_meet
              case rel => exact ⟨false, rfl, hb2, (fun h => by cases h), fun _ => ⟨by rw [← HX.out]; exact hin, fun j hj => by have := HK0.out; omega, HOT.out.symm⟩⟩
          · obtain ⟨j, rfl⟩ : ∃ j, k = j + 1 := ⟨k - 1, by omega⟩
            have hj : j < us.length := by omega
            obtain ⟨b3, off3, a3, c3, e3, hlt3, g0, g1, g2, g3, hc3, hkr3, hzz3⟩ := RdU.get (HR.out.on (hb.mono hhi)) hj
            cases e3
            have l0 := cellB g0
            obtain ⟨y, hy⟩ : ∃ y, y = us[j].n := ⟨_, rfl⟩
            have HY : Hid (y = us[j].n) := hy
            rw [← hy] at l0
            clear hy g0 g1 g2 g3 hc3 hkr3 hzz3
            have hkd : decide ((0 : Int) < (j : Int) + 1) = true := decide_eq_true (by omega)
            have hkd2 : (0 : Int) < ((j + 1 : Nat) : Int) := by omega
            have hj0 : (0 : Int) ≤ (j : Int) := by omega
            have hj1 : (j : Int) < (us.length : Int) := by omega
            have hsub : IntKind.i64.wrap (((j + 1 : Nat) : Int) - 1) = (j : Int) := by rw [IntKind.wrap_i64]; omega
            have hsub2 : IntKind.i64.wrap ((j : Int) + 1 - 1) = (j : Int) := by rw [IntKind.wrap_i64]; omega
            have hsub3 : IntKind.i64.wrap (j : Int) = (j : Int) := by rw [IntKind.wrap_i64]; omega
            clear hk0 hin1
            by_cases hge : x ≤ y
            · have hgd : decide (x ≤ y) = true := decide_eq_true hge
              refine wp_region_below (by kernel_rfl) (by kernel_rfl) ?_
              repeat (go_big_quiet_step ((first | (go_at_call 35; refine callsB (CI _ (BW.b _))) | (go_at_call 47; refine callsB (CT _ (BW.b _))))))
              refine wpQuiet_nil ?_
              intro w2 hw'
              have hb2 : Below wr.heap.size wr w2 := by obtain ⟨p, rfl⟩ := hw'; exact p.b
              clear hw'
              go_wp2_with fail
              go_meet
              case rel => exact ⟨true, rfl, hb2, fun _ => HG.out j rfl (by rw [← HX.out, ← HY.out]; exact hge), fun h => by cases h⟩
            · have hgd : decide (x ≤ y) = false := decide_eq_false hge
              cases o
              · refine wp_region_below (by kernel_rfl) (by kernel_rfl) ?_
                repeat (go_big_quiet_step ((first | (go_at_call 35; refine callsB (CI _ (BW.b _))) | (go_at_call 47; refine callsB (CT _ (BW.b _))))))
                refine wpQuiet_nil ?_
                intro w2 hw'
                have hb2 : Below wr.heap.size wr w2 := by obtain ⟨p, rfl⟩ := hw'; exact p.b
                clear hw'
                go_wp2_with fail
                go_meet
                case rel => exact ⟨true, rfl, hb2, fun _ => HO.out HOT.out.symm, fun h => by cases h⟩
              · refine wp_region_below (by kernel_rfl) (by kernel_rfl) ?_
                repeat (go_big_quiet_step ((first | (go_at_call 35; refine callsB (CI _ (BW.b _))) | (go_at_call 47; refine callsB (CT _ (BW.b _))))))
                refine wpQuiet_nil ?_
                intro w2 hw'
                have hb2 : Below wr.heap.size wr w2 := by obtain ⟨p, rfl⟩ := hw'; exact p.b
                clear hw'
                go_wp2_with fail
                go_meet
                case rel => exact ⟨false, rfl, hb2, (fun h => by cases h), fun _ => ⟨by rw [← HX.out]; exact hin, fun i hi' => by
                  have : i = j := by omega
                  subst this
                  rw [← HX.out, ← HY.out]; omega, HOT.out.symm⟩⟩
        · have hin1 : (decide (0 ≤ x) && decide (x ≤ 99)) = false := by simp; omega
          rw [hin1] at CI
          have HNx := HN.out x HX.out hin
          have HNH : Hid _ := HNx
          clear HNx hin1
          refine wp_region_below (by kernel_rfl) (by kernel_rfl) ?_
          repeat (go_big_quiet_step ((first | (go_at_call 35; refine callsB (CI _ (BW.b _))) | (go_at_call 47; refine callsB (CT _ (BW.b _))))))
          refine wpQuiet_nil ?_
          intro w2 hw'
          have hb2 : Below wr.heap.size wr w2 := by obtain ⟨p, rfl⟩ := hw'; exact p.b
          clear hw'
          go_wp2_with fail
          go_meet
          case rel => exact ⟨true, rfl, hb2, fun _ => HNH.out, fun h => by cases h⟩
      case rest =>
        obtain ⟨bad, rfl, hbw, HB1, HB2⟩ := hcut
        have hB := hb.trans (hbw.mono hb.size)
        have d0' := keepC hbw d0
        clear k0 k1 k2 k3 CI CT d0 d1 d2 d3
        cases bad
        · have h3 := HB2.out rfl
          have HB3 : Hid _ := h3
          clear h3 HB1 HB2
          go_wp2_with fail
          go_loopw [6] (fun i wr => ∃ (m : Nat), i = .int .i64 m ∧ m ≤ us.length ∧ Below wc.heap.size wc wr ∧ Hid (∀ q, (hq : q < us.length) → q < m → cntT us[k].n us[q].t = 0)) (fun i _ => us.length - (intOf i).toNat)
          case atStart => exact ⟨0, rfl, Nat.zero_le _, Below.refl _ _, fun j _ h => absurd h (Nat.not_lt_zero _)⟩
          case round =>
            obtain ⟨m, rfl, hm, hbm, HM⟩ := hrel
            have hBm := hB.trans (hbm.mono hB.size)
            have e0 := keepC hbm d0'
            by_cases hm' : m < us.length
            · obtain ⟨b3, off3, a3, c3, e3, hlt3, g0, g1, g2, g3, hc3, hkr3, hzz3⟩ := RdU.get (HR.out.on (hBm.mono hhi)) hm'
              cases e3
              have hmi : (m : Int) < (us.length : Int) := by omega
              have hmi0 : (0 : Int) ≤ (m : Int) := by omega
              have hpg := partsU_get hm'
              have hpt := partsT_eq us[m].t
              have hhm := Nat.le_trans hhi hBm.size
              have CC := fun (W' : World) (h : Below wr.heap.size wr W') => specCount_any 4194304 us[m].t a3 c3 hi us[k].n W' (by omega) (Nat.le_refl _) (hkr3.on (h.mono hhm)) (Nat.le_trans hhm h.size)
              have k0 := cellB e0
              have l1 := cellB g1
              have l2 := cellB g2
              have l3 := cellB g3
              have HC1 : Hid (cntT us[k].n us[m].t ≠ 0 → ¬ ∀ i, i < us.length → oneP ss us i) := HC0.out m hm'
              obtain ⟨cn, hcn⟩ : ∃ cn, cn = cntT us[k].n us[m].t := ⟨_, rfl⟩
              have HCN : Hid (cn = cntT us[k].n us[m].t) := hcn
              rw [← hcn] at CC
              clear hcn hpg hpt hkr3 hzz3 hc3 g0 g1 g2 g3
              by_cases hc0 : cn = 0
              · subst hc0
                go_wp2_with fail
                refine wp_region_below (by kernel_rfl) (by kernel_rfl) ?_
                repeat (go_big_quiet_step ((go_at_call 48; refine callsB (CC _ (BW.b _)))))
                refine wpQuiet_nil ?_
                intro w2 hw'
                have hb2 : Below wr.heap.size wr w2 := by obtain ⟨p, rfl⟩ := hw'; exact p.b
                clear hw'
                go_wp2_with fail
                go_roundw
                case rel => exact ⟨m + 1, by go_num, by omega, hbm.trans (hb2.mono hbm.size), fun q hq hqm => by
                  rcases Nat.lt_or_ge q m with h | h
                  · exact HM.out q hq h
                  · have : q = m := by omega
                    subst this
                    exact HCN.out.symm⟩
                case measure => simp [intOf]; omega
              · have hcd : decide ((0 : Int) < (cn : Int)) = true := decide_eq_true (by omega)
                have hcd2 : (0 : Int) < (cn : Int) := by omega
                have hcd3 : decide (0 < cn) = true := decide_eq_true (by omega)
                have HF : Hid (¬ ∀ i, i < us.length → oneP ss us i) := HC1.out (by rw [← HCN.out]; exact hc0)
                clear hc0
                go_wp2_with fail
                refine wp_region_below (by kernel_rfl) (by kernel_rfl) ?_
                repeat (go_big_quiet_step ((go_at_call 48; refine callsB (CC _ (BW.b _)))))
                refine wpQuiet_nil ?_
                intro w2 hw'
                have hb2 : Below wr.heap.size wr w2 := by obtain ⟨p, rfl⟩ := hw'; exact p.b
                clear hw'
                go_wp2_with fail
                go_ret
                exact ⟨rtB_tb (tb_false HF.out), hBm.trans (hb2.mono hBm.size)⟩
            · have hmi : ¬ (m : Int) < (us.length : Int) := by omega
              have HF : Hid (oneP ss us k) := HD.out us[k].n rfl HB3.out.1 HB3.out.2.1 HB3.out.2.2 (fun q hq => HM.out q hq (by omega))
              go_wp2_with fail
              go_roundw
              case rel => exact ⟨k + 1, by go_num, by omega, hBm, fun i hi' hik => by
                rcases Nat.lt_or_ge i k with h | h
                · exact HA.out i hi' h
                · have : i = k := by omega
                  subst this
                  exact HF.out⟩
              case measure => simp [intOf]; omega
        · have HF : Hid _ := HB1.out rfl
          clear HB1 HB2
          go_wp2_with fail
          go_ret
          exact ⟨rtB_tb (tb_false HF.out), hB⟩
    · have HF : Hid (∀ i, i < us.length → oneP ss us i) := fun i hi' => HA.out i hi' (by omega)
      have hki : ¬ (k : Int) < (us.length : Int) := by omega
      go_wp2_with fail
      go_ret
      exact ⟨rtB_tb (tb_true HF.out), hb⟩
end Go.Proofs.Ytkjlldbgooogdab

