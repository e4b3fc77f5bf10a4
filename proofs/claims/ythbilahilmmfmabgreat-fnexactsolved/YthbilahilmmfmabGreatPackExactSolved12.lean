/- What the proof of FnExactSolved stands on, part 12 of 13: each piece says what it proves and under which conditions. Conditions: as each piece says. -/
import Derived.Test.YthbilahilmmfmabGreatPackExactSolved11
import Derived.Deep.Cut
import Derived.Deep.CutRange
import Derived.Deep.RegionHeld3
import Derived.Test.YthbilahilmmfmabGreatProg
import Derived.Deep.RegionWith
import Derived.Deep.Slices
/- Whether a term is right, its size too, as the specification tells it. Conditions: terms of at most 549755813888 parts, at most 1048577 functions. -/
namespace Go.Proofs.YthbilahilmmfmabGreat
set_option maxRecDepth 100000
open Go.RowKit

set_option maxHeartbeats 3200000 in
theorem specTermOk_any (sa : Option Addr) (ss : List SymD) (sc : Nat) (hss : ss.length ≤ 1048577) (hnm : ∀ s ∈ ss, s.name.size ≤ 1048576) (t : TermD) (a : Option Addr) (c hi : Nat) (w : World) (hf : isW t.f) (hs : RdS w sa ss) (hp : partsT t ≤ 549755813888) (hr : RdK w hi a t.kids) (hhi : hi ≤ w.heap.size) :
    Calls Tryz.prog 31 #[.slice sa ss.length sc, .agg #[.int .i64 t.f, .int .i64 t.v, .slice a t.kids.length c]] w fun e w' => e = .returned (.bool (sigOk ss && decide (partsT t ≤ 60) && rightT ss t)) ∧ Below w.heap.size w w' := by
  obtain ⟨W, hW⟩ : ∃ W, W = w.alloc (.cells #[.int .i64 t.f, .int .i64 t.v, .slice a t.kids.length c] 37) := ⟨_, rfl⟩
  have hB : Below w.heap.size w W := by rw [hW]; exact (Below.refl _ _).alloc (Nat.le_refl _) _
  have p0 : W.cell? ⟨w.heap.size, 0, none⟩ = some (.int .i64 t.f) := by rw [hW]; simp [go_sem]
  have p1 : W.cell? ⟨w.heap.size, 1, none⟩ = some (.int .i64 t.v) := by rw [hW]; simp [go_sem]
  have p2 : W.cell? ⟨w.heap.size, 2, none⟩ = some (.slice a t.kids.length c) := by rw [hW]; simp [go_sem]
  have CS := fun W' (h : Below W.heap.size W W') => specSigOk_any sa ss ss.length sc W' rfl ((hs.below hB).below h) hss hnm
  have CP := fun W' (h : Below W.heap.size W W') => specParts_any (partsT t) t a c hi W' (Nat.le_refl _) hp (hr.on ((hB.trans (h.mono hB.size)).mono hhi)) (Nat.le_trans hhi (Nat.le_trans hB.size h.size))
  have CR := fun W' (h : Below W.heap.size W W') => l4Right_any sa ss sc hss (partsT t) t a c hi W' hf ((hs.below hB).below h) (Nat.le_refl _) hp (hr.on ((hB.trans (h.mono hB.size)).mono hhi)) (Nat.le_trans hhi (Nat.le_trans hB.size h.size))
  clear hs hr hf
  cases hsg : sigOk ss with
  | false =>
    simp only [hsg] at CS
    clear CP CR
    go_enter Tryz.func31, Tryz.ntmps31
    go_wp2_with (go_at_call 40; rw [← hW]; refine (CS _ (Below.refl _ _)).mono ?_; rintro e w1 ⟨rfl, hw⟩; subst w1; clear hW)
    go_ret
    exact ⟨rtB (by simp), hB⟩
  | true =>
    simp only [hsg] at CS
    by_cases h60 : partsT t ≤ 60
    · have h60i : ((partsT t : Nat) : Int) ≤ 60 := by omega
      rw [decide_eq_true h60]
      go_enter Tryz.func31, Tryz.ntmps31
      go_wp2_with (first
        | (go_at_call 40; rw [← hW]; refine (CS _ (Below.refl _ _)).mono ?_; rintro e w1 ⟨rfl, hw⟩; subst w1; clear hW)
        | (go_at_call 41; refine (CP _ (Below.refl _ _)).mono ?_; rintro e w2 ⟨rfl, hb2⟩; have q0 := keepC hb2 p0; have q1 := keepC hb2 p1; have q2 := keepC hb2 p2; have hB2 : Below w.heap.size w w2 := hB.trans (hb2.mono hB.size); clear p0 p1 p2)
        | (go_at_call 42; refine (CR _ hb2).mono ?_; rintro e w3 ⟨rfl, hb3⟩; have hB3 : Below w.heap.size w w3 := hB2.trans (hb3.mono hB2.size)))
      go_ret
      exact ⟨rtB (by simp), hB3⟩
    · have h60i : ¬ ((partsT t : Nat) : Int) ≤ 60 := by omega
      rw [decide_eq_false h60]
      clear CR
      go_enter Tryz.func31, Tryz.ntmps31
      go_wp2_with (first
        | (go_at_call 40; rw [← hW]; refine (CS _ (Below.refl _ _)).mono ?_; rintro e w1 ⟨rfl, hw⟩; subst w1; clear hW)
        | (go_at_call 41; refine (CP _ (Below.refl _ _)).mono ?_; rintro e w2 ⟨rfl, hb2⟩; have q0 := keepC hb2 p0; have q1 := keepC hb2 p1; have q2 := keepC hb2 p2; have hB2 : Below w.heap.size w w2 := hB.trans (hb2.mono hB.size); clear p0 p1 p2))
      go_ret
      exact ⟨rtB (by simp), hB2⟩
end Go.Proofs.YthbilahilmmfmabGreat

/- Whether what is put for variables is right: the specification's way, and that both are one. Conditions: at most 1048576 parts. -/
namespace Go.Proofs.YthbilahilmmfmabGreat
set_option maxRecDepth 100000
open Go.RowKit

/-- What the specification asks of one Bind. -/
def oneP (ss : List SymD) (us : List BindD) (i : Nat) : Prop := ∀ h : i < us.length, (0 ≤ us[i].n ∧ us[i].n ≤ 99) ∧ (∀ j, (hj : j + 1 = i) → (us[j]'(by omega)).n < us[i].n) ∧ (sigOk ss && decide (partsT us[i].t ≤ 60) && rightT ss us[i].t) = true ∧ ∀ k, (hk : k < us.length) → cntT us[i].n us[k].t = 0
theorem cnt_mem (t : TermD) (v : Int) : v ∈ varsT t [] ↔ cntT v t ≠ 0 := by
  rw [vars_mem, cnt_pre]
  constructor
  · intro h e; exact absurd (List.count_eq_zero.1 e) (by simpa using h)
  · intro h; exact Classical.byContradiction fun q => h (List.count_eq_zero.2 q)
theorem sub_same (ss : List SymD) (us : List BindD) : (numP us ∧ tokP ss us ∧ goneP us) ↔ ∀ i, i < us.length → oneP ss us i := by
  constructor
  · rintro ⟨h1, h2, h3⟩ i hi h
    refine ⟨h1.1 i h, fun j hj => ?_, h2 i h, fun k hk => ?_⟩
    · subst hj; exact h1.2 j h
    · refine Classical.byContradiction fun q => ?_
      exact h3 k hk us[i].n ((cnt_mem _ _).2 q) i h rfl
  · intro h
    refine ⟨⟨fun i hi => (h i hi hi).1, fun i hi => (h (i + 1) hi hi).2.1 i rfl⟩, fun i hi => (h i hi hi).2.2.1, fun i hi v hv j hj e => ?_⟩
    have h1 := (h j hj hj).2.2.2 i hi
    rw [e] at h1
    exact (cnt_mem _ _).1 hv h1

theorem l1In_below (x lo hi : Int) (w : World) : Calls Tryz.prog 30 #[.int .i64 x, .int .i64 lo, .int .i64 hi] w fun e w' => e = .returned (.bool (decide (lo ≤ x) && decide (x ≤ hi))) ∧ Below w.heap.size w w' :=
  (l1In_any x lo hi w).mono (fun _ w' h => ⟨h.1, by rw [h.2]; exact Below.refl _ _⟩)

set_option maxHeartbeats 6400000 in
theorem specSubOk_any (sa : Option Addr) (ss : List SymD) (sc : Nat) (hss : ss.length ≤ 1048577) (hnm : ∀ s ∈ ss, s.name.size ≤ 1048576) (us : List BindD) (a : Option Addr) (c hi : Nat) (w : World) (hpu : partsU us ≤ 1048576) (hs : RdS w sa ss) (hr : RdU w hi a us) (hhi : hi ≤ w.heap.size) :
    Calls Tryz.prog 18 #[.slice sa ss.length sc, .slice a us.length c] w fun e w' => e = .returned (.bool (tb (∀ i, i < us.length → oneP ss us i))) ∧ Below w.heap.size w w' := by
  have hl : us.length ≤ 549755813888 := by unfold partsU at hpu; omega
  have HR : Hid (RdU w hi a us) := hr
  have HS : Hid (RdS w sa ss) := hs
  clear hr hs
  go_enter Tryz.func18, Tryz.ntmps18
  go_wp2_with fail
  go_loopw [5] (fun i wr => ∃ (k : Nat), i = .int .i64 k ∧ k ≤ us.length ∧ Below w.heap.size w wr ∧ Hid (∀ i, i < us.length → i < k → oneP ss us i)) (fun i _ => us.length - (intOf i).toNat)
  case atStart => exact ⟨0, rfl, Nat.zero_le _, Below.refl _ _, fun j _ h => absurd h (Nat.not_lt_zero _)⟩
  case round =>
    obtain ⟨k, rfl, hk, hb, HA⟩ := hrel
    by_cases hk' : k < us.length
    · obtain ⟨b, off, a', c', rfl, hlt, d0, d1, d2, d3, hc', hkr, hzz⟩ := RdU.get (HR.out.on (hb.mono hhi)) hk'
      have hki : (k : Int) < (us.length : Int) := by omega
      have hki0 : (0 : Int) ≤ (k : Int) := by omega
      have hpg := partsU_get hk'
      have hpt := partsT_eq us[k].t
      have hhr := Nat.le_trans hhi hb.size
      have CI := fun (W' : World) (_ : Below wr.heap.size wr W') => l1In_below us[k].n 0 99 W'
      have CT := fun (W' : World) (h : Below wr.heap.size wr W') => specTermOk_any sa ss sc hss hnm us[k].t a' c' hi W' hzz.2.1 (HS.out.below (hb.trans (h.mono hb.size))) (by omega) (hkr.on (h.mono hhr)) (Nat.le_trans hhr h.size)
      have HN : Hid (∀ x, x = us[k].n → ¬ (0 ≤ x ∧ x ≤ 99) → ¬ ∀ i, i < us.length → oneP ss us i) := fun x e h q => h (e ▸ (q k hk' hk').1)
      have HO : Hid ((sigOk ss && decide (partsT us[k].t ≤ 60) && rightT ss us[k].t) = false → ¬ ∀ i, i < us.length → oneP ss us i) := fun h q => by have := (q k hk' hk').2.2.1; rw [h] at this; cases this
      have HG : Hid (∀ j, (hj : j + 1 = k) → us[k].n ≤ (us[j]'(by omega)).n → ¬ ∀ i, i < us.length → oneP ss us i) := fun j hj h q => by have := (q k hk' hk').2.1 j hj; omega
      have k0 := cellB d0
      have k1 := cellB d1
      have k2 := cellB d2
      have k3 := cellB d3
      clear hkr hpg hpt hc'
      have HD : Hid (∀ x, x = us[k].n → (0 ≤ x ∧ x ≤ 99) → (∀ j, (hj : j + 1 = k) → (us[j]'(by omega)).n < us[k].n) → (sigOk ss && decide (partsT us[k].t ≤ 60) && rightT ss us[k].t) = true → (∀ q, (hq : q < us.length) → cntT us[k].n us[q].t = 0) → oneP ss us k) := fun x e h1 h2 h3 h4 h => ⟨e ▸ h1, h2, h3, h4⟩
      have HC0 : Hid (∀ q, (hq : q < us.length) → cntT us[k].n us[q].t ≠ 0 → ¬ ∀ i, i < us.length → oneP ss us i) := fun q hq h g => h ((g k hk' hk').2.2.2 q hq)
      go_upto_region 4 with fail
      go_cut [47] from 7 to 65 (fun s47 wx => ∃ bad : Bool, s47 = .bool bad ∧ Below wr.heap.size wr wx ∧ Hid (bad = true → ¬ ∀ i, i < us.length → oneP ss us i) ∧ Hid (bad = false → (0 ≤ us[k].n ∧ us[k].n ≤ 99) ∧ (∀ j, (hj : j + 1 = k) → (us[j]'(by omega)).n < us[k].n) ∧ (sigOk ss && decide (partsT us[k].t ≤ 60) && rightT ss us[k].t) = true))
      case first =>
        clear HD HC0
        obtain ⟨x, hx⟩ : ∃ x, x = us[k].n := ⟨_, rfl⟩
        have HX : Hid (x = us[k].n) := hx
        obtain ⟨o, ho⟩ : ∃ o, o = (sigOk ss && decide (partsT us[k].t ≤ 60) && rightT ss us[k].t) := ⟨_, rfl⟩
        have HOT : Hid (o = (sigOk ss && decide (partsT us[k].t ≤ 60) && rightT ss us[k].t)) := ho
        rw [← hx] at k0 CI
        rw [← ho] at CT
        clear hx ho d0 d1 d2 d3
        by_cases hin : 0 ≤ x ∧ x ≤ 99
        · have hin1 : (decide (0 ≤ x) && decide (x ≤ 99)) = true := by simp [hin.1, hin.2]
          rw [hin1] at CI
          by_cases hk0 : k = 0
          · have hkn : decide ((0 : Int) < (k : Int)) = false := by simp; omega
            have hkn2 : decide (0 < k) = false := by simp; omega
            have HK0 : Hid (k = 0) := hk0
            clear hk0 hin1
            cases o
            · refine wp_region_below (by kernel_rfl) (by kernel_rfl) ?_
              repeat (go_big_quiet_step ((first | (go_at_call 30; refine callsB (CI _ (BW.b _))) | (go_at_call 31; refine callsB (CT _ (BW.b _))))))
              refine wpQuiet_nil ?_
              intro w2 hw'
              have hb2 : Below wr.heap.size wr w2 := by obtain ⟨p, rfl⟩ := hw'; exact p.b
              clear hw'
              go_wp2_with fail
              go_meet
              case rel => exact ⟨true, rfl, hb2, fun _ => HO.out HOT.out.symm, fun h => by cases h⟩
            · refine wp_region_below (by kernel_rfl) (by kernel_rfl) ?_
              repeat (go_big_quiet_step ((first | (go_at_call 30; refine callsB (CI _ (BW.b _))) | (go_at_call 31; refine callsB (CT _ (BW.b _))))))
              refine wpQuiet_nil ?_
              intro w2 hw'
              have hb2 : Below wr.heap.size wr w2 := by obtain ⟨p, rfl⟩ := hw'; exact p.b
              clear hw'
              go_wp2_with fail
              go_meet
              case rel => exact ⟨false, rfl, hb2, (fun h => by cases h), fun _ => ⟨by rw [← HX.out]; exact hin, fun j hj => by have := HK0.out; omega, HOT.out.symm⟩⟩
          · obtain ⟨j, rfl⟩ : ∃ j, k = j + 1 := ⟨k - 1, by omega⟩
            have hj : j < us.length := by omega
            obtain ⟨b3, off3, a3, c3, e3, hlt3, g0, g1, g2, g3, hc3, hkr3, hzz3⟩ := RdU.get (HR.out.on (hb.mono hhi)) hj
            cases e3
            have l0 := cellB g0
            obtain ⟨y, hy⟩ : ∃ y, y = us[j].n := ⟨_, rfl⟩
            have HY : Hid (y = us[j].n) := hy
            rw [← hy] at l0
            clear hy g0 g1 g2 g3 hc3 hkr3 hzz3
            have hkd : decide ((0 : Int) < (j : Int) + 1) = true := decide_eq_true (by omega)
            have hkd2 : (0 : Int) < ((j + 1 : Nat) : Int) := by omega
            have hj0 : (0 : Int) ≤ (j : Int) := by omega
            have hj1 : (j : Int) < (us.length : Int) := by omega
            have hsub : IntKind.i64.wrap (((j + 1 : Nat) : Int) - 1) = (j : Int) := by rw [IntKind.wrap_i64]; omega
            have hsub2 : IntKind.i64.wrap ((j : Int) + 1 - 1) = (j : Int) := by rw [IntKind.wrap_i64]; omega
            have hsub3 : IntKind.i64.wrap (j : Int) = (j : Int) := by rw [IntKind.wrap_i64]; omega
            clear hk0 hin1
            by_cases hge : x ≤ y
            · have hgd : decide (x ≤ y) = true := decide_eq_true hge
              refine wp_region_below (by kernel_rfl) (by kernel_rfl) ?_
              repeat (go_big_quiet_step ((first | (go_at_call 30; refine callsB (CI _ (BW.b _))) | (go_at_call 31; refine callsB (CT _ (BW.b _))))))
              refine wpQuiet_nil ?_
              intro w2 hw'
              have hb2 : Below wr.heap.size wr w2 := by obtain ⟨p, rfl⟩ := hw'; exact p.b
              clear hw'
              go_wp2_with fail
              go_meet
              case rel => exact ⟨true, rfl, hb2, fun _ => HG.out j rfl (by rw [← HX.out, ← HY.out]; exact hge), fun h => by cases h⟩
            · have hgd : decide (x ≤ y) = false := decide_eq_false hge
              cases o
              · refine wp_region_below (by kernel_rfl) (by kernel_rfl) ?_
                repeat (go_big_quiet_step ((first | (go_at_call 30; refine callsB (CI _ (BW.b _))) | (go_at_call 31; refine callsB (CT _ (BW.b _))))))
                refine wpQuiet_nil ?_
                intro w2 hw'
                have hb2 : Below wr.heap.size wr w2 := by obtain ⟨p, rfl⟩ := hw'; exact p.b
                clear hw'
                go_wp2_with fail
                go_meet
                case rel => exact ⟨true, rfl, hb2, fun _ => HO.out HOT.out.symm, fun h => by cases h⟩
              · refine wp_region_below (by kernel_rfl) (by kernel_rfl) ?_
                repeat (go_big_quiet_step ((first | (go_at_call 30; refine callsB (CI _ (BW.b _))) | (go_at_call 31; refine callsB (CT _ (BW.b _))))))
                refine wpQuiet_nil ?_
                intro w2 hw'
                have hb2 : Below wr.heap.size wr w2 := by obtain ⟨p, rfl⟩ := hw'; exact p.b
                clear hw'
                go_wp2_with fail
                go_meet
                case rel => exact ⟨false, rfl, hb2, (fun h => by cases h), fun _ => ⟨by rw [← HX.out]; exact hin, fun i hi' => by
                  have : i = j := by omega
                  subst this
                  rw [← HX.out, ← HY.out]; omega, HOT.out.symm⟩⟩
        · have hin1 : (decide (0 ≤ x) && decide (x ≤ 99)) = false := by simp; omega
          rw [hin1] at CI
          have HNx := HN.out x HX.out hin
          have HNH : Hid _ := HNx
          clear HNx hin1
          refine wp_region_below (by kernel_rfl) (by kernel_rfl) ?_
          repeat (go_big_quiet_step ((first | (go_at_call 30; refine callsB (CI _ (BW.b _))) | (go_at_call 31; refine callsB (CT _ (BW.b _))))))
          refine wpQuiet_nil ?_
          intro w2 hw'
          have hb2 : Below wr.heap.size wr w2 := by obtain ⟨p, rfl⟩ := hw'; exact p.b
          clear hw'
          go_wp2_with fail
          go_meet
          case rel => exact ⟨true, rfl, hb2, fun _ => HNH.out, fun h => by cases h⟩
      case rest =>
        obtain ⟨bad, rfl, hbw, HB1, HB2⟩ := hcut
        have hB := hb.trans (hbw.mono hb.size)
        have d0' := keepC hbw d0
        clear k0 k1 k2 k3 CI CT d0 d1 d2 d3
        cases bad
        · have h3 := HB2.out rfl
          have HB3 : Hid _ := h3
          clear h3 HB1 HB2
          go_wp2_with fail
          go_loopw [6] (fun i wr => ∃ (m : Nat), i = .int .i64 m ∧ m ≤ us.length ∧ Below wc.heap.size wc wr ∧ Hid (∀ q, (hq : q < us.length) → q < m → cntT us[k].n us[q].t = 0)) (fun i _ => us.length - (intOf i).toNat)
          case atStart => exact ⟨0, rfl, Nat.zero_le _, Below.refl _ _, fun j _ h => absurd h (Nat.not_lt_zero _)⟩
          case round =>
            obtain ⟨m, rfl, hm, hbm, HM⟩ := hrel
            have hBm := hB.trans (hbm.mono hB.size)
            have e0 := keepC hbm d0'
            by_cases hm' : m < us.length
            · obtain ⟨b3, off3, a3, c3, e3, hlt3, g0, g1, g2, g3, hc3, hkr3, hzz3⟩ := RdU.get (HR.out.on (hBm.mono hhi)) hm'
              cases e3
              have hmi : (m : Int) < (us.length : Int) := by omega
              have hmi0 : (0 : Int) ≤ (m : Int) := by omega
              have hpg := partsU_get hm'
              have hpt := partsT_eq us[m].t
              have hhm := Nat.le_trans hhi hBm.size
              have CC := fun (W' : World) (h : Below wr.heap.size wr W') => specCount_any 549755813888 us[m].t a3 c3 hi us[k].n W' (by omega) (Nat.le_refl _) (hkr3.on (h.mono hhm)) (Nat.le_trans hhm h.size)
              have k0 := cellB e0
              have l1 := cellB g1
              have l2 := cellB g2
              have l3 := cellB g3
              have HC1 : Hid (cntT us[k].n us[m].t ≠ 0 → ¬ ∀ i, i < us.length → oneP ss us i) := HC0.out m hm'
              obtain ⟨cn, hcn⟩ : ∃ cn, cn = cntT us[k].n us[m].t := ⟨_, rfl⟩
              have HCN : Hid (cn = cntT us[k].n us[m].t) := hcn
              rw [← hcn] at CC
              clear hcn hpg hpt hkr3 hzz3 hc3 g0 g1 g2 g3
              by_cases hc0 : cn = 0
              · subst hc0
                go_wp2_with fail
                refine wp_region_below (by kernel_rfl) (by kernel_rfl) ?_
                repeat (go_big_quiet_step ((go_at_call 32; refine callsB (CC _ (BW.b _)))))
                refine wpQuiet_nil ?_
                intro w2 hw'
                have hb2 : Below wr.heap.size wr w2 := by obtain ⟨p, rfl⟩ := hw'; exact p.b
                clear hw'
                go_wp2_with fail
                go_roundw
                case rel => exact ⟨m + 1, by go_num, by omega, hbm.trans (hb2.mono hbm.size), fun q hq hqm => by
                  rcases Nat.lt_or_ge q m with h | h
                  · exact HM.out q hq h
                  · have : q = m := by omega
                    subst this
                    exact HCN.out.symm⟩
                case measure => simp [intOf]; omega
              · have hcd : decide ((0 : Int) < (cn : Int)) = true := decide_eq_true (by omega)
                have hcd2 : (0 : Int) < (cn : Int) := by omega
                have hcd3 : decide (0 < cn) = true := decide_eq_true (by omega)
                have HF : Hid (¬ ∀ i, i < us.length → oneP ss us i) := HC1.out (by rw [← HCN.out]; exact hc0)
                clear hc0
                go_wp2_with fail
                refine wp_region_below (by kernel_rfl) (by kernel_rfl) ?_
                repeat (go_big_quiet_step ((go_at_call 32; refine callsB (CC _ (BW.b _)))))
                refine wpQuiet_nil ?_
                intro w2 hw'
                have hb2 : Below wr.heap.size wr w2 := by obtain ⟨p, rfl⟩ := hw'; exact p.b
                clear hw'
                go_wp2_with fail
                go_ret
                exact ⟨rtB_tb (tb_false HF.out), hBm.trans (hb2.mono hBm.size)⟩
            · have hmi : ¬ (m : Int) < (us.length : Int) := by omega
              have HF : Hid (oneP ss us k) := HD.out us[k].n rfl HB3.out.1 HB3.out.2.1 HB3.out.2.2 (fun q hq => HM.out q hq (by omega))
              go_wp2_with fail
              go_roundw
              case rel => exact ⟨k + 1, by go_num, by omega, hBm, fun i hi' hik => by
                rcases Nat.lt_or_ge i k with h | h
                · exact HA.out i hi' h
                · have : i = k := by omega
                  subst this
                  exact HF.out⟩
              case measure => simp [intOf]; omega
        · have HF : Hid _ := HB1.out rfl
          clear HB1 HB2
          go_wp2_with fail
          go_ret
          exact ⟨rtB_tb (tb_false HF.out), hB⟩
    · have HF : Hid (∀ i, i < us.length → oneP ss us i) := fun i hi' => HA.out i hi' (by omega)
      have hki : ¬ (k : Int) < (us.length : Int) := by omega
      go_wp2_with fail
      go_ret
      exact ⟨rtB_tb (tb_true HF.out), hb⟩
end Go.Proofs.YthbilahilmmfmabGreat

/- Whether two terms are the same with what is put: the specification's way, and the program's. Conditions: numbers as an int holds them; what is put at most 1048576. -/
namespace Go.Proofs.YthbilahilmmfmabGreat
set_option maxRecDepth 100000
open Go.RowKit

theorem bx2_on {W W' : World} {b0 b1 : Nat} {x0 x1 x2 y0 y1 y2 : Value} (h : W.cell? ⟨b0, 0, none⟩ = some x0 ∧ W.cell? ⟨b0, 1, none⟩ = some x1 ∧ W.cell? ⟨b0, 2, none⟩ = some x2 ∧ W.cell? ⟨b1, 0, none⟩ = some y0 ∧ W.cell? ⟨b1, 1, none⟩ = some y1 ∧ W.cell? ⟨b1, 2, none⟩ = some y2) (hb : Below W.heap.size W W') :
    W'.cell? ⟨b0, 0, none⟩ = some x0 ∧ W'.cell? ⟨b0, 1, none⟩ = some x1 ∧ W'.cell? ⟨b0, 2, none⟩ = some x2 ∧ W'.cell? ⟨b1, 0, none⟩ = some y0 ∧ W'.cell? ⟨b1, 1, none⟩ = some y1 ∧ W'.cell? ⟨b1, 2, none⟩ = some y2 :=
  ⟨keepC hb h.1, keepC hb h.2.1, keepC hb h.2.2.1, keepC hb h.2.2.2.1, keepC hb h.2.2.2.2.1, keepC hb h.2.2.2.2.2⟩
theorem below_stepS {A X Y : World} (h : Below A.heap.size A X) (k : Below X.heap.size X Y) : Below A.heap.size A Y := h.trans (k.mono h.size)

set_option maxHeartbeats 6400000 in
set_option maxRecDepth 100000 in
theorem specSolved_any (sa : Option Addr) (ss : List SymD) (sc : Nat) (hss : ss.length ≤ 1048577) (hnm : ∀ s ∈ ss, s.name.size ≤ 1048576) (us : List BindD) (ua : Option Addr) (uc : Nat) (t u : TermD) (a a' : Option Addr) (c c' hi : Nat) (w : World) (hpu : partsU us ≤ 1048576)
    (hs : RdS w sa ss) (hu : RdU w hi ua us) (hpt : partsT t ≤ 549755813888) (hpu' : partsT u ≤ 549755813888) (hppt : partsT (putV us t) ≤ 549755813888) (hppu : partsT (putV us u) ≤ 549755813888) (hr : RdK w hi a t.kids) (hr' : RdK w hi a' u.kids) (hhi : hi ≤ w.heap.size) (hwf : isW t.f ∧ isW t.v) (hwf' : isW u.f ∧ isW u.v) :
    Calls Tryz.prog 7 #[.slice sa ss.length sc, .slice ua us.length uc, .agg #[.int .i64 t.f, .int .i64 t.v, .slice a t.kids.length c], .agg #[.int .i64 u.f, .int .i64 u.v, .slice a' u.kids.length c']] w fun e w' => e = .returned (.bool (tb (∀ i, i < us.length → oneP ss us i) && sameT (normT (blindAt ss) (putV us t)) (normT (blindAt ss) (putV us u)))) ∧ Below w.heap.size w w' := by
  obtain ⟨W, hW⟩ : ∃ W, W = (w.alloc (.cells #[.int .i64 t.f, .int .i64 t.v, .slice a t.kids.length c] 37)).alloc (.cells #[.int .i64 u.f, .int .i64 u.v, .slice a' u.kids.length c'] 37) := ⟨_, rfl⟩
  have hB0 : Below w.heap.size w W := by rw [hW]; exact ((Below.refl _ _).alloc (Nat.le_refl _) _).alloc (by simp) _
  have P0 : W.cell? ⟨w.heap.size, 0, none⟩ = some (.int .i64 t.f) ∧ W.cell? ⟨w.heap.size, 1, none⟩ = some (.int .i64 t.v) ∧ W.cell? ⟨w.heap.size, 2, none⟩ = some (.slice a t.kids.length c) ∧ W.cell? ⟨w.heap.size + 1, 0, none⟩ = some (.int .i64 u.f) ∧ W.cell? ⟨w.heap.size + 1, 1, none⟩ = some (.int .i64 u.v) ∧ W.cell? ⟨w.heap.size + 1, 2, none⟩ = some (.slice a' u.kids.length c') := by rw [hW]; simp [go_sem]
  obtain ⟨N, hN⟩ : ∃ N, N = normT (blindAt ss) (putV us t) := ⟨_, rfl⟩
  obtain ⟨M, hM⟩ : ∃ M, M = normT (blindAt ss) (putV us u) := ⟨_, rfl⟩
  have hpN : partsT N ≤ 549755813888 := by have := normT_parts (blindAt ss) (putV us t); rw [← hN] at this; omega
  have hpM : partsT M ≤ 549755813888 := by have := normT_parts (blindAt ss) (putV us u); rw [← hM] at this; omega
  rw [← hN, ← hM]
  have hul : us.length ≤ 549755813888 := by unfold partsU at hpu; omega
  have CT : ∀ (W1 : World), Below w.heap.size w W1 → Calls Tryz.prog 20 #[.slice sa ss.length sc, .slice ua us.length uc, .agg #[.int .i64 t.f, .int .i64 t.v, .slice a t.kids.length c]] W1 fun e w' => ∃ a2 c2, e = .returned (.agg #[.int .i64 N.f, .int .i64 N.v, .slice a2 N.kids.length c2]) ∧ RdK w' w'.heap.size a2 N.kids ∧ Below W1.heap.size W1 w' := fun W1 h => by
    have hNf : N.f = (putV us t).f := by rw [hN, normT_eq]; rfl
    have hNv : N.v = (putV us t).v := by rw [hN, normT_eq]; rfl
    have := specApply_any sa ss sc us ua uc t a c hi W1 hss (by omega) (hu.on (h.mono hhi)) (hs.below h) hpt hppt (hr.on (h.mono hhi)) (Nat.le_trans hhi h.size) hwf
    rw [← hNf, ← hNv, ← hN] at this
    exact this.mono (by rintro e w' ⟨a2, c2, rfl, ho, hb⟩; exact ⟨a2, c2, rfl, ho.rd, hb⟩)
  have CU : ∀ (W1 : World), Below w.heap.size w W1 → Calls Tryz.prog 20 #[.slice sa ss.length sc, .slice ua us.length uc, .agg #[.int .i64 u.f, .int .i64 u.v, .slice a' u.kids.length c']] W1 fun e w' => ∃ a2 c2, e = .returned (.agg #[.int .i64 M.f, .int .i64 M.v, .slice a2 M.kids.length c2]) ∧ RdK w' w'.heap.size a2 M.kids ∧ Below W1.heap.size W1 w' := fun W1 h => by
    have hNf : M.f = (putV us u).f := by rw [hM, normT_eq]; rfl
    have hNv : M.v = (putV us u).v := by rw [hM, normT_eq]; rfl
    have := specApply_any sa ss sc us ua uc u a' c' hi W1 hss (by omega) (hu.on (h.mono hhi)) (hs.below h) hpu' hppu (hr'.on (h.mono hhi)) (Nat.le_trans hhi h.size) hwf'
    rw [← hNf, ← hNv, ← hM] at this
    exact this.mono (by rintro e w' ⟨a2, c2, rfl, ho, hb⟩; exact ⟨a2, c2, rfl, ho.rd, hb⟩)
  have CO := fun (W1 : World) (h : Below w.heap.size w W1) => specSubOk_any sa ss sc hss hnm us ua uc hi W1 hpu (hs.below h) (hu.on (h.mono hhi)) (Nat.le_trans hhi h.size)
  generalize tb (∀ i, i < us.length → oneP ss us i) = ok at CO
  clear hr hr' hu hs hpt hpu' hppt hppu hwf hwf' hN hM hhi hpM hss hnm hpu hul
  obtain ⟨p0, p1, p2, p3, p4, p5⟩ := P0
  cases ok
  · go_enter Tryz.func7, Tryz.ntmps7
    go_wp2_with fail
    rw [← hW]
    clear hW
    refine wp_region_any (by kernel_rfl) ?_
    refine wpAny_take (i := 0) (v := .slice sa ss.length sc) rfl (by kernel_rfl) (by kernel_rfl) (by kernel_rfl) (fun _ _ _ h => h) (Or.inl ⟨by rfl, fun w => by go_simp⟩) ?_
    go_simp
    refine wpAny_take (i := 1) (v := .slice ua us.length uc) rfl (by kernel_rfl) (by kernel_rfl) (by kernel_rfl) (fun _ _ _ h => h) (Or.inl ⟨by rfl, fun w => by go_simp⟩) ?_
    go_simp
    refine wpAny_ready (rs := [2]) (by kernel_rfl) (by simp) ?_
    refine AllReady.cons rfl (fun K hK => ?_) AllReady.nil
    go_simp
    go_wp2_with (go_at_call 18; refine (CO _ (hB0.trans (Below.mono (B := W.heap.size) (by (repeat (first | exact Below.refl _ _ | refine Below.drew ?_ | refine Below.alloc ?_ (by simp) _))) hB0.size))).mono ?_; rintro e w1 ⟨rfl, hb0⟩; have hb : Below W.heap.size W w1 := below_stepS (by (repeat (first | exact Below.refl _ _ | refine Below.drew ?_ | refine Below.alloc ?_ (by simp) _))) hb0; have hB1 : Below w.heap.size w w1 := hB0.trans (hb.mono hB0.size); have P := bx2_on ⟨p0, p1, p2, p3, p4, p5⟩ hb; clear p0 p1 p2 p3 p4 p5; obtain ⟨p0, p1, p2, p3, p4, p5⟩ := P; clear hb hb0 hB0 CO)
    refine wpAny_take (i := 3) (v := .bool false) rfl (by kernel_rfl) (by kernel_rfl) (by kernel_rfl) (fun _ _ _ h => h) (Or.inl ⟨by rfl, fun w => by go_simp⟩) ?_
    go_simp
    refine wpAny_take (i := 4) (v := undef) rfl (by kernel_rfl) (by kernel_rfl) (by kernel_rfl) (fun _ _ _ h => h) (Or.inr ⟨by rfl, rfl⟩) ?_
    go_simp
    refine wpAny_take (i := 5) (v := undef) rfl (by kernel_rfl) (by kernel_rfl) (by kernel_rfl) (fun _ _ _ h => h) (Or.inr ⟨by rfl, rfl⟩) ?_
    go_simp
    refine wpAny_take (i := 6) (v := undef) rfl (by kernel_rfl) (by kernel_rfl) (by kernel_rfl) (fun _ _ _ h => h) (Or.inr ⟨by rfl, rfl⟩) ?_
    go_simp
    refine wpAny_take (i := 7) (v := undef) rfl (by kernel_rfl) (by kernel_rfl) (by kernel_rfl) (fun _ _ _ h => h) (Or.inr ⟨by rfl, rfl⟩) ?_
    go_simp
    refine wpAny_take (i := 8) (v := undef) rfl (by kernel_rfl) (by kernel_rfl) (by kernel_rfl) (fun _ _ _ h => h) (Or.inr ⟨by rfl, rfl⟩) ?_
    go_simp
    refine wpAny_take (i := 9) (v := undef) rfl (by kernel_rfl) (by kernel_rfl) (by kernel_rfl) (fun _ _ _ h => h) (Or.inr ⟨by rfl, rfl⟩) ?_
    go_simp
    refine wpAny_take (i := 10) (v := undef) rfl (by kernel_rfl) (by kernel_rfl) (by kernel_rfl) (fun _ _ _ h => h) (Or.inr ⟨by rfl, rfl⟩) ?_
    go_simp
    refine wpAny_take (i := 11) (v := undef) rfl (by kernel_rfl) (by kernel_rfl) (by kernel_rfl) (fun _ _ _ h => h) (Or.inr ⟨by rfl, rfl⟩) ?_
    go_simp
    refine wpAny_take (i := 12) (v := undef) rfl (by kernel_rfl) (by kernel_rfl) (by kernel_rfl) (fun _ _ _ h => h) (Or.inr ⟨by rfl, rfl⟩) ?_
    go_simp
    refine wpAny_take (i := 13) (v := .bool false) rfl (by kernel_rfl) (by kernel_rfl) (by kernel_rfl) (fun _ _ _ h => h) (Or.inl ⟨by rfl, fun w => by go_simp⟩) ?_
    go_simp
    refine wpAny_take (i := 14) (v := .bool false) rfl (by kernel_rfl) (by kernel_rfl) (by kernel_rfl) (fun _ _ _ h => h) (Or.inl ⟨by rfl, fun w => by go_simp⟩) ?_
    go_simp
    refine wpAny_done (by kernel_rfl) ?_ _
    go_wp2_with fail
    go_ret
    exact ⟨rfl, hB1⟩
  · go_enter Tryz.func7, Tryz.ntmps7
    go_wp2_with fail
    rw [← hW]
    clear hW
    go_region_held3 (fun w' => w'.cell? ⟨w.heap.size, 0, none⟩ = some (.int .i64 t.f) ∧ w'.cell? ⟨w.heap.size, 1, none⟩ = some (.int .i64 t.v) ∧ w'.cell? ⟨w.heap.size, 2, none⟩ = some (.slice a t.kids.length c) ∧ w'.cell? ⟨w.heap.size + 1, 0, none⟩ = some (.int .i64 u.f) ∧ w'.cell? ⟨w.heap.size + 1, 1, none⟩ = some (.int .i64 u.v) ∧ w'.cell? ⟨w.heap.size + 1, 2, none⟩ = some (.slice a' u.kids.length c')) (first | go_keep | exact ⟨p0, p1, p2, p3, p4, p5⟩)
      (first
        | (go_at_call 18; refine (CO _ (hB0.trans (Below.mono (B := W.heap.size) (by (repeat (first | exact Below.refl _ _ | refine Below.drew ?_ | refine Below.alloc ?_ (by simp) _))) hB0.size))).mono ?_; rintro e w1 ⟨rfl, hb0⟩; have hb : Below W.heap.size W w1 := below_stepS (by (repeat (first | exact Below.refl _ _ | refine Below.drew ?_ | refine Below.alloc ?_ (by simp) _))) hb0; have hB1 : Below w.heap.size w w1 := hB0.trans (hb.mono hB0.size); have P := bx2_on ⟨p0, p1, p2, p3, p4, p5⟩ hb; clear p0 p1 p2 p3 p4 p5; obtain ⟨p0, p1, p2, p3, p4, p5⟩ := P; clear hb hb0 hB0 CO)
        | (go_at_call_of 20 t; refine (CT _ (hB1.trans (Below.mono (B := w1.heap.size) (by (repeat (first | exact Below.refl _ _ | refine Below.drew ?_ | refine Below.alloc ?_ (by simp) _))) hB1.size))).mono ?_; rintro e w2 ⟨x1, d1, rfl, k1, hb0⟩; have hb : Below w1.heap.size w1 w2 := below_stepS (by (repeat (first | exact Below.refl _ _ | refine Below.drew ?_ | refine Below.alloc ?_ (by simp) _))) hb0; have hB2 : Below w.heap.size w w2 := hB1.trans (hb.mono hB1.size); have P := bx2_on ⟨p0, p1, p2, p3, p4, p5⟩ hb; clear p0 p1 p2 p3 p4 p5; obtain ⟨p0, p1, p2, p3, p4, p5⟩ := P; clear hb hb0 hB1 CT)
        | (go_at_call_of 20 u; refine (CU _ (hB2.trans (Below.mono (B := w2.heap.size) (by (repeat (first | exact Below.refl _ _ | refine Below.drew ?_ | refine Below.alloc ?_ (by simp) _))) hB2.size))).mono ?_; rintro e w3 ⟨x2, d2, rfl, k2, hb0⟩; have hb : Below w2.heap.size w2 w3 := below_stepS (by (repeat (first | exact Below.refl _ _ | refine Below.drew ?_ | refine Below.alloc ?_ (by simp) _))) hb0; have hB3 : Below w.heap.size w w3 := hB2.trans (hb.mono hB2.size); have k3 := (k1.on hb).mono hb.size; have P := bx2_on ⟨p0, p1, p2, p3, p4, p5⟩ hb; clear p0 p1 p2 p3 p4 p5; obtain ⟨p0, p1, p2, p3, p4, p5⟩ := P; clear hb hb0 hB2 CU k1)
        | (go_at_call 19; refine (specSame_any (partsT N) N M x1 x2 _ _ w3.heap.size _ (Nat.le_refl _) hpN ?_ ?_ ?_).mono ?_; (refine RdK.on k3 ?_; (repeat (first | exact Below.refl _ _ | refine Below.drew ?_ | refine Below.alloc ?_ (by simp) _))); (refine RdK.on k2 ?_; (repeat (first | exact Below.refl _ _ | refine Below.drew ?_ | refine Below.alloc ?_ (by simp) _))); exact (show Below w3.heap.size w3 _ from (by (repeat (first | exact Below.refl _ _ | refine Below.drew ?_ | refine Below.alloc ?_ (by simp) _)))).size; rintro e w4 ⟨rfl, hb0⟩; have hb : Below w3.heap.size w3 w4 := below_stepS (by (repeat (first | exact Below.refl _ _ | refine Below.drew ?_ | refine Below.alloc ?_ (by simp) _))) hb0; have hB4 : Below w.heap.size w w4 := hB3.trans (hb.mono hB3.size); have P := bx2_on ⟨p0, p1, p2, p3, p4, p5⟩ hb; clear p0 p1 p2 p3 p4 p5; obtain ⟨p0, p1, p2, p3, p4, p5⟩ := P; clear hb hb0 hB3 k2 k3))
    all_goals
      go_wp2_with fail
      go_ret
      first
        | exact ⟨rfl, hB4⟩
        | exact ⟨by simp, hB4⟩

set_option maxHeartbeats 6400000 in
set_option maxRecDepth 100000 in
theorem impSolved_any (sa : Option Addr) (ss : List SymD) (sc : Nat) (hsz : ∀ s ∈ ss, s.name.size ≤ maxLen) (us : List BindD) (ua : Option Addr) (uc : Nat) (t u : TermD) (a a' : Option Addr) (c c' hi : Nat) (w : World) (hpu : partsU us ≤ 1048576)
    (hs : RdS w sa ss) (hu : RdU w hi ua us) (hpt : partsT t ≤ 549755813888) (hpu' : partsT u ≤ 549755813888) (hppt : partsT (putV us t) ≤ 549755813888) (hppu : partsT (putV us u) ≤ 549755813888) (hr : RdK w hi a t.kids) (hr' : RdK w hi a' u.kids) (hhi : hi ≤ w.heap.size) (hc : t.kids.length ≤ c) (hc' : u.kids.length ≤ c') (hwf : isW t.f ∧ isW t.v) (hwf' : isW u.f ∧ isW u.v) :
    Calls Tryz.prog 11 #[.slice sa ss.length sc, .slice ua us.length uc, .agg #[.int .i64 t.f, .int .i64 t.v, .slice a t.kids.length c], .agg #[.int .i64 u.f, .int .i64 u.v, .slice a' u.kids.length c']] w fun e w' => e = .returned (.bool (tb (numP us ∧ tokP ss us ∧ goneP us) && sameT (normT (blindAt ss) (putV us t)) (normT (blindAt ss) (putV us u)))) ∧ Below w.heap.size w w' := by
  obtain ⟨W, hW⟩ : ∃ W, W = (w.alloc (.cells #[.int .i64 t.f, .int .i64 t.v, .slice a t.kids.length c] 37)).alloc (.cells #[.int .i64 u.f, .int .i64 u.v, .slice a' u.kids.length c'] 37) := ⟨_, rfl⟩
  have hB0 : Below w.heap.size w W := by rw [hW]; exact ((Below.refl _ _).alloc (Nat.le_refl _) _).alloc (by simp) _
  have P0 : W.cell? ⟨w.heap.size, 0, none⟩ = some (.int .i64 t.f) ∧ W.cell? ⟨w.heap.size, 1, none⟩ = some (.int .i64 t.v) ∧ W.cell? ⟨w.heap.size, 2, none⟩ = some (.slice a t.kids.length c) ∧ W.cell? ⟨w.heap.size + 1, 0, none⟩ = some (.int .i64 u.f) ∧ W.cell? ⟨w.heap.size + 1, 1, none⟩ = some (.int .i64 u.v) ∧ W.cell? ⟨w.heap.size + 1, 2, none⟩ = some (.slice a' u.kids.length c') := by rw [hW]; simp [go_sem]
  obtain ⟨N, hN⟩ : ∃ N, N = normT (blindAt ss) (putV us t) := ⟨_, rfl⟩
  obtain ⟨M, hM⟩ : ∃ M, M = normT (blindAt ss) (putV us u) := ⟨_, rfl⟩
  have hpN : partsT N ≤ 549755813888 := by have := normT_parts (blindAt ss) (putV us t); rw [← hN] at this; omega
  have hpM : partsT M ≤ 549755813888 := by have := normT_parts (blindAt ss) (putV us u); rw [← hM] at this; omega
  rw [← hN, ← hM]
  have hul : us.length ≤ 549755813888 := by unfold partsU at hpu; omega
  have CT : ∀ (W1 : World), Below w.heap.size w W1 → Calls Tryz.prog 26 #[.slice sa ss.length sc, .slice ua us.length uc, .agg #[.int .i64 t.f, .int .i64 t.v, .slice a t.kids.length c]] W1 fun e w' => ∃ a2 c2, e = .returned (.agg #[.int .i64 N.f, .int .i64 N.v, .slice a2 N.kids.length c2]) ∧ RdK w' w'.heap.size a2 N.kids ∧ N.kids.length ≤ c2 ∧ Below W1.heap.size W1 w' := fun W1 h => by
    have hNf : N.f = (putV us t).f := by rw [hN, normT_eq]; rfl
    have hNv : N.v = (putV us t).v := by rw [hN, normT_eq]; rfl
    have := impApply_any sa ss sc us ua uc hi t a c hi W1 hul (hu.on (h.mono hhi)) (Nat.le_trans hhi h.size) (hs.below h) hpt hppt (hr.on (h.mono hhi)) (Nat.le_trans hhi h.size) hc hwf
    rw [← hNf, ← hNv, ← hN] at this
    exact this.mono (by rintro e w' ⟨a2, c2, rfl, ho, hl, hb⟩; exact ⟨a2, c2, rfl, ho.rd, hl, hb⟩)
  have CU : ∀ (W1 : World), Below w.heap.size w W1 → Calls Tryz.prog 26 #[.slice sa ss.length sc, .slice ua us.length uc, .agg #[.int .i64 u.f, .int .i64 u.v, .slice a' u.kids.length c']] W1 fun e w' => ∃ a2 c2, e = .returned (.agg #[.int .i64 M.f, .int .i64 M.v, .slice a2 M.kids.length c2]) ∧ RdK w' w'.heap.size a2 M.kids ∧ M.kids.length ≤ c2 ∧ Below W1.heap.size W1 w' := fun W1 h => by
    have hNf : M.f = (putV us u).f := by rw [hM, normT_eq]; rfl
    have hNv : M.v = (putV us u).v := by rw [hM, normT_eq]; rfl
    have := impApply_any sa ss sc us ua uc hi u a' c' hi W1 hul (hu.on (h.mono hhi)) (Nat.le_trans hhi h.size) (hs.below h) hpu' hppu (hr'.on (h.mono hhi)) (Nat.le_trans hhi h.size) hc' hwf'
    rw [← hNf, ← hNv, ← hM] at this
    exact this.mono (by rintro e w' ⟨a2, c2, rfl, ho, hl, hb⟩; exact ⟨a2, c2, rfl, ho.rd, hl, hb⟩)
  have CO := fun (W1 : World) (h : Below w.heap.size w W1) => impSubOk_any sa ss sc hsz us ua uc hi W1 hpu (hs.below h) (hu.on (h.mono hhi)) (Nat.le_trans hhi h.size)
  generalize tb (numP us ∧ tokP ss us ∧ goneP us) = ok at CO
  clear hr hr' hu hs hpt hpu' hppt hppu hwf hwf' hN hM hhi hpM hsz hc hc' hpu hul
  obtain ⟨p0, p1, p2, p3, p4, p5⟩ := P0
  cases ok
  · go_enter Tryz.func11, Tryz.ntmps11
    go_wp2_with fail
    rw [← hW]
    clear hW
    refine wp_region_any (by kernel_rfl) ?_
    refine wpAny_take (i := 0) (v := .slice sa ss.length sc) rfl (by kernel_rfl) (by kernel_rfl) (by kernel_rfl) (fun _ _ _ h => h) (Or.inl ⟨by rfl, fun w => by go_simp⟩) ?_
    go_simp
    refine wpAny_take (i := 1) (v := .slice ua us.length uc) rfl (by kernel_rfl) (by kernel_rfl) (by kernel_rfl) (fun _ _ _ h => h) (Or.inl ⟨by rfl, fun w => by go_simp⟩) ?_
    go_simp
    refine wpAny_ready (rs := [2]) (by kernel_rfl) (by simp) ?_
    refine AllReady.cons rfl (fun K hK => ?_) AllReady.nil
    go_simp
    go_wp2_with (go_at_call 24; refine (CO _ (hB0.trans (Below.mono (B := W.heap.size) (by (repeat (first | exact Below.refl _ _ | refine Below.drew ?_ | refine Below.alloc ?_ (by simp) _))) hB0.size))).mono ?_; rintro e w1 ⟨rfl, hb0⟩; have hb : Below W.heap.size W w1 := below_stepS (by (repeat (first | exact Below.refl _ _ | refine Below.drew ?_ | refine Below.alloc ?_ (by simp) _))) hb0; have hB1 : Below w.heap.size w w1 := hB0.trans (hb.mono hB0.size); have P := bx2_on ⟨p0, p1, p2, p3, p4, p5⟩ hb; clear p0 p1 p2 p3 p4 p5; obtain ⟨p0, p1, p2, p3, p4, p5⟩ := P; clear hb hb0 hB0 CO)
    refine wpAny_take (i := 3) (v := .bool false) rfl (by kernel_rfl) (by kernel_rfl) (by kernel_rfl) (fun _ _ _ h => h) (Or.inl ⟨by rfl, fun w => by go_simp⟩) ?_
    go_simp
    refine wpAny_take (i := 4) (v := undef) rfl (by kernel_rfl) (by kernel_rfl) (by kernel_rfl) (fun _ _ _ h => h) (Or.inr ⟨by rfl, rfl⟩) ?_
    go_simp
    refine wpAny_take (i := 5) (v := undef) rfl (by kernel_rfl) (by kernel_rfl) (by kernel_rfl) (fun _ _ _ h => h) (Or.inr ⟨by rfl, rfl⟩) ?_
    go_simp
    refine wpAny_take (i := 6) (v := undef) rfl (by kernel_rfl) (by kernel_rfl) (by kernel_rfl) (fun _ _ _ h => h) (Or.inr ⟨by rfl, rfl⟩) ?_
    go_simp
    refine wpAny_take (i := 7) (v := undef) rfl (by kernel_rfl) (by kernel_rfl) (by kernel_rfl) (fun _ _ _ h => h) (Or.inr ⟨by rfl, rfl⟩) ?_
    go_simp
    refine wpAny_take (i := 8) (v := undef) rfl (by kernel_rfl) (by kernel_rfl) (by kernel_rfl) (fun _ _ _ h => h) (Or.inr ⟨by rfl, rfl⟩) ?_
    go_simp
    refine wpAny_take (i := 9) (v := undef) rfl (by kernel_rfl) (by kernel_rfl) (by kernel_rfl) (fun _ _ _ h => h) (Or.inr ⟨by rfl, rfl⟩) ?_
    go_simp
    refine wpAny_take (i := 10) (v := undef) rfl (by kernel_rfl) (by kernel_rfl) (by kernel_rfl) (fun _ _ _ h => h) (Or.inr ⟨by rfl, rfl⟩) ?_
    go_simp
    refine wpAny_take (i := 11) (v := undef) rfl (by kernel_rfl) (by kernel_rfl) (by kernel_rfl) (fun _ _ _ h => h) (Or.inr ⟨by rfl, rfl⟩) ?_
    go_simp
    refine wpAny_take (i := 12) (v := undef) rfl (by kernel_rfl) (by kernel_rfl) (by kernel_rfl) (fun _ _ _ h => h) (Or.inr ⟨by rfl, rfl⟩) ?_
    go_simp
    refine wpAny_take (i := 13) (v := .bool false) rfl (by kernel_rfl) (by kernel_rfl) (by kernel_rfl) (fun _ _ _ h => h) (Or.inl ⟨by rfl, fun w => by go_simp⟩) ?_
    go_simp
    refine wpAny_take (i := 14) (v := .bool false) rfl (by kernel_rfl) (by kernel_rfl) (by kernel_rfl) (fun _ _ _ h => h) (Or.inl ⟨by rfl, fun w => by go_simp⟩) ?_
    go_simp
    refine wpAny_done (by kernel_rfl) ?_ _
    go_wp2_with fail
    go_ret
    exact ⟨rfl, hB1⟩
  · go_enter Tryz.func11, Tryz.ntmps11
    go_wp2_with fail
    rw [← hW]
    clear hW
    go_region_held3 (fun w' => w'.cell? ⟨w.heap.size, 0, none⟩ = some (.int .i64 t.f) ∧ w'.cell? ⟨w.heap.size, 1, none⟩ = some (.int .i64 t.v) ∧ w'.cell? ⟨w.heap.size, 2, none⟩ = some (.slice a t.kids.length c) ∧ w'.cell? ⟨w.heap.size + 1, 0, none⟩ = some (.int .i64 u.f) ∧ w'.cell? ⟨w.heap.size + 1, 1, none⟩ = some (.int .i64 u.v) ∧ w'.cell? ⟨w.heap.size + 1, 2, none⟩ = some (.slice a' u.kids.length c')) (first | go_keep | exact ⟨p0, p1, p2, p3, p4, p5⟩)
      (first
        | (go_at_call 24; refine (CO _ (hB0.trans (Below.mono (B := W.heap.size) (by (repeat (first | exact Below.refl _ _ | refine Below.drew ?_ | refine Below.alloc ?_ (by simp) _))) hB0.size))).mono ?_; rintro e w1 ⟨rfl, hb0⟩; have hb : Below W.heap.size W w1 := below_stepS (by (repeat (first | exact Below.refl _ _ | refine Below.drew ?_ | refine Below.alloc ?_ (by simp) _))) hb0; have hB1 : Below w.heap.size w w1 := hB0.trans (hb.mono hB0.size); have P := bx2_on ⟨p0, p1, p2, p3, p4, p5⟩ hb; clear p0 p1 p2 p3 p4 p5; obtain ⟨p0, p1, p2, p3, p4, p5⟩ := P; clear hb hb0 hB0 CO)
        | (go_at_call_of 26 t; refine (CT _ (hB1.trans (Below.mono (B := w1.heap.size) (by (repeat (first | exact Below.refl _ _ | refine Below.drew ?_ | refine Below.alloc ?_ (by simp) _))) hB1.size))).mono ?_; rintro e w2 ⟨x1, d1, rfl, k1, l1, hb0⟩; have hb : Below w1.heap.size w1 w2 := below_stepS (by (repeat (first | exact Below.refl _ _ | refine Below.drew ?_ | refine Below.alloc ?_ (by simp) _))) hb0; have hB2 : Below w.heap.size w w2 := hB1.trans (hb.mono hB1.size); have P := bx2_on ⟨p0, p1, p2, p3, p4, p5⟩ hb; clear p0 p1 p2 p3 p4 p5; obtain ⟨p0, p1, p2, p3, p4, p5⟩ := P; clear hb hb0 hB1 CT)
        | (go_at_call_of 26 u; refine (CU _ (hB2.trans (Below.mono (B := w2.heap.size) (by (repeat (first | exact Below.refl _ _ | refine Below.drew ?_ | refine Below.alloc ?_ (by simp) _))) hB2.size))).mono ?_; rintro e w3 ⟨x2, d2, rfl, k2, l2, hb0⟩; have hb : Below w2.heap.size w2 w3 := below_stepS (by (repeat (first | exact Below.refl _ _ | refine Below.drew ?_ | refine Below.alloc ?_ (by simp) _))) hb0; have hB3 : Below w.heap.size w w3 := hB2.trans (hb.mono hB2.size); have k3 := (k1.on hb).mono hb.size; have P := bx2_on ⟨p0, p1, p2, p3, p4, p5⟩ hb; clear p0 p1 p2 p3 p4 p5; obtain ⟨p0, p1, p2, p3, p4, p5⟩ := P; clear hb hb0 hB2 CU k1)
        | (go_at_call 25; refine (impSame_any (partsT N) N M x1 x2 _ _ w3.heap.size _ (Nat.le_refl _) hpN ?_ ?_ ?_ l1 l2).mono ?_; (refine RdK.on k3 ?_; (repeat (first | exact Below.refl _ _ | refine Below.drew ?_ | refine Below.alloc ?_ (by simp) _))); (refine RdK.on k2 ?_; (repeat (first | exact Below.refl _ _ | refine Below.drew ?_ | refine Below.alloc ?_ (by simp) _))); exact (show Below w3.heap.size w3 _ from (by (repeat (first | exact Below.refl _ _ | refine Below.drew ?_ | refine Below.alloc ?_ (by simp) _)))).size; rintro e w4 ⟨rfl, hb0⟩; have hb : Below w3.heap.size w3 w4 := below_stepS (by (repeat (first | exact Below.refl _ _ | refine Below.drew ?_ | refine Below.alloc ?_ (by simp) _))) hb0; have hB4 : Below w.heap.size w w4 := hB3.trans (hb.mono hB3.size); have P := bx2_on ⟨p0, p1, p2, p3, p4, p5⟩ hb; clear p0 p1 p2 p3 p4 p5; obtain ⟨p0, p1, p2, p3, p4, p5⟩ := P; clear hb hb0 hB3 k2 k3))
    all_goals
      go_wp2_with fail
      go_ret
      first
        | exact ⟨rfl, hB4⟩
        | exact ⟨by simp, hB4⟩
end Go.Proofs.YthbilahilmmfmabGreat

/- Contracts of the laws' helpers on lists of functions: a copy, how much it holds, whether two are alike. Conditions: lists that are copied have at most 1048577 functions. -/
namespace Go.Proofs.YthbilahilmmfmabGreat
set_option maxRecDepth 100000
open Go.RowKit

set_option maxHeartbeats 800000 in
theorem toSym_any (n : ByteArray) (ar : Int) (ac : Bool) (w : World) :
    Calls Tryz.prog 21 #[.agg #[.string n, .int .i64 ar, .bool ac]] w fun e w' => e = .returned (.agg #[.string n, .int .i64 ar, .bool ac]) ∧ Below w.heap.size w w' := by
  go_enter Tryz.func21, Tryz.ntmps21
  go_wp2
  exact bodyPost_ret (v := .agg #[.string n, .int .i64 ar, .bool ac]) (by simp [results, Tryz.results21, go_sem]) rfl ⟨rfl, (((Below.refl _ _).alloc (Nat.le_refl _) _).alloc (by simp) _).alloc (by simp; omega) _⟩

set_option maxHeartbeats 800000 in
theorem szSym_any (n : ByteArray) (ar : Int) (ac : Bool) (k : Int) (w : World) (hk : k ≤ 1048576) (hk0 : 0 ≤ k) (hn : n.size ≤ 9223372036854775807) :
    Calls Tryz.prog 15 #[.agg #[.string n, .int .i64 ar, .bool ac], .int .i64 k] w fun e w' => e = .returned (.int .i64 (if k < n.size then -1 else k - n.size)) ∧ Below w.heap.size w w' := by
  by_cases h : k < n.size
  · rw [if_pos h]
    have h' : k - (n.size : Int) < 0 := by omega
    go_enter Tryz.func15, Tryz.ntmps15
    go_wp2
    go_ret
    exact ⟨rfl, (Below.refl _ _).alloc (Nat.le_refl _) _⟩
  · rw [if_neg h]
    have h' : ¬ k - (n.size : Int) < 0 := by omega
    go_enter Tryz.func15, Tryz.ntmps15
    go_wp2
    go_ret
    exact ⟨rfl, (Below.refl _ _).alloc (Nat.le_refl _) _⟩


theorem info39 : (Tryz.prog.info? 52).map (fun i => (i.zero, i.size, i.bytes)) = some (some (.agg #[.string ⟨#[]⟩, .int .i64 0, .bool false]), 3, 32) := by kernel_rfl

set_option maxHeartbeats 1600000 in
theorem toSyms_any (a : Option Addr) (ss : List SymD) (n cap : Nat) (w : World) (hn : n = ss.length) (hr : RdS w a ss) (hl : ss.length ≤ 1048577) :
    Calls Tryz.prog 8 #[.slice a n cap] w fun e w' => e = .returned (.slice (some ⟨w.heap.size, 0, none⟩) n n) ∧ w'.ownsRow w.heap.size 52 3 (.slice (some ⟨w.heap.size, 0, none⟩) n n) n (symCs ss) ∧ Below w.heap.size w w' := by
  subst hn
  obtain ⟨i0, hi, hz0, hz1, hz2⟩ := info_parts info39
  rcases hr with rfl | ⟨b, off, rfl, hlt, hc⟩
  · go_enter Tryz.func8, Tryz.ntmps8
    go_wp2_with (first
      | (at_make; refine wpList_make_full _ rfl _ _ 31 rfl w.heap.size 52 i0 _ 3 Tryz.underlying31 hi hz0 hz1 _ _ _ _ 0 rfl rfl rfl rfl (by omega) (by unfold maxLen; omega) (Nat.le_refl _) ?_)
      | go_in)
    intro w1 hown hgrow
    have hb1 : Below w.heap.size w w1 := (Below.refl _ _).grown hgrow (Nat.le_refl _) (by simp)
    clear hgrow
    go_wp2
    refine wp_loop_rounds 1 ?_
    rw [rounds_succ]
    go_wp2
    go_ret
    exact ⟨rfl, by simpa [madeCells, symCs] using hown, hb1⟩
  · go_enter Tryz.func8, Tryz.ntmps8
    go_wp2_with (first
      | (at_make; refine wpList_make_full _ rfl _ _ 31 rfl w.heap.size 52 i0 _ 3 Tryz.underlying31 hi hz0 hz1 _ _ _ _ ss.length rfl rfl rfl rfl (by rw [hz2]; omega) (by unfold maxLen; omega) (Nat.le_refl _) ?_)
      | go_in)
    intro w1 hown hgrow
    have hb1 : Below w.heap.size w w1 := (Below.refl _ _).grown hgrow (Nat.le_refl _) (by simp)
    clear hgrow
    go_wp2
    go_loopw [4] (fun i wr => ∃ k : Nat, k ≤ ss.length ∧ i = .int .i64 k ∧ wr.ownsRow w.heap.size 52 3 (.slice (some ⟨w.heap.size, 0, none⟩) ss.length ss.length) ss.length (symCs (ss.take k ++ List.replicate (ss.length - k) zeroSym)) ∧ Below w.heap.size w wr) (fun i _ => ss.length - (intOf i).toNat)
    case atStart => exact ⟨0, Nat.zero_le _, rfl, by have h := hown; rw [made3] at h; simpa using h, hb1⟩
    case round =>
      obtain ⟨k, hk, rfl, hown', hb⟩ := hrel
      clear hown hb1
      by_cases hk' : k < ss.length
      · obtain ⟨c0, c1, c2⟩ := hc k hk'
        have d0 := (hb.cell (p := ⟨b, off + k * 3, none⟩) hlt).trans c0
        have d1 := (hb.cell (p := ⟨b, off + k * 3 + 1, none⟩) hlt).trans c1
        have d2 := (hb.cell (p := ⟨b, off + k * 3 + 2, none⟩) hlt).trans c2
        clear c0 c1 c2 hc
        go_wp2_with (go_at_call 21; refine (toSym_any _ _ _ _).mono ?_; rintro e w2 ⟨rfl, hb2⟩; have hown2 := own_belowS hown' hb2; obtain ⟨e0, e1, e2⟩ := cells3 (len3 hk) (lt3 hk') hown2; have f0 := hown2.frozenAt (k * 3); have f1 := hown2.frozenAt (k * 3 + 1); have f2 := hown2.frozenAt (k * 3 + 2); have R1 := store3 ss[k] (lt3 hk') hown2; rw [step3 hk'] at R1; have hB := hb.trans (hb2.mono hb.size); clear hown' hown2 hb hb2 d0 d1 d2)
        go_roundw
        case rel => exact ⟨k + 1, by omega, by go_num, R1, ((hB.setCell (p := ⟨w.heap.size, _, none⟩) (Nat.le_refl _) _).setCell (p := ⟨w.heap.size, _, none⟩) (Nat.le_refl _) _).setCell (p := ⟨w.heap.size, _, none⟩) (Nat.le_refl _) _⟩
        case measure => simp [intOf]; omega
      · go_wp2
        go_ret
        have e : k = ss.length := by omega
        subst e
        refine ⟨rfl, ?_, hb⟩
        simpa using hown'

set_option maxHeartbeats 1600000 in
theorem szSyms_any (a : Option Addr) (ss : List SymD) (n cap : Nat) (m : Int) (w : World) (hn : n = ss.length) (hr : RdS w a ss) (hl : ss.length ≤ 9223372036854775807) (hm0 : 0 ≤ m) (hm : m ≤ 1048576) (hsz : ∀ s ∈ ss, s.name.size ≤ 9223372036854775807) :
    Calls Tryz.prog 4 #[.slice a n cap, .int .i64 m] w fun e w' => ∃ r : Int, e = .returned (.int .i64 r) ∧ (0 ≤ r → (ss.length : Int) + bytesOf ss ≤ m) ∧ r ≤ m ∧ Below w.heap.size w w' := by
  subst hn
  by_cases hbig : m - (ss.length : Int) < 0
  · go_enter Tryz.func4, Tryz.ntmps4
    go_wp2
    go_ret
    exact ⟨-1, rfl, fun h => by omega, by omega, Below.refl _ _⟩
  · rcases hr with rfl | ⟨b, off, rfl, hlt, hc⟩
    · go_enter Tryz.func4, Tryz.ntmps4
      go_wp2
      refine wp_loop_rounds 1 ?_
      rw [rounds_succ]
      go_wp2
      go_ret
      exact ⟨m, rfl, fun _ => (by simp [bytesOf]; omega), Int.le_refl _, Below.refl _ _⟩
    · go_enter Tryz.func4, Tryz.ntmps4
      go_wp2
      go_loopw [1, 5] (fun t i wr => ∃ (k : Nat) (l : Int), k ≤ ss.length ∧ i = .int .i64 k ∧ t = .int .i64 l ∧ 0 ≤ l ∧ l ≤ m ∧ Hid ((ss.length : Int) + bytesOf (ss.take k) + l = m) ∧ Below w.heap.size w wr) (fun _ i _ => ss.length - (intOf i).toNat)
      case atStart => exact ⟨0, m - ss.length, Nat.zero_le _, rfl, rfl, by omega, by omega, by show _ = _; simp [bytesOf]; omega, Below.refl _ _⟩
      case round =>
        obtain ⟨k, l, hk, rfl, rfl, hl0, hl1, HS, hb⟩ := hrel
        by_cases hk' : k < ss.length
        · obtain ⟨c0, c1, c2⟩ := hc k hk'
          have d0 := (hb.cell (p := ⟨b, off + k * 3, none⟩) hlt).trans c0
          have d1 := (hb.cell (p := ⟨b, off + k * 3 + 1, none⟩) hlt).trans c1
          have d2 := (hb.cell (p := ⟨b, off + k * 3 + 2, none⟩) hlt).trans c2
          have hs := hsz ss[k] (List.getElem_mem hk')
          have HB : Hid (bytesOf (ss.take (k + 1)) = bytesOf (ss.take k) + ss[k].name.size) := bytesOf_next hk'
          have S := szSym_any ss[k].name ss[k].ar ss[k].ac l wr (by omega) hl0 hs
          clear c0 c1 c2 hc hsz
          by_cases hlt2 : l < (ss[k].name.size : Int)
          · rw [if_pos hlt2] at S
            go_wp2_with (go_at_call 15; refine S.mono ?_; rintro e w2 ⟨rfl, hb2⟩; clear S)
            go_ret
            exact ⟨-1, rfl, fun h => by omega, by omega, hb.trans (hb2.mono hb.size)⟩
          · rw [if_neg hlt2] at S
            have hge : ¬ l - (ss[k].name.size : Int) < 0 := by omega
            go_wp2_with (go_at_call 15; refine S.mono ?_; rintro e w2 ⟨rfl, hb2⟩; clear S)
            go_roundw
            case rel => exact ⟨k + 1, l - ss[k].name.size, by omega, by go_num, rfl, by omega, by omega, by have h1 := HS.out; have h2 := HB.out; show _ = _; omega, hb.trans (hb2.mono hb.size)⟩
            case measure => simp [intOf]; omega
        · go_wp2
          go_ret
          have e : k = ss.length := by omega
          have h1 := HS.out
          rw [e, List.take_length] at h1
          exact ⟨l, rfl, fun _ => by omega, hl1, hb⟩

set_option maxHeartbeats 1600000 in
theorem eqSym_any (s t : SymD) (w : World) :
    Calls Tryz.prog 27 #[.agg #[.string s.name, .int .i64 s.ar, .bool s.ac], .agg #[.string t.name, .int .i64 t.ar, .bool t.ac]] w fun e w' => e = .returned (.bool (symEq s t)) ∧ Below w.heap.size w w' := by
  have hB : ∀ o1 o2, Below w.heap.size w ((w.alloc o1).alloc o2) := fun o1 o2 => ((Below.refl _ _).alloc (Nat.le_refl _) o1).alloc (by simp) o2
  go_enter Tryz.func27, Tryz.ntmps27
  go_wp2
  · go_ret
    have h : (!s.name.toList == t.name.toList) = true := by assumption
    exact ⟨ret_bool (by simp at h; simp [symEq, h]), hB _ _⟩
  · go_ret
    have h : (s.ar != t.ar) = true := by assumption
    exact ⟨ret_bool (by simp at h; simp [symEq, h]), hB _ _⟩
  · go_ret
    have h : (!s.ac == t.ac) = true := by assumption
    exact ⟨ret_bool (by simp at h; simp [symEq, h]), hB _ _⟩
  · go_ret
    have h1 : (!s.name.toList == t.name.toList) = false := by assumption
    have h2 : (s.ar != t.ar) = false := by assumption
    have h3 : (!s.ac == t.ac) = false := by assumption
    exact ⟨ret_bool (by simp at h1 h2 h3; simp [symEq, h1, h2, h3]), hB _ _⟩

set_option maxHeartbeats 1600000 in
theorem eqSyms_same (a a' : Option Addr) (ss : List SymD) (n cap n' cap' : Nat) (w : World) (hn : n = ss.length) (hn' : n' = ss.length) (hr : RdS w a ss) (hr' : RdS w a' ss) (hl : ss.length ≤ 1048577) :
    Calls Tryz.prog 12 #[.slice a n cap, .slice a' n' cap'] w fun e w' => e = .returned (.bool true) ∧ Below w.heap.size w w' := by
  subst hn hn'
  rcases hr with rfl | ⟨b, off, rfl, hlt, hc⟩
  · go_enter Tryz.func12, Tryz.ntmps12
    go_wp2
    refine wp_loop_rounds 1 ?_
    rw [rounds_succ]
    go_wp2
    go_ret
    exact ⟨rfl, Below.refl _ _⟩
  · rcases hr' with rfl | ⟨b', off', rfl, hlt', hc'⟩
    · go_enter Tryz.func12, Tryz.ntmps12
      go_wp2
      refine wp_loop_rounds 1 ?_
      rw [rounds_succ]
      go_wp2
      go_ret
      exact ⟨rfl, Below.refl _ _⟩
    · go_enter Tryz.func12, Tryz.ntmps12
      go_wp2
      go_loopw [5] (fun i wr => ∃ k : Nat, k ≤ ss.length ∧ i = .int .i64 k ∧ Below w.heap.size w wr) (fun i _ => ss.length - (intOf i).toNat)
      case atStart => exact ⟨0, Nat.zero_le _, rfl, Below.refl _ _⟩
      case round =>
        obtain ⟨k, hk, rfl, hb⟩ := hrel
        by_cases hk' : k < ss.length
        · obtain ⟨c0, c1, c2⟩ := hc k hk'
          obtain ⟨g0, g1, g2⟩ := hc' k hk'
          have d0 := (hb.cell (p := ⟨b, off + k * 3, none⟩) hlt).trans c0
          have d1 := (hb.cell (p := ⟨b, off + k * 3 + 1, none⟩) hlt).trans c1
          have d2 := (hb.cell (p := ⟨b, off + k * 3 + 2, none⟩) hlt).trans c2
          have q0 := (hb.cell (p := ⟨b', off' + k * 3, none⟩) hlt').trans g0
          have q1 := (hb.cell (p := ⟨b', off' + k * 3 + 1, none⟩) hlt').trans g1
          have q2 := (hb.cell (p := ⟨b', off' + k * 3 + 2, none⟩) hlt').trans g2
          have hi1 : (k : Int) < (ss.length : Int) := by omega
          clear c0 c1 c2 g0 g1 g2 hc hc'
          go_wp2
          go_region_with (go_at_call 27; refine (eqSym_any ss[k] ss[k] _).mono ?_; rw [symEq_self]; rintro e w2 ⟨rfl, hb2⟩)
          all_goals go_wp2
          all_goals
            go_roundw
            case rel => exact ⟨k + 1, by omega, by go_num, hb.drew.trans (hb2.mono hb.size)⟩
            case measure => simp [intOf]; omega
        · go_wp2
          go_ret
          exact ⟨rfl, hb⟩
end Go.Proofs.YthbilahilmmfmabGreat

/- How a list of functions that came in as an argument is opened: its cells, and that each part is in its bounds. Conditions: none. -/
namespace Go.Proofs.YthbilahilmmfmabGreat
set_option maxRecDepth 100000
open Go.RowKit Go.ChangeShapes Go.WideShapes Go.ChangeAt

theorem cells38 : Tryz.prog.cellsOf 45 = 3 := by kernel_rfl
theorem cells9 : Tryz.prog.cellsOf 9 = 1 := by kernel_rfl
theorem cells3i : Tryz.prog.cellsOf 3 = 1 := by kernel_rfl
theorem cells4 : Tryz.prog.cellsOf 4 = 1 := by kernel_rfl

set_option maxRecDepth 100000 in
theorem sym_of_trod {H : Type} {enc : TypeId × Value → H} {w : World} {base : Nat} {spare : Nat → Bool} {held : Bool} {n : Nat} {cs : List Value} {x : DataW H × List MemPlace}
    (h : DataW.trod enc Tryz.prog w base spare held n 45 cs = some x) : ∃ s : SymD, cs = symC s ∧ s.name.size ≤ maxLen ∧ (Lit.int .i64 s.ar).wf = true := by
  obtain ⟨xs, m, rfl, rfl, hlen, hxl, hf⟩ := DataW.trod_struct Tryz.underlying45 h
  rw [cells38] at hlen
  match cs, hlen with
  | [c0, c1, c2], _ =>
    match xs, hxl with
    | [y0, y1, y2], _ =>
      have h0 : DataW.trod enc Tryz.prog w base spare held m 9 [c0] = some y0 := by have := hf 0 _ rfl; simpa [cells9] using this
      have h1 : DataW.trod enc Tryz.prog w base spare held m 3 [c1] = some y1 := by have := hf 1 _ rfl; simpa [cells3i] using this
      have h2 : DataW.trod enc Tryz.prog w base spare held m 4 [c2] = some y2 := by have := hf 2 _ rfl; simpa [cells4] using this
      obtain ⟨s, e0, _, hs⟩ := DataW.trod_string Tryz.underlying9 h0
      obtain ⟨z, e1, _, hz⟩ := DataW.trod_int Tryz.underlying3 h1
      obtain ⟨b, e2, _⟩ := DataW.trod_bool Tryz.underlying4 h2
      simp at e0 e1 e2
      subst e0 e1 e2
      exact ⟨⟨s, z, b⟩, rfl, hs, hz⟩

set_option maxRecDepth 100000 in
theorem open_syms {H : Type} {enc : TypeId × Value → H} {W : World} {base : Nat} {spare : Nat → Bool} {held : Bool} {v : Value} {d : DataW H} {p : List MemPlace} {a : Option Addr} {len cap : Nat} (hv : v = .slice a len cap)
    (h : DataW.Trod enc Tryz.prog W base spare held 22 v d p) : ∃ ss : List SymD, len = ss.length ∧ len ≤ maxLen ∧ RdS W a ss ∧ ∀ s ∈ ss, s.name.size ≤ maxLen ∧ (Lit.int .i64 s.ar).wf = true := by
  subst hv
  obtain ⟨fuel, hf⟩ := h
  rcases Deep.open_slice Tryz.underlying22 hf with ⟨hcs, _⟩ | ⟨x, l, c, m, n, Dd, Pl, hcs, _, hl, hm, hmm, _, hel⟩
  · simp [Value.cells] at hcs
    obtain ⟨rfl, rfl, rfl⟩ := hcs
    exact ⟨[], rfl, Nat.zero_le _, .inl rfl, fun s hs => by simp at hs⟩
  · simp [Value.cells] at hcs
    obtain ⟨rfl, rfl, rfl⟩ := hcs
    rw [cells38] at hel
    have hlm : len ≤ m := by rw [hmm]; split <;> omega
    have hall : ∀ i, i < len → ∃ s : SymD, W.cells? base (x.add (i * 3)) 3 = some (symC s) ∧ s.name.size ≤ maxLen ∧ (Lit.int .i64 s.ar).wf = true := by
      intro i hi
      obtain ⟨cs', h1, h2⟩ := hel i (by omega)
      obtain ⟨s, rfl, h3, h4⟩ := sym_of_trod h2
      exact ⟨s, h1, h3, h4⟩
    obtain ⟨F, hF⟩ := Deep.choose_lt hall
    refine ⟨(List.range len).map F, by simp, by omega, ?_, ?_⟩
    · by_cases h0 : len = 0
      · subst h0; exact .inl rfl
      · have hcell : ∀ i, (hi : i < len) → ∀ j, j < 3 → W.cell? ((x.add (i * 3)).add j) = (symC (F i))[j]? := fun i hi j hj => (World.cells?_some (hF i hi).1).2.2 j hj
        obtain ⟨b, off, spot⟩ := x
        have hc0 := hcell 0 (by omega) 0 (by omega)
        have hspot : spot = none := by
          have h1 : W.cell? (⟨b, off, spot⟩ : Addr) = some (.string (F 0).name) := by simpa [Addr.add, symC] using hc0
          simpa using World.cell?_spot h1
        subst hspot
        have hadd : ∀ i j, ((⟨b, off, none⟩ : Addr).add i).add j = ⟨b, off + i + j, none⟩ := by
          intro i j
          by_cases h1 : i = 0 <;> by_cases h2 : j = 0 <;> simp [Addr.add, h1, h2, Nat.add_assoc]
        have hb : b < W.heap.size := by
          have h1 : W.cell? (⟨b, off, none⟩ : Addr) = some (.string (F 0).name) := by simpa [Addr.add, symC] using hc0
          exact World.block_lt_of_cell? _ _ h1
        refine .inr ⟨b, off, rfl, hb, fun i hi => ?_⟩
        simp at hi
        have g0 := hcell i hi 0 (by omega)
        have g1 := hcell i hi 1 (by omega)
        have g2 := hcell i hi 2 (by omega)
        rw [hadd] at g0 g1 g2
        simp [symC] at g0 g1 g2
        simp [g0, g1, g2]
    · intro s hs
      simp at hs
      obtain ⟨i, hi, rfl⟩ := hs
      exact ⟨(hF i hi).2.1, (hF i hi).2.2⟩
end Go.Proofs.YthbilahilmmfmabGreat

/- Contracts of the laws' comparison of terms, where both read as the same. Conditions: terms of at most 549755813888 parts. -/
namespace Go.Proofs.YthbilahilmmfmabGreat
set_option maxRecDepth 100000
open Go.RowKit

set_option maxHeartbeats 1600000 in
theorem eqTerm_of (t : TermD) (a a' : Option Addr) (c c' : Nat) (w : World)
    (H : ∀ w', Below w.heap.size w w' → Calls Tryz.prog 29 #[.slice a t.kids.length c, .slice a' t.kids.length c'] w' fun e w'' => e = .returned (.bool true) ∧ Below w'.heap.size w' w'') :
    Calls Tryz.prog 14 #[.agg #[.int .i64 t.f, .int .i64 t.v, .slice a t.kids.length c], .agg #[.int .i64 t.f, .int .i64 t.v, .slice a' t.kids.length c']] w fun e w' => e = .returned (.bool true) ∧ Below w.heap.size w w' := by
  generalize t.kids = ks at *
  have h0 : Below w.heap.size w ((w.alloc (.cells #[.int .i64 t.f, .int .i64 t.v, .slice a ks.length c] 37)).alloc (.cells #[.int .i64 t.f, .int .i64 t.v, .slice a' ks.length c'] 37)) := ((Below.refl _ _).alloc (Nat.le_refl _) _).alloc (by simp) _
  have H1 := H _ h0
  clear H
  go_enter Tryz.func14, Tryz.ntmps14
  go_wp2_with (go_at_call 29; refine H1.mono ?_; rintro e w1 ⟨rfl, hb1⟩; clear H1)
  go_ret
  exact ⟨rfl, h0.trans (hb1.mono h0.size)⟩

set_option maxHeartbeats 1600000 in
theorem eqTermS_same (N : Nat) : ∀ (ts : List TermD) (a a' : Option Addr) (c c' hi : Nat) (w : World), partsL ts ≤ N → N ≤ 549755813888 → RdK w hi a ts → RdK w hi a' ts → hi ≤ w.heap.size →
    Calls Tryz.prog 29 #[.slice a ts.length c, .slice a' ts.length c'] w fun e w' => e = .returned (.bool true) ∧ Below w.heap.size w w' := by
  induction N with
  | zero =>
    intro ts a a' c c' hi w hN hM hr hr' hhi
    have h1 := partsL_len ts
    have : ts = [] := List.length_eq_zero_iff.1 (by omega)
    subst this
    go_enter Tryz.func29, Tryz.ntmps29
    go_wp2_with fail
    refine wp_loop_rounds 1 ?_
    rw [rounds_succ]
    go_wp2_with fail
    go_ret
    exact ⟨rfl, Below.refl _ _⟩
  | succ N ih =>
    intro ts a a' c c' hi w hN hM hr hr' hhi
    have hlen := partsL_len ts
    have HR : Hid (RdK w hi a ts) := hr
    have HR' : Hid (RdK w hi a' ts) := hr'
    clear hr hr'
    go_enter Tryz.func29, Tryz.ntmps29
    go_wp2_with fail
    go_loopw [5] (fun i wr => ∃ k : Nat, k ≤ ts.length ∧ i = .int .i64 k ∧ Below w.heap.size w wr) (fun i _ => ts.length - (intOf i).toNat)
    case atStart => exact ⟨0, Nat.zero_le _, rfl, Below.refl _ _⟩
    case round =>
      obtain ⟨k, hk, rfl, hbr⟩ := hrel
      by_cases hk' : k < ts.length
      · obtain ⟨b, off, e1, c1, rfl, hlt, d0, d1, d2, hkr⟩ := RdK.kid (HR.out.on (hbr.mono hhi)) hk'
        obtain ⟨b', off', e2, c2, rfl, hlt', g0, g1, g2, hkr'⟩ := RdK.kid (HR'.out.on (hbr.mono hhi)) hk'
        have hpg := partsL_get hk'
        have hpt := partsT_eq ts[k]
        have hki : (k : Int) < (ts.length : Int) := by omega
        have hwr := Nat.le_trans hhi hbr.size
        have I := fun (w' : World) (h : Below wr.heap.size wr w') => eqTerm_of ts[k] e1 e2 c1 c2 w' (fun w'' h' => ih ts[k].kids e1 e2 c1 c2 hi w'' (by omega) (by omega) (hkr.on ((h.trans (h'.mono h.size)).mono hwr)) (hkr'.on ((h.trans (h'.mono h.size)).mono hwr)) (Nat.le_trans hwr (Nat.le_trans h.size h'.size)))
        clear HR HR' hkr hkr' hpt
        go_wp2_with fail
        go_region_held3 (fun w' => w'.cell? ⟨b, off + k * 3, none⟩ = some (.int .i64 ts[k].f) ∧ w'.cell? ⟨b, off + k * 3 + 1, none⟩ = some (.int .i64 ts[k].v) ∧ w'.cell? ⟨b, off + k * 3 + 2, none⟩ = some (.slice e1 ts[k].kids.length c1) ∧ w'.cell? ⟨b', off' + k * 3, none⟩ = some (.int .i64 ts[k].f) ∧ w'.cell? ⟨b', off' + k * 3 + 1, none⟩ = some (.int .i64 ts[k].v) ∧ w'.cell? ⟨b', off' + k * 3 + 2, none⟩ = some (.slice e2 ts[k].kids.length c2)) (first | go_keep | exact ⟨keepC hbb d0, keepC hbb d1, keepC hbb d2, keepC hbb g0, keepC hbb g1, keepC hbb g2⟩)
          (first | (go_at_call 14; refine (I _ ?_).mono ?_; exact (Below.refl _ _).drew; rintro e w1 ⟨rfl, hb1⟩; have hbb : Below wr.heap.size wr w1 := (Below.refl _ _).drew.trans hb1; clear hb1))
        go_wp2_with fail
        go_roundw
        case rel => exact ⟨k + 1, by omega, by go_num, hbr.trans (hbb.mono hbr.size)⟩
        case measure => simp [intOf]; omega
      · go_wp2_with fail
        go_ret
        exact ⟨rfl, hbr⟩

theorem eqTerm_same (t : TermD) (a a' : Option Addr) (c c' hi : Nat) (w : World) (hp : partsT t ≤ 549755813888) (hr : RdK w hi a t.kids) (hr' : RdK w hi a' t.kids) (hhi : hi ≤ w.heap.size) :
    Calls Tryz.prog 14 #[.agg #[.int .i64 t.f, .int .i64 t.v, .slice a t.kids.length c], .agg #[.int .i64 t.f, .int .i64 t.v, .slice a' t.kids.length c']] w fun e w' => e = .returned (.bool true) ∧ Below w.heap.size w w' :=
  eqTerm_of t a a' c c' w (fun w' h => eqTermS_same (partsL t.kids) t.kids a a' c c' hi w' (Nat.le_refl _) (by rw [partsT_eq] at hp; omega) (hr.on (h.mono hhi)) (hr'.on (h.mono hhi)) (Nat.le_trans hhi h.size))
end Go.Proofs.YthbilahilmmfmabGreat

/- Contracts of the laws' helpers on what is put for variables: how much it holds, whether two are alike. Conditions: at most 549755813888 parts. -/
namespace Go.Proofs.YthbilahilmmfmabGreat
set_option maxRecDepth 100000
open Go.RowKit

set_option maxHeartbeats 800000 in
theorem szBind_any (u : BindD) (a : Option Addr) (c hi : Nat) (m : Int) (w : World) (hm0 : 0 ≤ m) (hm : m ≤ 1048576) (hr : RdK w hi a u.t.kids) (hhi : hi ≤ w.heap.size) :
    Calls Tryz.prog 16 #[.agg #[.int .i64 u.n, .int .i64 u.t.f, .int .i64 u.t.v, .slice a u.t.kids.length c], .int .i64 m] w fun e w' => e = .returned (.int .i64 (szR u.t.kids m)) ∧ Below w.heap.size w w' := by
  have h0 : Below w.heap.size w (w.alloc (.cells #[.int .i64 u.n, .int .i64 u.t.f, .int .i64 u.t.v, .slice a u.t.kids.length c] 48)) := (Below.refl w.heap.size w).alloc (Nat.le_refl _) _
  have H1 := szTerm_any u.t a c hi m _ hm0 hm (hr.on (h0.mono hhi)) (Nat.le_trans hhi h0.size)
  have hr1 : szR u.t.kids m < 0 → szR u.t.kids m = -1 := by unfold szR; split <;> omega
  generalize szR u.t.kids m = r at *
  by_cases hn : r < 0
  · have hr2 := hr1 hn
    subst hr2
    clear hr1
    go_enter Tryz.func16, Tryz.ntmps16
    go_wp2_with (go_at_call 6; refine H1.mono ?_; rintro e w1 ⟨rfl, hb1⟩; clear H1)
    go_ret
    exact ⟨rfl, h0.trans (hb1.mono h0.size)⟩
  · clear hr1
    go_enter Tryz.func16, Tryz.ntmps16
    go_wp2_with (go_at_call 6; refine H1.mono ?_; rintro e w1 ⟨rfl, hb1⟩; clear H1)
    go_ret
    exact ⟨rfl, h0.trans (hb1.mono h0.size)⟩

set_option maxHeartbeats 1600000 in
theorem szBindS_any (us : List BindD) (a : Option Addr) (c hi : Nat) (m : Int) (w : World) (hm0 : 0 ≤ m) (hm : m ≤ 1048576) (hl : us.length ≤ 9223372036854775807) (hr : RdU w hi a us) (hhi : hi ≤ w.heap.size) :
    Calls Tryz.prog 5 #[.slice a us.length c, .int .i64 m] w fun e w' => e = .returned (.int .i64 (szU us m)) ∧ Below w.heap.size w w' := by
  have HR : Hid _ := hr
  clear hr
  by_cases h0 : (us.length : Int) ≤ m
  · have hsub : IntKind.i64.wrap (m - (us.length : Int)) = m - (us.length : Int) := by rw [IntKind.wrap_i64]; omega
    have hnn : ¬ (m - (us.length : Int)) < 0 := by omega
    go_enter Tryz.func5, Tryz.ntmps5
    go_wp2_with fail
    go_loopw [1, 5] (fun l i wr => ∃ k : Nat, k ≤ us.length ∧ i = .int .i64 k ∧ l = .int .i64 (m - us.length - (((us.take k).map (fun u => partsL u.t.kids)).sum : Nat)) ∧ (((us.take k).map (fun u => partsL u.t.kids)).sum : Int) ≤ m - us.length ∧ Below w.heap.size w wr) (fun _ i _ => us.length - (intOf i).toNat)
    case atStart => exact ⟨0, Nat.zero_le _, rfl, by simp, by simp; omega, Below.refl _ _⟩
    case round =>
      obtain ⟨k, hk, rfl, rfl, hle, hb⟩ := hrel
      by_cases hk' : k < us.length
      · obtain ⟨b, off, a', c', rfl, hlt, d0, d1, d2, d3, hc', hkr, hz⟩ := RdU.get (HR.out.on (hb.mono hhi)) hk'
        have hki : (k : Int) < (us.length : Int) := by omega
        have HN : Hid _ := sum_nextU hk'
        have HT : Hid _ := sum_takeU us (k + 1)
        obtain ⟨S, hS⟩ : ∃ S, S = ((us.take k).map (fun u => partsL u.t.kids)).sum := ⟨_, rfl⟩
        rw [← hS] at hle HN ⊢
        clear hS
        have C := szBind_any us[k] a' c' hi (m - us.length - (S : Nat)) wr (by omega) (by omega) hkr (Nat.le_trans hhi hb.size)
        generalize us[k] = u at d0 d1 d2 d3 C HN
        by_cases hp : (partsL u.t.kids : Int) ≤ m - us.length - (S : Nat)
        · rw [show szR u.t.kids (m - us.length - (S : Nat)) = m - us.length - (S : Nat) - partsL u.t.kids by unfold szR; rw [if_pos hp]] at C
          have hn2 : ¬ (m - (us.length : Int) - (S : Nat) - (partsL u.t.kids : Int)) < 0 := by omega
          clear hkr hz hc'
          go_wp2_with (go_at_call 16; refine C.mono ?_; rintro e w1 ⟨rfl, hb1⟩; clear C)
          go_roundw
          case rel => exact ⟨k + 1, by omega, by go_num, by rw [HN.out]; congr 1; push_cast; omega, by rw [HN.out]; push_cast; omega, hb.trans (hb1.mono hb.size)⟩
          case measure => simp [intOf]; omega
        · rw [show szR u.t.kids (m - us.length - (S : Nat)) = -1 by unfold szR; rw [if_neg hp]] at C
          have HF : Hid (szU us m = -1) := by
            show _ = _
            unfold szU partsU
            rw [if_neg]
            have h1 := HN.out
            have h2 := HT.out
            push_cast
            omega
          clear hkr hz hc'
          go_wp2_with (go_at_call 16; refine C.mono ?_; rintro e w1 ⟨rfl, hb1⟩; clear C)
          go_ret
          exact ⟨rt_int HF.out.symm, hb.trans (hb1.mono hb.size)⟩
      · have e : k = us.length := by omega
        have HF : Hid (szU us m = m - us.length - (((us.take k).map (fun u => partsL u.t.kids)).sum : Nat)) := by
          show _ = _
          rw [e, List.take_length] at hle ⊢
          unfold szU partsU
          rw [if_pos (by push_cast; omega)]
          push_cast; omega
        have hki : ¬ (k : Int) < (us.length : Int) := by omega
        clear e
        go_wp2_with fail
        go_ret
        exact ⟨rt_int (by rw [HF.out, List.map_take]), hb⟩
  · have hsub : IntKind.i64.wrap (m - (us.length : Int)) = m - (us.length : Int) := by rw [IntKind.wrap_i64]; omega
    have hnn : (m - (us.length : Int)) < 0 := by omega
    have HF : Hid (szU us m = -1) := by
      show _ = _
      unfold szU partsU
      rw [if_neg]
      push_cast
      omega
    go_enter Tryz.func5, Tryz.ntmps5
    go_wp2_with fail
    go_ret
    exact ⟨rt_int HF.out.symm, Below.refl _ _⟩

set_option maxHeartbeats 800000 in
theorem eqBind_same (u : BindD) (a a' : Option Addr) (c c' hi : Nat) (w : World) (hp : partsT u.t ≤ 549755813888) (hr : RdK w hi a u.t.kids) (hr' : RdK w hi a' u.t.kids) (hhi : hi ≤ w.heap.size) :
    Calls Tryz.prog 28 #[.agg #[.int .i64 u.n, .int .i64 u.t.f, .int .i64 u.t.v, .slice a u.t.kids.length c], .agg #[.int .i64 u.n, .int .i64 u.t.f, .int .i64 u.t.v, .slice a' u.t.kids.length c']] w fun e w' => e = .returned (.bool true) ∧ Below w.heap.size w w' := by
  have h0 : Below w.heap.size w ((w.alloc (.cells #[.int .i64 u.n, .int .i64 u.t.f, .int .i64 u.t.v, .slice a u.t.kids.length c] 55)).alloc (.cells #[.int .i64 u.n, .int .i64 u.t.f, .int .i64 u.t.v, .slice a' u.t.kids.length c'] 55)) := ((Below.refl _ _).alloc (Nat.le_refl _) _).alloc (by simp) _
  have H1 := eqTerm_same u.t a a' c c' hi _ hp (hr.on (h0.mono hhi)) (hr'.on (h0.mono hhi)) (Nat.le_trans hhi h0.size)
  go_enter Tryz.func28, Tryz.ntmps28
  go_wp2_with (go_at_call 14; refine H1.mono ?_; rintro e w1 ⟨rfl, hb1⟩; clear H1)
  go_ret
  exact ⟨rfl, h0.trans (hb1.mono h0.size)⟩

set_option maxHeartbeats 1600000 in
theorem eqBindS_same (us : List BindD) (a a' : Option Addr) (c c' hi : Nat) (w : World) (hp : partsU us ≤ 549755813887) (hr : RdU w hi a us) (hr' : RdU w hi a' us) (hhi : hi ≤ w.heap.size) :
    Calls Tryz.prog 13 #[.slice a us.length c, .slice a' us.length c'] w fun e w' => e = .returned (.bool true) ∧ Below w.heap.size w w' := by
  have HR : Hid _ := hr
  have HR' : Hid _ := hr'
  have hlen : us.length ≤ 549755813888 := by unfold partsU at hp; omega
  clear hr hr'
  go_enter Tryz.func13, Tryz.ntmps13
  go_wp2_with fail
  go_loopw [5] (fun i wr => ∃ k : Nat, k ≤ us.length ∧ i = .int .i64 k ∧ Below w.heap.size w wr) (fun i _ => us.length - (intOf i).toNat)
  case atStart => exact ⟨0, Nat.zero_le _, rfl, Below.refl _ _⟩
  case round =>
    obtain ⟨k, hk, rfl, hb⟩ := hrel
    by_cases hk' : k < us.length
    · obtain ⟨b, off, x, xc, rfl, hlt, d0, d1, d2, d3, _, hkr, _⟩ := RdU.get (HR.out.on (hb.mono hhi)) hk'
      obtain ⟨b', off', y, yc, rfl, hlt', g0, g1, g2, g3, _, hkr', _⟩ := RdU.get (HR'.out.on (hb.mono hhi)) hk'
      have hki : (k : Int) < (us.length : Int) := by omega
      have hki0 : (0 : Int) ≤ (k : Int) := by omega
      have hpg := partsU_get hk'
      have hpt := partsT_eq us[k].t
      have C := fun (W' : World) (h : Below wr.heap.size wr W') => eqBind_same us[k] x y xc yc hi W' (by omega) (hkr.on (h.mono (Nat.le_trans hhi hb.size))) (hkr'.on (h.mono (Nat.le_trans hhi hb.size))) (Nat.le_trans (Nat.le_trans hhi hb.size) h.size)
      generalize us[k] = u at d0 d1 d2 d3 g0 g1 g2 g3 C
      clear hkr hkr' hpg hpt
      go_wp2_with fail
      have k0 := cellB d0
      have k1 := cellB d1
      have k2 := cellB d2
      have k3 := cellB d3
      have l0 := cellB g0
      have l1 := cellB g1
      have l2 := cellB g2
      have l3 := cellB g3
      refine wp_region_below (by kernel_rfl) (by kernel_rfl) ?_
      repeat (go_big_quiet_step ((go_at_call 28; refine callsB (C _ (BW.b _)))))
      refine wpQuiet_nil ?_
      intro w2 hw'
      have hb2 : Below wr.heap.size wr w2 := by obtain ⟨p, rfl⟩ := hw'; exact p.b
      clear hw' k0 k1 k2 k3 l0 l1 l2 l3
      go_wp2_with fail
      go_roundw
      case rel => exact ⟨k + 1, by omega, by go_num, hb.trans (hb2.mono hb.size)⟩
      case measure => simp [intOf]; omega
    · have hki : ¬ (k : Int) < (us.length : Int) := by omega
      go_wp2_with fail
      go_ret
      exact ⟨rfl, hb⟩
end Go.Proofs.YthbilahilmmfmabGreat

