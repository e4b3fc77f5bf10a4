/- The law FnBasis answers true at every code, and leaves it as it was: each of a drawn basis solves, none is beneath another one, and beneath each way that solves lies one. Conditions: none beyond the given row's own. -/
import Derived.Test.YthbilahilmmfmaaRows
import Derived.Test.YthbilahilmmfmaaPackBasis10
import Derived.WalkKit
import Derived.ProofKit
import Derived.OpenShut
import Derived.ShutString
import Derived.ChangeOld
import Derived.Below
namespace Go.Proofs.Ythbilahilmmfmaa.fnBasis
open Go.ChangeShapes Go.WideShapes Go.ChangeAt Go.RowKit
open Go.ChangeMaps (open_string shut_string)
set_option linter.unusedVariables false

theorem own : ownKnob Try.prog.godebug = none := by kernel_rfl
theorem laidOut : laidOutB Try.prog = true := by kernel_rfl

set_option maxHeartbeats 12800000 in
set_option maxRecDepth 100000 in
theorem small (a : Option Addr) (bs : List Int) (cap : Nat) (w : World) (hl : bs.length ≤ 1048576) (hr : ∀ c, w.heap.size ≤ c → RdB w c a bs) :
    Calls Try.prog 3 #[.slice a bs.length cap] w fun e w' => e = .returned (.bool true) ∧ Below w.heap.size w w' := by
  have hbig' : ¬ (1048576 : Int) < (bs.length : Int) := by omega
  have CD := drawBasis_any a bs cap w hl hr
  have HSQ : SolsSeq := fun w a b a0 a1 c0 c1 B1 B2 ha hb Kp k1 k2 kl b1 b2 ra rb => sols_seq w a b a0 a1 c0 c1 B1 B2 ha hb Kp k1 k2 kl b1 b2 ra rb
  have hrb : RdB w w.heap.size a bs := hr _ (Nat.le_refl _)
  have CDS := fun (W : World) (h : Below w.heap.size w W) => drawSolves_any a bs cap W hl (fun c hc => (hr c (Nat.le_trans h.size hc)).onS h)
  have CDL := fun (W : World) (h : Below w.heap.size w W) => drawLeast_any a bs cap W hl (fun c hc => (hr c (Nat.le_trans h.size hc)).onS h)
  have CDT := fun (W : World) (h : Below w.heap.size w W) => drawSum_any a bs cap W hl (fun c hc => (hr c (Nat.le_trans h.size hc)).onS h)
  obtain ⟨i0, hi, hz0, hz1, hz2⟩ := info_parts Try.info3
  have HRB : Hid (RdB w w.heap.size a bs) := hrb
  clear hr hrb
  go_enter Try.func3, Try.ntmps3
  go_wp2_with (first
    | (go_at_call 7; go_in)
    | (go_at_call 8; refine CD.mono ?_; rintro e w1 ⟨g1, k1, xs, g2, k2, ys, rfl, hx, hy, R1, R2, hB1⟩; clear CD))
  have hm0 : xs.length ≤ 1048577 := by omega
  have hm1 : ys.length ≤ 1048577 := by omega
  have CS := fun (W : World) (h : Below w1.heap.size w1 W) => specBasis_any (some ⟨g1, 0, none⟩) (some ⟨g2, 0, none⟩) xs ys k1 k2 W (R1.below h) (R2.below h) hm0 hm1
  have CI := fun (W : World) (h : Below w1.heap.size w1 W) => basis_any HSQ (some ⟨g1, 0, none⟩) (some ⟨g2, 0, none⟩) xs ys k1 k2 W (R1.below h) (R2.below h) hm0 hm1
  have HP : Hid (_ → _) := basP_ok (a := xs) (b := ys)
  have HN : Hid (_ → _) := basP_nil (a := xs) (b := ys)
  have HBS : Hid (_ → _) := basP_bas (a := xs) (b := ys)
  generalize basP xs ys = PR at CS CI HP HN HBS
  obtain ⟨R, u⟩ := PR
  simp only at CS CI
  have HP2 : Hid (u = true → (1 ≤ xs.length ∧ xs.length ≤ 5 ∧ 1 ≤ ys.length ∧ ys.length ≤ 5 ∧ (∀ v ∈ xs, 1 ≤ v ∧ v ≤ 4) ∧ ∀ v ∈ ys, 1 ≤ v ∧ v ≤ 4) ∧ R.length ≤ 60 ∧ ∀ r ∈ R, OkRow xs ys r) := HP.out
  have HN2 : Hid (u = false → R = []) := HN.out
  have HBS2 : Hid (u = true → R = basL xs ys ∧ fineB xs = true ∧ fineB ys = true) := HBS.out
  clear HP HN HBS HSQ
  have HX : Hid (1 ≤ xs.length ∧ xs.length ≤ 4 ∧ smallL xs) := ⟨hx.1, hx.2.1, fun v hv => by have := hx.2.2 v hv; unfold dr5 at this; omega⟩
  have HY : Hid (1 ≤ ys.length ∧ ys.length ≤ 4 ∧ smallL ys) := ⟨hy.1, hy.2.1, fun v hv => by have := hy.2.2 v hv; unfold dr5 at this; omega⟩
  have HR12 : Hid (Rd w1 (some ⟨g1, 0, none⟩) xs ∧ Rd w1 (some ⟨g2, 0, none⟩) ys) := ⟨R1, R2⟩
  clear hx hy R1 R2
  have hRR : (R.length != R.length) = false := by simp
  have hRI : ((R.length : Int) != (R.length : Int)) = false := by simp
  cases u
  all_goals
    go_wp2_with (first
      | (go_at_call 9; refine (CI w1 (Below.refl _ _)).mono ?_; rintro e w2 ⟨aG, cG, rfl, hG, hb2⟩; have HG : Hid (RdC w2 aG R) := li_rdc hG; have hB2 := hB1.trans (hb2.mono hB1.size); clear hG CI)
      | (go_at_call 10; refine (CS w2 hb2).mono ?_; rintro e w3 ⟨aW, cW, rfl, hW, hb3⟩; have hB3 := hB2.trans (hb3.mono hB2.size); have Z3 : BN w g1 xs g2 ys aG aW R w3 := ⟨hB3, (HR12.out.1.below hb2).below hb3, (HR12.out.2.below hb2).below hb3, HG.out.below hb3, hW⟩; clear hW HG CS hB1 hB2 hb2 hb3 HR12 hB3)
      | (go_at_call 11; refine (CDS w3 Z3.bel).mono ?_; rintro e w4 ⟨g4, k4, us, g5, k5, vs, g6, k6, zs, rfl, hu, hv, hz, hru, hrv, hrz, hb4⟩; have Z4 := Z3.on hb4; have HU : Hid (us.length ≤ 4 ∧ smallL us) := ⟨hu.2.1, fun v hv => by have := hu.2.2 v hv; unfold dr5 at this; omega⟩; have HV : Hid (vs.length ≤ 4 ∧ smallL vs) := ⟨hv.2.1, fun x hx => by have := hv.2.2 x hx; unfold dr5 at this; omega⟩; have SI := fun (W : World) (h : Below w4.heap.size w4 W) => impSolves_any (some ⟨g4, 0, none⟩) (some ⟨g5, 0, none⟩) (some ⟨g6, 0, none⟩) us vs zs k4 k5 k6 W (hru.below h) (hrv.below h) (hrz.below h) hu.1 (by omega) hv.1 (by omega) (by omega) hz.2.2 HU.out.2 HV.out.2 hz.2.1; have SS := fun (W : World) (h : Below w4.heap.size w4 W) => specSolves_any (some ⟨g4, 0, none⟩) (some ⟨g5, 0, none⟩) (some ⟨g6, 0, none⟩) us vs zs k4 k5 k6 W (hru.below h) (hrv.below h) (hrz.below h) (by omega) (by omega) (by omega) HU.out.2 HV.out.2 hz.2.1; clear Z3 CDS hu hv hz hru hrv hrz HU HV; generalize solvB us vs zs = sb at SI SS; have hsb : (sb != sb) = false := (by cases sb <;> rfl))
      | (go_at_call 12; refine (CDL w4 Z4.bel).mono ?_; rintro e w5 ⟨g7, k7, ps, g8, k8, qs, rfl, hp5, hq5, hrp, hrq, hb5⟩; have Z5 := Z4.on hb5; have LI1 := fun (W : World) (h : Below w5.heap.size w5 W) => impLeast_any (some ⟨g7, 0, none⟩) (some ⟨g8, 0, none⟩) ps qs ps.length k7 qs.length k8 W rfl rfl (hrp.below h) (hrq.below h) (by omega) (by omega); have LS1 := fun (W : World) (h : Below w5.heap.size w5 W) => specLeast_any (some ⟨g7, 0, none⟩) (some ⟨g8, 0, none⟩) ps qs ps.length k7 qs.length k8 W rfl rfl (hrp.below h) (hrq.below h) (by omega) (by omega); generalize leastB ps qs = lb at LI1 LS1; have hlb : (lb != lb) = false := (by cases lb <;> rfl); clear Z4 CDL hp5 hq5 hrp hrq)
      | (go_at_call 13; refine (CDT w5 Z5.bel).mono ?_; rintro e w6 ⟨g9, k9, E, n, rfl, hE3, hE5, hrE, hb6⟩; have Z6 := Z5.on hb6; have hm6 : E.length ≤ 1048577 := (by omega); have HE5 : Hid (∀ r ∈ E, r.length ≤ 1048577) := (fun r hr => by have := hE5 r hr; omega); have UI := fun (W : World) (h : Below w6.heap.size w6 W) => impSum_any (some ⟨g9, 0, none⟩) E k9 n W (hrE.below h) hm6 HE5.out; have US := fun (W : World) (h : Below w6.heap.size w6 W) => specSum_any (some ⟨g9, 0, none⟩) E k9 n W (hrE.below h) hm6 HE5.out; have hsl := sumL_len E n; generalize sumL E n = T at UI US hsl; clear Z5 CDT hE3 hE5 hrE HE5 hm6)
      | (go_at_call 14; refine (SI w6 (hb5.trans (hb6.mono hb5.size))).mono ?_; rintro e w7 ⟨rfl, hb7⟩; have Z7 := Z6.on hb7; have hb47 := (hb5.trans (hb6.mono hb5.size)).trans (hb7.mono (hb5.trans (hb6.mono hb5.size)).size); clear SI Z6)
      | (go_at_call 15; refine (SS w7 hb47).mono ?_; rintro e w8 ⟨rfl, hb8⟩; have Z8 := Z7.on hb8; have hb58 := (hb6.trans (hb7.mono hb6.size)).trans (hb8.mono (hb6.trans (hb7.mono hb6.size)).size); have hb68 := hb7.trans (hb8.mono hb7.size); clear SS Z7 hb47)
      | (go_at_call 16; refine (LI1 w8 hb58).mono ?_; rintro e w9 ⟨rfl, q9, rfl⟩; have hb59 := hb58.trans ((below_drewN (Below.refl w8.heap.size w8) q9).mono hb58.size); clear LI1)
      | (go_at_call 17; refine (LS1 _ hb59).mono ?_; rintro e w10 ⟨rfl, q10, rfl⟩; clear LS1)
      | (go_at_call 19; refine (UI _ (hb68.trans ((below_drewN (Below.refl _ _) _).mono hb68.size))).mono ?_; rintro e w11 ⟨aS, cS, rfl, hoS, hb11⟩; have Z11 := (Z8.on (below_drewN (Below.refl w8.heap.size w8) _)).on hb11; have HS11 : Hid (Rd w11 aS T) := rd_own rfl hoS; have hb6B : Below w6.heap.size w6 w11 := hb68.trans (((below_drewN (Below.refl w8.heap.size w8) _).trans (hb11.mono (below_drewN (Below.refl w8.heap.size w8) _).size)).mono hb68.size); clear UI hoS hb11 Z8 hb58 hb59 hb68)
      | (go_at_call 20; refine (US w11 hb6B).mono ?_; rintro e w12 ⟨gT, cT, rfl, hoT, hb12⟩; have Z12 := Z11.on hb12; have HS12 : Hid (Rd w12 aS T) := HS11.out.below hb12; have HT12 : Hid (Rd w12 (some ⟨gT, 0, none⟩) T) := rd_own rfl hoT; clear US hoT hb12 Z11 HS11 hb6B)
      | (go_at_call 18; refine (sameInts_any aS (some ⟨gT, 0, none⟩) T T _ cS _ cT w12 rfl rfl HS12.out HT12.out (by omega) (by omega)).mono ?_; rintro e w13 ⟨rfl, q13, hq13⟩; have Z13 : BN w g1 xs g2 ys aG aW R w13 := (by rw [hq13]; exact Z12.on (below_drewN (Below.refl _ _) q13)); clear hq13 Z12 HS12 HT12; rw [eqB_self]))
  · have hR0 : R = [] := HN2.out (by first | exact rfl | trivial)
    subst hR0
    refine wp_loop_rounds 1 ?_
    rw [rounds_succ]
    go_wp2_with fail
    refine wp_loop_rounds 1 ?_
    rw [rounds_succ]
    go_wp2_with fail
    go_ret
    exact ⟨rfl, Z13.bel⟩
  · obtain ⟨hF, hR60, hRow⟩ := HP2.out (by first | exact rfl | trivial)
    obtain ⟨hRb, hfa, hfb⟩ := HBS2.out (by first | exact rfl | trivial)
    have HROW : Hid (∀ r ∈ R, OkRow xs ys r) := hRow
    have HAP : Hid (∀ x ∈ R, ∀ y ∈ R, leastB x y = false) := bas_apart hRb
    have HSZ : Hid (∀ W, solvB xs ys W = true → benE R W = false → zB W = true) := fun W h1 h2 => solv_zero hRb hfa hfb h1 h2
    clear HP2 HBS2 HN2 hF hRow hRb hfa hfb hRR hsb hlb hsl
    go_loopw [16] (fun i wr => ∃ k : Nat, k ≤ R.length ∧ i = .int .i64 k ∧ Hid (Below w13.heap.size w13 wr)) (fun i _ => R.length - (intOf i).toNat)
    case atStart => exact ⟨0, Nat.zero_le _, rfl, Below.refl _ _⟩
    case round =>
      obtain ⟨k, hk, rfl, HB⟩ := hrel
      by_cases hk' : k < R.length
      · obtain ⟨b1, o1, ai, ci, rfl, c1, r1, q1⟩ := RdC.get Z13.rg hk'
        obtain ⟨b2, o2, aj, cj, rfl, c2, r2⟩ := RdQ.get Z13.rw' hk'
        have hki : (k : Int) < (R.length : Int) := by omega
        have hki0 : (0 : Int) ≤ (k : Int) := by omega
        have p1 := keepC HB.out c1
        have p2 := keepC HB.out c2
        have hok := HROW.out R[k] (List.getElem_mem hk')
        have hsv := okRow_solv hok
        have hrl : R[k].length ≤ 10 := by have := hok.1; have := HX.out.2.1; have := HY.out.2.1; omega
        have hrs : smallL R[k] := fun v hv => by have := hok.2.1 v hv; omega
        have SA := fun (W : World) (h : Below w13.heap.size w13 W) => sameInts_any ai aj R[k] R[k] R[k].length ci R[k].length cj W rfl rfl (r1.below h) (r2.below h) (by omega) (by omega)
        have SV := fun (W : World) (h : Below w13.heap.size w13 W) => impSolves_any (some ⟨g1, 0, none⟩) (some ⟨g2, 0, none⟩) ai xs ys R[k] k1 k2 ci W (Z13.rx.below h) (Z13.ry.below h) (r1.below h) HX.out.1 (by have := HX.out.2.1; omega) HY.out.1 (by have := HY.out.2.1; omega) (by omega) q1 HX.out.2.2 HY.out.2.2 hrs
        have LE := fun (l : Nat) (hl : l < R.length) => HAP.out R[l] (List.getElem_mem hl) R[k] (List.getElem_mem hk')
        rw [eqB_self] at SA
        rw [hsv] at SV
        have HLC : Hid (∀ (l : Nat), l < R.length → ∃ al cl ml, w13.cell? ⟨b1, o1 + l, none⟩ = some (.slice al ml cl) ∧ ∀ W, Below w13.heap.size w13 W → Calls Try.prog 16 #[.slice al ml cl, .slice ai R[k].length ci] W fun e w' => e = .returned (.bool false) ∧ ∃ q, w' = W.drewN q) := fun l hl => by
          obtain ⟨b3, o3, al, cl, e3, c3, r3, _⟩ := RdC.get Z13.rg hl
          cases e3
          have hl10 : R[l].length ≤ 1048577 := by have := (HROW.out R[l] (List.getElem_mem hl)).1; have := HX.out.2.1; have := HY.out.2.1; omega
          refine ⟨al, cl, _, c3, fun W h => ?_⟩
          have := impLeast_any al ai R[l] R[k] R[l].length cl R[k].length ci W rfl rfl (r3.below h) (r1.below h) hl10 (by omega)
          rw [LE l hl] at this
          exact this
        generalize R[k].length = m at c1 c2 p1 p2 SA SV HLC hrl q1
        have hB0 : Below wr.heap.size wr wr := Below.refl _ _
        have HBB : Below w13.heap.size w13 wr := HB.out
        clear hok hsv hrs LE r1 r2 hk
        go_wp2_with fail
        go_region_held3 (fun w' => w'.cell? ⟨b1, o1 + k, none⟩ = some (.slice ai m ci) ∧ w'.cell? ⟨b2, o2 + k, none⟩ = some (.slice aj m cj)) (first | go_keep | exact ⟨p1, p2⟩)
          (first
            | (go_at_call 18; refine (SA _ (HBB.trans (Below.mono (B := wr.heap.size) (by (repeat (first | exact Below.refl _ _ | refine Below.drew ?_ | refine Below.alloc ?_ (by simp) _))) HBB.size))).mono ?_; rintro e w14 ⟨rfl, q14, hq14⟩; have hb : Below wr.heap.size wr w14 := (by rw [hq14]; refine below_drewN ?_ q14; (repeat (first | exact Below.refl _ _ | refine Below.drew ?_ | refine Below.alloc ?_ (by simp) _))); have p1' := keepC hb p1; have p2' := keepC hb p2; clear p1 p2; have p1 := p1'; have p2 := p2'; clear p1' p2'; have hB14 : Below w13.heap.size w13 w14 := HBB.trans (hb.mono HBB.size); clear hb hq14 SA)
            | (go_at_call 14; refine (SV _ (hB14.trans (Below.mono (B := w14.heap.size) (by (repeat (first | exact Below.refl _ _ | refine Below.drew ?_ | refine Below.alloc ?_ (by simp) _))) hB14.size))).mono ?_; rintro e w15 ⟨rfl, hb0⟩; have hb : Below w14.heap.size w14 w15 := below_stepV (by (repeat (first | exact Below.refl _ _ | refine Below.drew ?_ | refine Below.alloc ?_ (by simp) _))) hb0; have p1' := keepC hb p1; have p2' := keepC hb p2; clear p1 p2; have p1 := p1'; have p2 := p2'; clear p1' p2'; have hB15 : Below w13.heap.size w13 w15 := hB14.trans (hb.mono hB14.size); clear hb hb0 SV))
        go_wp2_with fail
        go_loopw [17] (fun j wq => ∃ l : Nat, l ≤ R.length ∧ j = .int .i64 l ∧ Hid (Below w13.heap.size w13 wq)) (fun j _ => R.length - (intOf j).toNat)
        case atStart => exact ⟨0, Nat.zero_le _, rfl, hB15⟩
        case round =>
          obtain ⟨l, hl', rfl, HB2⟩ := hrel
          by_cases hll : l < R.length
          · obtain ⟨al, cl, ml, c3, LEl⟩ := HLC.out l hll
            have hli : (l : Int) < (R.length : Int) := by omega
            have hli0 : (0 : Int) ≤ (l : Int) := by omega
            have r3 := keepC HB2.out c3
            have r4 := keepC HB2.out c1
            have LEn := fun (n : Nat) => LEl (wr.drewN n) (HB2.out.trans (Below.mono (B := wr.heap.size) (below_drewN (Below.refl _ _) n) HB2.out.size))
            have HB3 : Hid (∀ n, Below w13.heap.size w13 (wr.drewN n)) := fun n => HB2.out.trans (Below.mono (B := wr.heap.size) (below_drewN (Below.refl _ _) n) HB2.out.size)
            clear c3 LEl p1 p2 hl'
            go_wp2_with fail
            go_quiet ((go_at_call 16; refine quiet_at0 (LEn _)))
            go_wp2_with fail
            go_roundw
            case rel => exact ⟨l + 1, by omega, by go_num, HB3.out _⟩
            case measure => simp [intOf]; omega
          · have hli : ¬ (l : Int) < (R.length : Int) := by omega
            go_wp2_with fail
            go_roundw
            case rel => exact ⟨k + 1, by omega, by go_num, HB2⟩
            case measure => simp [intOf]; omega
      · have hki : ¬ (k : Int) < (R.length : Int) := by omega
        go_wp2_with fail
        go_loopw [18] (fun i wr => ∃ t : Nat, t ≤ 12 ∧ i = .int .i64 t ∧ Hid (Below w13.heap.size w13 wr)) (fun i _ => 12 - (intOf i).toNat)
        case atStart => exact ⟨0, Nat.zero_le _, rfl, HB⟩
        case round =>
          obtain ⟨t, ht, rfl, HB2⟩ := hrel
          obtain ⟨wo, rfl⟩ : ∃ x, x = wr := ⟨_, rfl⟩
          by_cases htt : t < 12
          · have hti : (t : Int) < 12 := by omega
            have hw0 := Z13.bel.trans (HB2.out.mono Z13.bel.size)
            have AT := fun (j : Nat) (W : World) (h : Below wo.heap.size wo W) (hj : j ≤ 100) => at_any w.heap.size a bs cap (t + j) W hl ((HRB.out.onS hw0).onS h) (by omega)
            have HAV : Hid (∀ j, 0 ≤ atV bs (t + j) ∧ atV bs (t + j) ≤ 255) := fun j => atV_ge bs (t + j) HRB.out.1
            have hxl4 := HX.out.2.1
            have hyl4 := HY.out.2.1
            clear hk hki
            go_wp2_with fail
            go_loopw [19, 20] (fun o j wr => ∃ (V : List Int) (g c : Nat), V.length ≤ xs.length + ys.length ∧ j = .int .i64 V.length ∧ o = .slice (some ⟨g, 0, none⟩) V.length c ∧ Hid (∀ v ∈ V, 0 ≤ v ∧ v ≤ 3) ∧ Hid (wr.ownsRow wo.heap.size 3 1 (.slice (some ⟨g, 0, none⟩) V.length c) V.length (ints V)) ∧ Hid (Below wo.heap.size wo wr)) (fun _ j _ => xs.length + ys.length - (intOf j).toNat)
            case atStart => exact ⟨[], wo.heap.size, 0, Nat.zero_le _, rfl, rfl, fun v hv => by simp at hv, World.ownsRow_made wo #[] 0 (Nat.le_refl _) (Nat.zero_le _) rfl, (Below.refl _ _).alloc (Nat.le_refl _) _⟩
            case round =>
              obtain ⟨V, g, c, hV, rfl, rfl, HVV, HVO, HVB⟩ := hrel
              by_cases hVN : V.length < xs.length + ys.length
              · have hVi : (V.length : Int) < (xs.length : Int) + (ys.length : Int) := by omega
                have A1 := AT V.length wr HVB.out (by omega)
                have hav := HAV.out V.length
                rw [show ((t + V.length : Nat) : Int) = (t : Int) + (V.length : Int) by omega] at A1
                generalize atV bs (t + V.length) = z at A1 hav
                have hzm : 0 ≤ z % 4 ∧ z % 4 ≤ 3 := by omega
                have hgl := HVO.out.lt g rfl
                have hws := HVB.out.size
                go_wp2_with (first
                  | (go_at_call 21; refine A1.mono ?_; rintro e w16 ⟨rfl, hw⟩; subst w16; clear A1)
                  | (at_builtin; refine wpList_append_own _ rfl (.tmp 154) (.tmp 161) 24 rfl wo.heap.size 3 i0 (.int .i64 0) 1 8 Try.underlying24 hi hz0 hz1 hz2 rfl (by decide) _ V.length _ rfl (HVO.out.alloc _) ⟨wr.heap.size, 0, none⟩ 1 1 [.int .i64 (z % 4)] rfl rfl (one_new _ _ _) (one_cell _) (by unfold maxLen; omega) (by omega) (by simp; omega) ?_; intro v' w17 hown3 hgrow3 hnil3; obtain ⟨g3, c3, rfl⟩ := own_some hown3 hnil3; have HO3 : Hid (w17.ownsRow wo.heap.size 3 1 (.slice (some ⟨g3, 0, none⟩) (V.length + 1) c3) (V.length + 1) (ints V ++ [.int .i64 (z % 4)])) := hown3; have HB17 : Hid (Below wo.heap.size wo w17) := (HVB.out.alloc hws _).grown hgrow3 (by simp; omega) (fun x hx => by cases hx; exact hgl.1); clear hnil3 hown3 hgrow3))
                have R1 : Hid (w17.ownsRow wo.heap.size 3 1 (.slice (some ⟨g3, 0, none⟩) (V ++ [z % 4]).length c3) (V ++ [z % 4]).length (ints (V ++ [z % 4]))) := by show World.ownsRow _ _ _ _ _ _ _; rw [List.length_append, List.length_singleton, show ints (V ++ [z % 4]) = ints V ++ [.int .i64 (z % 4)] by simp [ints]]; exact HO3.out
                have R2 : Hid (∀ v ∈ V ++ [z % 4], 0 ≤ v ∧ v ≤ 3) := fun v hv => by rcases List.mem_append.1 hv with h | h; exact HVV.out v h; rw [List.mem_singleton.1 h]; exact hzm
                clear HO3 HVO HVV HVB
                refine ⟨⟨V ++ [z % 4], g3, c3, by simp; omega, by simp, by simp, R2, R1, HB17⟩, by simp [intOf]; omega⟩
              · have hVi : ¬ (V.length : Int) < (xs.length : Int) + (ys.length : Int) := by omega
                have hBq : Below w13.heap.size w13 wr := HB2.out.trans (HVB.out.mono HB2.out.size)
                have RV : Rd wr (some ⟨g, 0, none⟩) V := Rd.own rfl HVO.out
                have hcap := own_capS HVO.out
                have SVV := impSolves_any (some ⟨g1, 0, none⟩) (some ⟨g2, 0, none⟩) (some ⟨g, 0, none⟩) xs ys V k1 k2 c wr (Z13.rx.below hBq) (Z13.ry.below hBq) RV HX.out.1 (by omega) HY.out.1 (by omega) (by omega) hcap HX.out.2.2 HY.out.2.2 (fun v hv => by have := HVV.out v hv; omega)
                have BEN := fun (W : World) (h : Below wr.heap.size wr W) => beneath_any aG (some ⟨g, 0, none⟩) R V cG c W ((Z13.rg.below hBq).below h).rd (RV.below h) (by omega) (fun r hr => by have := (HROW.out r hr).1; omega) (by omega)
                have ZER := fun (W : World) (h : Below wr.heap.size wr W) => zero_any (some ⟨g, 0, none⟩) V c W (RV.below h) (by omega)
                have HZ : Hid (_ → _ → _) := HSZ.out V
                generalize solvB xs ys V = sv at SVV HZ
                generalize benE R V = bv at BEN HZ
                generalize zB V = zv at ZER HZ
                clear RV hV hVN hcap
                cases sv
                · go_wp2_with (go_at_call 14; refine SVV.mono ?_; rintro e w20 ⟨rfl, hb20⟩; have hB20 : Below w13.heap.size w13 w20 := hBq.trans (hb20.mono hBq.size); clear SVV)
                  go_roundw
                  case rel => exact ⟨t + 1, by omega, by go_num, hB20⟩
                  case measure => simp [intOf]; omega
                · cases bv
                  · have hzv : zv = true := HZ.out (by first | exact rfl | trivial) (by first | exact rfl | trivial)
                    subst hzv
                    go_wp2_with (first
                      | (go_at_call 14; refine SVV.mono ?_; rintro e w20 ⟨rfl, hb20⟩; have hB20 : Below w13.heap.size w13 w20 := hBq.trans (hb20.mono hBq.size); clear SVV)
                      | (go_at_call 22; refine (BEN w20 hb20).mono ?_; rintro e w21 ⟨rfl, q21, hq21⟩; have hb21 : Below w20.heap.size w20 w21 := (by rw [hq21]; exact below_drewN (Below.refl _ _) q21); have hB21 : Below w13.heap.size w13 w21 := hB20.trans (hb21.mono hB20.size); have hbb := hb20.trans (hb21.mono hb20.size); clear BEN hq21)
                      | (go_at_call 23; refine (ZER w21 hbb).mono ?_; rintro e w22 ⟨rfl, hw⟩; subst w22; clear ZER))
                    go_roundw
                    case rel => exact ⟨t + 1, by omega, by go_num, hB21⟩
                    case measure => simp [intOf]; omega
                  · go_wp2_with (first
                      | (go_at_call 14; refine SVV.mono ?_; rintro e w20 ⟨rfl, hb20⟩; have hB20 : Below w13.heap.size w13 w20 := hBq.trans (hb20.mono hBq.size); clear SVV)
                      | (go_at_call 22; refine (BEN w20 hb20).mono ?_; rintro e w21 ⟨rfl, q21, hq21⟩; have hb21 : Below w20.heap.size w20 w21 := (by rw [hq21]; exact below_drewN (Below.refl _ _) q21); have hB21 : Below w13.heap.size w13 w21 := hB20.trans (hb21.mono hB20.size); have hbb := hb20.trans (hb21.mono hb20.size); clear BEN hq21))
                    go_roundw
                    case rel => exact ⟨t + 1, by omega, by go_num, hB21⟩
                    case measure => simp [intOf]; omega
          · have hti : ¬ (t : Int) < 12 := by omega
            go_wp2_with fail
            go_ret
            exact ⟨rfl, Z13.bel.trans (HB2.out.mono Z13.bel.size)⟩

set_option maxRecDepth 100000 in
theorem walk (w : World) (a0 : Option Addr) (len0 cap0 : Nat) (bs : List Int) (hn : len0 = bs.length) (hle : len0 ≤ maxLen) (hr : ∀ c, w.heap.size ≤ c → RdB w c a0 bs) :
    Calls Try.prog 3 #[.slice a0 len0 cap0] w fun e w' => e = .returned (.bool true) ∧ Below w.heap.size w w' := by
  subst hn
  by_cases hbig : 1048576 < bs.length
  · have hbig' : (1048576 : Int) < (bs.length : Int) := by omega
    unfold maxLen at hle
    clear hbig hr
    go_enter Try.func3, Try.ntmps3
    go_wp2
    go_ret
    exact ⟨rfl, Below.refl _ _⟩
  · exact small a0 bs cap0 w (by omega) hr

set_option maxRecDepth 100000 in
theorem lifted (os : Os) (started : os.Started) (H : Type) (enc : TypeId × Value → H) :
    ReturnsInHanded {} Try.checked os 3 .any (Rows.fnBasisSpec.pre6 enc Try.prog Try.f3 Rows.fnBasisRow.domain false) (Rows.fnBasisSpec.post enc Try.prog Try.f3 false true false false) := by
  refine returnsInHanded_of_change (C := Try.checked) own started (by kernel_rfl) Try.func3
    (ChangeSpec.witness6 (enc := enc) (C := Try.checked) false ⟨#[], #[.slice none 0 0], []⟩ 8 (by kernel_rfl) (by kernel_rfl) (by kernel_rfl) (by kernel_rfl)) ?_
  intro W base args ds gs before hval0 hW hcnd _
  have hval : ∀ (j : Nat) t v, Try.f3.params[j]? = some t → args[j]? = some v → Value.okWide Try.prog W .any base t v := hval0
  have hW' := hW
  obtain ⟨p, q, hA0, hV, rfl, hfz, hnd⟩ := hW
  have hA : DataW.TrodAll enc Try.prog W 0 (fun _ => true) true Try.f3.params.toList args.toList ds p := hA0
  rw [Try.params3] at hA hval
  obtain ⟨v0, vs0, d0, ds0, p0, q0, hargs, rfl, rfl, h0, r0⟩ := trodAll_cons hA
  obtain ⟨rfl, rfl, rfl⟩ := trodAll_nil r0
  obtain rfl : args = #[v0] := by cases args; simp_all
  obtain ⟨rfl, rfl⟩ := trodVars_none hV
  obtain ⟨a0, len0, cap0, rfl⟩ := okWide_slice Try.underlying22 (hval 0 22 v0 rfl rfl)
  have k0 := h0
  have lt0 : ∀ x ∈ p0, x.block < W.heap.size := by obtain ⟨m, hm⟩ := k0; exact DataW.trod_lt m _ _ _ hm
  obtain ⟨bs0, hn0, hle0, hr0⟩ := open_code rfl h0
  clear hA0 hval0
  refine (walk W a0 len0 cap0 bs0 hn0 hle0 hr0).mono fun e W' ⟨he, bel⟩ => ?_
  subst he
  exact ⟨_, rfl, _, _, _, [], _, [], hW', trodAll_mk1 (shut_bool Try.underlying4 _), (trodAll_cons_mk (Below.trod laidOut (by kernel_rfl) (of_decide_eq_true (by kernel_rfl)) k0 bel lt0) trodAll_mk0), by first | rfl | simp, bel.frame _, fun h => by cases h⟩

theorem over : Rows.fnBasisRow.holds Try.pinned (OpenSpec.ofChange Rows.fnBasisSpec) :=
  OpenClaim.holds_of_wide 3 Try.f3 rfl rfl rfl rfl rfl rfl rfl ⟨rfl, rfl, rfl, rfl, rfl⟩ rfl rfl rfl rfl rfl (by kernel_rfl) Try.func3 (by kernel_rfl)
    (of_decide_eq_true (by kernel_rfl)) (by unfold Func.isWrapper; first | (rw [if_pos (by decide +kernel)]; kernel_rfl) | (rw [if_neg (by decide +kernel)]; exact ⟨rfl, rfl⟩))
    (fun os started H enc _ => lifted os started H enc)

theorem proved : Rows.FnBasisSaid := over
end Go.Proofs.Ythbilahilmmfmaa.fnBasis
namespace Go.Proofs.Ythbilahilmmfmaa
theorem fnBasis_holds : Rows.FnBasisSaid := fnBasis.proved
#print axioms fnBasis_holds
end Go.Proofs.Ythbilahilmmfmaa
