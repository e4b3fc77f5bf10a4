/- The law FnExactBasis answers true at any two lists of numbers and leaves both as they were: at every argument Basis answers as its specification, writes into no argument, and its answer owns its memory. Conditions: none beyond the given row's own. -/
import Derived.Test.YthbilahilmmfmaaRows
import Derived.Test.YthbilahilmmfmaaPackExactBasis8
import Derived.WalkKit
import Derived.ProofKit
import Derived.OpenShut
import Derived.ShutString
import Derived.ChangeOld
import Derived.Below
namespace Go.Proofs.Ythbilahilmmfmaa.fnExactBasis
open Go.ChangeShapes Go.WideShapes Go.ChangeAt Go.RowKit
open Go.ChangeMaps (open_string shut_string)
set_option linter.unusedVariables false

theorem own : ownKnob Try.prog.godebug = none := by kernel_rfl
theorem laidOut : laidOutB Try.prog = true := by kernel_rfl

theorem basP_le (a b : List Int) : (basP a b).1.length ≤ 60 ∧ ∀ r ∈ (basP a b).1, r.length ≤ 10 := by
  unfold basP
  split
  · rename_i h
    simp only [Bool.and_eq_true] at h
    split
    · exact ⟨by simp, fun r hr => by simp at hr⟩
    · refine ⟨?_, fun r hr => (solL_le a b h.1 h.2).2 r (List.mem_filter.1 (show r ∈ (solL a b).filter (minB (solL a b)) from hr)).1⟩
      show (basL a b).length ≤ 60
      omega
  · exact ⟨by simp, fun r hr => by simp at hr⟩
theorem sumQ_ten : ∀ (R : List (List Int)), (∀ r ∈ R, r.length ≤ 10) → sumQ R ≤ R.length * 10
  | [], _ => by simp [sumQ]
  | r :: R, h => by
    have ih := sumQ_ten R (fun x hx => h x (by simp [hx]))
    have := h r (by simp)
    unfold sumQ at *
    simp only [List.map_cons, List.sum_cons, List.length_cons]
    omega
set_option maxHeartbeats 6400000 in
set_option maxRecDepth 100000 in
theorem walk_small (HS : SolsSeq) (w : World) (a0 : Option Addr) (cap0 : Nat) (xs : List Int) (hr0 : Rd w a0 xs) (a1 : Option Addr) (cap1 : Nat) (ys : List Int) (hr1 : Rd w a1 ys) (hl0 : xs.length ≤ 1048576) (hl1 : ys.length ≤ 1048576) :
    Calls Try.prog 6 #[.slice a0 xs.length cap0, .slice a1 ys.length cap1] w fun e w' => e = .returned (.bool true) ∧ Below w.heap.size w w' := by
  have hb0 : ¬ (1048576 : Int) < (xs.length : Int) := by omega
  have hb1 : ¬ (1048576 : Int) < (ys.length : Int) := by omega
  have hm0 : xs.length ≤ 1048577 := by omega
  have hm1 : ys.length ≤ 1048577 := by omega
  have T0 := toInts_any a0 xs _ cap0 w rfl hr0 hm0
  obtain ⟨hR60, hR10⟩ := basP_le xs ys
  have hsq := sumQ_ten _ hR10
  have CS := fun (p q : Option Addr) (c d : Nat) (W : World) (h : Rd W p xs) (h' : Rd W q ys) => specBasis_any p q xs ys c d W h h' hm0 hm1
  have CI := fun (p q : Option Addr) (c d : Nat) (W : World) (h : Rd W p xs) (h' : Rd W q ys) => basis_any HS p q xs ys c d W h h' hm0 hm1
  generalize basP xs ys = PR at CS CI hR60 hR10 hsq
  obtain ⟨R, u⟩ := PR
  simp only at CS CI hR60 hR10 hsq
  have hRl : R.length ≤ 1048577 := by omega
  have HR2 : Hid (∀ r ∈ R, r.length ≤ 1048577) := fun r hr => by have := hR10 r hr; omega
  have hRs : R.length + sumQ R ≤ 1048577 := by omega
  have hu : (u != u) = false := by cases u <;> rfl
  clear hR10 HS
  go_enter Try.func6, Try.ntmps6
  go_wp2_with (go_at_call 32; refine T0.mono ?_; rintro e w1 ⟨rfl, ho1, hb1'⟩; have c1 := Rd.own rfl ho1; have B1 := hb1'; clear T0 ho1 hb1')
  go_wp2_with (go_at_call_of 32 a1; refine (toInts_any a1 ys _ cap1 w1 rfl (hr1.below B1) hm1).mono ?_; rintro e w2 ⟨rfl, ho2, hb2⟩; have c2 := Rd.own rfl ho2; have d1 := c1.below hb2; have B2 := B1.trans (hb2.mono B1.size); clear c1 B1 ho2 hb2)
  go_wp2_with (go_at_call 10; refine (CS _ _ _ _ w2 d1 c2).mono ?_; rintro e w3 ⟨aW, cW, rfl, hW, hb3⟩; have B3 := B2.trans (hb3.mono B2.size); have HW : Hid (RdQ w3 aW R) := hW; clear d1 c2 B2 hb3 hW CS)
  go_wp2_with (go_at_call_of 32 a0; refine (toInts_any a0 xs _ cap0 w3 rfl (hr0.below B3) hm0).mono ?_; rintro e w4 ⟨rfl, ho4, hb4⟩; have c4 := Rd.own rfl ho4; have B4 := B3.trans (hb4.mono B3.size); have H4 : Hid (w4.ownsRow w3.heap.size 3 1 (.slice (some ⟨w3.heap.size, 0, none⟩) xs.length xs.length) xs.length (ints xs) ∧ Below w3.heap.size w3 w4) := ⟨ho4, hb4⟩; clear ho4 hb4)
  go_wp2_with (go_at_call_of 32 a1; refine (toInts_any a1 ys _ cap1 w4 rfl (hr1.below B4) hm1).mono ?_; rintro e w5 ⟨rfl, ho5, hb5⟩; have c5 := Rd.own rfl ho5; have d4 := c4.below hb5; have H5 : Hid (w5.ownsRow w4.heap.size 3 1 (.slice (some ⟨w4.heap.size, 0, none⟩) ys.length ys.length) ys.length (ints ys) ∧ Below w4.heap.size w4 w5) := ⟨ho5, hb5⟩; clear ho5 hb5 c4)
  go_wp2_with (go_at_call 9; refine (CI _ _ _ _ w5 d4 c5).mono ?_; rintro e w6 ⟨aG, cG, rfl, hG, hb6⟩; have Z6 := ZA.start B3 HW.out H4.out.1 H4.out.2 H5.out.1 H5.out.2 hG hb6; clear hG hb6 d4 c5 H4 H5 HW B3 B4)
  go_wp2_with (go_at_call 33; refine (eqIntss_same _ _ R _ _ w6 Z6.b.c.rG Z6.b.c.rW hRl HR2.out).mono ?_; rintro e w7 ⟨rfl, b7⟩; have Z7 := Z6.on b7; clear Z6 b7)
  go_wp2_with (go_at_call_of 32 a0; refine (toInts_any a0 xs _ cap0 w7 rfl (hr0.below Z7.bel) hm0).mono ?_; rintro e w8 ⟨rfl, ho8, hb8⟩; have c8 := Rd.own rfl ho8; have Z8 := Z7.on (hb8.mono (Nat.le_refl _)); clear ho8 hb8 Z7)
  go_wp2_with (go_at_call 34; refine (eqInts_any _ _ xs xs _ _ _ _ w8 rfl rfl Z8.r0 c8 hm0 hm0).mono ?_; rintro e w9 ⟨rfl, q9, rfl⟩; have Z9 := Z8.on (below_drewN (Below.refl _ _) q9); clear Z8 c8; rw [eqB_self])
  go_wp2_with (go_at_call_of 32 a1; refine (toInts_any a1 ys _ cap1 _ rfl (hr1.below Z9.bel) hm1).mono ?_; rintro e w10 ⟨rfl, ho10, hb10⟩; have c10 := Rd.own rfl ho10; have Z10 := Z9.on (hb10.mono (Nat.le_refl _)); clear ho10 hb10 Z9)
  go_wp2_with (go_at_call 34; refine (eqInts_any _ _ ys ys _ _ _ _ w10 rfl rfl Z10.r1 c10 hm1 hm1).mono ?_; rintro e w11 ⟨rfl, q11, rfl⟩; have Z11 := Z10.on (below_drewN (Below.refl _ _) q11); clear Z10 c10; rw [eqB_self])
  go_wp2_with (go_at_call_of 35 xs; refine (mark_own _ _ xs 1 _ _ _ rfl Z11.o0 hm0 (by omega) (by omega)).mono ?_; rintro e w12 ⟨rfl, _, hg12⟩; have Z12 := Z11.mark hg12; clear Z11 hg12)
  go_wp2_with (go_at_call_of 35 ys; refine (mark_own _ _ ys (1 + (xs.length : Int)) _ _ _ rfl Z12.o1 hm1 (by omega) (by omega)).mono ?_; rintro e w13 ⟨rfl, _, hg13⟩; have Z13 := Z12.mark hg13; clear Z12 hg13)
  have hk13 : ¬ (1 + (xs.length : Int) + (ys.length : Int)) < 0 := by omega
  go_wp2_with (go_at_call 33; refine (eqIntss_same _ _ R _ _ w13 Z13.rG Z13.rW hRl HR2.out).mono ?_; rintro e w14 ⟨rfl, b14⟩; have Z14 := Z13.on b14; clear Z13 b14)
  obtain ⟨gs, hgo, hgr⟩ := Z14.g.own
  have MR := markRows_any _ _ aG gs R cG 1 w14 hgo hgr hRs (by omega) (by omega)
  have MZ : Hid (∀ W', Stay (fun x => x ∉ gs.map Prod.fst) w14 W' → Marked 1 w5.heap.size W' gs R R.length → ZD w w3 w5.heap.size R gs aW aG cG W') := fun W' h1 h2 => Z14.mark hgo hgr h1 h2
  clear hgo hgr Z14
  go_wp2_with (go_at_call 36; refine MR.mono ?_; rintro e w15 ⟨rfl, hs15, hm15⟩; have Z15 := MZ.out w15 hs15 hm15; clear MR MZ hs15 hm15)
  have hm15 : ¬ (1 + (sumQ R : Int)) < 0 := by omega
  go_wp2_with (go_at_call 37; refine (heldRows_any _ _ gs R _ 1 w15 Z15.len Z15.own Z15.m hRs (by omega) (by omega)).mono ?_; rintro e w16 ⟨rfl, hw⟩; subst w16)
  go_wp2_with (go_at_call_of 32 a0; refine (toInts_any a0 xs _ cap0 w15 rfl (hr0.below Z15.bel) hm0).mono ?_; rintro e w17 ⟨rfl, ho17, hb17⟩; have c17 := Rd.own rfl ho17; have Z17 := Z15.on (hb17.mono (Nat.le_refl _)); clear ho17 hb17 Z15)
  go_wp2_with (go_at_call_of 32 a1; refine (toInts_any a1 ys _ cap1 w17 rfl (hr1.below Z17.bel) hm1).mono ?_; rintro e w18 ⟨rfl, ho18, hb18⟩; have c18 := Rd.own rfl ho18; have d17 := c17.below hb18; have Z18 := Z17.on (hb18.mono (Nat.le_refl _)); clear ho18 hb18 Z17 c17)
  go_wp2_with (go_at_call 9; refine (CI _ _ _ _ w18 d17 c18).mono ?_; rintro e w19 ⟨aH, cH, rfl, hH, hb19⟩; have r19 := hH.rd; have Z19 := Z18.on (hb19.mono (Nat.le_refl _)); clear hH hb19 d17 c18 Z18)
  go_wp2_with (go_at_call 33; refine (eqIntss_same _ _ R _ _ w19 r19 Z19.rW hRl HR2.out).mono ?_; rintro e w20 ⟨rfl, b20⟩; have Z20 := Z19.on b20; clear Z19 b20 r19)
  go_wp2_with (go_at_call 37; refine (heldRows_any _ _ gs R _ 1 w20 Z20.len Z20.own Z20.m hRs (by omega) (by omega)).mono ?_; rintro e w21 ⟨rfl, hw⟩; subst w21)
  go_ret
  exact ⟨rfl, Z20.bel⟩
theorem walk (w : World) (a0 : Option Addr) (len0 cap0 : Nat) (xs : List Int) (hn0 : len0 = xs.length) (hle0 : len0 ≤ maxLen) (hr0 : Rd w a0 xs) (_hw0 : ∀ x ∈ xs, isW x) (a1 : Option Addr) (len1 cap1 : Nat) (ys : List Int) (hn1 : len1 = ys.length) (hle1 : len1 ≤ maxLen) (hr1 : Rd w a1 ys) (_hw1 : ∀ x ∈ ys, isW x) :
    Calls Try.prog 6 #[.slice a0 len0 cap0, .slice a1 len1 cap1] w fun e w' => e = .returned (.bool true) ∧ Below w.heap.size w w' := by
  subst hn0 hn1
  by_cases h0 : 1048576 < xs.length
  · have hb0 : (1048576 : Int) < (xs.length : Int) := by omega
    clear h0 hr0 hr1 hle0 hle1
    go_enter Try.func6, Try.ntmps6
    go_wp2
    go_ret
    exact ⟨rfl, Below.refl _ _⟩
  · by_cases h1 : 1048576 < ys.length
    · have hb0 : ¬ (1048576 : Int) < (xs.length : Int) := by omega
      have hb1 : (1048576 : Int) < (ys.length : Int) := by omega
      clear h0 h1 hr0 hr1 hle0 hle1
      go_enter Try.func6, Try.ntmps6
      go_wp2
      go_ret
      exact ⟨rfl, Below.refl _ _⟩
    · exact walk_small (fun w a b a0 a1 c0 c1 B1 B2 ha hb Kp k1 k2 kl b1 b2 ra rb => sols_seq w a b a0 a1 c0 c1 B1 B2 ha hb Kp k1 k2 kl b1 b2 ra rb) w a0 cap0 xs hr0 a1 cap1 ys hr1 (by omega) (by omega)

set_option maxRecDepth 100000 in
theorem lifted (os : Os) (started : os.Started) (H : Type) (enc : TypeId × Value → H) :
    ReturnsInHanded {} Try.checked os 6 .any (Rows.fnExactBasisSpec.pre6 enc Try.prog Try.f6 Rows.fnExactBasisRow.domain false) (Rows.fnExactBasisSpec.post enc Try.prog Try.f6 false true false false) := by
  refine returnsInHanded_of_change (C := Try.checked) own started (by kernel_rfl) Try.func6
    (ChangeSpec.witness6 (enc := enc) (C := Try.checked) false ⟨#[], #[.slice none 0 0, .slice none 0 0], []⟩ 8 (by kernel_rfl) (by kernel_rfl) (by kernel_rfl) (by kernel_rfl)) ?_
  intro W base args ds gs before hval0 hW hcnd _
  have hval : ∀ (j : Nat) t v, Try.f6.params[j]? = some t → args[j]? = some v → Value.okWide Try.prog W .any base t v := hval0
  have hW' := hW
  obtain ⟨p, q, hA0, hV, rfl, hfz, hnd⟩ := hW
  have hA : DataW.TrodAll enc Try.prog W 0 (fun _ => true) true Try.f6.params.toList args.toList ds p := hA0
  rw [Try.params6] at hA hval
  obtain ⟨v0, vs0, d0, ds0, p0, q0, hargs, rfl, rfl, h0, r0⟩ := trodAll_cons hA
  obtain ⟨v1, vs1, d1, ds1, p1, q1, rfl, rfl, rfl, h1, r1⟩ := trodAll_cons r0
  obtain ⟨rfl, rfl, rfl⟩ := trodAll_nil r1
  obtain rfl : args = #[v0, v1] := by cases args; simp_all
  obtain ⟨rfl, rfl⟩ := trodVars_none hV
  obtain ⟨a0, len0, cap0, rfl⟩ := okWide_slice Try.underlying24 (hval 0 24 v0 rfl rfl)
  have k0 := h0
  have lt0 : ∀ x ∈ p0, x.block < W.heap.size := by obtain ⟨m, hm⟩ := k0; exact DataW.trod_lt m _ _ _ hm
  obtain ⟨zs0, hn0, hle0, hr0, hw0⟩ := open_introw rfl h0
  obtain ⟨a1, len1, cap1, rfl⟩ := okWide_slice Try.underlying24 (hval 1 24 v1 rfl rfl)
  have k1 := h1
  have lt1 : ∀ x ∈ p1, x.block < W.heap.size := by obtain ⟨m, hm⟩ := k1; exact DataW.trod_lt m _ _ _ hm
  obtain ⟨zs1, hn1, hle1, hr1, hw1⟩ := open_introw rfl h1
  clear hA0 hval0
  refine (walk W a0 len0 cap0 zs0 hn0 hle0 hr0 hw0 a1 len1 cap1 zs1 hn1 hle1 hr1 hw1).mono fun e W' ⟨he, bel⟩ => ?_
  subst he
  exact ⟨_, rfl, _, _, _, [], _, [], hW', trodAll_mk1 (shut_bool Try.underlying4 _), (trodAll_cons_mk (Below.trod laidOut (by kernel_rfl) (of_decide_eq_true (by kernel_rfl)) k0 bel lt0) (trodAll_cons_mk (Below.trod laidOut (by kernel_rfl) (of_decide_eq_true (by kernel_rfl)) k1 bel lt1) trodAll_mk0)), by first | rfl | simp, bel.frame _, fun h => by cases h⟩

theorem over : Rows.fnExactBasisRow.holds Try.pinned (OpenSpec.ofChange Rows.fnExactBasisSpec) :=
  OpenClaim.holds_of_wide 6 Try.f6 rfl rfl rfl rfl rfl rfl rfl ⟨rfl, rfl, rfl, rfl, rfl⟩ rfl rfl rfl rfl rfl (by kernel_rfl) Try.func6 (by kernel_rfl)
    (of_decide_eq_true (by kernel_rfl)) (by unfold Func.isWrapper; first | (rw [if_pos (by decide +kernel)]; kernel_rfl) | (rw [if_neg (by decide +kernel)]; exact ⟨rfl, rfl⟩))
    (fun os started H enc _ => lifted os started H enc)

theorem proved : Rows.FnExactBasisSaid := over
end Go.Proofs.Ythbilahilmmfmaa.fnExactBasis
namespace Go.Proofs.Ythbilahilmmfmaa
theorem fnExactBasis_holds : Rows.FnExactBasisSaid := fnExactBasis.proved
#print axioms fnExactBasis_holds
end Go.Proofs.Ythbilahilmmfmaa
