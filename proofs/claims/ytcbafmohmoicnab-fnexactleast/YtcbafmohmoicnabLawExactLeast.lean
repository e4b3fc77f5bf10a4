/- The law FnExactLeast answers true at any two lists of numbers and leaves both as they were: at every argument Least answers as its specification. Conditions: none beyond the given row's own. -/
import Derived.Test.YtcbafmohmoicnabRows
import Derived.Test.YtcbafmohmoicnabIL
import Derived.Test.YtcbafmohmoicnabLst
import Derived.Test.YtcbafmohmoicnabLstA
import Derived.Test.YtcbafmohmoicnabLstB
import Derived.Test.YtcbafmohmoicnabIntLaw
import Derived.WalkKit
import Derived.ProofKit
import Derived.OpenShut
import Derived.ShutString
import Derived.ChangeOld
import Derived.Below
namespace Go.Proofs.Ytcbafmohmoicnab.fnExactLeast
open Go.ChangeShapes Go.WideShapes Go.ChangeAt Go.RowKit
open Go.ChangeMaps (open_string shut_string)
set_option linter.unusedVariables false

theorem own : ownKnob Try.prog.godebug = none := by kernel_rfl
theorem laidOut : laidOutB Try.prog = true := by kernel_rfl

set_option maxHeartbeats 3200000 in
theorem walk_small (w : World) (a0 : Option Addr) (cap0 : Nat) (xs : List Int) (hr0 : Rd w a0 xs) (a1 : Option Addr) (cap1 : Nat) (ys : List Int) (hr1 : Rd w a1 ys) (hl0 : xs.length ≤ 1048576) (hl1 : ys.length ≤ 1048576) :
    Calls Try.prog 5 #[.slice a0 xs.length cap0, .slice a1 ys.length cap1] w fun e w' => e = .returned (.bool true) ∧ Below w.heap.size w w' := by
  have hb0 : ¬ (1048576 : Int) < (xs.length : Int) := by omega
  have hb1 : ¬ (1048576 : Int) < (ys.length : Int) := by omega
  have hm0 : xs.length ≤ 1048577 := by omega
  have hm1 : ys.length ≤ 1048577 := by omega
  have T0 := toInts_any a0 xs _ cap0 w rfl hr0 hm0
  go_enter Try.func5, Try.ntmps5
  go_wp2_with (go_at_call 24; refine T0.mono ?_; rintro e w1 ⟨rfl, ho1, hb1'⟩; have c1 := Rd.own rfl ho1; have B1 := hb1'; clear T0 ho1 hb1')
  go_wp2_with (go_at_call 24; refine (toInts_any a1 ys _ cap1 w1 rfl (hr1.below B1) hm1).mono ?_; rintro e w2 ⟨rfl, ho2, hb2⟩; have c2 := Rd.own rfl ho2; have d1 := c1.below hb2; have B2 := B1.trans (hb2.mono B1.size); clear c1 B1 ho2 hb2)
  go_wp2_with (go_at_call 27; refine (specLeast_any _ _ xs ys _ _ _ _ w2 rfl rfl d1 c2 hm0 hm1).mono ?_; rintro e w3 ⟨rfl, q3, rfl⟩; have B3 := below_drewN B2 q3; clear d1 c2 B2)
  go_wp2_with (go_at_call 24; refine (toInts_any a0 xs _ cap0 _ rfl (hr0.below B3) hm0).mono ?_; rintro e w4 ⟨rfl, ho4, hb4⟩; have c4 := Rd.own rfl ho4; have B4 := B3.trans (hb4.mono B3.size); clear B3 ho4 hb4)
  go_wp2_with (go_at_call 24; refine (toInts_any a1 ys _ cap1 _ rfl (hr1.below B4) hm1).mono ?_; rintro e w5 ⟨rfl, ho5, hb5⟩; have c5 := Rd.own rfl ho5; have d4 := c4.below hb5; have B5 := B4.trans (hb5.mono B4.size); clear c4 B4 ho5 hb5)
  go_wp2_with (go_at_call 28; refine (impLeast_any _ _ xs ys _ _ _ _ w5 rfl rfl d4 c5 hm0 hm1).mono ?_; rintro e w6 ⟨rfl, q6, rfl⟩; have d6 := d4.drewN q6; have e6 := c5.drewN q6; have B6 := below_drewN B5 q6; clear d4 c5 B5)
  generalize leastB xs ys = lb
  cases lb
  all_goals
    go_wp2_with (go_at_call 24; refine (toInts_any a0 xs _ cap0 _ rfl (hr0.below B6) hm0).mono ?_; rintro e w7 ⟨rfl, ho7, hb7⟩; have c7 := Rd.own rfl ho7; have d7 := d6.below hb7; have e7 := e6.below hb7; have B7 := B6.trans (hb7.mono B6.size); clear d6 e6 B6 ho7 hb7)
    go_wp2_with (go_at_call 26; refine (eqInts_any _ _ xs xs _ _ _ _ _ rfl rfl d7 c7 hm0 hm0).mono ?_; rintro e w8 ⟨rfl, q8, rfl⟩; have e8 := e7.drewN q8; have B8 := below_drewN B7 q8; clear d7 c7 e7 B7; rw [eqB_self])
    go_wp2_with (go_at_call 24; refine (toInts_any a1 ys _ cap1 _ rfl (hr1.below B8) hm1).mono ?_; rintro e w9 ⟨rfl, ho9, hb9⟩; have c9 := Rd.own rfl ho9; have e9 := e8.below hb9; have B9 := B8.trans (hb9.mono B8.size); clear e8 B8 ho9 hb9)
    go_wp2_with (go_at_call 26; refine (eqInts_any _ _ ys ys _ _ _ _ _ rfl rfl e9 c9 hm1 hm1).mono ?_; rintro e w10 ⟨rfl, q10, rfl⟩; have B10 := below_drewN B9 q10; clear e9 c9 B9; rw [eqB_self])
    go_ret
    exact ⟨rfl, B10⟩

/-- The law's own walk: it answers true, and nothing that was there is written. -/
theorem walk (w : World) (a0 : Option Addr) (len0 cap0 : Nat) (xs : List Int) (hn0 : len0 = xs.length) (hle0 : len0 ≤ maxLen) (hr0 : Rd w a0 xs) (_hw0 : ∀ x ∈ xs, isW x) (a1 : Option Addr) (len1 cap1 : Nat) (ys : List Int) (hn1 : len1 = ys.length) (hle1 : len1 ≤ maxLen) (hr1 : Rd w a1 ys) (_hw1 : ∀ x ∈ ys, isW x) :
    Calls Try.prog 5 #[.slice a0 len0 cap0, .slice a1 len1 cap1] w fun e w' => e = .returned (.bool true) ∧ Below w.heap.size w w' := by
  subst hn0 hn1
  by_cases h0 : 1048576 < xs.length
  · have hb0 : (1048576 : Int) < (xs.length : Int) := by omega
    clear h0 hr0 hr1 hle0 hle1
    go_enter Try.func5, Try.ntmps5
    go_wp2
    go_ret
    exact ⟨rfl, Below.refl _ _⟩
  · by_cases h1 : 1048576 < ys.length
    · have hb0 : ¬ (1048576 : Int) < (xs.length : Int) := by omega
      have hb1 : (1048576 : Int) < (ys.length : Int) := by omega
      clear h0 h1 hr0 hr1 hle0 hle1
      go_enter Try.func5, Try.ntmps5
      go_wp2
      go_ret
      exact ⟨rfl, Below.refl _ _⟩
    · exact walk_small w a0 cap0 xs hr0 a1 cap1 ys hr1 (by omega) (by omega)

set_option maxRecDepth 100000 in
theorem lifted (os : Os) (started : os.Started) (H : Type) (enc : TypeId × Value → H) :
    ReturnsInHanded {} Try.checked os 5 .any (Rows.fnExactLeastSpec.pre6 enc Try.prog Try.f5 Rows.fnExactLeastRow.domain false) (Rows.fnExactLeastSpec.post enc Try.prog Try.f5 false true false false) := by
  refine returnsInHanded_of_change (C := Try.checked) own started (by kernel_rfl) Try.func5
    (ChangeSpec.witness6 (enc := enc) (C := Try.checked) false ⟨#[], #[.slice none 0 0, .slice none 0 0], []⟩ 8 (by kernel_rfl) (by kernel_rfl) (by kernel_rfl) (by kernel_rfl)) ?_
  intro W base args ds gs before hval0 hW hcnd _
  have hval : ∀ (j : Nat) t v, Try.f5.params[j]? = some t → args[j]? = some v → Value.okWide Try.prog W .any base t v := hval0
  have hW' := hW
  obtain ⟨p, q, hA0, hV, rfl, hfz, hnd⟩ := hW
  have hA : DataW.TrodAll enc Try.prog W 0 (fun _ => true) true Try.f5.params.toList args.toList ds p := hA0
  rw [Try.params5] at hA hval
  obtain ⟨v0, vs0, d0, ds0, p0, q0, hargs, rfl, rfl, h0, r0⟩ := trodAll_cons hA
  obtain ⟨v1, vs1, d1, ds1, p1, q1, rfl, rfl, rfl, h1, r1⟩ := trodAll_cons r0
  obtain ⟨rfl, rfl, rfl⟩ := trodAll_nil r1
  obtain rfl : args = #[v0, v1] := by cases args; simp_all
  obtain ⟨rfl, rfl⟩ := trodVars_none hV
  obtain ⟨a0, len0, cap0, rfl⟩ := okWide_slice Try.underlying46 (hval 0 46 v0 rfl rfl)
  have k0 := h0
  have lt0 : ∀ x ∈ p0, x.block < W.heap.size := by obtain ⟨m, hm⟩ := k0; exact DataW.trod_lt m _ _ _ hm
  obtain ⟨zs0, hn0, hle0, hr0, hw0⟩ := open_introw rfl h0
  obtain ⟨a1, len1, cap1, rfl⟩ := okWide_slice Try.underlying46 (hval 1 46 v1 rfl rfl)
  have k1 := h1
  have lt1 : ∀ x ∈ p1, x.block < W.heap.size := by obtain ⟨m, hm⟩ := k1; exact DataW.trod_lt m _ _ _ hm
  obtain ⟨zs1, hn1, hle1, hr1, hw1⟩ := open_introw rfl h1
  clear hA0 hval0
  refine (walk W a0 len0 cap0 zs0 hn0 hle0 hr0 hw0 a1 len1 cap1 zs1 hn1 hle1 hr1 hw1).mono fun e W' ⟨he, bel⟩ => ?_
  subst he
  exact ⟨_, rfl, _, _, _, [], _, [], hW', trodAll_mk1 (shut_bool Try.underlying4 _), (trodAll_cons_mk (Below.trod laidOut (by kernel_rfl) (of_decide_eq_true (by kernel_rfl)) k0 bel lt0) (trodAll_cons_mk (Below.trod laidOut (by kernel_rfl) (of_decide_eq_true (by kernel_rfl)) k1 bel lt1) trodAll_mk0)), by first | rfl | simp, bel.frame _, fun h => by cases h⟩

theorem over : Rows.fnExactLeastRow.holds Try.pinned (OpenSpec.ofChange Rows.fnExactLeastSpec) :=
  OpenClaim.holds_of_wide 5 Try.f5 rfl rfl rfl rfl rfl rfl rfl ⟨rfl, rfl, rfl, rfl, rfl⟩ rfl rfl rfl rfl rfl (by kernel_rfl) Try.func5 (by kernel_rfl)
    (of_decide_eq_true (by kernel_rfl)) (by unfold Func.isWrapper; first | (rw [if_pos (by decide +kernel)]; kernel_rfl) | (rw [if_neg (by decide +kernel)]; exact ⟨rfl, rfl⟩))
    (fun os started H enc _ => lifted os started H enc)

theorem proved : Rows.FnExactLeastSaid := over
end Go.Proofs.Ytcbafmohmoicnab.fnExactLeast
namespace Go.Proofs.Ytcbafmohmoicnab
theorem fnExactLeast_holds : Rows.FnExactLeastSaid := fnExactLeast.proved
#print axioms fnExactLeast_holds
end Go.Proofs.Ytcbafmohmoicnab
