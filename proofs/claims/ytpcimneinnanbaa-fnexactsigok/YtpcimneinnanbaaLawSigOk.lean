/- The law FnExactSigOk answers true at every list of functions and leaves it as it was: at every argument SigOk answers as its specification. Conditions: none beyond the given row's own. -/
import Derived.Test.YtpcimneinnanbaaRows
import Derived.Test.YtpcimneinnanbaaSymSpec
import Derived.Test.YtpcimneinnanbaaSymLaw
import Derived.Test.YtpcimneinnanbaaSymOpen
import Derived.Test.YtpcimneinnanbaaImpSig2
import Derived.WalkKit
import Derived.ProofKit
import Derived.OpenShut
import Derived.ShutString
import Derived.ChangeOld
import Derived.Below
namespace Go.Proofs.Ytpcimneinnanbaa.fnExactSigOk
open Go.ChangeShapes Go.WideShapes Go.ChangeAt Go.RowKit
open Go.ChangeMaps (open_string shut_string)
set_option linter.unusedVariables false

theorem own : ownKnob Try.prog.godebug = none := by kernel_rfl
theorem laidOut : laidOutB Try.prog = true := by kernel_rfl

theorem size_le {ss : List SymD} {s : SymD} (h : s ∈ ss) : s.name.size ≤ bytesOf ss := by
  induction ss with
  | nil => simp at h
  | cons t ss ih =>
    simp only [bytesOf, List.map_cons, List.sum_cons] at *
    rcases List.mem_cons.1 h with rfl | h
    · omega
    · have := ih h; omega

set_option maxHeartbeats 1600000 in
/-- The law's own walk: it answers true, and nothing that was there is written. -/
theorem walk (w : World) (a0 : Option Addr) (len0 cap0 : Nat) (ss : List SymD) (hn : len0 = ss.length) (hle : len0 ≤ maxLen) (hr : RdS w a0 ss) (hall : ∀ s ∈ ss, s.name.size ≤ maxLen ∧ (Lit.int .i64 s.ar).wf = true) :
    Calls Try.prog 4 #[.slice a0 len0 cap0] w fun e w' => e = .returned (.bool true) ∧ Below w.heap.size w w' := by
  have hsz : ∀ s ∈ ss, s.name.size ≤ maxLen := fun s hs => (hall s hs).1
  have SZ := szSyms_any a0 ss len0 cap0 1048576 w hn hr (by unfold maxLen at hle; omega) (by omega) (by omega) (fun s hs => by have := hsz s hs; unfold maxLen at this; omega)
  unfold maxLen at hle
  subst hn
  go_enter Try.func4, Try.ntmps4
  go_wp2_with (go_at_call 10; refine SZ.mono ?_; rintro e w1 ⟨r, rfl, hsm, hb1⟩; have hr1 := hr.below hb1; clear SZ hr)
  · go_ret
    exact ⟨rfl, hb1⟩
  · have hsum := hsm (by omega)
    have hl : ss.length ≤ 1048577 := by omega
    have hnm : ∀ s ∈ ss, s.name.size ≤ 1048576 := fun s hs => by have := size_le hs; omega

    clear hsm hsum
    go_wp2_with (go_at_call 12; refine (toSyms_any a0 ss _ cap0 _ rfl hr1 hl).mono ?_; rintro e w2 ⟨rfl, hown2, hb2⟩; have hc2 := RdS.own rfl hown2; have hr2 := hr1.below hb2; have hB2 := hb1.trans (hb2.mono hb1.size); clear hown2 hb2 hb1 hr1)
    go_wp2_with (go_at_call 11; refine (specSigOk_any _ ss _ _ _ rfl hc2 hl hnm).mono ?_; rintro e w' ⟨rfl, hw⟩; subst w'; clear hc2)
    go_wp2_with (go_at_call 12; refine (toSyms_any a0 ss _ cap0 _ rfl hr2 hl).mono ?_; rintro e w3 ⟨rfl, hown3, hb3⟩; have hc3 := RdS.own rfl hown3; have hr3 := hr2.below hb3; have hB3 := hB2.trans (hb3.mono hB2.size); clear hown3 hb3 hB2 hr2)
    go_wp2_with (go_at_call 13; refine (impSigOk_any _ ss _ _ _ rfl hc3 hsz).mono ?_; rintro e w4 ⟨rfl, hb4⟩; have hc4 := hc3.below hb4; have hr4 := hr3.below hb4; have hB4 := hB3.trans (hb4.mono hB3.size); clear hc3 hr3 hB3 hb4)
    go_wp2_with (go_at_call 12; refine (toSyms_any a0 ss _ cap0 _ rfl hr4 hl).mono ?_; rintro e w5 ⟨rfl, hown5, hb5⟩; have hc5 := RdS.own rfl hown5; have hd5 := hc4.below hb5; have hB5 := hB4.trans (hb5.mono hB4.size); clear hown5 hb5 hB4 hr4 hc4)
    go_wp2_with (go_at_call 14; refine (eqSyms_same _ _ ss _ _ _ _ _ rfl rfl hd5 hc5 hl).mono ?_; rintro e w6 ⟨rfl, hb6⟩)
    go_ret
    exact ⟨rfl, hB5.trans (hb6.mono hB5.size)⟩

set_option maxRecDepth 100000 in
theorem lifted (os : Os) (started : os.Started) (H : Type) (enc : TypeId × Value → H) :
    ReturnsInHanded {} Try.checked os 4 .any (Rows.fnExactSigOkSpec.pre6 enc Try.prog Try.f4 Rows.fnExactSigOkRow.domain false) (Rows.fnExactSigOkSpec.post enc Try.prog Try.f4 false true false false) := by
  refine returnsInHanded_of_change (C := Try.checked) own started (by kernel_rfl) Try.func4
    (ChangeSpec.witness6 (enc := enc) (C := Try.checked) false ⟨#[], #[.slice none 0 0], []⟩ 8 (by kernel_rfl) (by kernel_rfl) (by kernel_rfl) (by kernel_rfl)) ?_
  intro W base args ds gs before hval0 hW hcnd _
  have hval : ∀ (j : Nat) t v, Try.f4.params[j]? = some t → args[j]? = some v → Value.okWide Try.prog W .any base t v := hval0
  have hW' := hW
  obtain ⟨p, q, hA0, hV, rfl, hfz, hnd⟩ := hW
  have hA : DataW.TrodAll enc Try.prog W 0 (fun _ => true) true Try.f4.params.toList args.toList ds p := hA0
  rw [Try.params4] at hA hval
  obtain ⟨v0, vs0, d0, ds0, p0, q0, hargs, rfl, rfl, h0, r0⟩ := trodAll_cons hA
  obtain ⟨rfl, rfl, rfl⟩ := trodAll_nil r0
  obtain rfl : args = #[v0] := by cases args; simp_all
  obtain ⟨rfl, rfl⟩ := trodVars_none hV
  obtain ⟨a0, len0, cap0, rfl⟩ := okWide_slice Try.underlying23 (hval 0 23 v0 rfl rfl)
  have k0 := h0
  have lt0 : ∀ x ∈ p0, x.block < W.heap.size := by obtain ⟨m, hm⟩ := k0; exact DataW.trod_lt m _ _ _ hm
  obtain ⟨ss0, hn0, hle0, hr0, hall0⟩ := open_syms rfl h0
  clear hA0 hval0
  refine (walk W a0 len0 cap0 ss0 hn0 hle0 hr0 hall0).mono fun e W' ⟨he, bel⟩ => ?_
  subst he
  exact ⟨_, rfl, _, _, _, [], _, [], hW', trodAll_mk1 (shut_bool Try.underlying4 _), (trodAll_cons_mk (Below.trod laidOut (by kernel_rfl) (of_decide_eq_true (by kernel_rfl)) k0 bel lt0) trodAll_mk0), by first | rfl | simp, bel.frame _, fun h => by cases h⟩

theorem over : Rows.fnExactSigOkRow.holds Try.pinned (OpenSpec.ofChange Rows.fnExactSigOkSpec) :=
  OpenClaim.holds_of_wide 4 Try.f4 rfl rfl rfl rfl rfl rfl rfl ⟨rfl, rfl, rfl, rfl, rfl⟩ rfl rfl rfl rfl rfl (by kernel_rfl) Try.func4 (by kernel_rfl)
    (of_decide_eq_true (by kernel_rfl)) (by unfold Func.isWrapper; first | (rw [if_pos (by decide +kernel)]; kernel_rfl) | (rw [if_neg (by decide +kernel)]; exact ⟨rfl, rfl⟩))
    (fun os started H enc _ => lifted os started H enc)

theorem proved : Rows.FnExactSigOkSaid := over
end Go.Proofs.Ytpcimneinnanbaa.fnExactSigOk
namespace Go.Proofs.Ytpcimneinnanbaa
theorem fnExactSigOk_holds : Rows.FnExactSigOkSaid := fnExactSigOk.proved
#print axioms fnExactSigOk_holds
end Go.Proofs.Ytpcimneinnanbaa
