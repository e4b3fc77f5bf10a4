/- The law FnExactNumIn answers true at every list of numbers and every number, and leaves both as they were: at every argument NumIn answers as its specification. Conditions: none beyond the given row's own. -/
import Derived.Test.YtefmmcdhpepmaaaRows
import Derived.Test.YtefmmcdhpepmaaaKit
import Derived.WalkKit
import Derived.ProofKit
import Derived.OpenShut
import Derived.ShutString
import Derived.ChangeOld
import Derived.Below
namespace Go.Proofs.Ytefmmcdhpepmaaa.fnExactNumIn
open Go.ChangeShapes Go.WideShapes Go.ChangeAt Go.RowKit
open Go.ChangeMaps (open_string shut_string)
set_option linter.unusedVariables false

theorem own : ownKnob Try.prog.godebug = none := by kernel_rfl
theorem laidOut : laidOutB Try.prog = true := by kernel_rfl

/-- The law's own walk: it answers true, and nothing that was there is written. -/
theorem walk (a0 : Option Addr) (len0 cap0 : Nat) (z0 : List Int) (a1 : Int) (w : World) (w0 : IsRow .i64 w a0 len0 cap0 z0) (w1 : (Lit.int .i64 a1).wf = true) :
    Calls Try.prog 3 #[.slice a0 len0 cap0, .int .i64 a1] w fun e w' => e = .returned (.bool true) ∧ Below w.heap.size w w' := by
  obtain ⟨hrd, hlen, hle⟩ := rd_of w0
  clear w0
  by_cases hbig : 1048576 < len0
  · have hbig' : (1048576 : Int) < (len0 : Int) := by omega
    clear hbig hrd hlen
    unfold maxLen at hle
    go_enter Try.func3, Try.ntmps3
    go_wp2
    go_ret
    exact ⟨rfl, Below.refl _ _⟩
  · generalize hzs : z0.take len0 = zs at hrd hlen
    clear hzs
    subst hlen
    have hbig' : ¬ (1048576 : Int) < (zs.length : Int) := by omega
    have hl : zs.length ≤ 1048577 := by omega
    have T1 := toInts_any a0 zs _ cap0 w rfl hrd hl
    go_enter Try.func3, Try.ntmps3
    go_wp2_with (go_at_call 6; refine T1.mono ?_; rintro e w1 ⟨rfl, hown1, hb1⟩; clear T1; have hr1 := Rd.own rfl hown1; have hra := hrd.below hb1; clear hrd hown1)
    go_wp2_with (go_at_call 5; refine (specNumIn_any _ zs _ _ _ _ rfl hr1 hl).mono ?_; rintro e w' ⟨rfl, rfl⟩)
    go_wp2_with (go_at_call 6; refine (toInts_any a0 zs _ cap0 _ rfl hra hl).mono ?_; rintro e w2 ⟨rfl, hown2, hb2⟩; have hr2 := Rd.own rfl hown2; have hrb := hra.below hb2; have hB : Below w.heap.size w w2 := hb1.trans (hb2.mono hb1.size); clear hr1 hra hown2 hb1 hb2)
    go_wp2_with (go_at_call 7; refine (implNumIn_any _ zs _ _ _ _ rfl hr2 hl).mono ?_; rintro e w' ⟨rfl, rfl⟩)
    go_wp2_with (go_at_call 6; refine (toInts_any a0 zs _ cap0 _ rfl hrb hl).mono ?_; rintro e w3 ⟨rfl, hown3, hb3⟩; have hr3 := Rd.own rfl hown3; have hr2' := hr2.below hb3; have hB3 := hB.trans (hb3.mono hB.size); clear hr2 hrb hown3 hb3 hB)
    go_wp2_with (go_at_call 8; refine (eqInts_any _ _ zs zs _ _ _ _ _ rfl rfl hr2' hr3 hl hl).mono ?_; rintro e w4 ⟨rfl, q, rfl⟩; rw [eqB_self])
    go_ret
    exact ⟨rfl, below_drewN hB3 q⟩

set_option maxRecDepth 100000 in
theorem lifted (os : Os) (started : os.Started) (H : Type) (enc : TypeId × Value → H) :
    ReturnsInHanded {} Try.checked os 3 .any (Rows.fnExactNumInSpec.pre6 enc Try.prog Try.f3 Rows.fnExactNumInRow.domain false) (Rows.fnExactNumInSpec.post enc Try.prog Try.f3 false true false false) := by
  refine returnsInHanded_of_change (C := Try.checked) own started (by kernel_rfl) Try.func3
    (ChangeSpec.witness6 (enc := enc) (C := Try.checked) false ⟨#[], #[.slice none 0 0, .int .i64 0], []⟩ 8 (by kernel_rfl) (by kernel_rfl) (by kernel_rfl) (by kernel_rfl)) ?_
  intro W base args ds gs before hval0 hW hcnd _
  have hval : ∀ (j : Nat) t v, Try.f3.params[j]? = some t → args[j]? = some v → Value.okWide Try.prog W .any base t v := hval0
  have hW' := hW
  obtain ⟨p, q, hA0, hV, rfl, hfz, hnd⟩ := hW
  have hA : DataW.TrodAll enc Try.prog W 0 (fun _ => true) true Try.f3.params.toList args.toList ds p := hA0
  rw [Try.params3] at hA hval
  obtain ⟨v0, vs0, d0, ds0, p0, q0, hargs, rfl, rfl, h0, r0⟩ := trodAll_cons hA
  obtain ⟨v1, vs1, d1, ds1, p1, q1, rfl, rfl, rfl, h1, r1⟩ := trodAll_cons r0
  obtain ⟨rfl, rfl, rfl⟩ := trodAll_nil r1
  obtain rfl : args = #[v0, v1] := by cases args; simp_all
  obtain ⟨rfl, rfl⟩ := trodVars_none hV
  obtain ⟨a0, len0, cap0, rfl⟩ := okWide_slice Try.underlying22 (hval 0 22 v0 rfl rfl)
  have k0 := h0
  have lt0 : ∀ x ∈ p0, x.block < W.heap.size := by obtain ⟨m, hm⟩ := k0; exact DataW.trod_lt m _ _ _ hm
  obtain ⟨z0, w0⟩ : ∃ zs, IsRow .i64 W a0 len0 cap0 zs := by
    obtain ⟨fuel, hf⟩ := h0
    rcases open_ints Try.underlying22 Try.underlying3 (by kernel_rfl) hf with ⟨hcs, _⟩ | ⟨x, l, c, zs, hcs, _, hl, hm, hz, _, hcell, hwz⟩
    · simp [Value.cells] at hcs
      obtain ⟨rfl, rfl, rfl⟩ := hcs
      exact ⟨[], .inl ⟨rfl, rfl, rfl, rfl⟩⟩
    · simp [Value.cells] at hcs
      obtain ⟨rfl, rfl, rfl⟩ := hcs
      exact ⟨zs, .inr ⟨_, rfl, hl, hm, by simpa using hz, hcell, hwz⟩⟩
  obtain ⟨a1, rfl, rfl, rfl, w1⟩ := open_int Try.underlying3 (hval 1 3 v1 rfl rfl) h1
  clear hA0 hval0
  refine (walk a0 len0 cap0 z0 a1 W w0 w1).mono fun e W' ⟨he, bel⟩ => ?_
  subst he
  exact ⟨_, rfl, _, _, _, [], _, [], hW', trodAll_mk1 (shut_bool Try.underlying4 _), (trodAll_cons_mk (Below.trod laidOut (by kernel_rfl) (of_decide_eq_true (by kernel_rfl)) k0 bel lt0) (trodAll_cons_mk (shut_int Try.underlying3 w1) trodAll_mk0)), rfl, bel.frame _, fun h => by cases h⟩

theorem over : Rows.fnExactNumInRow.holds Try.pinned (OpenSpec.ofChange Rows.fnExactNumInSpec) :=
  OpenClaim.holds_of_wide 3 Try.f3 rfl rfl rfl rfl rfl rfl rfl ⟨rfl, rfl, rfl, rfl, rfl⟩ rfl rfl rfl rfl rfl (by kernel_rfl) Try.func3 (by kernel_rfl)
    (of_decide_eq_true (by kernel_rfl)) (by unfold Func.isWrapper; first | (rw [if_pos (by decide +kernel)]; kernel_rfl) | (rw [if_neg (by decide +kernel)]; exact ⟨rfl, rfl⟩))
    (fun os started H enc _ => lifted os started H enc)

theorem proved : Rows.FnExactNumInSaid := over
end Go.Proofs.Ytefmmcdhpepmaaa.fnExactNumIn
namespace Go.Proofs.Ytefmmcdhpepmaaa
theorem fnExactNumIn_holds : Rows.FnExactNumInSaid := fnExactNumIn.proved
#print axioms fnExactNumIn_holds
end Go.Proofs.Ytefmmcdhpepmaaa
