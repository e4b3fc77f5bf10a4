/- The law FnExactSum answers true at every list of lists of numbers and every number, and leaves both as they were: at every argument Sum answers as its specification, writes into no argument, and its answer owns its memory. Conditions: none beyond the given row's own. -/
import Derived.Test.YtcbafmohmoicnabRows
import Derived.Test.YtcbafmohmoicnabIL
import Derived.Test.YtcbafmohmoicnabIQ
import Derived.Test.YtcbafmohmoicnabIR
import Derived.Test.YtcbafmohmoicnabSumA
import Derived.Test.YtcbafmohmoicnabSumB
import Derived.Test.YtcbafmohmoicnabSumC
import Derived.Test.YtcbafmohmoicnabSumL
import Derived.Test.YtcbafmohmoicnabIntLaw
import Derived.WalkKit
import Derived.ProofKit
import Derived.OpenShut
import Derived.ShutString
import Derived.ChangeOld
import Derived.Below
namespace Go.Proofs.Ytcbafmohmoicnab.fnExactSum
open Go.ChangeShapes Go.WideShapes Go.ChangeAt Go.RowKit
open Go.ChangeMaps (open_string shut_string)
set_option linter.unusedVariables false

theorem own : ownKnob Try.prog.godebug = none := by kernel_rfl
theorem laidOut : laidOutB Try.prog = true := by kernel_rfl

set_option maxHeartbeats 6400000 in
/-- The law's own walk: it answers true, and nothing that was there is written. -/
theorem walk (w : World) (a0 : Option Addr) (len0 cap0 : Nat) (rows : List (List Int)) (hn0 : len0 = rows.length) (hle0 : len0 ≤ maxLen) (hr0 : RdQ w a0 rows) (hw0 : ∀ r ∈ rows, r.length ≤ maxLen) (n : Int) (_hn : (Lit.int .i64 n).wf = true) :
    Calls Try.prog 7 #[.slice a0 len0 cap0, .int .i64 n] w fun e w' => e = .returned (.bool true) ∧ Below w.heap.size w w' := by
  subst hn0
  have SZ := szIntss_any a0 rows cap0 1048576 w hle0 hr0 hw0 (by omega) (by omega)
  go_enter Try.func7, Try.ntmps7
  go_wp2_with (go_at_call 35; refine SZ.mono ?_; rintro e w1 ⟨r, rfl, hsm, hrm, hw⟩; subst w1; clear SZ)
  · go_ret
    exact ⟨rfl, Below.refl _ _⟩
  · have hsum := hsm (by omega)
    have hl : rows.length ≤ 1048577 := by omega
    have hl1 : rows.length + sumQ rows ≤ 1048577 := by omega
    have hl2 : ∀ r ∈ rows, r.length ≤ 1048577 := fun r hr => by have := sumQ_row r hr; omega
    have hsl := sumL_len rows n
    have HS2 : Hid (sumQ rows ≤ 1048577) := (by omega : sumQ rows ≤ 1048577)
    have CS := fun (a : Option Addr) (c : Nat) (W : World) (h : RdQ W a rows) => specSum_any a rows c n W h hl hl2
    have CI := fun (a : Option Addr) (c : Nat) (W : World) (h : RdQ W a rows) => impSum_any a rows c n W h hl hl2
    have hs1 : (sumL rows n).length ≤ 1048577 := by omega
    clear hsm hrm hsum hle0 hw0 hsl
    generalize sumL rows n = S at CS CI hs1
    go_wp2_with (go_at_call 37; refine (toIntss_any a0 rows cap0 w hr0 hl hl2).mono ?_; rintro e w1 ⟨L1, hL1, rfl, ho1, hq1, B1⟩; have c1 := rdq_own rfl ho1 hq1 hL1; clear hL1 ho1 hq1)
    go_wp2_with (go_at_call 36; refine (CS _ _ w1 c1).mono ?_; rintro e w2 ⟨gW, cW, rfl, hW, b2⟩; have B2 : Below w.heap.size w w2 := B1.trans (b2.mono B1.size); have hW' := own_base hW B1.size; clear c1 b2 hW CS B1)
    go_wp2_with (go_at_call 37; refine (toIntss_any a0 rows cap0 w2 (hr0.below B2) hl hl2).mono ?_; rintro e w3 ⟨L, hL, rfl, hX, qX, b3⟩; have c3 := rdq_own rfl hX qX hL)
    go_wp2_with (go_at_call 38; refine (CI _ _ w3 c3).mono ?_; rintro e w4 ⟨aG, cG, rfl, hG, b4⟩; have S4 := QS.start B2 hW' hL hX qX b3 hG b4; clear B2 hW' hL hX qX b3 hG b4 c3)
    go_wp2_with (go_at_call 26; refine (eqInts_any aG _ S S _ cG _ cW _ rfl rfl (rd_own rfl S4.g.hG) (rd_own rfl S4.g.hW) hs1 hs1).mono ?_; rintro e w5 ⟨rfl, q5, rfl⟩; have S5 := S4.on (below_drewN (Below.refl _ _) q5); clear S4; rw [eqB_self])
    go_wp2_with (go_at_call 37; refine (toIntss_any a0 rows cap0 _ (hr0.below S5.g.bel) hl hl2).mono ?_; rintro e w6 ⟨L6, hL6, rfl, ho6, hq6, b6⟩; have c6 := rdq_own rfl ho6 hq6 hL6; have S6 := S5.on b6; clear hL6 ho6 hq6 b6 S5)
    go_wp2_with (go_at_call 31; refine (eqIntss_same _ _ rows _ _ w6 S6.rX c6 hl hl2).mono ?_; rintro e w7 ⟨rfl, b7⟩; have S7 := S6.on b7; clear S6 c6 b7)
    go_wp2_with (go_at_call 33; refine (markIntss_any _ _ L rows _ 1 w7 S7.hL S7.hX S7.qX hl1 (by omega) (by omega)).mono ?_; rintro e w8 ⟨rfl, hs8⟩; have S8 := S7.marked hs8; clear S7 hs8)
    have hk8 : ¬ (1 + (sumQ rows : Int)) < 0 := by omega
    go_wp2_with (go_at_call 26; refine (eqInts_any aG _ S S _ cG _ cW _ rfl rfl (rd_own rfl S8.hG) (rd_own rfl S8.hW) hs1 hs1).mono ?_; rintro e w9 ⟨rfl, q9, rfl⟩; have S9 := S8.draw q9; clear S8; rw [eqB_self])
    go_wp2_with (go_at_call 32; refine (mark_opt _ aG S _ cG _ rfl S9.hG hs1).mono ?_; rintro e w10 ⟨rfl, hM, b10⟩; have S10 := S9.markG b10 hM; clear S9 hM b10)
    have hm10 : ¬ (1 + (S.length : Int)) < 0 := by omega
    go_wp2_with (go_at_call 39; refine (held_any aG 1 _ cG _ (rd_own (upFrom_len _ _).symm S10.hG) hs1 (by omega) (by omega)).mono ?_; rintro e w11 ⟨rfl, hw⟩; subst w11)
    go_wp2_with (go_at_call 37; refine (toIntss_any a0 rows cap0 _ (hr0.below S10.bel) hl hl2).mono ?_; rintro e w12 ⟨L12, hL12, rfl, ho12, hq12, b12⟩; have c12 := rdq_own rfl ho12 hq12 hL12; have S12 := S10.on b12; clear hL12 ho12 hq12 b12 S10)
    go_wp2_with (go_at_call 38; refine (CI _ _ w12 c12).mono ?_; rintro e w13 ⟨aH, cH, rfl, hH, b13⟩; have S13 := S12.on b13; have c13 := rd_own rfl hH; clear S12 c12 hH b13)
    go_wp2_with (go_at_call 26; refine (eqInts_any aH _ S S _ cH _ cW _ rfl rfl c13 (rd_own rfl S13.hW) hs1 hs1).mono ?_; rintro e w14 ⟨rfl, q14, rfl⟩; have S14 := S13.draw q14; clear S13 c13; rw [eqB_self])
    go_wp2_with (go_at_call 39; refine (held_any aG 1 _ cG _ (rd_own (upFrom_len _ _).symm S14.hG) hs1 (by omega) (by omega)).mono ?_; rintro e w15 ⟨rfl, hw⟩; subst w15)
    go_ret
    exact ⟨rfl, S14.bel⟩

set_option maxRecDepth 100000 in
theorem lifted (os : Os) (started : os.Started) (H : Type) (enc : TypeId × Value → H) :
    ReturnsInHanded {} Try.checked os 7 .any (Rows.fnExactSumSpec.pre6 enc Try.prog Try.f7 Rows.fnExactSumRow.domain false) (Rows.fnExactSumSpec.post enc Try.prog Try.f7 false true false false) := by
  refine returnsInHanded_of_change (C := Try.checked) own started (by kernel_rfl) Try.func7
    (ChangeSpec.witness6 (enc := enc) (C := Try.checked) false ⟨#[], #[.slice none 0 0, .int .i64 0], []⟩ 8 (by kernel_rfl) (by kernel_rfl) (by kernel_rfl) (by kernel_rfl)) ?_
  intro W base args ds gs before hval0 hW hcnd _
  have hval : ∀ (j : Nat) t v, Try.f7.params[j]? = some t → args[j]? = some v → Value.okWide Try.prog W .any base t v := hval0
  have hW' := hW
  obtain ⟨p, q, hA0, hV, rfl, hfz, hnd⟩ := hW
  have hA : DataW.TrodAll enc Try.prog W 0 (fun _ => true) true Try.f7.params.toList args.toList ds p := hA0
  rw [Try.params7] at hA hval
  obtain ⟨v0, vs0, d0, ds0, p0, q0, hargs, rfl, rfl, h0, r0⟩ := trodAll_cons hA
  obtain ⟨v1, vs1, d1, ds1, p1, q1, rfl, rfl, rfl, h1, r1⟩ := trodAll_cons r0
  obtain ⟨rfl, rfl, rfl⟩ := trodAll_nil r1
  obtain rfl : args = #[v0, v1] := by cases args; simp_all
  obtain ⟨rfl, rfl⟩ := trodVars_none hV
  obtain ⟨a0, len0, cap0, rfl⟩ := okWide_slice Try.underlying50 (hval 0 50 v0 rfl rfl)
  have k0 := h0
  have lt0 : ∀ x ∈ p0, x.block < W.heap.size := by obtain ⟨m, hm⟩ := k0; exact DataW.trod_lt m _ _ _ hm
  obtain ⟨zs0, hn0, hle0, hr0, hw0⟩ := open_introws rfl h0
  obtain ⟨a1, rfl, rfl, rfl, w1⟩ := open_int Try.underlying3 (hval 1 3 v1 rfl rfl) h1
  clear hA0 hval0
  refine (walk W a0 len0 cap0 zs0 hn0 hle0 hr0 hw0 a1 w1).mono fun e W' ⟨he, bel⟩ => ?_
  subst he
  exact ⟨_, rfl, _, _, _, [], _, [], hW', trodAll_mk1 (shut_bool Try.underlying4 _), (trodAll_cons_mk (Below.trod laidOut (by kernel_rfl) (of_decide_eq_true (by kernel_rfl)) k0 bel lt0) (trodAll_cons_mk (shut_int Try.underlying3 w1) trodAll_mk0)), by first | rfl | simp, bel.frame _, fun h => by cases h⟩

theorem over : Rows.fnExactSumRow.holds Try.pinned (OpenSpec.ofChange Rows.fnExactSumSpec) :=
  OpenClaim.holds_of_wide 7 Try.f7 rfl rfl rfl rfl rfl rfl rfl ⟨rfl, rfl, rfl, rfl, rfl⟩ rfl rfl rfl rfl rfl (by kernel_rfl) Try.func7 (by kernel_rfl)
    (of_decide_eq_true (by kernel_rfl)) (by unfold Func.isWrapper; first | (rw [if_pos (by decide +kernel)]; kernel_rfl) | (rw [if_neg (by decide +kernel)]; exact ⟨rfl, rfl⟩))
    (fun os started H enc _ => lifted os started H enc)

theorem proved : Rows.FnExactSumSaid := over
end Go.Proofs.Ytcbafmohmoicnab.fnExactSum
namespace Go.Proofs.Ytcbafmohmoicnab
theorem fnExactSum_holds : Rows.FnExactSumSaid := fnExactSum.proved
#print axioms fnExactSum_holds
end Go.Proofs.Ytcbafmohmoicnab
