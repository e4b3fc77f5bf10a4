/- The law FnExactLook answers true at every list of what is put and every number and leaves them as they were: at every argument Look answers as its specification, writes into no argument, and its answer owns its memory. Conditions: none beyond the given row's own. -/
import Derived.Test.YtkjlldbgooogdabRows
import Derived.Test.YtkjlldbgooogdabPackExactLook9
import Derived.WalkKit
import Derived.ProofKit
import Derived.OpenShut
import Derived.ShutString
import Derived.ChangeOld
import Derived.Below
namespace Go.Proofs.Ytkjlldbgooogdab.fnExactLook
open Go.ChangeShapes Go.WideShapes Go.ChangeAt Go.RowKit
open Go.ChangeMaps (open_string shut_string)
set_option linter.unusedVariables false

theorem own : ownKnob Try.prog.godebug = none := by kernel_rfl
theorem laidOut : laidOutB Try.prog = true := by kernel_rfl

set_option maxHeartbeats 6400000 in
set_option maxRecDepth 100000 in
/-- The law's own walk: it answers true, and nothing that was there is written. -/
theorem walk (w : World) (ka : Option Addr) (klen kcap : Nat) (us : List BindD) (hkn : klen = us.length) (hkle : klen ≤ maxLen ∧ klen ≤ kcap) (hkr : RdU w w.heap.size ka us) (v : Int) (hvw : (Lit.int .i64 v).wf = true) :
    Calls Try.prog 5 #[.slice ka klen kcap, .int .i64 v] w fun e w' => e = .returned (.bool true) ∧ Below w.heap.size w w' := by
  have hv : isW v := isW_of hvw
  subst hkn
  have SZ := szBindS_any us ka kcap w.heap.size 1048576 w (by omega) (by omega) (by have := hkle.1; unfold maxLen at this; omega) hkr (Nat.le_refl _)
  clear hkle hvw
  by_cases hb1 : (partsU us : Int) ≤ 1048576
  · rw [show szU us 1048576 = 1048576 - partsU us by unfold szU; rw [if_pos hb1]] at SZ
    have hn1 : ¬ ((1048576 : Int) - (partsU us : Int)) < 0 := by omega
    have hpk : partsU us ≤ 4194303 := by omega
    clear hb1
    generalize (1048576 : Int) - (partsU us : Int) = r2 at SZ hn1
    obtain ⟨N, hN⟩ : ∃ N, N = lookT us v := ⟨_, rfl⟩
    have hpN : partsT N ≤ 4194304 := by have := look_parts (v := v) hpk; rw [← hN] at this; omega
    have TT := fun (W' : World) (h : Below w.heap.size w W') => toBindS_any us ka kcap w.heap.size W' hpk (hkr.on h) h.size
    have EQ := fun (a1 a2 : Option Addr) (c1 c2 hi : Nat) (W' : World) (h1 : RdK W' hi a1 N.kids) (h2 : RdK W' hi a2 N.kids) (h3 : hi ≤ W'.heap.size) => eqTerm_same N a1 a2 c1 c2 hi W' hpN h1 h2 h3
    have CS := fun (y : Option Addr) (c' hi : Nat) (W' : World) (h2 : RdU W' hi y us) (h3 : hi ≤ W'.heap.size) => specLook_any us y c' hi v W' hpk h2 h3
    have CI := fun (y : Option Addr) (c' hi : Nat) (W' : World) (h2 : RdU W' hi y us) (h3 : hi ≤ W'.heap.size) => impLook_any us y c' hi v W' hpk h2 h3 hv
    rw [← hN] at CS CI
    clear hN
    have hnk : ¬ ((1 : Int) + (mkU us us.length : Nat) < 0) := by omega
    have hnm : ¬ ((1 : Int) + 2 * (partsL N.kids : Int) < 0) := by omega
    have MK := fun (c1 : Nat) (S : Nat → Prop) (a1 : Option Addr) (W' : World) (h1 : OwnS W' S a1 N.kids) (h2 : ∀ x, S x → x < W'.heap.size) => markTerm_mk N a1 c1 1 S W' hpN (by omega) (by omega) h1 h2
    have HD := fun (c1 : Nat) (S : Nat → Prop) (a1 : Option Addr) (W' : World) (h1 : Mk W' S a1 N.kids 1) (h2 : ∀ x, S x → x < W'.heap.size) => heldTerm_any N a1 c1 1 S W' hpN (by omega) (by omega) h1 h2
    go_enter Try.func5, Try.ntmps5
    go_wp2_with (first
      | (go_at_call 20; refine SZ.mono ?_; rintro e w1 ⟨rfl, hB1⟩; clear SZ)
      | (go_at_call 22; refine (TT w1 hB1).mono ?_; rintro e w4 ⟨rfl, ho4, hb⟩; have hB4 := hB1.trans (hb.mono hB1.size); clear hb hB1)
      | (go_at_call 25; refine (CS _ _ w4.heap.size _ ho4.rd (Nat.le_refl _)).mono ?_; rintro e w5 ⟨aw, cw, rfl, ho5, hle5, hb⟩; have hB5 := hB4.trans (hb.mono hB4.size); have L6 := KP.new (cw := cw) hB5 ho5; clear hb ho4 ho5 hB4 hB5)
      | (go_at_call 22; refine (TT _ L6.bel).mono ?_; rintro e w8 ⟨rfl, ho8, hb⟩; have L8 := L6.on hb; (try simp only [World.size_alloc] at ho8 ⊢); have hz8 : w5.heap.size + 1 ≤ w8.heap.size := (by have := hb.size; simpa using this); clear hb L6)
      | (go_at_call 26; refine (CI _ _ w8.heap.size _ ho8.rd (Nat.le_refl _)).mono ?_; rintro e w9 ⟨ag, cg, rfl, ho9, hle9, hb⟩; have HK9 : Hid _ := KH.new (cg := cg) L8 ho9 hb; have hbx : Below w9.heap.size w9 (w9.alloc (.cells #[.int .i64 N.f, .int .i64 N.v, .slice ag N.kids.length cg] 28)) := (Below.refl _ _).alloc (Nat.le_refl _) _; have hb2 := hb.trans (hbx.mono hb.size); have HX9 : Hid _ := ho8.frame (fun k hk => hb2.block k hk.2) hb2.size; obtain ⟨q0, q1, q2⟩ := (L8.on hb).q; have hB6l : w5.heap.size < w9.heap.size := World.block_lt_of_cell? _ _ q0; have hz89 := hb.size; have g0 := trivial; have g1 := trivial; have g2 := trivial; clear hb hb2 hbx ho9 L8 ho8)
      | (go_at_call 13; refine (EQ ag aw _ _ _ _ HK9.out.og.rd (HK9.out.lp.rd.mono HK9.out.lp.z) (Nat.le_refl _)).mono ?_; rintro e w10 ⟨rfl, hb⟩; have HK10 : Hid _ := HK9.out.on hb; have HX10 : Hid _ := HX9.out.frame (fun k hk => hb.block k (Nat.lt_trans (Nat.lt_of_lt_of_le hk.2 HK9.out.h4) HK9.out.h5)) hb.size; clear HK9 HX9; clear q0 q1 q2 g0 g1 g2; obtain ⟨q0, q1, q2⟩ := HK10.out.lp.q; obtain ⟨g0, g1, g2⟩ := HK10.out.g; clear hb)
      | (go_at_call 22; refine (TT w10 HK10.out.lp.bel).mono ?_; rintro e w13 ⟨rfl, ho13, hb⟩; have HK13 : Hid _ := HK10.out.on hb; have HX13 : Hid _ := HX10.out.frame (fun k hk => hb.block k (Nat.lt_trans (Nat.lt_of_lt_of_le hk.2 HK10.out.h4) HK10.out.h5)) hb.size; clear HK10 HX10; clear q0 q1 q2 g0 g1 g2; obtain ⟨q0, q1, q2⟩ := HK13.out.lp.q; obtain ⟨g0, g1, g2⟩ := HK13.out.g; clear hb)
      | (go_at_call 24; refine (eqBindS_same us _ _ _ _ w13.heap.size _ hpk HX13.out.rd ho13.rd (Nat.le_refl _)).mono ?_; rintro e w14 ⟨rfl, hb⟩; have HK14 : Hid _ := HK13.out.on hb; have HX14 : Hid _ := HX13.out.frame (fun k hk => hb.block k (Nat.lt_trans (Nat.lt_of_lt_of_le hk.2 HK13.out.h4) HK13.out.h5)) hb.size; clear HK13 HX13; clear q0 q1 q2 g0 g1 g2; obtain ⟨q0, q1, q2⟩ := HK14.out.lp.q; obtain ⟨g0, g1, g2⟩ := HK14.out.g; clear hb; clear ho13)
      | (go_at_call 27; refine (markBindS_any us _ _ 1 _ _ hpk (by omega) (by omega) HX14.out).mono ?_; rintro e w16 ⟨rfl, ho16⟩; have HK16 : Hid _ := HK14.out.stay (only_stay (Below.refl _ _) ho16 (fun k _ hk q => by omega)); clear HK14 HX14 ho16; clear q0 q1 q2 g0 g1 g2; obtain ⟨q0, q1, q2⟩ := HK16.out.lp.q; obtain ⟨g0, g1, g2⟩ := HK16.out.g)
      | (go_at_call 13; refine (EQ ag aw _ _ _ _ HK16.out.og.rd (HK16.out.lp.rd.mono HK16.out.lp.z) (Nat.le_refl _)).mono ?_; rintro e w17 ⟨rfl, hb⟩; have HK17 : Hid _ := HK16.out.on hb; clear HK16; clear q0 q1 q2 g0 g1 g2; obtain ⟨q0, q1, q2⟩ := HK17.out.lp.q; obtain ⟨g0, g1, g2⟩ := HK17.out.g; clear hb)
      | (go_at_call 18; refine (MK _ _ _ _ HK17.out.og (fun k hk => by have := HK17.out.h5; omega)).mono ?_; rintro e w18 ⟨rfl, hm18, W0, hb18, ho18⟩; have HK18 : Hid _ := HK17.out.marked hb18 ho18 hm18; clear HK17 hm18 hb18 ho18; clear q0 q1 q2 g0 g1 g2; obtain ⟨q0, q1, q2⟩ := HK18.out.lp.q; obtain ⟨g0, g1, g2⟩ := HK18.out.g)
      | (go_at_call 19; refine (HD _ _ _ _ HK18.out.og (fun k hk => by have := HK18.out.h5; omega)).mono ?_; rintro e w19 ⟨rfl, hb⟩; have HK19 : Hid _ := HK18.out.on hb; clear HK18; clear q0 q1 q2 g0 g1 g2; obtain ⟨q0, q1, q2⟩ := HK19.out.lp.q; obtain ⟨g0, g1, g2⟩ := HK19.out.g; clear hb)
      | (go_at_call 22; refine (TT w19 HK19.out.lp.bel).mono ?_; rintro e w21 ⟨rfl, ho21, hb⟩; have HK21 : Hid _ := HK19.out.on hb; clear HK19; clear q0 q1 q2 g0 g1 g2; obtain ⟨q0, q1, q2⟩ := HK21.out.lp.q; obtain ⟨g0, g1, g2⟩ := HK21.out.g; clear hb)
      | (go_at_call 26; refine (CI _ _ w21.heap.size _ ho21.rd (Nat.le_refl _)).mono ?_; rintro e w22 ⟨ah, ch, rfl, ho22, hle22, hb⟩; have HKy : Hid _ := HK21.out.on hb; have hbx : Below w22.heap.size w22 (w22.alloc (.cells #[.int .i64 N.f, .int .i64 N.v, .slice ah N.kids.length ch] 28)) := (Below.refl _ _).alloc (Nat.le_refl _) _; have HK22 : Hid _ := HKy.out.on hbx; have HR22 : Hid (RdK (w22.alloc (.cells #[.int .i64 N.f, .int .i64 N.v, .slice ah N.kids.length ch] 28)) (w22.alloc (.cells #[.int .i64 N.f, .int .i64 N.v, .slice ah N.kids.length ch] 28)).heap.size ah N.kids) := (ho22.rd.on hbx).mono hbx.size; clear q0 q1 q2 g0 g1 g2; obtain ⟨q0, q1, q2⟩ := HKy.out.lp.q; obtain ⟨g0, g1, g2⟩ := HKy.out.g; have l6 : w5.heap.size < w22.heap.size := World.block_lt_of_cell? _ _ q0; have l9 : w9.heap.size < w22.heap.size := World.block_lt_of_cell? _ _ g0; clear HK21 HKy hb hbx ho22 ho21)
      | (go_at_call 13; refine (EQ ah aw _ _ _ _ HR22.out (HK22.out.lp.rd.mono HK22.out.lp.z) (Nat.le_refl _)).mono ?_; rintro e w23 ⟨rfl, hb⟩; clear HR22; have HK23 : Hid _ := HK22.out.on hb; clear HK22; clear q0 q1 q2 g0 g1 g2; obtain ⟨q0, q1, q2⟩ := HK23.out.lp.q; obtain ⟨g0, g1, g2⟩ := HK23.out.g; clear hb)
      | (go_at_call 19; refine (HD _ _ _ _ HK23.out.og (fun k hk => by have := HK23.out.h5; omega)).mono ?_; rintro e w24 ⟨rfl, hb⟩; have HK24 : Hid _ := HK23.out.on hb; clear HK23; clear q0 q1 q2 g0 g1 g2; obtain ⟨q0, q1, q2⟩ := HK24.out.lp.q; obtain ⟨g0, g1, g2⟩ := HK24.out.g; clear hb))
    go_ret
    exact ⟨rfl, HK24.out.lp.bel⟩
  · rw [show szU us 1048576 = -1 by unfold szU; rw [if_neg hb1]] at SZ
    go_enter Try.func5, Try.ntmps5
    go_wp2_with (go_at_call 20; refine SZ.mono ?_; rintro e w1 ⟨rfl, hB1⟩; clear SZ)
    go_ret
    exact ⟨rfl, hB1⟩

set_option maxRecDepth 100000 in
theorem lifted (os : Os) (started : os.Started) (H : Type) (enc : TypeId × Value → H) :
    ReturnsInHanded {} Try.checked os 5 .any (Rows.fnExactLookSpec.pre6 enc Try.prog Try.f5 Rows.fnExactLookRow.domain false) (Rows.fnExactLookSpec.post enc Try.prog Try.f5 false true false false) := by
  refine returnsInHanded_of_change (C := Try.checked) own started (by kernel_rfl) Try.func5
    (ChangeSpec.witness6 (enc := enc) (C := Try.checked) false ⟨#[], #[.slice none 0 0, .int .i64 0], []⟩ 8 (by kernel_rfl) (by kernel_rfl) (by kernel_rfl) (by kernel_rfl)) ?_
  intro W base args ds gs before hval0 hW hcnd _
  have hval : ∀ (j : Nat) t v, Try.f5.params[j]? = some t → args[j]? = some v → Value.okWide Try.prog W .any base t v := hval0
  have hW' := hW
  obtain ⟨p, q, hA0, hV, rfl, hfz, hnd⟩ := hW
  have hA : DataW.TrodAll enc Try.prog W 0 (fun _ => true) true Try.f5.params.toList args.toList ds p := hA0
  rw [Try.params5] at hA hval
  obtain ⟨v0, vs0, d0, ds0, p0, q0, hargs, rfl, rfl, h0, r0⟩ := trodAll_cons hA
  obtain ⟨v1, vs1, d1, ds1, p1, q1, rfl, rfl, rfl, h1, r1⟩ := trodAll_cons r0
  obtain ⟨rfl, rfl, rfl⟩ := trodAll_nil r1
  obtain rfl : args = #[v0, v1] := by cases args; simp_all
  obtain ⟨rfl, rfl⟩ := trodVars_none hV
  obtain ⟨a0, len0, cap0, rfl⟩ := okWide_slice Try.underlying40 (hval 0 40 v0 rfl rfl)
  have k0 := h0
  have lt0 : ∀ x ∈ p0, x.block < W.heap.size := by obtain ⟨m, hm⟩ := k0; exact DataW.trod_lt m _ _ _ hm
  obtain ⟨ts0, hn0, hle0, hr0⟩ := open_binds rfl h0
  obtain ⟨a1, rfl, rfl, rfl, w1⟩ := open_int Try.underlying3 (hval 1 3 v1 rfl rfl) h1
  clear hA0 hval0
  refine (walk W a0 len0 cap0 ts0 hn0 hle0 hr0 a1 w1).mono fun e W' ⟨he, bel⟩ => ?_
  subst he
  exact ⟨_, rfl, _, _, _, [], _, [], hW', trodAll_mk1 (shut_bool Try.underlying4 _), (trodAll_cons_mk (Below.trod laidOut (by kernel_rfl) (of_decide_eq_true (by kernel_rfl)) k0 bel lt0) (trodAll_cons_mk (shut_int Try.underlying3 w1) trodAll_mk0)), by first | rfl | simp, bel.frame _, fun h => by cases h⟩

theorem over : Rows.fnExactLookRow.holds Try.pinned (OpenSpec.ofChange Rows.fnExactLookSpec) :=
  OpenClaim.holds_of_wide 5 Try.f5 rfl rfl rfl rfl rfl rfl rfl ⟨rfl, rfl, rfl, rfl, rfl⟩ rfl rfl rfl rfl rfl (by kernel_rfl) Try.func5 (by kernel_rfl)
    (of_decide_eq_true (by kernel_rfl)) (by unfold Func.isWrapper; first | (rw [if_pos (by decide +kernel)]; kernel_rfl) | (rw [if_neg (by decide +kernel)]; exact ⟨rfl, rfl⟩))
    (fun os started H enc _ => lifted os started H enc)

theorem proved : Rows.FnExactLookSaid := over
end Go.Proofs.Ytkjlldbgooogdab.fnExactLook
namespace Go.Proofs.Ytkjlldbgooogdab
theorem fnExactLook_holds : Rows.FnExactLookSaid := fnExactLook.proved
#print axioms fnExactLook_holds
end Go.Proofs.Ytkjlldbgooogdab
