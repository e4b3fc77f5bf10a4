/- The law FnExactMake answers true at every list of functions, every number and every list of terms and leaves them as they were: at every argument Make answers as its specification, writes into no argument, and its answer owns its memory. Conditions: none beyond the given row's own. -/
import Derived.Test.YtkjlldbgooogdabRows
import Derived.Test.YtkjlldbgooogdabPackExactMake9
import Derived.WalkKit
import Derived.ProofKit
import Derived.OpenShut
import Derived.ShutString
import Derived.ChangeOld
import Derived.Below
namespace Go.Proofs.Ytkjlldbgooogdab.fnExactMake
open Go.ChangeShapes Go.WideShapes Go.ChangeAt Go.RowKit
open Go.ChangeMaps (open_string shut_string)
set_option linter.unusedVariables false

theorem own : ownKnob Try.prog.godebug = none := by kernel_rfl
theorem laidOut : laidOutB Try.prog = true := by kernel_rfl

theorem make_parts (ss : List SymD) (f : Int) (ks : List TermD) : partsT (makeT ss f ks) ≤ partsL ks + 1 := by
  unfold makeT
  split
  · rw [partsT_eq]; show partsL [] + 1 ≤ _; simp [partsL]
  · split
    · next h =>
      have h1 := normT_parts (blindAt ss) (ks.headD (.mk 0 0 []))
      match ks, h.2 with
      | [k], _ => simp [partsL] at h1 ⊢; omega
    · split
      · rw [partsT_eq]; exact Nat.le_refl _
      · have := normT_parts (blindAt ss) (.mk f 0 ks)
        rw [partsT_eq (.mk f 0 ks)] at this
        exact this

set_option maxHeartbeats 6400000 in
set_option maxRecDepth 100000 in
/-- The law's own walk: it answers true, and nothing that was there is written. -/
theorem walk (w : World) (a0 : Option Addr) (len0 cap0 : Nat) (ss : List SymD) (hn : len0 = ss.length) (hle0 : len0 ≤ maxLen) (hr0 : RdS w a0 ss) (hall : ∀ s ∈ ss, s.name.size ≤ maxLen ∧ (Lit.int .i64 s.ar).wf = true)
    (f : Int) (hfw : (Lit.int .i64 f).wf = true) (ka : Option Addr) (klen kcap : Nat) (ks : List TermD) (hkn : klen = ks.length) (hkle : klen ≤ maxLen ∧ klen ≤ kcap) (hkr : RdK w w.heap.size ka ks) :
    Calls Try.prog 3 #[.slice a0 len0 cap0, .int .i64 f, .slice ka klen kcap] w fun e w' => e = .returned (.bool true) ∧ Below w.heap.size w w' := by
  have hsz : ∀ s ∈ ss, s.name.size ≤ maxLen := fun s hs => (hall s hs).1
  have hf : isW f := isW_of hfw
  unfold maxLen at hle0
  subst hn hkn
  have SY := szSyms_any a0 ss ss.length cap0 1048576 w rfl hr0 (by omega) (by omega) (by omega) (fun s hs => by have := hsz s hs; unfold maxLen at this; omega)
  clear hkle hfw
  go_enter Try.func3, Try.ntmps3
  go_wp2_with (go_at_call 7; refine SY.mono ?_; rintro e w1 ⟨r, rfl, hsm, hrm, hB1⟩; clear SY)
  · go_ret
    exact ⟨rfl, hB1⟩
  · have hr0' : 0 ≤ r := by omega
    have hsum := hsm hr0'
    have hl : ss.length ≤ 1048577 := by omega
    have SZ := szTermS_any (partsL ks) ks ka kcap w.heap.size r w1 (Nat.le_refl _) hr0' hrm (hkr.on hB1) hB1.size
    clear hsm
    by_cases hb1 : (partsL ks : Int) ≤ r
    · rw [show szR ks r = r - partsL ks by unfold szR; rw [if_pos hb1]] at SZ
      have hn1 : ¬ (r - (partsL ks : Int)) < 0 := by omega
      have hpk : partsL ks ≤ 4194304 := by omega
      have hpk1 : partsL ks + 1 ≤ 4194304 := by omega
      clear hb1 hsum
      generalize r - (partsL ks : Int) = r2 at SZ hn1
      obtain ⟨N, hN⟩ : ∃ N, N = makeT ss f ks := ⟨_, rfl⟩
      have hpN : partsT N ≤ 4194304 := by have := make_parts ss f ks; rw [← hN] at this; omega
      have TT := fun (W' : World) (h : Below w.heap.size w W') => toTermS_any 4194304 ks ka kcap w.heap.size W' hpk (Nat.le_refl _) (hkr.on h) h.size
      have EQ := fun (a1 a2 : Option Addr) (c1 c2 hi : Nat) (W' : World) (h1 : RdK W' hi a1 N.kids) (h2 : RdK W' hi a2 N.kids) (h3 : hi ≤ W'.heap.size) => eqTerm_same N a1 a2 c1 c2 hi W' hpN h1 h2 h3
      have CS := fun (sa y : Option Addr) (sc c' hi : Nat) (W' : World) (h1 : RdS W' sa ss) (h2 : RdK W' hi y ks) (h3 : hi ≤ W'.heap.size) => specMake_any sa ss sc f ks y c' hi W' h1 hl hpk1 h2 h3 hf
      have CI := fun (sa y : Option Addr) (sc c' hi : Nat) (W' : World) (h1 : RdS W' sa ss) (h2 : RdK W' hi y ks) (h3 : hi ≤ W'.heap.size) (h4 : ks.length ≤ c') => impMake_any sa ss sc f ks y c' hi W' h1 hpk1 h2 h3 h4 hf
      rw [← hN] at CS CI
      clear hN
      have hnk : ¬ ((1 : Int) + 3 * (ss.length : Int) + 2 * (partsL ks : Int) < 0) := by omega
      have hnm : ¬ ((1 : Int) + 2 * (partsL N.kids : Int) < 0) := by omega
      have MK := fun (c1 : Nat) (S : Nat → Prop) (a1 : Option Addr) (W' : World) (h1 : OwnS W' S a1 N.kids) (h2 : ∀ x, S x → x < W'.heap.size) => markTerm_mk N a1 c1 1 S W' hpN (by omega) (by omega) h1 h2
      have HD := fun (c1 : Nat) (S : Nat → Prop) (a1 : Option Addr) (W' : World) (h1 : Mk W' S a1 N.kids 1) (h2 : ∀ x, S x → x < W'.heap.size) => heldTerm_any N a1 c1 1 S W' hpN (by omega) (by omega) h1 h2
      go_wp2_with (first
        | (go_at_call 8; refine SZ.mono ?_; rintro e w2 ⟨rfl, hb⟩; have hB2 : Below w.heap.size w w2 := hB1.trans (hb.mono hB1.size); clear SZ hb hB1)
        | (go_at_call 10; refine (toSyms_any a0 ss _ cap0 _ rfl (hr0.below hB2) hl).mono ?_; rintro e w3 ⟨rfl, ho3, hb⟩; have hc3 := RdS.own rfl ho3; have hB3 := hB2.trans (hb.mono hB2.size); clear hb ho3 hB2)
        | (go_at_call 11; refine (TT w3 hB3).mono ?_; rintro e w4 ⟨rfl, ho4, hb⟩; have hc4 := hc3.below hb; have hB4 := hB3.trans (hb.mono hB3.size); clear hb hc3 hB3)
        | (go_at_call 9; refine (CS _ _ _ _ w4.heap.size _ hc4 ho4.rd (Nat.le_refl _)).mono ?_; rintro e w5 ⟨aw, cw, rfl, ho5, hle5, hb⟩; have hB5 := hB4.trans (hb.mono hB4.size); have L6 := KP.new (cw := cw) hB5 ho5; clear hb hc4 ho4 ho5 hB4 hB5)
        | (go_at_call 10; refine (toSyms_any a0 ss _ cap0 _ rfl (hr0.below L6.bel) hl).mono ?_; rintro e w7 ⟨rfl, ho7, hb⟩; have L7 := L6.on hb; (try simp only [World.size_alloc] at ho7 ⊢); have hlt7 : w5.heap.size + 1 < w7.heap.size := (ho7.lt _ rfl).2; have hc7 := RdS.own rfl ho7; clear hb L6)
        | (go_at_call 11; refine (TT w7 L7.bel).mono ?_; rintro e w8 ⟨rfl, ho8, hb⟩; have L8 := L7.on hb; have hz8 := hb.size; have hc8 := hc7.below hb; have o8 := own_on ho7 hb; clear hb L7 ho7 hc7)
        | (go_at_call 12; refine (CI _ _ _ _ w8.heap.size _ hc8 ho8.rd (Nat.le_refl _) (Nat.le_refl _)).mono ?_; rintro e w9 ⟨ag, cg, rfl, ho9, hle9, hb⟩; have HK9 : Hid _ := KH.new (cg := cg) L8 ho9 hb; have hbx : Below w9.heap.size w9 (w9.alloc (.cells #[.int .i64 N.f, .int .i64 N.v, .slice ag N.kids.length cg] 28)) := (Below.refl _ _).alloc (Nat.le_refl _) _; have hb2 := hb.trans (hbx.mono hb.size); have HO9 : Hid _ := own_on o8 hb2; have HX9 : Hid _ := ho8.frame (fun k hk => hb2.block k hk.2) hb2.size; obtain ⟨q0, q1, q2⟩ := (L8.on hb).q; have hB6l : w5.heap.size < w9.heap.size := World.block_lt_of_cell? _ _ q0; have hz89 := hb.size; have g0 := trivial; have g1 := trivial; have g2 := trivial; clear hb hb2 hbx ho9 L8 o8 ho8 hc8)
        | (go_at_call 13; refine (EQ ag aw _ _ _ _ HK9.out.og.rd (HK9.out.lp.rd.mono HK9.out.lp.z) (Nat.le_refl _)).mono ?_; rintro e w10 ⟨rfl, hb⟩; have HK10 : Hid _ := HK9.out.on hb; have HO10 : Hid _ := own_on HO9.out hb; have HX10 : Hid _ := HX9.out.frame (fun k hk => hb.block k (Nat.lt_trans (Nat.lt_of_lt_of_le hk.2 HK9.out.h4) HK9.out.h5)) hb.size; clear HK9 HO9 HX9; clear q0 q1 q2 g0 g1 g2; obtain ⟨q0, q1, q2⟩ := HK10.out.lp.q; obtain ⟨g0, g1, g2⟩ := HK10.out.g; clear hb)
        | (go_at_call 10; refine (toSyms_any a0 ss _ cap0 _ rfl (hr0.below HK10.out.lp.bel) hl).mono ?_; rintro e w11 ⟨rfl, ho11, hb⟩; have hcs := RdS.own rfl ho11; have HK11 : Hid _ := HK10.out.on hb; have HO11 : Hid _ := own_on HO10.out hb; have HX11 : Hid _ := HX10.out.frame (fun k hk => hb.block k (Nat.lt_trans (Nat.lt_of_lt_of_le hk.2 HK10.out.h4) HK10.out.h5)) hb.size; clear HK10 HO10 HX10; clear q0 q1 q2 g0 g1 g2; obtain ⟨q0, q1, q2⟩ := HK11.out.lp.q; obtain ⟨g0, g1, g2⟩ := HK11.out.g; clear hb; clear ho11)
        | (go_at_call 14; refine (eqSyms_same _ _ ss _ _ _ _ _ rfl rfl (RdS.own rfl HO11.out) hcs hl).mono ?_; rintro e w12 ⟨rfl, hb⟩; have HK12 : Hid _ := HK11.out.on hb; have HO12 : Hid _ := own_on HO11.out hb; have HX12 : Hid _ := HX11.out.frame (fun k hk => hb.block k (Nat.lt_trans (Nat.lt_of_lt_of_le hk.2 HK11.out.h4) HK11.out.h5)) hb.size; clear HK11 HO11 HX11; clear q0 q1 q2 g0 g1 g2; obtain ⟨q0, q1, q2⟩ := HK12.out.lp.q; obtain ⟨g0, g1, g2⟩ := HK12.out.g; clear hb; clear hcs)
        | (go_at_call 11; refine (TT w12 HK12.out.lp.bel).mono ?_; rintro e w13 ⟨rfl, ho13, hb⟩; have HK13 : Hid _ := HK12.out.on hb; have HO13 : Hid _ := own_on HO12.out hb; have HX13 : Hid _ := HX12.out.frame (fun k hk => hb.block k (Nat.lt_trans (Nat.lt_of_lt_of_le hk.2 HK12.out.h4) HK12.out.h5)) hb.size; clear HK12 HO12 HX12; clear q0 q1 q2 g0 g1 g2; obtain ⟨q0, q1, q2⟩ := HK13.out.lp.q; obtain ⟨g0, g1, g2⟩ := HK13.out.g; clear hb)
        | (go_at_call 15; refine (eqTermS_same 4194304 ks _ _ _ _ w13.heap.size _ hpk (Nat.le_refl _) HX13.out.rd ho13.rd (Nat.le_refl _)).mono ?_; rintro e w14 ⟨rfl, hb⟩; have HK14 : Hid _ := HK13.out.on hb; have HO14 : Hid _ := own_on HO13.out hb; have HX14 : Hid _ := HX13.out.frame (fun k hk => hb.block k (Nat.lt_trans (Nat.lt_of_lt_of_le hk.2 HK13.out.h4) HK13.out.h5)) hb.size; clear HK13 HO13 HX13; clear q0 q1 q2 g0 g1 g2; obtain ⟨q0, q1, q2⟩ := HK14.out.lp.q; obtain ⟨g0, g1, g2⟩ := HK14.out.g; clear hb; clear ho13)
        | (go_at_call 16; refine (markSyms_any _ _ ss.length ss.length _ 1 _ HO14.out hl (by omega)).mono ?_; rintro e w15 ⟨rfl, hs15⟩; have HK15 : Hid _ := HK14.out.stay (hs15.weak (fun k _ hk => by omega)); have HX15 : Hid _ := HX14.out.frame (fun k hk => hs15.block k (Nat.lt_trans (Nat.lt_of_lt_of_le hk.2 HK14.out.h4) HK14.out.h5) (by omega)) hs15.size; clear HK14 HX14 HO14 hs15; clear q0 q1 q2 g0 g1 g2; obtain ⟨q0, q1, q2⟩ := HK15.out.lp.q; obtain ⟨g0, g1, g2⟩ := HK15.out.g)
        | (go_at_call 17; refine (markTermS_any 4194304 ks _ _ (1 + 3 * (ss.length : Int)) _ _ hpk (Nat.le_refl _) (by omega) (by omega) HX15.out).mono ?_; rintro e w16 ⟨rfl, ho16⟩; have HK16 : Hid _ := HK15.out.stay (only_stay (Below.refl _ _) ho16 (fun k _ hk q => by omega)); clear HK15 HX15 ho16; clear q0 q1 q2 g0 g1 g2; obtain ⟨q0, q1, q2⟩ := HK16.out.lp.q; obtain ⟨g0, g1, g2⟩ := HK16.out.g)
        | (go_at_call 13; refine (EQ ag aw _ _ _ _ HK16.out.og.rd (HK16.out.lp.rd.mono HK16.out.lp.z) (Nat.le_refl _)).mono ?_; rintro e w17 ⟨rfl, hb⟩; have HK17 : Hid _ := HK16.out.on hb; clear HK16; clear q0 q1 q2 g0 g1 g2; obtain ⟨q0, q1, q2⟩ := HK17.out.lp.q; obtain ⟨g0, g1, g2⟩ := HK17.out.g; clear hb)
        | (go_at_call 18; refine (MK _ _ _ _ HK17.out.og (fun k hk => by have := HK17.out.h5; omega)).mono ?_; rintro e w18 ⟨rfl, hm18, W0, hb18, ho18⟩; have HK18 : Hid _ := HK17.out.marked hb18 ho18 hm18; clear HK17 hm18 hb18 ho18; clear q0 q1 q2 g0 g1 g2; obtain ⟨q0, q1, q2⟩ := HK18.out.lp.q; obtain ⟨g0, g1, g2⟩ := HK18.out.g)
        | (go_at_call 19; refine (HD _ _ _ _ HK18.out.og (fun k hk => by have := HK18.out.h5; omega)).mono ?_; rintro e w19 ⟨rfl, hb⟩; have HK19 : Hid _ := HK18.out.on hb; clear HK18; clear q0 q1 q2 g0 g1 g2; obtain ⟨q0, q1, q2⟩ := HK19.out.lp.q; obtain ⟨g0, g1, g2⟩ := HK19.out.g; clear hb)
        | (go_at_call 10; refine (toSyms_any a0 ss _ cap0 _ rfl (hr0.below HK19.out.lp.bel) hl).mono ?_; rintro e w20 ⟨rfl, ho20, hb⟩; have hc20 := RdS.own rfl ho20; have HK20 : Hid _ := HK19.out.on hb; clear HK19; clear q0 q1 q2 g0 g1 g2; obtain ⟨q0, q1, q2⟩ := HK20.out.lp.q; obtain ⟨g0, g1, g2⟩ := HK20.out.g; clear hb; clear ho20)
        | (go_at_call 11; refine (TT w20 HK20.out.lp.bel).mono ?_; rintro e w21 ⟨rfl, ho21, hb⟩; have hc21 := hc20.below hb; have HK21 : Hid _ := HK20.out.on hb; clear HK20; clear q0 q1 q2 g0 g1 g2; obtain ⟨q0, q1, q2⟩ := HK21.out.lp.q; obtain ⟨g0, g1, g2⟩ := HK21.out.g; clear hb; clear hc20)
        | (go_at_call 12; refine (CI _ _ _ _ w21.heap.size _ hc21 ho21.rd (Nat.le_refl _) (Nat.le_refl _)).mono ?_; rintro e w22 ⟨ah, ch, rfl, ho22, hle22, hb⟩; have HKy : Hid _ := HK21.out.on hb; have hbx : Below w22.heap.size w22 (w22.alloc (.cells #[.int .i64 N.f, .int .i64 N.v, .slice ah N.kids.length ch] 28)) := (Below.refl _ _).alloc (Nat.le_refl _) _; have HK22 : Hid _ := HKy.out.on hbx; have HR22 : Hid (RdK (w22.alloc (.cells #[.int .i64 N.f, .int .i64 N.v, .slice ah N.kids.length ch] 28)) (w22.alloc (.cells #[.int .i64 N.f, .int .i64 N.v, .slice ah N.kids.length ch] 28)).heap.size ah N.kids) := (ho22.rd.on hbx).mono hbx.size; clear q0 q1 q2 g0 g1 g2; obtain ⟨q0, q1, q2⟩ := HKy.out.lp.q; obtain ⟨g0, g1, g2⟩ := HKy.out.g; have l6 : w5.heap.size < w22.heap.size := World.block_lt_of_cell? _ _ q0; have l9 : w9.heap.size < w22.heap.size := World.block_lt_of_cell? _ _ g0; clear HK21 HKy hb hbx ho22 ho21 hc21)
        | (go_at_call 13; refine (EQ ah aw _ _ _ _ HR22.out (HK22.out.lp.rd.mono HK22.out.lp.z) (Nat.le_refl _)).mono ?_; rintro e w23 ⟨rfl, hb⟩; clear HR22; have HK23 : Hid _ := HK22.out.on hb; clear HK22; clear q0 q1 q2 g0 g1 g2; obtain ⟨q0, q1, q2⟩ := HK23.out.lp.q; obtain ⟨g0, g1, g2⟩ := HK23.out.g; clear hb)
        | (go_at_call 19; refine (HD _ _ _ _ HK23.out.og (fun k hk => by have := HK23.out.h5; omega)).mono ?_; rintro e w24 ⟨rfl, hb⟩; have HK24 : Hid _ := HK23.out.on hb; clear HK23; clear q0 q1 q2 g0 g1 g2; obtain ⟨q0, q1, q2⟩ := HK24.out.lp.q; obtain ⟨g0, g1, g2⟩ := HK24.out.g; clear hb))
      go_ret
      exact ⟨rfl, HK24.out.lp.bel⟩
    · rw [show szR ks r = -1 by unfold szR; rw [if_neg hb1]] at SZ
      go_wp2_with (go_at_call 8; refine SZ.mono ?_; rintro e w2 ⟨rfl, hb⟩; have hB2 : Below w.heap.size w w2 := hB1.trans (hb.mono hB1.size); clear SZ hb)
      go_ret
      exact ⟨rfl, hB2⟩

set_option maxRecDepth 100000 in
theorem lifted (os : Os) (started : os.Started) (H : Type) (enc : TypeId × Value → H) :
    ReturnsInHanded {} Try.checked os 3 .any (Rows.fnExactMakeSpec.pre6 enc Try.prog Try.f3 Rows.fnExactMakeRow.domain false) (Rows.fnExactMakeSpec.post enc Try.prog Try.f3 false true false false) := by
  refine returnsInHanded_of_change (C := Try.checked) own started (by kernel_rfl) Try.func3
    (ChangeSpec.witness6 (enc := enc) (C := Try.checked) false ⟨#[], #[.slice none 0 0, .int .i64 0, .slice none 0 0], []⟩ 8 (by kernel_rfl) (by kernel_rfl) (by kernel_rfl) (by kernel_rfl)) ?_
  intro W base args ds gs before hval0 hW hcnd _
  have hval : ∀ (j : Nat) t v, Try.f3.params[j]? = some t → args[j]? = some v → Value.okWide Try.prog W .any base t v := hval0
  have hW' := hW
  obtain ⟨p, q, hA0, hV, rfl, hfz, hnd⟩ := hW
  have hA : DataW.TrodAll enc Try.prog W 0 (fun _ => true) true Try.f3.params.toList args.toList ds p := hA0
  rw [Try.params3] at hA hval
  obtain ⟨v0, vs0, d0, ds0, p0, q0, hargs, rfl, rfl, h0, r0⟩ := trodAll_cons hA
  obtain ⟨v1, vs1, d1, ds1, p1, q1, rfl, rfl, rfl, h1, r1⟩ := trodAll_cons r0
  obtain ⟨v2, vs2, d2, ds2, p2, q2, rfl, rfl, rfl, h2, r2⟩ := trodAll_cons r1
  obtain ⟨rfl, rfl, rfl⟩ := trodAll_nil r2
  obtain rfl : args = #[v0, v1, v2] := by cases args; simp_all
  obtain ⟨rfl, rfl⟩ := trodVars_none hV
  obtain ⟨a0, len0, cap0, rfl⟩ := okWide_slice Try.underlying22 (hval 0 22 v0 rfl rfl)
  have k0 := h0
  have lt0 : ∀ x ∈ p0, x.block < W.heap.size := by obtain ⟨m, hm⟩ := k0; exact DataW.trod_lt m _ _ _ hm
  obtain ⟨ss0, hn0, hle0, hr0, hall0⟩ := open_syms rfl h0
  obtain ⟨a1, rfl, rfl, rfl, w1⟩ := open_int Try.underlying3 (hval 1 3 v1 rfl rfl) h1
  obtain ⟨a2, len2, cap2, rfl⟩ := okWide_slice Try.underlying23 (hval 2 23 v2 rfl rfl)
  have k2 := h2
  have lt2 : ∀ x ∈ p2, x.block < W.heap.size := by obtain ⟨m, hm⟩ := k2; exact DataW.trod_lt m _ _ _ hm
  obtain ⟨ts2, hn2, hle2, hr2⟩ := open_kids rfl h2
  clear hA0 hval0
  refine (walk W a0 len0 cap0 ss0 hn0 hle0 hr0 hall0 a1 w1 a2 len2 cap2 ts2 hn2 hle2 hr2).mono fun e W' ⟨he, bel⟩ => ?_
  subst he
  exact ⟨_, rfl, _, _, _, [], _, [], hW', trodAll_mk1 (shut_bool Try.underlying4 _), (trodAll_cons_mk (Below.trod laidOut (by kernel_rfl) (of_decide_eq_true (by kernel_rfl)) k0 bel lt0) (trodAll_cons_mk (shut_int Try.underlying3 w1) (trodAll_cons_mk (Below.trod laidOut (by kernel_rfl) (of_decide_eq_true (by kernel_rfl)) k2 bel lt2) trodAll_mk0))), by first | rfl | simp, bel.frame _, fun h => by cases h⟩

theorem over : Rows.fnExactMakeRow.holds Try.pinned (OpenSpec.ofChange Rows.fnExactMakeSpec) :=
  OpenClaim.holds_of_wide 3 Try.f3 rfl rfl rfl rfl rfl rfl rfl ⟨rfl, rfl, rfl, rfl, rfl⟩ rfl rfl rfl rfl rfl (by kernel_rfl) Try.func3 (by kernel_rfl)
    (of_decide_eq_true (by kernel_rfl)) (by unfold Func.isWrapper; first | (rw [if_pos (by decide +kernel)]; kernel_rfl) | (rw [if_neg (by decide +kernel)]; exact ⟨rfl, rfl⟩))
    (fun os started H enc _ => lifted os started H enc)

theorem proved : Rows.FnExactMakeSaid := over
end Go.Proofs.Ytkjlldbgooogdab.fnExactMake
namespace Go.Proofs.Ytkjlldbgooogdab
theorem fnExactMake_holds : Rows.FnExactMakeSaid := fnExactMake.proved
#print axioms fnExactMake_holds
end Go.Proofs.Ytkjlldbgooogdab
