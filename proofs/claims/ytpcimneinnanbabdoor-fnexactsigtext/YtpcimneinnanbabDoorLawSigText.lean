/- The law FnExactSigText answers true at every list of functions and leaves it as it was: SigText answers as its specification. Conditions: those of the given card (three tables of the library hold what their own text lays; tied to it). -/
import Derived.Test.YtpcimneinnanbabDoorRows
import Derived.Test.YtpcimneinnanbabDoorCards
import Derived.Test.YtpcimneinnanbabDoorTie
import Derived.Test.YtpcimneinnanbabDoorLaid3
import Derived.Test.YtpcimneinnanbabDoorSymLaw
import Derived.Test.YtpcimneinnanbabDoorSymOpen
import Derived.Test.YtpcimneinnanbabDoorSigText
import Derived.Test.YtpcimneinnanbabDoorImpText2
import Derived.ChangeOld
import Derived.SevenTiedAt
import Derived.ShutString
namespace Go.Proofs.YtpcimneinnanbabDoor
open Go.ChangeShapes Go.WideShapes Go.ChangeAt Go.RowKit
open Go.ChangeMaps (open_string shut_string)

theorem fnExactSigText_laidOut : laidOutB Tryd.prog = true := by kernel_rfl

theorem size_le {ss : List SymD} {s : SymD} (h : s ∈ ss) : s.name.size ≤ bytesOf ss := by
  induction ss with
  | nil => simp at h
  | cons t ss ih =>
    simp only [bytesOf, List.map_cons, List.sum_cons] at *
    rcases List.mem_cons.1 h with rfl | h
    · omega
    · have := ih h; omega

set_option maxHeartbeats 1600000 in
theorem fnExactSigText_walk (w : World) (a0 : Option Addr) (len0 cap0 : Nat) (ss : List SymD) (hn : len0 = ss.length) (hle : len0 ≤ maxLen) (hr : RdS w a0 ss) (hall : ∀ s ∈ ss, s.name.size ≤ maxLen ∧ (Lit.int .i64 s.ar).wf = true) (hL : laidMetH Tryd.prog list3 w) :
    Calls Tryd.prog 3 #[.slice a0 len0 cap0] w fun e w' => e = .returned (.bool true) ∧ Below w.heap.size w w' := by
  have htab := pow3 hL
  have hsz : ∀ s ∈ ss, s.name.size ≤ maxLen := fun s hs => (hall s hs).1
  have hi : ∀ s ∈ ss, isI s.ar := fun s hs => by
    have h1 := (hall s hs).2
    simp [Lit.wf, IntKind.min, IntKind.max, IntKind.signed, IntKind.bits] at h1
    exact ⟨by omega, by omega⟩
  have SZ := szSyms_any a0 ss len0 cap0 1048576 w hn hr (by unfold maxLen at hle; omega) (by omega) (by omega) (fun s hs => by have := hsz s hs; unfold maxLen at this; omega)
  unfold maxLen at hle
  subst hn
  clear hall hL
  go_enter Tryd.func3, Tryd.ntmps3
  go_wp2_with (go_at_call 4; refine SZ.mono ?_; rintro e w1 ⟨r, rfl, hsm, hb1⟩; have hr1 := hr.below hb1; clear SZ hr)
  · go_ret
    exact ⟨rfl, hb1⟩
  · have hsum := hsm (by omega)
    have hl : ss.length ≤ 1048577 := by omega
    have hby : bytesOf ss ≤ 1048577 := by omega
    clear hsm hsum
    go_wp2_with (go_at_call 6; refine (toSyms_any a0 ss _ cap0 _ rfl hr1 hl).mono ?_; rintro e w2 ⟨rfl, hown2, hb2⟩; have hc2 := RdS.own rfl hown2; have hr2 := hr1.below hb2; have hB2 := hb1.trans (hb2.mono hb1.size); clear hown2 hb2 hb1 hr1)
    go_wp2_with (go_at_call 5; refine (specSigText_any _ ss _ _ _ rfl hc2 hl hby hi).mono ?_; rintro e w3 ⟨rfl, hb3⟩; have hr3 := hr2.below hb3; have hB3 := hB2.trans (hb3.mono hB2.size); clear hc2 hr2 hB2 hb3)
    go_wp2_with (go_at_call 6; refine (toSyms_any a0 ss _ cap0 _ rfl hr3 hl).mono ?_; rintro e w4 ⟨rfl, hown4, hb4⟩; have hc4 := RdS.own rfl hown4; have hr4 := hr3.below hb4; have hB4 := hB3.trans (hb4.mono hB3.size); clear hown4 hb4 hB3 hr3)
    go_wp2_with (go_at_call 7; refine (impSigText_any _ ss _ _ _ rfl hc4 hl hby hi hsz (tab_below gPow (by decide) htab hB4)).mono ?_; rintro e w5 ⟨rfl, hb5⟩; have hc5 := hc4.below hb5; have hr5 := hr4.below hb5; have hB5 := hB4.trans (hb5.mono hB4.size); clear hc4 hr4 hB4 hb5 htab)
    go_wp2_with (go_at_call 6; refine (toSyms_any a0 ss _ cap0 _ rfl hr5 hl).mono ?_; rintro e w6 ⟨rfl, hown6, hb6⟩; have hc6 := RdS.own rfl hown6; have hd6 := hc5.below hb6; have hB6 := hB5.trans (hb6.mono hB5.size); clear hown6 hb6 hB5 hr5 hc5)
    go_wp2_with (go_at_call 8; refine (eqSyms_same _ _ ss _ _ _ _ _ rfl rfl hd6 hc6 hl).mono ?_; rintro e w7 ⟨rfl, hb7⟩)
    go_ret
    exact ⟨rfl, hB6.trans (hb7.mono hB6.size)⟩

set_option maxRecDepth 100000 in
theorem fnExactSigText_lifted (os : Os) (started : os.Started) (H : Type) (enc : TypeId × Value → H) :
    ReturnsInHanded {} Tryd.checked os 3 .any (fun w args => (Rows.fnExactSigTextSpec.pre enc Tryd.prog Tryd.f3 [] false w args ∧ laidMetH Tryd.prog list3 w) ∧ sizedMet enc Tryd.prog Tryd.f3 (OpenSpec.ofChange Rows.fnExactSigTextSpec) false w args)
      (Rows.fnExactSigTextSpec.post enc Tryd.prog Tryd.f3 false true false false) := by
  refine returnsInHanded_of_change_and (C := Tryd.checked) (X := fun w _ => laidMetH Tryd.prog list3 w) (fun _ _ _ hh h => h.of_heap hh) knob started (by kernel_rfl) Tryd.func3
    (ChangeSpec.witness_shaped (enc := enc) (C := Tryd.checked) (os := os) (X := fun w _ => laidMetH Tryd.prog list3 w) false (World.doorLaid Tryd.prog 400 os) #[.slice none 0 0] 8 rfl (World.shaped_of_RefB (by kernel_rfl) (by kernel_rfl)) (by kernel_rfl) (by kernel_rfl) (by kernel_rfl) (met3 os _)) ?_
  intro W base args ds gs before hval0 hW _ _ hL _
  have hval : ∀ (j : Nat) t v, Tryd.f3.params[j]? = some t → args[j]? = some v → Value.okWide Tryd.prog W .any base t v := hval0
  have hW' := hW
  obtain ⟨p, q, hA0, hV, rfl, hfz, hnd⟩ := hW
  have hA : DataW.TrodAll enc Tryd.prog W 0 (fun _ => true) true Tryd.f3.params.toList args.toList ds p := hA0
  rw [Tryd.params3] at hA hval
  obtain ⟨v0, vs0, d0, ds0, p0, q0, hargs, rfl, rfl, h0, r0⟩ := trodAll_cons hA
  obtain ⟨rfl, rfl, rfl⟩ := trodAll_nil r0
  obtain rfl : args = #[v0] := by cases args; simp_all
  obtain ⟨rfl, rfl⟩ := trodVars_none hV
  obtain ⟨a0, len0, cap0, rfl⟩ := okWide_slice Tryd.underlying22 (hval 0 22 v0 rfl rfl)
  have k0 := h0
  have lt0 : ∀ x ∈ p0, x.block < W.heap.size := by obtain ⟨m, hm⟩ := k0; exact DataW.trod_lt m _ _ _ hm
  obtain ⟨ss0, hn0, hle0, hr0, hall0⟩ := open_syms rfl h0
  clear hA0 hval0
  refine (fnExactSigText_walk W a0 len0 cap0 ss0 hn0 hle0 hr0 hall0 hL).mono fun e W' ⟨he, bel⟩ => ?_
  subst he
  exact ⟨_, rfl, _, _, _, [], _, [], hW', trodAll_mk1 (shut_bool Tryd.underlying4 _), (trodAll_cons_mk (Below.trod fnExactSigText_laidOut (by kernel_rfl) (of_decide_eq_true (by kernel_rfl)) k0 bel lt0) trodAll_mk0), by first | rfl | simp, bel.frame _, fun h => by cases h⟩

theorem fnExactSigText_row : Rows.FnExactSigTextSaid :=
  OpenClaim.holds_of_wide 3 Tryd.f3 rfl rfl rfl rfl rfl rfl rfl ⟨rfl, rfl, rfl, rfl, rfl⟩ rfl rfl rfl rfl rfl (by kernel_rfl) Tryd.func3 (by kernel_rfl)
    (of_decide_eq_true (by kernel_rfl)) (by unfold Func.isWrapper; first | (rw [if_pos (by decide +kernel)]; kernel_rfl) | (rw [if_neg (by decide +kernel)]; exact ⟨rfl, rfl⟩))
    (fun os started H enc _ => fnExactSigText_lifted os started H enc)

theorem fnExactSigText_holds : Rows.FnExactSigTextCardSaid :=
  Claim7.holds_tied_plain_at .later [] [.data, .data, .data] true (true, "4372371fa58a1d9e81428aab1131f66b6649fc2ec012d04a1e1e4310d5b672a6") false
    fnExactSigText_row (fun _ h => by cases h) (by kernel_rfl) (fun _ h => by cases h) fnExactSigText_row_tie rfl ⟨rfl, rfl⟩ (by kernel_rfl) rfl
    (fun f fn hf hfn => by
      obtain rfl : f = 3 := Option.some.inj ((show Tryd.prog.funcNamed "loop.example/g00461/laws.FnExactSigText" = some 3 by kernel_rfl).symm.trans hf) |>.symm
      obtain rfl : fn = Tryd.f3 := (Option.some.inj (Tryd.func3.symm.trans hfn)).symm
      exact ⟨by kernel_rfl, fun j t ht => by
        rw [Tryd.params3] at ht
        have hm : t ∈ [22] := by simpa using Array.mem_of_getElem? ht
        have hall : ([22].all fun u => !Tryd.prog.wantsStandIn u) = true := by kernel_rfl
        exact (show Tryd.prog.wantsStandIn t = false by simpa using List.all_eq_true.1 hall t hm)⟩)
    (by kernel_rfl)
#print axioms fnExactSigText_holds
end Go.Proofs.YtpcimneinnanbabDoor
