/- The law FnExactNumsText answers true at every list of numbers, and leaves it as it was: NumsText answers as its specification. Conditions: those of the given card (three tables of the library hold what their own text lays; tied to it). -/
import Derived.Test.YtefmmcdhpepmaaaDoorRows
import Derived.Test.YtefmmcdhpepmaaaDoorCards
import Derived.Test.YtefmmcdhpepmaaaDoorTie
import Derived.Test.YtefmmcdhpepmaaaDoorLaid
import Derived.Test.YtefmmcdhpepmaaaDoorText
import Derived.ChangeOld
import Derived.SevenTiedAt
namespace Go.Proofs.YtefmmcdhpepmaaaDoor
open Go.ChangeShapes Go.WideShapes Go.ChangeAt Go.RowKit

theorem laidOutD : laidOutB Tryd.prog = true := by kernel_rfl
theorem own_cellsD {w : World} {base g c : Nat} {zs : List Int} {n : Nat} (hn : n = zs.length) (h : w.ownsRow base 3 1 (.slice (some ⟨g, 0, none⟩) n c) n (ints zs)) :
    g < w.heap.size ∧ ∀ i, i < zs.length → w.cell? ⟨g, 0 + i, none⟩ = some (.int .i64 (zs[i]?.getD 0)) := by
  subst hn
  refine ⟨(h.lt g rfl).2, fun i hi => ?_⟩
  rw [show (0 + i) = i by omega, h.cellAt i (by omega)]
  simp [ints, hi]
theorem ints_of {w : World} {a : Option Addr} {len cap : Nat} {zs : List Int} (h : IsRow .i64 w a len cap zs) : ∀ z ∈ zs.take len, isInt z := by
  intro z hz
  have hz' := List.mem_of_mem_take hz
  rcases h with ⟨rfl, rfl, rfl, rfl⟩ | ⟨x, rfl, hl, hm, hlz, hc, hw⟩
  · simp at hz'
  · exact bounds_i64 (hw z hz')

set_option maxHeartbeats 1600000 in
theorem fnExactNumsText_walk (a0 : Option Addr) (len0 cap0 : Nat) (z0 : List Int) (w : World) (w0 : IsRow .i64 w a0 len0 cap0 z0) (htab : Lib.TabIs Tryd.prog w "internal/strconv.uint64pow10" .u64 Lib.pow10Tab) :
    Calls Tryd.prog 6 #[.slice a0 len0 cap0] w fun e w' => e = .returned (.bool true) ∧ Below w.heap.size w w' := by
  have hi0 := ints_of w0
  obtain ⟨hrd, hlen, hle⟩ := rd_of w0
  clear w0
  by_cases hbig : 1048576 < len0
  · have hbig' : (1048576 : Int) < (len0 : Int) := by omega
    clear hbig hrd hlen htab hi0
    unfold maxLen at hle
    go_enter Tryd.func6, Tryd.ntmps6
    go_wp2
    go_ret
    exact ⟨rfl, Below.refl _ _⟩
  · generalize hzs : z0.take len0 = zs at hrd hlen hi0
    clear hzs
    subst hlen
    have hbig' : ¬ (1048576 : Int) < (zs.length : Int) := by omega
    have hl : zs.length ≤ 1048577 := by omega
    have T1 := toInts_any a0 zs _ cap0 w rfl hrd hl
    clear hle hbig
    have HI : Hid (∀ z ∈ zs, isInt z) := hi0
    clear hi0
    go_enter Tryd.func6, Tryd.ntmps6
    go_wp2_with (go_at_call 23; refine T1.mono ?_; rintro e w1 ⟨rfl, hown1, hb1⟩; clear T1; have hr1 := Rd.own rfl hown1; have hra := hrd.below hb1; clear hrd hown1)
    go_wp2_with (go_at_call 20; refine (specText_any _ zs _ _ _ rfl hr1 hl HI.out).mono ?_; rintro e w2 ⟨rfl, hb2⟩; clear hr1; have hrb := hra.below hb2; have hB2 : Below w.heap.size w w2 := hb1.trans (hb2.mono hb1.size); clear hra hb1 hb2)
    go_wp2_with (go_at_call 23; refine (toInts_any a0 zs _ cap0 _ rfl hrb hl).mono ?_; rintro e w3 ⟨rfl, hown3, hb3⟩; have hr3 := Rd.own rfl hown3; obtain ⟨hlt3, hc3⟩ := own_cellsD rfl hown3; have hrc := hrb.below hb3; have hB3 := hB2.trans (hb3.mono hB2.size); clear hrb hown3 hb3 hB2)
    go_wp2_with (go_at_call 19; refine (text_any _ _ zs _ _ _ rfl hlt3 hc3 hl HI.out (tab_below gPow (by decide) htab hB3)).mono ?_; rintro e w4 ⟨rfl, hb4⟩; clear hlt3 hc3 htab; have hr4 := hr3.below hb4; have hrd4 := hrc.below hb4; have hB4 := hB3.trans (hb4.mono hB3.size); clear hr3 hrc hB3 hb4)
    go_wp2_with (go_at_call 23; refine (toInts_any a0 zs _ cap0 _ rfl hrd4 hl).mono ?_; rintro e w5 ⟨rfl, hown5, hb5⟩; have hr5 := Rd.own rfl hown5; have hr5' := hr4.below hb5; have hB5 := hB4.trans (hb5.mono hB4.size); clear hr4 hrd4 hown5 hb5 hB4)
    go_wp2_with (go_at_call 24; refine (eqInts_any _ _ zs zs _ _ _ _ _ rfl rfl hr5' hr5 hl hl).mono ?_; rintro e w6 ⟨rfl, q, rfl⟩; rw [eqB_self])
    go_ret
    exact ⟨rfl, below_drewN hB5 q⟩

set_option maxRecDepth 100000 in
theorem fnExactNumsText_lifted (os : Os) (started : os.Started) (H : Type) (enc : TypeId × Value → H) :
    ReturnsInHanded {} Tryd.checked os 6 .any (fun w args => (Rows.fnExactNumsTextSpec.pre enc Tryd.prog Tryd.f6 [] false w args ∧ laidMetH Tryd.prog list3 w) ∧ sizedMet enc Tryd.prog Tryd.f6 (OpenSpec.ofChange Rows.fnExactNumsTextSpec) false w args)
      (Rows.fnExactNumsTextSpec.post enc Tryd.prog Tryd.f6 false true false false) := by
  refine returnsInHanded_of_change_and (C := Tryd.checked) (X := fun w _ => laidMetH Tryd.prog list3 w) (fun _ _ _ hh h => h.of_heap hh) knob started (by kernel_rfl) Tryd.func6
    (ChangeSpec.witness_shaped (enc := enc) (C := Tryd.checked) (os := os) (X := fun w _ => laidMetH Tryd.prog list3 w) false (World.doorLaid Tryd.prog 400 os) #[.slice none 0 0] 8 rfl (World.shaped_of_RefB (by kernel_rfl) (by kernel_rfl)) (by kernel_rfl) (by kernel_rfl) (by kernel_rfl) (met3 os _)) ?_
  intro W base args ds gs before hval0 hW _ _ hL _
  have hval : ∀ (j : Nat) t v, Tryd.f6.params[j]? = some t → args[j]? = some v → Value.okWide Tryd.prog W .any base t v := hval0
  have hW' := hW
  obtain ⟨p, q, hA0, hV, rfl, hfz, hnd⟩ := hW
  have hA : DataW.TrodAll enc Tryd.prog W 0 (fun _ => true) true Tryd.f6.params.toList args.toList ds p := hA0
  rw [Tryd.params6] at hA hval
  obtain ⟨v0, d0, rfl, rfl, h0⟩ := trodAll_one hA
  obtain ⟨rfl, rfl⟩ := trodVars_none hV
  obtain ⟨a0, len0, cap0, rfl⟩ := okWide_slice Tryd.underlying28 (hval 0 28 v0 rfl rfl)
  have k0 := h0
  have lt0 : ∀ x ∈ p, x.block < W.heap.size := by obtain ⟨m, hm⟩ := k0; exact DataW.trod_lt m _ _ _ hm
  obtain ⟨z0, w0⟩ : ∃ zs, IsRow .i64 W a0 len0 cap0 zs := by
    obtain ⟨fuel, hf⟩ := h0
    rcases open_ints Tryd.underlying28 Tryd.underlying3 (by kernel_rfl) hf with ⟨hcs, _⟩ | ⟨x, l, c, zs, hcs, _, hl, hm, hz, _, hcell, hwz⟩
    · simp [Value.cells] at hcs
      obtain ⟨rfl, rfl, rfl⟩ := hcs
      exact ⟨[], .inl ⟨rfl, rfl, rfl, rfl⟩⟩
    · simp [Value.cells] at hcs
      obtain ⟨rfl, rfl, rfl⟩ := hcs
      exact ⟨zs, .inr ⟨_, rfl, hl, hm, by simpa using hz, hcell, hwz⟩⟩
  have htab := pow3 hL
  clear hA0 hval0
  refine (fnExactNumsText_walk a0 len0 cap0 z0 W w0 htab).mono fun e W' ⟨he, bel⟩ => ?_
  subst he
  exact ⟨_, rfl, _, _, _, [], _, [], hW', trodAll_mk1 (shut_bool Tryd.underlying4 _), trodAll_mk1 (Below.trod laidOutD (by kernel_rfl) (of_decide_eq_true (by kernel_rfl)) k0 bel lt0), rfl, bel.frame _, fun h => by cases h⟩

theorem fnExactNumsText_row : Rows.FnExactNumsTextSaid :=
  OpenClaim.holds_of_wide 6 Tryd.f6 rfl rfl rfl rfl rfl rfl rfl ⟨rfl, rfl, rfl, rfl, rfl⟩ rfl rfl rfl rfl rfl (by kernel_rfl) Tryd.func6 (by kernel_rfl)
    (of_decide_eq_true (by kernel_rfl)) (by unfold Func.isWrapper; first | (rw [if_pos (by decide +kernel)]; kernel_rfl) | (rw [if_neg (by decide +kernel)]; exact ⟨rfl, rfl⟩))
    (fun os started H enc _ => fnExactNumsText_lifted os started H enc)

theorem fnExactNumsText_holds : Rows.FnExactNumsTextCardSaid :=
  Claim7.holds_tied_plain_at .later [] [.data, .data, .data] true (true, "28dcdd18b729bbf2c8e9d1d8403dab04ee57576554c9d0724c3ecfb61a6b5069") true
    fnExactNumsText_row (fun _ h => by cases h) (by kernel_rfl) (fun _ h => by cases h) fnExactNumsText_row_tie rfl ⟨rfl, rfl⟩ (by kernel_rfl) rfl
    (fun f fn hf hfn => by
      obtain rfl : f = 6 := Option.some.inj ((show Tryd.prog.funcNamed "loop.example/g00461/laws.FnExactNumsText" = some 6 by kernel_rfl).symm.trans hf) |>.symm
      obtain rfl : fn = Tryd.f6 := (Option.some.inj (Tryd.func6.symm.trans hfn)).symm
      exact ⟨by kernel_rfl, fun j t ht => by
        rw [Tryd.params6] at ht
        have hm : t ∈ [28] := by simpa using Array.mem_of_getElem? ht
        have hall : ([28].all fun u => !Tryd.prog.wantsStandIn u) = true := by kernel_rfl
        exact (show Tryd.prog.wantsStandIn t = false by simpa using List.all_eq_true.1 hall t hm)⟩)
    (by kernel_rfl)
#print axioms fnExactNumsText_holds
end Go.Proofs.YtefmmcdhpepmaaaDoor
