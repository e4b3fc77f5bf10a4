/- The law FnNumbers answers true at every code, and leaves it as it was: drawn numbers are read from their digits; what is put into a list is in it. Conditions: those of the given card (three tables and two errors of the library hold what their own text lays; tied to it). -/
import Derived.Test.YtefmmcdhpepmaaaDoorRows
import Derived.Test.YtefmmcdhpepmaaaDoorCards
import Derived.Test.YtefmmcdhpepmaaaDoorTie
import Derived.Test.YtefmmcdhpepmaaaDoorLaid
import Derived.Test.YtefmmcdhpepmaaaDoorAdd
import Derived.ChangeOld
import Derived.SevenTiedAt
namespace Go.Proofs.YtefmmcdhpepmaaaDoor
open Go.ChangeShapes Go.WideShapes Go.ChangeAt Go.RowKit

theorem laidOutN : laidOutB Tryd.prog = true := by kernel_rfl
theorem hasB_ins (zs : List Int) (x : Int) : hasB (ins zs x) x = true := by
  unfold ins
  split
  · assumption
  · simp [hasB]
set_option maxHeartbeats 800000 in
theorem same_any (a a' : Option Addr) (zs ys : List Int) (n cap n' cap' : Nat) (w : World) (hn : n = zs.length) (hn' : n' = ys.length) (hr : Rd w a zs) (hr' : Rd w a' ys) (hl : zs.length ≤ 1048577) (hl' : ys.length ≤ 1048577) :
    Calls Tryd.prog 17 #[.slice a n cap, .slice a' n' cap'] w fun e w' => e = .returned (.bool (eqB zs ys)) ∧ ∃ q, w' = w.drewN q := by
  subst hn hn'
  by_cases hne : zs.length = ys.length
  · rcases hr with rfl | ⟨b, off, rfl, hlt, hc⟩
    · have : ys = [] := by simpa using hne.symm
      subst this
      go_enter Tryd.func17, Tryd.ntmps17
      go_wp2
      refine wp_loop_rounds 1 ?_
      rw [rounds_succ]
      go_wp2
      go_ret
      exact ⟨rfl, 0, rfl⟩
    · rcases hr' with rfl | ⟨b', off', rfl, hlt', hc'⟩
      · have : zs = [] := by simpa using hne
        subst this
        go_enter Tryd.func17, Tryd.ntmps17
        go_wp2
        refine wp_loop_rounds 1 ?_
        rw [rounds_succ]
        go_wp2
        go_ret
        exact ⟨rfl, 0, rfl⟩
      · have HN : Hid (zs.length = ys.length) := hne
        have ht : ((zs.length : Int) == (ys.length : Int)) = true := by simp [hne]
        clear hne
        go_enter Tryd.func17, Tryd.ntmps17
        go_wp2
        go_loopw [5] (fun i wr => ∃ k q : Nat, k ≤ zs.length ∧ i = .int .i64 k ∧ wr = w.drewN q ∧ zs.take k = ys.take k) (fun i _ => zs.length - (intOf i).toNat)
        case atStart => exact ⟨0, 0, Nat.zero_le _, rfl, rfl, by simp⟩
        case round =>
          obtain ⟨k, q, hk, rfl, rfl, h0⟩ := hrel
          have H0 : Hid (zs.take k = ys.take k) := h0
          clear h0
          by_cases hk' : k < zs.length
          · have hky : k < ys.length := by have := HN.out; omega
            have hck := hc k hk'
            have hck' := hc' k hky
            have hi1 : (k : Int) < (zs.length : Int) := by omega
            have hi2 : (k : Int) < (ys.length : Int) := by omega
            clear hc hc' ht
            go_wp2
            go_quiet (fail)
            go_wp2
            · go_ret
              exact ⟨ret_bool (eqB_hit hk' hky (by assumption)).symm, _, World.drewN_drewN _ _ _⟩
            · go_roundw
              case rel => exact ⟨k + 1, _, by omega, by go_num, rfl, eqB_step hk' hky H0.out (by assumption)⟩
              case measure => simp [intOf]; omega
          · go_wp2
            go_ret
            exact ⟨ret_bool (eqB_all hk' HN.out H0.out).symm, _, rfl⟩
  · have ht : ((zs.length : Int) == (ys.length : Int)) = false := by simp; omega
    have H0 : Hid (¬ zs.length = ys.length) := hne
    clear hne
    go_enter Tryd.func17, Tryd.ntmps17
    go_wp2
    go_ret
    exact ⟨ret_bool (eqB_len H0.out).symm, 0, rfl⟩

theorem own_cellsN {w : World} {base g c : Nat} {zs : List Int} {n : Nat} (hn : n = zs.length) (h : w.ownsRow base 3 1 (.slice (some ⟨g, 0, none⟩) n c) n (ints zs)) :
    g < w.heap.size ∧ ∀ i, i < zs.length → w.cell? ⟨g, 0 + i, none⟩ = some (.int .i64 (zs[i]?.getD 0)) := by
  subst hn
  refine ⟨(h.lt g rfl).2, fun i hi => ?_⟩
  rw [show (0 + i) = i by omega, h.cellAt i (by omega)]
  simp [ints, hi]
theorem codeOn {w w' : World} {a : Option Addr} {bs : List Int} (hr : ∀ c, w.heap.size ≤ c → RdB w c a bs) (hb : Below w.heap.size w w') : ∀ c, w'.heap.size ≤ c → RdB w' c a bs :=
  fun c hc => (hr c (Nat.le_trans hb.size hc)).below hb
theorem own_on {w w' : World} {base : Nat} {e : TypeId} {size : Nat} {v : Value} {n : Nat} {xs : List Value} (h : w.ownsRow base e size v n xs) (hb : Below w.heap.size w w') : w'.ownsRow base e size v n xs := own_below h hb
theorem own_capD {w : World} {base : Nat} {e : TypeId} {size g n c : Nat} {xs : List Value} (h : w.ownsRow base e size (.slice (some ⟨g, 0, none⟩) n c) n xs) : n ≤ c := own_cap h

/-- What is known of memory from the middle of the law on. -/
structure StN (w : World) (o p : List Int) (k : Int) (gO cO gA gP cP : Nat) (W : World) : Prop where
  bel : Below w.heap.size w W
  ownO : W.ownsRow w.heap.size 3 1 (.slice (some ⟨gO, 0, none⟩) o.length cO) o.length (ints o)
  ownA : W.ownsRow w.heap.size 3 1 (.slice (some ⟨gA, 0, none⟩) (ins o k).length (o.length + 1)) (ins o k).length (ints (ins o k))
  ownP : W.ownsRow w.heap.size 3 1 (.slice (some ⟨gP, 0, none⟩) p.length cP) p.length (ints p)
theorem StN.on {w : World} {o p : List Int} {k : Int} {gO cO gA gP cP : Nat} {W W' : World} (h : StN w o p k gO cO gA gP cP W) (hb : Below W.heap.size W W') : StN w o p k gO cO gA gP cP W' :=
  ⟨h.bel.trans (hb.mono h.bel.size), own_below h.ownO hb, own_below h.ownA hb, own_below h.ownP hb⟩

set_option maxHeartbeats 3200000 in
theorem numbers_small (a : Option Addr) (bs : List Int) (cap : Nat) (w : World) (hl : bs.length ≤ 1048576) (hr : ∀ c, w.heap.size ≤ c → RdB w c a bs) (hv : Vars w) :
    Calls Tryd.prog 3 #[.slice a bs.length cap] w fun e w' => e = .returned (.bool true) ∧ Below w.heap.size w w' := by
  have hbig' : ¬ (1048576 : Int) < (bs.length : Int) := by omega
  go_enter Tryd.func3, Tryd.ntmps3
  go_wp2_with (first
    | (go_at_call 7; go_in)
    | (go_at_call 8; refine (drawDigits_any a bs _ cap _ rfl hl hr).mono ?_; rintro e w1 ⟨d, rfl, hd, hb1⟩; obtain ⟨hd1, hd2⟩ := hd))
  go_wp2_with (go_at_call 9; refine (drawNumber_any a bs _ cap _ rfl hl (codeOn hr hb1)).mono ?_; rintro e w2 ⟨t, rfl, ht, hb2⟩; have hB2 := hb1.trans (hb2.mono hb1.size); clear hb1 hb2)
  have hv2 := hv.below hB2
  have ht2 : t.size ≤ maxLen := (by unfold maxLen; omega)
  have HN : 0 ≤ numV t.data.toList ∧ numV t.data.toList ≤ 999999 ∧ Hid (goodB t.data.toList = true → (Lib.itoa (numV t.data.toList) == t.toList) = true) := by
    cases hg : goodB t.data.toList with
    | true =>
      have h1 := good_num hg
      have h2 := good_back hg
      refine ⟨by omega, by omega, fun _ => ?_⟩
      rw [h1, h2.1, ByteArray.toList_eq]
      simp
    | false => rw [bad_num hg]; exact ⟨by omega, by omega, fun h => by cases h⟩
  generalize hm : numV t.data.toList = m at HN
  obtain ⟨hm0, hm1, HT⟩ := HN
  have hr2 := codeOn hr hB2
  clear hr hv
  go_wp2_with (go_at_call 10; refine (implNumber_any t _ (by omega) hv2).mono ?_; rw [hm]; rintro e w3 ⟨rfl, hb3⟩; have hv3 := hv2.below hb3; have hr3 := codeOn hr2 hb3; have hB3 := hB2.trans (hb3.mono hB2.size); clear hv2 hr2 hB2 hb3)
  go_wp2_with (go_at_call 11; refine (specNumber_any t _ ht2).mono ?_; rw [hm]; rintro e w4 ⟨rfl, hb4⟩; have hv4 := hv3.below hb4; have hr4 := codeOn hr3 hb4; have hB4 := hB3.trans (hb4.mono hB3.size); clear hv3 hr3 hB3 hb4)
  go_wp2_with (go_at_call 12; refine (drawAdd_any a bs _ cap _ rfl hl hr4).mono ?_; rintro e w5 ⟨gO, cO, o, k, rfl, hk, ho, hoi, hownO, hb5⟩; have hv5 := hv4.below hb5; have hr5 := codeOn hr4 hb5; have hB5 := hB4.trans (hb5.mono hB4.size); have hownO' := own_base hownO hB4.size; clear hv4 hr4 hB4 hb5 hownO)
  have HO : Hid (∀ z ∈ o, isInt z) := hoi
  have hol : o.length ≤ 1048577 := by omega
  obtain ⟨hltO, hcO⟩ := own_cellsN rfl hownO'
  clear hoi
  go_wp2_with (go_at_call 13; refine (implNumAdd_any _ _ o _ _ _ _ rfl hltO hcO hol).mono ?_; rintro e w6 ⟨rfl, hownA, hb6⟩; clear hltO hcO; have hv6 := hv5.below hb6; have hr6 := codeOn hr5 hb6; have hB6 := hB5.trans (hb6.mono hB5.size); have hO6 := own_below hownO' hb6; have hA6 := own_base hownA hB5.size; clear hv5 hr5 hB5 hb6 hownO' hownA)
  go_wp2_with (go_at_call 14; refine (drawText_any a bs _ cap _ rfl hl hr6).mono ?_; rintro e w7 ⟨gP, cP, p, rfl, hp, hpi, hownP, hb7⟩; have hv7 := hv6.below hb7; have S7 : StN w o p k gO cO w5.heap.size gP cP w7 := ⟨hB6.trans (hb7.mono hB6.size), own_below hO6 hb7, own_below hA6 hb7, own_base hownP hB6.size⟩; clear hv6 hr6 hB6 hb7 hO6 hA6 hownP)
  have HP : Hid (∀ z ∈ p, isInt z) := hpi
  have hpl : p.length ≤ 1048577 := by omega
  have hil := ins_len o k
  have hil2 : (ins o (k : Int)).length ≤ 1048577 := by omega
  have hcapO := own_cap S7.ownO
  generalize w5.heap.size = gA at S7 ⊢
  clear hpi
  go_wp2_with (go_at_call 15; refine (implDigits_any d _ hd1 hd2 hv7.pow).mono ?_; rintro e w8 ⟨rfl, hb8⟩; have hv8 := hv7.below hb8; have S8 := S7.on hb8; clear hv7 S7 hb8)
  go_wp2_with (go_at_call 16; refine (specDigits_any d _ hd1 hd2).mono ?_; rintro e w9 ⟨rfl, hb9⟩; have hv9 := hv8.below hb9; have S9 := S8.on hb9; clear hv8 S8 hb9)
  obtain ⟨hltO, hcO⟩ := own_cellsN rfl S9.ownO
  go_wp2_with (go_at_call 18; refine (specNumAdd_any _ o _ _ _ _ rfl hcapO hltO hcO hol).mono ?_; rintro e w10 ⟨gS, cS, rfl, hownS, hb10⟩; clear hltO hcO; have hv10 := hv9.below hb10; have S10 := S9.on hb10; have hrS := Rd.own rfl hownS; clear hv9 S9 hb10 hownS)
  go_wp2_with (go_at_call 17; refine (same_any _ _ _ _ _ _ _ _ _ rfl rfl (Rd.own rfl S10.ownA) hrS hil2 hil2).mono ?_; rintro e w11 ⟨rfl, q11, rfl⟩; have hb11 := below_drewN (Below.refl w10.heap.size w10) q11; have hv11 := hv10.below hb11; have S11 := S10.on hb11; clear hv10 S10 hrS hb11; rw [eqB_self])
  obtain ⟨hltP, hcP⟩ := own_cellsN rfl S11.ownP
  go_wp2_with (go_at_call 19; refine (text_any _ _ p _ _ _ rfl hltP hcP hpl HP.out hv11.pow).mono ?_; rintro e w12 ⟨rfl, hb12⟩; clear hltP hcP; have hv12 := hv11.below hb12; have S12 := S11.on hb12; clear hv11 S11 hb12)
  go_wp2_with (go_at_call 20; refine (specText_any _ p _ _ _ rfl (Rd.own rfl S12.ownP) hpl HP.out).mono ?_; rintro e w13 ⟨rfl, hb13⟩; have hv13 := hv12.below hb13; have S13 := S12.on hb13; clear hv12 S12 hb13)
  go_wp2_with (go_at_call 21; refine (implNumIn_any _ o _ _ _ _ rfl (Rd.own rfl S13.ownO) hol).mono ?_; rintro e w14 ⟨rfl, hw⟩; subst w14)
  have hia : hasB (ins o (k : Int)) (k : Int) = true := hasB_ins o k
  cases hg : goodB t.data.toList with
  | true =>
    have HT2 := HT.out hg
    clear hg HT
    go_wp2_with (go_at_call 22; refine (specNumIn_any _ o _ _ _ _ rfl (Rd.own rfl S13.ownO) hol).mono ?_; rintro e w15 ⟨rfl, hw⟩; subst w15)
    go_wp2_with (go_at_call 15; refine (implDigits_any m _ (by omega) (by omega) hv13.pow).mono ?_; rintro e w16 ⟨rfl, hb16⟩; have S16 := S13.on hb16; clear S13 hv13 hb16)
    go_wp2_with (go_at_call 21; refine (implNumIn_any _ (ins o (k : Int)) _ _ _ _ rfl (Rd.own rfl S16.ownA) hil2).mono ?_; rw [hia]; rintro e w17 ⟨rfl, hw⟩; subst w17)
    go_ret
    exact ⟨ret_bool (by simp; omega), S16.bel⟩
  | false =>
    clear hg HT
    go_wp2_with (go_at_call 22; refine (specNumIn_any _ o _ _ _ _ rfl (Rd.own rfl S13.ownO) hol).mono ?_; rintro e w15 ⟨rfl, hw⟩; subst w15)
    go_wp2_with (go_at_call 21; refine (implNumIn_any _ (ins o (k : Int)) _ _ _ _ rfl (Rd.own rfl S13.ownA) hil2).mono ?_; rw [hia]; rintro e w17 ⟨rfl, hw⟩; subst w17)
    go_ret
    exact ⟨ret_bool (by simp; omega), S13.bel⟩

theorem byte_of {a : Option Addr} {len cap : Nat} {zs : List Int} {w : World} (h : IsRow .u8 w a len cap zs) : (∀ c, w.heap.size ≤ c → RdB w c a (zs.take len)) ∧ len = (zs.take len).length ∧ len ≤ maxLen := by
  rcases h with ⟨rfl, rfl, rfl, rfl⟩ | ⟨x, rfl, hl, hm, hz, hc, hw⟩
  · exact ⟨fun c _ => ⟨fun z hz => by simp at hz, .inl rfl⟩, rfl, Nat.zero_le _⟩
  · have hlen : (zs.take len).length = len := by rw [List.length_take]; omega
    refine ⟨fun c hcc => ⟨fun z hz' => bounds_u8 (hw z (List.mem_of_mem_take hz')), ?_⟩, hlen.symm, by omega⟩
    by_cases h0 : len = 0
    · subst h0; exact .inl (by simp)
    · obtain ⟨b, off, spot⟩ := x
      have hc0 := hc 0 (by omega)
      have hspot : spot = none := by simpa [Addr.add] using World.cell?_spot hc0
      subst hspot
      have h1 : w.cell? ⟨b, off, none⟩ = some (.int .u8 (zs.getD 0 0)) := by simpa [Addr.add] using hc0
      have hb := World.block_lt_of_cell? _ _ h1
      simp at hb
      refine .inr ⟨b, off, rfl, hb, by omega, fun i hi => ?_⟩
      rw [hlen] at hi
      have h2 := hc i (by omega)
      rw [add_at] at h2
      rw [h2]
      simp [hi]

theorem fnNumbers_walk (a0 : Option Addr) (len0 cap0 : Nat) (z0 : List Int) (w : World) (w0 : IsRow .u8 w a0 len0 cap0 z0) (hv : Vars w) :
    Calls Tryd.prog 3 #[.slice a0 len0 cap0] w fun e w' => e = .returned (.bool true) ∧ Below w.heap.size w w' := by
  obtain ⟨hr, hlen, hle⟩ := byte_of w0
  clear w0
  by_cases hbig : 1048576 < len0
  · have hbig' : (1048576 : Int) < (len0 : Int) := by omega
    clear hbig hr hlen hv
    unfold maxLen at hle
    go_enter Tryd.func3, Tryd.ntmps3
    go_wp2
    go_ret
    exact ⟨rfl, Below.refl _ _⟩
  · generalize hzs : z0.take len0 = bs at hr hlen
    clear hzs
    subst hlen
    exact numbers_small a0 bs cap0 w (by omega) hr hv
set_option maxRecDepth 100000 in
theorem fnNumbers_lifted (os : Os) (started : os.Started) (H : Type) (enc : TypeId × Value → H) :
    ReturnsInHanded {} Tryd.checked os 3 .any (fun w args => (Rows.fnNumbersSpec.pre enc Tryd.prog Tryd.f3 [] false w args ∧ laidMetH Tryd.prog list5 w) ∧ sizedMet enc Tryd.prog Tryd.f3 (OpenSpec.ofChange Rows.fnNumbersSpec) false w args)
      (Rows.fnNumbersSpec.post enc Tryd.prog Tryd.f3 false true false false) := by
  refine returnsInHanded_of_change_and (C := Tryd.checked) (X := fun w _ => laidMetH Tryd.prog list5 w) (fun _ _ _ hh h => h.of_heap hh) knob started (by kernel_rfl) Tryd.func3
    (ChangeSpec.witness_shaped (enc := enc) (C := Tryd.checked) (os := os) (X := fun w _ => laidMetH Tryd.prog list5 w) false (World.doorLaid Tryd.prog 400 os) #[.slice none 0 0] 8 rfl (World.shaped_of_RefB (by kernel_rfl) (by kernel_rfl)) (by kernel_rfl) (by kernel_rfl) (by kernel_rfl) (met5 os _)) ?_
  intro W base args ds gs before hval0 hW _ _ hL _
  have hval : ∀ (j : Nat) t v, Tryd.f3.params[j]? = some t → args[j]? = some v → Value.okWide Tryd.prog W .any base t v := hval0
  have hW' := hW
  obtain ⟨p, q, hA0, hV, rfl, hfz, hnd⟩ := hW
  have hA : DataW.TrodAll enc Tryd.prog W 0 (fun _ => true) true Tryd.f3.params.toList args.toList ds p := hA0
  rw [Tryd.params3] at hA hval
  obtain ⟨v0, d0, rfl, rfl, h0⟩ := trodAll_one hA
  obtain ⟨rfl, rfl⟩ := trodVars_none hV
  obtain ⟨a0, len0, cap0, rfl⟩ := okWide_slice Tryd.underlying22 (hval 0 22 v0 rfl rfl)
  have k0 := h0
  have lt0 : ∀ x ∈ p, x.block < W.heap.size := by obtain ⟨m, hm⟩ := k0; exact DataW.trod_lt m _ _ _ hm
  obtain ⟨z0, w0⟩ : ∃ zs, IsRow .u8 W a0 len0 cap0 zs := by
    obtain ⟨fuel, hf⟩ := h0
    rcases open_ints Tryd.underlying22 Tryd.underlying5 (by kernel_rfl) hf with ⟨hcs, _⟩ | ⟨x, l, c, zs, hcs, _, hl, hm, hz, _, hcell, hwz⟩
    · simp [Value.cells] at hcs
      obtain ⟨rfl, rfl, rfl⟩ := hcs
      exact ⟨[], .inl ⟨rfl, rfl, rfl, rfl⟩⟩
    · simp [Value.cells] at hcs
      obtain ⟨rfl, rfl, rfl⟩ := hcs
      exact ⟨zs, .inr ⟨_, rfl, hl, hm, by simpa using hz, hcell, hwz⟩⟩
  have hv := vars5 hL
  clear hA0 hval0
  refine (fnNumbers_walk a0 len0 cap0 z0 W w0 hv).mono fun e W' ⟨he, bel⟩ => ?_
  subst he
  exact ⟨_, rfl, _, _, _, [], _, [], hW', trodAll_mk1 (shut_bool Tryd.underlying4 _), trodAll_mk1 (Below.trod laidOutN (by kernel_rfl) (of_decide_eq_true (by kernel_rfl)) k0 bel lt0), rfl, bel.frame _, fun h => by cases h⟩

theorem fnNumbers_row : Rows.FnNumbersSaid :=
  OpenClaim.holds_of_wide 3 Tryd.f3 rfl rfl rfl rfl rfl rfl rfl ⟨rfl, rfl, rfl, rfl, rfl⟩ rfl rfl rfl rfl rfl (by kernel_rfl) Tryd.func3 (by kernel_rfl)
    (of_decide_eq_true (by kernel_rfl)) (by unfold Func.isWrapper; first | (rw [if_pos (by decide +kernel)]; kernel_rfl) | (rw [if_neg (by decide +kernel)]; exact ⟨rfl, rfl⟩))
    (fun os started H enc _ => fnNumbers_lifted os started H enc)

theorem fnNumbers_holds : Rows.FnNumbersCardSaid :=
  Claim7.holds_tied_plain_at .later [] [.data, .data, .data, .sentinel, .sentinel] true (true, "28dcdd18b729bbf2c8e9d1d8403dab04ee57576554c9d0724c3ecfb61a6b5069") true
    fnNumbers_row (fun _ h => by cases h) (by kernel_rfl) (fun _ h => by cases h) fnNumbers_row_tie rfl ⟨rfl, rfl⟩ (by kernel_rfl) rfl
    (fun f fn hf hfn => by
      obtain rfl : f = 3 := Option.some.inj ((show Tryd.prog.funcNamed "loop.example/g00461/laws.FnNumbers" = some 3 by kernel_rfl).symm.trans hf) |>.symm
      obtain rfl : fn = Tryd.f3 := (Option.some.inj (Tryd.func3.symm.trans hfn)).symm
      exact ⟨by kernel_rfl, fun j t ht => by
        rw [Tryd.params3] at ht
        have hm : t ∈ [22] := by simpa using Array.mem_of_getElem? ht
        have hall : ([22].all fun u => !Tryd.prog.wantsStandIn u) = true := by kernel_rfl
        exact (show Tryd.prog.wantsStandIn t = false by simpa using List.all_eq_true.1 hall t hm)⟩)
    (by kernel_rfl)
#print axioms fnNumbers_holds
end Go.Proofs.YtefmmcdhpepmaaaDoor
