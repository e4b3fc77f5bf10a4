/- The law FnBasisSums answers true at every code, and leaves it as it was: sums of a drawn basis solve. Conditions: none beyond the given row's own. -/
import Derived.Test.YthbilahilmmfmaaRows
import Derived.Test.YthbilahilmmfmaaPackBasisSums8
import Derived.WalkKit
import Derived.ProofKit
import Derived.OpenShut
import Derived.ShutString
import Derived.ChangeOld
import Derived.Below
namespace Go.Proofs.Ythbilahilmmfmaa.fnBasisSums
open Go.ChangeShapes Go.WideShapes Go.ChangeAt Go.RowKit
open Go.ChangeMaps (open_string shut_string)
set_option linter.unusedVariables false

theorem own : ownKnob Try.prog.godebug = none := by kernel_rfl
theorem laidOut : laidOutB Try.prog = true := by kernel_rfl

set_option maxHeartbeats 6400000 in
set_option maxRecDepth 100000 in
theorem small (a : Option Addr) (bs : List Int) (cap : Nat) (w : World) (hl : bs.length ≤ 1048576) (hr : ∀ c, w.heap.size ≤ c → RdB w c a bs) :
    Calls Try.prog 4 #[.slice a bs.length cap] w fun e w' => e = .returned (.bool true) ∧ Below w.heap.size w w' := by
  have hbig' : ¬ (1048576 : Int) < (bs.length : Int) := by omega
  have CD := drawBasis_any a bs cap w hl hr
  have HS : SolsSeq := fun w a b a0 a1 c0 c1 B1 B2 ha hb Kp k1 k2 kl b1 b2 ra rb => sols_seq w a b a0 a1 c0 c1 B1 B2 ha hb Kp k1 k2 kl b1 b2 ra rb
  have hrb : RdB w w.heap.size a bs := hr _ (Nat.le_refl _)
  obtain ⟨i0, hi, hz0, hz1, hz2⟩ := info_parts Try.infoR
  clear hr
  go_enter Try.func4, Try.ntmps4
  go_wp2_with (first
    | (go_at_call 7; go_in)
    | (go_at_call 8; refine CD.mono ?_; rintro e w1 ⟨g1, k1, xs, g2, k2, ys, rfl, hx, hy, R1, R2, hB1⟩; clear CD))
  have hm0 : xs.length ≤ 1048577 := by omega
  have hm1 : ys.length ≤ 1048577 := by omega
  have CS := fun (W : World) (h : Below w1.heap.size w1 W) => specBasis_any (some ⟨g1, 0, none⟩) (some ⟨g2, 0, none⟩) xs ys k1 k2 W (R1.below h) (R2.below h) hm0 hm1
  have CI := fun (W : World) (h : Below w1.heap.size w1 W) => basis_any HS (some ⟨g1, 0, none⟩) (some ⟨g2, 0, none⟩) xs ys k1 k2 W (R1.below h) (R2.below h) hm0 hm1
  have HP : Hid (_ → _) := basP_ok (a := xs) (b := ys)
  generalize basP xs ys = PR at CS CI HP
  obtain ⟨R, u⟩ := PR
  simp only at CS CI
  have HP2 : Hid (u = true → (1 ≤ xs.length ∧ xs.length ≤ 5 ∧ 1 ≤ ys.length ∧ ys.length ≤ 5 ∧ (∀ v ∈ xs, 1 ≤ v ∧ v ≤ 4) ∧ ∀ v ∈ ys, 1 ≤ v ∧ v ≤ 4) ∧ R.length ≤ 60 ∧ ∀ r ∈ R, OkRow xs ys r) := HP.out
  clear HP HS
  cases u
  · go_wp2_with (go_at_call 9; refine (CI w1 (Below.refl _ _)).mono ?_; rintro e w2 ⟨aG, cG, rfl, hG, hb2⟩; have HG : Hid (RdQ w2 aG R) := hG.rd; have hB2 := hB1.trans (hb2.mono hB1.size); clear hG CI)
    go_wp2_with (go_at_call 10; refine (CS w2 hb2).mono ?_; rintro e w3 ⟨aW, cW, rfl, hW, hb3⟩; have HG3 : Hid (RdQ w3 aG R) := HG.out.below hb3; have hB3 := hB2.trans (hb3.mono hB2.size); have HR1 : Hid (Rd w3 (some ⟨g1, 0, none⟩) xs) := (R1.below hb2).below hb3; have HR2 : Hid (Rd w3 (some ⟨g2, 0, none⟩) ys) := (R2.below hb2).below hb3; clear hW HG CS hB1 hB2 hb2 hb3 R1 R2)
    go_ret
    exact ⟨rfl, hB3⟩
  · go_wp2_with (go_at_call 9; refine (CI w1 (Below.refl _ _)).mono ?_; rintro e w2 ⟨aG, cG, rfl, hG, hb2⟩; have HG : Hid (RdQ w2 aG R) := hG.rd; have hB2 := hB1.trans (hb2.mono hB1.size); clear hG CI)
    go_wp2_with (go_at_call 10; refine (CS w2 hb2).mono ?_; rintro e w3 ⟨aW, cW, rfl, hW, hb3⟩; have HG3 : Hid (RdQ w3 aG R) := HG.out.below hb3; have hB3 := hB2.trans (hb3.mono hB2.size); have HR1 : Hid (Rd w3 (some ⟨g1, 0, none⟩) xs) := (R1.below hb2).below hb3; have HR2 : Hid (Rd w3 (some ⟨g2, 0, none⟩) ys) := (R2.below hb2).below hb3; clear hW HG CS hB1 hB2 hb2 hb3 R1 R2)
    obtain ⟨hF, hR60, hRow⟩ := HP2.out (by first | exact rfl | trivial)
    have HROW : Hid (∀ r ∈ R, OkRow xs ys r) := hRow
    have HF : Hid _ := hF
    have hrb3 : RdB w3 w.heap.size a bs := hrb.onS hB3
    clear HP2 hRow hF
    go_wp2_with fail
    go_loopw [9, 10] (fun o i wr => ∃ (k g c : Nat) (vs : List Value) (S : List (List Int)), k ≤ R.length ∧ i = .int .i64 k ∧ o = .slice (some ⟨g, 0, none⟩) S.length c ∧ S.length ≤ 2 * k ∧ Hid (BS w3.heap.size w3 R g c vs S wr)) (fun _ i _ => R.length - (intOf i).toNat)
    case atStart => exact ⟨0, w3.heap.size, 0, [], [], Nat.zero_le _, rfl, rfl, Nat.le_refl _, ⟨World.ownsRow_made w3 #[] 0 (Nat.le_refl _) (Nat.zero_le _) rfl, ⟨rfl, fun i h => by simp at h⟩, fun r h => by simp at h, (Below.refl _ _).alloc (Nat.le_refl _) _⟩⟩
    case round =>
      obtain ⟨k, g, c, vs, S, hk, rfl, rfl, hS, HB⟩ := hrel
      by_cases hk' : k < R.length
      · have hki : (k : Int) < (R.length : Int) := by omega
        have hzk := atV_ge bs k hrb.1
        have AT := fun (W : World) (h : Below w3.heap.size w3 W) => at_any w.heap.size a bs cap k W hl (hrb3.onS h) (by omega)
        obtain ⟨z, hz⟩ : ∃ z, z = atV bs k := ⟨_, rfl⟩
        rw [← hz] at hzk AT
        have HZ3 : Hid (0 ≤ z % 3 ∧ z % 3 ≤ 2) := by show _ ∧ _; omega
        clear hz
        obtain ⟨bl, off, rfl, hbl, hrows⟩ : ∃ b off, aG = some ⟨b, off, none⟩ ∧ b < w3.heap.size ∧ ∀ i, (h : i < R.length) → ∃ ai ci, w3.cell? ⟨b, off + i, none⟩ = some (.slice ai R[i].length ci) ∧ Rd w3 ai R[i] := by
          rcases HG3.out with h | h
          · rw [h] at hk'; simp at hk'
          · exact h
        obtain ⟨ai, ci, hcell, hrow⟩ := hrows k hk'
        have HRI : Hid (RdI (fun x => x < w3.heap.size) w3 ai R[k]) := by
          rcases hrow with h | ⟨b', o', h1, h2, h3⟩
          · have := (HROW.out R[k] (List.getElem_mem hk')).1
            rw [h] at this; simp at this; omega
          · exact ⟨b', o', h1, h2, h2, h3⟩
        have HIN : Hid (R[k] ∈ R) := List.getElem_mem hk'
        clear hrows hrow
        generalize R[k] = row at hcell HRI HIN
        have hki0 : (0 : Int) ≤ (k : Int) := by omega
        go_wp2_with fail
        go_loopw [9, 11] (fun o j wr => ∃ (m g c : Nat) (vs : List Value) (T : List (List Int)), (m : Int) ≤ z % 3 ∧ j = .int .i64 m ∧ o = .slice (some ⟨g, 0, none⟩) T.length c ∧ T.length ≤ 2 * k + m ∧ Hid (BS w3.heap.size w3 R g c vs T wr)) (fun _ j _ => 2 - (intOf j).toNat)
        case atStart => exact ⟨0, g, c, vs, S, HZ3.out.1, rfl, rfl, hS, HB⟩
        case round =>
          obtain ⟨m, g', c', vs', T, hm, rfl, rfl, hT, HT⟩ := hrel
          have hb3 := HT.out.bel
          by_cases hm' : (m : Int) < z % 3
          · have hm2 : m < 2 := by have := HZ3.out.2; omega
            have hcw := keepC hb3 hcell
            have hgw := HT.out.own.lt g' rfl
            have hws := hb3.size
            go_wp2_with (first
              | (go_at_call 21; refine (AT _ hb3).mono ?_; rintro e w4 ⟨rfl, hw⟩; subst w4)
              | (at_builtin; refine wpList_append_own_at _ rfl (.tmp 56) (.tmp 61) 27 rfl w3.heap.size 24 i0 (.slice none 0 0) 1 24 Try.underlying27 hi hz0 hz1 hz2 rfl (by decide) _ T.length vs' rfl (HT.out.own.alloc _) ⟨wr.heap.size, 0, none⟩ 1 1 [.slice ai row.length ci] rfl rfl (one_new _ _ _) (slice_one _ _ _) (by unfold maxLen; omega) (by omega) (by simp; omega) ?_; intro v9 w9 hown9 hgrow9 hnil9 hat9; obtain ⟨g9, c9, rfl⟩ := own_some hown9 hnil9; have HO9 : Hid (w9.ownsRow w3.heap.size 24 1 (.slice (some ⟨g9, 0, none⟩) (T.length + 1) c9) (T.length + 1) (vs' ++ [.slice ai row.length ci])) := hown9; have hb9 : Below w3.heap.size w3 w9 := (hb3.alloc hws _).grown hgrow9 (by simp; omega) (fun x hx => by cases hx; exact hgw.1); clear hnil9 hgrow9 hat9 hown9))
            have R1 : Hid (BS w3.heap.size w3 R g9 c9 (vs' ++ [.slice ai row.length ci]) (T ++ [row]) w9) := ⟨by rw [List.length_append, List.length_singleton]; exact HO9.out, HT.out.rows.snoc HRI.out, fun r hr => by rcases List.mem_append.1 hr with h | h; exact HT.out.sub r h; rw [List.mem_singleton.1 h]; exact HIN.out, hb9⟩
            clear HO9 hb9 HT
            refine ⟨⟨m + 1, g9, c9, _, T ++ [row], by omega, by go_num, by rw [List.length_append, List.length_singleton], by rw [List.length_append, List.length_singleton]; omega, R1⟩, by simp [intOf]; omega⟩
          · go_wp2_with (go_at_call 21; refine (AT _ hb3).mono ?_; rintro e w4 ⟨rfl, hw⟩; subst w4)
            go_roundw
            case rel => exact ⟨k + 1, g', c', vs', T, by omega, by go_num, rfl, by have := HZ3.out.2; omega, HT⟩
            case measure => simp [intOf]; omega
      · have hki : ¬ (k : Int) < (R.length : Int) := by omega
        have hek : k = R.length := by omega
        have hS2 : S.length ≤ 120 := by omega
        have HSV : Hid (_ ∧ _ ∧ _) := sum_solves (a := xs) (b := ys) (S := S) (by omega) (by omega) (by omega) (fun r hr => HROW.out r (HB.out.sub r hr))
        have IS := impSum_any (some ⟨g, 0, none⟩) S c ((xs.length : Int) + (ys.length : Int)) wr HB.out.rd (by omega) (fun r hr => by have := (HROW.out r (HB.out.sub r hr)).1; omega)
        have hbr := HB.out.bel
        have hBr := hB3.trans (hbr.mono hB3.size)
        have RX := HR1.out.below hbr
        have RY := HR2.out.below hbr
        have HSL : Hid (smallL xs ∧ smallL ys) := ⟨fun v hv => by have := HF.out.2.2.2.2.1 v hv; omega, fun v hv => by have := HF.out.2.2.2.2.2 v hv; omega⟩
        generalize sumL S ((xs.length : Int) + (ys.length : Int)) = X at IS HSV
        have hX : X.length = xs.length + ys.length := HSV.out.1
        have HX : Hid (X.length = xs.length + ys.length) := hX
        have hX10 : X.length ≤ 10 := by omega
        have hX1 : 1 ≤ X.length := by omega
        clear hX
        go_wp2_with (go_at_call 19; refine IS.mono ?_; rintro e w5 ⟨aS, cS, rfl, hoS, hb5⟩; have HO5 : Hid _ := hoS; clear hoS IS)
        obtain ⟨gS, rfl, hcS⟩ : ∃ gS, aS = some ⟨gS, 0, none⟩ ∧ X.length ≤ cS := by
          rcases HO5.out.2 with ⟨_, h⟩ | ⟨g', cap', cur, e', _, _, h1, _⟩
          · omega
          · cases e'; exact ⟨g', rfl, h1⟩
        have SV := impSolves_any (some ⟨g1, 0, none⟩) (some ⟨g2, 0, none⟩) (some ⟨gS, 0, none⟩) xs ys X k1 k2 cS w5 (RX.below hb5) (RY.below hb5) (Rd.own rfl HO5.out) hx.1 (by omega) hy.1 (by omega) (by omega) hcS HSL.out.1 HSL.out.2 HSV.out.2.1
        rw [HSV.out.2.2] at SV
        go_wp2_with (go_at_call 14; refine SV.mono ?_; rintro e w6 ⟨rfl, hb6⟩; clear SV)
        go_ret
        exact ⟨rfl, (hBr.trans (hb5.mono hBr.size)).trans (hb6.mono ((hBr.trans (hb5.mono hBr.size)).size))⟩

theorem walk (w : World) (a0 : Option Addr) (len0 cap0 : Nat) (bs : List Int) (hn : len0 = bs.length) (hle : len0 ≤ maxLen) (hr : ∀ c, w.heap.size ≤ c → RdB w c a0 bs) :
    Calls Try.prog 4 #[.slice a0 len0 cap0] w fun e w' => e = .returned (.bool true) ∧ Below w.heap.size w w' := by
  subst hn
  by_cases hbig : 1048576 < bs.length
  · have hbig' : (1048576 : Int) < (bs.length : Int) := by omega
    unfold maxLen at hle
    clear hbig hr
    go_enter Try.func4, Try.ntmps4
    go_wp2
    go_ret
    exact ⟨rfl, Below.refl _ _⟩
  · exact small a0 bs cap0 w (by omega) hr

set_option maxRecDepth 100000 in
theorem lifted (os : Os) (started : os.Started) (H : Type) (enc : TypeId × Value → H) :
    ReturnsInHanded {} Try.checked os 4 .any (Rows.fnBasisSumsSpec.pre6 enc Try.prog Try.f4 Rows.fnBasisSumsRow.domain false) (Rows.fnBasisSumsSpec.post enc Try.prog Try.f4 false true false false) := by
  refine returnsInHanded_of_change (C := Try.checked) own started (by kernel_rfl) Try.func4
    (ChangeSpec.witness6 (enc := enc) (C := Try.checked) false ⟨#[], #[.slice none 0 0], []⟩ 8 (by kernel_rfl) (by kernel_rfl) (by kernel_rfl) (by kernel_rfl)) ?_
  intro W base args ds gs before hval0 hW hcnd _
  have hval : ∀ (j : Nat) t v, Try.f4.params[j]? = some t → args[j]? = some v → Value.okWide Try.prog W .any base t v := hval0
  have hW' := hW
  obtain ⟨p, q, hA0, hV, rfl, hfz, hnd⟩ := hW
  have hA : DataW.TrodAll enc Try.prog W 0 (fun _ => true) true Try.f4.params.toList args.toList ds p := hA0
  rw [Try.params4] at hA hval
  obtain ⟨v0, vs0, d0, ds0, p0, q0, hargs, rfl, rfl, h0, r0⟩ := trodAll_cons hA
  obtain ⟨rfl, rfl, rfl⟩ := trodAll_nil r0
  obtain rfl : args = #[v0] := by cases args; simp_all
  obtain ⟨rfl, rfl⟩ := trodVars_none hV
  obtain ⟨a0, len0, cap0, rfl⟩ := okWide_slice Try.underlying22 (hval 0 22 v0 rfl rfl)
  have k0 := h0
  have lt0 : ∀ x ∈ p0, x.block < W.heap.size := by obtain ⟨m, hm⟩ := k0; exact DataW.trod_lt m _ _ _ hm
  obtain ⟨bs0, hn0, hle0, hr0⟩ := open_code rfl h0
  clear hA0 hval0
  refine (walk W a0 len0 cap0 bs0 hn0 hle0 hr0).mono fun e W' ⟨he, bel⟩ => ?_
  subst he
  exact ⟨_, rfl, _, _, _, [], _, [], hW', trodAll_mk1 (shut_bool Try.underlying4 _), (trodAll_cons_mk (Below.trod laidOut (by kernel_rfl) (of_decide_eq_true (by kernel_rfl)) k0 bel lt0) trodAll_mk0), by first | rfl | simp, bel.frame _, fun h => by cases h⟩

theorem over : Rows.fnBasisSumsRow.holds Try.pinned (OpenSpec.ofChange Rows.fnBasisSumsSpec) :=
  OpenClaim.holds_of_wide 4 Try.f4 rfl rfl rfl rfl rfl rfl rfl ⟨rfl, rfl, rfl, rfl, rfl⟩ rfl rfl rfl rfl rfl (by kernel_rfl) Try.func4 (by kernel_rfl)
    (of_decide_eq_true (by kernel_rfl)) (by unfold Func.isWrapper; first | (rw [if_pos (by decide +kernel)]; kernel_rfl) | (rw [if_neg (by decide +kernel)]; exact ⟨rfl, rfl⟩))
    (fun os started H enc _ => lifted os started H enc)

theorem proved : Rows.FnBasisSumsSaid := over
end Go.Proofs.Ythbilahilmmfmaa.fnBasisSums
namespace Go.Proofs.Ythbilahilmmfmaa
theorem fnBasisSums_holds : Rows.FnBasisSumsSaid := fnBasisSums.proved
#print axioms fnBasisSums_holds
end Go.Proofs.Ythbilahilmmfmaa
