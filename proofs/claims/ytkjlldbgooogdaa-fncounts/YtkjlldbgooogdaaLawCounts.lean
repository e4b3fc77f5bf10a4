/- The law FnCounts answers true at every code, and leaves it as it was: a drawn term's variables are those that stand in it once at least. Conditions: none beyond the given row's own. -/
import Derived.Test.YtkjlldbgooogdaaRows
import Derived.Test.YtkjlldbgooogdaaPackCounts7
import Derived.WalkKit
import Derived.ProofKit
import Derived.OpenShut
import Derived.ShutString
import Derived.ChangeOld
import Derived.Below
namespace Go.Proofs.Ytkjlldbgooogdaa.fnCounts
open Go.ChangeShapes Go.WideShapes Go.ChangeAt Go.RowKit
open Go.ChangeMaps (open_string shut_string)
set_option linter.unusedVariables false

theorem own : ownKnob Try.prog.godebug = none := by kernel_rfl
theorem laidOut : laidOutB Try.prog = true := by kernel_rfl

/-- While the law goes on: the drawn term in its box, and its variables. -/
structure CS (w : World) (t : TermD) (B : Nat) (ta : Option Addr) (tc : Nat) (av : Option Addr) (zs : List Int) (W : World) : Prop where
  bel : Below w.heap.size w W
  b0 : W.cell? ⟨B, 0, none⟩ = some (.int .i64 t.f)
  b1 : W.cell? ⟨B, 1, none⟩ = some (.int .i64 t.v)
  b2 : W.cell? ⟨B, 2, none⟩ = some (.slice ta t.kids.length tc)
  rd : RdK W W.heap.size ta t.kids
  v : Rd W av zs
theorem CS.on {w : World} {t : TermD} {B : Nat} {ta : Option Addr} {tc : Nat} {av : Option Addr} {zs : List Int} {W W' : World} (h : CS w t B ta tc av zs W) (hb : Below W.heap.size W W') : CS w t B ta tc av zs W' :=
  ⟨h.bel.trans (hb.mono h.bel.size), keepC hb h.b0, keepC hb h.b1, keepC hb h.b2, (h.rd.on hb).mono hb.size, h.v.below hb⟩

theorem sum_next {zs : List Int} {k : Nat} (h : k < zs.length) (f : Int → Nat) : ((zs.take (k + 1)).map f).sum = ((zs.take k).map f).sum + f zs[k] := by
  rw [List.take_succ_eq_append_getElem h, List.map_append, List.sum_append]; simp only [List.map_cons, List.map_nil, List.sum_cons, List.sum_nil, Nat.add_zero]

set_option maxHeartbeats 3200000 in
set_option maxRecDepth 100000 in
theorem small (a : Option Addr) (bs : List Int) (cap : Nat) (w : World) (hl : bs.length ≤ 1048576) (hr : ∀ c, w.heap.size ≤ c → RdB w c a bs) :
    Calls Try.prog 4 #[.slice a bs.length cap] w fun e w' => e = .returned (.bool true) ∧ Below w.heap.size w w' := by
  have hbig' : ¬ (1048576 : Int) < (bs.length : Int) := by omega
  go_enter Try.func4, Try.ntmps4
  go_wp2_with (first
    | (go_at_call 7; go_in)
    | (go_at_call 16; refine (drawVars_any a bs cap _ hl hr).mono ?_; rintro e w1 ⟨t, ta, tc, rfl, ho1, hc1, hw1, hp1, hb1⟩; have C1 : CS w t w1.heap.size ta tc none [] (w1.alloc (.cells #[.int .i64 t.f, .int .i64 t.v, .slice ta t.kids.length tc] 27)) := ⟨hb1.alloc hb1.size _, (by simp), (by simp), (by simp), (ho1.rd.on ((Below.refl _ _).alloc (Nat.le_refl _) _)).mono (by simp), .inl rfl⟩; have hzl := varsT_len t []; have hvz : (varsT t []).length ≤ 15 := (by simp at hzl; omega); have HV : Hid _ := vars_up t; have HC : Hid (∀ v ∈ varsT t [], 1 ≤ cntT v t) := (fun v hv => vars_cnt hv); have HS : Hid _ := vars_sum t; have HG : Hid (grdT t = ((((varsT t []).length : Nat) : Int) == 0)) := grd_vars t; have HP : Hid (partsT t ≤ 15) := hp1; obtain ⟨zs, hzs⟩ : ∃ zs, zs = varsT t [] := ⟨_, rfl⟩; have CI := (fun (W' : World) (h : RdK W' W'.heap.size ta t.kids) => impVarsOf_any t ta tc _ W' (Nat.le_trans hp1 (by omega)) h (Nat.le_refl _) hc1); have CP := (fun (W' : World) (h : RdK W' W'.heap.size ta t.kids) => specVarsOf_any t ta tc _ W' (Nat.le_trans hp1 (by omega)) h (Nat.le_refl _)); have CG := (fun (W' : World) (h : RdK W' W'.heap.size ta t.kids) => impGround_any t ta tc _ W' (Nat.le_trans hp1 (by omega)) h (Nat.le_refl _) hc1); have CC := (fun (v : Int) (W' : World) (h : RdK W' W'.heap.size ta t.kids) => impCount_any 4194304 t ta tc _ v W' (Nat.le_trans hp1 (by omega)) (Nat.le_refl _) h (Nat.le_refl _) hc1); have CN := (fun (W' : World) (h : RdK W' W'.heap.size ta t.kids) => impParts_any 4194304 t ta tc _ W' (Nat.le_trans hp1 (by omega)) (Nat.le_refl _) h (Nat.le_refl _) hc1); rw [← hzs] at HV HC HS HG CI CP hvz; rw [HG.out] at CG; clear hzl hzs ho1 hw1 hr hb1 HG; have b0 := C1.b0; have b1 := C1.b1; have b2 := C1.b2)
    | (go_at_call 17; refine (CI _ C1.rd).mono ?_; rintro e w2 ⟨av, cv, rfl, ho2, hb2⟩; have C2 : CS w t w1.heap.size ta tc av zs w2 := ⟨(C1.on hb2).bel, (C1.on hb2).b0, (C1.on hb2).b1, (C1.on hb2).b2, (C1.on hb2).rd, Rd.ownV rfl ho2⟩; clear C1 ho2 hb2 CI b0 b1 b2; have b0 := C2.b0; have b1 := C2.b1; have b2 := C2.b2)
    | (go_at_call 19; refine (CP _ C2.rd).mono ?_; rintro e w3 ⟨g3, c3, rfl, ho3, hb3⟩; have hr3 : Rd w3 (some ⟨g3, 0, none⟩) zs := Rd.own rfl ho3; have C3 := C2.on hb3; clear C2 ho3 hb3 CP b0 b1 b2; have b0 := C3.b0; have b1 := C3.b1; have b2 := C3.b2)
    | (go_at_call 18; refine (sameInts_same _ _ zs _ _ _ C3.v hr3 (by omega)).mono ?_; rintro e w4 ⟨rfl, hb4⟩; have C4 := C3.on hb4; clear C3 hb4 hr3 b0 b1 b2; have b0 := C4.b0; have b1 := C4.b1; have b2 := C4.b2)
    | (go_at_call 20; refine (CG _ C4.rd).mono ?_; rintro e w5 ⟨rfl, hb5⟩; have C5 := C4.on hb5; clear C4 hb5 CG b0 b1 b2; have b0 := C5.b0; have b1 := C5.b1; have b2 := C5.b2))
  go_loopw [5, 6] (fun s i wr => ∃ k : Nat, i = .int .i64 k ∧ k ≤ zs.length ∧ s = .int .i64 (((zs.take k).map (fun v => cntT v t)).sum : Nat) ∧ CS w t w1.heap.size ta tc av zs wr) (fun _ i _ => zs.length - (intOf i).toNat)
  case atStart => exact ⟨0, rfl, Nat.zero_le _, rfl, C5⟩
  case round =>
    obtain ⟨k, rfl, hk, rfl, C⟩ := hrel
    clear C5 b0 b1 b2
    have b0 := C.b0
    have b1 := C.b1
    have b2 := C.b2
    by_cases hk' : k < zs.length
    · have hki : (k : Int) < (zs.length : Int) := by omega
      rcases C.v with h | ⟨b, off, rfl, hbl, hcz⟩
      · rw [h] at hk'; simp at hk'
      · have hck := hcz k hk'
        rw [List.getElem?_eq_getElem hk', Option.getD_some] at hck
        have hpos := HC.out zs[k] (List.getElem_mem hk')
        have HN : Hid _ := sum_next hk' (fun v => cntT v t)
        have hsm := sum_take (zs.map (fun v => cntT v t)) (k + 1)
        rw [← List.map_take, HN.out] at hsm
        have hs15 : ((zs.take k).map (fun v => cntT v t)).sum + cntT zs[k] t ≤ 15 := by have := HS.out; omega
        have I := fun W' (h : Below wr.heap.size wr W') => CC zs[k] W' ((C.on h).rd)
        obtain ⟨m, hm⟩ : ∃ m, m = cntT zs[k] t := ⟨_, rfl⟩
        rw [← hm] at I hpos HN hs15
        clear hm hsm
        obtain ⟨S, hS⟩ : ∃ S, S = ((zs.take k).map (fun v => cntT v t)).sum := ⟨_, rfl⟩
        rw [← hS] at HN hs15 ⊢
        clear hS
        have hm1 : ¬ ((m : Int) < 1) := by omega
        have hmd : decide ((m : Int) < 1) = false := decide_eq_false hm1
        by_cases hk0 : k = 0
        · have hkn : decide ((0 : Int) < (k : Int)) = false := by simp; omega
          have hkn2 : decide (0 < k) = false := by simp; omega
          clear hk0 hcz
          go_wp2_with fail
          have k0 := cellB b0
          have k1 := cellB b1
          have k2 := cellB b2
          have kc := cellB hck
          refine wp_region_below (by kernel_rfl) (by kernel_rfl) ?_
          repeat (go_big_quiet_step ((go_at_call 21; refine callsB (I _ (BW.b _)))))
          refine wpQuiet_nil ?_
          intro w6 hw'
          have hb6 : Below wr.heap.size wr w6 := by obtain ⟨p, rfl⟩ := hw'; exact p.b
          have C6 := C.on hb6
          have c0 := C6.b0
          have c1 := C6.b1
          have c2 := C6.b2
          have hck6 := keepC hb6 hck
          have I6 := fun W' (h : Below w6.heap.size w6 W') => I W' (hb6.trans (h.mono hb6.size))
          clear hw' k0 k1 k2 kc C b0 b1 b2 hck I
          go_wp2_with fail
          have k0 := cellB c0
          have k1 := cellB c1
          have k2 := cellB c2
          have kc := cellB hck6
          refine wp_region_below (by kernel_rfl) (by kernel_rfl) ?_
          repeat (go_big_quiet_step ((go_at_call 21; refine callsB (I6 _ (BW.b _)))))
          refine wpQuiet_nil ?_
          intro w7 hw'
          have hb7 : Below w6.heap.size w6 w7 := by obtain ⟨p, rfl⟩ := hw'; exact p.b
          have C7 := C6.on hb7
          clear hw' k0 k1 k2 kc C6 c0 c1 c2 I6
          go_wp2_with fail
          go_roundw
          case rel => exact ⟨k + 1, by go_num, by omega, by rw [HN.out]; go_num, C7⟩
          case measure => simp [intOf]; omega
        · obtain ⟨j, rfl⟩ : ∃ j, k = j + 1 := ⟨k - 1, by omega⟩
          have hj : j < zs.length := by omega
          have hcj := hcz j hj
          rw [List.getElem?_eq_getElem hj, Option.getD_some] at hcj
          have hlt : ¬ zs[j + 1] ≤ zs[j] := by have := List.pairwise_iff_getElem.1 HV.out j (j + 1) hj hk' (by omega); omega
          have hld : decide (zs[j + 1] ≤ zs[j]) = false := decide_eq_false hlt
          have hkn : (0 : Int) < ((j + 1 : Nat) : Int) := by omega
          have hj0 : (0 : Int) ≤ (j : Int) := by omega
          have hj1 : (j : Int) < (zs.length : Int) := by omega
          have hsub : IntKind.i64.wrap (((j + 1 : Nat) : Int) - 1) = (j : Int) := by rw [IntKind.wrap_i64]; omega
          have hsub2 : IntKind.i64.wrap ((j : Int) + 1 - 1) = (j : Int) := by rw [IntKind.wrap_i64]; omega
          have hsub3 : IntKind.i64.wrap (j : Int) = (j : Int) := by rw [IntKind.wrap_i64]; omega
          have hkd : decide ((0 : Int) < (j : Int) + 1) = true := decide_eq_true (by omega)
          clear hk0 hcz
          go_wp2_with fail
          have k0 := cellB b0
          have k1 := cellB b1
          have k2 := cellB b2
          have kc := cellB hck
          have kj := cellB hcj
          refine wp_region_below (by kernel_rfl) (by kernel_rfl) ?_
          repeat (go_big_quiet_step ((go_at_call 21; refine callsB (I _ (BW.b _)))))
          refine wpQuiet_nil ?_
          intro w6 hw'
          have hb6 : Below wr.heap.size wr w6 := by obtain ⟨p, rfl⟩ := hw'; exact p.b
          have C6 := C.on hb6
          have c0 := C6.b0
          have c1 := C6.b1
          have c2 := C6.b2
          have hck6 := keepC hb6 hck
          have I6 := fun W' (h : Below w6.heap.size w6 W') => I W' (hb6.trans (h.mono hb6.size))
          clear hw' k0 k1 k2 kc C b0 b1 b2 hck I
          go_wp2_with fail
          have k0 := cellB c0
          have k1 := cellB c1
          have k2 := cellB c2
          have kc := cellB hck6
          refine wp_region_below (by kernel_rfl) (by kernel_rfl) ?_
          repeat (go_big_quiet_step ((go_at_call 21; refine callsB (I6 _ (BW.b _)))))
          refine wpQuiet_nil ?_
          intro w7 hw'
          have hb7 : Below w6.heap.size w6 w7 := by obtain ⟨p, rfl⟩ := hw'; exact p.b
          have C7 := C6.on hb7
          clear hw' k0 k1 k2 kc C6 c0 c1 c2 I6
          go_wp2_with fail
          go_roundw
          case rel => exact ⟨j + 1 + 1, by go_num, by omega, by rw [HN.out]; go_num, C7⟩
          case measure => simp [intOf]; omega
    · have hki : ¬ (k : Int) < (zs.length : Int) := by omega
      have hsm := sum_take (zs.map (fun v => cntT v t)) k
      rw [← List.map_take] at hsm
      have hle : (((zs.take k).map (fun v => cntT v t)).sum : Int) ≤ (partsT t : Int) := by have := HS.out; omega
      generalize ((zs.take k).map (fun v => cntT v t)).sum = S at hle
      have CN1 := CN wr C.rd
      have hp15 : (partsT t : Int) ≤ 15 := by omega
      generalize partsT t = P at CN1 hle hp15
      clear hsm
      go_wp2_with (go_at_call 22; refine CN1.mono ?_; rintro e w6 ⟨rfl, hb6⟩; have C6 := C.on hb6; clear C CN1)
      go_ret
      exact ⟨by first | rfl | simp, C6.bel⟩

theorem walk (w : World) (a0 : Option Addr) (len0 cap0 : Nat) (bs : List Int) (hn : len0 = bs.length) (hle : len0 ≤ maxLen) (hr : ∀ c, w.heap.size ≤ c → RdB w c a0 bs) :
    Calls Try.prog 4 #[.slice a0 len0 cap0] w fun e w' => e = .returned (.bool true) ∧ Below w.heap.size w w' := by
  subst hn
  by_cases hbig : 1048576 < bs.length
  · have hbig' : (1048576 : Int) < (bs.length : Int) := by omega
    unfold maxLen at hle
    clear hbig hr
    go_enter Try.func4, Try.ntmps4
    go_wp2
    go_ret
    exact ⟨rfl, Below.refl _ _⟩
  · exact small a0 bs cap0 w (by omega) hr

set_option maxRecDepth 100000 in
theorem lifted (os : Os) (started : os.Started) (H : Type) (enc : TypeId × Value → H) :
    ReturnsInHanded {} Try.checked os 4 .any (Rows.fnCountsSpec.pre6 enc Try.prog Try.f4 Rows.fnCountsRow.domain false) (Rows.fnCountsSpec.post enc Try.prog Try.f4 false true false false) := by
  refine returnsInHanded_of_change (C := Try.checked) own started (by kernel_rfl) Try.func4
    (ChangeSpec.witness6 (enc := enc) (C := Try.checked) false ⟨#[], #[.slice none 0 0], []⟩ 8 (by kernel_rfl) (by kernel_rfl) (by kernel_rfl) (by kernel_rfl)) ?_
  intro W base args ds gs before hval0 hW hcnd _
  have hval : ∀ (j : Nat) t v, Try.f4.params[j]? = some t → args[j]? = some v → Value.okWide Try.prog W .any base t v := hval0
  have hW' := hW
  obtain ⟨p, q, hA0, hV, rfl, hfz, hnd⟩ := hW
  have hA : DataW.TrodAll enc Try.prog W 0 (fun _ => true) true Try.f4.params.toList args.toList ds p := hA0
  rw [Try.params4] at hA hval
  obtain ⟨v0, vs0, d0, ds0, p0, q0, hargs, rfl, rfl, h0, r0⟩ := trodAll_cons hA
  obtain ⟨rfl, rfl, rfl⟩ := trodAll_nil r0
  obtain rfl : args = #[v0] := by cases args; simp_all
  obtain ⟨rfl, rfl⟩ := trodVars_none hV
  obtain ⟨a0, len0, cap0, rfl⟩ := okWide_slice Try.underlying22 (hval 0 22 v0 rfl rfl)
  have k0 := h0
  have lt0 : ∀ x ∈ p0, x.block < W.heap.size := by obtain ⟨m, hm⟩ := k0; exact DataW.trod_lt m _ _ _ hm
  obtain ⟨bs0, hn0, hle0, hr0⟩ := open_code rfl h0
  clear hA0 hval0
  refine (walk W a0 len0 cap0 bs0 hn0 hle0 hr0).mono fun e W' ⟨he, bel⟩ => ?_
  subst he
  exact ⟨_, rfl, _, _, _, [], _, [], hW', trodAll_mk1 (shut_bool Try.underlying4 _), (trodAll_cons_mk (Below.trod laidOut (by kernel_rfl) (of_decide_eq_true (by kernel_rfl)) k0 bel lt0) trodAll_mk0), by first | rfl | simp, bel.frame _, fun h => by cases h⟩

theorem over : Rows.fnCountsRow.holds Try.pinned (OpenSpec.ofChange Rows.fnCountsSpec) :=
  OpenClaim.holds_of_wide 4 Try.f4 rfl rfl rfl rfl rfl rfl rfl ⟨rfl, rfl, rfl, rfl, rfl⟩ rfl rfl rfl rfl rfl (by kernel_rfl) Try.func4 (by kernel_rfl)
    (of_decide_eq_true (by kernel_rfl)) (by unfold Func.isWrapper; first | (rw [if_pos (by decide +kernel)]; kernel_rfl) | (rw [if_neg (by decide +kernel)]; exact ⟨rfl, rfl⟩))
    (fun os started H enc _ => lifted os started H enc)

theorem proved : Rows.FnCountsSaid := over
end Go.Proofs.Ytkjlldbgooogdaa.fnCounts
namespace Go.Proofs.Ytkjlldbgooogdaa
theorem fnCounts_holds : Rows.FnCountsSaid := fnCounts.proved
#print axioms fnCounts_holds
end Go.Proofs.Ytkjlldbgooogdaa
