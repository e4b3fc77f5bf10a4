/- The law FnRightTerms answers true at every code, and leaves it as it was: a drawn term is right as the chapter says; one form of what is right is it. Conditions: none beyond the given row's own. -/
import Derived.Test.YtkjlldbgooogdaaRows
import Derived.Test.YtkjlldbgooogdaaPackRightTerms12
import Derived.WalkKit
import Derived.ProofKit
import Derived.OpenShut
import Derived.ShutString
import Derived.ChangeOld
import Derived.Below
namespace Go.Proofs.Ytkjlldbgooogdaa.fnRightTerms
open Go.ChangeShapes Go.WideShapes Go.ChangeAt Go.RowKit
open Go.ChangeMaps (open_string shut_string)
set_option linter.unusedVariables false

theorem own : ownKnob Try.prog.godebug = none := by kernel_rfl
theorem laidOut : laidOutB Try.prog = true := by kernel_rfl

/-- While the law goes on: the drawn terms in their boxes, and their functions. -/
structure RS2 (w : World) (g o : Nat) (ss : List SymD) (t : TermD) (ta : Option Addr) (tc B : Nat) (x ox : Nat) (xs : List SymD) (v : TermD) (va : Option Addr) (vc D : Nat) (W : World) : Prop where
  one : One w g o ss t ta tc W
  two : One w x ox xs v va vc W
  a : C3 W B (.int .i64 t.f) (.int .i64 t.v) (.slice ta t.kids.length tc)
  b : C3 W D (.int .i64 v.f) (.int .i64 v.v) (.slice va v.kids.length vc)
theorem RS2.on {w : World} {g o : Nat} {ss : List SymD} {t : TermD} {ta : Option Addr} {tc B : Nat} {x ox : Nat} {xs : List SymD} {v : TermD} {va : Option Addr} {vc D : Nat} {W : World} {W' : World} (h : RS2 w g o ss t ta tc B x ox xs v va vc D W) (hb : Below W.heap.size W W') : RS2 w g o ss t ta tc B x ox xs v va vc D W' := ⟨h.one.on hb, h.two.on hb, h.a.on hb, h.b.on hb⟩
theorem one_low {w w0 : World} {g o : Nat} {ss : List SymD} {t : TermD} {ta : Option Addr} {tc : Nat} {W : World} (h : One w g o ss t ta tc W) (hb : Below w0.heap.size w0 w) : One w0 g o ss t ta tc W := h.stay (.refl _ _) (hb.trans (h.bel.mono hb.size)) hb.size
theorem small_len {ss : List SymD} (h : smallSyms ss) : ss.length ≤ 1048577 ∧ (∀ s ∈ ss, s.name.size ≤ maxLen) ∧ (∀ s ∈ ss, s.name.size ≤ 1048576) :=
  ⟨by have := h.1; omega, fun s hs => by have := (h.2 s hs).1; unfold maxLen; omega, fun s hs => by have := (h.2 s hs).1; omega⟩

set_option maxHeartbeats 3200000 in
set_option maxRecDepth 100000 in
theorem small (a : Option Addr) (bs : List Int) (cap : Nat) (w : World) (hl : bs.length ≤ 1048576) (hr : ∀ c, w.heap.size ≤ c → RdB w c a bs) :
    Calls Try.prog 5 #[.slice a bs.length cap] w fun e w' => e = .returned (.bool true) ∧ Below w.heap.size w w' := by
  have hbig' : ¬ (1048576 : Int) < (bs.length : Int) := by omega
  have CD := drawTermOk_any a bs cap w hl hr
  have HCW : Hid (∀ W, Below w.heap.size w W → ∀ c, W.heap.size ≤ c → RdB W c a bs) := fun W h c hc => (hr c (Nat.le_trans h.size hc)).on h
  have CW := fun (W : World) (h : Below w.heap.size w W) => drawWeight_any a bs cap W hl (HCW.out W h)
  clear hr
  go_enter Try.func5, Try.ntmps5
  go_upto_region 5 with (first
    | (go_at_call 7; go_in)
    | (go_at_call 23; refine CD.mono ?_; rintro e w1 ⟨g, o, lc, ss, t, ta, tc, rfl, T1⟩; have hb1 : Below w1.heap.size w1 (w1.alloc (.cells #[.int .i64 t.f, .int .i64 t.v, .slice ta t.kids.length tc] 27)) := (Below.refl _ _).alloc (Nat.le_refl _) _; have T2 := T1.on hb1; have a2 : C3 (w1.alloc (.cells #[.int .i64 t.f, .int .i64 t.v, .slice ta t.kids.length tc] 27)) w1.heap.size (.int .i64 t.f) (.int .i64 t.v) (.slice ta t.kids.length tc) := C3.new _ _ _ _ _; clear CD T1 hb1)
    | (go_at_call 24; refine (CW _ T2.bel).mono ?_; rintro e w3 ⟨x, ox, xc, xs, v, va, vc, rfl, U3⟩; have T3 := T2.on U3.bel; have a3 := a2.on U3.bel; have hw13 : w1.heap.size < w3.heap.size := a3.lt; have U4 := one_low U3 T2.bel; clear CW T2 a2 U3))
  obtain ⟨X, hX⟩ : ∃ X, X = w3.alloc (.cells #[.int .i64 v.f, .int .i64 v.v, .slice va v.kids.length vc] 27) := ⟨_, rfl⟩
  have hbx : Below w3.heap.size w3 X := by rw [hX]; exact (Below.refl _ _).alloc (Nat.le_refl _) _
  have bx : C3 X w3.heap.size (.int .i64 v.f) (.int .i64 v.v) (.slice va v.kids.length vc) := by rw [hX]; exact C3.new _ _ _ _ _
  rw [← hX]
  clear hX
  have H0 : Hid (RS2 w g o ss t ta tc w1.heap.size x ox xs v va vc w3.heap.size X) := ⟨T3.on hbx, U4.on hbx, a3.on hbx, bx⟩
  have f1 := T3.w1
  have f2 := U4.w1
  have p1 := T3.p1
  have p2 := U4.p1
  have l1 := T3.l1
  have l2 := U4.l1
  have m1 := small_len T3.sm
  have m2 := small_len U4.sm
  clear T3 U4 a3 hbx bx HCW
  generalize w1.heap.size = B at H0 ⊢
  generalize w3.heap.size = D at H0 ⊢
  have OT := fun (W' : World) (h : RS2 w g o ss t ta tc B x ox xs v va vc D W') => impTermOk_all (some ⟨g, o, none⟩) ss lc m1.2.1 t ta tc W'.heap.size W' h.one.s (by omega) h.one.o1.rd (Nat.le_refl _) l1
  have OS := fun (W' : World) (h : RS2 w g o ss t ta tc B x ox xs v va vc D W') => specTermOk_any (some ⟨g, o, none⟩) ss lc m1.1 m1.2.2 t ta tc W'.heap.size W' f1.1 h.one.s (by omega) h.one.o1.rd (Nat.le_refl _)
  have WI := fun (W' : World) (h : RS2 w g o ss t ta tc B x ox xs v va vc D W') => impWeight_any (some ⟨x, ox, none⟩) xs xs.length xc v va vc W'.heap.size W' rfl h.two.s (by omega) h.two.o1.rd (Nat.le_refl _) l2
  have WS := fun (W' : World) (h : RS2 w g o ss t ta tc B x ox xs v va vc D W') => specWeight_any (some ⟨x, ox, none⟩) xs xc m2.1 4194304 v va vc W'.heap.size W' f2.1 h.two.s (by omega) (Nat.le_refl _) h.two.o1.rd (Nat.le_refl _)
  have WT := fun (W' : World) (h : RS2 w g o ss t ta tc B x ox xs v va vc D W') => impWeight_any (some ⟨g, o, none⟩) ss ss.length lc t ta tc W'.heap.size W' rfl h.one.s (by omega) h.one.o1.rd (Nat.le_refl _) l1
  have NT := fun (W' : World) (h : RS2 w g o ss t ta tc B x ox xs v va vc D W') => impNorm_any (some ⟨g, o, none⟩) ss lc t ta tc W'.heap.size W' h.one.s (by omega) h.one.o1.rd (Nat.le_refl _) l1 f1
  have SM := fun (ya : Option Addr) (yc : Nat) (W' : World) (h : RS2 w g o ss t ta tc B x ox xs v va vc D W') (hy : RdK W' W'.heap.size ya t.kids) (hc : t.kids.length ≤ yc) => impSame_any 4194304 t t ya ta yc tc W'.heap.size W' (by omega) (Nat.le_refl _) hy h.one.o1.rd (Nat.le_refl _) hc l1
  rw [show sameT t t = true from (ordT_same t t).1 (ordT_zero.2 rfl)] at SM
  have HR : Hid ((sigOk ss && decide (partsT t ≤ 60) && rightT ss t) = true → normT (blindAt ss) t = t) := fun h => right_self ss (by simp only [Bool.and_eq_true] at h; exact h.2)
  have hwp : (1 : Int) ≤ (wgtT (blindAt ss) t : Nat) := by have := wgtT_pos (blindAt ss) t; omega
  have hwp2 : decide ((1 : Int) ≤ (wgtT (blindAt ss) t : Nat)) = true := decide_eq_true hwp
  generalize (sigOk ss && decide (partsT t ≤ 60) && rightT ss t) = ot at OT OS HR
  generalize wgtT (blindAt xs) v = wv at WI WS
  generalize wgtT (blindAt ss) t = wt at WT hwp hwp2
  have e1 : ((wv : Int) != (wv : Int)) = false := by simp
  clear p1 p2 f2 m1 m2
  have a0 := H0.out.a.1
  have a1 := H0.out.a.2.1
  have a2 := H0.out.a.2.2
  have b0 := H0.out.b.1
  have b1 := H0.out.b.2.1
  have b2 := H0.out.b.2.2
  cases ot
  · have k0 := cellB a0
    have k1 := cellB a1
    have k2 := cellB a2
    have l0 := cellB b0
    have l1 := cellB b1
    have l2 := cellB b2
    refine wp_region_below (by kernel_rfl) (by kernel_rfl) ?_
    repeat (go_big_quiet_step ((first | (go_at_call 25; refine callsB (OT _ (H0.out.on (BW.b _)))) | (go_at_call 26; refine callsB (OS _ (H0.out.on (BW.b _)))) | (go_at_call 27; refine callsB (WI _ (H0.out.on (BW.b _)))) | (go_at_call 28; refine callsB (WS _ (H0.out.on (BW.b _)))))))
    refine wpQuiet_nil ?_
    intro x5 hw'
    have hbq : Below X.heap.size X x5 := by obtain ⟨p, rfl⟩ := hw'; exact p.b
    clear hw' k0 k1 k2 l0 l1 l2
    have H5 : Hid _ := H0.out.on hbq
    clear H0 hbq a0 a1 a2 b0 b1 b2 OS WI WS
    have a0 := H5.out.a.1
    have a1 := H5.out.a.2.1
    have a2 := H5.out.a.2.2
    have b0 := H5.out.b.1
    have b1 := H5.out.b.2.1
    have b2 := H5.out.b.2.2
    go_wp2_with fail
    have k0 := cellB a0
    have k1 := cellB a1
    have k2 := cellB a2
    have l0 := cellB b0
    have l1 := cellB b1
    have l2 := cellB b2
    refine wp_region_below (by kernel_rfl) (by kernel_rfl) ?_
    repeat (go_big_quiet_step ((first | (go_at_call 25; refine callsB (OT _ (H5.out.on (BW.b _)))))))
    refine wpQuiet_nil ?_
    intro x6 hw'
    have hbq : Below x5.heap.size x5 x6 := by obtain ⟨p, rfl⟩ := hw'; exact p.b
    clear hw' k0 k1 k2 l0 l1 l2
    go_wp2_with fail
    go_ret
    exact ⟨by first | rfl | simp, (H5.out.on hbq).one.bel⟩
  · have k0 := cellB a0
    have k1 := cellB a1
    have k2 := cellB a2
    have l0 := cellB b0
    have l1 := cellB b1
    have l2 := cellB b2
    refine wp_region_below (by kernel_rfl) (by kernel_rfl) ?_
    repeat (go_big_quiet_step ((first | (go_at_call 25; refine callsB (OT _ (H0.out.on (BW.b _)))) | (go_at_call 26; refine callsB (OS _ (H0.out.on (BW.b _)))) | (go_at_call 27; refine callsB (WI _ (H0.out.on (BW.b _)))) | (go_at_call 28; refine callsB (WS _ (H0.out.on (BW.b _)))))))
    refine wpQuiet_nil ?_
    intro x5 hw'
    have hbq : Below X.heap.size X x5 := by obtain ⟨p, rfl⟩ := hw'; exact p.b
    clear hw' k0 k1 k2 l0 l1 l2
    have H5 : Hid _ := H0.out.on hbq
    clear H0 hbq a0 a1 a2 b0 b1 b2 OS WI WS
    have a0 := H5.out.a.1
    have a1 := H5.out.a.2.1
    have a2 := H5.out.a.2.2
    have b0 := H5.out.b.1
    have b1 := H5.out.b.2.1
    have b2 := H5.out.b.2.2
    go_wp2_with fail
    have hN := HR.out (by first | rfl | trivial)
    rw [hN] at NT
    clear HR hN
    go_region_held3 (fun w' => w'.cell? ⟨B, 0, none⟩ = some (.int .i64 t.f) ∧ w'.cell? ⟨B, 1, none⟩ = some (.int .i64 t.v) ∧ w'.cell? ⟨B, 2, none⟩ = some (.slice ta t.kids.length tc)) (first | go_keep | exact ⟨a0, a1, a2⟩)
      (first
        | (go_at_call 25; refine (OT _ (H5.out.on (Below.refl _ _).drew)).mono ?_; rintro e y1 ⟨rfl, hb0⟩; have hb : Below x5.heap.size x5 y1 := (Below.refl _ _).drew.trans hb0; have H6 : Hid _ := H5.out.on hb; clear H5 hb hb0 a0 a1 a2 b0 b1 b2; have a0 := H6.out.a.1; have a1 := H6.out.a.2.1; have a2 := H6.out.a.2.2; have b0 := H6.out.b.1; have b1 := H6.out.b.2.1; have b2 := H6.out.b.2.2)
        | (go_at_call 9; refine (NT _ H6.out).mono ?_; rintro e y2 ⟨ya, yc, rfl, ho2, hle2, hb⟩; have H7 : Hid _ := H6.out.on hb; have HO : Hid _ := ho2.rd; clear H6 hb ho2 a0 a1 a2 b0 b1 b2; have a0 := H7.out.a.1; have a1 := H7.out.a.2.1; have a2 := H7.out.a.2.2; have b0 := H7.out.b.1; have b1 := H7.out.b.2.1; have b2 := H7.out.b.2.2)
        | (go_at_call 12; refine (SM ya yc _ H7.out HO.out hle2).mono ?_; rintro e y3 ⟨rfl, hb⟩; have H8 : Hid _ := H7.out.on hb; clear H7 hb HO a0 a1 a2 b0 b1 b2; have a0 := H8.out.a.1; have a1 := H8.out.a.2.1; have a2 := H8.out.a.2.2; have b0 := H8.out.b.1; have b1 := H8.out.b.2.1; have b2 := H8.out.b.2.2)
        | (go_at_call 27; refine (WT _ H8.out).mono ?_; rintro e y4 ⟨rfl, hb⟩; have H9 : Hid _ := H8.out.on hb; clear H8 hb a0 a1 a2 b0 b1 b2; have a0 := H9.out.a.1; have a1 := H9.out.a.2.1; have a2 := H9.out.a.2.2; have b0 := H9.out.b.1; have b1 := H9.out.b.2.1; have b2 := H9.out.b.2.2))
    all_goals
      go_wp2_with fail
      go_ret
      exact ⟨by first | rfl | simp, H9.out.one.bel⟩

theorem walk (w : World) (a0 : Option Addr) (len0 cap0 : Nat) (bs : List Int) (hn : len0 = bs.length) (hle : len0 ≤ maxLen) (hr : ∀ c, w.heap.size ≤ c → RdB w c a0 bs) :
    Calls Try.prog 5 #[.slice a0 len0 cap0] w fun e w' => e = .returned (.bool true) ∧ Below w.heap.size w w' := by
  subst hn
  by_cases hbig : 1048576 < bs.length
  · have hbig' : (1048576 : Int) < (bs.length : Int) := by omega
    unfold maxLen at hle
    clear hbig hr
    go_enter Try.func5, Try.ntmps5
    go_wp2
    go_ret
    exact ⟨rfl, Below.refl _ _⟩
  · exact small a0 bs cap0 w (by omega) hr

set_option maxRecDepth 100000 in
theorem lifted (os : Os) (started : os.Started) (H : Type) (enc : TypeId × Value → H) :
    ReturnsInHanded {} Try.checked os 5 .any (Rows.fnRightTermsSpec.pre6 enc Try.prog Try.f5 Rows.fnRightTermsRow.domain false) (Rows.fnRightTermsSpec.post enc Try.prog Try.f5 false true false false) := by
  refine returnsInHanded_of_change (C := Try.checked) own started (by kernel_rfl) Try.func5
    (ChangeSpec.witness6 (enc := enc) (C := Try.checked) false ⟨#[], #[.slice none 0 0], []⟩ 8 (by kernel_rfl) (by kernel_rfl) (by kernel_rfl) (by kernel_rfl)) ?_
  intro W base args ds gs before hval0 hW hcnd _
  have hval : ∀ (j : Nat) t v, Try.f5.params[j]? = some t → args[j]? = some v → Value.okWide Try.prog W .any base t v := hval0
  have hW' := hW
  obtain ⟨p, q, hA0, hV, rfl, hfz, hnd⟩ := hW
  have hA : DataW.TrodAll enc Try.prog W 0 (fun _ => true) true Try.f5.params.toList args.toList ds p := hA0
  rw [Try.params5] at hA hval
  obtain ⟨v0, vs0, d0, ds0, p0, q0, hargs, rfl, rfl, h0, r0⟩ := trodAll_cons hA
  obtain ⟨rfl, rfl, rfl⟩ := trodAll_nil r0
  obtain rfl : args = #[v0] := by cases args; simp_all
  obtain ⟨rfl, rfl⟩ := trodVars_none hV
  obtain ⟨a0, len0, cap0, rfl⟩ := okWide_slice Try.underlying22 (hval 0 22 v0 rfl rfl)
  have k0 := h0
  have lt0 : ∀ x ∈ p0, x.block < W.heap.size := by obtain ⟨m, hm⟩ := k0; exact DataW.trod_lt m _ _ _ hm
  obtain ⟨bs0, hn0, hle0, hr0⟩ := open_code rfl h0
  clear hA0 hval0
  refine (walk W a0 len0 cap0 bs0 hn0 hle0 hr0).mono fun e W' ⟨he, bel⟩ => ?_
  subst he
  exact ⟨_, rfl, _, _, _, [], _, [], hW', trodAll_mk1 (shut_bool Try.underlying4 _), (trodAll_cons_mk (Below.trod laidOut (by kernel_rfl) (of_decide_eq_true (by kernel_rfl)) k0 bel lt0) trodAll_mk0), by first | rfl | simp, bel.frame _, fun h => by cases h⟩

theorem over : Rows.fnRightTermsRow.holds Try.pinned (OpenSpec.ofChange Rows.fnRightTermsSpec) :=
  OpenClaim.holds_of_wide 5 Try.f5 rfl rfl rfl rfl rfl rfl rfl ⟨rfl, rfl, rfl, rfl, rfl⟩ rfl rfl rfl rfl rfl (by kernel_rfl) Try.func5 (by kernel_rfl)
    (of_decide_eq_true (by kernel_rfl)) (by unfold Func.isWrapper; first | (rw [if_pos (by decide +kernel)]; kernel_rfl) | (rw [if_neg (by decide +kernel)]; exact ⟨rfl, rfl⟩))
    (fun os started H enc _ => lifted os started H enc)

theorem proved : Rows.FnRightTermsSaid := over
end Go.Proofs.Ytkjlldbgooogdaa.fnRightTerms
namespace Go.Proofs.Ytkjlldbgooogdaa
theorem fnRightTerms_holds : Rows.FnRightTermsSaid := fnRightTerms.proved
#print axioms fnRightTerms_holds
end Go.Proofs.Ytkjlldbgooogdaa
