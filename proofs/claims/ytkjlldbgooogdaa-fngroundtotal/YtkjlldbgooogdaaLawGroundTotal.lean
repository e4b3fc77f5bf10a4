/- The law FnGroundTotal answers true at every code, and leaves it as it was: of two drawn ground terms that are not the same one is greater. Conditions: none beyond the given row's own. -/
import Derived.Test.YtkjlldbgooogdaaRows
import Derived.Test.YtkjlldbgooogdaaPackGroundTotal10
import Derived.WalkKit
import Derived.ProofKit
import Derived.OpenShut
import Derived.ShutString
import Derived.ChangeOld
import Derived.Below
namespace Go.Proofs.Ytkjlldbgooogdaa.fnGroundTotal
open Go.ChangeShapes Go.WideShapes Go.ChangeAt Go.RowKit
open Go.ChangeMaps (open_string shut_string)
set_option linter.unusedVariables false

theorem own : ownKnob Try.prog.godebug = none := by kernel_rfl
theorem laidOut : laidOutB Try.prog = true := by kernel_rfl

/-- While the law goes on: the drawn terms in their boxes. -/
structure GS (w : World) (g : Nat) (t : TermD) (ta : Option Addr) (tc : Nat) (u : TermD) (ua : Option Addr) (uc Ba Bb : Nat) (W : World) : Prop where
  two : Two w g t ta tc u ua uc W
  a : C3 W Ba (.int .i64 t.f) (.int .i64 t.v) (.slice ta t.kids.length tc)
  b : C3 W Bb (.int .i64 u.f) (.int .i64 u.v) (.slice ua u.kids.length uc)
theorem GS.on {w : World} {g : Nat} {t : TermD} {ta : Option Addr} {tc : Nat} {u : TermD} {ua : Option Addr} {uc Ba Bb : Nat} {W W' : World} (h : GS w g t ta tc u ua uc Ba Bb W) (hb : Below W.heap.size W W') : GS w g t ta tc u ua uc Ba Bb W' := ⟨h.two.on hb, h.a.on hb, h.b.on hb⟩
theorem GS.new {w : World} {g : Nat} {t : TermD} {ta : Option Addr} {tc : Nat} {u : TermD} {ua : Option Addr} {uc : Nat} {W : World} (h : Two w g t ta tc u ua uc W) : GS w g t ta tc u ua uc W.heap.size (W.heap.size + 1) ((W.alloc (.cells #[.int .i64 t.f, .int .i64 t.v, .slice ta t.kids.length tc] 27)).alloc (.cells #[.int .i64 u.f, .int .i64 u.v, .slice ua u.kids.length uc] 27)) :=
  ⟨h.on (((Below.refl _ _).alloc (Nat.le_refl _) _).alloc (by simp) _), ⟨by simp [go_sem], by simp [go_sem], by simp [go_sem]⟩, ⟨by simp [go_sem], by simp [go_sem], by simp [go_sem]⟩⟩

theorem oft_grd {t u : TermD} (h : grdT u = true) : oftT t u = true := by
  unfold oftT
  rw [show varsT u [] = [] by unfold grdT at h; simpa using h]
  rfl
/-- Of two ground terms one is greater, or they are the same. -/
theorem grd_total {ss : List SymD} {t u : TermD} (ht : tok3 ss t = true) (hu : tok3 ss u = true) (gt : grdT t = true) (gu : grdT u = true) : (gtrT ss t u || gtrT ss u t) = !sameT t u := by
  have e1 : gtrT ss t u = (decide (wgtT (blindAt ss) u < wgtT (blindAt ss) t) || (decide (wgtT (blindAt ss) t = wgtT (blindAt ss) u) && befT u t)) := by unfold gtrT ovrT; rw [ht, hu, oft_grd gu, gt, gu]; simp
  have e2 : gtrT ss u t = (decide (wgtT (blindAt ss) t < wgtT (blindAt ss) u) || (decide (wgtT (blindAt ss) u = wgtT (blindAt ss) t) && befT t u)) := by unfold gtrT ovrT; rw [ht, hu, oft_grd gt, gt, gu]; simp
  rw [e1, e2]
  cases hs : sameT t u with
  | true =>
    have := sameT_eqT t u hs
    subst this
    have hb : befT t t = false := (befT_leT t t).2 (leT_refl t)
    simp [hb]
  | false =>
    have hne : t ≠ u := fun e => by
      subst e
      have : sameT t t = true := (ordT_same t t).1 (ordT_zero.2 rfl)
      rw [this] at hs
      cases hs
    rcases Nat.lt_trichotomy (wgtT (blindAt ss) t) (wgtT (blindAt ss) u) with h | h | h
    · simp [h]
    · cases hb : befT u t with
      | true => simp [h]
      | false =>
        cases hb2 : befT t u with
        | true => simp [h]
        | false => exact absurd (leT_anti ((befT_leT u t).1 hb) ((befT_leT t u).1 hb2)) hne
    · simp [h]

theorem sig_small : (∀ s ∈ sig7, s.name.size ≤ maxLen) ∧ (∀ s ∈ sig7, s.name.size ≤ 1048576) := by
  constructor <;> (intro s hs; simp [sig7] at hs; rcases hs with rfl | rfl | rfl | rfl | rfl | rfl | rfl <;> decide)

set_option maxHeartbeats 3200000 in
set_option maxRecDepth 100000 in
theorem small (a : Option Addr) (bs : List Int) (cap : Nat) (w : World) (hl : bs.length ≤ 1048576) (hr : ∀ c, w.heap.size ≤ c → RdB w c a bs) :
    Calls Try.prog 6 #[.slice a bs.length cap] w fun e w' => e = .returned (.bool true) ∧ Below w.heap.size w w' := by
  have hbig' : ¬ (1048576 : Int) < (bs.length : Int) := by omega
  have CD := drawOriented_any a bs cap w hl hr
  clear hr
  go_enter Try.func6, Try.ntmps6
  go_upto_region 4 with (first
    | (go_at_call 7; go_in)
    | (go_at_call 29; refine CD.mono ?_; rintro e w1 ⟨g, t, ta, tc, u, ua, uc, rfl, T1⟩; clear CD))
  have G1 := GS.new T1
  obtain ⟨W, hW⟩ : ∃ W, W = (w1.alloc (.cells #[.int .i64 t.f, .int .i64 t.v, .slice ta t.kids.length tc] 27)).alloc (.cells #[.int .i64 u.f, .int .i64 u.v, .slice ua u.kids.length uc] 27) := ⟨_, rfl⟩
  rw [← hW] at G1 ⊢
  have p1 := T1.p1
  have p2 := T1.p2
  have l1 := T1.l1
  have l2 := T1.l2
  have f1 := T1.w1
  have f2 := T1.w2
  clear hW T1
  generalize w1.heap.size = B at G1 ⊢
  have OT := fun (W' : World) (h : GS w g t ta tc u ua uc B (B + 1) W') => impTermOk_all (some ⟨g, 0, none⟩) sig7 7 sig_small.1 t ta tc W'.heap.size W' h.two.s (by omega) h.two.o1.rd (Nat.le_refl _) l1
  have OU := fun (W' : World) (h : GS w g t ta tc u ua uc B (B + 1) W') => impTermOk_all (some ⟨g, 0, none⟩) sig7 7 sig_small.1 u ua uc W'.heap.size W' h.two.s (by omega) h.two.o2.rd (Nat.le_refl _) l2
  have GT := fun (W' : World) (h : GS w g t ta tc u ua uc B (B + 1) W') => impGround_any t ta tc W'.heap.size W' (by omega) h.two.o1.rd (Nat.le_refl _) l1
  have GU := fun (W' : World) (h : GS w g t ta tc u ua uc B (B + 1) W') => impGround_any u ua uc W'.heap.size W' (by omega) h.two.o2.rd (Nat.le_refl _) l2
  have RT := fun (W' : World) (h : GS w g t ta tc u ua uc B (B + 1) W') => impGreater_any (some ⟨g, 0, none⟩) sig7 7 sig_small.1 t u ta ua tc uc W'.heap.size W' h.two.s (by omega) (by omega) h.two.o1.rd h.two.o2.rd (Nat.le_refl _) l1 l2
  have RU := fun (W' : World) (h : GS w g t ta tc u ua uc B (B + 1) W') => impGreater_any (some ⟨g, 0, none⟩) sig7 7 sig_small.1 u t ua ta uc tc W'.heap.size W' h.two.s (by omega) (by omega) h.two.o2.rd h.two.o1.rd (Nat.le_refl _) l2 l1
  have RS := fun (W' : World) (h : GS w g t ta tc u ua uc B (B + 1) W') => specGreater_any (some ⟨g, 0, none⟩) sig7 7 (by decide) sig_small.2 t u ta ua tc uc W'.heap.size W' f1.1 f2.1 h.two.s (by omega) (by omega) h.two.o1.rd h.two.o2.rd (Nat.le_refl _)
  have SM := fun (W' : World) (h : GS w g t ta tc u ua uc B (B + 1) W') => impSame_any 4194304 t u ta ua tc uc W'.heap.size W' (by omega) (Nat.le_refl _) h.two.o1.rd h.two.o2.rd (Nat.le_refl _) l1 l2
  have HT : Hid (tok3 sig7 t = true → tok3 sig7 u = true → grdT t = true → grdT u = true → (gtrT sig7 t u || gtrT sig7 u t) = !sameT t u) := grd_total
  rw [show (sigOk sig7 && decide (partsT t ≤ 60) && rightT sig7 t) = tok3 sig7 t from rfl] at OT
  rw [show (sigOk sig7 && decide (partsT u ≤ 60) && rightT sig7 u) = tok3 sig7 u from rfl] at OU
  have hl7 : sig7.length = 7 := rfl
  rw [hl7] at OT OU RT RU RS
  clear hl7
  generalize tok3 sig7 t = ot at OT HT
  generalize tok3 sig7 u = ou at OU HT
  generalize grdT t = gt at GT HT
  generalize grdT u = gu at GU HT
  generalize gtrT sig7 t u = rt at RT RS HT
  generalize gtrT sig7 u t = ru at RU HT
  generalize sameT t u = sm at SM HT
  have a0 := G1.a.1
  have a1 := G1.a.2.1
  have a2 := G1.a.2.2
  have b0 := G1.b.1
  have b1 := G1.b.2.1
  have b2 := G1.b.2.2
  clear p1 p2 f1 f2
  have H0 : Hid _ := G1
  clear G1
  cases ot
  · go_wp2_with (go_at_call_of 25 ta; refine (OT _ H0.out).mono ?_; rintro e x1 ⟨rfl, hb⟩; have Hx1 : Hid _ := H0.out.on hb; clear H0 a0 a1 a2 b0 b1 b2; have a0 := Hx1.out.a.1; have a1 := Hx1.out.a.2.1; have a2 := Hx1.out.a.2.2; have b0 := Hx1.out.b.1; have b1 := Hx1.out.b.2.1; have b2 := Hx1.out.b.2.2; clear hb)
    have k0 := cellB a0
    have k1 := cellB a1
    have k2 := cellB a2
    have l0 := cellB b0
    have l1 := cellB b1
    have l2 := cellB b2
    refine wp_region_below (by kernel_rfl) (by kernel_rfl) ?_
    repeat (go_big_quiet_step ((first | (go_at_call 30; refine callsB (RT _ (Hx1.out.on (BW.b _)))) | (go_at_call 31; refine callsB (RS _ (Hx1.out.on (BW.b _)))))))
    refine wpQuiet_nil ?_
    intro wz hw'
    have hbq : Below x1.heap.size x1 wz := by obtain ⟨p, rfl⟩ := hw'; exact p.b
    clear hw' k0 k1 k2 l0 l1 l2
    go_wp2_with fail
    go_ret
    exact ⟨by first | rfl | simp, (Hx1.out.on hbq).two.bel⟩
  cases ou
  · go_wp2_with (first | (go_at_call_of 25 ta; refine (OT _ H0.out).mono ?_; rintro e x1 ⟨rfl, hb⟩; have Hx1 : Hid _ := H0.out.on hb; clear H0 a0 a1 a2 b0 b1 b2; have a0 := Hx1.out.a.1; have a1 := Hx1.out.a.2.1; have a2 := Hx1.out.a.2.2; have b0 := Hx1.out.b.1; have b1 := Hx1.out.b.2.1; have b2 := Hx1.out.b.2.2; clear hb) | (go_at_call_of 25 ua; refine (OU _ Hx1.out).mono ?_; rintro e x2 ⟨rfl, hb⟩; have Hx2 : Hid _ := Hx1.out.on hb; clear Hx1 a0 a1 a2 b0 b1 b2; have a0 := Hx2.out.a.1; have a1 := Hx2.out.a.2.1; have a2 := Hx2.out.a.2.2; have b0 := Hx2.out.b.1; have b1 := Hx2.out.b.2.1; have b2 := Hx2.out.b.2.2; clear hb))
    have k0 := cellB a0
    have k1 := cellB a1
    have k2 := cellB a2
    have l0 := cellB b0
    have l1 := cellB b1
    have l2 := cellB b2
    refine wp_region_below (by kernel_rfl) (by kernel_rfl) ?_
    repeat (go_big_quiet_step ((first | (go_at_call 30; refine callsB (RT _ (Hx2.out.on (BW.b _)))) | (go_at_call 31; refine callsB (RS _ (Hx2.out.on (BW.b _)))))))
    refine wpQuiet_nil ?_
    intro wz hw'
    have hbq : Below x2.heap.size x2 wz := by obtain ⟨p, rfl⟩ := hw'; exact p.b
    clear hw' k0 k1 k2 l0 l1 l2
    go_wp2_with fail
    go_ret
    exact ⟨by first | rfl | simp, (Hx2.out.on hbq).two.bel⟩
  cases gt
  · go_wp2_with (first | (go_at_call_of 25 ta; refine (OT _ H0.out).mono ?_; rintro e x1 ⟨rfl, hb⟩; have Hx1 : Hid _ := H0.out.on hb; clear H0 a0 a1 a2 b0 b1 b2; have a0 := Hx1.out.a.1; have a1 := Hx1.out.a.2.1; have a2 := Hx1.out.a.2.2; have b0 := Hx1.out.b.1; have b1 := Hx1.out.b.2.1; have b2 := Hx1.out.b.2.2; clear hb) | (go_at_call_of 25 ua; refine (OU _ Hx1.out).mono ?_; rintro e x2 ⟨rfl, hb⟩; have Hx2 : Hid _ := Hx1.out.on hb; clear Hx1 a0 a1 a2 b0 b1 b2; have a0 := Hx2.out.a.1; have a1 := Hx2.out.a.2.1; have a2 := Hx2.out.a.2.2; have b0 := Hx2.out.b.1; have b1 := Hx2.out.b.2.1; have b2 := Hx2.out.b.2.2; clear hb) | (go_at_call_of 20 ta; refine (GT _ Hx2.out).mono ?_; rintro e x3 ⟨rfl, hb⟩; have Hx3 : Hid _ := Hx2.out.on hb; clear Hx2 a0 a1 a2 b0 b1 b2; have a0 := Hx3.out.a.1; have a1 := Hx3.out.a.2.1; have a2 := Hx3.out.a.2.2; have b0 := Hx3.out.b.1; have b1 := Hx3.out.b.2.1; have b2 := Hx3.out.b.2.2; clear hb))
    have k0 := cellB a0
    have k1 := cellB a1
    have k2 := cellB a2
    have l0 := cellB b0
    have l1 := cellB b1
    have l2 := cellB b2
    refine wp_region_below (by kernel_rfl) (by kernel_rfl) ?_
    repeat (go_big_quiet_step ((first | (go_at_call 30; refine callsB (RT _ (Hx3.out.on (BW.b _)))) | (go_at_call 31; refine callsB (RS _ (Hx3.out.on (BW.b _)))))))
    refine wpQuiet_nil ?_
    intro wz hw'
    have hbq : Below x3.heap.size x3 wz := by obtain ⟨p, rfl⟩ := hw'; exact p.b
    clear hw' k0 k1 k2 l0 l1 l2
    go_wp2_with fail
    go_ret
    exact ⟨by first | rfl | simp, (Hx3.out.on hbq).two.bel⟩
  cases gu
  · go_wp2_with (first | (go_at_call_of 25 ta; refine (OT _ H0.out).mono ?_; rintro e x1 ⟨rfl, hb⟩; have Hx1 : Hid _ := H0.out.on hb; clear H0 a0 a1 a2 b0 b1 b2; have a0 := Hx1.out.a.1; have a1 := Hx1.out.a.2.1; have a2 := Hx1.out.a.2.2; have b0 := Hx1.out.b.1; have b1 := Hx1.out.b.2.1; have b2 := Hx1.out.b.2.2; clear hb) | (go_at_call_of 25 ua; refine (OU _ Hx1.out).mono ?_; rintro e x2 ⟨rfl, hb⟩; have Hx2 : Hid _ := Hx1.out.on hb; clear Hx1 a0 a1 a2 b0 b1 b2; have a0 := Hx2.out.a.1; have a1 := Hx2.out.a.2.1; have a2 := Hx2.out.a.2.2; have b0 := Hx2.out.b.1; have b1 := Hx2.out.b.2.1; have b2 := Hx2.out.b.2.2; clear hb) | (go_at_call_of 20 ta; refine (GT _ Hx2.out).mono ?_; rintro e x3 ⟨rfl, hb⟩; have Hx3 : Hid _ := Hx2.out.on hb; clear Hx2 a0 a1 a2 b0 b1 b2; have a0 := Hx3.out.a.1; have a1 := Hx3.out.a.2.1; have a2 := Hx3.out.a.2.2; have b0 := Hx3.out.b.1; have b1 := Hx3.out.b.2.1; have b2 := Hx3.out.b.2.2; clear hb) | (go_at_call_of 20 ua; refine (GU _ Hx3.out).mono ?_; rintro e x4 ⟨rfl, hb⟩; have Hx4 : Hid _ := Hx3.out.on hb; clear Hx3 a0 a1 a2 b0 b1 b2; have a0 := Hx4.out.a.1; have a1 := Hx4.out.a.2.1; have a2 := Hx4.out.a.2.2; have b0 := Hx4.out.b.1; have b1 := Hx4.out.b.2.1; have b2 := Hx4.out.b.2.2; clear hb))
    have k0 := cellB a0
    have k1 := cellB a1
    have k2 := cellB a2
    have l0 := cellB b0
    have l1 := cellB b1
    have l2 := cellB b2
    refine wp_region_below (by kernel_rfl) (by kernel_rfl) ?_
    repeat (go_big_quiet_step ((first | (go_at_call 30; refine callsB (RT _ (Hx4.out.on (BW.b _)))) | (go_at_call 31; refine callsB (RS _ (Hx4.out.on (BW.b _)))))))
    refine wpQuiet_nil ?_
    intro wz hw'
    have hbq : Below x4.heap.size x4 wz := by obtain ⟨p, rfl⟩ := hw'; exact p.b
    clear hw' k0 k1 k2 l0 l1 l2
    go_wp2_with fail
    go_ret
    exact ⟨by first | rfl | simp, (Hx4.out.on hbq).two.bel⟩
  have hE := HT.out rfl rfl rfl rfl
  go_wp2_with (first | (go_at_call_of 25 ta; refine (OT _ H0.out).mono ?_; rintro e x1 ⟨rfl, hb⟩; have Hx1 : Hid _ := H0.out.on hb; clear H0 a0 a1 a2 b0 b1 b2; have a0 := Hx1.out.a.1; have a1 := Hx1.out.a.2.1; have a2 := Hx1.out.a.2.2; have b0 := Hx1.out.b.1; have b1 := Hx1.out.b.2.1; have b2 := Hx1.out.b.2.2; clear hb) | (go_at_call_of 25 ua; refine (OU _ Hx1.out).mono ?_; rintro e x2 ⟨rfl, hb⟩; have Hx2 : Hid _ := Hx1.out.on hb; clear Hx1 a0 a1 a2 b0 b1 b2; have a0 := Hx2.out.a.1; have a1 := Hx2.out.a.2.1; have a2 := Hx2.out.a.2.2; have b0 := Hx2.out.b.1; have b1 := Hx2.out.b.2.1; have b2 := Hx2.out.b.2.2; clear hb) | (go_at_call_of 20 ta; refine (GT _ Hx2.out).mono ?_; rintro e x3 ⟨rfl, hb⟩; have Hx3 : Hid _ := Hx2.out.on hb; clear Hx2 a0 a1 a2 b0 b1 b2; have a0 := Hx3.out.a.1; have a1 := Hx3.out.a.2.1; have a2 := Hx3.out.a.2.2; have b0 := Hx3.out.b.1; have b1 := Hx3.out.b.2.1; have b2 := Hx3.out.b.2.2; clear hb) | (go_at_call_of 20 ua; refine (GU _ Hx3.out).mono ?_; rintro e x4 ⟨rfl, hb⟩; have Hx4 : Hid _ := Hx3.out.on hb; clear Hx3 a0 a1 a2 b0 b1 b2; have a0 := Hx4.out.a.1; have a1 := Hx4.out.a.2.1; have a2 := Hx4.out.a.2.2; have b0 := Hx4.out.b.1; have b1 := Hx4.out.b.2.1; have b2 := Hx4.out.b.2.2; clear hb))
  generalize Value.int IntKind.i64 t.f = va0 at RT RU SM a0
  generalize Value.int IntKind.i64 t.v = va1 at RT RU SM a1
  generalize Value.slice ta t.kids.length tc = va2 at RT RU SM a2
  generalize Value.int IntKind.i64 u.f = vb0 at RT RU SM b0
  generalize Value.int IntKind.i64 u.v = vb1 at RT RU SM b1
  generalize Value.slice ua u.kids.length uc = vb2 at RT RU SM b2
  clear OT OU GT GU RS HT
  cases rt
  · cases ru
    · have hsm : sm = true := by simpa using hE.symm
      subst hsm
      have k0 := cellB a0
      have k1 := cellB a1
      have k2 := cellB a2
      have l0 := cellB b0
      have l1 := cellB b1
      have l2 := cellB b2
      refine wp_region_below (by kernel_rfl) (by kernel_rfl) ?_
      iterate 4 (go_big_quiet_step ((go_at_call 30; refine callsB (RT _ (Hx4.out.on (BW.b _))))))
      repeat (go_big_quiet_step ((first | (go_at_call 30; refine callsB (RU _ (Hx4.out.on (BW.b _)))) | (go_at_call 12; refine callsB (SM _ (Hx4.out.on (BW.b _)))))))
      refine wpQuiet_nil ?_
      intro wz hw'
      have hbq : Below x4.heap.size x4 wz := by obtain ⟨p, rfl⟩ := hw'; exact p.b
      clear hw' k0 k1 k2 l0 l1 l2
      go_wp2_with fail
      go_ret
      exact ⟨by first | rfl | simp, (Hx4.out.on hbq).two.bel⟩
    · have hsm : sm = false := by simpa using hE.symm
      subst hsm
      have k0 := cellB a0
      have k1 := cellB a1
      have k2 := cellB a2
      have l0 := cellB b0
      have l1 := cellB b1
      have l2 := cellB b2
      refine wp_region_below (by kernel_rfl) (by kernel_rfl) ?_
      iterate 4 (go_big_quiet_step ((go_at_call 30; refine callsB (RT _ (Hx4.out.on (BW.b _))))))
      repeat (go_big_quiet_step ((first | (go_at_call 30; refine callsB (RU _ (Hx4.out.on (BW.b _)))) | (go_at_call 12; refine callsB (SM _ (Hx4.out.on (BW.b _)))))))
      refine wpQuiet_nil ?_
      intro wz hw'
      have hbq : Below x4.heap.size x4 wz := by obtain ⟨p, rfl⟩ := hw'; exact p.b
      clear hw' k0 k1 k2 l0 l1 l2
      go_wp2_with fail
      go_ret
      exact ⟨by first | rfl | simp, (Hx4.out.on hbq).two.bel⟩
  · have hsm : sm = false := by simpa using hE.symm
    subst hsm
    have k0 := cellB a0
    have k1 := cellB a1
    have k2 := cellB a2
    have l0 := cellB b0
    have l1 := cellB b1
    have l2 := cellB b2
    refine wp_region_below (by kernel_rfl) (by kernel_rfl) ?_
    iterate 4 (go_big_quiet_step ((go_at_call 30; refine callsB (RT _ (Hx4.out.on (BW.b _))))))
    repeat (go_big_quiet_step ((first | (go_at_call 30; refine callsB (RU _ (Hx4.out.on (BW.b _)))) | (go_at_call 12; refine callsB (SM _ (Hx4.out.on (BW.b _)))))))
    refine wpQuiet_nil ?_
    intro wz hw'
    have hbq : Below x4.heap.size x4 wz := by obtain ⟨p, rfl⟩ := hw'; exact p.b
    clear hw' k0 k1 k2 l0 l1 l2
    go_wp2_with fail
    go_ret
    exact ⟨by first | rfl | simp, (Hx4.out.on hbq).two.bel⟩

theorem walk (w : World) (a0 : Option Addr) (len0 cap0 : Nat) (bs : List Int) (hn : len0 = bs.length) (hle : len0 ≤ maxLen) (hr : ∀ c, w.heap.size ≤ c → RdB w c a0 bs) :
    Calls Try.prog 6 #[.slice a0 len0 cap0] w fun e w' => e = .returned (.bool true) ∧ Below w.heap.size w w' := by
  subst hn
  by_cases hbig : 1048576 < bs.length
  · have hbig' : (1048576 : Int) < (bs.length : Int) := by omega
    unfold maxLen at hle
    clear hbig hr
    go_enter Try.func6, Try.ntmps6
    go_wp2
    go_ret
    exact ⟨rfl, Below.refl _ _⟩
  · exact small a0 bs cap0 w (by omega) hr

set_option maxRecDepth 100000 in
theorem lifted (os : Os) (started : os.Started) (H : Type) (enc : TypeId × Value → H) :
    ReturnsInHanded {} Try.checked os 6 .any (Rows.fnGroundTotalSpec.pre6 enc Try.prog Try.f6 Rows.fnGroundTotalRow.domain false) (Rows.fnGroundTotalSpec.post enc Try.prog Try.f6 false true false false) := by
  refine returnsInHanded_of_change (C := Try.checked) own started (by kernel_rfl) Try.func6
    (ChangeSpec.witness6 (enc := enc) (C := Try.checked) false ⟨#[], #[.slice none 0 0], []⟩ 8 (by kernel_rfl) (by kernel_rfl) (by kernel_rfl) (by kernel_rfl)) ?_
  intro W base args ds gs before hval0 hW hcnd _
  have hval : ∀ (j : Nat) t v, Try.f6.params[j]? = some t → args[j]? = some v → Value.okWide Try.prog W .any base t v := hval0
  have hW' := hW
  obtain ⟨p, q, hA0, hV, rfl, hfz, hnd⟩ := hW
  have hA : DataW.TrodAll enc Try.prog W 0 (fun _ => true) true Try.f6.params.toList args.toList ds p := hA0
  rw [Try.params6] at hA hval
  obtain ⟨v0, vs0, d0, ds0, p0, q0, hargs, rfl, rfl, h0, r0⟩ := trodAll_cons hA
  obtain ⟨rfl, rfl, rfl⟩ := trodAll_nil r0
  obtain rfl : args = #[v0] := by cases args; simp_all
  obtain ⟨rfl, rfl⟩ := trodVars_none hV
  obtain ⟨a0, len0, cap0, rfl⟩ := okWide_slice Try.underlying22 (hval 0 22 v0 rfl rfl)
  have k0 := h0
  have lt0 : ∀ x ∈ p0, x.block < W.heap.size := by obtain ⟨m, hm⟩ := k0; exact DataW.trod_lt m _ _ _ hm
  obtain ⟨bs0, hn0, hle0, hr0⟩ := open_code rfl h0
  clear hA0 hval0
  refine (walk W a0 len0 cap0 bs0 hn0 hle0 hr0).mono fun e W' ⟨he, bel⟩ => ?_
  subst he
  exact ⟨_, rfl, _, _, _, [], _, [], hW', trodAll_mk1 (shut_bool Try.underlying4 _), (trodAll_cons_mk (Below.trod laidOut (by kernel_rfl) (of_decide_eq_true (by kernel_rfl)) k0 bel lt0) trodAll_mk0), by first | rfl | simp, bel.frame _, fun h => by cases h⟩

theorem over : Rows.fnGroundTotalRow.holds Try.pinned (OpenSpec.ofChange Rows.fnGroundTotalSpec) :=
  OpenClaim.holds_of_wide 6 Try.f6 rfl rfl rfl rfl rfl rfl rfl ⟨rfl, rfl, rfl, rfl, rfl⟩ rfl rfl rfl rfl rfl (by kernel_rfl) Try.func6 (by kernel_rfl)
    (of_decide_eq_true (by kernel_rfl)) (by unfold Func.isWrapper; first | (rw [if_pos (by decide +kernel)]; kernel_rfl) | (rw [if_neg (by decide +kernel)]; exact ⟨rfl, rfl⟩))
    (fun os started H enc _ => lifted os started H enc)

theorem proved : Rows.FnGroundTotalSaid := over
end Go.Proofs.Ytkjlldbgooogdaa.fnGroundTotal
namespace Go.Proofs.Ytkjlldbgooogdaa
theorem fnGroundTotal_holds : Rows.FnGroundTotalSaid := fnGroundTotal.proved
#print axioms fnGroundTotal_holds
end Go.Proofs.Ytkjlldbgooogdaa
