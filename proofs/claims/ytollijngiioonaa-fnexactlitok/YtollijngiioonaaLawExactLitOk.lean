/- The law FnExactLitOk answers true at every list of functions and every equation and leaves both as they were: at every argument LitOk answers as its specification, and writes into no argument. Conditions: none beyond the given row's own. -/
import Derived.Test.YtollijngiioonaaRows
import Derived.Test.YtollijngiioonaaPackExactLitOk6
import Derived.WalkKit
import Derived.ProofKit
import Derived.OpenShut
import Derived.ShutString
import Derived.ChangeOld
import Derived.Below
namespace Go.Proofs.Ytollijngiioonaa.fnExactLitOk
open Go.ChangeShapes Go.WideShapes Go.ChangeAt Go.RowKit
open Go.ChangeMaps (open_string shut_string)
set_option linter.unusedVariables false

theorem own : ownKnob Try.prog.godebug = none := by kernel_rfl
theorem laidOut : laidOutB Try.prog = true := by kernel_rfl

theorem size_le {ss : List SymD} {s : SymD} (h : s ∈ ss) : s.name.size ≤ bytesOf ss := by
  induction ss with
  | nil => simp at h
  | cons t ss ih =>
    simp only [bytesOf, List.map_cons, List.sum_cons] at *
    rcases List.mem_cons.1 h with rfl | h
    · omega
    · have := ih h; omega

set_option maxHeartbeats 12800000 in
set_option maxRecDepth 100000 in
/-- The law's own walk: it answers true, and nothing that was there is written. -/
theorem walk_of (CI : ∀ (sa : Option Addr) (ss : List SymD) (sc : Nat) (x : LitD) (a1 a2 : Option Addr) (c1 c2 hi : Nat) (w : World), ss.length ≤ 1048577 → (∀ s ∈ ss, s.name.size ≤ 1048576) → RdS w sa ss → isW x.l.f → isW x.r.f → partsT x.l ≤ 549755813888 → partsT x.r ≤ 549755813888 → RdK w hi a1 x.l.kids → RdK w hi a2 x.r.kids → hi ≤ w.heap.size → x.l.kids.length ≤ c1 → x.r.kids.length ≤ c2 →
      Calls Try.prog 31 #[.slice sa ss.length sc, litV x a1 c1 a2 c2] w fun e w' => e = .returned (.bool (okX ss x)) ∧ Below w.heap.size w w')
    (w : World) (a0 : Option Addr) (len0 cap0 : Nat) (ss : List SymD) (hn : len0 = ss.length) (hle0 : len0 ≤ maxLen) (hr0 : RdS w a0 ss) (hall : ∀ s ∈ ss, s.name.size ≤ maxLen ∧ (Lit.int .i64 s.ar).wf = true)
    (x : LitD) (a1 : Option Addr) (c1 : Nat) (a2 : Option Addr) (c2 : Nat) (hxl : isW x.l.f ∧ isW x.l.v) (hxr : isW x.r.f ∧ isW x.r.v) (hx1 : RdK w w.heap.size a1 x.l.kids) (hx2 : RdK w w.heap.size a2 x.r.kids) :
    Calls Try.prog 5 #[.slice a0 len0 cap0, litV x a1 c1 a2 c2] w fun e w' => e = .returned (.bool true) ∧ Below w.heap.size w w' := by
  have hsz : ∀ s ∈ ss, s.name.size ≤ maxLen := fun s hs => (hall s hs).1
  have hf1 := hxl.1
  have hf2 := hxr.1
  unfold maxLen at hle0
  subst hn
  obtain ⟨W, hW⟩ : ∃ W, W = w.alloc (.cells #[.bool x.p, .int .i64 x.l.f, .int .i64 x.l.v, .slice a1 x.l.kids.length c1, .int .i64 x.r.f, .int .i64 x.r.v, .slice a2 x.r.kids.length c2] 54) := ⟨_, rfl⟩
  have hB0 : Below w.heap.size w W := by rw [hW]; exact (Below.refl _ _).alloc (Nat.le_refl _) _
  have KX0 : C7 W w.heap.size (.bool x.p) (.int .i64 x.l.f) (.int .i64 x.l.v) (.slice a1 x.l.kids.length c1) (.int .i64 x.r.f) (.int .i64 x.r.v) (.slice a2 x.r.kids.length c2) := by rw [hW]; exact ⟨by simp [go_sem], by simp [go_sem], by simp [go_sem], by simp [go_sem], by simp [go_sem], by simp [go_sem], by simp [go_sem]⟩
  have SY := szSyms_any a0 ss ss.length cap0 1048576 W rfl (hr0.below hB0) (by omega) (by omega) (by omega) (fun s hs => by have := hsz s hs; unfold maxLen at this; omega)
  have SXa := fun (r : Int) (h0 : 0 ≤ r) (h1 : r ≤ 1048576) (W' : World) (h : Below w.heap.size w W') => szLit_any x a1 a2 c1 c2 w.heap.size r W' h0 h1 (hx1.on h) (hx2.on h) h.size
  have hsx := fun (r : Int) (h0 : 0 ≤ r) (h1 : r ≤ 1048576) => szX_ok x r h0 h1
  unfold litV at SXa
  unfold litV
  go_enter Try.func5, Try.ntmps5
  go_wp2_with (go_at_call 15; rw [← hW]; refine SY.mono ?_; rintro e w1 ⟨r, rfl, hsm, hrm, hb⟩; have hB1 : Below w.heap.size w w1 := hB0.trans (hb.mono hB0.size); have KX1 := KX0.on hb; obtain ⟨p0, p1, p2, p3, p4, p5, p6⟩ := KX1; clear SY KX0 hb hW hB0)
  · go_ret
    exact ⟨rfl, hB1⟩
  · have hr0' : 0 ≤ r := by omega
    have hsum := hsm hr0'
    have hl : ss.length ≤ 1048577 := by omega
    have hnm : ∀ s ∈ ss, s.name.size ≤ 1048576 := fun s hs => by have := size_le hs; omega
    have SX := SXa r hr0' hrm w1 hB1
    have hsx1 := hsx r hr0' hrm
    clear hsm SXa hsx
    generalize szX x r = r1 at SX hsx1
    by_cases hn1 : r1 < 0
    · clear hsx1
      go_wp2_with (go_at_call 28; refine SX.mono ?_; rintro e w2 ⟨rfl, hb⟩; have hB2 : Below w.heap.size w w2 := hB1.trans (hb.mono hB1.size); clear SX hb)
      go_ret
      exact ⟨rfl, hB2⟩
    · obtain ⟨hs1, hs2⟩ := hsx1 (by omega)
      have ex1 := partsT_eq x.l
      have ex2 := partsT_eq x.r
      have m1 : partsT x.l ≤ 549755813888 := by omega
      have m2 : partsT x.r ≤ 549755813888 := by omega
      clear hs1 hs2 ex1 ex2 hsx1 hsum
      have TX := fun (W' : World) (h : Below w.heap.size w W') => toLit_any x a1 a2 c1 c2 w.heap.size W' m1 m2 (hx1.on h) (hx2.on h) h.size
      have CS := fun (sa e1 e2 : Option Addr) (sc k1 k2 hi : Nat) (W' : World) (h0 : RdS W' sa ss) (h1 : RdK W' hi e1 x.l.kids) (h2 : RdK W' hi e2 x.r.kids) (h5 : hi ≤ W'.heap.size) => specLitOk_any sa ss sc hl hnm x e1 e2 k1 k2 hi W' h0 hf1 hf2 m1 m2 h1 h2 h5
      have CJ := fun (sa e1 e2 : Option Addr) (sc hi : Nat) (W' : World) (h0 : RdS W' sa ss) (h1 : RdK W' hi e1 x.l.kids) (h2 : RdK W' hi e2 x.r.kids) (h5 : hi ≤ W'.heap.size) => CI sa ss sc x e1 e2 x.l.kids.length x.r.kids.length hi W' hl hnm h0 hf1 hf2 m1 m2 h1 h2 h5 (Nat.le_refl _) (Nat.le_refl _)
      have EX := fun (e1 e2 e3 e4 : Option Addr) (k1 k2 k3 k4 hi : Nat) (W' : World) (h1 : RdK W' hi e1 x.l.kids) (h2 : RdK W' hi e2 x.r.kids) (h3 : RdK W' hi e3 x.l.kids) (h4 : RdK W' hi e4 x.r.kids) (h5 : hi ≤ W'.heap.size) => eqLit_same x e1 e2 e3 e4 k1 k2 k3 k4 hi W' m1 m2 h1 h2 h3 h4 h5
      unfold litV at TX CS CJ EX
      generalize okX ss x = ok at CS CJ
      have hok : (ok != ok) = false := by simp
      clear m1 m2 hxl hxr hx1 hx2 CI hf1 hf2
      go_wp2_with (go_at_call 28; refine SX.mono ?_; rintro e w2 ⟨rfl, hb⟩; have hB2 : Below w.heap.size w w2 := hB1.trans (hb.mono hB1.size); have KX' := C7.on ⟨p0, p1, p2, p3, p4, p5, p6⟩ hb; clear p0 p1 p2 p3 p4 p5 p6; obtain ⟨p0, p1, p2, p3, p4, p5, p6⟩ := KX'; clear SX hb hB1)
      go_region_held3 (fun w' => w'.cell? ⟨w.heap.size, 0, none⟩ = some (.bool x.p) ∧ w'.cell? ⟨w.heap.size, 1, none⟩ = some (.int .i64 x.l.f) ∧ w'.cell? ⟨w.heap.size, 2, none⟩ = some (.int .i64 x.l.v) ∧ w'.cell? ⟨w.heap.size, 3, none⟩ = some (.slice a1 x.l.kids.length c1) ∧ w'.cell? ⟨w.heap.size, 4, none⟩ = some (.int .i64 x.r.f) ∧ w'.cell? ⟨w.heap.size, 5, none⟩ = some (.int .i64 x.r.v) ∧ w'.cell? ⟨w.heap.size, 6, none⟩ = some (.slice a2 x.r.kids.length c2)) (first | go_keep | exact ⟨p0, p1, p2, p3, p4, p5, p6⟩)
        (first
          | (go_at_call 18; refine (toSyms_any a0 ss _ cap0 _ rfl ?_ hl).mono ?_; exact hr0.below (hB2.trans (Below.mono (B := w2.heap.size) (by (repeat (first | exact Below.refl _ _ | refine Below.drew ?_ | refine Below.alloc ?_ (by simp) _))) hB2.size)); rintro e w3 ⟨rfl, ho3, hb0⟩; have hb : Below w2.heap.size w2 w3 := below_stepL (by (repeat (first | exact Below.refl _ _ | refine Below.drew ?_ | refine Below.alloc ?_ (by simp) _))) hb0; have hc3 := RdS.own rfl ho3; have hB3 : Below w.heap.size w w3 := hB2.trans (hb.mono hB2.size); have KX' := C7.on ⟨p0, p1, p2, p3, p4, p5, p6⟩ hb; clear p0 p1 p2 p3 p4 p5 p6; obtain ⟨p0, p1, p2, p3, p4, p5, p6⟩ := KX'; clear hb hb0 ho3 hB2)
          | (go_at_call_of 30 a1; refine (TX _ (hB3.trans (Below.mono (B := w3.heap.size) (by (repeat (first | exact Below.refl _ _ | refine Below.drew ?_ | refine Below.alloc ?_ (by simp) _))) hB3.size))).mono ?_; rintro e w4 ⟨e1, e2, n1, rfl, o1, o2, z1, z2, hb0⟩; have hb : Below w3.heap.size w3 w4 := below_stepL (by (repeat (first | exact Below.refl _ _ | refine Below.drew ?_ | refine Below.alloc ?_ (by simp) _))) hb0; have hc4 := hc3.below hb; have j1 := o1.rd; have j2 := o2.rd; have hB4 : Below w.heap.size w w4 := hB3.trans (hb.mono hB3.size); have KX' := C7.on ⟨p0, p1, p2, p3, p4, p5, p6⟩ hb; clear p0 p1 p2 p3 p4 p5 p6; obtain ⟨p0, p1, p2, p3, p4, p5, p6⟩ := KX'; clear hb hb0 hB3 o1 o2 z1 z2 hc3)
          | (go_at_call 29; refine (CS _ e1 e2 _ _ _ w4.heap.size _ ?_ ?_ ?_ ?_).mono ?_; (refine RdS.below hc4 ?_; (repeat (first | exact Below.refl _ _ | refine Below.drew ?_ | refine Below.alloc ?_ (by simp) _))); (refine RdK.on j1 ?_; (repeat (first | exact Below.refl _ _ | refine Below.drew ?_ | refine Below.alloc ?_ (by simp) _))); (refine RdK.on j2 ?_; (repeat (first | exact Below.refl _ _ | refine Below.drew ?_ | refine Below.alloc ?_ (by simp) _))); exact (show Below w4.heap.size w4 _ from (by (repeat (first | exact Below.refl _ _ | refine Below.drew ?_ | refine Below.alloc ?_ (by simp) _)))).size; rintro e w5 ⟨rfl, hb0⟩; have hb : Below w4.heap.size w4 w5 := below_stepL (by (repeat (first | exact Below.refl _ _ | refine Below.drew ?_ | refine Below.alloc ?_ (by simp) _))) hb0; have hB5 : Below w.heap.size w w5 := hB4.trans (hb.mono hB4.size); have KX' := C7.on ⟨p0, p1, p2, p3, p4, p5, p6⟩ hb; clear p0 p1 p2 p3 p4 p5 p6; obtain ⟨p0, p1, p2, p3, p4, p5, p6⟩ := KX'; clear hb hb0 hB4 hc4 j1 j2 CS))
      go_wp2_with (first
        | (go_at_call 18; refine (toSyms_any a0 ss _ cap0 _ rfl (hr0.below hB5) hl).mono ?_; rintro e w6 ⟨rfl, ho6, hb⟩; have hc6 := RdS.own rfl ho6; have hB6 : Below w.heap.size w w6 := hB5.trans (hb.mono hB5.size); have KX' := C7.on ⟨p0, p1, p2, p3, p4, p5, p6⟩ hb; clear p0 p1 p2 p3 p4 p5 p6; obtain ⟨p0, p1, p2, p3, p4, p5, p6⟩ := KX'; clear hb hB5 ho6)
        | (go_at_call_of 30 a1; refine (TX w6 hB6).mono ?_; rintro e w7 ⟨e3, e4, n2, rfl, o3, o4, z1, z2, hb⟩; have hc7 := hc6.below hb; have j3 := o3.rd; have j4 := o4.rd; have hB7 : Below w.heap.size w w7 := hB6.trans (hb.mono hB6.size); have KX' := C7.on ⟨p0, p1, p2, p3, p4, p5, p6⟩ hb; clear p0 p1 p2 p3 p4 p5 p6; obtain ⟨p0, p1, p2, p3, p4, p5, p6⟩ := KX'; clear hb o3 o4 z1 z2 hB6 hc6)
        | (go_at_call 31; refine (CJ _ e3 e4 _ w7.heap.size _ (hc7.below ((Below.refl w7.heap.size w7).alloc (Nat.le_refl _) _)) (j3.on ((Below.refl w7.heap.size w7).alloc (Nat.le_refl _) _)) (j4.on ((Below.refl w7.heap.size w7).alloc (Nat.le_refl _) _)) (by simp)).mono ?_; rintro e w8 ⟨rfl, hb⟩; have KR8 : C7 w8 w7.heap.size (.bool x.p) (.int .i64 x.l.f) (.int .i64 x.l.v) (.slice e3 x.l.kids.length x.l.kids.length) (.int .i64 x.r.f) (.int .i64 x.r.v) (.slice e4 x.r.kids.length x.r.kids.length) := C7.on (W := _) ⟨by simp [go_sem], by simp [go_sem], by simp [go_sem], by simp [go_sem], by simp [go_sem], by simp [go_sem], by simp [go_sem]⟩ hb; have hb7 : Below w7.heap.size w7 w8 := ((Below.refl w7.heap.size w7).alloc (Nat.le_refl _) _).trans (hb.mono (by simp)); have hc8 := hc7.below hb7; have f3 := (j3.on hb7).mono hb7.size; have f4 := (j4.on hb7).mono hb7.size; have hB8 := hB7.trans (hb7.mono hB7.size); have KX' := C7.on ⟨p0, p1, p2, p3, p4, p5, p6⟩ hb7; clear p0 p1 p2 p3 p4 p5 p6; obtain ⟨p0, p1, p2, p3, p4, p5, p6⟩ := KX'; obtain ⟨r0, r1, r2, r3, r4, r5, r6⟩ := KR8; clear hb hb7 hB7 hc7 j3 j4 CJ)
        | (go_at_call 18; refine (toSyms_any a0 ss _ cap0 _ rfl (hr0.below hB8) hl).mono ?_; rintro e w9 ⟨rfl, ho9, hb⟩; have hc9 := RdS.own rfl ho9; have hd9 := hc8.below hb; have k3 := (f3.on hb).mono hb.size; have k4 := (f4.on hb).mono hb.size; have hB9 : Below w.heap.size w w9 := hB8.trans (hb.mono hB8.size); have KX' := C7.on ⟨p0, p1, p2, p3, p4, p5, p6⟩ hb; clear p0 p1 p2 p3 p4 p5 p6; obtain ⟨p0, p1, p2, p3, p4, p5, p6⟩ := KX'; have KR' := C7.on ⟨r0, r1, r2, r3, r4, r5, r6⟩ hb; clear r0 r1 r2 r3 r4 r5 r6; obtain ⟨r0, r1, r2, r3, r4, r5, r6⟩ := KR'; clear hb hB8 ho9 hc8 f3 f4)
        | (go_at_call 22; refine (eqSyms_same _ _ ss _ _ _ _ _ rfl rfl hd9 hc9 hl).mono ?_; rintro e w10 ⟨rfl, hb⟩; have l3 := (k3.on hb).mono hb.size; have l4 := (k4.on hb).mono hb.size; have hB10 : Below w.heap.size w w10 := hB9.trans (hb.mono hB9.size); have KX' := C7.on ⟨p0, p1, p2, p3, p4, p5, p6⟩ hb; clear p0 p1 p2 p3 p4 p5 p6; obtain ⟨p0, p1, p2, p3, p4, p5, p6⟩ := KX'; have KR' := C7.on ⟨r0, r1, r2, r3, r4, r5, r6⟩ hb; clear r0 r1 r2 r3 r4 r5 r6; obtain ⟨r0, r1, r2, r3, r4, r5, r6⟩ := KR'; clear hb hB9 hc9 hd9 k3 k4))
      go_region_held3 (fun w' => (w'.cell? ⟨w.heap.size, 0, none⟩ = some (.bool x.p) ∧ w'.cell? ⟨w.heap.size, 1, none⟩ = some (.int .i64 x.l.f) ∧ w'.cell? ⟨w.heap.size, 2, none⟩ = some (.int .i64 x.l.v) ∧ w'.cell? ⟨w.heap.size, 3, none⟩ = some (.slice a1 x.l.kids.length c1) ∧ w'.cell? ⟨w.heap.size, 4, none⟩ = some (.int .i64 x.r.f) ∧ w'.cell? ⟨w.heap.size, 5, none⟩ = some (.int .i64 x.r.v) ∧ w'.cell? ⟨w.heap.size, 6, none⟩ = some (.slice a2 x.r.kids.length c2)) ∧ w'.cell? ⟨w7.heap.size, 0, none⟩ = some (.bool x.p) ∧ w'.cell? ⟨w7.heap.size, 1, none⟩ = some (.int .i64 x.l.f) ∧ w'.cell? ⟨w7.heap.size, 2, none⟩ = some (.int .i64 x.l.v) ∧ w'.cell? ⟨w7.heap.size, 3, none⟩ = some (.slice e3 x.l.kids.length x.l.kids.length) ∧ w'.cell? ⟨w7.heap.size, 4, none⟩ = some (.int .i64 x.r.f) ∧ w'.cell? ⟨w7.heap.size, 5, none⟩ = some (.int .i64 x.r.v) ∧ w'.cell? ⟨w7.heap.size, 6, none⟩ = some (.slice e4 x.r.kids.length x.r.kids.length)) (first | go_keep | exact ⟨⟨p0, p1, p2, p3, p4, p5, p6⟩, r0, r1, r2, r3, r4, r5, r6⟩)
        (first
          | (go_at_call_of 30 a1; refine (TX _ (hB10.trans (Below.mono (B := w10.heap.size) (by (repeat (first | exact Below.refl _ _ | refine Below.drew ?_ | refine Below.alloc ?_ (by simp) _))) hB10.size))).mono ?_; rintro e w11 ⟨h1, h2, n5, rfl, o9, o10, z1, z2, hb0⟩; have hb : Below w10.heap.size w10 w11 := below_stepL (by (repeat (first | exact Below.refl _ _ | refine Below.drew ?_ | refine Below.alloc ?_ (by simp) _))) hb0; have j9 := o9.rd; have j10 := o10.rd; have k5 := (l3.on hb).mono hb.size; have k6 := (l4.on hb).mono hb.size; have hB11 : Below w.heap.size w w11 := hB10.trans (hb.mono hB10.size); have KX' := C7.on ⟨p0, p1, p2, p3, p4, p5, p6⟩ hb; clear p0 p1 p2 p3 p4 p5 p6; obtain ⟨p0, p1, p2, p3, p4, p5, p6⟩ := KX'; have KR' := C7.on ⟨r0, r1, r2, r3, r4, r5, r6⟩ hb; clear r0 r1 r2 r3 r4 r5 r6; obtain ⟨r0, r1, r2, r3, r4, r5, r6⟩ := KR'; clear hb hb0 hB10 o9 o10 z1 z2 l3 l4)
          | (go_at_call 21; refine (EX e3 e4 h1 h2 _ _ _ _ w11.heap.size _ ?_ ?_ ?_ ?_ ?_).mono ?_; (refine RdK.on k5 ?_; (repeat (first | exact Below.refl _ _ | refine Below.drew ?_ | refine Below.alloc ?_ (by simp) _))); (refine RdK.on k6 ?_; (repeat (first | exact Below.refl _ _ | refine Below.drew ?_ | refine Below.alloc ?_ (by simp) _))); (refine RdK.on j9 ?_; (repeat (first | exact Below.refl _ _ | refine Below.drew ?_ | refine Below.alloc ?_ (by simp) _))); (refine RdK.on j10 ?_; (repeat (first | exact Below.refl _ _ | refine Below.drew ?_ | refine Below.alloc ?_ (by simp) _))); exact (show Below w11.heap.size w11 _ from (by (repeat (first | exact Below.refl _ _ | refine Below.drew ?_ | refine Below.alloc ?_ (by simp) _)))).size; rintro e w12 ⟨rfl, hb0⟩; have hb : Below w11.heap.size w11 w12 := below_stepL (by (repeat (first | exact Below.refl _ _ | refine Below.drew ?_ | refine Below.alloc ?_ (by simp) _))) hb0; have hB12 : Below w.heap.size w w12 := hB11.trans (hb.mono hB11.size); have KX' := C7.on ⟨p0, p1, p2, p3, p4, p5, p6⟩ hb; clear p0 p1 p2 p3 p4 p5 p6; obtain ⟨p0, p1, p2, p3, p4, p5, p6⟩ := KX'; have KR' := C7.on ⟨r0, r1, r2, r3, r4, r5, r6⟩ hb; clear r0 r1 r2 r3 r4 r5 r6; obtain ⟨r0, r1, r2, r3, r4, r5, r6⟩ := KR'; clear hb hb0 hB11 k5 k6 j9 j10))
      go_wp2_with fail
      go_ret
      exact ⟨rfl, hB12⟩
/-- The same with the program's own contract. -/
theorem walk (w : World) (a0 : Option Addr) (len0 cap0 : Nat) (ss : List SymD) (hn : len0 = ss.length) (hle0 : len0 ≤ maxLen) (hr0 : RdS w a0 ss) (hall : ∀ s ∈ ss, s.name.size ≤ maxLen ∧ (Lit.int .i64 s.ar).wf = true)
    (x : LitD) (a1 : Option Addr) (c1 : Nat) (a2 : Option Addr) (c2 : Nat) (hxl : isW x.l.f ∧ isW x.l.v) (hxr : isW x.r.f ∧ isW x.r.v) (hx1 : RdK w w.heap.size a1 x.l.kids) (hx2 : RdK w w.heap.size a2 x.r.kids) :
    Calls Try.prog 5 #[.slice a0 len0 cap0, litV x a1 c1 a2 c2] w fun e w' => e = .returned (.bool true) ∧ Below w.heap.size w w' :=
  walk_of impLitOk_any w a0 len0 cap0 ss hn hle0 hr0 hall x a1 c1 a2 c2 hxl hxr hx1 hx2

set_option maxRecDepth 100000 in
theorem lifted (os : Os) (started : os.Started) (H : Type) (enc : TypeId × Value → H) :
    ReturnsInHanded {} Try.checked os 5 .any (Rows.fnExactLitOkSpec.pre6 enc Try.prog Try.f5 Rows.fnExactLitOkRow.domain false) (Rows.fnExactLitOkSpec.post enc Try.prog Try.f5 false true false false) := by
  refine returnsInHanded_of_change (C := Try.checked) own started (by kernel_rfl) Try.func5
    (ChangeSpec.witness6 (enc := enc) (C := Try.checked) false ⟨#[], #[.slice none 0 0, .agg #[.bool false, .int .i64 0, .int .i64 0, .slice none 0 0, .int .i64 0, .int .i64 0, .slice none 0 0]], []⟩ 8 (by kernel_rfl) (by kernel_rfl) (by kernel_rfl) (by kernel_rfl)) ?_
  intro W base args ds gs before hval0 hW hcnd _
  have hval : ∀ (j : Nat) t v, Try.f5.params[j]? = some t → args[j]? = some v → Value.okWide Try.prog W .any base t v := hval0
  have hW' := hW
  obtain ⟨p, q, hA0, hV, rfl, hfz, hnd⟩ := hW
  have hA : DataW.TrodAll enc Try.prog W 0 (fun _ => true) true Try.f5.params.toList args.toList ds p := hA0
  rw [Try.params5] at hA hval
  obtain ⟨v0, vs0, d0, ds0, p0, q0, hargs, rfl, rfl, h0, r0⟩ := trodAll_cons hA
  obtain ⟨v1, vs1, d1, ds1, p1, q1, rfl, rfl, rfl, h1, r1⟩ := trodAll_cons r0
  obtain ⟨rfl, rfl, rfl⟩ := trodAll_nil r1
  obtain rfl : args = #[v0, v1] := by cases args; simp_all
  obtain ⟨rfl, rfl⟩ := trodVars_none hV
  obtain ⟨a0, len0, cap0, rfl⟩ := okWide_slice Try.underlying36 (hval 0 36 v0 rfl rfl)
  have k0 := h0
  have lt0 : ∀ x ∈ p0, x.block < W.heap.size := by obtain ⟨m, hm⟩ := k0; exact DataW.trod_lt m _ _ _ hm
  obtain ⟨ss0, hn0, hle0, hr0, hall0⟩ := open_syms rfl h0
  obtain ⟨cs1, rfl, _⟩ := okWide_struct Try.underlying54 (hval 1 54 v1 rfl rfl)
  have k1 := h1
  have lt1 : ∀ x ∈ p1, x.block < W.heap.size := by obtain ⟨m, hm⟩ := k1; exact DataW.trod_lt m _ _ _ hm
  obtain ⟨x1, a1, c1, b1, g1, e1, hf1, hv1, hle1, hr1, hq1⟩ := open_lit rfl h1
  obtain rfl : cs1 = #[.bool x1.p, .int .i64 x1.l.f, .int .i64 x1.l.v, .slice a1 x1.l.kids.length c1, .int .i64 x1.r.f, .int .i64 x1.r.v, .slice b1 x1.r.kids.length g1] := by simpa [litV] using e1
  clear hA0 hval0
  refine (walk W a0 len0 cap0 ss0 hn0 hle0 hr0 hall0 x1 a1 c1 b1 g1 hf1 hv1 hr1 hq1).mono fun e W' ⟨he, bel⟩ => ?_
  subst he
  exact ⟨_, rfl, _, _, _, [], _, [], hW', trodAll_mk1 (shut_bool Try.underlying4 _), (trodAll_cons_mk (Below.trod laidOut (by kernel_rfl) (of_decide_eq_true (by kernel_rfl)) k0 bel lt0) (trodAll_cons_mk (Below.trod laidOut (by kernel_rfl) (of_decide_eq_true (by kernel_rfl)) k1 bel lt1) trodAll_mk0)), by first | rfl | simp, bel.frame _, fun h => by cases h⟩

theorem over : Rows.fnExactLitOkRow.holds Try.pinned (OpenSpec.ofChange Rows.fnExactLitOkSpec) :=
  OpenClaim.holds_of_wide 5 Try.f5 rfl rfl rfl rfl rfl rfl rfl ⟨rfl, rfl, rfl, rfl, rfl⟩ rfl rfl rfl rfl rfl (by kernel_rfl) Try.func5 (by kernel_rfl)
    (of_decide_eq_true (by kernel_rfl)) (by unfold Func.isWrapper; first | (rw [if_pos (by decide +kernel)]; kernel_rfl) | (rw [if_neg (by decide +kernel)]; exact ⟨rfl, rfl⟩))
    (fun os started H enc _ => lifted os started H enc)

theorem proved : Rows.FnExactLitOkSaid := over
end Go.Proofs.Ytollijngiioonaa.fnExactLitOk
namespace Go.Proofs.Ytollijngiioonaa
theorem fnExactLitOk_holds : Rows.FnExactLitOkSaid := fnExactLitOk.proved
#print axioms fnExactLitOk_holds
end Go.Proofs.Ytollijngiioonaa
