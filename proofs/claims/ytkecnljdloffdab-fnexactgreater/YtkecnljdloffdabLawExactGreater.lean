/- The law FnExactGreater answers true at every list of functions and any two terms and leaves all as they were: at every argument Greater answers as its specification. Conditions: none beyond the given row's own. -/
import Derived.Test.YtkecnljdloffdabRows
import Derived.Test.YtkecnljdloffdabPackExactGreater8
import Derived.WalkKit
import Derived.ProofKit
import Derived.OpenShut
import Derived.ShutString
import Derived.ChangeOld
import Derived.Below
namespace Go.Proofs.Ytkecnljdloffdab.fnExactGreater
open Go.ChangeShapes Go.WideShapes Go.ChangeAt Go.RowKit
open Go.ChangeMaps (open_string shut_string)
set_option linter.unusedVariables false

theorem own : ownKnob Try.prog.godebug = none := by kernel_rfl
theorem laidOut : laidOutB Try.prog = true := by kernel_rfl

theorem box_on {W W' : World} {b0 : Nat} {x0 x1 x2 : Value} (h : W.cell? ⟨b0, 0, none⟩ = some x0 ∧ W.cell? ⟨b0, 1, none⟩ = some x1 ∧ W.cell? ⟨b0, 2, none⟩ = some x2) (hb : Below W.heap.size W W') :
    W'.cell? ⟨b0, 0, none⟩ = some x0 ∧ W'.cell? ⟨b0, 1, none⟩ = some x1 ∧ W'.cell? ⟨b0, 2, none⟩ = some x2 := ⟨keepC hb h.1, keepC hb h.2.1, keepC hb h.2.2⟩
theorem size_le {ss : List SymD} {s : SymD} (h : s ∈ ss) : s.name.size ≤ bytesOf ss := by
  induction ss with
  | nil => simp at h
  | cons t ss ih =>
    simp only [bytesOf, List.map_cons, List.sum_cons] at *
    rcases List.mem_cons.1 h with rfl | h
    · omega
    · have := ih h; omega

set_option maxHeartbeats 6400000 in
set_option maxRecDepth 100000 in
/-- The law's own walk: it answers true, and nothing that was there is written. -/
theorem walk (w : World) (a0 : Option Addr) (len0 cap0 : Nat) (ss : List SymD) (hn : len0 = ss.length) (hle0 : len0 ≤ maxLen) (hr0 : RdS w a0 ss) (hall : ∀ s ∈ ss, s.name.size ≤ maxLen ∧ (Lit.int .i64 s.ar).wf = true)
    (t : TermD) (a : Option Addr) (c : Nat) (hf : isW t.f) (_hv : isW t.v) (_hle : t.kids.length ≤ maxLen) (hr : RdK w w.heap.size a t.kids)
    (u : TermD) (a' : Option Addr) (c' : Nat) (hf' : isW u.f) (_hv' : isW u.v) (_hle' : u.kids.length ≤ maxLen) (hr' : RdK w w.heap.size a' u.kids) :
    Calls Try.prog 4 #[.slice a0 len0 cap0, .agg #[.int .i64 t.f, .int .i64 t.v, .slice a t.kids.length c], .agg #[.int .i64 u.f, .int .i64 u.v, .slice a' u.kids.length c']] w fun e w' => e = .returned (.bool true) ∧ Below w.heap.size w w' := by
  have hsz : ∀ s ∈ ss, s.name.size ≤ maxLen := fun s hs => (hall s hs).1
  unfold maxLen at hle0
  subst hn
  obtain ⟨W, hW⟩ : ∃ W, W = (w.alloc (.cells #[.int .i64 t.f, .int .i64 t.v, .slice a t.kids.length c] 41)).alloc (.cells #[.int .i64 u.f, .int .i64 u.v, .slice a' u.kids.length c'] 41) := ⟨_, rfl⟩
  have hB0 : Below w.heap.size w W := by rw [hW]; exact ((Below.refl _ _).alloc (Nat.le_refl _) _).alloc (by simp) _
  have SY := szSyms_any a0 ss ss.length cap0 1048576 W rfl (hr0.below hB0) (by omega) (by omega) (by omega) (fun s hs => by have := hsz s hs; unfold maxLen at this; omega)
  have P0 : (W.cell? ⟨w.heap.size, 0, none⟩ = some (.int .i64 t.f) ∧ W.cell? ⟨w.heap.size, 1, none⟩ = some (.int .i64 t.v) ∧ W.cell? ⟨w.heap.size, 2, none⟩ = some (.slice a t.kids.length c)) ∧ W.cell? ⟨w.heap.size + 1, 0, none⟩ = some (.int .i64 u.f) ∧ W.cell? ⟨w.heap.size + 1, 1, none⟩ = some (.int .i64 u.v) ∧ W.cell? ⟨w.heap.size + 1, 2, none⟩ = some (.slice a' u.kids.length c') := by rw [hW]; simp [go_sem]
  have hpt := partsT_eq t
  have hpu := partsT_eq u
  go_enter Try.func4, Try.ntmps4
  go_wp2_with (go_at_call 5; rw [← hW]; refine SY.mono ?_; rintro e w1 ⟨r, rfl, hsm, hrm, hb⟩; have hB1 : Below w.heap.size w w1 := hB0.trans (hb.mono hB0.size); have P := keep6 P0 hb; obtain ⟨⟨p0, p1, p2⟩, q0, q1, q2⟩ := P; clear SY P0 hb hW hB0)
  · go_ret
    exact ⟨rfl, hB1⟩
  · have hr0' : 0 ≤ r := by omega
    have hsum := hsm hr0'
    have hl : ss.length ≤ 1048577 := by omega
    have hnm : ∀ s ∈ ss, s.name.size ≤ 1048576 := fun s hs => by have := size_le hs; omega
    have SZ := szTerm_any t a c w.heap.size r w1 hr0' hrm (hr.on hB1) hB1.size
    clear hsm
    by_cases hb1 : (partsL t.kids : Int) ≤ r
    · rw [show szR t.kids r = r - partsL t.kids by unfold szR; rw [if_pos hb1]] at SZ
      have hn1 : ¬ (r - (partsL t.kids : Int)) < 0 := by omega
      have hp0 : partsT t ≤ 1048577 := by omega
      have hp1 : partsT t ≤ 4194304 := by omega
      have hs0' : 0 ≤ r - (partsL t.kids : Int) := by omega
      have hsm' : r - (partsL t.kids : Int) ≤ 1048576 := by omega
      clear hpt hb1 hsum
      generalize r - (partsL t.kids : Int) = r2 at SZ hn1 hs0' hsm'
      by_cases hb2 : (partsL u.kids : Int) ≤ r2
      · have hn2 : ¬ (r2 - (partsL u.kids : Int)) < 0 := by omega
        have hp0' : partsT u ≤ 1048577 := by omega
        have hp1' : partsT u ≤ 4194304 := by omega
        have SU := fun W' (h : Below w.heap.size w W') => szTerm_any u a' c' w.heap.size r2 W' hs0' hsm' (hr'.on h) h.size
        rw [show szR u.kids r2 = r2 - partsL u.kids by unfold szR; rw [if_pos hb2]] at SU
        clear hpu hb2
        generalize r2 - (partsL u.kids : Int) = r3 at SU hn2
        go_wp2_with (first
          | (go_at_call_of 18 t; refine SZ.mono ?_; rintro e w2 ⟨rfl, hb⟩; have hB2 : Below w.heap.size w w2 := hB1.trans (hb.mono hB1.size); have P := keep6 ⟨⟨p0, p1, p2⟩, q0, q1, q2⟩ hb; clear p0 p1 p2 q0 q1 q2; obtain ⟨⟨p0, p1, p2⟩, q0, q1, q2⟩ := P; clear SZ hb hB1)
          | (go_at_call_of 18 u; refine (SU _ hB2).mono ?_; rintro e w3 ⟨rfl, hb⟩; have hB3 : Below w.heap.size w w3 := hB2.trans (hb.mono hB2.size); have P := keep6 ⟨⟨p0, p1, p2⟩, q0, q1, q2⟩ hb; clear p0 p1 p2 q0 q1 q2; obtain ⟨⟨p0, p1, p2⟩, q0, q1, q2⟩ := P; clear SU hb hB2))
        go_region_held3 (fun w' => w'.cell? ⟨w.heap.size, 0, none⟩ = some (.int .i64 t.f) ∧ w'.cell? ⟨w.heap.size, 1, none⟩ = some (.int .i64 t.v) ∧ w'.cell? ⟨w.heap.size, 2, none⟩ = some (.slice a t.kids.length c) ∧ w'.cell? ⟨w.heap.size + 1, 0, none⟩ = some (.int .i64 u.f) ∧ w'.cell? ⟨w.heap.size + 1, 1, none⟩ = some (.int .i64 u.v) ∧ w'.cell? ⟨w.heap.size + 1, 2, none⟩ = some (.slice a' u.kids.length c')) (first | go_keep | exact ⟨p0, p1, p2, q0, q1, q2⟩)
          (first
            | (go_at_call 8; refine (toSyms_any a0 ss _ cap0 _ rfl ?_ hl).mono ?_; exact hr0.below hB3.drew; rintro e w4 ⟨rfl, ho4, hb0⟩; have hb : Below w3.heap.size w3 w4 := (Below.refl _ _).drew.trans hb0; have hc4 := RdS.own rfl ho4; have hB4 : Below w.heap.size w w4 := hB3.trans (hb.mono hB3.size); have P := keep6 ⟨⟨p0, p1, p2⟩, q0, q1, q2⟩ hb; clear p0 p1 p2 q0 q1 q2; obtain ⟨⟨p0, p1, p2⟩, q0, q1, q2⟩ := P; clear hb hb0 ho4 hB3)
            | (go_at_call_of 20 t; refine (toTerm_any t a c w.heap.size _ hp1 ?_ ?_).mono ?_; exact hr.on hB4; exact hB4.size; rintro e w5 ⟨x1, rfl, ho5, hb⟩; have hc5 := hc4.below hb; have hB5 : Below w.heap.size w w5 := hB4.trans (hb.mono hB4.size); have hz5 := hb.size; have P := keep6 ⟨⟨p0, p1, p2⟩, q0, q1, q2⟩ hb; clear p0 p1 p2 q0 q1 q2; obtain ⟨⟨p0, p1, p2⟩, q0, q1, q2⟩ := P; clear hb hB4 hc4)
            | (go_at_call_of 20 u; refine (toTerm_any u a' c' w.heap.size _ hp1' ?_ ?_).mono ?_; exact hr'.on hB5; exact hB5.size; rintro e w6 ⟨x2, rfl, ho6, hb⟩; have hc6 := hc5.below hb; have hq6 := ho5.rd.on hb; have hB6 : Below w.heap.size w w6 := hB5.trans (hb.mono hB5.size); have hz6 := hb.size; have P := keep6 ⟨⟨p0, p1, p2⟩, q0, q1, q2⟩ hb; clear p0 p1 p2 q0 q1 q2; obtain ⟨⟨p0, p1, p2⟩, q0, q1, q2⟩ := P; clear hb hB5 hc5)
            | (go_at_call 19; refine (specGreater_any _ ss _ hl hnm t u x1 x2 _ _ w6.heap.size _ hf hf' hc6 hp0 hp0' (hq6.mono hz6) ho6.rd (Nat.le_refl _)).mono ?_; rintro e w7 ⟨rfl, hb⟩; have hB7 : Below w.heap.size w w7 := hB6.trans (hb.mono hB6.size); have P := keep6 ⟨⟨p0, p1, p2⟩, q0, q1, q2⟩ hb; clear p0 p1 p2 q0 q1 q2; obtain ⟨⟨p0, p1, p2⟩, q0, q1, q2⟩ := P; clear hb hB6 hc6 ho5 ho6 hq6 hz5 hz6))
        go_wp2_with (first
          | (go_at_call 8; refine (toSyms_any a0 ss _ cap0 _ rfl (hr0.below hB7) hl).mono ?_; rintro e w8 ⟨rfl, ho8, hb⟩; have hc8 := RdS.own rfl ho8; have hB8 : Below w.heap.size w w8 := hB7.trans (hb.mono hB7.size); have P := keep6 ⟨⟨p0, p1, p2⟩, q0, q1, q2⟩ hb; clear p0 p1 p2 q0 q1 q2; obtain ⟨⟨p0, p1, p2⟩, q0, q1, q2⟩ := P; clear hb hB7 ho8)
          | (go_at_call_of 20 t; refine (toTerm_any t a c w.heap.size _ hp1 (hr.on hB8) hB8.size).mono ?_; rintro e w9 ⟨y1, rfl, ho9, hb⟩; have hc9 := hc8.below hb; have hB9 : Below w.heap.size w w9 := hB8.trans (hb.mono hB8.size); have P := keep6 ⟨⟨p0, p1, p2⟩, q0, q1, q2⟩ hb; clear p0 p1 p2 q0 q1 q2; obtain ⟨⟨p0, p1, p2⟩, q0, q1, q2⟩ := P; have hz9 : w.heap.size + 1 < w9.heap.size := World.block_lt_of_cell? _ _ q0; have hB9a : Below w.heap.size w (w9.alloc (.cells #[.int .i64 t.f, .int .i64 t.v, .slice y1 t.kids.length t.kids.length] 28)) := hB9.alloc hB9.size _; clear hb hB8 hc8)
          | (go_at_call_of 20 u; refine (toTerm_any u a' c' w.heap.size _ hp1' (hr'.on hB9a) hB9a.size).mono ?_; rintro e w10 ⟨y2, rfl, ho10, hb⟩; have hb9 : Below w9.heap.size w9 w10 := ((Below.refl w9.heap.size w9).alloc (Nat.le_refl _) _).trans (hb.mono (by simp)); have r0 : w10.cell? ⟨w9.heap.size, 0, none⟩ = some (.int .i64 t.f) := keepC hb (by simp [go_sem]); have r1 : w10.cell? ⟨w9.heap.size, 1, none⟩ = some (.int .i64 t.v) := keepC hb (by simp [go_sem]); have r2 : w10.cell? ⟨w9.heap.size, 2, none⟩ = some (.slice y1 t.kids.length t.kids.length) := keepC hb (by simp [go_sem]); have x1 := ho9.rd.on hb9; have hc10 := hc9.below hb9; have hB10 : Below w.heap.size w w10 := hB9.trans (hb9.mono hB9.size); have hz10 : w9.heap.size < w10.heap.size := World.block_lt_of_cell? _ _ r0; have P := keep6 ⟨⟨p0, p1, p2⟩, q0, q1, q2⟩ hb9; clear p0 p1 p2 q0 q1 q2; obtain ⟨⟨p0, p1, p2⟩, q0, q1, q2⟩ := P; have hz10' : w.heap.size + 1 < w10.heap.size := World.block_lt_of_cell? _ _ q0; clear hb hb9 hB9 hB9a hc9 ho9 hz9)
          | (go_at_call 21; refine (impGreater_any _ ss _ hsz t u y1 y2 _ _ w10.heap.size _ (hc10.below ((Below.refl w10.heap.size w10).alloc (Nat.le_refl _) _)) hp0 hp0' ((x1.mono (Nat.le_of_lt hz10)).on ((Below.refl w10.heap.size w10).alloc (Nat.le_refl _) _)) (ho10.rd.on ((Below.refl w10.heap.size w10).alloc (Nat.le_refl _) _)) (by simp) (Nat.le_refl _) (Nat.le_refl _)).mono ?_; rintro e w11 ⟨rfl, hb⟩; have hb10 : Below w10.heap.size w10 w11 := ((Below.refl w10.heap.size w10).alloc (Nat.le_refl _) _).trans (hb.mono (by simp)); have s0 : w11.cell? ⟨w10.heap.size, 0, none⟩ = some (.int .i64 u.f) := keepC hb (by simp [go_sem]); have s1 : w11.cell? ⟨w10.heap.size, 1, none⟩ = some (.int .i64 u.v) := keepC hb (by simp [go_sem]); have s2 : w11.cell? ⟨w10.heap.size, 2, none⟩ = some (.slice y2 u.kids.length u.kids.length) := keepC hb (by simp [go_sem]); have x1' := x1.on (hb10.mono (Nat.le_of_lt hz10)); have x2 := ho10.rd.on hb10; have hc11 := hc10.below hb10; have hB11 : Below w.heap.size w w11 := hB10.trans (hb10.mono hB10.size); have hz11 := hb10.size; have P := keep6 ⟨⟨p0, p1, p2⟩, q0, q1, q2⟩ hb10; clear p0 p1 p2 q0 q1 q2; obtain ⟨⟨p0, p1, p2⟩, q0, q1, q2⟩ := P; have Rr := box_on ⟨r0, r1, r2⟩ hb10; clear r0 r1 r2; obtain ⟨r0, r1, r2⟩ := Rr; clear hb hb10 hB10 hc10 ho10 x1 hz10')
          | (go_at_call 8; refine (toSyms_any a0 ss _ cap0 _ rfl (hr0.below hB11) hl).mono ?_; rintro e w12 ⟨rfl, ho12, hb⟩; have hc12 := RdS.own rfl ho12; have hd12 := hc11.below hb; have x1 := x1'.on (hb.mono (by omega)); have x3 := x2.on (hb.mono hz11); have hz12 := hb.size; have hB12 : Below w.heap.size w w12 := hB11.trans (hb.mono hB11.size); have P := keep6 ⟨⟨p0, p1, p2⟩, q0, q1, q2⟩ hb; clear p0 p1 p2 q0 q1 q2; obtain ⟨⟨p0, p1, p2⟩, q0, q1, q2⟩ := P; have Rr := box_on ⟨r0, r1, r2⟩ hb; clear r0 r1 r2; obtain ⟨r0, r1, r2⟩ := Rr; have Rs := box_on ⟨s0, s1, s2⟩ hb; clear s0 s1 s2; obtain ⟨s0, s1, s2⟩ := Rs; clear hb hB11 ho12 hc11 x1' x2)
          | (go_at_call 12; refine (eqSyms_same _ _ ss _ _ _ _ _ rfl rfl hd12 hc12 hl).mono ?_; rintro e w13 ⟨rfl, hb⟩; have x1' := x1.on (hb.mono (by omega)); have x2 := x3.on (hb.mono (by omega)); have hz13 := hb.size; have hB13 : Below w.heap.size w w13 := hB12.trans (hb.mono hB12.size); have P := keep6 ⟨⟨p0, p1, p2⟩, q0, q1, q2⟩ hb; clear p0 p1 p2 q0 q1 q2; obtain ⟨⟨p0, p1, p2⟩, q0, q1, q2⟩ := P; have Rr := box_on ⟨r0, r1, r2⟩ hb; clear r0 r1 r2; obtain ⟨r0, r1, r2⟩ := Rr; have Rs := box_on ⟨s0, s1, s2⟩ hb; clear s0 s1 s2; obtain ⟨s0, s1, s2⟩ := Rs; clear hb hB12 hc12 hd12 x1 x3))
        go_region_held3 (fun w' => w'.cell? ⟨w.heap.size, 0, none⟩ = some (.int .i64 t.f) ∧ w'.cell? ⟨w.heap.size, 1, none⟩ = some (.int .i64 t.v) ∧ w'.cell? ⟨w.heap.size, 2, none⟩ = some (.slice a t.kids.length c) ∧ w'.cell? ⟨w9.heap.size, 0, none⟩ = some (.int .i64 t.f) ∧ w'.cell? ⟨w9.heap.size, 1, none⟩ = some (.int .i64 t.v) ∧ w'.cell? ⟨w9.heap.size, 2, none⟩ = some (.slice y1 t.kids.length t.kids.length)) (first | go_keep | exact ⟨p0, p1, p2, r0, r1, r2⟩)
          (first
            | (go_at_call_of 20 t; refine (toTerm_any t a c w.heap.size _ hp1 ?_ ?_).mono ?_; exact hr.on hB13.drew; exact hB13.size; rintro e w14 ⟨z1, rfl, ho14, hb0⟩; have hb : Below w13.heap.size w13 w14 := (Below.refl _ _).drew.trans hb0; have x1 := x1'.on (hb.mono (by omega)); have x3 := x2.on (hb.mono (by omega)); have hz14 := hb.size; have hB14 : Below w.heap.size w w14 := hB13.trans (hb.mono hB13.size); have P := keep6 ⟨⟨p0, p1, p2⟩, q0, q1, q2⟩ hb; clear p0 p1 p2 q0 q1 q2; obtain ⟨⟨p0, p1, p2⟩, q0, q1, q2⟩ := P; have Rr := box_on ⟨r0, r1, r2⟩ hb; clear r0 r1 r2; obtain ⟨r0, r1, r2⟩ := Rr; have Rs := box_on ⟨s0, s1, s2⟩ hb; clear s0 s1 s2; obtain ⟨s0, s1, s2⟩ := Rs; clear hb hb0 hB13 x1' x2)
            | (go_at_call 11; refine (eqTerm_same t y1 z1 _ _ w14.heap.size _ hp1 ?_ ?_ ?_).mono ?_; exact x1.mono (by omega); exact ho14.rd; exact Nat.le_refl _; rintro e w15 ⟨rfl, hb⟩; have x2 := x3.on (hb.mono (by omega)); have hz15 := hb.size; have hB15 : Below w.heap.size w w15 := hB14.trans (hb.mono hB14.size); have P := keep6 ⟨⟨p0, p1, p2⟩, q0, q1, q2⟩ hb; clear p0 p1 p2 q0 q1 q2; obtain ⟨⟨p0, p1, p2⟩, q0, q1, q2⟩ := P; have Rr := box_on ⟨r0, r1, r2⟩ hb; clear r0 r1 r2; obtain ⟨r0, r1, r2⟩ := Rr; have Rs := box_on ⟨s0, s1, s2⟩ hb; clear s0 s1 s2; obtain ⟨s0, s1, s2⟩ := Rs; clear hb hB14 x1 x3 ho14))
        go_wp2_with fail
        go_region_held3 (fun w' => w'.cell? ⟨w.heap.size + 1, 0, none⟩ = some (.int .i64 u.f) ∧ w'.cell? ⟨w.heap.size + 1, 1, none⟩ = some (.int .i64 u.v) ∧ w'.cell? ⟨w.heap.size + 1, 2, none⟩ = some (.slice a' u.kids.length c') ∧ w'.cell? ⟨w10.heap.size, 0, none⟩ = some (.int .i64 u.f) ∧ w'.cell? ⟨w10.heap.size, 1, none⟩ = some (.int .i64 u.v) ∧ w'.cell? ⟨w10.heap.size, 2, none⟩ = some (.slice y2 u.kids.length u.kids.length)) (first | go_keep | exact ⟨q0, q1, q2, s0, s1, s2⟩)
          (first
            | (go_at_call_of 20 u; refine (toTerm_any u a' c' w.heap.size _ hp1' ?_ ?_).mono ?_; exact hr'.on hB15.drew; exact hB15.size; rintro e w16 ⟨z2, rfl, ho16, hb0⟩; have hb : Below w15.heap.size w15 w16 := (Below.refl _ _).drew.trans hb0; have x3 := x2.on (hb.mono (by omega)); have hz16 := hb.size; have hB16 : Below w.heap.size w w16 := hB15.trans (hb.mono hB15.size); have P := keep6 ⟨⟨p0, p1, p2⟩, q0, q1, q2⟩ hb; clear p0 p1 p2 q0 q1 q2; obtain ⟨⟨p0, p1, p2⟩, q0, q1, q2⟩ := P; have Rs := box_on ⟨s0, s1, s2⟩ hb; clear s0 s1 s2; obtain ⟨s0, s1, s2⟩ := Rs; clear hb hb0 hB15 x2)
            | (go_at_call 11; refine (eqTerm_same u y2 z2 _ _ w16.heap.size _ hp1' ?_ ?_ ?_).mono ?_; exact x3.mono (by omega); exact ho16.rd; exact Nat.le_refl _; rintro e w17 ⟨rfl, hb⟩; have hB17 : Below w.heap.size w w17 := hB16.trans (hb.mono hB16.size); have P := keep6 ⟨⟨p0, p1, p2⟩, q0, q1, q2⟩ hb; clear p0 p1 p2 q0 q1 q2; obtain ⟨⟨p0, p1, p2⟩, q0, q1, q2⟩ := P; have Rs := box_on ⟨s0, s1, s2⟩ hb; clear s0 s1 s2; obtain ⟨s0, s1, s2⟩ := Rs; clear hb hB16 x3 ho16))
        go_wp2_with fail
        go_ret
        exact ⟨rfl, hB17⟩
      · have SU := fun W' (h : Below w.heap.size w W') => szTerm_any u a' c' w.heap.size r2 W' hs0' hsm' (hr'.on h) h.size
        rw [show szR u.kids r2 = -1 by unfold szR; rw [if_neg hb2]] at SU
        clear hpu
        go_wp2_with (first
          | (go_at_call_of 18 t; refine SZ.mono ?_; rintro e w2 ⟨rfl, hb⟩; have hB2 : Below w.heap.size w w2 := hB1.trans (hb.mono hB1.size); have P := keep6 ⟨⟨p0, p1, p2⟩, q0, q1, q2⟩ hb; clear p0 p1 p2 q0 q1 q2; obtain ⟨⟨p0, p1, p2⟩, q0, q1, q2⟩ := P; clear SZ hb hB1)
          | (go_at_call_of 18 u; refine (SU _ hB2).mono ?_; rintro e w3 ⟨rfl, hb⟩; have hB3 : Below w.heap.size w w3 := hB2.trans (hb.mono hB2.size); clear SU hb hB2))
        go_ret
        exact ⟨rfl, hB3⟩
    · rw [show szR t.kids r = -1 by unfold szR; rw [if_neg hb1]] at SZ
      clear hpt hpu
      go_wp2_with (go_at_call_of 18 t; refine SZ.mono ?_; rintro e w2 ⟨rfl, hb⟩; have hB2 : Below w.heap.size w w2 := hB1.trans (hb.mono hB1.size); clear SZ hb)
      go_ret
      exact ⟨rfl, hB2⟩

set_option maxRecDepth 100000 in
theorem lifted (os : Os) (started : os.Started) (H : Type) (enc : TypeId × Value → H) :
    ReturnsInHanded {} Try.checked os 4 .any (Rows.fnExactGreaterSpec.pre6 enc Try.prog Try.f4 Rows.fnExactGreaterRow.domain false) (Rows.fnExactGreaterSpec.post enc Try.prog Try.f4 false true false false) := by
  refine returnsInHanded_of_change (C := Try.checked) own started (by kernel_rfl) Try.func4
    (ChangeSpec.witness6 (enc := enc) (C := Try.checked) false ⟨#[], #[.slice none 0 0, .agg #[.int .i64 0, .int .i64 0, .slice none 0 0], .agg #[.int .i64 0, .int .i64 0, .slice none 0 0]], []⟩ 8 (by kernel_rfl) (by kernel_rfl) (by kernel_rfl) (by kernel_rfl)) ?_
  intro W base args ds gs before hval0 hW hcnd _
  have hval : ∀ (j : Nat) t v, Try.f4.params[j]? = some t → args[j]? = some v → Value.okWide Try.prog W .any base t v := hval0
  have hW' := hW
  obtain ⟨p, q, hA0, hV, rfl, hfz, hnd⟩ := hW
  have hA : DataW.TrodAll enc Try.prog W 0 (fun _ => true) true Try.f4.params.toList args.toList ds p := hA0
  rw [Try.params4] at hA hval
  obtain ⟨v0, vs0, d0, ds0, p0, q0, hargs, rfl, rfl, h0, r0⟩ := trodAll_cons hA
  obtain ⟨v1, vs1, d1, ds1, p1, q1, rfl, rfl, rfl, h1, r1⟩ := trodAll_cons r0
  obtain ⟨v2, vs2, d2, ds2, p2, q2, rfl, rfl, rfl, h2, r2⟩ := trodAll_cons r1
  obtain ⟨rfl, rfl, rfl⟩ := trodAll_nil r2
  obtain rfl : args = #[v0, v1, v2] := by cases args; simp_all
  obtain ⟨rfl, rfl⟩ := trodVars_none hV
  obtain ⟨a0, len0, cap0, rfl⟩ := okWide_slice Try.underlying22 (hval 0 22 v0 rfl rfl)
  have k0 := h0
  have lt0 : ∀ x ∈ p0, x.block < W.heap.size := by obtain ⟨m, hm⟩ := k0; exact DataW.trod_lt m _ _ _ hm
  obtain ⟨ss0, hn0, hle0, hr0, hall0⟩ := open_syms rfl h0
  obtain ⟨cs1, rfl, _⟩ := okWide_struct Try.underlying41 (hval 1 41 v1 rfl rfl)
  have k1 := h1
  have lt1 : ∀ x ∈ p1, x.block < W.heap.size := by obtain ⟨m, hm⟩ := k1; exact DataW.trod_lt m _ _ _ hm
  obtain ⟨t1, a1, c1, e1, hf1, hv1, hle1, hr1⟩ := open_term rfl h1
  obtain rfl : cs1 = #[.int .i64 t1.f, .int .i64 t1.v, .slice a1 t1.kids.length c1] := by simpa using e1
  obtain ⟨cs2, rfl, _⟩ := okWide_struct Try.underlying41 (hval 2 41 v2 rfl rfl)
  have k2 := h2
  have lt2 : ∀ x ∈ p2, x.block < W.heap.size := by obtain ⟨m, hm⟩ := k2; exact DataW.trod_lt m _ _ _ hm
  obtain ⟨t2, a2, c2, e2, hf2, hv2, hle2, hr2⟩ := open_term rfl h2
  obtain rfl : cs2 = #[.int .i64 t2.f, .int .i64 t2.v, .slice a2 t2.kids.length c2] := by simpa using e2
  clear hA0 hval0
  refine (walk W a0 len0 cap0 ss0 hn0 hle0 hr0 hall0 t1 a1 c1 hf1 hv1 hle1.1 hr1 t2 a2 c2 hf2 hv2 hle2.1 hr2).mono fun e W' ⟨he, bel⟩ => ?_
  subst he
  exact ⟨_, rfl, _, _, _, [], _, [], hW', trodAll_mk1 (shut_bool Try.underlying4 _), (trodAll_cons_mk (Below.trod laidOut (by kernel_rfl) (of_decide_eq_true (by kernel_rfl)) k0 bel lt0) (trodAll_cons_mk (Below.trod laidOut (by kernel_rfl) (of_decide_eq_true (by kernel_rfl)) k1 bel lt1) (trodAll_cons_mk (Below.trod laidOut (by kernel_rfl) (of_decide_eq_true (by kernel_rfl)) k2 bel lt2) trodAll_mk0))), by first | rfl | simp, bel.frame _, fun h => by cases h⟩

theorem over : Rows.fnExactGreaterRow.holds Try.pinned (OpenSpec.ofChange Rows.fnExactGreaterSpec) :=
  OpenClaim.holds_of_wide 4 Try.f4 rfl rfl rfl rfl rfl rfl rfl ⟨rfl, rfl, rfl, rfl, rfl⟩ rfl rfl rfl rfl rfl (by kernel_rfl) Try.func4 (by kernel_rfl)
    (of_decide_eq_true (by kernel_rfl)) (by unfold Func.isWrapper; first | (rw [if_pos (by decide +kernel)]; kernel_rfl) | (rw [if_neg (by decide +kernel)]; exact ⟨rfl, rfl⟩))
    (fun os started H enc _ => lifted os started H enc)

theorem proved : Rows.FnExactGreaterSaid := over
end Go.Proofs.Ytkecnljdloffdab.fnExactGreater
namespace Go.Proofs.Ytkecnljdloffdab
theorem fnExactGreater_holds : Rows.FnExactGreaterSaid := fnExactGreater.proved
#print axioms fnExactGreater_holds
end Go.Proofs.Ytkecnljdloffdab
