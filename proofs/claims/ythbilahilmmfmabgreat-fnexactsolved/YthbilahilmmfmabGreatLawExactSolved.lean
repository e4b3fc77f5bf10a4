/- The law FnExactSolved answers true at every list of functions, everything put and any two terms, and leaves them as they were: at every argument Solved answers as its specification, and writes into no argument. Conditions: none beyond the given row's own. -/
import Derived.Test.YthbilahilmmfmabGreatRows
import Derived.Test.YthbilahilmmfmabGreatPackExactSolved13
import Derived.WalkKit
import Derived.ProofKit
import Derived.OpenShut
import Derived.ShutString
import Derived.ChangeOld
import Derived.Below
namespace Go.Proofs.YthbilahilmmfmabGreat.fnExactSolved
open Go.ChangeShapes Go.WideShapes Go.ChangeAt Go.RowKit
open Go.ChangeMaps (open_string shut_string)
set_option linter.unusedVariables false

theorem own : ownKnob Tryz.prog.godebug = none := by kernel_rfl
theorem laidOut : laidOutB Tryz.prog = true := by kernel_rfl

theorem size_le {ss : List SymD} {s : SymD} (h : s ∈ ss) : s.name.size ≤ bytesOf ss := by
  induction ss with
  | nil => simp at h
  | cons t ss ih =>
    simp only [bytesOf, List.map_cons, List.sum_cons] at *
    rcases List.mem_cons.1 h with rfl | h
    · omega
    · have := ih h; omega

set_option maxHeartbeats 12800000 in
set_option maxRecDepth 100000 in
/-- The law's own walk: it answers true, and nothing that was there is written. -/
theorem walk (w : World) (a0 : Option Addr) (len0 cap0 : Nat) (ss : List SymD) (hn : len0 = ss.length) (hle0 : len0 ≤ maxLen) (hr0 : RdS w a0 ss) (hall : ∀ s ∈ ss, s.name.size ≤ maxLen ∧ (Lit.int .i64 s.ar).wf = true)
    (ka : Option Addr) (klen kcap : Nat) (us : List BindD) (hkn : klen = us.length) (hkle : klen ≤ maxLen ∧ klen ≤ kcap) (hkr : RdU w w.heap.size ka us)
    (t : TermD) (a : Option Addr) (c : Nat) (hf : isW t.f) (hv : isW t.v) (hle : t.kids.length ≤ maxLen) (hr : RdK w w.heap.size a t.kids)
    (u : TermD) (a' : Option Addr) (c' : Nat) (hf' : isW u.f) (hv' : isW u.v) (hle' : u.kids.length ≤ maxLen) (hr' : RdK w w.heap.size a' u.kids) :
    Calls Tryz.prog 3 #[.slice a0 len0 cap0, .slice ka klen kcap, .agg #[.int .i64 t.f, .int .i64 t.v, .slice a t.kids.length c], .agg #[.int .i64 u.f, .int .i64 u.v, .slice a' u.kids.length c']] w fun e w' => e = .returned (.bool true) ∧ Below w.heap.size w w' := by
  have hsz : ∀ s ∈ ss, s.name.size ≤ maxLen := fun s hs => (hall s hs).1
  unfold maxLen at hle0
  subst hn hkn
  have hul : us.length ≤ 9223372036854775807 := by have := hkle.1; unfold maxLen at this; omega
  obtain ⟨W, hW⟩ : ∃ W, W = (w.alloc (.cells #[.int .i64 t.f, .int .i64 t.v, .slice a t.kids.length c] 26)).alloc (.cells #[.int .i64 u.f, .int .i64 u.v, .slice a' u.kids.length c'] 26) := ⟨_, rfl⟩
  have hB0 : Below w.heap.size w W := by rw [hW]; exact ((Below.refl _ _).alloc (Nat.le_refl _) _).alloc (by simp) _
  have SY := szSyms_any a0 ss ss.length cap0 1048576 W rfl (hr0.below hB0) (by omega) (by omega) (by omega) (fun s hs => by have := hsz s hs; unfold maxLen at this; omega)
  have P0 : W.cell? ⟨w.heap.size, 0, none⟩ = some (.int .i64 t.f) ∧ W.cell? ⟨w.heap.size, 1, none⟩ = some (.int .i64 t.v) ∧ W.cell? ⟨w.heap.size, 2, none⟩ = some (.slice a t.kids.length c) ∧ W.cell? ⟨w.heap.size + 1, 0, none⟩ = some (.int .i64 u.f) ∧ W.cell? ⟨w.heap.size + 1, 1, none⟩ = some (.int .i64 u.v) ∧ W.cell? ⟨w.heap.size + 1, 2, none⟩ = some (.slice a' u.kids.length c') := by rw [hW]; simp [go_sem]
  have hpt := partsT_eq t
  have hpt' := partsT_eq u
  have HKR : Hid (RdU w w.heap.size ka us) := hkr
  have HRK : Hid (RdK w w.heap.size a t.kids) := hr
  have HRL : Hid (RdK w w.heap.size a' u.kids) := hr'
  clear hle hle' hkle hkr hr hr'
  go_enter Tryz.func3, Tryz.ntmps3
  go_wp2_with (go_at_call 4; rw [← hW]; refine SY.mono ?_; rintro e w1 ⟨r, rfl, hsm, hrm, hb⟩; have hB1 : Below w.heap.size w w1 := hB0.trans (hb.mono hB0.size); obtain ⟨p0, p1, p2, p3, p4, p5⟩ := bx2_on P0 hb; clear SY P0 hb hW hB0)
  · go_ret
    exact ⟨rfl, hB1⟩
  · have hr0' : 0 ≤ r := by omega
    have hsum := hsm hr0'
    have hl : ss.length ≤ 1048577 := by omega
    have SU := szBindS_any us ka kcap w.heap.size r w1 hr0' hrm hul (HKR.out.on hB1) hB1.size
    clear hsm
    by_cases hb0 : (partsU us : Int) ≤ r
    · rw [show szU us r = r - partsU us by unfold szU; rw [if_pos hb0]] at SU
      have hn0 : ¬ (r - (partsU us : Int)) < 0 := by omega
      have hm0 : r - (partsU us : Int) ≤ 1048576 := by omega
      have hp0 : 0 ≤ r - (partsU us : Int) := by omega
      have SZ := fun (W' : World) (h : Below w.heap.size w W') => szTerm_any t a c w.heap.size (r - (partsU us : Int)) W' hp0 hm0 (HRK.out.on h) h.size
      by_cases hb1 : (partsL t.kids : Int) ≤ r - (partsU us : Int)
      · rw [show szR t.kids (r - (partsU us : Int)) = r - (partsU us : Int) - partsL t.kids by unfold szR; rw [if_pos hb1]] at SZ
        have hn1 : ¬ (r - (partsU us : Int) - (partsL t.kids : Int)) < 0 := by omega
        have hm1 : r - (partsU us : Int) - (partsL t.kids : Int) ≤ 1048576 := by omega
        have hp1 : 0 ≤ r - (partsU us : Int) - (partsL t.kids : Int) := by omega
        have SX := fun (W' : World) (h : Below w.heap.size w W') => szTerm_any u a' c' w.heap.size (r - (partsU us : Int) - (partsL t.kids : Int)) W' hp1 hm1 (HRL.out.on h) h.size
        by_cases hb2 : (partsL u.kids : Int) ≤ r - (partsU us : Int) - (partsL t.kids : Int)
        · rw [show szR u.kids (r - (partsU us : Int) - (partsL t.kids : Int)) = r - (partsU us : Int) - (partsL t.kids : Int) - partsL u.kids by unfold szR; rw [if_pos hb2]] at SX
          have hn2 : ¬ (r - (partsU us : Int) - (partsL t.kids : Int) - (partsL u.kids : Int)) < 0 := by omega
          have hq1 : partsT t ≤ 549755813888 := by omega
          have hq2 : partsT u ≤ 549755813888 := by omega
          have hpu : partsU us ≤ 549755813887 := by omega
          have hpu2 : partsU us ≤ 1048576 := by omega
          have hpp1 : partsT (putV us t) ≤ 549755813888 := put_small (by omega)
          have hpp2 : partsT (putV us u) ≤ 549755813888 := put_small (by omega)
          have hnm : ∀ s ∈ ss, s.name.size ≤ 1048576 := fun s hs => by have := size_le hs; omega
          clear hpt hpt' hb0 hb1 hb2 hsum hp0 hm0 hp1 hm1
          have CS := fun (sa ub y1 y2 : Option Addr) (c0 c1 c2 c3 hi : Nat) (W1 : World) (h0 : RdS W1 sa ss) (h1 : RdU W1 hi ub us) (h2 : RdK W1 hi y1 t.kids) (h3 : RdK W1 hi y2 u.kids) (h4 : hi ≤ W1.heap.size) => specSolved_any sa ss c0 hl hnm us ub c1 t u y1 y2 c2 c3 hi W1 hpu2 h0 h1 hq1 hq2 hpp1 hpp2 h2 h3 h4 ⟨hf, hv⟩ ⟨hf', hv'⟩
          have CI := fun (sa ub y1 y2 : Option Addr) (c0 c1 c2 c3 hi : Nat) (W1 : World) (h0 : RdS W1 sa ss) (h1 : RdU W1 hi ub us) (h2 : RdK W1 hi y1 t.kids) (h3 : RdK W1 hi y2 u.kids) (h4 : hi ≤ W1.heap.size) (h5 : t.kids.length ≤ c2) (h6 : u.kids.length ≤ c3) => impSolved_any sa ss c0 hsz us ub c1 t u y1 y2 c2 c3 hi W1 hpu2 h0 h1 hq1 hq2 hpp1 hpp2 h2 h3 h4 h5 h6 ⟨hf, hv⟩ ⟨hf', hv'⟩
          have hE : tb (numP us ∧ tokP ss us ∧ goneP us) = tb (∀ i, i < us.length → oneP ss us i) := by rw [show (numP us ∧ tokP ss us ∧ goneP us) = (∀ i, i < us.length → oneP ss us i) from propext (sub_same ss us)]
          rw [hE] at CI
          clear hE
          generalize (tb (∀ i, i < us.length → oneP ss us i) && sameT (normT (blindAt ss) (putV us t)) (normT (blindAt ss) (putV us u))) = ok at CS CI
          have hok : (ok != ok) = false := by simp
          generalize r - (partsU us : Int) = r2 at SU SZ SX hn0 hn1 hn2
          generalize r2 - (partsL t.kids : Int) = r3 at SZ SX hn1 hn2
          generalize r3 - (partsL u.kids : Int) = r4 at SX hn2
          have TB := fun (W' : World) (h : Below w.heap.size w W') => toBindS_any us ka kcap w.heap.size W' hpu (HKR.out.on h) h.size
          have TT := fun (W' : World) (h : Below w.heap.size w W') => toTerm_any t a c w.heap.size W' hq1 (HRK.out.on h) h.size
          have TU := fun (W' : World) (h : Below w.heap.size w W') => toTerm_any u a' c' w.heap.size W' hq2 (HRL.out.on h) h.size
          have ET := fun (a1 a2 : Option Addr) (c1 c2 hi : Nat) (W' : World) (h1 : RdK W' hi a1 t.kids) (h2 : RdK W' hi a2 t.kids) (h3 : hi ≤ W'.heap.size) => eqTerm_same t a1 a2 c1 c2 hi W' hq1 h1 h2 h3
          have EU := fun (a1 a2 : Option Addr) (c1 c2 hi : Nat) (W' : World) (h1 : RdK W' hi a1 u.kids) (h2 : RdK W' hi a2 u.kids) (h3 : hi ≤ W'.heap.size) => eqTerm_same u a1 a2 c1 c2 hi W' hq2 h1 h2 h3
          clear hq1 hq2 hpp1 hpp2 hnm hf hv hf' hv' hsz hul hpu2 HKR HRK HRL
          go_wp2_with (first
            | (go_at_call 5; refine (SU).mono ?_; rintro e w2 ⟨rfl, hb⟩; have hB2 : Below w.heap.size w w2 := hB1.trans (hb.mono hB1.size); have P := bx2_on ⟨p0, p1, p2, p3, p4, p5⟩ hb; clear p0 p1 p2 p3 p4 p5; obtain ⟨p0, p1, p2, p3, p4, p5⟩ := P; clear hb hB1)
            | (go_at_call_of 6 t; refine (SZ w2 hB2).mono ?_; rintro e w3 ⟨rfl, hb⟩; have hB3 : Below w.heap.size w w3 := hB2.trans (hb.mono hB2.size); have P := bx2_on ⟨p0, p1, p2, p3, p4, p5⟩ hb; clear p0 p1 p2 p3 p4 p5; obtain ⟨p0, p1, p2, p3, p4, p5⟩ := P; clear hb hB2)
            | (go_at_call_of 6 u; refine (SX w3 hB3).mono ?_; rintro e w4 ⟨rfl, hb⟩; have hB4 : Below w.heap.size w w4 := hB3.trans (hb.mono hB3.size); have P := bx2_on ⟨p0, p1, p2, p3, p4, p5⟩ hb; clear p0 p1 p2 p3 p4 p5; obtain ⟨p0, p1, p2, p3, p4, p5⟩ := P; clear hb hB3))
          clear SU SZ SX
          go_region_held3 (fun w' => w'.cell? ⟨w.heap.size, 0, none⟩ = some (.int .i64 t.f) ∧ w'.cell? ⟨w.heap.size, 1, none⟩ = some (.int .i64 t.v) ∧ w'.cell? ⟨w.heap.size, 2, none⟩ = some (.slice a t.kids.length c) ∧ w'.cell? ⟨w.heap.size + 1, 0, none⟩ = some (.int .i64 u.f) ∧ w'.cell? ⟨w.heap.size + 1, 1, none⟩ = some (.int .i64 u.v) ∧ w'.cell? ⟨w.heap.size + 1, 2, none⟩ = some (.slice a' u.kids.length c')) (first | go_keep | exact ⟨p0, p1, p2, p3, p4, p5⟩)
            (first
              | (go_at_call 8; refine (toSyms_any a0 ss _ cap0 _ rfl (hr0.below (hB4.trans (Below.mono (B := w4.heap.size) (by (repeat (first | exact Below.refl _ _ | refine Below.drew ?_ | refine Below.alloc ?_ (by simp) _))) hB4.size))) hl).mono ?_; rintro e w5 ⟨rfl, ho5, hb0⟩; have hc5 := RdS.own rfl ho5; clear ho5; have hb : Below w4.heap.size w4 w5 := below_stepS (by (repeat (first | exact Below.refl _ _ | refine Below.drew ?_ | refine Below.alloc ?_ (by simp) _))) hb0; have hB5 : Below w.heap.size w w5 := hB4.trans (hb.mono hB4.size); have P := bx2_on ⟨p0, p1, p2, p3, p4, p5⟩ hb; clear p0 p1 p2 p3 p4 p5; obtain ⟨p0, p1, p2, p3, p4, p5⟩ := P; clear hb hb0 hB4)
              | (go_at_call 9; refine (TB _ (hB5.trans (Below.mono (B := w5.heap.size) (by (repeat (first | exact Below.refl _ _ | refine Below.drew ?_ | refine Below.alloc ?_ (by simp) _))) hB5.size))).mono ?_; rintro e w6 ⟨rfl, ho6, hb0⟩; have hu6 := ho6.rd; clear ho6; have hb : Below w5.heap.size w5 w6 := below_stepS (by (repeat (first | exact Below.refl _ _ | refine Below.drew ?_ | refine Below.alloc ?_ (by simp) _))) hb0; have hB6 : Below w.heap.size w w6 := hB5.trans (hb.mono hB5.size); have P := bx2_on ⟨p0, p1, p2, p3, p4, p5⟩ hb; clear p0 p1 p2 p3 p4 p5; obtain ⟨p0, p1, p2, p3, p4, p5⟩ := P; have hc6 := hc5.below hb; clear hc5; clear hb hb0 hB5)
              | (go_at_call_of 10 t; refine (TT _ (hB6.trans (Below.mono (B := w6.heap.size) (by (repeat (first | exact Below.refl _ _ | refine Below.drew ?_ | refine Below.alloc ?_ (by simp) _))) hB6.size))).mono ?_; rintro e w7 ⟨x1, rfl, ho7, hb0⟩; have hk7 := ho7.rd; clear ho7; have hb : Below w6.heap.size w6 w7 := below_stepS (by (repeat (first | exact Below.refl _ _ | refine Below.drew ?_ | refine Below.alloc ?_ (by simp) _))) hb0; have hB7 : Below w.heap.size w w7 := hB6.trans (hb.mono hB6.size); have P := bx2_on ⟨p0, p1, p2, p3, p4, p5⟩ hb; clear p0 p1 p2 p3 p4 p5; obtain ⟨p0, p1, p2, p3, p4, p5⟩ := P; have hc7 := hc6.below hb; have hu7 := (hu6.on hb).mono hb.size; clear hc6 hu6; clear hb hb0 hB6)
              | (go_at_call_of 10 u; refine (TU _ (hB7.trans (Below.mono (B := w7.heap.size) (by (repeat (first | exact Below.refl _ _ | refine Below.drew ?_ | refine Below.alloc ?_ (by simp) _))) hB7.size))).mono ?_; rintro e w8 ⟨x2, rfl, ho8, hb0⟩; have hj8 := ho8.rd; clear ho8; have hb : Below w7.heap.size w7 w8 := below_stepS (by (repeat (first | exact Below.refl _ _ | refine Below.drew ?_ | refine Below.alloc ?_ (by simp) _))) hb0; have hB8 : Below w.heap.size w w8 := hB7.trans (hb.mono hB7.size); have P := bx2_on ⟨p0, p1, p2, p3, p4, p5⟩ hb; clear p0 p1 p2 p3 p4 p5; obtain ⟨p0, p1, p2, p3, p4, p5⟩ := P; have hc8 := hc7.below hb; have hu8 := (hu7.on hb).mono hb.size; have hk8 := (hk7.on hb).mono hb.size; clear hc7 hu7 hk7; clear hb hb0 hB7)
              | (go_at_call 7; refine (CS _ _ x1 x2 _ _ _ _ w8.heap.size _ ?_ ?_ ?_ ?_ ?_).mono ?_; (refine RdS.below hc8 ?_; (repeat (first | exact Below.refl _ _ | refine Below.drew ?_ | refine Below.alloc ?_ (by simp) _))); (refine RdU.on hu8 ?_; (repeat (first | exact Below.refl _ _ | refine Below.drew ?_ | refine Below.alloc ?_ (by simp) _))); (refine RdK.on hk8 ?_; (repeat (first | exact Below.refl _ _ | refine Below.drew ?_ | refine Below.alloc ?_ (by simp) _))); (refine RdK.on hj8 ?_; (repeat (first | exact Below.refl _ _ | refine Below.drew ?_ | refine Below.alloc ?_ (by simp) _))); exact (show Below w8.heap.size w8 _ from (by (repeat (first | exact Below.refl _ _ | refine Below.drew ?_ | refine Below.alloc ?_ (by simp) _)))).size; rintro e w9 ⟨rfl, hb0⟩; clear hc8 hu8 hk8 hj8 CS; have hb : Below w8.heap.size w8 w9 := below_stepS (by (repeat (first | exact Below.refl _ _ | refine Below.drew ?_ | refine Below.alloc ?_ (by simp) _))) hb0; have hB9 : Below w.heap.size w w9 := hB8.trans (hb.mono hB8.size); have P := bx2_on ⟨p0, p1, p2, p3, p4, p5⟩ hb; clear p0 p1 p2 p3 p4 p5; obtain ⟨p0, p1, p2, p3, p4, p5⟩ := P; clear hb hb0 hB8))
          go_wp2_with (first
            | (go_at_call 8; refine (toSyms_any a0 ss _ cap0 w9 rfl (hr0.below hB9) hl).mono ?_; rintro e w10 ⟨rfl, ho10, hb⟩; have hc10 := RdS.own rfl ho10; have hB10 := hB9.trans (hb.mono hB9.size); have P := bx2_on ⟨p0, p1, p2, p3, p4, p5⟩ hb; clear p0 p1 p2 p3 p4 p5; obtain ⟨p0, p1, p2, p3, p4, p5⟩ := P; clear hb ho10 hB9)
            | (go_at_call 9; refine (TB w10 hB10).mono ?_; rintro e w11 ⟨rfl, ho11, hb⟩; have hu11 := ho11.rd; have hc11 := hc10.below hb; have hB11 := hB10.trans (hb.mono hB10.size); have P := bx2_on ⟨p0, p1, p2, p3, p4, p5⟩ hb; clear p0 p1 p2 p3 p4 p5; obtain ⟨p0, p1, p2, p3, p4, p5⟩ := P; clear hb ho11 hc10 hB10)
            | (go_at_call_of 10 t; refine (TT w11 hB11).mono ?_; rintro e w12 ⟨y1, rfl, ho12, hb⟩; have hk12 := ho12.rd; have hc12 := hc11.below hb; have hu12 := (hu11.on hb).mono hb.size; have hB12 := hB11.trans (hb.mono hB11.size); have P := bx2_on ⟨p0, p1, p2, p3, p4, p5⟩ hb; clear p0 p1 p2 p3 p4 p5; obtain ⟨p0, p1, p2, p3, p4, p5⟩ := P; have hz12 : w.heap.size + 1 < w12.heap.size := World.block_lt_of_cell? _ _ p3; clear hb ho12 hc11 hu11 hB11)
            | (go_at_call_of 10 u; refine (TU _ (hB12.alloc hB12.size _)).mono ?_; rintro e w13 ⟨y2, rfl, ho13, hb⟩; have hb6 : Below w12.heap.size w12 w13 := ((Below.refl w12.heap.size w12).alloc (Nat.le_refl _) _).trans (hb.mono (by simp)); have r0 : w13.cell? ⟨w12.heap.size, 0, none⟩ = some (.int .i64 t.f) := keepC hb (by simp [go_sem]); have r1 : w13.cell? ⟨w12.heap.size, 1, none⟩ = some (.int .i64 t.v) := keepC hb (by simp [go_sem]); have r2 : w13.cell? ⟨w12.heap.size, 2, none⟩ = some (.slice y1 t.kids.length t.kids.length) := keepC hb (by simp [go_sem]); have hj13 := ho13.rd; have hk13 := (hk12.on hb6).mono hb6.size; have hc13 := hc12.below hb6; have hu13 := (hu12.on hb6).mono hb6.size; have hB13 : Below w.heap.size w w13 := hB12.trans (hb6.mono hB12.size); have P := bx2_on ⟨p0, p1, p2, p3, p4, p5⟩ hb6; clear p0 p1 p2 p3 p4 p5; obtain ⟨p0, p1, p2, p3, p4, p5⟩ := P; have hz13 : w.heap.size + 1 < w13.heap.size := World.block_lt_of_cell? _ _ p3; have hx13 : w12.heap.size < w13.heap.size := World.block_lt_of_cell? _ _ r0; clear hb hb6 ho13 hc12 hu12 hk12 hB12 hz12)
            | (go_at_call 11; refine (CI _ _ y1 y2 _ _ _ _ w13.heap.size _ (hc13.below ((Below.refl w13.heap.size w13).alloc (Nat.le_refl _) _)) (hu13.on ((Below.refl w13.heap.size w13).alloc (Nat.le_refl _) _)) (hk13.on ((Below.refl w13.heap.size w13).alloc (Nat.le_refl _) _)) (hj13.on ((Below.refl w13.heap.size w13).alloc (Nat.le_refl _) _)) (by simp) (Nat.le_refl _) (Nat.le_refl _)).mono ?_; rintro e w14 ⟨rfl, hb⟩; have hb7 : Below w13.heap.size w13 w14 := ((Below.refl w13.heap.size w13).alloc (Nat.le_refl _) _).trans (hb.mono (by simp)); have s0 : w14.cell? ⟨w13.heap.size, 0, none⟩ = some (.int .i64 u.f) := keepC hb (by simp [go_sem]); have s1 : w14.cell? ⟨w13.heap.size, 1, none⟩ = some (.int .i64 u.v) := keepC hb (by simp [go_sem]); have s2 : w14.cell? ⟨w13.heap.size, 2, none⟩ = some (.slice y2 u.kids.length u.kids.length) := keepC hb (by simp [go_sem]); have hj14 := (hj13.on hb7).mono hb7.size; have hk14 := (hk13.on hb7).mono hb7.size; have hc14 := hc13.below hb7; have hu14 := (hu13.on hb7).mono hb7.size; have r3 := keepC hb7 r0; have r4 := keepC hb7 r1; have r5 := keepC hb7 r2; have hB14 : Below w.heap.size w w14 := hB13.trans (hb7.mono hB13.size); have P := bx2_on ⟨p0, p1, p2, p3, p4, p5⟩ hb7; clear p0 p1 p2 p3 p4 p5; obtain ⟨p0, p1, p2, p3, p4, p5⟩ := P; clear hb hb7 hB13 r0 r1 r2 hc13 hu13 hk13 hj13 CI)
            | (go_at_call 8; refine (toSyms_any a0 ss _ cap0 w14 rfl (hr0.below hB14) hl).mono ?_; rintro e w15 ⟨rfl, ho15, hb⟩; have hd15 := RdS.own rfl ho15; have hc15 := hc14.below hb; have hu15 := (hu14.on hb).mono hb.size; have hk15 := (hk14.on hb).mono hb.size; have hj15 := (hj14.on hb).mono hb.size; have hB15 := hB14.trans (hb.mono hB14.size); have P := bx2_on ⟨p0, p1, p2, p3, p4, p5⟩ hb; clear p0 p1 p2 p3 p4 p5; obtain ⟨p0, p1, p2, p3, p4, p5⟩ := P; have P := bx2_on ⟨r3, r4, r5, s0, s1, s2⟩ hb; clear r3 r4 r5 s0 s1 s2; obtain ⟨r3, r4, r5, s0, s1, s2⟩ := P; clear hb ho15 hc14 hu14 hk14 hj14 hB14)
            | (go_at_call 12; refine (eqSyms_same _ _ ss _ _ _ _ w15 rfl rfl hc15 hd15 hl).mono ?_; rintro e w16 ⟨rfl, hb⟩; have hu16 := (hu15.on hb).mono hb.size; have hk16 := (hk15.on hb).mono hb.size; have hj16 := (hj15.on hb).mono hb.size; have hB16 := hB15.trans (hb.mono hB15.size); have P := bx2_on ⟨p0, p1, p2, p3, p4, p5⟩ hb; clear p0 p1 p2 p3 p4 p5; obtain ⟨p0, p1, p2, p3, p4, p5⟩ := P; have P := bx2_on ⟨r3, r4, r5, s0, s1, s2⟩ hb; clear r3 r4 r5 s0 s1 s2; obtain ⟨r3, r4, r5, s0, s1, s2⟩ := P; clear hb hd15 hc15 hu15 hk15 hj15 hB15)
            | (go_at_call 9; refine (TB w16 hB16).mono ?_; rintro e w17 ⟨rfl, ho17, hb⟩; have hv17 := ho17.rd; have hu17 := (hu16.on hb).mono hb.size; have hk17 := (hk16.on hb).mono hb.size; have hj17 := (hj16.on hb).mono hb.size; have hB17 := hB16.trans (hb.mono hB16.size); have P := bx2_on ⟨p0, p1, p2, p3, p4, p5⟩ hb; clear p0 p1 p2 p3 p4 p5; obtain ⟨p0, p1, p2, p3, p4, p5⟩ := P; have P := bx2_on ⟨r3, r4, r5, s0, s1, s2⟩ hb; clear r3 r4 r5 s0 s1 s2; obtain ⟨r3, r4, r5, s0, s1, s2⟩ := P; clear hb ho17 hu16 hk16 hj16 hB16)
            | (go_at_call 13; refine (eqBindS_same us _ _ _ _ w17.heap.size w17 hpu hu17 hv17 (Nat.le_refl _)).mono ?_; rintro e w18 ⟨rfl, hb⟩; have hk18 := (hk17.on hb).mono hb.size; have hj18 := (hj17.on hb).mono hb.size; have hB18 := hB17.trans (hb.mono hB17.size); have P := bx2_on ⟨p0, p1, p2, p3, p4, p5⟩ hb; clear p0 p1 p2 p3 p4 p5; obtain ⟨p0, p1, p2, p3, p4, p5⟩ := P; have P := bx2_on ⟨r3, r4, r5, s0, s1, s2⟩ hb; clear r3 r4 r5 s0 s1 s2; obtain ⟨r3, r4, r5, s0, s1, s2⟩ := P; clear hb hu17 hv17 hk17 hj17 hB17))
          go_region_held3 (fun w' => w'.cell? ⟨w.heap.size, 0, none⟩ = some (.int .i64 t.f) ∧ w'.cell? ⟨w.heap.size, 1, none⟩ = some (.int .i64 t.v) ∧ w'.cell? ⟨w.heap.size, 2, none⟩ = some (.slice a t.kids.length c) ∧ w'.cell? ⟨w12.heap.size, 0, none⟩ = some (.int .i64 t.f) ∧ w'.cell? ⟨w12.heap.size, 1, none⟩ = some (.int .i64 t.v) ∧ w'.cell? ⟨w12.heap.size, 2, none⟩ = some (.slice y1 t.kids.length t.kids.length)) (first | go_keep | exact ⟨p0, p1, p2, r3, r4, r5⟩)
            (first
              | (go_at_call_of 10 t; refine (TT _ (hB18.trans (Below.mono (B := w18.heap.size) (by (repeat (first | exact Below.refl _ _ | refine Below.drew ?_ | refine Below.alloc ?_ (by simp) _))) hB18.size))).mono ?_; rintro e w19 ⟨z1, rfl, ho19, hb0⟩; have hb : Below w18.heap.size w18 w19 := below_stepS (by (repeat (first | exact Below.refl _ _ | refine Below.drew ?_ | refine Below.alloc ?_ (by simp) _))) hb0; have hg19 := ho19.rd; have hk19 := (hk18.on hb).mono hb.size; have hj19 := (hj18.on hb).mono hb.size; have hB19 : Below w.heap.size w w19 := hB18.trans (hb.mono hB18.size); have P := bx2_on ⟨p0, p1, p2, p3, p4, p5⟩ hb; clear p0 p1 p2 p3 p4 p5; obtain ⟨p0, p1, p2, p3, p4, p5⟩ := P; have P := bx2_on ⟨r3, r4, r5, s0, s1, s2⟩ hb; clear r3 r4 r5 s0 s1 s2; obtain ⟨r3, r4, r5, s0, s1, s2⟩ := P; clear hb hb0 ho19 hk18 hj18 hB18)
              | (go_at_call 14; refine (ET y1 z1 _ _ w19.heap.size _ ?_ ?_ ?_).mono ?_; (refine RdK.on hk19 ?_; (repeat (first | exact Below.refl _ _ | refine Below.drew ?_ | refine Below.alloc ?_ (by simp) _))); (refine RdK.on hg19 ?_; (repeat (first | exact Below.refl _ _ | refine Below.drew ?_ | refine Below.alloc ?_ (by simp) _))); exact (show Below w19.heap.size w19 _ from (by (repeat (first | exact Below.refl _ _ | refine Below.drew ?_ | refine Below.alloc ?_ (by simp) _)))).size; rintro e w20 ⟨rfl, hb0⟩; have hb : Below w19.heap.size w19 w20 := below_stepS (by (repeat (first | exact Below.refl _ _ | refine Below.drew ?_ | refine Below.alloc ?_ (by simp) _))) hb0; have hj20 := (hj19.on hb).mono hb.size; have hB20 : Below w.heap.size w w20 := hB19.trans (hb.mono hB19.size); have P := bx2_on ⟨p0, p1, p2, p3, p4, p5⟩ hb; clear p0 p1 p2 p3 p4 p5; obtain ⟨p0, p1, p2, p3, p4, p5⟩ := P; have P := bx2_on ⟨r3, r4, r5, s0, s1, s2⟩ hb; clear r3 r4 r5 s0 s1 s2; obtain ⟨r3, r4, r5, s0, s1, s2⟩ := P; clear hb hb0 hk19 hg19 hj19 hB19))
          go_wp2_with fail
          go_region_held3 (fun w' => w'.cell? ⟨w.heap.size + 1, 0, none⟩ = some (.int .i64 u.f) ∧ w'.cell? ⟨w.heap.size + 1, 1, none⟩ = some (.int .i64 u.v) ∧ w'.cell? ⟨w.heap.size + 1, 2, none⟩ = some (.slice a' u.kids.length c') ∧ w'.cell? ⟨w13.heap.size, 0, none⟩ = some (.int .i64 u.f) ∧ w'.cell? ⟨w13.heap.size, 1, none⟩ = some (.int .i64 u.v) ∧ w'.cell? ⟨w13.heap.size, 2, none⟩ = some (.slice y2 u.kids.length u.kids.length)) (first | go_keep | exact ⟨p3, p4, p5, s0, s1, s2⟩)
            (first
              | (go_at_call_of 10 u; refine (TU _ (hB20.trans (Below.mono (B := w20.heap.size) (by (repeat (first | exact Below.refl _ _ | refine Below.drew ?_ | refine Below.alloc ?_ (by simp) _))) hB20.size))).mono ?_; rintro e w21 ⟨z2, rfl, ho21, hb0⟩; have hb : Below w20.heap.size w20 w21 := below_stepS (by (repeat (first | exact Below.refl _ _ | refine Below.drew ?_ | refine Below.alloc ?_ (by simp) _))) hb0; have hg21 := ho21.rd; have hj21 := (hj20.on hb).mono hb.size; have hB21 : Below w.heap.size w w21 := hB20.trans (hb.mono hB20.size); have P := bx2_on ⟨p0, p1, p2, p3, p4, p5⟩ hb; clear p0 p1 p2 p3 p4 p5; obtain ⟨p0, p1, p2, p3, p4, p5⟩ := P; have P := bx2_on ⟨r3, r4, r5, s0, s1, s2⟩ hb; clear r3 r4 r5 s0 s1 s2; obtain ⟨r3, r4, r5, s0, s1, s2⟩ := P; clear hb hb0 ho21 hj20 hB20)
              | (go_at_call 14; refine (EU y2 z2 _ _ w21.heap.size _ ?_ ?_ ?_).mono ?_; (refine RdK.on hj21 ?_; (repeat (first | exact Below.refl _ _ | refine Below.drew ?_ | refine Below.alloc ?_ (by simp) _))); (refine RdK.on hg21 ?_; (repeat (first | exact Below.refl _ _ | refine Below.drew ?_ | refine Below.alloc ?_ (by simp) _))); exact (show Below w21.heap.size w21 _ from (by (repeat (first | exact Below.refl _ _ | refine Below.drew ?_ | refine Below.alloc ?_ (by simp) _)))).size; rintro e w22 ⟨rfl, hb0⟩; have hb : Below w21.heap.size w21 w22 := below_stepS (by (repeat (first | exact Below.refl _ _ | refine Below.drew ?_ | refine Below.alloc ?_ (by simp) _))) hb0; have hB22 : Below w.heap.size w w22 := hB21.trans (hb.mono hB21.size); have P := bx2_on ⟨p0, p1, p2, p3, p4, p5⟩ hb; clear p0 p1 p2 p3 p4 p5; obtain ⟨p0, p1, p2, p3, p4, p5⟩ := P; have P := bx2_on ⟨r3, r4, r5, s0, s1, s2⟩ hb; clear r3 r4 r5 s0 s1 s2; obtain ⟨r3, r4, r5, s0, s1, s2⟩ := P; clear hb hb0 hj21 hg21 hB21))
          go_wp2_with fail
          go_ret
          exact ⟨rfl, hB22⟩
        · rw [show szR u.kids (r - (partsU us : Int) - (partsL t.kids : Int)) = -1 by unfold szR; rw [if_neg hb2]] at SX
          clear hpt hpt' hb0 hb1 hb2 hp0 hm0 hp1 hm1 hsum
          generalize r - (partsU us : Int) = r2 at SU SZ SX hn0 hn1
          generalize r2 - (partsL t.kids : Int) = r3 at SZ SX hn1
          go_wp2_with (first
            | (go_at_call 5; refine (SU).mono ?_; rintro e w2 ⟨rfl, hb⟩; have hB2 : Below w.heap.size w w2 := hB1.trans (hb.mono hB1.size); have P := bx2_on ⟨p0, p1, p2, p3, p4, p5⟩ hb; clear p0 p1 p2 p3 p4 p5; obtain ⟨p0, p1, p2, p3, p4, p5⟩ := P; clear hb hB1)
            | (go_at_call_of 6 t; refine (SZ w2 hB2).mono ?_; rintro e w3 ⟨rfl, hb⟩; have hB3 : Below w.heap.size w w3 := hB2.trans (hb.mono hB2.size); have P := bx2_on ⟨p0, p1, p2, p3, p4, p5⟩ hb; clear p0 p1 p2 p3 p4 p5; obtain ⟨p0, p1, p2, p3, p4, p5⟩ := P; clear hb hB2)
            | (go_at_call_of 6 u; refine (SX w3 hB3).mono ?_; rintro e w4 ⟨rfl, hb⟩; have hB4 : Below w.heap.size w w4 := hB3.trans (hb.mono hB3.size); have P := bx2_on ⟨p0, p1, p2, p3, p4, p5⟩ hb; clear p0 p1 p2 p3 p4 p5; obtain ⟨p0, p1, p2, p3, p4, p5⟩ := P; clear hb hB3))
          go_ret
          exact ⟨rfl, hB4⟩
      · rw [show szR t.kids (r - (partsU us : Int)) = -1 by unfold szR; rw [if_neg hb1]] at SZ
        clear hpt hpt' hb0 hb1 hp0 hm0 hsum
        generalize r - (partsU us : Int) = r2 at SU SZ hn0
        go_wp2_with (first
          | (go_at_call 5; refine (SU).mono ?_; rintro e w2 ⟨rfl, hb⟩; have hB2 : Below w.heap.size w w2 := hB1.trans (hb.mono hB1.size); have P := bx2_on ⟨p0, p1, p2, p3, p4, p5⟩ hb; clear p0 p1 p2 p3 p4 p5; obtain ⟨p0, p1, p2, p3, p4, p5⟩ := P; clear hb hB1)
          | (go_at_call_of 6 t; refine (SZ w2 hB2).mono ?_; rintro e w3 ⟨rfl, hb⟩; have hB3 : Below w.heap.size w w3 := hB2.trans (hb.mono hB2.size); have P := bx2_on ⟨p0, p1, p2, p3, p4, p5⟩ hb; clear p0 p1 p2 p3 p4 p5; obtain ⟨p0, p1, p2, p3, p4, p5⟩ := P; clear hb hB2))
        go_ret
        exact ⟨rfl, hB3⟩
    · rw [show szU us r = -1 by unfold szU; rw [if_neg hb0]] at SU
      clear hpt hpt' hb0 hsum
      go_wp2_with (first
        | (go_at_call 5; refine (SU).mono ?_; rintro e w2 ⟨rfl, hb⟩; have hB2 : Below w.heap.size w w2 := hB1.trans (hb.mono hB1.size); have P := bx2_on ⟨p0, p1, p2, p3, p4, p5⟩ hb; clear p0 p1 p2 p3 p4 p5; obtain ⟨p0, p1, p2, p3, p4, p5⟩ := P; clear hb hB1))
      go_ret
      exact ⟨rfl, hB2⟩

set_option maxRecDepth 100000 in
theorem lifted (os : Os) (started : os.Started) (H : Type) (enc : TypeId × Value → H) :
    ReturnsInHanded {} Tryz.checked os 3 .any (Rows.fnExactSolvedSpec.pre6 enc Tryz.prog Tryz.f3 Rows.fnExactSolvedRow.domain false) (Rows.fnExactSolvedSpec.post enc Tryz.prog Tryz.f3 false true false false) := by
  refine returnsInHanded_of_change (C := Tryz.checked) own started (by kernel_rfl) Tryz.func3
    (ChangeSpec.witness6 (enc := enc) (C := Tryz.checked) false ⟨#[], #[.slice none 0 0, .slice none 0 0, .agg #[.int .i64 0, .int .i64 0, .slice none 0 0], .agg #[.int .i64 0, .int .i64 0, .slice none 0 0]], []⟩ 8 (by kernel_rfl) (by kernel_rfl) (by kernel_rfl) (by kernel_rfl)) ?_
  intro W base args ds gs before hval0 hW hcnd _
  have hval : ∀ (j : Nat) t v, Tryz.f3.params[j]? = some t → args[j]? = some v → Value.okWide Tryz.prog W .any base t v := hval0
  have hW' := hW
  obtain ⟨p, q, hA0, hV, rfl, hfz, hnd⟩ := hW
  have hA : DataW.TrodAll enc Tryz.prog W 0 (fun _ => true) true Tryz.f3.params.toList args.toList ds p := hA0
  rw [Tryz.params3] at hA hval
  obtain ⟨v0, vs0, d0, ds0, p0, q0, hargs, rfl, rfl, h0, r0⟩ := trodAll_cons hA
  obtain ⟨v1, vs1, d1, ds1, p1, q1, rfl, rfl, rfl, h1, r1⟩ := trodAll_cons r0
  obtain ⟨v2, vs2, d2, ds2, p2, q2, rfl, rfl, rfl, h2, r2⟩ := trodAll_cons r1
  obtain ⟨v3, vs3, d3, ds3, p3, q3, rfl, rfl, rfl, h3, r3⟩ := trodAll_cons r2
  obtain ⟨rfl, rfl, rfl⟩ := trodAll_nil r3
  obtain rfl : args = #[v0, v1, v2, v3] := by cases args; simp_all
  obtain ⟨rfl, rfl⟩ := trodVars_none hV
  obtain ⟨a0, len0, cap0, rfl⟩ := okWide_slice Tryz.underlying22 (hval 0 22 v0 rfl rfl)
  have k0 := h0
  have lt0 : ∀ x ∈ p0, x.block < W.heap.size := by obtain ⟨m, hm⟩ := k0; exact DataW.trod_lt m _ _ _ hm
  obtain ⟨ss0, hn0, hle0, hr0, hall0⟩ := open_syms rfl h0
  obtain ⟨a1, len1, cap1, rfl⟩ := okWide_slice Tryz.underlying23 (hval 1 23 v1 rfl rfl)
  have k1 := h1
  have lt1 : ∀ x ∈ p1, x.block < W.heap.size := by obtain ⟨m, hm⟩ := k1; exact DataW.trod_lt m _ _ _ hm
  obtain ⟨ts1, hn1, hle1, hr1⟩ := open_binds rfl h1
  obtain ⟨cs2, rfl, _⟩ := okWide_struct Tryz.underlying26 (hval 2 26 v2 rfl rfl)
  have k2 := h2
  have lt2 : ∀ x ∈ p2, x.block < W.heap.size := by obtain ⟨m, hm⟩ := k2; exact DataW.trod_lt m _ _ _ hm
  obtain ⟨t2, a2, c2, e2, hf2, hv2, hle2, hr2⟩ := open_term rfl h2
  obtain rfl : cs2 = #[.int .i64 t2.f, .int .i64 t2.v, .slice a2 t2.kids.length c2] := by simpa using e2
  obtain ⟨cs3, rfl, _⟩ := okWide_struct Tryz.underlying26 (hval 3 26 v3 rfl rfl)
  have k3 := h3
  have lt3 : ∀ x ∈ p3, x.block < W.heap.size := by obtain ⟨m, hm⟩ := k3; exact DataW.trod_lt m _ _ _ hm
  obtain ⟨t3, a3, c3, e3, hf3, hv3, hle3, hr3⟩ := open_term rfl h3
  obtain rfl : cs3 = #[.int .i64 t3.f, .int .i64 t3.v, .slice a3 t3.kids.length c3] := by simpa using e3
  clear hA0 hval0
  refine (walk W a0 len0 cap0 ss0 hn0 hle0 hr0 hall0 a1 len1 cap1 ts1 hn1 hle1 hr1 t2 a2 c2 hf2 hv2 hle2.1 hr2 t3 a3 c3 hf3 hv3 hle3.1 hr3).mono fun e W' ⟨he, bel⟩ => ?_
  subst he
  exact ⟨_, rfl, _, _, _, [], _, [], hW', trodAll_mk1 (shut_bool Tryz.underlying4 _), (trodAll_cons_mk (Below.trod laidOut (by kernel_rfl) (of_decide_eq_true (by kernel_rfl)) k0 bel lt0) (trodAll_cons_mk (Below.trod laidOut (by kernel_rfl) (of_decide_eq_true (by kernel_rfl)) k1 bel lt1) (trodAll_cons_mk (Below.trod laidOut (by kernel_rfl) (of_decide_eq_true (by kernel_rfl)) k2 bel lt2) (trodAll_cons_mk (Below.trod laidOut (by kernel_rfl) (of_decide_eq_true (by kernel_rfl)) k3 bel lt3) trodAll_mk0)))), by first | rfl | simp, bel.frame _, fun h => by cases h⟩

theorem over : Rows.fnExactSolvedRow.holds Tryz.pinned (OpenSpec.ofChange Rows.fnExactSolvedSpec) :=
  OpenClaim.holds_of_wide 3 Tryz.f3 rfl rfl rfl rfl rfl rfl rfl ⟨rfl, rfl, rfl, rfl, rfl⟩ rfl rfl rfl rfl rfl (by kernel_rfl) Tryz.func3 (by kernel_rfl)
    (of_decide_eq_true (by kernel_rfl)) (by unfold Func.isWrapper; first | (rw [if_pos (by decide +kernel)]; kernel_rfl) | (rw [if_neg (by decide +kernel)]; exact ⟨rfl, rfl⟩))
    (fun os started H enc _ => lifted os started H enc)

theorem proved : Rows.FnExactSolvedSaid := over
end Go.Proofs.YthbilahilmmfmabGreat.fnExactSolved
namespace Go.Proofs.YthbilahilmmfmabGreat
theorem fnExactSolved_holds : Rows.FnExactSolvedSaid := fnExactSolved.proved
#print axioms fnExactSolved_holds
end Go.Proofs.YthbilahilmmfmabGreat
