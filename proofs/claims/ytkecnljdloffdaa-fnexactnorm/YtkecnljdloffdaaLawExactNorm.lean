/- The law FnExactNorm answers true at every list of functions and every term and leaves both as they were: at every argument Norm answers as its specification, writes into no argument, and its answer owns its memory. Conditions: none beyond the given row's own. -/
import Derived.Test.YtkecnljdloffdaaRows
import Derived.Test.YtkecnljdloffdaaPackExactNorm8
import Derived.WalkKit
import Derived.ProofKit
import Derived.OpenShut
import Derived.ShutString
import Derived.ChangeOld
import Derived.Below
namespace Go.Proofs.Ytkecnljdloffdaa.fnExactNorm
open Go.ChangeShapes Go.WideShapes Go.ChangeAt Go.RowKit
open Go.ChangeMaps (open_string shut_string)
set_option linter.unusedVariables false

theorem own : ownKnob Try.prog.godebug = none := by kernel_rfl
theorem laidOut : laidOutB Try.prog = true := by kernel_rfl

theorem box_on {W W' : World} {b0 : Nat} {x0 x1 x2 : Value} (h : W.cell? ⟨b0, 0, none⟩ = some x0 ∧ W.cell? ⟨b0, 1, none⟩ = some x1 ∧ W.cell? ⟨b0, 2, none⟩ = some x2) (hb : Below W.heap.size W W') :
    W'.cell? ⟨b0, 0, none⟩ = some x0 ∧ W'.cell? ⟨b0, 1, none⟩ = some x1 ∧ W'.cell? ⟨b0, 2, none⟩ = some x2 := ⟨keepC hb h.1, keepC hb h.2.1, keepC hb h.2.2⟩
theorem size_le {ss : List SymD} {s : SymD} (h : s ∈ ss) : s.name.size ≤ bytesOf ss := by
  induction ss with
  | nil => simp at h
  | cons t ss ih =>
    simp only [bytesOf, List.map_cons, List.sum_cons] at *
    rcases List.mem_cons.1 h with rfl | h
    · omega
    · have := ih h; omega

set_option maxHeartbeats 6400000 in
set_option maxRecDepth 100000 in
/-- The law's own walk: it answers true, and nothing that was there is written. -/
theorem walk (w : World) (a0 : Option Addr) (len0 cap0 : Nat) (ss : List SymD) (hn : len0 = ss.length) (hle0 : len0 ≤ maxLen) (hr0 : RdS w a0 ss) (hall : ∀ s ∈ ss, s.name.size ≤ maxLen ∧ (Lit.int .i64 s.ar).wf = true)
    (t : TermD) (a : Option Addr) (c : Nat) (hf : isW t.f) (hv : isW t.v) (hle : t.kids.length ≤ maxLen) (hr : RdK w w.heap.size a t.kids) :
    Calls Try.prog 7 #[.slice a0 len0 cap0, .agg #[.int .i64 t.f, .int .i64 t.v, .slice a t.kids.length c]] w fun e w' => e = .returned (.bool true) ∧ Below w.heap.size w w' := by
  have hsz : ∀ s ∈ ss, s.name.size ≤ maxLen := fun s hs => (hall s hs).1
  unfold maxLen at hle0
  subst hn
  obtain ⟨W, hW⟩ : ∃ W, W = w.alloc (.cells #[.int .i64 t.f, .int .i64 t.v, .slice a t.kids.length c] 51) := ⟨_, rfl⟩
  have hB0 : Below w.heap.size w W := by rw [hW]; exact (Below.refl _ _).alloc (Nat.le_refl _) _
  have SY := szSyms_any a0 ss ss.length cap0 1048576 W rfl (hr0.below hB0) (by omega) (by omega) (by omega) (fun s hs => by have := hsz s hs; unfold maxLen at this; omega)
  have P0 : W.cell? ⟨w.heap.size, 0, none⟩ = some (.int .i64 t.f) ∧ W.cell? ⟨w.heap.size, 1, none⟩ = some (.int .i64 t.v) ∧ W.cell? ⟨w.heap.size, 2, none⟩ = some (.slice a t.kids.length c) := by rw [hW]; simp [go_sem]
  have hpt := partsT_eq t
  clear hle
  go_enter Try.func7, Try.ntmps7
  go_wp2_with (go_at_call 33; rw [← hW]; refine SY.mono ?_; rintro e w1 ⟨r, rfl, hsm, hrm, hb⟩; have hB1 : Below w.heap.size w w1 := hB0.trans (hb.mono hB0.size); obtain ⟨p0, p1, p2⟩ := box_on P0 hb; clear SY P0 hb hW hB0)
  · go_ret
    exact ⟨rfl, hB1⟩
  · have hr0' : 0 ≤ r := by omega
    have hsum := hsm hr0'
    have hl : ss.length ≤ 1048577 := by omega
    have SZ := szTerm_any t a c w.heap.size r w1 hr0' hrm (hr.on hB1) hB1.size
    clear hsm
    by_cases hb1 : (partsL t.kids : Int) ≤ r
    · rw [show szR t.kids r = r - partsL t.kids by unfold szR; rw [if_pos hb1]] at SZ
      have hn1 : ¬ (r - (partsL t.kids : Int)) < 0 := by omega
      have hp1 : partsT t ≤ 4194304 := by omega
      clear hpt hb1 hsum
      generalize r - (partsL t.kids : Int) = r2 at SZ hn1
      obtain ⟨N, hN⟩ : ∃ N, N = normT (blindAt ss) t := ⟨_, rfl⟩
      have hpN : partsT N ≤ 4194304 := by have := normT_parts (blindAt ss) t; rw [← hN] at this; omega
      have hNf : N.f = t.f := by rw [hN, normT_eq]; rfl
      have hNv : N.v = t.v := by rw [hN, normT_eq]; rfl
      go_upto_region 8 with (go_at_call 34; refine SZ.mono ?_; rintro e w2 ⟨rfl, hb⟩; have hB2 : Below w.heap.size w w2 := hB1.trans (hb.mono hB1.size); have P := box_on ⟨p0, p1, p2⟩ hb; clear p0 p1 p2; obtain ⟨p0, p1, p2⟩ := P; clear SZ hb hB1)
      go_cut [6] from 14 (fun s6 wc => ∃ (B6 : Nat) (aw : Option Addr) (cw : Nat), s6 = .pointer (some ⟨B6, 0, none⟩) ∧ LP w t a c N B6 aw cw wc.heap.size wc)
      case first =>
        have hw2 : w.heap.size < w2.heap.size := World.block_lt_of_cell? _ _ p0
        go_region_held3 (fun w' => w'.cell? ⟨w.heap.size, 0, none⟩ = some (.int .i64 t.f) ∧ w'.cell? ⟨w.heap.size, 1, none⟩ = some (.int .i64 t.v) ∧ w'.cell? ⟨w.heap.size, 2, none⟩ = some (.slice a t.kids.length c)) (first | ((refine ⟨keepC ?_ p0, keepC ?_ p1, keepC ?_ p2⟩ <;> (repeat (first | exact Below.refl _ _ | refine Below.drew ?_ | refine Below.alloc ?_ (by simp) _))); done) | exact ⟨set3_keep p0 (by omega), set3_keep p1 (by omega), set3_keep p2 (by omega)⟩ | go_keep)
          (first
            | (go_at_call 35; refine (toSyms_any a0 ss _ cap0 _ rfl ?_ hl).mono ?_; exact hr0.below (hB2.trans (Below.mono (B := w2.heap.size) (by repeat (first | exact Below.refl _ _ | refine Below.drew ?_ | refine Below.alloc ?_ (by simp) _)) hB2.size)); rintro e w3 ⟨rfl, ho3, hb0⟩; have hb : Below w2.heap.size w2 w3 := below_step (by repeat (first | exact Below.refl _ _ | refine Below.drew ?_ | refine Below.alloc ?_ (by simp) _)) hb0; have hc3 := RdS.own rfl ho3; (try rw [show ∀ X : World, X.drew.heap.size = X.heap.size from fun _ => rfl] at hc3); (try rw [World.size_alloc] at hc3); have hB3 : Below w.heap.size w w3 := hB2.trans (hb.mono hB2.size); have P := box_on ⟨p0, p1, p2⟩ hb; clear p0 p1 p2; obtain ⟨p0, p1, p2⟩ := P; have hz3 := hb.size; (first | (have HBz : Hid (Bz w3 w2.heap.size) := Bz.on (Bz.on (Bz.new w2) (Below.refl _ _).drew) hb0; have hlt3 := HBz.out.1.lt) | (have HBz : Hid (Bz w3 w2.heap.size) := Bz.on (Bz.new w2.drew) hb0; have hlt3 := HBz.out.1.lt) | skip); clear hb hb0 ho3)
            | (go_at_call 36; refine (toTerm_any t a c w.heap.size _ hp1 ?_ ?_).mono ?_; exact hr.on (hB3.trans (Below.mono (B := w3.heap.size) (by repeat (first | exact Below.refl _ _ | refine Below.drew ?_ | refine Below.alloc ?_ (by simp) _)) hB3.size)); exact (hB3.trans (Below.mono (B := w3.heap.size) (by repeat (first | exact Below.refl _ _ | refine Below.drew ?_ | refine Below.alloc ?_ (by simp) _)) hB3.size)).size; rintro e w4 ⟨x1, rfl, ho4, hb0⟩; have hb : Below w3.heap.size w3 w4 := below_step (by repeat (first | exact Below.refl _ _ | refine Below.drew ?_ | refine Below.alloc ?_ (by simp) _)) hb0; have hc4 := hc3.below hb; have hB4 : Below w.heap.size w w4 := hB3.trans (hb.mono hB3.size); have P := box_on ⟨p0, p1, p2⟩ hb; clear p0 p1 p2; obtain ⟨p0, p1, p2⟩ := P; have hz4 := hb.size; (first | (have Z2 : Hid (Bz w4 w2.heap.size) := HBz.out.on hb; clear HBz; have HBz := Z2; clear Z2) | (have HBz : Hid (Bz w4 w3.heap.size) := Bz.on (Bz.new w3) hb0; have hlt3 := HBz.out.1.lt) | skip); clear hb hb0 hB3 hc3)
            | (go_at_call 14; refine (specNorm_any ss _ _ hl 4194304 t x1 _ w4.heap.size _ hp1 (Nat.le_refl _) ?_ ?_ hf hv ?_).mono ?_; refine RdK.on ho4.rd ?_; (repeat (first | exact Below.refl _ _ | refine Below.drew ?_ | refine Below.alloc ?_ (by simp) _)); exact (show Below w4.heap.size w4 _ from (by repeat (first | exact Below.refl _ _ | refine Below.drew ?_ | refine Below.alloc ?_ (by simp) _))).size; refine RdS.below hc4 ?_; (repeat (first | exact Below.refl _ _ | refine Below.drew ?_ | refine Below.alloc ?_ (by simp) _)); rintro e w5 ⟨aw, cw, rfl, ho5, hle5, hb0⟩; have hb : Below w4.heap.size w4 w5 := below_step (by repeat (first | exact Below.refl _ _ | refine Below.drew ?_ | refine Below.alloc ?_ (by simp) _)) hb0; have hB5 : Below w.heap.size w w5 := hB4.trans (hb.mono hB4.size); have P := box_on ⟨p0, p1, p2⟩ hb; clear p0 p1 p2; obtain ⟨p0, p1, p2⟩ := P; (first | (have Z2 : Hid (Bz w5 w2.heap.size) := HBz.out.on hb; clear HBz; have HBz := Z2; clear Z2; obtain ⟨⟨n0, n1, n2⟩, nf⟩ := HBz.out) | (have Z2 : Hid (Bz w5 w3.heap.size) := HBz.out.on hb; clear HBz; have HBz := Z2; clear Z2; obtain ⟨⟨n0, n1, n2⟩, nf⟩ := HBz.out) | (have HBz : Hid (Bz w5 w4.heap.size) := Bz.on (Bz.new w4) hb0; obtain ⟨⟨n0, n1, n2⟩, nf⟩ := HBz.out) | skip); have HO5 : Hid _ := ho5; clear hb hb0 hB4 hc4 ho4 ho5))
        all_goals
          go_wp2_with fail
          go_meet
          case rel =>
            have ho := HO5.out.s
            rw [← hN] at ho ⊢
            first
              | exact ⟨_, aw, cw, rfl, LP.last hB5 ⟨p0, p1, p2⟩ ho⟩
              | exact ⟨_, aw, cw, rfl, LP.early hB5 ⟨p0, p1, p2⟩ ho HBz.out (by simp; omega) (by omega)⟩
      case rest =>
        obtain ⟨B6, aw, cw, rfl, L6⟩ := hcut
        obtain ⟨H6, hH6⟩ : ∃ H6, H6 = wc.heap.size := ⟨_, rfl⟩
        rw [← hH6] at L6
        have hw6 : H6 ≤ wc.heap.size := by omega
        clear hH6 hB2 p0 p1 p2
        obtain ⟨p0, p1, p2⟩ := L6.p
        have EQ : ∀ (a1 a2 : Option Addr) (c1 c2 hi : Nat) (W' : World), RdK W' hi a1 N.kids → RdK W' hi a2 N.kids → hi ≤ W'.heap.size → Calls Try.prog 37 #[.agg #[.int .i64 t.f, .int .i64 t.v, .slice a1 N.kids.length c1], .agg #[.int .i64 t.f, .int .i64 t.v, .slice a2 N.kids.length c2]] W' fun e w' => e = .returned (.bool true) ∧ Below W'.heap.size W' w' := fun a1 a2 c1 c2 hi W' h1 h2 h3 => by
          have := eqTerm_same N a1 a2 c1 c2 hi W' hpN h1 h2 h3
          rwa [hNf, hNv] at this
        have CI : ∀ (sa y : Option Addr) (sc c' hi : Nat) (W' : World), RdS W' sa ss → RdK W' hi y t.kids → hi ≤ W'.heap.size → t.kids.length ≤ c' → Calls Try.prog 10 #[.slice sa ss.length sc, .agg #[.int .i64 t.f, .int .i64 t.v, .slice y t.kids.length c']] W' fun e w' => ∃ a' c'', e = .returned (.agg #[.int .i64 t.f, .int .i64 t.v, .slice a' N.kids.length c'']) ∧ OwnS w' (fun k => W'.heap.size ≤ k ∧ k < w'.heap.size) a' N.kids ∧ N.kids.length ≤ c'' ∧ Below W'.heap.size W' w' := fun sa y sc c' hi W' h1 h2 h3 h4 => by
          have := impNorm_any sa ss sc t y c' hi W' h1 hp1 h2 h3 h4 ⟨hf, hv⟩
          rw [← hN] at this
          exact this
        clear hN
        have hnk : ¬ ((1 : Int) + 3 * (ss.length : Int) + 2 * (partsL t.kids : Int) < 0) := by omega
        have hnm : ¬ ((1 : Int) + 2 * (partsL N.kids : Int) < 0) := by omega
        have MK : ∀ (c1 : Nat) (S : Nat → Prop) (a1 : Option Addr) (W' : World), OwnS W' S a1 N.kids → (∀ x, S x → x < W'.heap.size) → Calls Try.prog 40 #[.agg #[.int .i64 t.f, .int .i64 t.v, .slice a1 N.kids.length c1], .int .i64 1] W' fun e w' => e = .returned (.int .i64 (1 + 2 * partsL N.kids)) ∧ Mk w' S a1 N.kids 1 ∧ ∃ w0, Below W'.heap.size W' w0 ∧ Only S w0 w' := fun c1 S a1 W' h1 h2 => by
          have := markTerm_mk N a1 c1 1 S W' hpN (by omega) (by omega) h1 h2
          rwa [hNf, hNv] at this
        have HD : ∀ (c1 : Nat) (S : Nat → Prop) (a1 : Option Addr) (W' : World), Mk W' S a1 N.kids 1 → (∀ x, S x → x < W'.heap.size) → Calls Try.prog 41 #[.agg #[.int .i64 t.f, .int .i64 t.v, .slice a1 N.kids.length c1], .int .i64 1] W' fun e w' => e = .returned (.int .i64 (1 + 2 * partsL N.kids)) ∧ Below W'.heap.size W' w' := fun c1 S a1 W' h1 h2 => by
          have := heldTerm_any N a1 c1 1 S W' hpN (by omega) (by omega) h1 h2
          rwa [hNf, hNv] at this
        go_wp2_with (first
          | (go_at_call 35; refine (toSyms_any a0 ss _ cap0 _ rfl (hr0.below L6.bel) hl).mono ?_; rintro e w7 ⟨rfl, ho7, hb⟩; have L7 := L6.on hb; have p := L7.p; clear p0 p1 p2; obtain ⟨p0, p1, p2⟩ := p; have hlt7 : wc.heap.size < w7.heap.size := (ho7.lt _ rfl).2; have hc7 := RdS.own rfl ho7; clear hb L6)
          | (go_at_call 36; refine (toTerm_any t a c w.heap.size _ hp1 (hr.on L7.bel) L7.bel.size).mono ?_; rintro e w8 ⟨y1, rfl, ho8, hb⟩; have L8 := L7.on hb; have p := L8.p; clear p0 p1 p2; obtain ⟨p0, p1, p2⟩ := p; have hz8 := hb.size; have hc8 := hc7.below hb; have o8 := own_on ho7 hb; have hbx : Below w8.heap.size w8 (w8.alloc (.cells #[.int .i64 t.f, .int .i64 t.v, .slice y1 t.kids.length t.kids.length] 27)) := (Below.refl _ _).alloc (Nat.le_refl _) _; clear hb L7 ho7 hc7)
          | (go_at_call 10; refine (CI _ y1 _ _ w8.heap.size _ (hc8.below hbx) (ho8.rd.on hbx) hbx.size (Nat.le_refl _)).mono ?_; rintro e w9 ⟨ag, cg, rfl, ho9, hle9, hb0⟩; have HG : Hid _ := lg_start (cg := cg) L8 o8 ho8 hbx ho9 hb0 hw6 hlt7 hz8; have hb89 : Below w8.heap.size w8 w9 := hbx.trans (hb0.mono hbx.size); clear p0 p1 p2; obtain ⟨p0, p1, p2⟩ := (L8.on hb89).p; obtain ⟨q0, q1, q2⟩ := (L8.on hb89).q; have hB6l : B6 < w9.heap.size := World.block_lt_of_cell? _ _ q0; have g0 := trivial; have g1 := trivial; have g2 := trivial; have x0 := trivial; have x1 := trivial; have x2 := trivial; clear hb0 ho9 L8 o8 ho8 hbx hc8 hb89)
          | (go_at_call 37; refine (EQ ag aw _ _ _ _ HG.out.og.rd (HG.out.lp.rd.mono HG.out.lp.z) (Nat.le_refl _)).mono ?_; rintro e w10 ⟨rfl, hb⟩; have HG2 : Hid _ := HG.out.on hb; clear HG; have HG := HG2; clear HG2; clear p0 p1 p2 q0 q1 q2 g0 g1 g2 x0 x1 x2; obtain ⟨p0, p1, p2⟩ := HG.out.lp.p; obtain ⟨q0, q1, q2⟩ := HG.out.lp.q; obtain ⟨g0, g1, g2⟩ := HG.out.g; obtain ⟨x0, x1, x2⟩ := HG.out.x; clear hb)
          | (go_at_call 35; refine (toSyms_any a0 ss _ cap0 _ rfl (hr0.below HG.out.lp.bel) hl).mono ?_; rintro e w11 ⟨rfl, ho11, hb⟩; have hcs := RdS.own rfl ho11; have HG2 : Hid _ := HG.out.on hb; clear HG; have HG := HG2; clear HG2; clear p0 p1 p2 q0 q1 q2 g0 g1 g2 x0 x1 x2; obtain ⟨p0, p1, p2⟩ := HG.out.lp.p; obtain ⟨q0, q1, q2⟩ := HG.out.lp.q; obtain ⟨g0, g1, g2⟩ := HG.out.g; obtain ⟨x0, x1, x2⟩ := HG.out.x; clear hb; clear ho11)
          | (go_at_call 38; refine (eqSyms_same _ _ ss _ _ _ _ _ rfl rfl (RdS.own rfl HG.out.sy) hcs hl).mono ?_; rintro e w12 ⟨rfl, hb⟩; have HG2 : Hid _ := HG.out.on hb; clear HG; have HG := HG2; clear HG2; clear p0 p1 p2 q0 q1 q2 g0 g1 g2 x0 x1 x2; obtain ⟨p0, p1, p2⟩ := HG.out.lp.p; obtain ⟨q0, q1, q2⟩ := HG.out.lp.q; obtain ⟨g0, g1, g2⟩ := HG.out.g; obtain ⟨x0, x1, x2⟩ := HG.out.x; clear hb; clear hcs))
        go_region_held3 (fun w' => w'.cell? ⟨w.heap.size, 0, none⟩ = some (.int .i64 t.f) ∧ w'.cell? ⟨w.heap.size, 1, none⟩ = some (.int .i64 t.v) ∧ w'.cell? ⟨w.heap.size, 2, none⟩ = some (.slice a t.kids.length c) ∧ w'.cell? ⟨w8.heap.size, 0, none⟩ = some (.int .i64 t.f) ∧ w'.cell? ⟨w8.heap.size, 1, none⟩ = some (.int .i64 t.v) ∧ w'.cell? ⟨w8.heap.size, 2, none⟩ = some (.slice y1 t.kids.length t.kids.length)) (first | go_keep | exact ⟨p0, p1, p2, x0, x1, x2⟩)
          (first
            | (go_at_call_of 36 t; refine (toTerm_any t a c w.heap.size _ hp1 ?_ ?_).mono ?_; exact hr.on HG.out.lp.bel.drew; exact HG.out.lp.bel.size; rintro e w13 ⟨z1, rfl, ho13, hb0⟩; have hb : Below w12.heap.size w12 w13 := (Below.refl _ _).drew.trans hb0; have HG2 : Hid _ := HG.out.on hb; clear HG; have HG := HG2; clear HG2; clear p0 p1 p2 q0 q1 q2 g0 g1 g2 x0 x1 x2; obtain ⟨p0, p1, p2⟩ := HG.out.lp.p; obtain ⟨q0, q1, q2⟩ := HG.out.lp.q; obtain ⟨g0, g1, g2⟩ := HG.out.g; obtain ⟨x0, x1, x2⟩ := HG.out.x; clear hb; clear hb0)
            | (go_at_call 37; refine (eqTerm_same t y1 z1 _ _ w13.heap.size _ hp1 ?_ ?_ ?_).mono ?_; exact HG.out.ox.rd; exact ho13.rd; exact Nat.le_refl _; rintro e w14 ⟨rfl, hb⟩; have HG2 : Hid _ := HG.out.on hb; clear HG; have HG := HG2; clear HG2; clear p0 p1 p2 q0 q1 q2 g0 g1 g2 x0 x1 x2; obtain ⟨p0, p1, p2⟩ := HG.out.lp.p; obtain ⟨q0, q1, q2⟩ := HG.out.lp.q; obtain ⟨g0, g1, g2⟩ := HG.out.g; obtain ⟨x0, x1, x2⟩ := HG.out.x; clear hb; clear ho13))
        go_upto_region 31 with (first
          | (go_at_call 39; refine (markSyms_any _ _ ss.length ss.length _ 1 _ HG.out.sy hl (by omega)).mono ?_; rintro e w15 ⟨rfl, hs15⟩; have LX := HG.out.h hs15; have HL : Hid _ := LX.1; have HX : Hid _ := LX.2.1; clear p0 p1 p2 q0 q1 q2 g0 g1 g2 x0 x1 x2; obtain ⟨p0, p1, p2⟩ := HL.out.lp.p; obtain ⟨q0, q1, q2⟩ := HL.out.lp.q; obtain ⟨g0, g1, g2⟩ := HL.out.g; obtain ⟨x0, x1, x2⟩ := LX.2.2; have h34 := HG.out.h4; have h24 := HG.out.h2; have h14 := HG.out.h1; clear HG LX hs15)
          | (go_at_call_of 40 y1; refine (markTerm_any t y1 _ (1 + 3 * (ss.length : Int)) _ _ hp1 (by omega) (by omega) HX.out (fun k hk => by have := HL.out.h5; omega)).mono ?_; rintro e w16 ⟨rfl, W0, hb16, ho16⟩; have HL2 : Hid _ := HL.out.stay (only_stay hb16 ho16 (fun k _ hk q => by omega)); clear HL; have HL := HL2; clear HL2; clear p0 p1 p2 q0 q1 q2 g0 g1 g2 x0 x1 x2; obtain ⟨p0, p1, p2⟩ := HL.out.lp.p; obtain ⟨q0, q1, q2⟩ := HL.out.lp.q; obtain ⟨g0, g1, g2⟩ := HL.out.g; clear HX hb16 ho16)
          | (go_at_call 37; refine (EQ ag aw _ _ _ _ HL.out.og.rd (HL.out.lp.rd.mono HL.out.lp.z) (Nat.le_refl _)).mono ?_; rintro e w17 ⟨rfl, hb⟩; have HL2 : Hid _ := HL.out.on hb; clear HL; have HL := HL2; clear HL2; clear p0 p1 p2 q0 q1 q2 g0 g1 g2; obtain ⟨p0, p1, p2⟩ := HL.out.lp.p; obtain ⟨q0, q1, q2⟩ := HL.out.lp.q; obtain ⟨g0, g1, g2⟩ := HL.out.g; clear hb)
          | (go_at_call_of 40 ag; refine (MK _ _ _ _ HL.out.og (fun k hk => by have := HL.out.h5; omega)).mono ?_; rintro e w18 ⟨rfl, hm18, W0, hb18, ho18⟩; have HM : Hid _ := HL.out.marked hb18 ho18 hm18; clear p0 p1 p2 q0 q1 q2 g0 g1 g2; obtain ⟨p0, p1, p2⟩ := HM.out.lp.p; obtain ⟨q0, q1, q2⟩ := HM.out.lp.q; obtain ⟨g0, g1, g2⟩ := HM.out.g; clear HL hm18 hb18 ho18)
          | (go_at_call 41; refine (HD _ _ _ _ HM.out.og (fun k hk => by have := HM.out.h5; omega)).mono ?_; rintro e w19 ⟨rfl, hb⟩; have HM2 : Hid _ := HM.out.on hb; clear HM; have HM := HM2; clear HM2; clear p0 p1 p2 q0 q1 q2 g0 g1 g2; obtain ⟨p0, p1, p2⟩ := HM.out.lp.p; obtain ⟨q0, q1, q2⟩ := HM.out.lp.q; obtain ⟨g0, g1, g2⟩ := HM.out.g; clear hb))
        go_cut [13] from 14 (fun s13 wd => ∃ (B13 : Nat) (ah : Option Addr) (ch : Nat), s13 = .pointer (some ⟨B13, 0, none⟩) ∧ LM w t a c N B6 aw cw H6 (w8.heap.size + 1) w9.heap.size ag cg wd ∧ Bx3 wd B13 t.f t.v ah N.kids.length ch ∧ RdK wd wd.heap.size ah N.kids)
        case first =>
          have hw19 : w.heap.size < w19.heap.size := World.block_lt_of_cell? _ _ p0
          have h919 : w9.heap.size < w19.heap.size := HM.out.h5
          have hH19 : H6 ≤ w19.heap.size := HM.out.lp.z
          go_region_held3 (fun w' => w'.cell? ⟨w.heap.size, 0, none⟩ = some (.int .i64 t.f) ∧ w'.cell? ⟨w.heap.size, 1, none⟩ = some (.int .i64 t.v) ∧ w'.cell? ⟨w.heap.size, 2, none⟩ = some (.slice a t.kids.length c)) (first | ((refine ⟨keepC ?_ p0, keepC ?_ p1, keepC ?_ p2⟩ <;> (repeat (first | exact Below.refl _ _ | refine Below.drew ?_ | refine Below.alloc ?_ (by simp) _))); done) | exact ⟨set3_keep p0 (by omega), set3_keep p1 (by omega), set3_keep p2 (by omega)⟩ | go_keep)
            (first
              | (go_at_call 35; refine (toSyms_any a0 ss _ cap0 _ rfl ?_ hl).mono ?_; exact hr0.below (HM.out.lp.bel.trans (Below.mono (B := w19.heap.size) (by repeat (first | exact Below.refl _ _ | refine Below.drew ?_ | refine Below.alloc ?_ (by simp) _)) HM.out.lp.bel.size)); rintro e w20 ⟨rfl, ho20, hb0⟩; have hb : Below w19.heap.size w19 w20 := below_step (by repeat (first | exact Below.refl _ _ | refine Below.drew ?_ | refine Below.alloc ?_ (by simp) _)) hb0; have hc20 := RdS.own rfl ho20; (try rw [show ∀ X : World, X.drew.heap.size = X.heap.size from fun _ => rfl] at hc20); (try rw [World.size_alloc] at hc20); have HM2 : Hid _ := HM.out.on hb; clear HM; have HM := HM2; clear HM2; clear p0 p1 p2 q0 q1 q2 g0 g1 g2; obtain ⟨p0, p1, p2⟩ := HM.out.lp.p; obtain ⟨q0, q1, q2⟩ := HM.out.lp.q; obtain ⟨g0, g1, g2⟩ := HM.out.g; have hz20 := hb.size; (first | (have HBz : Hid (Bz w20 w19.heap.size) := Bz.on (Bz.on (Bz.new w19) (Below.refl _ _).drew) hb0; have hlt3 := HBz.out.1.lt) | (have HBz : Hid (Bz w20 w19.heap.size) := Bz.on (Bz.new w19.drew) hb0; have hlt3 := HBz.out.1.lt) | skip); clear hb hb0 ho20)
              | (go_at_call 36; refine (toTerm_any t a c w.heap.size _ hp1 ?_ ?_).mono ?_; exact hr.on (HM.out.lp.bel.trans (Below.mono (B := w20.heap.size) (by repeat (first | exact Below.refl _ _ | refine Below.drew ?_ | refine Below.alloc ?_ (by simp) _)) HM.out.lp.bel.size)); exact (HM.out.lp.bel.trans (Below.mono (B := w20.heap.size) (by repeat (first | exact Below.refl _ _ | refine Below.drew ?_ | refine Below.alloc ?_ (by simp) _)) HM.out.lp.bel.size)).size; rintro e w21 ⟨v1, rfl, ho21, hb0⟩; have hb : Below w20.heap.size w20 w21 := below_step (by repeat (first | exact Below.refl _ _ | refine Below.drew ?_ | refine Below.alloc ?_ (by simp) _)) hb0; have hc21 := hc20.below hb; have HM2 : Hid _ := HM.out.on hb; clear HM; have HM := HM2; clear HM2; clear p0 p1 p2 q0 q1 q2 g0 g1 g2; obtain ⟨p0, p1, p2⟩ := HM.out.lp.p; obtain ⟨q0, q1, q2⟩ := HM.out.lp.q; obtain ⟨g0, g1, g2⟩ := HM.out.g; have hz21 := hb.size; (first | (have Z2 : Hid (Bz w21 w19.heap.size) := HBz.out.on hb; clear HBz; have HBz := Z2; clear Z2) | (have HBz : Hid (Bz w21 w20.heap.size) := Bz.on (Bz.new w20) hb0; have hlt3 := HBz.out.1.lt) | skip); clear hb hb0 hc20)
              | (go_at_call 10; refine (CI _ v1 _ _ w21.heap.size _ ?_ ?_ ?_ (Nat.le_refl _)).mono ?_; (refine RdS.below hc21 ?_; (repeat (first | exact Below.refl _ _ | refine Below.drew ?_ | refine Below.alloc ?_ (by simp) _))); (refine RdK.on ho21.rd ?_; (repeat (first | exact Below.refl _ _ | refine Below.drew ?_ | refine Below.alloc ?_ (by simp) _))); exact (show Below w21.heap.size w21 _ from (by repeat (first | exact Below.refl _ _ | refine Below.drew ?_ | refine Below.alloc ?_ (by simp) _))).size; rintro e w22 ⟨ah, ch, rfl, ho22, hle22, hb0⟩; have hb : Below w21.heap.size w21 w22 := below_step (by repeat (first | exact Below.refl _ _ | refine Below.drew ?_ | refine Below.alloc ?_ (by simp) _)) hb0; have HM2 : Hid _ := HM.out.on hb; clear HM; have HM := HM2; clear HM2; clear p0 p1 p2 q0 q1 q2 g0 g1 g2; obtain ⟨p0, p1, p2⟩ := HM.out.lp.p; obtain ⟨q0, q1, q2⟩ := HM.out.lp.q; obtain ⟨g0, g1, g2⟩ := HM.out.g; (first | (have Z2 : Hid (Bz w22 w19.heap.size) := HBz.out.on hb; clear HBz; have HBz := Z2; clear Z2; obtain ⟨⟨n0, n1, n2⟩, nf⟩ := HBz.out) | (have Z2 : Hid (Bz w22 w20.heap.size) := HBz.out.on hb; clear HBz; have HBz := Z2; clear Z2; obtain ⟨⟨n0, n1, n2⟩, nf⟩ := HBz.out) | (have HBz : Hid (Bz w22 w21.heap.size) := Bz.on (Bz.new w21) hb0; obtain ⟨⟨n0, n1, n2⟩, nf⟩ := HBz.out) | skip); have HO5 : Hid _ := ho22; clear hb hb0 hc21 ho21 ho22))
          all_goals
            go_wp2_with fail
            go_meet
            case rel =>
              have ho := HO5.out
              first
                | exact ⟨_, ah, ch, rfl, HM.out.last ho⟩
                | exact ⟨_, ah, ch, rfl, HM.out.early ho HBz.out (by simp; omega) (by omega) (by omega)⟩
        case rest =>
          obtain ⟨B13, ah, ch, rfl, M13, ⟨k0, k1, k2⟩, R13⟩ := hcut
          have HM2 : Hid _ := M13
          have HR : Hid _ := R13
          clear HM p0 p1 p2 q0 q1 q2 g0 g1 g2
          obtain ⟨q0, q1, q2⟩ := M13.lp.q
          obtain ⟨g0, g1, g2⟩ := M13.g
          clear M13 R13
          go_wp2_with (first
            | (go_at_call 37; refine (EQ ah aw _ _ _ _ HR.out (HM2.out.lp.rd.mono HM2.out.lp.z) (Nat.le_refl _)).mono ?_; rintro e w23 ⟨rfl, hb⟩; have HM3 : Hid _ := HM2.out.on hb; clear HM2 HR k0 k1 k2 q0 q1 q2 g0 g1 g2; obtain ⟨g0, g1, g2⟩ := HM3.out.g; clear hb)
            | (go_at_call 41; refine (HD _ _ _ _ HM3.out.og (fun k hk => by have := HM3.out.h5; omega)).mono ?_; rintro e w24 ⟨rfl, hb⟩; have HM4 : Hid _ := HM3.out.on hb; clear HM3))
          go_ret
          exact ⟨rfl, HM4.out.lp.bel⟩
    · rw [show szR t.kids r = -1 by unfold szR; rw [if_neg hb1]] at SZ
      clear hpt
      go_wp2_with (go_at_call 34; refine SZ.mono ?_; rintro e w2 ⟨rfl, hb⟩; have hB2 : Below w.heap.size w w2 := hB1.trans (hb.mono hB1.size); clear SZ hb)
      go_ret
      exact ⟨rfl, hB2⟩

set_option maxRecDepth 100000 in
theorem lifted (os : Os) (started : os.Started) (H : Type) (enc : TypeId × Value → H) :
    ReturnsInHanded {} Try.checked os 7 .any (Rows.fnExactNormSpec.pre6 enc Try.prog Try.f7 Rows.fnExactNormRow.domain false) (Rows.fnExactNormSpec.post enc Try.prog Try.f7 false true false false) := by
  refine returnsInHanded_of_change (C := Try.checked) own started (by kernel_rfl) Try.func7
    (ChangeSpec.witness6 (enc := enc) (C := Try.checked) false ⟨#[], #[.slice none 0 0, .agg #[.int .i64 0, .int .i64 0, .slice none 0 0]], []⟩ 8 (by kernel_rfl) (by kernel_rfl) (by kernel_rfl) (by kernel_rfl)) ?_
  intro W base args ds gs before hval0 hW hcnd _
  have hval : ∀ (j : Nat) t v, Try.f7.params[j]? = some t → args[j]? = some v → Value.okWide Try.prog W .any base t v := hval0
  have hW' := hW
  obtain ⟨p, q, hA0, hV, rfl, hfz, hnd⟩ := hW
  have hA : DataW.TrodAll enc Try.prog W 0 (fun _ => true) true Try.f7.params.toList args.toList ds p := hA0
  rw [Try.params7] at hA hval
  obtain ⟨v0, vs0, d0, ds0, p0, q0, hargs, rfl, rfl, h0, r0⟩ := trodAll_cons hA
  obtain ⟨v1, vs1, d1, ds1, p1, q1, rfl, rfl, rfl, h1, r1⟩ := trodAll_cons r0
  obtain ⟨rfl, rfl, rfl⟩ := trodAll_nil r1
  obtain rfl : args = #[v0, v1] := by cases args; simp_all
  obtain ⟨rfl, rfl⟩ := trodVars_none hV
  obtain ⟨a0, len0, cap0, rfl⟩ := okWide_slice Try.underlying48 (hval 0 48 v0 rfl rfl)
  have k0 := h0
  have lt0 : ∀ x ∈ p0, x.block < W.heap.size := by obtain ⟨m, hm⟩ := k0; exact DataW.trod_lt m _ _ _ hm
  obtain ⟨ss0, hn0, hle0, hr0, hall0⟩ := open_syms rfl h0
  obtain ⟨cs1, rfl, _⟩ := okWide_struct Try.underlying51 (hval 1 51 v1 rfl rfl)
  have k1 := h1
  have lt1 : ∀ x ∈ p1, x.block < W.heap.size := by obtain ⟨m, hm⟩ := k1; exact DataW.trod_lt m _ _ _ hm
  obtain ⟨t1, a1, c1, e1, hf1, hv1, hle1, hr1⟩ := open_term rfl h1
  obtain rfl : cs1 = #[.int .i64 t1.f, .int .i64 t1.v, .slice a1 t1.kids.length c1] := by simpa using e1
  clear hA0 hval0
  refine (walk W a0 len0 cap0 ss0 hn0 hle0 hr0 hall0 t1 a1 c1 hf1 hv1 hle1.1 hr1).mono fun e W' ⟨he, bel⟩ => ?_
  subst he
  exact ⟨_, rfl, _, _, _, [], _, [], hW', trodAll_mk1 (shut_bool Try.underlying4 _), (trodAll_cons_mk (Below.trod laidOut (by kernel_rfl) (of_decide_eq_true (by kernel_rfl)) k0 bel lt0) (trodAll_cons_mk (Below.trod laidOut (by kernel_rfl) (of_decide_eq_true (by kernel_rfl)) k1 bel lt1) trodAll_mk0)), by first | rfl | simp, bel.frame _, fun h => by cases h⟩

theorem over : Rows.fnExactNormRow.holds Try.pinned (OpenSpec.ofChange Rows.fnExactNormSpec) :=
  OpenClaim.holds_of_wide 7 Try.f7 rfl rfl rfl rfl rfl rfl rfl ⟨rfl, rfl, rfl, rfl, rfl⟩ rfl rfl rfl rfl rfl (by kernel_rfl) Try.func7 (by kernel_rfl)
    (of_decide_eq_true (by kernel_rfl)) (by unfold Func.isWrapper; first | (rw [if_pos (by decide +kernel)]; kernel_rfl) | (rw [if_neg (by decide +kernel)]; exact ⟨rfl, rfl⟩))
    (fun os started H enc _ => lifted os started H enc)

theorem proved : Rows.FnExactNormSaid := over
end Go.Proofs.Ytkecnljdloffdaa.fnExactNorm
namespace Go.Proofs.Ytkecnljdloffdaa
theorem fnExactNorm_holds : Rows.FnExactNormSaid := fnExactNorm.proved
#print axioms fnExactNorm_holds
end Go.Proofs.Ytkecnljdloffdaa
