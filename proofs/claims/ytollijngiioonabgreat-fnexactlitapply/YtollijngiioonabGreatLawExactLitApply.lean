/- The law FnExactLitApply answers true at every list of functions, every list of what is put, and every equation, and leaves them as they were: at every argument LitApply answers as its specification, writes into no argument, and its answer owns its memory. Conditions: none beyond the given row's own. -/
import Derived.Test.YtollijngiioonabGreatRows
import Derived.Test.YtollijngiioonabGreatPackExactLitApply13
import Derived.WalkKit
import Derived.ProofKit
import Derived.OpenShut
import Derived.ShutString
import Derived.ChangeOld
import Derived.Below
namespace Go.Proofs.YtollijngiioonabGreat.fnExactLitApply
open Go.ChangeShapes Go.WideShapes Go.ChangeAt Go.RowKit
open Go.ChangeMaps (open_string shut_string)
set_option linter.unusedVariables false

theorem own : ownKnob Tryz.prog.godebug = none := by kernel_rfl
theorem laidOut : laidOutB Tryz.prog = true := by kernel_rfl

theorem size_le {ss : List SymD} {s : SymD} (h : s ∈ ss) : s.name.size ≤ bytesOf ss := by
  induction ss with
  | nil => simp at h
  | cons t ss ih =>
    simp only [bytesOf, List.map_cons, List.sum_cons] at *
    rcases List.mem_cons.1 h with rfl | h
    · omega
    · have := ih h; omega

set_option maxHeartbeats 12800000 in
set_option maxRecDepth 100000 in
/-- The law's own walk: it answers true, and nothing that was there is written. -/
theorem walk (w : World) (a0 : Option Addr) (len0 cap0 : Nat) (ss : List SymD) (hn : len0 = ss.length) (hle0 : len0 ≤ maxLen) (hr0 : RdS w a0 ss) (hall : ∀ s ∈ ss, s.name.size ≤ maxLen ∧ (Lit.int .i64 s.ar).wf = true)
    (ka : Option Addr) (klen kcap : Nat) (us : List BindD) (hkn : klen = us.length) (hkle : klen ≤ maxLen ∧ klen ≤ kcap) (hkr : RdU w w.heap.size ka us)
    (x : LitD) (a : Option Addr) (c : Nat) (b : Option Addr) (d : Nat) (hxl : isW x.l.f ∧ isW x.l.v) (hxr : isW x.r.f ∧ isW x.r.v) (hx1 : RdK w w.heap.size a x.l.kids) (hx2 : RdK w w.heap.size b x.r.kids) :
    Calls Tryz.prog 3 #[.slice a0 len0 cap0, .slice ka klen kcap, litV x a c b d] w fun e w' => e = .returned (.bool true) ∧ Below w.heap.size w w' := by
  have hsz : ∀ s ∈ ss, s.name.size ≤ maxLen := fun s hs => (hall s hs).1
  unfold maxLen at hle0
  subst hn hkn
  have hul : us.length ≤ 9223372036854775807 := by have := hkle.1; unfold maxLen at this; omega
  obtain ⟨W, hW⟩ : ∃ W, W = w.alloc (.cells #[.bool x.p, .int .i64 x.l.f, .int .i64 x.l.v, .slice a x.l.kids.length c, .int .i64 x.r.f, .int .i64 x.r.v, .slice b x.r.kids.length d] 28) := ⟨_, rfl⟩
  have hB0 : Below w.heap.size w W := by rw [hW]; exact (Below.refl _ _).alloc (Nat.le_refl _) _
  have HCX : Hid (C7 W w.heap.size (.bool x.p) (.int .i64 x.l.f) (.int .i64 x.l.v) (.slice a x.l.kids.length c) (.int .i64 x.r.f) (.int .i64 x.r.v) (.slice b x.r.kids.length d)) := by rw [hW]; exact ⟨by simp [go_sem], by simp [go_sem], by simp [go_sem], by simp [go_sem], by simp [go_sem], by simp [go_sem], by simp [go_sem]⟩
  have SY := szSyms_any a0 ss ss.length cap0 1048576 W rfl (hr0.below hB0) (by omega) (by omega) (by omega) (fun s hs => by have := hsz s hs; unfold maxLen at this; omega)
  have HKR : Hid (RdU w w.heap.size ka us) := hkr
  have hpl := partsT_eq x.l
  have hpr := partsT_eq x.r
  clear hkle hkr
  unfold litV
  go_enter Tryz.func3, Tryz.ntmps3
  go_wp2_with (go_at_call 4; rw [← hW]; refine SY.mono ?_; rintro e w1 ⟨r, rfl, hsm, hrm, hb⟩; have hB1 : Below W.heap.size W w1 := hb; have KA := C7.on HCX.out hb; obtain ⟨p0, p1, p2, p3, p4, p5, p6⟩ := KA; clear SY hb hW)
  · go_ret
    exact ⟨rfl, hB0.trans (hB1.mono hB0.size)⟩
  · have hr0' : 0 ≤ r := by omega
    have hsum := hsm hr0'
    have hl : ss.length ≤ 1048577 := by omega
    have hB1' := hB0.trans (hB1.mono hB0.size)
    have SU := szBindS_any us ka kcap w.heap.size r w1 hr0' hrm hul (HKR.out.on hB1') hB1'.size
    clear hsm
    by_cases hb0 : (partsU us : Int) ≤ r
    · rw [show szU us r = r - partsU us by unfold szU; rw [if_pos hb0]] at SU
      have hn0 : ¬ (r - (partsU us : Int)) < 0 := by omega
      obtain ⟨rr2, hrr⟩ : ∃ rr2, rr2 = r - (partsU us : Int) := ⟨_, rfl⟩
      rw [← hrr] at SU hn0
      have hr2s : Hid (rr2 = r - (partsU us : Int)) := hrr
      have SX := fun (W' : World) (h : Below w.heap.size w W') => szLit_any x a b c d w.heap.size rr2 W' (by omega) (by omega) (hx1.on h) (hx2.on h) h.size
      have hsx := szX_ok x rr2 (by omega) (by omega)
      unfold litV at SX
      clear hrr
      generalize szX x rr2 = rr3 at SX hsx
      by_cases hn3 : rr3 < 0
      · clear hsx hpl hpr hr2s
        go_wp2_with (first
          | (go_at_call 5; refine SU.mono ?_; rintro e w2 ⟨rfl, hb⟩; have hB2 : Below W.heap.size W w2 := hB1.trans (hb.mono hB1.size); clear p0 p1 p2 p3 p4 p5 p6; have KA := C7.on HCX.out hB2; obtain ⟨p0, p1, p2, p3, p4, p5, p6⟩ := KA; clear SU hb hB1 hB1')
          | (go_at_call 6; refine (SX w2 (hB0.trans (hB2.mono hB0.size))).mono ?_; rintro e w3 ⟨rfl, hb⟩; have hB3 : Below W.heap.size W w3 := hB2.trans (hb.mono hB2.size); clear SX hb))
        go_ret
        exact ⟨rfl, hB0.trans (hB3.mono hB0.size)⟩
      · obtain ⟨hs1, hs2⟩ := hsx (by omega)
        have hr2o := hr2s.out
        have hp1 : partsT x.l ≤ 549755813888 := by omega
        have hp2 : partsT x.r ≤ 549755813888 := by omega
        have hpu : partsU us ≤ 549755813887 := by omega
        have hul2 : us.length ≤ 549755813888 := by unfold partsU at hpu; omega
        have hq1 : partsT (putV us x.l) ≤ 549755813888 := put_small (by omega)
        have hq2 : partsT (putV us x.r) ≤ 549755813888 := put_small (by omega)
        have hHs : Hid ((ss.length : Int) ≤ 1048577 ∧ (partsU us : Int) ≤ 1048576 ∧ (partsL x.l.kids : Int) ≤ 1048576 ∧ (partsL x.r.kids : Int) ≤ 1048576) := ⟨by omega, by omega, by omega, by omega⟩
        clear hsum hb0 hr2s hr2o hs1 hs2 hsx
        obtain ⟨X, hX⟩ : ∃ X, X = applyX ss us x := ⟨_, rfl⟩
        have hXp : partsT X.l ≤ 549755813888 ∧ partsT X.r ≤ 549755813888 := by
          have h1 := normT_parts (blindAt ss) (normT (blindAt ss) (putV us x.l))
          have h2 := normT_parts (blindAt ss) (normT (blindAt ss) (putV us x.r))
          have h3 := normT_parts (blindAt ss) (putV us x.l)
          have h4 := normT_parts (blindAt ss) (putV us x.r)
          rw [hX]
          unfold applyX makeX
          split <;> exact ⟨by simp only; omega, by simp only; omega⟩
        have CS := fun (sa ua y z : Option Addr) (sc uc k l hi : Nat) (W' : World) (g0 : RdS W' sa ss) (g1 : RdU W' hi ua us) (g2 : RdK W' hi y x.l.kids) (g3 : RdK W' hi z x.r.kids) (g4 : hi ≤ W'.heap.size) => specLitApply_any sa ss sc us ua uc x y z k l hi W' g0 g1 hp1 hp2 hq1 hq2 g2 g3 g4 hxl hxr hl hpu
        have CJ := fun (sa ua y z : Option Addr) (sc uc k l hi : Nat) (W' : World) (g0 : RdS W' sa ss) (g1 : RdU W' hi ua us) (g2 : RdK W' hi y x.l.kids) (g3 : RdK W' hi z x.r.kids) (g4 : hi ≤ W'.heap.size) (g5 : x.l.kids.length ≤ k) (g6 : x.r.kids.length ≤ l) => impLitApply_any sa ss sc us ua uc x y z k l hi W' g0 g1 hp1 hp2 hq1 hq2 g2 g3 g4 hxl hxr hul2 g5 g6
        rw [← hX] at CS CJ
        have EX := fun (a1 a2 b1 b2 : Option Addr) (c1 c2 d1 d2 hi : Nat) (W' : World) (k1 : RdK W' hi a1 X.l.kids) (k2 : RdK W' hi a2 X.r.kids) (k3 : RdK W' hi b1 X.l.kids) (k4 : RdK W' hi b2 X.r.kids) (k5 : hi ≤ W'.heap.size) => eqLit_same X a1 a2 b1 b2 c1 c2 d1 d2 hi W' hXp.1 hXp.2 k1 k2 k3 k4 k5
        have EY := fun (a1 a2 b1 b2 : Option Addr) (c1 c2 d1 d2 hi : Nat) (W' : World) (k1 : RdK W' hi a1 x.l.kids) (k2 : RdK W' hi a2 x.r.kids) (k3 : RdK W' hi b1 x.l.kids) (k4 : RdK W' hi b2 x.r.kids) (k5 : hi ≤ W'.heap.size) => eqLit_same x a1 a2 b1 b2 c1 c2 d1 d2 hi W' hp1 hp2 k1 k2 k3 k4 k5
        have TB := fun (W' : World) (h : Below w.heap.size w W') => toBindS_any us ka kcap w.heap.size W' hpu (HKR.out.on h) h.size
        have TT := fun (W' : World) (h : Below w.heap.size w W') => toLit_any x a b c d w.heap.size W' hp1 hp2 (hx1.on h) (hx2.on h) h.size
        obtain ⟨mu, hmu⟩ : ∃ mu, mu = mkU us us.length := ⟨_, rfl⟩
        have hmul : (mu : Int) ≤ 3145728 := by have h1 := mkU_le us us.length; have h2 := hHs.out; omega
        have BM := fun (a1 : Option Addr) (c1 : Nat) (S : Nat → Prop) (W' : World) (h1 : OwnU W' S a1 us) => markBindS_any us a1 c1 (1 + 3 * (ss.length : Int)) S W' hpu (by omega) (by omega) h1
        have ML := fun (a1 a2 : Option Addr) (c1 c2 : Nat) (S1 S2 : Nat → Prop) (W' : World) (k1 : OwnS W' S1 a1 X.l.kids) (k2 : OwnS W' S2 a2 X.r.kids) (k3 : ∀ k, S1 k → k < W'.heap.size) (k4 : ∀ k, S2 k → k < W'.heap.size) (k5 : ∀ k, S1 k → ¬ S2 k) => markLit_any X a1 a2 c1 c2 1 S1 S2 W' hXp.1 hXp.2 (by omega) (by omega) k1 k2 k3 k4 k5
        have MY := fun (a1 a2 : Option Addr) (c1 c2 : Nat) (S1 S2 : Nat → Prop) (W' : World) (k1 : OwnS W' S1 a1 x.l.kids) (k2 : OwnS W' S2 a2 x.r.kids) (k3 : ∀ k, S1 k → k < W'.heap.size) (k4 : ∀ k, S2 k → k < W'.heap.size) (k5 : ∀ k, S1 k → ¬ S2 k) => markLit_any x a1 a2 c1 c2 (1 + 3 * (ss.length : Int) + (mu : Int)) S1 S2 W' hp1 hp2 (by omega) (by have := hHs.out; omega) k1 k2 k3 k4 k5
        have HL := fun (a1 a2 : Option Addr) (c1 c2 : Nat) (S1 S2 : Nat → Prop) (W' : World) (k1 : Mk W' S1 a1 X.l.kids 1) (k2 : Mk W' S2 a2 X.r.kids (1 + 2 * partsL X.l.kids)) (k3 : ∀ k, S1 k → k < W'.heap.size) (k4 : ∀ k, S2 k → k < W'.heap.size) => heldLit_any X a1 a2 c1 c2 1 S1 S2 W' hXp.1 hXp.2 (by omega) (by omega) k1 k2 k3 k4
        rw [← hmu] at BM
        unfold litV at EX EY ML MY HL
        have hnk : ¬ ((1 : Int) + 3 * (ss.length : Int) + (mu : Int) + 2 * (partsL x.l.kids : Int) + 2 * (partsL x.r.kids : Int) < 0) := by omega
        have hnm : ¬ ((1 : Int) + 2 * (partsL X.l.kids : Int) + 2 * (partsL X.r.kids : Int) < 0) := by omega
        clear hX hmu hpl hpr hq1 hq2
        go_upto_region 11 with (first
          | (go_at_call 5; refine SU.mono ?_; rintro e w2 ⟨rfl, hb⟩; have hB2 : Below W.heap.size W w2 := hB1.trans (hb.mono hB1.size); clear p0 p1 p2 p3 p4 p5 p6; have KA := C7.on HCX.out hB2; obtain ⟨p0, p1, p2, p3, p4, p5, p6⟩ := KA; clear SU hb hB1 hB1')
          | (go_at_call 6; refine (SX w2 (hB0.trans (hB2.mono hB0.size))).mono ?_; rintro e w3 ⟨rfl, hb⟩; have hB3 : Below W.heap.size W w3 := hB2.trans (hb.mono hB2.size); clear SX hb hB2; clear p0 p1 p2 p3 p4 p5 p6))
        have hBW : Below W.heap.size W w3 := hB3
        have hB3' : Below w.heap.size w w3 := hB0.trans (hB3.mono hB0.size)
        refine wp_region_keeps (by kernel_rfl) (rs := [0, 1, 2, 3, 4, 5, 6, 7, 8]) (fun L a' V => ∃ (s32 s33 s34 s35 s36 s37 s38 s8 : Value) (o : Nat → Nat), a' = ({ tmps := #[.slice a0 ss.length cap0, .slice ka us.length kcap, .agg #[.bool x.p, .int .i64 x.l.f, .int .i64 x.l.v, .slice a x.l.kids.length c, .int .i64 x.r.f, .int .i64 x.r.v, .slice b x.r.kids.length d], undef, undef, .pointer (some ⟨w.heap.size, 0, none⟩), .bool false, .int .i64 rr3, s8, undef, undef, undef, undef, undef, undef, undef, undef, .slice a0 ss.length cap0, .int .i64 1048576, .int .i64 r, .int .i64 r, .bool (decide (r < 0)), .slice ka us.length kcap, .int .i64 r, .int .i64 rr2, .int .i64 rr2, .bool (decide (rr2 < 0)), .agg #[.bool x.p, .int .i64 x.l.f, .int .i64 x.l.v, .slice a x.l.kids.length c, .int .i64 x.r.f, .int .i64 x.r.v, .slice b x.r.kids.length d], .int .i64 rr2, .int .i64 rr3, .int .i64 rr3, .bool (decide (rr3 < 0)), s32, s33, s34, s35, s36, s37, s38, undef, undef, undef, undef, undef, undef, undef, undef, undef, undef, undef, undef, undef, undef, undef, undef, undef, undef, undef, undef, undef, undef, undef, undef, undef, undef, undef, undef, undef, undef, undef, undef, undef, undef, undef, undef, undef, undef, undef, undef, undef, undef, undef, undef, undef, undef, undef, undef, undef, undef, undef, undef, undef, undef, undef, undef, undef, undef, undef, undef, undef, undef, undef, undef, undef, undef, undef, undef, undef, undef, undef, undef, undef, undef, undef, undef], defers := [] } : Act) ∧ (Dn L 0 → s32 = .slice a0 ss.length cap0) ∧ (Dn L 2 → s34 = .slice ka us.length kcap) ∧ (Dn L 4 → s36 = .agg #[.bool x.p, .int .i64 x.l.f, .int .i64 x.l.v, .slice a x.l.kids.length c, .int .i64 x.r.f, .int .i64 x.r.v, .slice b x.r.kids.length d]) ∧ LV w3 ss us x X L o V s33 s35 s37 s38 s8) (by kernel_rfl) (by kernel_rfl) ⟨_, _, _, _, _, _, _, _, fun _ => 0, rfl, fun h => absurd h dn_none, fun h => absurd h dn_none, fun h => absurd h dn_none, LV.start w3 _ _ _ _ _ _ _ _ _ _⟩ (fun L a' V hd h => ?_) ?_
        · obtain ⟨s32, s33, s34, s35, s36, s37, s38, s8, o, rfl, -, -, -, hM⟩ := h
          obtain ⟨Bw, aw, cw, bw, dw, rfl, HX⟩ := hM.fin (hd 6 (by decide)) (hd 8 (by decide))
          have H5 : Hid (LS W X Bw aw cw bw dw o V) := ⟨hM.tg.base hBW, HX⟩
          clear hM HX hd hB3 hB3' hBW
          have p0 := trivial; have p1 := trivial; have p2 := trivial; have p3 := trivial; have p4 := trivial; have p5 := trivial; have p6 := trivial; have r0 := trivial; have r1 := trivial; have r2 := trivial; have r3 := trivial; have r4 := trivial; have r5 := trivial; have r6 := trivial; have x0 := trivial; have x1 := trivial; have x2 := trivial; have x3 := trivial; have x4 := trivial; have x5 := trivial; have x6 := trivial; have g0 := trivial; have g1 := trivial; have g2 := trivial; have g3 := trivial; have g4 := trivial; have g5 := trivial; have g6 := trivial
          clear p0 p1 p2 p3 p4 p5 p6 r0 r1 r2 r3 r4 r5 r6 x0 x1 x2 x3 x4 x5 x6 g0 g1 g2 g3 g4 g5 g6; have KA := C7.on HCX.out H5.out.tg.bel; obtain ⟨p0, p1, p2, p3, p4, p5, p6⟩ := KA; have KR := H5.out.w.b.2; obtain ⟨r0, r1, r2, r3, r4, r5, r6⟩ := KR; have x0 := trivial; have x1 := trivial; have x2 := trivial; have x3 := trivial; have x4 := trivial; have x5 := trivial; have x6 := trivial; have g0 := trivial; have g1 := trivial; have g2 := trivial; have g3 := trivial; have g4 := trivial; have g5 := trivial; have g6 := trivial
          go_upto_region 22 with (first
            | (go_at_call 8; refine (toSyms_any a0 ss _ cap0 _ rfl (hr0.below (hB0.trans (Below.mono H5.out.tg.bel hB0.size))) hl).mono ?_; rintro e w7 ⟨rfl, ho7, hb⟩; obtain ⟨o7, L7⟩ := H5.out.sym hb ho7; have H7 : Hid _ := L7; clear H5 L7 hb ho7; clear p0 p1 p2 p3 p4 p5 p6 r0 r1 r2 r3 r4 r5 r6 x0 x1 x2 x3 x4 x5 x6 g0 g1 g2 g3 g4 g5 g6; have KA := C7.on HCX.out H7.out.q.tg.bel; obtain ⟨p0, p1, p2, p3, p4, p5, p6⟩ := KA; have KR := H7.out.q.w.b.2; obtain ⟨r0, r1, r2, r3, r4, r5, r6⟩ := KR; have x0 := trivial; have x1 := trivial; have x2 := trivial; have x3 := trivial; have x4 := trivial; have x5 := trivial; have x6 := trivial; have g0 := trivial; have g1 := trivial; have g2 := trivial; have g3 := trivial; have g4 := trivial; have g5 := trivial; have g6 := trivial)
            | (go_at_call 9; refine (TB _ (hB0.trans (Below.mono H7.out.q.tg.bel hB0.size))).mono ?_; rintro e w8 ⟨rfl, ho8, hb⟩; obtain ⟨o8, L8⟩ := H7.out.bind hb ho8; have H8 : Hid _ := L8; clear H7 L8 hb ho8; clear p0 p1 p2 p3 p4 p5 p6 r0 r1 r2 r3 r4 r5 r6 x0 x1 x2 x3 x4 x5 x6 g0 g1 g2 g3 g4 g5 g6; have KA := C7.on HCX.out H8.out.q.q.tg.bel; obtain ⟨p0, p1, p2, p3, p4, p5, p6⟩ := KA; have KR := H8.out.q.q.w.b.2; obtain ⟨r0, r1, r2, r3, r4, r5, r6⟩ := KR; have x0 := trivial; have x1 := trivial; have x2 := trivial; have x3 := trivial; have x4 := trivial; have x5 := trivial; have x6 := trivial; have g0 := trivial; have g1 := trivial; have g2 := trivial; have g3 := trivial; have g4 := trivial; have g5 := trivial; have g6 := trivial)
            | (go_at_call 10; refine (TT _ (hB0.trans (Below.mono H8.out.q.q.tg.bel hB0.size))).mono ?_; rintro e w9 ⟨ax, bx, m9, rfl, oo1, oo2, z1, z2, hb⟩; obtain ⟨o9, L9⟩ := H8.out.lit hb (ownX_lit oo1 oo2 z1 z2) 36; have H9 : Hid _ := L9; unfold litV; clear H8 L9 hb oo1 oo2 z1 z2; clear p0 p1 p2 p3 p4 p5 p6 r0 r1 r2 r3 r4 r5 r6 x0 x1 x2 x3 x4 x5 x6 g0 g1 g2 g3 g4 g5 g6; have KA := C7.on HCX.out H9.out.q.q.q.tg.bel; obtain ⟨p0, p1, p2, p3, p4, p5, p6⟩ := KA; have KR := H9.out.q.q.q.w.b.2; obtain ⟨r0, r1, r2, r3, r4, r5, r6⟩ := KR; have KX := H9.out.x.b.2; obtain ⟨x0, x1, x2, x3, x4, x5, x6⟩ := KX; have g0 := trivial; have g1 := trivial; have g2 := trivial; have g3 := trivial; have g4 := trivial; have g5 := trivial; have g6 := trivial)
            | (go_at_call 11; refine (CJ _ _ ax bx _ _ _ _ _ _ (RdS.own rfl H9.out.q.q.s.w) H9.out.q.u.rd H9.out.x.k1.rd H9.out.x.k2.rd (Nat.le_refl _) (Nat.le_refl _) (Nat.le_refl _)).mono ?_; rintro e w10 ⟨ag, cg, bg, dg, S1, S2, rfl, hX, hb⟩; obtain ⟨o10, L10⟩ := H9.out.lit hb hX 36; have H10 : Hid _ := L10; unfold litV; clear H9 L10 hb hX; clear p0 p1 p2 p3 p4 p5 p6 r0 r1 r2 r3 r4 r5 r6 x0 x1 x2 x3 x4 x5 x6 g0 g1 g2 g3 g4 g5 g6; have KA := C7.on HCX.out H10.out.q.q.q.q.tg.bel; obtain ⟨p0, p1, p2, p3, p4, p5, p6⟩ := KA; have KR := H10.out.q.q.q.q.w.b.2; obtain ⟨r0, r1, r2, r3, r4, r5, r6⟩ := KR; have KX := H10.out.q.x.b.2; obtain ⟨x0, x1, x2, x3, x4, x5, x6⟩ := KX; have KG := H10.out.g.b.2; obtain ⟨g0, g1, g2, g3, g4, g5, g6⟩ := KG)
            | (go_at_call 12; refine (EX ag bg aw bw _ _ _ _ _ _ H10.out.g.k1.rd H10.out.g.k2.rd H10.out.q.q.q.q.w.k1.rd H10.out.q.q.q.q.w.k2.rd (Nat.le_refl _)).mono ?_; rintro e w11 ⟨rfl, hb⟩; have H11 : Hid _ := H10.out.on hb; clear H10 hb; clear p0 p1 p2 p3 p4 p5 p6 r0 r1 r2 r3 r4 r5 r6 x0 x1 x2 x3 x4 x5 x6 g0 g1 g2 g3 g4 g5 g6; have KA := C7.on HCX.out H11.out.q.q.q.q.tg.bel; obtain ⟨p0, p1, p2, p3, p4, p5, p6⟩ := KA; have KR := H11.out.q.q.q.q.w.b.2; obtain ⟨r0, r1, r2, r3, r4, r5, r6⟩ := KR; have KX := H11.out.q.x.b.2; obtain ⟨x0, x1, x2, x3, x4, x5, x6⟩ := KX; have KG := H11.out.g.b.2; obtain ⟨g0, g1, g2, g3, g4, g5, g6⟩ := KG)
            | (go_at_call 8; refine (toSyms_any a0 ss _ cap0 _ rfl (hr0.below (hB0.trans (Below.mono H11.out.q.q.q.q.tg.bel hB0.size))) hl).mono ?_; rintro e w12 ⟨rfl, ho12, hb⟩; have hcs := RdS.own rfl ho12; have H12 : Hid _ := H11.out.on hb; clear H11 hb; clear ho12; clear p0 p1 p2 p3 p4 p5 p6 r0 r1 r2 r3 r4 r5 r6 x0 x1 x2 x3 x4 x5 x6 g0 g1 g2 g3 g4 g5 g6; have KA := C7.on HCX.out H12.out.q.q.q.q.tg.bel; obtain ⟨p0, p1, p2, p3, p4, p5, p6⟩ := KA; have KR := H12.out.q.q.q.q.w.b.2; obtain ⟨r0, r1, r2, r3, r4, r5, r6⟩ := KR; have KX := H12.out.q.x.b.2; obtain ⟨x0, x1, x2, x3, x4, x5, x6⟩ := KX; have KG := H12.out.g.b.2; obtain ⟨g0, g1, g2, g3, g4, g5, g6⟩ := KG)
            | (go_at_call 13; refine (eqSyms_same _ _ ss _ _ _ _ _ rfl rfl (RdS.own rfl H12.out.q.q.q.s.w) hcs hl).mono ?_; rintro e w13 ⟨rfl, hb⟩; have H13 : Hid _ := H12.out.on hb; clear H12 hb; clear hcs; clear p0 p1 p2 p3 p4 p5 p6 r0 r1 r2 r3 r4 r5 r6 x0 x1 x2 x3 x4 x5 x6 g0 g1 g2 g3 g4 g5 g6; have KA := C7.on HCX.out H13.out.q.q.q.q.tg.bel; obtain ⟨p0, p1, p2, p3, p4, p5, p6⟩ := KA; have KR := H13.out.q.q.q.q.w.b.2; obtain ⟨r0, r1, r2, r3, r4, r5, r6⟩ := KR; have KX := H13.out.q.x.b.2; obtain ⟨x0, x1, x2, x3, x4, x5, x6⟩ := KX; have KG := H13.out.g.b.2; obtain ⟨g0, g1, g2, g3, g4, g5, g6⟩ := KG)
            | (go_at_call 9; refine (TB _ (hB0.trans (Below.mono H13.out.q.q.q.q.tg.bel hB0.size))).mono ?_; rintro e w14 ⟨rfl, ho14, hb⟩; have hcu := ho14.rd; have H14 : Hid _ := H13.out.on hb; clear H13 hb; clear ho14; clear p0 p1 p2 p3 p4 p5 p6 r0 r1 r2 r3 r4 r5 r6 x0 x1 x2 x3 x4 x5 x6 g0 g1 g2 g3 g4 g5 g6; have KA := C7.on HCX.out H14.out.q.q.q.q.tg.bel; obtain ⟨p0, p1, p2, p3, p4, p5, p6⟩ := KA; have KR := H14.out.q.q.q.q.w.b.2; obtain ⟨r0, r1, r2, r3, r4, r5, r6⟩ := KR; have KX := H14.out.q.x.b.2; obtain ⟨x0, x1, x2, x3, x4, x5, x6⟩ := KX; have KG := H14.out.g.b.2; obtain ⟨g0, g1, g2, g3, g4, g5, g6⟩ := KG)
            | (go_at_call 14; refine (eqBindS_same us _ _ _ _ _ _ hpu H14.out.q.q.u.rd hcu (Nat.le_refl _)).mono ?_; rintro e w15 ⟨rfl, hb⟩; have H15 : Hid _ := H14.out.on hb; clear H14 hb; clear hcu; clear p0 p1 p2 p3 p4 p5 p6 r0 r1 r2 r3 r4 r5 r6 x0 x1 x2 x3 x4 x5 x6 g0 g1 g2 g3 g4 g5 g6; have KA := C7.on HCX.out H15.out.q.q.q.q.tg.bel; obtain ⟨p0, p1, p2, p3, p4, p5, p6⟩ := KA; have KR := H15.out.q.q.q.q.w.b.2; obtain ⟨r0, r1, r2, r3, r4, r5, r6⟩ := KR; have KX := H15.out.q.x.b.2; obtain ⟨x0, x1, x2, x3, x4, x5, x6⟩ := KX; have KG := H15.out.g.b.2; obtain ⟨g0, g1, g2, g3, g4, g5, g6⟩ := KG))
          go_region_held3 (fun w' => (w'.cell? ⟨w.heap.size, 0, none⟩ = some (.bool x.p) ∧ w'.cell? ⟨w.heap.size, 1, none⟩ = some (.int .i64 x.l.f) ∧ w'.cell? ⟨w.heap.size, 2, none⟩ = some (.int .i64 x.l.v) ∧ w'.cell? ⟨w.heap.size, 3, none⟩ = some (.slice a x.l.kids.length c) ∧ w'.cell? ⟨w.heap.size, 4, none⟩ = some (.int .i64 x.r.f) ∧ w'.cell? ⟨w.heap.size, 5, none⟩ = some (.int .i64 x.r.v) ∧ w'.cell? ⟨w.heap.size, 6, none⟩ = some (.slice b x.r.kids.length d)) ∧ w'.cell? ⟨w9.heap.size, 0, none⟩ = some (.bool x.p) ∧ w'.cell? ⟨w9.heap.size, 1, none⟩ = some (.int .i64 x.l.f) ∧ w'.cell? ⟨w9.heap.size, 2, none⟩ = some (.int .i64 x.l.v) ∧ w'.cell? ⟨w9.heap.size, 3, none⟩ = some (.slice ax x.l.kids.length x.l.kids.length) ∧ w'.cell? ⟨w9.heap.size, 4, none⟩ = some (.int .i64 x.r.f) ∧ w'.cell? ⟨w9.heap.size, 5, none⟩ = some (.int .i64 x.r.v) ∧ w'.cell? ⟨w9.heap.size, 6, none⟩ = some (.slice bx x.r.kids.length x.r.kids.length)) (first | go_keep | exact ⟨⟨p0, p1, p2, p3, p4, p5, p6⟩, x0, x1, x2, x3, x4, x5, x6⟩)
            (first
              | (go_at_call 10; refine (TT _ ?_).mono ?_; exact (hB0.trans (Below.mono H15.out.q.q.q.q.tg.bel hB0.size)).drew; rintro e w16 ⟨zx, zy, m16, rfl, oo1, oo2, z1, z2, hb0⟩; have hb : Below w15.heap.size w15 w16 := (Below.refl _ _).drew.trans hb0; have H16 : Hid _ := H15.out.on hb; clear H15 hb; have j1 := oo1.rd; have j2 := oo2.rd; clear hb0 oo1 oo2 z1 z2; unfold litV; clear p0 p1 p2 p3 p4 p5 p6 r0 r1 r2 r3 r4 r5 r6 x0 x1 x2 x3 x4 x5 x6 g0 g1 g2 g3 g4 g5 g6; have KA := C7.on HCX.out H16.out.q.q.q.q.tg.bel; obtain ⟨p0, p1, p2, p3, p4, p5, p6⟩ := KA; have KR := H16.out.q.q.q.q.w.b.2; obtain ⟨r0, r1, r2, r3, r4, r5, r6⟩ := KR; have KX := H16.out.q.x.b.2; obtain ⟨x0, x1, x2, x3, x4, x5, x6⟩ := KX; have KG := H16.out.g.b.2; obtain ⟨g0, g1, g2, g3, g4, g5, g6⟩ := KG)
              | (go_at_call 12; refine (EY ax bx zx zy _ _ _ _ w16.heap.size _ ?_ ?_ ?_ ?_ ?_).mono ?_; exact H16.out.q.x.k1.rd; exact H16.out.q.x.k2.rd; exact j1; exact j2; exact Nat.le_refl _; rintro e w17 ⟨rfl, hb⟩; have H17 : Hid _ := H16.out.on hb; clear H16 hb; clear j1 j2; clear p0 p1 p2 p3 p4 p5 p6 r0 r1 r2 r3 r4 r5 r6 x0 x1 x2 x3 x4 x5 x6 g0 g1 g2 g3 g4 g5 g6; have KA := C7.on HCX.out H17.out.q.q.q.q.tg.bel; obtain ⟨p0, p1, p2, p3, p4, p5, p6⟩ := KA; have KR := H17.out.q.q.q.q.w.b.2; obtain ⟨r0, r1, r2, r3, r4, r5, r6⟩ := KR; have KX := H17.out.q.x.b.2; obtain ⟨x0, x1, x2, x3, x4, x5, x6⟩ := KX; have KG := H17.out.g.b.2; obtain ⟨g0, g1, g2, g3, g4, g5, g6⟩ := KG))
          go_upto_region 38 with (first
            | (go_at_call 15; refine (markSyms_any _ _ ss.length ss.length _ 1 _ H17.out.q.q.q.s.w hl (by omega)).mono ?_; rintro e w18 ⟨rfl, hs⟩; have H18 : Hid _ := H17.out.m1 hs; clear H17 hs; clear p0 p1 p2 p3 p4 p5 p6 r0 r1 r2 r3 r4 r5 r6 x0 x1 x2 x3 x4 x5 x6 g0 g1 g2 g3 g4 g5 g6; have KA := C7.on HCX.out H18.out.q.tg.bel; obtain ⟨p0, p1, p2, p3, p4, p5, p6⟩ := KA; have KR := H18.out.q.w.b.2; obtain ⟨r0, r1, r2, r3, r4, r5, r6⟩ := KR; have KX := H18.out.x.b.2; obtain ⟨x0, x1, x2, x3, x4, x5, x6⟩ := KX; have KG := H18.out.g.b.2; obtain ⟨g0, g1, g2, g3, g4, g5, g6⟩ := KG)
            | (go_at_call 16; refine (BM _ _ _ _ H18.out.u).mono ?_; rintro e w19 ⟨rfl, hon⟩; have H19 : Hid _ := H18.out.m2 hon; clear H18 hon; clear p0 p1 p2 p3 p4 p5 p6 r0 r1 r2 r3 r4 r5 r6 x0 x1 x2 x3 x4 x5 x6 g0 g1 g2 g3 g4 g5 g6; have KA := C7.on HCX.out H19.out.q.tg.bel; obtain ⟨p0, p1, p2, p3, p4, p5, p6⟩ := KA; have KR := H19.out.q.w.b.2; obtain ⟨r0, r1, r2, r3, r4, r5, r6⟩ := KR; have KX := H19.out.x.b.2; obtain ⟨x0, x1, x2, x3, x4, x5, x6⟩ := KX; have KG := H19.out.g.b.2; obtain ⟨g0, g1, g2, g3, g4, g5, g6⟩ := KG)
            | (go_at_call_of 17 ax; refine (MY ax bx _ _ _ _ _ H19.out.x.k1 H19.out.x.k2 (fun k hk => (H19.out.q.tg.own k (by have e : _ = 16 := hk; omega)).2) (fun k hk => (H19.out.q.tg.own k (by have e : _ = 17 := hk; omega)).2) (fun k h1 h2 => by have e1 : _ = 16 := h1; have e2 : _ = 17 := h2; omega)).mono ?_; rintro e w20 ⟨rfl, hm1, hm2, hst⟩; have H20 : Hid _ := H19.out.m3 hst; clear H19 hm1 hm2 hst; clear p0 p1 p2 p3 p4 p5 p6 r0 r1 r2 r3 r4 r5 r6 x0 x1 x2 x3 x4 x5 x6 g0 g1 g2 g3 g4 g5 g6; have KA := C7.on HCX.out H20.out.q.tg.bel; obtain ⟨p0, p1, p2, p3, p4, p5, p6⟩ := KA; have KR := H20.out.q.w.b.2; obtain ⟨r0, r1, r2, r3, r4, r5, r6⟩ := KR; have x0 := trivial; have x1 := trivial; have x2 := trivial; have x3 := trivial; have x4 := trivial; have x5 := trivial; have x6 := trivial; have KG := H20.out.g.b.2; obtain ⟨g0, g1, g2, g3, g4, g5, g6⟩ := KG)
            | (go_at_call 12; refine (EX ag bg aw bw _ _ _ _ _ _ H20.out.g.k1.rd H20.out.g.k2.rd H20.out.q.w.k1.rd H20.out.q.w.k2.rd (Nat.le_refl _)).mono ?_; rintro e w21 ⟨rfl, hb⟩; have H21 : Hid _ := H20.out.on hb; clear H20 hb; clear p0 p1 p2 p3 p4 p5 p6 r0 r1 r2 r3 r4 r5 r6 x0 x1 x2 x3 x4 x5 x6 g0 g1 g2 g3 g4 g5 g6; have KA := C7.on HCX.out H21.out.q.tg.bel; obtain ⟨p0, p1, p2, p3, p4, p5, p6⟩ := KA; have KR := H21.out.q.w.b.2; obtain ⟨r0, r1, r2, r3, r4, r5, r6⟩ := KR; have x0 := trivial; have x1 := trivial; have x2 := trivial; have x3 := trivial; have x4 := trivial; have x5 := trivial; have x6 := trivial; have KG := H21.out.g.b.2; obtain ⟨g0, g1, g2, g3, g4, g5, g6⟩ := KG)
            | (go_at_call_of 17 ag; refine (ML ag bg _ _ _ _ _ H21.out.g.k1 H21.out.g.k2 (fun k hk => (H21.out.q.tg.own k (by have e : _ = 19 := hk; omega)).2) (fun k hk => (H21.out.q.tg.own k (by have e : _ = 20 := hk; omega)).2) (fun k h1 h2 => by have e1 : _ = 19 := h1; have e2 : _ = 20 := h2; omega)).mono ?_; rintro e w22 ⟨rfl, hm1, hm2, hst⟩; have H22 : Hid _ := H21.out.m4 hst hm1 hm2; clear H21 hm1 hm2 hst; clear p0 p1 p2 p3 p4 p5 p6 r0 r1 r2 r3 r4 r5 r6 x0 x1 x2 x3 x4 x5 x6 g0 g1 g2 g3 g4 g5 g6; have KA := C7.on HCX.out H22.out.q.tg.bel; obtain ⟨p0, p1, p2, p3, p4, p5, p6⟩ := KA; have KR := H22.out.q.w.b.2; obtain ⟨r0, r1, r2, r3, r4, r5, r6⟩ := KR; have x0 := trivial; have x1 := trivial; have x2 := trivial; have x3 := trivial; have x4 := trivial; have x5 := trivial; have x6 := trivial; have KG := H22.out.g.2; obtain ⟨g0, g1, g2, g3, g4, g5, g6⟩ := KG)
            | (go_at_call 18; refine (HL ag bg _ _ _ _ _ H22.out.m1 H22.out.m2 (fun k hk => (H22.out.q.tg.own k (by have e : _ = 19 := hk; omega)).2) (fun k hk => (H22.out.q.tg.own k (by have e : _ = 20 := hk; omega)).2)).mono ?_; rintro e w23 ⟨rfl, hb⟩; have H23 : Hid _ := H22.out.on hb; clear H22 hb; clear p0 p1 p2 p3 p4 p5 p6 r0 r1 r2 r3 r4 r5 r6 x0 x1 x2 x3 x4 x5 x6 g0 g1 g2 g3 g4 g5 g6; have KA := C7.on HCX.out H23.out.q.tg.bel; obtain ⟨p0, p1, p2, p3, p4, p5, p6⟩ := KA; have KR := H23.out.q.w.b.2; obtain ⟨r0, r1, r2, r3, r4, r5, r6⟩ := KR; have x0 := trivial; have x1 := trivial; have x2 := trivial; have x3 := trivial; have x4 := trivial; have x5 := trivial; have x6 := trivial; have KG := H23.out.g.2; obtain ⟨g0, g1, g2, g3, g4, g5, g6⟩ := KG))
          have hB23 : Below W.heap.size W w23 := H23.out.q.tg.bel
          have hB23' : Below w.heap.size w w23 := hB0.trans (hB23.mono hB0.size)
          have hBW := hB23
          refine wp_region_keeps (by kernel_rfl) (rs := [0, 1, 2, 3, 4, 5, 6, 7, 8]) (fun L a' Z => ∃ (s96 s97 s98 s99 s100 s101 s102 s16 : Value) (o : Nat → Nat), a' = ({ tmps := #[.slice a0 ss.length cap0, .slice ka us.length kcap, .agg #[.bool x.p, .int .i64 x.l.f, .int .i64 x.l.v, .slice a x.l.kids.length c, .int .i64 x.r.f, .int .i64 x.r.v, .slice b x.r.kids.length d], undef, undef, .pointer (some ⟨w.heap.size, 0, none⟩), .bool false, .int .i64 rr3, .pointer (some ⟨Bw, 0, none⟩), .slice (some ⟨V.heap.size, 0, none⟩) ss.length ss.length, .slice (some ⟨w7.heap.size, 0, none⟩) us.length us.length, .pointer (some ⟨w9.heap.size, 0, none⟩), .pointer (some ⟨w10.heap.size, 0, none⟩), .int .i64 (1 + 3 * (ss.length : Int) + (mu : Int) + 2 * ((partsL x.l.kids : Nat) : Int) + 2 * ((partsL x.r.kids : Nat) : Int)), .int .i64 (1 + 2 * ((partsL X.l.kids : Nat) : Int) + 2 * ((partsL X.r.kids : Nat) : Int)), .int .i64 (1 + 2 * ((partsL X.l.kids : Nat) : Int) + 2 * ((partsL X.r.kids : Nat) : Int)), s16, .slice a0 ss.length cap0, .int .i64 1048576, .int .i64 r, .int .i64 r, .bool (decide (r < 0)), .slice ka us.length kcap, .int .i64 r, .int .i64 rr2, .int .i64 rr2, .bool (decide (rr2 < 0)), .agg #[.bool x.p, .int .i64 x.l.f, .int .i64 x.l.v, .slice a x.l.kids.length c, .int .i64 x.r.f, .int .i64 x.r.v, .slice b x.r.kids.length d], .int .i64 rr2, .int .i64 rr3, .int .i64 rr3, .bool (decide (rr3 < 0)), s32, s33, s34, s35, s36, s37, s38, .slice a0 ss.length cap0, .slice (some ⟨V.heap.size, 0, none⟩) ss.length ss.length, .slice ka us.length kcap, .slice (some ⟨w7.heap.size, 0, none⟩) us.length us.length, .agg #[.bool x.p, .int .i64 x.l.f, .int .i64 x.l.v, .slice a x.l.kids.length c, .int .i64 x.r.f, .int .i64 x.r.v, .slice b x.r.kids.length d], .agg #[.bool x.p, .int .i64 x.l.f, .int .i64 x.l.v, .slice ax x.l.kids.length x.l.kids.length, .int .i64 x.r.f, .int .i64 x.r.v, .slice bx x.r.kids.length x.r.kids.length], .slice (some ⟨V.heap.size, 0, none⟩) ss.length ss.length, .slice (some ⟨w7.heap.size, 0, none⟩) us.length us.length, .agg #[.bool x.p, .int .i64 x.l.f, .int .i64 x.l.v, .slice ax x.l.kids.length x.l.kids.length, .int .i64 x.r.f, .int .i64 x.r.v, .slice bx x.r.kids.length x.r.kids.length], .agg #[.bool X.p, .int .i64 X.l.f, .int .i64 X.l.v, .slice ag X.l.kids.length cg, .int .i64 X.r.f, .int .i64 X.r.v, .slice bg X.r.kids.length dg], .agg #[.bool X.p, .int .i64 X.l.f, .int .i64 X.l.v, .slice ag X.l.kids.length cg, .int .i64 X.r.f, .int .i64 X.r.v, .slice bg X.r.kids.length dg], .agg #[.bool X.p, .int .i64 X.l.f, .int .i64 X.l.v, .slice aw X.l.kids.length cw, .int .i64 X.r.f, .int .i64 X.r.v, .slice bw X.r.kids.length dw], .bool true, .bool false, .slice (some ⟨V.heap.size, 0, none⟩) ss.length ss.length, .slice a0 ss.length cap0, .slice (some ⟨w11.heap.size, 0, none⟩) ss.length ss.length, .bool true, .bool false, .slice (some ⟨w7.heap.size, 0, none⟩) us.length us.length, .slice ka us.length kcap, .slice (some ⟨w13.heap.size, 0, none⟩) us.length us.length, .bool true, .bool false, .agg #[.bool x.p, .int .i64 x.l.f, .int .i64 x.l.v, .slice ax x.l.kids.length x.l.kids.length, .int .i64 x.r.f, .int .i64 x.r.v, .slice bx x.r.kids.length x.r.kids.length], .agg #[.bool x.p, .int .i64 x.l.f, .int .i64 x.l.v, .slice a x.l.kids.length c, .int .i64 x.r.f, .int .i64 x.r.v, .slice b x.r.kids.length d], .agg #[.bool x.p, .int .i64 x.l.f, .int .i64 x.l.v, .slice zx x.l.kids.length x.l.kids.length, .int .i64 x.r.f, .int .i64 x.r.v, .slice zy x.r.kids.length x.r.kids.length], .bool true, .bool false, .slice (some ⟨V.heap.size, 0, none⟩) ss.length ss.length, .int .i64 1, .int .i64 (1 + 3 * (ss.length : Int)), .slice (some ⟨w7.heap.size, 0, none⟩) us.length us.length, .int .i64 (1 + 3 * (ss.length : Int)), .int .i64 (1 + 3 * (ss.length : Int) + (mu : Int)), .agg #[.bool x.p, .int .i64 x.l.f, .int .i64 x.l.v, .slice ax x.l.kids.length x.l.kids.length, .int .i64 x.r.f, .int .i64 x.r.v, .slice bx x.r.kids.length x.r.kids.length], .int .i64 (1 + 3 * (ss.length : Int) + (mu : Int)), .int .i64 (1 + 3 * (ss.length : Int) + (mu : Int) + 2 * ((partsL x.l.kids : Nat) : Int) + 2 * ((partsL x.r.kids : Nat) : Int)), .int .i64 (1 + 3 * (ss.length : Int) + (mu : Int) + 2 * ((partsL x.l.kids : Nat) : Int) + 2 * ((partsL x.r.kids : Nat) : Int)), .bool (decide (1 + 3 * (ss.length : Int) + (mu : Int) + 2 * ((partsL x.l.kids : Nat) : Int) + 2 * ((partsL x.r.kids : Nat) : Int) < 0)), .bool (decide (1 + 3 * (ss.length : Int) + (mu : Int) + 2 * ((partsL x.l.kids : Nat) : Int) + 2 * ((partsL x.r.kids : Nat) : Int) < 0)), .agg #[.bool X.p, .int .i64 X.l.f, .int .i64 X.l.v, .slice ag X.l.kids.length cg, .int .i64 X.r.f, .int .i64 X.r.v, .slice bg X.r.kids.length dg], .agg #[.bool X.p, .int .i64 X.l.f, .int .i64 X.l.v, .slice aw X.l.kids.length cw, .int .i64 X.r.f, .int .i64 X.r.v, .slice bw X.r.kids.length dw], .bool true, .bool false, .bool (decide (1 + 3 * (ss.length : Int) + (mu : Int) + 2 * ((partsL x.l.kids : Nat) : Int) + 2 * ((partsL x.r.kids : Nat) : Int) < 0)), .agg #[.bool X.p, .int .i64 X.l.f, .int .i64 X.l.v, .slice ag X.l.kids.length cg, .int .i64 X.r.f, .int .i64 X.r.v, .slice bg X.r.kids.length dg], .int .i64 1, .int .i64 (1 + 2 * ((partsL X.l.kids : Nat) : Int) + 2 * ((partsL X.r.kids : Nat) : Int)), .agg #[.bool X.p, .int .i64 X.l.f, .int .i64 X.l.v, .slice ag X.l.kids.length cg, .int .i64 X.r.f, .int .i64 X.r.v, .slice bg X.r.kids.length dg], .int .i64 1, .int .i64 (1 + 2 * ((partsL X.l.kids : Nat) : Int) + 2 * ((partsL X.r.kids : Nat) : Int)), .int .i64 (1 + 2 * ((partsL X.l.kids : Nat) : Int) + 2 * ((partsL X.r.kids : Nat) : Int)), .bool (decide (1 + 2 * ((partsL X.l.kids : Nat) : Int) + 2 * ((partsL X.r.kids : Nat) : Int) < 0)), .int .i64 (1 + 2 * ((partsL X.l.kids : Nat) : Int) + 2 * ((partsL X.r.kids : Nat) : Int)), .int .i64 (1 + 2 * ((partsL X.l.kids : Nat) : Int) + 2 * ((partsL X.r.kids : Nat) : Int)), .bool false, s96, s97, s98, s99, s100, s101, s102, undef, undef, undef, undef, undef, undef, undef, undef, undef, undef, undef, undef], defers := [] } : Act) ∧ (Dn L 0 → s96 = .slice a0 ss.length cap0) ∧ (Dn L 2 → s98 = .slice ka us.length kcap) ∧ (Dn L 4 → s100 = .agg #[.bool x.p, .int .i64 x.l.f, .int .i64 x.l.v, .slice a x.l.kids.length c, .int .i64 x.r.f, .int .i64 x.r.v, .slice b x.r.kids.length d]) ∧ LV w23 ss us x X L o Z s97 s99 s101 s102 s16) (by kernel_rfl) (by kernel_rfl) ⟨_, _, _, _, _, _, _, _, fun _ => 0, rfl, fun h => absurd h dn_none, fun h => absurd h dn_none, fun h => absurd h dn_none, LV.start w23 _ _ _ _ _ _ _ _ _ _⟩ (fun L a' Z hd h => ?_) ?_
          · obtain ⟨s96, s97, s98, s99, s100, s101, s102, s16, o, rfl, -, -, -, hM⟩ := h
            obtain ⟨Bh, ah, ch, bh, dh, rfl, HX⟩ := hM.fin (hd 6 (by decide)) (hd 8 (by decide))
            have H24 : Hid _ := H23.out.on hM.tg.bel
            have HK : Hid (RdK Z Z.heap.size ah X.l.kids ∧ RdK Z Z.heap.size bh X.r.kids) := ⟨HX.k1.rd, HX.k2.rd⟩
            have KH := HX.b.2
            obtain ⟨k0, k1, k2, k3, k4, k5, k6⟩ := KH
            clear hM hd HX H23 hB23 hB23' hBW
            clear p0 p1 p2 p3 p4 p5 p6 r0 r1 r2 r3 r4 r5 r6 x0 x1 x2 x3 x4 x5 x6 g0 g1 g2 g3 g4 g5 g6; have KA := C7.on HCX.out H24.out.q.tg.bel; obtain ⟨p0, p1, p2, p3, p4, p5, p6⟩ := KA; have KR := H24.out.q.w.b.2; obtain ⟨r0, r1, r2, r3, r4, r5, r6⟩ := KR; have x0 := trivial; have x1 := trivial; have x2 := trivial; have x3 := trivial; have x4 := trivial; have x5 := trivial; have x6 := trivial; have KG := H24.out.g.2; obtain ⟨g0, g1, g2, g3, g4, g5, g6⟩ := KG
            go_wp2_with (first
              | (go_at_call 12; refine (EX ah bh aw bw _ _ _ _ _ _ HK.out.1 HK.out.2 H24.out.q.w.k1.rd H24.out.q.w.k2.rd (Nat.le_refl _)).mono ?_; rintro e w25 ⟨rfl, hb⟩; have H25 : Hid _ := H24.out.on hb; clear H24 hb; clear k0 k1 k2 k3 k4 k5 k6 HK; clear p0 p1 p2 p3 p4 p5 p6 r0 r1 r2 r3 r4 r5 r6 x0 x1 x2 x3 x4 x5 x6 g0 g1 g2 g3 g4 g5 g6; have KA := C7.on HCX.out H25.out.q.tg.bel; obtain ⟨p0, p1, p2, p3, p4, p5, p6⟩ := KA; have KR := H25.out.q.w.b.2; obtain ⟨r0, r1, r2, r3, r4, r5, r6⟩ := KR; have x0 := trivial; have x1 := trivial; have x2 := trivial; have x3 := trivial; have x4 := trivial; have x5 := trivial; have x6 := trivial; have KG := H25.out.g.2; obtain ⟨g0, g1, g2, g3, g4, g5, g6⟩ := KG)
              | (go_at_call 18; refine (HL ag bg _ _ _ _ _ H25.out.m1 H25.out.m2 (fun k hk => (H25.out.q.tg.own k (by have e : _ = 19 := hk; omega)).2) (fun k hk => (H25.out.q.tg.own k (by have e : _ = 20 := hk; omega)).2)).mono ?_; rintro e w26 ⟨rfl, hb⟩; have H26 : Hid _ := H25.out.on hb; clear H25 hb))
            go_ret
            exact ⟨rfl, (hB0.trans (Below.mono H26.out.q.tg.bel hB0.size))⟩
          refine KeepAll.cons (ds := []) rfl (by kernel_rfl) (fun L a' Z K hK hL hcl hn hd hI => ?_) ?_
          · obtain ⟨s96, s97, s98, s99, s100, s101, s102, s16, o, rfl, h0, h2, h4, hM⟩ := hI
            go_simp
            exact hK _ _ ⟨_, _, _, _, _, _, _, _, o, rfl, (by first | exact fun _ => rfl | exact fun q => h0 (((dn_set hL).1 q).resolve_left (by decide))), (by first | exact fun _ => rfl | exact fun q => h2 (((dn_set hL).1 q).resolve_left (by decide))), (by first | exact fun _ => rfl | exact fun q => h4 (((dn_set hL).1 q).resolve_left (by decide))), hM.pure hL ⟨by decide, by decide, by decide, by decide, by decide, by decide⟩⟩
          refine KeepAll.cons (ds := [0]) rfl (by kernel_rfl) (fun L a' Z K hK hL hcl hn hd hI => ?_) ?_
          · obtain ⟨s96, s97, s98, s99, s100, s101, s102, s16, o, rfl, h0, h2, h4, hM⟩ := hI
            obtain rfl := h0 (hd 0 (by simp))
            go_simp
            refine (toSyms_any a0 ss _ cap0 Z rfl (hr0.below (hB23'.trans (hM.tg.bel.mono hB23'.size))) hl).mono ?_
            rintro e V2 ⟨rfl, ho, hb⟩
            exact hK _ _ ⟨_, _, _, _, _, _, _, _, o, rfl, (by first | exact fun _ => rfl | exact fun q => h0 (((dn_set hL).1 q).resolve_left (by decide))), (by first | exact fun _ => rfl | exact fun q => h2 (((dn_set hL).1 q).resolve_left (by decide))), (by first | exact fun _ => rfl | exact fun q => h4 (((dn_set hL).1 q).resolve_left (by decide))), hM.sym hL hb ho⟩
          refine KeepAll.cons (ds := []) rfl (by kernel_rfl) (fun L a' Z K hK hL hcl hn hd hI => ?_) ?_
          · obtain ⟨s96, s97, s98, s99, s100, s101, s102, s16, o, rfl, h0, h2, h4, hM⟩ := hI
            go_simp
            exact hK _ _ ⟨_, _, _, _, _, _, _, _, o, rfl, (by first | exact fun _ => rfl | exact fun q => h0 (((dn_set hL).1 q).resolve_left (by decide))), (by first | exact fun _ => rfl | exact fun q => h2 (((dn_set hL).1 q).resolve_left (by decide))), (by first | exact fun _ => rfl | exact fun q => h4 (((dn_set hL).1 q).resolve_left (by decide))), hM.pure hL ⟨by decide, by decide, by decide, by decide, by decide, by decide⟩⟩
          refine KeepAll.cons (ds := [2, 1]) rfl (by kernel_rfl) (fun L a' Z K hK hL hcl hn hd hI => ?_) ?_
          · obtain ⟨s96, s97, s98, s99, s100, s101, s102, s16, o, rfl, h0, h2, h4, hM⟩ := hI
            obtain rfl := h2 (hd 2 (by simp))
            go_simp
            refine (TB Z (hB23'.trans (hM.tg.bel.mono hB23'.size))).mono ?_
            rintro e V2 ⟨rfl, ho, hb⟩
            exact hK _ _ ⟨_, _, _, _, _, _, _, _, o, rfl, (by first | exact fun _ => rfl | exact fun q => h0 (((dn_set hL).1 q).resolve_left (by decide))), (by first | exact fun _ => rfl | exact fun q => h2 (((dn_set hL).1 q).resolve_left (by decide))), (by first | exact fun _ => rfl | exact fun q => h4 (((dn_set hL).1 q).resolve_left (by decide))), hM.bind hL hb ho.rd⟩
          refine KeepAll.cons (ds := []) rfl (by kernel_rfl) (fun L a' Z K hK hL hcl hn hd hI => ?_) ?_
          · obtain ⟨s96, s97, s98, s99, s100, s101, s102, s16, o, rfl, h0, h2, h4, hM⟩ := hI
            have KC := C7.on HCX.out (hBW.trans (hM.tg.bel.mono hBW.size))
            obtain ⟨k0, k1, k2, k3, k4, k5, k6⟩ := KC
            go_simp
            exact hK _ _ ⟨_, _, _, _, _, _, _, _, o, rfl, (by first | exact fun _ => rfl | exact fun q => h0 (((dn_set hL).1 q).resolve_left (by decide))), (by first | exact fun _ => rfl | exact fun q => h2 (((dn_set hL).1 q).resolve_left (by decide))), (by first | exact fun _ => rfl | exact fun q => h4 (((dn_set hL).1 q).resolve_left (by decide))), hM.pure hL ⟨by decide, by decide, by decide, by decide, by decide, by decide⟩⟩
          refine KeepAll.cons (ds := [4, 3]) rfl (by kernel_rfl) (fun L a' Z K hK hL hcl hn hd hI => ?_) ?_
          · obtain ⟨s96, s97, s98, s99, s100, s101, s102, s16, o, rfl, h0, h2, h4, hM⟩ := hI
            obtain rfl := h4 (hd 4 (by simp))
            go_simp
            refine (TT Z (hB23'.trans (hM.tg.bel.mono hB23'.size))).mono ?_
            rintro e V2 ⟨y, z, m, rfl, o1, o2, z1, z2, hb⟩
            exact hK _ _ ⟨_, _, _, _, _, _, _, _, o, rfl, (by first | exact fun _ => rfl | exact fun q => h0 (((dn_set hL).1 q).resolve_left (by decide))), (by first | exact fun _ => rfl | exact fun q => h2 (((dn_set hL).1 q).resolve_left (by decide))), (by first | exact fun _ => rfl | exact fun q => h4 (((dn_set hL).1 q).resolve_left (by decide))), hM.lit hL hb o1.rd o2.rd⟩
          refine KeepAll.cons (ds := [1, 3, 5, 5]) rfl (by kernel_rfl) (fun L a' Z K hK hL hcl hn hd hI => ?_) ?_
          · obtain ⟨s96, s97, s98, s99, s100, s101, s102, s16, o, rfl, h0, h2, h4, hM⟩ := hI
            have n8 : ¬ Dn L 8 := (fun q => hn (hcl 8 _ rfl q 6 (by decide)))
            obtain ⟨G, rfl, hg⟩ := hM.c1 (hd 1 (by simp)) n8
            obtain ⟨G2, rfl, hg2⟩ := hM.c3 (hd 3 (by simp)) n8
            obtain ⟨y, z, rfl, hy, hz⟩ := hM.c5 (hd 5 (by simp)) n8
            go_simp
            refine (CJ _ _ y z _ _ _ _ _ Z hg hg2 hy hz (Nat.le_refl _) (Nat.le_refl _) (Nat.le_refl _)).mono ?_
            rintro e V2 ⟨a1, c1, a2, c2, S1, S2, rfl, hX, hb⟩
            obtain ⟨o2, hM2⟩ := hM.call hL n8 hb hX
            exact hK _ _ ⟨_, _, _, _, _, _, _, _, o2, rfl, (by first | exact fun _ => rfl | exact fun q => h0 (((dn_set hL).1 q).resolve_left (by decide))), (by first | exact fun _ => rfl | exact fun q => h2 (((dn_set hL).1 q).resolve_left (by decide))), (by first | exact fun _ => rfl | exact fun q => h4 (((dn_set hL).1 q).resolve_left (by decide))), hM2⟩
          refine KeepAll.cons (ds := []) rfl (by kernel_rfl) (fun L a' Z K hK hL hcl hn hd hI => ?_) ?_
          · obtain ⟨s96, s97, s98, s99, s100, s101, s102, s16, o, rfl, h0, h2, h4, hM⟩ := hI
            have n8 : ¬ Dn L 8 := (fun q => hn (hcl 8 _ rfl q 7 (by decide)))
            go_simp
            obtain ⟨o2, hM2⟩ := hM.box hL n8 36
            exact hK _ _ ⟨_, _, _, _, _, _, _, _, o2, rfl, (by first | exact fun _ => rfl | exact fun q => h0 (((dn_set hL).1 q).resolve_left (by decide))), (by first | exact fun _ => rfl | exact fun q => h2 (((dn_set hL).1 q).resolve_left (by decide))), (by first | exact fun _ => rfl | exact fun q => h4 (((dn_set hL).1 q).resolve_left (by decide))), hM2⟩
          refine KeepAll.cons (ds := [7, 6, 6, 0, 1, 2, 3, 4, 5, 6, 7]) rfl (by kernel_rfl) (fun L a' Z K hK hL hcl hn hd hI => ?_) ?_
          · obtain ⟨s96, s97, s98, s99, s100, s101, s102, s16, o, rfl, h0, h2, h4, hM⟩ := hI
            obtain ⟨a1, c1, a2, c2, rfl, hq⟩ := hM.c6 (hd 6 (by simp))
            obtain ⟨B, rfl, hob, hR⟩ := hM.z7 (hd 7 (by simp)) hn
            obtain ⟨u0, u1, u2, u3, u4, u5, u6, uf⟩ := hR
            have f0 := uf 0
            have f1 := uf 1
            have f2 := uf 2
            have f3 := uf 3
            have f4 := uf 4
            have f5 := uf 5
            have f6 := uf 6
            have HR : R7 Z B := ⟨u0, u1, u2, u3, u4, u5, u6, uf⟩
            clear uf hq
            have hM2 := hM.put hL hob HR
            unfold litV at hM2 ⊢
            go_simp
            exact hK _ _ ⟨_, _, _, _, _, _, _, _, o, rfl, (by first | exact fun _ => rfl | exact fun q => h0 (((dn_set hL).1 q).resolve_left (by decide))), (by first | exact fun _ => rfl | exact fun q => h2 (((dn_set hL).1 q).resolve_left (by decide))), (by first | exact fun _ => rfl | exact fun q => h4 (((dn_set hL).1 q).resolve_left (by decide))), hM2⟩
          exact KeepAll.nil
        refine KeepAll.cons (ds := []) rfl (by kernel_rfl) (fun L a' V K hK hL hcl hn hd hI => ?_) ?_
        · obtain ⟨s32, s33, s34, s35, s36, s37, s38, s8, o, rfl, h0, h2, h4, hM⟩ := hI
          go_simp
          exact hK _ _ ⟨_, _, _, _, _, _, _, _, o, rfl, (by first | exact fun _ => rfl | exact fun q => h0 (((dn_set hL).1 q).resolve_left (by decide))), (by first | exact fun _ => rfl | exact fun q => h2 (((dn_set hL).1 q).resolve_left (by decide))), (by first | exact fun _ => rfl | exact fun q => h4 (((dn_set hL).1 q).resolve_left (by decide))), hM.pure hL ⟨by decide, by decide, by decide, by decide, by decide, by decide⟩⟩
        refine KeepAll.cons (ds := [0]) rfl (by kernel_rfl) (fun L a' V K hK hL hcl hn hd hI => ?_) ?_
        · obtain ⟨s32, s33, s34, s35, s36, s37, s38, s8, o, rfl, h0, h2, h4, hM⟩ := hI
          obtain rfl := h0 (hd 0 (by simp))
          go_simp
          refine (toSyms_any a0 ss _ cap0 V rfl (hr0.below (hB3'.trans (hM.tg.bel.mono hB3'.size))) hl).mono ?_
          rintro e V2 ⟨rfl, ho, hb⟩
          exact hK _ _ ⟨_, _, _, _, _, _, _, _, o, rfl, (by first | exact fun _ => rfl | exact fun q => h0 (((dn_set hL).1 q).resolve_left (by decide))), (by first | exact fun _ => rfl | exact fun q => h2 (((dn_set hL).1 q).resolve_left (by decide))), (by first | exact fun _ => rfl | exact fun q => h4 (((dn_set hL).1 q).resolve_left (by decide))), hM.sym hL hb ho⟩
        refine KeepAll.cons (ds := []) rfl (by kernel_rfl) (fun L a' V K hK hL hcl hn hd hI => ?_) ?_
        · obtain ⟨s32, s33, s34, s35, s36, s37, s38, s8, o, rfl, h0, h2, h4, hM⟩ := hI
          go_simp
          exact hK _ _ ⟨_, _, _, _, _, _, _, _, o, rfl, (by first | exact fun _ => rfl | exact fun q => h0 (((dn_set hL).1 q).resolve_left (by decide))), (by first | exact fun _ => rfl | exact fun q => h2 (((dn_set hL).1 q).resolve_left (by decide))), (by first | exact fun _ => rfl | exact fun q => h4 (((dn_set hL).1 q).resolve_left (by decide))), hM.pure hL ⟨by decide, by decide, by decide, by decide, by decide, by decide⟩⟩
        refine KeepAll.cons (ds := [2, 1]) rfl (by kernel_rfl) (fun L a' V K hK hL hcl hn hd hI => ?_) ?_
        · obtain ⟨s32, s33, s34, s35, s36, s37, s38, s8, o, rfl, h0, h2, h4, hM⟩ := hI
          obtain rfl := h2 (hd 2 (by simp))
          go_simp
          refine (TB V (hB3'.trans (hM.tg.bel.mono hB3'.size))).mono ?_
          rintro e V2 ⟨rfl, ho, hb⟩
          exact hK _ _ ⟨_, _, _, _, _, _, _, _, o, rfl, (by first | exact fun _ => rfl | exact fun q => h0 (((dn_set hL).1 q).resolve_left (by decide))), (by first | exact fun _ => rfl | exact fun q => h2 (((dn_set hL).1 q).resolve_left (by decide))), (by first | exact fun _ => rfl | exact fun q => h4 (((dn_set hL).1 q).resolve_left (by decide))), hM.bind hL hb ho.rd⟩
        refine KeepAll.cons (ds := []) rfl (by kernel_rfl) (fun L a' V K hK hL hcl hn hd hI => ?_) ?_
        · obtain ⟨s32, s33, s34, s35, s36, s37, s38, s8, o, rfl, h0, h2, h4, hM⟩ := hI
          have KC := C7.on HCX.out (hBW.trans (hM.tg.bel.mono hBW.size))
          obtain ⟨k0, k1, k2, k3, k4, k5, k6⟩ := KC
          go_simp
          exact hK _ _ ⟨_, _, _, _, _, _, _, _, o, rfl, (by first | exact fun _ => rfl | exact fun q => h0 (((dn_set hL).1 q).resolve_left (by decide))), (by first | exact fun _ => rfl | exact fun q => h2 (((dn_set hL).1 q).resolve_left (by decide))), (by first | exact fun _ => rfl | exact fun q => h4 (((dn_set hL).1 q).resolve_left (by decide))), hM.pure hL ⟨by decide, by decide, by decide, by decide, by decide, by decide⟩⟩
        refine KeepAll.cons (ds := [4, 3]) rfl (by kernel_rfl) (fun L a' V K hK hL hcl hn hd hI => ?_) ?_
        · obtain ⟨s32, s33, s34, s35, s36, s37, s38, s8, o, rfl, h0, h2, h4, hM⟩ := hI
          obtain rfl := h4 (hd 4 (by simp))
          go_simp
          refine (TT V (hB3'.trans (hM.tg.bel.mono hB3'.size))).mono ?_
          rintro e V2 ⟨y, z, m, rfl, o1, o2, z1, z2, hb⟩
          exact hK _ _ ⟨_, _, _, _, _, _, _, _, o, rfl, (by first | exact fun _ => rfl | exact fun q => h0 (((dn_set hL).1 q).resolve_left (by decide))), (by first | exact fun _ => rfl | exact fun q => h2 (((dn_set hL).1 q).resolve_left (by decide))), (by first | exact fun _ => rfl | exact fun q => h4 (((dn_set hL).1 q).resolve_left (by decide))), hM.lit hL hb o1.rd o2.rd⟩
        refine KeepAll.cons (ds := [1, 3, 5, 5]) rfl (by kernel_rfl) (fun L a' V K hK hL hcl hn hd hI => ?_) ?_
        · obtain ⟨s32, s33, s34, s35, s36, s37, s38, s8, o, rfl, h0, h2, h4, hM⟩ := hI
          have n8 : ¬ Dn L 8 := (fun q => hn (hcl 8 _ rfl q 6 (by decide)))
          obtain ⟨G, rfl, hg⟩ := hM.c1 (hd 1 (by simp)) n8
          obtain ⟨G2, rfl, hg2⟩ := hM.c3 (hd 3 (by simp)) n8
          obtain ⟨y, z, rfl, hy, hz⟩ := hM.c5 (hd 5 (by simp)) n8
          go_simp
          refine (CS _ _ y z _ _ _ _ _ V hg hg2 hy hz (Nat.le_refl _)).mono ?_
          rintro e V2 ⟨a1, c1, a2, c2, S1, S2, rfl, hX, hb⟩
          obtain ⟨o2, hM2⟩ := hM.call hL n8 hb hX
          exact hK _ _ ⟨_, _, _, _, _, _, _, _, o2, rfl, (by first | exact fun _ => rfl | exact fun q => h0 (((dn_set hL).1 q).resolve_left (by decide))), (by first | exact fun _ => rfl | exact fun q => h2 (((dn_set hL).1 q).resolve_left (by decide))), (by first | exact fun _ => rfl | exact fun q => h4 (((dn_set hL).1 q).resolve_left (by decide))), hM2⟩
        refine KeepAll.cons (ds := []) rfl (by kernel_rfl) (fun L a' V K hK hL hcl hn hd hI => ?_) ?_
        · obtain ⟨s32, s33, s34, s35, s36, s37, s38, s8, o, rfl, h0, h2, h4, hM⟩ := hI
          have n8 : ¬ Dn L 8 := (fun q => hn (hcl 8 _ rfl q 7 (by decide)))
          go_simp
          obtain ⟨o2, hM2⟩ := hM.box hL n8 36
          exact hK _ _ ⟨_, _, _, _, _, _, _, _, o2, rfl, (by first | exact fun _ => rfl | exact fun q => h0 (((dn_set hL).1 q).resolve_left (by decide))), (by first | exact fun _ => rfl | exact fun q => h2 (((dn_set hL).1 q).resolve_left (by decide))), (by first | exact fun _ => rfl | exact fun q => h4 (((dn_set hL).1 q).resolve_left (by decide))), hM2⟩
        refine KeepAll.cons (ds := [7, 6, 6, 0, 1, 2, 3, 4, 5, 6, 7]) rfl (by kernel_rfl) (fun L a' V K hK hL hcl hn hd hI => ?_) ?_
        · obtain ⟨s32, s33, s34, s35, s36, s37, s38, s8, o, rfl, h0, h2, h4, hM⟩ := hI
          obtain ⟨a1, c1, a2, c2, rfl, hq⟩ := hM.c6 (hd 6 (by simp))
          obtain ⟨B, rfl, hob, hR⟩ := hM.z7 (hd 7 (by simp)) hn
          obtain ⟨u0, u1, u2, u3, u4, u5, u6, uf⟩ := hR
          have f0 := uf 0
          have f1 := uf 1
          have f2 := uf 2
          have f3 := uf 3
          have f4 := uf 4
          have f5 := uf 5
          have f6 := uf 6
          have HR : R7 V B := ⟨u0, u1, u2, u3, u4, u5, u6, uf⟩
          clear uf hq
          have hM2 := hM.put hL hob HR
          unfold litV at hM2 ⊢
          go_simp
          exact hK _ _ ⟨_, _, _, _, _, _, _, _, o, rfl, (by first | exact fun _ => rfl | exact fun q => h0 (((dn_set hL).1 q).resolve_left (by decide))), (by first | exact fun _ => rfl | exact fun q => h2 (((dn_set hL).1 q).resolve_left (by decide))), (by first | exact fun _ => rfl | exact fun q => h4 (((dn_set hL).1 q).resolve_left (by decide))), hM2⟩
        exact KeepAll.nil
    · rw [show szU us r = -1 by unfold szU; rw [if_neg hb0]] at SU
      clear hpl hpr
      go_wp2_with (go_at_call 5; refine SU.mono ?_; rintro e w2 ⟨rfl, hb⟩; have hB2 : Below W.heap.size W w2 := hB1.trans (hb.mono hB1.size); clear SU hb)
      go_ret
      exact ⟨rfl, hB0.trans (hB2.mono hB0.size)⟩

set_option maxRecDepth 100000 in
theorem lifted (os : Os) (started : os.Started) (H : Type) (enc : TypeId × Value → H) :
    ReturnsInHanded {} Tryz.checked os 3 .any (Rows.fnExactLitApplySpec.pre6 enc Tryz.prog Tryz.f3 Rows.fnExactLitApplyRow.domain false) (Rows.fnExactLitApplySpec.post enc Tryz.prog Tryz.f3 false true false false) := by
  refine returnsInHanded_of_change (C := Tryz.checked) own started (by kernel_rfl) Tryz.func3
    (ChangeSpec.witness6 (enc := enc) (C := Tryz.checked) false ⟨#[], #[.slice none 0 0, .slice none 0 0, .agg #[.bool false, .int .i64 0, .int .i64 0, .slice none 0 0, .int .i64 0, .int .i64 0, .slice none 0 0]], []⟩ 8 (by kernel_rfl) (by kernel_rfl) (by kernel_rfl) (by kernel_rfl)) ?_
  intro W base args ds gs before hval0 hW hcnd _
  have hval : ∀ (j : Nat) t v, Tryz.f3.params[j]? = some t → args[j]? = some v → Value.okWide Tryz.prog W .any base t v := hval0
  have hW' := hW
  obtain ⟨p, q, hA0, hV, rfl, hfz, hnd⟩ := hW
  have hA : DataW.TrodAll enc Tryz.prog W 0 (fun _ => true) true Tryz.f3.params.toList args.toList ds p := hA0
  rw [Tryz.params3] at hA hval
  obtain ⟨v0, vs0, d0, ds0, p0, q0, hargs, rfl, rfl, h0, r0⟩ := trodAll_cons hA
  obtain ⟨v1, vs1, d1, ds1, p1, q1, rfl, rfl, rfl, h1, r1⟩ := trodAll_cons r0
  obtain ⟨v2, vs2, d2, ds2, p2, q2, rfl, rfl, rfl, h2, r2⟩ := trodAll_cons r1
  obtain ⟨rfl, rfl, rfl⟩ := trodAll_nil r2
  obtain rfl : args = #[v0, v1, v2] := by cases args; simp_all
  obtain ⟨rfl, rfl⟩ := trodVars_none hV
  obtain ⟨a0, len0, cap0, rfl⟩ := okWide_slice Tryz.underlying22 (hval 0 22 v0 rfl rfl)
  have k0 := h0
  have lt0 : ∀ x ∈ p0, x.block < W.heap.size := by obtain ⟨m, hm⟩ := k0; exact DataW.trod_lt m _ _ _ hm
  obtain ⟨ss0, hn0, hle0, hr0, hall0⟩ := open_syms rfl h0
  obtain ⟨a1, len1, cap1, rfl⟩ := okWide_slice Tryz.underlying23 (hval 1 23 v1 rfl rfl)
  have k1 := h1
  have lt1 : ∀ x ∈ p1, x.block < W.heap.size := by obtain ⟨m, hm⟩ := k1; exact DataW.trod_lt m _ _ _ hm
  obtain ⟨ts1, hn1, hle1, hr1⟩ := open_binds rfl h1
  obtain ⟨cs2, rfl, _⟩ := okWide_struct Tryz.underlying28 (hval 2 28 v2 rfl rfl)
  have k2 := h2
  have lt2 : ∀ x ∈ p2, x.block < W.heap.size := by obtain ⟨m, hm⟩ := k2; exact DataW.trod_lt m _ _ _ hm
  obtain ⟨x2, a2, c2, b2, g2, e2, hf2, hv2, hle2, hr2, hq2⟩ := open_lit rfl h2
  obtain rfl : cs2 = #[.bool x2.p, .int .i64 x2.l.f, .int .i64 x2.l.v, .slice a2 x2.l.kids.length c2, .int .i64 x2.r.f, .int .i64 x2.r.v, .slice b2 x2.r.kids.length g2] := by simpa [litV] using e2
  clear hA0 hval0
  refine (walk W a0 len0 cap0 ss0 hn0 hle0 hr0 hall0 a1 len1 cap1 ts1 hn1 hle1 hr1 x2 a2 c2 b2 g2 hf2 hv2 hr2 hq2).mono fun e W' ⟨he, bel⟩ => ?_
  subst he
  exact ⟨_, rfl, _, _, _, [], _, [], hW', trodAll_mk1 (shut_bool Tryz.underlying4 _), (trodAll_cons_mk (Below.trod laidOut (by kernel_rfl) (of_decide_eq_true (by kernel_rfl)) k0 bel lt0) (trodAll_cons_mk (Below.trod laidOut (by kernel_rfl) (of_decide_eq_true (by kernel_rfl)) k1 bel lt1) (trodAll_cons_mk (Below.trod laidOut (by kernel_rfl) (of_decide_eq_true (by kernel_rfl)) k2 bel lt2) trodAll_mk0))), by first | rfl | simp, bel.frame _, fun h => by cases h⟩

theorem over : Rows.fnExactLitApplyRow.holds Tryz.pinned (OpenSpec.ofChange Rows.fnExactLitApplySpec) :=
  OpenClaim.holds_of_wide 3 Tryz.f3 rfl rfl rfl rfl rfl rfl rfl ⟨rfl, rfl, rfl, rfl, rfl⟩ rfl rfl rfl rfl rfl (by kernel_rfl) Tryz.func3 (by kernel_rfl)
    (of_decide_eq_true (by kernel_rfl)) (by unfold Func.isWrapper; first | (rw [if_pos (by decide +kernel)]; kernel_rfl) | (rw [if_neg (by decide +kernel)]; exact ⟨rfl, rfl⟩))
    (fun os started H enc _ => lifted os started H enc)

theorem proved : Rows.FnExactLitApplySaid := over
end Go.Proofs.YtollijngiioonabGreat.fnExactLitApply
namespace Go.Proofs.YtollijngiioonabGreat
theorem fnExactLitApply_holds : Rows.FnExactLitApplySaid := fnExactLitApply.proved
#print axioms fnExactLitApply_holds
end Go.Proofs.YtollijngiioonabGreat
