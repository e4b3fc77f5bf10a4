/- The law FnExactLitMake answers true at every list of functions, every sign and every two terms, and leaves them as they were: at every argument LitMake answers as its specification, writes into no argument, and its answer owns its memory. Conditions: none beyond the given row's own. -/
import Derived.Test.YtollijngiioonaaRows
import Derived.Test.YtollijngiioonaaPackExactLitMake10
import Derived.WalkKit
import Derived.ProofKit
import Derived.OpenShut
import Derived.ShutString
import Derived.ChangeOld
import Derived.Below
namespace Go.Proofs.Ytollijngiioonaa.fnExactLitMake
open Go.ChangeShapes Go.WideShapes Go.ChangeAt Go.RowKit
open Go.ChangeMaps (open_string shut_string)
set_option linter.unusedVariables false

theorem own : ownKnob Try.prog.godebug = none := by kernel_rfl
theorem laidOut : laidOutB Try.prog = true := by kernel_rfl

theorem size_le {ss : List SymD} {s : SymD} (h : s ∈ ss) : s.name.size ≤ bytesOf ss := by
  induction ss with
  | nil => simp at h
  | cons t ss ih =>
    simp only [bytesOf, List.map_cons, List.sum_cons] at *
    rcases List.mem_cons.1 h with rfl | h
    · omega
    · have := ih h; omega

set_option maxHeartbeats 12800000 in
set_option maxRecDepth 100000 in
/-- The law's own walk: it answers true, and nothing that was there is written. -/
theorem walk (w : World) (a0 : Option Addr) (len0 cap0 : Nat) (ss : List SymD) (hn : len0 = ss.length) (hle0 : len0 ≤ maxLen) (hr0 : RdS w a0 ss) (hall : ∀ s ∈ ss, s.name.size ≤ maxLen ∧ (Lit.int .i64 s.ar).wf = true) (p : Bool)
    (t : TermD) (a : Option Addr) (c : Nat) (hft : isW t.f) (hvt : isW t.v) (hlet : t.kids.length ≤ maxLen) (hrt : RdK w w.heap.size a t.kids)
    (u : TermD) (b : Option Addr) (d : Nat) (hfu : isW u.f) (hvu : isW u.v) (hleu : u.kids.length ≤ maxLen) (hru : RdK w w.heap.size b u.kids) :
    Calls Try.prog 4 #[.slice a0 len0 cap0, .bool p, .agg #[.int .i64 t.f, .int .i64 t.v, .slice a t.kids.length c], .agg #[.int .i64 u.f, .int .i64 u.v, .slice b u.kids.length d]] w fun e w' => e = .returned (.bool true) ∧ Below w.heap.size w w' := by
  have hsz : ∀ s ∈ ss, s.name.size ≤ maxLen := fun s hs => (hall s hs).1
  unfold maxLen at hle0
  subst hn
  obtain ⟨W, hW⟩ : ∃ W, W = (w.alloc (.cells #[.int .i64 t.f, .int .i64 t.v, .slice a t.kids.length c] 39)).alloc (.cells #[.int .i64 u.f, .int .i64 u.v, .slice b u.kids.length d] 39) := ⟨_, rfl⟩
  have hB0 : Below w.heap.size w W := by rw [hW]; exact ((Below.refl _ _).alloc (Nat.le_refl _) _).alloc (by simp) _
  have CA : C3 W w.heap.size (.int .i64 t.f) (.int .i64 t.v) (.slice a t.kids.length c) := by rw [hW]; exact ⟨by simp [go_sem], by simp [go_sem], by simp [go_sem]⟩
  have CU : C3 W (w.heap.size + 1) (.int .i64 u.f) (.int .i64 u.v) (.slice b u.kids.length d) := by rw [hW]; exact ⟨by simp [go_sem], by simp [go_sem], by simp [go_sem]⟩
  have SY := szSyms_any a0 ss ss.length cap0 1048576 W rfl (hr0.below hB0) (by omega) (by omega) (by omega) (fun s hs => by have := hsz s hs; unfold maxLen at this; omega)
  have HCA : Hid _ := CA
  have HCU : Hid _ := CU
  clear CA CU
  have hpt := partsT_eq t
  have hpu := partsT_eq u
  clear hlet hleu
  go_enter Try.func4, Try.ntmps4
  go_wp2_with (go_at_call 15; rw [← hW]; refine SY.mono ?_; rintro e w1 ⟨r, rfl, hsm, hrm, hb⟩; have hB1 : Below W.heap.size W w1 := hb; have KA := C3.on HCA.out hb; obtain ⟨p0, p1, p2⟩ := KA; have KU := C3.on HCU.out hb; obtain ⟨q0, q1, q2⟩ := KU; clear SY hb hW)
  · go_ret
    exact ⟨rfl, hB0.trans (hB1.mono hB0.size)⟩
  · have hr0' : 0 ≤ r := by omega
    have hsum := hsm hr0'
    have hl : ss.length ≤ 1048577 := by omega
    have hB1' := hB0.trans (hB1.mono hB0.size)
    have SZ := szTerm_any t a c w.heap.size r w1 hr0' hrm (hrt.on hB1') hB1'.size
    clear hsm
    by_cases hb1 : (partsL t.kids : Int) ≤ r
    · rw [show szR t.kids r = r - partsL t.kids by unfold szR; rw [if_pos hb1]] at SZ
      have hn1 : ¬ (r - (partsL t.kids : Int)) < 0 := by omega
      obtain ⟨rr2, hr2⟩ : ∃ rr2, rr2 = r - (partsL t.kids : Int) := ⟨_, rfl⟩
      rw [← hr2] at SZ hn1
      have hr2s : Hid (rr2 = r - (partsL t.kids : Int)) := hr2
      have SU := fun (W' : World) (h : Below w.heap.size w W') => szTerm_any u b d w.heap.size rr2 W' (by omega) (by omega) (hru.on h) h.size
      clear hr2
      by_cases hb2 : (partsL u.kids : Int) ≤ rr2
      · rw [show szR u.kids rr2 = rr2 - partsL u.kids by unfold szR; rw [if_pos hb2]] at SU
        have hn2 : ¬ (rr2 - (partsL u.kids : Int)) < 0 := by omega
        have hr2o := hr2s.out
        have hp1 : partsT t ≤ 549755813888 := by omega
        have hp2 : partsT u ≤ 549755813888 := by omega
        have hHs : Hid ((ss.length : Int) ≤ 1048577 ∧ (partsL t.kids : Int) ≤ 1048576 ∧ (partsL u.kids : Int) ≤ 1048576) := ⟨by omega, by omega, by omega⟩
        clear hpt hpu hb1 hsum hb2 hr2s hr2o
        generalize rr2 - (partsL u.kids : Int) = rr3 at SU hn2
        obtain ⟨X, hX⟩ : ∃ X, X = makeX ss p t u := ⟨_, rfl⟩
        have hXp : partsT X.l ≤ 549755813888 ∧ partsT X.r ≤ 549755813888 := by
          have h1 := normT_parts (blindAt ss) t
          have h2 := normT_parts (blindAt ss) u
          rw [hX]
          unfold makeX
          split <;> exact ⟨by simp only; omega, by simp only; omega⟩
        have CS := fun (sa y z : Option Addr) (sc k l hi : Nat) (W' : World) (g0 : RdS W' sa ss) (g1 : RdK W' hi y t.kids) (g2 : RdK W' hi z u.kids) (g3 : hi ≤ W'.heap.size) => specLitMake_any sa ss sc p t u y z k l hi W' hl g0 hp1 hp2 g1 g2 g3 ⟨hft, hvt⟩ ⟨hfu, hvu⟩
        have CJ := fun (sa y z : Option Addr) (sc k l hi : Nat) (W' : World) (g0 : RdS W' sa ss) (g1 : RdK W' hi y t.kids) (g2 : RdK W' hi z u.kids) (g3 : hi ≤ W'.heap.size) (g4 : t.kids.length ≤ k) (g5 : u.kids.length ≤ l) => impLitMake_any sa ss sc p t u y z k l hi W' g0 hp1 hp2 g1 g2 g3 g4 g5 ⟨hft, hvt⟩ ⟨hfu, hvu⟩
        rw [← hX] at CS CJ
        have EX := fun (a1 a2 b1 b2 : Option Addr) (c1 c2 d1 d2 hi : Nat) (W' : World) (k1 : RdK W' hi a1 X.l.kids) (k2 : RdK W' hi a2 X.r.kids) (k3 : RdK W' hi b1 X.l.kids) (k4 : RdK W' hi b2 X.r.kids) (k5 : hi ≤ W'.heap.size) => eqLit_same X a1 a2 b1 b2 c1 c2 d1 d2 hi W' hXp.1 hXp.2 k1 k2 k3 k4 k5
        unfold litV at EX
        clear hX
        go_upto_region 11 with (first
          | (go_at_call_of 16 a; refine SZ.mono ?_; rintro e w2 ⟨rfl, hb⟩; have hB2 : Below W.heap.size W w2 := hB1.trans (hb.mono hB1.size); clear p0 p1 p2 q0 q1 q2; have KA := C3.on HCA.out hB2; obtain ⟨p0, p1, p2⟩ := KA; have KU := C3.on HCU.out hB2; obtain ⟨q0, q1, q2⟩ := KU; clear SZ hb hB1 hB1')
          | (go_at_call_of 16 b; refine (SU w2 (hB0.trans (hB2.mono hB0.size))).mono ?_; rintro e w3 ⟨rfl, hb⟩; have hB3 : Below W.heap.size W w3 := hB2.trans (hb.mono hB2.size); clear p0 p1 p2 q0 q1 q2; clear SU hb hB2))
        have ML := fun (a1 a2 : Option Addr) (c1 c2 : Nat) (S1 S2 : Nat → Prop) (W' : World) (k1 : OwnS W' S1 a1 X.l.kids) (k2 : OwnS W' S2 a2 X.r.kids) (k3 : ∀ k, S1 k → k < W'.heap.size) (k4 : ∀ k, S2 k → k < W'.heap.size) (k5 : ∀ k, S1 k → ¬ S2 k) => markLit_any X a1 a2 c1 c2 1 S1 S2 W' hXp.1 hXp.2 (by omega) (by omega) k1 k2 k3 k4 k5
        have HL := fun (a1 a2 : Option Addr) (c1 c2 : Nat) (S1 S2 : Nat → Prop) (W' : World) (k1 : Mk W' S1 a1 X.l.kids 1) (k2 : Mk W' S2 a2 X.r.kids (1 + 2 * partsL X.l.kids)) (k3 : ∀ k, S1 k → k < W'.heap.size) (k4 : ∀ k, S2 k → k < W'.heap.size) => heldLit_any X a1 a2 c1 c2 1 S1 S2 W' hXp.1 hXp.2 (by omega) (by omega) k1 k2 k3 k4
        unfold litV at ML HL
        have hnk : ¬ ((1 : Int) + 3 * (ss.length : Int) + 2 * (partsL t.kids : Int) + 2 * (partsL u.kids : Int) < 0) := by omega
        have hnm : ¬ ((1 : Int) + 2 * (partsL X.l.kids : Int) + 2 * (partsL X.r.kids : Int) < 0) := by omega
        have hBW : Below W.heap.size W w3 := hB3
        have hB3' : Below w.heap.size w w3 := hB0.trans (hB3.mono hB0.size)
        refine wp_region_keeps (by kernel_rfl) (rs := [0, 1, 2, 3, 4, 5, 6, 7, 8, 9]) (fun L a' V => ∃ (s34 s35 s36 s37 s38 s39 s40 s41 s10 : Value) (o : Nat → Nat), a' = ({ tmps := #[.slice a0 ss.length cap0, .bool p, .agg #[.int .i64 t.f, .int .i64 t.v, .slice a t.kids.length c], .agg #[.int .i64 u.f, .int .i64 u.v, .slice b u.kids.length d], undef, undef, .pointer (some ⟨w.heap.size, 0, none⟩), .pointer (some ⟨w.heap.size + 1, 0, none⟩), .bool false, .int .i64 rr3, s10, undef, undef, undef, undef, undef, undef, undef, undef, .slice a0 ss.length cap0, .int .i64 1048576, .int .i64 r, .int .i64 r, .bool (decide (r < 0)), .agg #[.int .i64 t.f, .int .i64 t.v, .slice a t.kids.length c], .int .i64 r, .int .i64 rr2, .int .i64 rr2, .bool (decide (rr2 < 0)), .agg #[.int .i64 u.f, .int .i64 u.v, .slice b u.kids.length d], .int .i64 rr2, .int .i64 rr3, .int .i64 rr3, .bool (decide (rr3 < 0)), s34, s35, s36, s37, s38, s39, s40, s41, undef, undef, undef, undef, undef, undef, undef, undef, undef, undef, undef, undef, undef, undef, undef, undef, undef, undef, undef, undef, undef, undef, undef, undef, undef, undef, undef, undef, undef, undef, undef, undef, undef, undef, undef, undef, undef, undef, undef, undef, undef, undef, undef, undef, undef, undef, undef, undef, undef, undef, undef, undef, undef, undef, undef, undef, undef, undef, undef, undef, undef, undef, undef, undef, undef, undef, undef, undef, undef, undef, undef, undef, undef, undef, undef, undef, undef, undef], defers := [] } : Act) ∧ (Dn L 0 → s34 = .slice a0 ss.length cap0) ∧ (Dn L 2 → s36 = .bool p) ∧ (Dn L 3 → s37 = .agg #[.int .i64 t.f, .int .i64 t.v, .slice a t.kids.length c]) ∧ (Dn L 5 → s39 = .agg #[.int .i64 u.f, .int .i64 u.v, .slice b u.kids.length d]) ∧ LW w3 ss t u X L o V s35 s38 s40 s41 s10) (by kernel_rfl) (by kernel_rfl) ⟨_, _, _, _, _, _, _, _, _, fun _ => 0, rfl, fun h => absurd h dn_none, fun h => absurd h dn_none, fun h => absurd h dn_none, fun h => absurd h dn_none, LW.start w3 _ _ _ _ _ _ _ _ _ _⟩ (fun L a' V hd h => ?_) ?_
        · obtain ⟨s34, s35, s36, s37, s38, s39, s40, s41, s10, o, rfl, -, -, -, -, hM⟩ := h
          obtain ⟨Bw, aw, cw, bw, dw, rfl, HX⟩ := hM.fin (hd 7 (by decide)) (hd 9 (by decide))
          have H5 : Hid (LS W X Bw aw cw bw dw o V) := ⟨hM.tg.base hBW, HX⟩
          clear hM HX hd hB3 hB3' hBW
          have p0 := trivial; have p1 := trivial; have p2 := trivial; have q0 := trivial; have q1 := trivial; have q2 := trivial; have r0 := trivial; have r1 := trivial; have r2 := trivial; have r3 := trivial; have r4 := trivial; have r5 := trivial; have r6 := trivial; have x0 := trivial; have x1 := trivial; have x2 := trivial; have y0 := trivial; have y1 := trivial; have y2 := trivial; have g0 := trivial; have g1 := trivial; have g2 := trivial; have g3 := trivial; have g4 := trivial; have g5 := trivial; have g6 := trivial
          clear p0 p1 p2 q0 q1 q2 r0 r1 r2 r3 r4 r5 r6 x0 x1 x2 y0 y1 y2 g0 g1 g2 g3 g4 g5 g6; have KA := C3.on HCA.out H5.out.tg.bel; obtain ⟨p0, p1, p2⟩ := KA; have KU := C3.on HCU.out H5.out.tg.bel; obtain ⟨q0, q1, q2⟩ := KU; have KR := H5.out.w.b.2; obtain ⟨r0, r1, r2, r3, r4, r5, r6⟩ := KR; have x0 := trivial; have x1 := trivial; have x2 := trivial; have y0 := trivial; have y1 := trivial; have y2 := trivial; have g0 := trivial; have g1 := trivial; have g2 := trivial; have g3 := trivial; have g4 := trivial; have g5 := trivial; have g6 := trivial
          go_wp2_with (first
            | (go_at_call 18; refine (toSyms_any a0 ss _ cap0 _ rfl (hr0.below (hB0.trans (Below.mono H5.out.tg.bel hB0.size))) hl).mono ?_; rintro e w7 ⟨rfl, ho7, hb⟩; obtain ⟨o7, L7⟩ := H5.out.sym hb ho7; have H7 : Hid _ := L7; clear H5 L7 hb ho7; clear p0 p1 p2 q0 q1 q2 r0 r1 r2 r3 r4 r5 r6 x0 x1 x2 y0 y1 y2 g0 g1 g2 g3 g4 g5 g6; have KA := C3.on HCA.out H7.out.q.tg.bel; obtain ⟨p0, p1, p2⟩ := KA; have KU := C3.on HCU.out H7.out.q.tg.bel; obtain ⟨q0, q1, q2⟩ := KU; have KR := H7.out.q.w.b.2; obtain ⟨r0, r1, r2, r3, r4, r5, r6⟩ := KR; have x0 := trivial; have x1 := trivial; have x2 := trivial; have y0 := trivial; have y1 := trivial; have y2 := trivial; have g0 := trivial; have g1 := trivial; have g2 := trivial; have g3 := trivial; have g4 := trivial; have g5 := trivial; have g6 := trivial)
            | (go_at_call_of 19 a; refine (toTerm_any t a c w.heap.size _ hp1 (hrt.on (hB0.trans (Below.mono H7.out.q.tg.bel hB0.size))) (hB0.trans (Below.mono H7.out.q.tg.bel hB0.size)).size).mono ?_; rintro e w8 ⟨yx, rfl, ho8, hb⟩; obtain ⟨o8, L8⟩ := H7.out.term (cx := t.kids.length) hb ho8 27; have H8 : Hid _ := L8; clear H7 L8 hb ho8; clear p0 p1 p2 q0 q1 q2 r0 r1 r2 r3 r4 r5 r6 x0 x1 x2 y0 y1 y2 g0 g1 g2 g3 g4 g5 g6; have KA := C3.on HCA.out H8.out.q.q.tg.bel; obtain ⟨p0, p1, p2⟩ := KA; have KU := C3.on HCU.out H8.out.q.q.tg.bel; obtain ⟨q0, q1, q2⟩ := KU; have KR := H8.out.q.q.w.b.2; obtain ⟨r0, r1, r2, r3, r4, r5, r6⟩ := KR; have KX := H8.out.x.b; obtain ⟨x0, x1, x2⟩ := KX; have y0 := trivial; have y1 := trivial; have y2 := trivial; have g0 := trivial; have g1 := trivial; have g2 := trivial; have g3 := trivial; have g4 := trivial; have g5 := trivial; have g6 := trivial)
            | (go_at_call_of 19 b; refine (toTerm_any u b d w.heap.size _ hp2 (hru.on (hB0.trans (Below.mono H8.out.q.q.tg.bel hB0.size))) (hB0.trans (Below.mono H8.out.q.q.tg.bel hB0.size)).size).mono ?_; rintro e w9 ⟨yy, rfl, ho9, hb⟩; obtain ⟨o9, L9⟩ := H8.out.term (cy := u.kids.length) hb ho9 27; have H9 : Hid _ := L9; clear H8 L9 hb ho9; clear p0 p1 p2 q0 q1 q2 r0 r1 r2 r3 r4 r5 r6 x0 x1 x2 y0 y1 y2 g0 g1 g2 g3 g4 g5 g6; have KA := C3.on HCA.out H9.out.q.q.q.tg.bel; obtain ⟨p0, p1, p2⟩ := KA; have KU := C3.on HCU.out H9.out.q.q.q.tg.bel; obtain ⟨q0, q1, q2⟩ := KU; have KR := H9.out.q.q.q.w.b.2; obtain ⟨r0, r1, r2, r3, r4, r5, r6⟩ := KR; have KX := H9.out.q.x.b; obtain ⟨x0, x1, x2⟩ := KX; have KY := H9.out.y.b; obtain ⟨y0, y1, y2⟩ := KY; have g0 := trivial; have g1 := trivial; have g2 := trivial; have g3 := trivial; have g4 := trivial; have g5 := trivial; have g6 := trivial)
            | (go_at_call 20; refine (CJ _ yx yy _ _ _ _ _ (RdS.own rfl H9.out.q.q.s.w) H9.out.q.x.k.rd H9.out.y.k.rd (Nat.le_refl _) (Nat.le_refl _) (Nat.le_refl _)).mono ?_; rintro e w10 ⟨ag, cg, bg, dg, S1, S2, rfl, hX, hb⟩; obtain ⟨o10, L10⟩ := H9.out.lit hb hX 43; have H10 : Hid _ := L10; unfold litV; clear H9 L10 hb hX; clear p0 p1 p2 q0 q1 q2 r0 r1 r2 r3 r4 r5 r6 x0 x1 x2 y0 y1 y2 g0 g1 g2 g3 g4 g5 g6; have KA := C3.on HCA.out H10.out.q.q.q.q.tg.bel; obtain ⟨p0, p1, p2⟩ := KA; have KU := C3.on HCU.out H10.out.q.q.q.q.tg.bel; obtain ⟨q0, q1, q2⟩ := KU; have KR := H10.out.q.q.q.q.w.b.2; obtain ⟨r0, r1, r2, r3, r4, r5, r6⟩ := KR; have KX := H10.out.q.q.x.b; obtain ⟨x0, x1, x2⟩ := KX; have KY := H10.out.q.y.b; obtain ⟨y0, y1, y2⟩ := KY; have KG := H10.out.g.b.2; obtain ⟨g0, g1, g2, g3, g4, g5, g6⟩ := KG)
            | (go_at_call 21; refine (EX ag bg aw bw _ _ _ _ _ _ H10.out.g.k1.rd H10.out.g.k2.rd H10.out.q.q.q.q.w.k1.rd H10.out.q.q.q.q.w.k2.rd (Nat.le_refl _)).mono ?_; rintro e w11 ⟨rfl, hb⟩; have H11 : Hid _ := H10.out.on hb; clear H10 hb; clear p0 p1 p2 q0 q1 q2 r0 r1 r2 r3 r4 r5 r6 x0 x1 x2 y0 y1 y2 g0 g1 g2 g3 g4 g5 g6; have KA := C3.on HCA.out H11.out.q.q.q.q.tg.bel; obtain ⟨p0, p1, p2⟩ := KA; have KU := C3.on HCU.out H11.out.q.q.q.q.tg.bel; obtain ⟨q0, q1, q2⟩ := KU; have KR := H11.out.q.q.q.q.w.b.2; obtain ⟨r0, r1, r2, r3, r4, r5, r6⟩ := KR; have KX := H11.out.q.q.x.b; obtain ⟨x0, x1, x2⟩ := KX; have KY := H11.out.q.y.b; obtain ⟨y0, y1, y2⟩ := KY; have KG := H11.out.g.b.2; obtain ⟨g0, g1, g2, g3, g4, g5, g6⟩ := KG)
            | (go_at_call 18; refine (toSyms_any a0 ss _ cap0 _ rfl (hr0.below (hB0.trans (Below.mono H11.out.q.q.q.q.tg.bel hB0.size))) hl).mono ?_; rintro e w12 ⟨rfl, ho12, hb⟩; have hcs := RdS.own rfl ho12; have H12 : Hid _ := H11.out.on hb; clear H11 hb; clear ho12; clear p0 p1 p2 q0 q1 q2 r0 r1 r2 r3 r4 r5 r6 x0 x1 x2 y0 y1 y2 g0 g1 g2 g3 g4 g5 g6; have KA := C3.on HCA.out H12.out.q.q.q.q.tg.bel; obtain ⟨p0, p1, p2⟩ := KA; have KU := C3.on HCU.out H12.out.q.q.q.q.tg.bel; obtain ⟨q0, q1, q2⟩ := KU; have KR := H12.out.q.q.q.q.w.b.2; obtain ⟨r0, r1, r2, r3, r4, r5, r6⟩ := KR; have KX := H12.out.q.q.x.b; obtain ⟨x0, x1, x2⟩ := KX; have KY := H12.out.q.y.b; obtain ⟨y0, y1, y2⟩ := KY; have KG := H12.out.g.b.2; obtain ⟨g0, g1, g2, g3, g4, g5, g6⟩ := KG)
            | (go_at_call 22; refine (eqSyms_same _ _ ss _ _ _ _ _ rfl rfl (RdS.own rfl H12.out.q.q.q.s.w) hcs hl).mono ?_; rintro e w13 ⟨rfl, hb⟩; have H13 : Hid _ := H12.out.on hb; clear H12 hb; clear hcs; clear p0 p1 p2 q0 q1 q2 r0 r1 r2 r3 r4 r5 r6 x0 x1 x2 y0 y1 y2 g0 g1 g2 g3 g4 g5 g6; have KA := C3.on HCA.out H13.out.q.q.q.q.tg.bel; obtain ⟨p0, p1, p2⟩ := KA; have KU := C3.on HCU.out H13.out.q.q.q.q.tg.bel; obtain ⟨q0, q1, q2⟩ := KU; have KR := H13.out.q.q.q.q.w.b.2; obtain ⟨r0, r1, r2, r3, r4, r5, r6⟩ := KR; have KX := H13.out.q.q.x.b; obtain ⟨x0, x1, x2⟩ := KX; have KY := H13.out.q.y.b; obtain ⟨y0, y1, y2⟩ := KY; have KG := H13.out.g.b.2; obtain ⟨g0, g1, g2, g3, g4, g5, g6⟩ := KG))
          go_region_held3 (fun w' => w'.cell? ⟨w.heap.size, 0, none⟩ = some (.int .i64 t.f) ∧ w'.cell? ⟨w.heap.size, 1, none⟩ = some (.int .i64 t.v) ∧ w'.cell? ⟨w.heap.size, 2, none⟩ = some (.slice a t.kids.length c) ∧ w'.cell? ⟨w8.heap.size, 0, none⟩ = some (.int .i64 t.f) ∧ w'.cell? ⟨w8.heap.size, 1, none⟩ = some (.int .i64 t.v) ∧ w'.cell? ⟨w8.heap.size, 2, none⟩ = some (.slice yx t.kids.length t.kids.length)) (first | go_keep | exact ⟨p0, p1, p2, x0, x1, x2⟩)
            (first
              | (go_at_call_of 19 a; refine (toTerm_any t a c w.heap.size _ hp1 ?_ ?_).mono ?_; exact hrt.on (hB0.trans (Below.mono H13.out.q.q.q.q.tg.bel hB0.size)).drew; exact (hB0.trans (Below.mono H13.out.q.q.q.q.tg.bel hB0.size)).size; rintro e w14 ⟨zx, rfl, ho14, hb0⟩; have hb : Below w13.heap.size w13 w14 := (Below.refl _ _).drew.trans hb0; have H14 : Hid _ := H13.out.on hb; clear H13 hb; clear hb0; clear p0 p1 p2 q0 q1 q2 r0 r1 r2 r3 r4 r5 r6 x0 x1 x2 y0 y1 y2 g0 g1 g2 g3 g4 g5 g6; have KA := C3.on HCA.out H14.out.q.q.q.q.tg.bel; obtain ⟨p0, p1, p2⟩ := KA; have KU := C3.on HCU.out H14.out.q.q.q.q.tg.bel; obtain ⟨q0, q1, q2⟩ := KU; have KR := H14.out.q.q.q.q.w.b.2; obtain ⟨r0, r1, r2, r3, r4, r5, r6⟩ := KR; have KX := H14.out.q.q.x.b; obtain ⟨x0, x1, x2⟩ := KX; have KY := H14.out.q.y.b; obtain ⟨y0, y1, y2⟩ := KY; have KG := H14.out.g.b.2; obtain ⟨g0, g1, g2, g3, g4, g5, g6⟩ := KG)
              | (go_at_call 23; refine (eqTerm_same t yx zx _ _ w14.heap.size _ hp1 ?_ ?_ ?_).mono ?_; exact H14.out.q.q.x.k.rd; exact ho14.rd; exact Nat.le_refl _; rintro e w15 ⟨rfl, hb⟩; have H15 : Hid _ := H14.out.on hb; clear H14 hb; clear ho14; clear p0 p1 p2 q0 q1 q2 r0 r1 r2 r3 r4 r5 r6 x0 x1 x2 y0 y1 y2 g0 g1 g2 g3 g4 g5 g6; have KA := C3.on HCA.out H15.out.q.q.q.q.tg.bel; obtain ⟨p0, p1, p2⟩ := KA; have KU := C3.on HCU.out H15.out.q.q.q.q.tg.bel; obtain ⟨q0, q1, q2⟩ := KU; have KR := H15.out.q.q.q.q.w.b.2; obtain ⟨r0, r1, r2, r3, r4, r5, r6⟩ := KR; have KX := H15.out.q.q.x.b; obtain ⟨x0, x1, x2⟩ := KX; have KY := H15.out.q.y.b; obtain ⟨y0, y1, y2⟩ := KY; have KG := H15.out.g.b.2; obtain ⟨g0, g1, g2, g3, g4, g5, g6⟩ := KG))
          go_upto_region 22 with fail
          go_region_held3 (fun w' => w'.cell? ⟨w.heap.size + 1, 0, none⟩ = some (.int .i64 u.f) ∧ w'.cell? ⟨w.heap.size + 1, 1, none⟩ = some (.int .i64 u.v) ∧ w'.cell? ⟨w.heap.size + 1, 2, none⟩ = some (.slice b u.kids.length d) ∧ w'.cell? ⟨w9.heap.size, 0, none⟩ = some (.int .i64 u.f) ∧ w'.cell? ⟨w9.heap.size, 1, none⟩ = some (.int .i64 u.v) ∧ w'.cell? ⟨w9.heap.size, 2, none⟩ = some (.slice yy u.kids.length u.kids.length)) (first | go_keep | exact ⟨q0, q1, q2, y0, y1, y2⟩)
            (first
              | (go_at_call_of 19 b; refine (toTerm_any u b d w.heap.size _ hp2 ?_ ?_).mono ?_; exact hru.on (hB0.trans (Below.mono H15.out.q.q.q.q.tg.bel hB0.size)).drew; exact (hB0.trans (Below.mono H15.out.q.q.q.q.tg.bel hB0.size)).size; rintro e w16 ⟨zy, rfl, ho16, hb0⟩; have hb : Below w15.heap.size w15 w16 := (Below.refl _ _).drew.trans hb0; have H16 : Hid _ := H15.out.on hb; clear H15 hb; clear hb0; clear p0 p1 p2 q0 q1 q2 r0 r1 r2 r3 r4 r5 r6 x0 x1 x2 y0 y1 y2 g0 g1 g2 g3 g4 g5 g6; have KA := C3.on HCA.out H16.out.q.q.q.q.tg.bel; obtain ⟨p0, p1, p2⟩ := KA; have KU := C3.on HCU.out H16.out.q.q.q.q.tg.bel; obtain ⟨q0, q1, q2⟩ := KU; have KR := H16.out.q.q.q.q.w.b.2; obtain ⟨r0, r1, r2, r3, r4, r5, r6⟩ := KR; have KX := H16.out.q.q.x.b; obtain ⟨x0, x1, x2⟩ := KX; have KY := H16.out.q.y.b; obtain ⟨y0, y1, y2⟩ := KY; have KG := H16.out.g.b.2; obtain ⟨g0, g1, g2, g3, g4, g5, g6⟩ := KG)
              | (go_at_call 23; refine (eqTerm_same u yy zy _ _ w16.heap.size _ hp2 ?_ ?_ ?_).mono ?_; exact H16.out.q.y.k.rd; exact ho16.rd; exact Nat.le_refl _; rintro e w17 ⟨rfl, hb⟩; have H17 : Hid _ := H16.out.on hb; clear H16 hb; clear ho16; clear p0 p1 p2 q0 q1 q2 r0 r1 r2 r3 r4 r5 r6 x0 x1 x2 y0 y1 y2 g0 g1 g2 g3 g4 g5 g6; have KA := C3.on HCA.out H17.out.q.q.q.q.tg.bel; obtain ⟨p0, p1, p2⟩ := KA; have KU := C3.on HCU.out H17.out.q.q.q.q.tg.bel; obtain ⟨q0, q1, q2⟩ := KU; have KR := H17.out.q.q.q.q.w.b.2; obtain ⟨r0, r1, r2, r3, r4, r5, r6⟩ := KR; have KX := H17.out.q.q.x.b; obtain ⟨x0, x1, x2⟩ := KX; have KY := H17.out.q.y.b; obtain ⟨y0, y1, y2⟩ := KY; have KG := H17.out.g.b.2; obtain ⟨g0, g1, g2, g3, g4, g5, g6⟩ := KG))
          go_upto_region 38 with (first
            | (go_at_call 24; refine (markSyms_any _ _ ss.length ss.length _ 1 _ H17.out.q.q.q.s.w hl (by omega)).mono ?_; rintro e w18 ⟨rfl, hs⟩; have H18 : Hid _ := H17.out.m1 hs; clear H17 hs; clear p0 p1 p2 q0 q1 q2 r0 r1 r2 r3 r4 r5 r6 x0 x1 x2 y0 y1 y2 g0 g1 g2 g3 g4 g5 g6; have KA := C3.on HCA.out H18.out.q.tg.bel; obtain ⟨p0, p1, p2⟩ := KA; have KU := C3.on HCU.out H18.out.q.tg.bel; obtain ⟨q0, q1, q2⟩ := KU; have KR := H18.out.q.w.b.2; obtain ⟨r0, r1, r2, r3, r4, r5, r6⟩ := KR; have KX := H18.out.x.b; obtain ⟨x0, x1, x2⟩ := KX; have KY := H18.out.y.b; obtain ⟨y0, y1, y2⟩ := KY; have KG := H18.out.g.b.2; obtain ⟨g0, g1, g2, g3, g4, g5, g6⟩ := KG)
            | (go_at_call_of 25 yx; refine (markTerm_any t yx _ (1 + 3 * (ss.length : Int)) _ _ hp1 (by omega) (by have := hHs.out; omega) H18.out.x.k (fun k hk => (H18.out.q.tg.own k (by have e : _ = 15 := hk; omega)).2)).mono ?_; rintro e w19 ⟨rfl, V1, hb, hon⟩; have H19 : Hid _ := H18.out.m2 hb hon; clear H18 hb hon; clear p0 p1 p2 q0 q1 q2 r0 r1 r2 r3 r4 r5 r6 x0 x1 x2 y0 y1 y2 g0 g1 g2 g3 g4 g5 g6; have KA := C3.on HCA.out H19.out.q.tg.bel; obtain ⟨p0, p1, p2⟩ := KA; have KU := C3.on HCU.out H19.out.q.tg.bel; obtain ⟨q0, q1, q2⟩ := KU; have KR := H19.out.q.w.b.2; obtain ⟨r0, r1, r2, r3, r4, r5, r6⟩ := KR; have x0 := trivial; have x1 := trivial; have x2 := trivial; have KY := H19.out.y.b; obtain ⟨y0, y1, y2⟩ := KY; have KG := H19.out.g.b.2; obtain ⟨g0, g1, g2, g3, g4, g5, g6⟩ := KG)
            | (go_at_call_of 25 yy; refine (markTerm_any u yy _ (1 + 3 * (ss.length : Int) + 2 * (partsL t.kids : Int)) _ _ hp2 (by omega) (by have := hHs.out; omega) H19.out.y.k (fun k hk => (H19.out.q.tg.own k (by have e : _ = 17 := hk; omega)).2)).mono ?_; rintro e w20 ⟨rfl, V2, hb, hon⟩; have H20 : Hid _ := H19.out.m3 hb hon; clear H19 hb hon; clear p0 p1 p2 q0 q1 q2 r0 r1 r2 r3 r4 r5 r6 x0 x1 x2 y0 y1 y2 g0 g1 g2 g3 g4 g5 g6; have KA := C3.on HCA.out H20.out.q.tg.bel; obtain ⟨p0, p1, p2⟩ := KA; have KU := C3.on HCU.out H20.out.q.tg.bel; obtain ⟨q0, q1, q2⟩ := KU; have KR := H20.out.q.w.b.2; obtain ⟨r0, r1, r2, r3, r4, r5, r6⟩ := KR; have x0 := trivial; have x1 := trivial; have x2 := trivial; have y0 := trivial; have y1 := trivial; have y2 := trivial; have KG := H20.out.g.b.2; obtain ⟨g0, g1, g2, g3, g4, g5, g6⟩ := KG)
            | (go_at_call 21; refine (EX ag bg aw bw _ _ _ _ _ _ H20.out.g.k1.rd H20.out.g.k2.rd H20.out.q.w.k1.rd H20.out.q.w.k2.rd (Nat.le_refl _)).mono ?_; rintro e w21 ⟨rfl, hb⟩; have H21 : Hid _ := H20.out.on hb; clear H20 hb; clear p0 p1 p2 q0 q1 q2 r0 r1 r2 r3 r4 r5 r6 x0 x1 x2 y0 y1 y2 g0 g1 g2 g3 g4 g5 g6; have KA := C3.on HCA.out H21.out.q.tg.bel; obtain ⟨p0, p1, p2⟩ := KA; have KU := C3.on HCU.out H21.out.q.tg.bel; obtain ⟨q0, q1, q2⟩ := KU; have KR := H21.out.q.w.b.2; obtain ⟨r0, r1, r2, r3, r4, r5, r6⟩ := KR; have x0 := trivial; have x1 := trivial; have x2 := trivial; have y0 := trivial; have y1 := trivial; have y2 := trivial; have KG := H21.out.g.b.2; obtain ⟨g0, g1, g2, g3, g4, g5, g6⟩ := KG)
            | (go_at_call 26; refine (ML ag bg _ _ _ _ _ H21.out.g.k1 H21.out.g.k2 (fun k hk => (H21.out.q.tg.own k (by have e : _ = 19 := hk; omega)).2) (fun k hk => (H21.out.q.tg.own k (by have e : _ = 20 := hk; omega)).2) (fun k h1 h2 => by have e1 : _ = 19 := h1; have e2 : _ = 20 := h2; omega)).mono ?_; rintro e w22 ⟨rfl, hm1, hm2, hst⟩; have H22 : Hid _ := H21.out.m4 hst hm1 hm2; clear H21 hm1 hm2 hst; clear p0 p1 p2 q0 q1 q2 r0 r1 r2 r3 r4 r5 r6 x0 x1 x2 y0 y1 y2 g0 g1 g2 g3 g4 g5 g6; have KA := C3.on HCA.out H22.out.q.tg.bel; obtain ⟨p0, p1, p2⟩ := KA; have KU := C3.on HCU.out H22.out.q.tg.bel; obtain ⟨q0, q1, q2⟩ := KU; have KR := H22.out.q.w.b.2; obtain ⟨r0, r1, r2, r3, r4, r5, r6⟩ := KR; have x0 := trivial; have x1 := trivial; have x2 := trivial; have y0 := trivial; have y1 := trivial; have y2 := trivial; have KG := H22.out.g.2; obtain ⟨g0, g1, g2, g3, g4, g5, g6⟩ := KG)
            | (go_at_call 27; refine (HL ag bg _ _ _ _ _ H22.out.m1 H22.out.m2 (fun k hk => (H22.out.q.tg.own k (by have e : _ = 19 := hk; omega)).2) (fun k hk => (H22.out.q.tg.own k (by have e : _ = 20 := hk; omega)).2)).mono ?_; rintro e w23 ⟨rfl, hb⟩; have H23 : Hid _ := H22.out.on hb; clear H22 hb; clear p0 p1 p2 q0 q1 q2 r0 r1 r2 r3 r4 r5 r6 x0 x1 x2 y0 y1 y2 g0 g1 g2 g3 g4 g5 g6; have KA := C3.on HCA.out H23.out.q.tg.bel; obtain ⟨p0, p1, p2⟩ := KA; have KU := C3.on HCU.out H23.out.q.tg.bel; obtain ⟨q0, q1, q2⟩ := KU; have KR := H23.out.q.w.b.2; obtain ⟨r0, r1, r2, r3, r4, r5, r6⟩ := KR; have x0 := trivial; have x1 := trivial; have x2 := trivial; have y0 := trivial; have y1 := trivial; have y2 := trivial; have KG := H23.out.g.2; obtain ⟨g0, g1, g2, g3, g4, g5, g6⟩ := KG))
          have hB23 : Below W.heap.size W w23 := H23.out.q.tg.bel
          have hB23' : Below w.heap.size w w23 := hB0.trans (hB23.mono hB0.size)
          have hBW := hB23
          refine wp_region_keeps (by kernel_rfl) (rs := [0, 1, 2, 3, 4, 5, 6, 7, 8, 9]) (fun L a' Z => ∃ (s100 s101 s102 s103 s104 s105 s106 s107 s18 : Value) (o : Nat → Nat), a' = ({ tmps := #[.slice a0 ss.length cap0, .bool p, .agg #[.int .i64 t.f, .int .i64 t.v, .slice a t.kids.length c], .agg #[.int .i64 u.f, .int .i64 u.v, .slice b u.kids.length d], undef, undef, .pointer (some ⟨w.heap.size, 0, none⟩), .pointer (some ⟨w.heap.size + 1, 0, none⟩), .bool false, .int .i64 rr3, .pointer (some ⟨Bw, 0, none⟩), .slice (some ⟨V.heap.size, 0, none⟩) ss.length ss.length, .pointer (some ⟨w8.heap.size, 0, none⟩), .pointer (some ⟨w9.heap.size, 0, none⟩), .pointer (some ⟨w10.heap.size, 0, none⟩), .int .i64 (1 + 3 * (ss.length : Int) + 2 * ((partsL t.kids : Nat) : Int) + 2 * ((partsL u.kids : Nat) : Int)), .int .i64 (1 + 2 * ((partsL X.l.kids : Nat) : Int) + 2 * ((partsL X.r.kids : Nat) : Int)), .int .i64 (1 + 2 * ((partsL X.l.kids : Nat) : Int) + 2 * ((partsL X.r.kids : Nat) : Int)), s18, .slice a0 ss.length cap0, .int .i64 1048576, .int .i64 r, .int .i64 r, .bool (decide (r < 0)), .agg #[.int .i64 t.f, .int .i64 t.v, .slice a t.kids.length c], .int .i64 r, .int .i64 rr2, .int .i64 rr2, .bool (decide (rr2 < 0)), .agg #[.int .i64 u.f, .int .i64 u.v, .slice b u.kids.length d], .int .i64 rr2, .int .i64 rr3, .int .i64 rr3, .bool (decide (rr3 < 0)), s34, s35, s36, s37, s38, s39, s40, s41, .slice a0 ss.length cap0, .slice (some ⟨V.heap.size, 0, none⟩) ss.length ss.length, .agg #[.int .i64 t.f, .int .i64 t.v, .slice a t.kids.length c], .agg #[.int .i64 t.f, .int .i64 t.v, .slice yx t.kids.length t.kids.length], .agg #[.int .i64 u.f, .int .i64 u.v, .slice b u.kids.length d], .agg #[.int .i64 u.f, .int .i64 u.v, .slice yy u.kids.length u.kids.length], .slice (some ⟨V.heap.size, 0, none⟩) ss.length ss.length, .bool p, .agg #[.int .i64 t.f, .int .i64 t.v, .slice yx t.kids.length t.kids.length], .agg #[.int .i64 u.f, .int .i64 u.v, .slice yy u.kids.length u.kids.length], .agg #[.bool X.p, .int .i64 X.l.f, .int .i64 X.l.v, .slice ag X.l.kids.length cg, .int .i64 X.r.f, .int .i64 X.r.v, .slice bg X.r.kids.length dg], .agg #[.bool X.p, .int .i64 X.l.f, .int .i64 X.l.v, .slice ag X.l.kids.length cg, .int .i64 X.r.f, .int .i64 X.r.v, .slice bg X.r.kids.length dg], .agg #[.bool X.p, .int .i64 X.l.f, .int .i64 X.l.v, .slice aw X.l.kids.length cw, .int .i64 X.r.f, .int .i64 X.r.v, .slice bw X.r.kids.length dw], .bool true, .bool false, .slice (some ⟨V.heap.size, 0, none⟩) ss.length ss.length, .slice a0 ss.length cap0, .slice (some ⟨w11.heap.size, 0, none⟩) ss.length ss.length, .bool true, .bool false, .agg #[.int .i64 t.f, .int .i64 t.v, .slice yx t.kids.length t.kids.length], .agg #[.int .i64 t.f, .int .i64 t.v, .slice a t.kids.length c], .agg #[.int .i64 t.f, .int .i64 t.v, .slice zx t.kids.length t.kids.length], .bool true, .bool false, .agg #[.int .i64 u.f, .int .i64 u.v, .slice yy u.kids.length u.kids.length], .agg #[.int .i64 u.f, .int .i64 u.v, .slice b u.kids.length d], .agg #[.int .i64 u.f, .int .i64 u.v, .slice zy u.kids.length u.kids.length], .bool true, .bool false, .slice (some ⟨V.heap.size, 0, none⟩) ss.length ss.length, .int .i64 1, .int .i64 (1 + 3 * (ss.length : Int)), .agg #[.int .i64 t.f, .int .i64 t.v, .slice yx t.kids.length t.kids.length], .int .i64 (1 + 3 * (ss.length : Int)), .int .i64 (1 + 3 * (ss.length : Int) + 2 * ((partsL t.kids : Nat) : Int)), .agg #[.int .i64 u.f, .int .i64 u.v, .slice yy u.kids.length u.kids.length], .int .i64 (1 + 3 * (ss.length : Int) + 2 * ((partsL t.kids : Nat) : Int)), .int .i64 (1 + 3 * (ss.length : Int) + 2 * ((partsL t.kids : Nat) : Int) + 2 * ((partsL u.kids : Nat) : Int)), .int .i64 (1 + 3 * (ss.length : Int) + 2 * ((partsL t.kids : Nat) : Int) + 2 * ((partsL u.kids : Nat) : Int)), .bool (decide (1 + 3 * (ss.length : Int) + 2 * ((partsL t.kids : Nat) : Int) + 2 * ((partsL u.kids : Nat) : Int) < 0)), .bool (decide (1 + 3 * (ss.length : Int) + 2 * ((partsL t.kids : Nat) : Int) + 2 * ((partsL u.kids : Nat) : Int) < 0)), .agg #[.bool X.p, .int .i64 X.l.f, .int .i64 X.l.v, .slice ag X.l.kids.length cg, .int .i64 X.r.f, .int .i64 X.r.v, .slice bg X.r.kids.length dg], .agg #[.bool X.p, .int .i64 X.l.f, .int .i64 X.l.v, .slice aw X.l.kids.length cw, .int .i64 X.r.f, .int .i64 X.r.v, .slice bw X.r.kids.length dw], .bool true, .bool false, .bool (decide (1 + 3 * (ss.length : Int) + 2 * ((partsL t.kids : Nat) : Int) + 2 * ((partsL u.kids : Nat) : Int) < 0)), .agg #[.bool X.p, .int .i64 X.l.f, .int .i64 X.l.v, .slice ag X.l.kids.length cg, .int .i64 X.r.f, .int .i64 X.r.v, .slice bg X.r.kids.length dg], .int .i64 1, .int .i64 (1 + 2 * ((partsL X.l.kids : Nat) : Int) + 2 * ((partsL X.r.kids : Nat) : Int)), .agg #[.bool X.p, .int .i64 X.l.f, .int .i64 X.l.v, .slice ag X.l.kids.length cg, .int .i64 X.r.f, .int .i64 X.r.v, .slice bg X.r.kids.length dg], .int .i64 1, .int .i64 (1 + 2 * ((partsL X.l.kids : Nat) : Int) + 2 * ((partsL X.r.kids : Nat) : Int)), .int .i64 (1 + 2 * ((partsL X.l.kids : Nat) : Int) + 2 * ((partsL X.r.kids : Nat) : Int)), .bool (decide (1 + 2 * ((partsL X.l.kids : Nat) : Int) + 2 * ((partsL X.r.kids : Nat) : Int) < 0)), .int .i64 (1 + 2 * ((partsL X.l.kids : Nat) : Int) + 2 * ((partsL X.r.kids : Nat) : Int)), .int .i64 (1 + 2 * ((partsL X.l.kids : Nat) : Int) + 2 * ((partsL X.r.kids : Nat) : Int)), .bool false, s100, s101, s102, s103, s104, s105, s106, s107, undef, undef, undef, undef, undef, undef, undef, undef, undef, undef, undef, undef], defers := [] } : Act) ∧ (Dn L 0 → s100 = .slice a0 ss.length cap0) ∧ (Dn L 2 → s102 = .bool p) ∧ (Dn L 3 → s103 = .agg #[.int .i64 t.f, .int .i64 t.v, .slice a t.kids.length c]) ∧ (Dn L 5 → s105 = .agg #[.int .i64 u.f, .int .i64 u.v, .slice b u.kids.length d]) ∧ LW w23 ss t u X L o Z s101 s104 s106 s107 s18) (by kernel_rfl) (by kernel_rfl) ⟨_, _, _, _, _, _, _, _, _, fun _ => 0, rfl, fun h => absurd h dn_none, fun h => absurd h dn_none, fun h => absurd h dn_none, fun h => absurd h dn_none, LW.start w23 _ _ _ _ _ _ _ _ _ _⟩ (fun L a' Z hd h => ?_) ?_
          · obtain ⟨s100, s101, s102, s103, s104, s105, s106, s107, s18, o, rfl, -, -, -, -, hM⟩ := h
            obtain ⟨Bh, ah, ch, bh, dh, rfl, HX⟩ := hM.fin (hd 7 (by decide)) (hd 9 (by decide))
            have H24 : Hid _ := H23.out.on hM.tg.bel
            have HK : Hid (RdK Z Z.heap.size ah X.l.kids ∧ RdK Z Z.heap.size bh X.r.kids) := ⟨HX.k1.rd, HX.k2.rd⟩
            have KH := HX.b.2
            obtain ⟨k0, k1, k2, k3, k4, k5, k6⟩ := KH
            clear hM hd HX H23 hB23 hB23' hBW
            clear p0 p1 p2 q0 q1 q2 r0 r1 r2 r3 r4 r5 r6 x0 x1 x2 y0 y1 y2 g0 g1 g2 g3 g4 g5 g6; have KA := C3.on HCA.out H24.out.q.tg.bel; obtain ⟨p0, p1, p2⟩ := KA; have KU := C3.on HCU.out H24.out.q.tg.bel; obtain ⟨q0, q1, q2⟩ := KU; have KR := H24.out.q.w.b.2; obtain ⟨r0, r1, r2, r3, r4, r5, r6⟩ := KR; have x0 := trivial; have x1 := trivial; have x2 := trivial; have y0 := trivial; have y1 := trivial; have y2 := trivial; have KG := H24.out.g.2; obtain ⟨g0, g1, g2, g3, g4, g5, g6⟩ := KG
            go_wp2_with (first
              | (go_at_call 21; refine (EX ah bh aw bw _ _ _ _ _ _ HK.out.1 HK.out.2 H24.out.q.w.k1.rd H24.out.q.w.k2.rd (Nat.le_refl _)).mono ?_; rintro e w25 ⟨rfl, hb⟩; have H25 : Hid _ := H24.out.on hb; clear H24 hb; clear k0 k1 k2 k3 k4 k5 k6 HK; clear p0 p1 p2 q0 q1 q2 r0 r1 r2 r3 r4 r5 r6 x0 x1 x2 y0 y1 y2 g0 g1 g2 g3 g4 g5 g6; have KA := C3.on HCA.out H25.out.q.tg.bel; obtain ⟨p0, p1, p2⟩ := KA; have KU := C3.on HCU.out H25.out.q.tg.bel; obtain ⟨q0, q1, q2⟩ := KU; have KR := H25.out.q.w.b.2; obtain ⟨r0, r1, r2, r3, r4, r5, r6⟩ := KR; have x0 := trivial; have x1 := trivial; have x2 := trivial; have y0 := trivial; have y1 := trivial; have y2 := trivial; have KG := H25.out.g.2; obtain ⟨g0, g1, g2, g3, g4, g5, g6⟩ := KG)
              | (go_at_call 27; refine (HL ag bg _ _ _ _ _ H25.out.m1 H25.out.m2 (fun k hk => (H25.out.q.tg.own k (by have e : _ = 19 := hk; omega)).2) (fun k hk => (H25.out.q.tg.own k (by have e : _ = 20 := hk; omega)).2)).mono ?_; rintro e w26 ⟨rfl, hb⟩; have H26 : Hid _ := H25.out.on hb; clear H25 hb))
            go_ret
            exact ⟨rfl, (hB0.trans (Below.mono H26.out.q.tg.bel hB0.size))⟩
          refine KeepAll.cons (ds := []) rfl (by kernel_rfl) (fun L a' Z K hK hL hcl hn hd hI => ?_) ?_
          · obtain ⟨s100, s101, s102, s103, s104, s105, s106, s107, s18, o, rfl, h0, h2, h3, h5, hM⟩ := hI
            go_simp
            exact hK _ _ ⟨_, _, _, _, _, _, _, _, _, o, rfl, (by first | exact fun _ => rfl | exact fun q => h0 (((dn_set hL).1 q).resolve_left (by decide))), (by first | exact fun _ => rfl | exact fun q => h2 (((dn_set hL).1 q).resolve_left (by decide))), (by first | exact fun _ => rfl | exact fun q => h3 (((dn_set hL).1 q).resolve_left (by decide))), (by first | exact fun _ => rfl | exact fun q => h5 (((dn_set hL).1 q).resolve_left (by decide))), hM.pure hL ⟨by decide, by decide, by decide, by decide, by decide, by decide⟩⟩
          refine KeepAll.cons (ds := [0]) rfl (by kernel_rfl) (fun L a' Z K hK hL hcl hn hd hI => ?_) ?_
          · obtain ⟨s100, s101, s102, s103, s104, s105, s106, s107, s18, o, rfl, h0, h2, h3, h5, hM⟩ := hI
            obtain rfl := h0 (hd 0 (by simp))
            go_simp
            refine (toSyms_any a0 ss _ cap0 Z rfl (hr0.below (hB23'.trans (hM.tg.bel.mono hB23'.size))) hl).mono ?_
            rintro e V2 ⟨rfl, ho, hb⟩
            exact hK _ _ ⟨_, _, _, _, _, _, _, _, _, o, rfl, (by first | exact fun _ => rfl | exact fun q => h0 (((dn_set hL).1 q).resolve_left (by decide))), (by first | exact fun _ => rfl | exact fun q => h2 (((dn_set hL).1 q).resolve_left (by decide))), (by first | exact fun _ => rfl | exact fun q => h3 (((dn_set hL).1 q).resolve_left (by decide))), (by first | exact fun _ => rfl | exact fun q => h5 (((dn_set hL).1 q).resolve_left (by decide))), hM.sym hL hb ho⟩
          refine KeepAll.cons (ds := []) rfl (by kernel_rfl) (fun L a' Z K hK hL hcl hn hd hI => ?_) ?_
          · obtain ⟨s100, s101, s102, s103, s104, s105, s106, s107, s18, o, rfl, h0, h2, h3, h5, hM⟩ := hI
            go_simp
            exact hK _ _ ⟨_, _, _, _, _, _, _, _, _, o, rfl, (by first | exact fun _ => rfl | exact fun q => h0 (((dn_set hL).1 q).resolve_left (by decide))), (by first | exact fun _ => rfl | exact fun q => h2 (((dn_set hL).1 q).resolve_left (by decide))), (by first | exact fun _ => rfl | exact fun q => h3 (((dn_set hL).1 q).resolve_left (by decide))), (by first | exact fun _ => rfl | exact fun q => h5 (((dn_set hL).1 q).resolve_left (by decide))), hM.pure hL ⟨by decide, by decide, by decide, by decide, by decide, by decide⟩⟩
          refine KeepAll.cons (ds := []) rfl (by kernel_rfl) (fun L a' Z K hK hL hcl hn hd hI => ?_) ?_
          · obtain ⟨s100, s101, s102, s103, s104, s105, s106, s107, s18, o, rfl, h0, h2, h3, h5, hM⟩ := hI
            have KC := C3.on HCA.out (hBW.trans (hM.tg.bel.mono hBW.size))
            obtain ⟨k0, k1, k2⟩ := KC
            go_simp
            exact hK _ _ ⟨_, _, _, _, _, _, _, _, _, o, rfl, (by first | exact fun _ => rfl | exact fun q => h0 (((dn_set hL).1 q).resolve_left (by decide))), (by first | exact fun _ => rfl | exact fun q => h2 (((dn_set hL).1 q).resolve_left (by decide))), (by first | exact fun _ => rfl | exact fun q => h3 (((dn_set hL).1 q).resolve_left (by decide))), (by first | exact fun _ => rfl | exact fun q => h5 (((dn_set hL).1 q).resolve_left (by decide))), hM.pure hL ⟨by decide, by decide, by decide, by decide, by decide, by decide⟩⟩
          refine KeepAll.cons (ds := [3, 1]) rfl (by kernel_rfl) (fun L a' Z K hK hL hcl hn hd hI => ?_) ?_
          · obtain ⟨s100, s101, s102, s103, s104, s105, s106, s107, s18, o, rfl, h0, h2, h3, h5, hM⟩ := hI
            obtain rfl := h3 (hd 3 (by simp))
            go_simp
            refine (toTerm_any t a c w.heap.size Z hp1 (hrt.on (hB23'.trans (hM.tg.bel.mono hB23'.size))) (hB23'.trans (hM.tg.bel.mono hB23'.size)).size).mono ?_
            rintro e V2 ⟨y, rfl, ho, hb⟩
            exact hK _ _ ⟨_, _, _, _, _, _, _, _, _, o, rfl, (by first | exact fun _ => rfl | exact fun q => h0 (((dn_set hL).1 q).resolve_left (by decide))), (by first | exact fun _ => rfl | exact fun q => h2 (((dn_set hL).1 q).resolve_left (by decide))), (by first | exact fun _ => rfl | exact fun q => h3 (((dn_set hL).1 q).resolve_left (by decide))), (by first | exact fun _ => rfl | exact fun q => h5 (((dn_set hL).1 q).resolve_left (by decide))), hM.kidT hL hb ho⟩
          refine KeepAll.cons (ds := []) rfl (by kernel_rfl) (fun L a' Z K hK hL hcl hn hd hI => ?_) ?_
          · obtain ⟨s100, s101, s102, s103, s104, s105, s106, s107, s18, o, rfl, h0, h2, h3, h5, hM⟩ := hI
            have KC := C3.on HCU.out (hBW.trans (hM.tg.bel.mono hBW.size))
            obtain ⟨k0, k1, k2⟩ := KC
            go_simp
            exact hK _ _ ⟨_, _, _, _, _, _, _, _, _, o, rfl, (by first | exact fun _ => rfl | exact fun q => h0 (((dn_set hL).1 q).resolve_left (by decide))), (by first | exact fun _ => rfl | exact fun q => h2 (((dn_set hL).1 q).resolve_left (by decide))), (by first | exact fun _ => rfl | exact fun q => h3 (((dn_set hL).1 q).resolve_left (by decide))), (by first | exact fun _ => rfl | exact fun q => h5 (((dn_set hL).1 q).resolve_left (by decide))), hM.pure hL ⟨by decide, by decide, by decide, by decide, by decide, by decide⟩⟩
          refine KeepAll.cons (ds := [5, 4]) rfl (by kernel_rfl) (fun L a' Z K hK hL hcl hn hd hI => ?_) ?_
          · obtain ⟨s100, s101, s102, s103, s104, s105, s106, s107, s18, o, rfl, h0, h2, h3, h5, hM⟩ := hI
            obtain rfl := h5 (hd 5 (by simp))
            go_simp
            refine (toTerm_any u b d w.heap.size Z hp2 (hru.on (hB23'.trans (hM.tg.bel.mono hB23'.size))) (hB23'.trans (hM.tg.bel.mono hB23'.size)).size).mono ?_
            rintro e V2 ⟨y, rfl, ho, hb⟩
            exact hK _ _ ⟨_, _, _, _, _, _, _, _, _, o, rfl, (by first | exact fun _ => rfl | exact fun q => h0 (((dn_set hL).1 q).resolve_left (by decide))), (by first | exact fun _ => rfl | exact fun q => h2 (((dn_set hL).1 q).resolve_left (by decide))), (by first | exact fun _ => rfl | exact fun q => h3 (((dn_set hL).1 q).resolve_left (by decide))), (by first | exact fun _ => rfl | exact fun q => h5 (((dn_set hL).1 q).resolve_left (by decide))), hM.kidU hL hb ho⟩
          refine KeepAll.cons (ds := [1, 2, 4, 6, 6]) rfl (by kernel_rfl) (fun L a' Z K hK hL hcl hn hd hI => ?_) ?_
          · obtain ⟨s100, s101, s102, s103, s104, s105, s106, s107, s18, o, rfl, h0, h2, h3, h5, hM⟩ := hI
            have n9 : ¬ Dn L 9 := (fun q => hn (hcl 9 _ rfl q 7 (by decide)))
            obtain ⟨G, rfl, hg⟩ := hM.c1 (hd 1 (by simp)) n9
            obtain ⟨y, rfl, hy⟩ := hM.c4 (hd 4 (by simp)) n9
            obtain ⟨z, rfl, hz⟩ := hM.c6 (hd 6 (by simp)) n9
            obtain rfl := h2 (hd 2 (by simp))
            go_simp
            refine (CJ _ y z _ _ _ _ Z hg hy hz (Nat.le_refl _) (Nat.le_refl _) (Nat.le_refl _)).mono ?_
            rintro e V2 ⟨a1, c1, a2, c2, S1, S2, rfl, hX, hb⟩
            obtain ⟨o2, hM2⟩ := hM.call hL n9 hb hX
            exact hK _ _ ⟨_, _, _, _, _, _, _, _, _, o2, rfl, (by first | exact fun _ => rfl | exact fun q => h0 (((dn_set hL).1 q).resolve_left (by decide))), (by first | exact fun _ => rfl | exact fun q => h2 (((dn_set hL).1 q).resolve_left (by decide))), (by first | exact fun _ => rfl | exact fun q => h3 (((dn_set hL).1 q).resolve_left (by decide))), (by first | exact fun _ => rfl | exact fun q => h5 (((dn_set hL).1 q).resolve_left (by decide))), hM2⟩
          refine KeepAll.cons (ds := []) rfl (by kernel_rfl) (fun L a' Z K hK hL hcl hn hd hI => ?_) ?_
          · obtain ⟨s100, s101, s102, s103, s104, s105, s106, s107, s18, o, rfl, h0, h2, h3, h5, hM⟩ := hI
            have n9 : ¬ Dn L 9 := (fun q => hn (hcl 9 _ rfl q 8 (by decide)))
            go_simp
            obtain ⟨o2, hM2⟩ := hM.box hL n9 43
            exact hK _ _ ⟨_, _, _, _, _, _, _, _, _, o2, rfl, (by first | exact fun _ => rfl | exact fun q => h0 (((dn_set hL).1 q).resolve_left (by decide))), (by first | exact fun _ => rfl | exact fun q => h2 (((dn_set hL).1 q).resolve_left (by decide))), (by first | exact fun _ => rfl | exact fun q => h3 (((dn_set hL).1 q).resolve_left (by decide))), (by first | exact fun _ => rfl | exact fun q => h5 (((dn_set hL).1 q).resolve_left (by decide))), hM2⟩
          refine KeepAll.cons (ds := [8, 7, 7, 0, 1, 2, 3, 4, 5, 6, 7, 8]) rfl (by kernel_rfl) (fun L a' Z K hK hL hcl hn hd hI => ?_) ?_
          · obtain ⟨s100, s101, s102, s103, s104, s105, s106, s107, s18, o, rfl, h0, h2, h3, h5, hM⟩ := hI
            obtain ⟨a1, c1, a2, c2, rfl, hq⟩ := hM.c7 (hd 7 (by simp))
            obtain ⟨B, rfl, hob, hR⟩ := hM.z8 (hd 8 (by simp)) hn
            obtain ⟨u0, u1, u2, u3, u4, u5, u6, uf⟩ := hR
            have f0 := uf 0
            have f1 := uf 1
            have f2 := uf 2
            have f3 := uf 3
            have f4 := uf 4
            have f5 := uf 5
            have f6 := uf 6
            have HR : R7 Z B := ⟨u0, u1, u2, u3, u4, u5, u6, uf⟩
            clear uf hq
            have hM2 := hM.put hL hob HR
            unfold litV at hM2 ⊢
            go_simp
            exact hK _ _ ⟨_, _, _, _, _, _, _, _, _, o, rfl, (by first | exact fun _ => rfl | exact fun q => h0 (((dn_set hL).1 q).resolve_left (by decide))), (by first | exact fun _ => rfl | exact fun q => h2 (((dn_set hL).1 q).resolve_left (by decide))), (by first | exact fun _ => rfl | exact fun q => h3 (((dn_set hL).1 q).resolve_left (by decide))), (by first | exact fun _ => rfl | exact fun q => h5 (((dn_set hL).1 q).resolve_left (by decide))), hM2⟩
          exact KeepAll.nil
        refine KeepAll.cons (ds := []) rfl (by kernel_rfl) (fun L a' V K hK hL hcl hn hd hI => ?_) ?_
        · obtain ⟨s34, s35, s36, s37, s38, s39, s40, s41, s10, o, rfl, h0, h2, h3, h5, hM⟩ := hI
          go_simp
          exact hK _ _ ⟨_, _, _, _, _, _, _, _, _, o, rfl, (by first | exact fun _ => rfl | exact fun q => h0 (((dn_set hL).1 q).resolve_left (by decide))), (by first | exact fun _ => rfl | exact fun q => h2 (((dn_set hL).1 q).resolve_left (by decide))), (by first | exact fun _ => rfl | exact fun q => h3 (((dn_set hL).1 q).resolve_left (by decide))), (by first | exact fun _ => rfl | exact fun q => h5 (((dn_set hL).1 q).resolve_left (by decide))), hM.pure hL ⟨by decide, by decide, by decide, by decide, by decide, by decide⟩⟩
        refine KeepAll.cons (ds := [0]) rfl (by kernel_rfl) (fun L a' V K hK hL hcl hn hd hI => ?_) ?_
        · obtain ⟨s34, s35, s36, s37, s38, s39, s40, s41, s10, o, rfl, h0, h2, h3, h5, hM⟩ := hI
          obtain rfl := h0 (hd 0 (by simp))
          go_simp
          refine (toSyms_any a0 ss _ cap0 V rfl (hr0.below (hB3'.trans (hM.tg.bel.mono hB3'.size))) hl).mono ?_
          rintro e V2 ⟨rfl, ho, hb⟩
          exact hK _ _ ⟨_, _, _, _, _, _, _, _, _, o, rfl, (by first | exact fun _ => rfl | exact fun q => h0 (((dn_set hL).1 q).resolve_left (by decide))), (by first | exact fun _ => rfl | exact fun q => h2 (((dn_set hL).1 q).resolve_left (by decide))), (by first | exact fun _ => rfl | exact fun q => h3 (((dn_set hL).1 q).resolve_left (by decide))), (by first | exact fun _ => rfl | exact fun q => h5 (((dn_set hL).1 q).resolve_left (by decide))), hM.sym hL hb ho⟩
        refine KeepAll.cons (ds := []) rfl (by kernel_rfl) (fun L a' V K hK hL hcl hn hd hI => ?_) ?_
        · obtain ⟨s34, s35, s36, s37, s38, s39, s40, s41, s10, o, rfl, h0, h2, h3, h5, hM⟩ := hI
          go_simp
          exact hK _ _ ⟨_, _, _, _, _, _, _, _, _, o, rfl, (by first | exact fun _ => rfl | exact fun q => h0 (((dn_set hL).1 q).resolve_left (by decide))), (by first | exact fun _ => rfl | exact fun q => h2 (((dn_set hL).1 q).resolve_left (by decide))), (by first | exact fun _ => rfl | exact fun q => h3 (((dn_set hL).1 q).resolve_left (by decide))), (by first | exact fun _ => rfl | exact fun q => h5 (((dn_set hL).1 q).resolve_left (by decide))), hM.pure hL ⟨by decide, by decide, by decide, by decide, by decide, by decide⟩⟩
        refine KeepAll.cons (ds := []) rfl (by kernel_rfl) (fun L a' V K hK hL hcl hn hd hI => ?_) ?_
        · obtain ⟨s34, s35, s36, s37, s38, s39, s40, s41, s10, o, rfl, h0, h2, h3, h5, hM⟩ := hI
          have KC := C3.on HCA.out (hBW.trans (hM.tg.bel.mono hBW.size))
          obtain ⟨k0, k1, k2⟩ := KC
          go_simp
          exact hK _ _ ⟨_, _, _, _, _, _, _, _, _, o, rfl, (by first | exact fun _ => rfl | exact fun q => h0 (((dn_set hL).1 q).resolve_left (by decide))), (by first | exact fun _ => rfl | exact fun q => h2 (((dn_set hL).1 q).resolve_left (by decide))), (by first | exact fun _ => rfl | exact fun q => h3 (((dn_set hL).1 q).resolve_left (by decide))), (by first | exact fun _ => rfl | exact fun q => h5 (((dn_set hL).1 q).resolve_left (by decide))), hM.pure hL ⟨by decide, by decide, by decide, by decide, by decide, by decide⟩⟩
        refine KeepAll.cons (ds := [3, 1]) rfl (by kernel_rfl) (fun L a' V K hK hL hcl hn hd hI => ?_) ?_
        · obtain ⟨s34, s35, s36, s37, s38, s39, s40, s41, s10, o, rfl, h0, h2, h3, h5, hM⟩ := hI
          obtain rfl := h3 (hd 3 (by simp))
          go_simp
          refine (toTerm_any t a c w.heap.size V hp1 (hrt.on (hB3'.trans (hM.tg.bel.mono hB3'.size))) (hB3'.trans (hM.tg.bel.mono hB3'.size)).size).mono ?_
          rintro e V2 ⟨y, rfl, ho, hb⟩
          exact hK _ _ ⟨_, _, _, _, _, _, _, _, _, o, rfl, (by first | exact fun _ => rfl | exact fun q => h0 (((dn_set hL).1 q).resolve_left (by decide))), (by first | exact fun _ => rfl | exact fun q => h2 (((dn_set hL).1 q).resolve_left (by decide))), (by first | exact fun _ => rfl | exact fun q => h3 (((dn_set hL).1 q).resolve_left (by decide))), (by first | exact fun _ => rfl | exact fun q => h5 (((dn_set hL).1 q).resolve_left (by decide))), hM.kidT hL hb ho⟩
        refine KeepAll.cons (ds := []) rfl (by kernel_rfl) (fun L a' V K hK hL hcl hn hd hI => ?_) ?_
        · obtain ⟨s34, s35, s36, s37, s38, s39, s40, s41, s10, o, rfl, h0, h2, h3, h5, hM⟩ := hI
          have KC := C3.on HCU.out (hBW.trans (hM.tg.bel.mono hBW.size))
          obtain ⟨k0, k1, k2⟩ := KC
          go_simp
          exact hK _ _ ⟨_, _, _, _, _, _, _, _, _, o, rfl, (by first | exact fun _ => rfl | exact fun q => h0 (((dn_set hL).1 q).resolve_left (by decide))), (by first | exact fun _ => rfl | exact fun q => h2 (((dn_set hL).1 q).resolve_left (by decide))), (by first | exact fun _ => rfl | exact fun q => h3 (((dn_set hL).1 q).resolve_left (by decide))), (by first | exact fun _ => rfl | exact fun q => h5 (((dn_set hL).1 q).resolve_left (by decide))), hM.pure hL ⟨by decide, by decide, by decide, by decide, by decide, by decide⟩⟩
        refine KeepAll.cons (ds := [5, 4]) rfl (by kernel_rfl) (fun L a' V K hK hL hcl hn hd hI => ?_) ?_
        · obtain ⟨s34, s35, s36, s37, s38, s39, s40, s41, s10, o, rfl, h0, h2, h3, h5, hM⟩ := hI
          obtain rfl := h5 (hd 5 (by simp))
          go_simp
          refine (toTerm_any u b d w.heap.size V hp2 (hru.on (hB3'.trans (hM.tg.bel.mono hB3'.size))) (hB3'.trans (hM.tg.bel.mono hB3'.size)).size).mono ?_
          rintro e V2 ⟨y, rfl, ho, hb⟩
          exact hK _ _ ⟨_, _, _, _, _, _, _, _, _, o, rfl, (by first | exact fun _ => rfl | exact fun q => h0 (((dn_set hL).1 q).resolve_left (by decide))), (by first | exact fun _ => rfl | exact fun q => h2 (((dn_set hL).1 q).resolve_left (by decide))), (by first | exact fun _ => rfl | exact fun q => h3 (((dn_set hL).1 q).resolve_left (by decide))), (by first | exact fun _ => rfl | exact fun q => h5 (((dn_set hL).1 q).resolve_left (by decide))), hM.kidU hL hb ho⟩
        refine KeepAll.cons (ds := [1, 2, 4, 6, 6]) rfl (by kernel_rfl) (fun L a' V K hK hL hcl hn hd hI => ?_) ?_
        · obtain ⟨s34, s35, s36, s37, s38, s39, s40, s41, s10, o, rfl, h0, h2, h3, h5, hM⟩ := hI
          have n9 : ¬ Dn L 9 := (fun q => hn (hcl 9 _ rfl q 7 (by decide)))
          obtain ⟨G, rfl, hg⟩ := hM.c1 (hd 1 (by simp)) n9
          obtain ⟨y, rfl, hy⟩ := hM.c4 (hd 4 (by simp)) n9
          obtain ⟨z, rfl, hz⟩ := hM.c6 (hd 6 (by simp)) n9
          obtain rfl := h2 (hd 2 (by simp))
          go_simp
          refine (CS _ y z _ _ _ _ V hg hy hz (Nat.le_refl _)).mono ?_
          rintro e V2 ⟨a1, c1, a2, c2, S1, S2, rfl, hX, hb⟩
          obtain ⟨o2, hM2⟩ := hM.call hL n9 hb hX
          exact hK _ _ ⟨_, _, _, _, _, _, _, _, _, o2, rfl, (by first | exact fun _ => rfl | exact fun q => h0 (((dn_set hL).1 q).resolve_left (by decide))), (by first | exact fun _ => rfl | exact fun q => h2 (((dn_set hL).1 q).resolve_left (by decide))), (by first | exact fun _ => rfl | exact fun q => h3 (((dn_set hL).1 q).resolve_left (by decide))), (by first | exact fun _ => rfl | exact fun q => h5 (((dn_set hL).1 q).resolve_left (by decide))), hM2⟩
        refine KeepAll.cons (ds := []) rfl (by kernel_rfl) (fun L a' V K hK hL hcl hn hd hI => ?_) ?_
        · obtain ⟨s34, s35, s36, s37, s38, s39, s40, s41, s10, o, rfl, h0, h2, h3, h5, hM⟩ := hI
          have n9 : ¬ Dn L 9 := (fun q => hn (hcl 9 _ rfl q 8 (by decide)))
          go_simp
          obtain ⟨o2, hM2⟩ := hM.box hL n9 43
          exact hK _ _ ⟨_, _, _, _, _, _, _, _, _, o2, rfl, (by first | exact fun _ => rfl | exact fun q => h0 (((dn_set hL).1 q).resolve_left (by decide))), (by first | exact fun _ => rfl | exact fun q => h2 (((dn_set hL).1 q).resolve_left (by decide))), (by first | exact fun _ => rfl | exact fun q => h3 (((dn_set hL).1 q).resolve_left (by decide))), (by first | exact fun _ => rfl | exact fun q => h5 (((dn_set hL).1 q).resolve_left (by decide))), hM2⟩
        refine KeepAll.cons (ds := [8, 7, 7, 0, 1, 2, 3, 4, 5, 6, 7, 8]) rfl (by kernel_rfl) (fun L a' V K hK hL hcl hn hd hI => ?_) ?_
        · obtain ⟨s34, s35, s36, s37, s38, s39, s40, s41, s10, o, rfl, h0, h2, h3, h5, hM⟩ := hI
          obtain ⟨a1, c1, a2, c2, rfl, hq⟩ := hM.c7 (hd 7 (by simp))
          obtain ⟨B, rfl, hob, hR⟩ := hM.z8 (hd 8 (by simp)) hn
          obtain ⟨u0, u1, u2, u3, u4, u5, u6, uf⟩ := hR
          have f0 := uf 0
          have f1 := uf 1
          have f2 := uf 2
          have f3 := uf 3
          have f4 := uf 4
          have f5 := uf 5
          have f6 := uf 6
          have HR : R7 V B := ⟨u0, u1, u2, u3, u4, u5, u6, uf⟩
          clear uf hq
          have hM2 := hM.put hL hob HR
          unfold litV at hM2 ⊢
          go_simp
          exact hK _ _ ⟨_, _, _, _, _, _, _, _, _, o, rfl, (by first | exact fun _ => rfl | exact fun q => h0 (((dn_set hL).1 q).resolve_left (by decide))), (by first | exact fun _ => rfl | exact fun q => h2 (((dn_set hL).1 q).resolve_left (by decide))), (by first | exact fun _ => rfl | exact fun q => h3 (((dn_set hL).1 q).resolve_left (by decide))), (by first | exact fun _ => rfl | exact fun q => h5 (((dn_set hL).1 q).resolve_left (by decide))), hM2⟩
        exact KeepAll.nil
      · rw [show szR u.kids rr2 = -1 by unfold szR; rw [if_neg hb2]] at SU
        clear hpt hpu hr2s
        go_wp2_with (first
          | (go_at_call_of 16 a; refine SZ.mono ?_; rintro e w2 ⟨rfl, hb⟩; have hB2 : Below W.heap.size W w2 := hB1.trans (hb.mono hB1.size); clear p0 p1 p2 q0 q1 q2; have KU := C3.on HCU.out hB2; obtain ⟨q0, q1, q2⟩ := KU; clear SZ hb hB1 hB1')
          | (go_at_call_of 16 b; refine (SU w2 (hB0.trans (hB2.mono hB0.size))).mono ?_; rintro e w3 ⟨rfl, hb⟩; have hB3 : Below W.heap.size W w3 := hB2.trans (hb.mono hB2.size); clear SU hb))
        go_ret
        exact ⟨rfl, hB0.trans (hB3.mono hB0.size)⟩
    · rw [show szR t.kids r = -1 by unfold szR; rw [if_neg hb1]] at SZ
      clear hpt hpu
      go_wp2_with (go_at_call 16; refine SZ.mono ?_; rintro e w2 ⟨rfl, hb⟩; have hB2 : Below W.heap.size W w2 := hB1.trans (hb.mono hB1.size); clear SZ hb)
      go_ret
      exact ⟨rfl, hB0.trans (hB2.mono hB0.size)⟩

set_option maxRecDepth 100000 in
theorem lifted (os : Os) (started : os.Started) (H : Type) (enc : TypeId × Value → H) :
    ReturnsInHanded {} Try.checked os 4 .any (Rows.fnExactLitMakeSpec.pre6 enc Try.prog Try.f4 Rows.fnExactLitMakeRow.domain false) (Rows.fnExactLitMakeSpec.post enc Try.prog Try.f4 false true false false) := by
  refine returnsInHanded_of_change (C := Try.checked) own started (by kernel_rfl) Try.func4
    (ChangeSpec.witness6 (enc := enc) (C := Try.checked) false ⟨#[], #[.slice none 0 0, .bool false, .agg #[.int .i64 0, .int .i64 0, .slice none 0 0], .agg #[.int .i64 0, .int .i64 0, .slice none 0 0]], []⟩ 8 (by kernel_rfl) (by kernel_rfl) (by kernel_rfl) (by kernel_rfl)) ?_
  intro W base args ds gs before hval0 hW hcnd _
  have hval : ∀ (j : Nat) t v, Try.f4.params[j]? = some t → args[j]? = some v → Value.okWide Try.prog W .any base t v := hval0
  have hW' := hW
  obtain ⟨p, q, hA0, hV, rfl, hfz, hnd⟩ := hW
  have hA : DataW.TrodAll enc Try.prog W 0 (fun _ => true) true Try.f4.params.toList args.toList ds p := hA0
  rw [Try.params4] at hA hval
  obtain ⟨v0, vs0, d0, ds0, p0, q0, hargs, rfl, rfl, h0, r0⟩ := trodAll_cons hA
  obtain ⟨v1, vs1, d1, ds1, p1, q1, rfl, rfl, rfl, h1, r1⟩ := trodAll_cons r0
  obtain ⟨v2, vs2, d2, ds2, p2, q2, rfl, rfl, rfl, h2, r2⟩ := trodAll_cons r1
  obtain ⟨v3, vs3, d3, ds3, p3, q3, rfl, rfl, rfl, h3, r3⟩ := trodAll_cons r2
  obtain ⟨rfl, rfl, rfl⟩ := trodAll_nil r3
  obtain rfl : args = #[v0, v1, v2, v3] := by cases args; simp_all
  obtain ⟨rfl, rfl⟩ := trodVars_none hV
  obtain ⟨a0, len0, cap0, rfl⟩ := okWide_slice Try.underlying36 (hval 0 36 v0 rfl rfl)
  have k0 := h0
  have lt0 : ∀ x ∈ p0, x.block < W.heap.size := by obtain ⟨m, hm⟩ := k0; exact DataW.trod_lt m _ _ _ hm
  obtain ⟨ss0, hn0, hle0, hr0, hall0⟩ := open_syms rfl h0
  obtain ⟨a1, rfl, rfl, rfl⟩ := open_flag Try.underlying4 (hval 1 4 v1 rfl rfl) h1
  obtain ⟨cs2, rfl, _⟩ := okWide_struct Try.underlying39 (hval 2 39 v2 rfl rfl)
  have k2 := h2
  have lt2 : ∀ x ∈ p2, x.block < W.heap.size := by obtain ⟨m, hm⟩ := k2; exact DataW.trod_lt m _ _ _ hm
  obtain ⟨t2, a2, c2, e2, hf2, hv2, hle2, hr2⟩ := open_term rfl h2
  obtain rfl : cs2 = #[.int .i64 t2.f, .int .i64 t2.v, .slice a2 t2.kids.length c2] := by simpa using e2
  obtain ⟨cs3, rfl, _⟩ := okWide_struct Try.underlying39 (hval 3 39 v3 rfl rfl)
  have k3 := h3
  have lt3 : ∀ x ∈ p3, x.block < W.heap.size := by obtain ⟨m, hm⟩ := k3; exact DataW.trod_lt m _ _ _ hm
  obtain ⟨t3, a3, c3, e3, hf3, hv3, hle3, hr3⟩ := open_term rfl h3
  obtain rfl : cs3 = #[.int .i64 t3.f, .int .i64 t3.v, .slice a3 t3.kids.length c3] := by simpa using e3
  clear hA0 hval0
  refine (walk W a0 len0 cap0 ss0 hn0 hle0 hr0 hall0 a1 t2 a2 c2 hf2 hv2 hle2.1 hr2 t3 a3 c3 hf3 hv3 hle3.1 hr3).mono fun e W' ⟨he, bel⟩ => ?_
  subst he
  exact ⟨_, rfl, _, _, _, [], _, [], hW', trodAll_mk1 (shut_bool Try.underlying4 _), (trodAll_cons_mk (Below.trod laidOut (by kernel_rfl) (of_decide_eq_true (by kernel_rfl)) k0 bel lt0) (trodAll_cons_mk (shut_bool Try.underlying4 _) (trodAll_cons_mk (Below.trod laidOut (by kernel_rfl) (of_decide_eq_true (by kernel_rfl)) k2 bel lt2) (trodAll_cons_mk (Below.trod laidOut (by kernel_rfl) (of_decide_eq_true (by kernel_rfl)) k3 bel lt3) trodAll_mk0)))), by first | rfl | simp, bel.frame _, fun h => by cases h⟩

theorem over : Rows.fnExactLitMakeRow.holds Try.pinned (OpenSpec.ofChange Rows.fnExactLitMakeSpec) :=
  OpenClaim.holds_of_wide 4 Try.f4 rfl rfl rfl rfl rfl rfl rfl ⟨rfl, rfl, rfl, rfl, rfl⟩ rfl rfl rfl rfl rfl (by kernel_rfl) Try.func4 (by kernel_rfl)
    (of_decide_eq_true (by kernel_rfl)) (by unfold Func.isWrapper; first | (rw [if_pos (by decide +kernel)]; kernel_rfl) | (rw [if_neg (by decide +kernel)]; exact ⟨rfl, rfl⟩))
    (fun os started H enc _ => lifted os started H enc)

theorem proved : Rows.FnExactLitMakeSaid := over
end Go.Proofs.Ytollijngiioonaa.fnExactLitMake
namespace Go.Proofs.Ytollijngiioonaa
theorem fnExactLitMake_holds : Rows.FnExactLitMakeSaid := fnExactLitMake.proved
#print axioms fnExactLitMake_holds
end Go.Proofs.Ytollijngiioonaa
