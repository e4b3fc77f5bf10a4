/- What the proof of FnExactLitApply stands on, part 4 of 13: each piece says what it proves and under which conditions. Conditions: as each piece says. -/
import Derived.Test.YtollijngiioonabGreatPackExactLitApply3
import Derived.Sort.WalkC4
import Derived.Sort.WalkA
/- sort.order2_func, sort.median_func, sort.medianAdjacent_func, by a comparison that may lay blocks. Conditions: rows of less than 2^62 elements. -/
namespace Go.Proofs.YtollijngiioonabGreat
set_option maxRecDepth 100000
open Go.RowKit Go.Sort

variable {α : Type} [Inhabited α]
variable {g : Nat} {lb : Array Value} {sf : Nat} {sb : Array Value} {lt : α → α → Bool} {n blk base : Nat} {I : Array α → World → Prop}

/-- The row, and the count of swaps in block P. -/
structure PSt (blk P : Nat) (I : Array α → World → Prop) (w : World) (d : Array α) (s : Nat) (wr : World) : Prop where
  i : I d wr
  c : wr.cell? ⟨P, 0, none⟩ = some (.int .i64 s)
  f : wr.frozen? ⟨P, 0, none⟩ = false
  st : Stay (fun k => k ≠ blk ∧ k ≠ P) w wr
omit [Inhabited α] in
theorem PSt.trans {P : Nat} {w w1 w2 : World} {d : Array α} {s s' : Nat} (h : PSt blk P I w d s w1) (k : PSt blk P I w1 d s' w2) : PSt blk P I w d s' w2 := ⟨k.i, k.c, k.f, h.st.trans k.st⟩

set_option maxHeartbeats 2000000 in
theorem order2_any (E : SEnv g lb sf sb lt n blk base I) (a b P s : Nat) (d : Array α) (w : World) (h : I d w) (ha : a < n) (hb : b < n) (hP : base ≤ P) (hc : w.cell? ⟨P, 0, none⟩ = some (.int .i64 s)) (hf : w.frozen? ⟨P, 0, none⟩ = false) (hs : s ≤ 100) :
    Calls Tryz.prog 101 #[.agg #[.func (.func g) #[] lb, .func (.func sf) #[] sb], .int .i64 a, .int .i64 b, .pointer (some ⟨P, 0, none⟩)] w fun e w' => e = .returned (.tuple #[.int .i64 (order2 lt d a b s).1, .int .i64 (order2 lt d a b s).2.1]) ∧ PSt blk P I w d (order2 lt d a b s).2.2 w' := by
  have eg := E.eg
  have hbig := E.big
  have hbb := E.bb
  have hlt0 := E.lt _ _ h
  have hPl : P < w.heap.size := World.block_lt_of_cell? _ _ hc
  have HB : Hid (w.heap.size ≠ blk) := by show _ ≠ _; omega
  have HP : Hid (P ≠ blk) := by show _ ≠ _; omega
  have HE : Hid (SEnv g lb sf sb lt n blk base I) := E
  have S0 := SSt.start E h 119
  obtain ⟨W, hW⟩ : ∃ W, W = w.alloc (.cells #[.func (.func g) #[] lb, .func (.func sf) #[] sb] 119) := ⟨_, rfl⟩
  rw [← hW] at S0
  have hbW : Below w.heap.size w W := by rw [hW]; exact (Below.refl _ _).alloc (Nat.le_refl _) _
  have hcW := keepC hbW hc
  have hfW : W.frozen? ⟨P, 0, none⟩ = false := (hbW.frozen (p := ⟨P, 0, none⟩) hPl).trans hf
  have c0 := S0.c0
  have c1 := S0.c1
  clear E h hc hf
  cases hL : lt d[b]! d[a]! with
  | true =>
    have HO : Hid (order2 lt d a b s = (b, a, s + 1)) := by show _ = _; unfold order2; rw [hL]; rfl
    have hl := HE.out.lessV d b a b a true hL rfl rfl hb ha W S0.i
    have hs2 : (s : Int) ≤ 100 := by omega
    clear hL
    rw [HO.out]
    go_enter Tryz.func101, Tryz.ntmps101
    go_wp2_with (go_at_fn g; rw [← hW]; refine hl.mono ?_; rintro e w2 ⟨rfl, hI2, hS2⟩; have S2 := S0.step HB.out hI2 hS2; have hc2 := hS2.cell hcW HP.out; have hf2 := (hS2.frozen (p := ⟨P, 0, none⟩) (World.block_lt_of_cell? _ _ hcW) HP.out).trans hfW; clear hl hW hcW hfW c0 c1)
    go_ret2
    refine ⟨rfl, HE.out.set _ _ _ _ hI2 hP, ?_, by rw [World.frozen?_setCell]; exact hf2, (S2.st.weak (fun _ _ hk => hk.1)).trans (.setCell _ _ (fun hk => hk.2 rfl))⟩
    rw [World.cell?_setCell_same _ _ _ hc2]; simp
  | false =>
    have HO : Hid (order2 lt d a b s = (a, b, s)) := by show _ = _; unfold order2; rw [hL]; rfl
    have hl := HE.out.lessV d b a b a false hL rfl rfl hb ha W S0.i
    clear hL
    rw [HO.out]
    go_enter Tryz.func101, Tryz.ntmps101
    go_wp2_with (go_at_fn g; rw [← hW]; refine hl.mono ?_; rintro e w2 ⟨rfl, hI2, hS2⟩; have S2 := S0.step HB.out hI2 hS2; have hc2 := hS2.cell hcW HP.out; have hf2 := (hS2.frozen (p := ⟨P, 0, none⟩) (World.block_lt_of_cell? _ _ hcW) HP.out).trans hfW; clear hl hW hcW hfW c0 c1)
    go_ret2
    exact ⟨rfl, hI2, hc2, hf2, S2.st.weak (fun _ _ hk => hk.1)⟩

theorem order2_lt (lt : α → α → Bool) (d : Array α) {a b s m : Nat} (ha : a < m) (hb : b < m) : (order2 lt d a b s).1 < m ∧ (order2 lt d a b s).2.1 < m ∧ (order2 lt d a b s).2.2 ≤ s + 1 := by
  unfold order2
  split <;> simp <;> omega

set_option maxHeartbeats 2000000 in
theorem median_any (E : SEnv g lb sf sb lt n blk base I) (a b c P s : Nat) (d : Array α) (w : World) (h : I d w) (ha : a < n) (hb : b < n) (hc' : c < n) (hP : base ≤ P) (hc : w.cell? ⟨P, 0, none⟩ = some (.int .i64 s)) (hf : w.frozen? ⟨P, 0, none⟩ = false) (hs : s ≤ 90) :
    Calls Tryz.prog 100 #[.agg #[.func (.func g) #[] lb, .func (.func sf) #[] sb], .int .i64 a, .int .i64 b, .int .i64 c, .pointer (some ⟨P, 0, none⟩)] w fun e w' => e = .returned (.int .i64 (median lt d a b c s).1) ∧ PSt blk P I w d (median lt d a b c s).2 w' := by
  have hPl : P < w.heap.size := World.block_lt_of_cell? _ _ hc
  have HE : Hid (SEnv g lb sf sb lt n blk base I) := E
  obtain ⟨W, hW⟩ : ∃ W, W = w.alloc (.cells #[.func (.func g) #[] lb, .func (.func sf) #[] sb] 119) := ⟨_, rfl⟩
  have hbW : Below w.heap.size w W := by rw [hW]; exact (Below.refl _ _).alloc (Nat.le_refl _) _
  have S0 : PSt blk P I w d s W := ⟨E.on _ _ _ h hbW, keepC hbW hc, (hbW.frozen (p := ⟨P, 0, none⟩) hPl).trans hf, .of_below hbW (fun _ hk _ => hk)⟩
  have b0 : W.cell? ⟨w.heap.size, 0, none⟩ = some (.func (.func g) #[] lb) := by rw [hW]; simp
  have b1 : W.cell? ⟨w.heap.size, 1, none⟩ = some (.func (.func sf) #[] sb) := by rw [hW]; simp
  have HN : Hid (w.heap.size ≠ blk ∧ w.heap.size ≠ P) := by have := E.lt _ _ h; have := E.bb; exact ⟨by omega, by omega⟩
  obtain ⟨x1, y1, s1, e1⟩ : ∃ x1 y1 s1, order2 lt d a b s = (x1, y1, s1) := ⟨_, _, _, rfl⟩
  have q1 := order2_lt lt d (s := s) ha hb
  rw [e1] at q1
  dsimp only at q1
  obtain ⟨x2, y2, s2, e2⟩ : ∃ x2 y2 s2, order2 lt d y1 c s1 = (x2, y2, s2) := ⟨_, _, _, rfl⟩
  have q2 := order2_lt lt d (s := s1) q1.2.1 hc'
  rw [e2] at q2
  dsimp only at q2
  obtain ⟨x3, y3, s3, e3⟩ : ∃ x3 y3 s3, order2 lt d x1 x2 s2 = (x3, y3, s3) := ⟨_, _, _, rfl⟩
  have HM : Hid (median lt d a b c s = (y3, s3)) := by show _ = _; unfold median; simp only [e1, e2, e3]
  have C1 := order2_any E a b P s d W S0.i ha hb hP S0.c S0.f (by omega)
  rw [e1] at C1
  have C2 := fun (W' : World) (S : PSt blk P I w d s1 W') => order2_any HE.out y1 c P s1 d W' S.i q1.2.1 hc' hP S.c S.f (by omega)
  have C3 := fun (W' : World) (S : PSt blk P I w d s2 W') => order2_any HE.out x1 x2 P s2 d W' S.i q1.1 q2.1 hP S.c S.f (by omega)
  simp only [e2] at C2
  simp only [e3] at C3
  rw [HM.out]
  clear E h hc hf e1 e2 e3 q1 q2
  go_enter Tryz.func100, Tryz.ntmps100
  go_wp2_with (first
    | (go_at_call 101; rw [← hW]; refine C1.mono ?_; rintro e w1 ⟨rfl, K1⟩; have S1 := S0.trans K1; have d0 := K1.st.cell b0 HN.out; have d1 := K1.st.cell b1 HN.out; clear C1 S0 K1 hW b0 b1)
    | (go_at_call 101; refine (C2 _ S1).mono ?_; rintro e w2 ⟨rfl, K2⟩; have S2 := S1.trans K2; have g0 := K2.st.cell d0 HN.out; have g1 := K2.st.cell d1 HN.out; clear C2 S1 K2 d0 d1)
    | (go_at_call 101; refine (C3 _ S2).mono ?_; rintro e w3 ⟨rfl, K3⟩; have S3 := S2.trans K3; clear C3 S2 K3 g0 g1))
  go_ret
  exact ⟨rfl, S3⟩

set_option maxHeartbeats 2000000 in
theorem medianAdj_any (E : SEnv g lb sf sb lt n blk base I) (a P s : Nat) (d : Array α) (w : World) (h : I d w) (ha0 : 1 ≤ a) (ha : a + 1 < n) (hP : base ≤ P) (hc : w.cell? ⟨P, 0, none⟩ = some (.int .i64 s)) (hf : w.frozen? ⟨P, 0, none⟩ = false) (hs : s ≤ 90) :
    Calls Tryz.prog 99 #[.agg #[.func (.func g) #[] lb, .func (.func sf) #[] sb], .int .i64 a, .pointer (some ⟨P, 0, none⟩)] w fun e w' => e = .returned (.int .i64 (medianAdjacent lt d a s).1) ∧ PSt blk P I w d (medianAdjacent lt d a s).2 w' := by
  have hPl : P < w.heap.size := World.block_lt_of_cell? _ _ hc
  have hbig := E.big
  obtain ⟨W, hW⟩ : ∃ W, W = w.alloc (.cells #[.func (.func g) #[] lb, .func (.func sf) #[] sb] 119) := ⟨_, rfl⟩
  have hbW : Below w.heap.size w W := by rw [hW]; exact (Below.refl _ _).alloc (Nat.le_refl _) _
  have S0 : PSt blk P I w d s W := ⟨E.on _ _ _ h hbW, keepC hbW hc, (hbW.frozen (p := ⟨P, 0, none⟩) hPl).trans hf, .of_below hbW (fun _ hk _ => hk)⟩
  have C := median_any E (a - 1) a (a + 1) P s d W S0.i (by omega) (by omega) (by omega) hP S0.c S0.f hs
  rw [show ((a - 1 : Nat) : Int) = (a : Int) - 1 by omega, show ((a + 1 : Nat) : Int) = (a : Int) + 1 by omega] at C
  clear E h hc hf
  unfold medianAdjacent
  go_enter Tryz.func99, Tryz.ntmps99
  go_wp2_with (go_at_call 100; rw [← hW]; refine C.mono ?_; rintro e w1 ⟨rfl, K1⟩; have S1 := S0.trans K1; clear C S0 K1 hW)
  go_ret
  exact ⟨rfl, S1⟩
end Go.Proofs.YtollijngiioonabGreat

/- sort.choosePivot_func, by a comparison that may lay blocks. Conditions: rows of less than 2^62 elements; at least eight elements. -/
namespace Go.Proofs.YtollijngiioonabGreat
set_option maxRecDepth 100000
open Go.RowKit Go.Sort

variable {α : Type} [Inhabited α]
variable {g : Nat} {lb : Array Value} {sf : Nat} {sb : Array Value} {lt : α → α → Bool} {n blk base : Nat} {I : Array α → World → Prop}

def hintI : Hint → Int
  | .unknown => 0
  | .increasing => 1
  | .decreasing => 2

theorem median_lt (lt : α → α → Bool) (d : Array α) {a b c s m : Nat} (ha : a < m) (hb : b < m) (hc : c < m) : (median lt d a b c s).1 < m ∧ (median lt d a b c s).2 ≤ s + 3 := by
  unfold median
  have q1 := order2_lt lt d (s := s) ha hb
  have q2 := order2_lt lt d (s := (order2 lt d a b s).2.2) q1.2.1 hc
  have q3 := order2_lt lt d (s := (order2 lt d (order2 lt d a b s).2.1 c (order2 lt d a b s).2.2).2.2) q1.1 q2.1
  exact ⟨q3.2.1, by dsimp only; omega⟩
/-- What was there before the call but the row lies as it lay. -/
theorem fin_stay {w wr : World} {P : Nat} (hP : w.heap.size ≤ P) (h : Stay (fun k => k ≠ blk ∧ k ≠ P) w wr) : Stay (fun k => k ≠ blk) w wr := h.weak (fun k hk h => ⟨h, by omega⟩)

set_option maxHeartbeats 2000000 in
theorem choosePivot_any (E : SEnv g lb sf sb lt n blk base I) (a b : Nat) (d : Array α) (w : World) (h : I d w) (hab : a + 8 ≤ b) (hb : b ≤ n) :
    Calls Tryz.prog 90 #[.agg #[.func (.func g) #[] lb, .func (.func sf) #[] sb], .int .i64 a, .int .i64 b] w fun e w' => e = .returned (.tuple #[.int .i64 (choosePivot lt d a b).1, .int .i64 (hintI (choosePivot lt d a b).2)]) ∧ I d w' ∧ Stay (fun k => k ≠ blk) w w' := by
  have hbig := E.big
  obtain ⟨N, hN⟩ : ∃ N, N = b - a := ⟨_, rfl⟩
  obtain ⟨q, hq⟩ : ∃ q, q = N / 4 := ⟨_, rfl⟩
  have hbN : (b : Int) - (a : Int) = (N : Int) := by omega
  have hw0 : IntKind.i64.wrap ((b : Int) - (a : Int)) = (N : Int) := by rw [IntKind.wrap_i64]; omega
  have htd : (N : Int).tdiv 4 = (q : Int) := by rw [hq]; rfl
  have HC : Hid (choosePivot lt d a b = (let i := a + q; let j := a + q * 2; let k := a + q * 3; let r : Nat × Nat := if N ≥ 50 then (let ri := medianAdjacent lt d i 0; let rj := medianAdjacent lt d j ri.2; let rk := medianAdjacent lt d k rj.2; median lt d ri.1 rj.1 rk.1 rk.2) else median lt d i j k 0; (r.1, if r.2 = 0 then .increasing else if r.2 = 12 then .decreasing else .unknown))) := by
    show _ = _
    unfold choosePivot
    simp only [← hN, ← hq, Nat.mul_one]
    rw [if_pos (show N ≥ 8 by omega)]
  have hq4 : 4 * q ≤ N ∧ 2 ≤ q := by omega
  have HE : Hid (SEnv g lb sf sb lt n blk base I) := E
  have hdiv : (N : Int) / 4 = (q : Int) := by omega
  have hNn : a + N ≤ n := by omega
  obtain ⟨W, hW⟩ : ∃ W, W = (w.alloc (.cells #[.func (.func g) #[] lb, .func (.func sf) #[] sb] 119)).alloc (.cells #[.int .i64 0] 3) := ⟨_, rfl⟩
  have hbW : Below w.heap.size w W := by rw [hW]; exact ((Below.refl _ _).alloc (Nat.le_refl _) _).alloc (by simp) _
  have hP1 : w.heap.size ≤ w.heap.size + 1 := by omega
  have hP : base ≤ w.heap.size + 1 := by have := E.lt _ _ h; omega
  have HN : Hid (w.heap.size ≠ blk ∧ w.heap.size ≠ w.heap.size + 1) := by have := E.lt _ _ h; have := E.bb; exact ⟨by omega, by omega⟩
  have S0 : PSt blk (w.heap.size + 1) I w d 0 W := ⟨E.on _ _ _ h hbW, by rw [hW]; simp [go_sem], by rw [hW]; simp [go_sem], .of_below hbW (fun _ hk _ => hk)⟩
  have S00 : W.cell? ⟨w.heap.size, 0, none⟩ = some (.func (.func g) #[] lb) := by rw [hW]; simp [go_sem]
  have S01 : W.cell? ⟨w.heap.size, 1, none⟩ = some (.func (.func sf) #[] sb) := by rw [hW]; simp [go_sem]
  clear E h hN hq hab hbW
  by_cases h50 : 50 ≤ N
  · have h50z : (50 : Int) ≤ (N : Int) := by omega
    have h8z : (8 : Int) ≤ (N : Int) := by omega
    obtain ⟨i1, s1, e1⟩ : ∃ i1 s1, medianAdjacent lt d (a + q) 0 = (i1, s1) := ⟨_, _, rfl⟩
    obtain ⟨j1, s2, e2⟩ : ∃ j1 s2, medianAdjacent lt d (a + q * 2) s1 = (j1, s2) := ⟨_, _, rfl⟩
    obtain ⟨k1, s3, e3⟩ : ∃ k1 s3, medianAdjacent lt d (a + q * 3) s2 = (k1, s3) := ⟨_, _, rfl⟩
    obtain ⟨pv, sw, e4⟩ : ∃ pv sw, median lt d i1 j1 k1 s3 = (pv, sw) := ⟨_, _, rfl⟩
    have r1 := median_lt lt d (s := 0) (m := n) (a := a + q - 1) (b := a + q) (c := a + q + 1) (by omega) (by omega) (by omega)
    have r2 := median_lt lt d (s := s1) (m := n) (a := a + q * 2 - 1) (b := a + q * 2) (c := a + q * 2 + 1) (by omega) (by omega) (by omega)
    have r3 := median_lt lt d (s := s2) (m := n) (a := a + q * 3 - 1) (b := a + q * 3) (c := a + q * 3 + 1) (by omega) (by omega) (by omega)
    unfold medianAdjacent at e1 e2 e3
    rw [e1] at r1; rw [e2] at r2; rw [e3] at r3
    dsimp only at r1 r2 r3
    have r4 := median_lt lt d (s := s3) (m := n) r1.1 r2.1 r3.1
    rw [e4] at r4
    dsimp only at r4
    have A1 := fun (W' : World) (S : PSt blk (w.heap.size + 1) I w d 0 W') => medianAdj_any HE.out (a + q) (w.heap.size + 1) 0 d W' S.i (by omega) (by omega) hP S.c S.f (by omega)
    have A2 := fun (W' : World) (S : PSt blk (w.heap.size + 1) I w d s1 W') => medianAdj_any HE.out (a + q * 2) (w.heap.size + 1) s1 d W' S.i (by omega) (by omega) hP S.c S.f (by omega)
    have A3 := fun (W' : World) (S : PSt blk (w.heap.size + 1) I w d s2 W') => medianAdj_any HE.out (a + q * 3) (w.heap.size + 1) s2 d W' S.i (by omega) (by omega) hP S.c S.f (by omega)
    have CM := fun (W' : World) (S : PSt blk (w.heap.size + 1) I w d s3 W') => median_any HE.out i1 j1 k1 (w.heap.size + 1) s3 d W' S.i r1.1 r2.1 r3.1 hP S.c S.f (by omega)
    unfold medianAdjacent at A1 A2 A3
    simp only [e1] at A1
    simp only [e2] at A2
    simp only [e3] at A3
    simp only [e4] at CM
    simp only [show ((a + q : Nat) : Int) = (a : Int) + (q : Int) by omega] at A1
    simp only [show ((a + q * 2 : Nat) : Int) = (a : Int) + (q : Int) * 2 by omega] at A2
    simp only [show ((a + q * 3 : Nat) : Int) = (a : Int) + (q : Int) * 3 by omega] at A3
    have HF : Hid (choosePivot lt d a b = (pv, if sw = 0 then Hint.increasing else if sw = 12 then Hint.decreasing else Hint.unknown)) := by show _ = _; rw [HC.out]; simp only [medianAdjacent, e1, e2, e3, e4]; rw [if_pos h50]
    have hswb : (sw : Int) ≤ 100 := by omega
    clear HC
    by_cases hs0 : sw = 0
    · subst hs0
      rw [HF.out]
      go_enter Tryz.func90, Tryz.ntmps90
      go_wp2_with (first
        | (go_at_call 99; rw [← hW]; refine (A1 _ S0).mono ?_; rintro e w1 ⟨rfl, K1⟩; have S1 := S0.trans K1; have S10 := K1.st.cell S00 HN.out; have S11 := K1.st.cell S01 HN.out; clear A1 K1 S00 S01)
        | (go_at_call 99;  refine (A2 _ S1).mono ?_; rintro e w2 ⟨rfl, K2⟩; have S2 := S1.trans K2; have S20 := K2.st.cell S10 HN.out; have S21 := K2.st.cell S11 HN.out; clear A2 K2 S10 S11)
        | (go_at_call 99;  refine (A3 _ S2).mono ?_; rintro e w3 ⟨rfl, K3⟩; have S3 := S2.trans K3; have S30 := K3.st.cell S20 HN.out; have S31 := K3.st.cell S21 HN.out; clear A3 K3 S20 S21)
        | (go_at_call 100;  refine (CM _ S3).mono ?_; rintro e w9 ⟨rfl, K9⟩; have S9 := S3.trans K9; have c9 := S9.c; clear CM K9))
      go_ret2
      exact ⟨rfl, S9.i, fin_stay hP1 S9.st⟩
    · have hs0e : ((sw : Int) == 0) = false := by simp [hs0]
      by_cases hs12 : sw = 12
      · subst hs12
        rw [HF.out]
        go_enter Tryz.func90, Tryz.ntmps90
        go_wp2_with (first
          | (go_at_call 99; rw [← hW]; refine (A1 _ S0).mono ?_; rintro e w1 ⟨rfl, K1⟩; have S1 := S0.trans K1; have S10 := K1.st.cell S00 HN.out; have S11 := K1.st.cell S01 HN.out; clear A1 K1 S00 S01)
          | (go_at_call 99;  refine (A2 _ S1).mono ?_; rintro e w2 ⟨rfl, K2⟩; have S2 := S1.trans K2; have S20 := K2.st.cell S10 HN.out; have S21 := K2.st.cell S11 HN.out; clear A2 K2 S10 S11)
          | (go_at_call 99;  refine (A3 _ S2).mono ?_; rintro e w3 ⟨rfl, K3⟩; have S3 := S2.trans K3; have S30 := K3.st.cell S20 HN.out; have S31 := K3.st.cell S21 HN.out; clear A3 K3 S20 S21)
          | (go_at_call 100;  refine (CM _ S3).mono ?_; rintro e w9 ⟨rfl, K9⟩; have S9 := S3.trans K9; have c9 := S9.c; clear CM K9))
        go_ret2
        exact ⟨rfl, S9.i, fin_stay hP1 S9.st⟩
      · have hs12e : ((sw : Int) == 12) = false := by simp; omega
        rw [HF.out, if_neg hs0, if_neg hs12]
        go_enter Tryz.func90, Tryz.ntmps90
        go_wp2_with (first
          | (go_at_call 99; rw [← hW]; refine (A1 _ S0).mono ?_; rintro e w1 ⟨rfl, K1⟩; have S1 := S0.trans K1; have S10 := K1.st.cell S00 HN.out; have S11 := K1.st.cell S01 HN.out; clear A1 K1 S00 S01)
          | (go_at_call 99;  refine (A2 _ S1).mono ?_; rintro e w2 ⟨rfl, K2⟩; have S2 := S1.trans K2; have S20 := K2.st.cell S10 HN.out; have S21 := K2.st.cell S11 HN.out; clear A2 K2 S10 S11)
          | (go_at_call 99;  refine (A3 _ S2).mono ?_; rintro e w3 ⟨rfl, K3⟩; have S3 := S2.trans K3; have S30 := K3.st.cell S20 HN.out; have S31 := K3.st.cell S21 HN.out; clear A3 K3 S20 S21)
          | (go_at_call 100;  refine (CM _ S3).mono ?_; rintro e w9 ⟨rfl, K9⟩; have S9 := S3.trans K9; have c9 := S9.c; clear CM K9))
        go_ret2
        exact ⟨rfl, S9.i, fin_stay hP1 S9.st⟩
  · have h50z : ¬ (50 : Int) ≤ (N : Int) := by omega
    have h8z : (8 : Int) ≤ (N : Int) := by omega
    obtain ⟨pv, sw, e4⟩ : ∃ pv sw, median lt d (a + q) (a + q * 2) (a + q * 3) 0 = (pv, sw) := ⟨_, _, rfl⟩
    have r4 := median_lt lt d (s := 0) (m := n) (a := a + q) (b := a + q * 2) (c := a + q * 3) (by omega) (by omega) (by omega)
    rw [e4] at r4
    dsimp only at r4
    have CM := fun (W' : World) (S : PSt blk (w.heap.size + 1) I w d 0 W') => median_any HE.out (a + q) (a + q * 2) (a + q * 3) (w.heap.size + 1) 0 d W' S.i (by omega) (by omega) (by omega) hP S.c S.f (by omega)
    simp only [e4] at CM
    simp only [show ((a + q : Nat) : Int) = (a : Int) + (q : Int) by omega, show ((a + q * 2 : Nat) : Int) = (a : Int) + (q : Int) * 2 by omega, show ((a + q * 3 : Nat) : Int) = (a : Int) + (q : Int) * 3 by omega] at CM
    have HF : Hid (choosePivot lt d a b = (pv, if sw = 0 then Hint.increasing else if sw = 12 then Hint.decreasing else Hint.unknown)) := by show _ = _; rw [HC.out]; simp only [e4]; rw [if_neg h50]
    have hswb : (sw : Int) ≤ 100 := by omega
    clear HC
    by_cases hs0 : sw = 0
    · subst hs0
      rw [HF.out]
      go_enter Tryz.func90, Tryz.ntmps90
      go_wp2_with (first
        | (go_at_call 100; rw [← hW]; refine (CM _ S0).mono ?_; rintro e w9 ⟨rfl, K9⟩; have S9 := S0.trans K9; have c9 := S9.c; clear CM K9))
      go_ret2
      exact ⟨rfl, S9.i, fin_stay hP1 S9.st⟩
    · have hs0e : ((sw : Int) == 0) = false := by simp [hs0]
      by_cases hs12 : sw = 12
      · omega
      · have hs12e : ((sw : Int) == 12) = false := by simp; omega
        rw [HF.out, if_neg hs0, if_neg hs12]
        go_enter Tryz.func90, Tryz.ntmps90
        go_wp2_with (first
          | (go_at_call 100; rw [← hW]; refine (CM _ S0).mono ?_; rintro e w9 ⟨rfl, K9⟩; have S9 := S0.trans K9; have c9 := S9.c; clear CM K9))
        go_ret2
        exact ⟨rfl, S9.i, fin_stay hP1 S9.st⟩
end Go.Proofs.YtollijngiioonabGreat

/- sort.partitionEqual_func, by a comparison that may lay blocks. Conditions: rows of less than 2^62 elements. -/
namespace Go.Proofs.YtollijngiioonabGreat
set_option maxRecDepth 100000
open Go.RowKit Go.Sort

variable {α : Type} [Inhabited α]
variable {g : Nat} {lb : Array Value} {sf : Nat} {sb : Array Value} {lt : α → α → Bool} {n blk base : Nat} {I : Array α → World → Prop}

set_option maxHeartbeats 4000000 in
theorem partitionEqual_any (E : SEnv g lb sf sb lt n blk base I) (a b pivot : Nat) (d : Array α) (w : World) (h : I d w) (hap : a ≤ pivot) (hpb : pivot < b) (hb : b ≤ n) :
    Calls Tryz.prog 93 #[.agg #[.func (.func g) #[] lb, .func (.func sf) #[] sb], .int .i64 a, .int .i64 b, .int .i64 pivot] w fun e w' => e = .returned (.int .i64 (partitionEqual lt d a b pivot).1) ∧ I (partitionEqual lt d a b pivot).2 w' ∧ Stay (fun k => k ≠ blk) w w' := by
  have eg := E.eg
  have hbig := E.big
  have HB : Hid (w.heap.size ≠ blk) := by have := E.lt _ _ h; have := E.bb; show _ ≠ _; omega
  have HE : Hid (SEnv g lb sf sb lt n blk base I) := E
  have S0 := SSt.start E h 119
  obtain ⟨W, hW⟩ : ∃ W, W = w.alloc (.cells #[.func (.func g) #[] lb, .func (.func sf) #[] sb] 119) := ⟨_, rfl⟩
  rw [← hW] at S0
  obtain ⟨W1, hrun0, hI1, hS1⟩ := E.swapI d W a pivot a pivot rfl rfl S0.i (by omega) (by omega)
  have S1' := S0.step HB.out hI1 hS1
  rw [hW] at hrun0
  have z0 : (w.alloc (.cells #[.func (.func g) #[] lb, .func (.func sf) #[] sb] 119)).cell? ⟨w.heap.size, 0, none⟩ = some (.func (.func g) #[] lb) := by simp
  have z1 : (w.alloc (.cells #[.func (.func g) #[] lb, .func (.func sf) #[] sb] 119)).cell? ⟨w.heap.size, 1, none⟩ = some (.func (.func sf) #[] sb) := by simp
  clear E h S0 hI1 hS1 hW
  go_enter Tryz.func93, Tryz.ntmps93
  go_wp2
  go_loopw [9, 10] (fun vi vj wr => ∃ (i j : Nat) (dk : Array α), vi = .int .i64 i ∧ vj = .int .i64 j ∧ a < i ∧ i ≤ j + 1 ∧ j < b ∧ SSt blk I w w.heap.size g lb sf sb dk wr ∧ Hid (partEqLoop lt a i j dk = partitionEqual lt d a b pivot)) (fun vi vj _ => (intOf vj).toNat + 1 - (intOf vi).toNat)
  case atStart => exact ⟨a + 1, b - 1, swp d a pivot, by go_num, by congr 1; omega, by omega, by omega, by omega, S1', rfl⟩
  case round =>
    obtain ⟨i, j, dk, rfl, rfl, hai, hij, hjb, S, HK⟩ := hrel
    clear S1'
    go_wp2
    go_loopw [9] (fun vi w1 => ∃ i1 : Nat, vi = .int .i64 i1 ∧ i ≤ i1 ∧ i1 ≤ j + 1 ∧ SSt blk I w w.heap.size g lb sf sb dk w1 ∧ Hid (scanUp (fun x => !lt dk[a]! x) dk j i1 = scanUp (fun x => !lt dk[a]! x) dk j i)) (fun vi _ => j + 1 - (intOf vi).toNat)
    case atStart => exact ⟨i, by first | rfl | go_num | (congr 1; omega), Nat.le_refl _, hij, S, rfl⟩
    case round =>
      obtain ⟨i1, rfl, h1, h2, S1, HU⟩ := hrel
      have c0 := S1.c0
      have c1 := S1.c1
      by_cases hle : i1 ≤ j
      · have hlez : (i1 : Int) ≤ (j : Int) := by omega
        cases hv : lt dk[a]! dk[i1]! with
        | false =>
          have hl := HE.out.lessV dk a i1 a i1 false hv rfl rfl (by omega) (by omega) _ S1.i
          have HU2 : Hid (scanUp (fun x => !lt dk[a]! x) dk j (i1 + 1) = scanUp (fun x => !lt dk[a]! x) dk j i) := (scanUp_go (fun x => !lt dk[a]! x) dk j i1 hle (by simp [hv])).symm.trans HU.out
          go_wp2_with (go_at_fn g; refine hl.mono ?_; rintro e w4 ⟨rfl, hI4, hS4⟩; have S4 := S1.step HB.out hI4 hS4; clear hl)
          go_roundw
          case rel =>
            first
              | exact ⟨i1 + 1, by go_num, by omega, by omega, S4, HU2⟩
              | ((repeat apply Exists.intro); refine ⟨?_, rfl⟩; exact ⟨i1 + 1, by go_num, by omega, by omega, S4, HU2⟩)
              | ((repeat apply Exists.intro); exact ⟨⟨i1 + 1, by go_num, by omega, by omega, S4, HU2⟩, by rw [DEC.out, show ((i1 + 1 : Nat) : Int) = (i1 : Int) + 1 by omega]⟩)
          case measure => simp [intOf] <;> omega
        | true =>
          have hl := HE.out.lessV dk a i1 a i1 true hv rfl rfl (by omega) (by omega) _ S1.i
          have HI : Hid (i1 = scanUp (fun x => !lt dk[a]! x) dk j i) := (scanUp_end (fun x => !lt dk[a]! x) dk j i1 (Or.inr (by simp [hv]))).symm.trans HU.out
          go_wp2_with (go_at_fn g; refine hl.mono ?_; rintro e w4 ⟨rfl, hI4, hS4⟩; have S2 := S1.step HB.out hI4 hS4; clear hl c0 c1)
          go_loopw [10] (fun vj w2 => ∃ j1 : Nat, vj = .int .i64 j1 ∧ j1 ≤ j ∧ i1 ≤ j1 + 1 ∧ SSt blk I w w.heap.size g lb sf sb dk w2 ∧ Hid (scanDown (fun x => lt dk[a]! x) dk i1 j1 = scanDown (fun x => lt dk[a]! x) dk i1 j)) (fun vj _ => (intOf vj).toNat)
          case atStart => exact ⟨j, by first | rfl | go_num | (congr 1; omega), Nat.le_refl _, h2, S2, rfl⟩
          case round =>
            obtain ⟨j1, rfl, g1, g2, S3, HD⟩ := hrel
            have k0 := S3.c0
            have k1 := S3.c1
            by_cases hle2 : i1 ≤ j1
            · have hle2z : (i1 : Int) ≤ (j1 : Int) := by omega
              cases hv2 : lt dk[a]! dk[j1]! with
              | true =>
                have hl := HE.out.lessV dk a j1 a j1 true hv2 rfl rfl (by omega) (by omega) _ S3.i
                have HD2 : Hid (scanDown (fun x => lt dk[a]! x) dk i1 (j1 - 1) = scanDown (fun x => lt dk[a]! x) dk i1 j) := (scanDown_go (fun x => lt dk[a]! x) dk i1 j1 hle2 (by omega) (hv2)).symm.trans HD.out
                go_wp2_with (go_at_fn g; refine hl.mono ?_; rintro e w4 ⟨rfl, hI4, hS4⟩; have S4 := S3.step HB.out hI4 hS4; clear hl)
                go_roundw
                case rel =>
                  first
                    | exact ⟨j1 - 1, by congr 1 <;> omega, by omega, by omega, S4, HD2⟩
                    | ((repeat apply Exists.intro); refine ⟨?_, rfl⟩; exact ⟨j1 - 1, by congr 1 <;> omega, by omega, by omega, S4, HD2⟩)
                    | ((repeat apply Exists.intro); exact ⟨⟨j1 - 1, by congr 1 <;> omega, by omega, by omega, S4, HD2⟩, by rw [DEC.out, show ((j1 - 1 : Nat) : Int) = (j1 : Int) - 1 by omega]⟩)
                case measure => simp [intOf] <;> omega
              | false =>
                have hl := HE.out.lessV dk a j1 a j1 false hv2 rfl rfl (by omega) (by omega) _ S3.i
                have HJ : Hid (j1 = scanDown (fun x => lt dk[a]! x) dk i1 j) := (scanDown_end (fun x => lt dk[a]! x) dk i1 j1 (Or.inr (hv2))).symm.trans HD.out
                have hlt3 := scans_lt lt a i j dk (by omega) HI.out HJ.out hle2
                have hngt : ¬ (j1 : Int) < (i1 : Int) := by omega
                go_wp2_with (go_at_fn g; refine hl.mono ?_; rintro e w4 ⟨rfl, hI4, hS4⟩; have S4 := S3.step HB.out hI4 hS4; have m0 := S4.c0; have m1 := S4.c1; obtain ⟨W5, hrun, hI5, hS5⟩ := HE.out.swapI dk w4 i1 j1 i1 j1 rfl rfl S4.i (by omega) (by omega); have S5 := S4.step HB.out hI5 hS5; clear hl)
                have HN : Hid (partEqLoop lt a (i1 + 1) (j1 - 1) (swp dk i1 j1) = partitionEqual lt d a b pivot) := by show _ = _; rw [← HK.out]; exact (partEq_go lt a i j dk HI.out HJ.out (by omega)).symm
                go_roundw
                case rel =>
                  first
                    | exact ⟨i1 + 1, j1 - 1, swp dk i1 j1, by go_num, by congr 1 <;> omega, by omega, by omega, by omega, S5, HN⟩
                    | ((repeat apply Exists.intro); refine ⟨?_, rfl⟩; exact ⟨i1 + 1, j1 - 1, swp dk i1 j1, by go_num, by congr 1 <;> omega, by omega, by omega, by omega, S5, HN⟩)
                    | ((repeat apply Exists.intro); exact ⟨⟨i1 + 1, j1 - 1, swp dk i1 j1, by go_num, by congr 1 <;> omega, by omega, by omega, by omega, S5, HN⟩, by rw [DEC.out, show ((i1 + 1 : Nat) : Int) = (i1 : Int) + 1 by omega, show ((j1 - 1 : Nat) : Int) = (j1 : Int) - 1 by omega]⟩)
                case measure => simp [intOf] <;> omega
            · have hle2z : ¬ (i1 : Int) ≤ (j1 : Int) := by omega
              have HJ : Hid (j1 = scanDown (fun x => lt dk[a]! x) dk i1 j) := (scanDown_end (fun x => lt dk[a]! x) dk i1 j1 (Or.inl hle2)).symm.trans HD.out
              have hgt : (j1 : Int) < (i1 : Int) := by omega
              have HN : Hid ((i1, dk) = partitionEqual lt d a b pivot) := by show _ = _; rw [← HK.out]; exact (partEq_break lt a i j dk HI.out HJ.out (by omega)).symm
              go_wp2
              go_ret
              exact ⟨by rw [← HN.out]; rfl, by rw [← HN.out]; exact S3.i, S3.st⟩
      · have hlez : ¬ (i1 : Int) ≤ (j : Int) := by omega
        have HI : Hid (i1 = scanUp (fun x => !lt dk[a]! x) dk j i) := (scanUp_end (fun x => !lt dk[a]! x) dk j i1 (Or.inl hle)).symm.trans HU.out
        clear c0 c1
        go_wp2
        go_loopw [10] (fun vj w2 => ∃ j1 : Nat, vj = .int .i64 j1 ∧ j1 ≤ j ∧ i1 ≤ j1 + 1 ∧ SSt blk I w w.heap.size g lb sf sb dk w2 ∧ Hid (scanDown (fun x => lt dk[a]! x) dk i1 j1 = scanDown (fun x => lt dk[a]! x) dk i1 j)) (fun vj _ => (intOf vj).toNat)
        case atStart => exact ⟨j, by first | rfl | go_num | (congr 1; omega), Nat.le_refl _, h2, S1, rfl⟩
        case round =>
          obtain ⟨j1, rfl, g1, g2, S3, HD⟩ := hrel
          have k0 := S3.c0
          have k1 := S3.c1
          by_cases hle2 : i1 ≤ j1
          · exfalso; omega
          · have hle2z : ¬ (i1 : Int) ≤ (j1 : Int) := by omega
            have HJ : Hid (j1 = scanDown (fun x => lt dk[a]! x) dk i1 j) := (scanDown_end (fun x => lt dk[a]! x) dk i1 j1 (Or.inl hle2)).symm.trans HD.out
            have hgt : (j1 : Int) < (i1 : Int) := by omega
            have HN : Hid ((i1, dk) = partitionEqual lt d a b pivot) := by show _ = _; rw [← HK.out]; exact (partEq_break lt a i j dk HI.out HJ.out (by omega)).symm
            go_wp2
            go_ret
            exact ⟨by rw [← HN.out]; rfl, by rw [← HN.out]; exact S3.i, S3.st⟩
end Go.Proofs.YtollijngiioonabGreat

/- sort.partition_func, by a comparison that may lay blocks. Conditions: rows of less than 2^62 elements. -/
namespace Go.Proofs.YtollijngiioonabGreat
set_option maxRecDepth 100000
open Go.RowKit Go.Sort

variable {α : Type} [Inhabited α]
variable {g : Nat} {lb : Array Value} {sf : Nat} {sb : Array Value} {lt : α → α → Bool} {n blk base : Nat} {I : Array α → World → Prop}

set_option maxHeartbeats 8000000 in
theorem partition_any (E : SEnv g lb sf sb lt n blk base I) (a b pivot : Nat) (d : Array α) (w : World) (h : I d w) (hap : a ≤ pivot) (hpb : pivot < b) (hb : b ≤ n) :
    Calls Tryz.prog 94 #[.agg #[.func (.func g) #[] lb, .func (.func sf) #[] sb], .int .i64 a, .int .i64 b, .int .i64 pivot] w fun e w' => e = .returned (.tuple #[.int .i64 (partition lt d a b pivot).1, .bool (partition lt d a b pivot).2.1]) ∧ I (partition lt d a b pivot).2.2 w' ∧ Stay (fun k => k ≠ blk) w w' := by
  have eg := E.eg
  have hbig := E.big
  have HB : Hid (w.heap.size ≠ blk) := by have := E.lt _ _ h; have := E.bb; show _ ≠ _; omega
  have HE : Hid (SEnv g lb sf sb lt n blk base I) := E
  have S0 := SSt.start E h 119
  obtain ⟨W, hW⟩ : ∃ W, W = w.alloc (.cells #[.func (.func g) #[] lb, .func (.func sf) #[] sb] 119) := ⟨_, rfl⟩
  rw [← hW] at S0
  obtain ⟨W1, hrun0, hI1, hS1⟩ := E.swapI d W a pivot a pivot rfl rfl S0.i (by omega) (by omega)
  have S1' := S0.step HB.out hI1 hS1
  rw [hW] at hrun0
  have z0 : (w.alloc (.cells #[.func (.func g) #[] lb, .func (.func sf) #[] sb] 119)).cell? ⟨w.heap.size, 0, none⟩ = some (.func (.func g) #[] lb) := by simp
  have z1 : (w.alloc (.cells #[.func (.func g) #[] lb, .func (.func sf) #[] sb] 119)).cell? ⟨w.heap.size, 1, none⟩ = some (.func (.func sf) #[] sb) := by simp
  clear E h S0 hI1 hS1 hW
  obtain ⟨i, Hi⟩ : ∃ i, Hid (i = a + 1) := ⟨_, rfl⟩
  obtain ⟨j, Hj⟩ : ∃ j, Hid (j = b - 1) := ⟨_, rfl⟩
  obtain ⟨dk, Hdk⟩ : ∃ dk, Hid (dk = swp d a pivot) := ⟨_, rfl⟩
  have S : SSt blk I w w.heap.size g lb sf sb dk W1 := by rw [Hdk.out]; exact S1'
  have hij : i ≤ j + 1 := by have := Hi.out; have := Hj.out; omega
  have hai : a < i := by have := Hi.out; omega
  have hjb : j < b := by have := Hj.out; omega
  have hic : (a : Int) + 1 = (i : Int) := by have := Hi.out; omega
  have hjc : (b : Int) - 1 = (j : Int) := by have := Hj.out; omega
  clear S1'
  go_enter Tryz.func94, Tryz.ntmps94
  go_wp2
  go_loopw [10] (fun vi w1 => ∃ i1 : Nat, vi = .int .i64 i1 ∧ i ≤ i1 ∧ i1 ≤ j + 1 ∧ SSt blk I w w.heap.size g lb sf sb dk w1 ∧ Hid (scanUp (fun x => lt x dk[a]!) dk j i1 = scanUp (fun x => lt x dk[a]!) dk j i)) (fun vi _ => j + 1 - (intOf vi).toNat)
  case atStart => exact ⟨i, by first | rfl | go_num | (congr 1; omega), Nat.le_refl _, hij, S, rfl⟩
  case round =>
    obtain ⟨i1, rfl, h1, h2, S1, HU⟩ := hrel
    have c0 := S1.c0
    have c1 := S1.c1
    by_cases hle : i1 ≤ j
    · have hlez : (i1 : Int) ≤ (j : Int) := by omega
      cases hv : lt dk[i1]! dk[a]! with
      | true =>
        have hl := HE.out.lessV dk i1 a i1 a true hv rfl rfl (by omega) (by omega) _ S1.i
        have HU2 : Hid (scanUp (fun x => lt x dk[a]!) dk j (i1 + 1) = scanUp (fun x => lt x dk[a]!) dk j i) := (scanUp_go (fun x => lt x dk[a]!) dk j i1 hle (hv)).symm.trans HU.out
        go_wp2_with (go_at_fn g; refine hl.mono ?_; rintro e w4 ⟨rfl, hI4, hS4⟩; have S4 := S1.step HB.out hI4 hS4; clear hl)
        go_roundw
        case rel =>
          first
            | exact ⟨i1 + 1, by go_num, by omega, by omega, S4, HU2⟩
            | ((repeat apply Exists.intro); refine ⟨?_, rfl⟩; exact ⟨i1 + 1, by go_num, by omega, by omega, S4, HU2⟩)
            | ((repeat apply Exists.intro); exact ⟨⟨i1 + 1, by go_num, by omega, by omega, S4, HU2⟩, by rw [DEC.out, show ((i1 + 1 : Nat) : Int) = (i1 : Int) + 1 by omega]⟩)
        case measure => simp [intOf] <;> omega
      | false =>
        have hl := HE.out.lessV dk i1 a i1 a false hv rfl rfl (by omega) (by omega) _ S1.i
        have HI : Hid (i1 = scanUp (fun x => lt x dk[a]!) dk j i) := (scanUp_end (fun x => lt x dk[a]!) dk j i1 (Or.inr (hv))).symm.trans HU.out
        go_wp2_with (go_at_fn g; refine hl.mono ?_; rintro e w4 ⟨rfl, hI4, hS4⟩; have S2 := S1.step HB.out hI4 hS4; clear hl c0 c1)
        go_loopw [11] (fun vj w2 => ∃ j1 : Nat, vj = .int .i64 j1 ∧ j1 ≤ j ∧ i1 ≤ j1 + 1 ∧ SSt blk I w w.heap.size g lb sf sb dk w2 ∧ Hid (scanDown (fun x => !lt x dk[a]!) dk i1 j1 = scanDown (fun x => !lt x dk[a]!) dk i1 j)) (fun vj _ => (intOf vj).toNat)
        case atStart => exact ⟨j, by first | rfl | go_num | (congr 1; omega), Nat.le_refl _, h2, S2, rfl⟩
        case round =>
          obtain ⟨j1, rfl, g1, g2, S3, HD⟩ := hrel
          have k0 := S3.c0
          have k1 := S3.c1
          by_cases hle2 : i1 ≤ j1
          · have hle2z : (i1 : Int) ≤ (j1 : Int) := by omega
            cases hv2 : lt dk[j1]! dk[a]! with
            | false =>
              have hl := HE.out.lessV dk j1 a j1 a false hv2 rfl rfl (by omega) (by omega) _ S3.i
              have HD2 : Hid (scanDown (fun x => !lt x dk[a]!) dk i1 (j1 - 1) = scanDown (fun x => !lt x dk[a]!) dk i1 j) := (scanDown_go (fun x => !lt x dk[a]!) dk i1 j1 hle2 (by omega) (by simp [hv2])).symm.trans HD.out
              go_wp2_with (go_at_fn g; refine hl.mono ?_; rintro e w4 ⟨rfl, hI4, hS4⟩; have S4 := S3.step HB.out hI4 hS4; clear hl)
              go_roundw
              case rel =>
                first
                  | exact ⟨j1 - 1, by congr 1 <;> omega, by omega, by omega, S4, HD2⟩
                  | ((repeat apply Exists.intro); refine ⟨?_, rfl⟩; exact ⟨j1 - 1, by congr 1 <;> omega, by omega, by omega, S4, HD2⟩)
                  | ((repeat apply Exists.intro); exact ⟨⟨j1 - 1, by congr 1 <;> omega, by omega, by omega, S4, HD2⟩, by rw [DEC.out, show ((j1 - 1 : Nat) : Int) = (j1 : Int) - 1 by omega]⟩)
              case measure => simp [intOf] <;> omega
            | true =>
              have hl := HE.out.lessV dk j1 a j1 a true hv2 rfl rfl (by omega) (by omega) _ S3.i
              have HJ : Hid (j1 = scanDown (fun x => !lt x dk[a]!) dk i1 j) := (scanDown_end (fun x => !lt x dk[a]!) dk i1 j1 (Or.inr (by simp [hv2]))).symm.trans HD.out
              have hlt3 := part_scans_lt lt a i j dk (by omega) HI.out HJ.out hle2
              have hngt : ¬ (j1 : Int) < (i1 : Int) := by omega
              go_wp2_with (go_at_fn g; refine hl.mono ?_; rintro e w4 ⟨rfl, hI4, hS4⟩; have S4 := S3.step HB.out hI4 hS4; have m0 := S4.c0; have m1 := S4.c1; obtain ⟨W5, hrun, hI5, hS5⟩ := HE.out.swapI dk w4 i1 j1 i1 j1 rfl rfl S4.i (by omega) (by omega); have S5 := S4.step HB.out hI5 hS5; clear hl)
              obtain ⟨R, HR⟩ : ∃ R, Hid (R = partLoop lt a (i1 + 1) (j1 - 1) (swp dk i1 j1)) := ⟨_, rfl⟩
              have HP : Hid (partition lt d a b pivot = (R.1, false, swp R.2 R.1 a)) := by show _ = _; rw [HR.out]; exact part_first_go lt d a b pivot Hi.out Hj.out Hdk.out HI.out HJ.out (by omega)
              clear HU HD S S1 S2 S3 S4 k0 k1 hrun m0 m1
              have B1 : Hid (i1 < j1) := hlt3
              have DEC : Hid (decide (j1 < i1) = false) := by show _ = _; simp; omega
              clear hngt hlt3 hle2 hle2z
              go_loopw [10, 11] (fun vi vj wr => ∃ (i j : Nat) (dk : Array α), vi = .int .i64 i ∧ vj = .int .i64 j ∧ a < i ∧ i ≤ j + 1 ∧ j < b ∧ SSt blk I w w.heap.size g lb sf sb dk wr ∧ Hid (partLoop lt a i j dk = R)) (fun vi vj _ => (intOf vj).toNat + 1 - (intOf vi).toNat)
              case atStart => exact ⟨i1 + 1, j1 - 1, swp dk i1 j1, by go_num, by have := B1.out; congr 1; omega, by omega, by have := B1.out; omega, by omega, S5, HR.out.symm⟩
              case round =>
                clear S5 HI HJ HR Hi Hj Hdk hv hv2
                obtain ⟨i, j, dk, rfl, rfl, hai, hij, hjb, S, HK⟩ := hrel
                go_wp2
                go_loopw [10] (fun vi w1 => ∃ i1 : Nat, vi = .int .i64 i1 ∧ i ≤ i1 ∧ i1 ≤ j + 1 ∧ SSt blk I w w.heap.size g lb sf sb dk w1 ∧ Hid (scanUp (fun x => lt x dk[a]!) dk j i1 = scanUp (fun x => lt x dk[a]!) dk j i)) (fun vi _ => j + 1 - (intOf vi).toNat)
                case atStart => exact ⟨i, by first | rfl | go_num | (congr 1; omega), Nat.le_refl _, hij, S, rfl⟩
                case round =>
                  obtain ⟨i1, rfl, h1, h2, S1, HU⟩ := hrel
                  have c0 := S1.c0
                  have c1 := S1.c1
                  by_cases hle : i1 ≤ j
                  · have hlez : (i1 : Int) ≤ (j : Int) := by omega
                    cases hv : lt dk[i1]! dk[a]! with
                    | true =>
                      have hl := HE.out.lessV dk i1 a i1 a true hv rfl rfl (by omega) (by omega) _ S1.i
                      have HU2 : Hid (scanUp (fun x => lt x dk[a]!) dk j (i1 + 1) = scanUp (fun x => lt x dk[a]!) dk j i) := (scanUp_go (fun x => lt x dk[a]!) dk j i1 hle (hv)).symm.trans HU.out
                      go_wp2_with (go_at_fn g; refine hl.mono ?_; rintro e w4 ⟨rfl, hI4, hS4⟩; have S4 := S1.step HB.out hI4 hS4; clear hl)
                      go_roundw
                      case rel =>
                        first
                          | exact ⟨i1 + 1, by go_num, by omega, by omega, S4, HU2⟩
                          | ((repeat apply Exists.intro); refine ⟨?_, rfl⟩; exact ⟨i1 + 1, by go_num, by omega, by omega, S4, HU2⟩)
                          | ((repeat apply Exists.intro); exact ⟨⟨i1 + 1, by go_num, by omega, by omega, S4, HU2⟩, by rw [DEC.out, show ((i1 + 1 : Nat) : Int) = (i1 : Int) + 1 by omega]⟩)
                      case measure => simp [intOf] <;> omega
                    | false =>
                      have hl := HE.out.lessV dk i1 a i1 a false hv rfl rfl (by omega) (by omega) _ S1.i
                      have HI : Hid (i1 = scanUp (fun x => lt x dk[a]!) dk j i) := (scanUp_end (fun x => lt x dk[a]!) dk j i1 (Or.inr (hv))).symm.trans HU.out
                      go_wp2_with (go_at_fn g; refine hl.mono ?_; rintro e w4 ⟨rfl, hI4, hS4⟩; have S2 := S1.step HB.out hI4 hS4; clear hl c0 c1)
                      go_loopw [11] (fun vj w2 => ∃ j1 : Nat, vj = .int .i64 j1 ∧ j1 ≤ j ∧ i1 ≤ j1 + 1 ∧ SSt blk I w w.heap.size g lb sf sb dk w2 ∧ Hid (scanDown (fun x => !lt x dk[a]!) dk i1 j1 = scanDown (fun x => !lt x dk[a]!) dk i1 j)) (fun vj _ => (intOf vj).toNat)
                      case atStart => exact ⟨j, by first | rfl | go_num | (congr 1; omega), Nat.le_refl _, h2, S2, rfl⟩
                      case round =>
                        obtain ⟨j1, rfl, g1, g2, S3, HD⟩ := hrel
                        have k0 := S3.c0
                        have k1 := S3.c1
                        by_cases hle2 : i1 ≤ j1
                        · have hle2z : (i1 : Int) ≤ (j1 : Int) := by omega
                          cases hv2 : lt dk[j1]! dk[a]! with
                          | false =>
                            have hl := HE.out.lessV dk j1 a j1 a false hv2 rfl rfl (by omega) (by omega) _ S3.i
                            have HD2 : Hid (scanDown (fun x => !lt x dk[a]!) dk i1 (j1 - 1) = scanDown (fun x => !lt x dk[a]!) dk i1 j) := (scanDown_go (fun x => !lt x dk[a]!) dk i1 j1 hle2 (by omega) (by simp [hv2])).symm.trans HD.out
                            go_wp2_with (go_at_fn g; refine hl.mono ?_; rintro e w4 ⟨rfl, hI4, hS4⟩; have S4 := S3.step HB.out hI4 hS4; clear hl)
                            go_roundw
                            case rel =>
                              first
                                | exact ⟨j1 - 1, by congr 1 <;> omega, by omega, by omega, S4, HD2⟩
                                | ((repeat apply Exists.intro); refine ⟨?_, rfl⟩; exact ⟨j1 - 1, by congr 1 <;> omega, by omega, by omega, S4, HD2⟩)
                                | ((repeat apply Exists.intro); exact ⟨⟨j1 - 1, by congr 1 <;> omega, by omega, by omega, S4, HD2⟩, by rw [DEC.out, show ((j1 - 1 : Nat) : Int) = (j1 : Int) - 1 by omega]⟩)
                            case measure => simp [intOf] <;> omega
                          | true =>
                            have hl := HE.out.lessV dk j1 a j1 a true hv2 rfl rfl (by omega) (by omega) _ S3.i
                            have HJ : Hid (j1 = scanDown (fun x => !lt x dk[a]!) dk i1 j) := (scanDown_end (fun x => !lt x dk[a]!) dk i1 j1 (Or.inr (by simp [hv2]))).symm.trans HD.out
                            have hlt3 := part_scans_lt lt a i j dk (by omega) HI.out HJ.out hle2
                            have hngt : ¬ (j1 : Int) < (i1 : Int) := by omega
                            go_wp2_with (go_at_fn g; refine hl.mono ?_; rintro e w4 ⟨rfl, hI4, hS4⟩; have S4 := S3.step HB.out hI4 hS4; have m0 := S4.c0; have m1 := S4.c1; obtain ⟨W5, hrun, hI5, hS5⟩ := HE.out.swapI dk w4 i1 j1 i1 j1 rfl rfl S4.i (by omega) (by omega); have S5 := S4.step HB.out hI5 hS5; clear hl)
                            have HN : Hid (partLoop lt a (i1 + 1) (j1 - 1) (swp dk i1 j1) = R) := by show _ = _; rw [← HK.out]; exact (part_go lt a i j dk HI.out HJ.out (by omega)).symm
                            go_roundw
                            case rel =>
                              first
                                | exact ⟨i1 + 1, j1 - 1, swp dk i1 j1, by go_num, by congr 1 <;> omega, by omega, by omega, by omega, S5, HN⟩
                                | ((repeat apply Exists.intro); refine ⟨?_, rfl⟩; exact ⟨i1 + 1, j1 - 1, swp dk i1 j1, by go_num, by congr 1 <;> omega, by omega, by omega, by omega, S5, HN⟩)
                                | ((repeat apply Exists.intro); exact ⟨⟨i1 + 1, j1 - 1, swp dk i1 j1, by go_num, by congr 1 <;> omega, by omega, by omega, by omega, S5, HN⟩, by rw [DEC.out, show ((i1 + 1 : Nat) : Int) = (i1 : Int) + 1 by omega, show ((j1 - 1 : Nat) : Int) = (j1 : Int) - 1 by omega]⟩)
                            case measure => simp [intOf] <;> omega
                        · have hle2z : ¬ (i1 : Int) ≤ (j1 : Int) := by omega
                          have HJ : Hid (j1 = scanDown (fun x => !lt x dk[a]!) dk i1 j) := (scanDown_end (fun x => !lt x dk[a]!) dk i1 j1 (Or.inl hle2)).symm.trans HD.out
                          have hgt : (j1 : Int) < (i1 : Int) := by omega
                          have HN : Hid (R = (j1, dk)) := by show _ = _; rw [← HK.out]; exact part_break lt a i j dk HI.out HJ.out (by omega)
                          have HX : Hid (partition lt d a b pivot = (j1, false, swp dk j1 a)) := by show _ = _; rw [HP.out, HN.out]
                          obtain ⟨W6, hrun6, hI6, hS6⟩ := HE.out.swapI dk _ j1 a j1 a rfl rfl S3.i (by omega) (by omega)
                          have S6 := S3.step HB.out hI6 hS6
                          go_wp2
                          go_ret2
                          exact ⟨by rw [HX.out]; rfl, by rw [HX.out]; exact S6.i, S6.st⟩
                  · have hlez : ¬ (i1 : Int) ≤ (j : Int) := by omega
                    have HI : Hid (i1 = scanUp (fun x => lt x dk[a]!) dk j i) := (scanUp_end (fun x => lt x dk[a]!) dk j i1 (Or.inl hle)).symm.trans HU.out
                    clear c0 c1
                    go_wp2
                    go_loopw [11] (fun vj w2 => ∃ j1 : Nat, vj = .int .i64 j1 ∧ j1 ≤ j ∧ i1 ≤ j1 + 1 ∧ SSt blk I w w.heap.size g lb sf sb dk w2 ∧ Hid (scanDown (fun x => !lt x dk[a]!) dk i1 j1 = scanDown (fun x => !lt x dk[a]!) dk i1 j)) (fun vj _ => (intOf vj).toNat)
                    case atStart => exact ⟨j, by first | rfl | go_num | (congr 1; omega), Nat.le_refl _, h2, S1, rfl⟩
                    case round =>
                      obtain ⟨j1, rfl, g1, g2, S3, HD⟩ := hrel
                      have k0 := S3.c0
                      have k1 := S3.c1
                      by_cases hle2 : i1 ≤ j1
                      · exfalso; omega
                      · have hle2z : ¬ (i1 : Int) ≤ (j1 : Int) := by omega
                        have HJ : Hid (j1 = scanDown (fun x => !lt x dk[a]!) dk i1 j) := (scanDown_end (fun x => !lt x dk[a]!) dk i1 j1 (Or.inl hle2)).symm.trans HD.out
                        have hgt : (j1 : Int) < (i1 : Int) := by omega
                        have HN : Hid (R = (j1, dk)) := by show _ = _; rw [← HK.out]; exact part_break lt a i j dk HI.out HJ.out (by omega)
                        have HX : Hid (partition lt d a b pivot = (j1, false, swp dk j1 a)) := by show _ = _; rw [HP.out, HN.out]
                        obtain ⟨W6, hrun6, hI6, hS6⟩ := HE.out.swapI dk _ j1 a j1 a rfl rfl S3.i (by omega) (by omega)
                        have S6 := S3.step HB.out hI6 hS6
                        go_wp2
                        go_ret2
                        exact ⟨by rw [HX.out]; rfl, by rw [HX.out]; exact S6.i, S6.st⟩
          · have hle2z : ¬ (i1 : Int) ≤ (j1 : Int) := by omega
            have HJ : Hid (j1 = scanDown (fun x => !lt x dk[a]!) dk i1 j) := (scanDown_end (fun x => !lt x dk[a]!) dk i1 j1 (Or.inl hle2)).symm.trans HD.out
            have hgt : (j1 : Int) < (i1 : Int) := by omega
            have HX : Hid (partition lt d a b pivot = (j1, true, swp dk j1 a)) := part_first_break lt d a b pivot Hi.out Hj.out Hdk.out HI.out HJ.out (by omega)
            obtain ⟨W6, hrun6, hI6, hS6⟩ := HE.out.swapI dk _ j1 a j1 a rfl rfl S3.i (by omega) (by omega)
            have S6 := S3.step HB.out hI6 hS6
            go_wp2
            go_ret2
            exact ⟨by rw [HX.out]; rfl, by rw [HX.out]; exact S6.i, S6.st⟩
    · have hlez : ¬ (i1 : Int) ≤ (j : Int) := by omega
      have HI : Hid (i1 = scanUp (fun x => lt x dk[a]!) dk j i) := (scanUp_end (fun x => lt x dk[a]!) dk j i1 (Or.inl hle)).symm.trans HU.out
      clear c0 c1
      go_wp2
      go_loopw [11] (fun vj w2 => ∃ j1 : Nat, vj = .int .i64 j1 ∧ j1 ≤ j ∧ i1 ≤ j1 + 1 ∧ SSt blk I w w.heap.size g lb sf sb dk w2 ∧ Hid (scanDown (fun x => !lt x dk[a]!) dk i1 j1 = scanDown (fun x => !lt x dk[a]!) dk i1 j)) (fun vj _ => (intOf vj).toNat)
      case atStart => exact ⟨j, by first | rfl | go_num | (congr 1; omega), Nat.le_refl _, h2, S1, rfl⟩
      case round =>
        obtain ⟨j1, rfl, g1, g2, S3, HD⟩ := hrel
        have k0 := S3.c0
        have k1 := S3.c1
        by_cases hle2 : i1 ≤ j1
        · exfalso; omega
        · have hle2z : ¬ (i1 : Int) ≤ (j1 : Int) := by omega
          have HJ : Hid (j1 = scanDown (fun x => !lt x dk[a]!) dk i1 j) := (scanDown_end (fun x => !lt x dk[a]!) dk i1 j1 (Or.inl hle2)).symm.trans HD.out
          have hgt : (j1 : Int) < (i1 : Int) := by omega
          have HX : Hid (partition lt d a b pivot = (j1, true, swp dk j1 a)) := part_first_break lt d a b pivot Hi.out Hj.out Hdk.out HI.out HJ.out (by omega)
          obtain ⟨W6, hrun6, hI6, hS6⟩ := HE.out.swapI dk _ j1 a j1 a rfl rfl S3.i (by omega) (by omega)
          have S6 := S3.step HB.out hI6 hS6
          go_wp2
          go_ret2
          exact ⟨by rw [HX.out]; rfl, by rw [HX.out]; exact S6.i, S6.st⟩
end Go.Proofs.YtollijngiioonabGreat

/- sort.partialInsertionSort_func, by a comparison that may lay blocks. Conditions: rows of less than 2^62 elements. -/
namespace Go.Proofs.YtollijngiioonabGreat
set_option maxRecDepth 100000
open Go.RowKit Go.Sort

variable {α : Type} [Inhabited α]
variable {g : Nat} {lb : Array Value} {sf : Nat} {sb : Array Value} {lt : α → α → Bool} {n blk base : Nat} {I : Array α → World → Prop}

theorem pIns_succ (lt : α → α → Bool) (a b t i : Nat) (d : Array α) : partialIns lt a b (t + 1) i d = if scanSorted lt d b i = b then (d, true) else if b - a < 50 then (d, false) else partialIns lt a b t (scanSorted lt d b i) (if b - scanSorted lt d b i ≥ 2 then shiftUp lt b (scanSorted lt d b i + 1) (if scanSorted lt d b i - a ≥ 2 then shiftDown lt (scanSorted lt d b i - 1) (swp d (scanSorted lt d b i) (scanSorted lt d b i - 1)) else swp d (scanSorted lt d b i) (scanSorted lt d b i - 1)) else (if scanSorted lt d b i - a ≥ 2 then shiftDown lt (scanSorted lt d b i - 1) (swp d (scanSorted lt d b i) (scanSorted lt d b i - 1)) else swp d (scanSorted lt d b i) (scanSorted lt d b i - 1))) := rfl

set_option maxHeartbeats 4000000 in
theorem partialIns_any (E : SEnv g lb sf sb lt n blk base I) (a b : Nat) (d : Array α) (w : World) (h : I d w) (hab : a < b) (hb : b ≤ n) :
    Calls Tryz.prog 92 #[.agg #[.func (.func g) #[] lb, .func (.func sf) #[] sb], .int .i64 a, .int .i64 b] w fun e w' => e = .returned (.bool (partialInsertionSort lt d a b).2) ∧ I (partialInsertionSort lt d a b).1 w' ∧ Stay (fun k => k ≠ blk) w w' := by
  have eg := E.eg
  have hbig := E.big
  have HB : Hid (w.heap.size ≠ blk) := by have := E.lt _ _ h; have := E.bb; show _ ≠ _; omega
  have HE : Hid (SEnv g lb sf sb lt n blk base I) := E
  have S0 := SSt.start E h 119
  clear E h
  go_enter Tryz.func92, Tryz.ntmps92
  go_wp2
  go_loopw [7, 8] (fun vi vs wr => ∃ (i s : Nat) (dk : Array α), vi = .int .i64 i ∧ vs = .int .i64 s ∧ s ≤ 5 ∧ a < i ∧ i ≤ b ∧ SSt blk I w w.heap.size g lb sf sb dk wr ∧ Hid (partialIns lt a b (5 - s) i dk = partialInsertionSort lt d a b)) (fun _ vs _ => 5 - (intOf vs).toNat)
  case atStart => exact ⟨a + 1, 0, d, by go_num, rfl, by omega, by omega, by omega, S0, rfl⟩
  case round =>
    obtain ⟨i, s, dk, rfl, rfl, hs5, hai, hib, S, HS⟩ := hrel
    clear S0
    by_cases hs : s < 5
    · have hsz : (s : Int) < 5 := by omega
      obtain ⟨t, ht⟩ : ∃ t, 5 - s = t + 1 := ⟨4 - s, by omega⟩
      have HS1 : Hid (partialIns lt a b (t + 1) i dk = partialInsertionSort lt d a b) := by have := HS.out; rw [ht] at this; exact this
      have htt : t = 4 - s := by omega
      clear ht HS
      go_wp2
      go_loopw [7] (fun vi w1 => ∃ i1 : Nat, vi = .int .i64 i1 ∧ i ≤ i1 ∧ i1 ≤ b ∧ SSt blk I w w.heap.size g lb sf sb dk w1 ∧ Hid (scanSorted lt dk b i1 = scanSorted lt dk b i)) (fun vi _ => b - (intOf vi).toNat)
      case atStart => exact ⟨i, rfl, Nat.le_refl _, hib, S, rfl⟩
      case round =>
        obtain ⟨i1, rfl, h1, h2, S1, HC⟩ := hrel
        have c0 := S1.c0
        have c1 := S1.c1
        by_cases hlt : i1 < b
        · have hltz : (i1 : Int) < (b : Int) := by omega
          have hi1w : IntKind.i64.wrap ((i1 : Int) - 1) = (i1 : Int) - 1 := by rw [IntKind.wrap_i64]; omega
          cases hv : lt dk[i1]! dk[i1 - 1]! with
          | false =>
            have hl := HE.out.lessV dk i1 (i1 - 1) i1 ((i1 : Int) - 1) false hv rfl (by omega) (by omega) (by omega) _ S1.i
            have HC2 : Hid (scanSorted lt dk b (i1 + 1) = scanSorted lt dk b i) := by have := HC.out; rw [scanSorted] at this; simp only [hlt, hv, decide_true, Bool.not_false, Bool.and_self, if_true] at this; exact this
            go_wp2_with (go_at_fn g; refine hl.mono ?_; rintro e w4 ⟨rfl, hI4, hS4⟩; have S4 := S1.step HB.out hI4 hS4; clear hl)
            go_roundw
            case rel =>
              first
                | exact ⟨i1 + 1, by go_num, by omega, by omega, S4, HC2⟩
                | ((repeat apply Exists.intro); refine ⟨?_, rfl⟩; exact ⟨i1 + 1, by go_num, by omega, by omega, S4, HC2⟩)
            case measure => simp [intOf] <;> omega
          | true =>
            have hl := HE.out.lessV dk i1 (i1 - 1) i1 ((i1 : Int) - 1) true hv rfl (by omega) (by omega) (by omega) _ S1.i
            have HC3 : Hid (scanSorted lt dk b i = i1) := by have := HC.out; rw [scanSorted] at this; simp only [hv, Bool.not_true, Bool.and_false, Bool.false_eq_true, if_false] at this; exact this.symm
            have hne : ((i1 : Int) == (b : Int)) = false := by simp; omega
            by_cases h50 : b - a < 50
            · have h50z : (b : Int) - (a : Int) < 50 := by omega
              have HX : Hid (partialInsertionSort lt d a b = (dk, false)) := by show _ = _; rw [← HS1.out, pIns_succ, HC3.out, if_neg (by omega), if_pos h50]
              go_wp2_with (go_at_fn g; refine hl.mono ?_; rintro e w4 ⟨rfl, hI4, hS4⟩; have S4 := S1.step HB.out hI4 hS4; clear hl)
              go_ret
              exact ⟨by rw [HX.out]; rfl, by rw [HX.out]; exact S4.i, S4.st⟩
            · have h50z : ¬ (b : Int) - (a : Int) < 50 := by omega
              have HQ0 : Hid (partialIns lt a b t i1 (if b - i1 ≥ 2 then shiftUp lt b (i1 + 1) (if i1 - a ≥ 2 then shiftDown lt (i1 - 1) (swp dk i1 (i1 - 1)) else swp dk i1 (i1 - 1)) else (if i1 - a ≥ 2 then shiftDown lt (i1 - 1) (swp dk i1 (i1 - 1)) else swp dk i1 (i1 - 1))) = partialInsertionSort lt d a b) := by have := HS1.out; rw [pIns_succ, HC3.out, if_neg (by omega), if_neg h50] at this; exact this
              by_cases hl2 : 2 ≤ i1 - a
              · have hl2z : (2 : Int) ≤ (i1 : Int) - (a : Int) := by omega
                have HL : Hid (partialIns lt a b t i1 (if b - i1 ≥ 2 then shiftUp lt b (i1 + 1) (shiftDown lt (i1 - 1) (swp dk i1 (i1 - 1))) else shiftDown lt (i1 - 1) (swp dk i1 (i1 - 1))) = partialInsertionSort lt d a b) := by have := HQ0.out; rw [if_pos hl2] at this; exact this
                go_wp2_with (go_at_fn g; refine hl.mono ?_; rintro e w4 ⟨rfl, hI4, hS4⟩; have S4 := S1.step HB.out hI4 hS4; have m0 := S4.c0; have m1 := S4.c1; obtain ⟨W5, hrun, hI5, hS5⟩ := HE.out.swapI dk w4 i1 (i1 - 1) i1 ((i1 : Int) - 1) rfl (by omega) S4.i (by omega) (by omega); have S5 := S4.step HB.out hI5 hS5; clear hl)
                go_loopw [9] (fun vj w2 => ∃ (jd : Nat) (dd : Array α), vj = .int .i64 jd ∧ jd ≤ i1 - 1 ∧ SSt blk I w w.heap.size g lb sf sb dd w2 ∧ Hid (shiftDown lt jd dd = shiftDown lt (i1 - 1) (swp dk i1 (i1 - 1)))) (fun vj _ => (intOf vj).toNat)
                case atStart => exact ⟨i1 - 1, _, by congr 1 <;> omega, Nat.le_refl _, S5, rfl⟩
                case round =>
                  obtain ⟨jd, dd, rfl, q1, SD, HD⟩ := hrel
                  have u0 := SD.c0
                  have u1 := SD.c1
                  cases jd with
                  | zero =>
                    have HQ : Hid (partialIns lt a b t i1 (if b - i1 ≥ 2 then shiftUp lt b (i1 + 1) dd else dd) = partialInsertionSort lt d a b) := by have := HL.out; rw [← HD.out] at this; exact this
                    by_cases hr2 : 2 ≤ b - i1
                    · have hr2z : (2 : Int) ≤ (b : Int) - (i1 : Int) := by omega
                      have HQ2 : Hid (partialIns lt a b t i1 (shiftUp lt b (i1 + 1) dd) = partialInsertionSort lt d a b) := by have := HQ.out; rw [if_pos hr2] at this; exact this
                      go_wp2
                      go_loopw [10] (fun vj w2 => ∃ (ju : Nat) (du : Array α), vj = .int .i64 ju ∧ i1 + 1 ≤ ju ∧ ju ≤ b ∧ SSt blk I w w.heap.size g lb sf sb du w2 ∧ Hid (shiftUp lt b ju du = shiftUp lt b (i1 + 1) dd)) (fun vj _ => b - (intOf vj).toNat)
                      case atStart => exact ⟨i1 + 1, _, by go_num, Nat.le_refl _, by omega, SD, rfl⟩
                      case round =>
                        obtain ⟨ju, du, rfl, q1, q2, SU, HU⟩ := hrel
                        have u0 := SU.c0
                        have u1 := SU.c1
                        by_cases hjb : ju < b
                        · have hjbz : (ju : Int) < (b : Int) := by omega
                          cases hvu : lt du[ju]! du[ju - 1]! with
                          | true =>
                            have hl := HE.out.lessV du ju (ju - 1) ju ((ju : Int) - 1) true hvu rfl (by omega) (by omega) (by omega) _ SU.i
                            have HU2 : Hid (shiftUp lt b (ju + 1) (swp du ju (ju - 1)) = shiftUp lt b (i1 + 1) dd) := by have := HU.out; rw [shiftUp, if_pos hjb, hvu] at this; exact this
                            go_wp2_with (go_at_fn g; refine hl.mono ?_; rintro e w6 ⟨rfl, hI6, hS6⟩; have S6 := SU.step HB.out hI6 hS6; have x0 := S6.c0; have x1 := S6.c1; obtain ⟨W7, hrun7, hI7, hS7⟩ := HE.out.swapI du w6 ju (ju - 1) ju ((ju : Int) - 1) rfl (by omega) S6.i (by omega) (by omega); have S7 := S6.step HB.out hI7 hS7; clear hl)
                            go_roundw
                            case rel =>
                              first
                                | exact ⟨ju + 1, swp du ju (ju - 1), by go_num, by omega, by omega, S7, HU2⟩
                                | ((repeat apply Exists.intro); refine ⟨?_, rfl⟩; exact ⟨ju + 1, swp du ju (ju - 1), by go_num, by omega, by omega, S7, HU2⟩)
                            case measure => simp [intOf] <;> omega
                          | false =>
                            have hl := HE.out.lessV du ju (ju - 1) ju ((ju : Int) - 1) false hvu rfl (by omega) (by omega) (by omega) _ SU.i
                            have HF : Hid (partialIns lt a b t i1 du = partialInsertionSort lt d a b) := by have := HQ2.out; rw [← HU.out, shiftUp, if_pos hjb, hvu] at this; exact this
                            go_wp2_with (go_at_fn g; refine hl.mono ?_; rintro e w6 ⟨rfl, hI6, hS6⟩; have S6 := SU.step HB.out hI6 hS6; clear hl)
                            go_roundw
                            case rel =>
                              first
                                | exact ⟨i1, s + 1, du, rfl, by go_num, by omega, by omega, by omega, S6, by rw [show 5 - (s + 1) = t by omega]; exact HF⟩
                                | ((repeat apply Exists.intro); refine ⟨?_, rfl⟩; exact ⟨i1, s + 1, du, rfl, by go_num, by omega, by omega, by omega, S6, by rw [show 5 - (s + 1) = t by omega]; exact HF⟩)
                            case measure => simp [intOf] <;> omega
                        · have hjbz : ¬ (ju : Int) < (b : Int) := by omega
                          have HF : Hid (partialIns lt a b t i1 du = partialInsertionSort lt d a b) := by have := HQ2.out; rw [← HU.out, shiftUp, if_neg hjb] at this; exact this
                          go_wp2
                          go_roundw
                          case rel =>
                            first
                              | exact ⟨i1, s + 1, du, rfl, by go_num, by omega, by omega, by omega, SU, by rw [show 5 - (s + 1) = t by omega]; exact HF⟩
                              | ((repeat apply Exists.intro); refine ⟨?_, rfl⟩; exact ⟨i1, s + 1, du, rfl, by go_num, by omega, by omega, by omega, SU, by rw [show 5 - (s + 1) = t by omega]; exact HF⟩)
                          case measure => simp [intOf] <;> omega
                    · have hr2z : ¬ (2 : Int) ≤ (b : Int) - (i1 : Int) := by omega
                      have HF : Hid (partialIns lt a b t i1 dd = partialInsertionSort lt d a b) := by have := HQ.out; rw [if_neg hr2] at this; exact this
                      go_wp2
                      go_roundw
                      case rel =>
                        first
                          | exact ⟨i1, s + 1, dd, rfl, by go_num, by omega, by omega, by omega, SD, by rw [show 5 - (s + 1) = t by omega]; exact HF⟩
                          | ((repeat apply Exists.intro); refine ⟨?_, rfl⟩; exact ⟨i1, s + 1, dd, rfl, by go_num, by omega, by omega, by omega, SD, by rw [show 5 - (s + 1) = t by omega]; exact HF⟩)
                      case measure => simp [intOf] <;> omega
                  | succ jd =>
                    simp only [show ((jd + 1 : Nat) : Int) = (jd : Int) + 1 by omega]
                    have hjz : (1 : Int) ≤ (jd : Int) + 1 := by omega
                    have hjw : IntKind.i64.wrap ((jd : Int) + 1 - 1) = (jd : Int) := by rw [IntKind.wrap_i64]; omega
                    cases hvd : lt dd[jd + 1]! dd[jd]! with
                    | true =>
                      have hl := HE.out.lessV dd (jd + 1) jd ((jd : Int) + 1) (jd : Int) true hvd (by omega) rfl (by omega) (by omega) _ SD.i
                      have HD2 : Hid (shiftDown lt jd (swp dd (jd + 1) jd) = shiftDown lt (i1 - 1) (swp dk i1 (i1 - 1))) := by have := HD.out; rw [shiftDown, hvd] at this; exact this
                      go_wp2_with (go_at_fn g; refine hl.mono ?_; rintro e w6 ⟨rfl, hI6, hS6⟩; have S6 := SD.step HB.out hI6 hS6; have x0 := S6.c0; have x1 := S6.c1; obtain ⟨W7, hrun7, hI7, hS7⟩ := HE.out.swapI dd w6 (jd + 1) jd ((jd : Int) + 1) (jd : Int) (by omega) rfl S6.i (by omega) (by omega); have S7 := S6.step HB.out hI7 hS7; clear hl)
                      go_roundw
                      case rel =>
                        first
                          | exact ⟨jd, swp dd (jd + 1) jd, by first | rfl | (congr 1 <;> omega), by omega, S7, HD2⟩
                          | ((repeat apply Exists.intro); refine ⟨?_, rfl⟩; exact ⟨jd, swp dd (jd + 1) jd, by first | rfl | (congr 1 <;> omega), by omega, S7, HD2⟩)
                      case measure => simp [intOf] <;> omega
                    | false =>
                      have hl := HE.out.lessV dd (jd + 1) jd ((jd : Int) + 1) (jd : Int) false hvd (by omega) rfl (by omega) (by omega) _ SD.i
                      have e1 : Hid (shiftDown lt (jd + 1) dd = dd) := by show _ = _; rw [shiftDown, hvd]; rfl
                      have HQ : Hid (partialIns lt a b t i1 (if b - i1 ≥ 2 then shiftUp lt b (i1 + 1) dd else dd) = partialInsertionSort lt d a b) := by have := HL.out; rw [← HD.out, e1.out] at this; exact this
                      by_cases hr2 : 2 ≤ b - i1
                      · have hr2z : (2 : Int) ≤ (b : Int) - (i1 : Int) := by omega
                        have HQ2 : Hid (partialIns lt a b t i1 (shiftUp lt b (i1 + 1) dd) = partialInsertionSort lt d a b) := by have := HQ.out; rw [if_pos hr2] at this; exact this
                        go_wp2_with (go_at_fn g; refine hl.mono ?_; rintro e w6 ⟨rfl, hI6, hS6⟩; have S6 := SD.step HB.out hI6 hS6; clear hl)
                        go_loopw [10] (fun vj w2 => ∃ (ju : Nat) (du : Array α), vj = .int .i64 ju ∧ i1 + 1 ≤ ju ∧ ju ≤ b ∧ SSt blk I w w.heap.size g lb sf sb du w2 ∧ Hid (shiftUp lt b ju du = shiftUp lt b (i1 + 1) dd)) (fun vj _ => b - (intOf vj).toNat)
                        case atStart => exact ⟨i1 + 1, _, by go_num, Nat.le_refl _, by omega, S6, rfl⟩
                        case round =>
                          obtain ⟨ju, du, rfl, q1, q2, SU, HU⟩ := hrel
                          have u0 := SU.c0
                          have u1 := SU.c1
                          by_cases hjb : ju < b
                          · have hjbz : (ju : Int) < (b : Int) := by omega
                            cases hvu : lt du[ju]! du[ju - 1]! with
                            | true =>
                              have hl := HE.out.lessV du ju (ju - 1) ju ((ju : Int) - 1) true hvu rfl (by omega) (by omega) (by omega) _ SU.i
                              have HU2 : Hid (shiftUp lt b (ju + 1) (swp du ju (ju - 1)) = shiftUp lt b (i1 + 1) dd) := by have := HU.out; rw [shiftUp, if_pos hjb, hvu] at this; exact this
                              go_wp2_with (go_at_fn g; refine hl.mono ?_; rintro e w6 ⟨rfl, hI6, hS6⟩; have S6 := SU.step HB.out hI6 hS6; have x0 := S6.c0; have x1 := S6.c1; obtain ⟨W7, hrun7, hI7, hS7⟩ := HE.out.swapI du w6 ju (ju - 1) ju ((ju : Int) - 1) rfl (by omega) S6.i (by omega) (by omega); have S7 := S6.step HB.out hI7 hS7; clear hl)
                              go_roundw
                              case rel =>
                                first
                                  | exact ⟨ju + 1, swp du ju (ju - 1), by go_num, by omega, by omega, S7, HU2⟩
                                  | ((repeat apply Exists.intro); refine ⟨?_, rfl⟩; exact ⟨ju + 1, swp du ju (ju - 1), by go_num, by omega, by omega, S7, HU2⟩)
                              case measure => simp [intOf] <;> omega
                            | false =>
                              have hl := HE.out.lessV du ju (ju - 1) ju ((ju : Int) - 1) false hvu rfl (by omega) (by omega) (by omega) _ SU.i
                              have HF : Hid (partialIns lt a b t i1 du = partialInsertionSort lt d a b) := by have := HQ2.out; rw [← HU.out, shiftUp, if_pos hjb, hvu] at this; exact this
                              go_wp2_with (go_at_fn g; refine hl.mono ?_; rintro e w6 ⟨rfl, hI6, hS6⟩; have S6 := SU.step HB.out hI6 hS6; clear hl)
                              go_roundw
                              case rel =>
                                first
                                  | exact ⟨i1, s + 1, du, rfl, by go_num, by omega, by omega, by omega, S6, by rw [show 5 - (s + 1) = t by omega]; exact HF⟩
                                  | ((repeat apply Exists.intro); refine ⟨?_, rfl⟩; exact ⟨i1, s + 1, du, rfl, by go_num, by omega, by omega, by omega, S6, by rw [show 5 - (s + 1) = t by omega]; exact HF⟩)
                              case measure => simp [intOf] <;> omega
                          · have hjbz : ¬ (ju : Int) < (b : Int) := by omega
                            have HF : Hid (partialIns lt a b t i1 du = partialInsertionSort lt d a b) := by have := HQ2.out; rw [← HU.out, shiftUp, if_neg hjb] at this; exact this
                            go_wp2
                            go_roundw
                            case rel =>
                              first
                                | exact ⟨i1, s + 1, du, rfl, by go_num, by omega, by omega, by omega, SU, by rw [show 5 - (s + 1) = t by omega]; exact HF⟩
                                | ((repeat apply Exists.intro); refine ⟨?_, rfl⟩; exact ⟨i1, s + 1, du, rfl, by go_num, by omega, by omega, by omega, SU, by rw [show 5 - (s + 1) = t by omega]; exact HF⟩)
                            case measure => simp [intOf] <;> omega
                      · have hr2z : ¬ (2 : Int) ≤ (b : Int) - (i1 : Int) := by omega
                        have HF : Hid (partialIns lt a b t i1 dd = partialInsertionSort lt d a b) := by have := HQ.out; rw [if_neg hr2] at this; exact this
                        go_wp2_with (go_at_fn g; refine hl.mono ?_; rintro e w6 ⟨rfl, hI6, hS6⟩; have S6 := SD.step HB.out hI6 hS6; clear hl)
                        go_roundw
                        case rel =>
                          first
                            | exact ⟨i1, s + 1, dd, rfl, by go_num, by omega, by omega, by omega, S6, by rw [show 5 - (s + 1) = t by omega]; exact HF⟩
                            | ((repeat apply Exists.intro); refine ⟨?_, rfl⟩; exact ⟨i1, s + 1, dd, rfl, by go_num, by omega, by omega, by omega, S6, by rw [show 5 - (s + 1) = t by omega]; exact HF⟩)
                        case measure => simp [intOf] <;> omega
              · have hl2z : ¬ (2 : Int) ≤ (i1 : Int) - (a : Int) := by omega
                have HQ : Hid (partialIns lt a b t i1 (if b - i1 ≥ 2 then shiftUp lt b (i1 + 1) (swp dk i1 (i1 - 1)) else swp dk i1 (i1 - 1)) = partialInsertionSort lt d a b) := by have := HQ0.out; rw [if_neg hl2] at this; exact this
                by_cases hr2 : 2 ≤ b - i1
                · have hr2z : (2 : Int) ≤ (b : Int) - (i1 : Int) := by omega
                  have HQ2 : Hid (partialIns lt a b t i1 (shiftUp lt b (i1 + 1) (swp dk i1 (i1 - 1))) = partialInsertionSort lt d a b) := by have := HQ.out; rw [if_pos hr2] at this; exact this
                  go_wp2_with (go_at_fn g; refine hl.mono ?_; rintro e w4 ⟨rfl, hI4, hS4⟩; have S4 := S1.step HB.out hI4 hS4; have m0 := S4.c0; have m1 := S4.c1; obtain ⟨W5, hrun, hI5, hS5⟩ := HE.out.swapI dk w4 i1 (i1 - 1) i1 ((i1 : Int) - 1) rfl (by omega) S4.i (by omega) (by omega); have S5 := S4.step HB.out hI5 hS5; clear hl)
                  go_loopw [10] (fun vj w2 => ∃ (ju : Nat) (du : Array α), vj = .int .i64 ju ∧ i1 + 1 ≤ ju ∧ ju ≤ b ∧ SSt blk I w w.heap.size g lb sf sb du w2 ∧ Hid (shiftUp lt b ju du = shiftUp lt b (i1 + 1) (swp dk i1 (i1 - 1)))) (fun vj _ => b - (intOf vj).toNat)
                  case atStart => exact ⟨i1 + 1, _, by go_num, Nat.le_refl _, by omega, S5, rfl⟩
                  case round =>
                    obtain ⟨ju, du, rfl, q1, q2, SU, HU⟩ := hrel
                    have u0 := SU.c0
                    have u1 := SU.c1
                    by_cases hjb : ju < b
                    · have hjbz : (ju : Int) < (b : Int) := by omega
                      cases hvu : lt du[ju]! du[ju - 1]! with
                      | true =>
                        have hl := HE.out.lessV du ju (ju - 1) ju ((ju : Int) - 1) true hvu rfl (by omega) (by omega) (by omega) _ SU.i
                        have HU2 : Hid (shiftUp lt b (ju + 1) (swp du ju (ju - 1)) = shiftUp lt b (i1 + 1) (swp dk i1 (i1 - 1))) := by have := HU.out; rw [shiftUp, if_pos hjb, hvu] at this; exact this
                        go_wp2_with (go_at_fn g; refine hl.mono ?_; rintro e w6 ⟨rfl, hI6, hS6⟩; have S6 := SU.step HB.out hI6 hS6; have x0 := S6.c0; have x1 := S6.c1; obtain ⟨W7, hrun7, hI7, hS7⟩ := HE.out.swapI du w6 ju (ju - 1) ju ((ju : Int) - 1) rfl (by omega) S6.i (by omega) (by omega); have S7 := S6.step HB.out hI7 hS7; clear hl)
                        go_roundw
                        case rel =>
                          first
                            | exact ⟨ju + 1, swp du ju (ju - 1), by go_num, by omega, by omega, S7, HU2⟩
                            | ((repeat apply Exists.intro); refine ⟨?_, rfl⟩; exact ⟨ju + 1, swp du ju (ju - 1), by go_num, by omega, by omega, S7, HU2⟩)
                        case measure => simp [intOf] <;> omega
                      | false =>
                        have hl := HE.out.lessV du ju (ju - 1) ju ((ju : Int) - 1) false hvu rfl (by omega) (by omega) (by omega) _ SU.i
                        have HF : Hid (partialIns lt a b t i1 du = partialInsertionSort lt d a b) := by have := HQ2.out; rw [← HU.out, shiftUp, if_pos hjb, hvu] at this; exact this
                        go_wp2_with (go_at_fn g; refine hl.mono ?_; rintro e w6 ⟨rfl, hI6, hS6⟩; have S6 := SU.step HB.out hI6 hS6; clear hl)
                        go_roundw
                        case rel =>
                          first
                            | exact ⟨i1, s + 1, du, rfl, by go_num, by omega, by omega, by omega, S6, by rw [show 5 - (s + 1) = t by omega]; exact HF⟩
                            | ((repeat apply Exists.intro); refine ⟨?_, rfl⟩; exact ⟨i1, s + 1, du, rfl, by go_num, by omega, by omega, by omega, S6, by rw [show 5 - (s + 1) = t by omega]; exact HF⟩)
                        case measure => simp [intOf] <;> omega
                    · have hjbz : ¬ (ju : Int) < (b : Int) := by omega
                      have HF : Hid (partialIns lt a b t i1 du = partialInsertionSort lt d a b) := by have := HQ2.out; rw [← HU.out, shiftUp, if_neg hjb] at this; exact this
                      go_wp2
                      go_roundw
                      case rel =>
                        first
                          | exact ⟨i1, s + 1, du, rfl, by go_num, by omega, by omega, by omega, SU, by rw [show 5 - (s + 1) = t by omega]; exact HF⟩
                          | ((repeat apply Exists.intro); refine ⟨?_, rfl⟩; exact ⟨i1, s + 1, du, rfl, by go_num, by omega, by omega, by omega, SU, by rw [show 5 - (s + 1) = t by omega]; exact HF⟩)
                      case measure => simp [intOf] <;> omega
                · exfalso; omega
        · have hltz : ¬ (i1 : Int) < (b : Int) := by omega
          have HX : Hid (partialInsertionSort lt d a b = (dk, true)) := by show _ = _; rw [← HS1.out, pIns_succ, ← HC.out, scanSorted]; simp [hlt]; omega
          have heq : ((i1 : Int) == (b : Int)) = true := by simp; omega
          go_wp2
          go_ret
          exact ⟨by rw [HX.out]; rfl, by rw [HX.out]; exact S1.i, S1.st⟩
    · have hsz : ¬ (s : Int) < 5 := by omega
      have HX : Hid (partialInsertionSort lt d a b = (dk, false)) := by show _ = _; rw [← HS.out, show 5 - s = 0 by omega]; rfl
      go_wp2
      go_ret
      exact ⟨by rw [HX.out]; rfl, by rw [HX.out]; exact S.i, S.st⟩
end Go.Proofs.YtollijngiioonabGreat

/- Draws leave all that lies in memory. Conditions: none. -/
namespace Go.Proofs.YtollijngiioonabGreat
set_option maxRecDepth 100000
open Go.RowKit

theorem stay_drewN (S : Nat → Prop) (w : World) (k : Nat) : Stay S w (w.drewN k) := ⟨rfl, rfl, rfl, Nat.le_refl _, fun _ _ _ => rfl⟩
theorem below_drewsX (B : Nat) (w : World) (k : Nat) : Below B w (w.drewN k) := ⟨rfl, rfl, rfl, Nat.le_refl _, fun _ _ => rfl⟩
end Go.Proofs.YtollijngiioonabGreat

