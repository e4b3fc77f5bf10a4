/- What the proof of FnExactApply stands on, part 4 of 10: each piece says what it proves and under which conditions. Conditions: as each piece says. -/
import Derived.Test.YtcbafmohmoicnabPackExactApply3
import Derived.Sort.Walk7
import Derived.Deep.LoopGhost
import Derived.Sort.Walk13
import Derived.Test.YtcbafmohmoicnabProg
import Derived.Deep.RegionHeld3
import Derived.Deep.QuietTactic
import Derived.BigQuiet
import Derived.Below
import Derived.WalkKit
/- sort.breakPatterns_func, by a swap that turns the row alone. Conditions: rows of less than 2^62 elements. -/
namespace Go.Proofs.Ytcbafmohmoicnab
set_option maxRecDepth 100000
open Go.RowKit Go.Sort

variable {α : Type} [Inhabited α]
variable {g : Nat} {lb : Array Value} {sf : Nat} {sb : Array Value} {lt : α → α → Bool} {n blk base : Nat} {I : Array α → World → Prop}

/-- While breakPatterns runs: the row, the function values, the random number in its cell. -/
structure KSt (blk : Nat) (I : Array α → World → Prop) (w : World) (sf : Nat) (sb : Array Value) (d : Array α) (R : Nat) (wr : World) : Prop where
  i : I d wr
  c1 : wr.cell? ⟨w.heap.size, 1, none⟩ = some (.func (.func sf) #[] sb)
  cR : wr.cell? ⟨w.heap.size + 1, 0, none⟩ = some (.int .u64 (R : Int))
  fR : wr.frozen? ⟨w.heap.size + 1, 0, none⟩ = false
  st : Stay (fun k => k ≠ blk ∧ k ≠ w.heap.size + 1) w wr
/-- A new random number. -/
theorem KSt.next {w wr : World} {d : Array α} {R : Nat} (E : SEnv g lb sf sb lt n blk base I) (h : KSt blk I w sf sb d R wr) (R' : Nat) (hb : base ≤ w.heap.size) : KSt blk I w sf sb d R' ((wr.setCell ⟨w.heap.size + 1, 0, none⟩ (.int .u64 (R' : Int))).drewN 3) := by
  have h1 : I d (wr.setCell ⟨w.heap.size + 1, 0, none⟩ (.int .u64 (R' : Int))) := E.set d wr ⟨w.heap.size + 1, 0, none⟩ _ h.i (Nat.le_trans hb (Nat.le_succ _))
  refine ⟨E.on d _ _ h1 (below_drewsX _ _ 3), ?_, ?_, ?_, ?_⟩
  · rw [World.cell?_drewN, World.cell?_setCell_other _ _ _ _ (by intro e; simp only [Addr.mk.injEq, and_true] at e; omega)]; exact h.c1
  · rw [World.cell?_drewN]; exact World.cell?_setCell_same _ _ _ h.cR
  · rw [World.frozen?_drewN]; simpa using h.fR
  · exact (h.st.trans (.setCell _ _ (fun e => e.2 rfl))).trans (stay_drewN _ _ 3)
omit [Inhabited α] in
theorem KSt.swapped {w wr wr' : World} {d d' : Array α} {R : Nat} (h : KSt blk I w sf sb d R wr) (hne : w.heap.size ≠ blk ∧ w.heap.size + 1 ≠ blk) (hi : I d' wr') (hs : Stay (fun k => k ≠ blk) wr wr') : KSt blk I w sf sb d' R wr' :=
  ⟨hi, hs.cell h.c1 hne.1, hs.cell h.cR hne.2, (hs.frozen (World.block_lt_of_cell? _ _ h.cR) hne.2).trans h.fR, h.st.trans (hs.weak (fun _ _ hk => hk.1))⟩

set_option maxHeartbeats 4000000 in
theorem breakPatterns_go (E : SEnv g lb sf sb lt n blk base I) (a L : Nat) (d : Array α) (w : World) (h : I d w) (hb : a + L ≤ n) (h8 : 8 ≤ L) :
    Calls Try.prog 121 #[.agg #[.func (.func g) #[] lb, .func (.func sf) #[] sb], .int .i64 a, .int .i64 ((a + L : Nat) : Int)] w fun e w' => e = .returned (.tuple #[]) ∧ I (breakPatterns d a (a + L)) w' ∧ Stay (fun k => k ≠ blk) w w' := by
  have hbig := E.big
  rw [breakPatterns_eq d a L h8]
  obtain ⟨M, hM⟩ : ∃ M : Nat, M = 1 <<< bitsLen L := ⟨_, rfl⟩
  have hM1 : 1 ≤ M := by rw [hM, Nat.one_shiftLeft]; exact Nat.two_pow_pos _
  have hM2 : M ≤ 2 * L := by rw [hM, Nat.one_shiftLeft]; exact two_pow_bitsLen_le (by omega)
  have hNP : ∀ w, Calls Try.prog 129 #[.int .i64 (L : Int)] w fun e w' => e = .returned (.int .u64 (M : Int)) ∧ w' = w := by rw [hM]; exact fun w => Try.nextPowerOfTwo L (by omega) w
  rw [← hM]
  clear hM
  have hLz : ((a : Int) + (L : Int) - (a : Int)) = (L : Int) := by omega
  have h8z : (8 : Int) ≤ (L : Int) := by omega
  have hbase := E.lt _ _ h
  have HB : Hid (w.heap.size ≠ blk ∧ w.heap.size + 1 ≠ blk) := by have := E.bb; exact ⟨by omega, by omega⟩
  have HE : Hid (SEnv g lb sf sb lt n blk base I) := E
  have S0 : KSt blk I w sf sb d L ((w.alloc (.cells #[.func (.func g) #[] lb, .func (.func sf) #[] sb] 157)).alloc (.cells #[.int .u64 (L : Int)] 175)) :=
    ⟨E.on _ _ _ h (((Below.refl _ _).alloc (Nat.le_refl _) _).alloc (by simp) _), by simp [go_sem], by simp [go_sem], by simp [go_sem], (Stay.alloc _ _ _).trans (.alloc _ _ _)⟩
  clear E h
  go_enter Try.func121, Try.ntmps121
  go_wp2_with (first | (go_at_call 129; refine (hNP _).mono ?_; rintro e w' ⟨rfl, rfl⟩))
  go_loopg [9] 3 (fun g1 vi wr => ∃ (t : Nat) (r : UInt64) (dk : Array α), vi = .int .i64 ((a : Int) + (L : Int) / 4 * 2 - 1 + (t : Int)) ∧ t ≤ 3 ∧ 3 - t ≤ g1 ∧ KSt blk I w sf sb dk r.toNat wr ∧
      Hid (bpRest a L M (a + L / 4 * 2 - 1) (3 - t) t (r, dk) = bpRest a L M (a + L / 4 * 2 - 1) 3 0 (UInt64.ofNat L, d)))
  case atStart =>
    refine ⟨0, UInt64.ofNat L, d, by simp, by omega, by omega, ?_, rfl⟩
    rw [show (UInt64.ofNat L).toNat = L from by simp; omega]
    exact S0
  case round =>
    obtain ⟨t, r, dk, rfl, ht, hg1, S, HR⟩ := hrel
    clear S0
    by_cases ht3 : t < 3
    · have hle : (a : Int) + (L : Int) / 4 * 2 - 1 + (t : Int) ≤ (a : Int) + (L : Int) / 4 * 2 + 1 := by omega
      obtain ⟨R, hRr⟩ : ∃ R : Nat, R = r.toNat := ⟨_, rfl⟩
      have lR : R < 18446744073709551616 := by rw [hRr]; exact r.toNat_lt
      obtain ⟨R', hR'⟩ : ∃ R' : Nat, R' = xorNextN R := ⟨_, rfl⟩
      have lR' : R' < 18446744073709551616 := by rw [hR']; exact xorNextN_lt R lR
      obtain ⟨O, hO⟩ : ∃ O : Nat, O = R' &&& (M - 1) := ⟨_, rfl⟩
      have lO : O ≤ M - 1 := by rw [hO]; exact Nat.and_le_right
      have eAnd : bits .and .u64 (R' : Int) ((M : Int) - 1) = (O : Int) := by
        rw [show ((M : Int) - 1) = ((M - 1 : Nat) : Int) by omega, bits_and_u64_nat _ _ lR' (by omega), hO]
      rw [← hRr] at S
      have hNext : Calls Try.prog 130 #[.pointer (some ⟨w.heap.size + 1, 0, none⟩)] wr fun e w' => e = .returned (.int .u64 (R' : Int)) ∧ w' = (wr.setCell ⟨w.heap.size + 1, 0, none⟩ (.int .u64 (R' : Int))).drewN 3 := by
        rw [hR']; exact Try.xorshift_Next _ _ R lR wr S.cR S.fR
      have HN : Hid (R' = (xorNext r).toNat ∧ O = (xorNext r).toNat &&& (M - 1)) := by
        have e : R' = (xorNext r).toNat := by rw [hR', hRr, xorNext_toNat]
        exact ⟨e, by rw [hO, e]⟩
      clear hRr hR' hO
      have S2 := S.next HE.out R' hbase
      generalize (wr.setCell ⟨w.heap.size + 1, 0, none⟩ (.int .u64 (R' : Int))).drewN 3 = w2 at hNext S2
      have c1 := S2.c1
      clear S
      by_cases hLO : L ≤ O
      · have hLOz : (L : Int) ≤ (O : Int) := by omega
        obtain ⟨W4, hrun, hI4, hS4⟩ := HE.out.swapI dk w2 (a + L / 4 * 2 - 1 + t) (a + (O - L)) ((a : Int) + (L : Int) / 4 * 2 - 1 + (t : Int)) ((a : Int) + ((O : Int) - (L : Int))) (by omega) (by omega) S2.i (by omega) (by omega)
        have S3 := S2.swapped HB.out hI4 hS4
        clear S2
        go_wp2_with (go_at_call 130; refine hNext.mono ?_; rintro e w' ⟨rfl, rfl⟩)
        go_roundg (3 - (t + 1))
        case measure => omega
        case rel => exact ⟨t + 1, xorNext r, swp dk (a + L / 4 * 2 - 1 + t) (a + (O - L)), by congr 1; push_cast; omega, by omega, Nat.le_refl _, by rw [← HN.out.1]; exact S3,
          (show Hid _ from by rw [← HR.out, bp_step a L M _ t r dk (O - L) ht3 (by rw [← HN.out.2, if_pos (by omega)])]; exact rfl)⟩
      · have hLOz : ¬ (L : Int) ≤ (O : Int) := by omega
        obtain ⟨W4, hrun, hI4, hS4⟩ := HE.out.swapI dk w2 (a + L / 4 * 2 - 1 + t) (a + O) ((a : Int) + (L : Int) / 4 * 2 - 1 + (t : Int)) ((a : Int) + (O : Int)) (by omega) (by omega) S2.i (by omega) (by omega)
        have S3 := S2.swapped HB.out hI4 hS4
        clear S2
        go_wp2_with (go_at_call 130; refine hNext.mono ?_; rintro e w' ⟨rfl, rfl⟩)
        go_roundg (3 - (t + 1))
        case measure => omega
        case rel => exact ⟨t + 1, xorNext r, swp dk (a + L / 4 * 2 - 1 + t) (a + O), by congr 1; push_cast; omega, by omega, Nat.le_refl _, by rw [← HN.out.1]; exact S3,
          (show Hid _ from by rw [← HR.out, bp_step a L M _ t r dk O ht3 (by rw [← HN.out.2, if_neg (by omega)])]; exact rfl)⟩
    · obtain rfl : t = 3 := by omega
      have hle : ¬ ((a : Int) + (L : Int) / 4 * 2 - 1 + ((3 : Nat) : Int) ≤ (a : Int) + (L : Int) / 4 * 2 + 1) := by omega
      go_wp2
      go_end0
      refine ⟨rfl, ?_, ?_⟩
      · rw [← HR.out]; exact S.i
      · exact fin_stay (by omega) S.st

theorem breakPatterns_any (E : SEnv g lb sf sb lt n blk base I) (a b : Nat) (d : Array α) (w : World) (h : I d w) (hab : a ≤ b) (hb : b ≤ n) :
    Calls Try.prog 121 #[.agg #[.func (.func g) #[] lb, .func (.func sf) #[] sb], .int .i64 a, .int .i64 b] w fun e w' => e = .returned (.tuple #[]) ∧ I (breakPatterns d a b) w' ∧ Stay (fun k => k ≠ blk) w w' := by
  obtain ⟨L, rfl⟩ : ∃ L, b = a + L := ⟨b - a, by omega⟩
  by_cases h8 : 8 ≤ L
  · exact breakPatterns_go E a L d w h hb h8
  · have hv : breakPatterns d a (a + L) = d := by unfold breakPatterns; simp only [Nat.add_sub_cancel_left]; rw [if_neg h8]
    rw [hv]
    have hbig := E.big
    have hLz : ((a : Int) + (L : Int) - (a : Int)) = (L : Int) := by omega
    have h8z : ¬ (8 : Int) ≤ (L : Int) := by omega
    have S0 := SSt.start E h 157
    have S1 : Hid (I d (w.alloc (.cells #[.func (.func g) #[] lb, .func (.func sf) #[] sb] 157))) := S0.i
    clear E h S0
    go_enter Try.func121, Try.ntmps121
    go_wp2
    go_end0
    exact ⟨rfl, S1.out, .alloc _ _ _⟩
end Go.Proofs.Ytcbafmohmoicnab

/- sort.pdqsort_func, by a comparison that may lay blocks. Conditions: rows of less than 2^62 elements; the comparison is a strict weak order. -/
namespace Go.Proofs.Ytcbafmohmoicnab
set_option maxRecDepth 100000
open Go.RowKit Go.Sort

variable {α : Type} [Inhabited α]
variable {g : Nat} {lb : Array Value} {sf : Nat} {sb : Array Value} {lt : α → α → Bool} {n blk base : Nat} {I : Array α → World → Prop}

theorem hint_code (h : Hint) : hintI h = hintCode h := by cases h <;> rfl

set_option maxHeartbeats 12800000 in
set_option maxRecDepth 1000000 in
theorem pdqsort_any (E : SEnv g lb sf sb lt n blk base I) (hO : SWO lt) :
    ∀ (N a b limit : Nat) (d : Array α) (w : World), b - a < N → I d w → a ≤ b → b ≤ n → limit < 4611686018427387904 → Go.Sort.Below lt a b d →
    Calls Try.prog 106 #[.agg #[.func (.func g) #[] lb, .func (.func sf) #[] sb], .int .i64 a, .int .i64 b, .int .i64 limit] w fun e w' => e = .returned (.tuple #[]) ∧ I (pdq lt d a b limit true true) w' ∧ Stay (fun k => k ≠ blk) w w' := by
  have eg := E.eg
  have hbig := E.big
  have HE : Hid (SEnv g lb sf sb lt n blk base I) := E
  clear E
  intro N
  induction N with
  | zero => intro _ _ _ _ _ h; exact absurd h (Nat.not_lt_zero _)
  | succ N ih =>
    intro a b limit d w hN h0 hab hb hlimit hBel0
    have HB : Hid (w.heap.size ≠ blk) := by have := HE.out.lt _ _ h0; have := HE.out.bb; show _ ≠ _; omega
    have S0 := SSt.start HE.out h0 157
    have HI : Hid (∀ (a b limit : Nat) (d : Array α) (w : World), b - a < N → I d w → a ≤ b → b ≤ n → limit < 4611686018427387904 → Go.Sort.Below lt a b d →
      Calls Try.prog 106 #[.agg #[.func (.func g) #[] lb, .func (.func sf) #[] sb], .int .i64 a, .int .i64 b, .int .i64 limit] w fun e w' => e = .returned (.tuple #[]) ∧ I (pdq lt d a b limit true true) w' ∧ Stay (fun k => k ≠ blk) w w') := ih
    clear ih h0
    go_enter Try.func106, Try.ntmps106
    go_wp2
    go_loopg [1, 2, 3, 8, 9] (b - a) (fun k s1 s2 s3 s8 s9 wr => ∃ (a' b' lim : Nat) (wb wp : Bool) (dk : Array α), s1 = .int .i64 a' ∧ s2 = .int .i64 b' ∧ s3 = .int .i64 lim ∧ s8 = .bool wb ∧ s9 = .bool wp ∧
      a' ≤ b' ∧ b' ≤ n ∧ b' - a' ≤ k ∧ k ≤ b - a ∧ lim ≤ limit ∧ Go.Sort.Below lt a' b' dk ∧ SSt blk I w w.heap.size g lb sf sb dk wr ∧ Hid (pdq lt dk a' b' lim wb wp = pdq lt d a b limit true true))
    case atStart => exact ⟨a, b, limit, true, true, d, rfl, rfl, rfl, rfl, rfl, hab, hb, Nat.le_refl _, Nat.le_refl _, Nat.le_refl _, hBel0, S0, rfl⟩
    case round =>
      obtain ⟨a', b', lim, wb, wp, dk, rfl, rfl, rfl, rfl, rfl, hab', hb', hk, hkN, hlim, hBel, S, A⟩ := hrel
      clear S0
      have hds : dk.size = n := HE.out.size _ _ S.i
      have x0 := S.c0
      have x1 := S.c1
      by_cases h12 : b' - a' ≤ 12
      · have h12z : (b' : Int) - (a' : Int) ≤ 12 := by omega
        have hc := insertion_any HE.out a' b' dk wr S.i hab' (by omega)
        go_wp2_with (go_at_call 119; refine hc.mono ?_; rintro e w1 ⟨rfl, hI1, hS1⟩)
        (try simp only [Exit.inBlock, Exit.then]); refine bodyPost_ret (results_none rfl _ _ _) rfl ?_
        refine ⟨rfl, ?_, S.st.trans hS1⟩
        rw [← A.out, pdq_small h12]
        exact hI1
      · have h12z : ¬ ((b' : Int) - (a' : Int) ≤ 12) := by omega
        by_cases hl0 : lim = 0
        · subst hl0
          have hc := heapSort_any HE.out a' b' dk wr S.i (by omega) (by omega)
          go_wp2_with (go_at_call 120; refine hc.mono ?_; rintro e w1 ⟨rfl, hI1, hS1⟩)
          (try simp only [Exit.inBlock, Exit.then]); refine bodyPost_ret (results_none rfl _ _ _) rfl ?_
          refine ⟨rfl, ?_, S.st.trans hS1⟩
          rw [← A.out, pdq_heap h12 rfl]
          exact hI1
        · have hl0z : ¬ ((lim : Int) = 0) := by omega
          obtain ⟨s1, B1, hc1, s2, B2, hpv, s3, B3⟩ := rd_facts (lt := lt) (limit := lim) (wb := wb) (wp := wp) hO partialInsertionSort_holds reverseRange_holds (show a' < b' by omega) (show b' ≤ dk.size by omega) hBel
          go_upto_if 35 with fail
          go_cut [3] from 19 (fun s3 wc => s3 = .int .i64 (rd lt dk a' b' lim wb wp).lim ∧ SSt blk I w w.heap.size g lb sf sb (rd lt dk a' b' lim wb wp).d1 wc)
          case first =>
            cases wb
            · have hc := breakPatterns_any HE.out a' b' dk wr S.i hab' (by omega)
              go_wp2_with (go_at_call 121; refine hc.mono ?_; rintro e w1 ⟨rfl, hI1, hS1⟩)
              go_meet
              case rel =>
                refine ⟨?_, S.step HB.out hI1 hS1⟩
                show Value.int .i64 ((lim : Int) - 1) = Value.int .i64 ((lim - 1 : Nat) : Int)
                congr 1
                omega
            · go_wp2_with fail
              go_meet
              case rel => exact ⟨rfl, S⟩
          case rest =>
            obtain ⟨rfl, S1⟩ := hcut
            clear x0 x1
            have y0 := S1.c0
            have y1 := S1.c1
            have hc17 : Calls Try.prog 122 #[.agg #[.func (.func g) #[] lb, .func (.func sf) #[] sb], .int .i64 a', .int .i64 b'] wc fun e w' => e = .returned (.tuple #[.int .i64 (rd lt dk a' b' lim wb wp).c.1, .int .i64 (hintCode (rd lt dk a' b' lim wb wp).c.2)]) ∧ I (rd lt dk a' b' lim wb wp).d1 w' ∧ Stay (fun k => k ≠ blk) wc w' := by
              rw [← hint_code]
              exact choosePivot_any HE.out a' b' (rd lt dk a' b' lim wb wp).d1 wc S1.i (by omega) (by omega)
            go_upto_if 50 with (go_at_call 122; refine hc17.mono ?_; rintro e w2 ⟨rfl, hI2, hS2⟩)
            have S2 := S1.step HB.out hI2 hS2
            clear y0 y1
            have z0 := S2.c0
            have z1 := S2.c1
            go_cut [11, 12] from 19 (fun s11 s12 wc => s11 = .int .i64 (rd lt dk a' b' lim wb wp).pivot ∧ s12 = .int .i64 (hintCode (rd lt dk a' b' lim wb wp).hint) ∧ SSt blk I w w.heap.size g lb sf sb (rd lt dk a' b' lim wb wp).d2 wc)
            case first =>
              by_cases hh : (rd lt dk a' b' lim wb wp).c.2 = .decreasing
              · have hcode : hintCode (rd lt dk a' b' lim wb wp).c.2 = 2 := by rw [hh]; rfl
                obtain ⟨e2, epv, eht⟩ := rd_dec hh
                have hc18 := reverse_any HE.out a' b' (rd lt dk a' b' lim wb wp).d1 w2 S2.i (by omega) (by omega)
                go_wp2_with (go_at_call 123; refine hc18.mono ?_; rintro e w3 ⟨rfl, hI3, hS3⟩)
                go_meet
                case rel =>
                  refine ⟨?_, by rw [eht]; rfl, by rw [e2]; exact S2.step HB.out hI3 hS3⟩
                  rw [epv]
                  congr 1
                  omega
              · have hcode : ¬ (hintCode (rd lt dk a' b' lim wb wp).c.2 = 2) := fun h => hh (hintCode_two h)
                obtain ⟨e2, epv, eht⟩ := rd_not hh
                go_wp2_with fail
                go_meet
                case rel => exact ⟨by rw [epv], by rw [eht], by rw [e2]; exact S2⟩
            case rest =>
              obtain ⟨rfl, rfl, S3⟩ := hcut
              clear z0 z1
              have v0 := S3.c0
              have v1 := S3.c1
              go_upto_region 16 with fail
              go_cut [12, 68] from 19 (fun s12 s68 wx => s12 = .int .i64 (hintCode (rd lt dk a' b' lim wb wp).hint) ∧ s68 = .bool (wb && wp && decide ((rd lt dk a' b' lim wb wp).hint = .increasing)) ∧ wx = wc)
              case first =>
                cases wb <;> cases wp <;> cases hh3 : (rd lt dk a' b' lim _ _).hint <;>
                  (have hcode3 := congrArg hintCode hh3
                   simp only [hintCode] at hcode3
                   go_wp2_with fail
                   go_meet
                   exact ⟨by simp [hh3, hintCode], by simp [hh3, hintCode], rfl⟩)
              case rest =>
                obtain ⟨rfl, rfl, rfl⟩ := hcut
                go_upto_if 68 with fail
                go_cut [] from 19 (fun wx => (rd lt dk a' b' lim wb wp).pi.2 = false ∧ SSt blk I w w.heap.size g lb sf sb (rd lt dk a' b' lim wb wp).pi.1 wx)
                case first =>
                  cases h68 : (wb && wp && decide ((rd lt dk a' b' lim wb wp).hint = .increasing))
                  · have epi := rd_pi_no h68
                    go_wp2_with fail
                    go_meet
                    case rel => exact ⟨by rw [epi], by rw [epi]; exact S3⟩
                  · have epi := rd_pi_yes h68
                    have hc19 := partialIns_any HE.out a' b' (rd lt dk a' b' lim wb wp).d2 wc S3.i (by omega) (by omega)
                    rw [← epi] at hc19
                    go_wp2_with (go_at_call 124; refine hc19.mono ?_; rintro e w4 ⟨rfl, hI4, hS4⟩)
                    all_goals first
                      | (have hp2 : (rd lt dk a' b' lim wb wp).pi.2 = false := by rw [epi]; assumption
                         go_meet
                         exact ⟨hp2, S3.step HB.out hI4 hS4⟩)
                      | (have hp2 : (rd lt dk a' b' lim wb wp).pi.2 = true := by rw [epi]; assumption
                         (try simp only [Exit.inBlock, Exit.then]); refine bodyPost_ret (results_none rfl _ _ _) rfl ?_
                         refine ⟨rfl, ?_, S3.st.trans hS4⟩
                         rw [← A.out, pdq_done h12 hl0 hp2]
                         exact hI4)
                case rest =>
                  obtain ⟨hp2, S5⟩ := hcut
                  clear v0 v1
                  have t0 := S5.c0
                  have t1 := S5.c1
                  go_upto_region 18 with fail
                  go_cut [83] from 19 (fun s83 wx => s83 = .bool (decide (a' > 0) && !lt (rd lt dk a' b' lim wb wp).pi.1[a' - 1]! (rd lt dk a' b' lim wb wp).pi.1[(rd lt dk a' b' lim wb wp).pivot]!) ∧ SSt blk I w w.heap.size g lb sf sb (rd lt dk a' b' lim wb wp).pi.1 wx)
                  case first =>
                    rcases Nat.eq_zero_or_pos a' with ha0 | ha0
                    · have ha0z : decide ((a' : Int) > 0) = false := decide_eq_false (by omega)
                      go_wp2_with fail
                      go_meet
                      case rel => exact ⟨by simp [ha0], S5⟩
                    · have ha0z : (a' : Int) > 0 := by omega
                      cases hlv : lt (rd lt dk a' b' lim wb wp).pi.1[a' - 1]! (rd lt dk a' b' lim wb wp).pi.1[(rd lt dk a' b' lim wb wp).pivot]! <;>
                        (have hl := HE.out.lessV (rd lt dk a' b' lim wb wp).pi.1 (a' - 1) (rd lt dk a' b' lim wb wp).pivot ((a' : Int) - 1) ((rd lt dk a' b' lim wb wp).pivot : Int) _ hlv (by omega) rfl (by omega) (by omega) wc S5.i
                         go_wp2_with (go_at_fn g; refine hl.mono ?_; rintro e w' ⟨rfl, hI6, hS6⟩)
                         go_meet
                         exact ⟨by simp [ha0, hlv], S5.step HB.out hI6 hS6⟩)
                  case rest =>
                    obtain ⟨rfl, S6⟩ := hcut
                    clear t0 t1
                    have q0 := S6.c0
                    have q1 := S6.c1
                    cases h87 : (decide (a' > 0) && !lt (rd lt dk a' b' lim wb wp).pi.1[a' - 1]! (rd lt dk a' b' lim wb wp).pi.1[(rd lt dk a' b' lim wb wp).pivot]!)
                    · obtain ⟨mid, ap, d4, hx⟩ : ∃ mid ap d4, partition lt (rd lt dk a' b' lim wb wp).pi.1 a' b' (rd lt dk a' b' lim wb wp).pivot = (mid, ap, d4) := ⟨_, _, _, rfl⟩
                      obtain ⟨r1, r2, r3, r4, r5, r6, r7⟩ := round_part hO (partition_holds lt) hpv.1 hpv.2 (show b' ≤ (rd lt dk a' b' lim wb wp).pi.1.size by omega) B3 hx
                      have hc22 := partition_any HE.out a' b' (rd lt dk a' b' lim wb wp).pivot (rd lt dk a' b' lim wb wp).pi.1 wc S6.i hpv.1 hpv.2 (by omega)
                      rw [hx] at hc22
                      have X : Hid (partition lt (rd lt dk a' b' lim wb wp).pi.1 a' b' (rd lt dk a' b' lim wb wp).pivot = (mid, ap, d4)) := hx
                      clear hx
                      go_upto_if 109 with (go_at_call 126; refine hc22.mono ?_; rintro e w7 ⟨rfl, hI7, hS7⟩)
                      have hx := X.out
                      have S7 := S6.step HB.out hI7 hS7
                      clear q0 q1
                      have p0 := S7.c0
                      have p1 := S7.c1
                      have hs4 : d4.size = n := HE.out.size _ _ S7.i
                      by_cases h4 : mid - a' < b' - mid
                      · have h4z : (mid : Int) - (a' : Int) < (b' : Int) - (mid : Int) := by omega
                        have hih := HI.out a' mid (rd lt dk a' b' lim wb wp).lim d4 w7 (by omega) S7.i (by omega) (by omega) (Nat.lt_of_le_of_lt (Nat.le_trans rd_lim_le hlim) hlimit) r4
                        obtain ⟨pL, sL⟩ := pdq_sorts lt hO d4 a' mid (rd lt dk a' b' lim wb wp).lim true true (by omega) (by omega) r4
                        go_wp2_with (go_at_call 106; refine hih.mono ?_; rintro e w8 ⟨rfl, hI8, hS8⟩)
                        go_roundg (b' - (mid + 1))
                        case measure => omega
                        case rel =>
                          refine ⟨mid + 1, b', (rd lt dk a' b' lim wb wp).lim, decide (mid - a' ≥ (b' - a') / 8), ap, pdq lt d4 a' mid (rd lt dk a' b' lim wb wp).lim true true, by simp, rfl, rfl, ?_, rfl, by omega, by omega, Nat.le_refl _, by omega, Nat.le_trans rd_lim_le hlim, (r6 _ pL sL).1, S7.step HB.out hI8 hS8, ?_⟩
                          · exact congrArg Value.bool (eighth (by omega) (by omega))
                          · show _ = _
                            rw [← A.out, pdq_left h12 hl0 hp2 h87 (by rw [hx]; exact ⟨r1, r2⟩) (by rw [hx]; exact h4), hx]
                      · have h4z : ¬ ((mid : Int) - (a' : Int) < (b' : Int) - (mid : Int)) := by omega
                        have hih := HI.out (mid + 1) b' (rd lt dk a' b' lim wb wp).lim d4 w7 (by omega) S7.i (by omega) (by omega) (Nat.lt_of_le_of_lt (Nat.le_trans rd_lim_le hlim) hlimit) r5
                        rw [show ((mid + 1 : Nat) : Int) = (mid : Int) + 1 by omega] at hih
                        obtain ⟨pL, sL⟩ := pdq_sorts lt hO d4 (mid + 1) b' (rd lt dk a' b' lim wb wp).lim true true (by omega) (by omega) r5
                        go_wp2_with (go_at_call 106; refine hih.mono ?_; rintro e w8 ⟨rfl, hI8, hS8⟩)
                        go_roundg (mid - a')
                        case measure => omega
                        case rel =>
                          refine ⟨a', mid, (rd lt dk a' b' lim wb wp).lim, decide (b' - mid ≥ (b' - a') / 8), ap, pdq lt d4 (mid + 1) b' (rd lt dk a' b' lim wb wp).lim true true, rfl, rfl, rfl, ?_, rfl, by omega, by omega, Nat.le_refl _, by omega, Nat.le_trans rd_lim_le hlim, (r7 _ pL sL).1, S7.step HB.out hI8 hS8, ?_⟩
                          · exact congrArg Value.bool (eighth (by omega) (by omega))
                          · show _ = _
                            rw [← A.out, pdq_right h12 hl0 hp2 h87 (by rw [hx]; exact ⟨r1, r2⟩) (by rw [hx]; exact h4), hx]
                    · have h87' := h87
                      simp only [Bool.and_eq_true, decide_eq_true_eq, Bool.not_eq_true'] at h87'
                      obtain ⟨mid, d4, hx⟩ : ∃ mid d4, partitionEqual lt (rd lt dk a' b' lim wb wp).pi.1 a' b' (rd lt dk a' b' lim wb wp).pivot = (mid, d4) := ⟨_, _, rfl⟩
                      obtain ⟨r1, r2, r3, r4, _⟩ := round_eq hO (partitionEqual_holds lt) h87'.1 hpv.1 hpv.2 (show b' ≤ (rd lt dk a' b' lim wb wp).pi.1.size by omega) B3 h87'.2 hx
                      have hc21 := partitionEqual_any HE.out a' b' (rd lt dk a' b' lim wb wp).pivot (rd lt dk a' b' lim wb wp).pi.1 wc S6.i hpv.1 hpv.2 (by omega)
                      rw [hx] at hc21
                      have X : Hid (partitionEqual lt (rd lt dk a' b' lim wb wp).pi.1 a' b' (rd lt dk a' b' lim wb wp).pivot = (mid, d4)) := hx
                      clear hx
                      go_wp2_with (go_at_call 125; refine hc21.mono ?_; rintro e w7 ⟨rfl, hI7, hS7⟩)
                      go_roundg (b' - mid)
                      case measure => omega
                      case rel =>
                        have hx := X.out
                        exact ⟨mid, b', (rd lt dk a' b' lim wb wp).lim, wb, wp, d4, rfl, rfl, rfl, rfl, rfl, r2, hb', Nat.le_refl _, by omega, Nat.le_trans rd_lim_le hlim, r4, S6.step HB.out hI7 hS7, by show _ = _; rw [← A.out, pdq_eq h12 hl0 hp2 h87 (by rw [hx]; exact ⟨r1, r2⟩), hx]⟩
end Go.Proofs.Ytcbafmohmoicnab

/- How the program holds the heads of two terms against each other. Conditions: none. -/
namespace Go.Proofs.Ytcbafmohmoicnab
set_option maxRecDepth 100000
open Go.RowKit

theorem isNaN_any (x : Int) (w : World) : Calls Try.prog 136 #[.int .i64 x] w fun e w' => e = .returned (.bool false) ∧ w' = w := by
  have h : (x != x) = false := by simp
  go_enter Try.func136, Try.ntmps136
  go_wp2
  go_ret
  exact ⟨rfl, rfl⟩

theorem compare_any (x y : Int) (w : World) : Calls Try.prog 134 #[.int .i64 x, .int .i64 y] w fun e w' => e = .returned (.int .i64 (cmpI x y)) ∧ w' = w := by
  by_cases h1 : x < y
  · have HC : Hid (cmpI x y = -1) := by show _ = _; unfold cmpI; rw [if_pos h1]
    go_enter Try.func134, Try.ntmps134
    go_wp2_with (go_at_call 136; refine (isNaN_any _ _).mono ?_; rintro e w' ⟨rfl, rfl⟩)
    go_ret
    exact ⟨rtI HC.out.symm, rfl⟩
  · by_cases h2 : y < x
    · have HC : Hid (cmpI x y = 1) := by show _ = _; unfold cmpI; rw [if_neg h1, if_pos h2]
      go_enter Try.func134, Try.ntmps134
      go_wp2_with (go_at_call 136; refine (isNaN_any _ _).mono ?_; rintro e w' ⟨rfl, rfl⟩)
      go_ret
      exact ⟨rtI HC.out.symm, rfl⟩
    · have HC : Hid (cmpI x y = 0) := by show _ = _; unfold cmpI; rw [if_neg h1, if_neg h2]
      go_enter Try.func134, Try.ntmps134
      go_wp2_with (go_at_call 136; refine (isNaN_any _ _).mono ?_; rintro e w' ⟨rfl, rfl⟩)
      go_ret
      exact ⟨rtI HC.out.symm, rfl⟩

theorem or3_any (g : Nat) (x y z : Int) (w : World) (h0 : w.cell? ⟨g, 0, none⟩ = some (.int .i64 x)) (h1 : w.cell? ⟨g, 1, none⟩ = some (.int .i64 y)) (h2 : w.cell? ⟨g, 2, none⟩ = some (.int .i64 z)) :
    Calls Try.prog 133 #[.slice (some ⟨g, 0, none⟩) 3 3] w fun e w' => e = .returned (.int .i64 (or3 x y z)) ∧ w' = w := by
  go_enter Try.func133, Try.ntmps133
  go_wp2
  refine wp_loop_rounds 4 ?_
  rw [rounds_succ]
  by_cases e0 : x = 0
  · have b0 : (x != 0) = false := by simp [e0]
    go_wp2
    rw [rounds_succ]
    by_cases e1 : y = 0
    · have b1 : (y != 0) = false := by simp [e1]
      go_wp2
      rw [rounds_succ]
      by_cases e2 : z = 0
      · have b2 : (z != 0) = false := by simp [e2]
        have HC : Hid (or3 x y z = 0) := by show _ = _; unfold or3; simp [e0, e1, e2]
        clear e0 e1 e2
        go_wp2
        rw [rounds_succ]
        go_wp2
        go_ret
        exact ⟨rtI HC.out.symm, rfl⟩
      · have b2 : (z != 0) = true := by simp [e2]
        have HC : Hid (or3 x y z = z) := by show _ = _; unfold or3; simp [e0, e1]
        clear e0 e1 e2
        go_wp2
        go_ret
        exact ⟨rtI HC.out.symm, rfl⟩
    · have b1 : (y != 0) = true := by simp [e1]
      have HC : Hid (or3 x y z = y) := by show _ = _; unfold or3; simp [e0, e1]
      clear e0 e1
      go_wp2
      go_ret
      exact ⟨rtI HC.out.symm, rfl⟩
  · have b0 : (x != 0) = true := by simp [e0]
    have HC : Hid (or3 x y z = x) := by show _ = _; unfold or3; simp [e0]
    clear e0
    go_wp2
    go_ret
    exact ⟨rtI HC.out.symm, rfl⟩

set_option maxHeartbeats 1600000 in
theorem headOrder_any (t u : TermD) (a a' : Option Addr) (c c' : Nat) (w : World) :
    Calls Try.prog 127 #[.agg #[.int .i64 t.f, .int .i64 t.v, .slice a t.kids.length c], .agg #[.int .i64 u.f, .int .i64 u.v, .slice a' u.kids.length c']] w fun e w' => e = .returned (.int .i64 (headO t u)) ∧ Below w.heap.size w w' := by
  have HC : Hid (headO t u = or3 (cmpI t.f u.f) (cmpI t.v u.v) (cmpI t.kids.length u.kids.length)) := rfl
  generalize t.kids.length = n at *
  generalize u.kids.length = m at *
  go_enter Try.func127, Try.ntmps127
  go_wp2_with fail
  go_region_held3 (fun w' => w'.cell? ⟨w.heap.size, 0, none⟩ = some (.int .i64 t.f) ∧ w'.cell? ⟨w.heap.size, 1, none⟩ = some (.int .i64 t.v) ∧ w'.cell? ⟨w.heap.size, 2, none⟩ = some (.slice a n c) ∧ w'.cell? ⟨w.heap.size + 1, 0, none⟩ = some (.int .i64 u.f) ∧ w'.cell? ⟨w.heap.size + 1, 1, none⟩ = some (.int .i64 u.v) ∧ w'.cell? ⟨w.heap.size + 1, 2, none⟩ = some (.slice a' m c')) (first | go_keep | skip)
    (first | (go_at_call 134; refine (compare_any _ _ _).mono ?_; rintro e w' ⟨rfl, hw⟩; subst w') | (go_at_call 133; refine (or3_any _ (cmpI t.f u.f) (cmpI t.v u.v) (cmpI n m) _ ?_ ?_ ?_).mono ?_; (simp [go_sem]); (simp [go_sem]); (simp [go_sem]); rintro e w' ⟨rfl, hw⟩; subst w'))
  go_wp2_with fail
  go_ret
  exact ⟨rtI HC.out.symm, (((((Below.refl w.heap.size w).alloc (Nat.le_refl _) _).alloc (by simp) _).alloc (by simp; omega) _).drew)⟩
end Go.Proofs.Ytcbafmohmoicnab

/- The rest of a slice of terms behind its first. Conditions: none. -/
namespace Go.Proofs.Ytcbafmohmoicnab
set_option maxRecDepth 100000
open Go.RowKit

theorem slice_tail (b off n c : Nat) (w : World) : (Instr.slice 30 (.slice (some ⟨b, off, none⟩) (n + 1) c) (some (.int .i64 1)) none none).run Try.prog w = .ok (.slice (tailA b off c) n (c - 1)) w := by
  have h0 : (sizeOf 32).run Try.prog w = .ok 3 w := by simp [go_sem]
  simp only [Instr.slice, Sem.run_bind, run_underlying Try.underlying30, Result.andThen]
  have hb : (Instr.sliceBounds true (n + 1) c (some (.int .i64 1)) none none).run Try.prog w = .ok (1, n + 1, c) w := by
    simp [Instr.sliceBounds, Instr.sliceBound, asIntOf, go_sem]
    omega
  simp only [hb, h0, Sem.run_pure]
  unfold tailA
  split <;> simp [Addr.add]
theorem sliceAt_tail (b off n c : Nat) (w : World) : (Instr.sliceAt 30 (.slice (some ⟨b, off, none⟩) (n + 1) c) (some (.int .i64 1)) none none).run Try.prog w = .ok (.slice (tailA b off c) n (c - 1)) w := by
  simp only [Instr.sliceAt, Sem.run_bind, run_underlying Try.underlying30, Result.andThen, slice_tail b off n c w]

end Go.Proofs.Ytcbafmohmoicnab

/- How the program holds two terms against each other. Conditions: terms of at most 549755813888 parts. -/
namespace Go.Proofs.Ytcbafmohmoicnab
set_option maxRecDepth 100000
open Go.RowKit

theorem info99 : (Try.prog.info? 174).map (fun i => (i.zero, i.size, i.bytes)) = some (some (.agg #[.slice none 0 0, .slice none 0 0]), 2, 48) := by kernel_rfl

theorem far2 (w : World) {g j j' : Nat} {v v' : Value} {p : Addr} (h : p.block ≠ g) : ((w.setCell ⟨g, j, none⟩ v).setCell ⟨g, j', none⟩ v').drew.cell? p = w.cell? p := by
  show World.cell? ((w.setCell ⟨g, j, none⟩ v).setCell ⟨g, j', none⟩ v') p = _
  refine World.cell?_of_block ?_
  rw [Below.heap_setCell _ _ _ _ h, Below.heap_setCell _ _ _ _ h]

/-- The stack as it is laid at first. -/
theorem ord_start {t u : TermD} {a a' : Option Addr} {c c' hi : Nat} {w w1 w2 : World} {v : Value} {cap g : Nat} (hr : RdK w hi a t.kids) (hr' : RdK w hi a' u.kids) (hle : t.kids.length ≤ c) (hle' : u.kids.length ≤ c') (hhi : hi ≤ w.heap.size) (hb1 : Below w.heap.size w w1) (hg : g < w1.heap.size)
    (hown : w2.ownsRow w.heap.size 174 2 v (0 + 1) ([] ++ [.slice (some ⟨w1.heap.size, 0, none⟩) 1 1, .slice (some ⟨w1.heap.size + 1, 0, none⟩) 1 1]))
    (hgrow : (((w1.alloc (.cells #[.int .i64 t.f, .int .i64 t.v, .slice a t.kids.length c] 32)).alloc (.cells #[.int .i64 u.f, .int .i64 u.v, .slice a' u.kids.length c'] 32)).alloc (.cells #[.slice (some ⟨w1.heap.size, 0, none⟩) 1 1, .slice (some ⟨w1.heap.size + 1, 0, none⟩) 1 1] 174)).grownBy w2 (Value.slice (some ⟨g, 0, none⟩) 0 cap).ownBlock)
    (hbase : w.heap.size ≤ g) : ∃ E, OrdSt w w1.heap.size 174 32 (ordT t u) (2 * partsT t + 1) E v w2 := by
  have hx : w1.heap.size ≠ g ∧ w1.heap.size + 1 ≠ g := by omega
  have hs1 := hb1.size
  have hc : ∀ k, k < w1.heap.size + 3 → k ≠ g → w2.heap[k]? = ((((w1.alloc (.cells #[.int .i64 t.f, .int .i64 t.v, .slice a t.kids.length c] 32)).alloc (.cells #[.int .i64 u.f, .int .i64 u.v, .slice a' u.kids.length c'] 32)).alloc (.cells #[.slice (some ⟨w1.heap.size, 0, none⟩) 1 1, .slice (some ⟨w1.heap.size + 1, 0, none⟩) 1 1] 174)).heap[k]? : Option Obj) :=
    fun k hk hne => hgrow.block k (by simp; omega) (fun e => hne (by simpa [Value.ownBlock] using e))
  have b0 : w2.heap[w1.heap.size]? = some (.cells #[.int .i64 t.f, .int .i64 t.v, .slice a t.kids.length c] 32) := by
    rw [hc _ (by omega) hx.1, Below.heap_alloc _ _ _ (by simp; omega), Below.heap_alloc _ _ _ (by simp)]; exact World.alloc_heap_new _ _
  have b1 : w2.heap[w1.heap.size + 1]? = some (.cells #[.int .i64 u.f, .int .i64 u.v, .slice a' u.kids.length c'] 32) := by
    rw [hc _ (by omega) hx.2, Below.heap_alloc _ _ _ (by simp)]
    have := World.alloc_heap_new (w1.alloc (.cells #[.int .i64 t.f, .int .i64 t.v, .slice a t.kids.length c] 32)) (.cells #[.int .i64 u.f, .int .i64 u.v, .slice a' u.kids.length c'] 32)
    rwa [World.size_alloc] at this
  have hb2 : Below w.heap.size w w2 := by
    refine ((((hb1.alloc hs1 _).alloc (by simp; omega) _).alloc (by simp; omega) _).grown hgrow (by simp; omega) (fun k e => ?_))
    have : g = k := by simpa [Value.ownBlock] using e
    omega
  have cell : ∀ {b : Nat} {cs : Array Value} {T : Nat} (j : Nat), w2.heap[b]? = some (.cells cs T) → w2.cell? ⟨b, j, none⟩ = cs[j]? := fun j h => by simp [World.cell?, h]
  have hk : ∀ {b : Nat} {x : TermD} {y : Option Addr} {z : Nat}, Fx w.heap.size w1.heap.size b → w2.heap[b]? = some (.cells #[.int .i64 x.f, .int .i64 x.v, .slice y x.kids.length z] 32) → x.kids.length ≤ z → RdK w hi y x.kids → RdP w2 (Fx w.heap.size w1.heap.size) (some ⟨b, 0, none⟩) [x] := by
    intro b x y z hb h hz hr
    refine .row b 0 [x] (fun _ => y) (fun _ => z) hb (fun i hi => ?_) (fun i hi => ?_) (fun i hi => ?_)
    all_goals
      have e : i = 0 := by simp at hi; omega
      subst e
      simp only [List.getElem_cons_zero]
    · exact hz
    · refine ⟨?_, ?_, ?_⟩
      all_goals rw [cell _ h]; simp
    · exact (hr.on (hb2.mono hhi)).p (fun k hk => .inl (by omega))
  refine ⟨[⟨some ⟨w1.heap.size, 0, none⟩, 1, [t], some ⟨w1.heap.size + 1, 0, none⟩, 1, [u]⟩], hown, ⟨_, _, b0⟩, ⟨_, _, b1⟩, by decide, hs1, fun e he => ?_, ?_, ?_, hb2⟩
  · simp only [List.mem_singleton] at he
    subst he
    exact ⟨hk (.inr (.inl rfl)) b0 hle hr, hk (.inr (.inr rfl)) b1 hle' hr', Nat.le_refl _, Nat.le_refl _, rfl⟩
  · simp only [dataP, List.map_cons, List.map_nil, ordS, ordL_cons, ordL_nil]; by_cases e : ordT t u = 0 <;> simp [e]
  · simp [dataP, sizeS, partsL]

set_option maxHeartbeats 3200000 in
set_option maxRecDepth 100000 in
theorem termOrder_any (t u : TermD) (a a' : Option Addr) (c c' hi : Nat) (w : World) (hp : partsT t ≤ 549755813888) (hr : RdK w hi a t.kids) (hr' : RdK w hi a' u.kids) (hle : t.kids.length ≤ c) (hle' : u.kids.length ≤ c') (hhi : hi ≤ w.heap.size) :
    Calls Try.prog 107 #[.agg #[.int .i64 t.f, .int .i64 t.v, .slice a t.kids.length c], .agg #[.int .i64 u.f, .int .i64 u.v, .slice a' u.kids.length c']] w fun e w' => e = .returned (.int .i64 (ordT t u)) ∧ Below w.heap.size w w' := by
  obtain ⟨i0, hi0, hz0, hz1, hz2⟩ := info_parts info99
  obtain ⟨W, hW⟩ : ∃ W, W = (w.alloc (.cells #[.int .i64 t.f, .int .i64 t.v, .slice a t.kids.length c] 32)).alloc (.cells #[.int .i64 u.f, .int .i64 u.v, .slice a' u.kids.length c'] 32) := ⟨_, rfl⟩
  have hWs : W.heap.size = w.heap.size + 1 + 1 := by rw [hW]; simp
  have hWb : Below w.heap.size w W := by rw [hW]; exact ((Below.refl _ _).alloc (Nat.le_refl _) _).alloc (by simp) _
  have P0 : W.cell? ⟨w.heap.size, 0, none⟩ = some (.int .i64 t.f) ∧ W.cell? ⟨w.heap.size, 1, none⟩ = some (.int .i64 t.v) ∧ W.cell? ⟨w.heap.size, 2, none⟩ = some (.slice a t.kids.length c) ∧ W.cell? ⟨w.heap.size + 1, 0, none⟩ = some (.int .i64 u.f) ∧ W.cell? ⟨w.heap.size + 1, 1, none⟩ = some (.int .i64 u.v) ∧ W.cell? ⟨w.heap.size + 1, 2, none⟩ = some (.slice a' u.kids.length c') := by rw [hW]; simp [go_sem]
  obtain ⟨r, hrr⟩ : ∃ r, r = ordT t u := ⟨_, rfl⟩
  rw [← hrr]
  have HRR : Hid (r = ordT t u) := hrr
  clear hrr
  go_enter Try.func107, Try.ntmps107
  go_wp2_with (first
    | (at_make; rw [← hW]; refine wpList_make_own _ rfl _ _ 172 rfl w.heap.size 174 i0 _ 2 Try.underlying172 hi0 hz0 hz1 _ _ _ 8 rfl rfl (by omega) (by rw [hz2]; omega) (by unfold maxLen; omega) (by omega) ?_; intro w1 hown1 hgrow1; rw [hWs] at hown1 ⊢; have hb1 : Below W.heap.size W w1 := (Below.refl _ _).grown hgrow1 (Nat.le_refl _) (fun k e => by cases e); have hg1 : w.heap.size + 1 + 1 < w1.heap.size := (hown1.lt _ rfl).2; have hg2 : w.heap.size + 1 < w1.heap.size := (by omega); have hg3 : w.heap.size < w1.heap.size := (by omega); obtain ⟨p0, p1, p2, p3, p4, p5⟩ := P0; have p0 := keepC hb1 p0; have p1 := keepC hb1 p1; have p2 := keepC hb1 p2; have p3 := keepC hb1 p3; have p4 := keepC hb1 p4; have p5 := keepC hb1 p5; have hB1 : Below w.heap.size w w1 := hWb.trans (hb1.mono hWb.size); clear hW hWb hgrow1 hb1 hWs)
    | (at_builtin; refine wpList_append_own _ rfl (.tmp 12) (.tmp 18) 172 rfl w.heap.size 174 i0 _ 2 48 Try.underlying172 hi0 hz0 hz1 hz2 rfl (by decide) _ _ _ rfl (((hown1.alloc _).alloc _).alloc _) ⟨w1.heap.size + 1 + 1, 0, none⟩ 1 1 _ rfl rfl (two_new _ _ _ _ _ (by simp)) (two_cell _ _ _ _ _ _) (by unfold maxLen; omega) (by omega) (by simp; omega) ?_; intro v2 w2 hown2 hgrow2 hnil2; clear hnil2; obtain ⟨E0, st0⟩ := ord_start hr hr' hle hle' hhi hB1 hg1 hown2 hgrow2 (by omega); rw [← HRR.out] at st0; clear hown2 hgrow2 hown1 p0 p1 p2 p3 p4 p5))
  have hS : w.heap.size ≤ w1.heap.size := hB1.size
  have HM : Hid (2 * partsT t + 1 ≤ 1099511627777) := (by omega : 2 * partsT t + 1 ≤ 1099511627777)
  generalize 2 * partsT t + 1 = M at *
  clear hg1 hg2 hg3 p0 p1 p2 p3 p4 p5 hB1 hr hr' hle hle' hhi hp HRR
  generalize w1.heap.size = B at *
  go_loopw [5] (fun v wr => ∃ E, OrdSt w B 174 32 r M E v wr) (fun v wr => leastN (fun n => ∃ E, OrdSt w B 174 32 r M E v wr ∧ sizeS (dataP E) = n))
  case atStart => exact ⟨E0, st0⟩
  case round =>
    obtain ⟨E1, st1⟩ := hrel
    obtain ⟨n0, ⟨E, st, hn0⟩, hmin⟩ := leastN_spec (p := fun n => ∃ E, OrdSt w B 174 32 r M E u5 wr ∧ sizeS (dataP E) = n) ⟨_, E1, st1, rfl⟩
    clear st1 st0
    cases E with
    | nil =>
      have HZ : Hid (r = 0) := by show _ = _; have := st.ord; simpa [dataP, ordS] using this.symm
      have hb := st.below
      obtain ⟨a5, c5, rfl, _⟩ := own_form st.row
      clear st hmin hn0
      go_wp2_with fail
      go_ret
      exact ⟨rtI HZ.out.symm, hb⟩
    | cons e E =>
      obtain ⟨g, cap, rfl, hcap, hg0, hgl⟩ := own_slot st.row
      obtain ⟨q0, q1⟩ := cellsP_top st.row
      have ok := st.good e (by simp)
      have hlen := sizeS_len (dataP (e :: E))
      have hsz := st.size
      have HM' := HM.out
      have hEl : E.length ≤ 1099511627776 := by simp [dataP] at hlen; simp [dataP] at hsz; omega
      have hEi : (E.length : Int) ≤ cap := by omega
      clear hlen hsz HM' HM
      obtain ⟨ea, ec, ets, ea', ec', eus⟩ := e
      cases ets with
      | nil =>
        have st' := (st.pop rfl).on ((Below.refl wr.heap.size wr).alloc (Nat.le_refl _) (.cells #[.slice ea 0 ec, .slice ea' eus.length ec'] 174))
        simp only [List.length_nil] at q0
        have Q0 : Hid (sizeS (dataP E) < n0) := by show _ < _; rw [← hn0]; simp [dataP, sizeS]
        clear st ok hn0
        go_wp2_with fail
        go_roundw
        case rel => exact ⟨E, st'⟩
        case measure => exact Nat.lt_of_le_of_lt (leastN_le ⟨E, st', rfl⟩) (by rw [hmin]; exact Q0.out)
      | cons x xs =>
        cases eus with
        | nil => have := ok.eq; simp at this
        | cons y ys =>
          obtain ⟨b, off, xa, xc, hb, hSb, x0, x1, x2, hxc, hxr⟩ := ok.r.head
          obtain ⟨b', off', ya, yc, hb', hSb', y0, y1, y2, hyc, hyr⟩ := ok.r'.head
          simp only at hb hb'
          subst hb
          subst hb'
          have hle1 := ok.le
          have hle2 := ok.le'
          simp only [List.length_cons] at hle1 hle2 q0 q1
          have hgg := st.own g rfl
          have hbg : b ≠ g := fun e => hgg (e ▸ hSb)
          have hbg' : b' ≠ g := fun e => hgg (e ▸ hSb')
          obtain ⟨W2, hW2⟩ : ∃ W2, W2 = wr.alloc (.cells #[.slice (some ⟨b, off, none⟩) (xs.length + 1) ec, .slice (some ⟨b', off', none⟩) (ys.length + 1) ec'] 174) := ⟨_, rfl⟩
          have hb2 : Below wr.heap.size wr W2 := by rw [hW2]; exact (Below.refl _ _).alloc (Nat.le_refl _) _
          have hz2' : W2.heap.size = wr.heap.size + 1 := by rw [hW2]; simp
          have c0 : W2.cell? ⟨wr.heap.size, 0, none⟩ = some (.slice (some ⟨b, off, none⟩) (xs.length + 1) ec) := by rw [hW2]; simp [go_sem]
          have c1 : W2.cell? ⟨wr.heap.size, 1, none⟩ = some (.slice (some ⟨b', off', none⟩) (ys.length + 1) ec') := by rw [hW2]; simp [go_sem]
          have x0' := keepC hb2 x0
          have x1' := keepC hb2 x1
          have x2' := keepC hb2 x2
          have y0' := keepC hb2 y0
          have y1' := keepC hb2 y1
          have y2' := keepC hb2 y2
          clear x0 x1 x2 y0 y1 y2
          go_wp2_with fail
          rw [← hW2]
          clear hW2
          go_region_held3 (fun w' => w'.cell? ⟨wr.heap.size, 0, none⟩ = some (.slice (some ⟨b, off, none⟩) (xs.length + 1) ec) ∧ w'.cell? ⟨wr.heap.size, 1, none⟩ = some (.slice (some ⟨b', off', none⟩) (ys.length + 1) ec') ∧ w'.cell? ⟨b, off, none⟩ = some (.int .i64 x.f) ∧ w'.cell? ⟨b, off + 1, none⟩ = some (.int .i64 x.v) ∧ w'.cell? ⟨b, off + 2, none⟩ = some (.slice xa x.kids.length xc) ∧ w'.cell? ⟨b', off', none⟩ = some (.int .i64 y.f) ∧ w'.cell? ⟨b', off' + 1, none⟩ = some (.int .i64 y.v) ∧ w'.cell? ⟨b', off' + 2, none⟩ = some (.slice ya y.kids.length yc)) (first | go_keep | skip) (fail)
          all_goals clear x0' x1' x2' y0' y1' y2'
          all_goals
            first
            | (obtain ⟨W3, hW3⟩ : ∃ W3, W3 = ((W2.alloc (.cells #[.int .i64 x.f, .int .i64 x.v, .slice xa x.kids.length xc] 32)).alloc (.cells #[.int .i64 y.f, .int .i64 y.v, .slice ya y.kids.length yc] 32)).drew := ⟨_, rfl⟩
               rw [← hW3]
               have hB3 : Below W2.heap.size W2 W3 := by rw [hW3]; exact ((((Below.refl _ _).alloc (Nat.le_refl _) _).alloc (by simp) _).drew)
               obtain ⟨bq, hbq⟩ : ∃ bq, bq = wr.heap.size + 1 + 1 := ⟨_, rfl⟩
               obtain ⟨bx, hbx⟩ : ∃ bx, bx = wr.heap.size + 1 := ⟨_, rfl⟩
               rw [← hbq, ← hbx]
               have X0 : W3.cell? ⟨bx, 0, none⟩ = some (.int .i64 x.f) ∧ W3.cell? ⟨bx, 1, none⟩ = some (.int .i64 x.v) ∧ W3.cell? ⟨bx, 2, none⟩ = some (.slice xa x.kids.length xc) := by rw [hW3, hbx]; simp [go_sem, hz2']
               have Y0 : W3.cell? ⟨bq, 0, none⟩ = some (.int .i64 y.f) ∧ W3.cell? ⟨bq, 1, none⟩ = some (.int .i64 y.v) ∧ W3.cell? ⟨bq, 2, none⟩ = some (.slice ya y.kids.length yc) := by rw [hW3, hbq]; simp [go_sem, hz2']
               have nx : bx ≠ g := by omega
               have ny : bq ≠ g := by omega
               clear hbx hbq hW3)
            | (obtain ⟨W3, hW3⟩ : ∃ W3, W3 = ((W2.alloc (.cells #[.int .i64 y.f, .int .i64 y.v, .slice ya y.kids.length yc] 32)).alloc (.cells #[.int .i64 x.f, .int .i64 x.v, .slice xa x.kids.length xc] 32)).drew := ⟨_, rfl⟩
               rw [← hW3]
               have hB3 : Below W2.heap.size W2 W3 := by rw [hW3]; exact ((((Below.refl _ _).alloc (Nat.le_refl _) _).alloc (by simp) _).drew)
               obtain ⟨bx, hbx⟩ : ∃ bx, bx = wr.heap.size + 1 + 1 := ⟨_, rfl⟩
               obtain ⟨bq, hbq⟩ : ∃ bq, bq = wr.heap.size + 1 := ⟨_, rfl⟩
               rw [← hbx, ← hbq]
               have X0 : W3.cell? ⟨bx, 0, none⟩ = some (.int .i64 x.f) ∧ W3.cell? ⟨bx, 1, none⟩ = some (.int .i64 x.v) ∧ W3.cell? ⟨bx, 2, none⟩ = some (.slice xa x.kids.length xc) := by rw [hW3, hbx]; simp [go_sem, hz2']
               have Y0 : W3.cell? ⟨bq, 0, none⟩ = some (.int .i64 y.f) ∧ W3.cell? ⟨bq, 1, none⟩ = some (.int .i64 y.v) ∧ W3.cell? ⟨bq, 2, none⟩ = some (.slice ya y.kids.length yc) := by rw [hW3, hbq]; simp [go_sem, hz2']
               have nx : bx ≠ g := by omega
               have ny : bq ≠ g := by omega
               clear hbx hbq hW3)
            obtain ⟨X0, X1, X2⟩ := X0
            obtain ⟨Y0, Y1, Y2⟩ := Y0
          all_goals
            have c0' := keepC hB3 c0
            have c1' := keepC hB3 c1
            have st3 := st.on (hb2.trans (hB3.mono (by omega)))
            have fz : ∀ j, W3.frozen? ⟨g, j, none⟩ = false := fun j => st3.row.frozenAt j
            have hs1 := slice_tail b off xs.length ec
            have hs2 := slice_tail b' off' ys.length ec'
            have hs3 := sliceAt_tail b off xs.length ec
            have hs4 := sliceAt_tail b' off' ys.length ec'
            obtain ⟨d0, d1⟩ := cellsP_top st3.row
            simp only [List.length_cons] at d0 d1
            have hk0 : (0 : Int) ≤ E.length := by omega
            have hk1 : (E.length : Int) < ((E.length + 1 : Nat) : Int) := by omega
            have hk2 : (E.length : Int) < (E.length : Int) + 1 := by omega
            have ng : g ≠ wr.heap.size := by omega
            have ng' : wr.heap.size ≠ g := by omega
            go_wp2_with fail
            go_region_held3 (fun w' => w'.cell? ⟨wr.heap.size, 0, none⟩ = some (.slice (some ⟨b, off, none⟩) (xs.length + 1) ec) ∧ w'.cell? ⟨wr.heap.size, 1, none⟩ = some (.slice (some ⟨b', off', none⟩) (ys.length + 1) ec')) (first | go_keep | skip) (fail)
            obtain ⟨W4, hW4⟩ : ∃ W4, W4 = ((W3.setCell ⟨g, E.length * 2, none⟩ (.slice (tailA b off ec) xs.length (ec - 1))).setCell ⟨g, E.length * 2 + 1, none⟩ (.slice (tailA b' off' ec') ys.length (ec' - 1))).drew := ⟨_, rfl⟩
            rw [← hW4]
            have ok3 := st3.good _ (List.mem_cons_self ..)
            have hsz0 := st.size
            have st4 : OrdSt w B 174 32 (ordS ((xs, ys) :: dataP E)) M (⟨tailA b off ec, ec - 1, xs, tailA b' off' ec', ec' - 1, ys⟩ :: E) (.slice (some ⟨g, 0, none⟩) (E.length + 1) cap) W4 := by
              rw [hW4]
              refine (st3.set (d := ⟨tailA b off ec, ec - 1, xs, tailA b' off' ec', ec' - 1, ys⟩) ⟨ok3.r.tailA hle1, ok3.r'.tailA hle2, by simp only; omega, by simp only; omega, by have := ok3.eq; simpa using this⟩ rfl ?_).on ((Below.refl _ _).drew)
              simp only [dataP, List.map_cons, sizeS, partsL] at hsz0 ⊢
              omega
            have sW : Stay (Fx w.heap.size B) wr W4 := by
              rw [hW4]
              exact (((Stay.of_below (hb2.trans (hB3.mono (by omega))) (fun k hk _ => hk)).trans (Stay.setCell _ _ hgg)).trans (Stay.setCell _ _ hgg)).trans (.drew _ _)
            have hxr4 := hxr.stay sW
            have hyr4 := hyr.stay sW
            have X0 : W4.cell? ⟨bx, 0, none⟩ = some (.int .i64 x.f) ∧ W4.cell? ⟨bx, 1, none⟩ = some (.int .i64 x.v) ∧ W4.cell? ⟨bx, 2, none⟩ = some (.slice xa x.kids.length xc) := by rw [hW4]; exact ⟨(far2 _ nx).trans X0, (far2 _ nx).trans X1, (far2 _ nx).trans X2⟩
            have Y0 : W4.cell? ⟨bq, 0, none⟩ = some (.int .i64 y.f) ∧ W4.cell? ⟨bq, 1, none⟩ = some (.int .i64 y.v) ∧ W4.cell? ⟨bq, 2, none⟩ = some (.slice ya y.kids.length yc) := by rw [hW4]; exact ⟨(far2 _ ny).trans Y0, (far2 _ ny).trans Y1, (far2 _ ny).trans Y2⟩
            have hkl : x.kids.length = y.kids.length ∨ headO x y ≠ 0 := by
              by_cases e : headO x y = 0
              · exact .inl (headO_zero.1 e).2.2
              · exact .inr e
            have HO : Hid (headO x y ≠ 0 → r = headO x y) := fun e => by have := st.ord; rw [← this]; exact ordS_hit e
            have HP : Hid (headO x y = 0 → ordS ((x.kids, y.kids) :: (xs, ys) :: dataP E) = r) := fun e => by have := st.ord; rw [← this]; exact (ordS_push e).symm
            have HS : Hid (sizeS ((x.kids, y.kids) :: (xs, ys) :: dataP E) < n0) := by show _ < _; rw [← hn0]; exact sizeS_push x y xs ys _
            have HS2 : Hid (n0 ≤ M) := by show _ ≤ _; rw [← hn0]; exact hsz0
            have hE2 : E.length + 1 + 1 ≤ 1099511627778 := by omega
            obtain ⟨X0, X1, X2⟩ := X0
            obtain ⟨Y0, Y1, Y2⟩ := Y0
            have C := headOrder_any x y xa ya xc yc W4
            clear hW4 sW ok3 hsz0 hn0 st st3 c0 c1 c0' c1' fz hs1 hs2 hs3 hs4 hB3 hb2 hxr hyr ok q0 q1 d0 d1 hSb hSb' hle1 hle2
            by_cases e0 : headO x y = 0
            · have HP := HP.out e0
              have hkl' : x.kids.length = y.kids.length := hkl.resolve_right (fun h => h e0)
              rw [e0] at C
              have HPh : Hid (ordS ((x.kids, y.kids) :: (xs, ys) :: dataP E) = r) := HP
              have HK : Hid (x.kids.length = y.kids.length) := hkl'
              have HMI : Hid ((leastN fun n => ∃ E_1, OrdSt w B 174 32 r M E_1 (Value.slice (some ⟨g, 0, none⟩) (E.length + 1) cap) wr ∧ sizeS (dataP E_1) = n) = n0) := hmin
              clear HP HO hkl hkl' e0 hmin
              go_wp2_with (first
                | (go_at_call 127; refine C.mono ?_; rintro e w5 ⟨rfl, hb5⟩; have X0 := keepC hb5 X0; have X1 := keepC hb5 X1; have X2 := keepC hb5 X2; have Y0 := keepC hb5 Y0; have Y1 := keepC hb5 Y1; have Y2 := keepC hb5 Y2; have st5 := st4.on hb5; have hxr5 := hxr4.stay (.of_below hb5 (fun k hk _ => hk)); have hyr5 := hyr4.stay (.of_below hb5 (fun k hk _ => hk)); clear C st4 hxr4 hyr4 hb5)
                | (at_builtin; refine wpList_append_own _ rfl (.tmp 61) (.tmp 67) 172 rfl w.heap.size 174 i0 _ 2 48 Try.underlying172 hi0 hz0 hz1 hz2 rfl (by decide) _ _ _ rfl (st5.row.alloc _) ⟨w5.heap.size, 0, none⟩ 1 1 _ rfl rfl (two_new _ _ _ _ _ rfl) (two_cell _ _ _ _ _ _) (by unfold maxLen; simp only [List.length_cons]; omega) (by simp only [List.length_cons]; omega) (by have := st5.below.size; simp; omega) ?_; intro v6 w6 hown6 hgrow6 hnil6; clear hnil6))
              have st6 := (st5.on ((Below.refl _ _).alloc (Nat.le_refl _) _)).push (d := ⟨xa, xc, x.kids, ya, yc, y.kids⟩) (M' := M) hown6 hgrow6 ⟨hxr5.stay (.alloc _ _ _), hyr5.stay (.alloc _ _ _), hxc, hyc, HK.out⟩ HPh.out (by have h1 := HS.out; have h2 := HS2.out; exact Nat.le_of_lt (Nat.lt_of_lt_of_le h1 h2))
              clear st5 hown6 hgrow6 hxr5 hyr5
              go_roundw
              case rel => exact ⟨_, st6⟩
              case measure => exact Nat.lt_of_le_of_lt (leastN_le ⟨_, st6, rfl⟩) (by rw [HMI.out]; exact HS.out)
            · have HOh : Hid (r = headO x y) := HO.out e0
              have hne : (headO x y != 0) = true := by simp [e0]
              have hb4 := st4.below
              clear HO HP hkl e0 hmin hxr4 hyr4 st4
              go_wp2_with (go_at_call 127; refine C.mono ?_; rintro e w5 ⟨rfl, hb5⟩; clear C)
              go_ret
              exact ⟨rtI HOh.out.symm, hb4.trans (hb5.mono hb4.size)⟩
end Go.Proofs.Ytcbafmohmoicnab

/- Whether two terms are the same, and which is before, as the program tells it. Conditions: terms of at most 549755813888 parts. -/
namespace Go.Proofs.Ytcbafmohmoicnab
set_option maxRecDepth 100000
open Go.RowKit

set_option maxHeartbeats 1600000 in
theorem impBef_any (N : Nat) (t u : TermD) (a a' : Option Addr) (c c' hi : Nat) (w : World) (hN : partsT t ≤ N) (hM : N ≤ 549755813888) (hr : RdK w hi a t.kids) (hr' : RdK w hi a' u.kids) (hhi : hi ≤ w.heap.size) (hc : t.kids.length ≤ c) (hc' : u.kids.length ≤ c') :
    Calls Try.prog 100 #[.agg #[.int .i64 t.f, .int .i64 t.v, .slice a t.kids.length c], .agg #[.int .i64 u.f, .int .i64 u.v, .slice a' u.kids.length c']] w fun e w' => e = .returned (.bool (befT t u)) ∧ Below w.heap.size w w' := by
  obtain ⟨W, hW⟩ : ∃ W, W = (w.alloc (.cells #[.int .i64 t.f, .int .i64 t.v, .slice a t.kids.length c] 32)).alloc (.cells #[.int .i64 u.f, .int .i64 u.v, .slice a' u.kids.length c'] 32) := ⟨_, rfl⟩
  have hWb : Below w.heap.size w W := by rw [hW]; exact ((Below.refl _ _).alloc (Nat.le_refl _) _).alloc (by simp) _
  have C := termOrder_any t u a a' c c' hi W (Nat.le_trans hN hM) (hr.on (hWb.mono hhi)) (hr'.on (hWb.mono hhi)) hc hc' (Nat.le_trans hhi hWb.size)
  have HE : Hid (decide (ordT t u < 0) = befT t u) := ordT_bef t u
  clear hr hr' hc hc' hN
  generalize t.kids.length = n at *
  generalize u.kids.length = m at *
  go_enter Try.func100, Try.ntmps100
  go_wp2_with (go_at_call 107; rw [← hW]; refine C.mono ?_; rintro e w1 ⟨rfl, hb1⟩; clear C hW)
  go_ret
  exact ⟨rtB HE.out, hWb.trans (hb1.mono hWb.size)⟩
end Go.Proofs.Ytcbafmohmoicnab

/- A region that draws its order, whose operations only read and whose callees may lay blocks of their own, walked once, in the order of the text: the class of worlds in which all that was there lies as it lay. Conditions: none. -/
namespace Go.Proofs.Ytcbafmohmoicnab
set_option maxRecDepth 100000
open Go.RowKit

/-- A world in which all that lay in w lies as it lay. -/
structure BW (w : World) where
  u : World
  b : Below w.heap.size w u
instance (w : World) : Inhabited (BW w) := ⟨⟨w, Below.refl _ _⟩⟩
theorem wp_region_below {P : Program} {id : Nat} {Q : Exit → Act → World → Prop} {a : Act} {w : World} {l : List Oper} (hm : P.follows .mixedOrders = true) (hB : Region.lexB .any l.toArray = true)
    (h : wpQuiet P l.toArray (fun w' => ∃ p : BW w, w' = p.u) (fun a' => ∀ w', (∃ p : BW w, w' = p.u) → Q .normal a' w') l a) : (Code.region id l.toArray true).wp P Q a w :=
  wp_region_quiet (C := fun w' => ∃ p : BW w, w' = p.u) hm hB ⟨⟨w.drew, (Below.refl _ _).drew⟩, rfl⟩ (by simpa using h)
/-- What was there is there. -/
theorem cellB {w : World} {a : Addr} {v : Value} (h : w.cell? a = some v) (p : BW w) : p.u.cell? a = some v := (p.b.cell (World.block_lt_of_cell? w a h)).trans h
/-- A callee's contract, met in a world of the class. -/
theorem callsB {P : Program} {f : FuncId} {args : Array Value} {w : World} {p : BW w} {v : Value}
    (h : Calls P f args p.u fun e w' => e = .returned v ∧ Below p.u.heap.size p.u w') : Calls P f args p.u fun e w'' => e = .returned v ∧ ∃ q : BW w, w'' = q.u :=
  h.mono fun _ w' ⟨he, hb⟩ => ⟨he, ⟨w', p.b.trans (hb.mono p.b.size)⟩, rfl⟩
end Go.Proofs.Ytcbafmohmoicnab

/- One form of a term as data: Kids put in by their order, Kids of the same blind function joined; forests of terms that own their memory. Conditions: none. -/
namespace Go.Proofs.Ytcbafmohmoicnab
set_option maxRecDepth 100000
open Go.RowKit

/-- A term put into a list by its order, behind those that are not behind it. -/
def putT (t : TermD) (l : List TermD) : List TermD := l.takeWhile (fun e => !befT t e) ++ t :: l.dropWhile (fun e => !befT t e)
/-- What becomes of the list made so far when one more Kid, in one form, comes. -/
def stepN (b : Bool) (f : Int) (k : TermD) (out : List TermD) : List TermD :=
  if b = false then out ++ [k] else if k.f ≠ f then putT k out else k.kids.foldl (fun o x => putT x o) out
mutual
/-- One form. -/
def normT (bl : Int → Bool) : TermD → TermD
  | .mk f v ks => .mk f v (normL bl f ks [])
def normL (bl : Int → Bool) (f : Int) : List TermD → List TermD → List TermD
  | [], out => out
  | k :: ks, out => normL bl f ks (stepN (bl f) f (normT bl k) out)
end
theorem normT_eq (bl : Int → Bool) (t : TermD) : normT bl t = .mk t.f t.v (normL bl t.f t.kids []) := by cases t; rw [normT]; rfl
theorem normL_append (bl : Int → Bool) (f : Int) (a b out : List TermD) : normL bl f (a ++ b) out = normL bl f b (normL bl f a out) := by
  induction a generalizing out with
  | nil => simp [normL]
  | cons t ts ih => simp only [List.cons_append, normL, ih]
theorem normL_next (bl : Int → Bool) (f : Int) {ts : List TermD} {k : Nat} (h : k < ts.length) (out : List TermD) : normL bl f (ts.take (k + 1)) out = stepN (bl f) f (normT bl ts[k]) (normL bl f (ts.take k) out) := by
  rw [List.take_succ_eq_append_getElem h, normL_append]
  simp [normL]

theorem putT_perm (t : TermD) (l : List TermD) : (putT t l).Perm (t :: l) := by
  unfold putT
  refine List.perm_middle.trans ?_
  rw [List.takeWhile_append_dropWhile]
theorem putT_parts (t : TermD) (l : List TermD) : partsL (putT t l) = partsL l + partsT t := by
  unfold putT
  have h : partsL l = partsL (l.takeWhile fun e => !befT t e) + partsL (l.dropWhile fun e => !befT t e) := by rw [← partsL_append, List.takeWhile_append_dropWhile]
  rw [partsL_append, partsL, h]; omega
theorem foldP_parts (ks out : List TermD) : partsL (ks.foldl (fun o x => putT x o) out) = partsL out + partsL ks := by
  induction ks generalizing out with
  | nil => simp [partsL]
  | cons t ts ih => rw [List.foldl_cons, ih, putT_parts, partsL]; omega
theorem stepN_parts (b : Bool) (f : Int) (k : TermD) (out : List TermD) : partsL (stepN b f k out) ≤ partsL out + partsT k := by
  unfold stepN
  split
  · rw [partsL_append]; simp [partsL]
  · split
    · rw [putT_parts]; omega
    · rw [foldP_parts, partsT_eq]; omega
mutual
theorem normT_parts (bl : Int → Bool) : ∀ t : TermD, partsT (normT bl t) ≤ partsT t
  | .mk f v ks => by have := normL_parts bl f ks []; simp only [normT, partsT, partsL] at *; omega
theorem normL_parts (bl : Int → Bool) (f : Int) : ∀ ks out : List TermD, partsL (normL bl f ks out) ≤ partsL out + partsL ks
  | [], out => by simp [normL, partsL]
  | k :: ks, out => by
    have h1 := normT_parts bl k
    have h2 := normL_parts bl f ks (stepN (bl f) f (normT bl k) out)
    have h3 := stepN_parts (bl f) f (normT bl k) out
    rw [normL, partsL]; omega
end

/-- As 'OwnS', and each row has its block to itself, with all the room that its capacity says: so one may append to it in its place. -/
inductive OwnR (w : World) : (Nat → Prop) → Option Addr → Nat → List TermD → Prop
  | nil (S : Nat → Prop) : OwnR w S none 0 []
  | row (S : Nat → Prop) (g c : Nat) (ts : List TermD) (A : Nat → Option Addr) (C : Nat → Nat) (K : Nat → Nat → Prop) (xs : List Value) (hb : S g) (hrow : w.ownsRow 0 32 3 (.slice (some ⟨g, 0, none⟩) ts.length c) ts.length xs) (hl : ts.length ≤ 9223372036854775807) (hz : ∀ i, (h : i < ts.length) → isW ts[i].f ∧ isW ts[i].v)
      (hc : ∀ i, (h : i < ts.length) → w.cell? ⟨g, i * 3, none⟩ = some (.int .i64 ts[i].f) ∧ w.cell? ⟨g, i * 3 + 1, none⟩ = some (.int .i64 ts[i].v) ∧ w.cell? ⟨g, i * 3 + 2, none⟩ = some (.slice (A i) ts[i].kids.length (C i)))
      (hsub : ∀ i x, i < ts.length → K i x → S x ∧ x ≠ g) (hdis : ∀ i j x, i < ts.length → j < ts.length → i ≠ j → K i x → ¬ K j x)
      (hk : ∀ i, (h : i < ts.length) → OwnR w (K i) (A i) (C i) ts[i].kids) : OwnR w S (some ⟨g, 0, none⟩) c ts

theorem OwnR.own {w : World} {S : Nat → Prop} {a : Option Addr} {c : Nat} {ts : List TermD} (h : OwnR w S a c ts) : ∃ xs, w.ownsRow 0 32 3 (.slice a ts.length c) ts.length xs := by
  cases h with
  | nil => exact ⟨[], World.ownsRow_nil w 0 32 3⟩
  | row S g c ts A C K xs hb hrow => exact ⟨xs, hrow⟩
theorem OwnR.le {w : World} {S : Nat → Prop} {a : Option Addr} {c : Nat} {ts : List TermD} (h : OwnR w S a c ts) : ts.length ≤ c := by
  obtain ⟨xs, h⟩ := h.own
  obtain ⟨_, _, e, hh⟩ := own_form h
  cases e
  exact hh
theorem OwnR.s {w : World} {S : Nat → Prop} {a : Option Addr} {c : Nat} {ts : List TermD} (h : OwnR w S a c ts) : OwnS w S a ts := by
  induction h with
  | nil S => exact .nil S none
  | row S g c ts A C K xs hb hrow hl hz hc hsub hdis hk ih => exact .row S g 0 ts A C K hb (hrow.lt g rfl).2 ⟨hl, fun i h => (hk i h).le⟩ hz (fun i h => by simpa using hc i h) (fun j => hrow.frozenAt j) hsub hdis ih
theorem OwnR.rd {w : World} {S : Nat → Prop} {a : Option Addr} {c : Nat} {ts : List TermD} (h : OwnR w S a c ts) : RdK w w.heap.size a ts := h.s.rd
theorem own_frame {w w' : World} {base : Nat} {e : TypeId} {size : Nat} {v : Value} {n : Nat} {xs : List Value} (h : w.ownsRow base e size v n xs) (hb : ∀ g, v.ownBlock = some g → w'.heap[g]? = w.heap[g]?) : w'.ownsRow base e size v n xs := by
  obtain ⟨h1, h2⟩ := h
  refine ⟨h1, ?_⟩
  rcases h2 with h2 | ⟨g, cap, cur, rfl, hg, hh, r⟩
  · exact .inl h2
  · exact .inr ⟨g, cap, cur, rfl, hg, by rw [hb g rfl]; exact hh, r⟩
theorem own_zero {w : World} {base : Nat} {e : TypeId} {size : Nat} {v : Value} {n : Nat} {xs : List Value} (h : w.ownsRow base e size v n xs) : w.ownsRow 0 e size v n xs := by
  obtain ⟨h1, h2⟩ := h
  refine ⟨h1, ?_⟩
  rcases h2 with h2 | ⟨g, cap, cur, rfl, hg, r⟩
  · exact .inl h2
  · exact .inr ⟨g, cap, cur, rfl, Nat.zero_le _, r⟩
theorem OwnR.frame {w w' : World} {S : Nat → Prop} {a : Option Addr} {c : Nat} {ts : List TermD} (h : OwnR w S a c ts) (hs : ∀ x, S x → w'.heap[x]? = w.heap[x]?) (_hz : w.heap.size ≤ w'.heap.size) : OwnR w' S a c ts := by
  induction h with
  | nil S => exact .nil S
  | row S g c ts A C K xs hb hrow hl hz' hc hsub hdis hk ih =>
    have e := hs g hb
    refine .row S g c ts A C K xs hb (own_frame hrow (fun k hk => by cases hk; exact e)) hl hz' (fun i h => ?_) hsub hdis (fun i h => ih i h (fun x hx => hs x (hsub i x h hx).1))
    obtain ⟨h0, h1, h2⟩ := hc i h
    exact ⟨(World.cell?_of_block (a := ⟨g, _, none⟩) e).trans h0, (World.cell?_of_block (a := ⟨g, _, none⟩) e).trans h1, (World.cell?_of_block (a := ⟨g, _, none⟩) e).trans h2⟩
theorem OwnR.mono {w : World} {S S' : Nat → Prop} {a : Option Addr} {c : Nat} {ts : List TermD} (h : OwnR w S a c ts) (hs : ∀ x, S x → S' x) : OwnR w S' a c ts := by
  cases h with
  | nil S => exact .nil S'
  | row S g c ts A C K xs hb hrow hl hz hc hsub hdis hk => exact .row S' g c ts A C K xs (hs g hb) hrow hl hz hc (fun i x h hx => ⟨hs x (hsub i x h hx).1, (hsub i x h hx).2⟩) hdis hk
theorem OwnR.setCell {w : World} {S : Nat → Prop} {a : Option Addr} {c : Nat} {ts : List TermD} (h : OwnR w S a c ts) (p : Addr) (hp : ¬ S p.block) (u : Value) : OwnR (w.setCell p u) S a c ts :=
  h.frame (fun x hx => Below.heap_setCell w p u x (fun e => hp (e ▸ hx))) (by simp)

/-- One of a row of terms: where its Kids lie, and in which blocks. -/
structure FE where
  t : TermD
  a : Option Addr
  c : Nat
  K : Nat → Prop
def FE.cells (e : FE) : Value × Value × Value := (.int .i64 e.t.f, .int .i64 e.t.v, .slice e.a e.t.kids.length e.c)

/-- Terms of which no two share a block; all from B on. -/
structure Forest (w : World) (B : Nat) (L : List FE) : Prop where
  own : ∀ e ∈ L, OwnR w e.K e.a e.c e.t.kids ∧ e.t.kids.length ≤ e.c ∧ (isW e.t.f ∧ isW e.t.v) ∧ ∀ x, e.K x → B ≤ x ∧ x < w.heap.size
  dis : L.Pairwise fun e d => ∀ x, e.K x → ¬ d.K x

theorem Forest.nil (w : World) (B : Nat) : Forest w B [] := ⟨fun e h => by simp at h, .nil⟩
theorem Forest.on {w w' : World} {B : Nat} {L : List FE} (h : Forest w B L) (hb : Below w.heap.size w w') : Forest w' B L :=
  ⟨fun e he => ⟨(h.own e he).1.frame (fun x hx => hb.block x ((h.own e he).2.2.2 x hx).2) hb.size, (h.own e he).2.1, (h.own e he).2.2.1, fun x hx => ⟨((h.own e he).2.2.2 x hx).1, Nat.lt_of_lt_of_le ((h.own e he).2.2.2 x hx).2 hb.size⟩⟩, h.dis⟩
theorem Forest.setCell {w : World} {B : Nat} {L : List FE} (h : Forest w B L) (p : Addr) (u : Value) (hp : ∀ e ∈ L, ¬ e.K p.block) : Forest (w.setCell p u) B L :=
  ⟨fun e he => ⟨(h.own e he).1.setCell p (hp e he) u, (h.own e he).2.1, (h.own e he).2.2.1, fun x hx => by simpa using (h.own e he).2.2.2 x hx⟩, h.dis⟩
theorem Forest.perm {w : World} {B : Nat} {L M : List FE} (h : Forest w B L) (hp : M.Perm L) : Forest w B M :=
  ⟨fun e he => h.own e (hp.subset he), (hp.pairwise_iff (fun hxy z hz hz' => hxy z hz' hz)).2 h.dis⟩
theorem Forest.append {w : World} {B : Nat} {L M : List FE} (h : Forest w B L) (k : Forest w B M) (hd : ∀ e ∈ L, ∀ d ∈ M, ∀ x, e.K x → ¬ d.K x) : Forest w B (L ++ M) :=
  ⟨fun e he => (List.mem_append.1 he).elim (h.own e) (k.own e), List.pairwise_append.2 ⟨h.dis, k.dis, fun e he d hd' => hd e he d hd'⟩⟩
theorem Forest.sub {w : World} {B : Nat} {L M : List FE} (h : Forest w B L) (hs : M.Sublist L) : Forest w B M := ⟨fun e he => h.own e (hs.subset he), h.dis.sublist hs⟩

/-- The row of a forest's terms, its own block apart, is a list of terms that owns its memory. -/
theorem Forest.owns {w : World} {B g cap : Nat} {L : List FE} (h : Forest w B L) (hrow : w.ownsRow B 32 3 (.slice (some ⟨g, 0, none⟩) L.length cap) L.length (cs3 (L.map FE.cells))) (hg : ∀ e ∈ L, ¬ e.K g) (hl : L.length ≤ 9223372036854775807) :
    OwnR w (fun x => B ≤ x ∧ x < w.heap.size) (some ⟨g, 0, none⟩) cap (L.map FE.t) := by
  have hlt := hrow.lt g rfl
  refine .row _ g cap (L.map FE.t) (fun i => (L[i]?.map FE.a).getD none) (fun i => (L[i]?.map FE.c).getD 0) (fun i x => ∃ e, L[i]? = some e ∧ e.K x) (cs3 (L.map FE.cells)) ⟨hlt.1, hlt.2⟩ (by simpa using own_zero hrow) (by simpa using hl) (fun i hi => ?_) (fun i hi => ?_) (fun i x hi hx => ?_) (fun i j x hi hj hne hx hy => ?_) (fun i hi => ?_)
  · have hi' : i < L.length := by simpa using hi
    simpa using (h.own _ (List.getElem_mem hi')).2.2.1
  · have hi' : i < L.length := by simpa using hi
    obtain ⟨c0, c1, c2⟩ := cs3_cells (l := L.map FE.cells) (k := i) (by simp) (by simpa using hi') hrow
    simp only [List.getElem_map, FE.cells] at c0 c1 c2
    simp only [List.getElem_map]
    exact ⟨c0, c1, by simpa [hi'] using c2⟩
  · obtain ⟨e, he, hx⟩ := hx
    obtain ⟨hi', e0⟩ := List.getElem?_eq_some_iff.1 he
    have hm : e ∈ L := e0 ▸ List.getElem_mem hi'
    exact ⟨(h.own e hm).2.2.2 x hx, fun ex => hg e hm (ex ▸ hx)⟩
  · obtain ⟨e, he, hx⟩ := hx
    obtain ⟨d, hd, hy⟩ := hy
    obtain ⟨hi', e0⟩ := List.getElem?_eq_some_iff.1 he
    obtain ⟨hj', e1⟩ := List.getElem?_eq_some_iff.1 hd
    rcases Nat.lt_or_gt_of_ne hne with hh | hh
    · exact (e0 ▸ e1 ▸ List.pairwise_iff_getElem.1 h.dis i j hi' hj' hh) x hx hy
    · exact (e1 ▸ e0 ▸ List.pairwise_iff_getElem.1 h.dis j i hj' hi' hh) x hy hx
  · have hi' : i < L.length := by simpa using hi
    have := (h.own _ (List.getElem_mem hi')).1
    simp only [hi', List.getElem?_eq_getElem, Option.map_some, Option.getD_some, List.getElem_map]
    exact this.mono (fun x hx => ⟨_, rfl, hx⟩)

/-- The Kids of a term that owns its memory are a forest. -/
theorem OwnR.forest {w : World} {S : Nat → Prop} {a : Option Addr} {c : Nat} {ts : List TermD} {B : Nat} (h : OwnR w S a c ts) (hs : ∀ x, S x → B ≤ x ∧ x < w.heap.size) :
    ∃ L : List FE, L.map FE.t = ts ∧ Forest w B L ∧ (∀ e ∈ L, ∀ x, e.K x → S x) ∧ (ts = [] ∨ ∃ b off, a = some ⟨b, off, none⟩ ∧ S b ∧ ∀ i, (hi : i < L.length) → w.cell? ⟨b, off + i * 3, none⟩ = some (L[i].cells).1 ∧ w.cell? ⟨b, off + i * 3 + 1, none⟩ = some (L[i].cells).2.1 ∧ w.cell? ⟨b, off + i * 3 + 2, none⟩ = some (L[i].cells).2.2) := by
  cases h with
  | nil S => exact ⟨[], rfl, .nil _ _, fun e h => by simp at h, .inl rfl⟩
  | row S b c ts A C K xs hb hrow hl hz hc hsub hdis hk =>
    refine ⟨(List.range ts.length).map fun i => ⟨ts[i]?.getD default, A i, C i, K i⟩, ?_, ⟨fun e he => ?_, ?_⟩, fun e he x hx => ?_, .inr ⟨b, 0, rfl, hb, fun i hi => ?_⟩⟩
    · apply List.ext_getElem
      · simp
      · intro i h1 h2; simp [h2]
    · simp only [List.mem_map, List.mem_range] at he
      obtain ⟨i, hi, rfl⟩ := he
      have e0 : ts[i]?.getD default = ts[i] := by simp [hi]
      simp only [e0]
      exact ⟨hk i hi, (hk i hi).le, hz i hi, fun x hx => hs x (hsub i x hi hx).1⟩
    · rw [List.pairwise_iff_getElem]
      intro i j hi hj hij x hx hy
      simp only [List.length_map, List.length_range] at hi hj
      simp only [List.getElem_map, List.getElem_range] at hx hy
      exact hdis i j x hi hj (by omega) hx hy
    · simp only [List.mem_map, List.mem_range] at he
      obtain ⟨i, hi, rfl⟩ := he
      exact (hsub i x hi hx).1
    · simp only [List.length_map, List.length_range] at hi
      have := hc i hi
      simp only [List.getElem_map, List.getElem_range, FE.cells]
      simpa [hi] using this
end Go.Proofs.Ytcbafmohmoicnab

/- The order of terms is total: alike terms are the same, and of two one is not behind the other; a list in order is told by what is in it. Conditions: none. -/
namespace Go.Proofs.Ytcbafmohmoicnab
set_option maxRecDepth 100000
open Go.RowKit

mutual
theorem sameT_eqT : ∀ t u : TermD, sameT t u = true → t = u
  | .mk f v ks, .mk f' v' ks', h => by
    simp only [sameT, Bool.and_eq_true, beq_iff_eq] at h
    obtain ⟨⟨⟨h1, h2⟩, h3⟩, h4⟩ := h
    rw [h1, h2, sameL_eqL ks ks' h3 h4]
theorem sameL_eqL : ∀ ts us : List TermD, ts.length = us.length → sameL ts us = true → ts = us
  | [], us, hl, _ => by cases us with | nil => rfl | cons u us => simp at hl
  | t :: ts, [], hl, _ => by simp at hl
  | t :: ts, u :: us, hl, h => by
    simp only [sameL, Bool.and_eq_true] at h
    rw [sameT_eqT t u h.1, sameL_eqL ts us (by simpa using hl) h.2]
end
theorem ordT_zero {t u : TermD} : ordT t u = 0 ↔ t = u := by
  constructor
  · intro h; exact sameT_eqT t u ((ordT_same t u).1 h)
  · rintro rfl
    refine (ordT_same t t).2 ?_
    have : ∀ n : Nat, ∀ t : TermD, partsT t ≤ n → sameT t t = true := by
      intro n
      induction n with
      | zero => intro t h; rw [partsT_eq] at h; omega
      | succ n ih =>
        intro t h
        rw [sameT_eq]
        rw [partsT_eq] at h
        simp only [beq_self_eq_true, Bool.true_and]
        exact sameL_all rfl (fun k hk _ => ih _ (by have := partsL_get hk; omega))
    exact this _ t (Nat.le_refl _)

theorem cmpI_swap (x y : Int) : cmpI y x = - cmpI x y := by unfold cmpI; split <;> (try split) <;> (try split) <;> omega
theorem or3_swap (x y z : Int) : or3 (-x) (-y) (-z) = - or3 x y z := by unfold or3; split <;> (try split) <;> (try split) <;> (try split) <;> omega
theorem headO_swap (t u : TermD) : headO u t = - headO t u := by
  unfold headO
  rw [cmpI_swap t.f u.f, cmpI_swap t.v u.v, cmpI_swap (t.kids.length : Int) u.kids.length, or3_swap]
mutual
theorem ordT_swap : ∀ t u : TermD, ordT u t = - ordT t u
  | .mk f v ks, .mk f' v' ks' => by
    have h1 := headO_swap (.mk f v ks) (.mk f' v' ks')
    have h2 := ordL_swap ks ks'
    rw [ordT_eq, ordT_eq, h1]
    show (if -headO (TermD.mk f v ks) (.mk f' v' ks') ≠ 0 then -headO (TermD.mk f v ks) (.mk f' v' ks') else ordL ks' ks) = -(if headO (TermD.mk f v ks) (.mk f' v' ks') ≠ 0 then headO (TermD.mk f v ks) (.mk f' v' ks') else ordL ks ks')
    rw [h2]
    split <;> split <;> omega
theorem ordL_swap : ∀ ts us : List TermD, ordL us ts = - ordL ts us
  | [], us => by cases us <;> simp [ordL]
  | t :: ts, [] => by simp [ordL]
  | t :: ts, u :: us => by
    have h1 := ordT_swap t u
    have h2 := ordL_swap ts us
    rw [ordL_cons, ordL_cons, h1, h2]
    split <;> split <;> omega
end

theorem headO_neg {t u : TermD} : headO t u < 0 ↔ (t.f < u.f ∨ (t.f = u.f ∧ (t.v < u.v ∨ (t.v = u.v ∧ t.kids.length < u.kids.length)))) := by
  unfold headO or3
  by_cases e1 : t.f = u.f
  · rw [cmpI_zero.2 e1]
    by_cases e2 : t.v = u.v
    · rw [cmpI_zero.2 e2]
      simp only [ne_eq, not_true_eq_false, if_false, cmpI_neg]
      omega
    · have h2 := mt cmpI_zero.1 e2
      simp only [ne_eq, not_true_eq_false, if_false, h2, not_false_eq_true, if_true, cmpI_neg]
      omega
  · have h1 := mt cmpI_zero.1 e1
    simp only [ne_eq, h1, not_false_eq_true, if_true, cmpI_neg]
    omega
theorem headO_le {a b : TermD} (h : ordT a b ≤ 0) : headO a b ≤ 0 := by
  rw [ordT_eq] at h
  split at h
  · exact h
  · omega
theorem headO_lt {a b : TermD} (h : headO a b < 0) : ordT a b < 0 := by
  rw [ordT_eq, if_pos (by omega)]; exact h

theorem ordT_trans : ∀ (n : Nat) (a b c : TermD), partsT a ≤ n → ordT a b ≤ 0 → ordT b c ≤ 0 → ordT a c ≤ 0 := by
  intro n
  induction n with
  | zero => intro a b c h; rw [partsT_eq] at h; omega
  | succ n ih =>
    have hL : ∀ (ts us vs : List TermD), partsL ts ≤ n → ts.length = us.length → us.length = vs.length → ordL ts us ≤ 0 → ordL us vs ≤ 0 → ordL ts vs ≤ 0 := by
      intro ts
      induction ts with
      | nil => intro us vs _ h1 h2 _ _; cases us with
        | nil => cases vs with
          | nil => simp [ordL]
          | cons v vs => simp at h2
        | cons u us => simp at h1
      | cons t ts iht =>
        intro us vs hp h1 h2 g1 g2
        cases us with
        | nil => simp at h1
        | cons u us => cases vs with
          | nil => simp at h2
          | cons v vs =>
            rw [partsL] at hp
            rw [ordL_cons] at g1 g2 ⊢
            by_cases e1 : ordT t u = 0
            · have e := ordT_zero.1 e1
              subst e
              rw [if_neg (by omega)] at g1
              by_cases e2 : ordT t v = 0
              · rw [if_neg (by omega)] at g2 ⊢
                exact iht us vs (by omega) (by simpa using h1) (by simpa using h2) g1 g2
              · rw [if_pos e2] at g2 ⊢; exact g2
            · rw [if_pos e1] at g1
              have g3 : ordT u v ≤ 0 := by
                by_cases e2 : ordT u v = 0
                · omega
                · rw [if_pos e2] at g2; exact g2
              have g4 := ih t u v (by omega) g1 g3
              have g5 : ordT t v ≠ 0 := fun e => by
                have := ordT_zero.1 e
                subst this
                have := ordT_swap t u
                omega
              rw [if_pos g5]; exact g4
    intro a b c hp h1 h2
    rw [partsT_eq] at hp
    have k1 := headO_le h1
    have k2 := headO_le h2
    by_cases e1 : headO a b = 0
    · by_cases e2 : headO b c = 0
      · have z1 := headO_zero.1 e1
        have z2 := headO_zero.1 e2
        have e3 : headO a c = 0 := headO_zero.2 ⟨z1.1.trans z2.1, z1.2.1.trans z2.2.1, z1.2.2.trans z2.2.2⟩
        rw [ordT_eq, if_neg (by omega)] at h1 h2 ⊢
        exact hL _ _ _ (by omega) z1.2.2 z2.2.2 h1 h2
      · have z1 := headO_zero.1 e1
        have z2 := headO_neg.1 (show headO b c < 0 by omega)
        exact Int.le_of_lt (headO_lt (headO_neg.2 (by omega)))
    · have z1 := headO_neg.1 (show headO a b < 0 by omega)
      by_cases e2 : headO b c = 0
      · have z2 := headO_zero.1 e2
        exact Int.le_of_lt (headO_lt (headO_neg.2 (by omega)))
      · have z2 := headO_neg.1 (show headO b c < 0 by omega)
        exact Int.le_of_lt (headO_lt (headO_neg.2 (by omega)))

/-- Not behind. -/
def leT (a b : TermD) : Prop := ordT a b ≤ 0
theorem leT_refl (a : TermD) : leT a a := by show ordT a a ≤ 0; rw [ordT_zero.2 rfl]; omega
theorem leT_trans {a b c : TermD} (h1 : leT a b) (h2 : leT b c) : leT a c := ordT_trans _ a b c (Nat.le_refl _) h1 h2
theorem leT_total (a b : TermD) : leT a b ∨ leT b a := by
  unfold leT
  have := ordT_swap a b
  omega
theorem leT_anti {a b : TermD} (h1 : leT a b) (h2 : leT b a) : a = b := by
  unfold leT at *
  have := ordT_swap a b
  exact ordT_zero.1 (by omega)
theorem befT_leT (a b : TermD) : befT a b = false ↔ leT b a := by
  rw [← ordT_bef]
  unfold leT
  have := ordT_swap a b
  simp
  omega

/-- Two lists in order of which one is the other in another order are the same. -/
theorem sorted_ext : ∀ {a b : List TermD}, a.Pairwise leT → b.Pairwise leT → a.Perm b → a = b
  | [], b, _, _, h => by rw [List.nil_perm] at h; rw [h]
  | x :: a, [], _, _, h => by have := h.length_eq; simp at this
  | x :: a, y :: b, ha, hb, h => by
    rw [List.pairwise_cons] at ha hb
    have e : x = y := by
      have h1 : x ∈ y :: b := h.subset (by simp)
      have h2 : y ∈ x :: a := h.symm.subset (by simp)
      rcases List.mem_cons.1 h1 with h1 | h1
      · exact h1
      · rcases List.mem_cons.1 h2 with h2 | h2
        · exact h2.symm
        · exact leT_anti (ha.1 y h2) (hb.1 x h1)
    subst e
    rw [sorted_ext ha.2 hb.2 (h.cons_inv)]

theorem tw_all (p : TermD → Bool) : ∀ (l : List TermD), ∀ x ∈ l.takeWhile p, p x = true
  | [], x, h => by simp at h
  | y :: l, x, h => by
    by_cases e : p y = true
    · simp only [List.takeWhile_cons, e, if_true] at h
      rcases List.mem_cons.1 h with h | h
      · rw [h]; exact e
      · exact tw_all p l x h
    · simp only [List.takeWhile_cons, e] at h
      simp at h
theorem putT_sorted {t : TermD} {l : List TermD} (h : l.Pairwise leT) : (putT t l).Pairwise leT := by
  unfold putT
  have h1 : ∀ x ∈ l.takeWhile (fun e => !befT t e), leT x t := fun x hx => by
    have := tw_all _ l x hx
    exact (befT_leT t x).1 (by simpa using this)
  have h2 : ∀ x ∈ l.dropWhile (fun e => !befT t e), leT t x := by
    intro x hx
    have hd := h.sublist (List.dropWhile_sublist (fun e => !befT t e))
    cases hc : l.dropWhile (fun e => !befT t e) with
    | nil => rw [hc] at hx; simp at hx
    | cons y ys =>
      have hy : leT t y := by
        have := List.head?_dropWhile_not (fun e => !befT t e) l
        rw [hc] at this
        simp at this
        rcases leT_total t y with q | q
        · exact q
        · have := (befT_leT t y).2 q
          simp_all
      rw [hc] at hx hd
      rcases List.mem_cons.1 hx with e | e
      · exact e ▸ hy
      · exact leT_trans hy ((List.pairwise_cons.1 hd).1 x e)
  rw [List.pairwise_append]
  refine ⟨h.sublist (List.takeWhile_sublist _), List.pairwise_cons.2 ⟨h2, h.sublist (List.dropWhile_sublist _)⟩, fun x hx y hy => ?_⟩
  rcases List.mem_cons.1 hy with e | e
  · exact e ▸ h1 x hx
  · exact leT_trans (h1 x hx) (h2 y e)
end Go.Proofs.Ytcbafmohmoicnab

