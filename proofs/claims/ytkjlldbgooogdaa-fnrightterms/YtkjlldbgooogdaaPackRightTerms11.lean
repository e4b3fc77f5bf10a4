/- What the proof of FnRightTerms stands on, part 11 of 12: each piece says what it proves and under which conditions. Conditions: as each piece says. -/
import Derived.Test.YtkjlldbgooogdaaPackRightTerms10
import Derived.Sort.WalkA
import Derived.Sort.Walk7
import Derived.Deep.LoopGhost
import Derived.Sort.Walk13
import Derived.Shelf.GgSortFunc.SmallK
import Derived.Shelf.GgSortFunc.Tiny
/- sort.partialInsertionSort_func, by a comparison that may lay blocks. Conditions: rows of less than 2^62 elements. -/
namespace Go.Proofs.Ytkjlldbgooogdaa
set_option maxRecDepth 100000
open Go.RowKit Go.Sort

variable {α : Type} [Inhabited α]
variable {g : Nat} {lb : Array Value} {sf : Nat} {sb : Array Value} {lt : α → α → Bool} {n blk base : Nat} {I : Array α → World → Prop}

theorem pIns_succ (lt : α → α → Bool) (a b t i : Nat) (d : Array α) : partialIns lt a b (t + 1) i d = if scanSorted lt d b i = b then (d, true) else if b - a < 50 then (d, false) else partialIns lt a b t (scanSorted lt d b i) (if b - scanSorted lt d b i ≥ 2 then shiftUp lt b (scanSorted lt d b i + 1) (if scanSorted lt d b i - a ≥ 2 then shiftDown lt (scanSorted lt d b i - 1) (swp d (scanSorted lt d b i) (scanSorted lt d b i - 1)) else swp d (scanSorted lt d b i) (scanSorted lt d b i - 1)) else (if scanSorted lt d b i - a ≥ 2 then shiftDown lt (scanSorted lt d b i - 1) (swp d (scanSorted lt d b i) (scanSorted lt d b i - 1)) else swp d (scanSorted lt d b i) (scanSorted lt d b i - 1))) := rfl

set_option maxHeartbeats 4000000 in
theorem partialIns_any (E : SEnv g lb sf sb lt n blk base I) (a b : Nat) (d : Array α) (w : World) (h : I d w) (hab : a < b) (hb : b ≤ n) :
    Calls Try.prog 128 #[.agg #[.func (.func g) #[] lb, .func (.func sf) #[] sb], .int .i64 a, .int .i64 b] w fun e w' => e = .returned (.bool (partialInsertionSort lt d a b).2) ∧ I (partialInsertionSort lt d a b).1 w' ∧ Stay (fun k => k ≠ blk) w w' := by
  have eg := E.eg
  have hbig := E.big
  have HB : Hid (w.heap.size ≠ blk) := by have := E.lt _ _ h; have := E.bb; show _ ≠ _; omega
  have HE : Hid (SEnv g lb sf sb lt n blk base I) := E
  have S0 := SSt.start E h 130
  clear E h
  go_enter Try.func128, Try.ntmps128
  go_wp2
  go_loopw [7, 8] (fun vi vs wr => ∃ (i s : Nat) (dk : Array α), vi = .int .i64 i ∧ vs = .int .i64 s ∧ s ≤ 5 ∧ a < i ∧ i ≤ b ∧ SSt blk I w w.heap.size g lb sf sb dk wr ∧ Hid (partialIns lt a b (5 - s) i dk = partialInsertionSort lt d a b)) (fun _ vs _ => 5 - (intOf vs).toNat)
  case atStart => exact ⟨a + 1, 0, d, by go_num, rfl, by omega, by omega, by omega, S0, rfl⟩
  case round =>
    obtain ⟨i, s, dk, rfl, rfl, hs5, hai, hib, S, HS⟩ := hrel
    clear S0
    by_cases hs : s < 5
    · have hsz : (s : Int) < 5 := by omega
      obtain ⟨t, ht⟩ : ∃ t, 5 - s = t + 1 := ⟨4 - s, by omega⟩
      have HS1 : Hid (partialIns lt a b (t + 1) i dk = partialInsertionSort lt d a b) := by have := HS.out; rw [ht] at this; exact this
      have htt : t = 4 - s := by omega
      clear ht HS
      go_wp2
      go_loopw [7] (fun vi w1 => ∃ i1 : Nat, vi = .int .i64 i1 ∧ i ≤ i1 ∧ i1 ≤ b ∧ SSt blk I w w.heap.size g lb sf sb dk w1 ∧ Hid (scanSorted lt dk b i1 = scanSorted lt dk b i)) (fun vi _ => b - (intOf vi).toNat)
      case atStart => exact ⟨i, rfl, Nat.le_refl _, hib, S, rfl⟩
      case round =>
        obtain ⟨i1, rfl, h1, h2, S1, HC⟩ := hrel
        have c0 := S1.c0
        have c1 := S1.c1
        by_cases hlt : i1 < b
        · have hltz : (i1 : Int) < (b : Int) := by omega
          have hi1w : IntKind.i64.wrap ((i1 : Int) - 1) = (i1 : Int) - 1 := by rw [IntKind.wrap_i64]; omega
          cases hv : lt dk[i1]! dk[i1 - 1]! with
          | false =>
            have hl := HE.out.lessV dk i1 (i1 - 1) i1 ((i1 : Int) - 1) false hv rfl (by omega) (by omega) (by omega) _ S1.i
            have HC2 : Hid (scanSorted lt dk b (i1 + 1) = scanSorted lt dk b i) := by have := HC.out; rw [scanSorted] at this; simp only [hlt, hv, decide_true, Bool.not_false, Bool.and_self, if_true] at this; exact this
            go_wp2_with (go_at_fn g; refine hl.mono ?_; rintro e w4 ⟨rfl, hI4, hS4⟩; have S4 := S1.step HB.out hI4 hS4; clear hl)
            go_roundw
            case rel =>
              first
                | exact ⟨i1 + 1, by go_num, by omega, by omega, S4, HC2⟩
                | ((repeat apply Exists.intro); refine ⟨?_, rfl⟩; exact ⟨i1 + 1, by go_num, by omega, by omega, S4, HC2⟩)
            case measure => simp [intOf] <;> omega
          | true =>
            have hl := HE.out.lessV dk i1 (i1 - 1) i1 ((i1 : Int) - 1) true hv rfl (by omega) (by omega) (by omega) _ S1.i
            have HC3 : Hid (scanSorted lt dk b i = i1) := by have := HC.out; rw [scanSorted] at this; simp only [hv, Bool.not_true, Bool.and_false, Bool.false_eq_true, if_false] at this; exact this.symm
            have hne : ((i1 : Int) == (b : Int)) = false := by simp; omega
            by_cases h50 : b - a < 50
            · have h50z : (b : Int) - (a : Int) < 50 := by omega
              have HX : Hid (partialInsertionSort lt d a b = (dk, false)) := by show _ = _; rw [← HS1.out, pIns_succ, HC3.out, if_neg (by omega), if_pos h50]
              go_wp2_with (go_at_fn g; refine hl.mono ?_; rintro e w4 ⟨rfl, hI4, hS4⟩; have S4 := S1.step HB.out hI4 hS4; clear hl)
              go_ret
              exact ⟨by rw [HX.out]; rfl, by rw [HX.out]; exact S4.i, S4.st⟩
            · have h50z : ¬ (b : Int) - (a : Int) < 50 := by omega
              have HQ0 : Hid (partialIns lt a b t i1 (if b - i1 ≥ 2 then shiftUp lt b (i1 + 1) (if i1 - a ≥ 2 then shiftDown lt (i1 - 1) (swp dk i1 (i1 - 1)) else swp dk i1 (i1 - 1)) else (if i1 - a ≥ 2 then shiftDown lt (i1 - 1) (swp dk i1 (i1 - 1)) else swp dk i1 (i1 - 1))) = partialInsertionSort lt d a b) := by have := HS1.out; rw [pIns_succ, HC3.out, if_neg (by omega), if_neg h50] at this; exact this
              by_cases hl2 : 2 ≤ i1 - a
              · have hl2z : (2 : Int) ≤ (i1 : Int) - (a : Int) := by omega
                have HL : Hid (partialIns lt a b t i1 (if b - i1 ≥ 2 then shiftUp lt b (i1 + 1) (shiftDown lt (i1 - 1) (swp dk i1 (i1 - 1))) else shiftDown lt (i1 - 1) (swp dk i1 (i1 - 1))) = partialInsertionSort lt d a b) := by have := HQ0.out; rw [if_pos hl2] at this; exact this
                go_wp2_with (go_at_fn g; refine hl.mono ?_; rintro e w4 ⟨rfl, hI4, hS4⟩; have S4 := S1.step HB.out hI4 hS4; have m0 := S4.c0; have m1 := S4.c1; obtain ⟨W5, hrun, hI5, hS5⟩ := HE.out.swapI dk w4 i1 (i1 - 1) i1 ((i1 : Int) - 1) rfl (by omega) S4.i (by omega) (by omega); have S5 := S4.step HB.out hI5 hS5; clear hl)
                go_loopw [9] (fun vj w2 => ∃ (jd : Nat) (dd : Array α), vj = .int .i64 jd ∧ jd ≤ i1 - 1 ∧ SSt blk I w w.heap.size g lb sf sb dd w2 ∧ Hid (shiftDown lt jd dd = shiftDown lt (i1 - 1) (swp dk i1 (i1 - 1)))) (fun vj _ => (intOf vj).toNat)
                case atStart => exact ⟨i1 - 1, _, by congr 1 <;> omega, Nat.le_refl _, S5, rfl⟩
                case round =>
                  obtain ⟨jd, dd, rfl, q1, SD, HD⟩ := hrel
                  have u0 := SD.c0
                  have u1 := SD.c1
                  cases jd with
                  | zero =>
                    have HQ : Hid (partialIns lt a b t i1 (if b - i1 ≥ 2 then shiftUp lt b (i1 + 1) dd else dd) = partialInsertionSort lt d a b) := by have := HL.out; rw [← HD.out] at this; exact this
                    by_cases hr2 : 2 ≤ b - i1
                    · have hr2z : (2 : Int) ≤ (b : Int) - (i1 : Int) := by omega
                      have HQ2 : Hid (partialIns lt a b t i1 (shiftUp lt b (i1 + 1) dd) = partialInsertionSort lt d a b) := by have := HQ.out; rw [if_pos hr2] at this; exact this
                      go_wp2
                      go_loopw [10] (fun vj w2 => ∃ (ju : Nat) (du : Array α), vj = .int .i64 ju ∧ i1 + 1 ≤ ju ∧ ju ≤ b ∧ SSt blk I w w.heap.size g lb sf sb du w2 ∧ Hid (shiftUp lt b ju du = shiftUp lt b (i1 + 1) dd)) (fun vj _ => b - (intOf vj).toNat)
                      case atStart => exact ⟨i1 + 1, _, by go_num, Nat.le_refl _, by omega, SD, rfl⟩
                      case round =>
                        obtain ⟨ju, du, rfl, q1, q2, SU, HU⟩ := hrel
                        have u0 := SU.c0
                        have u1 := SU.c1
                        by_cases hjb : ju < b
                        · have hjbz : (ju : Int) < (b : Int) := by omega
                          cases hvu : lt du[ju]! du[ju - 1]! with
                          | true =>
                            have hl := HE.out.lessV du ju (ju - 1) ju ((ju : Int) - 1) true hvu rfl (by omega) (by omega) (by omega) _ SU.i
                            have HU2 : Hid (shiftUp lt b (ju + 1) (swp du ju (ju - 1)) = shiftUp lt b (i1 + 1) dd) := by have := HU.out; rw [shiftUp, if_pos hjb, hvu] at this; exact this
                            go_wp2_with (go_at_fn g; refine hl.mono ?_; rintro e w6 ⟨rfl, hI6, hS6⟩; have S6 := SU.step HB.out hI6 hS6; have x0 := S6.c0; have x1 := S6.c1; obtain ⟨W7, hrun7, hI7, hS7⟩ := HE.out.swapI du w6 ju (ju - 1) ju ((ju : Int) - 1) rfl (by omega) S6.i (by omega) (by omega); have S7 := S6.step HB.out hI7 hS7; clear hl)
                            go_roundw
                            case rel =>
                              first
                                | exact ⟨ju + 1, swp du ju (ju - 1), by go_num, by omega, by omega, S7, HU2⟩
                                | ((repeat apply Exists.intro); refine ⟨?_, rfl⟩; exact ⟨ju + 1, swp du ju (ju - 1), by go_num, by omega, by omega, S7, HU2⟩)
                            case measure => simp [intOf] <;> omega
                          | false =>
                            have hl := HE.out.lessV du ju (ju - 1) ju ((ju : Int) - 1) false hvu rfl (by omega) (by omega) (by omega) _ SU.i
                            have HF : Hid (partialIns lt a b t i1 du = partialInsertionSort lt d a b) := by have := HQ2.out; rw [← HU.out, shiftUp, if_pos hjb, hvu] at this; exact this
                            go_wp2_with (go_at_fn g; refine hl.mono ?_; rintro e w6 ⟨rfl, hI6, hS6⟩; have S6 := SU.step HB.out hI6 hS6; clear hl)
                            go_roundw
                            case rel =>
                              first
                                | exact ⟨i1, s + 1, du, rfl, by go_num, by omega, by omega, by omega, S6, by rw [show 5 - (s + 1) = t by omega]; exact HF⟩
                                | ((repeat apply Exists.intro); refine ⟨?_, rfl⟩; exact ⟨i1, s + 1, du, rfl, by go_num, by omega, by omega, by omega, S6, by rw [show 5 - (s + 1) = t by omega]; exact HF⟩)
                            case measure => simp [intOf] <;> omega
                        · have hjbz : ¬ (ju : Int) < (b : Int) := by omega
                          have HF : Hid (partialIns lt a b t i1 du = partialInsertionSort lt d a b) := by have := HQ2.out; rw [← HU.out, shiftUp, if_neg hjb] at this; exact this
                          go_wp2
                          go_roundw
                          case rel =>
                            first
                              | exact ⟨i1, s + 1, du, rfl, by go_num, by omega, by omega, by omega, SU, by rw [show 5 - (s + 1) = t by omega]; exact HF⟩
                              | ((repeat apply Exists.intro); refine ⟨?_, rfl⟩; exact ⟨i1, s + 1, du, rfl, by go_num, by omega, by omega, by omega, SU, by rw [show 5 - (s + 1) = t by omega]; exact HF⟩)
                          case measure => simp [intOf] <;> omega
                    · have hr2z : ¬ (2 : Int) ≤ (b : Int) - (i1 : Int) := by omega
                      have HF : Hid (partialIns lt a b t i1 dd = partialInsertionSort lt d a b) := by have := HQ.out; rw [if_neg hr2] at this; exact this
                      go_wp2
                      go_roundw
                      case rel =>
                        first
                          | exact ⟨i1, s + 1, dd, rfl, by go_num, by omega, by omega, by omega, SD, by rw [show 5 - (s + 1) = t by omega]; exact HF⟩
                          | ((repeat apply Exists.intro); refine ⟨?_, rfl⟩; exact ⟨i1, s + 1, dd, rfl, by go_num, by omega, by omega, by omega, SD, by rw [show 5 - (s + 1) = t by omega]; exact HF⟩)
                      case measure => simp [intOf] <;> omega
                  | succ jd =>
                    simp only [show ((jd + 1 : Nat) : Int) = (jd : Int) + 1 by omega]
                    have hjz : (1 : Int) ≤ (jd : Int) + 1 := by omega
                    have hjw : IntKind.i64.wrap ((jd : Int) + 1 - 1) = (jd : Int) := by rw [IntKind.wrap_i64]; omega
                    cases hvd : lt dd[jd + 1]! dd[jd]! with
                    | true =>
                      have hl := HE.out.lessV dd (jd + 1) jd ((jd : Int) + 1) (jd : Int) true hvd (by omega) rfl (by omega) (by omega) _ SD.i
                      have HD2 : Hid (shiftDown lt jd (swp dd (jd + 1) jd) = shiftDown lt (i1 - 1) (swp dk i1 (i1 - 1))) := by have := HD.out; rw [shiftDown, hvd] at this; exact this
                      go_wp2_with (go_at_fn g; refine hl.mono ?_; rintro e w6 ⟨rfl, hI6, hS6⟩; have S6 := SD.step HB.out hI6 hS6; have x0 := S6.c0; have x1 := S6.c1; obtain ⟨W7, hrun7, hI7, hS7⟩ := HE.out.swapI dd w6 (jd + 1) jd ((jd : Int) + 1) (jd : Int) (by omega) rfl S6.i (by omega) (by omega); have S7 := S6.step HB.out hI7 hS7; clear hl)
                      go_roundw
                      case rel =>
                        first
                          | exact ⟨jd, swp dd (jd + 1) jd, by first | rfl | (congr 1 <;> omega), by omega, S7, HD2⟩
                          | ((repeat apply Exists.intro); refine ⟨?_, rfl⟩; exact ⟨jd, swp dd (jd + 1) jd, by first | rfl | (congr 1 <;> omega), by omega, S7, HD2⟩)
                      case measure => simp [intOf] <;> omega
                    | false =>
                      have hl := HE.out.lessV dd (jd + 1) jd ((jd : Int) + 1) (jd : Int) false hvd (by omega) rfl (by omega) (by omega) _ SD.i
                      have e1 : Hid (shiftDown lt (jd + 1) dd = dd) := by show _ = _; rw [shiftDown, hvd]; rfl
                      have HQ : Hid (partialIns lt a b t i1 (if b - i1 ≥ 2 then shiftUp lt b (i1 + 1) dd else dd) = partialInsertionSort lt d a b) := by have := HL.out; rw [← HD.out, e1.out] at this; exact this
                      by_cases hr2 : 2 ≤ b - i1
                      · have hr2z : (2 : Int) ≤ (b : Int) - (i1 : Int) := by omega
                        have HQ2 : Hid (partialIns lt a b t i1 (shiftUp lt b (i1 + 1) dd) = partialInsertionSort lt d a b) := by have := HQ.out; rw [if_pos hr2] at this; exact this
                        go_wp2_with (go_at_fn g; refine hl.mono ?_; rintro e w6 ⟨rfl, hI6, hS6⟩; have S6 := SD.step HB.out hI6 hS6; clear hl)
                        go_loopw [10] (fun vj w2 => ∃ (ju : Nat) (du : Array α), vj = .int .i64 ju ∧ i1 + 1 ≤ ju ∧ ju ≤ b ∧ SSt blk I w w.heap.size g lb sf sb du w2 ∧ Hid (shiftUp lt b ju du = shiftUp lt b (i1 + 1) dd)) (fun vj _ => b - (intOf vj).toNat)
                        case atStart => exact ⟨i1 + 1, _, by go_num, Nat.le_refl _, by omega, S6, rfl⟩
                        case round =>
                          obtain ⟨ju, du, rfl, q1, q2, SU, HU⟩ := hrel
                          have u0 := SU.c0
                          have u1 := SU.c1
                          by_cases hjb : ju < b
                          · have hjbz : (ju : Int) < (b : Int) := by omega
                            cases hvu : lt du[ju]! du[ju - 1]! with
                            | true =>
                              have hl := HE.out.lessV du ju (ju - 1) ju ((ju : Int) - 1) true hvu rfl (by omega) (by omega) (by omega) _ SU.i
                              have HU2 : Hid (shiftUp lt b (ju + 1) (swp du ju (ju - 1)) = shiftUp lt b (i1 + 1) dd) := by have := HU.out; rw [shiftUp, if_pos hjb, hvu] at this; exact this
                              go_wp2_with (go_at_fn g; refine hl.mono ?_; rintro e w6 ⟨rfl, hI6, hS6⟩; have S6 := SU.step HB.out hI6 hS6; have x0 := S6.c0; have x1 := S6.c1; obtain ⟨W7, hrun7, hI7, hS7⟩ := HE.out.swapI du w6 ju (ju - 1) ju ((ju : Int) - 1) rfl (by omega) S6.i (by omega) (by omega); have S7 := S6.step HB.out hI7 hS7; clear hl)
                              go_roundw
                              case rel =>
                                first
                                  | exact ⟨ju + 1, swp du ju (ju - 1), by go_num, by omega, by omega, S7, HU2⟩
                                  | ((repeat apply Exists.intro); refine ⟨?_, rfl⟩; exact ⟨ju + 1, swp du ju (ju - 1), by go_num, by omega, by omega, S7, HU2⟩)
                              case measure => simp [intOf] <;> omega
                            | false =>
                              have hl := HE.out.lessV du ju (ju - 1) ju ((ju : Int) - 1) false hvu rfl (by omega) (by omega) (by omega) _ SU.i
                              have HF : Hid (partialIns lt a b t i1 du = partialInsertionSort lt d a b) := by have := HQ2.out; rw [← HU.out, shiftUp, if_pos hjb, hvu] at this; exact this
                              go_wp2_with (go_at_fn g; refine hl.mono ?_; rintro e w6 ⟨rfl, hI6, hS6⟩; have S6 := SU.step HB.out hI6 hS6; clear hl)
                              go_roundw
                              case rel =>
                                first
                                  | exact ⟨i1, s + 1, du, rfl, by go_num, by omega, by omega, by omega, S6, by rw [show 5 - (s + 1) = t by omega]; exact HF⟩
                                  | ((repeat apply Exists.intro); refine ⟨?_, rfl⟩; exact ⟨i1, s + 1, du, rfl, by go_num, by omega, by omega, by omega, S6, by rw [show 5 - (s + 1) = t by omega]; exact HF⟩)
                              case measure => simp [intOf] <;> omega
                          · have hjbz : ¬ (ju : Int) < (b : Int) := by omega
                            have HF : Hid (partialIns lt a b t i1 du = partialInsertionSort lt d a b) := by have := HQ2.out; rw [← HU.out, shiftUp, if_neg hjb] at this; exact this
                            go_wp2
                            go_roundw
                            case rel =>
                              first
                                | exact ⟨i1, s + 1, du, rfl, by go_num, by omega, by omega, by omega, SU, by rw [show 5 - (s + 1) = t by omega]; exact HF⟩
                                | ((repeat apply Exists.intro); refine ⟨?_, rfl⟩; exact ⟨i1, s + 1, du, rfl, by go_num, by omega, by omega, by omega, SU, by rw [show 5 - (s + 1) = t by omega]; exact HF⟩)
                            case measure => simp [intOf] <;> omega
                      · have hr2z : ¬ (2 : Int) ≤ (b : Int) - (i1 : Int) := by omega
                        have HF : Hid (partialIns lt a b t i1 dd = partialInsertionSort lt d a b) := by have := HQ.out; rw [if_neg hr2] at this; exact this
                        go_wp2_with (go_at_fn g; refine hl.mono ?_; rintro e w6 ⟨rfl, hI6, hS6⟩; have S6 := SD.step HB.out hI6 hS6; clear hl)
                        go_roundw
                        case rel =>
                          first
                            | exact ⟨i1, s + 1, dd, rfl, by go_num, by omega, by omega, by omega, S6, by rw [show 5 - (s + 1) = t by omega]; exact HF⟩
                            | ((repeat apply Exists.intro); refine ⟨?_, rfl⟩; exact ⟨i1, s + 1, dd, rfl, by go_num, by omega, by omega, by omega, S6, by rw [show 5 - (s + 1) = t by omega]; exact HF⟩)
                        case measure => simp [intOf] <;> omega
              · have hl2z : ¬ (2 : Int) ≤ (i1 : Int) - (a : Int) := by omega
                have HQ : Hid (partialIns lt a b t i1 (if b - i1 ≥ 2 then shiftUp lt b (i1 + 1) (swp dk i1 (i1 - 1)) else swp dk i1 (i1 - 1)) = partialInsertionSort lt d a b) := by have := HQ0.out; rw [if_neg hl2] at this; exact this
                by_cases hr2 : 2 ≤ b - i1
                · have hr2z : (2 : Int) ≤ (b : Int) - (i1 : Int) := by omega
                  have HQ2 : Hid (partialIns lt a b t i1 (shiftUp lt b (i1 + 1) (swp dk i1 (i1 - 1))) = partialInsertionSort lt d a b) := by have := HQ.out; rw [if_pos hr2] at this; exact this
                  go_wp2_with (go_at_fn g; refine hl.mono ?_; rintro e w4 ⟨rfl, hI4, hS4⟩; have S4 := S1.step HB.out hI4 hS4; have m0 := S4.c0; have m1 := S4.c1; obtain ⟨W5, hrun, hI5, hS5⟩ := HE.out.swapI dk w4 i1 (i1 - 1) i1 ((i1 : Int) - 1) rfl (by omega) S4.i (by omega) (by omega); have S5 := S4.step HB.out hI5 hS5; clear hl)
                  go_loopw [10] (fun vj w2 => ∃ (ju : Nat) (du : Array α), vj = .int .i64 ju ∧ i1 + 1 ≤ ju ∧ ju ≤ b ∧ SSt blk I w w.heap.size g lb sf sb du w2 ∧ Hid (shiftUp lt b ju du = shiftUp lt b (i1 + 1) (swp dk i1 (i1 - 1)))) (fun vj _ => b - (intOf vj).toNat)
                  case atStart => exact ⟨i1 + 1, _, by go_num, Nat.le_refl _, by omega, S5, rfl⟩
                  case round =>
                    obtain ⟨ju, du, rfl, q1, q2, SU, HU⟩ := hrel
                    have u0 := SU.c0
                    have u1 := SU.c1
                    by_cases hjb : ju < b
                    · have hjbz : (ju : Int) < (b : Int) := by omega
                      cases hvu : lt du[ju]! du[ju - 1]! with
                      | true =>
                        have hl := HE.out.lessV du ju (ju - 1) ju ((ju : Int) - 1) true hvu rfl (by omega) (by omega) (by omega) _ SU.i
                        have HU2 : Hid (shiftUp lt b (ju + 1) (swp du ju (ju - 1)) = shiftUp lt b (i1 + 1) (swp dk i1 (i1 - 1))) := by have := HU.out; rw [shiftUp, if_pos hjb, hvu] at this; exact this
                        go_wp2_with (go_at_fn g; refine hl.mono ?_; rintro e w6 ⟨rfl, hI6, hS6⟩; have S6 := SU.step HB.out hI6 hS6; have x0 := S6.c0; have x1 := S6.c1; obtain ⟨W7, hrun7, hI7, hS7⟩ := HE.out.swapI du w6 ju (ju - 1) ju ((ju : Int) - 1) rfl (by omega) S6.i (by omega) (by omega); have S7 := S6.step HB.out hI7 hS7; clear hl)
                        go_roundw
                        case rel =>
                          first
                            | exact ⟨ju + 1, swp du ju (ju - 1), by go_num, by omega, by omega, S7, HU2⟩
                            | ((repeat apply Exists.intro); refine ⟨?_, rfl⟩; exact ⟨ju + 1, swp du ju (ju - 1), by go_num, by omega, by omega, S7, HU2⟩)
                        case measure => simp [intOf] <;> omega
                      | false =>
                        have hl := HE.out.lessV du ju (ju - 1) ju ((ju : Int) - 1) false hvu rfl (by omega) (by omega) (by omega) _ SU.i
                        have HF : Hid (partialIns lt a b t i1 du = partialInsertionSort lt d a b) := by have := HQ2.out; rw [← HU.out, shiftUp, if_pos hjb, hvu] at this; exact this
                        go_wp2_with (go_at_fn g; refine hl.mono ?_; rintro e w6 ⟨rfl, hI6, hS6⟩; have S6 := SU.step HB.out hI6 hS6; clear hl)
                        go_roundw
                        case rel =>
                          first
                            | exact ⟨i1, s + 1, du, rfl, by go_num, by omega, by omega, by omega, S6, by rw [show 5 - (s + 1) = t by omega]; exact HF⟩
                            | ((repeat apply Exists.intro); refine ⟨?_, rfl⟩; exact ⟨i1, s + 1, du, rfl, by go_num, by omega, by omega, by omega, S6, by rw [show 5 - (s + 1) = t by omega]; exact HF⟩)
                        case measure => simp [intOf] <;> omega
                    · have hjbz : ¬ (ju : Int) < (b : Int) := by omega
                      have HF : Hid (partialIns lt a b t i1 du = partialInsertionSort lt d a b) := by have := HQ2.out; rw [← HU.out, shiftUp, if_neg hjb] at this; exact this
                      go_wp2
                      go_roundw
                      case rel =>
                        first
                          | exact ⟨i1, s + 1, du, rfl, by go_num, by omega, by omega, by omega, SU, by rw [show 5 - (s + 1) = t by omega]; exact HF⟩
                          | ((repeat apply Exists.intro); refine ⟨?_, rfl⟩; exact ⟨i1, s + 1, du, rfl, by go_num, by omega, by omega, by omega, SU, by rw [show 5 - (s + 1) = t by omega]; exact HF⟩)
                      case measure => simp [intOf] <;> omega
                · exfalso; omega
        · have hltz : ¬ (i1 : Int) < (b : Int) := by omega
          have HX : Hid (partialInsertionSort lt d a b = (dk, true)) := by show _ = _; rw [← HS1.out, pIns_succ, ← HC.out, scanSorted]; simp [hlt]; omega
          have heq : ((i1 : Int) == (b : Int)) = true := by simp; omega
          go_wp2
          go_ret
          exact ⟨by rw [HX.out]; rfl, by rw [HX.out]; exact S1.i, S1.st⟩
    · have hsz : ¬ (s : Int) < 5 := by omega
      have HX : Hid (partialInsertionSort lt d a b = (dk, false)) := by show _ = _; rw [← HS.out, show 5 - s = 0 by omega]; rfl
      go_wp2
      go_ret
      exact ⟨by rw [HX.out]; rfl, by rw [HX.out]; exact S.i, S.st⟩
end Go.Proofs.Ytkjlldbgooogdaa

/- Draws leave all that lies in memory. Conditions: none. -/
namespace Go.Proofs.Ytkjlldbgooogdaa
set_option maxRecDepth 100000
open Go.RowKit

theorem stay_drewN (S : Nat → Prop) (w : World) (k : Nat) : Stay S w (w.drewN k) := ⟨rfl, rfl, rfl, Nat.le_refl _, fun _ _ _ => rfl⟩
theorem below_drewsX (B : Nat) (w : World) (k : Nat) : Below B w (w.drewN k) := ⟨rfl, rfl, rfl, Nat.le_refl _, fun _ _ => rfl⟩
end Go.Proofs.Ytkjlldbgooogdaa

/- sort.breakPatterns_func, by a swap that turns the row alone. Conditions: rows of less than 2^62 elements. -/
namespace Go.Proofs.Ytkjlldbgooogdaa
set_option maxRecDepth 100000
open Go.RowKit Go.Sort

variable {α : Type} [Inhabited α]
variable {g : Nat} {lb : Array Value} {sf : Nat} {sb : Array Value} {lt : α → α → Bool} {n blk base : Nat} {I : Array α → World → Prop}

/-- While breakPatterns runs: the row, the function values, the random number in its cell. -/
structure KSt (blk : Nat) (I : Array α → World → Prop) (w : World) (sf : Nat) (sb : Array Value) (d : Array α) (R : Nat) (wr : World) : Prop where
  i : I d wr
  c1 : wr.cell? ⟨w.heap.size, 1, none⟩ = some (.func (.func sf) #[] sb)
  cR : wr.cell? ⟨w.heap.size + 1, 0, none⟩ = some (.int .u64 (R : Int))
  fR : wr.frozen? ⟨w.heap.size + 1, 0, none⟩ = false
  st : Stay (fun k => k ≠ blk ∧ k ≠ w.heap.size + 1) w wr
/-- A new random number. -/
theorem KSt.next {w wr : World} {d : Array α} {R : Nat} (E : SEnv g lb sf sb lt n blk base I) (h : KSt blk I w sf sb d R wr) (R' : Nat) (hb : base ≤ w.heap.size) : KSt blk I w sf sb d R' ((wr.setCell ⟨w.heap.size + 1, 0, none⟩ (.int .u64 (R' : Int))).drewN 3) := by
  have h1 : I d (wr.setCell ⟨w.heap.size + 1, 0, none⟩ (.int .u64 (R' : Int))) := E.set d wr ⟨w.heap.size + 1, 0, none⟩ _ h.i (Nat.le_trans hb (Nat.le_succ _))
  refine ⟨E.on d _ _ h1 (below_drewsX _ _ 3), ?_, ?_, ?_, ?_⟩
  · rw [World.cell?_drewN, World.cell?_setCell_other _ _ _ _ (by intro e; simp only [Addr.mk.injEq, and_true] at e; omega)]; exact h.c1
  · rw [World.cell?_drewN]; exact World.cell?_setCell_same _ _ _ h.cR
  · rw [World.frozen?_drewN]; simpa using h.fR
  · exact (h.st.trans (.setCell _ _ (fun e => e.2 rfl))).trans (stay_drewN _ _ 3)
omit [Inhabited α] in
theorem KSt.swapped {w wr wr' : World} {d d' : Array α} {R : Nat} (h : KSt blk I w sf sb d R wr) (hne : w.heap.size ≠ blk ∧ w.heap.size + 1 ≠ blk) (hi : I d' wr') (hs : Stay (fun k => k ≠ blk) wr wr') : KSt blk I w sf sb d' R wr' :=
  ⟨hi, hs.cell h.c1 hne.1, hs.cell h.cR hne.2, (hs.frozen (World.block_lt_of_cell? _ _ h.cR) hne.2).trans h.fR, h.st.trans (hs.weak (fun _ _ hk => hk.1))⟩

set_option maxHeartbeats 4000000 in
theorem breakPatterns_go (E : SEnv g lb sf sb lt n blk base I) (a L : Nat) (d : Array α) (w : World) (h : I d w) (hb : a + L ≤ n) (h8 : 8 ≤ L) :
    Calls Try.prog 125 #[.agg #[.func (.func g) #[] lb, .func (.func sf) #[] sb], .int .i64 a, .int .i64 ((a + L : Nat) : Int)] w fun e w' => e = .returned (.tuple #[]) ∧ I (breakPatterns d a (a + L)) w' ∧ Stay (fun k => k ≠ blk) w w' := by
  have hbig := E.big
  rw [breakPatterns_eq d a L h8]
  obtain ⟨M, hM⟩ : ∃ M : Nat, M = 1 <<< bitsLen L := ⟨_, rfl⟩
  have hM1 : 1 ≤ M := by rw [hM, Nat.one_shiftLeft]; exact Nat.two_pow_pos _
  have hM2 : M ≤ 2 * L := by rw [hM, Nat.one_shiftLeft]; exact two_pow_bitsLen_le (by omega)
  have hNP : ∀ w, Calls Try.prog 139 #[.int .i64 (L : Int)] w fun e w' => e = .returned (.int .u64 (M : Int)) ∧ w' = w := by rw [hM]; exact fun w => Try.nextPowerOfTwo L (by omega) w
  rw [← hM]
  clear hM
  have hLz : ((a : Int) + (L : Int) - (a : Int)) = (L : Int) := by omega
  have h8z : (8 : Int) ≤ (L : Int) := by omega
  have hbase := E.lt _ _ h
  have HB : Hid (w.heap.size ≠ blk ∧ w.heap.size + 1 ≠ blk) := by have := E.bb; exact ⟨by omega, by omega⟩
  have HE : Hid (SEnv g lb sf sb lt n blk base I) := E
  have S0 : KSt blk I w sf sb d L ((w.alloc (.cells #[.func (.func g) #[] lb, .func (.func sf) #[] sb] 130)).alloc (.cells #[.int .u64 (L : Int)] 164)) :=
    ⟨E.on _ _ _ h (((Below.refl _ _).alloc (Nat.le_refl _) _).alloc (by simp) _), by simp [go_sem], by simp [go_sem], by simp [go_sem], (Stay.alloc _ _ _).trans (.alloc _ _ _)⟩
  clear E h
  go_enter Try.func125, Try.ntmps125
  go_wp2_with (first | (go_at_call 139; refine (hNP _).mono ?_; rintro e w' ⟨rfl, rfl⟩))
  go_loopg [9] 3 (fun g1 vi wr => ∃ (t : Nat) (r : UInt64) (dk : Array α), vi = .int .i64 ((a : Int) + (L : Int) / 4 * 2 - 1 + (t : Int)) ∧ t ≤ 3 ∧ 3 - t ≤ g1 ∧ KSt blk I w sf sb dk r.toNat wr ∧
      Hid (bpRest a L M (a + L / 4 * 2 - 1) (3 - t) t (r, dk) = bpRest a L M (a + L / 4 * 2 - 1) 3 0 (UInt64.ofNat L, d)))
  case atStart =>
    refine ⟨0, UInt64.ofNat L, d, by simp, by omega, by omega, ?_, rfl⟩
    rw [show (UInt64.ofNat L).toNat = L from by simp; omega]
    exact S0
  case round =>
    obtain ⟨t, r, dk, rfl, ht, hg1, S, HR⟩ := hrel
    clear S0
    by_cases ht3 : t < 3
    · have hle : (a : Int) + (L : Int) / 4 * 2 - 1 + (t : Int) ≤ (a : Int) + (L : Int) / 4 * 2 + 1 := by omega
      obtain ⟨R, hRr⟩ : ∃ R : Nat, R = r.toNat := ⟨_, rfl⟩
      have lR : R < 18446744073709551616 := by rw [hRr]; exact r.toNat_lt
      obtain ⟨R', hR'⟩ : ∃ R' : Nat, R' = xorNextN R := ⟨_, rfl⟩
      have lR' : R' < 18446744073709551616 := by rw [hR']; exact xorNextN_lt R lR
      obtain ⟨O, hO⟩ : ∃ O : Nat, O = R' &&& (M - 1) := ⟨_, rfl⟩
      have lO : O ≤ M - 1 := by rw [hO]; exact Nat.and_le_right
      have eAnd : bits .and .u64 (R' : Int) ((M : Int) - 1) = (O : Int) := by
        rw [show ((M : Int) - 1) = ((M - 1 : Nat) : Int) by omega, bits_and_u64_nat _ _ lR' (by omega), hO]
      rw [← hRr] at S
      have hNext : Calls Try.prog 140 #[.pointer (some ⟨w.heap.size + 1, 0, none⟩)] wr fun e w' => e = .returned (.int .u64 (R' : Int)) ∧ w' = (wr.setCell ⟨w.heap.size + 1, 0, none⟩ (.int .u64 (R' : Int))).drewN 3 := by
        rw [hR']; exact Try.xorshift_Next _ _ R lR wr S.cR S.fR
      have HN : Hid (R' = (xorNext r).toNat ∧ O = (xorNext r).toNat &&& (M - 1)) := by
        have e : R' = (xorNext r).toNat := by rw [hR', hRr, xorNext_toNat]
        exact ⟨e, by rw [hO, e]⟩
      clear hRr hR' hO
      have S2 := S.next HE.out R' hbase
      generalize (wr.setCell ⟨w.heap.size + 1, 0, none⟩ (.int .u64 (R' : Int))).drewN 3 = w2 at hNext S2
      have c1 := S2.c1
      clear S
      by_cases hLO : L ≤ O
      · have hLOz : (L : Int) ≤ (O : Int) := by omega
        obtain ⟨W4, hrun, hI4, hS4⟩ := HE.out.swapI dk w2 (a + L / 4 * 2 - 1 + t) (a + (O - L)) ((a : Int) + (L : Int) / 4 * 2 - 1 + (t : Int)) ((a : Int) + ((O : Int) - (L : Int))) (by omega) (by omega) S2.i (by omega) (by omega)
        have S3 := S2.swapped HB.out hI4 hS4
        clear S2
        go_wp2_with (go_at_call 140; refine hNext.mono ?_; rintro e w' ⟨rfl, rfl⟩)
        go_roundg (3 - (t + 1))
        case measure => omega
        case rel => exact ⟨t + 1, xorNext r, swp dk (a + L / 4 * 2 - 1 + t) (a + (O - L)), by congr 1; push_cast; omega, by omega, Nat.le_refl _, by rw [← HN.out.1]; exact S3,
          (show Hid _ from by rw [← HR.out, bp_step a L M _ t r dk (O - L) ht3 (by rw [← HN.out.2, if_pos (by omega)])]; exact rfl)⟩
      · have hLOz : ¬ (L : Int) ≤ (O : Int) := by omega
        obtain ⟨W4, hrun, hI4, hS4⟩ := HE.out.swapI dk w2 (a + L / 4 * 2 - 1 + t) (a + O) ((a : Int) + (L : Int) / 4 * 2 - 1 + (t : Int)) ((a : Int) + (O : Int)) (by omega) (by omega) S2.i (by omega) (by omega)
        have S3 := S2.swapped HB.out hI4 hS4
        clear S2
        go_wp2_with (go_at_call 140; refine hNext.mono ?_; rintro e w' ⟨rfl, rfl⟩)
        go_roundg (3 - (t + 1))
        case measure => omega
        case rel => exact ⟨t + 1, xorNext r, swp dk (a + L / 4 * 2 - 1 + t) (a + O), by congr 1; push_cast; omega, by omega, Nat.le_refl _, by rw [← HN.out.1]; exact S3,
          (show Hid _ from by rw [← HR.out, bp_step a L M _ t r dk O ht3 (by rw [← HN.out.2, if_neg (by omega)])]; exact rfl)⟩
    · obtain rfl : t = 3 := by omega
      have hle : ¬ ((a : Int) + (L : Int) / 4 * 2 - 1 + ((3 : Nat) : Int) ≤ (a : Int) + (L : Int) / 4 * 2 + 1) := by omega
      go_wp2
      go_end0
      refine ⟨rfl, ?_, ?_⟩
      · rw [← HR.out]; exact S.i
      · exact fin_stay (by omega) S.st

theorem breakPatterns_any (E : SEnv g lb sf sb lt n blk base I) (a b : Nat) (d : Array α) (w : World) (h : I d w) (hab : a ≤ b) (hb : b ≤ n) :
    Calls Try.prog 125 #[.agg #[.func (.func g) #[] lb, .func (.func sf) #[] sb], .int .i64 a, .int .i64 b] w fun e w' => e = .returned (.tuple #[]) ∧ I (breakPatterns d a b) w' ∧ Stay (fun k => k ≠ blk) w w' := by
  obtain ⟨L, rfl⟩ : ∃ L, b = a + L := ⟨b - a, by omega⟩
  by_cases h8 : 8 ≤ L
  · exact breakPatterns_go E a L d w h hb h8
  · have hv : breakPatterns d a (a + L) = d := by unfold breakPatterns; simp only [Nat.add_sub_cancel_left]; rw [if_neg h8]
    rw [hv]
    have hbig := E.big
    have hLz : ((a : Int) + (L : Int) - (a : Int)) = (L : Int) := by omega
    have h8z : ¬ (8 : Int) ≤ (L : Int) := by omega
    have S0 := SSt.start E h 130
    have S1 : Hid (I d (w.alloc (.cells #[.func (.func g) #[] lb, .func (.func sf) #[] sb] 130))) := S0.i
    clear E h S0
    go_enter Try.func125, Try.ntmps125
    go_wp2
    go_end0
    exact ⟨rfl, S1.out, .alloc _ _ _⟩
end Go.Proofs.Ytkjlldbgooogdaa

/- sort.pdqsort_func, by a comparison that may lay blocks. Conditions: rows of less than 2^62 elements; the comparison is a strict weak order. -/
namespace Go.Proofs.Ytkjlldbgooogdaa
set_option maxRecDepth 100000
open Go.RowKit Go.Sort

variable {α : Type} [Inhabited α]
variable {g : Nat} {lb : Array Value} {sf : Nat} {sb : Array Value} {lt : α → α → Bool} {n blk base : Nat} {I : Array α → World → Prop}

theorem hint_code (h : Hint) : hintI h = hintCode h := by cases h <;> rfl

set_option maxHeartbeats 12800000 in
set_option maxRecDepth 1000000 in
theorem pdqsort_any (E : SEnv g lb sf sb lt n blk base I) (hO : SWO lt) :
    ∀ (N a b limit : Nat) (d : Array α) (w : World), b - a < N → I d w → a ≤ b → b ≤ n → limit < 4611686018427387904 → Go.Sort.Below lt a b d →
    Calls Try.prog 98 #[.agg #[.func (.func g) #[] lb, .func (.func sf) #[] sb], .int .i64 a, .int .i64 b, .int .i64 limit] w fun e w' => e = .returned (.tuple #[]) ∧ I (pdq lt d a b limit true true) w' ∧ Stay (fun k => k ≠ blk) w w' := by
  have eg := E.eg
  have hbig := E.big
  have HE : Hid (SEnv g lb sf sb lt n blk base I) := E
  clear E
  intro N
  induction N with
  | zero => intro _ _ _ _ _ h; exact absurd h (Nat.not_lt_zero _)
  | succ N ih =>
    intro a b limit d w hN h0 hab hb hlimit hBel0
    have HB : Hid (w.heap.size ≠ blk) := by have := HE.out.lt _ _ h0; have := HE.out.bb; show _ ≠ _; omega
    have S0 := SSt.start HE.out h0 130
    have HI : Hid (∀ (a b limit : Nat) (d : Array α) (w : World), b - a < N → I d w → a ≤ b → b ≤ n → limit < 4611686018427387904 → Go.Sort.Below lt a b d →
      Calls Try.prog 98 #[.agg #[.func (.func g) #[] lb, .func (.func sf) #[] sb], .int .i64 a, .int .i64 b, .int .i64 limit] w fun e w' => e = .returned (.tuple #[]) ∧ I (pdq lt d a b limit true true) w' ∧ Stay (fun k => k ≠ blk) w w') := ih
    clear ih h0
    go_enter Try.func98, Try.ntmps98
    go_wp2
    go_loopg [1, 2, 3, 8, 9] (b - a) (fun k s1 s2 s3 s8 s9 wr => ∃ (a' b' lim : Nat) (wb wp : Bool) (dk : Array α), s1 = .int .i64 a' ∧ s2 = .int .i64 b' ∧ s3 = .int .i64 lim ∧ s8 = .bool wb ∧ s9 = .bool wp ∧
      a' ≤ b' ∧ b' ≤ n ∧ b' - a' ≤ k ∧ k ≤ b - a ∧ lim ≤ limit ∧ Go.Sort.Below lt a' b' dk ∧ SSt blk I w w.heap.size g lb sf sb dk wr ∧ Hid (pdq lt dk a' b' lim wb wp = pdq lt d a b limit true true))
    case atStart => exact ⟨a, b, limit, true, true, d, rfl, rfl, rfl, rfl, rfl, hab, hb, Nat.le_refl _, Nat.le_refl _, Nat.le_refl _, hBel0, S0, rfl⟩
    case round =>
      obtain ⟨a', b', lim, wb, wp, dk, rfl, rfl, rfl, rfl, rfl, hab', hb', hk, hkN, hlim, hBel, S, A⟩ := hrel
      clear S0
      have hds : dk.size = n := HE.out.size _ _ S.i
      have x0 := S.c0
      have x1 := S.c1
      by_cases h12 : b' - a' ≤ 12
      · have h12z : (b' : Int) - (a' : Int) ≤ 12 := by omega
        have hc := insertion_any HE.out a' b' dk wr S.i hab' (by omega)
        go_wp2_with (go_at_call 123; refine hc.mono ?_; rintro e w1 ⟨rfl, hI1, hS1⟩)
        (try simp only [Exit.inBlock, Exit.then]); refine bodyPost_ret (results_none rfl _ _ _) rfl ?_
        refine ⟨rfl, ?_, S.st.trans hS1⟩
        rw [← A.out, pdq_small h12]
        exact hI1
      · have h12z : ¬ ((b' : Int) - (a' : Int) ≤ 12) := by omega
        by_cases hl0 : lim = 0
        · subst hl0
          have hc := heapSort_any HE.out a' b' dk wr S.i (by omega) (by omega)
          go_wp2_with (go_at_call 124; refine hc.mono ?_; rintro e w1 ⟨rfl, hI1, hS1⟩)
          (try simp only [Exit.inBlock, Exit.then]); refine bodyPost_ret (results_none rfl _ _ _) rfl ?_
          refine ⟨rfl, ?_, S.st.trans hS1⟩
          rw [← A.out, pdq_heap h12 rfl]
          exact hI1
        · have hl0z : ¬ ((lim : Int) = 0) := by omega
          obtain ⟨s1, B1, hc1, s2, B2, hpv, s3, B3⟩ := rd_facts (lt := lt) (limit := lim) (wb := wb) (wp := wp) hO partialInsertionSort_holds reverseRange_holds (show a' < b' by omega) (show b' ≤ dk.size by omega) hBel
          go_upto_if 35 with fail
          go_cut [3] from 19 (fun s3 wc => s3 = .int .i64 (rd lt dk a' b' lim wb wp).lim ∧ SSt blk I w w.heap.size g lb sf sb (rd lt dk a' b' lim wb wp).d1 wc)
          case first =>
            cases wb
            · have hc := breakPatterns_any HE.out a' b' dk wr S.i hab' (by omega)
              go_wp2_with (go_at_call 125; refine hc.mono ?_; rintro e w1 ⟨rfl, hI1, hS1⟩)
              go_meet
              case rel =>
                refine ⟨?_, S.step HB.out hI1 hS1⟩
                show Value.int .i64 ((lim : Int) - 1) = Value.int .i64 ((lim - 1 : Nat) : Int)
                congr 1
                omega
            · go_wp2_with fail
              go_meet
              case rel => exact ⟨rfl, S⟩
          case rest =>
            obtain ⟨rfl, S1⟩ := hcut
            clear x0 x1
            have y0 := S1.c0
            have y1 := S1.c1
            have hc17 : Calls Try.prog 126 #[.agg #[.func (.func g) #[] lb, .func (.func sf) #[] sb], .int .i64 a', .int .i64 b'] wc fun e w' => e = .returned (.tuple #[.int .i64 (rd lt dk a' b' lim wb wp).c.1, .int .i64 (hintCode (rd lt dk a' b' lim wb wp).c.2)]) ∧ I (rd lt dk a' b' lim wb wp).d1 w' ∧ Stay (fun k => k ≠ blk) wc w' := by
              rw [← hint_code]
              exact choosePivot_any HE.out a' b' (rd lt dk a' b' lim wb wp).d1 wc S1.i (by omega) (by omega)
            go_upto_if 50 with (go_at_call 126; refine hc17.mono ?_; rintro e w2 ⟨rfl, hI2, hS2⟩)
            have S2 := S1.step HB.out hI2 hS2
            clear y0 y1
            have z0 := S2.c0
            have z1 := S2.c1
            go_cut [11, 12] from 19 (fun s11 s12 wc => s11 = .int .i64 (rd lt dk a' b' lim wb wp).pivot ∧ s12 = .int .i64 (hintCode (rd lt dk a' b' lim wb wp).hint) ∧ SSt blk I w w.heap.size g lb sf sb (rd lt dk a' b' lim wb wp).d2 wc)
            case first =>
              by_cases hh : (rd lt dk a' b' lim wb wp).c.2 = .decreasing
              · have hcode : hintCode (rd lt dk a' b' lim wb wp).c.2 = 2 := by rw [hh]; rfl
                obtain ⟨e2, epv, eht⟩ := rd_dec hh
                have hc18 := reverse_any HE.out a' b' (rd lt dk a' b' lim wb wp).d1 w2 S2.i (by omega) (by omega)
                go_wp2_with (go_at_call 127; refine hc18.mono ?_; rintro e w3 ⟨rfl, hI3, hS3⟩)
                go_meet
                case rel =>
                  refine ⟨?_, by rw [eht]; rfl, by rw [e2]; exact S2.step HB.out hI3 hS3⟩
                  rw [epv]
                  congr 1
                  omega
              · have hcode : ¬ (hintCode (rd lt dk a' b' lim wb wp).c.2 = 2) := fun h => hh (hintCode_two h)
                obtain ⟨e2, epv, eht⟩ := rd_not hh
                go_wp2_with fail
                go_meet
                case rel => exact ⟨by rw [epv], by rw [eht], by rw [e2]; exact S2⟩
            case rest =>
              obtain ⟨rfl, rfl, S3⟩ := hcut
              clear z0 z1
              have v0 := S3.c0
              have v1 := S3.c1
              go_upto_region 16 with fail
              go_cut [12, 68] from 19 (fun s12 s68 wx => s12 = .int .i64 (hintCode (rd lt dk a' b' lim wb wp).hint) ∧ s68 = .bool (wb && wp && decide ((rd lt dk a' b' lim wb wp).hint = .increasing)) ∧ wx = wc)
              case first =>
                cases wb <;> cases wp <;> cases hh3 : (rd lt dk a' b' lim _ _).hint <;>
                  (have hcode3 := congrArg hintCode hh3
                   simp only [hintCode] at hcode3
                   go_wp2_with fail
                   go_meet
                   exact ⟨by simp [hh3, hintCode], by simp [hh3, hintCode], rfl⟩)
              case rest =>
                obtain ⟨rfl, rfl, rfl⟩ := hcut
                go_upto_if 68 with fail
                go_cut [] from 19 (fun wx => (rd lt dk a' b' lim wb wp).pi.2 = false ∧ SSt blk I w w.heap.size g lb sf sb (rd lt dk a' b' lim wb wp).pi.1 wx)
                case first =>
                  cases h68 : (wb && wp && decide ((rd lt dk a' b' lim wb wp).hint = .increasing))
                  · have epi := rd_pi_no h68
                    go_wp2_with fail
                    go_meet
                    case rel => exact ⟨by rw [epi], by rw [epi]; exact S3⟩
                  · have epi := rd_pi_yes h68
                    have hc19 := partialIns_any HE.out a' b' (rd lt dk a' b' lim wb wp).d2 wc S3.i (by omega) (by omega)
                    rw [← epi] at hc19
                    go_wp2_with (go_at_call 128; refine hc19.mono ?_; rintro e w4 ⟨rfl, hI4, hS4⟩)
                    all_goals first
                      | (have hp2 : (rd lt dk a' b' lim wb wp).pi.2 = false := by rw [epi]; assumption
                         go_meet
                         exact ⟨hp2, S3.step HB.out hI4 hS4⟩)
                      | (have hp2 : (rd lt dk a' b' lim wb wp).pi.2 = true := by rw [epi]; assumption
                         (try simp only [Exit.inBlock, Exit.then]); refine bodyPost_ret (results_none rfl _ _ _) rfl ?_
                         refine ⟨rfl, ?_, S3.st.trans hS4⟩
                         rw [← A.out, pdq_done h12 hl0 hp2]
                         exact hI4)
                case rest =>
                  obtain ⟨hp2, S5⟩ := hcut
                  clear v0 v1
                  have t0 := S5.c0
                  have t1 := S5.c1
                  go_upto_region 18 with fail
                  go_cut [83] from 19 (fun s83 wx => s83 = .bool (decide (a' > 0) && !lt (rd lt dk a' b' lim wb wp).pi.1[a' - 1]! (rd lt dk a' b' lim wb wp).pi.1[(rd lt dk a' b' lim wb wp).pivot]!) ∧ SSt blk I w w.heap.size g lb sf sb (rd lt dk a' b' lim wb wp).pi.1 wx)
                  case first =>
                    rcases Nat.eq_zero_or_pos a' with ha0 | ha0
                    · have ha0z : decide ((a' : Int) > 0) = false := decide_eq_false (by omega)
                      go_wp2_with fail
                      go_meet
                      case rel => exact ⟨by simp [ha0], S5⟩
                    · have ha0z : (a' : Int) > 0 := by omega
                      cases hlv : lt (rd lt dk a' b' lim wb wp).pi.1[a' - 1]! (rd lt dk a' b' lim wb wp).pi.1[(rd lt dk a' b' lim wb wp).pivot]! <;>
                        (have hl := HE.out.lessV (rd lt dk a' b' lim wb wp).pi.1 (a' - 1) (rd lt dk a' b' lim wb wp).pivot ((a' : Int) - 1) ((rd lt dk a' b' lim wb wp).pivot : Int) _ hlv (by omega) rfl (by omega) (by omega) wc S5.i
                         go_wp2_with (go_at_fn g; refine hl.mono ?_; rintro e w' ⟨rfl, hI6, hS6⟩)
                         go_meet
                         exact ⟨by simp [ha0, hlv], S5.step HB.out hI6 hS6⟩)
                  case rest =>
                    obtain ⟨rfl, S6⟩ := hcut
                    clear t0 t1
                    have q0 := S6.c0
                    have q1 := S6.c1
                    cases h87 : (decide (a' > 0) && !lt (rd lt dk a' b' lim wb wp).pi.1[a' - 1]! (rd lt dk a' b' lim wb wp).pi.1[(rd lt dk a' b' lim wb wp).pivot]!)
                    · obtain ⟨mid, ap, d4, hx⟩ : ∃ mid ap d4, partition lt (rd lt dk a' b' lim wb wp).pi.1 a' b' (rd lt dk a' b' lim wb wp).pivot = (mid, ap, d4) := ⟨_, _, _, rfl⟩
                      obtain ⟨r1, r2, r3, r4, r5, r6, r7⟩ := round_part hO (partition_holds lt) hpv.1 hpv.2 (show b' ≤ (rd lt dk a' b' lim wb wp).pi.1.size by omega) B3 hx
                      have hc22 := partition_any HE.out a' b' (rd lt dk a' b' lim wb wp).pivot (rd lt dk a' b' lim wb wp).pi.1 wc S6.i hpv.1 hpv.2 (by omega)
                      rw [hx] at hc22
                      have X : Hid (partition lt (rd lt dk a' b' lim wb wp).pi.1 a' b' (rd lt dk a' b' lim wb wp).pivot = (mid, ap, d4)) := hx
                      clear hx
                      go_upto_if 109 with (go_at_call 130; refine hc22.mono ?_; rintro e w7 ⟨rfl, hI7, hS7⟩)
                      have hx := X.out
                      have S7 := S6.step HB.out hI7 hS7
                      clear q0 q1
                      have p0 := S7.c0
                      have p1 := S7.c1
                      have hs4 : d4.size = n := HE.out.size _ _ S7.i
                      by_cases h4 : mid - a' < b' - mid
                      · have h4z : (mid : Int) - (a' : Int) < (b' : Int) - (mid : Int) := by omega
                        have hih := HI.out a' mid (rd lt dk a' b' lim wb wp).lim d4 w7 (by omega) S7.i (by omega) (by omega) (Nat.lt_of_le_of_lt (Nat.le_trans rd_lim_le hlim) hlimit) r4
                        obtain ⟨pL, sL⟩ := pdq_sorts lt hO d4 a' mid (rd lt dk a' b' lim wb wp).lim true true (by omega) (by omega) r4
                        go_wp2_with (go_at_call 98; refine hih.mono ?_; rintro e w8 ⟨rfl, hI8, hS8⟩)
                        go_roundg (b' - (mid + 1))
                        case measure => omega
                        case rel =>
                          refine ⟨mid + 1, b', (rd lt dk a' b' lim wb wp).lim, decide (mid - a' ≥ (b' - a') / 8), ap, pdq lt d4 a' mid (rd lt dk a' b' lim wb wp).lim true true, by simp, rfl, rfl, ?_, rfl, by omega, by omega, Nat.le_refl _, by omega, Nat.le_trans rd_lim_le hlim, (r6 _ pL sL).1, S7.step HB.out hI8 hS8, ?_⟩
                          · exact congrArg Value.bool (eighth (by omega) (by omega))
                          · show _ = _
                            rw [← A.out, pdq_left h12 hl0 hp2 h87 (by rw [hx]; exact ⟨r1, r2⟩) (by rw [hx]; exact h4), hx]
                      · have h4z : ¬ ((mid : Int) - (a' : Int) < (b' : Int) - (mid : Int)) := by omega
                        have hih := HI.out (mid + 1) b' (rd lt dk a' b' lim wb wp).lim d4 w7 (by omega) S7.i (by omega) (by omega) (Nat.lt_of_le_of_lt (Nat.le_trans rd_lim_le hlim) hlimit) r5
                        rw [show ((mid + 1 : Nat) : Int) = (mid : Int) + 1 by omega] at hih
                        obtain ⟨pL, sL⟩ := pdq_sorts lt hO d4 (mid + 1) b' (rd lt dk a' b' lim wb wp).lim true true (by omega) (by omega) r5
                        go_wp2_with (go_at_call 98; refine hih.mono ?_; rintro e w8 ⟨rfl, hI8, hS8⟩)
                        go_roundg (mid - a')
                        case measure => omega
                        case rel =>
                          refine ⟨a', mid, (rd lt dk a' b' lim wb wp).lim, decide (b' - mid ≥ (b' - a') / 8), ap, pdq lt d4 (mid + 1) b' (rd lt dk a' b' lim wb wp).lim true true, rfl, rfl, rfl, ?_, rfl, by omega, by omega, Nat.le_refl _, by omega, Nat.le_trans rd_lim_le hlim, (r7 _ pL sL).1, S7.step HB.out hI8 hS8, ?_⟩
                          · exact congrArg Value.bool (eighth (by omega) (by omega))
                          · show _ = _
                            rw [← A.out, pdq_right h12 hl0 hp2 h87 (by rw [hx]; exact ⟨r1, r2⟩) (by rw [hx]; exact h4), hx]
                    · have h87' := h87
                      simp only [Bool.and_eq_true, decide_eq_true_eq, Bool.not_eq_true'] at h87'
                      obtain ⟨mid, d4, hx⟩ : ∃ mid d4, partitionEqual lt (rd lt dk a' b' lim wb wp).pi.1 a' b' (rd lt dk a' b' lim wb wp).pivot = (mid, d4) := ⟨_, _, rfl⟩
                      obtain ⟨r1, r2, r3, r4, _⟩ := round_eq hO (partitionEqual_holds lt) h87'.1 hpv.1 hpv.2 (show b' ≤ (rd lt dk a' b' lim wb wp).pi.1.size by omega) B3 h87'.2 hx
                      have hc21 := partitionEqual_any HE.out a' b' (rd lt dk a' b' lim wb wp).pivot (rd lt dk a' b' lim wb wp).pi.1 wc S6.i hpv.1 hpv.2 (by omega)
                      rw [hx] at hc21
                      have X : Hid (partitionEqual lt (rd lt dk a' b' lim wb wp).pi.1 a' b' (rd lt dk a' b' lim wb wp).pivot = (mid, d4)) := hx
                      clear hx
                      go_wp2_with (go_at_call 129; refine hc21.mono ?_; rintro e w7 ⟨rfl, hI7, hS7⟩)
                      go_roundg (b' - mid)
                      case measure => omega
                      case rel =>
                        have hx := X.out
                        exact ⟨mid, b', (rd lt dk a' b' lim wb wp).lim, wb, wp, d4, rfl, rfl, rfl, rfl, rfl, r2, hb', Nat.le_refl _, by omega, Nat.le_trans rd_lim_le hlim, r4, S6.step HB.out hI7 hS7, by show _ = _; rw [← A.out, pdq_eq h12 hl0 hp2 h87 (by rw [hx]; exact ⟨r1, r2⟩), hx]⟩
end Go.Proofs.Ytkjlldbgooogdaa

/- The Kids of a blind function put in order by sort.Slice, by the program's own order of terms. Conditions: rows of less than 2^62 Kids, each of at most 4194304 parts. -/
namespace Go.Proofs.Ytkjlldbgooogdaa
set_option maxRecDepth 100000
open Go.RowKit Go.Sort Go.Lib

instance : Inhabited FE := ⟨⟨default, none, 0, fun _ => False⟩⟩
/-- Three cells an element. -/
def encE (e : FE) : List Value := [.int .i64 e.t.f, .int .i64 e.t.v, .slice e.a e.t.kids.length e.c]
def ltE (e d : FE) : Bool := befT e.t d.t

theorem bef_iff (a b : TermD) : befT a b = true ↔ ¬ leT b a := by
  rw [← befT_leT a b]; cases befT a b <;> simp
theorem swo_ltE : SWO ltE := by
  refine ⟨fun x => (befT_leT _ _).2 (leT_refl _), fun x y z h1 h2 => ?_, fun x y z h1 h2 => (befT_leT _ _).2 (leT_trans ((befT_leT _ _).1 h2) ((befT_leT _ _).1 h1))⟩
  have a1 := (bef_iff _ _).1 h1
  have a2 := (bef_iff _ _).1 h2
  refine (bef_iff _ _).2 (fun h3 => ?_)
  rcases leT_total y.t x.t with h | h
  · exact a1 h
  · exact a2 (leT_trans h3 h)

/-- The row holds d; its elements own their memory, apart from the row; the box of the variable 'kids'. -/
structure KO (g kb base n : Nat) (d : Array FE) (W : World) : Prop where
  h : HoldsK encE 3 W g 0 d
  sz : d.size = n
  own : ∀ i : Nat, i < n → OwnS W d[i]!.K d[i]!.a d[i]!.t.kids ∧ d[i]!.t.kids.length ≤ d[i]!.c ∧ partsT d[i]!.t ≤ 4194304 ∧ ∀ x, d[i]!.K x → x ≠ g ∧ x < base
  fr : ∀ j, W.frozen? ⟨g, j, none⟩ = false
  box : W.cell? ⟨kb, 0, none⟩ = some (.slice (some ⟨g, 0, none⟩) n n)
  z : base ≤ W.heap.size

theorem holdsK_block {d : Array FE} {g : Nat} {W W' : World} (h : HoldsK encE 3 W g 0 d) (e : W'.heap[g]? = W.heap[g]?) : HoldsK encE 3 W' g 0 d := fun t ht =>
  ⟨(World.cell?_of_block (a := ⟨g, 0 + t, none⟩) e).trans (h t ht).1, (World.frozen?_of_block (a := ⟨g, 0 + t, none⟩) e).trans (h t ht).2⟩

/-- Whatever leaves the blocks below base leaves it. -/
theorem KO.keep {g kb base n : Nat} {d : Array FE} {W W' : World} (h : KO g kb base n d W) (hg : g < base) (hkb : kb < base) (hb : ∀ x, x < base → W'.heap[x]? = W.heap[x]?) (hz : W.heap.size ≤ W'.heap.size) : KO g kb base n d W' :=
  ⟨holdsK_block h.h (hb g hg), h.sz, fun i hi => ⟨(h.own i hi).1.frame (fun x hx => hb x ((h.own i hi).2.2.2 x hx).2) hz, (h.own i hi).2⟩, fun j => (World.frozen?_of_block (a := ⟨g, j, none⟩) (hb g hg)).trans (h.fr j), (World.cell?_of_block (a := ⟨kb, 0, none⟩) (hb kb hkb)).trans h.box, Nat.le_trans h.z hz⟩

theorem setCells_block (blk : Nat) : ∀ (vs : List Value) (s : Nat) (w : World) (k : Nat), k ≠ blk → (w.setCells blk s vs).heap[k]? = w.heap[k]?
  | [], _, _, _, _ => rfl
  | v :: r, s, w, k, h => by
    rw [World.setCells, setCells_block blk r (s + 1) _ k h]
    exact Below.heap_setCell _ _ _ _ h
theorem setCells_size : ∀ (vs : List Value) (blk s : Nat) (w : World), (w.setCells blk s vs).heap.size = w.heap.size
  | [], _, _, _ => rfl
  | v :: r, blk, s, w => by rw [World.setCells, setCells_size r]; simp
theorem frozen_setCells (p : Addr) (blk : Nat) : ∀ (vs : List Value) (s : Nat) (w : World), (w.setCells blk s vs).frozen? p = w.frozen? p
  | [], _, _ => rfl
  | v :: r, s, w => by rw [World.setCells, frozen_setCells p blk r (s + 1), World.frozen?_setCell]
theorem stay_setCells (blk : Nat) : ∀ (vs : List Value) (s : Nat) (w : World), Stay (fun k => k ≠ blk) w (w.setCells blk s vs)
  | [], _, w => .refl _ w
  | v :: r, s, w => by
    rw [World.setCells]
    exact (Stay.setCell w v (by simp)).trans (stay_setCells blk r (s + 1) _)

set_option maxHeartbeats 1600000 in
theorem less_any {g kb base n : Nat} {d : Array FE} {W : World} (h : KO g kb base n d W) (i j : Nat) (hi : i < n) (hj : j < n) :
    Calls Try.prog 75 #[.int .i64 i, .int .i64 j, .pointer (some ⟨kb, 0, none⟩)] W fun e W' => e = .returned (.bool (befT d[i]!.t d[j]!.t)) ∧ Below W.heap.size W W' := by
  have hd := h.sz
  have i0 := (h.h.cell (i := i) (c := 0) (by omega) (by omega)).1
  have i1 := (h.h.cell (i := i) (c := 1) (by omega) (by omega)).1
  have i2 := (h.h.cell (i := i) (c := 2) (by omega) (by omega)).1
  have j0 := (h.h.cell (i := j) (c := 0) (by omega) (by omega)).1
  have j1 := (h.h.cell (i := j) (c := 1) (by omega) (by omega)).1
  have j2 := (h.h.cell (i := j) (c := 2) (by omega) (by omega)).1
  simp only [encE, List.getElem!_cons_zero, List.getElem!_cons_succ, Nat.zero_add, Nat.add_zero] at i0 i1 i2 j0 j1 j2
  obtain ⟨oi, ci, pi, _⟩ := h.own i hi
  obtain ⟨oj, cj, pj, _⟩ := h.own j hj
  have CB : ∀ W', Below W.heap.size W W' → Calls Try.prog 68 #[.agg #[.int .i64 d[i]!.t.f, .int .i64 d[i]!.t.v, .slice d[i]!.a d[i]!.t.kids.length d[i]!.c], .agg #[.int .i64 d[j]!.t.f, .int .i64 d[j]!.t.v, .slice d[j]!.a d[j]!.t.kids.length d[j]!.c]] W' fun e w' => e = .returned (.bool (befT d[i]!.t d[j]!.t)) ∧ Below W'.heap.size W' w' := fun W' hb =>
    impBef_any 4194304 _ _ _ _ _ _ W.heap.size W' pi (Nat.le_refl _) (oi.rd.on hb) (oj.rd.on hb) hb.size ci cj
  have hb0 := h.box
  clear oi oj ci cj pi pj h hd
  generalize d[i]! = x at *
  generalize d[j]! = y at *
  generalize befT x.t y.t = r at *
  have hiz : (i : Int) < (n : Int) := by omega
  have hjz : (j : Int) < (n : Int) := by omega
  have k0 := cellB i0
  have k1 := cellB i1
  have k2 := cellB i2
  have l0 := cellB j0
  have l1 := cellB j1
  have l2 := cellB j2
  have kb0 := cellB hb0
  clear i0 i1 i2 j0 j1 j2
  go_enter Try.func75, Try.ntmps75
  go_wp2
  refine wp_region_below (by kernel_rfl) (by kernel_rfl) ?_
  repeat (go_big_quiet_step ((go_at_call 68; refine callsB (CB _ (BW.b _)))))
  refine wpQuiet_nil ?_
  intro w2 hw'
  have hb2 : Below W.heap.size W w2 := by obtain ⟨p, rfl⟩ := hw'; exact p.b
  clear hw' k0 k1 k2 l0 l1 l2 kb0
  go_wp2_with fail
  go_ret
  exact ⟨rfl, hb2⟩

noncomputable def svT : TypeInfo := (Try.prog.info? 25).get (by kernel_rfl)
noncomputable def svE : TypeInfo := (Try.prog.info? 27).get (by kernel_rfl)
theorem svK (n : Nat) (h2 : 2 ≤ n) : Lib.swapperK n svE 25 = 9 := by
  have a : svE.hasPointers = true := by kernel_rfl
  have b : svE.bytes = 40 := by kernel_rfl
  have c : (n == 0) = false := by simp; omega
  have d : (n == 1) = false := by simp; omega
  simp [Lib.swapperK, a, b, c, d]

theorem env {g kb base n : Nat} (hg : g < base) (hkb : kb < base) (hne : kb ≠ g) (hn : n < 4611686018427387904) :
    SEnv 75 #[.pointer (some ⟨kb, 0, none⟩)] 122 #[.slice (some ⟨g, 0, none⟩) n n, typeHandle Try.prog 27] ltE n g base (KO g kb base n) := by
  refine ⟨enters_of Try.func75 (by kernel_rfl) rfl, fun d W i j h hi hj => ?_, fun d W i j h hi hj => ?_, fun d W W' h hb => ?_, fun d W p v h hp => ?_, fun d W h => h.z, hg, fun d W h => h.sz, hn⟩
  · refine (less_any h i j hi hj).mono ?_
    rintro e W' ⟨rfl, hb⟩
    exact ⟨rfl, h.keep hg hkb (fun x hx => hb.block x (Nat.lt_of_lt_of_le hx h.z)) hb.size, .of_below hb (fun _ hk _ => hk)⟩
  · have hs := swapSwapsK_of_literal (P := Try.prog) false 122 (fun args W => run_callFunc_extern Try.func122 (by kernel_rfl) (by kernel_rfl) (by kernel_rfl) (e := Extern.ReflectliteSwapper.swap false) (by kernel_rfl) args W)
      27 svE (by kernel_rfl) encE 3 (fun _ => rfl) (by kernel_rfl) (fun _ => by kernel_rfl) (fun x v hv => by simp [encE] at hv; rcases hv with rfl | rfl | rfl <;> rfl) g 0 n n W d h.h h.sz i j hi hj
    have hst : Stay (fun k => k ≠ g) W ((W.setCells g (0 + i * 3) (encE d[j]!)).setCells g (0 + j * 3) (encE d[i]!)) := (stay_setCells g _ _ _).trans (stay_setCells g _ _ _)
    have hH : HoldsK encE 3 ((W.setCells g (0 + i * 3) (encE d[j]!)).setCells g (0 + j * 3) (encE d[i]!)) g 0 (swp d i j) := by
      have e0 := swap_worldK encE 3 (fun _ => rfl) W 0 0 g 0 d i j (by rw [h.sz]; exact hi) (by rw [h.sz]; exact hj)
      have e1 : (putRowK encE 3 (Sort.ahead W 0) g 0 d).drewN 0 = W := by
        show putRowK encE 3 (Sort.ahead W 0) g 0 d = W
        exact putRowK_self encE 3 W g 0 d h.h
      rw [e1] at e0
      rw [e0]
      exact holdsK_putRowK encE 3 W g 0 d (swp d i j) h.h (size_swp d i j)
    refine ⟨_, hs, ⟨hH, by rw [size_swp]; exact h.sz, fun k hk => ?_, fun j => by rw [frozen_setCells, frozen_setCells]; exact h.fr j, ?_, Nat.le_trans h.z hst.size⟩, hst⟩
    · have hm : ∃ k', k' < n ∧ (swp d i j)[k]! = d[k']! := by
        rw [swp_get d (by rw [h.sz]; exact hi) (by rw [h.sz]; exact hj)]
        split
        · exact ⟨i, hi, rfl⟩
        · split
          · exact ⟨j, hj, rfl⟩
          · exact ⟨k, hk, rfl⟩
      obtain ⟨k', hk', e⟩ := hm
      rw [e]
      obtain ⟨o1, o2, o3, o4⟩ := h.own k' hk'
      exact ⟨o1.frame (fun x hx => hst.block x (Nat.lt_of_lt_of_le (o4 x hx).2 h.z) (o4 x hx).1) hst.size, o2, o3, o4⟩
    · exact hst.cell h.box hne
  · exact h.keep hg hkb (fun x hx => hb.block x (Nat.lt_of_lt_of_le hx h.z)) hb.size
  · refine h.keep hg hkb (fun x hx => Below.heap_setCell _ _ _ _ (by omega)) (by simp)

/-- Sorted: a permutation of what the row held, in order. -/
theorem sortKids_any {g kb base n : Nat} (hg : g < base) (hkb : kb < base) (hne : kb ≠ g) (hn : n < 4611686018427387904) (h2 : 2 ≤ n) (d : Array FE) (W : World) (h : KO g kb base n d W) :
    Calls Try.prog 74 #[.iface 25 (.slice (some ⟨g, 0, none⟩) n n), .func (.func 75) #[] #[.pointer (some ⟨kb, 0, none⟩)]] W fun e W' => e = .returned (.tuple #[]) ∧
      ∃ d' : Array FE, KO g kb base n d' W' ∧ d'.toList.Perm d.toList ∧ (d'.toList.map FE.t).Pairwise leT ∧ Stay (fun k => k ≠ g) W W' := by
  have hL := Any.sort_Slice_of_pdq Try.laysGg6 25 27 svT svE (by kernel_rfl) (by kernel_rfl) (by kernel_rfl) (by kernel_rfl) 25 (fun _ => by kernel_rfl) (some ⟨g, 0, none⟩) n n hn 122 (by rw [svK _ h2]; kernel_rfl) (.func 75) #[] #[.pointer (some ⟨kb, 0, none⟩)] W
    (fun W' => ∃ d' : Array FE, KO g kb base n d' W' ∧ d'.toList.Perm d.toList ∧ (d'.toList.map FE.t).Pairwise leT ∧ Stay (fun k => k ≠ g) W W')
  refine hL ?_
  have hB : sliceBound Try.prog 27 svE 25 (some ⟨g, 0, none⟩) n n = #[.slice (some ⟨g, 0, none⟩) n n, typeHandle Try.prog 27] := by
    unfold sliceBound; rw [if_neg (by rw [svK _ h2]; omega)]
  rw [hB]
  obtain ⟨W1, hW1⟩ : ∃ W1, W1 = sliceWorld Try.prog Try.laysGg6_ren 25 (some ⟨g, 0, none⟩) n n W := ⟨_, rfl⟩
  have hb1 : Below W.heap.size W W1 := by rw [hW1]; exact ((Below.refl _ _).alloc (Nat.le_refl _) _).alloc (by simp) _
  have h1 : KO g kb base n d W1 := h.keep hg hkb (fun x hx => hb1.block x (Nat.lt_of_lt_of_le hx h.z)) hb1.size
  have hlim : Lib.bitLen n < 4611686018427387904 := Nat.lt_of_le_of_lt (Lib.bitLen_le n 62 (by omega) (by omega)) (by omega)
  have hp := pdqsort_any (env hg hkb hne hn) swo_ltE (n + 1) 0 n (Lib.bitLen n) d W1 (by omega) h1 (Nat.zero_le _) (Nat.le_refl _) hlim (Or.inl rfl)
  rw [← hW1]
  refine hp.mono ?_
  rintro e W' ⟨rfl, hI, hst⟩
  have hd := h.sz
  obtain ⟨pp, ps⟩ := pdq_sorts ltE swo_ltE d 0 n (Lib.bitLen n) true true (Nat.zero_le _) (by omega) (Or.inl rfl)
  refine ⟨rfl, _, hI, ?_, ?_, (Stay.of_below hb1 (fun _ hk _ => hk)).trans hst⟩
  · have e1 := pp.2.2
    have hs := pp.1
    rw [Array.extract_eq_self_of_le (by omega), Array.extract_eq_self_of_le (by omega)] at e1
    exact e1
  · have hs := pp.1
    rw [List.pairwise_iff_getElem]
    intro i j hi hj hij
    simp only [List.length_map, Array.length_toList] at hi hj
    have := ps i j (Nat.zero_le _) hij (by omega)
    rw [getElem!_pos _ j (by omega), getElem!_pos _ i (by omega)] at this
    simp only [List.getElem_map, Array.getElem_toList]
    exact (befT_leT _ _).1 this
end Go.Proofs.Ytkjlldbgooogdaa

/- The program's way to one form: a term whose Kids are all done is closed. Conditions: at most 4194304 Kids, each of at most 4194304 parts. -/
namespace Go.Proofs.Ytkjlldbgooogdaa
set_option maxRecDepth 100000
open Go.RowKit Go.Sort Go.Lib

theorem cs3_at (L : List FE) (t : Nat) (h : t < L.length * 3) : (cs3 (L.map FE.cells))[t]? = some (encE L.toArray[t / 3]!)[t % 3]! := by
  obtain ⟨c0, c1, c2⟩ := cs3_get (L.map FE.cells) (t / 3) (by simp; omega)
  have hlt : t / 3 < L.length := by omega
  have e1 : L.toArray[t / 3]! = L[t / 3] := by simp [hlt]
  rw [e1]
  have h3 : t % 3 = 0 ∨ t % 3 = 1 ∨ t % 3 = 2 := by omega
  rcases h3 with q | q | q
  · rw [show t / 3 * 3 = t by omega] at c0; rw [c0, q]; simp [FE.cells, encE]
  · rw [show t / 3 * 3 + 1 = t by omega] at c1; rw [c1, q]; simp [FE.cells, encE]
  · rw [show t / 3 * 3 + 2 = t by omega] at c2; rw [c2, q]; simp [FE.cells, encE]

/-- A row of terms of which no two share a block is a list that owns its memory. -/
theorem owns_row {w : World} {g : Nat} {L : List FE} {S : Nat → Prop} (hg : g < w.heap.size) (hS : S g) (hl : L.length ≤ 9223372036854775807) (hc : ∀ i, (hi : i < L.length) → w.cell? ⟨g, i * 3, none⟩ = some (.int .i64 L[i].t.f) ∧ w.cell? ⟨g, i * 3 + 1, none⟩ = some (.int .i64 L[i].t.v) ∧ w.cell? ⟨g, i * 3 + 2, none⟩ = some (.slice L[i].a L[i].t.kids.length L[i].c)) (hf : ∀ j, w.frozen? ⟨g, j, none⟩ = false)
    (he : ∀ e ∈ L, OwnS w e.K e.a e.t.kids ∧ e.t.kids.length ≤ e.c ∧ (isW e.t.f ∧ isW e.t.v) ∧ ∀ k, e.K k → S k ∧ k ≠ g) (hd : L.Pairwise fun e d => ∀ k, e.K k → ¬ d.K k) : OwnS w S (some ⟨g, 0, none⟩) (L.map FE.t) := by
  refine .row S g 0 (L.map FE.t) (fun i => (L[i]?.map FE.a).getD none) (fun i => (L[i]?.map FE.c).getD 0) (fun i x => ∃ e, L[i]? = some e ∧ e.K x) hS hg ⟨by simpa using hl, fun i hi => ?_⟩ (fun i hi => ?_) (fun i hi => ?_) hf (fun i x hi hx => ?_) (fun i j x hi hj hne hx hy => ?_) (fun i hi => ?_)
  · have hi' : i < L.length := by simpa using hi
    simpa [hi'] using (he _ (List.getElem_mem hi')).2.1
  · have hi' : i < L.length := by simpa using hi
    simpa using (he _ (List.getElem_mem hi')).2.2.1
  · have hi' : i < L.length := by simpa using hi
    simpa [hi'] using hc i hi'
  · obtain ⟨e, q, hx⟩ := hx
    obtain ⟨hi', e0⟩ := List.getElem?_eq_some_iff.1 q
    exact (he e (e0 ▸ List.getElem_mem hi')).2.2.2 x hx
  · obtain ⟨e, q, hx⟩ := hx
    obtain ⟨d, q', hy⟩ := hy
    obtain ⟨hi', e0⟩ := List.getElem?_eq_some_iff.1 q
    obtain ⟨hj', e1⟩ := List.getElem?_eq_some_iff.1 q'
    rcases Nat.lt_or_gt_of_ne hne with hh | hh
    · exact (e0 ▸ e1 ▸ List.pairwise_iff_getElem.1 hd i j hi' hj' hh) x hx hy
    · exact (e1 ▸ e0 ▸ List.pairwise_iff_getElem.1 hd j i hj' hi' hh) x hy hx
  · have hi' : i < L.length := by simpa using hi
    have := (he _ (List.getElem_mem hi')).1
    simp only [hi', List.getElem?_eq_getElem, Option.map_some, Option.getD_some, List.getElem_map]
    exact this.mono (fun x hx => ⟨_, rfl, hx⟩)

theorem MR.owns {n0 B : Nat} {x : FM} {w : World} (h : MR n0 B x w) (hl : x.L.length ≤ 4194304) : OwnS w x.S x.am (x.L.map FE.t) := by
  have hr := h.row
  cases hL : x.L with
  | nil => exact .nil _ _
  | cons e0 L0 =>
    have hL' : x.L.length = L0.length + 1 := by rw [hL]; simp
    rw [hL'] at hr
    obtain ⟨g, c, e, _, _, hgl⟩ := own_slot hr
    have ea : x.am = some ⟨g, 0, none⟩ := (Value.slice.inj e).1
    have hb : (Value.slice x.am x.L.length x.cm).ownBlock = some g := by rw [ea]; rfl
    rw [ea, ← hL]
    refine owns_row hgl (.inl hb) (by omega) (fun i hi => ?_) (fun j => by have := h.row; rw [ea] at this; exact this.frozenAt j) (fun d hd => ⟨(h.el d hd).1, (h.el d hd).2.1, (h.el d hd).2.2.1, fun k hk => ⟨.inr ⟨d, hd, hk⟩, fun q => h.ap g hb d hd (q ▸ hk)⟩⟩) h.dis
    have hrow := h.row
    rw [ea] at hrow
    obtain ⟨c0, c1, c2⟩ := cs3_cells (l := x.L.map FE.cells) (k := i) (by simp) (by simpa using hi) hrow
    simp only [List.getElem_map, FE.cells] at c0 c1 c2
    exact ⟨c0, c1, c2⟩

/-- What sort.Slice finds. -/
theorem MR.ko {n0 B g kb : Nat} {x : FM} {w W : World} (h : MR n0 B x w) (hb : Below w.heap.size w W) (ha : x.am = some ⟨g, 0, none⟩) (hk : W.cell? ⟨kb, 0, none⟩ = some (.slice (some ⟨g, 0, none⟩) x.L.length x.L.length)) (hp : ∀ e ∈ x.L, partsT e.t ≤ 4194304) : KO g kb W.heap.size x.L.length x.L.toArray W := by
  have hrow := h.row
  rw [ha] at hrow
  have hgl := (hrow.lt g rfl).2
  have hr := own_on hrow hb
  refine ⟨fun t ht => ?_, by simp, fun i hi => ?_, fun j => hr.frozenAt j, hk, Nat.le_refl _⟩
  · have ht' : t < x.L.length * 3 := by simpa using ht
    refine ⟨?_, hr.frozenAt _⟩
    rw [Nat.zero_add, hr.cellAt t (by omega), cs3_at x.L t ht']
    have e1 := get_flatK encE 3 x.L.toArray t (by simpa using ht')
    rw [e1]; rfl
  · have e1 : x.L.toArray[i]! = x.L[i] := by simp [hi]
    rw [e1]
    have hm : x.L[i] ∈ x.L := List.getElem_mem hi
    have he := h.el _ hm
    refine ⟨he.1.frame (fun k hk => hb.block k (he.2.2.2 k hk).2) hb.size, he.2.1, hp _ hm, fun k hk => ⟨fun q => h.ap g (by rw [ha]; rfl) _ hm (q ▸ hk), Nat.lt_of_lt_of_le (he.2.2.2 k hk).2 hb.size⟩⟩

/-- What sort.Slice leaves. -/
theorem KO.owns {g kb base n : Nat} {d d0 : Array FE} {W : World} {S : Nat → Prop} (h : KO g kb base n d W) (hg : g < W.heap.size) (hn : n ≤ 4194304) (hp : d.toList.Perm d0.toList) (hS : S g) (h0 : ∀ e ∈ d0.toList, (isW e.t.f ∧ isW e.t.v) ∧ ∀ k, e.K k → S k) (hd : d0.toList.Pairwise fun e d => ∀ k, e.K k → ¬ d.K k) : OwnS W S (some ⟨g, 0, none⟩) (d.toList.map FE.t) := by
  have hsz := h.sz
  refine owns_row hg hS (by simp; omega) (fun i hi => ?_) h.fr (fun e he => ?_) ((hp.pairwise_iff (fun hxy z hz hz' => hxy z hz' hz)).2 hd)
  · have hi' : i < d.size := by simpa using hi
    have c0 := (h.h.cell (i := i) (c := 0) hi' (by omega)).1
    have c1 := (h.h.cell (i := i) (c := 1) hi' (by omega)).1
    have c2 := (h.h.cell (i := i) (c := 2) hi' (by omega)).1
    have e1 : d[i]! = d.toList[i] := by simp [hi']
    rw [e1] at c0 c1 c2
    simp only [encE, List.getElem!_cons_zero, List.getElem!_cons_succ, Nat.zero_add, Nat.add_zero] at c0 c1 c2
    exact ⟨c0, c1, c2⟩
  · obtain ⟨i, hi, e1⟩ := List.getElem_of_mem he
    have hi' : i < d.size := by simpa using hi
    have e2 : d[i]! = e := by rw [← e1]; simp [hi']
    have o := h.own i (by omega)
    rw [e2] at o
    have m := h0 e (hp.subset he)
    exact ⟨o.1, o.2.1, m.1, fun k hk => ⟨m.2 k hk, (o.2.2.2 k hk).1⟩⟩

/-- The answer's three cells, stored behind all else. -/
theorem fin3 {n : Nat} {w W' : World} {S : Nat → Prop} {a : Option Addr} {ts : List TermD} {u v s : Value} (ho : OwnS W' S a ts) (hS : ∀ k, S k → k < n) (hst : Stay (fun k => ¬ S k) w W') (hw : n ≤ w.heap.size) :
    OwnS (((W'.setCell ⟨n + 1, 0, none⟩ u).setCell ⟨n + 1, 1, none⟩ v).setCell ⟨n + 1, 2, none⟩ s) S a ts ∧ Stay (fun k => k < n ∧ ¬ S k) w (((W'.setCell ⟨n + 1, 0, none⟩ u).setCell ⟨n + 1, 1, none⟩ v).setCell ⟨n + 1, 2, none⟩ s) := by
  have hn : ∀ j, ¬ S (⟨n + 1, j, none⟩ : Addr).block := fun j hk => by have := hS _ hk; simp only at this; omega
  have _ := hw
  exact ⟨((ho.setCell ⟨n + 1, 0, none⟩ (hn 0) u).setCell ⟨n + 1, 1, none⟩ (hn 1) v).setCell ⟨n + 1, 2, none⟩ (hn 2) s,
    (((hst.weak (fun _ _ hk => hk.2)).trans (.setCell _ _ (fun hk => by have := hk.1; simp only at this; omega))).trans (.setCell _ _ (fun hk => by have := hk.1; simp only at this; omega))).trans (.setCell _ _ (fun hk => by have := hk.1; simp only at this; omega))⟩

set_option maxHeartbeats 1600000 in
theorem closed_plain (sa : Option Addr) (ss : List SymD) (sc n0 B h : Nat) (x : FM) (w : World) (hs : RdS w sa ss) (M : MR n0 B x w) (hl : x.L.length ≤ 4194304) (hbl : blindAt ss x.t.f = false) :
    Calls Try.prog 39 #[.agg #[.int .i64 x.t.f, .int .i64 x.t.v, .slice x.a x.t.kids.length x.c, .slice x.al x.left.length x.cl, .slice x.am x.L.length x.cm, .int .i64 h], .slice sa ss.length sc] w fun e w' => e = .returned (.agg #[.int .i64 x.t.f, .int .i64 x.t.v, .slice x.am x.L.length x.L.length]) ∧ OwnS w' x.S x.am (x.L.map FE.t) ∧ Stay (fun k => k < w.heap.size ∧ ¬ x.S k) w w' := by
  obtain ⟨W, hW⟩ : ∃ W, W = ((w.alloc (.cells #[.int .i64 x.t.f, .int .i64 x.t.v, .slice x.a x.t.kids.length x.c, .slice x.al x.left.length x.cl, .slice x.am x.L.length x.cm, .int .i64 h] 59)).alloc (.cells #[.int .i64 0, .int .i64 0, .slice none 0 0] 27)).alloc (.cells #[.slice x.am x.L.length x.L.length] 25) := ⟨_, rfl⟩
  have hB0 : Below w.heap.size w W := by rw [hW]; exact (((Below.refl _ _).alloc (Nat.le_refl _) _).alloc (by simp) _).alloc (by simp; omega) _
  have hz : W.heap.size = w.heap.size + 1 + 1 + 1 := by rw [hW]; simp
  have p0 : W.cell? ⟨w.heap.size, 0, none⟩ = some (.int .i64 x.t.f) := by rw [hW]; simp [go_sem]
  have p1 : W.cell? ⟨w.heap.size, 1, none⟩ = some (.int .i64 x.t.v) := by rw [hW]; simp [go_sem]
  have r0 : W.cell? ⟨w.heap.size + 1, 0, none⟩ = some (.int .i64 0) := by rw [hW]; simp [go_sem]
  have r1 : W.cell? ⟨w.heap.size + 1, 1, none⟩ = some (.int .i64 0) := by rw [hW]; simp [go_sem]
  have r2 : W.cell? ⟨w.heap.size + 1, 2, none⟩ = some (.slice none 0 0) := by rw [hW]; simp [go_sem]
  have fr : ∀ j, W.frozen? ⟨w.heap.size + 1, j, none⟩ = false := fun j => by rw [hW]; simp [go_sem]
  have q0 : W.cell? ⟨w.heap.size + 1 + 1, 0, none⟩ = some (.slice x.am x.L.length x.L.length) := by rw [hW]; simp [go_sem]
  have CB := impBlind_any sa ss ss.length sc x.t.f W rfl (hs.below hB0)
  have hcm : x.L.length ≤ x.cm := by obtain ⟨_, _, e, hh⟩ := own_form M.row; rw [(Value.slice.inj e).2.2]; exact hh
  have hcmz : (x.L.length : Int) ≤ (x.cm : Int) := by omega
  rw [hbl] at CB
  have HO : Hid (∀ W', Below w.heap.size w W' → OwnS W' x.S x.am (x.L.map FE.t)) := fun W' hb => (M.owns hl).frame (fun k hk => hb.block k (M.lt k hk).2) hb.size
  clear hs M hbl r0 r1 r2 fr
  generalize x.L.length = n at *
  generalize x.am = am at *
  go_enter Try.func39, Try.ntmps39
  go_wp2_with (go_at_call 15; rw [← hW]; refine CB.mono ?_; rintro e w1 ⟨rfl, hw1⟩; subst w1)
  refine bodyPost_ret (v := .agg #[.int .i64 x.t.f, .int .i64 x.t.v, .slice am n n]) (by simp [results, Try.results39, go_sem]) rfl ?_
  have hb : ∀ o1 o2 o3, Below w.heap.size w (((w.alloc o1).alloc o2).alloc o3) := fun o1 o2 o3 => (((Below.refl _ _).alloc (Nat.le_refl _) o1).alloc (by simp) o2).alloc (by simp; omega) o3
  exact ⟨rfl, HO.out _ (hb _ _ _), .of_below (hb _ _ _) (fun _ hk _ => hk)⟩

theorem perm_one {a : List TermD} (h : a.length ≤ 1) : sortT a = a := by
  match a, h with
  | [], _ => rfl
  | [x], _ => simp [sortT, putT]
  | _ :: _ :: _, h => simp at h

set_option maxHeartbeats 1600000 in
theorem closed_blind (sa : Option Addr) (ss : List SymD) (sc n0 B h : Nat) (x : FM) (w : World) (hs : RdS w sa ss) (M : MR n0 B x w) (hl : x.L.length ≤ 4194304) (hp : ∀ e ∈ x.L, partsT e.t ≤ 4194304) (hbl : blindAt ss x.t.f = true) :
    Calls Try.prog 39 #[.agg #[.int .i64 x.t.f, .int .i64 x.t.v, .slice x.a x.t.kids.length x.c, .slice x.al x.left.length x.cl, .slice x.am x.L.length x.cm, .int .i64 h], .slice sa ss.length sc] w fun e w' => e = .returned (.agg #[.int .i64 x.t.f, .int .i64 x.t.v, .slice x.am x.L.length x.L.length]) ∧ OwnS w' x.S x.am (sortT (x.L.map FE.t)) ∧ Stay (fun k => k < w.heap.size ∧ ¬ x.S k) w w' := by
  obtain ⟨W, hW⟩ : ∃ W, W = ((w.alloc (.cells #[.int .i64 x.t.f, .int .i64 x.t.v, .slice x.a x.t.kids.length x.c, .slice x.al x.left.length x.cl, .slice x.am x.L.length x.cm, .int .i64 h] 59)).alloc (.cells #[.int .i64 0, .int .i64 0, .slice none 0 0] 27)).alloc (.cells #[.slice x.am x.L.length x.L.length] 25) := ⟨_, rfl⟩
  have hB0 : Below w.heap.size w W := by rw [hW]; exact (((Below.refl _ _).alloc (Nat.le_refl _) _).alloc (by simp) _).alloc (by simp; omega) _
  have hz : W.heap.size = w.heap.size + 1 + 1 + 1 := by rw [hW]; simp
  have p0 : W.cell? ⟨w.heap.size, 0, none⟩ = some (.int .i64 x.t.f) := by rw [hW]; simp [go_sem]
  have p1 : W.cell? ⟨w.heap.size, 1, none⟩ = some (.int .i64 x.t.v) := by rw [hW]; simp [go_sem]
  have r0 : W.cell? ⟨w.heap.size + 1, 0, none⟩ = some (.int .i64 0) := by rw [hW]; simp [go_sem]
  have r1 : W.cell? ⟨w.heap.size + 1, 1, none⟩ = some (.int .i64 0) := by rw [hW]; simp [go_sem]
  have r2 : W.cell? ⟨w.heap.size + 1, 2, none⟩ = some (.slice none 0 0) := by rw [hW]; simp [go_sem]
  have fr : ∀ j, W.frozen? ⟨w.heap.size + 1, j, none⟩ = false := fun j => by rw [hW]; simp [go_sem]
  have q0 : W.cell? ⟨w.heap.size + 1 + 1, 0, none⟩ = some (.slice x.am x.L.length x.L.length) := by rw [hW]; simp [go_sem]
  have CB := impBlind_any sa ss ss.length sc x.t.f W rfl (hs.below hB0)
  have hcm : x.L.length ≤ x.cm := by obtain ⟨_, _, e, hh⟩ := own_form M.row; rw [(Value.slice.inj e).2.2]; exact hh
  have hcmz : (x.L.length : Int) ≤ (x.cm : Int) := by omega
  rw [hbl] at CB
  have hMlt : ∀ k, x.S k → k < w.heap.size := fun k hk => (M.lt k hk).2
  have CS : Calls Try.prog 74 #[.iface 25 (.slice x.am x.L.length x.L.length), .func (.func 75) #[] #[.pointer (some ⟨w.heap.size + 1 + 1, 0, none⟩)]] W fun e W' => e = .returned (.tuple #[]) ∧ OwnS W' x.S x.am (sortT (x.L.map FE.t)) ∧ Stay (fun k => ¬ x.S k) W W' := by
    by_cases h2 : 2 ≤ x.L.length
    · obtain ⟨m, hm⟩ : ∃ m, x.L.length = m + 1 := ⟨x.L.length - 1, by omega⟩
      have hr := M.row
      rw [hm] at hr
      obtain ⟨g, c, e, _, _, hgl⟩ := own_slot hr
      have ea : x.am = some ⟨g, 0, none⟩ := (Value.slice.inj e).1
      have hgS : x.S g := .inl (by rw [ea]; rfl)
      have ko := M.ko hB0 ea (by rw [← ea]; exact q0) hp
      have hgW : g < W.heap.size := by omega
      rw [ea]
      refine (sortKids_any (base := W.heap.size) hgW (by omega) (by omega) (by omega) h2 x.L.toArray W ko).mono ?_
      rintro e W' ⟨rfl, d', k', pp, ps, hst⟩
      refine ⟨rfl, ?_, hst.weak (fun k _ hk q => hk (q ▸ hgS))⟩
      have ho := k'.owns (S := x.S) (Nat.lt_of_lt_of_le hgW hst.size) hl pp hgS (fun e he => ⟨(M.el e (by simpa using he)).2.2.1, fun k hk => .inr ⟨e, by simpa using he, hk⟩⟩) (by simpa using M.dis)
      have e1 : d'.toList.map FE.t = sortT (x.L.map FE.t) := sortT_eq (by simpa using pp.map FE.t) ps
      rw [← e1]; exact ho
    · have hone : sortT (x.L.map FE.t) = x.L.map FE.t := perm_one (by simp; omega)
      rw [hone]
      have ho := (M.owns hl).frame (fun k hk => hB0.block k (M.lt k hk).2) hB0.size
      have tiny : ∀ f, Try.prog.funcs.findIdx? (·.name == "internal/reflectlite" ++ ".Swapper$" ++ toString (Lib.swapperK x.L.length svE 25)) = some f → Calls Try.prog 74 #[.iface 25 (.slice x.am x.L.length x.L.length), .func (.func 75) #[] #[.pointer (some ⟨w.heap.size + 1 + 1, 0, none⟩)]] W fun e W' => e = .returned (.tuple #[]) ∧ OwnS W' x.S x.am (x.L.map FE.t) ∧ Stay (fun k => ¬ x.S k) W W' := fun f hf => by
        refine (Any.sort_Slice_tiny Try.laysGg6 25 27 svT svE (by kernel_rfl) (by kernel_rfl) (by kernel_rfl) (by kernel_rfl) 25 (fun _ => by kernel_rfl) x.am x.L.length x.L.length (by omega) f hf (.func 75) #[] #[.pointer (some ⟨w.heap.size + 1 + 1, 0, none⟩)] W).mono ?_
        rintro e W' ⟨rfl, os, rfl⟩
        have hb : Below W.heap.size W (grow W os) := ⟨rfl, rfl, rfl, by rw [size_grow]; omega, fun k hk => by show (W.heap ++ os)[k]? = W.heap[k]?; rw [Array.getElem?_append_left hk]⟩
        exact ⟨rfl, ho.frame (fun k hk => hb.block k (Nat.lt_of_lt_of_le (M.lt k hk).2 hB0.size)) hb.size, .of_below hb (fun _ hk _ => hk)⟩
      by_cases h0 : x.L.length = 0
      · exact tiny 114 (by rw [h0]; kernel_rfl)
      · have h1 : x.L.length = 1 := by omega
        exact tiny 115 (by rw [h1]; kernel_rfl)
  have HS : Hid (∀ k, x.S k → k < w.heap.size) := hMlt
  have HBW : Hid (Below w.heap.size w W) := hB0
  clear hs M hbl hMlt hp
  generalize x.L.length = n at *
  generalize x.am = am at *
  generalize sortT (x.L.map FE.t) = ts at *
  have hNS : ∀ k, w.heap.size ≤ k → ¬ x.S k := fun k hk q => by have := HS.out k q; omega
  have n0' := hNS w.heap.size (Nat.le_refl _)
  have n1' := hNS (w.heap.size + 1) (by omega)
  have n2' := hNS (w.heap.size + 1 + 1) (by omega)
  clear hNS
  go_enter Try.func39, Try.ntmps39
  go_wp2_with (first
    | (go_at_call 15; rw [← hW]; refine CB.mono ?_; rintro e w1 ⟨rfl, hw1⟩; subst w1; clear hW)
    | (go_at_call 74; refine CS.mono ?_; rintro e W' ⟨rfl, ho, hst⟩; have P0 := hst.cell p0 n0'; have P1 := hst.cell p1 n0'; have R0 := hst.cell r0 n1'; have R1 := hst.cell r1 n1'; have R2 := hst.cell r2 n1'; have Q0 := hst.cell q0 n2'; have FR : ∀ j, W'.frozen? ⟨w.heap.size + 1, j, none⟩ = false := (fun j => (hst.frozen (p := ⟨w.heap.size + 1, j, none⟩) (by rw [hz]; show w.heap.size + 1 < _; omega) n1').trans (fr j)); clear p0 p1 r0 r1 r2 q0 fr CS))
  obtain ⟨z0, z1, z2⟩ := set3_cells (u := W') (r := w.heap.size + 1) (x := .int .i64 x.t.f) (y := .int .i64 x.t.v) (z := .slice am n n) R0 R1 R2
  obtain ⟨fo, fs⟩ := fin3 (u := .int .i64 x.t.f) (v := .int .i64 x.t.v) (s := .slice am n n) ho HS.out ((Stay.of_below HBW.out (fun _ hk _ => hk)).trans hst) (Nat.le_refl _)
  exact bodyPost_ret (v := .agg #[.int .i64 x.t.f, .int .i64 x.t.v, .slice am n n]) (by simp [results, Try.results39, go_sem, z0, z1, z2]) rfl ⟨rfl, fo, fs⟩
end Go.Proofs.Ytkjlldbgooogdaa

