/- What the proof of FnExactOriented stands on, part 4 of 13: each piece says what it proves and under which conditions. Conditions: as each piece says. -/
import Derived.Test.YtollijngiioonaaGreatPackExactOriented3
import Derived.Sort.WalkA
import Derived.Shelf.Small.Bits
import Derived.Shelf.Small.Wraps
import Derived.Shelf.Strconv.Itoa0
import Derived.Shelf.Sort.Plain
import Derived.Ground.GgsProg
import Derived.Shelf.GgSortFunc.Tiny
import Derived.Ground.Names2Prog
import Derived.Shelf.Slices.CompactI
import Derived.Shelf.Slices.Cells
import Derived.Shelf.Slices.In.SortNone
import Derived.Shelf.SlSortFunc.Xorshift
import Derived.Test.YtollijngiioonaaGreatProg
import Derived.Sort.Walk7
import Derived.Deep.LoopGhost
import Derived.Sort.Walk13
import Derived.Deep.RegionHeld3
/- sort.partialInsertionSort_func, by a comparison that may lay blocks. Conditions: rows of less than 2^62 elements. -/
namespace Go.Proofs.YtollijngiioonaaGreat
set_option maxRecDepth 100000
open Go.RowKit Go.Sort

variable {α : Type} [Inhabited α]
variable {g : Nat} {lb : Array Value} {sf : Nat} {sb : Array Value} {lt : α → α → Bool} {n blk base : Nat} {I : Array α → World → Prop}

theorem pIns_succ (lt : α → α → Bool) (a b t i : Nat) (d : Array α) : partialIns lt a b (t + 1) i d = if scanSorted lt d b i = b then (d, true) else if b - a < 50 then (d, false) else partialIns lt a b t (scanSorted lt d b i) (if b - scanSorted lt d b i ≥ 2 then shiftUp lt b (scanSorted lt d b i + 1) (if scanSorted lt d b i - a ≥ 2 then shiftDown lt (scanSorted lt d b i - 1) (swp d (scanSorted lt d b i) (scanSorted lt d b i - 1)) else swp d (scanSorted lt d b i) (scanSorted lt d b i - 1)) else (if scanSorted lt d b i - a ≥ 2 then shiftDown lt (scanSorted lt d b i - 1) (swp d (scanSorted lt d b i) (scanSorted lt d b i - 1)) else swp d (scanSorted lt d b i) (scanSorted lt d b i - 1))) := rfl

set_option maxHeartbeats 4000000 in
theorem partialIns_any (E : SEnv g lb sf sb lt n blk base I) (a b : Nat) (d : Array α) (w : World) (h : I d w) (hab : a < b) (hb : b ≤ n) :
    Calls Tryz.prog 184 #[.agg #[.func (.func g) #[] lb, .func (.func sf) #[] sb], .int .i64 a, .int .i64 b] w fun e w' => e = .returned (.bool (partialInsertionSort lt d a b).2) ∧ I (partialInsertionSort lt d a b).1 w' ∧ Stay (fun k => k ≠ blk) w w' := by
  have eg := E.eg
  have hbig := E.big
  have HB : Hid (w.heap.size ≠ blk) := by have := E.lt _ _ h; have := E.bb; show _ ≠ _; omega
  have HE : Hid (SEnv g lb sf sb lt n blk base I) := E
  have S0 := SSt.start E h 200
  clear E h
  go_enter Tryz.func184, Tryz.ntmps184
  go_wp2
  go_loopw [7, 8] (fun vi vs wr => ∃ (i s : Nat) (dk : Array α), vi = .int .i64 i ∧ vs = .int .i64 s ∧ s ≤ 5 ∧ a < i ∧ i ≤ b ∧ SSt blk I w w.heap.size g lb sf sb dk wr ∧ Hid (partialIns lt a b (5 - s) i dk = partialInsertionSort lt d a b)) (fun _ vs _ => 5 - (intOf vs).toNat)
  case atStart => exact ⟨a + 1, 0, d, by go_num, rfl, by omega, by omega, by omega, S0, rfl⟩
  case round =>
    obtain ⟨i, s, dk, rfl, rfl, hs5, hai, hib, S, HS⟩ := hrel
    clear S0
    by_cases hs : s < 5
    · have hsz : (s : Int) < 5 := by omega
      obtain ⟨t, ht⟩ : ∃ t, 5 - s = t + 1 := ⟨4 - s, by omega⟩
      have HS1 : Hid (partialIns lt a b (t + 1) i dk = partialInsertionSort lt d a b) := by have := HS.out; rw [ht] at this; exact this
      have htt : t = 4 - s := by omega
      clear ht HS
      go_wp2
      go_loopw [7] (fun vi w1 => ∃ i1 : Nat, vi = .int .i64 i1 ∧ i ≤ i1 ∧ i1 ≤ b ∧ SSt blk I w w.heap.size g lb sf sb dk w1 ∧ Hid (scanSorted lt dk b i1 = scanSorted lt dk b i)) (fun vi _ => b - (intOf vi).toNat)
      case atStart => exact ⟨i, rfl, Nat.le_refl _, hib, S, rfl⟩
      case round =>
        obtain ⟨i1, rfl, h1, h2, S1, HC⟩ := hrel
        have c0 := S1.c0
        have c1 := S1.c1
        by_cases hlt : i1 < b
        · have hltz : (i1 : Int) < (b : Int) := by omega
          have hi1w : IntKind.i64.wrap ((i1 : Int) - 1) = (i1 : Int) - 1 := by rw [IntKind.wrap_i64]; omega
          cases hv : lt dk[i1]! dk[i1 - 1]! with
          | false =>
            have hl := HE.out.lessV dk i1 (i1 - 1) i1 ((i1 : Int) - 1) false hv rfl (by omega) (by omega) (by omega) _ S1.i
            have HC2 : Hid (scanSorted lt dk b (i1 + 1) = scanSorted lt dk b i) := by have := HC.out; rw [scanSorted] at this; simp only [hlt, hv, decide_true, Bool.not_false, Bool.and_self, if_true] at this; exact this
            go_wp2_with (go_at_fn g; refine hl.mono ?_; rintro e w4 ⟨rfl, hI4, hS4⟩; have S4 := S1.step HB.out hI4 hS4; clear hl)
            go_roundw
            case rel =>
              first
                | exact ⟨i1 + 1, by go_num, by omega, by omega, S4, HC2⟩
                | ((repeat apply Exists.intro); refine ⟨?_, rfl⟩; exact ⟨i1 + 1, by go_num, by omega, by omega, S4, HC2⟩)
            case measure => simp [intOf] <;> omega
          | true =>
            have hl := HE.out.lessV dk i1 (i1 - 1) i1 ((i1 : Int) - 1) true hv rfl (by omega) (by omega) (by omega) _ S1.i
            have HC3 : Hid (scanSorted lt dk b i = i1) := by have := HC.out; rw [scanSorted] at this; simp only [hv, Bool.not_true, Bool.and_false, Bool.false_eq_true, if_false] at this; exact this.symm
            have hne : ((i1 : Int) == (b : Int)) = false := by simp; omega
            by_cases h50 : b - a < 50
            · have h50z : (b : Int) - (a : Int) < 50 := by omega
              have HX : Hid (partialInsertionSort lt d a b = (dk, false)) := by show _ = _; rw [← HS1.out, pIns_succ, HC3.out, if_neg (by omega), if_pos h50]
              go_wp2_with (go_at_fn g; refine hl.mono ?_; rintro e w4 ⟨rfl, hI4, hS4⟩; have S4 := S1.step HB.out hI4 hS4; clear hl)
              go_ret
              exact ⟨by rw [HX.out]; rfl, by rw [HX.out]; exact S4.i, S4.st⟩
            · have h50z : ¬ (b : Int) - (a : Int) < 50 := by omega
              have HQ0 : Hid (partialIns lt a b t i1 (if b - i1 ≥ 2 then shiftUp lt b (i1 + 1) (if i1 - a ≥ 2 then shiftDown lt (i1 - 1) (swp dk i1 (i1 - 1)) else swp dk i1 (i1 - 1)) else (if i1 - a ≥ 2 then shiftDown lt (i1 - 1) (swp dk i1 (i1 - 1)) else swp dk i1 (i1 - 1))) = partialInsertionSort lt d a b) := by have := HS1.out; rw [pIns_succ, HC3.out, if_neg (by omega), if_neg h50] at this; exact this
              by_cases hl2 : 2 ≤ i1 - a
              · have hl2z : (2 : Int) ≤ (i1 : Int) - (a : Int) := by omega
                have HL : Hid (partialIns lt a b t i1 (if b - i1 ≥ 2 then shiftUp lt b (i1 + 1) (shiftDown lt (i1 - 1) (swp dk i1 (i1 - 1))) else shiftDown lt (i1 - 1) (swp dk i1 (i1 - 1))) = partialInsertionSort lt d a b) := by have := HQ0.out; rw [if_pos hl2] at this; exact this
                go_wp2_with (go_at_fn g; refine hl.mono ?_; rintro e w4 ⟨rfl, hI4, hS4⟩; have S4 := S1.step HB.out hI4 hS4; have m0 := S4.c0; have m1 := S4.c1; obtain ⟨W5, hrun, hI5, hS5⟩ := HE.out.swapI dk w4 i1 (i1 - 1) i1 ((i1 : Int) - 1) rfl (by omega) S4.i (by omega) (by omega); have S5 := S4.step HB.out hI5 hS5; clear hl)
                go_loopw [9] (fun vj w2 => ∃ (jd : Nat) (dd : Array α), vj = .int .i64 jd ∧ jd ≤ i1 - 1 ∧ SSt blk I w w.heap.size g lb sf sb dd w2 ∧ Hid (shiftDown lt jd dd = shiftDown lt (i1 - 1) (swp dk i1 (i1 - 1)))) (fun vj _ => (intOf vj).toNat)
                case atStart => exact ⟨i1 - 1, _, by congr 1 <;> omega, Nat.le_refl _, S5, rfl⟩
                case round =>
                  obtain ⟨jd, dd, rfl, q1, SD, HD⟩ := hrel
                  have u0 := SD.c0
                  have u1 := SD.c1
                  cases jd with
                  | zero =>
                    have HQ : Hid (partialIns lt a b t i1 (if b - i1 ≥ 2 then shiftUp lt b (i1 + 1) dd else dd) = partialInsertionSort lt d a b) := by have := HL.out; rw [← HD.out] at this; exact this
                    by_cases hr2 : 2 ≤ b - i1
                    · have hr2z : (2 : Int) ≤ (b : Int) - (i1 : Int) := by omega
                      have HQ2 : Hid (partialIns lt a b t i1 (shiftUp lt b (i1 + 1) dd) = partialInsertionSort lt d a b) := by have := HQ.out; rw [if_pos hr2] at this; exact this
                      go_wp2
                      go_loopw [10] (fun vj w2 => ∃ (ju : Nat) (du : Array α), vj = .int .i64 ju ∧ i1 + 1 ≤ ju ∧ ju ≤ b ∧ SSt blk I w w.heap.size g lb sf sb du w2 ∧ Hid (shiftUp lt b ju du = shiftUp lt b (i1 + 1) dd)) (fun vj _ => b - (intOf vj).toNat)
                      case atStart => exact ⟨i1 + 1, _, by go_num, Nat.le_refl _, by omega, SD, rfl⟩
                      case round =>
                        obtain ⟨ju, du, rfl, q1, q2, SU, HU⟩ := hrel
                        have u0 := SU.c0
                        have u1 := SU.c1
                        by_cases hjb : ju < b
                        · have hjbz : (ju : Int) < (b : Int) := by omega
                          cases hvu : lt du[ju]! du[ju - 1]! with
                          | true =>
                            have hl := HE.out.lessV du ju (ju - 1) ju ((ju : Int) - 1) true hvu rfl (by omega) (by omega) (by omega) _ SU.i
                            have HU2 : Hid (shiftUp lt b (ju + 1) (swp du ju (ju - 1)) = shiftUp lt b (i1 + 1) dd) := by have := HU.out; rw [shiftUp, if_pos hjb, hvu] at this; exact this
                            go_wp2_with (go_at_fn g; refine hl.mono ?_; rintro e w6 ⟨rfl, hI6, hS6⟩; have S6 := SU.step HB.out hI6 hS6; have x0 := S6.c0; have x1 := S6.c1; obtain ⟨W7, hrun7, hI7, hS7⟩ := HE.out.swapI du w6 ju (ju - 1) ju ((ju : Int) - 1) rfl (by omega) S6.i (by omega) (by omega); have S7 := S6.step HB.out hI7 hS7; clear hl)
                            go_roundw
                            case rel =>
                              first
                                | exact ⟨ju + 1, swp du ju (ju - 1), by go_num, by omega, by omega, S7, HU2⟩
                                | ((repeat apply Exists.intro); refine ⟨?_, rfl⟩; exact ⟨ju + 1, swp du ju (ju - 1), by go_num, by omega, by omega, S7, HU2⟩)
                            case measure => simp [intOf] <;> omega
                          | false =>
                            have hl := HE.out.lessV du ju (ju - 1) ju ((ju : Int) - 1) false hvu rfl (by omega) (by omega) (by omega) _ SU.i
                            have HF : Hid (partialIns lt a b t i1 du = partialInsertionSort lt d a b) := by have := HQ2.out; rw [← HU.out, shiftUp, if_pos hjb, hvu] at this; exact this
                            go_wp2_with (go_at_fn g; refine hl.mono ?_; rintro e w6 ⟨rfl, hI6, hS6⟩; have S6 := SU.step HB.out hI6 hS6; clear hl)
                            go_roundw
                            case rel =>
                              first
                                | exact ⟨i1, s + 1, du, rfl, by go_num, by omega, by omega, by omega, S6, by rw [show 5 - (s + 1) = t by omega]; exact HF⟩
                                | ((repeat apply Exists.intro); refine ⟨?_, rfl⟩; exact ⟨i1, s + 1, du, rfl, by go_num, by omega, by omega, by omega, S6, by rw [show 5 - (s + 1) = t by omega]; exact HF⟩)
                            case measure => simp [intOf] <;> omega
                        · have hjbz : ¬ (ju : Int) < (b : Int) := by omega
                          have HF : Hid (partialIns lt a b t i1 du = partialInsertionSort lt d a b) := by have := HQ2.out; rw [← HU.out, shiftUp, if_neg hjb] at this; exact this
                          go_wp2
                          go_roundw
                          case rel =>
                            first
                              | exact ⟨i1, s + 1, du, rfl, by go_num, by omega, by omega, by omega, SU, by rw [show 5 - (s + 1) = t by omega]; exact HF⟩
                              | ((repeat apply Exists.intro); refine ⟨?_, rfl⟩; exact ⟨i1, s + 1, du, rfl, by go_num, by omega, by omega, by omega, SU, by rw [show 5 - (s + 1) = t by omega]; exact HF⟩)
                          case measure => simp [intOf] <;> omega
                    · have hr2z : ¬ (2 : Int) ≤ (b : Int) - (i1 : Int) := by omega
                      have HF : Hid (partialIns lt a b t i1 dd = partialInsertionSort lt d a b) := by have := HQ.out; rw [if_neg hr2] at this; exact this
                      go_wp2
                      go_roundw
                      case rel =>
                        first
                          | exact ⟨i1, s + 1, dd, rfl, by go_num, by omega, by omega, by omega, SD, by rw [show 5 - (s + 1) = t by omega]; exact HF⟩
                          | ((repeat apply Exists.intro); refine ⟨?_, rfl⟩; exact ⟨i1, s + 1, dd, rfl, by go_num, by omega, by omega, by omega, SD, by rw [show 5 - (s + 1) = t by omega]; exact HF⟩)
                      case measure => simp [intOf] <;> omega
                  | succ jd =>
                    simp only [show ((jd + 1 : Nat) : Int) = (jd : Int) + 1 by omega]
                    have hjz : (1 : Int) ≤ (jd : Int) + 1 := by omega
                    have hjw : IntKind.i64.wrap ((jd : Int) + 1 - 1) = (jd : Int) := by rw [IntKind.wrap_i64]; omega
                    cases hvd : lt dd[jd + 1]! dd[jd]! with
                    | true =>
                      have hl := HE.out.lessV dd (jd + 1) jd ((jd : Int) + 1) (jd : Int) true hvd (by omega) rfl (by omega) (by omega) _ SD.i
                      have HD2 : Hid (shiftDown lt jd (swp dd (jd + 1) jd) = shiftDown lt (i1 - 1) (swp dk i1 (i1 - 1))) := by have := HD.out; rw [shiftDown, hvd] at this; exact this
                      go_wp2_with (go_at_fn g; refine hl.mono ?_; rintro e w6 ⟨rfl, hI6, hS6⟩; have S6 := SD.step HB.out hI6 hS6; have x0 := S6.c0; have x1 := S6.c1; obtain ⟨W7, hrun7, hI7, hS7⟩ := HE.out.swapI dd w6 (jd + 1) jd ((jd : Int) + 1) (jd : Int) (by omega) rfl S6.i (by omega) (by omega); have S7 := S6.step HB.out hI7 hS7; clear hl)
                      go_roundw
                      case rel =>
                        first
                          | exact ⟨jd, swp dd (jd + 1) jd, by first | rfl | (congr 1 <;> omega), by omega, S7, HD2⟩
                          | ((repeat apply Exists.intro); refine ⟨?_, rfl⟩; exact ⟨jd, swp dd (jd + 1) jd, by first | rfl | (congr 1 <;> omega), by omega, S7, HD2⟩)
                      case measure => simp [intOf] <;> omega
                    | false =>
                      have hl := HE.out.lessV dd (jd + 1) jd ((jd : Int) + 1) (jd : Int) false hvd (by omega) rfl (by omega) (by omega) _ SD.i
                      have e1 : Hid (shiftDown lt (jd + 1) dd = dd) := by show _ = _; rw [shiftDown, hvd]; rfl
                      have HQ : Hid (partialIns lt a b t i1 (if b - i1 ≥ 2 then shiftUp lt b (i1 + 1) dd else dd) = partialInsertionSort lt d a b) := by have := HL.out; rw [← HD.out, e1.out] at this; exact this
                      by_cases hr2 : 2 ≤ b - i1
                      · have hr2z : (2 : Int) ≤ (b : Int) - (i1 : Int) := by omega
                        have HQ2 : Hid (partialIns lt a b t i1 (shiftUp lt b (i1 + 1) dd) = partialInsertionSort lt d a b) := by have := HQ.out; rw [if_pos hr2] at this; exact this
                        go_wp2_with (go_at_fn g; refine hl.mono ?_; rintro e w6 ⟨rfl, hI6, hS6⟩; have S6 := SD.step HB.out hI6 hS6; clear hl)
                        go_loopw [10] (fun vj w2 => ∃ (ju : Nat) (du : Array α), vj = .int .i64 ju ∧ i1 + 1 ≤ ju ∧ ju ≤ b ∧ SSt blk I w w.heap.size g lb sf sb du w2 ∧ Hid (shiftUp lt b ju du = shiftUp lt b (i1 + 1) dd)) (fun vj _ => b - (intOf vj).toNat)
                        case atStart => exact ⟨i1 + 1, _, by go_num, Nat.le_refl _, by omega, S6, rfl⟩
                        case round =>
                          obtain ⟨ju, du, rfl, q1, q2, SU, HU⟩ := hrel
                          have u0 := SU.c0
                          have u1 := SU.c1
                          by_cases hjb : ju < b
                          · have hjbz : (ju : Int) < (b : Int) := by omega
                            cases hvu : lt du[ju]! du[ju - 1]! with
                            | true =>
                              have hl := HE.out.lessV du ju (ju - 1) ju ((ju : Int) - 1) true hvu rfl (by omega) (by omega) (by omega) _ SU.i
                              have HU2 : Hid (shiftUp lt b (ju + 1) (swp du ju (ju - 1)) = shiftUp lt b (i1 + 1) dd) := by have := HU.out; rw [shiftUp, if_pos hjb, hvu] at this; exact this
                              go_wp2_with (go_at_fn g; refine hl.mono ?_; rintro e w6 ⟨rfl, hI6, hS6⟩; have S6 := SU.step HB.out hI6 hS6; have x0 := S6.c0; have x1 := S6.c1; obtain ⟨W7, hrun7, hI7, hS7⟩ := HE.out.swapI du w6 ju (ju - 1) ju ((ju : Int) - 1) rfl (by omega) S6.i (by omega) (by omega); have S7 := S6.step HB.out hI7 hS7; clear hl)
                              go_roundw
                              case rel =>
                                first
                                  | exact ⟨ju + 1, swp du ju (ju - 1), by go_num, by omega, by omega, S7, HU2⟩
                                  | ((repeat apply Exists.intro); refine ⟨?_, rfl⟩; exact ⟨ju + 1, swp du ju (ju - 1), by go_num, by omega, by omega, S7, HU2⟩)
                              case measure => simp [intOf] <;> omega
                            | false =>
                              have hl := HE.out.lessV du ju (ju - 1) ju ((ju : Int) - 1) false hvu rfl (by omega) (by omega) (by omega) _ SU.i
                              have HF : Hid (partialIns lt a b t i1 du = partialInsertionSort lt d a b) := by have := HQ2.out; rw [← HU.out, shiftUp, if_pos hjb, hvu] at this; exact this
                              go_wp2_with (go_at_fn g; refine hl.mono ?_; rintro e w6 ⟨rfl, hI6, hS6⟩; have S6 := SU.step HB.out hI6 hS6; clear hl)
                              go_roundw
                              case rel =>
                                first
                                  | exact ⟨i1, s + 1, du, rfl, by go_num, by omega, by omega, by omega, S6, by rw [show 5 - (s + 1) = t by omega]; exact HF⟩
                                  | ((repeat apply Exists.intro); refine ⟨?_, rfl⟩; exact ⟨i1, s + 1, du, rfl, by go_num, by omega, by omega, by omega, S6, by rw [show 5 - (s + 1) = t by omega]; exact HF⟩)
                              case measure => simp [intOf] <;> omega
                          · have hjbz : ¬ (ju : Int) < (b : Int) := by omega
                            have HF : Hid (partialIns lt a b t i1 du = partialInsertionSort lt d a b) := by have := HQ2.out; rw [← HU.out, shiftUp, if_neg hjb] at this; exact this
                            go_wp2
                            go_roundw
                            case rel =>
                              first
                                | exact ⟨i1, s + 1, du, rfl, by go_num, by omega, by omega, by omega, SU, by rw [show 5 - (s + 1) = t by omega]; exact HF⟩
                                | ((repeat apply Exists.intro); refine ⟨?_, rfl⟩; exact ⟨i1, s + 1, du, rfl, by go_num, by omega, by omega, by omega, SU, by rw [show 5 - (s + 1) = t by omega]; exact HF⟩)
                            case measure => simp [intOf] <;> omega
                      · have hr2z : ¬ (2 : Int) ≤ (b : Int) - (i1 : Int) := by omega
                        have HF : Hid (partialIns lt a b t i1 dd = partialInsertionSort lt d a b) := by have := HQ.out; rw [if_neg hr2] at this; exact this
                        go_wp2_with (go_at_fn g; refine hl.mono ?_; rintro e w6 ⟨rfl, hI6, hS6⟩; have S6 := SD.step HB.out hI6 hS6; clear hl)
                        go_roundw
                        case rel =>
                          first
                            | exact ⟨i1, s + 1, dd, rfl, by go_num, by omega, by omega, by omega, S6, by rw [show 5 - (s + 1) = t by omega]; exact HF⟩
                            | ((repeat apply Exists.intro); refine ⟨?_, rfl⟩; exact ⟨i1, s + 1, dd, rfl, by go_num, by omega, by omega, by omega, S6, by rw [show 5 - (s + 1) = t by omega]; exact HF⟩)
                        case measure => simp [intOf] <;> omega
              · have hl2z : ¬ (2 : Int) ≤ (i1 : Int) - (a : Int) := by omega
                have HQ : Hid (partialIns lt a b t i1 (if b - i1 ≥ 2 then shiftUp lt b (i1 + 1) (swp dk i1 (i1 - 1)) else swp dk i1 (i1 - 1)) = partialInsertionSort lt d a b) := by have := HQ0.out; rw [if_neg hl2] at this; exact this
                by_cases hr2 : 2 ≤ b - i1
                · have hr2z : (2 : Int) ≤ (b : Int) - (i1 : Int) := by omega
                  have HQ2 : Hid (partialIns lt a b t i1 (shiftUp lt b (i1 + 1) (swp dk i1 (i1 - 1))) = partialInsertionSort lt d a b) := by have := HQ.out; rw [if_pos hr2] at this; exact this
                  go_wp2_with (go_at_fn g; refine hl.mono ?_; rintro e w4 ⟨rfl, hI4, hS4⟩; have S4 := S1.step HB.out hI4 hS4; have m0 := S4.c0; have m1 := S4.c1; obtain ⟨W5, hrun, hI5, hS5⟩ := HE.out.swapI dk w4 i1 (i1 - 1) i1 ((i1 : Int) - 1) rfl (by omega) S4.i (by omega) (by omega); have S5 := S4.step HB.out hI5 hS5; clear hl)
                  go_loopw [10] (fun vj w2 => ∃ (ju : Nat) (du : Array α), vj = .int .i64 ju ∧ i1 + 1 ≤ ju ∧ ju ≤ b ∧ SSt blk I w w.heap.size g lb sf sb du w2 ∧ Hid (shiftUp lt b ju du = shiftUp lt b (i1 + 1) (swp dk i1 (i1 - 1)))) (fun vj _ => b - (intOf vj).toNat)
                  case atStart => exact ⟨i1 + 1, _, by go_num, Nat.le_refl _, by omega, S5, rfl⟩
                  case round =>
                    obtain ⟨ju, du, rfl, q1, q2, SU, HU⟩ := hrel
                    have u0 := SU.c0
                    have u1 := SU.c1
                    by_cases hjb : ju < b
                    · have hjbz : (ju : Int) < (b : Int) := by omega
                      cases hvu : lt du[ju]! du[ju - 1]! with
                      | true =>
                        have hl := HE.out.lessV du ju (ju - 1) ju ((ju : Int) - 1) true hvu rfl (by omega) (by omega) (by omega) _ SU.i
                        have HU2 : Hid (shiftUp lt b (ju + 1) (swp du ju (ju - 1)) = shiftUp lt b (i1 + 1) (swp dk i1 (i1 - 1))) := by have := HU.out; rw [shiftUp, if_pos hjb, hvu] at this; exact this
                        go_wp2_with (go_at_fn g; refine hl.mono ?_; rintro e w6 ⟨rfl, hI6, hS6⟩; have S6 := SU.step HB.out hI6 hS6; have x0 := S6.c0; have x1 := S6.c1; obtain ⟨W7, hrun7, hI7, hS7⟩ := HE.out.swapI du w6 ju (ju - 1) ju ((ju : Int) - 1) rfl (by omega) S6.i (by omega) (by omega); have S7 := S6.step HB.out hI7 hS7; clear hl)
                        go_roundw
                        case rel =>
                          first
                            | exact ⟨ju + 1, swp du ju (ju - 1), by go_num, by omega, by omega, S7, HU2⟩
                            | ((repeat apply Exists.intro); refine ⟨?_, rfl⟩; exact ⟨ju + 1, swp du ju (ju - 1), by go_num, by omega, by omega, S7, HU2⟩)
                        case measure => simp [intOf] <;> omega
                      | false =>
                        have hl := HE.out.lessV du ju (ju - 1) ju ((ju : Int) - 1) false hvu rfl (by omega) (by omega) (by omega) _ SU.i
                        have HF : Hid (partialIns lt a b t i1 du = partialInsertionSort lt d a b) := by have := HQ2.out; rw [← HU.out, shiftUp, if_pos hjb, hvu] at this; exact this
                        go_wp2_with (go_at_fn g; refine hl.mono ?_; rintro e w6 ⟨rfl, hI6, hS6⟩; have S6 := SU.step HB.out hI6 hS6; clear hl)
                        go_roundw
                        case rel =>
                          first
                            | exact ⟨i1, s + 1, du, rfl, by go_num, by omega, by omega, by omega, S6, by rw [show 5 - (s + 1) = t by omega]; exact HF⟩
                            | ((repeat apply Exists.intro); refine ⟨?_, rfl⟩; exact ⟨i1, s + 1, du, rfl, by go_num, by omega, by omega, by omega, S6, by rw [show 5 - (s + 1) = t by omega]; exact HF⟩)
                        case measure => simp [intOf] <;> omega
                    · have hjbz : ¬ (ju : Int) < (b : Int) := by omega
                      have HF : Hid (partialIns lt a b t i1 du = partialInsertionSort lt d a b) := by have := HQ2.out; rw [← HU.out, shiftUp, if_neg hjb] at this; exact this
                      go_wp2
                      go_roundw
                      case rel =>
                        first
                          | exact ⟨i1, s + 1, du, rfl, by go_num, by omega, by omega, by omega, SU, by rw [show 5 - (s + 1) = t by omega]; exact HF⟩
                          | ((repeat apply Exists.intro); refine ⟨?_, rfl⟩; exact ⟨i1, s + 1, du, rfl, by go_num, by omega, by omega, by omega, SU, by rw [show 5 - (s + 1) = t by omega]; exact HF⟩)
                      case measure => simp [intOf] <;> omega
                · exfalso; omega
        · have hltz : ¬ (i1 : Int) < (b : Int) := by omega
          have HX : Hid (partialInsertionSort lt d a b = (dk, true)) := by show _ = _; rw [← HS1.out, pIns_succ, ← HC.out, scanSorted]; simp [hlt]; omega
          have heq : ((i1 : Int) == (b : Int)) = true := by simp; omega
          go_wp2
          go_ret
          exact ⟨by rw [HX.out]; rfl, by rw [HX.out]; exact S1.i, S1.st⟩
    · have hsz : ¬ (s : Int) < 5 := by omega
      have HX : Hid (partialInsertionSort lt d a b = (dk, false)) := by show _ = _; rw [← HS.out, show 5 - s = 0 by omega]; rfl
      go_wp2
      go_ret
      exact ⟨by rw [HX.out]; rfl, by rw [HX.out]; exact S.i, S.st⟩
end Go.Proofs.YtollijngiioonaaGreat

/- Draws leave all that lies in memory. Conditions: none. -/
namespace Go.Proofs.YtollijngiioonaaGreat
set_option maxRecDepth 100000
open Go.RowKit

theorem stay_drewN (S : Nat → Prop) (w : World) (k : Nat) : Stay S w (w.drewN k) := ⟨rfl, rfl, rfl, Nat.le_refl _, fun _ _ _ => rfl⟩
theorem below_drewsX (B : Nat) (w : World) (k : Nat) : Below B w (w.drewN k) := ⟨rfl, rfl, rfl, Nat.le_refl _, fun _ _ => rfl⟩
end Go.Proofs.YtollijngiioonaaGreat

/- The library's contracts for slices.Sort, slices.Compact, sort.Slice and what they call, laid at this program by the kit's own tool, in plain words. Conditions: as each says. -/
namespace Go.Proofs
open Go.Shelf
def Tryz.lays128_ren : Go.Shelf.Ren := ⟨fun | 128 => 168 | n => n, fun | 51 => 210 | 3 => 3 | 4 => 4 | 46 => 185 | 5 => 5 | 9 => 9 | n => n, fun | n => n⟩
theorem Tryz.lays128 : Go.Proofs.Lays.n128 Tryz.prog Tryz.lays128_ren := {
  mixed := by kernel_rfl
  f128 := Tryz.func168.trans (congrArg some (by kernel_rfl))
  t3 := Tryz.underlying3
  a3 := Tryz.isAgg3
  z3 := Tryz.sizeOf3
  v3 := Tryz.zeroValue3
  t4 := Tryz.underlying4
  a4 := Tryz.isAgg4
  z4 := Tryz.sizeOf4
  v4 := Tryz.zeroValue4
  t5 := Tryz.underlying5
  a5 := Tryz.isAgg5
  z5 := Tryz.sizeOf5
  v5 := Tryz.zeroValue5
  t9 := Tryz.underlying9
  a9 := Tryz.isAgg9
  z9 := Tryz.sizeOf9
  v9 := Tryz.zeroValue9
  t46 := Tryz.underlying185
  a46 := Tryz.isAgg185
  z46 := Tryz.sizeOf185
  v46 := Tryz.zeroValue185
  t51 := Tryz.underlying210
  a51 := Tryz.isAgg210
  z51 := Tryz.sizeOf210
  v51 := Tryz.zeroValue210 }
theorem Tryz.bits_Len32 (x : Int) (w : World) (h0 : 0 ≤ x) (h1 : x ≤ 4294967295) :
    Calls Tryz.prog 168 #[.int .u32 x] w fun e w' => e = .returned (.int .i64 (Lib.bitLen x.toNat)) ∧ w' = w := Any.bits_Len32 Tryz.lays128 x w h0 h1
def Tryz.lays125_ren : Go.Shelf.Ren := ⟨fun | 125 => 150 | 128 => 168 | 129 => 169 | n => n, fun | 46 => 185 | 3 => 3 | 51 => 210 | 53 => 212 | 4 => 4 | 5 => 5 | 9 => 9 | n => n, fun | n => n⟩
theorem Tryz.lays125 : Go.Proofs.Lays.n125 Tryz.prog Tryz.lays125_ren := {
  mixed := by kernel_rfl
  f125 := Tryz.func150.trans (congrArg some (by kernel_rfl))
  f128 := Tryz.func168.trans (congrArg some (by kernel_rfl))
  f129 := Tryz.func169.trans (congrArg some (by kernel_rfl))
  t3 := Tryz.underlying3
  a3 := Tryz.isAgg3
  z3 := Tryz.sizeOf3
  v3 := Tryz.zeroValue3
  t4 := Tryz.underlying4
  a4 := Tryz.isAgg4
  z4 := Tryz.sizeOf4
  v4 := Tryz.zeroValue4
  t5 := Tryz.underlying5
  a5 := Tryz.isAgg5
  z5 := Tryz.sizeOf5
  v5 := Tryz.zeroValue5
  t9 := Tryz.underlying9
  a9 := Tryz.isAgg9
  z9 := Tryz.sizeOf9
  v9 := Tryz.zeroValue9
  t46 := Tryz.underlying185
  a46 := Tryz.isAgg185
  z46 := Tryz.sizeOf185
  v46 := Tryz.zeroValue185
  t51 := Tryz.underlying210
  a51 := Tryz.isAgg210
  z51 := Tryz.sizeOf210
  v51 := Tryz.zeroValue210
  t53 := Tryz.underlying212
  a53 := Tryz.isAgg212
  z53 := Tryz.sizeOf212
  v53 := Tryz.zeroValue212 }
theorem Tryz.bits_Len (x : Int) (w : World) (h0 : 0 ≤ x) (h1 : x ≤ 18446744073709551615) :
    Calls Tryz.prog 150 #[.int .u64 x] w fun e w' => e = .returned (.int .i64 (Lib.bitLen x.toNat)) ∧ w' = w := Any.bits_Len Tryz.lays125 x w h0 h1
def Tryz.lays215_ren : Go.Shelf.Ren := ⟨fun | 215 => 137 | n => n, fun | 3 => 3 | 4 => 4 | n => n, fun | n => n⟩
theorem Tryz.lays215 : Go.Proofs.Lays.n215 Tryz.prog Tryz.lays215_ren := {
  mixed := by kernel_rfl
  f215 := Tryz.func137.trans (congrArg some (by kernel_rfl))
  t3 := Tryz.underlying3
  a3 := Tryz.isAgg3
  z3 := Tryz.sizeOf3
  v3 := Tryz.zeroValue3
  t4 := Tryz.underlying4
  a4 := Tryz.isAgg4
  z4 := Tryz.sizeOf4
  v4 := Tryz.zeroValue4 }
open Go.RowKit in
theorem Tryz.cmp_isNaN_int (x : Int) (w : World) :
    Calls Tryz.prog 137 #[.int .i64 x] w fun e w' => e = .returned (.bool false) ∧ w' = w := Any.cmp_isNaN_int Tryz.lays215 x w
def Tryz.lays122_ren : Go.Shelf.Ren := ⟨fun | 122 => 97 | 215 => 137 | n => n, fun | 3 => 3 | 4 => 4 | n => n, fun | n => n⟩
theorem Tryz.lays122 : Go.Proofs.Lays.n122 Tryz.prog Tryz.lays122_ren := {
  mixed := by kernel_rfl
  f122 := Tryz.func97.trans (congrArg some (by kernel_rfl))
  f215 := Tryz.func137.trans (congrArg some (by kernel_rfl))
  t3 := Tryz.underlying3
  a3 := Tryz.isAgg3
  z3 := Tryz.sizeOf3
  v3 := Tryz.zeroValue3
  t4 := Tryz.underlying4
  a4 := Tryz.isAgg4
  z4 := Tryz.sizeOf4
  v4 := Tryz.zeroValue4 }
open Go.RowKit in
theorem Tryz.cmp_Compare_int (x y : Int) (w : World) :
    Calls Tryz.prog 97 #[.int .i64 x, .int .i64 y] w fun e w' => e = .returned (.int .i64 (Lib.compareInt x y)) ∧ w' = w := Any.cmp_Compare_int Tryz.lays122 x y w
def Tryz.lays129_ren : Go.Shelf.Ren := ⟨fun | 129 => 169 | n => n, fun | 53 => 212 | 3 => 3 | 4 => 4 | 46 => 185 | 5 => 5 | 9 => 9 | n => n, fun | n => n⟩
theorem Tryz.lays129 : Go.Proofs.Lays.n129 Tryz.prog Tryz.lays129_ren := {
  mixed := by kernel_rfl
  f129 := Tryz.func169.trans (congrArg some (by kernel_rfl))
  t3 := Tryz.underlying3
  a3 := Tryz.isAgg3
  z3 := Tryz.sizeOf3
  v3 := Tryz.zeroValue3
  t4 := Tryz.underlying4
  a4 := Tryz.isAgg4
  z4 := Tryz.sizeOf4
  v4 := Tryz.zeroValue4
  t5 := Tryz.underlying5
  a5 := Tryz.isAgg5
  z5 := Tryz.sizeOf5
  v5 := Tryz.zeroValue5
  t9 := Tryz.underlying9
  a9 := Tryz.isAgg9
  z9 := Tryz.sizeOf9
  v9 := Tryz.zeroValue9
  t46 := Tryz.underlying185
  a46 := Tryz.isAgg185
  z46 := Tryz.sizeOf185
  v46 := Tryz.zeroValue185
  t53 := Tryz.underlying212
  a53 := Tryz.isAgg212
  z53 := Tryz.sizeOf212
  v53 := Tryz.zeroValue212 }
theorem Tryz.bits_Len64 (x : Int) (w : World) (h0 : 0 ≤ x) (h1 : x ≤ 18446744073709551615) :
    Calls Tryz.prog 169 #[.int .u64 x] w fun e w' => e = .returned (.int .i64 (Lib.bitLen x.toNat)) ∧ w' = w := Any.bits_Len64 Tryz.lays129 x w h0 h1
def Tryz.lays189_ren : Go.Shelf.Ren := ⟨fun | 189 => 135 | 125 => 150 | 257 => 149 | 128 => 168 | 129 => 169 | 294 => 159 | 295 => 160 | 296 => 161 | 297 => 162 | 298 => 163 | 299 => 164 | 216 => 165 | 300 => 166 | 301 => 167 | 328 => 187 | 329 => 188 | 330 => 189 | 331 => 190 | 332 => 191 | 215 => 137 | 343 => 197 | n => n, fun | 28 => 81 | 3 => 3 | 46 => 185 | 0 => 0 | 51 => 210 | 53 => 212 | 4 => 4 | 183 => 204 | 182 => 203 | 131 => 119 | 5 => 5 | 9 => 9 | 218 => 223 | 222 => 227 | 228 => 232 | 229 => 233 | n => n, fun | n => n⟩
theorem Tryz.lays189 : Go.Proofs.Lays.n189 Tryz.prog Tryz.lays189_ren := {
  mixed := by kernel_rfl
  f125 := Tryz.func150.trans (congrArg some (by kernel_rfl))
  f128 := Tryz.func168.trans (congrArg some (by kernel_rfl))
  f129 := Tryz.func169.trans (congrArg some (by kernel_rfl))
  f189 := Tryz.func135.trans (congrArg some (by kernel_rfl))
  f215 := Tryz.func137.trans (congrArg some (by kernel_rfl))
  f216 := Tryz.func165.trans (congrArg some (by kernel_rfl))
  f257 := Tryz.func149.trans (congrArg some (by kernel_rfl))
  f294 := Tryz.func159.trans (congrArg some (by kernel_rfl))
  f295 := Tryz.func160.trans (congrArg some (by kernel_rfl))
  f296 := Tryz.func161.trans (congrArg some (by kernel_rfl))
  f297 := Tryz.func162.trans (congrArg some (by kernel_rfl))
  f298 := Tryz.func163.trans (congrArg some (by kernel_rfl))
  f299 := Tryz.func164.trans (congrArg some (by kernel_rfl))
  f300 := Tryz.func166.trans (congrArg some (by kernel_rfl))
  f301 := Tryz.func167.trans (congrArg some (by kernel_rfl))
  f328 := Tryz.func187.trans (congrArg some (by kernel_rfl))
  f329 := Tryz.func188.trans (congrArg some (by kernel_rfl))
  f330 := Tryz.func189.trans (congrArg some (by kernel_rfl))
  f331 := Tryz.func190.trans (congrArg some (by kernel_rfl))
  f332 := Tryz.func191.trans (congrArg some (by kernel_rfl))
  f343 := Tryz.func197.trans (congrArg some (by kernel_rfl))
  t0 := Tryz.underlying0
  a0 := Tryz.isAgg0
  z0 := Tryz.sizeOf0
  v0 := Tryz.zeroValue0
  t3 := Tryz.underlying3
  a3 := Tryz.isAgg3
  z3 := Tryz.sizeOf3
  v3 := Tryz.zeroValue3
  t4 := Tryz.underlying4
  a4 := Tryz.isAgg4
  z4 := Tryz.sizeOf4
  v4 := Tryz.zeroValue4
  t5 := Tryz.underlying5
  a5 := Tryz.isAgg5
  z5 := Tryz.sizeOf5
  v5 := Tryz.zeroValue5
  t9 := Tryz.underlying9
  a9 := Tryz.isAgg9
  z9 := Tryz.sizeOf9
  v9 := Tryz.zeroValue9
  t28 := Tryz.underlying81
  a28 := Tryz.isAgg81
  z28 := Tryz.sizeOf81
  v28 := Tryz.zeroValue81
  t46 := Tryz.underlying185
  a46 := Tryz.isAgg185
  z46 := Tryz.sizeOf185
  v46 := Tryz.zeroValue185
  t51 := Tryz.underlying210
  a51 := Tryz.isAgg210
  z51 := Tryz.sizeOf210
  v51 := Tryz.zeroValue210
  t53 := Tryz.underlying212
  a53 := Tryz.isAgg212
  z53 := Tryz.sizeOf212
  v53 := Tryz.zeroValue212
  t131 := Tryz.underlying119
  a131 := Tryz.isAgg119
  z131 := Tryz.sizeOf119
  v131 := Tryz.zeroValue119
  t182 := Tryz.underlying203
  a182 := Tryz.isAgg203
  z182 := Tryz.sizeOf203
  v182 := Tryz.zeroValue203
  t183 := Tryz.underlying204
  a183 := Tryz.isAgg204
  z183 := Tryz.sizeOf204
  v183 := Tryz.zeroValue204
  t218 := Tryz.underlying223
  a218 := Tryz.isAgg223
  z218 := Tryz.sizeOf223
  v218 := Tryz.zeroValue223
  t222 := Tryz.underlying227
  a222 := Tryz.isAgg227
  z222 := Tryz.sizeOf227
  v222 := Tryz.zeroValue227
  t228 := Tryz.underlying232
  a228 := Tryz.isAgg232
  z228 := Tryz.sizeOf232
  v228 := Tryz.zeroValue232
  t229 := Tryz.underlying233
  a229 := Tryz.isAgg233
  z229 := Tryz.sizeOf233
  v229 := Tryz.zeroValue233 }
open Go.Sort Go.RowKit in
theorem Tryz.slices_Sort_int (blk off cap : Nat) (zs : List Int) (w : World) (hH : Holds (Value.int .i64) w blk off zs.toArray) (hblk : blk < w.heap.size) (hsz : zs.length < 4611686018427387904) :
    Calls Tryz.prog 135 #[.slice (some ⟨blk, off, none⟩) zs.length cap] w fun e w' =>
      e = .returned (.tuple #[]) ∧ ∃ n os, w' = grow (putRow (Value.int .i64) (Sort.ahead w n) blk off (zs.mergeSort fun x y => decide (x ≤ y)).toArray) os := Any.slices_Sort_int Tryz.lays189 blk off cap zs w hH hblk hsz
def Tryz.laysGg26_ren : Go.Shelf.Ren := ⟨fun | 26 => 179 | n => n, fun | 44 => 200 | 3 => 3 | 0 => 0 | 4 => 4 | 26 => 178 | 37 => 195 | n => n, fun | n => n⟩
theorem Tryz.laysGg26 : Go.Proofs.LaysGg.n26 Tryz.prog Tryz.laysGg26_ren := {
  mixed := by kernel_rfl
  f26 := Tryz.func179.trans (congrArg some (by kernel_rfl))
  t0 := Tryz.underlying0
  a0 := Tryz.isAgg0
  z0 := Tryz.sizeOf0
  v0 := Tryz.zeroValue0
  i0 := by kernel_rfl
  t3 := Tryz.underlying3
  a3 := Tryz.isAgg3
  z3 := Tryz.sizeOf3
  v3 := Tryz.zeroValue3
  i3 := by kernel_rfl
  t4 := Tryz.underlying4
  a4 := Tryz.isAgg4
  z4 := Tryz.sizeOf4
  v4 := Tryz.zeroValue4
  i4 := by kernel_rfl
  t26 := Tryz.underlying178
  a26 := Tryz.isAgg178
  z26 := Tryz.sizeOf178
  v26 := Tryz.zeroValue178
  i26 := by kernel_rfl
  t37 := Tryz.underlying195
  a37 := Tryz.isAgg195
  z37 := Tryz.sizeOf195
  v37 := Tryz.zeroValue195
  i37 := by kernel_rfl
  t44 := Tryz.underlying200
  a44 := Tryz.isAgg200
  z44 := Tryz.sizeOf200
  v44 := Tryz.zeroValue200
  i44 := by kernel_rfl }
open Go.RowKit Go.Lib Go.Sort in
theorem Tryz.insertionSort_func_none (lf : Fn) (la lb : Array Value) (f : Nat) (sb : Array Value) (a b : Nat) (h : b ≤ a + 1) (ha : a < 4611686018427387904) (w : World) :
    Calls Tryz.prog 179 #[.agg #[.func lf la lb, .func (.func f) #[] sb], .int .i64 a, .int .i64 b] w fun e w' => e = .returned (.tuple #[]) ∧ w' = w.alloc (.cells #[.func lf la lb, .func (.func f) #[] sb] 200) := Any.insertionSort_func_none Tryz.laysGg26 lf la lb f sb a b h ha w
def Tryz.laysGg14_ren : Go.Shelf.Ren := ⟨fun | 14 => 157 | 26 => 179 | 27 => 180 | 28 => 181 | 29 => 182 | 30 => 183 | 31 => 184 | 32 => 185 | 33 => 186 | 34 => 192 | 35 => 193 | 36 => 194 | 37 => 195 | 38 => 196 | 13 => 150 | 39 => 198 | 24 => 168 | 25 => 169 | n => n, fun | 44 => 200 | 3 => 3 | 0 => 0 | 4 => 4 | 54 => 218 | 53 => 217 | 26 => 178 | 58 => 119 | 37 => 195 | 60 => 229 | 41 => 185 | 51 => 212 | 64 => 227 | 66 => 235 | 67 => 233 | 49 => 210 | 5 => 5 | 9 => 9 | n => n, fun | n => n⟩
theorem Tryz.laysGg14 : Go.Proofs.LaysGg.n14 Tryz.prog Tryz.laysGg14_ren := {
  mixed := by kernel_rfl
  f13 := Tryz.func150.trans (congrArg some (by kernel_rfl))
  f14 := Tryz.func157.trans (congrArg some (by kernel_rfl))
  f24 := Tryz.func168.trans (congrArg some (by kernel_rfl))
  f25 := Tryz.func169.trans (congrArg some (by kernel_rfl))
  f26 := Tryz.func179.trans (congrArg some (by kernel_rfl))
  f27 := Tryz.func180.trans (congrArg some (by kernel_rfl))
  f28 := Tryz.func181.trans (congrArg some (by kernel_rfl))
  f29 := Tryz.func182.trans (congrArg some (by kernel_rfl))
  f30 := Tryz.func183.trans (congrArg some (by kernel_rfl))
  f31 := Tryz.func184.trans (congrArg some (by kernel_rfl))
  f32 := Tryz.func185.trans (congrArg some (by kernel_rfl))
  f33 := Tryz.func186.trans (congrArg some (by kernel_rfl))
  f34 := Tryz.func192.trans (congrArg some (by kernel_rfl))
  f35 := Tryz.func193.trans (congrArg some (by kernel_rfl))
  f36 := Tryz.func194.trans (congrArg some (by kernel_rfl))
  f37 := Tryz.func195.trans (congrArg some (by kernel_rfl))
  f38 := Tryz.func196.trans (congrArg some (by kernel_rfl))
  f39 := Tryz.func198.trans (congrArg some (by kernel_rfl))
  t0 := Tryz.underlying0
  a0 := Tryz.isAgg0
  z0 := Tryz.sizeOf0
  v0 := Tryz.zeroValue0
  i0 := by kernel_rfl
  t3 := Tryz.underlying3
  a3 := Tryz.isAgg3
  z3 := Tryz.sizeOf3
  v3 := Tryz.zeroValue3
  i3 := by kernel_rfl
  t4 := Tryz.underlying4
  a4 := Tryz.isAgg4
  z4 := Tryz.sizeOf4
  v4 := Tryz.zeroValue4
  i4 := by kernel_rfl
  t5 := Tryz.underlying5
  a5 := Tryz.isAgg5
  z5 := Tryz.sizeOf5
  v5 := Tryz.zeroValue5
  i5 := by kernel_rfl
  t9 := Tryz.underlying9
  a9 := Tryz.isAgg9
  z9 := Tryz.sizeOf9
  v9 := Tryz.zeroValue9
  i9 := by kernel_rfl
  t26 := Tryz.underlying178
  a26 := Tryz.isAgg178
  z26 := Tryz.sizeOf178
  v26 := Tryz.zeroValue178
  i26 := by kernel_rfl
  t37 := Tryz.underlying195
  a37 := Tryz.isAgg195
  z37 := Tryz.sizeOf195
  v37 := Tryz.zeroValue195
  i37 := by kernel_rfl
  t41 := Tryz.underlying185
  a41 := Tryz.isAgg185
  z41 := Tryz.sizeOf185
  v41 := Tryz.zeroValue185
  i41 := by kernel_rfl
  t44 := Tryz.underlying200
  a44 := Tryz.isAgg200
  z44 := Tryz.sizeOf200
  v44 := Tryz.zeroValue200
  i44 := by kernel_rfl
  t49 := Tryz.underlying210
  a49 := Tryz.isAgg210
  z49 := Tryz.sizeOf210
  v49 := Tryz.zeroValue210
  i49 := by kernel_rfl
  t51 := Tryz.underlying212
  a51 := Tryz.isAgg212
  z51 := Tryz.sizeOf212
  v51 := Tryz.zeroValue212
  i51 := by kernel_rfl
  t53 := Tryz.underlying217
  a53 := Tryz.isAgg217
  z53 := Tryz.sizeOf217
  v53 := Tryz.zeroValue217
  i53 := by kernel_rfl
  t54 := Tryz.underlying218
  a54 := Tryz.isAgg218
  z54 := Tryz.sizeOf218
  v54 := Tryz.zeroValue218
  i54 := by kernel_rfl
  t58 := Tryz.underlying119
  a58 := Tryz.isAgg119
  z58 := Tryz.sizeOf119
  v58 := Tryz.zeroValue119
  i58 := by kernel_rfl
  t60 := Tryz.underlying229
  a60 := Tryz.isAgg229
  z60 := Tryz.sizeOf229
  v60 := Tryz.zeroValue229
  i60 := by kernel_rfl
  t64 := Tryz.underlying227
  a64 := Tryz.isAgg227
  z64 := Tryz.sizeOf227
  v64 := Tryz.zeroValue227
  i64 := by kernel_rfl
  t66 := Tryz.underlying235
  a66 := Tryz.isAgg235
  z66 := Tryz.sizeOf235
  v66 := Tryz.zeroValue235
  i66 := by kernel_rfl
  t67 := Tryz.underlying233
  a67 := Tryz.isAgg233
  z67 := Tryz.sizeOf233
  v67 := Tryz.zeroValue233
  i67 := by kernel_rfl }
open Go.RowKit Go.Lib Go.Sort in
theorem Tryz.pdqsort_func_tiny (lf : Fn) (la lb : Array Value) (f : Nat) (sb : Array Value) (n : Nat) (h : n ≤ 1) (lim : Int) (w : World) :
    Calls Tryz.prog 157 #[.agg #[.func lf la lb, .func (.func f) #[] sb], .int .i64 0, .int .i64 n, .int .i64 lim] w fun e w' => e = .returned (.tuple #[]) ∧ w' = (w.alloc (.cells #[.func lf la lb, .func (.func f) #[] sb] 200)).alloc (.cells #[.func lf la lb, .func (.func f) #[] sb] 200) := Any.pdqsort_func_tiny Tryz.laysGg14 lf la lb f sb n h lim w
def Tryz.laysGg6_ren : Go.Shelf.Ren := ⟨fun | 6 => 144 | 10 => 154 | 11 => 155 | 12 => 156 | 13 => 150 | 14 => 157 | 24 => 168 | 25 => 169 | 26 => 179 | 27 => 180 | 28 => 181 | 29 => 182 | 30 => 183 | 31 => 184 | 32 => 185 | 33 => 186 | 34 => 192 | 35 => 193 | 36 => 194 | 37 => 195 | 38 => 196 | 39 => 198 | n => n, fun | 20 => 20 | 26 => 178 | 35 => 193 | 0 => 0 | 37 => 195 | 3 => 3 | 41 => 185 | 44 => 200 | 49 => 210 | 51 => 212 | 4 => 4 | 54 => 218 | 53 => 217 | 58 => 119 | 5 => 5 | 9 => 9 | 60 => 229 | 64 => 227 | 66 => 235 | 67 => 233 | 17 => 17 | 32 => 190 | 33 => 191 | 82 => 248 | 12 => 12 | 75 => 242 | 76 => 243 | 77 => 244 | 78 => 184 | 79 => 245 | 80 => 246 | n => n, fun | n => n⟩
theorem Tryz.laysGg6 : Go.Proofs.LaysGg.n6 Tryz.prog Tryz.laysGg6_ren := {
  mixed := by kernel_rfl
  f6 := Tryz.func144.trans (congrArg some (by kernel_rfl))
  f10 := Tryz.func154.trans (congrArg some (by kernel_rfl))
  f11 := Tryz.func155.trans (congrArg some (by kernel_rfl))
  f12 := Tryz.func156.trans (congrArg some (by kernel_rfl))
  f13 := Tryz.func150.trans (congrArg some (by kernel_rfl))
  f14 := Tryz.func157.trans (congrArg some (by kernel_rfl))
  f24 := Tryz.func168.trans (congrArg some (by kernel_rfl))
  f25 := Tryz.func169.trans (congrArg some (by kernel_rfl))
  f26 := Tryz.func179.trans (congrArg some (by kernel_rfl))
  f27 := Tryz.func180.trans (congrArg some (by kernel_rfl))
  f28 := Tryz.func181.trans (congrArg some (by kernel_rfl))
  f29 := Tryz.func182.trans (congrArg some (by kernel_rfl))
  f30 := Tryz.func183.trans (congrArg some (by kernel_rfl))
  f31 := Tryz.func184.trans (congrArg some (by kernel_rfl))
  f32 := Tryz.func185.trans (congrArg some (by kernel_rfl))
  f33 := Tryz.func186.trans (congrArg some (by kernel_rfl))
  f34 := Tryz.func192.trans (congrArg some (by kernel_rfl))
  f35 := Tryz.func193.trans (congrArg some (by kernel_rfl))
  f36 := Tryz.func194.trans (congrArg some (by kernel_rfl))
  f37 := Tryz.func195.trans (congrArg some (by kernel_rfl))
  f38 := Tryz.func196.trans (congrArg some (by kernel_rfl))
  f39 := Tryz.func198.trans (congrArg some (by kernel_rfl))
  t0 := Tryz.underlying0
  a0 := Tryz.isAgg0
  z0 := Tryz.sizeOf0
  v0 := Tryz.zeroValue0
  i0 := by kernel_rfl
  t3 := Tryz.underlying3
  a3 := Tryz.isAgg3
  z3 := Tryz.sizeOf3
  v3 := Tryz.zeroValue3
  i3 := by kernel_rfl
  t4 := Tryz.underlying4
  a4 := Tryz.isAgg4
  z4 := Tryz.sizeOf4
  v4 := Tryz.zeroValue4
  i4 := by kernel_rfl
  t5 := Tryz.underlying5
  a5 := Tryz.isAgg5
  z5 := Tryz.sizeOf5
  v5 := Tryz.zeroValue5
  i5 := by kernel_rfl
  t9 := Tryz.underlying9
  a9 := Tryz.isAgg9
  z9 := Tryz.sizeOf9
  v9 := Tryz.zeroValue9
  i9 := by kernel_rfl
  t12 := Tryz.underlying12
  a12 := Tryz.isAgg12
  z12 := Tryz.sizeOf12
  v12 := Tryz.zeroValue12
  i12 := by kernel_rfl
  t17 := Tryz.underlying17
  a17 := Tryz.isAgg17
  z17 := Tryz.sizeOf17
  v17 := Tryz.zeroValue17
  i17 := by kernel_rfl
  t20 := Tryz.underlying20
  a20 := Tryz.isAgg20
  z20 := Tryz.sizeOf20
  v20 := Tryz.zeroValue20
  i20 := by kernel_rfl
  t26 := Tryz.underlying178
  a26 := Tryz.isAgg178
  z26 := Tryz.sizeOf178
  v26 := Tryz.zeroValue178
  i26 := by kernel_rfl
  t32 := Tryz.underlying190
  a32 := Tryz.isAgg190
  z32 := Tryz.sizeOf190
  v32 := Tryz.zeroValue190
  i32 := by kernel_rfl
  t33 := Tryz.underlying191
  a33 := Tryz.isAgg191
  z33 := Tryz.sizeOf191
  v33 := Tryz.zeroValue191
  i33 := by kernel_rfl
  t35 := Tryz.underlying193
  a35 := Tryz.isAgg193
  z35 := Tryz.sizeOf193
  v35 := Tryz.zeroValue193
  i35 := by kernel_rfl
  t37 := Tryz.underlying195
  a37 := Tryz.isAgg195
  z37 := Tryz.sizeOf195
  v37 := Tryz.zeroValue195
  i37 := by kernel_rfl
  t41 := Tryz.underlying185
  a41 := Tryz.isAgg185
  z41 := Tryz.sizeOf185
  v41 := Tryz.zeroValue185
  i41 := by kernel_rfl
  t44 := Tryz.underlying200
  a44 := Tryz.isAgg200
  z44 := Tryz.sizeOf200
  v44 := Tryz.zeroValue200
  i44 := by kernel_rfl
  t49 := Tryz.underlying210
  a49 := Tryz.isAgg210
  z49 := Tryz.sizeOf210
  v49 := Tryz.zeroValue210
  i49 := by kernel_rfl
  t51 := Tryz.underlying212
  a51 := Tryz.isAgg212
  z51 := Tryz.sizeOf212
  v51 := Tryz.zeroValue212
  i51 := by kernel_rfl
  t53 := Tryz.underlying217
  a53 := Tryz.isAgg217
  z53 := Tryz.sizeOf217
  v53 := Tryz.zeroValue217
  i53 := by kernel_rfl
  t54 := Tryz.underlying218
  a54 := Tryz.isAgg218
  z54 := Tryz.sizeOf218
  v54 := Tryz.zeroValue218
  i54 := by kernel_rfl
  t58 := Tryz.underlying119
  a58 := Tryz.isAgg119
  z58 := Tryz.sizeOf119
  v58 := Tryz.zeroValue119
  i58 := by kernel_rfl
  t60 := Tryz.underlying229
  a60 := Tryz.isAgg229
  z60 := Tryz.sizeOf229
  v60 := Tryz.zeroValue229
  i60 := by kernel_rfl
  t64 := Tryz.underlying227
  a64 := Tryz.isAgg227
  z64 := Tryz.sizeOf227
  v64 := Tryz.zeroValue227
  i64 := by kernel_rfl
  t66 := Tryz.underlying235
  a66 := Tryz.isAgg235
  z66 := Tryz.sizeOf235
  v66 := Tryz.zeroValue235
  i66 := by kernel_rfl
  t67 := Tryz.underlying233
  a67 := Tryz.isAgg233
  z67 := Tryz.sizeOf233
  v67 := Tryz.zeroValue233
  i67 := by kernel_rfl
  t75 := Tryz.underlying242
  a75 := Tryz.isAgg242
  z75 := Tryz.sizeOf242
  v75 := Tryz.zeroValue242
  i75 := by kernel_rfl
  t76 := Tryz.underlying243
  a76 := Tryz.isAgg243
  z76 := Tryz.sizeOf243
  v76 := Tryz.zeroValue243
  i76 := by kernel_rfl
  t77 := Tryz.underlying244
  a77 := Tryz.isAgg244
  z77 := Tryz.sizeOf244
  v77 := Tryz.zeroValue244
  i77 := by kernel_rfl
  t78 := Tryz.underlying184
  a78 := Tryz.isAgg184
  z78 := Tryz.sizeOf184
  v78 := Tryz.zeroValue184
  i78 := by kernel_rfl
  t79 := Tryz.underlying245
  a79 := Tryz.isAgg245
  z79 := Tryz.sizeOf245
  v79 := Tryz.zeroValue245
  i79 := by kernel_rfl
  t80 := Tryz.underlying246
  a80 := Tryz.isAgg246
  z80 := Tryz.sizeOf246
  v80 := Tryz.zeroValue246
  i80 := by kernel_rfl
  t82 := Tryz.underlying248
  a82 := Tryz.isAgg248
  z82 := Tryz.sizeOf248
  v82 := Tryz.zeroValue248
  i82 := by kernel_rfl }
def Tryz.laysNm220_ren : Go.Shelf.Ren := ⟨fun | 20 => 136 | n => n, fun | 22 => 81 | 3 => 3 | 4 => 4 | 0 => 0 | n => n, fun | n => n⟩
theorem Tryz.laysNm220 : Go.Proofs.Lays2.n20 Tryz.prog Tryz.laysNm220_ren := {
  mixed := by kernel_rfl
  f20 := Tryz.func136.trans (congrArg some (by kernel_rfl))
  t0 := Tryz.underlying0
  a0 := Tryz.isAgg0
  z0 := Tryz.sizeOf0
  v0 := Tryz.zeroValue0
  t3 := Tryz.underlying3
  a3 := Tryz.isAgg3
  z3 := Tryz.sizeOf3
  v3 := Tryz.zeroValue3
  t4 := Tryz.underlying4
  a4 := Tryz.isAgg4
  z4 := Tryz.sizeOf4
  v4 := Tryz.zeroValue4
  t22 := Tryz.underlying81
  a22 := Tryz.isAgg81
  z22 := Tryz.sizeOf81
  v22 := Tryz.zeroValue81
  i3 := by kernel_rfl }
open Go.RowKit Go.Lib Go.Sort in
theorem Tryz.slices_Compact_int_arr (blk off cap : Nat) (d : Array Int) (w : World) (hH : Holds encI w blk off d) (hsz : d.size ≤ 9223372036854775807) (hcap : d.size ≤ cap) :
    Calls Tryz.prog 136 #[.slice (some ⟨blk, off, none⟩) d.size cap] w fun e w' => e = .returned (.slice (some ⟨blk, off, none⟩) (compactUpTo d d.size).length cap) ∧ ∃ q, w' = putRow encI (Sort.ahead w q) blk off (compactUpTo d d.size ++ List.replicate (d.size - (compactUpTo d d.size).length) 0).toArray := Any.slices_Compact_int_arr Tryz.laysNm220 blk off cap d w hH hsz hcap
open Go.RowKit Go.Lib Go.Sort in
theorem Tryz.slices_Compact_int (blk off cap : Nat) (zs : List Int) (w : World) (hH : Holds (Value.int .i64) w blk off zs.toArray) (hsz : zs.length ≤ 9223372036854775807) (hcap : zs.length ≤ cap) :
    Calls Tryz.prog 136 #[.slice (some ⟨blk, off, none⟩) zs.length cap] w fun e w' => e = .returned (.slice (some ⟨blk, off, none⟩) (Lib.compact zs).length cap) ∧ ∃ q, w' = putRow (Value.int .i64) (Sort.ahead w q) blk off (Lib.compact zs ++ List.replicate (zs.length - (Lib.compact zs).length) 0).toArray := Any.slices_Compact_int Tryz.laysNm220 blk off cap zs w hH hsz hcap
open Go.RowKit Go.Lib Go.Sort in
theorem Tryz.slices_Compact_int_empty (a : Option Addr) (cap : Nat) (w : World) :
    Calls Tryz.prog 136 #[.slice a 0 cap] w fun e w' => e = .returned (.slice a 0 cap) ∧ w' = w := Any.slices_Compact_int_empty Tryz.laysNm220 a cap w
open Go.RowKit Go.Lib Go.Sort in
theorem Tryz.slices_Compact_int_cells (b off n c : Nat) (zs : List Int) (w : World) (hz : n ≤ zs.length) (hbig : n ≤ 9223372036854775807) (hcap : n ≤ c) (hc : ∀ j, j < zs.length → w.cell? ⟨b, off + j, none⟩ = some (.int .i64 (zs.getD j 0))) (hf : ∀ j, j < n → w.frozen? ⟨b, off + j, none⟩ = false) :
    Calls Tryz.prog 136 #[.slice (some ⟨b, off, none⟩) n c] w fun e w' => e = .returned (.slice (some ⟨b, off, none⟩) (Lib.compact (zs.take n)).length c) ∧ ∃ q, w' = (w.drewN q).setCells b off ((Lib.compact (zs.take n) ++ List.replicate (n - (Lib.compact (zs.take n)).length) 0).map (Value.int .i64)) := Any.slices_Compact_int_cells Tryz.laysNm220 b off n c zs w hz hbig hcap hc hf
open Go.RowKit Go.Sort in
theorem Tryz.slices_Sort_int_none (p : Option Addr) (cap : Nat) (w : World) :
    Calls Tryz.prog 135 #[.slice p 0 cap] w fun e w' => e = .returned (.tuple #[]) ∧ w' = w := Any.slices_Sort_int_none Tryz.lays189 p cap w
def Tryz.laysGg36_ren : Go.Shelf.Ren := ⟨fun | 36 => 194 | n => n, fun | 66 => 235 | 51 => 212 | 0 => 0 | 60 => 229 | 41 => 185 | n => n, fun | n => n⟩
theorem Tryz.laysGg36 : Go.Proofs.LaysGg.n36 Tryz.prog Tryz.laysGg36_ren := {
  mixed := by kernel_rfl
  f36 := Tryz.func194.trans (congrArg some (by kernel_rfl))
  t0 := Tryz.underlying0
  a0 := Tryz.isAgg0
  z0 := Tryz.sizeOf0
  v0 := Tryz.zeroValue0
  i0 := by kernel_rfl
  t41 := Tryz.underlying185
  a41 := Tryz.isAgg185
  z41 := Tryz.sizeOf185
  v41 := Tryz.zeroValue185
  i41 := by kernel_rfl
  t51 := Tryz.underlying212
  a51 := Tryz.isAgg212
  z51 := Tryz.sizeOf212
  v51 := Tryz.zeroValue212
  i51 := by kernel_rfl
  t60 := Tryz.underlying229
  a60 := Tryz.isAgg229
  z60 := Tryz.sizeOf229
  v60 := Tryz.zeroValue229
  i60 := by kernel_rfl
  t66 := Tryz.underlying235
  a66 := Tryz.isAgg235
  z66 := Tryz.sizeOf235
  v66 := Tryz.zeroValue235
  i66 := by kernel_rfl }
open Go.RowKit Go.Lib Go.Sort in
theorem Tryz.xorshift_Next (rb ro X : Nat) (hX : X < 18446744073709551616) (w : World) (hc : w.cell? ⟨rb, ro, none⟩ = some (.int .u64 X)) (hf : w.frozen? ⟨rb, ro, none⟩ = false) :
    Calls Tryz.prog 194 #[.pointer (some ⟨rb, ro, none⟩)] w fun e w' => e = .returned (.int .u64 (xorNextN X : Nat)) ∧ w' = (w.setCell ⟨rb, ro, none⟩ (.int .u64 (xorNextN X : Nat))).drewN 3 := Any.xorshift_Next Tryz.laysGg36 rb ro X hX w hc hf
def Tryz.laysGg35_ren : Go.Shelf.Ren := ⟨fun | 35 => 193 | 13 => 150 | 24 => 168 | 25 => 169 | n => n, fun | 3 => 3 | 41 => 185 | 49 => 210 | 51 => 212 | 4 => 4 | 5 => 5 | 9 => 9 | n => n, fun | n => n⟩
theorem Tryz.laysGg35 : Go.Proofs.LaysGg.n35 Tryz.prog Tryz.laysGg35_ren := {
  mixed := by kernel_rfl
  f13 := Tryz.func150.trans (congrArg some (by kernel_rfl))
  f24 := Tryz.func168.trans (congrArg some (by kernel_rfl))
  f25 := Tryz.func169.trans (congrArg some (by kernel_rfl))
  f35 := Tryz.func193.trans (congrArg some (by kernel_rfl))
  t3 := Tryz.underlying3
  a3 := Tryz.isAgg3
  z3 := Tryz.sizeOf3
  v3 := Tryz.zeroValue3
  i3 := by kernel_rfl
  t4 := Tryz.underlying4
  a4 := Tryz.isAgg4
  z4 := Tryz.sizeOf4
  v4 := Tryz.zeroValue4
  i4 := by kernel_rfl
  t5 := Tryz.underlying5
  a5 := Tryz.isAgg5
  z5 := Tryz.sizeOf5
  v5 := Tryz.zeroValue5
  i5 := by kernel_rfl
  t9 := Tryz.underlying9
  a9 := Tryz.isAgg9
  z9 := Tryz.sizeOf9
  v9 := Tryz.zeroValue9
  i9 := by kernel_rfl
  t41 := Tryz.underlying185
  a41 := Tryz.isAgg185
  z41 := Tryz.sizeOf185
  v41 := Tryz.zeroValue185
  i41 := by kernel_rfl
  t49 := Tryz.underlying210
  a49 := Tryz.isAgg210
  z49 := Tryz.sizeOf210
  v49 := Tryz.zeroValue210
  i49 := by kernel_rfl
  t51 := Tryz.underlying212
  a51 := Tryz.isAgg212
  z51 := Tryz.sizeOf212
  v51 := Tryz.zeroValue212
  i51 := by kernel_rfl }
open Go.RowKit Go.Lib Go.Sort in
theorem Tryz.nextPowerOfTwo (n : Nat) (hn : n < 4611686018427387904) (w : World) :
    Calls Tryz.prog 193 #[.int .i64 n] w fun e w' => e = .returned (.int .u64 ((1 <<< bitsLen n : Nat) : Int)) ∧ w' = w := Any.nextPowerOfTwo Tryz.laysGg35 n hn w
end Go.Proofs

/- sort.breakPatterns_func, by a swap that turns the row alone. Conditions: rows of less than 2^62 elements. -/
namespace Go.Proofs.YtollijngiioonaaGreat
set_option maxRecDepth 100000
open Go.RowKit Go.Sort

variable {α : Type} [Inhabited α]
variable {g : Nat} {lb : Array Value} {sf : Nat} {sb : Array Value} {lt : α → α → Bool} {n blk base : Nat} {I : Array α → World → Prop}

/-- While breakPatterns runs: the row, the function values, the random number in its cell. -/
structure KSt (blk : Nat) (I : Array α → World → Prop) (w : World) (sf : Nat) (sb : Array Value) (d : Array α) (R : Nat) (wr : World) : Prop where
  i : I d wr
  c1 : wr.cell? ⟨w.heap.size, 1, none⟩ = some (.func (.func sf) #[] sb)
  cR : wr.cell? ⟨w.heap.size + 1, 0, none⟩ = some (.int .u64 (R : Int))
  fR : wr.frozen? ⟨w.heap.size + 1, 0, none⟩ = false
  st : Stay (fun k => k ≠ blk ∧ k ≠ w.heap.size + 1) w wr
/-- A new random number. -/
theorem KSt.next {w wr : World} {d : Array α} {R : Nat} (E : SEnv g lb sf sb lt n blk base I) (h : KSt blk I w sf sb d R wr) (R' : Nat) (hb : base ≤ w.heap.size) : KSt blk I w sf sb d R' ((wr.setCell ⟨w.heap.size + 1, 0, none⟩ (.int .u64 (R' : Int))).drewN 3) := by
  have h1 : I d (wr.setCell ⟨w.heap.size + 1, 0, none⟩ (.int .u64 (R' : Int))) := E.set d wr ⟨w.heap.size + 1, 0, none⟩ _ h.i (Nat.le_trans hb (Nat.le_succ _))
  refine ⟨E.on d _ _ h1 (below_drewsX _ _ 3), ?_, ?_, ?_, ?_⟩
  · rw [World.cell?_drewN, World.cell?_setCell_other _ _ _ _ (by intro e; simp only [Addr.mk.injEq, and_true] at e; omega)]; exact h.c1
  · rw [World.cell?_drewN]; exact World.cell?_setCell_same _ _ _ h.cR
  · rw [World.frozen?_drewN]; simpa using h.fR
  · exact (h.st.trans (.setCell _ _ (fun e => e.2 rfl))).trans (stay_drewN _ _ 3)
omit [Inhabited α] in
theorem KSt.swapped {w wr wr' : World} {d d' : Array α} {R : Nat} (h : KSt blk I w sf sb d R wr) (hne : w.heap.size ≠ blk ∧ w.heap.size + 1 ≠ blk) (hi : I d' wr') (hs : Stay (fun k => k ≠ blk) wr wr') : KSt blk I w sf sb d' R wr' :=
  ⟨hi, hs.cell h.c1 hne.1, hs.cell h.cR hne.2, (hs.frozen (World.block_lt_of_cell? _ _ h.cR) hne.2).trans h.fR, h.st.trans (hs.weak (fun _ _ hk => hk.1))⟩

set_option maxHeartbeats 4000000 in
theorem breakPatterns_go (E : SEnv g lb sf sb lt n blk base I) (a L : Nat) (d : Array α) (w : World) (h : I d w) (hb : a + L ≤ n) (h8 : 8 ≤ L) :
    Calls Tryz.prog 181 #[.agg #[.func (.func g) #[] lb, .func (.func sf) #[] sb], .int .i64 a, .int .i64 ((a + L : Nat) : Int)] w fun e w' => e = .returned (.tuple #[]) ∧ I (breakPatterns d a (a + L)) w' ∧ Stay (fun k => k ≠ blk) w w' := by
  have hbig := E.big
  rw [breakPatterns_eq d a L h8]
  obtain ⟨M, hM⟩ : ∃ M : Nat, M = 1 <<< bitsLen L := ⟨_, rfl⟩
  have hM1 : 1 ≤ M := by rw [hM, Nat.one_shiftLeft]; exact Nat.two_pow_pos _
  have hM2 : M ≤ 2 * L := by rw [hM, Nat.one_shiftLeft]; exact two_pow_bitsLen_le (by omega)
  have hNP : ∀ w, Calls Tryz.prog 193 #[.int .i64 (L : Int)] w fun e w' => e = .returned (.int .u64 (M : Int)) ∧ w' = w := by rw [hM]; exact fun w => Tryz.nextPowerOfTwo L (by omega) w
  rw [← hM]
  clear hM
  have hLz : ((a : Int) + (L : Int) - (a : Int)) = (L : Int) := by omega
  have h8z : (8 : Int) ≤ (L : Int) := by omega
  have hbase := E.lt _ _ h
  have HB : Hid (w.heap.size ≠ blk ∧ w.heap.size + 1 ≠ blk) := by have := E.bb; exact ⟨by omega, by omega⟩
  have HE : Hid (SEnv g lb sf sb lt n blk base I) := E
  have S0 : KSt blk I w sf sb d L ((w.alloc (.cells #[.func (.func g) #[] lb, .func (.func sf) #[] sb] 200)).alloc (.cells #[.int .u64 (L : Int)] 229)) :=
    ⟨E.on _ _ _ h (((Below.refl _ _).alloc (Nat.le_refl _) _).alloc (by simp) _), by simp [go_sem], by simp [go_sem], by simp [go_sem], (Stay.alloc _ _ _).trans (.alloc _ _ _)⟩
  clear E h
  go_enter Tryz.func181, Tryz.ntmps181
  go_wp2_with (first | (go_at_call 193; refine (hNP _).mono ?_; rintro e w' ⟨rfl, rfl⟩))
  go_loopg [9] 3 (fun g1 vi wr => ∃ (t : Nat) (r : UInt64) (dk : Array α), vi = .int .i64 ((a : Int) + (L : Int) / 4 * 2 - 1 + (t : Int)) ∧ t ≤ 3 ∧ 3 - t ≤ g1 ∧ KSt blk I w sf sb dk r.toNat wr ∧
      Hid (bpRest a L M (a + L / 4 * 2 - 1) (3 - t) t (r, dk) = bpRest a L M (a + L / 4 * 2 - 1) 3 0 (UInt64.ofNat L, d)))
  case atStart =>
    refine ⟨0, UInt64.ofNat L, d, by simp, by omega, by omega, ?_, rfl⟩
    rw [show (UInt64.ofNat L).toNat = L from by simp; omega]
    exact S0
  case round =>
    obtain ⟨t, r, dk, rfl, ht, hg1, S, HR⟩ := hrel
    clear S0
    by_cases ht3 : t < 3
    · have hle : (a : Int) + (L : Int) / 4 * 2 - 1 + (t : Int) ≤ (a : Int) + (L : Int) / 4 * 2 + 1 := by omega
      obtain ⟨R, hRr⟩ : ∃ R : Nat, R = r.toNat := ⟨_, rfl⟩
      have lR : R < 18446744073709551616 := by rw [hRr]; exact r.toNat_lt
      obtain ⟨R', hR'⟩ : ∃ R' : Nat, R' = xorNextN R := ⟨_, rfl⟩
      have lR' : R' < 18446744073709551616 := by rw [hR']; exact xorNextN_lt R lR
      obtain ⟨O, hO⟩ : ∃ O : Nat, O = R' &&& (M - 1) := ⟨_, rfl⟩
      have lO : O ≤ M - 1 := by rw [hO]; exact Nat.and_le_right
      have eAnd : bits .and .u64 (R' : Int) ((M : Int) - 1) = (O : Int) := by
        rw [show ((M : Int) - 1) = ((M - 1 : Nat) : Int) by omega, bits_and_u64_nat _ _ lR' (by omega), hO]
      rw [← hRr] at S
      have hNext : Calls Tryz.prog 194 #[.pointer (some ⟨w.heap.size + 1, 0, none⟩)] wr fun e w' => e = .returned (.int .u64 (R' : Int)) ∧ w' = (wr.setCell ⟨w.heap.size + 1, 0, none⟩ (.int .u64 (R' : Int))).drewN 3 := by
        rw [hR']; exact Tryz.xorshift_Next _ _ R lR wr S.cR S.fR
      have HN : Hid (R' = (xorNext r).toNat ∧ O = (xorNext r).toNat &&& (M - 1)) := by
        have e : R' = (xorNext r).toNat := by rw [hR', hRr, xorNext_toNat]
        exact ⟨e, by rw [hO, e]⟩
      clear hRr hR' hO
      have S2 := S.next HE.out R' hbase
      generalize (wr.setCell ⟨w.heap.size + 1, 0, none⟩ (.int .u64 (R' : Int))).drewN 3 = w2 at hNext S2
      have c1 := S2.c1
      clear S
      by_cases hLO : L ≤ O
      · have hLOz : (L : Int) ≤ (O : Int) := by omega
        obtain ⟨W4, hrun, hI4, hS4⟩ := HE.out.swapI dk w2 (a + L / 4 * 2 - 1 + t) (a + (O - L)) ((a : Int) + (L : Int) / 4 * 2 - 1 + (t : Int)) ((a : Int) + ((O : Int) - (L : Int))) (by omega) (by omega) S2.i (by omega) (by omega)
        have S3 := S2.swapped HB.out hI4 hS4
        clear S2
        go_wp2_with (go_at_call 194; refine hNext.mono ?_; rintro e w' ⟨rfl, rfl⟩)
        go_roundg (3 - (t + 1))
        case measure => omega
        case rel => exact ⟨t + 1, xorNext r, swp dk (a + L / 4 * 2 - 1 + t) (a + (O - L)), by congr 1; push_cast; omega, by omega, Nat.le_refl _, by rw [← HN.out.1]; exact S3,
          (show Hid _ from by rw [← HR.out, bp_step a L M _ t r dk (O - L) ht3 (by rw [← HN.out.2, if_pos (by omega)])]; exact rfl)⟩
      · have hLOz : ¬ (L : Int) ≤ (O : Int) := by omega
        obtain ⟨W4, hrun, hI4, hS4⟩ := HE.out.swapI dk w2 (a + L / 4 * 2 - 1 + t) (a + O) ((a : Int) + (L : Int) / 4 * 2 - 1 + (t : Int)) ((a : Int) + (O : Int)) (by omega) (by omega) S2.i (by omega) (by omega)
        have S3 := S2.swapped HB.out hI4 hS4
        clear S2
        go_wp2_with (go_at_call 194; refine hNext.mono ?_; rintro e w' ⟨rfl, rfl⟩)
        go_roundg (3 - (t + 1))
        case measure => omega
        case rel => exact ⟨t + 1, xorNext r, swp dk (a + L / 4 * 2 - 1 + t) (a + O), by congr 1; push_cast; omega, by omega, Nat.le_refl _, by rw [← HN.out.1]; exact S3,
          (show Hid _ from by rw [← HR.out, bp_step a L M _ t r dk O ht3 (by rw [← HN.out.2, if_neg (by omega)])]; exact rfl)⟩
    · obtain rfl : t = 3 := by omega
      have hle : ¬ ((a : Int) + (L : Int) / 4 * 2 - 1 + ((3 : Nat) : Int) ≤ (a : Int) + (L : Int) / 4 * 2 + 1) := by omega
      go_wp2
      go_end0
      refine ⟨rfl, ?_, ?_⟩
      · rw [← HR.out]; exact S.i
      · exact fin_stay (by omega) S.st

theorem breakPatterns_any (E : SEnv g lb sf sb lt n blk base I) (a b : Nat) (d : Array α) (w : World) (h : I d w) (hab : a ≤ b) (hb : b ≤ n) :
    Calls Tryz.prog 181 #[.agg #[.func (.func g) #[] lb, .func (.func sf) #[] sb], .int .i64 a, .int .i64 b] w fun e w' => e = .returned (.tuple #[]) ∧ I (breakPatterns d a b) w' ∧ Stay (fun k => k ≠ blk) w w' := by
  obtain ⟨L, rfl⟩ : ∃ L, b = a + L := ⟨b - a, by omega⟩
  by_cases h8 : 8 ≤ L
  · exact breakPatterns_go E a L d w h hb h8
  · have hv : breakPatterns d a (a + L) = d := by unfold breakPatterns; simp only [Nat.add_sub_cancel_left]; rw [if_neg h8]
    rw [hv]
    have hbig := E.big
    have hLz : ((a : Int) + (L : Int) - (a : Int)) = (L : Int) := by omega
    have h8z : ¬ (8 : Int) ≤ (L : Int) := by omega
    have S0 := SSt.start E h 200
    have S1 : Hid (I d (w.alloc (.cells #[.func (.func g) #[] lb, .func (.func sf) #[] sb] 200))) := S0.i
    clear E h S0
    go_enter Tryz.func181, Tryz.ntmps181
    go_wp2
    go_end0
    exact ⟨rfl, S1.out, .alloc _ _ _⟩
end Go.Proofs.YtollijngiioonaaGreat

/- sort.pdqsort_func, by a comparison that may lay blocks. Conditions: rows of less than 2^62 elements; the comparison is a strict weak order. -/
namespace Go.Proofs.YtollijngiioonaaGreat
set_option maxRecDepth 100000
open Go.RowKit Go.Sort

variable {α : Type} [Inhabited α]
variable {g : Nat} {lb : Array Value} {sf : Nat} {sb : Array Value} {lt : α → α → Bool} {n blk base : Nat} {I : Array α → World → Prop}

theorem hint_code (h : Hint) : hintI h = hintCode h := by cases h <;> rfl

set_option maxHeartbeats 12800000 in
set_option maxRecDepth 1000000 in
theorem pdqsort_any (E : SEnv g lb sf sb lt n blk base I) (hO : SWO lt) :
    ∀ (N a b limit : Nat) (d : Array α) (w : World), b - a < N → I d w → a ≤ b → b ≤ n → limit < 4611686018427387904 → Go.Sort.Below lt a b d →
    Calls Tryz.prog 157 #[.agg #[.func (.func g) #[] lb, .func (.func sf) #[] sb], .int .i64 a, .int .i64 b, .int .i64 limit] w fun e w' => e = .returned (.tuple #[]) ∧ I (pdq lt d a b limit true true) w' ∧ Stay (fun k => k ≠ blk) w w' := by
  have eg := E.eg
  have hbig := E.big
  have HE : Hid (SEnv g lb sf sb lt n blk base I) := E
  clear E
  intro N
  induction N with
  | zero => intro _ _ _ _ _ h; exact absurd h (Nat.not_lt_zero _)
  | succ N ih =>
    intro a b limit d w hN h0 hab hb hlimit hBel0
    have HB : Hid (w.heap.size ≠ blk) := by have := HE.out.lt _ _ h0; have := HE.out.bb; show _ ≠ _; omega
    have S0 := SSt.start HE.out h0 200
    have HI : Hid (∀ (a b limit : Nat) (d : Array α) (w : World), b - a < N → I d w → a ≤ b → b ≤ n → limit < 4611686018427387904 → Go.Sort.Below lt a b d →
      Calls Tryz.prog 157 #[.agg #[.func (.func g) #[] lb, .func (.func sf) #[] sb], .int .i64 a, .int .i64 b, .int .i64 limit] w fun e w' => e = .returned (.tuple #[]) ∧ I (pdq lt d a b limit true true) w' ∧ Stay (fun k => k ≠ blk) w w') := ih
    clear ih h0
    go_enter Tryz.func157, Tryz.ntmps157
    go_wp2
    go_loopg [1, 2, 3, 8, 9] (b - a) (fun k s1 s2 s3 s8 s9 wr => ∃ (a' b' lim : Nat) (wb wp : Bool) (dk : Array α), s1 = .int .i64 a' ∧ s2 = .int .i64 b' ∧ s3 = .int .i64 lim ∧ s8 = .bool wb ∧ s9 = .bool wp ∧
      a' ≤ b' ∧ b' ≤ n ∧ b' - a' ≤ k ∧ k ≤ b - a ∧ lim ≤ limit ∧ Go.Sort.Below lt a' b' dk ∧ SSt blk I w w.heap.size g lb sf sb dk wr ∧ Hid (pdq lt dk a' b' lim wb wp = pdq lt d a b limit true true))
    case atStart => exact ⟨a, b, limit, true, true, d, rfl, rfl, rfl, rfl, rfl, hab, hb, Nat.le_refl _, Nat.le_refl _, Nat.le_refl _, hBel0, S0, rfl⟩
    case round =>
      obtain ⟨a', b', lim, wb, wp, dk, rfl, rfl, rfl, rfl, rfl, hab', hb', hk, hkN, hlim, hBel, S, A⟩ := hrel
      clear S0
      have hds : dk.size = n := HE.out.size _ _ S.i
      have x0 := S.c0
      have x1 := S.c1
      by_cases h12 : b' - a' ≤ 12
      · have h12z : (b' : Int) - (a' : Int) ≤ 12 := by omega
        have hc := insertion_any HE.out a' b' dk wr S.i hab' (by omega)
        go_wp2_with (go_at_call 179; refine hc.mono ?_; rintro e w1 ⟨rfl, hI1, hS1⟩)
        (try simp only [Exit.inBlock, Exit.then]); refine bodyPost_ret (results_none rfl _ _ _) rfl ?_
        refine ⟨rfl, ?_, S.st.trans hS1⟩
        rw [← A.out, pdq_small h12]
        exact hI1
      · have h12z : ¬ ((b' : Int) - (a' : Int) ≤ 12) := by omega
        by_cases hl0 : lim = 0
        · subst hl0
          have hc := heapSort_any HE.out a' b' dk wr S.i (by omega) (by omega)
          go_wp2_with (go_at_call 180; refine hc.mono ?_; rintro e w1 ⟨rfl, hI1, hS1⟩)
          (try simp only [Exit.inBlock, Exit.then]); refine bodyPost_ret (results_none rfl _ _ _) rfl ?_
          refine ⟨rfl, ?_, S.st.trans hS1⟩
          rw [← A.out, pdq_heap h12 rfl]
          exact hI1
        · have hl0z : ¬ ((lim : Int) = 0) := by omega
          obtain ⟨s1, B1, hc1, s2, B2, hpv, s3, B3⟩ := rd_facts (lt := lt) (limit := lim) (wb := wb) (wp := wp) hO partialInsertionSort_holds reverseRange_holds (show a' < b' by omega) (show b' ≤ dk.size by omega) hBel
          go_upto_if 35 with fail
          go_cut [3] from 19 (fun s3 wc => s3 = .int .i64 (rd lt dk a' b' lim wb wp).lim ∧ SSt blk I w w.heap.size g lb sf sb (rd lt dk a' b' lim wb wp).d1 wc)
          case first =>
            cases wb
            · have hc := breakPatterns_any HE.out a' b' dk wr S.i hab' (by omega)
              go_wp2_with (go_at_call 181; refine hc.mono ?_; rintro e w1 ⟨rfl, hI1, hS1⟩)
              go_meet
              case rel =>
                refine ⟨?_, S.step HB.out hI1 hS1⟩
                show Value.int .i64 ((lim : Int) - 1) = Value.int .i64 ((lim - 1 : Nat) : Int)
                congr 1
                omega
            · go_wp2_with fail
              go_meet
              case rel => exact ⟨rfl, S⟩
          case rest =>
            obtain ⟨rfl, S1⟩ := hcut
            clear x0 x1
            have y0 := S1.c0
            have y1 := S1.c1
            have hc17 : Calls Tryz.prog 182 #[.agg #[.func (.func g) #[] lb, .func (.func sf) #[] sb], .int .i64 a', .int .i64 b'] wc fun e w' => e = .returned (.tuple #[.int .i64 (rd lt dk a' b' lim wb wp).c.1, .int .i64 (hintCode (rd lt dk a' b' lim wb wp).c.2)]) ∧ I (rd lt dk a' b' lim wb wp).d1 w' ∧ Stay (fun k => k ≠ blk) wc w' := by
              rw [← hint_code]
              exact choosePivot_any HE.out a' b' (rd lt dk a' b' lim wb wp).d1 wc S1.i (by omega) (by omega)
            go_upto_if 50 with (go_at_call 182; refine hc17.mono ?_; rintro e w2 ⟨rfl, hI2, hS2⟩)
            have S2 := S1.step HB.out hI2 hS2
            clear y0 y1
            have z0 := S2.c0
            have z1 := S2.c1
            go_cut [11, 12] from 19 (fun s11 s12 wc => s11 = .int .i64 (rd lt dk a' b' lim wb wp).pivot ∧ s12 = .int .i64 (hintCode (rd lt dk a' b' lim wb wp).hint) ∧ SSt blk I w w.heap.size g lb sf sb (rd lt dk a' b' lim wb wp).d2 wc)
            case first =>
              by_cases hh : (rd lt dk a' b' lim wb wp).c.2 = .decreasing
              · have hcode : hintCode (rd lt dk a' b' lim wb wp).c.2 = 2 := by rw [hh]; rfl
                obtain ⟨e2, epv, eht⟩ := rd_dec hh
                have hc18 := reverse_any HE.out a' b' (rd lt dk a' b' lim wb wp).d1 w2 S2.i (by omega) (by omega)
                go_wp2_with (go_at_call 183; refine hc18.mono ?_; rintro e w3 ⟨rfl, hI3, hS3⟩)
                go_meet
                case rel =>
                  refine ⟨?_, by rw [eht]; rfl, by rw [e2]; exact S2.step HB.out hI3 hS3⟩
                  rw [epv]
                  congr 1
                  omega
              · have hcode : ¬ (hintCode (rd lt dk a' b' lim wb wp).c.2 = 2) := fun h => hh (hintCode_two h)
                obtain ⟨e2, epv, eht⟩ := rd_not hh
                go_wp2_with fail
                go_meet
                case rel => exact ⟨by rw [epv], by rw [eht], by rw [e2]; exact S2⟩
            case rest =>
              obtain ⟨rfl, rfl, S3⟩ := hcut
              clear z0 z1
              have v0 := S3.c0
              have v1 := S3.c1
              go_upto_region 16 with fail
              go_cut [12, 68] from 19 (fun s12 s68 wx => s12 = .int .i64 (hintCode (rd lt dk a' b' lim wb wp).hint) ∧ s68 = .bool (wb && wp && decide ((rd lt dk a' b' lim wb wp).hint = .increasing)) ∧ wx = wc)
              case first =>
                cases wb <;> cases wp <;> cases hh3 : (rd lt dk a' b' lim _ _).hint <;>
                  (have hcode3 := congrArg hintCode hh3
                   simp only [hintCode] at hcode3
                   go_wp2_with fail
                   go_meet
                   exact ⟨by simp [hh3, hintCode], by simp [hh3, hintCode], rfl⟩)
              case rest =>
                obtain ⟨rfl, rfl, rfl⟩ := hcut
                go_upto_if 68 with fail
                go_cut [] from 19 (fun wx => (rd lt dk a' b' lim wb wp).pi.2 = false ∧ SSt blk I w w.heap.size g lb sf sb (rd lt dk a' b' lim wb wp).pi.1 wx)
                case first =>
                  cases h68 : (wb && wp && decide ((rd lt dk a' b' lim wb wp).hint = .increasing))
                  · have epi := rd_pi_no h68
                    go_wp2_with fail
                    go_meet
                    case rel => exact ⟨by rw [epi], by rw [epi]; exact S3⟩
                  · have epi := rd_pi_yes h68
                    have hc19 := partialIns_any HE.out a' b' (rd lt dk a' b' lim wb wp).d2 wc S3.i (by omega) (by omega)
                    rw [← epi] at hc19
                    go_wp2_with (go_at_call 184; refine hc19.mono ?_; rintro e w4 ⟨rfl, hI4, hS4⟩)
                    all_goals first
                      | (have hp2 : (rd lt dk a' b' lim wb wp).pi.2 = false := by rw [epi]; assumption
                         go_meet
                         exact ⟨hp2, S3.step HB.out hI4 hS4⟩)
                      | (have hp2 : (rd lt dk a' b' lim wb wp).pi.2 = true := by rw [epi]; assumption
                         (try simp only [Exit.inBlock, Exit.then]); refine bodyPost_ret (results_none rfl _ _ _) rfl ?_
                         refine ⟨rfl, ?_, S3.st.trans hS4⟩
                         rw [← A.out, pdq_done h12 hl0 hp2]
                         exact hI4)
                case rest =>
                  obtain ⟨hp2, S5⟩ := hcut
                  clear v0 v1
                  have t0 := S5.c0
                  have t1 := S5.c1
                  go_upto_region 18 with fail
                  go_cut [83] from 19 (fun s83 wx => s83 = .bool (decide (a' > 0) && !lt (rd lt dk a' b' lim wb wp).pi.1[a' - 1]! (rd lt dk a' b' lim wb wp).pi.1[(rd lt dk a' b' lim wb wp).pivot]!) ∧ SSt blk I w w.heap.size g lb sf sb (rd lt dk a' b' lim wb wp).pi.1 wx)
                  case first =>
                    rcases Nat.eq_zero_or_pos a' with ha0 | ha0
                    · have ha0z : decide ((a' : Int) > 0) = false := decide_eq_false (by omega)
                      go_wp2_with fail
                      go_meet
                      case rel => exact ⟨by simp [ha0], S5⟩
                    · have ha0z : (a' : Int) > 0 := by omega
                      cases hlv : lt (rd lt dk a' b' lim wb wp).pi.1[a' - 1]! (rd lt dk a' b' lim wb wp).pi.1[(rd lt dk a' b' lim wb wp).pivot]! <;>
                        (have hl := HE.out.lessV (rd lt dk a' b' lim wb wp).pi.1 (a' - 1) (rd lt dk a' b' lim wb wp).pivot ((a' : Int) - 1) ((rd lt dk a' b' lim wb wp).pivot : Int) _ hlv (by omega) rfl (by omega) (by omega) wc S5.i
                         go_wp2_with (go_at_fn g; refine hl.mono ?_; rintro e w' ⟨rfl, hI6, hS6⟩)
                         go_meet
                         exact ⟨by simp [ha0, hlv], S5.step HB.out hI6 hS6⟩)
                  case rest =>
                    obtain ⟨rfl, S6⟩ := hcut
                    clear t0 t1
                    have q0 := S6.c0
                    have q1 := S6.c1
                    cases h87 : (decide (a' > 0) && !lt (rd lt dk a' b' lim wb wp).pi.1[a' - 1]! (rd lt dk a' b' lim wb wp).pi.1[(rd lt dk a' b' lim wb wp).pivot]!)
                    · obtain ⟨mid, ap, d4, hx⟩ : ∃ mid ap d4, partition lt (rd lt dk a' b' lim wb wp).pi.1 a' b' (rd lt dk a' b' lim wb wp).pivot = (mid, ap, d4) := ⟨_, _, _, rfl⟩
                      obtain ⟨r1, r2, r3, r4, r5, r6, r7⟩ := round_part hO (partition_holds lt) hpv.1 hpv.2 (show b' ≤ (rd lt dk a' b' lim wb wp).pi.1.size by omega) B3 hx
                      have hc22 := partition_any HE.out a' b' (rd lt dk a' b' lim wb wp).pivot (rd lt dk a' b' lim wb wp).pi.1 wc S6.i hpv.1 hpv.2 (by omega)
                      rw [hx] at hc22
                      have X : Hid (partition lt (rd lt dk a' b' lim wb wp).pi.1 a' b' (rd lt dk a' b' lim wb wp).pivot = (mid, ap, d4)) := hx
                      clear hx
                      go_upto_if 109 with (go_at_call 186; refine hc22.mono ?_; rintro e w7 ⟨rfl, hI7, hS7⟩)
                      have hx := X.out
                      have S7 := S6.step HB.out hI7 hS7
                      clear q0 q1
                      have p0 := S7.c0
                      have p1 := S7.c1
                      have hs4 : d4.size = n := HE.out.size _ _ S7.i
                      by_cases h4 : mid - a' < b' - mid
                      · have h4z : (mid : Int) - (a' : Int) < (b' : Int) - (mid : Int) := by omega
                        have hih := HI.out a' mid (rd lt dk a' b' lim wb wp).lim d4 w7 (by omega) S7.i (by omega) (by omega) (Nat.lt_of_le_of_lt (Nat.le_trans rd_lim_le hlim) hlimit) r4
                        obtain ⟨pL, sL⟩ := pdq_sorts lt hO d4 a' mid (rd lt dk a' b' lim wb wp).lim true true (by omega) (by omega) r4
                        go_wp2_with (go_at_call 157; refine hih.mono ?_; rintro e w8 ⟨rfl, hI8, hS8⟩)
                        go_roundg (b' - (mid + 1))
                        case measure => omega
                        case rel =>
                          refine ⟨mid + 1, b', (rd lt dk a' b' lim wb wp).lim, decide (mid - a' ≥ (b' - a') / 8), ap, pdq lt d4 a' mid (rd lt dk a' b' lim wb wp).lim true true, by simp, rfl, rfl, ?_, rfl, by omega, by omega, Nat.le_refl _, by omega, Nat.le_trans rd_lim_le hlim, (r6 _ pL sL).1, S7.step HB.out hI8 hS8, ?_⟩
                          · exact congrArg Value.bool (eighth (by omega) (by omega))
                          · show _ = _
                            rw [← A.out, pdq_left h12 hl0 hp2 h87 (by rw [hx]; exact ⟨r1, r2⟩) (by rw [hx]; exact h4), hx]
                      · have h4z : ¬ ((mid : Int) - (a' : Int) < (b' : Int) - (mid : Int)) := by omega
                        have hih := HI.out (mid + 1) b' (rd lt dk a' b' lim wb wp).lim d4 w7 (by omega) S7.i (by omega) (by omega) (Nat.lt_of_le_of_lt (Nat.le_trans rd_lim_le hlim) hlimit) r5
                        rw [show ((mid + 1 : Nat) : Int) = (mid : Int) + 1 by omega] at hih
                        obtain ⟨pL, sL⟩ := pdq_sorts lt hO d4 (mid + 1) b' (rd lt dk a' b' lim wb wp).lim true true (by omega) (by omega) r5
                        go_wp2_with (go_at_call 157; refine hih.mono ?_; rintro e w8 ⟨rfl, hI8, hS8⟩)
                        go_roundg (mid - a')
                        case measure => omega
                        case rel =>
                          refine ⟨a', mid, (rd lt dk a' b' lim wb wp).lim, decide (b' - mid ≥ (b' - a') / 8), ap, pdq lt d4 (mid + 1) b' (rd lt dk a' b' lim wb wp).lim true true, rfl, rfl, rfl, ?_, rfl, by omega, by omega, Nat.le_refl _, by omega, Nat.le_trans rd_lim_le hlim, (r7 _ pL sL).1, S7.step HB.out hI8 hS8, ?_⟩
                          · exact congrArg Value.bool (eighth (by omega) (by omega))
                          · show _ = _
                            rw [← A.out, pdq_right h12 hl0 hp2 h87 (by rw [hx]; exact ⟨r1, r2⟩) (by rw [hx]; exact h4), hx]
                    · have h87' := h87
                      simp only [Bool.and_eq_true, decide_eq_true_eq, Bool.not_eq_true'] at h87'
                      obtain ⟨mid, d4, hx⟩ : ∃ mid d4, partitionEqual lt (rd lt dk a' b' lim wb wp).pi.1 a' b' (rd lt dk a' b' lim wb wp).pivot = (mid, d4) := ⟨_, _, rfl⟩
                      obtain ⟨r1, r2, r3, r4, _⟩ := round_eq hO (partitionEqual_holds lt) h87'.1 hpv.1 hpv.2 (show b' ≤ (rd lt dk a' b' lim wb wp).pi.1.size by omega) B3 h87'.2 hx
                      have hc21 := partitionEqual_any HE.out a' b' (rd lt dk a' b' lim wb wp).pivot (rd lt dk a' b' lim wb wp).pi.1 wc S6.i hpv.1 hpv.2 (by omega)
                      rw [hx] at hc21
                      have X : Hid (partitionEqual lt (rd lt dk a' b' lim wb wp).pi.1 a' b' (rd lt dk a' b' lim wb wp).pivot = (mid, d4)) := hx
                      clear hx
                      go_wp2_with (go_at_call 185; refine hc21.mono ?_; rintro e w7 ⟨rfl, hI7, hS7⟩)
                      go_roundg (b' - mid)
                      case measure => omega
                      case rel =>
                        have hx := X.out
                        exact ⟨mid, b', (rd lt dk a' b' lim wb wp).lim, wb, wp, d4, rfl, rfl, rfl, rfl, rfl, r2, hb', Nat.le_refl _, by omega, Nat.le_trans rd_lim_le hlim, r4, S6.step HB.out hI7 hS7, by show _ = _; rw [← A.out, pdq_eq h12 hl0 hp2 h87 (by rw [hx]; exact ⟨r1, r2⟩), hx]⟩
end Go.Proofs.YtollijngiioonaaGreat

/- How the program holds the heads of two terms against each other. Conditions: none. -/
namespace Go.Proofs.YtollijngiioonaaGreat
set_option maxRecDepth 100000
open Go.RowKit

theorem isNaN_any (x : Int) (w : World) : Calls Tryz.prog 137 #[.int .i64 x] w fun e w' => e = .returned (.bool false) ∧ w' = w := by
  have h : (x != x) = false := by simp
  go_enter Tryz.func137, Tryz.ntmps137
  go_wp2
  go_ret
  exact ⟨rfl, rfl⟩

theorem compare_any (x y : Int) (w : World) : Calls Tryz.prog 97 #[.int .i64 x, .int .i64 y] w fun e w' => e = .returned (.int .i64 (cmpI x y)) ∧ w' = w := by
  by_cases h1 : x < y
  · have HC : Hid (cmpI x y = -1) := by show _ = _; unfold cmpI; rw [if_pos h1]
    go_enter Tryz.func97, Tryz.ntmps97
    go_wp2_with (go_at_call 137; refine (isNaN_any _ _).mono ?_; rintro e w' ⟨rfl, rfl⟩)
    go_ret
    exact ⟨rtI HC.out.symm, rfl⟩
  · by_cases h2 : y < x
    · have HC : Hid (cmpI x y = 1) := by show _ = _; unfold cmpI; rw [if_neg h1, if_pos h2]
      go_enter Tryz.func97, Tryz.ntmps97
      go_wp2_with (go_at_call 137; refine (isNaN_any _ _).mono ?_; rintro e w' ⟨rfl, rfl⟩)
      go_ret
      exact ⟨rtI HC.out.symm, rfl⟩
    · have HC : Hid (cmpI x y = 0) := by show _ = _; unfold cmpI; rw [if_neg h1, if_neg h2]
      go_enter Tryz.func97, Tryz.ntmps97
      go_wp2_with (go_at_call 137; refine (isNaN_any _ _).mono ?_; rintro e w' ⟨rfl, rfl⟩)
      go_ret
      exact ⟨rtI HC.out.symm, rfl⟩

theorem or3_any (g : Nat) (x y z : Int) (w : World) (h0 : w.cell? ⟨g, 0, none⟩ = some (.int .i64 x)) (h1 : w.cell? ⟨g, 1, none⟩ = some (.int .i64 y)) (h2 : w.cell? ⟨g, 2, none⟩ = some (.int .i64 z)) :
    Calls Tryz.prog 147 #[.slice (some ⟨g, 0, none⟩) 3 3] w fun e w' => e = .returned (.int .i64 (or3 x y z)) ∧ w' = w := by
  go_enter Tryz.func147, Tryz.ntmps147
  go_wp2
  refine wp_loop_rounds 4 ?_
  rw [rounds_succ]
  by_cases e0 : x = 0
  · have b0 : (x != 0) = false := by simp [e0]
    go_wp2
    rw [rounds_succ]
    by_cases e1 : y = 0
    · have b1 : (y != 0) = false := by simp [e1]
      go_wp2
      rw [rounds_succ]
      by_cases e2 : z = 0
      · have b2 : (z != 0) = false := by simp [e2]
        have HC : Hid (or3 x y z = 0) := by show _ = _; unfold or3; simp [e0, e1, e2]
        clear e0 e1 e2
        go_wp2
        rw [rounds_succ]
        go_wp2
        go_ret
        exact ⟨rtI HC.out.symm, rfl⟩
      · have b2 : (z != 0) = true := by simp [e2]
        have HC : Hid (or3 x y z = z) := by show _ = _; unfold or3; simp [e0, e1]
        clear e0 e1 e2
        go_wp2
        go_ret
        exact ⟨rtI HC.out.symm, rfl⟩
    · have b1 : (y != 0) = true := by simp [e1]
      have HC : Hid (or3 x y z = y) := by show _ = _; unfold or3; simp [e0, e1]
      clear e0 e1
      go_wp2
      go_ret
      exact ⟨rtI HC.out.symm, rfl⟩
  · have b0 : (x != 0) = true := by simp [e0]
    have HC : Hid (or3 x y z = x) := by show _ = _; unfold or3; simp [e0]
    clear e0
    go_wp2
    go_ret
    exact ⟨rtI HC.out.symm, rfl⟩

set_option maxHeartbeats 1600000 in
theorem headOrder_any (t u : TermD) (a a' : Option Addr) (c c' : Nat) (w : World) :
    Calls Tryz.prog 127 #[.agg #[.int .i64 t.f, .int .i64 t.v, .slice a t.kids.length c], .agg #[.int .i64 u.f, .int .i64 u.v, .slice a' u.kids.length c']] w fun e w' => e = .returned (.int .i64 (headO t u)) ∧ Below w.heap.size w w' := by
  have HC : Hid (headO t u = or3 (cmpI t.f u.f) (cmpI t.v u.v) (cmpI t.kids.length u.kids.length)) := rfl
  generalize t.kids.length = n at *
  generalize u.kids.length = m at *
  go_enter Tryz.func127, Tryz.ntmps127
  go_wp2_with fail
  go_region_held3 (fun w' => w'.cell? ⟨w.heap.size, 0, none⟩ = some (.int .i64 t.f) ∧ w'.cell? ⟨w.heap.size, 1, none⟩ = some (.int .i64 t.v) ∧ w'.cell? ⟨w.heap.size, 2, none⟩ = some (.slice a n c) ∧ w'.cell? ⟨w.heap.size + 1, 0, none⟩ = some (.int .i64 u.f) ∧ w'.cell? ⟨w.heap.size + 1, 1, none⟩ = some (.int .i64 u.v) ∧ w'.cell? ⟨w.heap.size + 1, 2, none⟩ = some (.slice a' m c')) (first | go_keep | skip)
    (first | (go_at_call 97; refine (compare_any _ _ _).mono ?_; rintro e w' ⟨rfl, hw⟩; subst w') | (go_at_call 147; refine (or3_any _ (cmpI t.f u.f) (cmpI t.v u.v) (cmpI n m) _ ?_ ?_ ?_).mono ?_; (simp [go_sem]); (simp [go_sem]); (simp [go_sem]); rintro e w' ⟨rfl, hw⟩; subst w'))
  go_wp2_with fail
  go_ret
  exact ⟨rtI HC.out.symm, (((((Below.refl w.heap.size w).alloc (Nat.le_refl _) _).alloc (by simp) _).alloc (by simp; omega) _).drew)⟩
end Go.Proofs.YtollijngiioonaaGreat

/- The rest of a slice of terms behind its first. Conditions: none. -/
namespace Go.Proofs.YtollijngiioonaaGreat
set_option maxRecDepth 100000
open Go.RowKit

theorem slice_tail (b off n c : Nat) (w : World) : (Instr.slice 25 (.slice (some ⟨b, off, none⟩) (n + 1) c) (some (.int .i64 1)) none none).run Tryz.prog w = .ok (.slice (tailA b off c) n (c - 1)) w := by
  have h0 : (sizeOf 27).run Tryz.prog w = .ok 3 w := by simp [go_sem]
  simp only [Instr.slice, Sem.run_bind, run_underlying Tryz.underlying25, Result.andThen]
  have hb : (Instr.sliceBounds true (n + 1) c (some (.int .i64 1)) none none).run Tryz.prog w = .ok (1, n + 1, c) w := by
    simp [Instr.sliceBounds, Instr.sliceBound, asIntOf, go_sem]
    omega
  simp only [hb, h0, Sem.run_pure]
  unfold tailA
  split <;> simp [Addr.add]
theorem sliceAt_tail (b off n c : Nat) (w : World) : (Instr.sliceAt 25 (.slice (some ⟨b, off, none⟩) (n + 1) c) (some (.int .i64 1)) none none).run Tryz.prog w = .ok (.slice (tailA b off c) n (c - 1)) w := by
  simp only [Instr.sliceAt, Sem.run_bind, run_underlying Tryz.underlying25, Result.andThen, slice_tail b off n c w]

end Go.Proofs.YtollijngiioonaaGreat

