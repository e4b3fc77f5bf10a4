/- What the proof of FnExactLitMake stands on, part 5 of 10: each piece says what it proves and under which conditions. Conditions: as each piece says. -/
import Derived.Test.YtollijngiioonaaPackExactLitMake4
import Derived.Sort.WalkA
import Derived.Shelf.Small.Bits
import Derived.Shelf.Small.Wraps
import Derived.Shelf.Strconv.Itoa0
import Derived.Ground.GgsProg
import Derived.Shelf.GgSortFunc.Tiny
import Derived.Shelf.SlSortFunc.Xorshift
import Derived.Test.YtollijngiioonaaProg
import Derived.Sort.Walk7
import Derived.Deep.LoopGhost
/- sort.partition_func, by a comparison that may lay blocks. Conditions: rows of less than 2^62 elements. -/
namespace Go.Proofs.Ytollijngiioonaa
set_option maxRecDepth 100000
open Go.RowKit Go.Sort

variable {α : Type} [Inhabited α]
variable {g : Nat} {lb : Array Value} {sf : Nat} {sb : Array Value} {lt : α → α → Bool} {n blk base : Nat} {I : Array α → World → Prop}

set_option maxHeartbeats 8000000 in
theorem partition_any (E : SEnv g lb sf sb lt n blk base I) (a b pivot : Nat) (d : Array α) (w : World) (h : I d w) (hap : a ≤ pivot) (hpb : pivot < b) (hb : b ≤ n) :
    Calls Try.prog 116 #[.agg #[.func (.func g) #[] lb, .func (.func sf) #[] sb], .int .i64 a, .int .i64 b, .int .i64 pivot] w fun e w' => e = .returned (.tuple #[.int .i64 (partition lt d a b pivot).1, .bool (partition lt d a b pivot).2.1]) ∧ I (partition lt d a b pivot).2.2 w' ∧ Stay (fun k => k ≠ blk) w w' := by
  have eg := E.eg
  have hbig := E.big
  have HB : Hid (w.heap.size ≠ blk) := by have := E.lt _ _ h; have := E.bb; show _ ≠ _; omega
  have HE : Hid (SEnv g lb sf sb lt n blk base I) := E
  have S0 := SSt.start E h 128
  obtain ⟨W, hW⟩ : ∃ W, W = w.alloc (.cells #[.func (.func g) #[] lb, .func (.func sf) #[] sb] 128) := ⟨_, rfl⟩
  rw [← hW] at S0
  obtain ⟨W1, hrun0, hI1, hS1⟩ := E.swapI d W a pivot a pivot rfl rfl S0.i (by omega) (by omega)
  have S1' := S0.step HB.out hI1 hS1
  rw [hW] at hrun0
  have z0 : (w.alloc (.cells #[.func (.func g) #[] lb, .func (.func sf) #[] sb] 128)).cell? ⟨w.heap.size, 0, none⟩ = some (.func (.func g) #[] lb) := by simp
  have z1 : (w.alloc (.cells #[.func (.func g) #[] lb, .func (.func sf) #[] sb] 128)).cell? ⟨w.heap.size, 1, none⟩ = some (.func (.func sf) #[] sb) := by simp
  clear E h S0 hI1 hS1 hW
  obtain ⟨i, Hi⟩ : ∃ i, Hid (i = a + 1) := ⟨_, rfl⟩
  obtain ⟨j, Hj⟩ : ∃ j, Hid (j = b - 1) := ⟨_, rfl⟩
  obtain ⟨dk, Hdk⟩ : ∃ dk, Hid (dk = swp d a pivot) := ⟨_, rfl⟩
  have S : SSt blk I w w.heap.size g lb sf sb dk W1 := by rw [Hdk.out]; exact S1'
  have hij : i ≤ j + 1 := by have := Hi.out; have := Hj.out; omega
  have hai : a < i := by have := Hi.out; omega
  have hjb : j < b := by have := Hj.out; omega
  have hic : (a : Int) + 1 = (i : Int) := by have := Hi.out; omega
  have hjc : (b : Int) - 1 = (j : Int) := by have := Hj.out; omega
  clear S1'
  go_enter Try.func116, Try.ntmps116
  go_wp2
  go_loopw [10] (fun vi w1 => ∃ i1 : Nat, vi = .int .i64 i1 ∧ i ≤ i1 ∧ i1 ≤ j + 1 ∧ SSt blk I w w.heap.size g lb sf sb dk w1 ∧ Hid (scanUp (fun x => lt x dk[a]!) dk j i1 = scanUp (fun x => lt x dk[a]!) dk j i)) (fun vi _ => j + 1 - (intOf vi).toNat)
  case atStart => exact ⟨i, by first | rfl | go_num | (congr 1; omega), Nat.le_refl _, hij, S, rfl⟩
  case round =>
    obtain ⟨i1, rfl, h1, h2, S1, HU⟩ := hrel
    have c0 := S1.c0
    have c1 := S1.c1
    by_cases hle : i1 ≤ j
    · have hlez : (i1 : Int) ≤ (j : Int) := by omega
      cases hv : lt dk[i1]! dk[a]! with
      | true =>
        have hl := HE.out.lessV dk i1 a i1 a true hv rfl rfl (by omega) (by omega) _ S1.i
        have HU2 : Hid (scanUp (fun x => lt x dk[a]!) dk j (i1 + 1) = scanUp (fun x => lt x dk[a]!) dk j i) := (scanUp_go (fun x => lt x dk[a]!) dk j i1 hle (hv)).symm.trans HU.out
        go_wp2_with (go_at_fn g; refine hl.mono ?_; rintro e w4 ⟨rfl, hI4, hS4⟩; have S4 := S1.step HB.out hI4 hS4; clear hl)
        go_roundw
        case rel =>
          first
            | exact ⟨i1 + 1, by go_num, by omega, by omega, S4, HU2⟩
            | ((repeat apply Exists.intro); refine ⟨?_, rfl⟩; exact ⟨i1 + 1, by go_num, by omega, by omega, S4, HU2⟩)
            | ((repeat apply Exists.intro); exact ⟨⟨i1 + 1, by go_num, by omega, by omega, S4, HU2⟩, by rw [DEC.out, show ((i1 + 1 : Nat) : Int) = (i1 : Int) + 1 by omega]⟩)
        case measure => simp [intOf] <;> omega
      | false =>
        have hl := HE.out.lessV dk i1 a i1 a false hv rfl rfl (by omega) (by omega) _ S1.i
        have HI : Hid (i1 = scanUp (fun x => lt x dk[a]!) dk j i) := (scanUp_end (fun x => lt x dk[a]!) dk j i1 (Or.inr (hv))).symm.trans HU.out
        go_wp2_with (go_at_fn g; refine hl.mono ?_; rintro e w4 ⟨rfl, hI4, hS4⟩; have S2 := S1.step HB.out hI4 hS4; clear hl c0 c1)
        go_loopw [11] (fun vj w2 => ∃ j1 : Nat, vj = .int .i64 j1 ∧ j1 ≤ j ∧ i1 ≤ j1 + 1 ∧ SSt blk I w w.heap.size g lb sf sb dk w2 ∧ Hid (scanDown (fun x => !lt x dk[a]!) dk i1 j1 = scanDown (fun x => !lt x dk[a]!) dk i1 j)) (fun vj _ => (intOf vj).toNat)
        case atStart => exact ⟨j, by first | rfl | go_num | (congr 1; omega), Nat.le_refl _, h2, S2, rfl⟩
        case round =>
          obtain ⟨j1, rfl, g1, g2, S3, HD⟩ := hrel
          have k0 := S3.c0
          have k1 := S3.c1
          by_cases hle2 : i1 ≤ j1
          · have hle2z : (i1 : Int) ≤ (j1 : Int) := by omega
            cases hv2 : lt dk[j1]! dk[a]! with
            | false =>
              have hl := HE.out.lessV dk j1 a j1 a false hv2 rfl rfl (by omega) (by omega) _ S3.i
              have HD2 : Hid (scanDown (fun x => !lt x dk[a]!) dk i1 (j1 - 1) = scanDown (fun x => !lt x dk[a]!) dk i1 j) := (scanDown_go (fun x => !lt x dk[a]!) dk i1 j1 hle2 (by omega) (by simp [hv2])).symm.trans HD.out
              go_wp2_with (go_at_fn g; refine hl.mono ?_; rintro e w4 ⟨rfl, hI4, hS4⟩; have S4 := S3.step HB.out hI4 hS4; clear hl)
              go_roundw
              case rel =>
                first
                  | exact ⟨j1 - 1, by congr 1 <;> omega, by omega, by omega, S4, HD2⟩
                  | ((repeat apply Exists.intro); refine ⟨?_, rfl⟩; exact ⟨j1 - 1, by congr 1 <;> omega, by omega, by omega, S4, HD2⟩)
                  | ((repeat apply Exists.intro); exact ⟨⟨j1 - 1, by congr 1 <;> omega, by omega, by omega, S4, HD2⟩, by rw [DEC.out, show ((j1 - 1 : Nat) : Int) = (j1 : Int) - 1 by omega]⟩)
              case measure => simp [intOf] <;> omega
            | true =>
              have hl := HE.out.lessV dk j1 a j1 a true hv2 rfl rfl (by omega) (by omega) _ S3.i
              have HJ : Hid (j1 = scanDown (fun x => !lt x dk[a]!) dk i1 j) := (scanDown_end (fun x => !lt x dk[a]!) dk i1 j1 (Or.inr (by simp [hv2]))).symm.trans HD.out
              have hlt3 := part_scans_lt lt a i j dk (by omega) HI.out HJ.out hle2
              have hngt : ¬ (j1 : Int) < (i1 : Int) := by omega
              go_wp2_with (go_at_fn g; refine hl.mono ?_; rintro e w4 ⟨rfl, hI4, hS4⟩; have S4 := S3.step HB.out hI4 hS4; have m0 := S4.c0; have m1 := S4.c1; obtain ⟨W5, hrun, hI5, hS5⟩ := HE.out.swapI dk w4 i1 j1 i1 j1 rfl rfl S4.i (by omega) (by omega); have S5 := S4.step HB.out hI5 hS5; clear hl)
              obtain ⟨R, HR⟩ : ∃ R, Hid (R = partLoop lt a (i1 + 1) (j1 - 1) (swp dk i1 j1)) := ⟨_, rfl⟩
              have HP : Hid (partition lt d a b pivot = (R.1, false, swp R.2 R.1 a)) := by show _ = _; rw [HR.out]; exact part_first_go lt d a b pivot Hi.out Hj.out Hdk.out HI.out HJ.out (by omega)
              clear HU HD S S1 S2 S3 S4 k0 k1 hrun m0 m1
              have B1 : Hid (i1 < j1) := hlt3
              have DEC : Hid (decide (j1 < i1) = false) := by show _ = _; simp; omega
              clear hngt hlt3 hle2 hle2z
              go_loopw [10, 11] (fun vi vj wr => ∃ (i j : Nat) (dk : Array α), vi = .int .i64 i ∧ vj = .int .i64 j ∧ a < i ∧ i ≤ j + 1 ∧ j < b ∧ SSt blk I w w.heap.size g lb sf sb dk wr ∧ Hid (partLoop lt a i j dk = R)) (fun vi vj _ => (intOf vj).toNat + 1 - (intOf vi).toNat)
              case atStart => exact ⟨i1 + 1, j1 - 1, swp dk i1 j1, by go_num, by have := B1.out; congr 1; omega, by omega, by have := B1.out; omega, by omega, S5, HR.out.symm⟩
              case round =>
                clear S5 HI HJ HR Hi Hj Hdk hv hv2
                obtain ⟨i, j, dk, rfl, rfl, hai, hij, hjb, S, HK⟩ := hrel
                go_wp2
                go_loopw [10] (fun vi w1 => ∃ i1 : Nat, vi = .int .i64 i1 ∧ i ≤ i1 ∧ i1 ≤ j + 1 ∧ SSt blk I w w.heap.size g lb sf sb dk w1 ∧ Hid (scanUp (fun x => lt x dk[a]!) dk j i1 = scanUp (fun x => lt x dk[a]!) dk j i)) (fun vi _ => j + 1 - (intOf vi).toNat)
                case atStart => exact ⟨i, by first | rfl | go_num | (congr 1; omega), Nat.le_refl _, hij, S, rfl⟩
                case round =>
                  obtain ⟨i1, rfl, h1, h2, S1, HU⟩ := hrel
                  have c0 := S1.c0
                  have c1 := S1.c1
                  by_cases hle : i1 ≤ j
                  · have hlez : (i1 : Int) ≤ (j : Int) := by omega
                    cases hv : lt dk[i1]! dk[a]! with
                    | true =>
                      have hl := HE.out.lessV dk i1 a i1 a true hv rfl rfl (by omega) (by omega) _ S1.i
                      have HU2 : Hid (scanUp (fun x => lt x dk[a]!) dk j (i1 + 1) = scanUp (fun x => lt x dk[a]!) dk j i) := (scanUp_go (fun x => lt x dk[a]!) dk j i1 hle (hv)).symm.trans HU.out
                      go_wp2_with (go_at_fn g; refine hl.mono ?_; rintro e w4 ⟨rfl, hI4, hS4⟩; have S4 := S1.step HB.out hI4 hS4; clear hl)
                      go_roundw
                      case rel =>
                        first
                          | exact ⟨i1 + 1, by go_num, by omega, by omega, S4, HU2⟩
                          | ((repeat apply Exists.intro); refine ⟨?_, rfl⟩; exact ⟨i1 + 1, by go_num, by omega, by omega, S4, HU2⟩)
                          | ((repeat apply Exists.intro); exact ⟨⟨i1 + 1, by go_num, by omega, by omega, S4, HU2⟩, by rw [DEC.out, show ((i1 + 1 : Nat) : Int) = (i1 : Int) + 1 by omega]⟩)
                      case measure => simp [intOf] <;> omega
                    | false =>
                      have hl := HE.out.lessV dk i1 a i1 a false hv rfl rfl (by omega) (by omega) _ S1.i
                      have HI : Hid (i1 = scanUp (fun x => lt x dk[a]!) dk j i) := (scanUp_end (fun x => lt x dk[a]!) dk j i1 (Or.inr (hv))).symm.trans HU.out
                      go_wp2_with (go_at_fn g; refine hl.mono ?_; rintro e w4 ⟨rfl, hI4, hS4⟩; have S2 := S1.step HB.out hI4 hS4; clear hl c0 c1)
                      go_loopw [11] (fun vj w2 => ∃ j1 : Nat, vj = .int .i64 j1 ∧ j1 ≤ j ∧ i1 ≤ j1 + 1 ∧ SSt blk I w w.heap.size g lb sf sb dk w2 ∧ Hid (scanDown (fun x => !lt x dk[a]!) dk i1 j1 = scanDown (fun x => !lt x dk[a]!) dk i1 j)) (fun vj _ => (intOf vj).toNat)
                      case atStart => exact ⟨j, by first | rfl | go_num | (congr 1; omega), Nat.le_refl _, h2, S2, rfl⟩
                      case round =>
                        obtain ⟨j1, rfl, g1, g2, S3, HD⟩ := hrel
                        have k0 := S3.c0
                        have k1 := S3.c1
                        by_cases hle2 : i1 ≤ j1
                        · have hle2z : (i1 : Int) ≤ (j1 : Int) := by omega
                          cases hv2 : lt dk[j1]! dk[a]! with
                          | false =>
                            have hl := HE.out.lessV dk j1 a j1 a false hv2 rfl rfl (by omega) (by omega) _ S3.i
                            have HD2 : Hid (scanDown (fun x => !lt x dk[a]!) dk i1 (j1 - 1) = scanDown (fun x => !lt x dk[a]!) dk i1 j) := (scanDown_go (fun x => !lt x dk[a]!) dk i1 j1 hle2 (by omega) (by simp [hv2])).symm.trans HD.out
                            go_wp2_with (go_at_fn g; refine hl.mono ?_; rintro e w4 ⟨rfl, hI4, hS4⟩; have S4 := S3.step HB.out hI4 hS4; clear hl)
                            go_roundw
                            case rel =>
                              first
                                | exact ⟨j1 - 1, by congr 1 <;> omega, by omega, by omega, S4, HD2⟩
                                | ((repeat apply Exists.intro); refine ⟨?_, rfl⟩; exact ⟨j1 - 1, by congr 1 <;> omega, by omega, by omega, S4, HD2⟩)
                                | ((repeat apply Exists.intro); exact ⟨⟨j1 - 1, by congr 1 <;> omega, by omega, by omega, S4, HD2⟩, by rw [DEC.out, show ((j1 - 1 : Nat) : Int) = (j1 : Int) - 1 by omega]⟩)
                            case measure => simp [intOf] <;> omega
                          | true =>
                            have hl := HE.out.lessV dk j1 a j1 a true hv2 rfl rfl (by omega) (by omega) _ S3.i
                            have HJ : Hid (j1 = scanDown (fun x => !lt x dk[a]!) dk i1 j) := (scanDown_end (fun x => !lt x dk[a]!) dk i1 j1 (Or.inr (by simp [hv2]))).symm.trans HD.out
                            have hlt3 := part_scans_lt lt a i j dk (by omega) HI.out HJ.out hle2
                            have hngt : ¬ (j1 : Int) < (i1 : Int) := by omega
                            go_wp2_with (go_at_fn g; refine hl.mono ?_; rintro e w4 ⟨rfl, hI4, hS4⟩; have S4 := S3.step HB.out hI4 hS4; have m0 := S4.c0; have m1 := S4.c1; obtain ⟨W5, hrun, hI5, hS5⟩ := HE.out.swapI dk w4 i1 j1 i1 j1 rfl rfl S4.i (by omega) (by omega); have S5 := S4.step HB.out hI5 hS5; clear hl)
                            have HN : Hid (partLoop lt a (i1 + 1) (j1 - 1) (swp dk i1 j1) = R) := by show _ = _; rw [← HK.out]; exact (part_go lt a i j dk HI.out HJ.out (by omega)).symm
                            go_roundw
                            case rel =>
                              first
                                | exact ⟨i1 + 1, j1 - 1, swp dk i1 j1, by go_num, by congr 1 <;> omega, by omega, by omega, by omega, S5, HN⟩
                                | ((repeat apply Exists.intro); refine ⟨?_, rfl⟩; exact ⟨i1 + 1, j1 - 1, swp dk i1 j1, by go_num, by congr 1 <;> omega, by omega, by omega, by omega, S5, HN⟩)
                                | ((repeat apply Exists.intro); exact ⟨⟨i1 + 1, j1 - 1, swp dk i1 j1, by go_num, by congr 1 <;> omega, by omega, by omega, by omega, S5, HN⟩, by rw [DEC.out, show ((i1 + 1 : Nat) : Int) = (i1 : Int) + 1 by omega, show ((j1 - 1 : Nat) : Int) = (j1 : Int) - 1 by omega]⟩)
                            case measure => simp [intOf] <;> omega
                        · have hle2z : ¬ (i1 : Int) ≤ (j1 : Int) := by omega
                          have HJ : Hid (j1 = scanDown (fun x => !lt x dk[a]!) dk i1 j) := (scanDown_end (fun x => !lt x dk[a]!) dk i1 j1 (Or.inl hle2)).symm.trans HD.out
                          have hgt : (j1 : Int) < (i1 : Int) := by omega
                          have HN : Hid (R = (j1, dk)) := by show _ = _; rw [← HK.out]; exact part_break lt a i j dk HI.out HJ.out (by omega)
                          have HX : Hid (partition lt d a b pivot = (j1, false, swp dk j1 a)) := by show _ = _; rw [HP.out, HN.out]
                          obtain ⟨W6, hrun6, hI6, hS6⟩ := HE.out.swapI dk _ j1 a j1 a rfl rfl S3.i (by omega) (by omega)
                          have S6 := S3.step HB.out hI6 hS6
                          go_wp2
                          go_ret2
                          exact ⟨by rw [HX.out]; rfl, by rw [HX.out]; exact S6.i, S6.st⟩
                  · have hlez : ¬ (i1 : Int) ≤ (j : Int) := by omega
                    have HI : Hid (i1 = scanUp (fun x => lt x dk[a]!) dk j i) := (scanUp_end (fun x => lt x dk[a]!) dk j i1 (Or.inl hle)).symm.trans HU.out
                    clear c0 c1
                    go_wp2
                    go_loopw [11] (fun vj w2 => ∃ j1 : Nat, vj = .int .i64 j1 ∧ j1 ≤ j ∧ i1 ≤ j1 + 1 ∧ SSt blk I w w.heap.size g lb sf sb dk w2 ∧ Hid (scanDown (fun x => !lt x dk[a]!) dk i1 j1 = scanDown (fun x => !lt x dk[a]!) dk i1 j)) (fun vj _ => (intOf vj).toNat)
                    case atStart => exact ⟨j, by first | rfl | go_num | (congr 1; omega), Nat.le_refl _, h2, S1, rfl⟩
                    case round =>
                      obtain ⟨j1, rfl, g1, g2, S3, HD⟩ := hrel
                      have k0 := S3.c0
                      have k1 := S3.c1
                      by_cases hle2 : i1 ≤ j1
                      · exfalso; omega
                      · have hle2z : ¬ (i1 : Int) ≤ (j1 : Int) := by omega
                        have HJ : Hid (j1 = scanDown (fun x => !lt x dk[a]!) dk i1 j) := (scanDown_end (fun x => !lt x dk[a]!) dk i1 j1 (Or.inl hle2)).symm.trans HD.out
                        have hgt : (j1 : Int) < (i1 : Int) := by omega
                        have HN : Hid (R = (j1, dk)) := by show _ = _; rw [← HK.out]; exact part_break lt a i j dk HI.out HJ.out (by omega)
                        have HX : Hid (partition lt d a b pivot = (j1, false, swp dk j1 a)) := by show _ = _; rw [HP.out, HN.out]
                        obtain ⟨W6, hrun6, hI6, hS6⟩ := HE.out.swapI dk _ j1 a j1 a rfl rfl S3.i (by omega) (by omega)
                        have S6 := S3.step HB.out hI6 hS6
                        go_wp2
                        go_ret2
                        exact ⟨by rw [HX.out]; rfl, by rw [HX.out]; exact S6.i, S6.st⟩
          · have hle2z : ¬ (i1 : Int) ≤ (j1 : Int) := by omega
            have HJ : Hid (j1 = scanDown (fun x => !lt x dk[a]!) dk i1 j) := (scanDown_end (fun x => !lt x dk[a]!) dk i1 j1 (Or.inl hle2)).symm.trans HD.out
            have hgt : (j1 : Int) < (i1 : Int) := by omega
            have HX : Hid (partition lt d a b pivot = (j1, true, swp dk j1 a)) := part_first_break lt d a b pivot Hi.out Hj.out Hdk.out HI.out HJ.out (by omega)
            obtain ⟨W6, hrun6, hI6, hS6⟩ := HE.out.swapI dk _ j1 a j1 a rfl rfl S3.i (by omega) (by omega)
            have S6 := S3.step HB.out hI6 hS6
            go_wp2
            go_ret2
            exact ⟨by rw [HX.out]; rfl, by rw [HX.out]; exact S6.i, S6.st⟩
    · have hlez : ¬ (i1 : Int) ≤ (j : Int) := by omega
      have HI : Hid (i1 = scanUp (fun x => lt x dk[a]!) dk j i) := (scanUp_end (fun x => lt x dk[a]!) dk j i1 (Or.inl hle)).symm.trans HU.out
      clear c0 c1
      go_wp2
      go_loopw [11] (fun vj w2 => ∃ j1 : Nat, vj = .int .i64 j1 ∧ j1 ≤ j ∧ i1 ≤ j1 + 1 ∧ SSt blk I w w.heap.size g lb sf sb dk w2 ∧ Hid (scanDown (fun x => !lt x dk[a]!) dk i1 j1 = scanDown (fun x => !lt x dk[a]!) dk i1 j)) (fun vj _ => (intOf vj).toNat)
      case atStart => exact ⟨j, by first | rfl | go_num | (congr 1; omega), Nat.le_refl _, h2, S1, rfl⟩
      case round =>
        obtain ⟨j1, rfl, g1, g2, S3, HD⟩ := hrel
        have k0 := S3.c0
        have k1 := S3.c1
        by_cases hle2 : i1 ≤ j1
        · exfalso; omega
        · have hle2z : ¬ (i1 : Int) ≤ (j1 : Int) := by omega
          have HJ : Hid (j1 = scanDown (fun x => !lt x dk[a]!) dk i1 j) := (scanDown_end (fun x => !lt x dk[a]!) dk i1 j1 (Or.inl hle2)).symm.trans HD.out
          have hgt : (j1 : Int) < (i1 : Int) := by omega
          have HX : Hid (partition lt d a b pivot = (j1, true, swp dk j1 a)) := part_first_break lt d a b pivot Hi.out Hj.out Hdk.out HI.out HJ.out (by omega)
          obtain ⟨W6, hrun6, hI6, hS6⟩ := HE.out.swapI dk _ j1 a j1 a rfl rfl S3.i (by omega) (by omega)
          have S6 := S3.step HB.out hI6 hS6
          go_wp2
          go_ret2
          exact ⟨by rw [HX.out]; rfl, by rw [HX.out]; exact S6.i, S6.st⟩
end Go.Proofs.Ytollijngiioonaa

/- sort.partialInsertionSort_func, by a comparison that may lay blocks. Conditions: rows of less than 2^62 elements. -/
namespace Go.Proofs.Ytollijngiioonaa
set_option maxRecDepth 100000
open Go.RowKit Go.Sort

variable {α : Type} [Inhabited α]
variable {g : Nat} {lb : Array Value} {sf : Nat} {sb : Array Value} {lt : α → α → Bool} {n blk base : Nat} {I : Array α → World → Prop}

theorem pIns_succ (lt : α → α → Bool) (a b t i : Nat) (d : Array α) : partialIns lt a b (t + 1) i d = if scanSorted lt d b i = b then (d, true) else if b - a < 50 then (d, false) else partialIns lt a b t (scanSorted lt d b i) (if b - scanSorted lt d b i ≥ 2 then shiftUp lt b (scanSorted lt d b i + 1) (if scanSorted lt d b i - a ≥ 2 then shiftDown lt (scanSorted lt d b i - 1) (swp d (scanSorted lt d b i) (scanSorted lt d b i - 1)) else swp d (scanSorted lt d b i) (scanSorted lt d b i - 1)) else (if scanSorted lt d b i - a ≥ 2 then shiftDown lt (scanSorted lt d b i - 1) (swp d (scanSorted lt d b i) (scanSorted lt d b i - 1)) else swp d (scanSorted lt d b i) (scanSorted lt d b i - 1))) := rfl

set_option maxHeartbeats 4000000 in
theorem partialIns_any (E : SEnv g lb sf sb lt n blk base I) (a b : Nat) (d : Array α) (w : World) (h : I d w) (hab : a < b) (hb : b ≤ n) :
    Calls Try.prog 114 #[.agg #[.func (.func g) #[] lb, .func (.func sf) #[] sb], .int .i64 a, .int .i64 b] w fun e w' => e = .returned (.bool (partialInsertionSort lt d a b).2) ∧ I (partialInsertionSort lt d a b).1 w' ∧ Stay (fun k => k ≠ blk) w w' := by
  have eg := E.eg
  have hbig := E.big
  have HB : Hid (w.heap.size ≠ blk) := by have := E.lt _ _ h; have := E.bb; show _ ≠ _; omega
  have HE : Hid (SEnv g lb sf sb lt n blk base I) := E
  have S0 := SSt.start E h 128
  clear E h
  go_enter Try.func114, Try.ntmps114
  go_wp2
  go_loopw [7, 8] (fun vi vs wr => ∃ (i s : Nat) (dk : Array α), vi = .int .i64 i ∧ vs = .int .i64 s ∧ s ≤ 5 ∧ a < i ∧ i ≤ b ∧ SSt blk I w w.heap.size g lb sf sb dk wr ∧ Hid (partialIns lt a b (5 - s) i dk = partialInsertionSort lt d a b)) (fun _ vs _ => 5 - (intOf vs).toNat)
  case atStart => exact ⟨a + 1, 0, d, by go_num, rfl, by omega, by omega, by omega, S0, rfl⟩
  case round =>
    obtain ⟨i, s, dk, rfl, rfl, hs5, hai, hib, S, HS⟩ := hrel
    clear S0
    by_cases hs : s < 5
    · have hsz : (s : Int) < 5 := by omega
      obtain ⟨t, ht⟩ : ∃ t, 5 - s = t + 1 := ⟨4 - s, by omega⟩
      have HS1 : Hid (partialIns lt a b (t + 1) i dk = partialInsertionSort lt d a b) := by have := HS.out; rw [ht] at this; exact this
      have htt : t = 4 - s := by omega
      clear ht HS
      go_wp2
      go_loopw [7] (fun vi w1 => ∃ i1 : Nat, vi = .int .i64 i1 ∧ i ≤ i1 ∧ i1 ≤ b ∧ SSt blk I w w.heap.size g lb sf sb dk w1 ∧ Hid (scanSorted lt dk b i1 = scanSorted lt dk b i)) (fun vi _ => b - (intOf vi).toNat)
      case atStart => exact ⟨i, rfl, Nat.le_refl _, hib, S, rfl⟩
      case round =>
        obtain ⟨i1, rfl, h1, h2, S1, HC⟩ := hrel
        have c0 := S1.c0
        have c1 := S1.c1
        by_cases hlt : i1 < b
        · have hltz : (i1 : Int) < (b : Int) := by omega
          have hi1w : IntKind.i64.wrap ((i1 : Int) - 1) = (i1 : Int) - 1 := by rw [IntKind.wrap_i64]; omega
          cases hv : lt dk[i1]! dk[i1 - 1]! with
          | false =>
            have hl := HE.out.lessV dk i1 (i1 - 1) i1 ((i1 : Int) - 1) false hv rfl (by omega) (by omega) (by omega) _ S1.i
            have HC2 : Hid (scanSorted lt dk b (i1 + 1) = scanSorted lt dk b i) := by have := HC.out; rw [scanSorted] at this; simp only [hlt, hv, decide_true, Bool.not_false, Bool.and_self, if_true] at this; exact this
            go_wp2_with (go_at_fn g; refine hl.mono ?_; rintro e w4 ⟨rfl, hI4, hS4⟩; have S4 := S1.step HB.out hI4 hS4; clear hl)
            go_roundw
            case rel =>
              first
                | exact ⟨i1 + 1, by go_num, by omega, by omega, S4, HC2⟩
                | ((repeat apply Exists.intro); refine ⟨?_, rfl⟩; exact ⟨i1 + 1, by go_num, by omega, by omega, S4, HC2⟩)
            case measure => simp [intOf] <;> omega
          | true =>
            have hl := HE.out.lessV dk i1 (i1 - 1) i1 ((i1 : Int) - 1) true hv rfl (by omega) (by omega) (by omega) _ S1.i
            have HC3 : Hid (scanSorted lt dk b i = i1) := by have := HC.out; rw [scanSorted] at this; simp only [hv, Bool.not_true, Bool.and_false, Bool.false_eq_true, if_false] at this; exact this.symm
            have hne : ((i1 : Int) == (b : Int)) = false := by simp; omega
            by_cases h50 : b - a < 50
            · have h50z : (b : Int) - (a : Int) < 50 := by omega
              have HX : Hid (partialInsertionSort lt d a b = (dk, false)) := by show _ = _; rw [← HS1.out, pIns_succ, HC3.out, if_neg (by omega), if_pos h50]
              go_wp2_with (go_at_fn g; refine hl.mono ?_; rintro e w4 ⟨rfl, hI4, hS4⟩; have S4 := S1.step HB.out hI4 hS4; clear hl)
              go_ret
              exact ⟨by rw [HX.out]; rfl, by rw [HX.out]; exact S4.i, S4.st⟩
            · have h50z : ¬ (b : Int) - (a : Int) < 50 := by omega
              have HQ0 : Hid (partialIns lt a b t i1 (if b - i1 ≥ 2 then shiftUp lt b (i1 + 1) (if i1 - a ≥ 2 then shiftDown lt (i1 - 1) (swp dk i1 (i1 - 1)) else swp dk i1 (i1 - 1)) else (if i1 - a ≥ 2 then shiftDown lt (i1 - 1) (swp dk i1 (i1 - 1)) else swp dk i1 (i1 - 1))) = partialInsertionSort lt d a b) := by have := HS1.out; rw [pIns_succ, HC3.out, if_neg (by omega), if_neg h50] at this; exact this
              by_cases hl2 : 2 ≤ i1 - a
              · have hl2z : (2 : Int) ≤ (i1 : Int) - (a : Int) := by omega
                have HL : Hid (partialIns lt a b t i1 (if b - i1 ≥ 2 then shiftUp lt b (i1 + 1) (shiftDown lt (i1 - 1) (swp dk i1 (i1 - 1))) else shiftDown lt (i1 - 1) (swp dk i1 (i1 - 1))) = partialInsertionSort lt d a b) := by have := HQ0.out; rw [if_pos hl2] at this; exact this
                go_wp2_with (go_at_fn g; refine hl.mono ?_; rintro e w4 ⟨rfl, hI4, hS4⟩; have S4 := S1.step HB.out hI4 hS4; have m0 := S4.c0; have m1 := S4.c1; obtain ⟨W5, hrun, hI5, hS5⟩ := HE.out.swapI dk w4 i1 (i1 - 1) i1 ((i1 : Int) - 1) rfl (by omega) S4.i (by omega) (by omega); have S5 := S4.step HB.out hI5 hS5; clear hl)
                go_loopw [9] (fun vj w2 => ∃ (jd : Nat) (dd : Array α), vj = .int .i64 jd ∧ jd ≤ i1 - 1 ∧ SSt blk I w w.heap.size g lb sf sb dd w2 ∧ Hid (shiftDown lt jd dd = shiftDown lt (i1 - 1) (swp dk i1 (i1 - 1)))) (fun vj _ => (intOf vj).toNat)
                case atStart => exact ⟨i1 - 1, _, by congr 1 <;> omega, Nat.le_refl _, S5, rfl⟩
                case round =>
                  obtain ⟨jd, dd, rfl, q1, SD, HD⟩ := hrel
                  have u0 := SD.c0
                  have u1 := SD.c1
                  cases jd with
                  | zero =>
                    have HQ : Hid (partialIns lt a b t i1 (if b - i1 ≥ 2 then shiftUp lt b (i1 + 1) dd else dd) = partialInsertionSort lt d a b) := by have := HL.out; rw [← HD.out] at this; exact this
                    by_cases hr2 : 2 ≤ b - i1
                    · have hr2z : (2 : Int) ≤ (b : Int) - (i1 : Int) := by omega
                      have HQ2 : Hid (partialIns lt a b t i1 (shiftUp lt b (i1 + 1) dd) = partialInsertionSort lt d a b) := by have := HQ.out; rw [if_pos hr2] at this; exact this
                      go_wp2
                      go_loopw [10] (fun vj w2 => ∃ (ju : Nat) (du : Array α), vj = .int .i64 ju ∧ i1 + 1 ≤ ju ∧ ju ≤ b ∧ SSt blk I w w.heap.size g lb sf sb du w2 ∧ Hid (shiftUp lt b ju du = shiftUp lt b (i1 + 1) dd)) (fun vj _ => b - (intOf vj).toNat)
                      case atStart => exact ⟨i1 + 1, _, by go_num, Nat.le_refl _, by omega, SD, rfl⟩
                      case round =>
                        obtain ⟨ju, du, rfl, q1, q2, SU, HU⟩ := hrel
                        have u0 := SU.c0
                        have u1 := SU.c1
                        by_cases hjb : ju < b
                        · have hjbz : (ju : Int) < (b : Int) := by omega
                          cases hvu : lt du[ju]! du[ju - 1]! with
                          | true =>
                            have hl := HE.out.lessV du ju (ju - 1) ju ((ju : Int) - 1) true hvu rfl (by omega) (by omega) (by omega) _ SU.i
                            have HU2 : Hid (shiftUp lt b (ju + 1) (swp du ju (ju - 1)) = shiftUp lt b (i1 + 1) dd) := by have := HU.out; rw [shiftUp, if_pos hjb, hvu] at this; exact this
                            go_wp2_with (go_at_fn g; refine hl.mono ?_; rintro e w6 ⟨rfl, hI6, hS6⟩; have S6 := SU.step HB.out hI6 hS6; have x0 := S6.c0; have x1 := S6.c1; obtain ⟨W7, hrun7, hI7, hS7⟩ := HE.out.swapI du w6 ju (ju - 1) ju ((ju : Int) - 1) rfl (by omega) S6.i (by omega) (by omega); have S7 := S6.step HB.out hI7 hS7; clear hl)
                            go_roundw
                            case rel =>
                              first
                                | exact ⟨ju + 1, swp du ju (ju - 1), by go_num, by omega, by omega, S7, HU2⟩
                                | ((repeat apply Exists.intro); refine ⟨?_, rfl⟩; exact ⟨ju + 1, swp du ju (ju - 1), by go_num, by omega, by omega, S7, HU2⟩)
                            case measure => simp [intOf] <;> omega
                          | false =>
                            have hl := HE.out.lessV du ju (ju - 1) ju ((ju : Int) - 1) false hvu rfl (by omega) (by omega) (by omega) _ SU.i
                            have HF : Hid (partialIns lt a b t i1 du = partialInsertionSort lt d a b) := by have := HQ2.out; rw [← HU.out, shiftUp, if_pos hjb, hvu] at this; exact this
                            go_wp2_with (go_at_fn g; refine hl.mono ?_; rintro e w6 ⟨rfl, hI6, hS6⟩; have S6 := SU.step HB.out hI6 hS6; clear hl)
                            go_roundw
                            case rel =>
                              first
                                | exact ⟨i1, s + 1, du, rfl, by go_num, by omega, by omega, by omega, S6, by rw [show 5 - (s + 1) = t by omega]; exact HF⟩
                                | ((repeat apply Exists.intro); refine ⟨?_, rfl⟩; exact ⟨i1, s + 1, du, rfl, by go_num, by omega, by omega, by omega, S6, by rw [show 5 - (s + 1) = t by omega]; exact HF⟩)
                            case measure => simp [intOf] <;> omega
                        · have hjbz : ¬ (ju : Int) < (b : Int) := by omega
                          have HF : Hid (partialIns lt a b t i1 du = partialInsertionSort lt d a b) := by have := HQ2.out; rw [← HU.out, shiftUp, if_neg hjb] at this; exact this
                          go_wp2
                          go_roundw
                          case rel =>
                            first
                              | exact ⟨i1, s + 1, du, rfl, by go_num, by omega, by omega, by omega, SU, by rw [show 5 - (s + 1) = t by omega]; exact HF⟩
                              | ((repeat apply Exists.intro); refine ⟨?_, rfl⟩; exact ⟨i1, s + 1, du, rfl, by go_num, by omega, by omega, by omega, SU, by rw [show 5 - (s + 1) = t by omega]; exact HF⟩)
                          case measure => simp [intOf] <;> omega
                    · have hr2z : ¬ (2 : Int) ≤ (b : Int) - (i1 : Int) := by omega
                      have HF : Hid (partialIns lt a b t i1 dd = partialInsertionSort lt d a b) := by have := HQ.out; rw [if_neg hr2] at this; exact this
                      go_wp2
                      go_roundw
                      case rel =>
                        first
                          | exact ⟨i1, s + 1, dd, rfl, by go_num, by omega, by omega, by omega, SD, by rw [show 5 - (s + 1) = t by omega]; exact HF⟩
                          | ((repeat apply Exists.intro); refine ⟨?_, rfl⟩; exact ⟨i1, s + 1, dd, rfl, by go_num, by omega, by omega, by omega, SD, by rw [show 5 - (s + 1) = t by omega]; exact HF⟩)
                      case measure => simp [intOf] <;> omega
                  | succ jd =>
                    simp only [show ((jd + 1 : Nat) : Int) = (jd : Int) + 1 by omega]
                    have hjz : (1 : Int) ≤ (jd : Int) + 1 := by omega
                    have hjw : IntKind.i64.wrap ((jd : Int) + 1 - 1) = (jd : Int) := by rw [IntKind.wrap_i64]; omega
                    cases hvd : lt dd[jd + 1]! dd[jd]! with
                    | true =>
                      have hl := HE.out.lessV dd (jd + 1) jd ((jd : Int) + 1) (jd : Int) true hvd (by omega) rfl (by omega) (by omega) _ SD.i
                      have HD2 : Hid (shiftDown lt jd (swp dd (jd + 1) jd) = shiftDown lt (i1 - 1) (swp dk i1 (i1 - 1))) := by have := HD.out; rw [shiftDown, hvd] at this; exact this
                      go_wp2_with (go_at_fn g; refine hl.mono ?_; rintro e w6 ⟨rfl, hI6, hS6⟩; have S6 := SD.step HB.out hI6 hS6; have x0 := S6.c0; have x1 := S6.c1; obtain ⟨W7, hrun7, hI7, hS7⟩ := HE.out.swapI dd w6 (jd + 1) jd ((jd : Int) + 1) (jd : Int) (by omega) rfl S6.i (by omega) (by omega); have S7 := S6.step HB.out hI7 hS7; clear hl)
                      go_roundw
                      case rel =>
                        first
                          | exact ⟨jd, swp dd (jd + 1) jd, by first | rfl | (congr 1 <;> omega), by omega, S7, HD2⟩
                          | ((repeat apply Exists.intro); refine ⟨?_, rfl⟩; exact ⟨jd, swp dd (jd + 1) jd, by first | rfl | (congr 1 <;> omega), by omega, S7, HD2⟩)
                      case measure => simp [intOf] <;> omega
                    | false =>
                      have hl := HE.out.lessV dd (jd + 1) jd ((jd : Int) + 1) (jd : Int) false hvd (by omega) rfl (by omega) (by omega) _ SD.i
                      have e1 : Hid (shiftDown lt (jd + 1) dd = dd) := by show _ = _; rw [shiftDown, hvd]; rfl
                      have HQ : Hid (partialIns lt a b t i1 (if b - i1 ≥ 2 then shiftUp lt b (i1 + 1) dd else dd) = partialInsertionSort lt d a b) := by have := HL.out; rw [← HD.out, e1.out] at this; exact this
                      by_cases hr2 : 2 ≤ b - i1
                      · have hr2z : (2 : Int) ≤ (b : Int) - (i1 : Int) := by omega
                        have HQ2 : Hid (partialIns lt a b t i1 (shiftUp lt b (i1 + 1) dd) = partialInsertionSort lt d a b) := by have := HQ.out; rw [if_pos hr2] at this; exact this
                        go_wp2_with (go_at_fn g; refine hl.mono ?_; rintro e w6 ⟨rfl, hI6, hS6⟩; have S6 := SD.step HB.out hI6 hS6; clear hl)
                        go_loopw [10] (fun vj w2 => ∃ (ju : Nat) (du : Array α), vj = .int .i64 ju ∧ i1 + 1 ≤ ju ∧ ju ≤ b ∧ SSt blk I w w.heap.size g lb sf sb du w2 ∧ Hid (shiftUp lt b ju du = shiftUp lt b (i1 + 1) dd)) (fun vj _ => b - (intOf vj).toNat)
                        case atStart => exact ⟨i1 + 1, _, by go_num, Nat.le_refl _, by omega, S6, rfl⟩
                        case round =>
                          obtain ⟨ju, du, rfl, q1, q2, SU, HU⟩ := hrel
                          have u0 := SU.c0
                          have u1 := SU.c1
                          by_cases hjb : ju < b
                          · have hjbz : (ju : Int) < (b : Int) := by omega
                            cases hvu : lt du[ju]! du[ju - 1]! with
                            | true =>
                              have hl := HE.out.lessV du ju (ju - 1) ju ((ju : Int) - 1) true hvu rfl (by omega) (by omega) (by omega) _ SU.i
                              have HU2 : Hid (shiftUp lt b (ju + 1) (swp du ju (ju - 1)) = shiftUp lt b (i1 + 1) dd) := by have := HU.out; rw [shiftUp, if_pos hjb, hvu] at this; exact this
                              go_wp2_with (go_at_fn g; refine hl.mono ?_; rintro e w6 ⟨rfl, hI6, hS6⟩; have S6 := SU.step HB.out hI6 hS6; have x0 := S6.c0; have x1 := S6.c1; obtain ⟨W7, hrun7, hI7, hS7⟩ := HE.out.swapI du w6 ju (ju - 1) ju ((ju : Int) - 1) rfl (by omega) S6.i (by omega) (by omega); have S7 := S6.step HB.out hI7 hS7; clear hl)
                              go_roundw
                              case rel =>
                                first
                                  | exact ⟨ju + 1, swp du ju (ju - 1), by go_num, by omega, by omega, S7, HU2⟩
                                  | ((repeat apply Exists.intro); refine ⟨?_, rfl⟩; exact ⟨ju + 1, swp du ju (ju - 1), by go_num, by omega, by omega, S7, HU2⟩)
                              case measure => simp [intOf] <;> omega
                            | false =>
                              have hl := HE.out.lessV du ju (ju - 1) ju ((ju : Int) - 1) false hvu rfl (by omega) (by omega) (by omega) _ SU.i
                              have HF : Hid (partialIns lt a b t i1 du = partialInsertionSort lt d a b) := by have := HQ2.out; rw [← HU.out, shiftUp, if_pos hjb, hvu] at this; exact this
                              go_wp2_with (go_at_fn g; refine hl.mono ?_; rintro e w6 ⟨rfl, hI6, hS6⟩; have S6 := SU.step HB.out hI6 hS6; clear hl)
                              go_roundw
                              case rel =>
                                first
                                  | exact ⟨i1, s + 1, du, rfl, by go_num, by omega, by omega, by omega, S6, by rw [show 5 - (s + 1) = t by omega]; exact HF⟩
                                  | ((repeat apply Exists.intro); refine ⟨?_, rfl⟩; exact ⟨i1, s + 1, du, rfl, by go_num, by omega, by omega, by omega, S6, by rw [show 5 - (s + 1) = t by omega]; exact HF⟩)
                              case measure => simp [intOf] <;> omega
                          · have hjbz : ¬ (ju : Int) < (b : Int) := by omega
                            have HF : Hid (partialIns lt a b t i1 du = partialInsertionSort lt d a b) := by have := HQ2.out; rw [← HU.out, shiftUp, if_neg hjb] at this; exact this
                            go_wp2
                            go_roundw
                            case rel =>
                              first
                                | exact ⟨i1, s + 1, du, rfl, by go_num, by omega, by omega, by omega, SU, by rw [show 5 - (s + 1) = t by omega]; exact HF⟩
                                | ((repeat apply Exists.intro); refine ⟨?_, rfl⟩; exact ⟨i1, s + 1, du, rfl, by go_num, by omega, by omega, by omega, SU, by rw [show 5 - (s + 1) = t by omega]; exact HF⟩)
                            case measure => simp [intOf] <;> omega
                      · have hr2z : ¬ (2 : Int) ≤ (b : Int) - (i1 : Int) := by omega
                        have HF : Hid (partialIns lt a b t i1 dd = partialInsertionSort lt d a b) := by have := HQ.out; rw [if_neg hr2] at this; exact this
                        go_wp2_with (go_at_fn g; refine hl.mono ?_; rintro e w6 ⟨rfl, hI6, hS6⟩; have S6 := SD.step HB.out hI6 hS6; clear hl)
                        go_roundw
                        case rel =>
                          first
                            | exact ⟨i1, s + 1, dd, rfl, by go_num, by omega, by omega, by omega, S6, by rw [show 5 - (s + 1) = t by omega]; exact HF⟩
                            | ((repeat apply Exists.intro); refine ⟨?_, rfl⟩; exact ⟨i1, s + 1, dd, rfl, by go_num, by omega, by omega, by omega, S6, by rw [show 5 - (s + 1) = t by omega]; exact HF⟩)
                        case measure => simp [intOf] <;> omega
              · have hl2z : ¬ (2 : Int) ≤ (i1 : Int) - (a : Int) := by omega
                have HQ : Hid (partialIns lt a b t i1 (if b - i1 ≥ 2 then shiftUp lt b (i1 + 1) (swp dk i1 (i1 - 1)) else swp dk i1 (i1 - 1)) = partialInsertionSort lt d a b) := by have := HQ0.out; rw [if_neg hl2] at this; exact this
                by_cases hr2 : 2 ≤ b - i1
                · have hr2z : (2 : Int) ≤ (b : Int) - (i1 : Int) := by omega
                  have HQ2 : Hid (partialIns lt a b t i1 (shiftUp lt b (i1 + 1) (swp dk i1 (i1 - 1))) = partialInsertionSort lt d a b) := by have := HQ.out; rw [if_pos hr2] at this; exact this
                  go_wp2_with (go_at_fn g; refine hl.mono ?_; rintro e w4 ⟨rfl, hI4, hS4⟩; have S4 := S1.step HB.out hI4 hS4; have m0 := S4.c0; have m1 := S4.c1; obtain ⟨W5, hrun, hI5, hS5⟩ := HE.out.swapI dk w4 i1 (i1 - 1) i1 ((i1 : Int) - 1) rfl (by omega) S4.i (by omega) (by omega); have S5 := S4.step HB.out hI5 hS5; clear hl)
                  go_loopw [10] (fun vj w2 => ∃ (ju : Nat) (du : Array α), vj = .int .i64 ju ∧ i1 + 1 ≤ ju ∧ ju ≤ b ∧ SSt blk I w w.heap.size g lb sf sb du w2 ∧ Hid (shiftUp lt b ju du = shiftUp lt b (i1 + 1) (swp dk i1 (i1 - 1)))) (fun vj _ => b - (intOf vj).toNat)
                  case atStart => exact ⟨i1 + 1, _, by go_num, Nat.le_refl _, by omega, S5, rfl⟩
                  case round =>
                    obtain ⟨ju, du, rfl, q1, q2, SU, HU⟩ := hrel
                    have u0 := SU.c0
                    have u1 := SU.c1
                    by_cases hjb : ju < b
                    · have hjbz : (ju : Int) < (b : Int) := by omega
                      cases hvu : lt du[ju]! du[ju - 1]! with
                      | true =>
                        have hl := HE.out.lessV du ju (ju - 1) ju ((ju : Int) - 1) true hvu rfl (by omega) (by omega) (by omega) _ SU.i
                        have HU2 : Hid (shiftUp lt b (ju + 1) (swp du ju (ju - 1)) = shiftUp lt b (i1 + 1) (swp dk i1 (i1 - 1))) := by have := HU.out; rw [shiftUp, if_pos hjb, hvu] at this; exact this
                        go_wp2_with (go_at_fn g; refine hl.mono ?_; rintro e w6 ⟨rfl, hI6, hS6⟩; have S6 := SU.step HB.out hI6 hS6; have x0 := S6.c0; have x1 := S6.c1; obtain ⟨W7, hrun7, hI7, hS7⟩ := HE.out.swapI du w6 ju (ju - 1) ju ((ju : Int) - 1) rfl (by omega) S6.i (by omega) (by omega); have S7 := S6.step HB.out hI7 hS7; clear hl)
                        go_roundw
                        case rel =>
                          first
                            | exact ⟨ju + 1, swp du ju (ju - 1), by go_num, by omega, by omega, S7, HU2⟩
                            | ((repeat apply Exists.intro); refine ⟨?_, rfl⟩; exact ⟨ju + 1, swp du ju (ju - 1), by go_num, by omega, by omega, S7, HU2⟩)
                        case measure => simp [intOf] <;> omega
                      | false =>
                        have hl := HE.out.lessV du ju (ju - 1) ju ((ju : Int) - 1) false hvu rfl (by omega) (by omega) (by omega) _ SU.i
                        have HF : Hid (partialIns lt a b t i1 du = partialInsertionSort lt d a b) := by have := HQ2.out; rw [← HU.out, shiftUp, if_pos hjb, hvu] at this; exact this
                        go_wp2_with (go_at_fn g; refine hl.mono ?_; rintro e w6 ⟨rfl, hI6, hS6⟩; have S6 := SU.step HB.out hI6 hS6; clear hl)
                        go_roundw
                        case rel =>
                          first
                            | exact ⟨i1, s + 1, du, rfl, by go_num, by omega, by omega, by omega, S6, by rw [show 5 - (s + 1) = t by omega]; exact HF⟩
                            | ((repeat apply Exists.intro); refine ⟨?_, rfl⟩; exact ⟨i1, s + 1, du, rfl, by go_num, by omega, by omega, by omega, S6, by rw [show 5 - (s + 1) = t by omega]; exact HF⟩)
                        case measure => simp [intOf] <;> omega
                    · have hjbz : ¬ (ju : Int) < (b : Int) := by omega
                      have HF : Hid (partialIns lt a b t i1 du = partialInsertionSort lt d a b) := by have := HQ2.out; rw [← HU.out, shiftUp, if_neg hjb] at this; exact this
                      go_wp2
                      go_roundw
                      case rel =>
                        first
                          | exact ⟨i1, s + 1, du, rfl, by go_num, by omega, by omega, by omega, SU, by rw [show 5 - (s + 1) = t by omega]; exact HF⟩
                          | ((repeat apply Exists.intro); refine ⟨?_, rfl⟩; exact ⟨i1, s + 1, du, rfl, by go_num, by omega, by omega, by omega, SU, by rw [show 5 - (s + 1) = t by omega]; exact HF⟩)
                      case measure => simp [intOf] <;> omega
                · exfalso; omega
        · have hltz : ¬ (i1 : Int) < (b : Int) := by omega
          have HX : Hid (partialInsertionSort lt d a b = (dk, true)) := by show _ = _; rw [← HS1.out, pIns_succ, ← HC.out, scanSorted]; simp [hlt]; omega
          have heq : ((i1 : Int) == (b : Int)) = true := by simp; omega
          go_wp2
          go_ret
          exact ⟨by rw [HX.out]; rfl, by rw [HX.out]; exact S1.i, S1.st⟩
    · have hsz : ¬ (s : Int) < 5 := by omega
      have HX : Hid (partialInsertionSort lt d a b = (dk, false)) := by show _ = _; rw [← HS.out, show 5 - s = 0 by omega]; rfl
      go_wp2
      go_ret
      exact ⟨by rw [HX.out]; rfl, by rw [HX.out]; exact S.i, S.st⟩
end Go.Proofs.Ytollijngiioonaa

/- Draws leave all that lies in memory. Conditions: none. -/
namespace Go.Proofs.Ytollijngiioonaa
set_option maxRecDepth 100000
open Go.RowKit

theorem stay_drewN (S : Nat → Prop) (w : World) (k : Nat) : Stay S w (w.drewN k) := ⟨rfl, rfl, rfl, Nat.le_refl _, fun _ _ _ => rfl⟩
theorem below_drewsX (B : Nat) (w : World) (k : Nat) : Below B w (w.drewN k) := ⟨rfl, rfl, rfl, Nat.le_refl _, fun _ _ => rfl⟩
end Go.Proofs.Ytollijngiioonaa

/- The library's contracts for slices.Sort, slices.Compact, sort.Slice and what they call, laid at this program by the kit's own tool, in plain words. Conditions: as each says. -/
namespace Go.Proofs
open Go.Shelf
def Try.lays128_ren : Go.Shelf.Ren := ⟨fun | 128 => 107 | n => n, fun | 51 => 146 | 3 => 3 | 4 => 4 | 46 => 125 | 5 => 5 | 9 => 9 | n => n, fun | n => n⟩
theorem Try.lays128 : Go.Proofs.Lays.n128 Try.prog Try.lays128_ren := {
  mixed := by kernel_rfl
  f128 := Try.func107.trans (congrArg some (by kernel_rfl))
  t3 := Try.underlying3
  a3 := Try.isAgg3
  z3 := Try.sizeOf3
  v3 := Try.zeroValue3
  t4 := Try.underlying4
  a4 := Try.isAgg4
  z4 := Try.sizeOf4
  v4 := Try.zeroValue4
  t5 := Try.underlying5
  a5 := Try.isAgg5
  z5 := Try.sizeOf5
  v5 := Try.zeroValue5
  t9 := Try.underlying9
  a9 := Try.isAgg9
  z9 := Try.sizeOf9
  v9 := Try.zeroValue9
  t46 := Try.underlying125
  a46 := Try.isAgg125
  z46 := Try.sizeOf125
  v46 := Try.zeroValue125
  t51 := Try.underlying146
  a51 := Try.isAgg146
  z51 := Try.sizeOf146
  v51 := Try.zeroValue146 }
theorem Try.bits_Len32 (x : Int) (w : World) (h0 : 0 ≤ x) (h1 : x ≤ 4294967295) :
    Calls Try.prog 107 #[.int .u32 x] w fun e w' => e = .returned (.int .i64 (Lib.bitLen x.toNat)) ∧ w' = w := Any.bits_Len32 Try.lays128 x w h0 h1
def Try.lays125_ren : Go.Shelf.Ren := ⟨fun | 125 => 86 | 128 => 107 | 129 => 108 | n => n, fun | 46 => 125 | 3 => 3 | 51 => 146 | 53 => 148 | 4 => 4 | 5 => 5 | 9 => 9 | n => n, fun | n => n⟩
theorem Try.lays125 : Go.Proofs.Lays.n125 Try.prog Try.lays125_ren := {
  mixed := by kernel_rfl
  f125 := Try.func86.trans (congrArg some (by kernel_rfl))
  f128 := Try.func107.trans (congrArg some (by kernel_rfl))
  f129 := Try.func108.trans (congrArg some (by kernel_rfl))
  t3 := Try.underlying3
  a3 := Try.isAgg3
  z3 := Try.sizeOf3
  v3 := Try.zeroValue3
  t4 := Try.underlying4
  a4 := Try.isAgg4
  z4 := Try.sizeOf4
  v4 := Try.zeroValue4
  t5 := Try.underlying5
  a5 := Try.isAgg5
  z5 := Try.sizeOf5
  v5 := Try.zeroValue5
  t9 := Try.underlying9
  a9 := Try.isAgg9
  z9 := Try.sizeOf9
  v9 := Try.zeroValue9
  t46 := Try.underlying125
  a46 := Try.isAgg125
  z46 := Try.sizeOf125
  v46 := Try.zeroValue125
  t51 := Try.underlying146
  a51 := Try.isAgg146
  z51 := Try.sizeOf146
  v51 := Try.zeroValue146
  t53 := Try.underlying148
  a53 := Try.isAgg148
  z53 := Try.sizeOf148
  v53 := Try.zeroValue148 }
theorem Try.bits_Len (x : Int) (w : World) (h0 : 0 ≤ x) (h1 : x ≤ 18446744073709551615) :
    Calls Try.prog 86 #[.int .u64 x] w fun e w' => e = .returned (.int .i64 (Lib.bitLen x.toNat)) ∧ w' = w := Any.bits_Len Try.lays125 x w h0 h1
def Try.lays215_ren : Go.Shelf.Ren := ⟨fun | 215 => 117 | n => n, fun | 3 => 3 | 4 => 4 | n => n, fun | n => n⟩
theorem Try.lays215 : Go.Proofs.Lays.n215 Try.prog Try.lays215_ren := {
  mixed := by kernel_rfl
  f215 := Try.func117.trans (congrArg some (by kernel_rfl))
  t3 := Try.underlying3
  a3 := Try.isAgg3
  z3 := Try.sizeOf3
  v3 := Try.zeroValue3
  t4 := Try.underlying4
  a4 := Try.isAgg4
  z4 := Try.sizeOf4
  v4 := Try.zeroValue4 }
open Go.RowKit in
theorem Try.cmp_isNaN_int (x : Int) (w : World) :
    Calls Try.prog 117 #[.int .i64 x] w fun e w' => e = .returned (.bool false) ∧ w' = w := Any.cmp_isNaN_int Try.lays215 x w
def Try.lays122_ren : Go.Shelf.Ren := ⟨fun | 122 => 89 | 215 => 117 | n => n, fun | 3 => 3 | 4 => 4 | n => n, fun | n => n⟩
theorem Try.lays122 : Go.Proofs.Lays.n122 Try.prog Try.lays122_ren := {
  mixed := by kernel_rfl
  f122 := Try.func89.trans (congrArg some (by kernel_rfl))
  f215 := Try.func117.trans (congrArg some (by kernel_rfl))
  t3 := Try.underlying3
  a3 := Try.isAgg3
  z3 := Try.sizeOf3
  v3 := Try.zeroValue3
  t4 := Try.underlying4
  a4 := Try.isAgg4
  z4 := Try.sizeOf4
  v4 := Try.zeroValue4 }
open Go.RowKit in
theorem Try.cmp_Compare_int (x y : Int) (w : World) :
    Calls Try.prog 89 #[.int .i64 x, .int .i64 y] w fun e w' => e = .returned (.int .i64 (Lib.compareInt x y)) ∧ w' = w := Any.cmp_Compare_int Try.lays122 x y w
def Try.lays129_ren : Go.Shelf.Ren := ⟨fun | 129 => 108 | n => n, fun | 53 => 148 | 3 => 3 | 4 => 4 | 46 => 125 | 5 => 5 | 9 => 9 | n => n, fun | n => n⟩
theorem Try.lays129 : Go.Proofs.Lays.n129 Try.prog Try.lays129_ren := {
  mixed := by kernel_rfl
  f129 := Try.func108.trans (congrArg some (by kernel_rfl))
  t3 := Try.underlying3
  a3 := Try.isAgg3
  z3 := Try.sizeOf3
  v3 := Try.zeroValue3
  t4 := Try.underlying4
  a4 := Try.isAgg4
  z4 := Try.sizeOf4
  v4 := Try.zeroValue4
  t5 := Try.underlying5
  a5 := Try.isAgg5
  z5 := Try.sizeOf5
  v5 := Try.zeroValue5
  t9 := Try.underlying9
  a9 := Try.isAgg9
  z9 := Try.sizeOf9
  v9 := Try.zeroValue9
  t46 := Try.underlying125
  a46 := Try.isAgg125
  z46 := Try.sizeOf125
  v46 := Try.zeroValue125
  t53 := Try.underlying148
  a53 := Try.isAgg148
  z53 := Try.sizeOf148
  v53 := Try.zeroValue148 }
theorem Try.bits_Len64 (x : Int) (w : World) (h0 : 0 ≤ x) (h1 : x ≤ 18446744073709551615) :
    Calls Try.prog 108 #[.int .u64 x] w fun e w' => e = .returned (.int .i64 (Lib.bitLen x.toNat)) ∧ w' = w := Any.bits_Len64 Try.lays129 x w h0 h1
def Try.laysGg26_ren : Go.Shelf.Ren := ⟨fun | 26 => 109 | n => n, fun | 44 => 128 | 3 => 3 | 0 => 0 | 4 => 4 | 26 => 101 | 37 => 121 | n => n, fun | n => n⟩
theorem Try.laysGg26 : Go.Proofs.LaysGg.n26 Try.prog Try.laysGg26_ren := {
  mixed := by kernel_rfl
  f26 := Try.func109.trans (congrArg some (by kernel_rfl))
  t0 := Try.underlying0
  a0 := Try.isAgg0
  z0 := Try.sizeOf0
  v0 := Try.zeroValue0
  i0 := by kernel_rfl
  t3 := Try.underlying3
  a3 := Try.isAgg3
  z3 := Try.sizeOf3
  v3 := Try.zeroValue3
  i3 := by kernel_rfl
  t4 := Try.underlying4
  a4 := Try.isAgg4
  z4 := Try.sizeOf4
  v4 := Try.zeroValue4
  i4 := by kernel_rfl
  t26 := Try.underlying101
  a26 := Try.isAgg101
  z26 := Try.sizeOf101
  v26 := Try.zeroValue101
  i26 := by kernel_rfl
  t37 := Try.underlying121
  a37 := Try.isAgg121
  z37 := Try.sizeOf121
  v37 := Try.zeroValue121
  i37 := by kernel_rfl
  t44 := Try.underlying128
  a44 := Try.isAgg128
  z44 := Try.sizeOf128
  v44 := Try.zeroValue128
  i44 := by kernel_rfl }
open Go.RowKit Go.Lib Go.Sort in
theorem Try.insertionSort_func_none (lf : Fn) (la lb : Array Value) (f : Nat) (sb : Array Value) (a b : Nat) (h : b ≤ a + 1) (ha : a < 4611686018427387904) (w : World) :
    Calls Try.prog 109 #[.agg #[.func lf la lb, .func (.func f) #[] sb], .int .i64 a, .int .i64 b] w fun e w' => e = .returned (.tuple #[]) ∧ w' = w.alloc (.cells #[.func lf la lb, .func (.func f) #[] sb] 128) := Any.insertionSort_func_none Try.laysGg26 lf la lb f sb a b h ha w
def Try.laysGg14_ren : Go.Shelf.Ren := ⟨fun | 14 => 87 | 26 => 109 | 27 => 110 | 28 => 111 | 29 => 112 | 30 => 113 | 31 => 114 | 32 => 115 | 33 => 116 | 34 => 120 | 35 => 121 | 36 => 122 | 37 => 123 | 38 => 124 | 13 => 86 | 39 => 127 | 24 => 107 | 25 => 108 | n => n, fun | 44 => 128 | 3 => 3 | 0 => 0 | 4 => 4 | 54 => 151 | 53 => 150 | 26 => 101 | 58 => 139 | 37 => 121 | 60 => 162 | 41 => 125 | 51 => 148 | 64 => 166 | 66 => 171 | 67 => 172 | 49 => 146 | 5 => 5 | 9 => 9 | n => n, fun | n => n⟩
theorem Try.laysGg14 : Go.Proofs.LaysGg.n14 Try.prog Try.laysGg14_ren := {
  mixed := by kernel_rfl
  f13 := Try.func86.trans (congrArg some (by kernel_rfl))
  f14 := Try.func87.trans (congrArg some (by kernel_rfl))
  f24 := Try.func107.trans (congrArg some (by kernel_rfl))
  f25 := Try.func108.trans (congrArg some (by kernel_rfl))
  f26 := Try.func109.trans (congrArg some (by kernel_rfl))
  f27 := Try.func110.trans (congrArg some (by kernel_rfl))
  f28 := Try.func111.trans (congrArg some (by kernel_rfl))
  f29 := Try.func112.trans (congrArg some (by kernel_rfl))
  f30 := Try.func113.trans (congrArg some (by kernel_rfl))
  f31 := Try.func114.trans (congrArg some (by kernel_rfl))
  f32 := Try.func115.trans (congrArg some (by kernel_rfl))
  f33 := Try.func116.trans (congrArg some (by kernel_rfl))
  f34 := Try.func120.trans (congrArg some (by kernel_rfl))
  f35 := Try.func121.trans (congrArg some (by kernel_rfl))
  f36 := Try.func122.trans (congrArg some (by kernel_rfl))
  f37 := Try.func123.trans (congrArg some (by kernel_rfl))
  f38 := Try.func124.trans (congrArg some (by kernel_rfl))
  f39 := Try.func127.trans (congrArg some (by kernel_rfl))
  t0 := Try.underlying0
  a0 := Try.isAgg0
  z0 := Try.sizeOf0
  v0 := Try.zeroValue0
  i0 := by kernel_rfl
  t3 := Try.underlying3
  a3 := Try.isAgg3
  z3 := Try.sizeOf3
  v3 := Try.zeroValue3
  i3 := by kernel_rfl
  t4 := Try.underlying4
  a4 := Try.isAgg4
  z4 := Try.sizeOf4
  v4 := Try.zeroValue4
  i4 := by kernel_rfl
  t5 := Try.underlying5
  a5 := Try.isAgg5
  z5 := Try.sizeOf5
  v5 := Try.zeroValue5
  i5 := by kernel_rfl
  t9 := Try.underlying9
  a9 := Try.isAgg9
  z9 := Try.sizeOf9
  v9 := Try.zeroValue9
  i9 := by kernel_rfl
  t26 := Try.underlying101
  a26 := Try.isAgg101
  z26 := Try.sizeOf101
  v26 := Try.zeroValue101
  i26 := by kernel_rfl
  t37 := Try.underlying121
  a37 := Try.isAgg121
  z37 := Try.sizeOf121
  v37 := Try.zeroValue121
  i37 := by kernel_rfl
  t41 := Try.underlying125
  a41 := Try.isAgg125
  z41 := Try.sizeOf125
  v41 := Try.zeroValue125
  i41 := by kernel_rfl
  t44 := Try.underlying128
  a44 := Try.isAgg128
  z44 := Try.sizeOf128
  v44 := Try.zeroValue128
  i44 := by kernel_rfl
  t49 := Try.underlying146
  a49 := Try.isAgg146
  z49 := Try.sizeOf146
  v49 := Try.zeroValue146
  i49 := by kernel_rfl
  t51 := Try.underlying148
  a51 := Try.isAgg148
  z51 := Try.sizeOf148
  v51 := Try.zeroValue148
  i51 := by kernel_rfl
  t53 := Try.underlying150
  a53 := Try.isAgg150
  z53 := Try.sizeOf150
  v53 := Try.zeroValue150
  i53 := by kernel_rfl
  t54 := Try.underlying151
  a54 := Try.isAgg151
  z54 := Try.sizeOf151
  v54 := Try.zeroValue151
  i54 := by kernel_rfl
  t58 := Try.underlying139
  a58 := Try.isAgg139
  z58 := Try.sizeOf139
  v58 := Try.zeroValue139
  i58 := by kernel_rfl
  t60 := Try.underlying162
  a60 := Try.isAgg162
  z60 := Try.sizeOf162
  v60 := Try.zeroValue162
  i60 := by kernel_rfl
  t64 := Try.underlying166
  a64 := Try.isAgg166
  z64 := Try.sizeOf166
  v64 := Try.zeroValue166
  i64 := by kernel_rfl
  t66 := Try.underlying171
  a66 := Try.isAgg171
  z66 := Try.sizeOf171
  v66 := Try.zeroValue171
  i66 := by kernel_rfl
  t67 := Try.underlying172
  a67 := Try.isAgg172
  z67 := Try.sizeOf172
  v67 := Try.zeroValue172
  i67 := by kernel_rfl }
open Go.RowKit Go.Lib Go.Sort in
theorem Try.pdqsort_func_tiny (lf : Fn) (la lb : Array Value) (f : Nat) (sb : Array Value) (n : Nat) (h : n ≤ 1) (lim : Int) (w : World) :
    Calls Try.prog 87 #[.agg #[.func lf la lb, .func (.func f) #[] sb], .int .i64 0, .int .i64 n, .int .i64 lim] w fun e w' => e = .returned (.tuple #[]) ∧ w' = (w.alloc (.cells #[.func lf la lb, .func (.func f) #[] sb] 128)).alloc (.cells #[.func lf la lb, .func (.func f) #[] sb] 128) := Any.pdqsort_func_tiny Try.laysGg14 lf la lb f sb n h lim w
def Try.laysGg6_ren : Go.Shelf.Ren := ⟨fun | 6 => 67 | 10 => 83 | 11 => 84 | 12 => 85 | 13 => 86 | 14 => 87 | 24 => 107 | 25 => 108 | 26 => 109 | 27 => 110 | 28 => 111 | 29 => 112 | 30 => 113 | 31 => 114 | 32 => 115 | 33 => 116 | 34 => 120 | 35 => 121 | 36 => 122 | 37 => 123 | 38 => 124 | 39 => 127 | n => n, fun | 20 => 20 | 26 => 101 | 35 => 119 | 0 => 0 | 37 => 121 | 3 => 3 | 41 => 125 | 44 => 128 | 49 => 146 | 51 => 148 | 4 => 4 | 54 => 151 | 53 => 150 | 58 => 139 | 5 => 5 | 9 => 9 | 60 => 162 | 64 => 166 | 66 => 171 | 67 => 172 | 17 => 17 | 32 => 116 | 33 => 117 | 82 => 187 | 12 => 12 | 75 => 180 | 76 => 181 | 77 => 182 | 78 => 183 | 79 => 184 | 80 => 185 | n => n, fun | n => n⟩
theorem Try.laysGg6 : Go.Proofs.LaysGg.n6 Try.prog Try.laysGg6_ren := {
  mixed := by kernel_rfl
  f6 := Try.func67.trans (congrArg some (by kernel_rfl))
  f10 := Try.func83.trans (congrArg some (by kernel_rfl))
  f11 := Try.func84.trans (congrArg some (by kernel_rfl))
  f12 := Try.func85.trans (congrArg some (by kernel_rfl))
  f13 := Try.func86.trans (congrArg some (by kernel_rfl))
  f14 := Try.func87.trans (congrArg some (by kernel_rfl))
  f24 := Try.func107.trans (congrArg some (by kernel_rfl))
  f25 := Try.func108.trans (congrArg some (by kernel_rfl))
  f26 := Try.func109.trans (congrArg some (by kernel_rfl))
  f27 := Try.func110.trans (congrArg some (by kernel_rfl))
  f28 := Try.func111.trans (congrArg some (by kernel_rfl))
  f29 := Try.func112.trans (congrArg some (by kernel_rfl))
  f30 := Try.func113.trans (congrArg some (by kernel_rfl))
  f31 := Try.func114.trans (congrArg some (by kernel_rfl))
  f32 := Try.func115.trans (congrArg some (by kernel_rfl))
  f33 := Try.func116.trans (congrArg some (by kernel_rfl))
  f34 := Try.func120.trans (congrArg some (by kernel_rfl))
  f35 := Try.func121.trans (congrArg some (by kernel_rfl))
  f36 := Try.func122.trans (congrArg some (by kernel_rfl))
  f37 := Try.func123.trans (congrArg some (by kernel_rfl))
  f38 := Try.func124.trans (congrArg some (by kernel_rfl))
  f39 := Try.func127.trans (congrArg some (by kernel_rfl))
  t0 := Try.underlying0
  a0 := Try.isAgg0
  z0 := Try.sizeOf0
  v0 := Try.zeroValue0
  i0 := by kernel_rfl
  t3 := Try.underlying3
  a3 := Try.isAgg3
  z3 := Try.sizeOf3
  v3 := Try.zeroValue3
  i3 := by kernel_rfl
  t4 := Try.underlying4
  a4 := Try.isAgg4
  z4 := Try.sizeOf4
  v4 := Try.zeroValue4
  i4 := by kernel_rfl
  t5 := Try.underlying5
  a5 := Try.isAgg5
  z5 := Try.sizeOf5
  v5 := Try.zeroValue5
  i5 := by kernel_rfl
  t9 := Try.underlying9
  a9 := Try.isAgg9
  z9 := Try.sizeOf9
  v9 := Try.zeroValue9
  i9 := by kernel_rfl
  t12 := Try.underlying12
  a12 := Try.isAgg12
  z12 := Try.sizeOf12
  v12 := Try.zeroValue12
  i12 := by kernel_rfl
  t17 := Try.underlying17
  a17 := Try.isAgg17
  z17 := Try.sizeOf17
  v17 := Try.zeroValue17
  i17 := by kernel_rfl
  t20 := Try.underlying20
  a20 := Try.isAgg20
  z20 := Try.sizeOf20
  v20 := Try.zeroValue20
  i20 := by kernel_rfl
  t26 := Try.underlying101
  a26 := Try.isAgg101
  z26 := Try.sizeOf101
  v26 := Try.zeroValue101
  i26 := by kernel_rfl
  t32 := Try.underlying116
  a32 := Try.isAgg116
  z32 := Try.sizeOf116
  v32 := Try.zeroValue116
  i32 := by kernel_rfl
  t33 := Try.underlying117
  a33 := Try.isAgg117
  z33 := Try.sizeOf117
  v33 := Try.zeroValue117
  i33 := by kernel_rfl
  t35 := Try.underlying119
  a35 := Try.isAgg119
  z35 := Try.sizeOf119
  v35 := Try.zeroValue119
  i35 := by kernel_rfl
  t37 := Try.underlying121
  a37 := Try.isAgg121
  z37 := Try.sizeOf121
  v37 := Try.zeroValue121
  i37 := by kernel_rfl
  t41 := Try.underlying125
  a41 := Try.isAgg125
  z41 := Try.sizeOf125
  v41 := Try.zeroValue125
  i41 := by kernel_rfl
  t44 := Try.underlying128
  a44 := Try.isAgg128
  z44 := Try.sizeOf128
  v44 := Try.zeroValue128
  i44 := by kernel_rfl
  t49 := Try.underlying146
  a49 := Try.isAgg146
  z49 := Try.sizeOf146
  v49 := Try.zeroValue146
  i49 := by kernel_rfl
  t51 := Try.underlying148
  a51 := Try.isAgg148
  z51 := Try.sizeOf148
  v51 := Try.zeroValue148
  i51 := by kernel_rfl
  t53 := Try.underlying150
  a53 := Try.isAgg150
  z53 := Try.sizeOf150
  v53 := Try.zeroValue150
  i53 := by kernel_rfl
  t54 := Try.underlying151
  a54 := Try.isAgg151
  z54 := Try.sizeOf151
  v54 := Try.zeroValue151
  i54 := by kernel_rfl
  t58 := Try.underlying139
  a58 := Try.isAgg139
  z58 := Try.sizeOf139
  v58 := Try.zeroValue139
  i58 := by kernel_rfl
  t60 := Try.underlying162
  a60 := Try.isAgg162
  z60 := Try.sizeOf162
  v60 := Try.zeroValue162
  i60 := by kernel_rfl
  t64 := Try.underlying166
  a64 := Try.isAgg166
  z64 := Try.sizeOf166
  v64 := Try.zeroValue166
  i64 := by kernel_rfl
  t66 := Try.underlying171
  a66 := Try.isAgg171
  z66 := Try.sizeOf171
  v66 := Try.zeroValue171
  i66 := by kernel_rfl
  t67 := Try.underlying172
  a67 := Try.isAgg172
  z67 := Try.sizeOf172
  v67 := Try.zeroValue172
  i67 := by kernel_rfl
  t75 := Try.underlying180
  a75 := Try.isAgg180
  z75 := Try.sizeOf180
  v75 := Try.zeroValue180
  i75 := by kernel_rfl
  t76 := Try.underlying181
  a76 := Try.isAgg181
  z76 := Try.sizeOf181
  v76 := Try.zeroValue181
  i76 := by kernel_rfl
  t77 := Try.underlying182
  a77 := Try.isAgg182
  z77 := Try.sizeOf182
  v77 := Try.zeroValue182
  i77 := by kernel_rfl
  t78 := Try.underlying183
  a78 := Try.isAgg183
  z78 := Try.sizeOf183
  v78 := Try.zeroValue183
  i78 := by kernel_rfl
  t79 := Try.underlying184
  a79 := Try.isAgg184
  z79 := Try.sizeOf184
  v79 := Try.zeroValue184
  i79 := by kernel_rfl
  t80 := Try.underlying185
  a80 := Try.isAgg185
  z80 := Try.sizeOf185
  v80 := Try.zeroValue185
  i80 := by kernel_rfl
  t82 := Try.underlying187
  a82 := Try.isAgg187
  z82 := Try.sizeOf187
  v82 := Try.zeroValue187
  i82 := by kernel_rfl }
def Try.laysGg36_ren : Go.Shelf.Ren := ⟨fun | 36 => 122 | n => n, fun | 66 => 171 | 51 => 148 | 0 => 0 | 60 => 162 | 41 => 125 | n => n, fun | n => n⟩
theorem Try.laysGg36 : Go.Proofs.LaysGg.n36 Try.prog Try.laysGg36_ren := {
  mixed := by kernel_rfl
  f36 := Try.func122.trans (congrArg some (by kernel_rfl))
  t0 := Try.underlying0
  a0 := Try.isAgg0
  z0 := Try.sizeOf0
  v0 := Try.zeroValue0
  i0 := by kernel_rfl
  t41 := Try.underlying125
  a41 := Try.isAgg125
  z41 := Try.sizeOf125
  v41 := Try.zeroValue125
  i41 := by kernel_rfl
  t51 := Try.underlying148
  a51 := Try.isAgg148
  z51 := Try.sizeOf148
  v51 := Try.zeroValue148
  i51 := by kernel_rfl
  t60 := Try.underlying162
  a60 := Try.isAgg162
  z60 := Try.sizeOf162
  v60 := Try.zeroValue162
  i60 := by kernel_rfl
  t66 := Try.underlying171
  a66 := Try.isAgg171
  z66 := Try.sizeOf171
  v66 := Try.zeroValue171
  i66 := by kernel_rfl }
open Go.RowKit Go.Lib Go.Sort in
theorem Try.xorshift_Next (rb ro X : Nat) (hX : X < 18446744073709551616) (w : World) (hc : w.cell? ⟨rb, ro, none⟩ = some (.int .u64 X)) (hf : w.frozen? ⟨rb, ro, none⟩ = false) :
    Calls Try.prog 122 #[.pointer (some ⟨rb, ro, none⟩)] w fun e w' => e = .returned (.int .u64 (xorNextN X : Nat)) ∧ w' = (w.setCell ⟨rb, ro, none⟩ (.int .u64 (xorNextN X : Nat))).drewN 3 := Any.xorshift_Next Try.laysGg36 rb ro X hX w hc hf
def Try.laysGg35_ren : Go.Shelf.Ren := ⟨fun | 35 => 121 | 13 => 86 | 24 => 107 | 25 => 108 | n => n, fun | 3 => 3 | 41 => 125 | 49 => 146 | 51 => 148 | 4 => 4 | 5 => 5 | 9 => 9 | n => n, fun | n => n⟩
theorem Try.laysGg35 : Go.Proofs.LaysGg.n35 Try.prog Try.laysGg35_ren := {
  mixed := by kernel_rfl
  f13 := Try.func86.trans (congrArg some (by kernel_rfl))
  f24 := Try.func107.trans (congrArg some (by kernel_rfl))
  f25 := Try.func108.trans (congrArg some (by kernel_rfl))
  f35 := Try.func121.trans (congrArg some (by kernel_rfl))
  t3 := Try.underlying3
  a3 := Try.isAgg3
  z3 := Try.sizeOf3
  v3 := Try.zeroValue3
  i3 := by kernel_rfl
  t4 := Try.underlying4
  a4 := Try.isAgg4
  z4 := Try.sizeOf4
  v4 := Try.zeroValue4
  i4 := by kernel_rfl
  t5 := Try.underlying5
  a5 := Try.isAgg5
  z5 := Try.sizeOf5
  v5 := Try.zeroValue5
  i5 := by kernel_rfl
  t9 := Try.underlying9
  a9 := Try.isAgg9
  z9 := Try.sizeOf9
  v9 := Try.zeroValue9
  i9 := by kernel_rfl
  t41 := Try.underlying125
  a41 := Try.isAgg125
  z41 := Try.sizeOf125
  v41 := Try.zeroValue125
  i41 := by kernel_rfl
  t49 := Try.underlying146
  a49 := Try.isAgg146
  z49 := Try.sizeOf146
  v49 := Try.zeroValue146
  i49 := by kernel_rfl
  t51 := Try.underlying148
  a51 := Try.isAgg148
  z51 := Try.sizeOf148
  v51 := Try.zeroValue148
  i51 := by kernel_rfl }
open Go.RowKit Go.Lib Go.Sort in
theorem Try.nextPowerOfTwo (n : Nat) (hn : n < 4611686018427387904) (w : World) :
    Calls Try.prog 121 #[.int .i64 n] w fun e w' => e = .returned (.int .u64 ((1 <<< bitsLen n : Nat) : Int)) ∧ w' = w := Any.nextPowerOfTwo Try.laysGg35 n hn w
end Go.Proofs

/- sort.breakPatterns_func, by a swap that turns the row alone. Conditions: rows of less than 2^62 elements. -/
namespace Go.Proofs.Ytollijngiioonaa
set_option maxRecDepth 100000
open Go.RowKit Go.Sort

variable {α : Type} [Inhabited α]
variable {g : Nat} {lb : Array Value} {sf : Nat} {sb : Array Value} {lt : α → α → Bool} {n blk base : Nat} {I : Array α → World → Prop}

/-- While breakPatterns runs: the row, the function values, the random number in its cell. -/
structure KSt (blk : Nat) (I : Array α → World → Prop) (w : World) (sf : Nat) (sb : Array Value) (d : Array α) (R : Nat) (wr : World) : Prop where
  i : I d wr
  c1 : wr.cell? ⟨w.heap.size, 1, none⟩ = some (.func (.func sf) #[] sb)
  cR : wr.cell? ⟨w.heap.size + 1, 0, none⟩ = some (.int .u64 (R : Int))
  fR : wr.frozen? ⟨w.heap.size + 1, 0, none⟩ = false
  st : Stay (fun k => k ≠ blk ∧ k ≠ w.heap.size + 1) w wr
/-- A new random number. -/
theorem KSt.next {w wr : World} {d : Array α} {R : Nat} (E : SEnv g lb sf sb lt n blk base I) (h : KSt blk I w sf sb d R wr) (R' : Nat) (hb : base ≤ w.heap.size) : KSt blk I w sf sb d R' ((wr.setCell ⟨w.heap.size + 1, 0, none⟩ (.int .u64 (R' : Int))).drewN 3) := by
  have h1 : I d (wr.setCell ⟨w.heap.size + 1, 0, none⟩ (.int .u64 (R' : Int))) := E.set d wr ⟨w.heap.size + 1, 0, none⟩ _ h.i (Nat.le_trans hb (Nat.le_succ _))
  refine ⟨E.on d _ _ h1 (below_drewsX _ _ 3), ?_, ?_, ?_, ?_⟩
  · rw [World.cell?_drewN, World.cell?_setCell_other _ _ _ _ (by intro e; simp only [Addr.mk.injEq, and_true] at e; omega)]; exact h.c1
  · rw [World.cell?_drewN]; exact World.cell?_setCell_same _ _ _ h.cR
  · rw [World.frozen?_drewN]; simpa using h.fR
  · exact (h.st.trans (.setCell _ _ (fun e => e.2 rfl))).trans (stay_drewN _ _ 3)
omit [Inhabited α] in
theorem KSt.swapped {w wr wr' : World} {d d' : Array α} {R : Nat} (h : KSt blk I w sf sb d R wr) (hne : w.heap.size ≠ blk ∧ w.heap.size + 1 ≠ blk) (hi : I d' wr') (hs : Stay (fun k => k ≠ blk) wr wr') : KSt blk I w sf sb d' R wr' :=
  ⟨hi, hs.cell h.c1 hne.1, hs.cell h.cR hne.2, (hs.frozen (World.block_lt_of_cell? _ _ h.cR) hne.2).trans h.fR, h.st.trans (hs.weak (fun _ _ hk => hk.1))⟩

set_option maxHeartbeats 4000000 in
theorem breakPatterns_go (E : SEnv g lb sf sb lt n blk base I) (a L : Nat) (d : Array α) (w : World) (h : I d w) (hb : a + L ≤ n) (h8 : 8 ≤ L) :
    Calls Try.prog 111 #[.agg #[.func (.func g) #[] lb, .func (.func sf) #[] sb], .int .i64 a, .int .i64 ((a + L : Nat) : Int)] w fun e w' => e = .returned (.tuple #[]) ∧ I (breakPatterns d a (a + L)) w' ∧ Stay (fun k => k ≠ blk) w w' := by
  have hbig := E.big
  rw [breakPatterns_eq d a L h8]
  obtain ⟨M, hM⟩ : ∃ M : Nat, M = 1 <<< bitsLen L := ⟨_, rfl⟩
  have hM1 : 1 ≤ M := by rw [hM, Nat.one_shiftLeft]; exact Nat.two_pow_pos _
  have hM2 : M ≤ 2 * L := by rw [hM, Nat.one_shiftLeft]; exact two_pow_bitsLen_le (by omega)
  have hNP : ∀ w, Calls Try.prog 121 #[.int .i64 (L : Int)] w fun e w' => e = .returned (.int .u64 (M : Int)) ∧ w' = w := by rw [hM]; exact fun w => Try.nextPowerOfTwo L (by omega) w
  rw [← hM]
  clear hM
  have hLz : ((a : Int) + (L : Int) - (a : Int)) = (L : Int) := by omega
  have h8z : (8 : Int) ≤ (L : Int) := by omega
  have hbase := E.lt _ _ h
  have HB : Hid (w.heap.size ≠ blk ∧ w.heap.size + 1 ≠ blk) := by have := E.bb; exact ⟨by omega, by omega⟩
  have HE : Hid (SEnv g lb sf sb lt n blk base I) := E
  have S0 : KSt blk I w sf sb d L ((w.alloc (.cells #[.func (.func g) #[] lb, .func (.func sf) #[] sb] 128)).alloc (.cells #[.int .u64 (L : Int)] 162)) :=
    ⟨E.on _ _ _ h (((Below.refl _ _).alloc (Nat.le_refl _) _).alloc (by simp) _), by simp [go_sem], by simp [go_sem], by simp [go_sem], (Stay.alloc _ _ _).trans (.alloc _ _ _)⟩
  clear E h
  go_enter Try.func111, Try.ntmps111
  go_wp2_with (first | (go_at_call 121; refine (hNP _).mono ?_; rintro e w' ⟨rfl, rfl⟩))
  go_loopg [9] 3 (fun g1 vi wr => ∃ (t : Nat) (r : UInt64) (dk : Array α), vi = .int .i64 ((a : Int) + (L : Int) / 4 * 2 - 1 + (t : Int)) ∧ t ≤ 3 ∧ 3 - t ≤ g1 ∧ KSt blk I w sf sb dk r.toNat wr ∧
      Hid (bpRest a L M (a + L / 4 * 2 - 1) (3 - t) t (r, dk) = bpRest a L M (a + L / 4 * 2 - 1) 3 0 (UInt64.ofNat L, d)))
  case atStart =>
    refine ⟨0, UInt64.ofNat L, d, by simp, by omega, by omega, ?_, rfl⟩
    rw [show (UInt64.ofNat L).toNat = L from by simp; omega]
    exact S0
  case round =>
    obtain ⟨t, r, dk, rfl, ht, hg1, S, HR⟩ := hrel
    clear S0
    by_cases ht3 : t < 3
    · have hle : (a : Int) + (L : Int) / 4 * 2 - 1 + (t : Int) ≤ (a : Int) + (L : Int) / 4 * 2 + 1 := by omega
      obtain ⟨R, hRr⟩ : ∃ R : Nat, R = r.toNat := ⟨_, rfl⟩
      have lR : R < 18446744073709551616 := by rw [hRr]; exact r.toNat_lt
      obtain ⟨R', hR'⟩ : ∃ R' : Nat, R' = xorNextN R := ⟨_, rfl⟩
      have lR' : R' < 18446744073709551616 := by rw [hR']; exact xorNextN_lt R lR
      obtain ⟨O, hO⟩ : ∃ O : Nat, O = R' &&& (M - 1) := ⟨_, rfl⟩
      have lO : O ≤ M - 1 := by rw [hO]; exact Nat.and_le_right
      have eAnd : bits .and .u64 (R' : Int) ((M : Int) - 1) = (O : Int) := by
        rw [show ((M : Int) - 1) = ((M - 1 : Nat) : Int) by omega, bits_and_u64_nat _ _ lR' (by omega), hO]
      rw [← hRr] at S
      have hNext : Calls Try.prog 122 #[.pointer (some ⟨w.heap.size + 1, 0, none⟩)] wr fun e w' => e = .returned (.int .u64 (R' : Int)) ∧ w' = (wr.setCell ⟨w.heap.size + 1, 0, none⟩ (.int .u64 (R' : Int))).drewN 3 := by
        rw [hR']; exact Try.xorshift_Next _ _ R lR wr S.cR S.fR
      have HN : Hid (R' = (xorNext r).toNat ∧ O = (xorNext r).toNat &&& (M - 1)) := by
        have e : R' = (xorNext r).toNat := by rw [hR', hRr, xorNext_toNat]
        exact ⟨e, by rw [hO, e]⟩
      clear hRr hR' hO
      have S2 := S.next HE.out R' hbase
      generalize (wr.setCell ⟨w.heap.size + 1, 0, none⟩ (.int .u64 (R' : Int))).drewN 3 = w2 at hNext S2
      have c1 := S2.c1
      clear S
      by_cases hLO : L ≤ O
      · have hLOz : (L : Int) ≤ (O : Int) := by omega
        obtain ⟨W4, hrun, hI4, hS4⟩ := HE.out.swapI dk w2 (a + L / 4 * 2 - 1 + t) (a + (O - L)) ((a : Int) + (L : Int) / 4 * 2 - 1 + (t : Int)) ((a : Int) + ((O : Int) - (L : Int))) (by omega) (by omega) S2.i (by omega) (by omega)
        have S3 := S2.swapped HB.out hI4 hS4
        clear S2
        go_wp2_with (go_at_call 122; refine hNext.mono ?_; rintro e w' ⟨rfl, rfl⟩)
        go_roundg (3 - (t + 1))
        case measure => omega
        case rel => exact ⟨t + 1, xorNext r, swp dk (a + L / 4 * 2 - 1 + t) (a + (O - L)), by congr 1; push_cast; omega, by omega, Nat.le_refl _, by rw [← HN.out.1]; exact S3,
          (show Hid _ from by rw [← HR.out, bp_step a L M _ t r dk (O - L) ht3 (by rw [← HN.out.2, if_pos (by omega)])]; exact rfl)⟩
      · have hLOz : ¬ (L : Int) ≤ (O : Int) := by omega
        obtain ⟨W4, hrun, hI4, hS4⟩ := HE.out.swapI dk w2 (a + L / 4 * 2 - 1 + t) (a + O) ((a : Int) + (L : Int) / 4 * 2 - 1 + (t : Int)) ((a : Int) + (O : Int)) (by omega) (by omega) S2.i (by omega) (by omega)
        have S3 := S2.swapped HB.out hI4 hS4
        clear S2
        go_wp2_with (go_at_call 122; refine hNext.mono ?_; rintro e w' ⟨rfl, rfl⟩)
        go_roundg (3 - (t + 1))
        case measure => omega
        case rel => exact ⟨t + 1, xorNext r, swp dk (a + L / 4 * 2 - 1 + t) (a + O), by congr 1; push_cast; omega, by omega, Nat.le_refl _, by rw [← HN.out.1]; exact S3,
          (show Hid _ from by rw [← HR.out, bp_step a L M _ t r dk O ht3 (by rw [← HN.out.2, if_neg (by omega)])]; exact rfl)⟩
    · obtain rfl : t = 3 := by omega
      have hle : ¬ ((a : Int) + (L : Int) / 4 * 2 - 1 + ((3 : Nat) : Int) ≤ (a : Int) + (L : Int) / 4 * 2 + 1) := by omega
      go_wp2
      go_end0
      refine ⟨rfl, ?_, ?_⟩
      · rw [← HR.out]; exact S.i
      · exact fin_stay (by omega) S.st

theorem breakPatterns_any (E : SEnv g lb sf sb lt n blk base I) (a b : Nat) (d : Array α) (w : World) (h : I d w) (hab : a ≤ b) (hb : b ≤ n) :
    Calls Try.prog 111 #[.agg #[.func (.func g) #[] lb, .func (.func sf) #[] sb], .int .i64 a, .int .i64 b] w fun e w' => e = .returned (.tuple #[]) ∧ I (breakPatterns d a b) w' ∧ Stay (fun k => k ≠ blk) w w' := by
  obtain ⟨L, rfl⟩ : ∃ L, b = a + L := ⟨b - a, by omega⟩
  by_cases h8 : 8 ≤ L
  · exact breakPatterns_go E a L d w h hb h8
  · have hv : breakPatterns d a (a + L) = d := by unfold breakPatterns; simp only [Nat.add_sub_cancel_left]; rw [if_neg h8]
    rw [hv]
    have hbig := E.big
    have hLz : ((a : Int) + (L : Int) - (a : Int)) = (L : Int) := by omega
    have h8z : ¬ (8 : Int) ≤ (L : Int) := by omega
    have S0 := SSt.start E h 128
    have S1 : Hid (I d (w.alloc (.cells #[.func (.func g) #[] lb, .func (.func sf) #[] sb] 128))) := S0.i
    clear E h S0
    go_enter Try.func111, Try.ntmps111
    go_wp2
    go_end0
    exact ⟨rfl, S1.out, .alloc _ _ _⟩
end Go.Proofs.Ytollijngiioonaa

