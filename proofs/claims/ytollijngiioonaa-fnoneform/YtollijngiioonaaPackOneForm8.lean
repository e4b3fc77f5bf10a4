/- What the proof of FnOneForm stands on, part 8 of 11: each piece says what it proves and under which conditions. Conditions: as each piece says. -/
import Derived.Test.YtollijngiioonaaPackOneForm7
import Derived.Sort.WalkA
import Derived.Sort.Walk7
import Derived.Deep.LoopGhost
import Derived.Sort.Walk13
import Derived.Shelf.GgSortFunc.SmallK
import Derived.Shelf.GgSortFunc.Tiny
/- sort.partition_func, by a comparison that may lay blocks. Conditions: rows of less than 2^62 elements. -/
namespace Go.Proofs.Ytollijngiioonaa
set_option maxRecDepth 100000
open Go.RowKit Go.Sort

variable {α : Type} [Inhabited α]
variable {g : Nat} {lb : Array Value} {sf : Nat} {sb : Array Value} {lt : α → α → Bool} {n blk base : Nat} {I : Array α → World → Prop}

set_option maxHeartbeats 8000000 in
theorem partition_any (E : SEnv g lb sf sb lt n blk base I) (a b pivot : Nat) (d : Array α) (w : World) (h : I d w) (hap : a ≤ pivot) (hpb : pivot < b) (hb : b ≤ n) :
    Calls Try.prog 116 #[.agg #[.func (.func g) #[] lb, .func (.func sf) #[] sb], .int .i64 a, .int .i64 b, .int .i64 pivot] w fun e w' => e = .returned (.tuple #[.int .i64 (partition lt d a b pivot).1, .bool (partition lt d a b pivot).2.1]) ∧ I (partition lt d a b pivot).2.2 w' ∧ Stay (fun k => k ≠ blk) w w' := by
  have eg := E.eg
  have hbig := E.big
  have HB : Hid (w.heap.size ≠ blk) := by have := E.lt _ _ h; have := E.bb; show _ ≠ _; omega
  have HE : Hid (SEnv g lb sf sb lt n blk base I) := E
  have S0 := SSt.start E h 128
  obtain ⟨W, hW⟩ : ∃ W, W = w.alloc (.cells #[.func (.func g) #[] lb, .func (.func sf) #[] sb] 128) := ⟨_, rfl⟩
  rw [← hW] at S0
  obtain ⟨W1, hrun0, hI1, hS1⟩ := E.swapI d W a pivot a pivot rfl rfl S0.i (by omega) (by omega)
  have S1' := S0.step HB.out hI1 hS1
  rw [hW] at hrun0
  have z0 : (w.alloc (.cells #[.func (.func g) #[] lb, .func (.func sf) #[] sb] 128)).cell? ⟨w.heap.size, 0, none⟩ = some (.func (.func g) #[] lb) := by simp
  have z1 : (w.alloc (.cells #[.func (.func g) #[] lb, .func (.func sf) #[] sb] 128)).cell? ⟨w.heap.size, 1, none⟩ = some (.func (.func sf) #[] sb) := by simp
  clear E h S0 hI1 hS1 hW
  obtain ⟨i, Hi⟩ : ∃ i, Hid (i = a + 1) := ⟨_, rfl⟩
  obtain ⟨j, Hj⟩ : ∃ j, Hid (j = b - 1) := ⟨_, rfl⟩
  obtain ⟨dk, Hdk⟩ : ∃ dk, Hid (dk = swp d a pivot) := ⟨_, rfl⟩
  have S : SSt blk I w w.heap.size g lb sf sb dk W1 := by rw [Hdk.out]; exact S1'
  have hij : i ≤ j + 1 := by have := Hi.out; have := Hj.out; omega
  have hai : a < i := by have := Hi.out; omega
  have hjb : j < b := by have := Hj.out; omega
  have hic : (a : Int) + 1 = (i : Int) := by have := Hi.out; omega
  have hjc : (b : Int) - 1 = (j : Int) := by have := Hj.out; omega
  clear S1'
  go_enter Try.func116, Try.ntmps116
  go_wp2
  go_loopw [10] (fun vi w1 => ∃ i1 : Nat, vi = .int .i64 i1 ∧ i ≤ i1 ∧ i1 ≤ j + 1 ∧ SSt blk I w w.heap.size g lb sf sb dk w1 ∧ Hid (scanUp (fun x => lt x dk[a]!) dk j i1 = scanUp (fun x => lt x dk[a]!) dk j i)) (fun vi _ => j + 1 - (intOf vi).toNat)
  case atStart => exact ⟨i, by first | rfl | go_num | (congr 1; omega), Nat.le_refl _, hij, S, rfl⟩
  case round =>
    obtain ⟨i1, rfl, h1, h2, S1, HU⟩ := hrel
    have c0 := S1.c0
    have c1 := S1.c1
    by_cases hle : i1 ≤ j
    · have hlez : (i1 : Int) ≤ (j : Int) := by omega
      cases hv : lt dk[i1]! dk[a]! with
      | true =>
        have hl := HE.out.lessV dk i1 a i1 a true hv rfl rfl (by omega) (by omega) _ S1.i
        have HU2 : Hid (scanUp (fun x => lt x dk[a]!) dk j (i1 + 1) = scanUp (fun x => lt x dk[a]!) dk j i) := (scanUp_go (fun x => lt x dk[a]!) dk j i1 hle (hv)).symm.trans HU.out
        go_wp2_with (go_at_fn g; refine hl.mono ?_; rintro e w4 ⟨rfl, hI4, hS4⟩; have S4 := S1.step HB.out hI4 hS4; clear hl)
        go_roundw
        case rel =>
          first
            | exact ⟨i1 + 1, by go_num, by omega, by omega, S4, HU2⟩
            | ((repeat apply Exists.intro); refine ⟨?_, rfl⟩; exact ⟨i1 + 1, by go_num, by omega, by omega, S4, HU2⟩)
            | ((repeat apply Exists.intro); exact ⟨⟨i1 + 1, by go_num, by omega, by omega, S4, HU2⟩, by rw [DEC.out, show ((i1 + 1 : Nat) : Int) = (i1 : Int) + 1 by omega]⟩)
        case measure => simp [intOf] <;> omega
      | false =>
        have hl := HE.out.lessV dk i1 a i1 a false hv rfl rfl (by omega) (by omega) _ S1.i
        have HI : Hid (i1 = scanUp (fun x => lt x dk[a]!) dk j i) := (scanUp_end (fun x => lt x dk[a]!) dk j i1 (Or.inr (hv))).symm.trans HU.out
        go_wp2_with (go_at_fn g; refine hl.mono ?_; rintro e w4 ⟨rfl, hI4, hS4⟩; have S2 := S1.step HB.out hI4 hS4; clear hl c0 c1)
        go_loopw [11] (fun vj w2 => ∃ j1 : Nat, vj = .int .i64 j1 ∧ j1 ≤ j ∧ i1 ≤ j1 + 1 ∧ SSt blk I w w.heap.size g lb sf sb dk w2 ∧ Hid (scanDown (fun x => !lt x dk[a]!) dk i1 j1 = scanDown (fun x => !lt x dk[a]!) dk i1 j)) (fun vj _ => (intOf vj).toNat)
        case atStart => exact ⟨j, by first | rfl | go_num | (congr 1; omega), Nat.le_refl _, h2, S2, rfl⟩
        case round =>
          obtain ⟨j1, rfl, g1, g2, S3, HD⟩ := hrel
          have k0 := S3.c0
          have k1 := S3.c1
          by_cases hle2 : i1 ≤ j1
          · have hle2z : (i1 : Int) ≤ (j1 : Int) := by omega
            cases hv2 : lt dk[j1]! dk[a]! with
            | false =>
              have hl := HE.out.lessV dk j1 a j1 a false hv2 rfl rfl (by omega) (by omega) _ S3.i
              have HD2 : Hid (scanDown (fun x => !lt x dk[a]!) dk i1 (j1 - 1) = scanDown (fun x => !lt x dk[a]!) dk i1 j) := (scanDown_go (fun x => !lt x dk[a]!) dk i1 j1 hle2 (by omega) (by simp [hv2])).symm.trans HD.out
              go_wp2_with (go_at_fn g; refine hl.mono ?_; rintro e w4 ⟨rfl, hI4, hS4⟩; have S4 := S3.step HB.out hI4 hS4; clear hl)
              go_roundw
              case rel =>
                first
                  | exact ⟨j1 - 1, by congr 1 <;> omega, by omega, by omega, S4, HD2⟩
                  | ((repeat apply Exists.intro); refine ⟨?_, rfl⟩; exact ⟨j1 - 1, by congr 1 <;> omega, by omega, by omega, S4, HD2⟩)
                  | ((repeat apply Exists.intro); exact ⟨⟨j1 - 1, by congr 1 <;> omega, by omega, by omega, S4, HD2⟩, by rw [DEC.out, show ((j1 - 1 : Nat) : Int) = (j1 : Int) - 1 by omega]⟩)
              case measure => simp [intOf] <;> omega
            | true =>
              have hl := HE.out.lessV dk j1 a j1 a true hv2 rfl rfl (by omega) (by omega) _ S3.i
              have HJ : Hid (j1 = scanDown (fun x => !lt x dk[a]!) dk i1 j) := (scanDown_end (fun x => !lt x dk[a]!) dk i1 j1 (Or.inr (by simp [hv2]))).symm.trans HD.out
              have hlt3 := part_scans_lt lt a i j dk (by omega) HI.out HJ.out hle2
              have hngt : ¬ (j1 : Int) < (i1 : Int) := by omega
              go_wp2_with (go_at_fn g; refine hl.mono ?_; rintro e w4 ⟨rfl, hI4, hS4⟩; have S4 := S3.step HB.out hI4 hS4; have m0 := S4.c0; have m1 := S4.c1; obtain ⟨W5, hrun, hI5, hS5⟩ := HE.out.swapI dk w4 i1 j1 i1 j1 rfl rfl S4.i (by omega) (by omega); have S5 := S4.step HB.out hI5 hS5; clear hl)
              obtain ⟨R, HR⟩ : ∃ R, Hid (R = partLoop lt a (i1 + 1) (j1 - 1) (swp dk i1 j1)) := ⟨_, rfl⟩
              have HP : Hid (partition lt d a b pivot = (R.1, false, swp R.2 R.1 a)) := by show _ = _; rw [HR.out]; exact part_first_go lt d a b pivot Hi.out Hj.out Hdk.out HI.out HJ.out (by omega)
              clear HU HD S S1 S2 S3 S4 k0 k1 hrun m0 m1
              have B1 : Hid (i1 < j1) := hlt3
              have DEC : Hid (decide (j1 < i1) = false) := by show _ = _; simp; omega
              clear hngt hlt3 hle2 hle2z
              go_loopw [10, 11] (fun vi vj wr => ∃ (i j : Nat) (dk : Array α), vi = .int .i64 i ∧ vj = .int .i64 j ∧ a < i ∧ i ≤ j + 1 ∧ j < b ∧ SSt blk I w w.heap.size g lb sf sb dk wr ∧ Hid (partLoop lt a i j dk = R)) (fun vi vj _ => (intOf vj).toNat + 1 - (intOf vi).toNat)
              case atStart => exact ⟨i1 + 1, j1 - 1, swp dk i1 j1, by go_num, by have := B1.out; congr 1; omega, by omega, by have := B1.out; omega, by omega, S5, HR.out.symm⟩
              case round =>
                clear S5 HI HJ HR Hi Hj Hdk hv hv2
                obtain ⟨i, j, dk, rfl, rfl, hai, hij, hjb, S, HK⟩ := hrel
                go_wp2
                go_loopw [10] (fun vi w1 => ∃ i1 : Nat, vi = .int .i64 i1 ∧ i ≤ i1 ∧ i1 ≤ j + 1 ∧ SSt blk I w w.heap.size g lb sf sb dk w1 ∧ Hid (scanUp (fun x => lt x dk[a]!) dk j i1 = scanUp (fun x => lt x dk[a]!) dk j i)) (fun vi _ => j + 1 - (intOf vi).toNat)
                case atStart => exact ⟨i, by first | rfl | go_num | (congr 1; omega), Nat.le_refl _, hij, S, rfl⟩
                case round =>
                  obtain ⟨i1, rfl, h1, h2, S1, HU⟩ := hrel
                  have c0 := S1.c0
                  have c1 := S1.c1
                  by_cases hle : i1 ≤ j
                  · have hlez : (i1 : Int) ≤ (j : Int) := by omega
                    cases hv : lt dk[i1]! dk[a]! with
                    | true =>
                      have hl := HE.out.lessV dk i1 a i1 a true hv rfl rfl (by omega) (by omega) _ S1.i
                      have HU2 : Hid (scanUp (fun x => lt x dk[a]!) dk j (i1 + 1) = scanUp (fun x => lt x dk[a]!) dk j i) := (scanUp_go (fun x => lt x dk[a]!) dk j i1 hle (hv)).symm.trans HU.out
                      go_wp2_with (go_at_fn g; refine hl.mono ?_; rintro e w4 ⟨rfl, hI4, hS4⟩; have S4 := S1.step HB.out hI4 hS4; clear hl)
                      go_roundw
                      case rel =>
                        first
                          | exact ⟨i1 + 1, by go_num, by omega, by omega, S4, HU2⟩
                          | ((repeat apply Exists.intro); refine ⟨?_, rfl⟩; exact ⟨i1 + 1, by go_num, by omega, by omega, S4, HU2⟩)
                          | ((repeat apply Exists.intro); exact ⟨⟨i1 + 1, by go_num, by omega, by omega, S4, HU2⟩, by rw [DEC.out, show ((i1 + 1 : Nat) : Int) = (i1 : Int) + 1 by omega]⟩)
                      case measure => simp [intOf] <;> omega
                    | false =>
                      have hl := HE.out.lessV dk i1 a i1 a false hv rfl rfl (by omega) (by omega) _ S1.i
                      have HI : Hid (i1 = scanUp (fun x => lt x dk[a]!) dk j i) := (scanUp_end (fun x => lt x dk[a]!) dk j i1 (Or.inr (hv))).symm.trans HU.out
                      go_wp2_with (go_at_fn g; refine hl.mono ?_; rintro e w4 ⟨rfl, hI4, hS4⟩; have S2 := S1.step HB.out hI4 hS4; clear hl c0 c1)
                      go_loopw [11] (fun vj w2 => ∃ j1 : Nat, vj = .int .i64 j1 ∧ j1 ≤ j ∧ i1 ≤ j1 + 1 ∧ SSt blk I w w.heap.size g lb sf sb dk w2 ∧ Hid (scanDown (fun x => !lt x dk[a]!) dk i1 j1 = scanDown (fun x => !lt x dk[a]!) dk i1 j)) (fun vj _ => (intOf vj).toNat)
                      case atStart => exact ⟨j, by first | rfl | go_num | (congr 1; omega), Nat.le_refl _, h2, S2, rfl⟩
                      case round =>
                        obtain ⟨j1, rfl, g1, g2, S3, HD⟩ := hrel
                        have k0 := S3.c0
                        have k1 := S3.c1
                        by_cases hle2 : i1 ≤ j1
                        · have hle2z : (i1 : Int) ≤ (j1 : Int) := by omega
                          cases hv2 : lt dk[j1]! dk[a]! with
                          | false =>
                            have hl := HE.out.lessV dk j1 a j1 a false hv2 rfl rfl (by omega) (by omega) _ S3.i
                            have HD2 : Hid (scanDown (fun x => !lt x dk[a]!) dk i1 (j1 - 1) = scanDown (fun x => !lt x dk[a]!) dk i1 j) := (scanDown_go (fun x => !lt x dk[a]!) dk i1 j1 hle2 (by omega) (by simp [hv2])).symm.trans HD.out
                            go_wp2_with (go_at_fn g; refine hl.mono ?_; rintro e w4 ⟨rfl, hI4, hS4⟩; have S4 := S3.step HB.out hI4 hS4; clear hl)
                            go_roundw
                            case rel =>
                              first
                                | exact ⟨j1 - 1, by congr 1 <;> omega, by omega, by omega, S4, HD2⟩
                                | ((repeat apply Exists.intro); refine ⟨?_, rfl⟩; exact ⟨j1 - 1, by congr 1 <;> omega, by omega, by omega, S4, HD2⟩)
                                | ((repeat apply Exists.intro); exact ⟨⟨j1 - 1, by congr 1 <;> omega, by omega, by omega, S4, HD2⟩, by rw [DEC.out, show ((j1 - 1 : Nat) : Int) = (j1 : Int) - 1 by omega]⟩)
                            case measure => simp [intOf] <;> omega
                          | true =>
                            have hl := HE.out.lessV dk j1 a j1 a true hv2 rfl rfl (by omega) (by omega) _ S3.i
                            have HJ : Hid (j1 = scanDown (fun x => !lt x dk[a]!) dk i1 j) := (scanDown_end (fun x => !lt x dk[a]!) dk i1 j1 (Or.inr (by simp [hv2]))).symm.trans HD.out
                            have hlt3 := part_scans_lt lt a i j dk (by omega) HI.out HJ.out hle2
                            have hngt : ¬ (j1 : Int) < (i1 : Int) := by omega
                            go_wp2_with (go_at_fn g; refine hl.mono ?_; rintro e w4 ⟨rfl, hI4, hS4⟩; have S4 := S3.step HB.out hI4 hS4; have m0 := S4.c0; have m1 := S4.c1; obtain ⟨W5, hrun, hI5, hS5⟩ := HE.out.swapI dk w4 i1 j1 i1 j1 rfl rfl S4.i (by omega) (by omega); have S5 := S4.step HB.out hI5 hS5; clear hl)
                            have HN : Hid (partLoop lt a (i1 + 1) (j1 - 1) (swp dk i1 j1) = R) := by show _ = _; rw [← HK.out]; exact (part_go lt a i j dk HI.out HJ.out (by omega)).symm
                            go_roundw
                            case rel =>
                              first
                                | exact ⟨i1 + 1, j1 - 1, swp dk i1 j1, by go_num, by congr 1 <;> omega, by omega, by omega, by omega, S5, HN⟩
                                | ((repeat apply Exists.intro); refine ⟨?_, rfl⟩; exact ⟨i1 + 1, j1 - 1, swp dk i1 j1, by go_num, by congr 1 <;> omega, by omega, by omega, by omega, S5, HN⟩)
                                | ((repeat apply Exists.intro); exact ⟨⟨i1 + 1, j1 - 1, swp dk i1 j1, by go_num, by congr 1 <;> omega, by omega, by omega, by omega, S5, HN⟩, by rw [DEC.out, show ((i1 + 1 : Nat) : Int) = (i1 : Int) + 1 by omega, show ((j1 - 1 : Nat) : Int) = (j1 : Int) - 1 by omega]⟩)
                            case measure => simp [intOf] <;> omega
                        · have hle2z : ¬ (i1 : Int) ≤ (j1 : Int) := by omega
                          have HJ : Hid (j1 = scanDown (fun x => !lt x dk[a]!) dk i1 j) := (scanDown_end (fun x => !lt x dk[a]!) dk i1 j1 (Or.inl hle2)).symm.trans HD.out
                          have hgt : (j1 : Int) < (i1 : Int) := by omega
                          have HN : Hid (R = (j1, dk)) := by show _ = _; rw [← HK.out]; exact part_break lt a i j dk HI.out HJ.out (by omega)
                          have HX : Hid (partition lt d a b pivot = (j1, false, swp dk j1 a)) := by show _ = _; rw [HP.out, HN.out]
                          obtain ⟨W6, hrun6, hI6, hS6⟩ := HE.out.swapI dk _ j1 a j1 a rfl rfl S3.i (by omega) (by omega)
                          have S6 := S3.step HB.out hI6 hS6
                          go_wp2
                          go_ret2
                          exact ⟨by rw [HX.out]; rfl, by rw [HX.out]; exact S6.i, S6.st⟩
                  · have hlez : ¬ (i1 : Int) ≤ (j : Int) := by omega
                    have HI : Hid (i1 = scanUp (fun x => lt x dk[a]!) dk j i) := (scanUp_end (fun x => lt x dk[a]!) dk j i1 (Or.inl hle)).symm.trans HU.out
                    clear c0 c1
                    go_wp2
                    go_loopw [11] (fun vj w2 => ∃ j1 : Nat, vj = .int .i64 j1 ∧ j1 ≤ j ∧ i1 ≤ j1 + 1 ∧ SSt blk I w w.heap.size g lb sf sb dk w2 ∧ Hid (scanDown (fun x => !lt x dk[a]!) dk i1 j1 = scanDown (fun x => !lt x dk[a]!) dk i1 j)) (fun vj _ => (intOf vj).toNat)
                    case atStart => exact ⟨j, by first | rfl | go_num | (congr 1; omega), Nat.le_refl _, h2, S1, rfl⟩
                    case round =>
                      obtain ⟨j1, rfl, g1, g2, S3, HD⟩ := hrel
                      have k0 := S3.c0
                      have k1 := S3.c1
                      by_cases hle2 : i1 ≤ j1
                      · exfalso; omega
                      · have hle2z : ¬ (i1 : Int) ≤ (j1 : Int) := by omega
                        have HJ : Hid (j1 = scanDown (fun x => !lt x dk[a]!) dk i1 j) := (scanDown_end (fun x => !lt x dk[a]!) dk i1 j1 (Or.inl hle2)).symm.trans HD.out
                        have hgt : (j1 : Int) < (i1 : Int) := by omega
                        have HN : Hid (R = (j1, dk)) := by show _ = _; rw [← HK.out]; exact part_break lt a i j dk HI.out HJ.out (by omega)
                        have HX : Hid (partition lt d a b pivot = (j1, false, swp dk j1 a)) := by show _ = _; rw [HP.out, HN.out]
                        obtain ⟨W6, hrun6, hI6, hS6⟩ := HE.out.swapI dk _ j1 a j1 a rfl rfl S3.i (by omega) (by omega)
                        have S6 := S3.step HB.out hI6 hS6
                        go_wp2
                        go_ret2
                        exact ⟨by rw [HX.out]; rfl, by rw [HX.out]; exact S6.i, S6.st⟩
          · have hle2z : ¬ (i1 : Int) ≤ (j1 : Int) := by omega
            have HJ : Hid (j1 = scanDown (fun x => !lt x dk[a]!) dk i1 j) := (scanDown_end (fun x => !lt x dk[a]!) dk i1 j1 (Or.inl hle2)).symm.trans HD.out
            have hgt : (j1 : Int) < (i1 : Int) := by omega
            have HX : Hid (partition lt d a b pivot = (j1, true, swp dk j1 a)) := part_first_break lt d a b pivot Hi.out Hj.out Hdk.out HI.out HJ.out (by omega)
            obtain ⟨W6, hrun6, hI6, hS6⟩ := HE.out.swapI dk _ j1 a j1 a rfl rfl S3.i (by omega) (by omega)
            have S6 := S3.step HB.out hI6 hS6
            go_wp2
            go_ret2
            exact ⟨by rw [HX.out]; rfl, by rw [HX.out]; exact S6.i, S6.st⟩
    · have hlez : ¬ (i1 : Int) ≤ (j : Int) := by omega
      have HI : Hid (i1 = scanUp (fun x => lt x dk[a]!) dk j i) := (scanUp_end (fun x => lt x dk[a]!) dk j i1 (Or.inl hle)).symm.trans HU.out
      clear c0 c1
      go_wp2
      go_loopw [11] (fun vj w2 => ∃ j1 : Nat, vj = .int .i64 j1 ∧ j1 ≤ j ∧ i1 ≤ j1 + 1 ∧ SSt blk I w w.heap.size g lb sf sb dk w2 ∧ Hid (scanDown (fun x => !lt x dk[a]!) dk i1 j1 = scanDown (fun x => !lt x dk[a]!) dk i1 j)) (fun vj _ => (intOf vj).toNat)
      case atStart => exact ⟨j, by first | rfl | go_num | (congr 1; omega), Nat.le_refl _, h2, S1, rfl⟩
      case round =>
        obtain ⟨j1, rfl, g1, g2, S3, HD⟩ := hrel
        have k0 := S3.c0
        have k1 := S3.c1
        by_cases hle2 : i1 ≤ j1
        · exfalso; omega
        · have hle2z : ¬ (i1 : Int) ≤ (j1 : Int) := by omega
          have HJ : Hid (j1 = scanDown (fun x => !lt x dk[a]!) dk i1 j) := (scanDown_end (fun x => !lt x dk[a]!) dk i1 j1 (Or.inl hle2)).symm.trans HD.out
          have hgt : (j1 : Int) < (i1 : Int) := by omega
          have HX : Hid (partition lt d a b pivot = (j1, true, swp dk j1 a)) := part_first_break lt d a b pivot Hi.out Hj.out Hdk.out HI.out HJ.out (by omega)
          obtain ⟨W6, hrun6, hI6, hS6⟩ := HE.out.swapI dk _ j1 a j1 a rfl rfl S3.i (by omega) (by omega)
          have S6 := S3.step HB.out hI6 hS6
          go_wp2
          go_ret2
          exact ⟨by rw [HX.out]; rfl, by rw [HX.out]; exact S6.i, S6.st⟩
end Go.Proofs.Ytollijngiioonaa

/- sort.partialInsertionSort_func, by a comparison that may lay blocks. Conditions: rows of less than 2^62 elements. -/
namespace Go.Proofs.Ytollijngiioonaa
set_option maxRecDepth 100000
open Go.RowKit Go.Sort

variable {α : Type} [Inhabited α]
variable {g : Nat} {lb : Array Value} {sf : Nat} {sb : Array Value} {lt : α → α → Bool} {n blk base : Nat} {I : Array α → World → Prop}

theorem pIns_succ (lt : α → α → Bool) (a b t i : Nat) (d : Array α) : partialIns lt a b (t + 1) i d = if scanSorted lt d b i = b then (d, true) else if b - a < 50 then (d, false) else partialIns lt a b t (scanSorted lt d b i) (if b - scanSorted lt d b i ≥ 2 then shiftUp lt b (scanSorted lt d b i + 1) (if scanSorted lt d b i - a ≥ 2 then shiftDown lt (scanSorted lt d b i - 1) (swp d (scanSorted lt d b i) (scanSorted lt d b i - 1)) else swp d (scanSorted lt d b i) (scanSorted lt d b i - 1)) else (if scanSorted lt d b i - a ≥ 2 then shiftDown lt (scanSorted lt d b i - 1) (swp d (scanSorted lt d b i) (scanSorted lt d b i - 1)) else swp d (scanSorted lt d b i) (scanSorted lt d b i - 1))) := rfl

set_option maxHeartbeats 4000000 in
theorem partialIns_any (E : SEnv g lb sf sb lt n blk base I) (a b : Nat) (d : Array α) (w : World) (h : I d w) (hab : a < b) (hb : b ≤ n) :
    Calls Try.prog 114 #[.agg #[.func (.func g) #[] lb, .func (.func sf) #[] sb], .int .i64 a, .int .i64 b] w fun e w' => e = .returned (.bool (partialInsertionSort lt d a b).2) ∧ I (partialInsertionSort lt d a b).1 w' ∧ Stay (fun k => k ≠ blk) w w' := by
  have eg := E.eg
  have hbig := E.big
  have HB : Hid (w.heap.size ≠ blk) := by have := E.lt _ _ h; have := E.bb; show _ ≠ _; omega
  have HE : Hid (SEnv g lb sf sb lt n blk base I) := E
  have S0 := SSt.start E h 128
  clear E h
  go_enter Try.func114, Try.ntmps114
  go_wp2
  go_loopw [7, 8] (fun vi vs wr => ∃ (i s : Nat) (dk : Array α), vi = .int .i64 i ∧ vs = .int .i64 s ∧ s ≤ 5 ∧ a < i ∧ i ≤ b ∧ SSt blk I w w.heap.size g lb sf sb dk wr ∧ Hid (partialIns lt a b (5 - s) i dk = partialInsertionSort lt d a b)) (fun _ vs _ => 5 - (intOf vs).toNat)
  case atStart => exact ⟨a + 1, 0, d, by go_num, rfl, by omega, by omega, by omega, S0, rfl⟩
  case round =>
    obtain ⟨i, s, dk, rfl, rfl, hs5, hai, hib, S, HS⟩ := hrel
    clear S0
    by_cases hs : s < 5
    · have hsz : (s : Int) < 5 := by omega
      obtain ⟨t, ht⟩ : ∃ t, 5 - s = t + 1 := ⟨4 - s, by omega⟩
      have HS1 : Hid (partialIns lt a b (t + 1) i dk = partialInsertionSort lt d a b) := by have := HS.out; rw [ht] at this; exact this
      have htt : t = 4 - s := by omega
      clear ht HS
      go_wp2
      go_loopw [7] (fun vi w1 => ∃ i1 : Nat, vi = .int .i64 i1 ∧ i ≤ i1 ∧ i1 ≤ b ∧ SSt blk I w w.heap.size g lb sf sb dk w1 ∧ Hid (scanSorted lt dk b i1 = scanSorted lt dk b i)) (fun vi _ => b - (intOf vi).toNat)
      case atStart => exact ⟨i, rfl, Nat.le_refl _, hib, S, rfl⟩
      case round =>
        obtain ⟨i1, rfl, h1, h2, S1, HC⟩ := hrel
        have c0 := S1.c0
        have c1 := S1.c1
        by_cases hlt : i1 < b
        · have hltz : (i1 : Int) < (b : Int) := by omega
          have hi1w : IntKind.i64.wrap ((i1 : Int) - 1) = (i1 : Int) - 1 := by rw [IntKind.wrap_i64]; omega
          cases hv : lt dk[i1]! dk[i1 - 1]! with
          | false =>
            have hl := HE.out.lessV dk i1 (i1 - 1) i1 ((i1 : Int) - 1) false hv rfl (by omega) (by omega) (by omega) _ S1.i
            have HC2 : Hid (scanSorted lt dk b (i1 + 1) = scanSorted lt dk b i) := by have := HC.out; rw [scanSorted] at this; simp only [hlt, hv, decide_true, Bool.not_false, Bool.and_self, if_true] at this; exact this
            go_wp2_with (go_at_fn g; refine hl.mono ?_; rintro e w4 ⟨rfl, hI4, hS4⟩; have S4 := S1.step HB.out hI4 hS4; clear hl)
            go_roundw
            case rel =>
              first
                | exact ⟨i1 + 1, by go_num, by omega, by omega, S4, HC2⟩
                | ((repeat apply Exists.intro); refine ⟨?_, rfl⟩; exact ⟨i1 + 1, by go_num, by omega, by omega, S4, HC2⟩)
            case measure => simp [intOf] <;> omega
          | true =>
            have hl := HE.out.lessV dk i1 (i1 - 1) i1 ((i1 : Int) - 1) true hv rfl (by omega) (by omega) (by omega) _ S1.i
            have HC3 : Hid (scanSorted lt dk b i = i1) := by have := HC.out; rw [scanSorted] at this; simp only [hv, Bool.not_true, Bool.and_false, Bool.false_eq_true, if_false] at this; exact this.symm
            have hne : ((i1 : Int) == (b : Int)) = false := by simp; omega
            by_cases h50 : b - a < 50
            · have h50z : (b : Int) - (a : Int) < 50 := by omega
              have HX : Hid (partialInsertionSort lt d a b = (dk, false)) := by show _ = _; rw [← HS1.out, pIns_succ, HC3.out, if_neg (by omega), if_pos h50]
              go_wp2_with (go_at_fn g; refine hl.mono ?_; rintro e w4 ⟨rfl, hI4, hS4⟩; have S4 := S1.step HB.out hI4 hS4; clear hl)
              go_ret
              exact ⟨by rw [HX.out]; rfl, by rw [HX.out]; exact S4.i, S4.st⟩
            · have h50z : ¬ (b : Int) - (a : Int) < 50 := by omega
              have HQ0 : Hid (partialIns lt a b t i1 (if b - i1 ≥ 2 then shiftUp lt b (i1 + 1) (if i1 - a ≥ 2 then shiftDown lt (i1 - 1) (swp dk i1 (i1 - 1)) else swp dk i1 (i1 - 1)) else (if i1 - a ≥ 2 then shiftDown lt (i1 - 1) (swp dk i1 (i1 - 1)) else swp dk i1 (i1 - 1))) = partialInsertionSort lt d a b) := by have := HS1.out; rw [pIns_succ, HC3.out, if_neg (by omega), if_neg h50] at this; exact this
              by_cases hl2 : 2 ≤ i1 - a
              · have hl2z : (2 : Int) ≤ (i1 : Int) - (a : Int) := by omega
                have HL : Hid (partialIns lt a b t i1 (if b - i1 ≥ 2 then shiftUp lt b (i1 + 1) (shiftDown lt (i1 - 1) (swp dk i1 (i1 - 1))) else shiftDown lt (i1 - 1) (swp dk i1 (i1 - 1))) = partialInsertionSort lt d a b) := by have := HQ0.out; rw [if_pos hl2] at this; exact this
                go_wp2_with (go_at_fn g; refine hl.mono ?_; rintro e w4 ⟨rfl, hI4, hS4⟩; have S4 := S1.step HB.out hI4 hS4; have m0 := S4.c0; have m1 := S4.c1; obtain ⟨W5, hrun, hI5, hS5⟩ := HE.out.swapI dk w4 i1 (i1 - 1) i1 ((i1 : Int) - 1) rfl (by omega) S4.i (by omega) (by omega); have S5 := S4.step HB.out hI5 hS5; clear hl)
                go_loopw [9] (fun vj w2 => ∃ (jd : Nat) (dd : Array α), vj = .int .i64 jd ∧ jd ≤ i1 - 1 ∧ SSt blk I w w.heap.size g lb sf sb dd w2 ∧ Hid (shiftDown lt jd dd = shiftDown lt (i1 - 1) (swp dk i1 (i1 - 1)))) (fun vj _ => (intOf vj).toNat)
                case atStart => exact ⟨i1 - 1, _, by congr 1 <;> omega, Nat.le_refl _, S5, rfl⟩
                case round =>
                  obtain ⟨jd, dd, rfl, q1, SD, HD⟩ := hrel
                  have u0 := SD.c0
                  have u1 := SD.c1
                  cases jd with
                  | zero =>
                    have HQ : Hid (partialIns lt a b t i1 (if b - i1 ≥ 2 then shiftUp lt b (i1 + 1) dd else dd) = partialInsertionSort lt d a b) := by have := HL.out; rw [← HD.out] at this; exact this
                    by_cases hr2 : 2 ≤ b - i1
                    · have hr2z : (2 : Int) ≤ (b : Int) - (i1 : Int) := by omega
                      have HQ2 : Hid (partialIns lt a b t i1 (shiftUp lt b (i1 + 1) dd) = partialInsertionSort lt d a b) := by have := HQ.out; rw [if_pos hr2] at this; exact this
                      go_wp2
                      go_loopw [10] (fun vj w2 => ∃ (ju : Nat) (du : Array α), vj = .int .i64 ju ∧ i1 + 1 ≤ ju ∧ ju ≤ b ∧ SSt blk I w w.heap.size g lb sf sb du w2 ∧ Hid (shiftUp lt b ju du = shiftUp lt b (i1 + 1) dd)) (fun vj _ => b - (intOf vj).toNat)
                      case atStart => exact ⟨i1 + 1, _, by go_num, Nat.le_refl _, by omega, SD, rfl⟩
                      case round =>
                        obtain ⟨ju, du, rfl, q1, q2, SU, HU⟩ := hrel
                        have u0 := SU.c0
                        have u1 := SU.c1
                        by_cases hjb : ju < b
                        · have hjbz : (ju : Int) < (b : Int) := by omega
                          cases hvu : lt du[ju]! du[ju - 1]! with
                          | true =>
                            have hl := HE.out.lessV du ju (ju - 1) ju ((ju : Int) - 1) true hvu rfl (by omega) (by omega) (by omega) _ SU.i
                            have HU2 : Hid (shiftUp lt b (ju + 1) (swp du ju (ju - 1)) = shiftUp lt b (i1 + 1) dd) := by have := HU.out; rw [shiftUp, if_pos hjb, hvu] at this; exact this
                            go_wp2_with (go_at_fn g; refine hl.mono ?_; rintro e w6 ⟨rfl, hI6, hS6⟩; have S6 := SU.step HB.out hI6 hS6; have x0 := S6.c0; have x1 := S6.c1; obtain ⟨W7, hrun7, hI7, hS7⟩ := HE.out.swapI du w6 ju (ju - 1) ju ((ju : Int) - 1) rfl (by omega) S6.i (by omega) (by omega); have S7 := S6.step HB.out hI7 hS7; clear hl)
                            go_roundw
                            case rel =>
                              first
                                | exact ⟨ju + 1, swp du ju (ju - 1), by go_num, by omega, by omega, S7, HU2⟩
                                | ((repeat apply Exists.intro); refine ⟨?_, rfl⟩; exact ⟨ju + 1, swp du ju (ju - 1), by go_num, by omega, by omega, S7, HU2⟩)
                            case measure => simp [intOf] <;> omega
                          | false =>
                            have hl := HE.out.lessV du ju (ju - 1) ju ((ju : Int) - 1) false hvu rfl (by omega) (by omega) (by omega) _ SU.i
                            have HF : Hid (partialIns lt a b t i1 du = partialInsertionSort lt d a b) := by have := HQ2.out; rw [← HU.out, shiftUp, if_pos hjb, hvu] at this; exact this
                            go_wp2_with (go_at_fn g; refine hl.mono ?_; rintro e w6 ⟨rfl, hI6, hS6⟩; have S6 := SU.step HB.out hI6 hS6; clear hl)
                            go_roundw
                            case rel =>
                              first
                                | exact ⟨i1, s + 1, du, rfl, by go_num, by omega, by omega, by omega, S6, by rw [show 5 - (s + 1) = t by omega]; exact HF⟩
                                | ((repeat apply Exists.intro); refine ⟨?_, rfl⟩; exact ⟨i1, s + 1, du, rfl, by go_num, by omega, by omega, by omega, S6, by rw [show 5 - (s + 1) = t by omega]; exact HF⟩)
                            case measure => simp [intOf] <;> omega
                        · have hjbz : ¬ (ju : Int) < (b : Int) := by omega
                          have HF : Hid (partialIns lt a b t i1 du = partialInsertionSort lt d a b) := by have := HQ2.out; rw [← HU.out, shiftUp, if_neg hjb] at this; exact this
                          go_wp2
                          go_roundw
                          case rel =>
                            first
                              | exact ⟨i1, s + 1, du, rfl, by go_num, by omega, by omega, by omega, SU, by rw [show 5 - (s + 1) = t by omega]; exact HF⟩
                              | ((repeat apply Exists.intro); refine ⟨?_, rfl⟩; exact ⟨i1, s + 1, du, rfl, by go_num, by omega, by omega, by omega, SU, by rw [show 5 - (s + 1) = t by omega]; exact HF⟩)
                          case measure => simp [intOf] <;> omega
                    · have hr2z : ¬ (2 : Int) ≤ (b : Int) - (i1 : Int) := by omega
                      have HF : Hid (partialIns lt a b t i1 dd = partialInsertionSort lt d a b) := by have := HQ.out; rw [if_neg hr2] at this; exact this
                      go_wp2
                      go_roundw
                      case rel =>
                        first
                          | exact ⟨i1, s + 1, dd, rfl, by go_num, by omega, by omega, by omega, SD, by rw [show 5 - (s + 1) = t by omega]; exact HF⟩
                          | ((repeat apply Exists.intro); refine ⟨?_, rfl⟩; exact ⟨i1, s + 1, dd, rfl, by go_num, by omega, by omega, by omega, SD, by rw [show 5 - (s + 1) = t by omega]; exact HF⟩)
                      case measure => simp [intOf] <;> omega
                  | succ jd =>
                    simp only [show ((jd + 1 : Nat) : Int) = (jd : Int) + 1 by omega]
                    have hjz : (1 : Int) ≤ (jd : Int) + 1 := by omega
                    have hjw : IntKind.i64.wrap ((jd : Int) + 1 - 1) = (jd : Int) := by rw [IntKind.wrap_i64]; omega
                    cases hvd : lt dd[jd + 1]! dd[jd]! with
                    | true =>
                      have hl := HE.out.lessV dd (jd + 1) jd ((jd : Int) + 1) (jd : Int) true hvd (by omega) rfl (by omega) (by omega) _ SD.i
                      have HD2 : Hid (shiftDown lt jd (swp dd (jd + 1) jd) = shiftDown lt (i1 - 1) (swp dk i1 (i1 - 1))) := by have := HD.out; rw [shiftDown, hvd] at this; exact this
                      go_wp2_with (go_at_fn g; refine hl.mono ?_; rintro e w6 ⟨rfl, hI6, hS6⟩; have S6 := SD.step HB.out hI6 hS6; have x0 := S6.c0; have x1 := S6.c1; obtain ⟨W7, hrun7, hI7, hS7⟩ := HE.out.swapI dd w6 (jd + 1) jd ((jd : Int) + 1) (jd : Int) (by omega) rfl S6.i (by omega) (by omega); have S7 := S6.step HB.out hI7 hS7; clear hl)
                      go_roundw
                      case rel =>
                        first
                          | exact ⟨jd, swp dd (jd + 1) jd, by first | rfl | (congr 1 <;> omega), by omega, S7, HD2⟩
                          | ((repeat apply Exists.intro); refine ⟨?_, rfl⟩; exact ⟨jd, swp dd (jd + 1) jd, by first | rfl | (congr 1 <;> omega), by omega, S7, HD2⟩)
                      case measure => simp [intOf] <;> omega
                    | false =>
                      have hl := HE.out.lessV dd (jd + 1) jd ((jd : Int) + 1) (jd : Int) false hvd (by omega) rfl (by omega) (by omega) _ SD.i
                      have e1 : Hid (shiftDown lt (jd + 1) dd = dd) := by show _ = _; rw [shiftDown, hvd]; rfl
                      have HQ : Hid (partialIns lt a b t i1 (if b - i1 ≥ 2 then shiftUp lt b (i1 + 1) dd else dd) = partialInsertionSort lt d a b) := by have := HL.out; rw [← HD.out, e1.out] at this; exact this
                      by_cases hr2 : 2 ≤ b - i1
                      · have hr2z : (2 : Int) ≤ (b : Int) - (i1 : Int) := by omega
                        have HQ2 : Hid (partialIns lt a b t i1 (shiftUp lt b (i1 + 1) dd) = partialInsertionSort lt d a b) := by have := HQ.out; rw [if_pos hr2] at this; exact this
                        go_wp2_with (go_at_fn g; refine hl.mono ?_; rintro e w6 ⟨rfl, hI6, hS6⟩; have S6 := SD.step HB.out hI6 hS6; clear hl)
                        go_loopw [10] (fun vj w2 => ∃ (ju : Nat) (du : Array α), vj = .int .i64 ju ∧ i1 + 1 ≤ ju ∧ ju ≤ b ∧ SSt blk I w w.heap.size g lb sf sb du w2 ∧ Hid (shiftUp lt b ju du = shiftUp lt b (i1 + 1) dd)) (fun vj _ => b - (intOf vj).toNat)
                        case atStart => exact ⟨i1 + 1, _, by go_num, Nat.le_refl _, by omega, S6, rfl⟩
                        case round =>
                          obtain ⟨ju, du, rfl, q1, q2, SU, HU⟩ := hrel
                          have u0 := SU.c0
                          have u1 := SU.c1
                          by_cases hjb : ju < b
                          · have hjbz : (ju : Int) < (b : Int) := by omega
                            cases hvu : lt du[ju]! du[ju - 1]! with
                            | true =>
                              have hl := HE.out.lessV du ju (ju - 1) ju ((ju : Int) - 1) true hvu rfl (by omega) (by omega) (by omega) _ SU.i
                              have HU2 : Hid (shiftUp lt b (ju + 1) (swp du ju (ju - 1)) = shiftUp lt b (i1 + 1) dd) := by have := HU.out; rw [shiftUp, if_pos hjb, hvu] at this; exact this
                              go_wp2_with (go_at_fn g; refine hl.mono ?_; rintro e w6 ⟨rfl, hI6, hS6⟩; have S6 := SU.step HB.out hI6 hS6; have x0 := S6.c0; have x1 := S6.c1; obtain ⟨W7, hrun7, hI7, hS7⟩ := HE.out.swapI du w6 ju (ju - 1) ju ((ju : Int) - 1) rfl (by omega) S6.i (by omega) (by omega); have S7 := S6.step HB.out hI7 hS7; clear hl)
                              go_roundw
                              case rel =>
                                first
                                  | exact ⟨ju + 1, swp du ju (ju - 1), by go_num, by omega, by omega, S7, HU2⟩
                                  | ((repeat apply Exists.intro); refine ⟨?_, rfl⟩; exact ⟨ju + 1, swp du ju (ju - 1), by go_num, by omega, by omega, S7, HU2⟩)
                              case measure => simp [intOf] <;> omega
                            | false =>
                              have hl := HE.out.lessV du ju (ju - 1) ju ((ju : Int) - 1) false hvu rfl (by omega) (by omega) (by omega) _ SU.i
                              have HF : Hid (partialIns lt a b t i1 du = partialInsertionSort lt d a b) := by have := HQ2.out; rw [← HU.out, shiftUp, if_pos hjb, hvu] at this; exact this
                              go_wp2_with (go_at_fn g; refine hl.mono ?_; rintro e w6 ⟨rfl, hI6, hS6⟩; have S6 := SU.step HB.out hI6 hS6; clear hl)
                              go_roundw
                              case rel =>
                                first
                                  | exact ⟨i1, s + 1, du, rfl, by go_num, by omega, by omega, by omega, S6, by rw [show 5 - (s + 1) = t by omega]; exact HF⟩
                                  | ((repeat apply Exists.intro); refine ⟨?_, rfl⟩; exact ⟨i1, s + 1, du, rfl, by go_num, by omega, by omega, by omega, S6, by rw [show 5 - (s + 1) = t by omega]; exact HF⟩)
                              case measure => simp [intOf] <;> omega
                          · have hjbz : ¬ (ju : Int) < (b : Int) := by omega
                            have HF : Hid (partialIns lt a b t i1 du = partialInsertionSort lt d a b) := by have := HQ2.out; rw [← HU.out, shiftUp, if_neg hjb] at this; exact this
                            go_wp2
                            go_roundw
                            case rel =>
                              first
                                | exact ⟨i1, s + 1, du, rfl, by go_num, by omega, by omega, by omega, SU, by rw [show 5 - (s + 1) = t by omega]; exact HF⟩
                                | ((repeat apply Exists.intro); refine ⟨?_, rfl⟩; exact ⟨i1, s + 1, du, rfl, by go_num, by omega, by omega, by omega, SU, by rw [show 5 - (s + 1) = t by omega]; exact HF⟩)
                            case measure => simp [intOf] <;> omega
                      · have hr2z : ¬ (2 : Int) ≤ (b : Int) - (i1 : Int) := by omega
                        have HF : Hid (partialIns lt a b t i1 dd = partialInsertionSort lt d a b) := by have := HQ.out; rw [if_neg hr2] at this; exact this
                        go_wp2_with (go_at_fn g; refine hl.mono ?_; rintro e w6 ⟨rfl, hI6, hS6⟩; have S6 := SD.step HB.out hI6 hS6; clear hl)
                        go_roundw
                        case rel =>
                          first
                            | exact ⟨i1, s + 1, dd, rfl, by go_num, by omega, by omega, by omega, S6, by rw [show 5 - (s + 1) = t by omega]; exact HF⟩
                            | ((repeat apply Exists.intro); refine ⟨?_, rfl⟩; exact ⟨i1, s + 1, dd, rfl, by go_num, by omega, by omega, by omega, S6, by rw [show 5 - (s + 1) = t by omega]; exact HF⟩)
                        case measure => simp [intOf] <;> omega
              · have hl2z : ¬ (2 : Int) ≤ (i1 : Int) - (a : Int) := by omega
                have HQ : Hid (partialIns lt a b t i1 (if b - i1 ≥ 2 then shiftUp lt b (i1 + 1) (swp dk i1 (i1 - 1)) else swp dk i1 (i1 - 1)) = partialInsertionSort lt d a b) := by have := HQ0.out; rw [if_neg hl2] at this; exact this
                by_cases hr2 : 2 ≤ b - i1
                · have hr2z : (2 : Int) ≤ (b : Int) - (i1 : Int) := by omega
                  have HQ2 : Hid (partialIns lt a b t i1 (shiftUp lt b (i1 + 1) (swp dk i1 (i1 - 1))) = partialInsertionSort lt d a b) := by have := HQ.out; rw [if_pos hr2] at this; exact this
                  go_wp2_with (go_at_fn g; refine hl.mono ?_; rintro e w4 ⟨rfl, hI4, hS4⟩; have S4 := S1.step HB.out hI4 hS4; have m0 := S4.c0; have m1 := S4.c1; obtain ⟨W5, hrun, hI5, hS5⟩ := HE.out.swapI dk w4 i1 (i1 - 1) i1 ((i1 : Int) - 1) rfl (by omega) S4.i (by omega) (by omega); have S5 := S4.step HB.out hI5 hS5; clear hl)
                  go_loopw [10] (fun vj w2 => ∃ (ju : Nat) (du : Array α), vj = .int .i64 ju ∧ i1 + 1 ≤ ju ∧ ju ≤ b ∧ SSt blk I w w.heap.size g lb sf sb du w2 ∧ Hid (shiftUp lt b ju du = shiftUp lt b (i1 + 1) (swp dk i1 (i1 - 1)))) (fun vj _ => b - (intOf vj).toNat)
                  case atStart => exact ⟨i1 + 1, _, by go_num, Nat.le_refl _, by omega, S5, rfl⟩
                  case round =>
                    obtain ⟨ju, du, rfl, q1, q2, SU, HU⟩ := hrel
                    have u0 := SU.c0
                    have u1 := SU.c1
                    by_cases hjb : ju < b
                    · have hjbz : (ju : Int) < (b : Int) := by omega
                      cases hvu : lt du[ju]! du[ju - 1]! with
                      | true =>
                        have hl := HE.out.lessV du ju (ju - 1) ju ((ju : Int) - 1) true hvu rfl (by omega) (by omega) (by omega) _ SU.i
                        have HU2 : Hid (shiftUp lt b (ju + 1) (swp du ju (ju - 1)) = shiftUp lt b (i1 + 1) (swp dk i1 (i1 - 1))) := by have := HU.out; rw [shiftUp, if_pos hjb, hvu] at this; exact this
                        go_wp2_with (go_at_fn g; refine hl.mono ?_; rintro e w6 ⟨rfl, hI6, hS6⟩; have S6 := SU.step HB.out hI6 hS6; have x0 := S6.c0; have x1 := S6.c1; obtain ⟨W7, hrun7, hI7, hS7⟩ := HE.out.swapI du w6 ju (ju - 1) ju ((ju : Int) - 1) rfl (by omega) S6.i (by omega) (by omega); have S7 := S6.step HB.out hI7 hS7; clear hl)
                        go_roundw
                        case rel =>
                          first
                            | exact ⟨ju + 1, swp du ju (ju - 1), by go_num, by omega, by omega, S7, HU2⟩
                            | ((repeat apply Exists.intro); refine ⟨?_, rfl⟩; exact ⟨ju + 1, swp du ju (ju - 1), by go_num, by omega, by omega, S7, HU2⟩)
                        case measure => simp [intOf] <;> omega
                      | false =>
                        have hl := HE.out.lessV du ju (ju - 1) ju ((ju : Int) - 1) false hvu rfl (by omega) (by omega) (by omega) _ SU.i
                        have HF : Hid (partialIns lt a b t i1 du = partialInsertionSort lt d a b) := by have := HQ2.out; rw [← HU.out, shiftUp, if_pos hjb, hvu] at this; exact this
                        go_wp2_with (go_at_fn g; refine hl.mono ?_; rintro e w6 ⟨rfl, hI6, hS6⟩; have S6 := SU.step HB.out hI6 hS6; clear hl)
                        go_roundw
                        case rel =>
                          first
                            | exact ⟨i1, s + 1, du, rfl, by go_num, by omega, by omega, by omega, S6, by rw [show 5 - (s + 1) = t by omega]; exact HF⟩
                            | ((repeat apply Exists.intro); refine ⟨?_, rfl⟩; exact ⟨i1, s + 1, du, rfl, by go_num, by omega, by omega, by omega, S6, by rw [show 5 - (s + 1) = t by omega]; exact HF⟩)
                        case measure => simp [intOf] <;> omega
                    · have hjbz : ¬ (ju : Int) < (b : Int) := by omega
                      have HF : Hid (partialIns lt a b t i1 du = partialInsertionSort lt d a b) := by have := HQ2.out; rw [← HU.out, shiftUp, if_neg hjb] at this; exact this
                      go_wp2
                      go_roundw
                      case rel =>
                        first
                          | exact ⟨i1, s + 1, du, rfl, by go_num, by omega, by omega, by omega, SU, by rw [show 5 - (s + 1) = t by omega]; exact HF⟩
                          | ((repeat apply Exists.intro); refine ⟨?_, rfl⟩; exact ⟨i1, s + 1, du, rfl, by go_num, by omega, by omega, by omega, SU, by rw [show 5 - (s + 1) = t by omega]; exact HF⟩)
                      case measure => simp [intOf] <;> omega
                · exfalso; omega
        · have hltz : ¬ (i1 : Int) < (b : Int) := by omega
          have HX : Hid (partialInsertionSort lt d a b = (dk, true)) := by show _ = _; rw [← HS1.out, pIns_succ, ← HC.out, scanSorted]; simp [hlt]; omega
          have heq : ((i1 : Int) == (b : Int)) = true := by simp; omega
          go_wp2
          go_ret
          exact ⟨by rw [HX.out]; rfl, by rw [HX.out]; exact S1.i, S1.st⟩
    · have hsz : ¬ (s : Int) < 5 := by omega
      have HX : Hid (partialInsertionSort lt d a b = (dk, false)) := by show _ = _; rw [← HS.out, show 5 - s = 0 by omega]; rfl
      go_wp2
      go_ret
      exact ⟨by rw [HX.out]; rfl, by rw [HX.out]; exact S.i, S.st⟩
end Go.Proofs.Ytollijngiioonaa

/- Draws leave all that lies in memory. Conditions: none. -/
namespace Go.Proofs.Ytollijngiioonaa
set_option maxRecDepth 100000
open Go.RowKit

theorem stay_drewN (S : Nat → Prop) (w : World) (k : Nat) : Stay S w (w.drewN k) := ⟨rfl, rfl, rfl, Nat.le_refl _, fun _ _ _ => rfl⟩
theorem below_drewsX (B : Nat) (w : World) (k : Nat) : Below B w (w.drewN k) := ⟨rfl, rfl, rfl, Nat.le_refl _, fun _ _ => rfl⟩
end Go.Proofs.Ytollijngiioonaa

/- sort.breakPatterns_func, by a swap that turns the row alone. Conditions: rows of less than 2^62 elements. -/
namespace Go.Proofs.Ytollijngiioonaa
set_option maxRecDepth 100000
open Go.RowKit Go.Sort

variable {α : Type} [Inhabited α]
variable {g : Nat} {lb : Array Value} {sf : Nat} {sb : Array Value} {lt : α → α → Bool} {n blk base : Nat} {I : Array α → World → Prop}

/-- While breakPatterns runs: the row, the function values, the random number in its cell. -/
structure KSt (blk : Nat) (I : Array α → World → Prop) (w : World) (sf : Nat) (sb : Array Value) (d : Array α) (R : Nat) (wr : World) : Prop where
  i : I d wr
  c1 : wr.cell? ⟨w.heap.size, 1, none⟩ = some (.func (.func sf) #[] sb)
  cR : wr.cell? ⟨w.heap.size + 1, 0, none⟩ = some (.int .u64 (R : Int))
  fR : wr.frozen? ⟨w.heap.size + 1, 0, none⟩ = false
  st : Stay (fun k => k ≠ blk ∧ k ≠ w.heap.size + 1) w wr
/-- A new random number. -/
theorem KSt.next {w wr : World} {d : Array α} {R : Nat} (E : SEnv g lb sf sb lt n blk base I) (h : KSt blk I w sf sb d R wr) (R' : Nat) (hb : base ≤ w.heap.size) : KSt blk I w sf sb d R' ((wr.setCell ⟨w.heap.size + 1, 0, none⟩ (.int .u64 (R' : Int))).drewN 3) := by
  have h1 : I d (wr.setCell ⟨w.heap.size + 1, 0, none⟩ (.int .u64 (R' : Int))) := E.set d wr ⟨w.heap.size + 1, 0, none⟩ _ h.i (Nat.le_trans hb (Nat.le_succ _))
  refine ⟨E.on d _ _ h1 (below_drewsX _ _ 3), ?_, ?_, ?_, ?_⟩
  · rw [World.cell?_drewN, World.cell?_setCell_other _ _ _ _ (by intro e; simp only [Addr.mk.injEq, and_true] at e; omega)]; exact h.c1
  · rw [World.cell?_drewN]; exact World.cell?_setCell_same _ _ _ h.cR
  · rw [World.frozen?_drewN]; simpa using h.fR
  · exact (h.st.trans (.setCell _ _ (fun e => e.2 rfl))).trans (stay_drewN _ _ 3)
omit [Inhabited α] in
theorem KSt.swapped {w wr wr' : World} {d d' : Array α} {R : Nat} (h : KSt blk I w sf sb d R wr) (hne : w.heap.size ≠ blk ∧ w.heap.size + 1 ≠ blk) (hi : I d' wr') (hs : Stay (fun k => k ≠ blk) wr wr') : KSt blk I w sf sb d' R wr' :=
  ⟨hi, hs.cell h.c1 hne.1, hs.cell h.cR hne.2, (hs.frozen (World.block_lt_of_cell? _ _ h.cR) hne.2).trans h.fR, h.st.trans (hs.weak (fun _ _ hk => hk.1))⟩

set_option maxHeartbeats 4000000 in
theorem breakPatterns_go (E : SEnv g lb sf sb lt n blk base I) (a L : Nat) (d : Array α) (w : World) (h : I d w) (hb : a + L ≤ n) (h8 : 8 ≤ L) :
    Calls Try.prog 111 #[.agg #[.func (.func g) #[] lb, .func (.func sf) #[] sb], .int .i64 a, .int .i64 ((a + L : Nat) : Int)] w fun e w' => e = .returned (.tuple #[]) ∧ I (breakPatterns d a (a + L)) w' ∧ Stay (fun k => k ≠ blk) w w' := by
  have hbig := E.big
  rw [breakPatterns_eq d a L h8]
  obtain ⟨M, hM⟩ : ∃ M : Nat, M = 1 <<< bitsLen L := ⟨_, rfl⟩
  have hM1 : 1 ≤ M := by rw [hM, Nat.one_shiftLeft]; exact Nat.two_pow_pos _
  have hM2 : M ≤ 2 * L := by rw [hM, Nat.one_shiftLeft]; exact two_pow_bitsLen_le (by omega)
  have hNP : ∀ w, Calls Try.prog 121 #[.int .i64 (L : Int)] w fun e w' => e = .returned (.int .u64 (M : Int)) ∧ w' = w := by rw [hM]; exact fun w => Try.nextPowerOfTwo L (by omega) w
  rw [← hM]
  clear hM
  have hLz : ((a : Int) + (L : Int) - (a : Int)) = (L : Int) := by omega
  have h8z : (8 : Int) ≤ (L : Int) := by omega
  have hbase := E.lt _ _ h
  have HB : Hid (w.heap.size ≠ blk ∧ w.heap.size + 1 ≠ blk) := by have := E.bb; exact ⟨by omega, by omega⟩
  have HE : Hid (SEnv g lb sf sb lt n blk base I) := E
  have S0 : KSt blk I w sf sb d L ((w.alloc (.cells #[.func (.func g) #[] lb, .func (.func sf) #[] sb] 128)).alloc (.cells #[.int .u64 (L : Int)] 162)) :=
    ⟨E.on _ _ _ h (((Below.refl _ _).alloc (Nat.le_refl _) _).alloc (by simp) _), by simp [go_sem], by simp [go_sem], by simp [go_sem], (Stay.alloc _ _ _).trans (.alloc _ _ _)⟩
  clear E h
  go_enter Try.func111, Try.ntmps111
  go_wp2_with (first | (go_at_call 121; refine (hNP _).mono ?_; rintro e w' ⟨rfl, rfl⟩))
  go_loopg [9] 3 (fun g1 vi wr => ∃ (t : Nat) (r : UInt64) (dk : Array α), vi = .int .i64 ((a : Int) + (L : Int) / 4 * 2 - 1 + (t : Int)) ∧ t ≤ 3 ∧ 3 - t ≤ g1 ∧ KSt blk I w sf sb dk r.toNat wr ∧
      Hid (bpRest a L M (a + L / 4 * 2 - 1) (3 - t) t (r, dk) = bpRest a L M (a + L / 4 * 2 - 1) 3 0 (UInt64.ofNat L, d)))
  case atStart =>
    refine ⟨0, UInt64.ofNat L, d, by simp, by omega, by omega, ?_, rfl⟩
    rw [show (UInt64.ofNat L).toNat = L from by simp; omega]
    exact S0
  case round =>
    obtain ⟨t, r, dk, rfl, ht, hg1, S, HR⟩ := hrel
    clear S0
    by_cases ht3 : t < 3
    · have hle : (a : Int) + (L : Int) / 4 * 2 - 1 + (t : Int) ≤ (a : Int) + (L : Int) / 4 * 2 + 1 := by omega
      obtain ⟨R, hRr⟩ : ∃ R : Nat, R = r.toNat := ⟨_, rfl⟩
      have lR : R < 18446744073709551616 := by rw [hRr]; exact r.toNat_lt
      obtain ⟨R', hR'⟩ : ∃ R' : Nat, R' = xorNextN R := ⟨_, rfl⟩
      have lR' : R' < 18446744073709551616 := by rw [hR']; exact xorNextN_lt R lR
      obtain ⟨O, hO⟩ : ∃ O : Nat, O = R' &&& (M - 1) := ⟨_, rfl⟩
      have lO : O ≤ M - 1 := by rw [hO]; exact Nat.and_le_right
      have eAnd : bits .and .u64 (R' : Int) ((M : Int) - 1) = (O : Int) := by
        rw [show ((M : Int) - 1) = ((M - 1 : Nat) : Int) by omega, bits_and_u64_nat _ _ lR' (by omega), hO]
      rw [← hRr] at S
      have hNext : Calls Try.prog 122 #[.pointer (some ⟨w.heap.size + 1, 0, none⟩)] wr fun e w' => e = .returned (.int .u64 (R' : Int)) ∧ w' = (wr.setCell ⟨w.heap.size + 1, 0, none⟩ (.int .u64 (R' : Int))).drewN 3 := by
        rw [hR']; exact Try.xorshift_Next _ _ R lR wr S.cR S.fR
      have HN : Hid (R' = (xorNext r).toNat ∧ O = (xorNext r).toNat &&& (M - 1)) := by
        have e : R' = (xorNext r).toNat := by rw [hR', hRr, xorNext_toNat]
        exact ⟨e, by rw [hO, e]⟩
      clear hRr hR' hO
      have S2 := S.next HE.out R' hbase
      generalize (wr.setCell ⟨w.heap.size + 1, 0, none⟩ (.int .u64 (R' : Int))).drewN 3 = w2 at hNext S2
      have c1 := S2.c1
      clear S
      by_cases hLO : L ≤ O
      · have hLOz : (L : Int) ≤ (O : Int) := by omega
        obtain ⟨W4, hrun, hI4, hS4⟩ := HE.out.swapI dk w2 (a + L / 4 * 2 - 1 + t) (a + (O - L)) ((a : Int) + (L : Int) / 4 * 2 - 1 + (t : Int)) ((a : Int) + ((O : Int) - (L : Int))) (by omega) (by omega) S2.i (by omega) (by omega)
        have S3 := S2.swapped HB.out hI4 hS4
        clear S2
        go_wp2_with (go_at_call 122; refine hNext.mono ?_; rintro e w' ⟨rfl, rfl⟩)
        go_roundg (3 - (t + 1))
        case measure => omega
        case rel => exact ⟨t + 1, xorNext r, swp dk (a + L / 4 * 2 - 1 + t) (a + (O - L)), by congr 1; push_cast; omega, by omega, Nat.le_refl _, by rw [← HN.out.1]; exact S3,
          (show Hid _ from by rw [← HR.out, bp_step a L M _ t r dk (O - L) ht3 (by rw [← HN.out.2, if_pos (by omega)])]; exact rfl)⟩
      · have hLOz : ¬ (L : Int) ≤ (O : Int) := by omega
        obtain ⟨W4, hrun, hI4, hS4⟩ := HE.out.swapI dk w2 (a + L / 4 * 2 - 1 + t) (a + O) ((a : Int) + (L : Int) / 4 * 2 - 1 + (t : Int)) ((a : Int) + (O : Int)) (by omega) (by omega) S2.i (by omega) (by omega)
        have S3 := S2.swapped HB.out hI4 hS4
        clear S2
        go_wp2_with (go_at_call 122; refine hNext.mono ?_; rintro e w' ⟨rfl, rfl⟩)
        go_roundg (3 - (t + 1))
        case measure => omega
        case rel => exact ⟨t + 1, xorNext r, swp dk (a + L / 4 * 2 - 1 + t) (a + O), by congr 1; push_cast; omega, by omega, Nat.le_refl _, by rw [← HN.out.1]; exact S3,
          (show Hid _ from by rw [← HR.out, bp_step a L M _ t r dk O ht3 (by rw [← HN.out.2, if_neg (by omega)])]; exact rfl)⟩
    · obtain rfl : t = 3 := by omega
      have hle : ¬ ((a : Int) + (L : Int) / 4 * 2 - 1 + ((3 : Nat) : Int) ≤ (a : Int) + (L : Int) / 4 * 2 + 1) := by omega
      go_wp2
      go_end0
      refine ⟨rfl, ?_, ?_⟩
      · rw [← HR.out]; exact S.i
      · exact fin_stay (by omega) S.st

theorem breakPatterns_any (E : SEnv g lb sf sb lt n blk base I) (a b : Nat) (d : Array α) (w : World) (h : I d w) (hab : a ≤ b) (hb : b ≤ n) :
    Calls Try.prog 111 #[.agg #[.func (.func g) #[] lb, .func (.func sf) #[] sb], .int .i64 a, .int .i64 b] w fun e w' => e = .returned (.tuple #[]) ∧ I (breakPatterns d a b) w' ∧ Stay (fun k => k ≠ blk) w w' := by
  obtain ⟨L, rfl⟩ : ∃ L, b = a + L := ⟨b - a, by omega⟩
  by_cases h8 : 8 ≤ L
  · exact breakPatterns_go E a L d w h hb h8
  · have hv : breakPatterns d a (a + L) = d := by unfold breakPatterns; simp only [Nat.add_sub_cancel_left]; rw [if_neg h8]
    rw [hv]
    have hbig := E.big
    have hLz : ((a : Int) + (L : Int) - (a : Int)) = (L : Int) := by omega
    have h8z : ¬ (8 : Int) ≤ (L : Int) := by omega
    have S0 := SSt.start E h 128
    have S1 : Hid (I d (w.alloc (.cells #[.func (.func g) #[] lb, .func (.func sf) #[] sb] 128))) := S0.i
    clear E h S0
    go_enter Try.func111, Try.ntmps111
    go_wp2
    go_end0
    exact ⟨rfl, S1.out, .alloc _ _ _⟩
end Go.Proofs.Ytollijngiioonaa

/- sort.pdqsort_func, by a comparison that may lay blocks. Conditions: rows of less than 2^62 elements; the comparison is a strict weak order. -/
namespace Go.Proofs.Ytollijngiioonaa
set_option maxRecDepth 100000
open Go.RowKit Go.Sort

variable {α : Type} [Inhabited α]
variable {g : Nat} {lb : Array Value} {sf : Nat} {sb : Array Value} {lt : α → α → Bool} {n blk base : Nat} {I : Array α → World → Prop}

theorem hint_code (h : Hint) : hintI h = hintCode h := by cases h <;> rfl

set_option maxHeartbeats 12800000 in
set_option maxRecDepth 1000000 in
theorem pdqsort_any (E : SEnv g lb sf sb lt n blk base I) (hO : SWO lt) :
    ∀ (N a b limit : Nat) (d : Array α) (w : World), b - a < N → I d w → a ≤ b → b ≤ n → limit < 4611686018427387904 → Go.Sort.Below lt a b d →
    Calls Try.prog 87 #[.agg #[.func (.func g) #[] lb, .func (.func sf) #[] sb], .int .i64 a, .int .i64 b, .int .i64 limit] w fun e w' => e = .returned (.tuple #[]) ∧ I (pdq lt d a b limit true true) w' ∧ Stay (fun k => k ≠ blk) w w' := by
  have eg := E.eg
  have hbig := E.big
  have HE : Hid (SEnv g lb sf sb lt n blk base I) := E
  clear E
  intro N
  induction N with
  | zero => intro _ _ _ _ _ h; exact absurd h (Nat.not_lt_zero _)
  | succ N ih =>
    intro a b limit d w hN h0 hab hb hlimit hBel0
    have HB : Hid (w.heap.size ≠ blk) := by have := HE.out.lt _ _ h0; have := HE.out.bb; show _ ≠ _; omega
    have S0 := SSt.start HE.out h0 128
    have HI : Hid (∀ (a b limit : Nat) (d : Array α) (w : World), b - a < N → I d w → a ≤ b → b ≤ n → limit < 4611686018427387904 → Go.Sort.Below lt a b d →
      Calls Try.prog 87 #[.agg #[.func (.func g) #[] lb, .func (.func sf) #[] sb], .int .i64 a, .int .i64 b, .int .i64 limit] w fun e w' => e = .returned (.tuple #[]) ∧ I (pdq lt d a b limit true true) w' ∧ Stay (fun k => k ≠ blk) w w') := ih
    clear ih h0
    go_enter Try.func87, Try.ntmps87
    go_wp2
    go_loopg [1, 2, 3, 8, 9] (b - a) (fun k s1 s2 s3 s8 s9 wr => ∃ (a' b' lim : Nat) (wb wp : Bool) (dk : Array α), s1 = .int .i64 a' ∧ s2 = .int .i64 b' ∧ s3 = .int .i64 lim ∧ s8 = .bool wb ∧ s9 = .bool wp ∧
      a' ≤ b' ∧ b' ≤ n ∧ b' - a' ≤ k ∧ k ≤ b - a ∧ lim ≤ limit ∧ Go.Sort.Below lt a' b' dk ∧ SSt blk I w w.heap.size g lb sf sb dk wr ∧ Hid (pdq lt dk a' b' lim wb wp = pdq lt d a b limit true true))
    case atStart => exact ⟨a, b, limit, true, true, d, rfl, rfl, rfl, rfl, rfl, hab, hb, Nat.le_refl _, Nat.le_refl _, Nat.le_refl _, hBel0, S0, rfl⟩
    case round =>
      obtain ⟨a', b', lim, wb, wp, dk, rfl, rfl, rfl, rfl, rfl, hab', hb', hk, hkN, hlim, hBel, S, A⟩ := hrel
      clear S0
      have hds : dk.size = n := HE.out.size _ _ S.i
      have x0 := S.c0
      have x1 := S.c1
      by_cases h12 : b' - a' ≤ 12
      · have h12z : (b' : Int) - (a' : Int) ≤ 12 := by omega
        have hc := insertion_any HE.out a' b' dk wr S.i hab' (by omega)
        go_wp2_with (go_at_call 109; refine hc.mono ?_; rintro e w1 ⟨rfl, hI1, hS1⟩)
        (try simp only [Exit.inBlock, Exit.then]); refine bodyPost_ret (results_none rfl _ _ _) rfl ?_
        refine ⟨rfl, ?_, S.st.trans hS1⟩
        rw [← A.out, pdq_small h12]
        exact hI1
      · have h12z : ¬ ((b' : Int) - (a' : Int) ≤ 12) := by omega
        by_cases hl0 : lim = 0
        · subst hl0
          have hc := heapSort_any HE.out a' b' dk wr S.i (by omega) (by omega)
          go_wp2_with (go_at_call 110; refine hc.mono ?_; rintro e w1 ⟨rfl, hI1, hS1⟩)
          (try simp only [Exit.inBlock, Exit.then]); refine bodyPost_ret (results_none rfl _ _ _) rfl ?_
          refine ⟨rfl, ?_, S.st.trans hS1⟩
          rw [← A.out, pdq_heap h12 rfl]
          exact hI1
        · have hl0z : ¬ ((lim : Int) = 0) := by omega
          obtain ⟨s1, B1, hc1, s2, B2, hpv, s3, B3⟩ := rd_facts (lt := lt) (limit := lim) (wb := wb) (wp := wp) hO partialInsertionSort_holds reverseRange_holds (show a' < b' by omega) (show b' ≤ dk.size by omega) hBel
          go_upto_if 35 with fail
          go_cut [3] from 19 (fun s3 wc => s3 = .int .i64 (rd lt dk a' b' lim wb wp).lim ∧ SSt blk I w w.heap.size g lb sf sb (rd lt dk a' b' lim wb wp).d1 wc)
          case first =>
            cases wb
            · have hc := breakPatterns_any HE.out a' b' dk wr S.i hab' (by omega)
              go_wp2_with (go_at_call 111; refine hc.mono ?_; rintro e w1 ⟨rfl, hI1, hS1⟩)
              go_meet
              case rel =>
                refine ⟨?_, S.step HB.out hI1 hS1⟩
                show Value.int .i64 ((lim : Int) - 1) = Value.int .i64 ((lim - 1 : Nat) : Int)
                congr 1
                omega
            · go_wp2_with fail
              go_meet
              case rel => exact ⟨rfl, S⟩
          case rest =>
            obtain ⟨rfl, S1⟩ := hcut
            clear x0 x1
            have y0 := S1.c0
            have y1 := S1.c1
            have hc17 : Calls Try.prog 112 #[.agg #[.func (.func g) #[] lb, .func (.func sf) #[] sb], .int .i64 a', .int .i64 b'] wc fun e w' => e = .returned (.tuple #[.int .i64 (rd lt dk a' b' lim wb wp).c.1, .int .i64 (hintCode (rd lt dk a' b' lim wb wp).c.2)]) ∧ I (rd lt dk a' b' lim wb wp).d1 w' ∧ Stay (fun k => k ≠ blk) wc w' := by
              rw [← hint_code]
              exact choosePivot_any HE.out a' b' (rd lt dk a' b' lim wb wp).d1 wc S1.i (by omega) (by omega)
            go_upto_if 50 with (go_at_call 112; refine hc17.mono ?_; rintro e w2 ⟨rfl, hI2, hS2⟩)
            have S2 := S1.step HB.out hI2 hS2
            clear y0 y1
            have z0 := S2.c0
            have z1 := S2.c1
            go_cut [11, 12] from 19 (fun s11 s12 wc => s11 = .int .i64 (rd lt dk a' b' lim wb wp).pivot ∧ s12 = .int .i64 (hintCode (rd lt dk a' b' lim wb wp).hint) ∧ SSt blk I w w.heap.size g lb sf sb (rd lt dk a' b' lim wb wp).d2 wc)
            case first =>
              by_cases hh : (rd lt dk a' b' lim wb wp).c.2 = .decreasing
              · have hcode : hintCode (rd lt dk a' b' lim wb wp).c.2 = 2 := by rw [hh]; rfl
                obtain ⟨e2, epv, eht⟩ := rd_dec hh
                have hc18 := reverse_any HE.out a' b' (rd lt dk a' b' lim wb wp).d1 w2 S2.i (by omega) (by omega)
                go_wp2_with (go_at_call 113; refine hc18.mono ?_; rintro e w3 ⟨rfl, hI3, hS3⟩)
                go_meet
                case rel =>
                  refine ⟨?_, by rw [eht]; rfl, by rw [e2]; exact S2.step HB.out hI3 hS3⟩
                  rw [epv]
                  congr 1
                  omega
              · have hcode : ¬ (hintCode (rd lt dk a' b' lim wb wp).c.2 = 2) := fun h => hh (hintCode_two h)
                obtain ⟨e2, epv, eht⟩ := rd_not hh
                go_wp2_with fail
                go_meet
                case rel => exact ⟨by rw [epv], by rw [eht], by rw [e2]; exact S2⟩
            case rest =>
              obtain ⟨rfl, rfl, S3⟩ := hcut
              clear z0 z1
              have v0 := S3.c0
              have v1 := S3.c1
              go_upto_region 16 with fail
              go_cut [12, 68] from 19 (fun s12 s68 wx => s12 = .int .i64 (hintCode (rd lt dk a' b' lim wb wp).hint) ∧ s68 = .bool (wb && wp && decide ((rd lt dk a' b' lim wb wp).hint = .increasing)) ∧ wx = wc)
              case first =>
                cases wb <;> cases wp <;> cases hh3 : (rd lt dk a' b' lim _ _).hint <;>
                  (have hcode3 := congrArg hintCode hh3
                   simp only [hintCode] at hcode3
                   go_wp2_with fail
                   go_meet
                   exact ⟨by simp [hh3, hintCode], by simp [hh3, hintCode], rfl⟩)
              case rest =>
                obtain ⟨rfl, rfl, rfl⟩ := hcut
                go_upto_if 68 with fail
                go_cut [] from 19 (fun wx => (rd lt dk a' b' lim wb wp).pi.2 = false ∧ SSt blk I w w.heap.size g lb sf sb (rd lt dk a' b' lim wb wp).pi.1 wx)
                case first =>
                  cases h68 : (wb && wp && decide ((rd lt dk a' b' lim wb wp).hint = .increasing))
                  · have epi := rd_pi_no h68
                    go_wp2_with fail
                    go_meet
                    case rel => exact ⟨by rw [epi], by rw [epi]; exact S3⟩
                  · have epi := rd_pi_yes h68
                    have hc19 := partialIns_any HE.out a' b' (rd lt dk a' b' lim wb wp).d2 wc S3.i (by omega) (by omega)
                    rw [← epi] at hc19
                    go_wp2_with (go_at_call 114; refine hc19.mono ?_; rintro e w4 ⟨rfl, hI4, hS4⟩)
                    all_goals first
                      | (have hp2 : (rd lt dk a' b' lim wb wp).pi.2 = false := by rw [epi]; assumption
                         go_meet
                         exact ⟨hp2, S3.step HB.out hI4 hS4⟩)
                      | (have hp2 : (rd lt dk a' b' lim wb wp).pi.2 = true := by rw [epi]; assumption
                         (try simp only [Exit.inBlock, Exit.then]); refine bodyPost_ret (results_none rfl _ _ _) rfl ?_
                         refine ⟨rfl, ?_, S3.st.trans hS4⟩
                         rw [← A.out, pdq_done h12 hl0 hp2]
                         exact hI4)
                case rest =>
                  obtain ⟨hp2, S5⟩ := hcut
                  clear v0 v1
                  have t0 := S5.c0
                  have t1 := S5.c1
                  go_upto_region 18 with fail
                  go_cut [83] from 19 (fun s83 wx => s83 = .bool (decide (a' > 0) && !lt (rd lt dk a' b' lim wb wp).pi.1[a' - 1]! (rd lt dk a' b' lim wb wp).pi.1[(rd lt dk a' b' lim wb wp).pivot]!) ∧ SSt blk I w w.heap.size g lb sf sb (rd lt dk a' b' lim wb wp).pi.1 wx)
                  case first =>
                    rcases Nat.eq_zero_or_pos a' with ha0 | ha0
                    · have ha0z : decide ((a' : Int) > 0) = false := decide_eq_false (by omega)
                      go_wp2_with fail
                      go_meet
                      case rel => exact ⟨by simp [ha0], S5⟩
                    · have ha0z : (a' : Int) > 0 := by omega
                      cases hlv : lt (rd lt dk a' b' lim wb wp).pi.1[a' - 1]! (rd lt dk a' b' lim wb wp).pi.1[(rd lt dk a' b' lim wb wp).pivot]! <;>
                        (have hl := HE.out.lessV (rd lt dk a' b' lim wb wp).pi.1 (a' - 1) (rd lt dk a' b' lim wb wp).pivot ((a' : Int) - 1) ((rd lt dk a' b' lim wb wp).pivot : Int) _ hlv (by omega) rfl (by omega) (by omega) wc S5.i
                         go_wp2_with (go_at_fn g; refine hl.mono ?_; rintro e w' ⟨rfl, hI6, hS6⟩)
                         go_meet
                         exact ⟨by simp [ha0, hlv], S5.step HB.out hI6 hS6⟩)
                  case rest =>
                    obtain ⟨rfl, S6⟩ := hcut
                    clear t0 t1
                    have q0 := S6.c0
                    have q1 := S6.c1
                    cases h87 : (decide (a' > 0) && !lt (rd lt dk a' b' lim wb wp).pi.1[a' - 1]! (rd lt dk a' b' lim wb wp).pi.1[(rd lt dk a' b' lim wb wp).pivot]!)
                    · obtain ⟨mid, ap, d4, hx⟩ : ∃ mid ap d4, partition lt (rd lt dk a' b' lim wb wp).pi.1 a' b' (rd lt dk a' b' lim wb wp).pivot = (mid, ap, d4) := ⟨_, _, _, rfl⟩
                      obtain ⟨r1, r2, r3, r4, r5, r6, r7⟩ := round_part hO (partition_holds lt) hpv.1 hpv.2 (show b' ≤ (rd lt dk a' b' lim wb wp).pi.1.size by omega) B3 hx
                      have hc22 := partition_any HE.out a' b' (rd lt dk a' b' lim wb wp).pivot (rd lt dk a' b' lim wb wp).pi.1 wc S6.i hpv.1 hpv.2 (by omega)
                      rw [hx] at hc22
                      have X : Hid (partition lt (rd lt dk a' b' lim wb wp).pi.1 a' b' (rd lt dk a' b' lim wb wp).pivot = (mid, ap, d4)) := hx
                      clear hx
                      go_upto_if 109 with (go_at_call 116; refine hc22.mono ?_; rintro e w7 ⟨rfl, hI7, hS7⟩)
                      have hx := X.out
                      have S7 := S6.step HB.out hI7 hS7
                      clear q0 q1
                      have p0 := S7.c0
                      have p1 := S7.c1
                      have hs4 : d4.size = n := HE.out.size _ _ S7.i
                      by_cases h4 : mid - a' < b' - mid
                      · have h4z : (mid : Int) - (a' : Int) < (b' : Int) - (mid : Int) := by omega
                        have hih := HI.out a' mid (rd lt dk a' b' lim wb wp).lim d4 w7 (by omega) S7.i (by omega) (by omega) (Nat.lt_of_le_of_lt (Nat.le_trans rd_lim_le hlim) hlimit) r4
                        obtain ⟨pL, sL⟩ := pdq_sorts lt hO d4 a' mid (rd lt dk a' b' lim wb wp).lim true true (by omega) (by omega) r4
                        go_wp2_with (go_at_call 87; refine hih.mono ?_; rintro e w8 ⟨rfl, hI8, hS8⟩)
                        go_roundg (b' - (mid + 1))
                        case measure => omega
                        case rel =>
                          refine ⟨mid + 1, b', (rd lt dk a' b' lim wb wp).lim, decide (mid - a' ≥ (b' - a') / 8), ap, pdq lt d4 a' mid (rd lt dk a' b' lim wb wp).lim true true, by simp, rfl, rfl, ?_, rfl, by omega, by omega, Nat.le_refl _, by omega, Nat.le_trans rd_lim_le hlim, (r6 _ pL sL).1, S7.step HB.out hI8 hS8, ?_⟩
                          · exact congrArg Value.bool (eighth (by omega) (by omega))
                          · show _ = _
                            rw [← A.out, pdq_left h12 hl0 hp2 h87 (by rw [hx]; exact ⟨r1, r2⟩) (by rw [hx]; exact h4), hx]
                      · have h4z : ¬ ((mid : Int) - (a' : Int) < (b' : Int) - (mid : Int)) := by omega
                        have hih := HI.out (mid + 1) b' (rd lt dk a' b' lim wb wp).lim d4 w7 (by omega) S7.i (by omega) (by omega) (Nat.lt_of_le_of_lt (Nat.le_trans rd_lim_le hlim) hlimit) r5
                        rw [show ((mid + 1 : Nat) : Int) = (mid : Int) + 1 by omega] at hih
                        obtain ⟨pL, sL⟩ := pdq_sorts lt hO d4 (mid + 1) b' (rd lt dk a' b' lim wb wp).lim true true (by omega) (by omega) r5
                        go_wp2_with (go_at_call 87; refine hih.mono ?_; rintro e w8 ⟨rfl, hI8, hS8⟩)
                        go_roundg (mid - a')
                        case measure => omega
                        case rel =>
                          refine ⟨a', mid, (rd lt dk a' b' lim wb wp).lim, decide (b' - mid ≥ (b' - a') / 8), ap, pdq lt d4 (mid + 1) b' (rd lt dk a' b' lim wb wp).lim true true, rfl, rfl, rfl, ?_, rfl, by omega, by omega, Nat.le_refl _, by omega, Nat.le_trans rd_lim_le hlim, (r7 _ pL sL).1, S7.step HB.out hI8 hS8, ?_⟩
                          · exact congrArg Value.bool (eighth (by omega) (by omega))
                          · show _ = _
                            rw [← A.out, pdq_right h12 hl0 hp2 h87 (by rw [hx]; exact ⟨r1, r2⟩) (by rw [hx]; exact h4), hx]
                    · have h87' := h87
                      simp only [Bool.and_eq_true, decide_eq_true_eq, Bool.not_eq_true'] at h87'
                      obtain ⟨mid, d4, hx⟩ : ∃ mid d4, partitionEqual lt (rd lt dk a' b' lim wb wp).pi.1 a' b' (rd lt dk a' b' lim wb wp).pivot = (mid, d4) := ⟨_, _, rfl⟩
                      obtain ⟨r1, r2, r3, r4, _⟩ := round_eq hO (partitionEqual_holds lt) h87'.1 hpv.1 hpv.2 (show b' ≤ (rd lt dk a' b' lim wb wp).pi.1.size by omega) B3 h87'.2 hx
                      have hc21 := partitionEqual_any HE.out a' b' (rd lt dk a' b' lim wb wp).pivot (rd lt dk a' b' lim wb wp).pi.1 wc S6.i hpv.1 hpv.2 (by omega)
                      rw [hx] at hc21
                      have X : Hid (partitionEqual lt (rd lt dk a' b' lim wb wp).pi.1 a' b' (rd lt dk a' b' lim wb wp).pivot = (mid, d4)) := hx
                      clear hx
                      go_wp2_with (go_at_call 115; refine hc21.mono ?_; rintro e w7 ⟨rfl, hI7, hS7⟩)
                      go_roundg (b' - mid)
                      case measure => omega
                      case rel =>
                        have hx := X.out
                        exact ⟨mid, b', (rd lt dk a' b' lim wb wp).lim, wb, wp, d4, rfl, rfl, rfl, rfl, rfl, r2, hb', Nat.le_refl _, by omega, Nat.le_trans rd_lim_le hlim, r4, S6.step HB.out hI7 hS7, by show _ = _; rw [← A.out, pdq_eq h12 hl0 hp2 h87 (by rw [hx]; exact ⟨r1, r2⟩), hx]⟩
end Go.Proofs.Ytollijngiioonaa

/- Whether two terms are the same, and which is before, as the program tells it. Conditions: terms of at most 549755813888 parts. -/
namespace Go.Proofs.Ytollijngiioonaa
set_option maxRecDepth 100000
open Go.RowKit

set_option maxHeartbeats 1600000 in
theorem impSame_any (N : Nat) (t u : TermD) (a a' : Option Addr) (c c' hi : Nat) (w : World) (hN : partsT t ≤ N) (hM : N ≤ 549755813888) (hr : RdK w hi a t.kids) (hr' : RdK w hi a' u.kids) (hhi : hi ≤ w.heap.size) (hc : t.kids.length ≤ c) (hc' : u.kids.length ≤ c') :
    Calls Try.prog 11 #[.agg #[.int .i64 t.f, .int .i64 t.v, .slice a t.kids.length c], .agg #[.int .i64 u.f, .int .i64 u.v, .slice a' u.kids.length c']] w fun e w' => e = .returned (.bool (sameT t u)) ∧ Below w.heap.size w w' := by
  obtain ⟨W, hW⟩ : ∃ W, W = (w.alloc (.cells #[.int .i64 t.f, .int .i64 t.v, .slice a t.kids.length c] 27)).alloc (.cells #[.int .i64 u.f, .int .i64 u.v, .slice a' u.kids.length c'] 27) := ⟨_, rfl⟩
  have hWb : Below w.heap.size w W := by rw [hW]; exact ((Below.refl _ _).alloc (Nat.le_refl _) _).alloc (by simp) _
  have C := termOrder_any t u a a' c c' hi W (Nat.le_trans hN hM) (hr.on (hWb.mono hhi)) (hr'.on (hWb.mono hhi)) hc hc' (Nat.le_trans hhi hWb.size)
  have HE : Hid ((ordT t u == 0) = sameT t u) := by
    show _ = _
    rw [Bool.eq_iff_iff, ← ordT_same]
    simp
  clear hr hr' hc hc' hN
  generalize t.kids.length = n at *
  generalize u.kids.length = m at *
  go_enter Try.func11, Try.ntmps11
  go_wp2_with (go_at_call 45; rw [← hW]; refine C.mono ?_; rintro e w1 ⟨rfl, hb1⟩; clear C hW)
  go_ret
  exact ⟨rtB HE.out, hWb.trans (hb1.mono hWb.size)⟩

set_option maxHeartbeats 1600000 in
theorem impBef_any (N : Nat) (t u : TermD) (a a' : Option Addr) (c c' hi : Nat) (w : World) (hN : partsT t ≤ N) (hM : N ≤ 549755813888) (hr : RdK w hi a t.kids) (hr' : RdK w hi a' u.kids) (hhi : hi ≤ w.heap.size) (hc : t.kids.length ≤ c) (hc' : u.kids.length ≤ c') :
    Calls Try.prog 56 #[.agg #[.int .i64 t.f, .int .i64 t.v, .slice a t.kids.length c], .agg #[.int .i64 u.f, .int .i64 u.v, .slice a' u.kids.length c']] w fun e w' => e = .returned (.bool (befT t u)) ∧ Below w.heap.size w w' := by
  obtain ⟨W, hW⟩ : ∃ W, W = (w.alloc (.cells #[.int .i64 t.f, .int .i64 t.v, .slice a t.kids.length c] 27)).alloc (.cells #[.int .i64 u.f, .int .i64 u.v, .slice a' u.kids.length c'] 27) := ⟨_, rfl⟩
  have hWb : Below w.heap.size w W := by rw [hW]; exact ((Below.refl _ _).alloc (Nat.le_refl _) _).alloc (by simp) _
  have C := termOrder_any t u a a' c c' hi W (Nat.le_trans hN hM) (hr.on (hWb.mono hhi)) (hr'.on (hWb.mono hhi)) hc hc' (Nat.le_trans hhi hWb.size)
  have HE : Hid (decide (ordT t u < 0) = befT t u) := ordT_bef t u
  clear hr hr' hc hc' hN
  generalize t.kids.length = n at *
  generalize u.kids.length = m at *
  go_enter Try.func56, Try.ntmps56
  go_wp2_with (go_at_call 45; rw [← hW]; refine C.mono ?_; rintro e w1 ⟨rfl, hb1⟩; clear C hW)
  go_ret
  exact ⟨rtB HE.out, hWb.trans (hb1.mono hWb.size)⟩
end Go.Proofs.Ytollijngiioonaa

/- The Kids of a blind function put in order by sort.Slice, by the program's own order of terms. Conditions: rows of less than 2^62 Kids, each of at most 549755813888 parts. -/
namespace Go.Proofs.Ytollijngiioonaa
set_option maxRecDepth 100000
open Go.RowKit Go.Sort Go.Lib

instance : Inhabited FE := ⟨⟨default, none, 0, fun _ => False⟩⟩
/-- Three cells an element. -/
def encE (e : FE) : List Value := [.int .i64 e.t.f, .int .i64 e.t.v, .slice e.a e.t.kids.length e.c]
def ltE (e d : FE) : Bool := befT e.t d.t

theorem bef_iff (a b : TermD) : befT a b = true ↔ ¬ leT b a := by
  rw [← befT_leT a b]; cases befT a b <;> simp
theorem swo_ltE : SWO ltE := by
  refine ⟨fun x => (befT_leT _ _).2 (leT_refl _), fun x y z h1 h2 => ?_, fun x y z h1 h2 => (befT_leT _ _).2 (leT_trans ((befT_leT _ _).1 h2) ((befT_leT _ _).1 h1))⟩
  have a1 := (bef_iff _ _).1 h1
  have a2 := (bef_iff _ _).1 h2
  refine (bef_iff _ _).2 (fun h3 => ?_)
  rcases leT_total y.t x.t with h | h
  · exact a1 h
  · exact a2 (leT_trans h3 h)

/-- The row holds d; its elements own their memory, apart from the row; the box of the variable 'kids'. -/
structure KO (g kb base n : Nat) (d : Array FE) (W : World) : Prop where
  h : HoldsK encE 3 W g 0 d
  sz : d.size = n
  own : ∀ i : Nat, i < n → OwnS W d[i]!.K d[i]!.a d[i]!.t.kids ∧ d[i]!.t.kids.length ≤ d[i]!.c ∧ partsT d[i]!.t ≤ 549755813888 ∧ ∀ x, d[i]!.K x → x ≠ g ∧ x < base
  fr : ∀ j, W.frozen? ⟨g, j, none⟩ = false
  box : W.cell? ⟨kb, 0, none⟩ = some (.slice (some ⟨g, 0, none⟩) n n)
  z : base ≤ W.heap.size

theorem holdsK_block {d : Array FE} {g : Nat} {W W' : World} (h : HoldsK encE 3 W g 0 d) (e : W'.heap[g]? = W.heap[g]?) : HoldsK encE 3 W' g 0 d := fun t ht =>
  ⟨(World.cell?_of_block (a := ⟨g, 0 + t, none⟩) e).trans (h t ht).1, (World.frozen?_of_block (a := ⟨g, 0 + t, none⟩) e).trans (h t ht).2⟩

/-- Whatever leaves the blocks below base leaves it. -/
theorem KO.keep {g kb base n : Nat} {d : Array FE} {W W' : World} (h : KO g kb base n d W) (hg : g < base) (hkb : kb < base) (hb : ∀ x, x < base → W'.heap[x]? = W.heap[x]?) (hz : W.heap.size ≤ W'.heap.size) : KO g kb base n d W' :=
  ⟨holdsK_block h.h (hb g hg), h.sz, fun i hi => ⟨(h.own i hi).1.frame (fun x hx => hb x ((h.own i hi).2.2.2 x hx).2) hz, (h.own i hi).2⟩, fun j => (World.frozen?_of_block (a := ⟨g, j, none⟩) (hb g hg)).trans (h.fr j), (World.cell?_of_block (a := ⟨kb, 0, none⟩) (hb kb hkb)).trans h.box, Nat.le_trans h.z hz⟩

theorem setCells_block (blk : Nat) : ∀ (vs : List Value) (s : Nat) (w : World) (k : Nat), k ≠ blk → (w.setCells blk s vs).heap[k]? = w.heap[k]?
  | [], _, _, _, _ => rfl
  | v :: r, s, w, k, h => by
    rw [World.setCells, setCells_block blk r (s + 1) _ k h]
    exact Below.heap_setCell _ _ _ _ h
theorem setCells_size : ∀ (vs : List Value) (blk s : Nat) (w : World), (w.setCells blk s vs).heap.size = w.heap.size
  | [], _, _, _ => rfl
  | v :: r, blk, s, w => by rw [World.setCells, setCells_size r]; simp
theorem frozen_setCells (p : Addr) (blk : Nat) : ∀ (vs : List Value) (s : Nat) (w : World), (w.setCells blk s vs).frozen? p = w.frozen? p
  | [], _, _ => rfl
  | v :: r, s, w => by rw [World.setCells, frozen_setCells p blk r (s + 1), World.frozen?_setCell]
theorem stay_setCells (blk : Nat) : ∀ (vs : List Value) (s : Nat) (w : World), Stay (fun k => k ≠ blk) w (w.setCells blk s vs)
  | [], _, w => .refl _ w
  | v :: r, s, w => by
    rw [World.setCells]
    exact (Stay.setCell w v (by simp)).trans (stay_setCells blk r (s + 1) _)

set_option maxHeartbeats 1600000 in
theorem less_any {g kb base n : Nat} {d : Array FE} {W : World} (h : KO g kb base n d W) (i j : Nat) (hi : i < n) (hj : j < n) :
    Calls Try.prog 68 #[.int .i64 i, .int .i64 j, .pointer (some ⟨kb, 0, none⟩)] W fun e W' => e = .returned (.bool (befT d[i]!.t d[j]!.t)) ∧ Below W.heap.size W W' := by
  have hd := h.sz
  have i0 := (h.h.cell (i := i) (c := 0) (by omega) (by omega)).1
  have i1 := (h.h.cell (i := i) (c := 1) (by omega) (by omega)).1
  have i2 := (h.h.cell (i := i) (c := 2) (by omega) (by omega)).1
  have j0 := (h.h.cell (i := j) (c := 0) (by omega) (by omega)).1
  have j1 := (h.h.cell (i := j) (c := 1) (by omega) (by omega)).1
  have j2 := (h.h.cell (i := j) (c := 2) (by omega) (by omega)).1
  simp only [encE, List.getElem!_cons_zero, List.getElem!_cons_succ, Nat.zero_add, Nat.add_zero] at i0 i1 i2 j0 j1 j2
  obtain ⟨oi, ci, pi, _⟩ := h.own i hi
  obtain ⟨oj, cj, pj, _⟩ := h.own j hj
  have CB : ∀ W', Below W.heap.size W W' → Calls Try.prog 56 #[.agg #[.int .i64 d[i]!.t.f, .int .i64 d[i]!.t.v, .slice d[i]!.a d[i]!.t.kids.length d[i]!.c], .agg #[.int .i64 d[j]!.t.f, .int .i64 d[j]!.t.v, .slice d[j]!.a d[j]!.t.kids.length d[j]!.c]] W' fun e w' => e = .returned (.bool (befT d[i]!.t d[j]!.t)) ∧ Below W'.heap.size W' w' := fun W' hb =>
    impBef_any 549755813888 _ _ _ _ _ _ W.heap.size W' pi (Nat.le_refl _) (oi.rd.on hb) (oj.rd.on hb) hb.size ci cj
  have hb0 := h.box
  clear oi oj ci cj pi pj h hd
  generalize d[i]! = x at *
  generalize d[j]! = y at *
  generalize befT x.t y.t = r at *
  have hiz : (i : Int) < (n : Int) := by omega
  have hjz : (j : Int) < (n : Int) := by omega
  have k0 := cellB i0
  have k1 := cellB i1
  have k2 := cellB i2
  have l0 := cellB j0
  have l1 := cellB j1
  have l2 := cellB j2
  have kb0 := cellB hb0
  clear i0 i1 i2 j0 j1 j2
  go_enter Try.func68, Try.ntmps68
  go_wp2
  refine wp_region_below (by kernel_rfl) (by kernel_rfl) ?_
  repeat (go_big_quiet_step ((go_at_call 56; refine callsB (CB _ (BW.b _)))))
  refine wpQuiet_nil ?_
  intro w2 hw'
  have hb2 : Below W.heap.size W w2 := by obtain ⟨p, rfl⟩ := hw'; exact p.b
  clear hw' k0 k1 k2 l0 l1 l2 kb0
  go_wp2_with fail
  go_ret
  exact ⟨rfl, hb2⟩

noncomputable def svT : TypeInfo := (Try.prog.info? 25).get (by kernel_rfl)
noncomputable def svE : TypeInfo := (Try.prog.info? 27).get (by kernel_rfl)
theorem svK (n : Nat) (h2 : 2 ≤ n) : Lib.swapperK n svE 25 = 9 := by
  have a : svE.hasPointers = true := by kernel_rfl
  have b : svE.bytes = 40 := by kernel_rfl
  have c : (n == 0) = false := by simp; omega
  have d : (n == 1) = false := by simp; omega
  simp [Lib.swapperK, a, b, c, d]

theorem env {g kb base n : Nat} (hg : g < base) (hkb : kb < base) (hne : kb ≠ g) (hn : n < 4611686018427387904) :
    SEnv 68 #[.pointer (some ⟨kb, 0, none⟩)] 106 #[.slice (some ⟨g, 0, none⟩) n n, typeHandle Try.prog 27] ltE n g base (KO g kb base n) := by
  refine ⟨enters_of Try.func68 (by kernel_rfl) rfl, fun d W i j h hi hj => ?_, fun d W i j h hi hj => ?_, fun d W W' h hb => ?_, fun d W p v h hp => ?_, fun d W h => h.z, hg, fun d W h => h.sz, hn⟩
  · refine (less_any h i j hi hj).mono ?_
    rintro e W' ⟨rfl, hb⟩
    exact ⟨rfl, h.keep hg hkb (fun x hx => hb.block x (Nat.lt_of_lt_of_le hx h.z)) hb.size, .of_below hb (fun _ hk _ => hk)⟩
  · have hs := swapSwapsK_of_literal (P := Try.prog) false 106 (fun args W => run_callFunc_extern Try.func106 (by kernel_rfl) (by kernel_rfl) (by kernel_rfl) (e := Extern.ReflectliteSwapper.swap false) (by kernel_rfl) args W)
      27 svE (by kernel_rfl) encE 3 (fun _ => rfl) (by kernel_rfl) (fun _ => by kernel_rfl) (fun x v hv => by simp [encE] at hv; rcases hv with rfl | rfl | rfl <;> rfl) g 0 n n W d h.h h.sz i j hi hj
    have hst : Stay (fun k => k ≠ g) W ((W.setCells g (0 + i * 3) (encE d[j]!)).setCells g (0 + j * 3) (encE d[i]!)) := (stay_setCells g _ _ _).trans (stay_setCells g _ _ _)
    have hH : HoldsK encE 3 ((W.setCells g (0 + i * 3) (encE d[j]!)).setCells g (0 + j * 3) (encE d[i]!)) g 0 (swp d i j) := by
      have e0 := swap_worldK encE 3 (fun _ => rfl) W 0 0 g 0 d i j (by rw [h.sz]; exact hi) (by rw [h.sz]; exact hj)
      have e1 : (putRowK encE 3 (Sort.ahead W 0) g 0 d).drewN 0 = W := by
        show putRowK encE 3 (Sort.ahead W 0) g 0 d = W
        exact putRowK_self encE 3 W g 0 d h.h
      rw [e1] at e0
      rw [e0]
      exact holdsK_putRowK encE 3 W g 0 d (swp d i j) h.h (size_swp d i j)
    refine ⟨_, hs, ⟨hH, by rw [size_swp]; exact h.sz, fun k hk => ?_, fun j => by rw [frozen_setCells, frozen_setCells]; exact h.fr j, ?_, Nat.le_trans h.z hst.size⟩, hst⟩
    · have hm : ∃ k', k' < n ∧ (swp d i j)[k]! = d[k']! := by
        rw [swp_get d (by rw [h.sz]; exact hi) (by rw [h.sz]; exact hj)]
        split
        · exact ⟨i, hi, rfl⟩
        · split
          · exact ⟨j, hj, rfl⟩
          · exact ⟨k, hk, rfl⟩
      obtain ⟨k', hk', e⟩ := hm
      rw [e]
      obtain ⟨o1, o2, o3, o4⟩ := h.own k' hk'
      exact ⟨o1.frame (fun x hx => hst.block x (Nat.lt_of_lt_of_le (o4 x hx).2 h.z) (o4 x hx).1) hst.size, o2, o3, o4⟩
    · exact hst.cell h.box hne
  · exact h.keep hg hkb (fun x hx => hb.block x (Nat.lt_of_lt_of_le hx h.z)) hb.size
  · refine h.keep hg hkb (fun x hx => Below.heap_setCell _ _ _ _ (by omega)) (by simp)

/-- Sorted: a permutation of what the row held, in order. -/
theorem sortKids_any {g kb base n : Nat} (hg : g < base) (hkb : kb < base) (hne : kb ≠ g) (hn : n < 4611686018427387904) (h2 : 2 ≤ n) (d : Array FE) (W : World) (h : KO g kb base n d W) :
    Calls Try.prog 67 #[.iface 25 (.slice (some ⟨g, 0, none⟩) n n), .func (.func 68) #[] #[.pointer (some ⟨kb, 0, none⟩)]] W fun e W' => e = .returned (.tuple #[]) ∧
      ∃ d' : Array FE, KO g kb base n d' W' ∧ d'.toList.Perm d.toList ∧ (d'.toList.map FE.t).Pairwise leT ∧ Stay (fun k => k ≠ g) W W' := by
  have hL := Any.sort_Slice_of_pdq Try.laysGg6 25 27 svT svE (by kernel_rfl) (by kernel_rfl) (by kernel_rfl) (by kernel_rfl) 25 (fun _ => by kernel_rfl) (some ⟨g, 0, none⟩) n n hn 106 (by rw [svK _ h2]; kernel_rfl) (.func 68) #[] #[.pointer (some ⟨kb, 0, none⟩)] W
    (fun W' => ∃ d' : Array FE, KO g kb base n d' W' ∧ d'.toList.Perm d.toList ∧ (d'.toList.map FE.t).Pairwise leT ∧ Stay (fun k => k ≠ g) W W')
  refine hL ?_
  have hB : sliceBound Try.prog 27 svE 25 (some ⟨g, 0, none⟩) n n = #[.slice (some ⟨g, 0, none⟩) n n, typeHandle Try.prog 27] := by
    unfold sliceBound; rw [if_neg (by rw [svK _ h2]; omega)]
  rw [hB]
  obtain ⟨W1, hW1⟩ : ∃ W1, W1 = sliceWorld Try.prog Try.laysGg6_ren 25 (some ⟨g, 0, none⟩) n n W := ⟨_, rfl⟩
  have hb1 : Below W.heap.size W W1 := by rw [hW1]; exact ((Below.refl _ _).alloc (Nat.le_refl _) _).alloc (by simp) _
  have h1 : KO g kb base n d W1 := h.keep hg hkb (fun x hx => hb1.block x (Nat.lt_of_lt_of_le hx h.z)) hb1.size
  have hlim : Lib.bitLen n < 4611686018427387904 := Nat.lt_of_le_of_lt (Lib.bitLen_le n 62 (by omega) (by omega)) (by omega)
  have hp := pdqsort_any (env hg hkb hne hn) swo_ltE (n + 1) 0 n (Lib.bitLen n) d W1 (by omega) h1 (Nat.zero_le _) (Nat.le_refl _) hlim (Or.inl rfl)
  rw [← hW1]
  refine hp.mono ?_
  rintro e W' ⟨rfl, hI, hst⟩
  have hd := h.sz
  obtain ⟨pp, ps⟩ := pdq_sorts ltE swo_ltE d 0 n (Lib.bitLen n) true true (Nat.zero_le _) (by omega) (Or.inl rfl)
  refine ⟨rfl, _, hI, ?_, ?_, (Stay.of_below hb1 (fun _ hk _ => hk)).trans hst⟩
  · have e1 := pp.2.2
    have hs := pp.1
    rw [Array.extract_eq_self_of_le (by omega), Array.extract_eq_self_of_le (by omega)] at e1
    exact e1
  · have hs := pp.1
    rw [List.pairwise_iff_getElem]
    intro i j hi hj hij
    simp only [List.length_map, Array.length_toList] at hi hj
    have := ps i j (Nat.zero_le _) hij (by omega)
    rw [getElem!_pos _ j (by omega), getElem!_pos _ i (by omega)] at this
    simp only [List.getElem_map, Array.getElem_toList]
    exact (befT_leT _ _).1 this
end Go.Proofs.Ytollijngiioonaa

