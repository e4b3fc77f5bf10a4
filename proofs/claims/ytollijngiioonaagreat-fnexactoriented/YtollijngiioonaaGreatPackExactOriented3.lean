/- What the proof of FnExactOriented stands on, part 3 of 13: each piece says what it proves and under which conditions. Conditions: as each piece says. -/
import Derived.Test.YtollijngiioonaaGreatPackExactOriented2
import Derived.Test.YtollijngiioonaaGreatProg
import Derived.Sort.AssemblyPlain
import Derived.Sort.WalkA
import Derived.WalkKit
import Derived.BigCall
import Derived.BigGuard
import Derived.Laws.Externs
import Derived.Shelf.Abstract
import Derived.Shelf.RegionOpenPlain
import Derived.Sort.WalkB2
import Derived.Sort.WalkC4
/- What a sort by a comparison of one's own needs: the comparison may lay blocks; what holds between two steps is a relation of one's own. sort.insertionSort_func. Conditions: rows of less than 2^62 elements. -/
namespace Go.Proofs.YtollijngiioonaaGreat
set_option maxRecDepth 100000
open Go.RowKit Go.Sort

variable {α : Type} [Inhabited α]

/-- The row holds d in W, as I says. The comparison (function g, bound to lb) tells lt of what the row holds and leaves all that was there as it was, the row's block alone is not promised; the swap (sf, bound to sb) turns the row alone. -/
structure SEnv (g : Nat) (lb : Array Value) (sf : Nat) (sb : Array Value) (lt : α → α → Bool) (n blk base : Nat) (I : Array α → World → Prop) : Prop where
  eg : ∀ args w, (callFunc g args).run Tryz.prog w = .ok (.enter g args) w
  less : ∀ (d : Array α) (W : World) (i j : Nat), I d W → i < n → j < n → Calls Tryz.prog g (#[.int .i64 i, .int .i64 j] ++ lb) W fun e W' => e = .returned (.bool (lt d[i]! d[j]!)) ∧ I d W' ∧ Stay (fun k => k ≠ blk) W W'
  swap : ∀ (d : Array α) (W : World) (i j : Nat), I d W → i < n → j < n → ∃ W', (callFunc sf (#[.int .i64 i, .int .i64 j] ++ sb)).run Tryz.prog W = .ok (.value (.tuple #[])) W' ∧ I (swp d i j) W' ∧ Stay (fun k => k ≠ blk) W W'
  on : ∀ (d : Array α) (W W' : World), I d W → Below W.heap.size W W' → I d W'
  set : ∀ (d : Array α) (W : World) (p : Addr) (v : Value), I d W → base ≤ p.block → I d (W.setCell p v)
  lt : ∀ (d : Array α) (W : World), I d W → base ≤ W.heap.size
  bb : blk < base
  size : ∀ (d : Array α) (W : World), I d W → d.size = n
  big : n < 4611686018427387904

/-- While a function of the sort runs: its parameter lies in a block of its own. -/
structure SSt (blk : Nat) (I : Array α → World → Prop) (w : World) (B : Nat) (g : Nat) (lb : Array Value) (sf : Nat) (sb : Array Value) (d : Array α) (wr : World) : Prop where
  i : I d wr
  c0 : wr.cell? ⟨B, 0, none⟩ = some (.func (.func g) #[] lb)
  c1 : wr.cell? ⟨B, 1, none⟩ = some (.func (.func sf) #[] sb)
  st : Stay (fun k => k ≠ blk) w wr
omit [Inhabited α] in
theorem SSt.step {blk : Nat} {I : Array α → World → Prop} {w : World} {B g : Nat} {lb : Array Value} {sf : Nat} {sb : Array Value} {d d' : Array α} {wr wr' : World} (h : SSt blk I w B g lb sf sb d wr) (hB : B ≠ blk) (hi : I d' wr') (hs : Stay (fun k => k ≠ blk) wr wr') : SSt blk I w B g lb sf sb d' wr' :=
  ⟨hi, hs.cell h.c0 hB, hs.cell h.c1 hB, h.st.trans hs⟩
theorem SSt.start {blk : Nat} {I : Array α → World → Prop} {w : World} {g : Nat} {lb : Array Value} {sf : Nat} {sb : Array Value} {lt : α → α → Bool} {n base : Nat} (E : SEnv g lb sf sb lt n blk base I) {d : Array α} (hi : I d w) (T : TypeId) :
    SSt blk I w w.heap.size g lb sf sb d (w.alloc (.cells #[.func (.func g) #[] lb, .func (.func sf) #[] sb] T)) :=
  ⟨E.on _ _ _ hi ((Below.refl _ _).alloc (Nat.le_refl _) _), by simp, by simp, .alloc _ _ _⟩

set_option maxHeartbeats 2000000 in
theorem insertion_any {g : Nat} {lb : Array Value} {sf : Nat} {sb : Array Value} {lt : α → α → Bool} {n blk base : Nat} {I : Array α → World → Prop} (E : SEnv g lb sf sb lt n blk base I) (a b : Nat) (d : Array α) (w : World) (h : I d w) (hab : a ≤ b) (hb : b ≤ n) :
    Calls Tryz.prog 179 #[.agg #[.func (.func g) #[] lb, .func (.func sf) #[] sb], .int .i64 a, .int .i64 b] w fun e w' => e = .returned (.tuple #[]) ∧ I (Sort.insertionSort lt d a b) w' ∧ Stay (fun k => k ≠ blk) w w' := by
  have eg := E.eg
  have hbig := E.big
  have HB : Hid (w.heap.size ≠ blk) := by have := E.lt _ _ h; have := E.bb; show _ ≠ _; omega
  have HE : Hid (SEnv g lb sf sb lt n blk base I) := E
  have S0 := SSt.start E h 200
  clear E h
  go_enter Tryz.func179, Tryz.ntmps179
  go_wp2
  go_loopw [6] (fun vi wr => ∃ (i : Nat) (dk : Array α), vi = .int .i64 i ∧ a < i ∧ i ≤ b + 1 ∧ SSt blk I w w.heap.size g lb sf sb dk wr ∧ Hid (insOuter lt a b i dk = insOuter lt a b (a + 1) d)) (fun vi _ => b + 1 - (intOf vi).toNat)
  case atStart => exact ⟨a + 1, d, by go_num, by omega, by omega, S0, rfl⟩
  case round =>
    obtain ⟨i, dk, rfl, hai, hib, S, HO⟩ := hrel
    clear S0
    go_wp2
    · go_loopw [7] (fun vj wr2 => ∃ (j : Nat) (dj : Array α), vj = .int .i64 j ∧ a ≤ j ∧ j ≤ i ∧ SSt blk I w w.heap.size g lb sf sb dj wr2 ∧ Hid (insInner lt a j dj = insInner lt a i dk)) (fun vj _ => (intOf vj).toNat)
      case atStart => exact ⟨i, dk, rfl, by omega, Nat.le_refl _, S, rfl⟩
      case round =>
        obtain ⟨j, dj, rfl, haj, hji, S2, HI⟩ := hrel
        have hlt : i < b := by assumption
        clear S
        have c0 := S2.c0
        have c1 := S2.c1
        by_cases hja : a < j
        · have hl := HE.out.less dj wr j (j - 1) S2.i (by omega) (by omega)
          rw [show (((j - 1 : Nat) : Int)) = (j : Int) - 1 by omega] at hl
          cases hlv : lt dj[j]! dj[j - 1]! with
          | true =>
            rw [hlv] at hl
            have HI2 : Hid (insInner lt a (j - 1) (swp dj j (j - 1)) = insInner lt a i dk) := by show _ = _; rw [← HI.out, insInner_go lt a j dj hja hlv]
            go_wp2_with (go_at_fn g; refine hl.mono ?_; rintro e w' ⟨rfl, hI', hS'⟩; have c1' := hS'.cell c1 HB.out; clear c0 c1)
            obtain ⟨W', hrun, hI2, hS2⟩ := HE.out.swap dj w' j (j - 1) hI' (by omega) (by omega)
            rw [show (((j - 1 : Nat) : Int)) = (j : Int) - 1 by omega] at hrun
            rw [hrun, Oper.upon_value]
            have S3 := (S2.step HB.out hI' hS').step HB.out hI2 hS2
            clear hrun hl
            go_wp2
            go_roundw
            case rel =>
              (repeat apply Exists.intro)
              exact ⟨⟨j - 1, swp dj j (j - 1), by congr 1 <;> omega, by omega, by omega, S3, HI2⟩, by rw [decide_eq_true hlt, show ((j - 1 : Nat) : Int) = (j : Int) - 1 by omega]⟩
            case measure => simp [intOf]; omega
          | false =>
            rw [hlv] at hl
            have HO2 : Hid (insOuter lt a b (i + 1) dj = insOuter lt a b (a + 1) d) := by show _ = _; rw [← HO.out, insOuter_go _ _ _ _ _ hlt, ← HI.out, insInner_stop _ _ _ _ (Or.inr hlv)]
            go_wp2_with (go_at_fn g; refine hl.mono ?_; rintro e w' ⟨rfl, hI', hS'⟩; clear c0 c1)
            have S3 := S2.step HB.out hI' hS'
            go_roundw
            case rel => exact ⟨i + 1, dj, by go_num, by omega, by omega, S3, HO2⟩
            case measure => simp [intOf]; omega
        · have HO2 : Hid (insOuter lt a b (i + 1) dj = insOuter lt a b (a + 1) d) := by show _ = _; rw [← HO.out, insOuter_go _ _ _ _ _ hlt, ← HI.out, insInner_stop _ _ _ _ (Or.inl (by omega))]
          go_wp2
          go_roundw
          case rel => exact ⟨i + 1, dj, by go_num, by omega, by omega, S2, HO2⟩
          case measure => simp [intOf]; omega
    · have hge : ¬ i < b := by assumption
      go_end0
      exact ⟨rfl, by unfold Sort.insertionSort; rw [← HO.out, insOuter_stop _ _ _ _ _ hge]; exact S.i, S.st⟩
end Go.Proofs.YtollijngiioonaaGreat

/- sort.siftDown_func, by a comparison that may lay blocks. Conditions: rows of less than 2^62 elements. -/
namespace Go.Proofs.YtollijngiioonaaGreat
set_option maxRecDepth 100000
open Go.RowKit Go.Sort

variable {α : Type} [Inhabited α]
variable {g : Nat} {lb : Array Value} {sf : Nat} {sb : Array Value} {lt : α → α → Bool} {n blk base : Nat} {I : Array α → World → Prop}

/-- The comparison, the places as the walk has them. -/
theorem SEnv.lessI (E : SEnv g lb sf sb lt n blk base I) (d : Array α) (W : World) (i j : Nat) (x y : Int) (hx : x = i) (hy : y = j) (h : I d W) (hi : i < n) (hj : j < n) :
    Calls Tryz.prog g (#[.int .i64 x, .int .i64 y] ++ lb) W fun e W' => e = .returned (.bool (lt d[i]! d[j]!)) ∧ I d W' ∧ Stay (fun k => k ≠ blk) W W' := by
  subst hx hy
  exact E.less d W i j h hi hj
/-- The same, what it tells known. -/
theorem SEnv.lessV (E : SEnv g lb sf sb lt n blk base I) (d : Array α) (i j : Nat) (x y : Int) (v : Bool) (hv : lt d[i]! d[j]! = v) (hx : x = i) (hy : y = j) (hi : i < n) (hj : j < n) (W : World) (h : I d W) :
    Calls Tryz.prog g (#[.int .i64 x, .int .i64 y] ++ lb) W fun e W' => e = .returned (.bool v) ∧ I d W' ∧ Stay (fun k => k ≠ blk) W W' := by
  subst hv
  exact E.lessI d W i j x y hx hy h hi hj
theorem SEnv.swapI (E : SEnv g lb sf sb lt n blk base I) (d : Array α) (W : World) (i j : Nat) (x y : Int) (hx : x = i) (hy : y = j) (h : I d W) (hi : i < n) (hj : j < n) :
    ∃ W', (callFunc sf (#[.int .i64 x, .int .i64 y] ++ sb)).run Tryz.prog W = .ok (.value (.tuple #[])) W' ∧ I (swp d i j) W' ∧ Stay (fun k => k ≠ blk) W W' := by
  subst hx hy
  exact E.swap d W i j h hi hj

set_option maxHeartbeats 4000000 in
theorem siftDown_any (E : SEnv g lb sf sb lt n blk base I) (lo hi first : Nat) (d : Array α) (w : World) (h : I d w) (hlo : lo ≤ hi) (hb : first + hi ≤ n) :
    Calls Tryz.prog 192 #[.agg #[.func (.func g) #[] lb, .func (.func sf) #[] sb], .int .i64 lo, .int .i64 hi, .int .i64 first] w fun e w' => e = .returned (.tuple #[]) ∧ I (siftDown lt hi first lo d) w' ∧ Stay (fun k => k ≠ blk) w w' := by
  have eg := E.eg
  have hbig := E.big
  have HB : Hid (w.heap.size ≠ blk) := by have := E.lt _ _ h; have := E.bb; show _ ≠ _; omega
  have HE : Hid (SEnv g lb sf sb lt n blk base I) := E
  have S0 := SSt.start E h 200
  clear E h
  go_enter Tryz.func192, Tryz.ntmps192
  go_wp2
  go_loopw [8] (fun v wr => ∃ (root : Nat) (dk : Array α), v = .int .i64 root ∧ root ≤ hi ∧ SSt blk I w w.heap.size g lb sf sb dk wr ∧ Hid (siftDown lt hi first root dk = siftDown lt hi first lo d)) (fun v _ => hi - (intOf v).toNat)
  case atStart => exact ⟨lo, d, rfl, hlo, S0, rfl⟩
  case round =>
    obtain ⟨root, dk, rfl, hr, S, HK⟩ := hrel
    clear S0
    have c0 := S.c0
    have c1 := S.c1
    by_cases h0 : hi ≤ 2 * root + 1
    · have h0z : (hi : Int) ≤ 2 * (root : Int) + 1 := by omega
      go_wp2
      go_end0
      exact ⟨rfl, by rw [← HK.out, sd_end lt dk h0]; exact S.i, S.st⟩
    · have h0z : ¬ ((hi : Int) ≤ 2 * (root : Int) + 1) := by omega
      by_cases h1 : 2 * root + 2 < hi
      · have h1z : 2 * (root : Int) + 1 + 1 < (hi : Int) := by omega
        cases hL : lt dk[first + (2 * root + 1)]! dk[first + (2 * root + 2)]! with
        | true =>
          have hl1 := HE.out.lessV dk (first + (2 * root + 1)) (first + (2 * root + 2)) ((first : Int) + (2 * (root : Int) + 1)) ((first : Int) + (2 * (root : Int) + 1) + 1) true hL (by omega) (by omega) (by omega) (by omega)
          cases hG : lt dk[first + root]! dk[first + (2 * root + 2)]! with
          | true =>
            have hl2 := HE.out.lessV dk (first + root) (first + (2 * root + 2)) ((first : Int) + (root : Int)) ((first : Int) + (2 * (root : Int) + 1 + 1)) true hG (by omega) (by omega) (by omega) (by omega)
            have HN : Hid (siftDown lt hi first (2 * root + 2) (swp dk (first + root) (first + (2 * root + 2))) = siftDown lt hi first lo d) := by show _ = _; rw [← HK.out, sd_right_go lt dk h1 hL hG]
            go_wp2_with (first
              | (go_at_fn g; refine (hl1 _ S.i).mono ?_; rintro e w2 ⟨rfl, hI2, hS2⟩; have S2 := S.step HB.out hI2 hS2; clear c0 c1 hl1; have c0 := S2.c0; have c1 := S2.c1)
              | (go_at_fn g; refine (hl2 _ S2.i).mono ?_; rintro e w3 ⟨rfl, hI3, hS3⟩; have S3 := S2.step HB.out hI3 hS3; have k0 := S3.c0; have k1 := S3.c1; obtain ⟨W4, hrun, hI4, hS4⟩ := HE.out.swapI dk w3 (first + root) (first + (2 * root + 2)) ((first : Int) + (root : Int)) ((first : Int) + (2 * (root : Int) + 1 + 1)) (by omega) (by omega) S3.i (by omega) (by omega); have S4 := S3.step HB.out hI4 hS4; clear hl2))
            go_roundw
            case rel => exact ⟨2 * root + 2, swp dk (first + root) (first + (2 * root + 2)), by go_num, by omega, S4, HN⟩
            case measure => simp [intOf]; omega
          | false =>
            have hl2 := HE.out.lessV dk (first + root) (first + (2 * root + 2)) ((first : Int) + (root : Int)) ((first : Int) + (2 * (root : Int) + 1 + 1)) false hG (by omega) (by omega) (by omega) (by omega)
            have HN : Hid (dk = siftDown lt hi first lo d) := by show _ = _; rw [← HK.out, sd_right_stop lt dk h1 hL hG]
            go_wp2_with (first
              | (go_at_fn g; refine (hl1 _ S.i).mono ?_; rintro e w2 ⟨rfl, hI2, hS2⟩; have S2 := S.step HB.out hI2 hS2; clear c0 c1 hl1; have c0 := S2.c0; have c1 := S2.c1)
              | (go_at_fn g; refine (hl2 _ S2.i).mono ?_; rintro e w3 ⟨rfl, hI3, hS3⟩; have S3 := S2.step HB.out hI3 hS3; have k0 := S3.c0; have k1 := S3.c1; clear hl2))
            refine bodyPost_ret (results_none rfl _ _ _) rfl ?_
            exact ⟨rfl, by rw [← HN.out]; exact S3.i, S3.st⟩
        | false =>
          have hl1 := HE.out.lessV dk (first + (2 * root + 1)) (first + (2 * root + 2)) ((first : Int) + (2 * (root : Int) + 1)) ((first : Int) + (2 * (root : Int) + 1) + 1) false hL (by omega) (by omega) (by omega) (by omega)
          cases hG : lt dk[first + root]! dk[first + (2 * root + 1)]! with
          | true =>
            have hl2 := HE.out.lessV dk (first + root) (first + (2 * root + 1)) ((first : Int) + (root : Int)) ((first : Int) + (2 * (root : Int) + 1)) true hG (by omega) (by omega) (by omega) (by omega)
            have HN : Hid (siftDown lt hi first (2 * root + 1) (swp dk (first + root) (first + (2 * root + 1))) = siftDown lt hi first lo d) := by show _ = _; rw [← HK.out, sd_left_go lt dk (by omega) (fun _ => hL) hG]
            go_wp2_with (first
              | (go_at_fn g; refine (hl1 _ S.i).mono ?_; rintro e w2 ⟨rfl, hI2, hS2⟩; have S2 := S.step HB.out hI2 hS2; clear c0 c1 hl1; have c0 := S2.c0; have c1 := S2.c1)
              | (go_at_fn g; refine (hl2 _ S2.i).mono ?_; rintro e w3 ⟨rfl, hI3, hS3⟩; have S3 := S2.step HB.out hI3 hS3; have k0 := S3.c0; have k1 := S3.c1; obtain ⟨W4, hrun, hI4, hS4⟩ := HE.out.swapI dk w3 (first + root) (first + (2 * root + 1)) ((first : Int) + (root : Int)) ((first : Int) + (2 * (root : Int) + 1)) (by omega) (by omega) S3.i (by omega) (by omega); have S4 := S3.step HB.out hI4 hS4; clear hl2))
            go_roundw
            case rel => exact ⟨2 * root + 1, swp dk (first + root) (first + (2 * root + 1)), by go_num, by omega, S4, HN⟩
            case measure => simp [intOf]; omega
          | false =>
            have hl2 := HE.out.lessV dk (first + root) (first + (2 * root + 1)) ((first : Int) + (root : Int)) ((first : Int) + (2 * (root : Int) + 1)) false hG (by omega) (by omega) (by omega) (by omega)
            have HN : Hid (dk = siftDown lt hi first lo d) := by show _ = _; rw [← HK.out, sd_left_stop lt dk (by omega) (fun _ => hL) hG]
            go_wp2_with (first
              | (go_at_fn g; refine (hl1 _ S.i).mono ?_; rintro e w2 ⟨rfl, hI2, hS2⟩; have S2 := S.step HB.out hI2 hS2; clear c0 c1 hl1; have c0 := S2.c0; have c1 := S2.c1)
              | (go_at_fn g; refine (hl2 _ S2.i).mono ?_; rintro e w3 ⟨rfl, hI3, hS3⟩; have S3 := S2.step HB.out hI3 hS3; have k0 := S3.c0; have k1 := S3.c1; clear hl2))
            refine bodyPost_ret (results_none rfl _ _ _) rfl ?_
            exact ⟨rfl, by rw [← HN.out]; exact S3.i, S3.st⟩
      · have h1z : ¬ (2 * (root : Int) + 1 + 1 < (hi : Int)) := by omega
        cases hG : lt dk[first + root]! dk[first + (2 * root + 1)]! with
        | true =>
          have hl2 := HE.out.lessV dk (first + root) (first + (2 * root + 1)) ((first : Int) + (root : Int)) ((first : Int) + (2 * (root : Int) + 1)) true hG (by omega) (by omega) (by omega) (by omega)
          have HN : Hid (siftDown lt hi first (2 * root + 1) (swp dk (first + root) (first + (2 * root + 1))) = siftDown lt hi first lo d) := by show _ = _; rw [← HK.out, sd_left_go lt dk (by omega) (fun h => absurd h h1) hG]
          go_wp2_with (go_at_fn g; refine (hl2 _ S.i).mono ?_; rintro e w3 ⟨rfl, hI3, hS3⟩; have S3 := S.step HB.out hI3 hS3; have k0 := S3.c0; have k1 := S3.c1; obtain ⟨W4, hrun, hI4, hS4⟩ := HE.out.swapI dk w3 (first + root) (first + (2 * root + 1)) ((first : Int) + (root : Int)) ((first : Int) + (2 * (root : Int) + 1)) (by omega) (by omega) S3.i (by omega) (by omega); have S4 := S3.step HB.out hI4 hS4; clear hl2)
          go_roundw
          case rel => exact ⟨2 * root + 1, swp dk (first + root) (first + (2 * root + 1)), by go_num, by omega, S4, HN⟩
          case measure => simp [intOf]; omega
        | false =>
          have hl2 := HE.out.lessV dk (first + root) (first + (2 * root + 1)) ((first : Int) + (root : Int)) ((first : Int) + (2 * (root : Int) + 1)) false hG (by omega) (by omega) (by omega) (by omega)
          have HN : Hid (dk = siftDown lt hi first lo d) := by show _ = _; rw [← HK.out, sd_left_stop lt dk (by omega) (fun h => absurd h h1) hG]
          go_wp2_with (go_at_fn g; refine (hl2 _ S.i).mono ?_; rintro e w3 ⟨rfl, hI3, hS3⟩; have S3 := S.step HB.out hI3 hS3; have k0 := S3.c0; have k1 := S3.c1; clear hl2)
          refine bodyPost_ret (results_none rfl _ _ _) rfl ?_
          exact ⟨rfl, by rw [← HN.out]; exact S3.i, S3.st⟩
end Go.Proofs.YtollijngiioonaaGreat

/- sort.heapSort_func, sort.reverseRange_func, by a comparison that may lay blocks. Conditions: rows of less than 2^62 elements. -/
namespace Go.Proofs.YtollijngiioonaaGreat
set_option maxRecDepth 100000
open Go.RowKit Go.Sort

variable {α : Type} [Inhabited α]
variable {g : Nat} {lb : Array Value} {sf : Nat} {sb : Array Value} {lt : α → α → Bool} {n blk base : Nat} {I : Array α → World → Prop}

set_option maxHeartbeats 1000000 in
theorem reverse_any (E : SEnv g lb sf sb lt n blk base I) (a b : Nat) (d : Array α) (w : World) (h : I d w) (hab : a < b) (hb : b ≤ n) :
    Calls Tryz.prog 183 #[.agg #[.func (.func g) #[] lb, .func (.func sf) #[] sb], .int .i64 a, .int .i64 b] w fun e w' => e = .returned (.tuple #[]) ∧ I (reverseRange d a b) w' ∧ Stay (fun k => k ≠ blk) w w' := by
  have eg := E.eg
  have hbig := E.big
  have HB : Hid (w.heap.size ≠ blk) := by have := E.lt _ _ h; have := E.bb; show _ ≠ _; omega
  have HE : Hid (SEnv g lb sf sb lt n blk base I) := E
  have S0 := SSt.start E h 200
  clear E h
  go_enter Tryz.func183, Tryz.ntmps183
  go_wp2
  go_loopw [6, 7] (fun vi vj wr => ∃ (i j : Nat) (dk : Array α), vi = .int .i64 i ∧ vj = .int .i64 j ∧ j < b ∧ i ≤ b ∧ SSt blk I w w.heap.size g lb sf sb dk wr ∧ Hid (reverseLoop i j dk = reverseRange d a b)) (fun vi vj _ => (intOf vj).toNat - (intOf vi).toNat)
  case atStart => exact ⟨a, b - 1, d, rfl, by congr 1; omega, by omega, by omega, S0, rfl⟩
  case round =>
    obtain ⟨i, j, dk, rfl, rfl, hj, hi, S, HK⟩ := hrel
    clear S0
    have c0 := S.c0
    have c1 := S.c1
    by_cases hij : i < j
    · have hijz : (i : Int) < (j : Int) := by omega
      obtain ⟨W4, hrun, hI4, hS4⟩ := HE.out.swapI dk wr i j i j rfl rfl S.i (by omega) (by omega)
      have S4 := S.step HB.out hI4 hS4
      have HN : Hid (reverseLoop (i + 1) (j - 1) (swp dk i j) = reverseRange d a b) := by have := HK.out; rw [reverseLoop, if_pos hij] at this; exact this
      go_wp2
      go_roundw
      case rel => exact ⟨i + 1, j - 1, swp dk i j, by go_num, by congr 1; omega, by omega, by omega, S4, HN⟩
      case measure => simp [intOf] <;> omega
    · have hijz : ¬ (i : Int) < (j : Int) := by omega
      have HN : Hid (dk = reverseRange d a b) := by have := HK.out; rw [reverseLoop, if_neg hij] at this; exact this
      go_wp2
      go_end0
      exact ⟨rfl, by rw [← HN.out]; exact S.i, S.st⟩

set_option maxHeartbeats 1000000 in
theorem heapSort_any (E : SEnv g lb sf sb lt n blk base I) (a b : Nat) (d : Array α) (w : World) (h : I d w) (hab : a < b) (hb : b ≤ n) :
    Calls Tryz.prog 180 #[.agg #[.func (.func g) #[] lb, .func (.func sf) #[] sb], .int .i64 a, .int .i64 b] w fun e w' => e = .returned (.tuple #[]) ∧ I (heapSort lt d a b) w' ∧ Stay (fun k => k ≠ blk) w w' := by
  have eg := E.eg
  have hbig := E.big
  have HB : Hid (w.heap.size ≠ blk) := by have := E.lt _ _ h; have := E.bb; show _ ≠ _; omega
  have HE : Hid (SEnv g lb sf sb lt n blk base I) := E
  have S0 := SSt.start E h 200
  clear E h
  go_enter Tryz.func180, Tryz.ntmps180
  have hdiv : IntKind.i64.wrap ((b : Int) - (a : Int)) = ((b - a : Nat) : Int) := by rw [IntKind.wrap_i64]; omega
  have hcb : (b : Int) - (a : Int) = ((b - a : Nat) : Int) := by omega
  obtain ⟨N, hN⟩ : ∃ N, N = b - a := ⟨_, rfl⟩
  rw [← hN] at hdiv hcb
  have hN1 : 1 ≤ N := by omega
  have hNa : a + N ≤ n := by omega
  have HH : Hid (heapSort lt d a b = heapPop lt a N (heapBuild lt N a ((N - 1) / 2 + 1) d)) := by show _ = _; unfold heapSort; rw [hN]
  have htd : ((N : Int) - 1).tdiv 2 = (((N - 1) / 2 : Nat) : Int) := by rw [show (N : Int) - 1 = ((N - 1 : Nat) : Int) by omega]; rfl
  clear hN
  go_wp2
  go_loopw [9] (fun v wr => ∃ (kx : Nat) (dk : Array α), v = .int .i64 ((kx : Int) - 1) ∧ kx ≤ (N - 1) / 2 + 1 ∧ SSt blk I w w.heap.size g lb sf sb dk wr ∧ Hid (heapBuild lt N a kx dk = heapBuild lt N a ((N - 1) / 2 + 1) d)) (fun v _ => (intOf v + 1).toNat)
  case atStart => exact ⟨(N - 1) / 2 + 1, d, by congr 1; omega, Nat.le_refl _, S0, rfl⟩
  case round =>
    obtain ⟨kx, dk, rfl, hkx, S, HK⟩ := hrel
    clear S0
    have c0 := S.c0
    have c1 := S.c1
    cases kx with
    | zero =>
      have HK2 : Hid (dk = heapBuild lt N a ((N - 1) / 2 + 1) d) := by show _ = _; rw [← HK.out, heapBuild]
      clear HK
      go_wp2
      go_loopw [10] (fun v wr2 => ∃ (kx : Nat) (dj : Array α), v = .int .i64 ((kx : Int) - 1) ∧ kx ≤ N ∧ SSt blk I w w.heap.size g lb sf sb dj wr2 ∧ Hid (heapPop lt a kx dj = heapPop lt a N dk)) (fun v _ => (intOf v + 1).toNat)
      case atStart => exact ⟨N, dk, rfl, Nat.le_refl _, S, rfl⟩
      case round =>
        obtain ⟨kx, dj, rfl, hkx2, S2, HK3⟩ := hrel
        clear S c0 c1
        have c0 := S2.c0
        have c1 := S2.c1
        cases kx with
        | zero =>
          have HF : Hid (dj = heapSort lt d a b) := by show _ = _; rw [HH.out, ← HK2.out, ← HK3.out, heapPop]
          go_wp2
          go_end0
          exact ⟨rfl, by rw [← HF.out]; exact S2.i, S2.st⟩
        | succ kx =>
          simp only [show (((kx + 1 : Nat) : Int) - 1) = (kx : Int) by omega]
          have hz : (0 : Int) ≤ (kx : Int) := by omega
          have hw1 : IntKind.i64.wrap ((a : Int) + (kx : Int)) = (a : Int) + (kx : Int) := by rw [IntKind.wrap_i64]; omega
          obtain ⟨W4, hrun, hI4, hS4⟩ := HE.out.swapI dj wr a (a + kx) a ((a : Int) + (kx : Int)) rfl (by omega) S2.i (by omega) (by omega)
          have S4 := S2.step HB.out hI4 hS4
          have k0 := S4.c0
          have k1 := S4.c1
          have C := siftDown_any HE.out 0 kx a (swp dj a (a + kx)) W4 S4.i (by omega) (by omega)
          have HN : Hid (heapPop lt a kx (siftDown lt kx a 0 (swp dj a (a + kx))) = heapPop lt a N dk) := by show _ = _; rw [← HK3.out, heapPop]
          go_wp2_with (go_at_call 192; refine C.mono ?_; rintro e w5 ⟨rfl, hI5, hS5⟩; have S5 := S4.step HB.out hI5 hS5; clear C)
          go_roundw
          case rel =>
            first
              | exact ⟨kx, _, by first | rfl | (congr 1; omega), by omega, S5, HN⟩
              | ((repeat apply Exists.intro); exact ⟨⟨kx, _, by first | rfl | (congr 1; omega), by omega, S5, HN⟩, rfl⟩)
          case measure => simp [intOf] <;> omega
    | succ kx =>
      simp only [show (((kx + 1 : Nat) : Int) - 1) = (kx : Int) by omega]
      have hz : (0 : Int) ≤ (kx : Int) := by omega
      have C := siftDown_any HE.out kx N a dk wr S.i (by omega) (by omega)
      have HN : Hid (heapBuild lt N a kx (siftDown lt N a kx dk) = heapBuild lt N a ((N - 1) / 2 + 1) d) := by show _ = _; rw [← HK.out, heapBuild]
      go_wp2_with (go_at_call 192; refine C.mono ?_; rintro e w5 ⟨rfl, hI5, hS5⟩; have S5 := S.step HB.out hI5 hS5; clear C)
      go_roundw
      case rel =>
        first
          | exact ⟨kx, _, by first | rfl | (congr 1; omega), by omega, S5, HN⟩
          | ((repeat apply Exists.intro); exact ⟨⟨kx, _, by first | rfl | (congr 1; omega), by omega, S5, HN⟩, rfl⟩)
      case measure => simp [intOf] <;> omega
end Go.Proofs.YtollijngiioonaaGreat

/- sort.order2_func, sort.median_func, sort.medianAdjacent_func, by a comparison that may lay blocks. Conditions: rows of less than 2^62 elements. -/
namespace Go.Proofs.YtollijngiioonaaGreat
set_option maxRecDepth 100000
open Go.RowKit Go.Sort

variable {α : Type} [Inhabited α]
variable {g : Nat} {lb : Array Value} {sf : Nat} {sb : Array Value} {lt : α → α → Bool} {n blk base : Nat} {I : Array α → World → Prop}

/-- The row, and the count of swaps in block P. -/
structure PSt (blk P : Nat) (I : Array α → World → Prop) (w : World) (d : Array α) (s : Nat) (wr : World) : Prop where
  i : I d wr
  c : wr.cell? ⟨P, 0, none⟩ = some (.int .i64 s)
  f : wr.frozen? ⟨P, 0, none⟩ = false
  st : Stay (fun k => k ≠ blk ∧ k ≠ P) w wr
omit [Inhabited α] in
theorem PSt.trans {P : Nat} {w w1 w2 : World} {d : Array α} {s s' : Nat} (h : PSt blk P I w d s w1) (k : PSt blk P I w1 d s' w2) : PSt blk P I w d s' w2 := ⟨k.i, k.c, k.f, h.st.trans k.st⟩

set_option maxHeartbeats 2000000 in
theorem order2_any (E : SEnv g lb sf sb lt n blk base I) (a b P s : Nat) (d : Array α) (w : World) (h : I d w) (ha : a < n) (hb : b < n) (hP : base ≤ P) (hc : w.cell? ⟨P, 0, none⟩ = some (.int .i64 s)) (hf : w.frozen? ⟨P, 0, none⟩ = false) (hs : s ≤ 100) :
    Calls Tryz.prog 198 #[.agg #[.func (.func g) #[] lb, .func (.func sf) #[] sb], .int .i64 a, .int .i64 b, .pointer (some ⟨P, 0, none⟩)] w fun e w' => e = .returned (.tuple #[.int .i64 (order2 lt d a b s).1, .int .i64 (order2 lt d a b s).2.1]) ∧ PSt blk P I w d (order2 lt d a b s).2.2 w' := by
  have eg := E.eg
  have hbig := E.big
  have hbb := E.bb
  have hlt0 := E.lt _ _ h
  have hPl : P < w.heap.size := World.block_lt_of_cell? _ _ hc
  have HB : Hid (w.heap.size ≠ blk) := by show _ ≠ _; omega
  have HP : Hid (P ≠ blk) := by show _ ≠ _; omega
  have HE : Hid (SEnv g lb sf sb lt n blk base I) := E
  have S0 := SSt.start E h 200
  obtain ⟨W, hW⟩ : ∃ W, W = w.alloc (.cells #[.func (.func g) #[] lb, .func (.func sf) #[] sb] 200) := ⟨_, rfl⟩
  rw [← hW] at S0
  have hbW : Below w.heap.size w W := by rw [hW]; exact (Below.refl _ _).alloc (Nat.le_refl _) _
  have hcW := keepC hbW hc
  have hfW : W.frozen? ⟨P, 0, none⟩ = false := (hbW.frozen (p := ⟨P, 0, none⟩) hPl).trans hf
  have c0 := S0.c0
  have c1 := S0.c1
  clear E h hc hf
  cases hL : lt d[b]! d[a]! with
  | true =>
    have HO : Hid (order2 lt d a b s = (b, a, s + 1)) := by show _ = _; unfold order2; rw [hL]; rfl
    have hl := HE.out.lessV d b a b a true hL rfl rfl hb ha W S0.i
    have hs2 : (s : Int) ≤ 100 := by omega
    clear hL
    rw [HO.out]
    go_enter Tryz.func198, Tryz.ntmps198
    go_wp2_with (go_at_fn g; rw [← hW]; refine hl.mono ?_; rintro e w2 ⟨rfl, hI2, hS2⟩; have S2 := S0.step HB.out hI2 hS2; have hc2 := hS2.cell hcW HP.out; have hf2 := (hS2.frozen (p := ⟨P, 0, none⟩) (World.block_lt_of_cell? _ _ hcW) HP.out).trans hfW; clear hl hW hcW hfW c0 c1)
    go_ret2
    refine ⟨rfl, HE.out.set _ _ _ _ hI2 hP, ?_, by rw [World.frozen?_setCell]; exact hf2, (S2.st.weak (fun _ _ hk => hk.1)).trans (.setCell _ _ (fun hk => hk.2 rfl))⟩
    rw [World.cell?_setCell_same _ _ _ hc2]; simp
  | false =>
    have HO : Hid (order2 lt d a b s = (a, b, s)) := by show _ = _; unfold order2; rw [hL]; rfl
    have hl := HE.out.lessV d b a b a false hL rfl rfl hb ha W S0.i
    clear hL
    rw [HO.out]
    go_enter Tryz.func198, Tryz.ntmps198
    go_wp2_with (go_at_fn g; rw [← hW]; refine hl.mono ?_; rintro e w2 ⟨rfl, hI2, hS2⟩; have S2 := S0.step HB.out hI2 hS2; have hc2 := hS2.cell hcW HP.out; have hf2 := (hS2.frozen (p := ⟨P, 0, none⟩) (World.block_lt_of_cell? _ _ hcW) HP.out).trans hfW; clear hl hW hcW hfW c0 c1)
    go_ret2
    exact ⟨rfl, hI2, hc2, hf2, S2.st.weak (fun _ _ hk => hk.1)⟩

theorem order2_lt (lt : α → α → Bool) (d : Array α) {a b s m : Nat} (ha : a < m) (hb : b < m) : (order2 lt d a b s).1 < m ∧ (order2 lt d a b s).2.1 < m ∧ (order2 lt d a b s).2.2 ≤ s + 1 := by
  unfold order2
  split <;> simp <;> omega

set_option maxHeartbeats 2000000 in
theorem median_any (E : SEnv g lb sf sb lt n blk base I) (a b c P s : Nat) (d : Array α) (w : World) (h : I d w) (ha : a < n) (hb : b < n) (hc' : c < n) (hP : base ≤ P) (hc : w.cell? ⟨P, 0, none⟩ = some (.int .i64 s)) (hf : w.frozen? ⟨P, 0, none⟩ = false) (hs : s ≤ 90) :
    Calls Tryz.prog 196 #[.agg #[.func (.func g) #[] lb, .func (.func sf) #[] sb], .int .i64 a, .int .i64 b, .int .i64 c, .pointer (some ⟨P, 0, none⟩)] w fun e w' => e = .returned (.int .i64 (median lt d a b c s).1) ∧ PSt blk P I w d (median lt d a b c s).2 w' := by
  have hPl : P < w.heap.size := World.block_lt_of_cell? _ _ hc
  have HE : Hid (SEnv g lb sf sb lt n blk base I) := E
  obtain ⟨W, hW⟩ : ∃ W, W = w.alloc (.cells #[.func (.func g) #[] lb, .func (.func sf) #[] sb] 200) := ⟨_, rfl⟩
  have hbW : Below w.heap.size w W := by rw [hW]; exact (Below.refl _ _).alloc (Nat.le_refl _) _
  have S0 : PSt blk P I w d s W := ⟨E.on _ _ _ h hbW, keepC hbW hc, (hbW.frozen (p := ⟨P, 0, none⟩) hPl).trans hf, .of_below hbW (fun _ hk _ => hk)⟩
  have b0 : W.cell? ⟨w.heap.size, 0, none⟩ = some (.func (.func g) #[] lb) := by rw [hW]; simp
  have b1 : W.cell? ⟨w.heap.size, 1, none⟩ = some (.func (.func sf) #[] sb) := by rw [hW]; simp
  have HN : Hid (w.heap.size ≠ blk ∧ w.heap.size ≠ P) := by have := E.lt _ _ h; have := E.bb; exact ⟨by omega, by omega⟩
  obtain ⟨x1, y1, s1, e1⟩ : ∃ x1 y1 s1, order2 lt d a b s = (x1, y1, s1) := ⟨_, _, _, rfl⟩
  have q1 := order2_lt lt d (s := s) ha hb
  rw [e1] at q1
  dsimp only at q1
  obtain ⟨x2, y2, s2, e2⟩ : ∃ x2 y2 s2, order2 lt d y1 c s1 = (x2, y2, s2) := ⟨_, _, _, rfl⟩
  have q2 := order2_lt lt d (s := s1) q1.2.1 hc'
  rw [e2] at q2
  dsimp only at q2
  obtain ⟨x3, y3, s3, e3⟩ : ∃ x3 y3 s3, order2 lt d x1 x2 s2 = (x3, y3, s3) := ⟨_, _, _, rfl⟩
  have HM : Hid (median lt d a b c s = (y3, s3)) := by show _ = _; unfold median; simp only [e1, e2, e3]
  have C1 := order2_any E a b P s d W S0.i ha hb hP S0.c S0.f (by omega)
  rw [e1] at C1
  have C2 := fun (W' : World) (S : PSt blk P I w d s1 W') => order2_any HE.out y1 c P s1 d W' S.i q1.2.1 hc' hP S.c S.f (by omega)
  have C3 := fun (W' : World) (S : PSt blk P I w d s2 W') => order2_any HE.out x1 x2 P s2 d W' S.i q1.1 q2.1 hP S.c S.f (by omega)
  simp only [e2] at C2
  simp only [e3] at C3
  rw [HM.out]
  clear E h hc hf e1 e2 e3 q1 q2
  go_enter Tryz.func196, Tryz.ntmps196
  go_wp2_with (first
    | (go_at_call 198; rw [← hW]; refine C1.mono ?_; rintro e w1 ⟨rfl, K1⟩; have S1 := S0.trans K1; have d0 := K1.st.cell b0 HN.out; have d1 := K1.st.cell b1 HN.out; clear C1 S0 K1 hW b0 b1)
    | (go_at_call 198; refine (C2 _ S1).mono ?_; rintro e w2 ⟨rfl, K2⟩; have S2 := S1.trans K2; have g0 := K2.st.cell d0 HN.out; have g1 := K2.st.cell d1 HN.out; clear C2 S1 K2 d0 d1)
    | (go_at_call 198; refine (C3 _ S2).mono ?_; rintro e w3 ⟨rfl, K3⟩; have S3 := S2.trans K3; clear C3 S2 K3 g0 g1))
  go_ret
  exact ⟨rfl, S3⟩

set_option maxHeartbeats 2000000 in
theorem medianAdj_any (E : SEnv g lb sf sb lt n blk base I) (a P s : Nat) (d : Array α) (w : World) (h : I d w) (ha0 : 1 ≤ a) (ha : a + 1 < n) (hP : base ≤ P) (hc : w.cell? ⟨P, 0, none⟩ = some (.int .i64 s)) (hf : w.frozen? ⟨P, 0, none⟩ = false) (hs : s ≤ 90) :
    Calls Tryz.prog 195 #[.agg #[.func (.func g) #[] lb, .func (.func sf) #[] sb], .int .i64 a, .pointer (some ⟨P, 0, none⟩)] w fun e w' => e = .returned (.int .i64 (medianAdjacent lt d a s).1) ∧ PSt blk P I w d (medianAdjacent lt d a s).2 w' := by
  have hPl : P < w.heap.size := World.block_lt_of_cell? _ _ hc
  have hbig := E.big
  obtain ⟨W, hW⟩ : ∃ W, W = w.alloc (.cells #[.func (.func g) #[] lb, .func (.func sf) #[] sb] 200) := ⟨_, rfl⟩
  have hbW : Below w.heap.size w W := by rw [hW]; exact (Below.refl _ _).alloc (Nat.le_refl _) _
  have S0 : PSt blk P I w d s W := ⟨E.on _ _ _ h hbW, keepC hbW hc, (hbW.frozen (p := ⟨P, 0, none⟩) hPl).trans hf, .of_below hbW (fun _ hk _ => hk)⟩
  have C := median_any E (a - 1) a (a + 1) P s d W S0.i (by omega) (by omega) (by omega) hP S0.c S0.f hs
  rw [show ((a - 1 : Nat) : Int) = (a : Int) - 1 by omega, show ((a + 1 : Nat) : Int) = (a : Int) + 1 by omega] at C
  clear E h hc hf
  unfold medianAdjacent
  go_enter Tryz.func195, Tryz.ntmps195
  go_wp2_with (go_at_call 196; rw [← hW]; refine C.mono ?_; rintro e w1 ⟨rfl, K1⟩; have S1 := S0.trans K1; clear C S0 K1 hW)
  go_ret
  exact ⟨rfl, S1⟩
end Go.Proofs.YtollijngiioonaaGreat

/- sort.choosePivot_func, by a comparison that may lay blocks. Conditions: rows of less than 2^62 elements; at least eight elements. -/
namespace Go.Proofs.YtollijngiioonaaGreat
set_option maxRecDepth 100000
open Go.RowKit Go.Sort

variable {α : Type} [Inhabited α]
variable {g : Nat} {lb : Array Value} {sf : Nat} {sb : Array Value} {lt : α → α → Bool} {n blk base : Nat} {I : Array α → World → Prop}

def hintI : Hint → Int
  | .unknown => 0
  | .increasing => 1
  | .decreasing => 2

theorem median_lt (lt : α → α → Bool) (d : Array α) {a b c s m : Nat} (ha : a < m) (hb : b < m) (hc : c < m) : (median lt d a b c s).1 < m ∧ (median lt d a b c s).2 ≤ s + 3 := by
  unfold median
  have q1 := order2_lt lt d (s := s) ha hb
  have q2 := order2_lt lt d (s := (order2 lt d a b s).2.2) q1.2.1 hc
  have q3 := order2_lt lt d (s := (order2 lt d (order2 lt d a b s).2.1 c (order2 lt d a b s).2.2).2.2) q1.1 q2.1
  exact ⟨q3.2.1, by dsimp only; omega⟩
/-- What was there before the call but the row lies as it lay. -/
theorem fin_stay {w wr : World} {P : Nat} (hP : w.heap.size ≤ P) (h : Stay (fun k => k ≠ blk ∧ k ≠ P) w wr) : Stay (fun k => k ≠ blk) w wr := h.weak (fun k hk h => ⟨h, by omega⟩)

set_option maxHeartbeats 2000000 in
theorem choosePivot_any (E : SEnv g lb sf sb lt n blk base I) (a b : Nat) (d : Array α) (w : World) (h : I d w) (hab : a + 8 ≤ b) (hb : b ≤ n) :
    Calls Tryz.prog 182 #[.agg #[.func (.func g) #[] lb, .func (.func sf) #[] sb], .int .i64 a, .int .i64 b] w fun e w' => e = .returned (.tuple #[.int .i64 (choosePivot lt d a b).1, .int .i64 (hintI (choosePivot lt d a b).2)]) ∧ I d w' ∧ Stay (fun k => k ≠ blk) w w' := by
  have hbig := E.big
  obtain ⟨N, hN⟩ : ∃ N, N = b - a := ⟨_, rfl⟩
  obtain ⟨q, hq⟩ : ∃ q, q = N / 4 := ⟨_, rfl⟩
  have hbN : (b : Int) - (a : Int) = (N : Int) := by omega
  have hw0 : IntKind.i64.wrap ((b : Int) - (a : Int)) = (N : Int) := by rw [IntKind.wrap_i64]; omega
  have htd : (N : Int).tdiv 4 = (q : Int) := by rw [hq]; rfl
  have HC : Hid (choosePivot lt d a b = (let i := a + q; let j := a + q * 2; let k := a + q * 3; let r : Nat × Nat := if N ≥ 50 then (let ri := medianAdjacent lt d i 0; let rj := medianAdjacent lt d j ri.2; let rk := medianAdjacent lt d k rj.2; median lt d ri.1 rj.1 rk.1 rk.2) else median lt d i j k 0; (r.1, if r.2 = 0 then .increasing else if r.2 = 12 then .decreasing else .unknown))) := by
    show _ = _
    unfold choosePivot
    simp only [← hN, ← hq, Nat.mul_one]
    rw [if_pos (show N ≥ 8 by omega)]
  have hq4 : 4 * q ≤ N ∧ 2 ≤ q := by omega
  have HE : Hid (SEnv g lb sf sb lt n blk base I) := E
  have hdiv : (N : Int) / 4 = (q : Int) := by omega
  have hNn : a + N ≤ n := by omega
  obtain ⟨W, hW⟩ : ∃ W, W = (w.alloc (.cells #[.func (.func g) #[] lb, .func (.func sf) #[] sb] 200)).alloc (.cells #[.int .i64 0] 3) := ⟨_, rfl⟩
  have hbW : Below w.heap.size w W := by rw [hW]; exact ((Below.refl _ _).alloc (Nat.le_refl _) _).alloc (by simp) _
  have hP1 : w.heap.size ≤ w.heap.size + 1 := by omega
  have hP : base ≤ w.heap.size + 1 := by have := E.lt _ _ h; omega
  have HN : Hid (w.heap.size ≠ blk ∧ w.heap.size ≠ w.heap.size + 1) := by have := E.lt _ _ h; have := E.bb; exact ⟨by omega, by omega⟩
  have S0 : PSt blk (w.heap.size + 1) I w d 0 W := ⟨E.on _ _ _ h hbW, by rw [hW]; simp [go_sem], by rw [hW]; simp [go_sem], .of_below hbW (fun _ hk _ => hk)⟩
  have S00 : W.cell? ⟨w.heap.size, 0, none⟩ = some (.func (.func g) #[] lb) := by rw [hW]; simp [go_sem]
  have S01 : W.cell? ⟨w.heap.size, 1, none⟩ = some (.func (.func sf) #[] sb) := by rw [hW]; simp [go_sem]
  clear E h hN hq hab hbW
  by_cases h50 : 50 ≤ N
  · have h50z : (50 : Int) ≤ (N : Int) := by omega
    have h8z : (8 : Int) ≤ (N : Int) := by omega
    obtain ⟨i1, s1, e1⟩ : ∃ i1 s1, medianAdjacent lt d (a + q) 0 = (i1, s1) := ⟨_, _, rfl⟩
    obtain ⟨j1, s2, e2⟩ : ∃ j1 s2, medianAdjacent lt d (a + q * 2) s1 = (j1, s2) := ⟨_, _, rfl⟩
    obtain ⟨k1, s3, e3⟩ : ∃ k1 s3, medianAdjacent lt d (a + q * 3) s2 = (k1, s3) := ⟨_, _, rfl⟩
    obtain ⟨pv, sw, e4⟩ : ∃ pv sw, median lt d i1 j1 k1 s3 = (pv, sw) := ⟨_, _, rfl⟩
    have r1 := median_lt lt d (s := 0) (m := n) (a := a + q - 1) (b := a + q) (c := a + q + 1) (by omega) (by omega) (by omega)
    have r2 := median_lt lt d (s := s1) (m := n) (a := a + q * 2 - 1) (b := a + q * 2) (c := a + q * 2 + 1) (by omega) (by omega) (by omega)
    have r3 := median_lt lt d (s := s2) (m := n) (a := a + q * 3 - 1) (b := a + q * 3) (c := a + q * 3 + 1) (by omega) (by omega) (by omega)
    unfold medianAdjacent at e1 e2 e3
    rw [e1] at r1; rw [e2] at r2; rw [e3] at r3
    dsimp only at r1 r2 r3
    have r4 := median_lt lt d (s := s3) (m := n) r1.1 r2.1 r3.1
    rw [e4] at r4
    dsimp only at r4
    have A1 := fun (W' : World) (S : PSt blk (w.heap.size + 1) I w d 0 W') => medianAdj_any HE.out (a + q) (w.heap.size + 1) 0 d W' S.i (by omega) (by omega) hP S.c S.f (by omega)
    have A2 := fun (W' : World) (S : PSt blk (w.heap.size + 1) I w d s1 W') => medianAdj_any HE.out (a + q * 2) (w.heap.size + 1) s1 d W' S.i (by omega) (by omega) hP S.c S.f (by omega)
    have A3 := fun (W' : World) (S : PSt blk (w.heap.size + 1) I w d s2 W') => medianAdj_any HE.out (a + q * 3) (w.heap.size + 1) s2 d W' S.i (by omega) (by omega) hP S.c S.f (by omega)
    have CM := fun (W' : World) (S : PSt blk (w.heap.size + 1) I w d s3 W') => median_any HE.out i1 j1 k1 (w.heap.size + 1) s3 d W' S.i r1.1 r2.1 r3.1 hP S.c S.f (by omega)
    unfold medianAdjacent at A1 A2 A3
    simp only [e1] at A1
    simp only [e2] at A2
    simp only [e3] at A3
    simp only [e4] at CM
    simp only [show ((a + q : Nat) : Int) = (a : Int) + (q : Int) by omega] at A1
    simp only [show ((a + q * 2 : Nat) : Int) = (a : Int) + (q : Int) * 2 by omega] at A2
    simp only [show ((a + q * 3 : Nat) : Int) = (a : Int) + (q : Int) * 3 by omega] at A3
    have HF : Hid (choosePivot lt d a b = (pv, if sw = 0 then Hint.increasing else if sw = 12 then Hint.decreasing else Hint.unknown)) := by show _ = _; rw [HC.out]; simp only [medianAdjacent, e1, e2, e3, e4]; rw [if_pos h50]
    have hswb : (sw : Int) ≤ 100 := by omega
    clear HC
    by_cases hs0 : sw = 0
    · subst hs0
      rw [HF.out]
      go_enter Tryz.func182, Tryz.ntmps182
      go_wp2_with (first
        | (go_at_call 195; rw [← hW]; refine (A1 _ S0).mono ?_; rintro e w1 ⟨rfl, K1⟩; have S1 := S0.trans K1; have S10 := K1.st.cell S00 HN.out; have S11 := K1.st.cell S01 HN.out; clear A1 K1 S00 S01)
        | (go_at_call 195;  refine (A2 _ S1).mono ?_; rintro e w2 ⟨rfl, K2⟩; have S2 := S1.trans K2; have S20 := K2.st.cell S10 HN.out; have S21 := K2.st.cell S11 HN.out; clear A2 K2 S10 S11)
        | (go_at_call 195;  refine (A3 _ S2).mono ?_; rintro e w3 ⟨rfl, K3⟩; have S3 := S2.trans K3; have S30 := K3.st.cell S20 HN.out; have S31 := K3.st.cell S21 HN.out; clear A3 K3 S20 S21)
        | (go_at_call 196;  refine (CM _ S3).mono ?_; rintro e w9 ⟨rfl, K9⟩; have S9 := S3.trans K9; have c9 := S9.c; clear CM K9))
      go_ret2
      exact ⟨rfl, S9.i, fin_stay hP1 S9.st⟩
    · have hs0e : ((sw : Int) == 0) = false := by simp [hs0]
      by_cases hs12 : sw = 12
      · subst hs12
        rw [HF.out]
        go_enter Tryz.func182, Tryz.ntmps182
        go_wp2_with (first
          | (go_at_call 195; rw [← hW]; refine (A1 _ S0).mono ?_; rintro e w1 ⟨rfl, K1⟩; have S1 := S0.trans K1; have S10 := K1.st.cell S00 HN.out; have S11 := K1.st.cell S01 HN.out; clear A1 K1 S00 S01)
          | (go_at_call 195;  refine (A2 _ S1).mono ?_; rintro e w2 ⟨rfl, K2⟩; have S2 := S1.trans K2; have S20 := K2.st.cell S10 HN.out; have S21 := K2.st.cell S11 HN.out; clear A2 K2 S10 S11)
          | (go_at_call 195;  refine (A3 _ S2).mono ?_; rintro e w3 ⟨rfl, K3⟩; have S3 := S2.trans K3; have S30 := K3.st.cell S20 HN.out; have S31 := K3.st.cell S21 HN.out; clear A3 K3 S20 S21)
          | (go_at_call 196;  refine (CM _ S3).mono ?_; rintro e w9 ⟨rfl, K9⟩; have S9 := S3.trans K9; have c9 := S9.c; clear CM K9))
        go_ret2
        exact ⟨rfl, S9.i, fin_stay hP1 S9.st⟩
      · have hs12e : ((sw : Int) == 12) = false := by simp; omega
        rw [HF.out, if_neg hs0, if_neg hs12]
        go_enter Tryz.func182, Tryz.ntmps182
        go_wp2_with (first
          | (go_at_call 195; rw [← hW]; refine (A1 _ S0).mono ?_; rintro e w1 ⟨rfl, K1⟩; have S1 := S0.trans K1; have S10 := K1.st.cell S00 HN.out; have S11 := K1.st.cell S01 HN.out; clear A1 K1 S00 S01)
          | (go_at_call 195;  refine (A2 _ S1).mono ?_; rintro e w2 ⟨rfl, K2⟩; have S2 := S1.trans K2; have S20 := K2.st.cell S10 HN.out; have S21 := K2.st.cell S11 HN.out; clear A2 K2 S10 S11)
          | (go_at_call 195;  refine (A3 _ S2).mono ?_; rintro e w3 ⟨rfl, K3⟩; have S3 := S2.trans K3; have S30 := K3.st.cell S20 HN.out; have S31 := K3.st.cell S21 HN.out; clear A3 K3 S20 S21)
          | (go_at_call 196;  refine (CM _ S3).mono ?_; rintro e w9 ⟨rfl, K9⟩; have S9 := S3.trans K9; have c9 := S9.c; clear CM K9))
        go_ret2
        exact ⟨rfl, S9.i, fin_stay hP1 S9.st⟩
  · have h50z : ¬ (50 : Int) ≤ (N : Int) := by omega
    have h8z : (8 : Int) ≤ (N : Int) := by omega
    obtain ⟨pv, sw, e4⟩ : ∃ pv sw, median lt d (a + q) (a + q * 2) (a + q * 3) 0 = (pv, sw) := ⟨_, _, rfl⟩
    have r4 := median_lt lt d (s := 0) (m := n) (a := a + q) (b := a + q * 2) (c := a + q * 3) (by omega) (by omega) (by omega)
    rw [e4] at r4
    dsimp only at r4
    have CM := fun (W' : World) (S : PSt blk (w.heap.size + 1) I w d 0 W') => median_any HE.out (a + q) (a + q * 2) (a + q * 3) (w.heap.size + 1) 0 d W' S.i (by omega) (by omega) (by omega) hP S.c S.f (by omega)
    simp only [e4] at CM
    simp only [show ((a + q : Nat) : Int) = (a : Int) + (q : Int) by omega, show ((a + q * 2 : Nat) : Int) = (a : Int) + (q : Int) * 2 by omega, show ((a + q * 3 : Nat) : Int) = (a : Int) + (q : Int) * 3 by omega] at CM
    have HF : Hid (choosePivot lt d a b = (pv, if sw = 0 then Hint.increasing else if sw = 12 then Hint.decreasing else Hint.unknown)) := by show _ = _; rw [HC.out]; simp only [e4]; rw [if_neg h50]
    have hswb : (sw : Int) ≤ 100 := by omega
    clear HC
    by_cases hs0 : sw = 0
    · subst hs0
      rw [HF.out]
      go_enter Tryz.func182, Tryz.ntmps182
      go_wp2_with (first
        | (go_at_call 196; rw [← hW]; refine (CM _ S0).mono ?_; rintro e w9 ⟨rfl, K9⟩; have S9 := S0.trans K9; have c9 := S9.c; clear CM K9))
      go_ret2
      exact ⟨rfl, S9.i, fin_stay hP1 S9.st⟩
    · have hs0e : ((sw : Int) == 0) = false := by simp [hs0]
      by_cases hs12 : sw = 12
      · omega
      · have hs12e : ((sw : Int) == 12) = false := by simp; omega
        rw [HF.out, if_neg hs0, if_neg hs12]
        go_enter Tryz.func182, Tryz.ntmps182
        go_wp2_with (first
          | (go_at_call 196; rw [← hW]; refine (CM _ S0).mono ?_; rintro e w9 ⟨rfl, K9⟩; have S9 := S0.trans K9; have c9 := S9.c; clear CM K9))
        go_ret2
        exact ⟨rfl, S9.i, fin_stay hP1 S9.st⟩
end Go.Proofs.YtollijngiioonaaGreat

/- sort.partitionEqual_func, by a comparison that may lay blocks. Conditions: rows of less than 2^62 elements. -/
namespace Go.Proofs.YtollijngiioonaaGreat
set_option maxRecDepth 100000
open Go.RowKit Go.Sort

variable {α : Type} [Inhabited α]
variable {g : Nat} {lb : Array Value} {sf : Nat} {sb : Array Value} {lt : α → α → Bool} {n blk base : Nat} {I : Array α → World → Prop}

set_option maxHeartbeats 4000000 in
theorem partitionEqual_any (E : SEnv g lb sf sb lt n blk base I) (a b pivot : Nat) (d : Array α) (w : World) (h : I d w) (hap : a ≤ pivot) (hpb : pivot < b) (hb : b ≤ n) :
    Calls Tryz.prog 185 #[.agg #[.func (.func g) #[] lb, .func (.func sf) #[] sb], .int .i64 a, .int .i64 b, .int .i64 pivot] w fun e w' => e = .returned (.int .i64 (partitionEqual lt d a b pivot).1) ∧ I (partitionEqual lt d a b pivot).2 w' ∧ Stay (fun k => k ≠ blk) w w' := by
  have eg := E.eg
  have hbig := E.big
  have HB : Hid (w.heap.size ≠ blk) := by have := E.lt _ _ h; have := E.bb; show _ ≠ _; omega
  have HE : Hid (SEnv g lb sf sb lt n blk base I) := E
  have S0 := SSt.start E h 200
  obtain ⟨W, hW⟩ : ∃ W, W = w.alloc (.cells #[.func (.func g) #[] lb, .func (.func sf) #[] sb] 200) := ⟨_, rfl⟩
  rw [← hW] at S0
  obtain ⟨W1, hrun0, hI1, hS1⟩ := E.swapI d W a pivot a pivot rfl rfl S0.i (by omega) (by omega)
  have S1' := S0.step HB.out hI1 hS1
  rw [hW] at hrun0
  have z0 : (w.alloc (.cells #[.func (.func g) #[] lb, .func (.func sf) #[] sb] 200)).cell? ⟨w.heap.size, 0, none⟩ = some (.func (.func g) #[] lb) := by simp
  have z1 : (w.alloc (.cells #[.func (.func g) #[] lb, .func (.func sf) #[] sb] 200)).cell? ⟨w.heap.size, 1, none⟩ = some (.func (.func sf) #[] sb) := by simp
  clear E h S0 hI1 hS1 hW
  go_enter Tryz.func185, Tryz.ntmps185
  go_wp2
  go_loopw [9, 10] (fun vi vj wr => ∃ (i j : Nat) (dk : Array α), vi = .int .i64 i ∧ vj = .int .i64 j ∧ a < i ∧ i ≤ j + 1 ∧ j < b ∧ SSt blk I w w.heap.size g lb sf sb dk wr ∧ Hid (partEqLoop lt a i j dk = partitionEqual lt d a b pivot)) (fun vi vj _ => (intOf vj).toNat + 1 - (intOf vi).toNat)
  case atStart => exact ⟨a + 1, b - 1, swp d a pivot, by go_num, by congr 1; omega, by omega, by omega, by omega, S1', rfl⟩
  case round =>
    obtain ⟨i, j, dk, rfl, rfl, hai, hij, hjb, S, HK⟩ := hrel
    clear S1'
    go_wp2
    go_loopw [9] (fun vi w1 => ∃ i1 : Nat, vi = .int .i64 i1 ∧ i ≤ i1 ∧ i1 ≤ j + 1 ∧ SSt blk I w w.heap.size g lb sf sb dk w1 ∧ Hid (scanUp (fun x => !lt dk[a]! x) dk j i1 = scanUp (fun x => !lt dk[a]! x) dk j i)) (fun vi _ => j + 1 - (intOf vi).toNat)
    case atStart => exact ⟨i, by first | rfl | go_num | (congr 1; omega), Nat.le_refl _, hij, S, rfl⟩
    case round =>
      obtain ⟨i1, rfl, h1, h2, S1, HU⟩ := hrel
      have c0 := S1.c0
      have c1 := S1.c1
      by_cases hle : i1 ≤ j
      · have hlez : (i1 : Int) ≤ (j : Int) := by omega
        cases hv : lt dk[a]! dk[i1]! with
        | false =>
          have hl := HE.out.lessV dk a i1 a i1 false hv rfl rfl (by omega) (by omega) _ S1.i
          have HU2 : Hid (scanUp (fun x => !lt dk[a]! x) dk j (i1 + 1) = scanUp (fun x => !lt dk[a]! x) dk j i) := (scanUp_go (fun x => !lt dk[a]! x) dk j i1 hle (by simp [hv])).symm.trans HU.out
          go_wp2_with (go_at_fn g; refine hl.mono ?_; rintro e w4 ⟨rfl, hI4, hS4⟩; have S4 := S1.step HB.out hI4 hS4; clear hl)
          go_roundw
          case rel =>
            first
              | exact ⟨i1 + 1, by go_num, by omega, by omega, S4, HU2⟩
              | ((repeat apply Exists.intro); refine ⟨?_, rfl⟩; exact ⟨i1 + 1, by go_num, by omega, by omega, S4, HU2⟩)
              | ((repeat apply Exists.intro); exact ⟨⟨i1 + 1, by go_num, by omega, by omega, S4, HU2⟩, by rw [DEC.out, show ((i1 + 1 : Nat) : Int) = (i1 : Int) + 1 by omega]⟩)
          case measure => simp [intOf] <;> omega
        | true =>
          have hl := HE.out.lessV dk a i1 a i1 true hv rfl rfl (by omega) (by omega) _ S1.i
          have HI : Hid (i1 = scanUp (fun x => !lt dk[a]! x) dk j i) := (scanUp_end (fun x => !lt dk[a]! x) dk j i1 (Or.inr (by simp [hv]))).symm.trans HU.out
          go_wp2_with (go_at_fn g; refine hl.mono ?_; rintro e w4 ⟨rfl, hI4, hS4⟩; have S2 := S1.step HB.out hI4 hS4; clear hl c0 c1)
          go_loopw [10] (fun vj w2 => ∃ j1 : Nat, vj = .int .i64 j1 ∧ j1 ≤ j ∧ i1 ≤ j1 + 1 ∧ SSt blk I w w.heap.size g lb sf sb dk w2 ∧ Hid (scanDown (fun x => lt dk[a]! x) dk i1 j1 = scanDown (fun x => lt dk[a]! x) dk i1 j)) (fun vj _ => (intOf vj).toNat)
          case atStart => exact ⟨j, by first | rfl | go_num | (congr 1; omega), Nat.le_refl _, h2, S2, rfl⟩
          case round =>
            obtain ⟨j1, rfl, g1, g2, S3, HD⟩ := hrel
            have k0 := S3.c0
            have k1 := S3.c1
            by_cases hle2 : i1 ≤ j1
            · have hle2z : (i1 : Int) ≤ (j1 : Int) := by omega
              cases hv2 : lt dk[a]! dk[j1]! with
              | true =>
                have hl := HE.out.lessV dk a j1 a j1 true hv2 rfl rfl (by omega) (by omega) _ S3.i
                have HD2 : Hid (scanDown (fun x => lt dk[a]! x) dk i1 (j1 - 1) = scanDown (fun x => lt dk[a]! x) dk i1 j) := (scanDown_go (fun x => lt dk[a]! x) dk i1 j1 hle2 (by omega) (hv2)).symm.trans HD.out
                go_wp2_with (go_at_fn g; refine hl.mono ?_; rintro e w4 ⟨rfl, hI4, hS4⟩; have S4 := S3.step HB.out hI4 hS4; clear hl)
                go_roundw
                case rel =>
                  first
                    | exact ⟨j1 - 1, by congr 1 <;> omega, by omega, by omega, S4, HD2⟩
                    | ((repeat apply Exists.intro); refine ⟨?_, rfl⟩; exact ⟨j1 - 1, by congr 1 <;> omega, by omega, by omega, S4, HD2⟩)
                    | ((repeat apply Exists.intro); exact ⟨⟨j1 - 1, by congr 1 <;> omega, by omega, by omega, S4, HD2⟩, by rw [DEC.out, show ((j1 - 1 : Nat) : Int) = (j1 : Int) - 1 by omega]⟩)
                case measure => simp [intOf] <;> omega
              | false =>
                have hl := HE.out.lessV dk a j1 a j1 false hv2 rfl rfl (by omega) (by omega) _ S3.i
                have HJ : Hid (j1 = scanDown (fun x => lt dk[a]! x) dk i1 j) := (scanDown_end (fun x => lt dk[a]! x) dk i1 j1 (Or.inr (hv2))).symm.trans HD.out
                have hlt3 := scans_lt lt a i j dk (by omega) HI.out HJ.out hle2
                have hngt : ¬ (j1 : Int) < (i1 : Int) := by omega
                go_wp2_with (go_at_fn g; refine hl.mono ?_; rintro e w4 ⟨rfl, hI4, hS4⟩; have S4 := S3.step HB.out hI4 hS4; have m0 := S4.c0; have m1 := S4.c1; obtain ⟨W5, hrun, hI5, hS5⟩ := HE.out.swapI dk w4 i1 j1 i1 j1 rfl rfl S4.i (by omega) (by omega); have S5 := S4.step HB.out hI5 hS5; clear hl)
                have HN : Hid (partEqLoop lt a (i1 + 1) (j1 - 1) (swp dk i1 j1) = partitionEqual lt d a b pivot) := by show _ = _; rw [← HK.out]; exact (partEq_go lt a i j dk HI.out HJ.out (by omega)).symm
                go_roundw
                case rel =>
                  first
                    | exact ⟨i1 + 1, j1 - 1, swp dk i1 j1, by go_num, by congr 1 <;> omega, by omega, by omega, by omega, S5, HN⟩
                    | ((repeat apply Exists.intro); refine ⟨?_, rfl⟩; exact ⟨i1 + 1, j1 - 1, swp dk i1 j1, by go_num, by congr 1 <;> omega, by omega, by omega, by omega, S5, HN⟩)
                    | ((repeat apply Exists.intro); exact ⟨⟨i1 + 1, j1 - 1, swp dk i1 j1, by go_num, by congr 1 <;> omega, by omega, by omega, by omega, S5, HN⟩, by rw [DEC.out, show ((i1 + 1 : Nat) : Int) = (i1 : Int) + 1 by omega, show ((j1 - 1 : Nat) : Int) = (j1 : Int) - 1 by omega]⟩)
                case measure => simp [intOf] <;> omega
            · have hle2z : ¬ (i1 : Int) ≤ (j1 : Int) := by omega
              have HJ : Hid (j1 = scanDown (fun x => lt dk[a]! x) dk i1 j) := (scanDown_end (fun x => lt dk[a]! x) dk i1 j1 (Or.inl hle2)).symm.trans HD.out
              have hgt : (j1 : Int) < (i1 : Int) := by omega
              have HN : Hid ((i1, dk) = partitionEqual lt d a b pivot) := by show _ = _; rw [← HK.out]; exact (partEq_break lt a i j dk HI.out HJ.out (by omega)).symm
              go_wp2
              go_ret
              exact ⟨by rw [← HN.out]; rfl, by rw [← HN.out]; exact S3.i, S3.st⟩
      · have hlez : ¬ (i1 : Int) ≤ (j : Int) := by omega
        have HI : Hid (i1 = scanUp (fun x => !lt dk[a]! x) dk j i) := (scanUp_end (fun x => !lt dk[a]! x) dk j i1 (Or.inl hle)).symm.trans HU.out
        clear c0 c1
        go_wp2
        go_loopw [10] (fun vj w2 => ∃ j1 : Nat, vj = .int .i64 j1 ∧ j1 ≤ j ∧ i1 ≤ j1 + 1 ∧ SSt blk I w w.heap.size g lb sf sb dk w2 ∧ Hid (scanDown (fun x => lt dk[a]! x) dk i1 j1 = scanDown (fun x => lt dk[a]! x) dk i1 j)) (fun vj _ => (intOf vj).toNat)
        case atStart => exact ⟨j, by first | rfl | go_num | (congr 1; omega), Nat.le_refl _, h2, S1, rfl⟩
        case round =>
          obtain ⟨j1, rfl, g1, g2, S3, HD⟩ := hrel
          have k0 := S3.c0
          have k1 := S3.c1
          by_cases hle2 : i1 ≤ j1
          · exfalso; omega
          · have hle2z : ¬ (i1 : Int) ≤ (j1 : Int) := by omega
            have HJ : Hid (j1 = scanDown (fun x => lt dk[a]! x) dk i1 j) := (scanDown_end (fun x => lt dk[a]! x) dk i1 j1 (Or.inl hle2)).symm.trans HD.out
            have hgt : (j1 : Int) < (i1 : Int) := by omega
            have HN : Hid ((i1, dk) = partitionEqual lt d a b pivot) := by show _ = _; rw [← HK.out]; exact (partEq_break lt a i j dk HI.out HJ.out (by omega)).symm
            go_wp2
            go_ret
            exact ⟨by rw [← HN.out]; rfl, by rw [← HN.out]; exact S3.i, S3.st⟩
end Go.Proofs.YtollijngiioonaaGreat

/- sort.partition_func, by a comparison that may lay blocks. Conditions: rows of less than 2^62 elements. -/
namespace Go.Proofs.YtollijngiioonaaGreat
set_option maxRecDepth 100000
open Go.RowKit Go.Sort

variable {α : Type} [Inhabited α]
variable {g : Nat} {lb : Array Value} {sf : Nat} {sb : Array Value} {lt : α → α → Bool} {n blk base : Nat} {I : Array α → World → Prop}

set_option maxHeartbeats 8000000 in
theorem partition_any (E : SEnv g lb sf sb lt n blk base I) (a b pivot : Nat) (d : Array α) (w : World) (h : I d w) (hap : a ≤ pivot) (hpb : pivot < b) (hb : b ≤ n) :
    Calls Tryz.prog 186 #[.agg #[.func (.func g) #[] lb, .func (.func sf) #[] sb], .int .i64 a, .int .i64 b, .int .i64 pivot] w fun e w' => e = .returned (.tuple #[.int .i64 (partition lt d a b pivot).1, .bool (partition lt d a b pivot).2.1]) ∧ I (partition lt d a b pivot).2.2 w' ∧ Stay (fun k => k ≠ blk) w w' := by
  have eg := E.eg
  have hbig := E.big
  have HB : Hid (w.heap.size ≠ blk) := by have := E.lt _ _ h; have := E.bb; show _ ≠ _; omega
  have HE : Hid (SEnv g lb sf sb lt n blk base I) := E
  have S0 := SSt.start E h 200
  obtain ⟨W, hW⟩ : ∃ W, W = w.alloc (.cells #[.func (.func g) #[] lb, .func (.func sf) #[] sb] 200) := ⟨_, rfl⟩
  rw [← hW] at S0
  obtain ⟨W1, hrun0, hI1, hS1⟩ := E.swapI d W a pivot a pivot rfl rfl S0.i (by omega) (by omega)
  have S1' := S0.step HB.out hI1 hS1
  rw [hW] at hrun0
  have z0 : (w.alloc (.cells #[.func (.func g) #[] lb, .func (.func sf) #[] sb] 200)).cell? ⟨w.heap.size, 0, none⟩ = some (.func (.func g) #[] lb) := by simp
  have z1 : (w.alloc (.cells #[.func (.func g) #[] lb, .func (.func sf) #[] sb] 200)).cell? ⟨w.heap.size, 1, none⟩ = some (.func (.func sf) #[] sb) := by simp
  clear E h S0 hI1 hS1 hW
  obtain ⟨i, Hi⟩ : ∃ i, Hid (i = a + 1) := ⟨_, rfl⟩
  obtain ⟨j, Hj⟩ : ∃ j, Hid (j = b - 1) := ⟨_, rfl⟩
  obtain ⟨dk, Hdk⟩ : ∃ dk, Hid (dk = swp d a pivot) := ⟨_, rfl⟩
  have S : SSt blk I w w.heap.size g lb sf sb dk W1 := by rw [Hdk.out]; exact S1'
  have hij : i ≤ j + 1 := by have := Hi.out; have := Hj.out; omega
  have hai : a < i := by have := Hi.out; omega
  have hjb : j < b := by have := Hj.out; omega
  have hic : (a : Int) + 1 = (i : Int) := by have := Hi.out; omega
  have hjc : (b : Int) - 1 = (j : Int) := by have := Hj.out; omega
  clear S1'
  go_enter Tryz.func186, Tryz.ntmps186
  go_wp2
  go_loopw [10] (fun vi w1 => ∃ i1 : Nat, vi = .int .i64 i1 ∧ i ≤ i1 ∧ i1 ≤ j + 1 ∧ SSt blk I w w.heap.size g lb sf sb dk w1 ∧ Hid (scanUp (fun x => lt x dk[a]!) dk j i1 = scanUp (fun x => lt x dk[a]!) dk j i)) (fun vi _ => j + 1 - (intOf vi).toNat)
  case atStart => exact ⟨i, by first | rfl | go_num | (congr 1; omega), Nat.le_refl _, hij, S, rfl⟩
  case round =>
    obtain ⟨i1, rfl, h1, h2, S1, HU⟩ := hrel
    have c0 := S1.c0
    have c1 := S1.c1
    by_cases hle : i1 ≤ j
    · have hlez : (i1 : Int) ≤ (j : Int) := by omega
      cases hv : lt dk[i1]! dk[a]! with
      | true =>
        have hl := HE.out.lessV dk i1 a i1 a true hv rfl rfl (by omega) (by omega) _ S1.i
        have HU2 : Hid (scanUp (fun x => lt x dk[a]!) dk j (i1 + 1) = scanUp (fun x => lt x dk[a]!) dk j i) := (scanUp_go (fun x => lt x dk[a]!) dk j i1 hle (hv)).symm.trans HU.out
        go_wp2_with (go_at_fn g; refine hl.mono ?_; rintro e w4 ⟨rfl, hI4, hS4⟩; have S4 := S1.step HB.out hI4 hS4; clear hl)
        go_roundw
        case rel =>
          first
            | exact ⟨i1 + 1, by go_num, by omega, by omega, S4, HU2⟩
            | ((repeat apply Exists.intro); refine ⟨?_, rfl⟩; exact ⟨i1 + 1, by go_num, by omega, by omega, S4, HU2⟩)
            | ((repeat apply Exists.intro); exact ⟨⟨i1 + 1, by go_num, by omega, by omega, S4, HU2⟩, by rw [DEC.out, show ((i1 + 1 : Nat) : Int) = (i1 : Int) + 1 by omega]⟩)
        case measure => simp [intOf] <;> omega
      | false =>
        have hl := HE.out.lessV dk i1 a i1 a false hv rfl rfl (by omega) (by omega) _ S1.i
        have HI : Hid (i1 = scanUp (fun x => lt x dk[a]!) dk j i) := (scanUp_end (fun x => lt x dk[a]!) dk j i1 (Or.inr (hv))).symm.trans HU.out
        go_wp2_with (go_at_fn g; refine hl.mono ?_; rintro e w4 ⟨rfl, hI4, hS4⟩; have S2 := S1.step HB.out hI4 hS4; clear hl c0 c1)
        go_loopw [11] (fun vj w2 => ∃ j1 : Nat, vj = .int .i64 j1 ∧ j1 ≤ j ∧ i1 ≤ j1 + 1 ∧ SSt blk I w w.heap.size g lb sf sb dk w2 ∧ Hid (scanDown (fun x => !lt x dk[a]!) dk i1 j1 = scanDown (fun x => !lt x dk[a]!) dk i1 j)) (fun vj _ => (intOf vj).toNat)
        case atStart => exact ⟨j, by first | rfl | go_num | (congr 1; omega), Nat.le_refl _, h2, S2, rfl⟩
        case round =>
          obtain ⟨j1, rfl, g1, g2, S3, HD⟩ := hrel
          have k0 := S3.c0
          have k1 := S3.c1
          by_cases hle2 : i1 ≤ j1
          · have hle2z : (i1 : Int) ≤ (j1 : Int) := by omega
            cases hv2 : lt dk[j1]! dk[a]! with
            | false =>
              have hl := HE.out.lessV dk j1 a j1 a false hv2 rfl rfl (by omega) (by omega) _ S3.i
              have HD2 : Hid (scanDown (fun x => !lt x dk[a]!) dk i1 (j1 - 1) = scanDown (fun x => !lt x dk[a]!) dk i1 j) := (scanDown_go (fun x => !lt x dk[a]!) dk i1 j1 hle2 (by omega) (by simp [hv2])).symm.trans HD.out
              go_wp2_with (go_at_fn g; refine hl.mono ?_; rintro e w4 ⟨rfl, hI4, hS4⟩; have S4 := S3.step HB.out hI4 hS4; clear hl)
              go_roundw
              case rel =>
                first
                  | exact ⟨j1 - 1, by congr 1 <;> omega, by omega, by omega, S4, HD2⟩
                  | ((repeat apply Exists.intro); refine ⟨?_, rfl⟩; exact ⟨j1 - 1, by congr 1 <;> omega, by omega, by omega, S4, HD2⟩)
                  | ((repeat apply Exists.intro); exact ⟨⟨j1 - 1, by congr 1 <;> omega, by omega, by omega, S4, HD2⟩, by rw [DEC.out, show ((j1 - 1 : Nat) : Int) = (j1 : Int) - 1 by omega]⟩)
              case measure => simp [intOf] <;> omega
            | true =>
              have hl := HE.out.lessV dk j1 a j1 a true hv2 rfl rfl (by omega) (by omega) _ S3.i
              have HJ : Hid (j1 = scanDown (fun x => !lt x dk[a]!) dk i1 j) := (scanDown_end (fun x => !lt x dk[a]!) dk i1 j1 (Or.inr (by simp [hv2]))).symm.trans HD.out
              have hlt3 := part_scans_lt lt a i j dk (by omega) HI.out HJ.out hle2
              have hngt : ¬ (j1 : Int) < (i1 : Int) := by omega
              go_wp2_with (go_at_fn g; refine hl.mono ?_; rintro e w4 ⟨rfl, hI4, hS4⟩; have S4 := S3.step HB.out hI4 hS4; have m0 := S4.c0; have m1 := S4.c1; obtain ⟨W5, hrun, hI5, hS5⟩ := HE.out.swapI dk w4 i1 j1 i1 j1 rfl rfl S4.i (by omega) (by omega); have S5 := S4.step HB.out hI5 hS5; clear hl)
              obtain ⟨R, HR⟩ : ∃ R, Hid (R = partLoop lt a (i1 + 1) (j1 - 1) (swp dk i1 j1)) := ⟨_, rfl⟩
              have HP : Hid (partition lt d a b pivot = (R.1, false, swp R.2 R.1 a)) := by show _ = _; rw [HR.out]; exact part_first_go lt d a b pivot Hi.out Hj.out Hdk.out HI.out HJ.out (by omega)
              clear HU HD S S1 S2 S3 S4 k0 k1 hrun m0 m1
              have B1 : Hid (i1 < j1) := hlt3
              have DEC : Hid (decide (j1 < i1) = false) := by show _ = _; simp; omega
              clear hngt hlt3 hle2 hle2z
              go_loopw [10, 11] (fun vi vj wr => ∃ (i j : Nat) (dk : Array α), vi = .int .i64 i ∧ vj = .int .i64 j ∧ a < i ∧ i ≤ j + 1 ∧ j < b ∧ SSt blk I w w.heap.size g lb sf sb dk wr ∧ Hid (partLoop lt a i j dk = R)) (fun vi vj _ => (intOf vj).toNat + 1 - (intOf vi).toNat)
              case atStart => exact ⟨i1 + 1, j1 - 1, swp dk i1 j1, by go_num, by have := B1.out; congr 1; omega, by omega, by have := B1.out; omega, by omega, S5, HR.out.symm⟩
              case round =>
                clear S5 HI HJ HR Hi Hj Hdk hv hv2
                obtain ⟨i, j, dk, rfl, rfl, hai, hij, hjb, S, HK⟩ := hrel
                go_wp2
                go_loopw [10] (fun vi w1 => ∃ i1 : Nat, vi = .int .i64 i1 ∧ i ≤ i1 ∧ i1 ≤ j + 1 ∧ SSt blk I w w.heap.size g lb sf sb dk w1 ∧ Hid (scanUp (fun x => lt x dk[a]!) dk j i1 = scanUp (fun x => lt x dk[a]!) dk j i)) (fun vi _ => j + 1 - (intOf vi).toNat)
                case atStart => exact ⟨i, by first | rfl | go_num | (congr 1; omega), Nat.le_refl _, hij, S, rfl⟩
                case round =>
                  obtain ⟨i1, rfl, h1, h2, S1, HU⟩ := hrel
                  have c0 := S1.c0
                  have c1 := S1.c1
                  by_cases hle : i1 ≤ j
                  · have hlez : (i1 : Int) ≤ (j : Int) := by omega
                    cases hv : lt dk[i1]! dk[a]! with
                    | true =>
                      have hl := HE.out.lessV dk i1 a i1 a true hv rfl rfl (by omega) (by omega) _ S1.i
                      have HU2 : Hid (scanUp (fun x => lt x dk[a]!) dk j (i1 + 1) = scanUp (fun x => lt x dk[a]!) dk j i) := (scanUp_go (fun x => lt x dk[a]!) dk j i1 hle (hv)).symm.trans HU.out
                      go_wp2_with (go_at_fn g; refine hl.mono ?_; rintro e w4 ⟨rfl, hI4, hS4⟩; have S4 := S1.step HB.out hI4 hS4; clear hl)
                      go_roundw
                      case rel =>
                        first
                          | exact ⟨i1 + 1, by go_num, by omega, by omega, S4, HU2⟩
                          | ((repeat apply Exists.intro); refine ⟨?_, rfl⟩; exact ⟨i1 + 1, by go_num, by omega, by omega, S4, HU2⟩)
                          | ((repeat apply Exists.intro); exact ⟨⟨i1 + 1, by go_num, by omega, by omega, S4, HU2⟩, by rw [DEC.out, show ((i1 + 1 : Nat) : Int) = (i1 : Int) + 1 by omega]⟩)
                      case measure => simp [intOf] <;> omega
                    | false =>
                      have hl := HE.out.lessV dk i1 a i1 a false hv rfl rfl (by omega) (by omega) _ S1.i
                      have HI : Hid (i1 = scanUp (fun x => lt x dk[a]!) dk j i) := (scanUp_end (fun x => lt x dk[a]!) dk j i1 (Or.inr (hv))).symm.trans HU.out
                      go_wp2_with (go_at_fn g; refine hl.mono ?_; rintro e w4 ⟨rfl, hI4, hS4⟩; have S2 := S1.step HB.out hI4 hS4; clear hl c0 c1)
                      go_loopw [11] (fun vj w2 => ∃ j1 : Nat, vj = .int .i64 j1 ∧ j1 ≤ j ∧ i1 ≤ j1 + 1 ∧ SSt blk I w w.heap.size g lb sf sb dk w2 ∧ Hid (scanDown (fun x => !lt x dk[a]!) dk i1 j1 = scanDown (fun x => !lt x dk[a]!) dk i1 j)) (fun vj _ => (intOf vj).toNat)
                      case atStart => exact ⟨j, by first | rfl | go_num | (congr 1; omega), Nat.le_refl _, h2, S2, rfl⟩
                      case round =>
                        obtain ⟨j1, rfl, g1, g2, S3, HD⟩ := hrel
                        have k0 := S3.c0
                        have k1 := S3.c1
                        by_cases hle2 : i1 ≤ j1
                        · have hle2z : (i1 : Int) ≤ (j1 : Int) := by omega
                          cases hv2 : lt dk[j1]! dk[a]! with
                          | false =>
                            have hl := HE.out.lessV dk j1 a j1 a false hv2 rfl rfl (by omega) (by omega) _ S3.i
                            have HD2 : Hid (scanDown (fun x => !lt x dk[a]!) dk i1 (j1 - 1) = scanDown (fun x => !lt x dk[a]!) dk i1 j) := (scanDown_go (fun x => !lt x dk[a]!) dk i1 j1 hle2 (by omega) (by simp [hv2])).symm.trans HD.out
                            go_wp2_with (go_at_fn g; refine hl.mono ?_; rintro e w4 ⟨rfl, hI4, hS4⟩; have S4 := S3.step HB.out hI4 hS4; clear hl)
                            go_roundw
                            case rel =>
                              first
                                | exact ⟨j1 - 1, by congr 1 <;> omega, by omega, by omega, S4, HD2⟩
                                | ((repeat apply Exists.intro); refine ⟨?_, rfl⟩; exact ⟨j1 - 1, by congr 1 <;> omega, by omega, by omega, S4, HD2⟩)
                                | ((repeat apply Exists.intro); exact ⟨⟨j1 - 1, by congr 1 <;> omega, by omega, by omega, S4, HD2⟩, by rw [DEC.out, show ((j1 - 1 : Nat) : Int) = (j1 : Int) - 1 by omega]⟩)
                            case measure => simp [intOf] <;> omega
                          | true =>
                            have hl := HE.out.lessV dk j1 a j1 a true hv2 rfl rfl (by omega) (by omega) _ S3.i
                            have HJ : Hid (j1 = scanDown (fun x => !lt x dk[a]!) dk i1 j) := (scanDown_end (fun x => !lt x dk[a]!) dk i1 j1 (Or.inr (by simp [hv2]))).symm.trans HD.out
                            have hlt3 := part_scans_lt lt a i j dk (by omega) HI.out HJ.out hle2
                            have hngt : ¬ (j1 : Int) < (i1 : Int) := by omega
                            go_wp2_with (go_at_fn g; refine hl.mono ?_; rintro e w4 ⟨rfl, hI4, hS4⟩; have S4 := S3.step HB.out hI4 hS4; have m0 := S4.c0; have m1 := S4.c1; obtain ⟨W5, hrun, hI5, hS5⟩ := HE.out.swapI dk w4 i1 j1 i1 j1 rfl rfl S4.i (by omega) (by omega); have S5 := S4.step HB.out hI5 hS5; clear hl)
                            have HN : Hid (partLoop lt a (i1 + 1) (j1 - 1) (swp dk i1 j1) = R) := by show _ = _; rw [← HK.out]; exact (part_go lt a i j dk HI.out HJ.out (by omega)).symm
                            go_roundw
                            case rel =>
                              first
                                | exact ⟨i1 + 1, j1 - 1, swp dk i1 j1, by go_num, by congr 1 <;> omega, by omega, by omega, by omega, S5, HN⟩
                                | ((repeat apply Exists.intro); refine ⟨?_, rfl⟩; exact ⟨i1 + 1, j1 - 1, swp dk i1 j1, by go_num, by congr 1 <;> omega, by omega, by omega, by omega, S5, HN⟩)
                                | ((repeat apply Exists.intro); exact ⟨⟨i1 + 1, j1 - 1, swp dk i1 j1, by go_num, by congr 1 <;> omega, by omega, by omega, by omega, S5, HN⟩, by rw [DEC.out, show ((i1 + 1 : Nat) : Int) = (i1 : Int) + 1 by omega, show ((j1 - 1 : Nat) : Int) = (j1 : Int) - 1 by omega]⟩)
                            case measure => simp [intOf] <;> omega
                        · have hle2z : ¬ (i1 : Int) ≤ (j1 : Int) := by omega
                          have HJ : Hid (j1 = scanDown (fun x => !lt x dk[a]!) dk i1 j) := (scanDown_end (fun x => !lt x dk[a]!) dk i1 j1 (Or.inl hle2)).symm.trans HD.out
                          have hgt : (j1 : Int) < (i1 : Int) := by omega
                          have HN : Hid (R = (j1, dk)) := by show _ = _; rw [← HK.out]; exact part_break lt a i j dk HI.out HJ.out (by omega)
                          have HX : Hid (partition lt d a b pivot = (j1, false, swp dk j1 a)) := by show _ = _; rw [HP.out, HN.out]
                          obtain ⟨W6, hrun6, hI6, hS6⟩ := HE.out.swapI dk _ j1 a j1 a rfl rfl S3.i (by omega) (by omega)
                          have S6 := S3.step HB.out hI6 hS6
                          go_wp2
                          go_ret2
                          exact ⟨by rw [HX.out]; rfl, by rw [HX.out]; exact S6.i, S6.st⟩
                  · have hlez : ¬ (i1 : Int) ≤ (j : Int) := by omega
                    have HI : Hid (i1 = scanUp (fun x => lt x dk[a]!) dk j i) := (scanUp_end (fun x => lt x dk[a]!) dk j i1 (Or.inl hle)).symm.trans HU.out
                    clear c0 c1
                    go_wp2
                    go_loopw [11] (fun vj w2 => ∃ j1 : Nat, vj = .int .i64 j1 ∧ j1 ≤ j ∧ i1 ≤ j1 + 1 ∧ SSt blk I w w.heap.size g lb sf sb dk w2 ∧ Hid (scanDown (fun x => !lt x dk[a]!) dk i1 j1 = scanDown (fun x => !lt x dk[a]!) dk i1 j)) (fun vj _ => (intOf vj).toNat)
                    case atStart => exact ⟨j, by first | rfl | go_num | (congr 1; omega), Nat.le_refl _, h2, S1, rfl⟩
                    case round =>
                      obtain ⟨j1, rfl, g1, g2, S3, HD⟩ := hrel
                      have k0 := S3.c0
                      have k1 := S3.c1
                      by_cases hle2 : i1 ≤ j1
                      · exfalso; omega
                      · have hle2z : ¬ (i1 : Int) ≤ (j1 : Int) := by omega
                        have HJ : Hid (j1 = scanDown (fun x => !lt x dk[a]!) dk i1 j) := (scanDown_end (fun x => !lt x dk[a]!) dk i1 j1 (Or.inl hle2)).symm.trans HD.out
                        have hgt : (j1 : Int) < (i1 : Int) := by omega
                        have HN : Hid (R = (j1, dk)) := by show _ = _; rw [← HK.out]; exact part_break lt a i j dk HI.out HJ.out (by omega)
                        have HX : Hid (partition lt d a b pivot = (j1, false, swp dk j1 a)) := by show _ = _; rw [HP.out, HN.out]
                        obtain ⟨W6, hrun6, hI6, hS6⟩ := HE.out.swapI dk _ j1 a j1 a rfl rfl S3.i (by omega) (by omega)
                        have S6 := S3.step HB.out hI6 hS6
                        go_wp2
                        go_ret2
                        exact ⟨by rw [HX.out]; rfl, by rw [HX.out]; exact S6.i, S6.st⟩
          · have hle2z : ¬ (i1 : Int) ≤ (j1 : Int) := by omega
            have HJ : Hid (j1 = scanDown (fun x => !lt x dk[a]!) dk i1 j) := (scanDown_end (fun x => !lt x dk[a]!) dk i1 j1 (Or.inl hle2)).symm.trans HD.out
            have hgt : (j1 : Int) < (i1 : Int) := by omega
            have HX : Hid (partition lt d a b pivot = (j1, true, swp dk j1 a)) := part_first_break lt d a b pivot Hi.out Hj.out Hdk.out HI.out HJ.out (by omega)
            obtain ⟨W6, hrun6, hI6, hS6⟩ := HE.out.swapI dk _ j1 a j1 a rfl rfl S3.i (by omega) (by omega)
            have S6 := S3.step HB.out hI6 hS6
            go_wp2
            go_ret2
            exact ⟨by rw [HX.out]; rfl, by rw [HX.out]; exact S6.i, S6.st⟩
    · have hlez : ¬ (i1 : Int) ≤ (j : Int) := by omega
      have HI : Hid (i1 = scanUp (fun x => lt x dk[a]!) dk j i) := (scanUp_end (fun x => lt x dk[a]!) dk j i1 (Or.inl hle)).symm.trans HU.out
      clear c0 c1
      go_wp2
      go_loopw [11] (fun vj w2 => ∃ j1 : Nat, vj = .int .i64 j1 ∧ j1 ≤ j ∧ i1 ≤ j1 + 1 ∧ SSt blk I w w.heap.size g lb sf sb dk w2 ∧ Hid (scanDown (fun x => !lt x dk[a]!) dk i1 j1 = scanDown (fun x => !lt x dk[a]!) dk i1 j)) (fun vj _ => (intOf vj).toNat)
      case atStart => exact ⟨j, by first | rfl | go_num | (congr 1; omega), Nat.le_refl _, h2, S1, rfl⟩
      case round =>
        obtain ⟨j1, rfl, g1, g2, S3, HD⟩ := hrel
        have k0 := S3.c0
        have k1 := S3.c1
        by_cases hle2 : i1 ≤ j1
        · exfalso; omega
        · have hle2z : ¬ (i1 : Int) ≤ (j1 : Int) := by omega
          have HJ : Hid (j1 = scanDown (fun x => !lt x dk[a]!) dk i1 j) := (scanDown_end (fun x => !lt x dk[a]!) dk i1 j1 (Or.inl hle2)).symm.trans HD.out
          have hgt : (j1 : Int) < (i1 : Int) := by omega
          have HX : Hid (partition lt d a b pivot = (j1, true, swp dk j1 a)) := part_first_break lt d a b pivot Hi.out Hj.out Hdk.out HI.out HJ.out (by omega)
          obtain ⟨W6, hrun6, hI6, hS6⟩ := HE.out.swapI dk _ j1 a j1 a rfl rfl S3.i (by omega) (by omega)
          have S6 := S3.step HB.out hI6 hS6
          go_wp2
          go_ret2
          exact ⟨by rw [HX.out]; rfl, by rw [HX.out]; exact S6.i, S6.st⟩
end Go.Proofs.YtollijngiioonaaGreat

