/- What the proof of FnBasis stands on, part 4 of 10: each piece says what it proves and under which conditions. Conditions: as each piece says. -/
import Derived.Test.YthbilahilmmfmaaPackBasis3
import Derived.Test.YthbilahilmmfmaaProg
import Derived.BigQuiet
import Derived.Deep.QuietTactic
import Derived.OpenShut
import Derived.ProofKit
import Derived.WalkKit
import Derived.WalkSmall
import Derived.BigRegion
import Derived.Deep.RegionWith
import Derived.Laws.Externs
import Derived.Shelf.Small.Bits
import Derived.Shelf.Small.Wraps
import Derived.Shelf.Strconv.Itoa0
import Derived.Ground.GgsProg
import Derived.Shelf.GgSortFunc.Tiny
import Derived.Shelf.Bits.Mul64
import Derived.Shelf.Slices.Equal
import Derived.Shelf.SlSortFunc.Xorshift
import Derived.Lib.AppendZerosOnto
import Derived.Shelf.RegionOpenPlain
import Derived.Lib.Walk
import Derived.Lib.SliceRun
import Derived.Laws.StructEq
import Derived.Deep.Slices
/- Whether one list of numbers lies beneath another one: the program's way, and slices.Equal at numbers. Conditions: at most 1048577 numbers. -/
namespace Go.Proofs.Ythbilahilmmfmaa
set_option maxRecDepth 100000
open Go.RowKit

set_option maxHeartbeats 800000 in
theorem slicesEqual_any (a a' : Option Addr) (zs ys : List Int) (n cap n' cap' : Nat) (w : World) (hn : n = zs.length) (hn' : n' = ys.length) (hr : Rd w a zs) (hr' : Rd w a' ys) (hl : zs.length ≤ 1048577) (hl' : ys.length ≤ 1048577) :
    Calls Try.prog 50 #[.slice a n cap, .slice a' n' cap'] w fun e w' => e = .returned (.bool (eqB zs ys)) ∧ ∃ q, w' = w.drewN q := by
  subst hn hn'
  by_cases hne : zs.length = ys.length
  · have HN : Hid (zs.length = ys.length) := hne
    have ht : ((zs.length : Int) != (ys.length : Int)) = false := by simp [hne]
    clear hne
    go_enter Try.func50, Try.ntmps50
    go_wp2
    go_loopw [13] (fun i wr => ∃ k q : Nat, k ≤ zs.length ∧ i = .int .i64 k ∧ wr = w.drewN q ∧ zs.take k = ys.take k) (fun i _ => zs.length - (intOf i).toNat)
    case atStart => exact ⟨0, 0, Nat.zero_le _, rfl, rfl, by simp⟩
    case round =>
      obtain ⟨k, q, hk, rfl, rfl, h0⟩ := hrel
      have H0 : Hid (zs.take k = ys.take k) := h0
      clear h0
      by_cases hk' : k < zs.length
      · have hky : k < ys.length := by have := HN.out; omega
        rcases hr with h | ⟨b, off, rfl, hlt, hc⟩
        · subst h; simp at hk'
        rcases hr' with h | ⟨b', off', rfl, hlt', hc'⟩
        · subst h; simp at hky
        have hck := hc k hk'
        have hck' := hc' k hky
        have hi1 : (k : Int) < (zs.length : Int) := by omega
        have hi2 : (k : Int) < (ys.length : Int) := by omega
        clear hc hc' ht
        go_wp2
        go_quiet (fail)
        go_wp2
        · go_ret
          exact ⟨rtB (eqB_hit hk' hky (by assumption)).symm, _, World.drewN_drewN _ _ _⟩
        · go_roundw
          case rel => exact ⟨k + 1, _, by omega, by go_num, rfl, eqB_step hk' hky H0.out (by assumption)⟩
          case measure => simp [intOf]; omega
      · go_wp2
        go_ret
        exact ⟨rtB (eqB_all hk' HN.out H0.out).symm, _, rfl⟩
  · have ht : ((zs.length : Int) != (ys.length : Int)) = true := by simp; omega
    have H0 : Hid (¬ zs.length = ys.length) := hne
    clear hne
    go_enter Try.func50, Try.ntmps50
    go_wp2
    go_ret
    exact ⟨rtB (eqB_len H0.out).symm, 0, rfl⟩

set_option maxHeartbeats 800000 in
theorem impLeast_any (a a' : Option Addr) (zs ys : List Int) (n cap n' cap' : Nat) (w : World) (hn : n = zs.length) (hn' : n' = ys.length) (hr : Rd w a zs) (hr' : Rd w a' ys) (hl : zs.length ≤ 1048577) (hl' : ys.length ≤ 1048577) :
    Calls Try.prog 16 #[.slice a n cap, .slice a' n' cap'] w fun e w' => e = .returned (.bool (leastB zs ys)) ∧ ∃ q, w' = w.drewN q := by
  subst hn hn'
  by_cases hne : zs.length = ys.length
  · have HN : Hid (zs.length = ys.length) := hne
    have ht : ((zs.length : Int) != (ys.length : Int)) = false := by simp [hne]
    have C := fun (q : Nat) => slicesEqual_any a a' zs ys _ cap _ cap' (w.drewN q) rfl rfl (hr.drewN q) (hr'.drewN q) hl hl'
    clear hne
    go_enter Try.func16, Try.ntmps16
    go_wp2_with fail
    go_loopw [13] (fun i wr => ∃ k q : Nat, k ≤ zs.length ∧ i = .int .i64 k ∧ wr = w.drewN q ∧ Hid (abvB (zs.take k) (ys.take k) = false)) (fun i _ => zs.length - (intOf i).toNat)
    case atStart => exact ⟨0, 0, Nat.zero_le _, rfl, rfl, rfl⟩
    case round =>
      obtain ⟨k, q, hk, rfl, rfl, H0⟩ := hrel
      by_cases hk' : k < zs.length
      · have hky : k < ys.length := by have := HN.out; omega
        rcases hr with h | ⟨b, off, rfl, hlt, hc⟩
        · subst h; simp at hk'
        rcases hr' with h | ⟨b', off', rfl, hlt', hc'⟩
        · subst h; simp at hky
        have c1 : w.cell? ⟨b, off + k, none⟩ = some (.int .i64 zs[k]) := by rw [hc k hk']; simp [hk']
        have c2 : w.cell? ⟨b', off' + k, none⟩ = some (.int .i64 ys[k]) := by rw [hc' k hky]; simp [hky]
        have hi1 : (k : Int) < (zs.length : Int) := by omega
        have hi2 : (k : Int) < (ys.length : Int) := by omega
        have HS : Hid (decide (ys[k] < zs[k]) = false → abvB (zs.take (k + 1)) (ys.take (k + 1)) = false) := abv_step hk' hky H0.out
        have HT : Hid (decide (ys[k] < zs[k]) = true → abvB zs ys = true) := abv_hit hk' hky
        clear hc hc' ht C
        generalize zs[k] = x at c1 HS HT
        generalize ys[k] = y at c2 HS HT
        by_cases hxy : y < x
        · have e := HT.out (by simpa using hxy)
          clear HS HT
          go_wp2_with fail
          go_quiet (fail)
          go_wp2_with fail
          go_ret
          exact ⟨rtB (least_abv e).symm, _, World.drewN_drewN _ _ _⟩
        · have e : Hid _ := HS.out (by simpa using hxy)
          clear HS HT H0
          go_wp2_with fail
          go_quiet (fail)
          go_wp2_with fail
          go_roundw
          case rel => exact ⟨k + 1, _, by omega, by go_num, rfl, e⟩
          case measure => simp [intOf]; omega
      · have hki : ¬ (k : Int) < (zs.length : Int) := by omega
        have e2 := abv_all (xs := zs) (ys := ys) (k := k) (by omega)
        have HE : Hid (leastB zs ys = !(eqB zs ys)) := least_same HN.out (e2.symm.trans H0.out)
        have C1 := C q
        clear e2 H0 hr hr' C ht
        generalize eqB zs ys = bl at HE C1
        go_wp2_with (go_at_call 50; refine C1.mono ?_; rintro e w2 ⟨rfl, q2, rfl⟩; clear C1)
        go_ret
        exact ⟨rtB HE.out.symm, _, rfl⟩
  · have ht : ((zs.length : Int) != (ys.length : Int)) = true := by simp; omega
    have H0 : Hid (¬ zs.length = ys.length) := hne
    clear hne
    go_enter Try.func16, Try.ntmps16
    go_wp2_with fail
    go_ret
    exact ⟨rtB (least_len H0.out).symm, 0, rfl⟩
end Go.Proofs.Ythbilahilmmfmaa

/- Whether numbers are few and small, whether a list lies beneath, and the greatest number: the program's way. Conditions: at most 1048577 numbers, of lists 126. -/
namespace Go.Proofs.Ythbilahilmmfmaa
set_option maxRecDepth 100000
open Go.RowKit

set_option maxHeartbeats 800000 in
theorem basisOk_any (a0 : Option Addr) (a : List Int) (c0 : Nat) (w : World) (hr : Rd w a0 a) (hl : a.length ≤ 1048577) :
    Calls Try.prog 40 #[.slice a0 a.length c0] w fun e w' => e = .returned (.bool (fineB a)) ∧ w' = w := by
  have HR : Hid (Rd w a0 a) := hr
  clear hr
  by_cases hlo : a.length < 1
  · have hi : (a.length : Int) < 1 := by omega
    have HE : Hid (fineB a = false) := by
      show _ = _
      have : decide (1 ≤ a.length) = false := by simpa using hlo
      simp only [fineB, this, Bool.false_and, Bool.and_false]
    go_enter Try.func40, Try.ntmps40
    go_wp2_with fail
    go_ret
    exact ⟨rtB HE.out.symm, rfl⟩
  · have hi : ¬ (a.length : Int) < 1 := by omega
    by_cases hhi : 5 < a.length
    · have hj : (5 : Int) < (a.length : Int) := by omega
      have HE : Hid (fineB a = false) := by
        show _ = _
        have : decide (a.length ≤ 5) = false := by simp; omega
        simp only [fineB, this, Bool.and_false]
      go_enter Try.func40, Try.ntmps40
      go_wp2_with fail
      go_ret
      exact ⟨rtB HE.out.symm, rfl⟩
    · have hj : ¬ (5 : Int) < (a.length : Int) := by omega
      have HL : Hid ((decide (1 ≤ a.length) && decide (a.length ≤ 5)) = true) := by
        show _ = _
        simp only [Bool.and_eq_true, decide_eq_true_eq]; omega
      go_enter Try.func40, Try.ntmps40
      go_wp2_with fail
      go_loop [15] (fun i => ∃ k : Nat, k ≤ a.length ∧ i = .int .i64 k ∧ Hid ((a.take k).all (fun v => decide (1 ≤ v) && decide (v ≤ 4)) = true)) (fun i => a.length - (intOf i).toNat)
      case atStart => exact ⟨0, Nat.zero_le _, rfl, rfl⟩
      case round =>
        obtain ⟨k, hk, rfl, HA⟩ := hrel
        by_cases hk' : k < a.length
        · obtain ⟨b, off, rfl, _, c2⟩ := Rd.get HR.out hk'
          have hki : (k : Int) < (a.length : Int) := by omega
          have hki0 : (0 : Int) ≤ (k : Int) := by omega
          have HE : Hid ((a.take (k + 1)).all (fun v => decide (1 ≤ v) && decide (v ≤ 4)) = (decide (1 ≤ a[k]) && decide (a[k] ≤ 4))) := by show _ = _; rw [take_snoc hk', List.all_append, HA.out]; simp
          have HF : Hid ((decide (1 ≤ a[k]) && decide (a[k] ≤ 4)) = false → fineB a = false) := fun h => by
            have : a.all (fun v => decide (1 ≤ v) && decide (v ≤ 4)) = false := List.all_eq_false.2 ⟨a[k], List.getElem_mem hk', by rw [h]; simp⟩
            simp [fineB, this]
          generalize a[k] = p at c2 HE HF
          by_cases h1 : p < 1
          · have e : Hid (fineB a = false) := HF.out (by simp; omega)
            clear HF HE
            go_wp2_with fail
            go_ret
            exact ⟨rtB e.out.symm, rfl⟩
          · by_cases h2 : 4 < p
            · have e : Hid (fineB a = false) := HF.out (by simp; omega)
              clear HF HE
              go_wp2_with fail
              go_ret
              exact ⟨rtB e.out.symm, rfl⟩
            · have e : Hid ((a.take (k + 1)).all (fun v => decide (1 ≤ v) && decide (v ≤ 4)) = true) := HE.out.trans (by simp; omega)
              clear HF HE
              go_wp2_with fail
              go_round
              case rel => exact ⟨k + 1, by omega, by go_num, e⟩
              case measure => simp [intOf]; omega
        · have hki : ¬ (k : Int) < (a.length : Int) := by omega
          have e : a.take k = a := List.take_of_length_le (by omega)
          have HE : Hid (fineB a = true) := by
            have h := HA.out
            rw [e] at h
            show _ = _
            simp only [fineB, h, HL.out, Bool.and_true]
          clear HA
          go_wp2_with fail
          go_ret
          exact ⟨rtB HE.out.symm, rfl⟩

/-- Whether one of the rows lies beneath. -/
def benB (rows : List (List Int)) (x : List Int) : Bool := rows.any (fun y => leastB y x)
set_option maxHeartbeats 800000 in
theorem liesBeneath_any (a0 a1 : Option Addr) (rows : List (List Int)) (x : List Int) (c0 c1 : Nat) (w : World) (hr : RdQ w a0 rows) (hr' : Rd w a1 x) (hl : rows.length ≤ 1048577) (hl2 : ∀ r ∈ rows, r.length ≤ 1048577) (hl' : x.length ≤ 1048577) :
    Calls Try.prog 42 #[.slice a0 rows.length c0, .slice a1 x.length c1] w fun e w' => e = .returned (.bool (benB rows x)) ∧ ∃ q, w' = w.drewN q := by
  have HR : Hid (RdQ w a0 rows) := hr
  have HR' : Hid (Rd w a1 x) := hr'
  clear hr hr'
  go_enter Try.func42, Try.ntmps42
  go_wp2_with fail
  go_loopw [9] (fun i wr => ∃ k q : Nat, k ≤ rows.length ∧ i = .int .i64 k ∧ wr = w.drewN q ∧ Hid (benB (rows.take k) x = false)) (fun i _ => rows.length - (intOf i).toNat)
  case atStart => exact ⟨0, 0, Nat.zero_le _, rfl, rfl, rfl⟩
  case round =>
    obtain ⟨k, q, hk, rfl, rfl, H0⟩ := hrel
    by_cases hk' : k < rows.length
    · obtain ⟨b, off, ai, ci, rfl, c2, hrk⟩ := RdQ.get HR.out hk'
      have hki : (k : Int) < (rows.length : Int) := by omega
      have hki0 : (0 : Int) ≤ (k : Int) := by omega
      have C := impLeast_any ai a1 rows[k] x _ ci _ c1 (w.drewN q) rfl rfl (hrk.drewN q) (HR'.out.drewN q) (hl2 _ (List.getElem_mem _)) hl'
      have HE : Hid (benB (rows.take (k + 1)) x = leastB rows[k] x) := by show _ = _; unfold benB at *; rw [take_snocQ hk', List.any_append, H0.out]; simp
      have HF : Hid (leastB rows[k] x = true → benB rows x = true) := fun h => List.any_eq_true.2 ⟨rows[k], List.getElem_mem hk', h⟩
      generalize leastB rows[k] x = bb at C HE HF
      clear hrk
      generalize rows[k] = row at C c2
      cases bb
      · go_wp2_with (go_at_call 16; refine C.mono ?_; rintro e w2 ⟨rfl, q2, hw⟩; subst w2; clear C)
        go_roundw
        case rel => exact ⟨k + 1, _, by omega, by go_num, rfl, HE.out⟩
        case measure => simp [intOf]; omega
      · go_wp2_with (go_at_call 16; refine C.mono ?_; rintro e w2 ⟨rfl, q2, hw⟩; subst w2; clear C)
        go_ret
        exact ⟨rtB (HF.out trivial).symm, _, rfl⟩
    · have hki : ¬ (k : Int) < (rows.length : Int) := by omega
      have e : rows.take k = rows := List.take_of_length_le (by omega)
      have HE : Hid (benB rows x = false) := by have h := H0.out; rw [e] at h; exact h
      clear H0
      go_wp2_with fail
      go_ret
      exact ⟨rtB HE.out.symm, _, rfl⟩

theorem topL_one : ∀ (l : List Int) (h : 0 < l.length), 0 ≤ l[0] → topL (l.take 1) = l[0]
  | y :: ys, _, h0 => by
    simp only [List.getElem_cons_zero] at h0
    simp only [topL, List.take_succ_cons, List.take_zero, List.foldl_cons, List.foldl_nil, List.getElem_cons_zero]
    omega
set_option maxHeartbeats 800000 in
theorem max_rows (a0 : Option Addr) (a : List Int) (c0 : Nat) (w : World) (hr : Rd w a0 a) (hl : a.length ≤ 1048577) (h1 : 1 ≤ a.length) (hp : ∀ v ∈ a, 0 ≤ v) :
    Calls Try.prog 70 #[.slice a0 a.length c0] w fun e w' => e = .returned (.int .i64 (topL a)) ∧ w' = w := by
  have HR : Hid (Rd w a0 a) := hr
  clear hr
  obtain ⟨b, off, rfl, _, c00⟩ := Rd.get HR.out (i := 0) (by omega)
  have hi : ¬ (a.length : Int) < 1 := by omega
  have hi0 : (0 : Int) < (a.length : Int) := by omega
  have HT : Hid (topL (a.take 1) = a[0]) := by
    show _ = _
    exact topL_one a h1 (hp _ (List.getElem_mem _))
  rw [Nat.add_zero] at c00
  generalize a[0] = p0 at c00 HT
  go_enter Try.func70, Try.ntmps70
  go_wp2_with fail
  go_loop [3, 4] (fun t i => ∃ k : Nat, 1 ≤ k ∧ k ≤ a.length ∧ i = .int .i64 k ∧ t = .int .i64 (topL (a.take k))) (fun _ i => a.length - (intOf i).toNat)
  case atStart => exact ⟨1, Nat.le_refl _, h1, rfl, by rw [HT.out]⟩
  case round =>
    obtain ⟨k, hk1, hk, rfl, rfl⟩ := hrel
    by_cases hk' : k < a.length
    · obtain ⟨b', off', e', _, c2⟩ := Rd.get HR.out hk'
      cases e'
      have hki : (k : Int) < (a.length : Int) := by omega
      have hki0 : (0 : Int) ≤ (k : Int) := by omega
      have HE : Hid (topL (a.take (k + 1)) = max (topL (a.take k)) a[k]) := by show _ = _; unfold topL; rw [take_snoc hk', List.foldl_append]; rfl
      generalize a[k] = p at c2 HE
      obtain ⟨d, hd⟩ : ∃ d, d = topL (a.take k) := ⟨_, rfl⟩
      rw [← hd] at HE ⊢
      clear hd
      clear HT c00
      by_cases hm : d < p
      · have e : max d p = p := by omega
        rw [e] at HE
        clear e
        go_wp2_with fail
        go_round
        case rel => exact ⟨k + 1, by omega, by omega, by go_num, by first | (rw [HE.out]; done) | (rw [HE.out]; simp; omega)⟩
        case measure => simp [intOf]; omega
      · have e : max d p = d := by omega
        rw [e] at HE
        clear e
        go_wp2_with fail
        go_round
        case rel => exact ⟨k + 1, by omega, by omega, by go_num, by first | (rw [HE.out]; done) | (rw [HE.out]; simp; omega)⟩
        case measure => simp [intOf]; omega
    · have hki : ¬ (k : Int) < (a.length : Int) := by omega
      have e : a.take k = a := List.take_of_length_le (by omega)
      rw [e]
      clear HT
      go_wp2_with fail
      go_ret
      exact ⟨rfl, rfl⟩
end Go.Proofs.Ythbilahilmmfmaa

/- All ways that solve, in order, as plain mathematics: the program's list of them is the specification's; which of them are least. Conditions: numbers from 1 to 4. -/
namespace Go.Proofs.Ythbilahilmmfmaa
set_option maxRecDepth 100000
open Go.RowKit

def zB (l : List Int) : Bool := l.all (fun v => v == 0)
/-- Both sums are one, and not all is 0. -/
def okB (a b x y : List Int) : Bool := decide (dotL b y = dotL a x) && !(zB x && zB y)
def solY (a b x : List Int) (ys : List (List Int)) : List (List Int) := (ys.filter (okB a b x)).map (fun y => x ++ y)
def solX (a b : List Int) (xs : List (List Int)) : List (List Int) := xs.flatMap (fun x => solY a b x (waysL b.length (topL a).toNat))
def solL (a b : List Int) : List (List Int) := solX a b (waysL a.length (topL b).toNat)
theorem solY_snoc (a b x : List Int) (ys : List (List Int)) (y : List Int) : solY a b x (ys ++ [y]) = solY a b x ys ++ (if okB a b x y then [x ++ y] else []) := by
  unfold solY
  rw [List.filter_append, List.map_append]
  congr 1
  cases h : okB a b x y <;> simp [h]
theorem solX_snoc (a b : List Int) (xs : List (List Int)) (x : List Int) : solX a b (xs ++ [x]) = solX a b xs ++ solY a b x (waysL b.length (topL a).toNat) := by
  unfold solX
  rw [List.flatMap_append]
  simp
theorem lexB_left : ∀ (xs ys zs vs : List Int), lexB xs ys → xs.length = ys.length → lexB (xs ++ zs) (ys ++ vs) := lexB_app
theorem solL_lex (a b : List Int) : (solL a b).Pairwise lexB := by
  unfold solL solX
  rw [List.pairwise_flatMap]
  refine ⟨fun x _ => ?_, ?_⟩
  · unfold solY
    rw [List.pairwise_map]
    exact ((waysL_lex _ _).filter _).imp (fun h => lexB_same _ _ _ h)
  · refine List.Pairwise.imp_of_mem ?_ (waysL_lex _ _)
    intro x x' hx hx' h u hu v hv
    unfold solY at hu hv
    simp only [List.mem_map] at hu hv
    obtain ⟨y, _, rfl⟩ := hu
    obtain ⟨y', _, rfl⟩ := hv
    exact lexB_app _ _ _ _ h (by rw [waysL_len _ _ x hx, waysL_len _ _ x' hx'])
theorem sol_mem {a b : List Int} {u : List Int} (h : u ∈ solL a b) : ∃ x y, u = x ++ y ∧ x ∈ waysL a.length (topL b).toNat ∧ y ∈ waysL b.length (topL a).toNat ∧ okB a b x y = true := by
  unfold solL solX solY at h
  simp only [List.mem_flatMap, List.mem_map, List.mem_filter] at h
  obtain ⟨x, hx, y, ⟨hy, ho⟩, rfl⟩ := h
  exact ⟨x, y, rfl, hx, hy, ho⟩
theorem solL_nonneg (a b : List Int) : ∀ x ∈ solL a b, ∀ v ∈ x, 0 ≤ v := by
  intro u hu v hv
  obtain ⟨x, y, rfl, hx, hy, _⟩ := sol_mem hu
  rcases List.mem_append.1 hv with h | h
  · exact (waysL_nonneg _ _ x hx).1 v h
  · exact (waysL_nonneg _ _ y hy).1 v h
theorem solL_len (a b : List Int) : ∀ x ∈ solL a b, x.length = a.length + b.length := by
  intro u hu
  obtain ⟨x, y, rfl, hx, hy, _⟩ := sol_mem hu
  rw [List.length_append, waysL_len _ _ x hx, waysL_len _ _ y hy]
/-- The basis: what is least among what solves. -/
def basL (a b : List Int) : List (List Int) := (solL a b).filter (minB (solL a b))
theorem basL_fold (a b : List Int) : (solL a b).foldl keepStep [] = basL a b := keep_all (solL_lex a b) (solL_nonneg a b)

/-- Sums of products of numbers that are not 0 with counts. -/
theorem dot_cons (p : Int) (a : List Int) (q : Int) (x : List Int) : dotL (p :: a) (q :: x) = p * q + dotL a x := by simp [dotL]
theorem dot_pos : ∀ (a x : List Int), a.length = x.length → (∀ v ∈ a, 1 ≤ v) → (∀ v ∈ x, 0 ≤ v) → 0 ≤ dotL a x ∧ (dotL a x = 0 ↔ zB x = true)
  | [], [], _, _, _ => by simp [dotL, zB]
  | p :: a, q :: x, hl, ha, hx => by
    obtain ⟨h1, h2⟩ := dot_pos a x (by simpa using hl) (fun v hv => ha v (by simp [hv])) (fun v hv => hx v (by simp [hv]))
    have hp := ha p (by simp)
    have hq := hx q (by simp)
    have hpq : 0 ≤ p * q := Int.mul_nonneg (by omega) hq
    have hz : p * q = 0 ↔ q = 0 := by
      constructor
      · intro h; rcases Int.mul_eq_zero.1 h with h | h <;> omega
      · intro h; rw [h]; simp
    rw [dot_cons]
    refine ⟨by omega, ?_⟩
    have hzb : zB (q :: x) = true ↔ q = 0 ∧ zB x = true := by simp [zB]
    rw [hzb]
    constructor
    · intro h
      exact ⟨hz.1 (by omega), h2.1 (by omega)⟩
    · intro h
      have := hz.2 h.1
      have := h2.2 h.2
      omega
theorem zB_zeros : ∀ (n : Nat), zB (zerosL n) = true := zeros_all
theorem zB_eq : ∀ {x : List Int} {n : Nat}, x.length = n → zB x = true → x = zerosL n
  | [], n, hl, _ => by subst hl; rfl
  | q :: x, n, hl, h => by
    subst hl
    have hzb : q = 0 ∧ zB x = true := by simpa [zB] using h
    have := zB_eq (x := x) rfl hzb.2
    rw [hzb.1, this]
    simp [zerosL, List.replicate_succ]
/-- As the specification goes over them: neither side is all 0. -/
def specY (a b x : List Int) (ys : List (List Int)) : List (List Int) := (ys.filter (fun y => decide (dotL b y = dotL a x))).map (fun y => x ++ y)
theorem flatMap_same {f g : List Int → List (List Int)} : ∀ (l : List (List Int)), (∀ x ∈ l, f x = g x) → l.flatMap f = l.flatMap g
  | [], _ => rfl
  | x :: l, h => by
    rw [List.flatMap_cons, List.flatMap_cons, h x (by simp), flatMap_same l (fun y hy => h y (by simp [hy]))]
theorem sol_spec {a b : List Int} (ha : ∀ v ∈ a, 1 ≤ v) (hb : ∀ v ∈ b, 1 ≤ v) {n m : Nat} (hn : a.length = n + 1) (hm : b.length = m + 1) :
    solL a b = (waysL a.length (topL b).toNat).tail.flatMap (fun x => specY a b x (waysL b.length (topL a).toNat).tail) := by
  unfold solL solX
  rw [hn, hm]
  obtain ⟨xs, hxs⟩ : ∃ xs, waysL (n + 1) (topL b).toNat = zerosL (n + 1) :: xs := by
    have := (ways_link n (topL b).toNat).2.1
    match hw : waysL (n + 1) (topL b).toNat, this with
    | x :: r, h => exact ⟨r, by simp at h; rw [h]⟩
  obtain ⟨ys, hys⟩ : ∃ ys, waysL (m + 1) (topL a).toNat = zerosL (m + 1) :: ys := by
    have := (ways_link m (topL a).toNat).2.1
    match hw : waysL (m + 1) (topL a).toNat, this with
    | x :: r, h => exact ⟨r, by simp at h; rw [h]⟩
  have hx0 : ∀ x ∈ xs, zB x = false ∧ x.length = n + 1 ∧ ∀ v ∈ x, 0 ≤ v := by
    intro x hx
    have hmem : x ∈ waysL (n + 1) (topL b).toNat := by rw [hxs]; simp [hx]
    refine ⟨?_, waysL_len _ _ x hmem, (waysL_nonneg _ _ x hmem).1⟩
    cases hz : zB x with
    | false => rfl
    | true =>
      have e := zB_eq (waysL_len _ _ x hmem) hz
      have hp := waysL_lex (n + 1) (topL b).toNat
      rw [hxs] at hp
      have := (List.pairwise_cons.1 hp).1 x hx
      rw [e] at this
      exact absurd this (lexB_irrefl _)
  have hy0 : ∀ y ∈ ys, zB y = false ∧ y.length = m + 1 ∧ ∀ v ∈ y, 0 ≤ v := by
    intro y hy
    have hmem : y ∈ waysL (m + 1) (topL a).toNat := by rw [hys]; simp [hy]
    refine ⟨?_, waysL_len _ _ y hmem, (waysL_nonneg _ _ y hmem).1⟩
    cases hz : zB y with
    | false => rfl
    | true =>
      have e := zB_eq (waysL_len _ _ y hmem) hz
      have hp := waysL_lex (m + 1) (topL a).toNat
      rw [hys] at hp
      have := (List.pairwise_cons.1 hp).1 y hy
      rw [e] at this
      exact absurd this (lexB_irrefl _)
  have d0 : dotL a (zerosL (n + 1)) = 0 := ((dot_pos a (zerosL (n + 1)) (by simp [zerosL, hn]) ha (fun v hv => by simp [zerosL] at hv; omega)).2).2 (zB_zeros _)
  have e0 : dotL b (zerosL (m + 1)) = 0 := ((dot_pos b (zerosL (m + 1)) (by simp [zerosL, hm]) hb (fun v hv => by simp [zerosL] at hv; omega)).2).2 (zB_zeros _)
  have dx : ∀ x ∈ xs, 0 < dotL a x := fun x hx => by
    obtain ⟨h1, h2, h3⟩ := hx0 x hx
    have := dot_pos a x (by omega) ha h3
    have hne : dotL a x ≠ 0 := fun e => by rw [this.2.1 e] at h1; cases h1
    omega
  have dy : ∀ y ∈ ys, 0 < dotL b y := fun y hy => by
    obtain ⟨h1, h2, h3⟩ := hy0 y hy
    have := dot_pos b y (by omega) hb h3
    have hne : dotL b y ≠ 0 := fun e => by rw [this.2.1 e] at h1; cases h1
    omega
  rw [hxs, hys]
  simp only [List.flatMap_cons, List.tail_cons]
  have h0 : solY a b (zerosL (n + 1)) (zerosL (m + 1) :: ys) = [] := by
    unfold solY
    have : (zerosL (m + 1) :: ys).filter (okB a b (zerosL (n + 1))) = [] := by
      rw [List.filter_eq_nil_iff]
      intro y hy
      rcases List.mem_cons.1 hy with rfl | hy
      · simp [okB, zB_zeros]
      · have := dy y hy
        simp only [okB, d0, Bool.and_eq_true, decide_eq_true_eq]
        omega
    rw [this]; rfl
  rw [h0, List.nil_append]
  refine flatMap_same _ (fun x hx => ?_)
  unfold solY specY
  have hzx := (hx0 x hx).1
  have : (zerosL (m + 1) :: ys).filter (okB a b x) = ys.filter (fun y => decide (dotL b y = dotL a x)) := by
    rw [List.filter_cons]
    have hd := dx x hx
    have h1 : okB a b x (zerosL (m + 1)) = false := by
      simp only [okB, e0, hzx, Bool.false_and, Bool.not_false, Bool.and_true, decide_eq_false_iff_not]
      omega
    rw [h1]
    simp only [Bool.false_eq_true, if_false]
    apply List.filter_congr
    intro y hy
    simp [okB, hzx]
  rw [this]
end Go.Proofs.Ythbilahilmmfmaa

/- Whole numbers of 192 bits, as the program keeps them: three numbers of 64 bits, the lowest first; their sum. Conditions: none. -/
namespace Go.Proofs.Ythbilahilmmfmaa
set_option maxRecDepth 100000
open Go.RowKit

/-- The three parts of a number. -/
def limb (z : Int) : Nat → Int
  | 0 => z % 18446744073709551616
  | 1 => (z / 18446744073709551616) % 18446744073709551616
  | _ => (z / 18446744073709551616 / 18446744073709551616) % 18446744073709551616
def wideV (z : Int) : Value := .agg #[.int .u64 (limb z 0), .int .u64 (limb z 1), .int .u64 (limb z 2)]
theorem limb_range (z : Int) (k : Nat) : 0 ≤ limb z k ∧ limb z k < 18446744073709551616 := by
  match k with
  | 0 => simp only [limb]; omega
  | 1 => simp only [limb]; omega
  | k + 2 => simp only [limb]; omega
/-- What is carried to part k. -/
def carr (a b : Int) : Nat → Int
  | 0 => 0
  | k + 1 => (limb a k + limb b k + carr a b k) / 18446744073709551616
theorem carr_range (a b : Int) : ∀ k, 0 ≤ carr a b k ∧ carr a b k ≤ 1
  | 0 => by simp [carr]
  | k + 1 => by
    have h1 := limb_range a k
    have h2 := limb_range b k
    have h3 := carr_range a b k
    simp only [carr]
    omega
theorem limb_add (a b : Int) : ∀ k, k < 3 → limb (a + b) k = (limb a k + limb b k + carr a b k) % 18446744073709551616
  | 0, _ => by simp only [limb, carr]; omega
  | 1, _ => by simp only [limb, carr]; omega
  | 2, _ => by
    simp only [limb, carr]
    have h0 : (a + b) / 18446744073709551616 = a / 18446744073709551616 + b / 18446744073709551616 + (a % 18446744073709551616 + b % 18446744073709551616 + 0) / 18446744073709551616 := by omega
    rw [h0]
    generalize (a % 18446744073709551616 + b % 18446744073709551616 + 0) / 18446744073709551616 = c
    generalize a / 18446744073709551616 = x
    generalize b / 18446744073709551616 = y
    omega
/-- Numbers that 192 bits hold are told apart by their parts. -/
theorem limb_inj {a b : Int} (ha : -3138550867693340381917894711603833208051177722232017256448 ≤ a ∧ a < 3138550867693340381917894711603833208051177722232017256448) (hb : -3138550867693340381917894711603833208051177722232017256448 ≤ b ∧ b < 3138550867693340381917894711603833208051177722232017256448)
    (h0 : limb a 0 = limb b 0) (h1 : limb a 1 = limb b 1) (h2 : limb a 2 = limb b 2) : a = b := by
  simp only [limb] at h0 h1 h2
  omega

theorem add64_any (x y c : Int) (hx : 0 ≤ x) (hy : 0 ≤ y) (hc0 : 0 ≤ c) (hc : c ≤ 1) (w : World) :
    (callFunc 90 #[.int .u64 x, .int .u64 y, .int .u64 c]).run Try.prog w = .ok (.value (.tuple #[.int .u64 ((x + y + c) % 18446744073709551616), .int .u64 ((x + y + c) / 18446744073709551616)])) w := by
  rw [run_callFunc_extern Try.func90 (by kernel_rfl) (by kernel_rfl) (by kernel_rfl) (e := add64Entry) (by kernel_rfl), run_add64 x y c hx hy hc0 hc]
  rfl

/-- What lies in memory while two are added: both, the sum's first k parts, and the result's place. -/
structure PW (w : World) (a b : Int) (k : Nat) (W : World) : Prop where
  bel : Below w.heap.size w W
  cA : ∀ j, j < 3 → W.cell? ⟨w.heap.size, j, none⟩ = some (.int .u64 (limb a j))
  cB : ∀ j, j < 3 → W.cell? ⟨w.heap.size + 1, j, none⟩ = some (.int .u64 (limb b j))
  cR : ∀ j, j < 3 → W.cell? ⟨w.heap.size + 2, j, none⟩ = some (.int .u64 0)
  cS : ∀ j, j < 3 → W.cell? ⟨w.heap.size + 3, j, none⟩ = some (.int .u64 (if j < k then limb (a + b) j else 0))
  fr : ∀ j, W.frozen? ⟨w.heap.size + 2, j, none⟩ = false
  fs : ∀ j, W.frozen? ⟨w.heap.size + 3, j, none⟩ = false
theorem PW.put {w : World} {a b : Int} {k : Nat} {W : World} (h : PW w a b k W) (hk : k < 3) {v : Value} (hv : v = .int .u64 (limb (a + b) k)) : PW w a b (k + 1) (W.setCell ⟨w.heap.size + 3, k, none⟩ v) := by
  subst hv
  refine ⟨h.bel.setCell (p := ⟨w.heap.size + 3, k, none⟩) (by simp) _, fun j hj => ?_, fun j hj => ?_, fun j hj => ?_, fun j hj => ?_, fun j => ?_, fun j => ?_⟩
  · rw [World.cell?_setCell_other _ _ _ _ (by simp)]; exact h.cA j hj
  · rw [World.cell?_setCell_other _ _ _ _ (by simp)]; exact h.cB j hj
  · rw [World.cell?_setCell_other _ _ _ _ (by simp)]; exact h.cR j hj
  · by_cases e : j = k
    · subst e
      rw [World.cell?_setCell_same' _ _ _ (by rw [h.cS j hj]; rfl)]; simp
    · rw [World.cell?_setCell_other _ _ _ _ (by first | (simp; done) | (simp; omega)), h.cS j hj]
      by_cases q : j < k
      · rw [if_pos q, if_pos (by omega)]
      · rw [if_neg q, if_neg (by omega)]
  · rw [World.frozen?_setCell]; exact h.fr j
  · rw [World.frozen?_setCell]; exact h.fs j
theorem PW.drew {w : World} {a b : Int} {k : Nat} {W : World} (h : PW w a b k W) : PW w a b k W.drew := ⟨h.bel.drew, h.cA, h.cB, h.cR, h.cS, h.fr, h.fs⟩

set_option maxHeartbeats 1600000 in
theorem plus_any (a b : Int) (w : World) : Calls Try.prog 75 #[wideV a, wideV b] w fun e w' => e = .returned (wideV (a + b)) ∧ Below w.heap.size w w' := by
  have AD := add64_any
  unfold wideV
  go_enter Try.func75, Try.ntmps75
  go_wp2_with fail
  go_loopw [6, 8] (fun c i wr => ∃ k : Nat, k ≤ 3 ∧ i = .int .i64 k ∧ c = .int .u64 (carr a b k) ∧ PW w a b k wr) (fun _ i _ => 3 - (intOf i).toNat)
  case atStart =>
    refine ⟨0, by omega, rfl, rfl, ⟨((((Below.refl _ _).alloc (Nat.le_refl _) _).alloc (by simp) _).alloc (by simp; omega) _).alloc (by simp; omega) _, ?_, ?_, ?_, ?_, ?_, ?_⟩⟩
    all_goals first
      | (intro j hj; obtain rfl | rfl | rfl : j = 0 ∨ j = 1 ∨ j = 2 := by omega) <;> simp [go_sem]
      | (intro j; simp [go_sem])
  case round =>
    obtain ⟨k, hk, rfl, rfl, P⟩ := hrel
    by_cases hk' : k < 3
    · have hki : (k : Int) < 3 := by omega
      have hki0 : (0 : Int) ≤ (k : Int) := by omega
      have ca := P.cA k hk'
      have cb := P.cB k hk'
      have cs := P.cS k hk'
      have fs := P.fs k
      have ra := limb_range a k
      have rb := limb_range b k
      have rc := carr_range a b k
      have HL : Hid (limb (a + b) k = (limb a k + limb b k + carr a b k) % 18446744073709551616) := limb_add a b k hk'
      have HC : Hid (carr a b (k + 1) = (limb a k + limb b k + carr a b k) / 18446744073709551616) := rfl
      rw [if_neg (Nat.lt_irrefl k)] at cs
      generalize limb a k = x at ca ra HL HC
      generalize limb b k = y at cb rb HL HC
      generalize carr a b k = c at rc HL HC ⊢
      have A1 := fun W : World => AD x y c ra.1 rb.1 rc.1 rc.2 W
      have HP : Hid (PW w a b k wr) := P
      clear P AD
      go_wp2_with fail
      go_region_with (simp only [A1])
      all_goals
        go_wp2_with fail
        go_roundw
        case rel => exact ⟨k + 1, by omega, by go_num, by rw [HC.out], (HP.out.put hk' (by rw [HL.out])).drew⟩
        case measure => simp [intOf]; omega
    · have hki : ¬ (k : Int) < 3 := by omega
      have e : k = 3 := by omega
      subst e
      have s0 := P.cS 0 (by omega)
      have s1 := P.cS 1 (by omega)
      have s2 := P.cS 2 (by omega)
      have r0 := P.cR 0 (by omega)
      have r1 := P.cR 1 (by omega)
      have r2 := P.cR 2 (by omega)
      have fr := P.fr
      have hb := P.bel
      simp only [show (0 : Nat) < 3 from by omega, show (1 : Nat) < 3 from by omega, show (2 : Nat) < 3 from by omega, if_true] at s0 s1 s2
      have hA : Hid (Below w.heap.size w wr) := hb
      clear P AD hb hki
      go_wp2_with fail
      exact bodyPost_ret (v := .agg #[.int .u64 (limb (a + b) 0), .int .u64 (limb (a + b) 1), .int .u64 (limb (a + b) 2)]) (by simp [results, Try.results75, go_sem, r0, r1, r2]) rfl ⟨rfl, ((hA.out.setCell (by simp; omega) _).setCell (by simp; omega) _).setCell (by simp; omega) _⟩
end Go.Proofs.Ythbilahilmmfmaa

/- A box of three cells, and two of them written. Conditions: none. -/
namespace Go.Proofs.Ythbilahilmmfmaa
set_option maxRecDepth 100000
open Go.RowKit

/-- A box of three cells. -/
def C3 (W : World) (b : Nat) (x y z : Value) : Prop := W.cell? ⟨b, 0, none⟩ = some x ∧ W.cell? ⟨b, 1, none⟩ = some y ∧ W.cell? ⟨b, 2, none⟩ = some z
theorem C3.stay {W W' : World} {b : Nat} {x y z : Value} {S : Nat → Prop} (h : C3 W b x y z) (hs : Stay S W W') (hb : S b) : C3 W' b x y z := ⟨hs.cell h.1 hb, hs.cell h.2.1 hb, hs.cell h.2.2 hb⟩
theorem C3.on {W W' : World} {b : Nat} {x y z : Value} (h : C3 W b x y z) (hb : Below W.heap.size W W') : C3 W' b x y z := ⟨keepC hb h.1, keepC hb h.2.1, keepC hb h.2.2⟩
theorem C3.lt {W : World} {b : Nat} {x y z : Value} (h : C3 W b x y z) : b < W.heap.size := World.block_lt_of_cell? _ _ h.1
theorem set3_stay (W : World) (b : Nat) (x y z : Value) : Stay (fun k => k ≠ b) W (((W.setCell ⟨b, 0, none⟩ x).setCell ⟨b, 1, none⟩ y).setCell ⟨b, 2, none⟩ z) := ((Stay.setCell _ _ (by simp)).trans (.setCell _ _ (by simp))).trans (.setCell _ _ (by simp))
theorem set3k {W : World} {b o B : Nat} {v x y z : Value} (h : W.cell? ⟨b, o, none⟩ = some v) (hne : b ≠ B) : (((W.setCell ⟨B, 0, none⟩ x).setCell ⟨B, 1, none⟩ y).setCell ⟨B, 2, none⟩ z).cell? ⟨b, o, none⟩ = some v := (set3_stay W B x y z).cell h hne
theorem C3.set {W : World} {b : Nat} {x y z : Value} (h : C3 W b x y z) (x' y' z' : Value) : C3 (((W.setCell ⟨b, 0, none⟩ x').setCell ⟨b, 1, none⟩ y').setCell ⟨b, 2, none⟩ z') b x' y' z' := by
  obtain ⟨z0, z1, z2⟩ := set3_cells (u := W) (r := b) (x := x') (y := y') (z := z') h.1 h.2.1 h.2.2
  exact ⟨z0, z1, z2⟩
theorem C3.new (W : World) (x y z : Value) (T : TypeId) : C3 (W.alloc (.cells #[x, y, z] T)) W.heap.size x y z := ⟨by simp, by simp, by simp⟩
theorem two_set {W : World} {R R' : Nat} {x y z x' y' z' : Value} (h : C3 W R (.int .i64 0) (.int .i64 0) (.slice none 0 0)) (h' : C3 W R' (.int .i64 0) (.int .i64 0) (.slice none 0 0)) (hne : R ≠ R') :
    C3 ((((((W.setCell ⟨R, 0, none⟩ x).setCell ⟨R, 1, none⟩ y).setCell ⟨R, 2, none⟩ z).setCell ⟨R', 0, none⟩ x').setCell ⟨R', 1, none⟩ y').setCell ⟨R', 2, none⟩ z') R x y z ∧ C3 ((((((W.setCell ⟨R, 0, none⟩ x).setCell ⟨R, 1, none⟩ y).setCell ⟨R, 2, none⟩ z).setCell ⟨R', 0, none⟩ x').setCell ⟨R', 1, none⟩ y').setCell ⟨R', 2, none⟩ z') R' x' y' z' ∧ Stay (fun k => k ≠ R ∧ k ≠ R') W ((((((W.setCell ⟨R, 0, none⟩ x).setCell ⟨R, 1, none⟩ y).setCell ⟨R, 2, none⟩ z).setCell ⟨R', 0, none⟩ x').setCell ⟨R', 1, none⟩ y').setCell ⟨R', 2, none⟩ z') :=
  ⟨(h.set x y z).stay (set3_stay _ _ _ _ _) hne, (h'.stay (set3_stay _ _ _ _ _) hne.symm).set _ _ _, ((set3_stay W R x y z).weak (fun _ _ hk => hk.1)).trans ((set3_stay _ R' x' y' z').weak (fun _ _ hk => hk.2))⟩
end Go.Proofs.Ythbilahilmmfmaa

/- The library's contracts for slices.Sort, slices.Compact, sort.Slice and what they call, laid at this program by the kit's own tool, in plain words. Conditions: as each says. -/
namespace Go.Proofs
open Go.Shelf
def Try.lays128_ren : Go.Shelf.Ren := ⟨fun | 128 => 111 | n => n, fun | 51 => 144 | 3 => 3 | 4 => 4 | 46 => 119 | 5 => 5 | 9 => 9 | n => n, fun | n => n⟩
theorem Try.lays128 : Go.Proofs.Lays.n128 Try.prog Try.lays128_ren := {
  mixed := by kernel_rfl
  f128 := Try.func111.trans (congrArg some (by kernel_rfl))
  t3 := Try.underlying3
  a3 := Try.isAgg3
  z3 := Try.sizeOf3
  v3 := Try.zeroValue3
  t4 := Try.underlying4
  a4 := Try.isAgg4
  z4 := Try.sizeOf4
  v4 := Try.zeroValue4
  t5 := Try.underlying5
  a5 := Try.isAgg5
  z5 := Try.sizeOf5
  v5 := Try.zeroValue5
  t9 := Try.underlying9
  a9 := Try.isAgg9
  z9 := Try.sizeOf9
  v9 := Try.zeroValue9
  t46 := Try.underlying119
  a46 := Try.isAgg119
  z46 := Try.sizeOf119
  v46 := Try.zeroValue119
  t51 := Try.underlying144
  a51 := Try.isAgg144
  z51 := Try.sizeOf144
  v51 := Try.zeroValue144 }
theorem Try.bits_Len32 (x : Int) (w : World) (h0 : 0 ≤ x) (h1 : x ≤ 4294967295) :
    Calls Try.prog 111 #[.int .u32 x] w fun e w' => e = .returned (.int .i64 (Lib.bitLen x.toNat)) ∧ w' = w := Any.bits_Len32 Try.lays128 x w h0 h1
def Try.lays125_ren : Go.Shelf.Ren := ⟨fun | 125 => 97 | 128 => 111 | 129 => 112 | n => n, fun | 46 => 119 | 3 => 3 | 51 => 144 | 53 => 65 | 4 => 4 | 5 => 5 | 9 => 9 | n => n, fun | n => n⟩
theorem Try.lays125 : Go.Proofs.Lays.n125 Try.prog Try.lays125_ren := {
  mixed := by kernel_rfl
  f125 := Try.func97.trans (congrArg some (by kernel_rfl))
  f128 := Try.func111.trans (congrArg some (by kernel_rfl))
  f129 := Try.func112.trans (congrArg some (by kernel_rfl))
  t3 := Try.underlying3
  a3 := Try.isAgg3
  z3 := Try.sizeOf3
  v3 := Try.zeroValue3
  t4 := Try.underlying4
  a4 := Try.isAgg4
  z4 := Try.sizeOf4
  v4 := Try.zeroValue4
  t5 := Try.underlying5
  a5 := Try.isAgg5
  z5 := Try.sizeOf5
  v5 := Try.zeroValue5
  t9 := Try.underlying9
  a9 := Try.isAgg9
  z9 := Try.sizeOf9
  v9 := Try.zeroValue9
  t46 := Try.underlying119
  a46 := Try.isAgg119
  z46 := Try.sizeOf119
  v46 := Try.zeroValue119
  t51 := Try.underlying144
  a51 := Try.isAgg144
  z51 := Try.sizeOf144
  v51 := Try.zeroValue144
  t53 := Try.underlying65
  a53 := Try.isAgg65
  z53 := Try.sizeOf65
  v53 := Try.zeroValue65 }
theorem Try.bits_Len (x : Int) (w : World) (h0 : 0 ≤ x) (h1 : x ≤ 18446744073709551615) :
    Calls Try.prog 97 #[.int .u64 x] w fun e w' => e = .returned (.int .i64 (Lib.bitLen x.toNat)) ∧ w' = w := Any.bits_Len Try.lays125 x w h0 h1
def Try.lays215_ren : Go.Shelf.Ren := ⟨fun | 215 => 121 | n => n, fun | 3 => 3 | 4 => 4 | n => n, fun | n => n⟩
theorem Try.lays215 : Go.Proofs.Lays.n215 Try.prog Try.lays215_ren := {
  mixed := by kernel_rfl
  f215 := Try.func121.trans (congrArg some (by kernel_rfl))
  t3 := Try.underlying3
  a3 := Try.isAgg3
  z3 := Try.sizeOf3
  v3 := Try.zeroValue3
  t4 := Try.underlying4
  a4 := Try.isAgg4
  z4 := Try.sizeOf4
  v4 := Try.zeroValue4 }
open Go.RowKit in
theorem Try.cmp_isNaN_int (x : Int) (w : World) :
    Calls Try.prog 121 #[.int .i64 x] w fun e w' => e = .returned (.bool false) ∧ w' = w := Any.cmp_isNaN_int Try.lays215 x w
def Try.lays122_ren : Go.Shelf.Ren := ⟨fun | 122 => 100 | 215 => 121 | n => n, fun | 3 => 3 | 4 => 4 | n => n, fun | n => n⟩
theorem Try.lays122 : Go.Proofs.Lays.n122 Try.prog Try.lays122_ren := {
  mixed := by kernel_rfl
  f122 := Try.func100.trans (congrArg some (by kernel_rfl))
  f215 := Try.func121.trans (congrArg some (by kernel_rfl))
  t3 := Try.underlying3
  a3 := Try.isAgg3
  z3 := Try.sizeOf3
  v3 := Try.zeroValue3
  t4 := Try.underlying4
  a4 := Try.isAgg4
  z4 := Try.sizeOf4
  v4 := Try.zeroValue4 }
open Go.RowKit in
theorem Try.cmp_Compare_int (x y : Int) (w : World) :
    Calls Try.prog 100 #[.int .i64 x, .int .i64 y] w fun e w' => e = .returned (.int .i64 (Lib.compareInt x y)) ∧ w' = w := Any.cmp_Compare_int Try.lays122 x y w
def Try.lays129_ren : Go.Shelf.Ren := ⟨fun | 129 => 112 | n => n, fun | 53 => 65 | 3 => 3 | 4 => 4 | 46 => 119 | 5 => 5 | 9 => 9 | n => n, fun | n => n⟩
theorem Try.lays129 : Go.Proofs.Lays.n129 Try.prog Try.lays129_ren := {
  mixed := by kernel_rfl
  f129 := Try.func112.trans (congrArg some (by kernel_rfl))
  t3 := Try.underlying3
  a3 := Try.isAgg3
  z3 := Try.sizeOf3
  v3 := Try.zeroValue3
  t4 := Try.underlying4
  a4 := Try.isAgg4
  z4 := Try.sizeOf4
  v4 := Try.zeroValue4
  t5 := Try.underlying5
  a5 := Try.isAgg5
  z5 := Try.sizeOf5
  v5 := Try.zeroValue5
  t9 := Try.underlying9
  a9 := Try.isAgg9
  z9 := Try.sizeOf9
  v9 := Try.zeroValue9
  t46 := Try.underlying119
  a46 := Try.isAgg119
  z46 := Try.sizeOf119
  v46 := Try.zeroValue119
  t53 := Try.underlying65
  a53 := Try.isAgg65
  z53 := Try.sizeOf65
  v53 := Try.zeroValue65 }
theorem Try.bits_Len64 (x : Int) (w : World) (h0 : 0 ≤ x) (h1 : x ≤ 18446744073709551615) :
    Calls Try.prog 112 #[.int .u64 x] w fun e w' => e = .returned (.int .i64 (Lib.bitLen x.toNat)) ∧ w' = w := Any.bits_Len64 Try.lays129 x w h0 h1
def Try.laysGg26_ren : Go.Shelf.Ren := ⟨fun | 26 => 113 | n => n, fun | 44 => 138 | 3 => 3 | 0 => 0 | 4 => 4 | 26 => 110 | 37 => 132 | n => n, fun | n => n⟩
theorem Try.laysGg26 : Go.Proofs.LaysGg.n26 Try.prog Try.laysGg26_ren := {
  mixed := by kernel_rfl
  f26 := Try.func113.trans (congrArg some (by kernel_rfl))
  t0 := Try.underlying0
  a0 := Try.isAgg0
  z0 := Try.sizeOf0
  v0 := Try.zeroValue0
  i0 := by kernel_rfl
  t3 := Try.underlying3
  a3 := Try.isAgg3
  z3 := Try.sizeOf3
  v3 := Try.zeroValue3
  i3 := by kernel_rfl
  t4 := Try.underlying4
  a4 := Try.isAgg4
  z4 := Try.sizeOf4
  v4 := Try.zeroValue4
  i4 := by kernel_rfl
  t26 := Try.underlying110
  a26 := Try.isAgg110
  z26 := Try.sizeOf110
  v26 := Try.zeroValue110
  i26 := by kernel_rfl
  t37 := Try.underlying132
  a37 := Try.isAgg132
  z37 := Try.sizeOf132
  v37 := Try.zeroValue132
  i37 := by kernel_rfl
  t44 := Try.underlying138
  a44 := Try.isAgg138
  z44 := Try.sizeOf138
  v44 := Try.zeroValue138
  i44 := by kernel_rfl }
open Go.RowKit Go.Lib Go.Sort in
theorem Try.insertionSort_func_none (lf : Fn) (la lb : Array Value) (f : Nat) (sb : Array Value) (a b : Nat) (h : b ≤ a + 1) (ha : a < 4611686018427387904) (w : World) :
    Calls Try.prog 113 #[.agg #[.func lf la lb, .func (.func f) #[] sb], .int .i64 a, .int .i64 b] w fun e w' => e = .returned (.tuple #[]) ∧ w' = w.alloc (.cells #[.func lf la lb, .func (.func f) #[] sb] 138) := Any.insertionSort_func_none Try.laysGg26 lf la lb f sb a b h ha w
def Try.laysGg14_ren : Go.Shelf.Ren := ⟨fun | 14 => 98 | 26 => 113 | 27 => 114 | 28 => 115 | 29 => 116 | 30 => 117 | 31 => 118 | 32 => 119 | 33 => 120 | 34 => 122 | 35 => 123 | 36 => 124 | 37 => 125 | 38 => 126 | 13 => 97 | 39 => 127 | 24 => 111 | 25 => 112 | n => n, fun | 44 => 138 | 3 => 3 | 0 => 0 | 4 => 4 | 54 => 148 | 53 => 147 | 26 => 110 | 58 => 152 | 37 => 132 | 60 => 155 | 41 => 119 | 51 => 65 | 64 => 159 | 66 => 161 | 67 => 162 | 49 => 144 | 5 => 5 | 9 => 9 | n => n, fun | n => n⟩
theorem Try.laysGg14 : Go.Proofs.LaysGg.n14 Try.prog Try.laysGg14_ren := {
  mixed := by kernel_rfl
  f13 := Try.func97.trans (congrArg some (by kernel_rfl))
  f14 := Try.func98.trans (congrArg some (by kernel_rfl))
  f24 := Try.func111.trans (congrArg some (by kernel_rfl))
  f25 := Try.func112.trans (congrArg some (by kernel_rfl))
  f26 := Try.func113.trans (congrArg some (by kernel_rfl))
  f27 := Try.func114.trans (congrArg some (by kernel_rfl))
  f28 := Try.func115.trans (congrArg some (by kernel_rfl))
  f29 := Try.func116.trans (congrArg some (by kernel_rfl))
  f30 := Try.func117.trans (congrArg some (by kernel_rfl))
  f31 := Try.func118.trans (congrArg some (by kernel_rfl))
  f32 := Try.func119.trans (congrArg some (by kernel_rfl))
  f33 := Try.func120.trans (congrArg some (by kernel_rfl))
  f34 := Try.func122.trans (congrArg some (by kernel_rfl))
  f35 := Try.func123.trans (congrArg some (by kernel_rfl))
  f36 := Try.func124.trans (congrArg some (by kernel_rfl))
  f37 := Try.func125.trans (congrArg some (by kernel_rfl))
  f38 := Try.func126.trans (congrArg some (by kernel_rfl))
  f39 := Try.func127.trans (congrArg some (by kernel_rfl))
  t0 := Try.underlying0
  a0 := Try.isAgg0
  z0 := Try.sizeOf0
  v0 := Try.zeroValue0
  i0 := by kernel_rfl
  t3 := Try.underlying3
  a3 := Try.isAgg3
  z3 := Try.sizeOf3
  v3 := Try.zeroValue3
  i3 := by kernel_rfl
  t4 := Try.underlying4
  a4 := Try.isAgg4
  z4 := Try.sizeOf4
  v4 := Try.zeroValue4
  i4 := by kernel_rfl
  t5 := Try.underlying5
  a5 := Try.isAgg5
  z5 := Try.sizeOf5
  v5 := Try.zeroValue5
  i5 := by kernel_rfl
  t9 := Try.underlying9
  a9 := Try.isAgg9
  z9 := Try.sizeOf9
  v9 := Try.zeroValue9
  i9 := by kernel_rfl
  t26 := Try.underlying110
  a26 := Try.isAgg110
  z26 := Try.sizeOf110
  v26 := Try.zeroValue110
  i26 := by kernel_rfl
  t37 := Try.underlying132
  a37 := Try.isAgg132
  z37 := Try.sizeOf132
  v37 := Try.zeroValue132
  i37 := by kernel_rfl
  t41 := Try.underlying119
  a41 := Try.isAgg119
  z41 := Try.sizeOf119
  v41 := Try.zeroValue119
  i41 := by kernel_rfl
  t44 := Try.underlying138
  a44 := Try.isAgg138
  z44 := Try.sizeOf138
  v44 := Try.zeroValue138
  i44 := by kernel_rfl
  t49 := Try.underlying144
  a49 := Try.isAgg144
  z49 := Try.sizeOf144
  v49 := Try.zeroValue144
  i49 := by kernel_rfl
  t51 := Try.underlying65
  a51 := Try.isAgg65
  z51 := Try.sizeOf65
  v51 := Try.zeroValue65
  i51 := by kernel_rfl
  t53 := Try.underlying147
  a53 := Try.isAgg147
  z53 := Try.sizeOf147
  v53 := Try.zeroValue147
  i53 := by kernel_rfl
  t54 := Try.underlying148
  a54 := Try.isAgg148
  z54 := Try.sizeOf148
  v54 := Try.zeroValue148
  i54 := by kernel_rfl
  t58 := Try.underlying152
  a58 := Try.isAgg152
  z58 := Try.sizeOf152
  v58 := Try.zeroValue152
  i58 := by kernel_rfl
  t60 := Try.underlying155
  a60 := Try.isAgg155
  z60 := Try.sizeOf155
  v60 := Try.zeroValue155
  i60 := by kernel_rfl
  t64 := Try.underlying159
  a64 := Try.isAgg159
  z64 := Try.sizeOf159
  v64 := Try.zeroValue159
  i64 := by kernel_rfl
  t66 := Try.underlying161
  a66 := Try.isAgg161
  z66 := Try.sizeOf161
  v66 := Try.zeroValue161
  i66 := by kernel_rfl
  t67 := Try.underlying162
  a67 := Try.isAgg162
  z67 := Try.sizeOf162
  v67 := Try.zeroValue162
  i67 := by kernel_rfl }
open Go.RowKit Go.Lib Go.Sort in
theorem Try.pdqsort_func_tiny (lf : Fn) (la lb : Array Value) (f : Nat) (sb : Array Value) (n : Nat) (h : n ≤ 1) (lim : Int) (w : World) :
    Calls Try.prog 98 #[.agg #[.func lf la lb, .func (.func f) #[] sb], .int .i64 0, .int .i64 n, .int .i64 lim] w fun e w' => e = .returned (.tuple #[]) ∧ w' = (w.alloc (.cells #[.func lf la lb, .func (.func f) #[] sb] 138)).alloc (.cells #[.func lf la lb, .func (.func f) #[] sb] 138) := Any.pdqsort_func_tiny Try.laysGg14 lf la lb f sb n h lim w
def Try.laysGg6_ren : Go.Shelf.Ren := ⟨fun | 6 => 80 | 10 => 94 | 11 => 95 | 12 => 96 | 13 => 97 | 14 => 98 | 24 => 111 | 25 => 112 | 26 => 113 | 27 => 114 | 28 => 115 | 29 => 116 | 30 => 117 | 31 => 118 | 32 => 119 | 33 => 120 | 34 => 122 | 35 => 123 | 36 => 124 | 37 => 125 | 38 => 126 | 39 => 127 | n => n, fun | 20 => 20 | 26 => 110 | 35 => 130 | 0 => 0 | 37 => 132 | 3 => 3 | 41 => 119 | 44 => 138 | 49 => 144 | 51 => 65 | 4 => 4 | 54 => 148 | 53 => 147 | 58 => 152 | 5 => 5 | 9 => 9 | 60 => 155 | 64 => 159 | 66 => 161 | 67 => 162 | 17 => 17 | 32 => 127 | 33 => 128 | 82 => 177 | 12 => 12 | 75 => 170 | 76 => 171 | 77 => 172 | 78 => 173 | 79 => 174 | 80 => 175 | n => n, fun | n => n⟩
theorem Try.laysGg6 : Go.Proofs.LaysGg.n6 Try.prog Try.laysGg6_ren := {
  mixed := by kernel_rfl
  f6 := Try.func80.trans (congrArg some (by kernel_rfl))
  f10 := Try.func94.trans (congrArg some (by kernel_rfl))
  f11 := Try.func95.trans (congrArg some (by kernel_rfl))
  f12 := Try.func96.trans (congrArg some (by kernel_rfl))
  f13 := Try.func97.trans (congrArg some (by kernel_rfl))
  f14 := Try.func98.trans (congrArg some (by kernel_rfl))
  f24 := Try.func111.trans (congrArg some (by kernel_rfl))
  f25 := Try.func112.trans (congrArg some (by kernel_rfl))
  f26 := Try.func113.trans (congrArg some (by kernel_rfl))
  f27 := Try.func114.trans (congrArg some (by kernel_rfl))
  f28 := Try.func115.trans (congrArg some (by kernel_rfl))
  f29 := Try.func116.trans (congrArg some (by kernel_rfl))
  f30 := Try.func117.trans (congrArg some (by kernel_rfl))
  f31 := Try.func118.trans (congrArg some (by kernel_rfl))
  f32 := Try.func119.trans (congrArg some (by kernel_rfl))
  f33 := Try.func120.trans (congrArg some (by kernel_rfl))
  f34 := Try.func122.trans (congrArg some (by kernel_rfl))
  f35 := Try.func123.trans (congrArg some (by kernel_rfl))
  f36 := Try.func124.trans (congrArg some (by kernel_rfl))
  f37 := Try.func125.trans (congrArg some (by kernel_rfl))
  f38 := Try.func126.trans (congrArg some (by kernel_rfl))
  f39 := Try.func127.trans (congrArg some (by kernel_rfl))
  t0 := Try.underlying0
  a0 := Try.isAgg0
  z0 := Try.sizeOf0
  v0 := Try.zeroValue0
  i0 := by kernel_rfl
  t3 := Try.underlying3
  a3 := Try.isAgg3
  z3 := Try.sizeOf3
  v3 := Try.zeroValue3
  i3 := by kernel_rfl
  t4 := Try.underlying4
  a4 := Try.isAgg4
  z4 := Try.sizeOf4
  v4 := Try.zeroValue4
  i4 := by kernel_rfl
  t5 := Try.underlying5
  a5 := Try.isAgg5
  z5 := Try.sizeOf5
  v5 := Try.zeroValue5
  i5 := by kernel_rfl
  t9 := Try.underlying9
  a9 := Try.isAgg9
  z9 := Try.sizeOf9
  v9 := Try.zeroValue9
  i9 := by kernel_rfl
  t12 := Try.underlying12
  a12 := Try.isAgg12
  z12 := Try.sizeOf12
  v12 := Try.zeroValue12
  i12 := by kernel_rfl
  t17 := Try.underlying17
  a17 := Try.isAgg17
  z17 := Try.sizeOf17
  v17 := Try.zeroValue17
  i17 := by kernel_rfl
  t20 := Try.underlying20
  a20 := Try.isAgg20
  z20 := Try.sizeOf20
  v20 := Try.zeroValue20
  i20 := by kernel_rfl
  t26 := Try.underlying110
  a26 := Try.isAgg110
  z26 := Try.sizeOf110
  v26 := Try.zeroValue110
  i26 := by kernel_rfl
  t32 := Try.underlying127
  a32 := Try.isAgg127
  z32 := Try.sizeOf127
  v32 := Try.zeroValue127
  i32 := by kernel_rfl
  t33 := Try.underlying128
  a33 := Try.isAgg128
  z33 := Try.sizeOf128
  v33 := Try.zeroValue128
  i33 := by kernel_rfl
  t35 := Try.underlying130
  a35 := Try.isAgg130
  z35 := Try.sizeOf130
  v35 := Try.zeroValue130
  i35 := by kernel_rfl
  t37 := Try.underlying132
  a37 := Try.isAgg132
  z37 := Try.sizeOf132
  v37 := Try.zeroValue132
  i37 := by kernel_rfl
  t41 := Try.underlying119
  a41 := Try.isAgg119
  z41 := Try.sizeOf119
  v41 := Try.zeroValue119
  i41 := by kernel_rfl
  t44 := Try.underlying138
  a44 := Try.isAgg138
  z44 := Try.sizeOf138
  v44 := Try.zeroValue138
  i44 := by kernel_rfl
  t49 := Try.underlying144
  a49 := Try.isAgg144
  z49 := Try.sizeOf144
  v49 := Try.zeroValue144
  i49 := by kernel_rfl
  t51 := Try.underlying65
  a51 := Try.isAgg65
  z51 := Try.sizeOf65
  v51 := Try.zeroValue65
  i51 := by kernel_rfl
  t53 := Try.underlying147
  a53 := Try.isAgg147
  z53 := Try.sizeOf147
  v53 := Try.zeroValue147
  i53 := by kernel_rfl
  t54 := Try.underlying148
  a54 := Try.isAgg148
  z54 := Try.sizeOf148
  v54 := Try.zeroValue148
  i54 := by kernel_rfl
  t58 := Try.underlying152
  a58 := Try.isAgg152
  z58 := Try.sizeOf152
  v58 := Try.zeroValue152
  i58 := by kernel_rfl
  t60 := Try.underlying155
  a60 := Try.isAgg155
  z60 := Try.sizeOf155
  v60 := Try.zeroValue155
  i60 := by kernel_rfl
  t64 := Try.underlying159
  a64 := Try.isAgg159
  z64 := Try.sizeOf159
  v64 := Try.zeroValue159
  i64 := by kernel_rfl
  t66 := Try.underlying161
  a66 := Try.isAgg161
  z66 := Try.sizeOf161
  v66 := Try.zeroValue161
  i66 := by kernel_rfl
  t67 := Try.underlying162
  a67 := Try.isAgg162
  z67 := Try.sizeOf162
  v67 := Try.zeroValue162
  i67 := by kernel_rfl
  t75 := Try.underlying170
  a75 := Try.isAgg170
  z75 := Try.sizeOf170
  v75 := Try.zeroValue170
  i75 := by kernel_rfl
  t76 := Try.underlying171
  a76 := Try.isAgg171
  z76 := Try.sizeOf171
  v76 := Try.zeroValue171
  i76 := by kernel_rfl
  t77 := Try.underlying172
  a77 := Try.isAgg172
  z77 := Try.sizeOf172
  v77 := Try.zeroValue172
  i77 := by kernel_rfl
  t78 := Try.underlying173
  a78 := Try.isAgg173
  z78 := Try.sizeOf173
  v78 := Try.zeroValue173
  i78 := by kernel_rfl
  t79 := Try.underlying174
  a79 := Try.isAgg174
  z79 := Try.sizeOf174
  v79 := Try.zeroValue174
  i79 := by kernel_rfl
  t80 := Try.underlying175
  a80 := Try.isAgg175
  z80 := Try.sizeOf175
  v80 := Try.zeroValue175
  i80 := by kernel_rfl
  t82 := Try.underlying177
  a82 := Try.isAgg177
  z82 := Try.sizeOf177
  v82 := Try.zeroValue177
  i82 := by kernel_rfl }
def Try.lays264_ren : Go.Shelf.Ren := ⟨fun | 264 => 91 | n => n, fun | 53 => 65 | 46 => 119 | n => n, fun | n => n⟩
theorem Try.lays264 : Go.Proofs.Lays.n264 Try.prog Try.lays264_ren := {
  mixed := by kernel_rfl
  f264 := Try.func91.trans (congrArg some (by kernel_rfl))
  t46 := Try.underlying119
  a46 := Try.isAgg119
  z46 := Try.sizeOf119
  v46 := Try.zeroValue119
  t53 := Try.underlying65
  a53 := Try.isAgg65
  z53 := Try.sizeOf65
  v53 := Try.zeroValue65 }
open Go.RowKit Go.Lib in
theorem Try.bits_Mul64 (x y : Nat) (hx : x < 18446744073709551616) (hy : y < 18446744073709551616) (w : World) :
    Calls Try.prog 91 #[.int .u64 x, .int .u64 y] w fun e w' => e = .returned (.tuple #[.int .u64 ((x * y / 18446744073709551616 : Nat) : Int), .int .u64 ((x * y % 18446744073709551616 : Nat) : Int)]) ∧ w' = w := Any.bits_Mul64 Try.lays264 x y hx hy w
def Try.lays111_ren : Go.Shelf.Ren := ⟨fun | 111 => 50 | n => n, fun | 28 => 24 | 3 => 3 | 4 => 4 | 0 => 0 | n => n, fun | n => n⟩
theorem Try.lays111 : Go.Proofs.Lays.n111 Try.prog Try.lays111_ren := {
  mixed := by kernel_rfl
  f111 := Try.func50.trans (congrArg some (by kernel_rfl))
  t0 := Try.underlying0
  a0 := Try.isAgg0
  z0 := Try.sizeOf0
  v0 := Try.zeroValue0
  t3 := Try.underlying3
  a3 := Try.isAgg3
  z3 := Try.sizeOf3
  v3 := Try.zeroValue3
  t4 := Try.underlying4
  a4 := Try.isAgg4
  z4 := Try.sizeOf4
  v4 := Try.zeroValue4
  t28 := Try.underlying24
  a28 := Try.isAgg24
  z28 := Try.sizeOf24
  v28 := Try.zeroValue24 }
open Go.RowKit Go.Lib in
theorem Try.slices_Equal_int (b1 o1 n c b2 o2 m d : Nat) (xs ys : List Int) (w : World) (hx : n ≤ xs.length) (hy : m ≤ ys.length) (hbig : n ≤ 9223372036854775807) (hbig2 : m ≤ 9223372036854775807) (hc1 : ∀ j, j < xs.length → w.cell? ⟨b1, o1 + j, none⟩ = some (.int .i64 (xs.getD j 0))) (hc2 : ∀ j, j < ys.length → w.cell? ⟨b2, o2 + j, none⟩ = some (.int .i64 (ys.getD j 0))) :
    Calls Try.prog 50 #[.slice (some ⟨b1, o1, none⟩) n c, .slice (some ⟨b2, o2, none⟩) m d] w fun e w' => e = .returned (.bool (xs.take n == ys.take m)) ∧ ∃ q, w' = w.drewN q := Any.slices_Equal_int Try.lays111 b1 o1 n c b2 o2 m d xs ys w hx hy hbig hbig2 hc1 hc2
open Go.RowKit Go.Lib in
theorem Try.slices_Equal_int_empty (a1 a2 : Option Addr) (c m d : Nat) (w : World) (hbig2 : m ≤ 9223372036854775807) :
    Calls Try.prog 50 #[.slice a1 0 c, .slice a2 m d] w fun e w' => e = .returned (.bool (decide (m = 0))) ∧ w' = w := Any.slices_Equal_int_empty Try.lays111 a1 a2 c m d w hbig2
def Try.laysGg36_ren : Go.Shelf.Ren := ⟨fun | 36 => 124 | n => n, fun | 66 => 161 | 51 => 65 | 0 => 0 | 60 => 155 | 41 => 119 | n => n, fun | n => n⟩
theorem Try.laysGg36 : Go.Proofs.LaysGg.n36 Try.prog Try.laysGg36_ren := {
  mixed := by kernel_rfl
  f36 := Try.func124.trans (congrArg some (by kernel_rfl))
  t0 := Try.underlying0
  a0 := Try.isAgg0
  z0 := Try.sizeOf0
  v0 := Try.zeroValue0
  i0 := by kernel_rfl
  t41 := Try.underlying119
  a41 := Try.isAgg119
  z41 := Try.sizeOf119
  v41 := Try.zeroValue119
  i41 := by kernel_rfl
  t51 := Try.underlying65
  a51 := Try.isAgg65
  z51 := Try.sizeOf65
  v51 := Try.zeroValue65
  i51 := by kernel_rfl
  t60 := Try.underlying155
  a60 := Try.isAgg155
  z60 := Try.sizeOf155
  v60 := Try.zeroValue155
  i60 := by kernel_rfl
  t66 := Try.underlying161
  a66 := Try.isAgg161
  z66 := Try.sizeOf161
  v66 := Try.zeroValue161
  i66 := by kernel_rfl }
open Go.RowKit Go.Lib Go.Sort in
theorem Try.xorshift_Next (rb ro X : Nat) (hX : X < 18446744073709551616) (w : World) (hc : w.cell? ⟨rb, ro, none⟩ = some (.int .u64 X)) (hf : w.frozen? ⟨rb, ro, none⟩ = false) :
    Calls Try.prog 124 #[.pointer (some ⟨rb, ro, none⟩)] w fun e w' => e = .returned (.int .u64 (xorNextN X : Nat)) ∧ w' = (w.setCell ⟨rb, ro, none⟩ (.int .u64 (xorNextN X : Nat))).drewN 3 := Any.xorshift_Next Try.laysGg36 rb ro X hX w hc hf
def Try.laysGg35_ren : Go.Shelf.Ren := ⟨fun | 35 => 123 | 13 => 97 | 24 => 111 | 25 => 112 | n => n, fun | 3 => 3 | 41 => 119 | 49 => 144 | 51 => 65 | 4 => 4 | 5 => 5 | 9 => 9 | n => n, fun | n => n⟩
theorem Try.laysGg35 : Go.Proofs.LaysGg.n35 Try.prog Try.laysGg35_ren := {
  mixed := by kernel_rfl
  f13 := Try.func97.trans (congrArg some (by kernel_rfl))
  f24 := Try.func111.trans (congrArg some (by kernel_rfl))
  f25 := Try.func112.trans (congrArg some (by kernel_rfl))
  f35 := Try.func123.trans (congrArg some (by kernel_rfl))
  t3 := Try.underlying3
  a3 := Try.isAgg3
  z3 := Try.sizeOf3
  v3 := Try.zeroValue3
  i3 := by kernel_rfl
  t4 := Try.underlying4
  a4 := Try.isAgg4
  z4 := Try.sizeOf4
  v4 := Try.zeroValue4
  i4 := by kernel_rfl
  t5 := Try.underlying5
  a5 := Try.isAgg5
  z5 := Try.sizeOf5
  v5 := Try.zeroValue5
  i5 := by kernel_rfl
  t9 := Try.underlying9
  a9 := Try.isAgg9
  z9 := Try.sizeOf9
  v9 := Try.zeroValue9
  i9 := by kernel_rfl
  t41 := Try.underlying119
  a41 := Try.isAgg119
  z41 := Try.sizeOf119
  v41 := Try.zeroValue119
  i41 := by kernel_rfl
  t49 := Try.underlying144
  a49 := Try.isAgg144
  z49 := Try.sizeOf144
  v49 := Try.zeroValue144
  i49 := by kernel_rfl
  t51 := Try.underlying65
  a51 := Try.isAgg65
  z51 := Try.sizeOf65
  v51 := Try.zeroValue65
  i51 := by kernel_rfl }
open Go.RowKit Go.Lib Go.Sort in
theorem Try.nextPowerOfTwo (n : Nat) (hn : n < 4611686018427387904) (w : World) :
    Calls Try.prog 123 #[.int .i64 n] w fun e w' => e = .returned (.int .u64 ((1 <<< bitsLen n : Nat) : Int)) ∧ w' = w := Any.nextPowerOfTwo Try.laysGg35 n hn w
end Go.Proofs

/- The product of a number and a count in 192 bits; sums of products, as the program reckons them. Conditions: numbers as an int holds them, counts not below 0; at most 1048577 of them. -/
namespace Go.Proofs.Ythbilahilmmfmaa
set_option maxRecDepth 100000
open Go.RowKit

theorem wrap_u (z : Int) : IntKind.u64.wrap z = z % 18446744073709551616 := by
  unfold IntKind.wrap
  simp [IntKind.bits, IntKind.signed]
theorem agg3 {a b c P : Int} (h0 : a = limb P 0) (h1 : b = limb P 1) (h2 : c = limb P 2) : Ending.returned (.agg #[.int .u64 a, .int .u64 b, .int .u64 c]) = .returned (wideV P) := by rw [h0, h1, h2]; rfl
theorem prod_le {X Y a b : Nat} (hx : X ≤ a) (hy : Y ≤ b) : X * Y ≤ a * b := Nat.mul_le_mul hx hy

set_option maxHeartbeats 1600000 in
theorem wideProduct_any (p q : Int) (w : World) (hp : isW p) (hq : 0 ≤ q ∧ q ≤ 9223372036854775807) :
    Calls Try.prog 76 #[.int .i64 p, .int .i64 q] w fun e w' => e = .returned (wideV (p * q)) ∧ Below w.heap.size w w' := by
  obtain ⟨hp0, hp1⟩ := hp
  obtain ⟨hq0, hq1⟩ := hq
  obtain ⟨Y, rfl⟩ : ∃ Y : Nat, q = (Y : Int) := ⟨q.toNat, by omega⟩
  have hwY : IntKind.u64.wrap (Y : Int) = (Y : Int) := by rw [wrap_u]; omega
  by_cases hneg : p < 0
  · obtain ⟨X, hX⟩ : ∃ X : Nat, p + 18446744073709551616 = (X : Int) := ⟨(p + 18446744073709551616).toNat, by omega⟩
    have hwX : IntKind.u64.wrap p = (X : Int) := by rw [wrap_u]; omega
    have C := fun W => Try.bits_Mul64 X Y (by omega) (by omega) W
    have hM : ((X * Y : Nat) : Int) = p * (Y : Int) + 18446744073709551616 * (Y : Int) := by
      rw [Int.natCast_mul, ← hX, Int.add_mul]
    have hlow : -(9223372036854775808 * (Y : Int)) ≤ p * (Y : Int) := by
      have := Int.mul_le_mul_of_nonneg_right hp0 hq0
      omega
    have hhigh : (Y : Int) = 0 ∧ p * (Y : Int) = 0 ∨ p * (Y : Int) ≤ -1 := by
      by_cases h0 : Y = 0
      · subst h0; simp
      · right
        have h1 := Int.mul_le_mul_of_nonneg_right (show p ≤ -1 by omega) hq0
        omega
    go_enter Try.func76, Try.ntmps76
    have HM : Hid (((X * Y : Nat) : Int) = p * (Y : Int) + 18446744073709551616 * (Y : Int)) := hM
    clear hM hX
    generalize X * Y = M at C HM
    generalize p * (Y : Int) = P at HM hlow hhigh ⊢
    go_wp2_with (go_at_call 91; refine (C _).mono ?_; rintro e w1 ⟨rfl, rfl⟩; clear C)
    have hY : P / 18446744073709551616 = (M : Int) / 18446744073709551616 - (Y : Int) := by rw [HM.out]; omega
    have hM1 : (M : Int) % 18446744073709551616 = P % 18446744073709551616 := by rw [HM.out]; omega
    have hD : (P = 0 ∧ (M : Int) / 18446744073709551616 - (Y : Int) = 0) ∨ (P < 0 ∧ -4611686018427387904 ≤ (M : Int) / 18446744073709551616 - (Y : Int) ∧ (M : Int) / 18446744073709551616 - (Y : Int) < 0) := by omega
    generalize (M : Int) / 18446744073709551616 - (Y : Int) = D at hY hD
    refine bodyPost_ret (v := _) (by simp [results, Try.results76, go_sem]; exact ⟨rfl, rfl, rfl⟩) rfl ⟨agg3 (by simp only [limb]; exact hM1) (by simp only [limb, wrap_u, hY]) (by simp only [limb, wrap_u, hY, wrap64]; omega), (Below.refl _ _).alloc (Nat.le_refl _) _⟩
  · obtain ⟨X, rfl⟩ : ∃ X : Nat, p = (X : Int) := ⟨p.toNat, by omega⟩
    have hwX : IntKind.u64.wrap (X : Int) = (X : Int) := by rw [wrap_u]; omega
    have C := fun W => Try.bits_Mul64 X Y (by omega) (by omega) W
    have hM : X * Y ≤ 9223372036854775807 * 9223372036854775807 := prod_le (by omega) (by omega)
    rw [← Int.natCast_mul]
    generalize X * Y = M at C hM ⊢
    go_enter Try.func76, Try.ntmps76
    go_wp2_with (go_at_call 91; refine (C _).mono ?_; rintro e w1 ⟨rfl, rfl⟩; clear C)
    refine bodyPost_ret (v := _) (by simp [results, Try.results76, go_sem]; exact ⟨rfl, rfl, rfl⟩) rfl ⟨agg3 (by simp only [limb]) (by simp only [limb]; omega) (by simp only [limb]; omega), (Below.refl _ _).alloc (Nat.le_refl _) _⟩

/-- A row's place, and the sum so far. -/
structure SW (w : World) (z : Int) (W : World) : Prop where
  bel : Below w.heap.size w W
  r0 : W.cell? ⟨w.heap.size, 0, none⟩ = some (.int .u64 0)
  r1 : W.cell? ⟨w.heap.size, 1, none⟩ = some (.int .u64 0)
  r2 : W.cell? ⟨w.heap.size, 2, none⟩ = some (.int .u64 0)
  s0 : W.cell? ⟨w.heap.size + 1, 0, none⟩ = some (.int .u64 (limb z 0))
  s1 : W.cell? ⟨w.heap.size + 1, 1, none⟩ = some (.int .u64 (limb z 1))
  s2 : W.cell? ⟨w.heap.size + 1, 2, none⟩ = some (.int .u64 (limb z 2))
  fr : ∀ j, W.frozen? ⟨w.heap.size, j, none⟩ = false
  fs : ∀ j, W.frozen? ⟨w.heap.size + 1, j, none⟩ = false
theorem SW.on {w : World} {z : Int} {W W' : World} (h : SW w z W) (hb : Below W.heap.size W W') : SW w z W' :=
  have hl := World.block_lt_of_cell? _ _ h.s0
  have hl0 := World.block_lt_of_cell? _ _ h.r0
  ⟨h.bel.trans (hb.mono h.bel.size), keepC hb h.r0, keepC hb h.r1, keepC hb h.r2, keepC hb h.s0, keepC hb h.s1, keepC hb h.s2, fun j => (hb.frozen (p := ⟨w.heap.size, j, none⟩) hl0).trans (h.fr j), fun j => (hb.frozen (p := ⟨w.heap.size + 1, j, none⟩) hl).trans (h.fs j)⟩
theorem SW.put {w : World} {z y : Int} {W : World} (h : SW w z W) : SW w y (((W.setCell ⟨w.heap.size + 1, 0, none⟩ (.int .u64 (limb y 0))).setCell ⟨w.heap.size + 1, 1, none⟩ (.int .u64 (limb y 1))).setCell ⟨w.heap.size + 1, 2, none⟩ (.int .u64 (limb y 2))) := by
  have hs : Stay (fun k => k ≠ w.heap.size + 1) W (((W.setCell ⟨w.heap.size + 1, 0, none⟩ (.int .u64 (limb y 0))).setCell ⟨w.heap.size + 1, 1, none⟩ (.int .u64 (limb y 1))).setCell ⟨w.heap.size + 1, 2, none⟩ (.int .u64 (limb y 2))) := ((Stay.setCell _ _ (by simp)).trans (.setCell _ _ (by simp))).trans (.setCell _ _ (by simp))
  obtain ⟨z0, z1, z2⟩ := set3_cells (u := W) (r := w.heap.size + 1) (x := .int .u64 (limb y 0)) (y := .int .u64 (limb y 1)) (z := .int .u64 (limb y 2)) h.s0 h.s1 h.s2
  exact ⟨((h.bel.setCell (by simp) _).setCell (by simp) _).setCell (by simp) _, hs.cell h.r0 (by simp), hs.cell h.r1 (by simp), hs.cell h.r2 (by simp), z0, z1, z2, fun j => by simp only [World.frozen?_setCell]; exact h.fr j, fun j => by simp only [World.frozen?_setCell]; exact h.fs j⟩
theorem dot_next {a x : List Int} {k : Nat} (h : k < a.length) (h' : k < x.length) : dotL (a.take (k + 1)) x = dotL (a.take k) x + a[k] * x[k] := zipWith_take_snoc h h'

set_option maxHeartbeats 1600000 in
theorem sumOf_any (a0 a1 : Option Addr) (a x : List Int) (c0 c1 : Nat) (w : World) (hr : Rd w a0 a) (hr' : Rd w a1 x) (_hl : a.length ≤ 1048577) (_hl' : x.length ≤ 1048577) (hx : a.length ≤ x.length) (ha : ∀ v ∈ a, isW v) (hs : ∀ v ∈ x, 0 ≤ v ∧ v ≤ 9223372036854775807) :
    Calls Try.prog 48 #[.slice a0 a.length c0, .slice a1 x.length c1] w fun e w' => e = .returned (wideV (dotL a x)) ∧ Below w.heap.size w w' := by
  have HR : Hid (Rd w a0 a) := hr
  have HR' : Hid (Rd w a1 x) := hr'
  clear hr hr'
  have S0 : SW w 0 ((w.alloc (.cells #[.int .u64 0, .int .u64 0, .int .u64 0] 67)).alloc (.cells #[.int .u64 0, .int .u64 0, .int .u64 0] 67)) := by
    refine ⟨((Below.refl _ _).alloc (Nat.le_refl _) _).alloc (by simp) _, ?_, ?_, ?_, ?_, ?_, ?_, ?_, ?_⟩ <;> (try intro j) <;> simp [go_sem, limb]
  go_enter Try.func48, Try.ntmps48
  go_wp2_with fail
  go_loopw [10] (fun i wr => ∃ k : Nat, k ≤ a.length ∧ i = .int .i64 k ∧ SW w (dotL (a.take k) x) wr) (fun i _ => a.length - (intOf i).toNat)
  case atStart => exact ⟨0, Nat.zero_le _, rfl, S0⟩
  case round =>
    obtain ⟨k, hk, rfl, S⟩ := hrel
    clear S0
    by_cases hk' : k < a.length
    · have hki : (k : Int) < (a.length : Int) := by omega
      have hki0 : (0 : Int) ≤ (k : Int) := by omega
      have hki1 : (k : Int) < (x.length : Int) := by omega
      have hRw := Rd.below HR.out S.bel
      have hRw' := Rd.below HR'.out S.bel
      obtain ⟨b, off, rfl, hbl, c2⟩ := Rd.get hRw hk'
      obtain ⟨b', off', rfl, hbl', c3⟩ := Rd.get (i := k) hRw' (by omega)
      have E0 := dot_next (a := a) (x := x) (k := k) hk' (by omega)
      have CP := fun W => wideProduct_any a[k] x[k] W (ha _ (List.getElem_mem _)) (hs _ (List.getElem_mem _))
      have HE : Hid (dotL (a.take (k + 1)) x = dotL (a.take k) x + a[k] * x[k]) := E0
      clear E0 hRw hRw'
      generalize a[k] = p at c2 HE CP
      generalize x[k]'(by omega) = q at c3 HE CP
      generalize dotL (a.take k) x = d at S HE
      have s0 := S.s0
      have s1 := S.s1
      have s2 := S.s2
      have fs := S.fs
      have HS : Hid (SW w d wr) := S
      have CA := fun W => plus_any d (p * q) W
      simp only [wideV] at CA CP
      clear S
      go_wp2_with fail
      go_region_with (first
        | (go_at_call 76; refine (CP _).mono ?_; rintro e w1 ⟨rfl, hb1⟩; have S1 : SW w d w1 := HS.out.on (by first | exact hb1 | exact (Below.refl _ _).drew.trans hb1); clear s0 s1 s2 fs; have s0 := S1.s0; have s1 := S1.s1; have s2 := S1.s2; have fs := S1.fs; have HS1 : Hid (SW w d w1) := S1; clear S1 hb1)
        | (go_at_call 75; refine (CA _).mono ?_; rintro e w2 ⟨rfl, hb2⟩; have S2 : SW w d w2 := HS1.out.on hb2; clear s0 s1 s2 fs; have s0 := S2.s0; have s1 := S2.s1; have s2 := S2.s2; have fs := S2.fs; have HS2 : Hid (SW w d w2) := S2; clear S2 hb2))
      all_goals
        go_wp2_with fail
        go_roundw
        case rel => exact ⟨k + 1, by omega, by go_num, by rw [HE.out]; exact HS2.out.put⟩
        case measure => simp [intOf]; omega
    · have hki : ¬ (k : Int) < (a.length : Int) := by omega
      have e : a.take k = a := List.take_of_length_le (by omega)
      rw [e] at S
      have r0 := S.r0
      have r1 := S.r1
      have r2 := S.r2
      have s0 := S.s0
      have s1 := S.s1
      have s2 := S.s2
      have fr := S.fr
      have HB : Hid _ := S.bel
      clear S
      go_wp2_with fail
      exact bodyPost_ret (v := wideV (dotL a x)) (by simp [results, Try.results48, go_sem, r0, r1, r2, wideV]) rfl ⟨rfl, ((HB.out.setCell (by simp) _).setCell (by simp) _).setCell (by simp) _⟩
end Go.Proofs.Ythbilahilmmfmaa

/- Lists of numbers one behind the other, in new memory: the library's slices.Concat, and its slices.Grow of nothing. Conditions: lists that are not empty, at most 1000 numbers together, at most 100 lists. -/
namespace Go.Proofs.Ythbilahilmmfmaa
set_option maxRecDepth 100000
open Go.RowKit

theorem own_grown0 {w : World} {c : Array Value} {G : Nat} (hs : c.size = G) (hG : G ≤ maxLen) : ((w.alloc (.cells c 3)).drew).ownsRow w.heap.size 3 1 (.slice (some ⟨w.heap.size, 0, none⟩) 0 G) 0 [] :=
  ⟨rfl, .inr ⟨w.heap.size, G, c, rfl, Nat.le_refl _, heap_alloc_new w _, Nat.zero_le _, hG, by omega, by simp⟩⟩
set_option maxHeartbeats 1600000 in
theorem grow_none (n : Nat) (w : World) (h1 : 1 ≤ n) (hn : n ≤ 1000) :
    Calls Try.prog 88 #[.slice none 0 0, .int .i64 n] w fun e w' => ∃ c, e = .returned (.slice (some ⟨w.heap.size, 0, none⟩) 0 c) ∧ w'.ownsRow w.heap.size 3 1 (.slice (some ⟨w.heap.size, 0, none⟩) 0 c) 0 [] ∧ Below w.heap.size w w' := by
  obtain ⟨i0, hi, hz0, hz1, hz2⟩ := info_parts Try.info3
  have hl0 : ¬ (n : Int) < 0 := by omega
  have hg0 : (0 : Int) < (n : Int) := by omega
  have hold : (Builtin.firstCells i0.size 0 (.slice none 0 0)).run Try.prog w.drew = .ok (([] : List Value).toArray) w.drew := run_firstCells_none w.drew i0.size 0 0 0
  have hrz := fun ty => Lib.run_append_grow_zeros (P := Try.prog) w 24 3 ty 3 i0 (.int .i64 0) .i64 .i64 Try.underlying24 Try.underlying3 hi hz0 none 0 0 [] hold n (by omega) (by omega) (by omega) (by omega) (by rw [hz2]; omega) (growslice_fits (by omega) (by rw [hz2]; omega))
  have hG := grownCap_ge w (0 + n) 0 3
  have hG2 := grownCap_le_maxLen w (0 + n) 0 3 (by unfold maxLen; omega)
  generalize grownCap w (0 + n) 0 3 = G at hrz hG hG2
  have HG2 : Hid (G ≤ maxLen) := hG2
  have hG63 : G ≤ 9223372036854775807 := by unfold maxLen at hG2; omega
  clear hold hG2
  go_enter Try.func88, Try.ntmps88
  go_wp2_with (at_builtin; refine Lib.wpList_append_run _ rfl _ _ _ _ rfl _ _ rfl rfl _ _ (hrz _) ?_)
  all_goals
    go_ret
    exact ⟨G, rfl, own_grown0 (by simp [Builtin.zeroCells]; omega) HG2.out, ((Below.refl _ _).alloc (Nat.le_refl _) _).drew⟩

theorem flat_take {rows : List (List Int)} {k : Nat} (h : k < rows.length) : (rows.take (k + 1)).flatten = (rows.take k).flatten ++ rows[k] := by
  rw [List.take_succ_eq_append_getElem h, List.flatten_append, List.flatten_cons, List.flatten_nil, List.append_nil]
set_option maxHeartbeats 1600000 in
theorem concat_any (a : Option Addr) (rows : List (List Int)) (cap : Nat) (w : World) (hr : RdQ w a rows) (hl : rows.length ≤ 100) (hne : ∀ r ∈ rows, r ≠ []) (ht : ∀ k, k ≤ rows.length → (rows.take k).flatten.length ≤ 1000) (h1 : 1 ≤ rows.flatten.length) :
    Calls Try.prog 71 #[.slice a rows.length cap] w fun e w' => ∃ g c, e = .returned (.slice (some ⟨g, 0, none⟩) rows.flatten.length c) ∧ w'.ownsRow w.heap.size 3 1 (.slice (some ⟨g, 0, none⟩) rows.flatten.length c) rows.flatten.length (ints rows.flatten) ∧ Below w.heap.size w w' := by
  obtain ⟨i0, hi, hz0, hz1, hz2⟩ := info_parts Try.info3
  have HR : Hid (RdQ w a rows) := hr
  obtain ⟨F, hF0, HF, HFe, HT⟩ : ∃ F : Nat → List Int, F 0 = [] ∧ Hid (∀ k, (h : k < rows.length) → F (k + 1) = F k ++ rows[k]) ∧ Hid (F rows.length = rows.flatten) ∧ Hid (∀ k, k ≤ rows.length → (F k).length ≤ 1000) :=
    ⟨fun k => (rows.take k).flatten, by simp, fun k h => flat_take h, by show _ = _; simp, ht⟩
  rw [← HFe.out] at h1 ⊢
  clear hr ht HFe
  go_enter Try.func71, Try.ntmps71
  go_wp2_with fail
  go_loop [3, 11] (fun s i => ∃ k : Nat, k ≤ rows.length ∧ i = .int .i64 k ∧ s = .int .i64 ((F k).length : Nat)) (fun _ i => rows.length - (intOf i).toNat)
  case atStart => exact ⟨0, Nat.zero_le _, rfl, by rw [hF0]; rfl⟩
  case round =>
    obtain ⟨k, hk, rfl, rfl⟩ := hrel
    by_cases hk' : k < rows.length
    · obtain ⟨b, off, ai, ci, rfl, c2, _⟩ := RdQ.get HR.out hk'
      have hki : (k : Int) < (rows.length : Int) := by omega
      have hki0 : (0 : Int) ≤ (k : Int) := by omega
      have t1 := HT.out k (by omega)
      have t2 := HT.out (k + 1) (by omega)
      have HE : Hid ((F (k + 1)).length = (F k).length + rows[k].length) := by show _ = _; rw [HF.out k hk', List.length_append]
      rw [HE.out] at t2
      generalize rows[k].length = m at c2 HE t2
      generalize (F k).length = s at HE t1 t2 ⊢
      have hs : ¬ (s : Int) + (m : Int) < 0 := by omega
      go_wp2_with fail
      go_round
      case rel => exact ⟨k + 1, by omega, by go_num, by rw [HE.out]; go_num⟩
      case measure => simp [intOf]; omega
    · have hki : ¬ (k : Int) < (rows.length : Int) := by omega
      have e : k = rows.length := by omega
      subst e
      have ht0 := HT.out rows.length (Nat.le_refl _)
      have C := grow_none (F rows.length).length w h1 ht0
      go_wp2_with (go_at_call 88; refine C.mono ?_; rintro e w1 ⟨c1, rfl, ho1, hb1⟩; have HO1 : Hid (w1.ownsRow w.heap.size 3 1 (.slice (some ⟨w.heap.size, 0, none⟩) 0 c1) 0 []) := ho1; clear C ho1)
      go_loopw [6, 27] (fun o i wr => ∃ k g c : Nat, k ≤ rows.length ∧ i = .int .i64 k ∧ o = .slice (some ⟨g, 0, none⟩) (F k).length c ∧ Hid (wr.ownsRow w.heap.size 3 1 (.slice (some ⟨g, 0, none⟩) (F k).length c) (F k).length (ints (F k))) ∧ Below w.heap.size w wr) (fun _ i _ => rows.length - (intOf i).toNat)
      case atStart => exact ⟨0, w.heap.size, c1, Nat.zero_le _, rfl, by rw [hF0]; rfl, by rw [hF0]; exact HO1, hb1⟩
      case round =>
        obtain ⟨k, g, c, hk, rfl, rfl, HO, hb⟩ := hrel
        clear HO1
        by_cases hk' : k < rows.length
        · have HRW := RdQ.below HR.out hb
          obtain ⟨b, off, ai, ci, rfl, c2, hrd⟩ := RdQ.get HRW hk'
          have hki : (k : Int) < (rows.length : Int) := by omega
          have hki0 : (0 : Int) ≤ (k : Int) := by omega
          have t1 := HT.out k (by omega)
          have t2 := HT.out (k + 1) (by omega)
          have hbz := hb.size
          rcases hrd with h | ⟨b2, o2, rfl, hb2, hcells⟩
          · exact absurd h (hne _ (List.getElem_mem _))
          have HN := news_of hcells
          have HE : Hid (F (k + 1) = F k ++ rows[k]) := HF.out k hk'
          rw [HE.out, List.length_append] at t2
          clear HRW hcells
          generalize rows[k] = row at c2 HE t2 HN
          generalize F k = Fk at HE t1 t2 HO ⊢
          have HI : Hid (ints Fk ++ ints row = ints (Fk ++ row)) := by show _ = _; simp [ints]
          go_wp2_with (at_builtin; refine wpList_append_own _ rfl (.tmp 31) (.tmp 32) 24 rfl w.heap.size 3 i0 (.int .i64 0) 1 8 Try.underlying24 hi hz0 hz1 hz2 rfl (by decide) _ Fk.length (ints Fk) rfl HO.out ⟨b2, o2, none⟩ row.length ci (ints row) rfl (by simp [ints]) HN (ints_one row) (by unfold maxLen; omega) (by omega) (by omega) ?_; intro v3 w3 hown3 hgrow3 hnil3; obtain ⟨g3, c3, rfl⟩ := own_some hown3 hnil3; have hb3 := below_app' hb HO.out hgrow3; rw [HI.out] at hown3; have HO3 : Hid (w3.ownsRow w.heap.size 3 1 (.slice (some ⟨g3, 0, none⟩) (Fk.length + row.length) c3) (Fk.length + row.length) (ints (Fk ++ row))) := hown3; clear hnil3 hgrow3 HO hb hown3 HN)
          have hlen : (Fk ++ row).length = Fk.length + row.length := List.length_append
          go_roundw
          case rel => exact ⟨k + 1, g3, c3, by omega, by go_num, by rw [HE.out, hlen], by rw [HE.out, hlen]; exact HO3, hb3⟩
          case measure => simp [intOf]; omega
        · have hki : ¬ (k : Int) < (rows.length : Int) := by omega
          have e : k = rows.length := by omega
          subst e
          go_wp2_with fail
          go_ret
          exact ⟨g, c, rfl, HO.out, hb⟩
end Go.Proofs.Ythbilahilmmfmaa

/- When two numbers of 192 bits, and two pairs of counts, are the same, as the program compares them: arrays, whole. Conditions: none. -/
namespace Go.Proofs.Ythbilahilmmfmaa
set_option maxRecDepth 100000
open Go.RowKit

theorem eq_wide (a b c d e f : Int) (w : World) : (Op.equalIn 10000 67 (.agg #[.int .u64 a, .int .u64 b, .int .u64 c]) (.agg #[.int .u64 d, .int .u64 e, .int .u64 f])).run Try.prog w = .ok (a == d && (b == e && c == f)) w := by
  have u3 := Try.underlying65
  have a3 := Try.isAgg65
  have z3 := Try.sizeOf65
  rw [show (10000 : Nat) = 9999 + 1 from rfl, Op.equalIn]
  simp only [Sem.run_bind, run_underlying Try.underlying67, Result.andThen_ok]
  simp only [Std.Legacy.Range.forIn_eq_forIn_range', Std.Legacy.Range.size, Nat.sub_zero, Nat.add_sub_cancel, Nat.div_one, List.range'_succ, List.range'_zero, List.forIn_cons, List.forIn_nil]
  go_simp
  by_cases h1 : a = d <;> by_cases h2 : b = e <;> by_cases h3 : c = f <;> simp [h1, h2, h3]
theorem limbs_same {a b : Int} (ha : -3138550867693340381917894711603833208051177722232017256448 ≤ a ∧ a < 3138550867693340381917894711603833208051177722232017256448) (hb : -3138550867693340381917894711603833208051177722232017256448 ≤ b ∧ b < 3138550867693340381917894711603833208051177722232017256448) :
    (limb a 0 == limb b 0 && (limb a 1 == limb b 1 && limb a 2 == limb b 2)) = decide (a = b) := by
  by_cases e : a = b
  · subst e; simp
  · rw [decide_eq_false e]
    cases h : (limb a 0 == limb b 0 && (limb a 1 == limb b 1 && limb a 2 == limb b 2)) with
    | false => rfl
    | true =>
      simp only [Bool.and_eq_true, beq_iff_eq] at h
      exact absurd (limb_inj ha hb h.1 h.2.1 h.2.2) e
theorem eq_counts (n : Nat) (a b c d e a' b' c' d' e' : Int) (w : World) : (Op.equalIn (n + 2) 97 (.agg #[.int .i64 a, .int .i64 b, .int .i64 c, .int .i64 d, .int .i64 e]) (.agg #[.int .i64 a', .int .i64 b', .int .i64 c', .int .i64 d', .int .i64 e'])).run Try.prog w = .ok (a == a' && (b == b' && (c == c' && (d == d' && e == e')))) w := by
  have u3 := Try.underlying3
  have a3 := Try.isAgg3
  have z3 := Try.sizeOf3
  rw [show n + 2 = (n + 1) + 1 from rfl, Op.equalIn]
  simp only [Sem.run_bind, run_underlying Try.underlying97, Result.andThen_ok]
  simp only [Std.Legacy.Range.forIn_eq_forIn_range', Std.Legacy.Range.size, Nat.sub_zero, Nat.add_sub_cancel, Nat.div_one, List.range'_succ, List.range'_zero, List.forIn_cons, List.forIn_nil]
  go_simp
  by_cases h1 : a = a' <;> by_cases h2 : b = b' <;> by_cases h3 : c = c' <;> by_cases h4 : d = d' <;> by_cases h5 : e = e' <;> simp [h1, h2, h3, h4, h5]
theorem eq_both (a b c d e a' b' c' d' e' : Int) (w : World) : (Op.equalIn 10000 99 (.agg #[.int .i64 a, .int .i64 b, .int .i64 c, .int .i64 d, .int .i64 e, .int .i64 a', .int .i64 b', .int .i64 c', .int .i64 d', .int .i64 e']) (.agg #[.int .i64 0, .int .i64 0, .int .i64 0, .int .i64 0, .int .i64 0, .int .i64 0, .int .i64 0, .int .i64 0, .int .i64 0, .int .i64 0])).run Try.prog w = .ok ((a == 0 && (b == 0 && (c == 0 && (d == 0 && e == 0)))) && (a' == 0 && (b' == 0 && (c' == 0 && (d' == 0 && e' == 0))))) w := by
  have u3 := Try.underlying97
  have a3 := Try.isAgg97
  have z3 := Try.sizeOf97
  have E1 := fun w => eq_counts 9997 a b c d e 0 0 0 0 0 w
  have E2 := fun w => eq_counts 9997 a' b' c' d' e' 0 0 0 0 0 w
  rw [show (10000 : Nat) = 9999 + 1 from rfl, Op.equalIn]
  simp only [Sem.run_bind, run_underlying Try.underlying99, Result.andThen_ok]
  simp only [Std.Legacy.Range.forIn_eq_forIn_range', Std.Legacy.Range.size, Nat.sub_zero, Nat.add_sub_cancel, Nat.div_one, List.range'_succ, List.range'_zero, List.forIn_cons, List.forIn_nil]
  go_simp
  have h1 : (a = 0 → b = 0 → c = 0 → d = 0 → ¬e = 0) ↔ ¬ ((a == 0 && (b == 0 && (c == 0 && (d == 0 && e == 0)))) = true) := by simp
  have h2 : (a' = 0 → b' = 0 → c' = 0 → d' = 0 → ¬e' = 0) ↔ ¬ ((a' == 0 && (b' == 0 && (c' == 0 && (d' == 0 && e' == 0)))) = true) := by simp
  simp only [h1, h2]
  generalize (a == 0 && (b == 0 && (c == 0 && (d == 0 && e == 0)))) = p
  generalize (a' == 0 && (b' == 0 && (c' == 0 && (d' == 0 && e' == 0)))) = q
  cases p <;> cases q <;> rfl
theorem zB_pd {x : List Int} (h : x.length ≤ 5) : (pd x 0 == 0 && (pd x 1 == 0 && (pd x 2 == 0 && (pd x 3 == 0 && pd x 4 == 0)))) = x.all (fun v => v == 0) := by
  match x, h with
  | [], _ => rfl
  | [a], _ => simp [pd]
  | [a, b], _ => simp [pd]
  | [a, b, c], _ => simp [pd]
  | [a, b, c, d], _ => simp [pd]
  | [a, b, c, d, e], _ => simp [pd]
  | _ :: _ :: _ :: _ :: _ :: _ :: _, h => simp only [List.length_cons] at h; omega
end Go.Proofs.Ythbilahilmmfmaa

/- Contracts of the laws' helpers on lists of numbers: whether two are alike, marks, and whether the marks are there. Conditions: at most 1048577 numbers. -/
namespace Go.Proofs.Ythbilahilmmfmaa
set_option maxRecDepth 100000
open Go.RowKit

theorem grown_trans {a w w' : World} {row : Option Nat} (h : a.grownBy w row) (k : w.grownBy w' row) : a.grownBy w' row :=
  ⟨k.os.trans h.os, k.tape.trans h.tape, k.output.trans h.output, Nat.le_trans h.size k.size, fun i hi hr => (k.block i (Nat.lt_of_lt_of_le hi h.size) hr).trans (h.block i hi hr)⟩

set_option maxHeartbeats 800000 in
theorem eqInts_any (a a' : Option Addr) (zs ys : List Int) (n cap n' cap' : Nat) (w : World) (hn : n = zs.length) (hn' : n' = ys.length) (hr : Rd w a zs) (hr' : Rd w a' ys) (hl : zs.length ≤ 1048577) (hl' : ys.length ≤ 1048577) :
    Calls Try.prog 34 #[.slice a n cap, .slice a' n' cap'] w fun e w' => e = .returned (.bool (eqB zs ys)) ∧ ∃ q, w' = w.drewN q := by
  subst hn hn'
  by_cases hne : zs.length = ys.length
  · rcases hr with rfl | ⟨b, off, rfl, hlt, hc⟩
    · have : ys = [] := by simpa using hne.symm
      subst this
      go_enter Try.func34, Try.ntmps34
      go_wp2
      refine wp_loop_rounds 1 ?_
      rw [rounds_succ]
      go_wp2
      go_ret
      exact ⟨rfl, 0, rfl⟩
    · rcases hr' with rfl | ⟨b', off', rfl, hlt', hc'⟩
      · have : zs = [] := by simpa using hne
        subst this
        go_enter Try.func34, Try.ntmps34
        go_wp2
        refine wp_loop_rounds 1 ?_
        rw [rounds_succ]
        go_wp2
        go_ret
        exact ⟨rfl, 0, rfl⟩
      · have HN : Hid (zs.length = ys.length) := hne
        have ht : ((zs.length : Int) == (ys.length : Int)) = true := by simp [hne]
        clear hne
        go_enter Try.func34, Try.ntmps34
        go_wp2
        go_loopw [5] (fun i wr => ∃ k q : Nat, k ≤ zs.length ∧ i = .int .i64 k ∧ wr = w.drewN q ∧ zs.take k = ys.take k) (fun i _ => zs.length - (intOf i).toNat)
        case atStart => exact ⟨0, 0, Nat.zero_le _, rfl, rfl, by simp⟩
        case round =>
          obtain ⟨k, q, hk, rfl, rfl, h0⟩ := hrel
          have H0 : Hid (zs.take k = ys.take k) := h0
          clear h0
          by_cases hk' : k < zs.length
          · have hky : k < ys.length := by have := HN.out; omega
            have hck := hc k hk'
            have hck' := hc' k hky
            have hi1 : (k : Int) < (zs.length : Int) := by omega
            have hi2 : (k : Int) < (ys.length : Int) := by omega
            clear hc hc' ht
            go_wp2
            go_quiet (fail)
            go_wp2
            · go_ret
              exact ⟨rtB (eqB_hit hk' hky (by assumption)).symm, _, World.drewN_drewN _ _ _⟩
            · go_roundw
              case rel => exact ⟨k + 1, _, by omega, by go_num, rfl, eqB_step hk' hky H0.out (by assumption)⟩
              case measure => simp [intOf]; omega
          · go_wp2
            go_ret
            exact ⟨rtB (eqB_all hk' HN.out H0.out).symm, _, rfl⟩
  · have ht : ((zs.length : Int) == (ys.length : Int)) = false := by simp; omega
    have H0 : Hid (¬ zs.length = ys.length) := hne
    clear hne
    go_enter Try.func34, Try.ntmps34
    go_wp2
    go_ret
    exact ⟨rtB (eqB_len H0.out).symm, 0, rfl⟩

set_option maxHeartbeats 800000 in
theorem held_any (a : Option Addr) (k : Int) (n cap : Nat) (w : World) (hr : Rd w a (upFrom k n)) (hl : n ≤ 1048577) (hk1 : 0 ≤ k) (hk2 : k ≤ 4) :
    Calls Try.prog 67 #[.slice a n cap, .int .i64 k] w fun e w' => e = .returned (.int .i64 (k + n)) ∧ w' = w := by
  rcases hr with h | ⟨b, off, rfl, hlt, hc⟩
  · have hn : n = 0 := by have := upFrom_len k n; rw [h] at this; simpa using this.symm
    subst hn
    clear h
    go_enter Try.func67, Try.ntmps67
    go_wp2
    refine wp_loop_rounds 1 ?_
    rw [rounds_succ]
    go_wp2
    go_ret
    exact ⟨rtI (by omega), rfl⟩
  · have hc2 : ∀ i, i < n → w.cell? ⟨b, off + i, none⟩ = some (.int .i64 (k + (i : Int))) := by
      intro i hi
      rw [hc i (by rw [upFrom_len]; exact hi), upFrom_at k n i hi]; rfl
    clear hc
    go_enter Try.func67, Try.ntmps67
    go_wp2
    go_loop [1, 5] (fun t i => ∃ j : Nat, j ≤ n ∧ i = .int .i64 j ∧ t = .int .i64 (k + (j : Int))) (fun _ i => n - (intOf i).toNat)
    case atStart => exact ⟨0, Nat.zero_le _, rfl, by simp⟩
    case round =>
      obtain ⟨j, hj, rfl, rfl⟩ := hrel
      by_cases hj' : j < n
      · have hcj := hc2 j hj'
        clear hc2
        go_wp2
        go_round
        case rel => exact ⟨j + 1, by omega, by go_num, by go_num⟩
        case measure => simp [intOf]; omega
      · go_wp2
        go_ret
        exact ⟨rtI (by omega), rfl⟩

set_option maxHeartbeats 800000 in
theorem mark_any (base g : Nat) (zs : List Int) (k : Int) (n cap : Nat) (w : World) (hn : n = zs.length) (hown : w.ownsRow base 3 1 (.slice (some ⟨g, 0, none⟩) n cap) n (ints zs)) (hl : n ≤ 1048577) (hk1 : 0 ≤ k) (hk2 : k ≤ 4) :
    Calls Try.prog 35 #[.slice (some ⟨g, 0, none⟩) n cap, .int .i64 k] w fun e w' => e = .returned (.int .i64 (k + n)) ∧ w'.ownsRow base 3 1 (.slice (some ⟨g, 0, none⟩) n cap) n (ints (upFrom k n)) ∧ w.grownBy w' (some g) := by
  subst hn
  go_enter Try.func35, Try.ntmps35
  go_wp2
  go_loopw [1, 5] (fun t i wr => ∃ j : Nat, j ≤ zs.length ∧ i = .int .i64 j ∧ t = .int .i64 (k + (j : Int)) ∧ wr.ownsRow base 3 1 (.slice (some ⟨g, 0, none⟩) zs.length cap) zs.length (ints (upFrom k j) ++ (ints zs).drop j) ∧ w.grownBy wr (some g)) (fun _ i _ => zs.length - (intOf i).toNat)
  case atStart => exact ⟨0, Nat.zero_le _, rfl, by simp, hown, ⟨rfl, rfl, rfl, Nat.le_refl _, fun _ _ _ => rfl⟩⟩
  case round =>
    obtain ⟨j, hj, rfl, rfl, hown', hg⟩ := hrel
    clear hown
    by_cases hj' : j < zs.length
    · obtain ⟨u, hu⟩ := mark_at (k := k) hj'
      have hfz := hown'.frozenAt j
      have hce : wr.cell? ⟨g, j, none⟩ = some (.int .i64 u) := (hown'.cellAt j (by omega)).trans hu
      have R := hown'.stored j (.int .i64 (k + (j : Int)))
      rw [mark_step hj'] at R
      obtain ⟨R1, R2⟩ := R
      have R3 := grown_trans hg R2
      clear hown' hg R2 hu
      go_wp2
      go_roundw
      case rel => exact ⟨j + 1, by omega, by go_num, by go_num, R1, R3⟩
      case measure => simp [intOf]; omega
    · go_wp2
      go_ret
      have e : j = zs.length := by omega
      subst e
      refine ⟨rfl, ?_, hg⟩
      rw [List.drop_of_length_le (by simp [ints]), List.append_nil] at hown'
      exact hown'

end Go.Proofs.Ythbilahilmmfmaa

/- How a term that came in as an argument is opened: its cells, all the way down. Conditions: none. -/
namespace Go.Proofs.Ythbilahilmmfmaa
set_option maxRecDepth 100000
open Go.RowKit Go.ChangeShapes Go.WideShapes Go.ChangeAt

theorem cellsI : Try.prog.cellsOf 3 = 1 := by kernel_rfl
theorem isW_of {z : Int} (h : (Lit.int .i64 z).wf = true) : isW z := by
  simp [Lit.wf, IntKind.min, IntKind.max, IntKind.signed, IntKind.bits] at h
  exact ⟨by omega, by omega⟩

end Go.Proofs.Ythbilahilmmfmaa

