/- What the proof of FnExactOriented stands on, part 2 of 13: each piece says what it proves and under which conditions. Conditions: as each piece says. -/
import Derived.Test.YtollijngiioonaaGreatPackExactOriented1
import Derived.Test.YtollijngiioonaaGreatProg
import Derived.Deep.RegionWith
import Derived.Laws.Concat
import Derived.Laws.BytesArg
import Derived.Deep.RegionHeld3
import Derived.Deep.DeepMust
/- Contracts of the laws' helpers on lists of functions: a copy, how much it holds, whether two are alike. Conditions: lists that are copied have at most 1048577 functions. -/
namespace Go.Proofs.YtollijngiioonaaGreat
set_option maxRecDepth 100000
open Go.RowKit

set_option maxHeartbeats 800000 in
theorem toSym_any (n : ByteArray) (ar : Int) (ac : Bool) (w : World) :
    Calls Tryz.prog 83 #[.agg #[.string n, .int .i64 ar, .bool ac]] w fun e w' => e = .returned (.agg #[.string n, .int .i64 ar, .bool ac]) ∧ Below w.heap.size w w' := by
  go_enter Tryz.func83, Tryz.ntmps83
  go_wp2
  exact bodyPost_ret (v := .agg #[.string n, .int .i64 ar, .bool ac]) (by simp [results, Tryz.results83, go_sem]) rfl ⟨rfl, (((Below.refl _ _).alloc (Nat.le_refl _) _).alloc (by simp) _).alloc (by simp; omega) _⟩

set_option maxHeartbeats 800000 in
theorem szSym_any (n : ByteArray) (ar : Int) (ac : Bool) (k : Int) (w : World) (hk : k ≤ 1048576) (hk0 : 0 ≤ k) (hn : n.size ≤ 9223372036854775807) :
    Calls Tryz.prog 80 #[.agg #[.string n, .int .i64 ar, .bool ac], .int .i64 k] w fun e w' => e = .returned (.int .i64 (if k < n.size then -1 else k - n.size)) ∧ Below w.heap.size w w' := by
  by_cases h : k < n.size
  · rw [if_pos h]
    have h' : k - (n.size : Int) < 0 := by omega
    go_enter Tryz.func80, Tryz.ntmps80
    go_wp2
    go_ret
    exact ⟨rfl, (Below.refl _ _).alloc (Nat.le_refl _) _⟩
  · rw [if_neg h]
    have h' : ¬ k - (n.size : Int) < 0 := by omega
    go_enter Tryz.func80, Tryz.ntmps80
    go_wp2
    go_ret
    exact ⟨rfl, (Below.refl _ _).alloc (Nat.le_refl _) _⟩


theorem info39 : (Tryz.prog.info? 103).map (fun i => (i.zero, i.size, i.bytes)) = some (some (.agg #[.string ⟨#[]⟩, .int .i64 0, .bool false]), 3, 32) := by kernel_rfl

set_option maxHeartbeats 1600000 in
theorem toSyms_any (a : Option Addr) (ss : List SymD) (n cap : Nat) (w : World) (hn : n = ss.length) (hr : RdS w a ss) (hl : ss.length ≤ 1048577) :
    Calls Tryz.prog 35 #[.slice a n cap] w fun e w' => e = .returned (.slice (some ⟨w.heap.size, 0, none⟩) n n) ∧ w'.ownsRow w.heap.size 103 3 (.slice (some ⟨w.heap.size, 0, none⟩) n n) n (symCs ss) ∧ Below w.heap.size w w' := by
  subst hn
  obtain ⟨i0, hi, hz0, hz1, hz2⟩ := info_parts info39
  rcases hr with rfl | ⟨b, off, rfl, hlt, hc⟩
  · go_enter Tryz.func35, Tryz.ntmps35
    go_wp2_with (first
      | (at_make; refine wpList_make_full _ rfl _ _ 24 rfl w.heap.size 103 i0 _ 3 Tryz.underlying24 hi hz0 hz1 _ _ _ _ 0 rfl rfl rfl rfl (by omega) (by unfold maxLen; omega) (Nat.le_refl _) ?_)
      | go_in)
    intro w1 hown hgrow
    have hb1 : Below w.heap.size w w1 := (Below.refl _ _).grown hgrow (Nat.le_refl _) (by simp)
    clear hgrow
    go_wp2
    refine wp_loop_rounds 1 ?_
    rw [rounds_succ]
    go_wp2
    go_ret
    exact ⟨rfl, by simpa [madeCells, symCs] using hown, hb1⟩
  · go_enter Tryz.func35, Tryz.ntmps35
    go_wp2_with (first
      | (at_make; refine wpList_make_full _ rfl _ _ 24 rfl w.heap.size 103 i0 _ 3 Tryz.underlying24 hi hz0 hz1 _ _ _ _ ss.length rfl rfl rfl rfl (by rw [hz2]; omega) (by unfold maxLen; omega) (Nat.le_refl _) ?_)
      | go_in)
    intro w1 hown hgrow
    have hb1 : Below w.heap.size w w1 := (Below.refl _ _).grown hgrow (Nat.le_refl _) (by simp)
    clear hgrow
    go_wp2
    go_loopw [4] (fun i wr => ∃ k : Nat, k ≤ ss.length ∧ i = .int .i64 k ∧ wr.ownsRow w.heap.size 103 3 (.slice (some ⟨w.heap.size, 0, none⟩) ss.length ss.length) ss.length (symCs (ss.take k ++ List.replicate (ss.length - k) zeroSym)) ∧ Below w.heap.size w wr) (fun i _ => ss.length - (intOf i).toNat)
    case atStart => exact ⟨0, Nat.zero_le _, rfl, by have h := hown; rw [made3] at h; simpa using h, hb1⟩
    case round =>
      obtain ⟨k, hk, rfl, hown', hb⟩ := hrel
      clear hown hb1
      by_cases hk' : k < ss.length
      · obtain ⟨c0, c1, c2⟩ := hc k hk'
        have d0 := (hb.cell (p := ⟨b, off + k * 3, none⟩) hlt).trans c0
        have d1 := (hb.cell (p := ⟨b, off + k * 3 + 1, none⟩) hlt).trans c1
        have d2 := (hb.cell (p := ⟨b, off + k * 3 + 2, none⟩) hlt).trans c2
        clear c0 c1 c2 hc
        go_wp2_with (go_at_call 83; refine (toSym_any _ _ _ _).mono ?_; rintro e w2 ⟨rfl, hb2⟩; have hown2 := own_belowS hown' hb2; obtain ⟨e0, e1, e2⟩ := cells3 (len3 hk) (lt3 hk') hown2; have f0 := hown2.frozenAt (k * 3); have f1 := hown2.frozenAt (k * 3 + 1); have f2 := hown2.frozenAt (k * 3 + 2); have R1 := store3 ss[k] (lt3 hk') hown2; rw [step3 hk'] at R1; have hB := hb.trans (hb2.mono hb.size); clear hown' hown2 hb hb2 d0 d1 d2)
        go_roundw
        case rel => exact ⟨k + 1, by omega, by go_num, R1, ((hB.setCell (p := ⟨w.heap.size, _, none⟩) (Nat.le_refl _) _).setCell (p := ⟨w.heap.size, _, none⟩) (Nat.le_refl _) _).setCell (p := ⟨w.heap.size, _, none⟩) (Nat.le_refl _) _⟩
        case measure => simp [intOf]; omega
      · go_wp2
        go_ret
        have e : k = ss.length := by omega
        subst e
        refine ⟨rfl, ?_, hb⟩
        simpa using hown'

set_option maxHeartbeats 1600000 in
theorem szSyms_any (a : Option Addr) (ss : List SymD) (n cap : Nat) (m : Int) (w : World) (hn : n = ss.length) (hr : RdS w a ss) (hl : ss.length ≤ 9223372036854775807) (hm0 : 0 ≤ m) (hm : m ≤ 1048576) (hsz : ∀ s ∈ ss, s.name.size ≤ 9223372036854775807) :
    Calls Tryz.prog 32 #[.slice a n cap, .int .i64 m] w fun e w' => ∃ r : Int, e = .returned (.int .i64 r) ∧ (0 ≤ r → (ss.length : Int) + bytesOf ss ≤ m) ∧ r ≤ m ∧ Below w.heap.size w w' := by
  subst hn
  by_cases hbig : m - (ss.length : Int) < 0
  · go_enter Tryz.func32, Tryz.ntmps32
    go_wp2
    go_ret
    exact ⟨-1, rfl, fun h => by omega, by omega, Below.refl _ _⟩
  · rcases hr with rfl | ⟨b, off, rfl, hlt, hc⟩
    · go_enter Tryz.func32, Tryz.ntmps32
      go_wp2
      refine wp_loop_rounds 1 ?_
      rw [rounds_succ]
      go_wp2
      go_ret
      exact ⟨m, rfl, fun _ => (by simp [bytesOf]; omega), Int.le_refl _, Below.refl _ _⟩
    · go_enter Tryz.func32, Tryz.ntmps32
      go_wp2
      go_loopw [1, 5] (fun t i wr => ∃ (k : Nat) (l : Int), k ≤ ss.length ∧ i = .int .i64 k ∧ t = .int .i64 l ∧ 0 ≤ l ∧ l ≤ m ∧ Hid ((ss.length : Int) + bytesOf (ss.take k) + l = m) ∧ Below w.heap.size w wr) (fun _ i _ => ss.length - (intOf i).toNat)
      case atStart => exact ⟨0, m - ss.length, Nat.zero_le _, rfl, rfl, by omega, by omega, by show _ = _; simp [bytesOf]; omega, Below.refl _ _⟩
      case round =>
        obtain ⟨k, l, hk, rfl, rfl, hl0, hl1, HS, hb⟩ := hrel
        by_cases hk' : k < ss.length
        · obtain ⟨c0, c1, c2⟩ := hc k hk'
          have d0 := (hb.cell (p := ⟨b, off + k * 3, none⟩) hlt).trans c0
          have d1 := (hb.cell (p := ⟨b, off + k * 3 + 1, none⟩) hlt).trans c1
          have d2 := (hb.cell (p := ⟨b, off + k * 3 + 2, none⟩) hlt).trans c2
          have hs := hsz ss[k] (List.getElem_mem hk')
          have HB : Hid (bytesOf (ss.take (k + 1)) = bytesOf (ss.take k) + ss[k].name.size) := bytesOf_next hk'
          have S := szSym_any ss[k].name ss[k].ar ss[k].ac l wr (by omega) hl0 hs
          clear c0 c1 c2 hc hsz
          by_cases hlt2 : l < (ss[k].name.size : Int)
          · rw [if_pos hlt2] at S
            go_wp2_with (go_at_call 80; refine S.mono ?_; rintro e w2 ⟨rfl, hb2⟩; clear S)
            go_ret
            exact ⟨-1, rfl, fun h => by omega, by omega, hb.trans (hb2.mono hb.size)⟩
          · rw [if_neg hlt2] at S
            have hge : ¬ l - (ss[k].name.size : Int) < 0 := by omega
            go_wp2_with (go_at_call 80; refine S.mono ?_; rintro e w2 ⟨rfl, hb2⟩; clear S)
            go_roundw
            case rel => exact ⟨k + 1, l - ss[k].name.size, by omega, by go_num, rfl, by omega, by omega, by have h1 := HS.out; have h2 := HB.out; show _ = _; omega, hb.trans (hb2.mono hb.size)⟩
            case measure => simp [intOf]; omega
        · go_wp2
          go_ret
          have e : k = ss.length := by omega
          have h1 := HS.out
          rw [e, List.take_length] at h1
          exact ⟨l, rfl, fun _ => by omega, hl1, hb⟩

set_option maxHeartbeats 1600000 in
theorem eqSym_any (s t : SymD) (w : World) :
    Calls Tryz.prog 87 #[.agg #[.string s.name, .int .i64 s.ar, .bool s.ac], .agg #[.string t.name, .int .i64 t.ar, .bool t.ac]] w fun e w' => e = .returned (.bool (symEq s t)) ∧ Below w.heap.size w w' := by
  have hB : ∀ o1 o2, Below w.heap.size w ((w.alloc o1).alloc o2) := fun o1 o2 => ((Below.refl _ _).alloc (Nat.le_refl _) o1).alloc (by simp) o2
  go_enter Tryz.func87, Tryz.ntmps87
  go_wp2
  · go_ret
    have h : (!s.name.toList == t.name.toList) = true := by assumption
    exact ⟨ret_bool (by simp at h; simp [symEq, h]), hB _ _⟩
  · go_ret
    have h : (s.ar != t.ar) = true := by assumption
    exact ⟨ret_bool (by simp at h; simp [symEq, h]), hB _ _⟩
  · go_ret
    have h : (!s.ac == t.ac) = true := by assumption
    exact ⟨ret_bool (by simp at h; simp [symEq, h]), hB _ _⟩
  · go_ret
    have h1 : (!s.name.toList == t.name.toList) = false := by assumption
    have h2 : (s.ar != t.ar) = false := by assumption
    have h3 : (!s.ac == t.ac) = false := by assumption
    exact ⟨ret_bool (by simp at h1 h2 h3; simp [symEq, h1, h2, h3]), hB _ _⟩

set_option maxHeartbeats 1600000 in
theorem eqSyms_same (a a' : Option Addr) (ss : List SymD) (n cap n' cap' : Nat) (w : World) (hn : n = ss.length) (hn' : n' = ss.length) (hr : RdS w a ss) (hr' : RdS w a' ss) (hl : ss.length ≤ 1048577) :
    Calls Tryz.prog 39 #[.slice a n cap, .slice a' n' cap'] w fun e w' => e = .returned (.bool true) ∧ Below w.heap.size w w' := by
  subst hn hn'
  rcases hr with rfl | ⟨b, off, rfl, hlt, hc⟩
  · go_enter Tryz.func39, Tryz.ntmps39
    go_wp2
    refine wp_loop_rounds 1 ?_
    rw [rounds_succ]
    go_wp2
    go_ret
    exact ⟨rfl, Below.refl _ _⟩
  · rcases hr' with rfl | ⟨b', off', rfl, hlt', hc'⟩
    · go_enter Tryz.func39, Tryz.ntmps39
      go_wp2
      refine wp_loop_rounds 1 ?_
      rw [rounds_succ]
      go_wp2
      go_ret
      exact ⟨rfl, Below.refl _ _⟩
    · go_enter Tryz.func39, Tryz.ntmps39
      go_wp2
      go_loopw [5] (fun i wr => ∃ k : Nat, k ≤ ss.length ∧ i = .int .i64 k ∧ Below w.heap.size w wr) (fun i _ => ss.length - (intOf i).toNat)
      case atStart => exact ⟨0, Nat.zero_le _, rfl, Below.refl _ _⟩
      case round =>
        obtain ⟨k, hk, rfl, hb⟩ := hrel
        by_cases hk' : k < ss.length
        · obtain ⟨c0, c1, c2⟩ := hc k hk'
          obtain ⟨g0, g1, g2⟩ := hc' k hk'
          have d0 := (hb.cell (p := ⟨b, off + k * 3, none⟩) hlt).trans c0
          have d1 := (hb.cell (p := ⟨b, off + k * 3 + 1, none⟩) hlt).trans c1
          have d2 := (hb.cell (p := ⟨b, off + k * 3 + 2, none⟩) hlt).trans c2
          have q0 := (hb.cell (p := ⟨b', off' + k * 3, none⟩) hlt').trans g0
          have q1 := (hb.cell (p := ⟨b', off' + k * 3 + 1, none⟩) hlt').trans g1
          have q2 := (hb.cell (p := ⟨b', off' + k * 3 + 2, none⟩) hlt').trans g2
          have hi1 : (k : Int) < (ss.length : Int) := by omega
          clear c0 c1 c2 g0 g1 g2 hc hc'
          go_wp2
          go_region_with (go_at_call 87; refine (eqSym_any ss[k] ss[k] _).mono ?_; rw [symEq_self]; rintro e w2 ⟨rfl, hb2⟩)
          all_goals go_wp2
          all_goals
            go_roundw
            case rel => exact ⟨k + 1, by omega, by go_num, hb.drew.trans (hb2.mono hb.size)⟩
            case measure => simp [intOf]; omega
        · go_wp2
          go_ret
          exact ⟨rfl, hb⟩
end Go.Proofs.YtollijngiioonaaGreat

/- The order of terms as plain mathematics, and a stack of pairs of lists still to be held against each other. Conditions: none. -/
namespace Go.Proofs.YtollijngiioonaaGreat
set_option maxRecDepth 100000
open Go.RowKit

/-- The least number of which p holds (0 where there is none). -/
theorem least_ex {p : Nat → Prop} (h : ∃ n, p n) : ∃ n, p n ∧ ∀ m, p m → n ≤ m := by
  obtain ⟨n, hn⟩ := h
  induction n using Nat.strongRecOn with
  | ind n ih =>
    by_cases hm : ∃ m, m < n ∧ p m
    · obtain ⟨m, hlt, hp⟩ := hm; exact ih m hlt hp
    · exact ⟨n, hn, fun m hp => Nat.le_of_not_lt fun hlt => hm ⟨m, hlt, hp⟩⟩

open Classical in
noncomputable def leastN (p : Nat → Prop) : Nat := if h : ∃ n, p n ∧ ∀ m, p m → n ≤ m then Classical.choose h else 0

theorem leastN_spec {p : Nat → Prop} (h : ∃ n, p n) : ∃ n, p n ∧ leastN p = n := by
  have h' := least_ex h
  refine ⟨leastN p, ?_, rfl⟩
  unfold leastN
  rw [dif_pos h']
  exact (Classical.choose_spec h').1
theorem leastN_le {p : Nat → Prop} {n : Nat} (h : p n) : leastN p ≤ n := by
  have h' := least_ex ⟨n, h⟩
  unfold leastN
  rw [dif_pos h']
  exact (Classical.choose_spec h').2 n h

def cmpI (x y : Int) : Int := if x < y then -1 else if y < x then 1 else 0
theorem cmpI_zero {x y : Int} : cmpI x y = 0 ↔ x = y := by unfold cmpI; split <;> (try split) <;> omega
theorem cmpI_self (x : Int) : cmpI x x = 0 := cmpI_zero.2 rfl
theorem cmpI_bd (x y : Int) : -1 ≤ cmpI x y ∧ cmpI x y ≤ 1 := by unfold cmpI; split <;> (try split) <;> omega
theorem cmpI_neg {x y : Int} : cmpI x y < 0 ↔ x < y := by unfold cmpI; split <;> (try split) <;> omega

/-- The first of three that is not 0. -/
def or3 (x y z : Int) : Int := if x ≠ 0 then x else if y ≠ 0 then y else z
/-- How the heads of two terms stand to each other. -/
def headO (t u : TermD) : Int := or3 (cmpI t.f u.f) (cmpI t.v u.v) (cmpI t.kids.length u.kids.length)

theorem headO_zero {t u : TermD} : headO t u = 0 ↔ t.f = u.f ∧ t.v = u.v ∧ t.kids.length = u.kids.length := by
  unfold headO or3
  by_cases h1 : t.f = u.f
  · have e1 := cmpI_zero.2 h1
    by_cases h2 : t.v = u.v
    · have e2 := cmpI_zero.2 h2
      simp only [e1, e2, ne_eq, not_true_eq_false, if_false, cmpI_zero]
      constructor
      · intro h; exact ⟨h1, h2, by omega⟩
      · intro h; omega
    · have e2 := mt cmpI_zero.1 h2
      simp [e1, e2, h2]
  · have e1 := mt cmpI_zero.1 h1
    simp [e1, h1]
theorem headO_bd (t u : TermD) : -1 ≤ headO t u ∧ headO t u ≤ 1 := by
  unfold headO or3
  have h1 := cmpI_bd t.f u.f; have h2 := cmpI_bd t.v u.v; have h3 := cmpI_bd t.kids.length u.kids.length
  split
  · exact h1
  · split
    · exact h2
    · exact h3

mutual
/-- How two terms stand to each other. -/
def ordT : TermD → TermD → Int
  | .mk f v ks, .mk f' v' ks' => if headO (.mk f v ks) (.mk f' v' ks') ≠ 0 then headO (.mk f v ks) (.mk f' v' ks') else ordL ks ks'
def ordL : List TermD → List TermD → Int
  | t :: ts, u :: us => if ordT t u ≠ 0 then ordT t u else ordL ts us
  | _, _ => 0
end
theorem ordT_eq (t u : TermD) : ordT t u = if headO t u ≠ 0 then headO t u else ordL t.kids u.kids := by
  cases t; cases u; rw [ordT]; rfl
theorem ordL_cons (t u : TermD) (ts us : List TermD) : ordL (t :: ts) (u :: us) = if ordT t u ≠ 0 then ordT t u else ordL ts us := by rw [ordL]
theorem ordL_nil : ordL [] [] = 0 := by rw [ordL]; simp

mutual
theorem ordT_same : ∀ t u : TermD, (ordT t u = 0) ↔ sameT t u = true
  | .mk f v ks, .mk f' v' ks' => by
    have hL : ks.length = ks'.length → ((ordL ks ks' = 0) ↔ sameL ks ks' = true) := ordL_same ks ks'
    rw [ordT_eq, sameT_eq]
    by_cases h : headO (.mk f v ks) (.mk f' v' ks') = 0
    · have e := headO_zero.1 h
      simp only [h, ne_eq, not_true_eq_false, if_false]
      obtain ⟨e1, e2, e3⟩ := e
      simp only [e1, e2, e3, beq_self_eq_true, Bool.true_and]
      exact hL e3
    · have e := mt headO_zero.2 h
      simp only [h, ne_eq, not_false_eq_true, if_true, false_iff]
      intro hh
      simp only [Bool.and_eq_true, beq_iff_eq] at hh
      exact e ⟨hh.1.1.1, hh.1.1.2, hh.1.2⟩
theorem ordL_same : ∀ ts us : List TermD, ts.length = us.length → ((ordL ts us = 0) ↔ sameL ts us = true)
  | [], us, _ => by
    cases us with
    | nil => simp [ordL, sameL]
    | cons u us => simp [ordL, sameL]
  | t :: ts, [], h => by simp at h
  | t :: ts, u :: us, h => by
    have h1 := ordT_same t u
    have h2 := ordL_same ts us (by simpa using h)
    rw [ordL_cons]
    by_cases e : ordT t u = 0
    · simp only [e, ne_eq, not_true_eq_false, if_false]
      rw [h2]
      simp [sameL, h1.1 e]
    · simp only [e, ne_eq, not_false_eq_true, if_true, false_iff]
      simp only [sameL, Bool.and_eq_true]
      intro hh
      exact e (h1.2 hh.1)
end

mutual
theorem ordT_bef : ∀ t u : TermD, decide (ordT t u < 0) = befT t u
  | .mk f v ks, .mk f' v' ks' => by
    have hL : ks.length = ks'.length → decide (ordL ks ks' < 0) = befL ks ks' := ordL_bef ks ks'
    rw [ordT_eq, befT_eq]
    show decide ((if headO (TermD.mk f v ks) (.mk f' v' ks') ≠ 0 then headO (.mk f v ks) (.mk f' v' ks') else ordL ks ks') < 0) = (if f ≠ f' then decide (f < f') else if v ≠ v' then decide (v < v') else if ks.length ≠ ks'.length then decide (ks.length < ks'.length) else befL ks ks')
    have hd : headO (TermD.mk f v ks) (.mk f' v' ks') = or3 (cmpI f f') (cmpI v v') (cmpI ks.length ks'.length) := rfl
    rw [hd]
    unfold or3
    by_cases h1 : f = f'
    · subst h1
      by_cases h2 : v = v'
      · subst h2
        by_cases h3 : ks.length = ks'.length
        · simp [cmpI_self, h3, hL h3]
        · have e : cmpI (ks.length : Int) (ks'.length : Int) ≠ 0 := mt cmpI_zero.1 (by omega)
          simp [cmpI_self, h3, e, cmpI_neg]
      · have e : cmpI v v' ≠ 0 := mt cmpI_zero.1 h2
        simp [cmpI_self, h2, e, cmpI_neg]
    · have e : cmpI f f' ≠ 0 := mt cmpI_zero.1 h1
      simp [h1, e, cmpI_neg]
theorem ordL_bef : ∀ ts us : List TermD, ts.length = us.length → decide (ordL ts us < 0) = befL ts us
  | [], us, _ => by
    cases us with
    | nil => simp [ordL, befL]
    | cons u us => simp [ordL, befL]
  | t :: ts, [], h => by simp at h
  | t :: ts, u :: us, h => by
    have h0 := ordT_same t u
    have h1 := ordT_bef t u
    have h2 := ordL_bef ts us (by simpa using h)
    rw [ordL_cons]
    cases hs : sameT t u with
    | true =>
      have e := h0.2 hs
      simp [e, befL, hs, h2]
    | false =>
      have e : ordT t u ≠ 0 := fun e => by rw [h0.1 e] at hs; cases hs
      simp [e, befL, hs, h1]
end

/-- What the stack comes to, its top first. -/
def ordS : List (List TermD × List TermD) → Int
  | [] => 0
  | p :: S => if ordL p.1 p.2 ≠ 0 then ordL p.1 p.2 else ordS S
/-- How much is left on it. -/
def sizeS : List (List TermD × List TermD) → Nat
  | [] => 0
  | p :: S => 2 * partsL p.1 + 1 + sizeS S

theorem ordS_pop (S : List (List TermD × List TermD)) : ordS (([], []) :: S) = ordS S := by simp [ordS, ordL_nil]
theorem ordS_hit {t u : TermD} {ts us : List TermD} {S : List (List TermD × List TermD)} (h : headO t u ≠ 0) : ordS ((t :: ts, u :: us) :: S) = headO t u := by
  have e : ordT t u = headO t u := by rw [ordT_eq, if_pos h]
  simp [ordS, ordL_cons, e, h]
theorem ordS_push {t u : TermD} {ts us : List TermD} {S : List (List TermD × List TermD)} (h : headO t u = 0) : ordS ((t :: ts, u :: us) :: S) = ordS ((t.kids, u.kids) :: (ts, us) :: S) := by
  have e : ordT t u = ordL t.kids u.kids := by rw [ordT_eq]; simp [h]
  simp only [ordS, ordL_cons, e]
  by_cases h1 : ordL t.kids u.kids = 0
  · simp [h1]
  · simp [h1]
theorem sizeS_push (t u : TermD) (ts us : List TermD) (S : List (List TermD × List TermD)) : sizeS ((t.kids, u.kids) :: (ts, us) :: S) < sizeS ((t :: ts, u :: us) :: S) := by
  simp only [sizeS, partsL, partsT_eq]; omega
theorem sizeS_len (S : List (List TermD × List TermD)) : S.length ≤ sizeS S := by
  induction S with
  | nil => simp [sizeS]
  | cons p S ih => simp only [sizeS, List.length_cons]; omega
end Go.Proofs.YtollijngiioonaaGreat

/- Lists of terms that read within a set of blocks, and stacks of them in a row of their own. Conditions: none. -/
namespace Go.Proofs.YtollijngiioonaaGreat
set_option maxRecDepth 100000
open Go.RowKit

/-- The slice of terms that begins at 'a' reads in w as ts, all of its blocks in S. -/
inductive RdP (w : World) (S : Nat → Prop) : Option Addr → List TermD → Prop
  | nil (a : Option Addr) : RdP w S a []
  | row (b off : Nat) (ts : List TermD) (A : Nat → Option Addr) (C : Nat → Nat) (hlt : S b) (hl : ∀ i, (h : i < ts.length) → ts[i].kids.length ≤ C i) 
      (hc : ∀ i, (h : i < ts.length) → w.cell? ⟨b, off + i * 3, none⟩ = some (.int .i64 ts[i].f) ∧ w.cell? ⟨b, off + i * 3 + 1, none⟩ = some (.int .i64 ts[i].v) ∧ w.cell? ⟨b, off + i * 3 + 2, none⟩ = some (.slice (A i) ts[i].kids.length (C i)))
      (hk : ∀ i, (h : i < ts.length) → RdP w S (A i) ts[i].kids) : RdP w S (some ⟨b, off, none⟩) ts

theorem RdK.p {w : World} {hi : Nat} {S : Nat → Prop} {a : Option Addr} {ts : List TermD} (h : RdK w hi a ts) (hs : ∀ k, k < hi → S k) : RdP w S a ts := by
  induction h with
  | nil a => exact .nil a
  | row b off ts A C hlt hl hz hc hk ih => exact .row b off ts A C (hs _ hlt) hl.2 hc ih

theorem RdP.stay {w w' : World} {S : Nat → Prop} {a : Option Addr} {ts : List TermD} (h : RdP w S a ts) (hb : Stay S w w') : RdP w' S a ts := by
  induction h with
  | nil a => exact .nil a
  | row b off ts A C hlt hl hc hk ih =>
    refine .row b off ts A C hlt hl (fun i h => ?_) ih
    obtain ⟨h0, h1, h2⟩ := hc i h
    exact ⟨hb.cell h0 hlt, hb.cell h1 hlt, hb.cell h2 hlt⟩

theorem RdP.weak {w : World} {S T : Nat → Prop} {a : Option Addr} {ts : List TermD} (h : RdP w S a ts) (hs : ∀ k, S k → T k) : RdP w T a ts := by
  induction h with
  | nil a => exact .nil a
  | row b off ts A C hlt hl hc hk ih => exact .row b off ts A C (hs _ hlt) hl hc ih

theorem RdP.head {w : World} {S : Nat → Prop} {a : Option Addr} {t : TermD} {ts : List TermD} (h : RdP w S a (t :: ts)) :
    ∃ b off a' c', a = some ⟨b, off, none⟩ ∧ S b ∧ w.cell? ⟨b, off, none⟩ = some (.int .i64 t.f) ∧ w.cell? ⟨b, off + 1, none⟩ = some (.int .i64 t.v) ∧ w.cell? ⟨b, off + 2, none⟩ = some (.slice a' t.kids.length c') ∧ t.kids.length ≤ c' ∧ RdP w S a' t.kids := by
  cases h with
  | row b off _ A C hlt hl hc hk =>
    have h0 := hc 0 (by simp)
    simp only [Nat.zero_mul, Nat.add_zero, List.getElem_cons_zero] at h0
    exact ⟨b, off, A 0, C 0, rfl, hlt, h0.1, h0.2.1, h0.2.2, hl 0 (by simp), hk 0 (by simp)⟩

theorem RdP.tail {w : World} {S : Nat → Prop} {b off : Nat} {t : TermD} {ts : List TermD} (h : RdP w S (some ⟨b, off, none⟩) (t :: ts)) : RdP w S (some ⟨b, off + 3, none⟩) ts := by
  cases h with
  | row _ _ _ A C hlt hl hc hk =>
    refine .row b (off + 3) ts (fun i => A (i + 1)) (fun i => C (i + 1)) hlt (fun i hi => ?_) (fun i hi => ?_) (fun i hi => ?_)
    · have := hl (i + 1) (by simpa using hi); simpa using this
    · have := hc (i + 1) (by simpa using hi)
      rw [show off + (i + 1) * 3 = off + 3 + i * 3 by omega] at this
      simpa using this
    · have := hk (i + 1) (by simpa using hi); simpa using this

/-- Where the rest of a list begins. -/
def tailA (b off c : Nat) : Option Addr := if c = 1 then some ⟨b, off, none⟩ else some ⟨b, off + 3, none⟩

theorem RdP.tailA {w : World} {S : Nat → Prop} {b off : Nat} {t : TermD} {ts : List TermD} (h : RdP w S (some ⟨b, off, none⟩) (t :: ts)) {c : Nat} (hc : ts.length + 1 ≤ c) : RdP w S (tailA b off c) ts := by
  unfold Go.Proofs.YtollijngiioonaaGreat.tailA
  split
  · have : ts = [] := List.eq_nil_of_length_eq_zero (by omega)
    subst this; exact .nil _
  · exact h.tail

/-- One pair of lists on the stack. -/
structure PE where
  a : Option Addr
  c : Nat
  ts : List TermD
  a' : Option Addr
  c' : Nat
  us : List TermD

/-- It reads, and its lists are of one length. -/
structure PE.Ok (e : PE) (w : World) (S : Nat → Prop) : Prop where
  r : RdP w S e.a e.ts
  r' : RdP w S e.a' e.us
  le : e.ts.length ≤ e.c
  le' : e.us.length ≤ e.c'
  eq : e.ts.length = e.us.length

theorem PE.Ok.stay {e : PE} {w w' : World} {S : Nat → Prop} (h : e.Ok w S) (hb : Stay S w w') : e.Ok w' S := ⟨h.r.stay hb, h.r'.stay hb, h.le, h.le', h.eq⟩

/-- The cells of a stack, its top last. -/
def cellsP : List PE → List Value
  | [] => []
  | e :: E => cellsP E ++ [.slice e.a e.ts.length e.c, .slice e.a' e.us.length e.c']
theorem cellsP_len (E : List PE) : (cellsP E).length = E.length * 2 := by
  induction E with
  | nil => rfl
  | cons e E ih => simp only [cellsP, List.length_append, ih, List.length_cons, List.length_nil]; omega
def dataP (E : List PE) : List (List TermD × List TermD) := E.map fun e => (e.ts, e.us)

theorem cellsP_top {w : World} {B T g c : Nat} {e : PE} {E : List PE} (h : w.ownsRow B T 2 (.slice (some ⟨g, 0, none⟩) (E.length + 1) c) (E.length + 1) (cellsP (e :: E))) :
    w.cell? ⟨g, E.length * 2, none⟩ = some (.slice e.a e.ts.length e.c) ∧ w.cell? ⟨g, E.length * 2 + 1, none⟩ = some (.slice e.a' e.us.length e.c') := by
  have hl := cellsP_len E
  refine ⟨(h.cellAt _ (by omega)).trans ?_, (h.cellAt _ (by omega)).trans ?_⟩
  · rw [cellsP, List.getElem?_append_right (by omega)]; simp [hl]
  · rw [cellsP, List.getElem?_append_right (by omega)]; simp [hl]

theorem cellsP_set {w : World} {B T g c : Nat} {e : PE} {E : List PE} (h : w.ownsRow B T 2 (.slice (some ⟨g, 0, none⟩) (E.length + 1) c) (E.length + 1) (cellsP (e :: E))) (d : PE) :
    ((w.setCell ⟨g, E.length * 2, none⟩ (.slice d.a d.ts.length d.c)).setCell ⟨g, E.length * 2 + 1, none⟩ (.slice d.a' d.us.length d.c')).ownsRow B T 2 (.slice (some ⟨g, 0, none⟩) (E.length + 1) c) (E.length + 1) (cellsP (d :: E)) := by
  have hl := cellsP_len E
  have h1 := ((h.stored (E.length * 2) (.slice d.a d.ts.length d.c)).1.stored (E.length * 2 + 1) (.slice d.a' d.us.length d.c')).1
  have e1 : ((cellsP (e :: E)).set (E.length * 2) (.slice d.a d.ts.length d.c)).set (E.length * 2 + 1) (.slice d.a' d.us.length d.c') = cellsP (d :: E) := by
    simp only [cellsP]
    rw [List.set_append_right _ _ (by omega), List.set_append_right _ _ (by omega)]
    simp [hl]
  rwa [e1] at h1

theorem cellsP_pop {w : World} {B T g c : Nat} {e : PE} {E : List PE} (h : w.ownsRow B T 2 (.slice (some ⟨g, 0, none⟩) (E.length + 1) c) (E.length + 1) (cellsP (e :: E))) :
    w.ownsRow B T 2 (.slice (some ⟨g, 0, none⟩) E.length c) E.length (cellsP E) := ownsRow_pop (cellsP_len E) h

theorem own_stay {w w' : World} {S : Nat → Prop} {base : Nat} {e : TypeId} {size : Nat} {v : Value} {n : Nat} {xs : List Value} (h : w.ownsRow base e size v n xs) (hb : Stay S w w') (hs : ∀ g, v.ownBlock = some g → S g) : w'.ownsRow base e size v n xs := by
  have hl := h.lt
  obtain ⟨h1, h2⟩ := h
  refine ⟨h1, ?_⟩
  rcases h2 with h2 | ⟨g, cap, cur, rfl, hg, hh, r⟩
  · exact .inl h2
  · exact .inr ⟨g, cap, cur, rfl, hg, by rw [hb.block g (hl g rfl).2 (hs g rfl)]; exact hh, r⟩

/-- The blocks that stay while the stack is worked on: what was there, and two of the call's own. -/
def Fx (n B k : Nat) : Prop := k < n ∨ k = B ∨ k = B + 1

/-- What lies in memory while two terms are held against each other. -/
structure OrdSt (w : World) (B T T' : Nat) (r : Int) (M : Nat) (E : List PE) (v : Value) (wr : World) : Prop where
  row : wr.ownsRow w.heap.size T 2 v E.length (cellsP E)
  k0 : ∃ cs fz, wr.heap[B]? = some (.cells cs T' fz)
  k1 : ∃ cs fz, wr.heap[B + 1]? = some (.cells cs T' fz)
  ne : T' ≠ T
  lo : w.heap.size ≤ B
  good : ∀ e ∈ E, e.Ok wr (Fx w.heap.size B)
  ord : ordS (dataP E) = r
  size : sizeS (dataP E) ≤ M
  below : Below w.heap.size w wr

namespace OrdSt
variable {w wr wr' : World} {B T T' : Nat} {r : Int} {M : Nat} {E : List PE} {v : Value}

theorem hi (h : OrdSt w B T T' r M E v wr) : B + 1 < wr.heap.size := by
  obtain ⟨cs, fz, e⟩ := h.k1; exact (Array.getElem?_eq_some_iff.1 e).1

theorem own (h : OrdSt w B T T' r M E v wr) : ∀ g, v.ownBlock = some g → ¬ Fx w.heap.size B g := by
  intro g hg hx
  have hlt := h.row.lt g hg
  rcases h.row.2 with ⟨rfl, _⟩ | ⟨g', cap, cur, rfl, _, hh, _⟩
  · cases hg
  · have e : g' = g := by simpa [Value.ownBlock] using hg
    subst e
    obtain ⟨cs, fz, e0⟩ := h.k0
    obtain ⟨cs1, fz1, e1⟩ := h.k1
    rcases hx with hx | hx | hx
    · omega
    · subst hx; rw [hh] at e0; cases e0; exact h.ne rfl
    · subst hx; rw [hh] at e1; cases e1; exact h.ne rfl

theorem on (h : OrdSt w B T T' r M E v wr) (hb : Below wr.heap.size wr wr') : OrdSt w B T T' r M E v wr' := by
  have hh := h.hi
  have hs : Stay (Fx w.heap.size B) wr wr' := .of_below hb (fun k hk _ => hk)
  refine ⟨own_on h.row hb, ?_, ?_, h.ne, h.lo, fun e he => (h.good e he).stay hs, h.ord, h.size, h.below.trans (hb.mono h.below.size)⟩
  · rw [hb.block _ (by omega)]; exact h.k0
  · rw [hb.block _ (by omega)]; exact h.k1

theorem pop {g c : Nat} {e : PE} (h : OrdSt w B T T' r M (e :: E) (.slice (some ⟨g, 0, none⟩) (E.length + 1) c) wr) (he : e.ts = []) : OrdSt w B T T' r M E (.slice (some ⟨g, 0, none⟩) E.length c) wr := by
  have he' : e.us = [] := List.eq_nil_of_length_eq_zero (by rw [← (h.good e (by simp)).eq, he]; rfl)
  have h1 := h.ord
  have h2 := h.size
  simp only [dataP, List.map_cons, he, he', ordS_pop] at h1 h2
  refine ⟨cellsP_pop h.row, h.k0, h.k1, h.ne, h.lo, fun e he => h.good e (by simp [he]), h1, ?_, h.below⟩
  simp only [sizeS] at h2
  exact Nat.le_trans (Nat.le_add_left _ _) h2

/-- Other lists stand at the stack's top. -/
theorem set {g c : Nat} {e d : PE} (h : OrdSt w B T T' r M (e :: E) (.slice (some ⟨g, 0, none⟩) (E.length + 1) c) wr) (hd : d.Ok wr (Fx w.heap.size B)) {r' : Int} (ho : ordS (dataP (d :: E)) = r') (hM : sizeS (dataP (d :: E)) ≤ M) :
    OrdSt w B T T' r' M (d :: E) (.slice (some ⟨g, 0, none⟩) (E.length + 1) c) ((wr.setCell ⟨g, E.length * 2, none⟩ (.slice d.a d.ts.length d.c)).setCell ⟨g, E.length * 2 + 1, none⟩ (.slice d.a' d.us.length d.c')) := by
  have hn := h.own g rfl
  have hlo := h.lo
  have hs : Stay (Fx w.heap.size B) wr ((wr.setCell ⟨g, E.length * 2, none⟩ (.slice d.a d.ts.length d.c)).setCell ⟨g, E.length * 2 + 1, none⟩ (.slice d.a' d.us.length d.c')) := (Stay.setCell _ _ hn).trans (Stay.setCell _ _ hn)
  have hh := h.hi
  refine ⟨cellsP_set h.row d, ?_, ?_, h.ne, h.lo, fun f hf => ?_, ho, hM, h.below.trans (hs.below h.below.size (fun k hk => .inl hk))⟩
  · rw [hs.block _ (by omega) (.inr (.inl rfl))]; exact h.k0
  · rw [hs.block _ (by omega) (.inr (.inr rfl))]; exact h.k1
  · rcases List.mem_cons.1 hf with rfl | hf
    · exact hd.stay hs
    · exact (h.good f (by simp [hf])).stay hs

/-- One more pair is put onto it. -/
theorem push {v' : Value} {d : PE} (h : OrdSt w B T T' r M E v wr) (hrow : wr'.ownsRow w.heap.size T 2 v' (E.length + 1) (cellsP E ++ [.slice d.a d.ts.length d.c, .slice d.a' d.us.length d.c'])) (hg : wr.grownBy wr' v.ownBlock) (hd : d.Ok wr (Fx w.heap.size B)) {r' : Int} (ho : ordS (dataP (d :: E)) = r') {M' : Nat} (hM : sizeS (dataP (d :: E)) ≤ M') :
    OrdSt w B T T' r' M' (d :: E) v' wr' := by
  have hs : Stay (Fx w.heap.size B) wr wr' := .grown hg (fun k hk => h.own k hk)
  have hh := h.hi
  have hlo := h.lo
  refine ⟨hrow, ?_, ?_, h.ne, h.lo, fun f hf => ?_, ho, hM, h.below.trans (hs.below h.below.size (fun k hk => .inl hk))⟩
  · rw [hs.block _ (by omega) (.inr (.inl rfl))]; exact h.k0
  · rw [hs.block _ (by omega) (.inr (.inr rfl))]; exact h.k1
  · rcases List.mem_cons.1 hf with rfl | hf
    · exact hd.stay hs
    · exact (h.good f hf).stay hs
end OrdSt

theorem own_form {w : World} {base : Nat} {e : TypeId} {size : Nat} {v : Value} {n : Nat} {xs : List Value} (h : w.ownsRow base e size v n xs) : ∃ a c, v = .slice a n c ∧ n ≤ c := by
  rcases h.2 with ⟨rfl, rfl⟩ | ⟨g, cap, _, rfl, _, _, hn, _⟩
  · exact ⟨none, 0, rfl, Nat.le_refl _⟩
  · exact ⟨_, cap, rfl, hn⟩
theorem own_slot {w : World} {base : Nat} {e : TypeId} {size : Nat} {v : Value} {n : Nat} {xs : List Value} (h : w.ownsRow base e size v (n + 1) xs) : ∃ g c, v = .slice (some ⟨g, 0, none⟩) (n + 1) c ∧ n + 1 ≤ c ∧ base ≤ g ∧ g < w.heap.size := by
  have hl := h.lt
  rcases h.2 with ⟨_, h0⟩ | ⟨g, cap, _, rfl, hb, _, hn, _⟩
  · omega
  · exact ⟨g, cap, rfl, hn, hb, (hl g rfl).2⟩

theorem two_new (w : World) (x y : Value) (t : TypeId) (n : Nat) (hn : n = w.heap.size) : ∀ j v, [x, y][j]? = some v → (w.alloc (.cells #[x, y] t)).cell? ((⟨n, 0, none⟩ : Addr).add j) = some v := by
  subst hn
  intro j v hj
  match j, hj with
  | 0, hj => simp at hj; subst hj; simp [Addr.add]
  | 1, hj => simp at hj; subst hj; simp [Addr.add]
  | j + 2, hj => simp at hj
theorem two_cell (a a' : Option Addr) (n n' c c' : Nat) : ∀ u ∈ [Value.slice a n c, Value.slice a' n' c'], u.oneCell' = true := by
  intro u hu
  simp at hu
  rcases hu with rfl | rfl <;> rfl
end Go.Proofs.YtollijngiioonaaGreat

/- Marks on lists of functions. Conditions: at most 1048577 functions. -/
namespace Go.Proofs.YtollijngiioonaaGreat
set_option maxRecDepth 100000
open Go.RowKit

theorem cat_size (c : UInt8) (s : ByteArray) : ((⟨#[c]⟩ : ByteArray) ++ s).size = s.size + 1 := by rw [ByteArray.size_append, Nat.add_comm]; rfl
theorem conv_byte (W : World) (z : Int) : (convert 22 9 (.slice (some ⟨W.heap.size, 0, none⟩) 1 1)).run Tryz.prog (W.alloc (.cells #[.int .u8 z] 5)) = .ok (.string ⟨#[UInt8.ofNat z.toNat]⟩) (W.alloc (.cells #[.int .u8 z] 5)) := by
  refine run_convert_bytes_arg _ 22 5 Tryz.underlying22 Tryz.underlying5 _ 0 1 1 [z] rfl (fun i hi => ?_) 9 Tryz.underlying9
  obtain rfl : i = 0 := by omega
  simp

set_option maxHeartbeats 1600000 in
theorem markText_any (k : Nat) (w : World) (hk : k ≤ 549755813888) :
    Calls Tryz.prog 88 #[.int .i64 k] w fun e w' => (∃ s, e = .returned (.string s)) ∧ Below w.heap.size w w' := by
  by_cases h0 : k = 0
  · subst h0
    go_enter Tryz.func88, Tryz.ntmps88
    go_wp2
    go_ret
    exact ⟨⟨_, rfl⟩, Below.refl _ _⟩
  · have h0z : ¬ ((k : Int) ≤ 0) := by omega
    go_enter Tryz.func88, Tryz.ntmps88
    go_wp2
    go_loopw [0, 3] (fun vk vs wr => ∃ (n : Nat) (s : ByteArray), vk = .int .i64 n ∧ vs = .string s ∧ s.size + n ≤ 549755813888 ∧ Below w.heap.size w wr) (fun vk _ _ => (intOf vk).toNat)
    case atStart => exact ⟨k, ⟨#[]⟩, rfl, rfl, by simp [ByteArray.size]; omega, Below.refl _ _⟩
    case round =>
      obtain ⟨n, s, rfl, rfl, hn, hb⟩ := hrel
      by_cases h1 : 0 < n
      · have h1z : (0 : Int) < (n : Int) := by omega
        have cv := conv_byte wr ((48 : Int) + (n : Int) % 10)
        go_wp2
        go_roundw
        case rel => exact ⟨n / 10, _, by go_num, rfl, by rw [cat_size]; omega, hb.alloc hb.size _⟩
        case measure => simp [intOf]; omega
      · have h1z : ¬ (0 : Int) < (n : Int) := by omega
        go_wp2
        go_ret
        exact ⟨⟨_, rfl⟩, hb⟩

set_option maxHeartbeats 3200000 in
theorem markSyms_any (B g n c : Nat) (xs0 : List Value) (k : Nat) (w : World) (hown : w.ownsRow B 103 3 (.slice (some ⟨g, 0, none⟩) n c) n xs0) (hn : n ≤ 1048577) (hk : k ≤ 4) :
    Calls Tryz.prog 40 #[.slice (some ⟨g, 0, none⟩) n c, .int .i64 k] w fun e w' => e = .returned (.int .i64 ((k : Int) + 3 * (n : Int))) ∧ Stay (fun k => k ≠ g) w w' := by
  go_enter Tryz.func40, Tryz.ntmps40
  go_wp2
  go_loopw [1, 5] (fun vk vi wr => ∃ (i : Nat) (xs : List Value), vi = .int .i64 i ∧ vk = .int .i64 ((k + 3 * i : Nat) : Int) ∧ i ≤ n ∧ wr.ownsRow B 103 3 (.slice (some ⟨g, 0, none⟩) n c) n xs ∧ Stay (fun k => k ≠ g) w wr) (fun _ vi _ => n - (intOf vi).toNat)
  case atStart => exact ⟨0, xs0, rfl, by simp, Nat.zero_le _, hown, .refl _ _⟩
  case round =>
    obtain ⟨i, xs, rfl, rfl, hi, ho, hst⟩ := hrel
    clear hown
    have hcap : n ≤ c := by obtain ⟨_, _, e, hh⟩ := own_form ho; rw [(Value.slice.inj e).2.2]; exact hh
    by_cases h1 : i < n
    · have h1z : (i : Int) < (n : Int) := by omega
      have hxl := ho.1
      have CM := markText_any (k + 3 * i) wr (by omega)
      obtain ⟨u0, e0⟩ : ∃ u, xs[i * 3]? = some u := ⟨xs[i * 3]'(by omega), by rw [List.getElem?_eq_getElem]⟩
      obtain ⟨u1, e1⟩ : ∃ u, xs[i * 3 + 1]? = some u := ⟨xs[i * 3 + 1]'(by omega), by rw [List.getElem?_eq_getElem]⟩
      obtain ⟨u2, e2⟩ : ∃ u, xs[i * 3 + 2]? = some u := ⟨xs[i * 3 + 2]'(by omega), by rw [List.getElem?_eq_getElem]⟩
      have hgl := (ho.lt g rfl).2
      have HO : Hid _ := ho
      clear ho
      go_wp2_with (go_at_call 88; refine CM.mono ?_; rintro e w1 ⟨⟨s, rfl⟩, hb⟩; have o1 := own_on HO.out hb; have c0 := (o1.cellAt (i * 3) (by omega)).trans e0; have c1 := (o1.cellAt (i * 3 + 1) (by omega)).trans e1; have c2 := (o1.cellAt (i * 3 + 2) (by omega)).trans e2; have f0 := o1.frozenAt (i * 3); have f1 := o1.frozenAt (i * 3 + 1); have f2 := o1.frozenAt (i * 3 + 2); clear CM)
      refine ⟨⟨i + 1, _, by go_num, by go_num, by omega, (((o1.stored (i * 3) _).1.stored (i * 3 + 1) _).1.stored (i * 3 + 2) _).1, ?_⟩, by simp [intOf]; omega⟩
      exact (((hst.trans (.of_below hb (fun _ hk _ => hk))).trans (.setCell _ _ (by simp))).trans (.setCell _ _ (by simp))).trans (.setCell _ _ (by simp))
    · have h1z : ¬ (i : Int) < (n : Int) := by omega
      go_wp2
      go_ret
      exact ⟨rtI (by omega), hst⟩
end Go.Proofs.YtollijngiioonaaGreat

/- Contracts of the laws' marks on a term that owns its memory: nothing else is written. Conditions: terms of at most 549755813888 parts. -/
namespace Go.Proofs.YtollijngiioonaaGreat
set_option maxRecDepth 100000
open Go.RowKit

/-- Between two worlds only blocks of S have turned. -/
structure Only (S : Nat → Prop) (w w' : World) : Prop where
  os : w'.os = w.os
  tape : w'.tape = w.tape
  output : w'.output = w.output
  size : w'.heap.size = w.heap.size
  block : ∀ x, ¬ S x → w'.heap[x]? = w.heap[x]?

theorem Only.refl (S : Nat → Prop) (w : World) : Only S w w := ⟨rfl, rfl, rfl, rfl, fun _ _ => rfl⟩
theorem Only.trans {S : Nat → Prop} {a b c : World} (h : Only S a b) (k : Only S b c) : Only S a c := ⟨k.os.trans h.os, k.tape.trans h.tape, k.output.trans h.output, k.size.trans h.size, fun x hx => (k.block x hx).trans (h.block x hx)⟩
theorem Only.mono {S S' : Nat → Prop} {a b : World} (h : Only S a b) (hs : ∀ x, S x → S' x) : Only S' a b := ⟨h.os, h.tape, h.output, h.size, fun x hx => h.block x (fun k => hx (hs x k))⟩
theorem Only.setCell {S : Nat → Prop} {a b : World} (h : Only S a b) (p : Addr) (hp : S p.block) (u : Value) : Only S a (b.setCell p u) :=
  ⟨h.os, by simp [h.tape], h.output, by simp [h.size], fun x hx => (Below.heap_setCell b p u x (fun e => hx (e ▸ hp))).trans (h.block x hx)⟩
theorem Only.below {S : Nat → Prop} {a b : World} {B : Nat} (h : Only S a b) (hs : ∀ x, S x → B ≤ x) : Below B a b := ⟨h.os, h.tape, h.output, Nat.le_of_eq h.size.symm, fun x hx => h.block x (fun k => by have := hs x k; omega)⟩
theorem Only.cell {S : Nat → Prop} {a b : World} (h : Only S a b) {p : Addr} (hp : ¬ S p.block) : b.cell? p = a.cell? p := World.cell?_of_block (h.block _ hp)
theorem Only.frozen {S : Nat → Prop} {a b : World} (h : Only S a b) {p : Addr} (hp : ¬ S p.block) : b.frozen? p = a.frozen? p := World.frozen?_of_block (h.block _ hp)

theorem rt_mark {a b : Int} (h : a = b) : Ending.returned (.int .i64 a) = .returned (.int .i64 b) := by rw [h]

/-- What is still to be marked of a row of terms. -/
structure MarkSt (wr : World) (S : Nat → Prop) (b off : Nat) (ts : List TermD) (A : Nat → Option Addr) (C : Nat → Nat) (K : Nat → Nat → Prop) (k : Nat) : Prop where
  cells : ∀ i, (h : i < ts.length) → k ≤ i → wr.cell? ⟨b, off + i * 3, none⟩ = some (.int .i64 ts[i].f) ∧ wr.cell? ⟨b, off + i * 3 + 1, none⟩ = some (.int .i64 ts[i].v) ∧ wr.cell? ⟨b, off + i * 3 + 2, none⟩ = some (.slice (A i) ts[i].kids.length (C i))
  frozen : ∀ j, wr.frozen? ⟨b, j, none⟩ = false
  kid : ∀ i, (h : i < ts.length) → k ≤ i → OwnS wr (K i) (A i) ts[i].kids

theorem MarkSt.next {wr w1 : World} {S : Nat → Prop} {b off : Nat} {ts : List TermD} {A : Nat → Option Addr} {C : Nat → Nat} {K : Nat → Nat → Prop} {k : Nat} (h : MarkSt wr S b off ts A C K k) (hk : k < ts.length)
    (hsub : ∀ i x, i < ts.length → K i x → S x ∧ x ≠ b) (hdis : ∀ i j x, i < ts.length → j < ts.length → i ≠ j → K i x → ¬ K j x) (x y : Value)
    (ho : Only (K k) ((wr.setCell ⟨b, off + k * 3, none⟩ x).setCell ⟨b, off + k * 3 + 1, none⟩ y) w1) : MarkSt w1 S b off ts A C K (k + 1) := by
  have hkb : ¬ K k b := fun e => (hsub k b hk e).2 rfl
  refine ⟨fun i hi hki => ?_, fun j => ?_, fun i hi hki => ?_⟩
  · obtain ⟨c0, c1, c2⟩ := h.cells i hi (by omega)
    have d : ∀ o v, (off + k * 3 ≠ o) → (off + k * 3 + 1 ≠ o) → wr.cell? ⟨b, o, none⟩ = some v → w1.cell? ⟨b, o, none⟩ = some v := by
      intro o v h1 h2 hv
      rw [ho.cell (p := ⟨b, o, none⟩) hkb, World.cell?_setCell_other _ _ _ _ (fun e => h2 (by injection e)), World.cell?_setCell_other _ _ _ _ (fun e => h1 (by injection e))]
      exact hv
    exact ⟨d _ _ (by omega) (by omega) c0, d _ _ (by omega) (by omega) c1, d _ _ (by omega) (by omega) c2⟩
  · rw [ho.frozen (p := ⟨b, j, none⟩) hkb]
    simp only [World.frozen?_setCell]
    exact h.frozen j
  · have hib : ¬ K i b := fun e => (hsub i b hi e).2 rfl
    have o := ((h.kid i hi (by omega)).setCell ⟨b, off + k * 3, none⟩ hib x).setCell ⟨b, off + k * 3 + 1, none⟩ hib y
    exact o.frame (fun z hz => ho.block z (fun e => hdis i k z hi hk (by omega) hz e)) (Nat.le_of_eq ho.size.symm)

set_option maxHeartbeats 1600000 in
theorem markTermS_any (N : Nat) : ∀ (ts : List TermD) (a : Option Addr) (c : Nat) (m : Int) (S : Nat → Prop) (w : World), partsL ts ≤ N → N ≤ 549755813888 → 0 ≤ m → m + 2 * partsL ts ≤ 4000000000000000 → OwnS w S a ts →
    Calls Tryz.prog 89 #[.slice a ts.length c, .int .i64 m] w fun e w' => e = .returned (.int .i64 (m + 2 * partsL ts)) ∧ Only S w w' := by
  induction N with
  | zero =>
    intro ts a c m S w hN hM hm0 hm ho
    have h1 := partsL_len ts
    have : ts = [] := List.length_eq_zero_iff.1 (by omega)
    subst this
    go_enter Tryz.func89, Tryz.ntmps89
    go_wp2_with fail
    refine wp_loop_rounds 1 ?_
    rw [rounds_succ]
    go_wp2_with fail
    go_ret
    exact ⟨by simp [partsL], Only.refl _ _⟩
  | succ N ih =>
    intro ts a c m S w hN hM hm0 hm ho
    have hlen := partsL_len ts
    cases ho with
    | nil S a =>
      go_enter Tryz.func89, Tryz.ntmps89
      go_wp2_with fail
      refine wp_loop_rounds 1 ?_
      rw [rounds_succ]
      go_wp2_with fail
      go_ret
      exact ⟨by simp [partsL], Only.refl _ _⟩
    | row S b off ts A C K hb hlt hl hz hc hf hsub hdis hk =>
      have M0 : MarkSt w S b off ts A C K 0 := ⟨fun i h _ => hc i h, hf, fun i h _ => hk i h⟩
      clear hc hf hk hz
      go_enter Tryz.func89, Tryz.ntmps89
      go_wp2_with fail
      go_loopw [1, 5] (fun l i wr => ∃ k : Nat, k ≤ ts.length ∧ i = .int .i64 k ∧ l = .int .i64 (m + 2 * partsL (ts.take k)) ∧ MarkSt wr S b off ts A C K k ∧ Only S w wr) (fun _ i _ => ts.length - (intOf i).toNat)
      case atStart => exact ⟨0, Nat.zero_le _, rfl, by simp [partsL], M0, Only.refl _ _⟩
      case round =>
        obtain ⟨k, hk, rfl, rfl, M, O⟩ := hrel
        clear M0
        have hpk := partsL_take ts k
        by_cases hk' : k < ts.length
        · obtain ⟨c0, c1, c2⟩ := M.cells k hk' (Nat.le_refl _)
          have hpg := partsL_get hk'
          have hpt := partsT_eq ts[k]
          have hpn := partsL_next hk'
          have hpk2 := partsL_take ts (k + 1)
          have hki : (k : Int) < (ts.length : Int) := by omega
          have hkb : ¬ K k b := fun e => (hsub k b hk' e).2 rfl
          have f0 := M.frozen (off + k * 3)
          have f1 := M.frozen (off + k * 3 + 1)
          obtain ⟨W, hW⟩ : ∃ W, W = (wr.setCell ⟨b, off + k * 3, none⟩ (.int .i64 (m + 2 * partsL (ts.take k)))).setCell ⟨b, off + k * 3 + 1, none⟩ (.int .i64 (m + 2 * partsL (ts.take k) + 1)) := ⟨_, rfl⟩
          have e1 : (wr.setCell ⟨b, off + k * 3, none⟩ (.int .i64 (m + 2 * partsL (ts.take k)))).cell? ⟨b, off + k * 3 + 1, none⟩ = some (.int .i64 ts[k].v) := by rw [World.cell?_setCell_other _ _ _ _ (by simp)]; exact c1
          have e2 : ((wr.setCell ⟨b, off + k * 3, none⟩ (.int .i64 (m + 2 * partsL (ts.take k)))).setCell ⟨b, off + k * 3 + 1, none⟩ (.int .i64 (m + 2 * partsL (ts.take k) + 1))).cell? ⟨b, off + k * 3 + 2, none⟩ = some (.slice (A k) ts[k].kids.length (C k)) := by rw [World.cell?_setCell_other _ _ _ _ (by simp), World.cell?_setCell_other _ _ _ _ (by simp)]; exact c2
          have oK : OwnS W (K k) (A k) ts[k].kids := by rw [hW]; exact ((M.kid k hk' (Nat.le_refl _)).setCell ⟨b, off + k * 3, none⟩ hkb _).setCell ⟨b, off + k * 3 + 1, none⟩ hkb _
          have O2 : Only S w W := by rw [hW]; exact (O.setCell ⟨b, off + k * 3, none⟩ hb _).setCell ⟨b, off + k * 3 + 1, none⟩ hb _
          have I := ih ts[k].kids (A k) (C k) (m + 2 * partsL (ts.take k) + 1 + 1) (K k) W (by omega) (by omega) (by omega) (by omega) oK
          have NX : ∀ w1, Only (K k) W w1 → MarkSt w1 S b off ts A C K (k + 1) := fun w1 h => M.next hk' hsub hdis _ _ (hW ▸ h)
          have HE : Hid (m + 2 * (partsL (ts.take k) : Int) + 1 + 1 + 2 * partsL ts[k].kids = m + 2 * partsL (ts.take (k + 1))) := by show _ = _; omega
          have hsubk : ∀ x, K k x → S x := fun x hx => (hsub k x hk' hx).1
          clear M hpt hpn oK
          go_wp2_with (go_at_call 89; rw [← hW]; refine I.mono ?_; rintro e w1 ⟨rfl, h1⟩; have M1 := NX _ h1; have O3 := O2.trans (h1.mono hsubk); clear I NX h1 O2 hW)
          go_roundw
          case rel => exact ⟨k + 1, by omega, by go_num, by rw [← HE.out], M1, O3⟩
          case measure => simp [intOf]; omega
        · have E : Hid (k = ts.length) := (by omega : k = ts.length)
          go_wp2_with fail
          go_ret
          refine ⟨rt_mark ?_, O⟩
          rw [E.out, List.take_length]

set_option maxHeartbeats 800000 in
theorem markTerm_any (t : TermD) (a : Option Addr) (c : Nat) (m : Int) (S : Nat → Prop) (w : World) (hp : partsT t ≤ 549755813888) (hm0 : 0 ≤ m) (hm : m ≤ 1000000000000000) (ho : OwnS w S a t.kids) (hs : ∀ x, S x → x < w.heap.size) :
    Calls Tryz.prog 41 #[.agg #[.int .i64 t.f, .int .i64 t.v, .slice a t.kids.length c], .int .i64 m] w fun e w' => e = .returned (.int .i64 (m + 2 * partsL t.kids)) ∧ ∃ w0, Below w.heap.size w w0 ∧ Only S w0 w' := by
  rw [partsT_eq] at hp
  have h0 : Below w.heap.size w (w.alloc (.cells #[.int .i64 t.f, .int .i64 t.v, .slice a t.kids.length c] 27)) := (Below.refl w.heap.size w).alloc (Nat.le_refl _) _
  have o1 : OwnS (w.alloc (.cells #[.int .i64 t.f, .int .i64 t.v, .slice a t.kids.length c] 27)) S a t.kids := ho.frame (fun x hx => h0.block x (hs x hx)) h0.size
  have I := markTermS_any (partsL t.kids) t.kids a c m S _ (Nat.le_refl _) (by omega) hm0 (by omega) o1
  generalize t.kids = ks at *
  go_enter Tryz.func41, Tryz.ntmps41
  go_wp2_with (go_at_call 89; refine I.mono ?_; rintro e w1 ⟨rfl, h1⟩; clear I)
  go_ret
  exact ⟨rfl, _, h0, h1⟩
end Go.Proofs.YtollijngiioonaaGreat

/- Marks on lists of terms: what is marked is held. Conditions: at most 549755813888 parts. -/
namespace Go.Proofs.YtollijngiioonaaGreat
set_option maxRecDepth 100000
open Go.RowKit

/-- The slice of terms of that shape holds the marks from k on, in blocks of S. -/
inductive Mk (w : World) : (Nat → Prop) → Option Addr → List TermD → Int → Prop
  | nil (S : Nat → Prop) (a : Option Addr) (k : Int) : Mk w S a [] k
  | row (S : Nat → Prop) (b off : Nat) (ts : List TermD) (A : Nat → Option Addr) (C : Nat → Nat) (K : Nat → Nat → Prop) (k : Int) (hb : S b)
      (hc : ∀ i, (h : i < ts.length) → w.cell? ⟨b, off + i * 3, none⟩ = some (.int .i64 (k + 2 * partsL (ts.take i))) ∧ w.cell? ⟨b, off + i * 3 + 1, none⟩ = some (.int .i64 (k + 2 * partsL (ts.take i) + 1)) ∧ w.cell? ⟨b, off + i * 3 + 2, none⟩ = some (.slice (A i) ts[i].kids.length (C i)))
      (hsub : ∀ i x, i < ts.length → K i x → S x) (hk : ∀ i, (h : i < ts.length) → Mk w (K i) (A i) ts[i].kids (k + 2 * partsL (ts.take i) + 1 + 1)) : Mk w S (some ⟨b, off, none⟩) ts k
theorem Mk.frame {w w' : World} {S : Nat → Prop} {a : Option Addr} {ts : List TermD} {k : Int} (h : Mk w S a ts k) (hs : ∀ x, S x → w'.heap[x]? = w.heap[x]?) : Mk w' S a ts k := by
  induction h with
  | nil S a k => exact .nil S a k
  | row S b off ts A C K k hb hc hsub hk ih =>
    have e := hs b hb
    refine .row S b off ts A C K k hb (fun i h => ?_) hsub (fun i h => ih i h (fun x hx => hs x (hsub i x h hx)))
    obtain ⟨h0, h1, h2⟩ := hc i h
    exact ⟨(World.cell?_of_block (a := ⟨b, _, none⟩) e).trans h0, (World.cell?_of_block (a := ⟨b, _, none⟩) e).trans h1, (World.cell?_of_block (a := ⟨b, _, none⟩) e).trans h2⟩

/-- What is marked of a row of terms so far. -/
structure MkSt (wr : World) (b off : Nat) (ts : List TermD) (A : Nat → Option Addr) (C : Nat → Nat) (K : Nat → Nat → Prop) (m : Int) (k : Nat) : Prop where
  cells : ∀ i, (h : i < ts.length) → i < k → wr.cell? ⟨b, off + i * 3, none⟩ = some (.int .i64 (m + 2 * partsL (ts.take i))) ∧ wr.cell? ⟨b, off + i * 3 + 1, none⟩ = some (.int .i64 (m + 2 * partsL (ts.take i) + 1)) ∧ wr.cell? ⟨b, off + i * 3 + 2, none⟩ = some (.slice (A i) ts[i].kids.length (C i))
  kid : ∀ i, (h : i < ts.length) → i < k → Mk wr (K i) (A i) ts[i].kids (m + 2 * partsL (ts.take i) + 1 + 1)

theorem MkSt.next {wr w1 : World} {S : Nat → Prop} {b off : Nat} {ts : List TermD} {A : Nat → Option Addr} {C : Nat → Nat} {K : Nat → Nat → Prop} {m : Int} {k : Nat} (h : MkSt wr b off ts A C K m k) (hk : k < ts.length)
    (hsub : ∀ i x, i < ts.length → K i x → S x ∧ x ≠ b) (hdis : ∀ i j x, i < ts.length → j < ts.length → i ≠ j → K i x → ¬ K j x)
    (hcs : (wr.cell? ⟨b, off + k * 3, none⟩).isSome = true ∧ (wr.cell? ⟨b, off + k * 3 + 1, none⟩).isSome = true) (hc2 : wr.cell? ⟨b, off + k * 3 + 2, none⟩ = some (.slice (A k) ts[k].kids.length (C k)))
    (ho : Only (K k) ((wr.setCell ⟨b, off + k * 3, none⟩ (.int .i64 (m + 2 * partsL (ts.take k)))).setCell ⟨b, off + k * 3 + 1, none⟩ (.int .i64 (m + 2 * partsL (ts.take k) + 1))) w1) (hm : Mk w1 (K k) (A k) ts[k].kids (m + 2 * partsL (ts.take k) + 1 + 1)) : MkSt w1 b off ts A C K m (k + 1) := by
  have hkb : ¬ K k b := fun e => (hsub k b hk e).2 rfl
  have d : ∀ o v, (off + k * 3 ≠ o) → (off + k * 3 + 1 ≠ o) → wr.cell? ⟨b, o, none⟩ = some v → w1.cell? ⟨b, o, none⟩ = some v := by
    intro o v h1 h2 hv
    rw [ho.cell (p := ⟨b, o, none⟩) hkb, World.cell?_setCell_other _ _ _ _ (fun e => h2 (by injection e)), World.cell?_setCell_other _ _ _ _ (fun e => h1 (by injection e))]
    exact hv
  refine ⟨fun i hi hik => ?_, fun i hi hik => ?_⟩
  · by_cases e : i = k
    · subst e
      refine ⟨?_, ?_, d _ _ (by omega) (by omega) hc2⟩
      · rw [ho.cell (p := ⟨b, off + i * 3, none⟩) hkb, World.cell?_setCell_other _ _ _ _ (fun e => by injection e; omega)]
        exact World.cell?_setCell_same' _ _ _ hcs.1
      · rw [ho.cell (p := ⟨b, off + i * 3 + 1, none⟩) hkb]
        refine World.cell?_setCell_same' _ _ _ ?_
        rw [World.cell?_setCell_other _ _ _ _ (fun e => by injection e; omega)]
        exact hcs.2
    · obtain ⟨c0, c1, c2⟩ := h.cells i hi (by omega)
      exact ⟨d _ _ (by omega) (by omega) c0, d _ _ (by omega) (by omega) c1, d _ _ (by omega) (by omega) c2⟩
  · by_cases e : i = k
    · subst e; exact hm
    · have hib : ∀ x, K i x → x ≠ b := fun x hx => (hsub i x hi hx).2
      refine (h.kid i hi (by omega)).frame (fun x hx => (ho.block x (fun q => hdis i k x hi hk e hx q)).trans ?_)
      rw [Below.heap_setCell _ _ _ _ (hib x hx), Below.heap_setCell _ _ _ _ (hib x hx)]

set_option maxHeartbeats 1600000 in
theorem markTermS_mk (N : Nat) : ∀ (ts : List TermD) (a : Option Addr) (c : Nat) (m : Int) (S : Nat → Prop) (w : World), partsL ts ≤ N → N ≤ 549755813888 → 0 ≤ m → m + 2 * partsL ts ≤ 4000000000000000 → OwnS w S a ts →
    Calls Tryz.prog 89 #[.slice a ts.length c, .int .i64 m] w fun e w' => e = .returned (.int .i64 (m + 2 * partsL ts)) ∧ Only S w w' ∧ Mk w' S a ts m := by
  induction N with
  | zero =>
    intro ts a c m S w hN hM hm0 hm ho
    have h1 := partsL_len ts
    have : ts = [] := List.length_eq_zero_iff.1 (by omega)
    subst this
    go_enter Tryz.func89, Tryz.ntmps89
    go_wp2_with fail
    refine wp_loop_rounds 1 ?_
    rw [rounds_succ]
    go_wp2_with fail
    go_ret
    exact ⟨by simp [partsL], Only.refl _ _, .nil _ _ _⟩
  | succ N ih =>
    intro ts a c m S w hN hM hm0 hm ho
    have hlen := partsL_len ts
    cases ho with
    | nil S a =>
      go_enter Tryz.func89, Tryz.ntmps89
      go_wp2_with fail
      refine wp_loop_rounds 1 ?_
      rw [rounds_succ]
      go_wp2_with fail
      go_ret
      exact ⟨by simp [partsL], Only.refl _ _, .nil _ _ _⟩
    | row S b off ts A C K hb hlt hl hz hc hf hsub hdis hk =>
      have M0 : MarkSt w S b off ts A C K 0 := ⟨fun i h _ => hc i h, hf, fun i h _ => hk i h⟩
      have Q0 : MkSt w b off ts A C K m 0 := ⟨fun i _ h => absurd h (Nat.not_lt_zero _), fun i _ h => absurd h (Nat.not_lt_zero _)⟩
      clear hc hf hk hz
      go_enter Tryz.func89, Tryz.ntmps89
      go_wp2_with fail
      go_loopw [1, 5] (fun l i wr => ∃ k : Nat, k ≤ ts.length ∧ i = .int .i64 k ∧ l = .int .i64 (m + 2 * partsL (ts.take k)) ∧ MarkSt wr S b off ts A C K k ∧ MkSt wr b off ts A C K m k ∧ Only S w wr) (fun _ i _ => ts.length - (intOf i).toNat)
      case atStart => exact ⟨0, Nat.zero_le _, rfl, by simp [partsL], M0, Q0, Only.refl _ _⟩
      case round =>
        obtain ⟨k, hk, rfl, rfl, M, Q, O⟩ := hrel
        clear M0 Q0
        have hpk := partsL_take ts k
        by_cases hk' : k < ts.length
        · obtain ⟨c0, c1, c2⟩ := M.cells k hk' (Nat.le_refl _)
          have hpg := partsL_get hk'
          have hpt := partsT_eq ts[k]
          have hpn := partsL_next hk'
          have hpk2 := partsL_take ts (k + 1)
          have hki : (k : Int) < (ts.length : Int) := by omega
          have hkb : ¬ K k b := fun e => (hsub k b hk' e).2 rfl
          have f0 := M.frozen (off + k * 3)
          have f1 := M.frozen (off + k * 3 + 1)
          obtain ⟨W, hW⟩ : ∃ W, W = (wr.setCell ⟨b, off + k * 3, none⟩ (.int .i64 (m + 2 * partsL (ts.take k)))).setCell ⟨b, off + k * 3 + 1, none⟩ (.int .i64 (m + 2 * partsL (ts.take k) + 1)) := ⟨_, rfl⟩
          have e1 : (wr.setCell ⟨b, off + k * 3, none⟩ (.int .i64 (m + 2 * partsL (ts.take k)))).cell? ⟨b, off + k * 3 + 1, none⟩ = some (.int .i64 ts[k].v) := by rw [World.cell?_setCell_other _ _ _ _ (by simp)]; exact c1
          have e2 : ((wr.setCell ⟨b, off + k * 3, none⟩ (.int .i64 (m + 2 * partsL (ts.take k)))).setCell ⟨b, off + k * 3 + 1, none⟩ (.int .i64 (m + 2 * partsL (ts.take k) + 1))).cell? ⟨b, off + k * 3 + 2, none⟩ = some (.slice (A k) ts[k].kids.length (C k)) := by rw [World.cell?_setCell_other _ _ _ _ (by simp), World.cell?_setCell_other _ _ _ _ (by simp)]; exact c2
          have oK : OwnS W (K k) (A k) ts[k].kids := by rw [hW]; exact ((M.kid k hk' (Nat.le_refl _)).setCell ⟨b, off + k * 3, none⟩ hkb _).setCell ⟨b, off + k * 3 + 1, none⟩ hkb _
          have O2 : Only S w W := by rw [hW]; exact (O.setCell ⟨b, off + k * 3, none⟩ hb _).setCell ⟨b, off + k * 3 + 1, none⟩ hb _
          have I := ih ts[k].kids (A k) (C k) (m + 2 * partsL (ts.take k) + 1 + 1) (K k) W (by omega) (by omega) (by omega) (by omega) oK
          have NX : ∀ w1, Only (K k) W w1 → MarkSt w1 S b off ts A C K (k + 1) := fun w1 h => M.next hk' hsub hdis _ _ (hW ▸ h)
          have NQ : ∀ w1, Only (K k) W w1 → Mk w1 (K k) (A k) ts[k].kids (m + 2 * partsL (ts.take k) + 1 + 1) → MkSt w1 b off ts A C K m (k + 1) := fun w1 h h' => Q.next hk' hsub hdis ⟨by rw [c0]; rfl, by rw [c1]; rfl⟩ c2 (hW ▸ h) h'
          have HE : Hid (m + 2 * (partsL (ts.take k) : Int) + 1 + 1 + 2 * partsL ts[k].kids = m + 2 * partsL (ts.take (k + 1))) := by show _ = _; omega
          have hsubk : ∀ x, K k x → S x := fun x hx => (hsub k x hk' hx).1
          clear M Q hpt hpn oK
          go_wp2_with (go_at_call 89; rw [← hW]; refine I.mono ?_; rintro e w1 ⟨rfl, h1, h1'⟩; have M1 := NX _ h1; have Q1 := NQ _ h1 h1'; have O3 := O2.trans (h1.mono hsubk); clear I NX NQ h1 h1' O2 hW)
          go_roundw
          case rel => exact ⟨k + 1, by omega, by go_num, by rw [← HE.out], M1, Q1, O3⟩
          case measure => simp [intOf]; omega
        · have E : Hid (k = ts.length) := (by omega : k = ts.length)
          have MF : Mk wr S (some ⟨b, off, none⟩) ts m := .row S b off ts A C K m hb (fun i h => Q.cells i h (by omega)) (fun i x h hx => (hsub i x h hx).1) (fun i h => Q.kid i h (by omega))
          clear M Q
          go_wp2_with fail
          go_ret
          refine ⟨rt_mark ?_, O, MF⟩
          rw [E.out, List.take_length]

set_option maxHeartbeats 800000 in
theorem markTerm_mk (t : TermD) (a : Option Addr) (c : Nat) (m : Int) (S : Nat → Prop) (w : World) (hp : partsT t ≤ 549755813888) (hm0 : 0 ≤ m) (hm : m ≤ 1000000000000000) (ho : OwnS w S a t.kids) (hs : ∀ x, S x → x < w.heap.size) :
    Calls Tryz.prog 41 #[.agg #[.int .i64 t.f, .int .i64 t.v, .slice a t.kids.length c], .int .i64 m] w fun e w' => e = .returned (.int .i64 (m + 2 * partsL t.kids)) ∧ Mk w' S a t.kids m ∧ ∃ w0, Below w.heap.size w w0 ∧ Only S w0 w' := by
  rw [partsT_eq] at hp
  have h0 : Below w.heap.size w (w.alloc (.cells #[.int .i64 t.f, .int .i64 t.v, .slice a t.kids.length c] 27)) := (Below.refl w.heap.size w).alloc (Nat.le_refl _) _
  have o1 : OwnS (w.alloc (.cells #[.int .i64 t.f, .int .i64 t.v, .slice a t.kids.length c] 27)) S a t.kids := ho.frame (fun x hx => h0.block x (hs x hx)) h0.size
  have I := markTermS_mk (partsL t.kids) t.kids a c m S _ (Nat.le_refl _) (by omega) hm0 (by omega) o1
  generalize t.kids = ks at *
  go_enter Tryz.func41, Tryz.ntmps41
  go_wp2_with (go_at_call 89; refine I.mono ?_; rintro e w1 ⟨rfl, h1, h2⟩; clear I)
  go_ret
  exact ⟨rfl, h2, _, h0, h1⟩

set_option maxHeartbeats 1600000 in
theorem heldTermS_any (N : Nat) : ∀ (ts : List TermD) (a : Option Addr) (c : Nat) (m : Int) (S : Nat → Prop) (w : World), partsL ts ≤ N → N ≤ 549755813888 → 0 ≤ m → m + 2 * partsL ts ≤ 4000000000000000 → Mk w S a ts m →
    Calls Tryz.prog 90 #[.slice a ts.length c, .int .i64 m] w fun e w' => e = .returned (.int .i64 (m + 2 * partsL ts)) ∧ w' = w := by
  induction N with
  | zero =>
    intro ts a c m S w hN hM hm0 hm ho
    have h1 := partsL_len ts
    have : ts = [] := List.length_eq_zero_iff.1 (by omega)
    subst this
    go_enter Tryz.func90, Tryz.ntmps90
    go_wp2_with fail
    refine wp_loop_rounds 1 ?_
    rw [rounds_succ]
    go_wp2_with fail
    go_ret
    exact ⟨by simp [partsL], rfl⟩
  | succ N ih =>
    intro ts a c m S w hN hM hm0 hm ho
    have hlen := partsL_len ts
    cases ho with
    | nil S a k =>
      go_enter Tryz.func90, Tryz.ntmps90
      go_wp2_with fail
      refine wp_loop_rounds 1 ?_
      rw [rounds_succ]
      go_wp2_with fail
      go_ret
      exact ⟨by simp [partsL], rfl⟩
    | row S b off ts A C K k hb hc hsub hk =>
      have HC : Hid _ := hc
      have HK : Hid _ := hk
      clear hc hk
      go_enter Tryz.func90, Tryz.ntmps90
      go_wp2_with fail
      go_loopw [1, 5] (fun l i wr => ∃ k : Nat, k ≤ ts.length ∧ i = .int .i64 k ∧ l = .int .i64 (m + 2 * partsL (ts.take k)) ∧ wr = w) (fun _ i _ => ts.length - (intOf i).toNat)
      case atStart => exact ⟨0, Nat.zero_le _, rfl, by simp [partsL], rfl⟩
      case round =>
        obtain ⟨k, hk, rfl, rfl, hw⟩ := hrel
        subst wr
        have hpk := partsL_take ts k
        by_cases hk' : k < ts.length
        · obtain ⟨c0, c1, c2⟩ := HC.out k hk'
          have hpg := partsL_get hk'
          have hpt := partsT_eq ts[k]
          have hpn := partsL_next hk'
          have hpk2 := partsL_take ts (k + 1)
          have hki : (k : Int) < (ts.length : Int) := by omega
          have I := ih ts[k].kids (A k) (C k) (m + 2 * partsL (ts.take k) + 1 + 1) (K k) w (by omega) (by omega) (by omega) (by omega) (HK.out k hk')
          have HE : Hid (m + 2 * (partsL (ts.take k) : Int) + 1 + 1 + 2 * partsL ts[k].kids = m + 2 * partsL (ts.take (k + 1))) := by show _ = _; omega
          have hnn : ¬ (m + 2 * (partsL (ts.take k) : Int) + 1 + 1 + 2 * partsL ts[k].kids < 0) := by omega
          clear hpt hpn
          go_wp2_with (go_at_call 90; refine I.mono ?_; rintro e w1 ⟨rfl, hw1⟩; subst w1; clear I)
          go_roundw
          case rel => exact ⟨k + 1, by omega, by go_num, by rw [← HE.out], by first | trivial | rfl⟩
          case measure => simp [intOf]; omega
        · have E : Hid (k = ts.length) := (by omega : k = ts.length)
          go_wp2_with fail
          go_ret
          refine ⟨rt_mark ?_, rfl⟩
          rw [E.out, List.take_length]

set_option maxHeartbeats 800000 in
theorem heldTerm_any (t : TermD) (a : Option Addr) (c : Nat) (m : Int) (S : Nat → Prop) (w : World) (hp : partsT t ≤ 549755813888) (hm0 : 0 ≤ m) (hm : m ≤ 1000000000000000) (ho : Mk w S a t.kids m) (hs : ∀ x, S x → x < w.heap.size) :
    Calls Tryz.prog 42 #[.agg #[.int .i64 t.f, .int .i64 t.v, .slice a t.kids.length c], .int .i64 m] w fun e w' => e = .returned (.int .i64 (m + 2 * partsL t.kids)) ∧ Below w.heap.size w w' := by
  rw [partsT_eq] at hp
  have h0 : Below w.heap.size w (w.alloc (.cells #[.int .i64 t.f, .int .i64 t.v, .slice a t.kids.length c] 27)) := (Below.refl w.heap.size w).alloc (Nat.le_refl _) _
  have I := heldTermS_any (partsL t.kids) t.kids a c m S _ (Nat.le_refl _) (by omega) hm0 (by omega) (ho.frame (fun x hx => h0.block x (hs x hx)))
  have hnn : ¬ (m + 2 * (partsL t.kids : Int) < 0) := by omega
  generalize t.kids = ks at *
  go_enter Tryz.func42, Tryz.ntmps42
  go_wp2_with (go_at_call 90; refine I.mono ?_; rintro e w1 ⟨rfl, hw1⟩; subst w1; clear I)
  go_ret
  exact ⟨rfl, h0⟩
end Go.Proofs.YtollijngiioonaaGreat

/- Contracts of the laws' copies of terms. Conditions: terms of at most 549755813888 parts. -/
namespace Go.Proofs.YtollijngiioonaaGreat
set_option maxRecDepth 100000
open Go.RowKit

set_option maxHeartbeats 1600000 in
theorem toTerm_of (t : TermD) (a : Option Addr) (c : Nat) (w : World)
    (H : ∀ w', Below w.heap.size w w' → Calls Tryz.prog 84 #[.slice a t.kids.length c] w' fun e w'' => e = .returned (.slice (some ⟨w'.heap.size, 0, none⟩) t.kids.length t.kids.length) ∧ OwnS w'' (fun x => w'.heap.size ≤ x ∧ x < w''.heap.size) (some ⟨w'.heap.size, 0, none⟩) t.kids ∧ Below w'.heap.size w' w'') :
    Calls Tryz.prog 36 #[.agg #[.int .i64 t.f, .int .i64 t.v, .slice a t.kids.length c]] w fun e w' => ∃ a', e = .returned (.agg #[.int .i64 t.f, .int .i64 t.v, .slice a' t.kids.length t.kids.length]) ∧ OwnS w' (fun x => w.heap.size ≤ x ∧ x < w'.heap.size) a' t.kids ∧ Below w.heap.size w w' := by
  generalize t.kids = ks at *
  obtain ⟨W, hW⟩ : ∃ W, W = (((w.alloc (.cells #[.int .i64 t.f, .int .i64 t.v, .slice a ks.length c] 55)).alloc (.cells #[.int .i64 0, .int .i64 0, .slice none 0 0] 27)).alloc (.cells #[.int .i64 t.f, .int .i64 t.v, .slice none 0 0] 27)) := ⟨_, rfl⟩
  have hWs : W.heap.size = w.heap.size + 1 + 1 + 1 := by rw [hW]; simp
  have h0 : Below w.heap.size w W := by rw [hW]; exact (((Below.refl _ _).alloc (Nat.le_refl _) _).alloc (by simp) _).alloc (by simp; omega) _
  have H1 := H W h0
  have x0 : W.cell? ⟨w.heap.size + 1, 0, none⟩ = some (.int .i64 0) := by rw [hW]; simp [go_sem]
  have x1 : W.cell? ⟨w.heap.size + 1, 1, none⟩ = some (.int .i64 0) := by rw [hW]; simp [go_sem]
  have x2 : W.cell? ⟨w.heap.size + 1, 2, none⟩ = some (.slice none 0 0) := by rw [hW]; simp [go_sem]
  have y0 : W.cell? ⟨w.heap.size + 1 + 1, 0, none⟩ = some (.int .i64 t.f) := by rw [hW]; simp [go_sem]
  have y1 : W.cell? ⟨w.heap.size + 1 + 1, 1, none⟩ = some (.int .i64 t.v) := by rw [hW]; simp [go_sem]
  have y2 : W.cell? ⟨w.heap.size + 1 + 1, 2, none⟩ = some (.slice none 0 0) := by rw [hW]; simp [go_sem]
  have fz : ∀ j, W.frozen? ⟨w.heap.size + 1, j, none⟩ = false := by intro j; rw [hW]; simp [go_sem]
  have gz : ∀ j, W.frozen? ⟨w.heap.size + 1 + 1, j, none⟩ = false := by intro j; rw [hW]; simp [go_sem]
  rw [hWs] at H1
  clear H
  go_enter Tryz.func36, Tryz.ntmps36
  go_wp2_with (go_at_call 84; (rw [← hW]; refine H1.mono ?_; rintro e w1 ⟨rfl, ho1, hb1⟩; have hb3 := hb1; have hbW : Below W.heap.size W w1 := (by rw [hWs]; exact hb1); have a0 := keepC hbW x0; have a1 := keepC hbW x1; have a2 := keepC hbW x2; have b0 := keepC hbW y0; have b1 := keepC hbW y1; have b2 := keepC hbW y2; have fa : ∀ j, w1.frozen? ⟨w.heap.size + 1, j, none⟩ = false := (fun j => (World.frozen?_of_block (a := ⟨w.heap.size + 1, j, none⟩) (hb3.block (w.heap.size + 1) (by omega))).trans (fz j)); have fb : ∀ j, w1.frozen? ⟨w.heap.size + 1 + 1, j, none⟩ = false := (fun j => (World.frozen?_of_block (a := ⟨w.heap.size + 1 + 1, j, none⟩) (hb3.block (w.heap.size + 1 + 1) (by omega))).trans (gz j)); have hB1 := h0.trans (hbW.mono h0.size); have hsz := hb3.size; clear H1 hb1 hb3 hbW x0 x1 x2 y0 y1 y2 fz gz h0 hW))
  have other : ∀ j, (w1.setCell ⟨w.heap.size + 1 + 1, 2, none⟩ (.slice (some ⟨w.heap.size + 1 + 1 + 1, 0, none⟩) ks.length ks.length)).cell? ⟨w.heap.size + 1, j, none⟩ = w1.cell? ⟨w.heap.size + 1, j, none⟩ := fun j => World.cell?_setCell_other _ _ _ _ (by simp)
  obtain ⟨q0, q1, q2⟩ := set3_cells (u := w1.setCell ⟨w.heap.size + 1 + 1, 2, none⟩ (.slice (some ⟨w.heap.size + 1 + 1 + 1, 0, none⟩) ks.length ks.length)) (r := w.heap.size + 1) (x := .int .i64 t.f) (y := .int .i64 t.v) (z := .slice (some ⟨w.heap.size + 1 + 1 + 1, 0, none⟩) ks.length ks.length) ((other 0).trans a0) ((other 1).trans a1) ((other 2).trans a2)
  have hn2 : ¬ (w.heap.size + 1 + 1 + 1 ≤ w.heap.size + 1 + 1 ∧ w.heap.size + 1 + 1 < w1.heap.size) := by omega
  have hn1 : ¬ (w.heap.size + 1 + 1 + 1 ≤ w.heap.size + 1 ∧ w.heap.size + 1 < w1.heap.size) := by omega
  have O := (((ho1.setCell ⟨w.heap.size + 1 + 1, 2, none⟩ hn2 (.slice (some ⟨w.heap.size + 1 + 1 + 1, 0, none⟩) ks.length ks.length)).setCell ⟨w.heap.size + 1, 0, none⟩ hn1 (.int .i64 t.f)).setCell ⟨w.heap.size + 1, 1, none⟩ hn1 (.int .i64 t.v)).setCell ⟨w.heap.size + 1, 2, none⟩ hn1 (.slice (some ⟨w.heap.size + 1 + 1 + 1, 0, none⟩) ks.length ks.length)
  refine bodyPost_ret (v := .agg #[.int .i64 t.f, .int .i64 t.v, .slice (some ⟨w.heap.size + 1 + 1 + 1, 0, none⟩) ks.length ks.length]) (by simp [results, Tryz.results36, go_sem, q0, q1, q2]) rfl ⟨_, rfl, O.mono (fun x hx => ⟨by omega, by simpa using hx.2⟩), ?_⟩
  exact (((hB1.setCell (p := ⟨w.heap.size + 1 + 1, 2, none⟩) (by simp; omega) _).setCell (p := ⟨w.heap.size + 1, 0, none⟩) (by simp) _).setCell (p := ⟨w.heap.size + 1, 1, none⟩) (by simp) _).setCell (p := ⟨w.heap.size + 1, 2, none⟩) (by simp) _

theorem info29 : (Tryz.prog.info? 27).map (fun i => (i.zero, i.size, i.bytes)) = some (some (.agg #[.int .i64 0, .int .i64 0, .slice none 0 0]), 3, 40) := by kernel_rfl

/-- What lies in memory when the first k terms of a list are copied. -/
structure CopySt (w wr : World) (ts : List TermD) (k : Nat) (A : Nat → Option Addr) (L : Nat → Nat) : Prop where
  row : wr.ownsRow w.heap.size 27 3 (.slice (some ⟨w.heap.size, 0, none⟩) ts.length ts.length) ts.length (cs3 (laidTo ts A k))
  low : w.heap.size < L 0
  mono : ∀ i, i < k → L i ≤ L (i + 1)
  top : L k ≤ wr.heap.size
  kid : ∀ i, (h : i < ts.length) → i < k → OwnS wr (fun x => L i ≤ x ∧ x < L (i + 1)) (A i) ts[i].kids
  below : Below w.heap.size w wr

theorem CopySt.le {w wr : World} {ts : List TermD} {k : Nat} {A : Nat → Option Addr} {L : Nat → Nat} (h : CopySt w wr ts k A L) : ∀ i j, i ≤ j → j ≤ k → L i ≤ L j := by
  intro i j
  induction j with
  | zero => intro h1 _; have : i = 0 := by omega
            subst this; exact Nat.le_refl _
  | succ j ih =>
    intro h1 h2
    by_cases e : i = j + 1
    · subst e; exact Nat.le_refl _
    · exact Nat.le_trans (ih (by omega) (by omega)) (h.mono j (by omega))

theorem CopySt.done {w wr : World} {ts : List TermD} {A : Nat → Option Addr} {L : Nat → Nat} (h : CopySt w wr ts ts.length A L) (hl : ts.length ≤ 9223372036854775807) (hz : ∀ i, (h : i < ts.length) → isW ts[i].f ∧ isW ts[i].v) :
    OwnS wr (fun x => w.heap.size ≤ x ∧ x < wr.heap.size) (some ⟨w.heap.size, 0, none⟩) ts := by
  have hlt := (h.row.lt _ rfl).2
  refine .row _ w.heap.size 0 ts A (fun i => (ts[i]?.getD default).kids.length) (fun i x => L i ≤ x ∧ x < L (i + 1)) ⟨Nat.le_refl _, hlt⟩ hlt ⟨hl, fun i hi => by simp [hi]⟩ hz (fun i hi => ?_) (fun j => h.row.frozenAt j) (fun i x hi hx => ?_) (fun i j x hi hj hne hx hy => ?_) (fun i hi => h.kid i hi hi)
  · obtain ⟨c0, c1, c2⟩ := cs3_cells (by rw [laidTo_len]) (k := i) (by rw [laidTo_len]; exact hi) h.row
    have e : (laidTo ts A ts.length)[i]'(by rw [laidTo_len]; exact hi) = (.int .i64 ts[i].f, .int .i64 ts[i].v, .slice (A i) ts[i].kids.length ts[i].kids.length) := by
      simp [laidTo, hi]
    rw [e] at c0 c1 c2
    simp only [Nat.zero_add]
    exact ⟨c0, c1, by simpa [hi] using c2⟩
  · have h1 := h.le 0 i (by omega) (by omega)
    have h2 := h.le (i + 1) ts.length (by omega) (Nat.le_refl _)
    have h3 := h.low
    have h4 := h.top
    exact ⟨⟨by omega, by omega⟩, by omega⟩
  · rcases Nat.lt_or_gt_of_ne hne with hh | hh
    · have := h.le (i + 1) j (by omega) (by omega)
      omega
    · have := h.le (j + 1) i (by omega) (by omega)
      omega

/-- One more term is copied. -/
theorem CopySt.step {w wr w1 : World} {ts : List TermD} {k : Nat} {A : Nat → Option Addr} {L : Nat → Nat} (h : CopySt w wr ts k A L) (hk : k < ts.length) {a' : Option Addr} (ho : OwnS w1 (fun x => wr.heap.size ≤ x ∧ x < w1.heap.size) a' ts[k].kids) (hb : Below wr.heap.size wr w1) :
    CopySt w (((w1.setCell ⟨w.heap.size, k * 3, none⟩ (.int .i64 ts[k].f)).setCell ⟨w.heap.size, k * 3 + 1, none⟩ (.int .i64 ts[k].v)).setCell ⟨w.heap.size, k * 3 + 2, none⟩ (.slice a' ts[k].kids.length ts[k].kids.length)) ts (k + 1) (fun i => if i = k then a' else A i) (fun i => if i ≤ k then L i else w1.heap.size) := by
  have h3 := h.low
  have h4 := h.top
  have h5 := hb.size
  have hle := h.le
  refine ⟨?_, ?_, fun i hi => ?_, ?_, fun i hi hik => ?_, ?_⟩
  · have r := cs3_store (t := (.int .i64 ts[k].f, .int .i64 ts[k].v, .slice a' ts[k].kids.length ts[k].kids.length)) (k := k) (by rw [laidTo_len]; exact hk) (own_on h.row hb)
    rwa [laidTo_set ts A hk a'] at r
  · simp only [Nat.zero_le, if_true]; exact h3
  · by_cases e : i = k
    · subst e
      simp only [Nat.le_refl, if_true, show ¬ i + 1 ≤ i by omega, if_false]; omega
    · simp only [show i ≤ k by omega, show i + 1 ≤ k by omega, if_true]; exact h.mono i (by omega)
  · simp only [show ¬ k + 1 ≤ k by omega, if_false, World.size_setCell]; exact Nat.le_refl _
  · have h0i := hle 0 i (by omega) (by omega)
    by_cases e : i = k
    · subst e
      simp only [Nat.le_refl, if_true, show ¬ i + 1 ≤ i by omega, if_false]
      have hn : ¬ (L i ≤ w.heap.size ∧ w.heap.size < w1.heap.size) := by omega
      exact (((ho.mono (S' := fun x => L i ≤ x ∧ x < w1.heap.size) (fun x hx => ⟨by omega, hx.2⟩)).setCell ⟨w.heap.size, i * 3, none⟩ hn _).setCell ⟨w.heap.size, i * 3 + 1, none⟩ hn _).setCell ⟨w.heap.size, i * 3 + 2, none⟩ hn _
    · simp only [show i ≤ k by omega, show i + 1 ≤ k by omega, if_true, e, if_false]
      have h6 := hle (i + 1) k (by omega) (Nat.le_refl _)
      have hn : ¬ (L i ≤ w.heap.size ∧ w.heap.size < L (i + 1)) := by omega
      have o := (h.kid i hi (by omega)).frame (w' := w1) (fun x hx => hb.block x (by omega)) hb.size
      exact ((o.setCell ⟨w.heap.size, k * 3, none⟩ hn _).setCell ⟨w.heap.size, k * 3 + 1, none⟩ hn _).setCell ⟨w.heap.size, k * 3 + 2, none⟩ hn _
  · have hB := h.below.trans (hb.mono h.below.size)
    exact ((hB.setCell (p := ⟨w.heap.size, k * 3, none⟩) (Nat.le_refl _) _).setCell (p := ⟨w.heap.size, k * 3 + 1, none⟩) (Nat.le_refl _) _).setCell (p := ⟨w.heap.size, k * 3 + 2, none⟩) (Nat.le_refl _) _

set_option maxHeartbeats 1600000 in
theorem toTermS_any (N : Nat) : ∀ (ts : List TermD) (a : Option Addr) (c hi : Nat) (w : World), partsL ts ≤ N → N ≤ 549755813888 → RdK w hi a ts → hi ≤ w.heap.size →
    Calls Tryz.prog 84 #[.slice a ts.length c] w fun e w' => e = .returned (.slice (some ⟨w.heap.size, 0, none⟩) ts.length ts.length) ∧ OwnS w' (fun x => w.heap.size ≤ x ∧ x < w'.heap.size) (some ⟨w.heap.size, 0, none⟩) ts ∧ Below w.heap.size w w' := by
  obtain ⟨i0, hi0, hz0, hz1, hz2⟩ := info_parts info29
  induction N with
  | zero =>
    intro ts a c hi w hN hM hr hhi
    have h1 := partsL_len ts
    have : ts = [] := List.length_eq_zero_iff.1 (by omega)
    subst this
    go_enter Tryz.func84, Tryz.ntmps84
    go_wp2_with (first
      | (at_make; refine wpList_make_full _ rfl _ _ 25 rfl w.heap.size 27 i0 _ 3 Tryz.underlying25 hi0 hz0 hz1 _ _ _ _ 0 rfl rfl rfl rfl (by omega) (by unfold maxLen; omega) (Nat.le_refl _) ?_; intro w1 hown hgrow))
    refine wp_loop_rounds 1 ?_
    rw [rounds_succ]
    go_wp2_with fail
    go_ret
    exact ⟨rfl, .nil _ _, (Below.refl _ _).grown hgrow (Nat.le_refl _) (by simp)⟩
  | succ N ih =>
    intro ts a c hi w hN hM hr hhi
    have hlen := partsL_len ts
    have HZ : Hid (∀ i, (h : i < ts.length) → isW ts[i].f ∧ isW ts[i].v) := fun i h => hr.ints h
    have HR : Hid (RdK w hi a ts) := hr
    clear hr
    go_enter Tryz.func84, Tryz.ntmps84
    go_wp2_with (first
      | (at_make; refine wpList_make_full _ rfl _ _ 25 rfl w.heap.size 27 i0 _ 3 Tryz.underlying25 hi0 hz0 hz1 _ _ _ _ ts.length rfl rfl rfl rfl (by rw [hz2]; omega) (by unfold maxLen; omega) (Nat.le_refl _) ?_; intro w1 hown hgrow))
    have hlt1 : w.heap.size < w1.heap.size := (hown.lt _ rfl).2
    have S0 : CopySt w w1 ts 0 (fun _ => none) (fun _ => w1.heap.size) := ⟨by rw [laidTo_zero, ← cs3_made]; exact hown, hlt1, fun i hi => absurd hi (by omega), Nat.le_refl _, fun i _ hi => absurd hi (by omega), (Below.refl _ _).grown hgrow (Nat.le_refl _) (by simp)⟩
    clear hown hgrow hlt1
    go_loopw [4] (fun i wr => ∃ (k : Nat) (A : Nat → Option Addr) (L : Nat → Nat), k ≤ ts.length ∧ i = .int .i64 k ∧ CopySt w wr ts k A L) (fun i _ => ts.length - (intOf i).toNat)
    case atStart => exact ⟨0, _, _, Nat.zero_le _, rfl, S0⟩
    case round =>
      obtain ⟨k, A, L, hk, rfl, S⟩ := hrel
      clear S0
      by_cases hk' : k < ts.length
      · obtain ⟨b, off, a', c', rfl, hlt, d0, d1, d2, hkr⟩ := RdK.kid (HR.out.on (S.below.mono hhi)) hk'
        have hpg := partsL_get hk'
        have hpt := partsT_eq ts[k]
        have hki : (k : Int) < (ts.length : Int) := by omega
        have hwr := Nat.le_trans hhi S.below.size
        have T := toTerm_of ts[k] a' c' wr (fun w' h => ih ts[k].kids a' c' hi w' (by omega) (by omega) (hkr.on (h.mono hwr)) (Nat.le_trans hwr h.size))
        have hlen2 := laidTo_len ts A k
        have hkl : k < (laidTo ts A k).length := by rw [hlen2]; exact hk'
        clear hkr hpt
        go_wp2_with (go_at_call 36; refine T.mono ?_; rintro e w2 ⟨a2, rfl, ho, hb⟩; clear T; have S1 := S.step hk' ho hb; have hown2 := own_on S.row hb; obtain ⟨e0, e1, e2⟩ := cs3_cells hlen2.symm hkl hown2; have f0 := hown2.frozenAt (k * 3); have f1 := hown2.frozenAt (k * 3 + 1); have f2 := hown2.frozenAt (k * 3 + 2); clear hown2 S ho hb d0 d1 d2 hlen2)
        go_roundw
        case rel => exact ⟨k + 1, _, _, by omega, by go_num, S1⟩
        case measure => simp [intOf]; omega
      · have e : k = ts.length := by omega
        have S1 : CopySt w wr ts ts.length A L := e ▸ S
        clear e S
        go_wp2_with fail
        go_ret
        exact ⟨rfl, S1.done (by omega) HZ.out, S1.below⟩

theorem toTerm_any (t : TermD) (a : Option Addr) (c hi : Nat) (w : World) (hp : partsT t ≤ 549755813888) (hr : RdK w hi a t.kids) (hhi : hi ≤ w.heap.size) :
    Calls Tryz.prog 36 #[.agg #[.int .i64 t.f, .int .i64 t.v, .slice a t.kids.length c]] w fun e w' => ∃ a', e = .returned (.agg #[.int .i64 t.f, .int .i64 t.v, .slice a' t.kids.length t.kids.length]) ∧ OwnS w' (fun x => w.heap.size ≤ x ∧ x < w'.heap.size) a' t.kids ∧ Below w.heap.size w w' :=
  toTerm_of t a c w (fun w' h => toTermS_any (partsL t.kids) t.kids a c hi w' (Nat.le_refl _) (by rw [partsT_eq] at hp; omega) (hr.on (h.mono hhi)) (Nat.le_trans hhi h.size))
end Go.Proofs.YtollijngiioonaaGreat

/- Contracts of the laws' comparison of terms, where both read as the same. Conditions: terms of at most 549755813888 parts. -/
namespace Go.Proofs.YtollijngiioonaaGreat
set_option maxRecDepth 100000
open Go.RowKit

set_option maxHeartbeats 1600000 in
theorem eqTerm_of (t : TermD) (a a' : Option Addr) (c c' : Nat) (w : World)
    (H : ∀ w', Below w.heap.size w w' → Calls Tryz.prog 86 #[.slice a t.kids.length c, .slice a' t.kids.length c'] w' fun e w'' => e = .returned (.bool true) ∧ Below w'.heap.size w' w'') :
    Calls Tryz.prog 38 #[.agg #[.int .i64 t.f, .int .i64 t.v, .slice a t.kids.length c], .agg #[.int .i64 t.f, .int .i64 t.v, .slice a' t.kids.length c']] w fun e w' => e = .returned (.bool true) ∧ Below w.heap.size w w' := by
  generalize t.kids = ks at *
  have h0 : Below w.heap.size w ((w.alloc (.cells #[.int .i64 t.f, .int .i64 t.v, .slice a ks.length c] 27)).alloc (.cells #[.int .i64 t.f, .int .i64 t.v, .slice a' ks.length c'] 27)) := ((Below.refl _ _).alloc (Nat.le_refl _) _).alloc (by simp) _
  have H1 := H _ h0
  clear H
  go_enter Tryz.func38, Tryz.ntmps38
  go_wp2_with (go_at_call 86; refine H1.mono ?_; rintro e w1 ⟨rfl, hb1⟩; clear H1)
  go_ret
  exact ⟨rfl, h0.trans (hb1.mono h0.size)⟩

set_option maxHeartbeats 1600000 in
theorem eqTermS_same (N : Nat) : ∀ (ts : List TermD) (a a' : Option Addr) (c c' hi : Nat) (w : World), partsL ts ≤ N → N ≤ 549755813888 → RdK w hi a ts → RdK w hi a' ts → hi ≤ w.heap.size →
    Calls Tryz.prog 86 #[.slice a ts.length c, .slice a' ts.length c'] w fun e w' => e = .returned (.bool true) ∧ Below w.heap.size w w' := by
  induction N with
  | zero =>
    intro ts a a' c c' hi w hN hM hr hr' hhi
    have h1 := partsL_len ts
    have : ts = [] := List.length_eq_zero_iff.1 (by omega)
    subst this
    go_enter Tryz.func86, Tryz.ntmps86
    go_wp2_with fail
    refine wp_loop_rounds 1 ?_
    rw [rounds_succ]
    go_wp2_with fail
    go_ret
    exact ⟨rfl, Below.refl _ _⟩
  | succ N ih =>
    intro ts a a' c c' hi w hN hM hr hr' hhi
    have hlen := partsL_len ts
    have HR : Hid (RdK w hi a ts) := hr
    have HR' : Hid (RdK w hi a' ts) := hr'
    clear hr hr'
    go_enter Tryz.func86, Tryz.ntmps86
    go_wp2_with fail
    go_loopw [5] (fun i wr => ∃ k : Nat, k ≤ ts.length ∧ i = .int .i64 k ∧ Below w.heap.size w wr) (fun i _ => ts.length - (intOf i).toNat)
    case atStart => exact ⟨0, Nat.zero_le _, rfl, Below.refl _ _⟩
    case round =>
      obtain ⟨k, hk, rfl, hbr⟩ := hrel
      by_cases hk' : k < ts.length
      · obtain ⟨b, off, e1, c1, rfl, hlt, d0, d1, d2, hkr⟩ := RdK.kid (HR.out.on (hbr.mono hhi)) hk'
        obtain ⟨b', off', e2, c2, rfl, hlt', g0, g1, g2, hkr'⟩ := RdK.kid (HR'.out.on (hbr.mono hhi)) hk'
        have hpg := partsL_get hk'
        have hpt := partsT_eq ts[k]
        have hki : (k : Int) < (ts.length : Int) := by omega
        have hwr := Nat.le_trans hhi hbr.size
        have I := fun (w' : World) (h : Below wr.heap.size wr w') => eqTerm_of ts[k] e1 e2 c1 c2 w' (fun w'' h' => ih ts[k].kids e1 e2 c1 c2 hi w'' (by omega) (by omega) (hkr.on ((h.trans (h'.mono h.size)).mono hwr)) (hkr'.on ((h.trans (h'.mono h.size)).mono hwr)) (Nat.le_trans hwr (Nat.le_trans h.size h'.size)))
        clear HR HR' hkr hkr' hpt
        go_wp2_with fail
        go_region_held3 (fun w' => w'.cell? ⟨b, off + k * 3, none⟩ = some (.int .i64 ts[k].f) ∧ w'.cell? ⟨b, off + k * 3 + 1, none⟩ = some (.int .i64 ts[k].v) ∧ w'.cell? ⟨b, off + k * 3 + 2, none⟩ = some (.slice e1 ts[k].kids.length c1) ∧ w'.cell? ⟨b', off' + k * 3, none⟩ = some (.int .i64 ts[k].f) ∧ w'.cell? ⟨b', off' + k * 3 + 1, none⟩ = some (.int .i64 ts[k].v) ∧ w'.cell? ⟨b', off' + k * 3 + 2, none⟩ = some (.slice e2 ts[k].kids.length c2)) (first | go_keep | exact ⟨keepC hbb d0, keepC hbb d1, keepC hbb d2, keepC hbb g0, keepC hbb g1, keepC hbb g2⟩)
          (first | (go_at_call 38; refine (I _ ?_).mono ?_; exact (Below.refl _ _).drew; rintro e w1 ⟨rfl, hb1⟩; have hbb : Below wr.heap.size wr w1 := (Below.refl _ _).drew.trans hb1; clear hb1))
        go_wp2_with fail
        go_roundw
        case rel => exact ⟨k + 1, by omega, by go_num, hbr.trans (hbb.mono hbr.size)⟩
        case measure => simp [intOf]; omega
      · go_wp2_with fail
        go_ret
        exact ⟨rfl, hbr⟩

theorem eqTerm_same (t : TermD) (a a' : Option Addr) (c c' hi : Nat) (w : World) (hp : partsT t ≤ 549755813888) (hr : RdK w hi a t.kids) (hr' : RdK w hi a' t.kids) (hhi : hi ≤ w.heap.size) :
    Calls Tryz.prog 38 #[.agg #[.int .i64 t.f, .int .i64 t.v, .slice a t.kids.length c], .agg #[.int .i64 t.f, .int .i64 t.v, .slice a' t.kids.length c']] w fun e w' => e = .returned (.bool true) ∧ Below w.heap.size w w' :=
  eqTerm_of t a a' c c' w (fun w' h => eqTermS_same (partsL t.kids) t.kids a a' c c' hi w' (Nat.le_refl _) (by rw [partsT_eq] at hp; omega) (hr.on (h.mono hhi)) (hr'.on (h.mono hhi)) (Nat.le_trans hhi h.size))
end Go.Proofs.YtollijngiioonaaGreat

