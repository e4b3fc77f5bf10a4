/- What the proof of FnExactSolved stands on, part 6 of 13: each piece says what it proves and under which conditions. Conditions: as each piece says. -/
import Derived.Test.YthbilahilmmfmabGreatPackExactSolved5
import Derived.Test.YthbilahilmmfmabGreatProg
import Derived.Deep.RegionHeld3
import Derived.Deep.DeepMust
import Derived.Deep.QuietTactic
import Derived.BigQuiet
import Derived.Deep.RegionLaw
import Derived.Maps.AppendAt
import Derived.Below
import Derived.Sort.Row
import Derived.Deep.LoopGhost
/- Contracts of the specification's functions on terms: how many parts, how often a variable, whether two are the same, which is before. Conditions: terms of at most 549755813888 parts. -/
namespace Go.Proofs.YthbilahilmmfmabGreat
set_option maxRecDepth 100000
open Go.RowKit


set_option maxHeartbeats 1600000 in
theorem specParts_any (N : Nat) : ∀ (t : TermD) (a : Option Addr) (c hi : Nat) (w : World), partsT t ≤ N → N ≤ 549755813888 → RdK w hi a t.kids → hi ≤ w.heap.size →
    Calls Tryz.prog 41 #[.agg #[.int .i64 t.f, .int .i64 t.v, .slice a t.kids.length c]] w fun e w' => e = .returned (.int .i64 (partsT t)) ∧ Below w.heap.size w w' := by
  induction N with
  | zero => intro t a c hi w h; rw [partsT_eq] at h; omega
  | succ N ih =>
    intro t a c hi w hN hM hr hhi
    rw [partsT_eq] at hN ⊢
    have hlen := partsL_len t.kids
    generalize t.kids = ks at *
    have HR : Hid (RdK w hi a ks) := hr
    clear hr
    have hb0 : Below w.heap.size w (w.alloc (.cells #[.int .i64 t.f, .int .i64 t.v, .slice a ks.length c] 37)) := (Below.refl w.heap.size w).alloc (Nat.le_refl _) _
    go_enter Tryz.func41, Tryz.ntmps41
    go_wp2_with fail
    go_loopw [3, 4] (fun n i wr => ∃ k : Nat, k ≤ ks.length ∧ i = .int .i64 k ∧ n = .int .i64 ((partsL (ks.take k) + 1 : Nat) : Int) ∧ wr.cell? ⟨w.heap.size, 2, none⟩ = some (.slice a ks.length c) ∧ Below w.heap.size w wr ∧ w.heap.size < wr.heap.size) (fun _ i _ => ks.length - (intOf i).toNat)
    case atStart => exact ⟨0, Nat.zero_le _, rfl, by simp [partsL], by simp [go_sem], hb0, by simp⟩
    case round =>
      obtain ⟨k, hk, rfl, rfl, hct, hbr, hwl⟩ := hrel
      have hpk := partsL_take ks k
      clear hb0
      by_cases hk' : k < ks.length
      · obtain ⟨b, off, a', c', rfl, hlt, d0, d1, d2, hkr⟩ := RdK.kid (HR.out.on (hbr.mono hhi)) hk'
        have hpg := partsL_get hk'
        have hki : (k : Int) < (ks.length : Int) := by omega
        have HP : Hid (partsL (ks.take (k + 1)) = partsL (ks.take k) + partsT ks[k]) := partsL_next hk'
        have I := ih ks[k] a' c' hi wr (by omega) (by omega) hkr (Nat.le_trans hhi hbr.size)
        clear hkr
        go_wp2_with (go_at_call 41; refine I.mono ?_; rintro e w1 ⟨rfl, hb1⟩; clear I; have hct1 := (hb1.cell (p := ⟨w.heap.size, 2, none⟩) hwl).trans hct; have hbb := hbr.trans (hb1.mono hbr.size); have hwl1 : w.heap.size < w1.heap.size := (Nat.lt_of_lt_of_le hwl hb1.size); clear hbr hb1)
        go_roundw
        case rel => exact ⟨k + 1, by omega, by go_num, by rw [HP.out]; go_num, hct1, hbb, hwl1⟩
        case measure => simp [intOf]; omega
      · have E : Hid (k = ks.length) := (by omega : k = ks.length)
        go_wp2_with fail
        go_ret
        refine ⟨rtI ?_, hbr⟩
        rw [E.out, List.take_length]

set_option maxHeartbeats 1600000 in
theorem l1Bit_any (b : Bool) (w : World) : Calls Tryz.prog 43 #[.bool b] w fun e w' => e = .returned (.int .i64 (if b = true then 1 else 0)) ∧ w' = w := by
  cases b <;>
  · go_enter Tryz.func43, Tryz.ntmps43
    go_wp2_with fail
    go_ret
    exact ⟨rfl, rfl⟩

set_option maxHeartbeats 1600000 in
theorem specCount_any (N : Nat) : ∀ (t : TermD) (a : Option Addr) (c hi : Nat) (x : Int) (w : World), partsT t ≤ N → N ≤ 549755813888 → RdK w hi a t.kids → hi ≤ w.heap.size →
    Calls Tryz.prog 32 #[.agg #[.int .i64 t.f, .int .i64 t.v, .slice a t.kids.length c], .int .i64 x] w fun e w' => e = .returned (.int .i64 (cntT x t)) ∧ Below w.heap.size w w' := by
  induction N with
  | zero => intro t a c hi x w h; rw [partsT_eq] at h; omega
  | succ N ih =>
    intro t a c hi x w hN hM hr hhi
    rw [partsT_eq] at hN
    rw [cntT_eq]
    have hlen := partsL_len t.kids
    generalize t.kids = ks at *
    have HR : Hid (RdK w hi a ks) := hr
    clear hr
    obtain ⟨m, hm⟩ : ∃ m : Nat, m = (if t.f = -1 ∧ t.v = x then 1 else 0) := ⟨_, rfl⟩
    have hm1 : m ≤ 1 := by rw [hm]; split <;> omega
    obtain ⟨q, hq⟩ : ∃ q : Bool, q = (if t.f = -1 then (t.v == x) else false) := ⟨_, rfl⟩
    have L : ∀ w, Calls Tryz.prog 43 #[.bool q] w fun e w' => e = .returned (.int .i64 (m : Int)) ∧ w' = w := by
      intro w
      refine (l1Bit_any q w).mono ?_
      rintro e w' ⟨rfl, rfl⟩
      refine ⟨rtI ?_, rfl⟩
      rw [hm, hq]
      by_cases h : t.f = -1 <;> by_cases h' : t.v = x <;> simp [h, h']
    have HM : Hid (m = (if t.f = -1 ∧ t.v = x then 1 else 0)) := hm
    clear hm
    rw [← HM.out]
    have hf : (t.f = -1 ∧ q = (t.v == x)) ∨ ((t.f == -1) = false ∧ q = false) := by
      by_cases h : t.f = -1
      · exact .inl ⟨h, by rw [hq, if_pos h]⟩
      · exact .inr ⟨by simp [h], by rw [hq, if_neg h]⟩
    clear hq
    rcases hf with ⟨hf, rfl⟩ | ⟨hf, rfl⟩
    all_goals
      go_enter Tryz.func32, Tryz.ntmps32
      go_wp2_with (go_at_call 43; refine (L _).mono ?_; rintro e w' ⟨rfl, hw⟩; subst w')
      go_loopw [5, 6] (fun n i wr => ∃ k : Nat, k ≤ ks.length ∧ i = .int .i64 k ∧ n = .int .i64 ((m + cntL x (ks.take k) : Nat) : Int) ∧ wr.cell? ⟨w.heap.size, 2, none⟩ = some (.slice a ks.length c) ∧ Below w.heap.size w wr ∧ w.heap.size < wr.heap.size) (fun _ i _ => ks.length - (intOf i).toNat)
      case atStart => exact ⟨0, Nat.zero_le _, rfl, by simp [cntL], by simp [go_sem], (Below.refl w.heap.size w).alloc (Nat.le_refl _) _, by simp⟩
      case round =>
        obtain ⟨k, hk, rfl, rfl, hct, hbr, hwl⟩ := hrel
        have hpk := partsL_take ks k
        have hck := cntL_le x (ks.take k)
        clear L
        by_cases hk' : k < ks.length
        · obtain ⟨b, off, a', c', rfl, hlt, d0, d1, d2, hkr⟩ := RdK.kid (HR.out.on (hbr.mono hhi)) hk'
          have hpg := partsL_get hk'
          have hcg := cntT_le x ks[k]
          have hki : (k : Int) < (ks.length : Int) := by omega
          have HP : Hid (cntL x (ks.take (k + 1)) = cntL x (ks.take k) + cntT x ks[k]) := cntL_next x hk'
          have I := ih ks[k] a' c' hi x wr (by omega) (by omega) hkr (Nat.le_trans hhi hbr.size)
          clear hkr
          go_wp2_with (go_at_call 32; refine I.mono ?_; rintro e w1 ⟨rfl, hb1⟩; clear I; have hct1 := (hb1.cell (p := ⟨w.heap.size, 2, none⟩) hwl).trans hct; have hbb := hbr.trans (hb1.mono hbr.size); have hwl1 : w.heap.size < w1.heap.size := (Nat.lt_of_lt_of_le hwl hb1.size); clear hbr hb1)
          go_roundw
          case rel => exact ⟨k + 1, by omega, by go_num, by rw [HP.out]; go_num, hct1, hbb, hwl1⟩
          case measure => simp [intOf]; omega
        · have E : Hid (k = ks.length) := (by omega : k = ks.length)
          go_wp2_with fail
          go_ret
          refine ⟨rtI ?_, hbr⟩
          rw [E.out, List.take_length]

set_option maxHeartbeats 1600000 in
theorem specSame_any (N : Nat) : ∀ (t u : TermD) (a a' : Option Addr) (c c' hi : Nat) (w : World), partsT t ≤ N → N ≤ 549755813888 → RdK w hi a t.kids → RdK w hi a' u.kids → hi ≤ w.heap.size →
    Calls Tryz.prog 19 #[.agg #[.int .i64 t.f, .int .i64 t.v, .slice a t.kids.length c], .agg #[.int .i64 u.f, .int .i64 u.v, .slice a' u.kids.length c']] w fun e w' => e = .returned (.bool (sameT t u)) ∧ Below w.heap.size w w' := by
  induction N with
  | zero => intro t u a a' c c' hi w h; rw [partsT_eq] at h; omega
  | succ N ih =>
    intro t u a a' c c' hi w hN hM hr hr' hhi
    rw [partsT_eq] at hN
    have HS : Hid (sameT t u = (t.f == u.f && t.v == u.v && t.kids.length == u.kids.length && sameL t.kids u.kids)) := sameT_eq t u
    have hlen := partsL_len t.kids
    generalize t.kids = ks at *
    generalize u.kids = us at *
    have hB : ∀ o1 o2, Below w.heap.size w ((w.alloc o1).alloc o2) := fun o1 o2 => ((Below.refl _ _).alloc (Nat.le_refl _) o1).alloc (by simp) o2
    by_cases hf : t.f = u.f ∧ t.v = u.v ∧ ks.length = us.length
    · obtain ⟨h1, h2, h3⟩ := hf
      have HS2 : Hid (sameT t u = sameL ks us) := by show _ = _; rw [HS.out, h1, h2, h3]; simp
      have HR : Hid (RdK w hi a ks) := hr
      have HR' : Hid (RdK w hi a' us) := hr'
      have q1 : (t.f != u.f) = false := by simp [h1]
      have q2 : (t.v != u.v) = false := by simp [h2]
      have q3 : ((ks.length : Int) != (us.length : Int)) = false := by simp [h3]
      have H3 : Hid (ks.length = us.length) := h3
      clear hr hr' HS h1 h2 h3
      go_enter Tryz.func19, Tryz.ntmps19
      go_wp2_with fail
      go_loopw [5] (fun i wr => ∃ k : Nat, k ≤ ks.length ∧ i = .int .i64 k ∧ wr.cell? ⟨w.heap.size, 2, none⟩ = some (.slice a ks.length c) ∧ wr.cell? ⟨w.heap.size + 1, 2, none⟩ = some (.slice a' us.length c') ∧ Below w.heap.size w wr ∧ w.heap.size + 1 < wr.heap.size ∧ Hid (∀ j, (h : j < ks.length) → (h' : j < us.length) → j < k → sameT ks[j] us[j] = true)) (fun i _ => ks.length - (intOf i).toNat)
      case atStart => exact ⟨0, Nat.zero_le _, rfl, by simp [go_sem], by simp [go_sem], hB _ _, by simp, fun j _ _ h => absurd h (by omega)⟩
      case round =>
        obtain ⟨k, hk, rfl, hct, hcu, hbr, hwl, HA⟩ := hrel
        clear hB
        by_cases hk' : k < ks.length
        · have hku : k < us.length := by have := H3.out; omega
          obtain ⟨b, off, e1, c1, rfl, hlt, d0, d1, d2, hkr⟩ := RdK.kid (HR.out.on (hbr.mono hhi)) hk'
          obtain ⟨b', off', e2, c2, rfl, hlt', g0, g1, g2, hkr'⟩ := RdK.kid (HR'.out.on (hbr.mono hhi)) hku
          have hpg := partsL_get hk'
          have hki : (k : Int) < (ks.length : Int) := by omega
          have hkj : (k : Int) < (us.length : Int) := by omega
          have hwr := Nat.le_trans hhi hbr.size
          have I := fun (w' : World) (h : Below wr.heap.size wr w') => ih ks[k] us[k] e1 e2 c1 c2 hi w' (by omega) (by omega) (hkr.on (h.mono hwr)) (hkr'.on (h.mono hwr)) (Nat.le_trans hwr h.size)
          clear HR HR' hkr hkr'
          cases hsm : sameT ks[k] us[k] with
          | true =>
            rw [hsm] at I
            have HA' : Hid (∀ j, (h : j < ks.length) → (h' : j < us.length) → j < k + 1 → sameT ks[j] us[j] = true) := fun j h h' hj => by
              by_cases e : j = k
              · subst e; exact hsm
              · exact HA.out j h h' (by omega)
            clear HA hsm
            go_wp2_with fail
            go_region_held3 (fun w' => w'.cell? ⟨w.heap.size, 2, none⟩ = some (.slice (some ⟨b, off, none⟩) ks.length c) ∧ w'.cell? ⟨w.heap.size + 1, 2, none⟩ = some (.slice (some ⟨b', off', none⟩) us.length c') ∧ w'.cell? ⟨b, off + k * 3, none⟩ = some (.int .i64 ks[k].f) ∧ w'.cell? ⟨b, off + k * 3 + 1, none⟩ = some (.int .i64 ks[k].v) ∧ w'.cell? ⟨b, off + k * 3 + 2, none⟩ = some (.slice e1 ks[k].kids.length c1) ∧ w'.cell? ⟨b', off' + k * 3, none⟩ = some (.int .i64 us[k].f) ∧ w'.cell? ⟨b', off' + k * 3 + 1, none⟩ = some (.int .i64 us[k].v) ∧ w'.cell? ⟨b', off' + k * 3 + 2, none⟩ = some (.slice e2 us[k].kids.length c2)) (first | go_keep | exact ⟨keepC hbb hct, keepC hbb hcu, keepC hbb d0, keepC hbb d1, keepC hbb d2, keepC hbb g0, keepC hbb g1, keepC hbb g2⟩)
              (first | (go_at_call 19; refine (I _ ?_).mono ?_; exact (Below.refl _ _).drew; rintro e w1 ⟨rfl, hb1⟩; have hbb : Below wr.heap.size wr w1 := (Below.refl _ _).drew.trans hb1; clear hb1))
            go_wp2_with fail
            go_roundw
            case rel => exact ⟨k + 1, by omega, by go_num, keepC hbb hct, keepC hbb hcu, hbr.trans (hbb.mono hbr.size), Nat.lt_of_lt_of_le hwl hbb.size, HA'⟩
            case measure => simp [intOf]; omega
          | false =>
            rw [hsm] at I
            have HF : Hid (sameT t u = false) := by show _ = _; rw [HS2.out]; exact sameL_hit hk' hku hsm
            clear HA hsm
            go_wp2_with fail
            go_region_held3 (fun w' => w'.cell? ⟨w.heap.size, 2, none⟩ = some (.slice (some ⟨b, off, none⟩) ks.length c) ∧ w'.cell? ⟨w.heap.size + 1, 2, none⟩ = some (.slice (some ⟨b', off', none⟩) us.length c') ∧ w'.cell? ⟨b, off + k * 3, none⟩ = some (.int .i64 ks[k].f) ∧ w'.cell? ⟨b, off + k * 3 + 1, none⟩ = some (.int .i64 ks[k].v) ∧ w'.cell? ⟨b, off + k * 3 + 2, none⟩ = some (.slice e1 ks[k].kids.length c1) ∧ w'.cell? ⟨b', off' + k * 3, none⟩ = some (.int .i64 us[k].f) ∧ w'.cell? ⟨b', off' + k * 3 + 1, none⟩ = some (.int .i64 us[k].v) ∧ w'.cell? ⟨b', off' + k * 3 + 2, none⟩ = some (.slice e2 us[k].kids.length c2)) (first | go_keep | exact ⟨keepC hbb hct, keepC hbb hcu, keepC hbb d0, keepC hbb d1, keepC hbb d2, keepC hbb g0, keepC hbb g1, keepC hbb g2⟩)
              (first | (go_at_call 19; refine (I _ ?_).mono ?_; exact (Below.refl _ _).drew; rintro e w1 ⟨rfl, hb1⟩; have hbb : Below wr.heap.size wr w1 := (Below.refl _ _).drew.trans hb1; clear hb1))
            go_wp2_with fail
            go_ret
            exact ⟨rtB HF.out.symm, hbr.trans (hbb.mono hbr.size)⟩
        · have HT : Hid (sameT t u = true) := by show _ = _; rw [HS2.out]; exact sameL_all H3.out (fun j h h' => HA.out j h h' (by omega))
          go_wp2_with fail
          go_ret
          exact ⟨rtB HT.out.symm, hbr⟩
    · have HF : Hid (sameT t u = false) := by
        show _ = _
        rw [HS.out]
        by_cases h1 : t.f = u.f <;> by_cases h2 : t.v = u.v <;> by_cases h3 : ks.length = us.length <;> simp [h1, h2, h3] <;> exact absurd ⟨h1, h2, h3⟩ hf
      have hq : (t.f != u.f) = true ∨ ((t.f != u.f) = false ∧ (t.v != u.v) = true) ∨ ((t.f != u.f) = false ∧ (t.v != u.v) = false ∧ ((ks.length : Int) != (us.length : Int)) = true) := by
        by_cases h1 : t.f = u.f <;> by_cases h2 : t.v = u.v <;> simp [h1, h2]
        intro h3
        exact hf ⟨h1, h2, by omega⟩
      clear hr hr' HS hf
      rcases hq with q1 | ⟨q1, q2⟩ | ⟨q1, q2, q3⟩
      all_goals
        go_enter Tryz.func19, Tryz.ntmps19
        go_wp2_with fail
        go_ret
        exact ⟨rtB HF.out.symm, hB _ _⟩
end Go.Proofs.YthbilahilmmfmabGreat

/- Contract of the specification's Before. Conditions: terms of at most 549755813888 parts. -/
namespace Go.Proofs.YthbilahilmmfmabGreat
set_option maxRecDepth 100000
open Go.RowKit

set_option maxHeartbeats 1600000 in
theorem specBefore_any (N : Nat) : ∀ (t u : TermD) (a a' : Option Addr) (c c' hi : Nat) (w : World), partsT t ≤ N → N ≤ 549755813888 → RdK w hi a t.kids → RdK w hi a' u.kids → hi ≤ w.heap.size →
    Calls Tryz.prog 56 #[.agg #[.int .i64 t.f, .int .i64 t.v, .slice a t.kids.length c], .agg #[.int .i64 u.f, .int .i64 u.v, .slice a' u.kids.length c']] w fun e w' => e = .returned (.bool (befT t u)) ∧ Below w.heap.size w w' := by
  induction N with
  | zero => intro t u a a' c c' hi w h; rw [partsT_eq] at h; omega
  | succ N ih =>
    intro t u a a' c c' hi w hN hM hr hr' hhi
    rw [partsT_eq] at hN
    have HS : Hid (befT t u = if t.f ≠ u.f then decide (t.f < u.f) else if t.v ≠ u.v then decide (t.v < u.v) else if t.kids.length ≠ u.kids.length then decide (t.kids.length < u.kids.length) else befL t.kids u.kids) := befT_eq t u
    have hlen := partsL_len t.kids
    generalize t.kids = ks at *
    generalize u.kids = us at *
    have hB : ∀ o1 o2, Below w.heap.size w ((w.alloc o1).alloc o2) := fun o1 o2 => ((Below.refl _ _).alloc (Nat.le_refl _) o1).alloc (by simp) o2
    by_cases hf : t.f = u.f ∧ t.v = u.v ∧ ks.length = us.length
    · obtain ⟨h1, h2, h3⟩ := hf
      have HS2 : Hid (befT t u = befL ks us) := by show _ = _; rw [HS.out]; simp [h1, h2, h3]
      have HR : Hid (RdK w hi a ks) := hr
      have HR' : Hid (RdK w hi a' us) := hr'
      have q1 : (t.f != u.f) = false := by simp [h1]
      have q2 : (t.v != u.v) = false := by simp [h2]
      have q3 : ((ks.length : Int) != (us.length : Int)) = false := by simp [h3]
      have H3 : Hid (ks.length = us.length) := h3
      clear hr hr' HS h1 h2 h3
      go_enter Tryz.func56, Tryz.ntmps56
      go_wp2_with fail
      go_loopw [5] (fun i wr => ∃ k : Nat, k ≤ ks.length ∧ i = .int .i64 k ∧ wr.cell? ⟨w.heap.size, 2, none⟩ = some (.slice a ks.length c) ∧ wr.cell? ⟨w.heap.size + 1, 2, none⟩ = some (.slice a' us.length c') ∧ Below w.heap.size w wr ∧ w.heap.size + 1 < wr.heap.size ∧ Hid (∀ j, (h : j < ks.length) → (h' : j < us.length) → j < k → sameT ks[j] us[j] = true)) (fun i _ => ks.length - (intOf i).toNat)
      case atStart => exact ⟨0, Nat.zero_le _, rfl, by simp [go_sem], by simp [go_sem], hB _ _, by simp, fun j _ _ h => absurd h (by omega)⟩
      case round =>
        obtain ⟨k, hk, rfl, hct, hcu, hbr, hwl, HA⟩ := hrel
        clear hB
        by_cases hk' : k < ks.length
        · have hku : k < us.length := by have := H3.out; omega
          obtain ⟨b, off, e1, c1, rfl, hlt, d0, d1, d2, hkr⟩ := RdK.kid (HR.out.on (hbr.mono hhi)) hk'
          obtain ⟨b', off', e2, c2, rfl, hlt', g0, g1, g2, hkr'⟩ := RdK.kid (HR'.out.on (hbr.mono hhi)) hku
          have hpg := partsL_get hk'
          have hki : (k : Int) < (ks.length : Int) := by omega
          have hkj : (k : Int) < (us.length : Int) := by omega
          have hwr := Nat.le_trans hhi hbr.size
          have J := fun (w' : World) (h : Below wr.heap.size wr w') => specSame_any N ks[k] us[k] e1 e2 c1 c2 hi w' (by omega) (by omega) (hkr.on (h.mono hwr)) (hkr'.on (h.mono hwr)) (Nat.le_trans hwr h.size)
          have I := fun (w' : World) (h : Below wr.heap.size wr w') => ih ks[k] us[k] e1 e2 c1 c2 hi w' (by omega) (by omega) (hkr.on (h.mono hwr)) (hkr'.on (h.mono hwr)) (Nat.le_trans hwr h.size)
          clear HR HR' hkr hkr'
          cases hsm : sameT ks[k] us[k] with
          | true =>
            rw [hsm] at J
            have HA' : Hid (∀ j, (h : j < ks.length) → (h' : j < us.length) → j < k + 1 → sameT ks[j] us[j] = true) := fun j h h' hj => by
              by_cases e : j = k
              · subst e; exact hsm
              · exact HA.out j h h' (by omega)
            clear HA hsm
            go_wp2_with fail
            go_region_held3 (fun w' => w'.cell? ⟨w.heap.size, 2, none⟩ = some (.slice (some ⟨b, off, none⟩) ks.length c) ∧ w'.cell? ⟨w.heap.size + 1, 2, none⟩ = some (.slice (some ⟨b', off', none⟩) us.length c') ∧ w'.cell? ⟨b, off + k * 3, none⟩ = some (.int .i64 ks[k].f) ∧ w'.cell? ⟨b, off + k * 3 + 1, none⟩ = some (.int .i64 ks[k].v) ∧ w'.cell? ⟨b, off + k * 3 + 2, none⟩ = some (.slice e1 ks[k].kids.length c1) ∧ w'.cell? ⟨b', off' + k * 3, none⟩ = some (.int .i64 us[k].f) ∧ w'.cell? ⟨b', off' + k * 3 + 1, none⟩ = some (.int .i64 us[k].v) ∧ w'.cell? ⟨b', off' + k * 3 + 2, none⟩ = some (.slice e2 us[k].kids.length c2)) (first | go_keep | exact ⟨keepC hbb hct, keepC hbb hcu, keepC hbb d0, keepC hbb d1, keepC hbb d2, keepC hbb g0, keepC hbb g1, keepC hbb g2⟩)
              (first | (go_at_call 19; refine (J _ ?_).mono ?_; exact (Below.refl _ _).drew; rintro e w1 ⟨rfl, hb1⟩; have hbb : Below wr.heap.size wr w1 := (Below.refl _ _).drew.trans hb1; clear hb1))
            go_wp2_with fail
            go_roundw
            case rel => exact ⟨k + 1, by omega, by go_num, keepC hbb hct, keepC hbb hcu, hbr.trans (hbb.mono hbr.size), Nat.lt_of_lt_of_le hwl hbb.size, HA'⟩
            case measure => simp [intOf]; omega
          | false =>
            rw [hsm] at J
            have HF : Hid (befT t u = befT ks[k] us[k]) := by show _ = _; rw [HS2.out]; exact befL_hit hk' hku (fun j hj => HA.out j (by omega) (by omega) hj) hsm
            clear HA hsm
            go_wp2_with fail
            go_region_held3 (fun w' => w'.cell? ⟨w.heap.size, 2, none⟩ = some (.slice (some ⟨b, off, none⟩) ks.length c) ∧ w'.cell? ⟨w.heap.size + 1, 2, none⟩ = some (.slice (some ⟨b', off', none⟩) us.length c') ∧ w'.cell? ⟨b, off + k * 3, none⟩ = some (.int .i64 ks[k].f) ∧ w'.cell? ⟨b, off + k * 3 + 1, none⟩ = some (.int .i64 ks[k].v) ∧ w'.cell? ⟨b, off + k * 3 + 2, none⟩ = some (.slice e1 ks[k].kids.length c1) ∧ w'.cell? ⟨b', off' + k * 3, none⟩ = some (.int .i64 us[k].f) ∧ w'.cell? ⟨b', off' + k * 3 + 1, none⟩ = some (.int .i64 us[k].v) ∧ w'.cell? ⟨b', off' + k * 3 + 2, none⟩ = some (.slice e2 us[k].kids.length c2)) (first | go_keep | exact ⟨keepC hbb hct, keepC hbb hcu, keepC hbb d0, keepC hbb d1, keepC hbb d2, keepC hbb g0, keepC hbb g1, keepC hbb g2⟩)
              (first | (go_at_call 19; refine (J _ ?_).mono ?_; exact (Below.refl _ _).drew; rintro e w1 ⟨rfl, hb1⟩; have hbb : Below wr.heap.size wr w1 := (Below.refl _ _).drew.trans hb1; clear hb1))
            go_wp2_with fail
            have u0 := keepC hbb hct
            have u1 := keepC hbb hcu
            have u2 := keepC hbb d0
            have u3 := keepC hbb d1
            have u4 := keepC hbb d2
            have u5 := keepC hbb g0
            have u6 := keepC hbb g1
            have u7 := keepC hbb g2
            go_region_held3 (fun w' => w'.cell? ⟨w.heap.size, 2, none⟩ = some (.slice (some ⟨b, off, none⟩) ks.length c) ∧ w'.cell? ⟨w.heap.size + 1, 2, none⟩ = some (.slice (some ⟨b', off', none⟩) us.length c') ∧ w'.cell? ⟨b, off + k * 3, none⟩ = some (.int .i64 ks[k].f) ∧ w'.cell? ⟨b, off + k * 3 + 1, none⟩ = some (.int .i64 ks[k].v) ∧ w'.cell? ⟨b, off + k * 3 + 2, none⟩ = some (.slice e1 ks[k].kids.length c1) ∧ w'.cell? ⟨b', off' + k * 3, none⟩ = some (.int .i64 us[k].f) ∧ w'.cell? ⟨b', off' + k * 3 + 1, none⟩ = some (.int .i64 us[k].v) ∧ w'.cell? ⟨b', off' + k * 3 + 2, none⟩ = some (.slice e2 us[k].kids.length c2)) (first | go_keep | exact ⟨keepC hb2 hct, keepC hb2 hcu, keepC hb2 d0, keepC hb2 d1, keepC hb2 d2, keepC hb2 g0, keepC hb2 g1, keepC hb2 g2⟩)
              (first | (go_at_call 56; refine (I _ ?_).mono ?_; exact hbb.drew; rintro e w2 ⟨rfl, hb1⟩; have hb2 : Below wr.heap.size wr w2 := hbb.drew.trans (hb1.mono hbb.size); clear hb1))
            go_wp2_with fail
            go_ret
            exact ⟨rtB HF.out.symm, hbr.trans (hb2.mono hbr.size)⟩
        · have HT : Hid (befT t u = false) := by show _ = _; rw [HS2.out]; exact befL_all (fun j h h' => HA.out j h h' (by omega))
          go_wp2_with fail
          go_ret
          exact ⟨rtB HT.out.symm, hbr⟩
    · have hq : ((t.f != u.f) = true ∧ Hid (befT t u = decide (t.f < u.f))) ∨ ((t.f != u.f) = false ∧ (t.v != u.v) = true ∧ Hid (befT t u = decide (t.v < u.v))) ∨ ((t.f != u.f) = false ∧ (t.v != u.v) = false ∧ ((ks.length : Int) != (us.length : Int)) = true ∧ Hid (befT t u = decide (ks.length < us.length))) := by
        by_cases h1 : t.f = u.f
        · by_cases h2 : t.v = u.v
          · have h3 : ¬ ks.length = us.length := fun h => hf ⟨h1, h2, h⟩
            refine .inr (.inr ⟨by simp [h1], by simp [h2], by simp; omega, ?_⟩)
            show _ = _
            rw [HS.out]
            simp [h1, h2, h3]
          · refine .inr (.inl ⟨by simp [h1], by simpa using h2, ?_⟩)
            show _ = _
            rw [HS.out]
            simp [h1, h2]
        · refine .inl ⟨by simpa using h1, ?_⟩
          show _ = _
          rw [HS.out]
          simp [h1]
      clear hr hr' HS hf
      rcases hq with ⟨q1, HF⟩ | ⟨q1, q2, HF⟩ | ⟨q1, q2, q3, HF⟩
      all_goals
        go_enter Tryz.func56, Tryz.ntmps56
        go_wp2_with fail
        go_ret
        exact ⟨rtB HF.out.symm, hB _ _⟩
end Go.Proofs.YthbilahilmmfmabGreat

/- Contracts of the laws' copies of terms. Conditions: terms of at most 549755813888 parts. -/
namespace Go.Proofs.YthbilahilmmfmabGreat
set_option maxRecDepth 100000
open Go.RowKit

set_option maxHeartbeats 1600000 in
theorem toTerm_of (t : TermD) (a : Option Addr) (c : Nat) (w : World)
    (H : ∀ w', Below w.heap.size w w' → Calls Tryz.prog 23 #[.slice a t.kids.length c] w' fun e w'' => e = .returned (.slice (some ⟨w'.heap.size, 0, none⟩) t.kids.length t.kids.length) ∧ OwnS w'' (fun x => w'.heap.size ≤ x ∧ x < w''.heap.size) (some ⟨w'.heap.size, 0, none⟩) t.kids ∧ Below w'.heap.size w' w'') :
    Calls Tryz.prog 10 #[.agg #[.int .i64 t.f, .int .i64 t.v, .slice a t.kids.length c]] w fun e w' => ∃ a', e = .returned (.agg #[.int .i64 t.f, .int .i64 t.v, .slice a' t.kids.length t.kids.length]) ∧ OwnS w' (fun x => w.heap.size ≤ x ∧ x < w'.heap.size) a' t.kids ∧ Below w.heap.size w w' := by
  generalize t.kids = ks at *
  obtain ⟨W, hW⟩ : ∃ W, W = (((w.alloc (.cells #[.int .i64 t.f, .int .i64 t.v, .slice a ks.length c] 26)).alloc (.cells #[.int .i64 0, .int .i64 0, .slice none 0 0] 37)).alloc (.cells #[.int .i64 t.f, .int .i64 t.v, .slice none 0 0] 37)) := ⟨_, rfl⟩
  have hWs : W.heap.size = w.heap.size + 1 + 1 + 1 := by rw [hW]; simp
  have h0 : Below w.heap.size w W := by rw [hW]; exact (((Below.refl _ _).alloc (Nat.le_refl _) _).alloc (by simp) _).alloc (by simp; omega) _
  have H1 := H W h0
  have x0 : W.cell? ⟨w.heap.size + 1, 0, none⟩ = some (.int .i64 0) := by rw [hW]; simp [go_sem]
  have x1 : W.cell? ⟨w.heap.size + 1, 1, none⟩ = some (.int .i64 0) := by rw [hW]; simp [go_sem]
  have x2 : W.cell? ⟨w.heap.size + 1, 2, none⟩ = some (.slice none 0 0) := by rw [hW]; simp [go_sem]
  have y0 : W.cell? ⟨w.heap.size + 1 + 1, 0, none⟩ = some (.int .i64 t.f) := by rw [hW]; simp [go_sem]
  have y1 : W.cell? ⟨w.heap.size + 1 + 1, 1, none⟩ = some (.int .i64 t.v) := by rw [hW]; simp [go_sem]
  have y2 : W.cell? ⟨w.heap.size + 1 + 1, 2, none⟩ = some (.slice none 0 0) := by rw [hW]; simp [go_sem]
  have fz : ∀ j, W.frozen? ⟨w.heap.size + 1, j, none⟩ = false := by intro j; rw [hW]; simp [go_sem]
  have gz : ∀ j, W.frozen? ⟨w.heap.size + 1 + 1, j, none⟩ = false := by intro j; rw [hW]; simp [go_sem]
  rw [hWs] at H1
  clear H
  go_enter Tryz.func10, Tryz.ntmps10
  go_wp2_with (go_at_call 23; (rw [← hW]; refine H1.mono ?_; rintro e w1 ⟨rfl, ho1, hb1⟩; have hb3 := hb1; have hbW : Below W.heap.size W w1 := (by rw [hWs]; exact hb1); have a0 := keepC hbW x0; have a1 := keepC hbW x1; have a2 := keepC hbW x2; have b0 := keepC hbW y0; have b1 := keepC hbW y1; have b2 := keepC hbW y2; have fa : ∀ j, w1.frozen? ⟨w.heap.size + 1, j, none⟩ = false := (fun j => (World.frozen?_of_block (a := ⟨w.heap.size + 1, j, none⟩) (hb3.block (w.heap.size + 1) (by omega))).trans (fz j)); have fb : ∀ j, w1.frozen? ⟨w.heap.size + 1 + 1, j, none⟩ = false := (fun j => (World.frozen?_of_block (a := ⟨w.heap.size + 1 + 1, j, none⟩) (hb3.block (w.heap.size + 1 + 1) (by omega))).trans (gz j)); have hB1 := h0.trans (hbW.mono h0.size); have hsz := hb3.size; clear H1 hb1 hb3 hbW x0 x1 x2 y0 y1 y2 fz gz h0 hW))
  have other : ∀ j, (w1.setCell ⟨w.heap.size + 1 + 1, 2, none⟩ (.slice (some ⟨w.heap.size + 1 + 1 + 1, 0, none⟩) ks.length ks.length)).cell? ⟨w.heap.size + 1, j, none⟩ = w1.cell? ⟨w.heap.size + 1, j, none⟩ := fun j => World.cell?_setCell_other _ _ _ _ (by simp)
  obtain ⟨q0, q1, q2⟩ := set3_cells (u := w1.setCell ⟨w.heap.size + 1 + 1, 2, none⟩ (.slice (some ⟨w.heap.size + 1 + 1 + 1, 0, none⟩) ks.length ks.length)) (r := w.heap.size + 1) (x := .int .i64 t.f) (y := .int .i64 t.v) (z := .slice (some ⟨w.heap.size + 1 + 1 + 1, 0, none⟩) ks.length ks.length) ((other 0).trans a0) ((other 1).trans a1) ((other 2).trans a2)
  have hn2 : ¬ (w.heap.size + 1 + 1 + 1 ≤ w.heap.size + 1 + 1 ∧ w.heap.size + 1 + 1 < w1.heap.size) := by omega
  have hn1 : ¬ (w.heap.size + 1 + 1 + 1 ≤ w.heap.size + 1 ∧ w.heap.size + 1 < w1.heap.size) := by omega
  have O := (((ho1.setCell ⟨w.heap.size + 1 + 1, 2, none⟩ hn2 (.slice (some ⟨w.heap.size + 1 + 1 + 1, 0, none⟩) ks.length ks.length)).setCell ⟨w.heap.size + 1, 0, none⟩ hn1 (.int .i64 t.f)).setCell ⟨w.heap.size + 1, 1, none⟩ hn1 (.int .i64 t.v)).setCell ⟨w.heap.size + 1, 2, none⟩ hn1 (.slice (some ⟨w.heap.size + 1 + 1 + 1, 0, none⟩) ks.length ks.length)
  refine bodyPost_ret (v := .agg #[.int .i64 t.f, .int .i64 t.v, .slice (some ⟨w.heap.size + 1 + 1 + 1, 0, none⟩) ks.length ks.length]) (by simp [results, Tryz.results10, go_sem, q0, q1, q2]) rfl ⟨_, rfl, O.mono (fun x hx => ⟨by omega, by simpa using hx.2⟩), ?_⟩
  exact (((hB1.setCell (p := ⟨w.heap.size + 1 + 1, 2, none⟩) (by simp; omega) _).setCell (p := ⟨w.heap.size + 1, 0, none⟩) (by simp) _).setCell (p := ⟨w.heap.size + 1, 1, none⟩) (by simp) _).setCell (p := ⟨w.heap.size + 1, 2, none⟩) (by simp) _

theorem info29 : (Tryz.prog.info? 37).map (fun i => (i.zero, i.size, i.bytes)) = some (some (.agg #[.int .i64 0, .int .i64 0, .slice none 0 0]), 3, 40) := by kernel_rfl

/-- What lies in memory when the first k terms of a list are copied. -/
structure CopySt (w wr : World) (ts : List TermD) (k : Nat) (A : Nat → Option Addr) (L : Nat → Nat) : Prop where
  row : wr.ownsRow w.heap.size 37 3 (.slice (some ⟨w.heap.size, 0, none⟩) ts.length ts.length) ts.length (cs3 (laidTo ts A k))
  low : w.heap.size < L 0
  mono : ∀ i, i < k → L i ≤ L (i + 1)
  top : L k ≤ wr.heap.size
  kid : ∀ i, (h : i < ts.length) → i < k → OwnS wr (fun x => L i ≤ x ∧ x < L (i + 1)) (A i) ts[i].kids
  below : Below w.heap.size w wr

theorem CopySt.le {w wr : World} {ts : List TermD} {k : Nat} {A : Nat → Option Addr} {L : Nat → Nat} (h : CopySt w wr ts k A L) : ∀ i j, i ≤ j → j ≤ k → L i ≤ L j := by
  intro i j
  induction j with
  | zero => intro h1 _; have : i = 0 := by omega
            subst this; exact Nat.le_refl _
  | succ j ih =>
    intro h1 h2
    by_cases e : i = j + 1
    · subst e; exact Nat.le_refl _
    · exact Nat.le_trans (ih (by omega) (by omega)) (h.mono j (by omega))

theorem CopySt.done {w wr : World} {ts : List TermD} {A : Nat → Option Addr} {L : Nat → Nat} (h : CopySt w wr ts ts.length A L) (hl : ts.length ≤ 9223372036854775807) (hz : ∀ i, (h : i < ts.length) → isW ts[i].f ∧ isW ts[i].v) :
    OwnS wr (fun x => w.heap.size ≤ x ∧ x < wr.heap.size) (some ⟨w.heap.size, 0, none⟩) ts := by
  have hlt := (h.row.lt _ rfl).2
  refine .row _ w.heap.size 0 ts A (fun i => (ts[i]?.getD default).kids.length) (fun i x => L i ≤ x ∧ x < L (i + 1)) ⟨Nat.le_refl _, hlt⟩ hlt ⟨hl, fun i hi => by simp [hi]⟩ hz (fun i hi => ?_) (fun j => h.row.frozenAt j) (fun i x hi hx => ?_) (fun i j x hi hj hne hx hy => ?_) (fun i hi => h.kid i hi hi)
  · obtain ⟨c0, c1, c2⟩ := cs3_cells (by rw [laidTo_len]) (k := i) (by rw [laidTo_len]; exact hi) h.row
    have e : (laidTo ts A ts.length)[i]'(by rw [laidTo_len]; exact hi) = (.int .i64 ts[i].f, .int .i64 ts[i].v, .slice (A i) ts[i].kids.length ts[i].kids.length) := by
      simp [laidTo, hi]
    rw [e] at c0 c1 c2
    simp only [Nat.zero_add]
    exact ⟨c0, c1, by simpa [hi] using c2⟩
  · have h1 := h.le 0 i (by omega) (by omega)
    have h2 := h.le (i + 1) ts.length (by omega) (Nat.le_refl _)
    have h3 := h.low
    have h4 := h.top
    exact ⟨⟨by omega, by omega⟩, by omega⟩
  · rcases Nat.lt_or_gt_of_ne hne with hh | hh
    · have := h.le (i + 1) j (by omega) (by omega)
      omega
    · have := h.le (j + 1) i (by omega) (by omega)
      omega

/-- One more term is copied. -/
theorem CopySt.step {w wr w1 : World} {ts : List TermD} {k : Nat} {A : Nat → Option Addr} {L : Nat → Nat} (h : CopySt w wr ts k A L) (hk : k < ts.length) {a' : Option Addr} (ho : OwnS w1 (fun x => wr.heap.size ≤ x ∧ x < w1.heap.size) a' ts[k].kids) (hb : Below wr.heap.size wr w1) :
    CopySt w (((w1.setCell ⟨w.heap.size, k * 3, none⟩ (.int .i64 ts[k].f)).setCell ⟨w.heap.size, k * 3 + 1, none⟩ (.int .i64 ts[k].v)).setCell ⟨w.heap.size, k * 3 + 2, none⟩ (.slice a' ts[k].kids.length ts[k].kids.length)) ts (k + 1) (fun i => if i = k then a' else A i) (fun i => if i ≤ k then L i else w1.heap.size) := by
  have h3 := h.low
  have h4 := h.top
  have h5 := hb.size
  have hle := h.le
  refine ⟨?_, ?_, fun i hi => ?_, ?_, fun i hi hik => ?_, ?_⟩
  · have r := cs3_store (t := (.int .i64 ts[k].f, .int .i64 ts[k].v, .slice a' ts[k].kids.length ts[k].kids.length)) (k := k) (by rw [laidTo_len]; exact hk) (own_on h.row hb)
    rwa [laidTo_set ts A hk a'] at r
  · simp only [Nat.zero_le, if_true]; exact h3
  · by_cases e : i = k
    · subst e
      simp only [Nat.le_refl, if_true, show ¬ i + 1 ≤ i by omega, if_false]; omega
    · simp only [show i ≤ k by omega, show i + 1 ≤ k by omega, if_true]; exact h.mono i (by omega)
  · simp only [show ¬ k + 1 ≤ k by omega, if_false, World.size_setCell]; exact Nat.le_refl _
  · have h0i := hle 0 i (by omega) (by omega)
    by_cases e : i = k
    · subst e
      simp only [Nat.le_refl, if_true, show ¬ i + 1 ≤ i by omega, if_false]
      have hn : ¬ (L i ≤ w.heap.size ∧ w.heap.size < w1.heap.size) := by omega
      exact (((ho.mono (S' := fun x => L i ≤ x ∧ x < w1.heap.size) (fun x hx => ⟨by omega, hx.2⟩)).setCell ⟨w.heap.size, i * 3, none⟩ hn _).setCell ⟨w.heap.size, i * 3 + 1, none⟩ hn _).setCell ⟨w.heap.size, i * 3 + 2, none⟩ hn _
    · simp only [show i ≤ k by omega, show i + 1 ≤ k by omega, if_true, e, if_false]
      have h6 := hle (i + 1) k (by omega) (Nat.le_refl _)
      have hn : ¬ (L i ≤ w.heap.size ∧ w.heap.size < L (i + 1)) := by omega
      have o := (h.kid i hi (by omega)).frame (w' := w1) (fun x hx => hb.block x (by omega)) hb.size
      exact ((o.setCell ⟨w.heap.size, k * 3, none⟩ hn _).setCell ⟨w.heap.size, k * 3 + 1, none⟩ hn _).setCell ⟨w.heap.size, k * 3 + 2, none⟩ hn _
  · have hB := h.below.trans (hb.mono h.below.size)
    exact ((hB.setCell (p := ⟨w.heap.size, k * 3, none⟩) (Nat.le_refl _) _).setCell (p := ⟨w.heap.size, k * 3 + 1, none⟩) (Nat.le_refl _) _).setCell (p := ⟨w.heap.size, k * 3 + 2, none⟩) (Nat.le_refl _) _

set_option maxHeartbeats 1600000 in
theorem toTermS_any (N : Nat) : ∀ (ts : List TermD) (a : Option Addr) (c hi : Nat) (w : World), partsL ts ≤ N → N ≤ 549755813888 → RdK w hi a ts → hi ≤ w.heap.size →
    Calls Tryz.prog 23 #[.slice a ts.length c] w fun e w' => e = .returned (.slice (some ⟨w.heap.size, 0, none⟩) ts.length ts.length) ∧ OwnS w' (fun x => w.heap.size ≤ x ∧ x < w'.heap.size) (some ⟨w.heap.size, 0, none⟩) ts ∧ Below w.heap.size w w' := by
  obtain ⟨i0, hi0, hz0, hz1, hz2⟩ := info_parts info29
  induction N with
  | zero =>
    intro ts a c hi w hN hM hr hhi
    have h1 := partsL_len ts
    have : ts = [] := List.length_eq_zero_iff.1 (by omega)
    subst this
    go_enter Tryz.func23, Tryz.ntmps23
    go_wp2_with (first
      | (at_make; refine wpList_make_full _ rfl _ _ 35 rfl w.heap.size 37 i0 _ 3 Tryz.underlying35 hi0 hz0 hz1 _ _ _ _ 0 rfl rfl rfl rfl (by omega) (by unfold maxLen; omega) (Nat.le_refl _) ?_; intro w1 hown hgrow))
    refine wp_loop_rounds 1 ?_
    rw [rounds_succ]
    go_wp2_with fail
    go_ret
    exact ⟨rfl, .nil _ _, (Below.refl _ _).grown hgrow (Nat.le_refl _) (by simp)⟩
  | succ N ih =>
    intro ts a c hi w hN hM hr hhi
    have hlen := partsL_len ts
    have HZ : Hid (∀ i, (h : i < ts.length) → isW ts[i].f ∧ isW ts[i].v) := fun i h => hr.ints h
    have HR : Hid (RdK w hi a ts) := hr
    clear hr
    go_enter Tryz.func23, Tryz.ntmps23
    go_wp2_with (first
      | (at_make; refine wpList_make_full _ rfl _ _ 35 rfl w.heap.size 37 i0 _ 3 Tryz.underlying35 hi0 hz0 hz1 _ _ _ _ ts.length rfl rfl rfl rfl (by rw [hz2]; omega) (by unfold maxLen; omega) (Nat.le_refl _) ?_; intro w1 hown hgrow))
    have hlt1 : w.heap.size < w1.heap.size := (hown.lt _ rfl).2
    have S0 : CopySt w w1 ts 0 (fun _ => none) (fun _ => w1.heap.size) := ⟨by rw [laidTo_zero, ← cs3_made]; exact hown, hlt1, fun i hi => absurd hi (by omega), Nat.le_refl _, fun i _ hi => absurd hi (by omega), (Below.refl _ _).grown hgrow (Nat.le_refl _) (by simp)⟩
    clear hown hgrow hlt1
    go_loopw [4] (fun i wr => ∃ (k : Nat) (A : Nat → Option Addr) (L : Nat → Nat), k ≤ ts.length ∧ i = .int .i64 k ∧ CopySt w wr ts k A L) (fun i _ => ts.length - (intOf i).toNat)
    case atStart => exact ⟨0, _, _, Nat.zero_le _, rfl, S0⟩
    case round =>
      obtain ⟨k, A, L, hk, rfl, S⟩ := hrel
      clear S0
      by_cases hk' : k < ts.length
      · obtain ⟨b, off, a', c', rfl, hlt, d0, d1, d2, hkr⟩ := RdK.kid (HR.out.on (S.below.mono hhi)) hk'
        have hpg := partsL_get hk'
        have hpt := partsT_eq ts[k]
        have hki : (k : Int) < (ts.length : Int) := by omega
        have hwr := Nat.le_trans hhi S.below.size
        have T := toTerm_of ts[k] a' c' wr (fun w' h => ih ts[k].kids a' c' hi w' (by omega) (by omega) (hkr.on (h.mono hwr)) (Nat.le_trans hwr h.size))
        have hlen2 := laidTo_len ts A k
        have hkl : k < (laidTo ts A k).length := by rw [hlen2]; exact hk'
        clear hkr hpt
        go_wp2_with (go_at_call 10; refine T.mono ?_; rintro e w2 ⟨a2, rfl, ho, hb⟩; clear T; have S1 := S.step hk' ho hb; have hown2 := own_on S.row hb; obtain ⟨e0, e1, e2⟩ := cs3_cells hlen2.symm hkl hown2; have f0 := hown2.frozenAt (k * 3); have f1 := hown2.frozenAt (k * 3 + 1); have f2 := hown2.frozenAt (k * 3 + 2); clear hown2 S ho hb d0 d1 d2 hlen2)
        go_roundw
        case rel => exact ⟨k + 1, _, _, by omega, by go_num, S1⟩
        case measure => simp [intOf]; omega
      · have e : k = ts.length := by omega
        have S1 : CopySt w wr ts ts.length A L := e ▸ S
        clear e S
        go_wp2_with fail
        go_ret
        exact ⟨rfl, S1.done (by omega) HZ.out, S1.below⟩

theorem toTerm_any (t : TermD) (a : Option Addr) (c hi : Nat) (w : World) (hp : partsT t ≤ 549755813888) (hr : RdK w hi a t.kids) (hhi : hi ≤ w.heap.size) :
    Calls Tryz.prog 10 #[.agg #[.int .i64 t.f, .int .i64 t.v, .slice a t.kids.length c]] w fun e w' => ∃ a', e = .returned (.agg #[.int .i64 t.f, .int .i64 t.v, .slice a' t.kids.length t.kids.length]) ∧ OwnS w' (fun x => w.heap.size ≤ x ∧ x < w'.heap.size) a' t.kids ∧ Below w.heap.size w w' :=
  toTerm_of t a c w (fun w' h => toTermS_any (partsL t.kids) t.kids a c hi w' (Nat.le_refl _) (by rw [partsT_eq] at hp; omega) (hr.on (h.mono hhi)) (Nat.le_trans hhi h.size))
end Go.Proofs.YthbilahilmmfmabGreat

/- The specification's l4Put: a term put into a row of terms by its order; the row is made anew. Conditions: terms of at most 549755813888 parts, rows of at most 549755813888 terms. -/
namespace Go.Proofs.YthbilahilmmfmabGreat
set_option maxRecDepth 100000
open Go.RowKit

/-- Where a term comes in a list. -/
def putK (t : TermD) (l : List TermD) : Nat := (l.takeWhile fun e => !befT t e).length
theorem putK_le (t : TermD) (l : List TermD) : putK t l ≤ l.length := (List.takeWhile_sublist _).length_le
theorem putT_at (t : TermD) (l : List TermD) : putT t l = l.take (putK t l) ++ t :: l.drop (putK t l) := by
  unfold putT putK
  have h := List.takeWhile_append_dropWhile (p := fun e => !befT t e) (l := l)
  generalize l.takeWhile (fun e => !befT t e) = a at *
  generalize l.dropWhile (fun e => !befT t e) = b at *
  rw [← h]; simp
theorem putK_step (t : TermD) : ∀ (l : List TermD) (k : Nat), k ≤ putK t l → (h : k < l.length) → (befT t l[k] = false ↔ k + 1 ≤ putK t l)
  | [], k, _, h => by simp at h
  | x :: l, k, hk, h => by
    unfold putK at *
    by_cases e : befT t x = true
    · simp only [List.takeWhile_cons, e, Bool.not_true, Bool.false_eq_true, if_false, List.length_nil] at hk ⊢
      have : k = 0 := by omega
      subst this
      simp [e]
    · have e' : befT t x = false := by simpa using e
      simp only [List.takeWhile_cons, e', Bool.not_false, if_true, List.length_cons] at hk ⊢
      cases k with
      | zero => simp [e']
      | succ k =>
        have ih := putK_step t l k (by unfold putK; omega) (by simpa using h)
        unfold putK at ih
        simp only [List.getElem_cons_succ]
        rw [ih]; omega

/-- The same of a row. -/
def putF (e : FE) (L : List FE) : List FE := L.take (putK e.t (L.map FE.t)) ++ e :: L.drop (putK e.t (L.map FE.t))
theorem putF_t (e : FE) (L : List FE) : (putF e L).map FE.t = putT e.t (L.map FE.t) := by
  rw [putT_at]; simp [putF, List.map_take, List.map_drop]
theorem putF_perm (e : FE) (L : List FE) : (putF e L).Perm (e :: L) := by
  unfold putF
  refine List.perm_middle.trans ?_
  rw [List.take_append_drop]
theorem putF_len (e : FE) (L : List FE) : (putF e L).length = L.length + 1 := by simpa using (putF_perm e L).length_eq

theorem cs3_append (a b : List (Value × Value × Value)) : cs3 (a ++ b) = cs3 a ++ cs3 b := by simp [cs3]
theorem cs3_one (L : List FE) : ∀ u ∈ cs3 (L.map FE.cells), u.oneCell' = true := by
  intro u hu
  simp only [cs3, List.mem_flatMap, List.mem_map] at hu
  obtain ⟨x, ⟨e, _, rfl⟩, hx⟩ := hu
  simp only [FE.cells, List.mem_cons, List.not_mem_nil, or_false] at hx
  rcases hx with rfl | rfl | rfl <;> rfl

/-- Where 'list[k:]' begins. -/
def fromA (g k c : Nat) : Addr := if c = k then ⟨g, 0, none⟩ else ⟨g, k * 3, none⟩
theorem slice_to (av : Option Addr) (n k c : Nat) (h : k ≤ c) (w : World) : (Instr.slice 35 (.slice av n c) none (some (.int .i64 k)) none).run Tryz.prog w = .ok (.slice av k c) w := by
  have h0 : (sizeOf 37).run Tryz.prog w = .ok 3 w := by simp [go_sem]
  have hb : (Instr.sliceBounds true n c none (some (.int .i64 k)) none).run Tryz.prog w = .ok (0, k, c) w := by
    simp [Instr.sliceBounds, Instr.sliceBound, asIntOf, go_sem]
    intro hh; omega
  simp only [Instr.slice, Sem.run_bind, run_underlying Tryz.underlying35, Result.andThen, hb, h0, Sem.run_pure]
  cases av with
  | none => simp
  | some x => simp [Addr.add]
theorem sliceAt_to (av : Option Addr) (n k c : Nat) (h : k ≤ c) (w : World) : (Instr.sliceAt 35 (.slice av n c) none (some (.int .i64 k)) none).run Tryz.prog w = .ok (.slice av k c) w := by
  simp only [Instr.sliceAt, Sem.run_bind, run_underlying Tryz.underlying35, Result.andThen, slice_to av n k c h w]
theorem slice_from (g n k c : Nat) (h : k ≤ n) (w : World) : (Instr.slice 35 (.slice (some ⟨g, 0, none⟩) n c) (some (.int .i64 k)) none none).run Tryz.prog w = .ok (.slice (some (fromA g k c)) (n - k) (c - k)) w := by
  have h0 : (sizeOf 37).run Tryz.prog w = .ok 3 w := by simp [go_sem]
  have hb : (Instr.sliceBounds true n c (some (.int .i64 k)) none none).run Tryz.prog w = .ok (k, n, c) w := by
    simp [Instr.sliceBounds, Instr.sliceBound, asIntOf, go_sem]
    intro hh; omega
  simp only [Instr.slice, Sem.run_bind, run_underlying Tryz.underlying35, Result.andThen, hb, h0, Sem.run_pure]
  unfold fromA
  split
  · simp
  · simp [Addr.add]
    intro hh; omega
theorem sliceAt_from (g n k c : Nat) (h : k ≤ n) (w : World) : (Instr.sliceAt 35 (.slice (some ⟨g, 0, none⟩) n c) (some (.int .i64 k)) none none).run Tryz.prog w = .ok (.slice (some (fromA g k c)) (n - k) (c - k)) w := by
  simp only [Instr.sliceAt, Sem.run_bind, run_underlying Tryz.underlying35, Result.andThen, slice_from g n k c h w]

theorem news_to {w : World} {B g n c k : Nat} {L : List FE} (hn : n = L.length) (h : w.ownsRow B 37 3 (.slice (some ⟨g, 0, none⟩) n c) n (cs3 (L.map FE.cells))) (hk : k ≤ L.length) :
    ∀ j u, (cs3 ((L.take k).map FE.cells))[j]? = some u → w.cell? ((⟨g, 0, none⟩ : Addr).add j) = some u := by
  intro j u hj
  have hadd : (⟨g, 0, none⟩ : Addr).add j = ⟨g, j, none⟩ := by unfold Addr.add; split <;> simp_all
  have hlen := cs3_len ((L.take k).map FE.cells)
  have hlt := (List.getElem?_eq_some_iff.1 hj).1
  rw [hlen] at hlt
  simp at hlt
  rw [hadd, h.cellAt j (by omega)]
  have e : cs3 (L.map FE.cells) = cs3 ((L.take k).map FE.cells) ++ cs3 ((L.drop k).map FE.cells) := by rw [← cs3_append, ← List.map_append, List.take_append_drop]
  rw [e, List.getElem?_append_left (by rw [hlen]; simp; omega)]
  exact hj
theorem news_from {w : World} {B g n c k : Nat} {L : List FE} (hn : n = L.length) (h : w.ownsRow B 37 3 (.slice (some ⟨g, 0, none⟩) n c) n (cs3 (L.map FE.cells))) (hk : k ≤ L.length) (hc : n ≤ c) :
    ∀ j u, (cs3 ((L.drop k).map FE.cells))[j]? = some u → w.cell? ((fromA g k c).add j) = some u := by
  intro j u hj
  have hlen := cs3_len ((L.drop k).map FE.cells)
  have hlen' := cs3_len ((L.take k).map FE.cells)
  have hlt := (List.getElem?_eq_some_iff.1 hj).1
  rw [hlen] at hlt
  simp at hlt hlen'
  have hne : c ≠ k := by omega
  have hadd : (fromA g k c).add j = ⟨g, k * 3 + j, none⟩ := by
    unfold fromA; rw [if_neg hne]; unfold Addr.add; split <;> simp_all
  rw [hadd, h.cellAt _ (by omega)]
  have e : cs3 (L.map FE.cells) = cs3 ((L.take k).map FE.cells) ++ cs3 ((L.drop k).map FE.cells) := by rw [← cs3_append, ← List.map_append, List.take_append_drop]
  have e2 : min k L.length = k := by omega
  rw [e, List.getElem?_append_right (by simp [hlen', e2])]
  simp [hlen', e2]
  simpa using hj

theorem three_new (w : World) (x y z : Value) (t : TypeId) (n : Nat) (hn : n = w.heap.size) : ∀ j v, [x, y, z][j]? = some v → (w.alloc (.cells #[x, y, z] t)).cell? ((⟨n, 0, none⟩ : Addr).add j) = some v := by
  subst hn
  intro j v hj
  match j, hj with
  | 0, hj => simp at hj; subst hj; simp [Addr.add]
  | 1, hj => simp at hj; subst hj; simp [Addr.add]
  | 2, hj => simp at hj; subst hj; simp [Addr.add]
  | j + 3, hj => simp at hj
theorem three_cell (f v : Int) (a : Option Addr) (n c : Nat) : ∀ u ∈ [Value.int .i64 f, Value.int .i64 v, Value.slice a n c], u.oneCell' = true := by
  intro u hu
  simp at hu
  rcases hu with rfl | rfl | rfl <;> rfl
theorem putF_cells {e : FE} {L : List FE} {k : Nat} (hk : k = putK e.t (L.map FE.t)) : (cs3 ((L.take k).map FE.cells) ++ [Value.int .i64 e.t.f, Value.int .i64 e.t.v, Value.slice e.a e.t.kids.length e.c]) ++ cs3 ((L.drop k).map FE.cells) = cs3 ((putF e L).map FE.cells) := by
  subst hk
  simp [putF, cs3, FE.cells]
theorem own_any {w : World} {base : Nat} {e : TypeId} {size : Nat} {v : Value} {n : Nat} {xs : List Value} {a : Addr} {m c : Nat} {q : Prop} (h : w.ownsRow base e size v n xs) (hv : v = .slice none 0 0 ↔ .slice (some a) m c = Value.slice none 0 0 ∧ q) : ∃ g c, v = .slice (some ⟨g, 0, none⟩) n c := by
  rcases h.2 with ⟨h, _⟩ | ⟨g, cap, _, rfl, _⟩
  · have := (hv.1 h).1; simp at this
  · exact ⟨g, cap, rfl⟩

set_option maxHeartbeats 3200000 in
set_option maxRecDepth 100000 in
theorem l4Put_some (base g cv : Nat) (L : List FE) (e : FE) (hi : Nat) (w : World) (hrow : w.ownsRow base 37 3 (.slice (some ⟨g, 0, none⟩) L.length cv) L.length (cs3 (L.map FE.cells))) (hk : ∀ i, (h : i < L.length) → RdK w hi L[i].a L[i].t.kids) (he : RdK w hi e.a e.t.kids) (hhi : hi ≤ w.heap.size) (hp : partsT e.t ≤ 549755813888) (hl : L.length ≤ 549755813888) :
    Calls Tryz.prog 45 #[.slice (some ⟨g, 0, none⟩) L.length cv, .agg #[.int .i64 e.t.f, .int .i64 e.t.v, .slice e.a e.t.kids.length e.c]] w fun en w' => ∃ g' c', en = .returned (.slice (some ⟨g', 0, none⟩) (L.length + 1) c') ∧ w'.ownsRow w.heap.size 37 3 (.slice (some ⟨g', 0, none⟩) (L.length + 1) c') (L.length + 1) (cs3 ((putF e L).map FE.cells)) ∧ Below w.heap.size w w' := by
  obtain ⟨i0, hi0, hz0, hz1, hz2⟩ := info_parts info29
  have hcap : L.length ≤ cv := by obtain ⟨_, _, h, hh⟩ := own_form hrow; cases h; exact hh
  have hgl := (hrow.lt g rfl).2
  have HK : Hid (∀ i, (h : i < L.length) → RdK w hi L[i].a L[i].t.kids) := hk
  have HE : Hid (RdK w hi e.a e.t.kids) := he
  have HROW : Hid (w.ownsRow base 37 3 (.slice (some ⟨g, 0, none⟩) L.length cv) L.length (cs3 (L.map FE.cells))) := hrow
  have HPL : Hid (putK e.t (L.map FE.t) ≤ L.length) := by show _ ≤ _; simpa using putK_le e.t (L.map FE.t)
  have hb0 : Below w.heap.size w (w.alloc (.cells #[.int .i64 e.t.f, .int .i64 e.t.v, .slice e.a e.t.kids.length e.c] 37)) := (Below.refl w.heap.size w).alloc (Nat.le_refl _) _
  clear hk he hrow
  go_enter Tryz.func45, Tryz.ntmps45
  go_wp2_with fail
  go_loopw [5] (fun i wr => ∃ k : Nat, k ≤ putK e.t (L.map FE.t) ∧ i = .int .i64 k ∧ wr.cell? ⟨w.heap.size, 0, none⟩ = some (.int .i64 e.t.f) ∧ wr.cell? ⟨w.heap.size, 1, none⟩ = some (.int .i64 e.t.v) ∧ wr.cell? ⟨w.heap.size, 2, none⟩ = some (.slice e.a e.t.kids.length e.c) ∧ Below w.heap.size w wr) (fun i _ => L.length - (intOf i).toNat)
  case atStart => exact ⟨0, Nat.zero_le _, rfl, by simp [go_sem], by simp [go_sem], by simp [go_sem], hb0⟩
  case round =>
    obtain ⟨k, hkp, rfl, b0, b1, b2, hbr⟩ := hrel
    clear hb0
    have hkl : k ≤ L.length := Nat.le_trans hkp HPL.out
    have hzr : w.heap.size < wr.heap.size := World.block_lt_of_cell? _ _ b0
    have hbk0 : (0 : Int) ≤ (k : Int) := by omega
    by_cases hk' : k < L.length
    · have hki : (k : Int) < (L.length : Int) := by omega
      have rowr := own_on HROW.out hbr
      obtain ⟨d0, d1, d2⟩ := cs3_cells (l := L.map FE.cells) (k := k) (by simp) (by simpa using hk') rowr
      simp only [List.getElem_map, FE.cells] at d0 d1 d2
      have hwr := Nat.le_trans hhi hbr.size
      have I := fun (w' : World) (h : Below wr.heap.size wr w') => specBefore_any (partsT e.t) e.t L[k].t e.a L[k].a e.c L[k].c hi w' (Nat.le_refl _) hp ((HE.out.on (hbr.mono hhi)).on (h.mono hwr)) (((HK.out k hk').on (hbr.mono hhi)).on (h.mono hwr)) (Nat.le_trans hwr h.size)
      have HS : Hid (befT e.t L[k].t = false ↔ k + 1 ≤ putK e.t (L.map FE.t)) := by
        have := putK_step e.t (L.map FE.t) k hkp (by simpa using hk')
        show _ ↔ _
        simpa using this
      cases hbf : befT e.t L[k].t with
      | false =>
        rw [hbf] at I
        have hk1 : k + 1 ≤ putK e.t (L.map FE.t) := HS.out.1 hbf
        clear hbf rowr HS
        go_wp2_with fail
        go_region_held3 (fun w' => w'.cell? ⟨w.heap.size, 0, none⟩ = some (.int .i64 e.t.f) ∧ w'.cell? ⟨w.heap.size, 1, none⟩ = some (.int .i64 e.t.v) ∧ w'.cell? ⟨w.heap.size, 2, none⟩ = some (.slice e.a e.t.kids.length e.c) ∧ w'.cell? ⟨g, k * 3, none⟩ = some (.int .i64 L[k].t.f) ∧ w'.cell? ⟨g, k * 3 + 1, none⟩ = some (.int .i64 L[k].t.v) ∧ w'.cell? ⟨g, k * 3 + 2, none⟩ = some (.slice L[k].a L[k].t.kids.length L[k].c)) (first | go_keep | exact ⟨keepC hbb b0, keepC hbb b1, keepC hbb b2, keepC hbb d0, keepC hbb d1, keepC hbb d2⟩)
          (first | (go_at_call 56; refine (I _ ?_).mono ?_; exact (Below.refl _ _).drew; rintro e1 w1 ⟨rfl, hb1⟩; have hbb : Below wr.heap.size wr w1 := (Below.refl _ _).drew.trans hb1; clear hb1))
        go_wp2_with fail
        go_roundw
        case rel => exact ⟨k + 1, hk1, by go_num, keepC hbb b0, keepC hbb b1, keepC hbb b2, hbr.trans (hbb.mono hbr.size)⟩
        case measure => simp [intOf]; omega
      | true =>
        rw [hbf] at I
        have E : Hid (k = putK e.t (L.map FE.t)) := by
          show _ = _
          have h1 : ¬ k + 1 ≤ putK e.t (L.map FE.t) := fun h => by rw [HS.out.2 h] at hbf; cases hbf
          omega
        clear hbf rowr HS
        go_wp2_with fail
        go_region_held3 (fun w' => w'.cell? ⟨w.heap.size, 0, none⟩ = some (.int .i64 e.t.f) ∧ w'.cell? ⟨w.heap.size, 1, none⟩ = some (.int .i64 e.t.v) ∧ w'.cell? ⟨w.heap.size, 2, none⟩ = some (.slice e.a e.t.kids.length e.c) ∧ w'.cell? ⟨g, k * 3, none⟩ = some (.int .i64 L[k].t.f) ∧ w'.cell? ⟨g, k * 3 + 1, none⟩ = some (.int .i64 L[k].t.v) ∧ w'.cell? ⟨g, k * 3 + 2, none⟩ = some (.slice L[k].a L[k].t.kids.length L[k].c)) (first | go_keep | exact ⟨keepC hbb b0, keepC hbb b1, keepC hbb b2, keepC hbb d0, keepC hbb d1, keepC hbb d2⟩)
          (first | (go_at_call 56; refine (I _ ?_).mono ?_; exact (Below.refl _ _).drew; rintro e1 w1 ⟨rfl, hb1⟩; have hbb : Below wr.heap.size wr w1 := (Below.refl _ _).drew.trans hb1; clear hb1))
        have c0 := keepC hbb b0
        have c1 := keepC hbb b1
        have c2 := keepC hbb b2
        have hB1 : Below w.heap.size w w1 := hbr.trans (hbb.mono hbr.size)
        clear b0 b1 b2 d0 d1 d2 hbb hbr I
        have hs1 := slice_to (some ⟨g, 0, none⟩) L.length k cv (by omega)
        have hs2 := sliceAt_to (some ⟨g, 0, none⟩) L.length k cv (by omega)
        have hs3 := slice_from g L.length k cv hkl
        have hs4 := sliceAt_from g L.length k cv hkl
        have hz1' := hB1.size
        have hw1 : w.heap.size < w1.heap.size := World.block_lt_of_cell? _ _ c0
        go_wp2_with (first
          | (at_builtin; (refine wpList_append_own _ rfl (.tmp 22) (.tmp 25) 35 rfl w.heap.size 37 i0 _ 3 40 Tryz.underlying35 hi0 hz0 hz1 hz2 rfl (by decide) _ 0 [] rfl (World.ownsRow_made w1 #[] 0 hB1.size (Nat.zero_le _) rfl) ⟨g, 0, none⟩ k cv (cs3 ((L.take k).map FE.cells)) rfl (by rw [cs3_len]; simp; omega) (news_to rfl (own_on HROW.out (hB1.alloc hB1.size _)) hkl) (cs3_one _) (by unfold maxLen; omega) (by omega) (by simp; omega) ?_; intro v2 w2 hown2 hgrow2 hnil2; obtain ⟨g2, c2', rfl⟩ := own_any hown2 hnil2; simp only [Nat.zero_add, List.nil_append] at hown2 ⊢; have hg2 : (w1.alloc (.cells #[] 37)).grownBy w2 (some w1.heap.size) := hgrow2; have hb2 : Below w1.heap.size w1 w2 := (((Below.refl _ _).alloc (Nat.le_refl _) _).grown hg2 (by simp) (fun kk ee => by cases ee; exact Nat.le_refl _)); have e0 := keepC hb2 c0; have e1 := keepC hb2 c1; have e2 := keepC hb2 c2; have hB2 : Below w.heap.size w w2 := hB1.trans (hb2.mono hB1.size); have hw2 : w.heap.size < w2.heap.size := (Nat.lt_of_lt_of_le hw1 hb2.size); clear hnil2 hgrow2 hg2 hb2 c0 c1 c2 hB1 hw1 hz1'))
          | (at_builtin; (refine wpList_append_own _ rfl (.tmp 27) (.tmp 29) 35 rfl w.heap.size 37 i0 _ 3 40 Tryz.underlying35 hi0 hz0 hz1 hz2 rfl (by decide) _ k _ rfl (hown2.alloc _) ⟨w2.heap.size, 0, none⟩ 1 1 _ rfl rfl (three_new _ _ _ _ _ _ rfl) (three_cell _ _ _ _ _) (by unfold maxLen; omega) (by omega) (by simp; omega) ?_; intro v3 w3 hown3 hgrow3 hnil3; obtain ⟨g3, c3', rfl⟩ := own_any hown3 hnil3; have hg3 : (w2.alloc (.cells #[.int .i64 e.t.f, .int .i64 e.t.v, .slice e.a e.t.kids.length e.c] 37)).grownBy w3 (some g2) := hgrow3; have hB3 : Below w.heap.size w w3 := ((hB2.alloc hB2.size _).grown hg3 (by simp; omega) (fun kk ee => by cases ee; exact (hown2.lt _ rfl).1)); clear hnil3 hgrow3 hg3 e0 e1 e2 hB2 hw2 hown2))
          | (at_builtin; (refine wpList_append_own _ rfl (.tmp 31) (.tmp 34) 35 rfl w.heap.size 37 i0 _ 3 40 Tryz.underlying35 hi0 hz0 hz1 hz2 rfl (by decide) _ (k + 1) _ rfl hown3 (fromA g k cv) (L.length - k) (cv - k) (cs3 ((L.drop k).map FE.cells)) rfl (by rw [cs3_len]; simp) (news_from rfl (own_on HROW.out hB3) hkl hcap) (cs3_one _) (by unfold maxLen; omega) (by omega) hB3.size ?_; intro v4 w4 hown4 hgrow4 hnil4; obtain ⟨g4, c4', rfl⟩ := own_any hown4 hnil4; have hg4 : w3.grownBy w4 (some g3) := hgrow4; have hB4 : Below w.heap.size w w4 := (hB3.grown hg4 hB3.size (fun kk ee => by cases ee; exact (hown3.lt _ rfl).1)); clear hnil4 hgrow4 hg4)))
        go_ret
        have hlen : k + 1 + (L.length - k) = L.length + 1 := by omega
        rw [putF_cells E.out, hlen] at hown4
        refine ⟨g4, c4', ?_, hown4, hB4⟩
        rw [← hlen]
        rfl
    · have E : Hid (k = putK e.t (L.map FE.t)) := by
        show _ = _
        have := HPL.out
        omega
      have hnk : ¬ (k : Int) < (L.length : Int) := by omega
      go_wp2_with fail
      go_quiet ((fail))
      have hbb : Below wr.heap.size wr (wr.drewN nq) := below_drewN (Below.refl _ _) nq
      have c0 := keepC hbb b0
      have c1 := keepC hbb b1
      have c2 := keepC hbb b2
      have hB1 : Below w.heap.size w (wr.drewN nq) := hbr.trans (hbb.mono hbr.size)
      clear b0 b1 b2 hbb hbr
      generalize wr.drewN nq = w1 at *
      have hs1 := slice_to (some ⟨g, 0, none⟩) L.length k cv (by omega)
      have hs2 := sliceAt_to (some ⟨g, 0, none⟩) L.length k cv (by omega)
      have hs3 := slice_from g L.length k cv hkl
      have hs4 := sliceAt_from g L.length k cv hkl
      have hz1' := hB1.size
      have hw1 : w.heap.size < w1.heap.size := World.block_lt_of_cell? _ _ c0
      go_wp2_with (first
        | (at_builtin; (refine wpList_append_own _ rfl (.tmp 22) (.tmp 25) 35 rfl w.heap.size 37 i0 _ 3 40 Tryz.underlying35 hi0 hz0 hz1 hz2 rfl (by decide) _ 0 [] rfl (World.ownsRow_made w1 #[] 0 hB1.size (Nat.zero_le _) rfl) ⟨g, 0, none⟩ k cv (cs3 ((L.take k).map FE.cells)) rfl (by rw [cs3_len]; simp; omega) (news_to rfl (own_on HROW.out (hB1.alloc hB1.size _)) hkl) (cs3_one _) (by unfold maxLen; omega) (by omega) (by simp; omega) ?_; intro v2 w2 hown2 hgrow2 hnil2; obtain ⟨g2, c2', rfl⟩ := own_any hown2 hnil2; simp only [Nat.zero_add, List.nil_append] at hown2 ⊢; have hg2 : (w1.alloc (.cells #[] 37)).grownBy w2 (some w1.heap.size) := hgrow2; have hb2 : Below w1.heap.size w1 w2 := (((Below.refl _ _).alloc (Nat.le_refl _) _).grown hg2 (by simp) (fun kk ee => by cases ee; exact Nat.le_refl _)); have e0 := keepC hb2 c0; have e1 := keepC hb2 c1; have e2 := keepC hb2 c2; have hB2 : Below w.heap.size w w2 := hB1.trans (hb2.mono hB1.size); have hw2 : w.heap.size < w2.heap.size := (Nat.lt_of_lt_of_le hw1 hb2.size); clear hnil2 hgrow2 hg2 hb2 c0 c1 c2 hB1 hw1 hz1'))
        | (at_builtin; (refine wpList_append_own _ rfl (.tmp 27) (.tmp 29) 35 rfl w.heap.size 37 i0 _ 3 40 Tryz.underlying35 hi0 hz0 hz1 hz2 rfl (by decide) _ k _ rfl (hown2.alloc _) ⟨w2.heap.size, 0, none⟩ 1 1 _ rfl rfl (three_new _ _ _ _ _ _ rfl) (three_cell _ _ _ _ _) (by unfold maxLen; omega) (by omega) (by simp; omega) ?_; intro v3 w3 hown3 hgrow3 hnil3; obtain ⟨g3, c3', rfl⟩ := own_any hown3 hnil3; have hg3 : (w2.alloc (.cells #[.int .i64 e.t.f, .int .i64 e.t.v, .slice e.a e.t.kids.length e.c] 37)).grownBy w3 (some g2) := hgrow3; have hB3 : Below w.heap.size w w3 := ((hB2.alloc hB2.size _).grown hg3 (by simp; omega) (fun kk ee => by cases ee; exact (hown2.lt _ rfl).1)); clear hnil3 hgrow3 hg3 e0 e1 e2 hB2 hw2 hown2))
        | (at_builtin; (refine wpList_append_own _ rfl (.tmp 31) (.tmp 34) 35 rfl w.heap.size 37 i0 _ 3 40 Tryz.underlying35 hi0 hz0 hz1 hz2 rfl (by decide) _ (k + 1) _ rfl hown3 (fromA g k cv) (L.length - k) (cv - k) (cs3 ((L.drop k).map FE.cells)) rfl (by rw [cs3_len]; simp) (news_from rfl (own_on HROW.out hB3) hkl hcap) (cs3_one _) (by unfold maxLen; omega) (by omega) hB3.size ?_; intro v4 w4 hown4 hgrow4 hnil4; obtain ⟨g4, c4', rfl⟩ := own_any hown4 hnil4; have hg4 : w3.grownBy w4 (some g3) := hgrow4; have hB4 : Below w.heap.size w w4 := (hB3.grown hg4 hB3.size (fun kk ee => by cases ee; exact (hown3.lt _ rfl).1)); clear hnil4 hgrow4 hg4)))
      go_ret
      have hlen : k + 1 + (L.length - k) = L.length + 1 := by omega
      rw [putF_cells E.out, hlen] at hown4
      refine ⟨g4, c4', ?_, hown4, hB4⟩
      rw [← hlen]
      rfl
end Go.Proofs.YthbilahilmmfmabGreat

/- append to a row of one's own, as one step of a region that draws its order. Conditions: none. -/
namespace Go.Proofs.YthbilahilmmfmabGreat
set_option maxRecDepth 100000
open Go.RowKit

theorem step_append_own {P : Program} {ops : Array Oper} {o : Oper} {a : Act} {w : World} {K : Act → World → Prop} {Q : Exit → Act → World → Prop} {E : Prop}
    (hg : o.guard = none) (s x : Operand) (t : TypeId) (hop : o.op = Op.call { callee := Callee.builtin Builtin.append, args := #[s, x], argTypes := #[t, t] })
    (base : Nat) (e : TypeId) (i : TypeInfo) (z : Value) (size bytes : Nat) (ht : P.underlying t = some (.slice e)) (hi : P.info? e = some i) (hz : i.zero = some z)
    (hsize : i.size = size) (hby : i.bytes = bytes) (hzs : z.cells.size = size) (hsz : 0 < size)
    (v : Value) (n : Nat) (xs : List Value) (hs : a.eval s = v) (hown : w.ownsRow base e size v n xs)
    (ad : Addr) (m c : Nat) (news : List Value) (hx : a.eval x = .slice (some ad) m c) (hl : news.length = m * size) (hnews : ∀ j u, news[j]? = some u → w.cell? (ad.add j) = some u) (h1 : ∀ u ∈ news, u.oneCell' = true)
    (h63 : n + m ≤ maxLen) (hbytes : (n + m) * bytes ≤ 140737488355328) (hbase : base ≤ w.heap.size)
    (hK : ∀ v' w', w'.ownsRow base e size v' (n + m) (xs ++ news) → w.grownBy w' v.ownBlock → (v'.ownBlock = v.ownBlock ∨ v'.ownBlock = some w.heap.size) → K (a.put o.dst v') w') :
    if Region.wanted o (yielded ops a.tmps) = true then Oper.wp P o a w K Q else E := by
  have hw : Region.wanted o (yielded ops a.tmps) = true := by simp [Region.wanted, hg]
  rw [if_pos hw]
  obtain ⟨v', w', hrun, r1, r2, _, r4⟩ := run_append_own_at (P := P) (w := w) base t o.type e i z size bytes ht hi hz hsize hby hzs hsz v n xs hown ad m c news hl hnews h1 h63 hbytes hbase
  subst hs
  unfold Oper.wp
  simp [execOp, hop, resolve, invoke, builtin, hx, hrun, Result.andThen]
  exact hK v' w' r1 r2 r4
/-- What grew by a row, or by none, grew by some block from B on. -/
theorem grow_any {w w' : World} {row : Option Nat} {B : Nat} (h : w.grownBy w' row) (hr : ∀ k, row = some k → B ≤ k) : ∃ g, B ≤ g ∧ w.grownBy w' (some g) := by
  cases row with
  | some k => exact ⟨k, hr k rfl, h⟩
  | none => exact ⟨B, Nat.le_refl _, ⟨h.os, h.tape, h.output, h.size, fun i hi _ => h.block i hi (by simp)⟩⟩
end Go.Proofs.YthbilahilmmfmabGreat

/- The program's way to one form: a Kid that is done is put into the home of the innermost term. Conditions: at most 549755813888 terms at work, and Kids in a row. -/
namespace Go.Proofs.YthbilahilmmfmabGreat
set_option maxRecDepth 100000
open Go.RowKit

/-- The zero element that was appended becomes the term. -/
theorem own_fill {w1 w2 : World} {B g c n : Nat} {row : Option Nat} {xs : List Value} {p q s : Value} (h : w2.ownsRow B 37 3 (.slice (some ⟨g, 0, none⟩) (n + 1) c) (n + 1) (xs ++ [.int .i64 0, .int .i64 0, .slice none 0 0])) (hl : xs.length = n * 3) (hg : w1.grownBy w2 row) (hat : some g = row ∨ w1.heap.size ≤ g) :
    (((w2.setCell ⟨g, n * 3, none⟩ p).setCell ⟨g, n * 3 + 1, none⟩ q).setCell ⟨g, n * 3 + 2, none⟩ s).ownsRow B 37 3 (.slice (some ⟨g, 0, none⟩) (n + 1) c) (n + 1) (xs ++ [p, q, s]) ∧ w1.grownBy (((w2.setCell ⟨g, n * 3, none⟩ p).setCell ⟨g, n * 3 + 1, none⟩ q).setCell ⟨g, n * 3 + 2, none⟩ s) row := by
  have h1 := (((h.stored (n * 3) p).1.stored (n * 3 + 1) q).1.stored (n * 3 + 2) s).1
  have e1 : (((xs ++ [Value.int .i64 0, Value.int .i64 0, Value.slice none 0 0]).set (n * 3) p).set (n * 3 + 1) q).set (n * 3 + 2) s = xs ++ [p, q, s] := by
    rw [List.set_append_right _ _ (by omega), List.set_append_right _ _ (by omega), List.set_append_right _ _ (by omega)]
    simp [hl]
  rw [e1] at h1
  refine ⟨h1, ⟨hg.os, hg.tape, hg.output, by simpa using hg.size, fun k hk hne => ?_⟩⟩
  have hkg : k ≠ g := fun e => hat.elim (fun q => hne (e ▸ q)) (fun q => by omega)
  rw [Below.heap_setCell _ _ _ _ hkg, Below.heap_setCell _ _ _ _ hkg, Below.heap_setCell _ _ _ _ hkg]
  exact hg.block k hk hne

/-- Stores into two blocks may be told in either order. -/
theorem set_comm (w : World) (a b i j : Nat) (u v : Value) (h : a ≠ b) : (w.setCell ⟨a, i, none⟩ u).setCell ⟨b, j, none⟩ v = (w.setCell ⟨b, j, none⟩ v).setCell ⟨a, i, none⟩ u := by
  rw [Sort.setCell_eq, Sort.setCell_eq, Sort.setCell_eq, Sort.setCell_eq]
  unfold Sort.mapBlock
  congr 1
  apply Array.ext
  · simp
  · intro k h1 h2
    simp only [Array.getElem_modify]
    split
    · split
      · omega
      · rfl
    · rfl
/-- What the append leaves: the new row, and the cell that is stored into behind it. -/
theorem put_facts {W X w5 : World} {B n g o : Nat} {row : Option Nat} {u v5 : Value} {xs : List Value} (hl : xs.length = n * 3) (hown : w5.ownsRow B 37 3 v5 (n + 1) (xs ++ [.int .i64 0, .int .i64 0, .slice none 0 0])) (hg : X.grownBy w5 row) (hat : v5.ownBlock = row ∨ v5.ownBlock = some X.heap.size) (hb : Below W.heap.size W X) (hgW : g < W.heap.size) (hc : W.cell? ⟨g, o, none⟩ = some u) (hf : W.frozen? ⟨g, o, none⟩ = false) (hne : row ≠ some g) :
    ∃ g5 c5, v5 = .slice (some ⟨g5, 0, none⟩) (n + 1) c5 ∧ (w5.cell? ⟨g5, n * 3, none⟩ = some (.int .i64 0) ∧ w5.cell? ⟨g5, n * 3 + 1, none⟩ = some (.int .i64 0) ∧ w5.cell? ⟨g5, n * 3 + 2, none⟩ = some (.slice none 0 0)) ∧ (w5.frozen? ⟨g5, n * 3, none⟩ = false ∧ w5.frozen? ⟨g5, n * 3 + 1, none⟩ = false ∧ w5.frozen? ⟨g5, n * 3 + 2, none⟩ = false) ∧ w5.cell? ⟨g, o, none⟩ = some u ∧ w5.frozen? ⟨g, o, none⟩ = false ∧ g5 ≠ g ∧ n + 1 ≤ c5 ∧ (some g5 = row ∨ X.heap.size ≤ g5) := by
  obtain ⟨g5, c5, rfl, hc5, _⟩ := own_slot hown
  have hgX : w5.heap[g]? = W.heap[g]? := (hg.block g (Nat.lt_of_lt_of_le hgW hb.size) (fun e => hne e.symm)).trans (hb.block g hgW)
  have hat' : some g5 = row ∨ X.heap.size ≤ g5 := hat.imp id (fun q => Nat.le_of_eq (by simpa [Value.ownBlock] using q.symm))
  refine ⟨g5, c5, rfl, ⟨(hown.cellAt _ (by omega)).trans ?_, (hown.cellAt _ (by omega)).trans ?_, (hown.cellAt _ (by omega)).trans ?_⟩, ⟨hown.frozenAt _, hown.frozenAt _, hown.frozenAt _⟩, (World.cell?_of_block (a := ⟨g, o, none⟩) hgX).trans hc, (World.frozen?_of_block (a := ⟨g, o, none⟩) hgX).trans hf, fun e => ?_, hc5, hat'⟩
  · rw [List.getElem?_append_right (by omega)]; simp [hl]
  · rw [List.getElem?_append_right (by omega)]; simp [hl]
  · rw [List.getElem?_append_right (by omega)]; simp [hl]
  · rcases hat' with q | q
    · exact hne (e ▸ q.symm)
    · have := hb.size; omega
theorem three_at {X : World} {n : Nat} {x y z : Value} (h0 : X.cell? ⟨n, 0, none⟩ = some x) (h1 : X.cell? ⟨n, 1, none⟩ = some y) (h2 : X.cell? ⟨n, 2, none⟩ = some z) : ∀ j v, [x, y, z][j]? = some v → X.cell? ((⟨n, 0, none⟩ : Addr).add j) = some v := by
  intro j v hj
  match j, hj with
  | 0, hj => simp at hj; subst hj; simpa [Addr.add] using h0
  | 1, hj => simp at hj; subst hj; simpa [Addr.add] using h1
  | 2, hj => simp at hj; subst hj; simpa [Addr.add] using h2
  | j + 3, hj => simp at hj

theorem put_fin {n0 B : Nat} {F : List FM} {g c g5 c5 : Nat} {e : FE} {w X w5 : World} (H : NSt n0 B F (.slice (some ⟨g, 0, none⟩) F.length c) w) (hb : Below w.heap.size w X) (hh : hasHome F) (he : OwnS w e.K e.a e.t.kids ∧ e.t.kids.length ≤ e.c ∧ (isW e.t.f ∧ isW e.t.v) ∧ ∀ k, e.K k → B ≤ k ∧ k < w.heap.size) (hd : ∀ x ∈ F, ∀ k, e.K k → ¬ x.S k) (hdg : ¬ e.K g)
    (hg : X.grownBy w5 (Value.slice (homeFr F).am (homeFr F).L.length (homeFr F).cm).ownBlock) (hown : w5.ownsRow B 37 3 (.slice (some ⟨g5, 0, none⟩) ((homeFr F).L.length + 1) c5) ((homeFr F).L.length + 1) (cs3 ((homeFr F).L.map FE.cells) ++ [.int .i64 0, .int .i64 0, .slice none 0 0])) (hat : some g5 = (Value.slice (homeFr F).am (homeFr F).L.length (homeFr F).cm).ownBlock ∨ X.heap.size ≤ g5) :
    NSt n0 B (putHome e (some ⟨g5, 0, none⟩) c5 F) (.slice (some ⟨g, 0, none⟩) F.length c) ((((w5.setCell ⟨g5, (homeFr F).L.length * 3, none⟩ (.int .i64 e.t.f)).setCell ⟨g5, (homeFr F).L.length * 3 + 1, none⟩ (.int .i64 e.t.v)).setCell ⟨g5, (homeFr F).L.length * 3 + 2, none⟩ (.slice e.a e.t.kids.length e.c)).setCell ⟨g, homeIx F * 6 + 4, none⟩ (.slice (some ⟨g5, 0, none⟩) ((homeFr F).L.length + 1) c5)) ∧
      Stay (fun k => k < B) w ((((w5.setCell ⟨g5, (homeFr F).L.length * 3, none⟩ (.int .i64 e.t.f)).setCell ⟨g5, (homeFr F).L.length * 3 + 1, none⟩ (.int .i64 e.t.v)).setCell ⟨g5, (homeFr F).L.length * 3 + 2, none⟩ (.slice e.a e.t.kids.length e.c)).setCell ⟨g, homeIx F * 6 + 4, none⟩ (.slice (some ⟨g5, 0, none⟩) ((homeFr F).L.length + 1) c5)) := by
  obtain ⟨h1, h2⟩ := own_fill (p := .int .i64 e.t.f) (q := .int .i64 e.t.v) (s := .slice e.a e.t.kids.length e.c) hown (by rw [cs3_len]; simp) hg hat
  have hgl := H.row.lt g rfl
  have HX := H.on hb
  refine ⟨HX.put hh ⟨he.1.frame (fun k hk => hb.block k (he.2.2.2 k hk).2) hb.size, he.2.1, he.2.2.1, fun k hk => ⟨(he.2.2.2 k hk).1, Nat.lt_of_lt_of_le (he.2.2.2 k hk).2 hb.size⟩⟩ hd hdg h2 h1 hat, ?_⟩
  refine ((Stay.of_below (S := fun k => k < B) hb (fun k hk _ => hk)).trans (.grown h2 (fun k q hk => by have := ((HX.fr _ (home_mem hh)).row.lt k q).1; omega))).trans (.setCell _ _ (fun q => by simp only at q; omega))

set_option maxHeartbeats 3200000 in
theorem put_any (n0 B : Nat) (F : List FM) (g c : Nat) (e : FE) (w : World) (H : NSt n0 B F (.slice (some ⟨g, 0, none⟩) F.length c) w) (hh : hasHome F) (hF : F.length ≤ 549755813888) (he : OwnS w e.K e.a e.t.kids ∧ e.t.kids.length ≤ e.c ∧ (isW e.t.f ∧ isW e.t.v) ∧ ∀ k, e.K k → B ≤ k ∧ k < w.heap.size) (hd : ∀ x ∈ F, ∀ k, e.K k → ¬ x.S k) (hdg : ¬ e.K g) (hL : (homeFr F).L.length ≤ 549755813888) :
    Calls Tryz.prog 72 #[.slice (some ⟨g, 0, none⟩) F.length c, .agg #[.int .i64 e.t.f, .int .i64 e.t.v, .slice e.a e.t.kids.length e.c]] w fun r w' => ∃ g2 c2, r = .returned (.tuple #[]) ∧ NSt n0 B (putHome e (some ⟨g2, 0, none⟩) c2 F) (.slice (some ⟨g, 0, none⟩) F.length c) w' ∧ Stay (fun k => k < B) w w' := by
  obtain ⟨i0, hi0, hz0, hz1, hz2⟩ := info_parts info29
  obtain ⟨x, r, rfl⟩ : ∃ x r, F = x :: r := by cases F with | nil => exact hh.elim | cons x r => exact ⟨x, r, rfl⟩
  simp only [List.length_cons] at *
  obtain ⟨_, _, _, _, _, q5⟩ := top_cells H
  have hgl := H.row.lt g rfl
  have hix := home_lt hh
  have hq4 : w.cell? ⟨g, homeIx (x :: r) * 6 + 4, none⟩ = some (.slice (homeFr (x :: r)).am (homeFr (x :: r)).L.length (homeFr (x :: r)).cm) := (H.row.cellAt _ (by simp only [List.length_cons] at hix; omega)).trans (home_cell hh)
  have fr4 : w.frozen? ⟨g, homeIx (x :: r) * 6 + 4, none⟩ = false := H.row.frozenAt _
  have hrow := (H.fr _ (home_mem hh)).row
  have hhg : (Value.slice (homeFr (x :: r)).am (homeFr (x :: r)).L.length (homeFr (x :: r)).cm).ownBlock ≠ some g := fun q => H.vb g rfl _ (home_mem hh) (.inl q)
  have HH : Hid _ := H
  clear H
  simp only [List.length_cons] at hix
  obtain ⟨ix, hixe⟩ : ∃ ix, ix = homeIx (x :: r) := ⟨_, rfl⟩
  obtain ⟨hf, hfe⟩ : ∃ hf, hf = homeFr (x :: r) := ⟨_, rfl⟩
  have HIX : Hid (ix = homeIx (x :: r)) := hixe
  have HFE : Hid (hf = homeFr (x :: r)) := hfe
  rw [← hixe] at hq4 fr4 hix q5
  rw [← hfe] at hq4 hL hrow hhg
  clear hixe hfe
  have hixz : (ix : Int) < (r.length : Int) + 1 := by omega
  have hgl2 := hgl.2
  go_enter Tryz.func72, Tryz.ntmps72
  obtain ⟨W, hW⟩ : ∃ W, W = w.alloc (.cells #[.int .i64 e.t.f, .int .i64 e.t.v, .slice e.a e.t.kids.length e.c] 37) := ⟨_, rfl⟩
  have hb0 : Below w.heap.size w W := by rw [hW]; exact (Below.refl _ _).alloc (Nat.le_refl _) _
  have p0 : W.cell? ⟨w.heap.size, 0, none⟩ = some (.int .i64 e.t.f) := by rw [hW]; simp [go_sem]
  have p1 : W.cell? ⟨w.heap.size, 1, none⟩ = some (.int .i64 e.t.v) := by rw [hW]; simp [go_sem]
  have p2 : W.cell? ⟨w.heap.size, 2, none⟩ = some (.slice e.a e.t.kids.length e.c) := by rw [hW]; simp [go_sem]
  have hWz : W.heap.size = w.heap.size + 1 := by rw [hW]; simp
  go_wp2
  rw [← hW]
  have c4 := keepC hb0 hq4
  have f4 : W.frozen? ⟨g, ix * 6 + 4, none⟩ = false := (hb0.frozen (p := ⟨g, ix * 6 + 4, none⟩) hgl2).trans fr4
  have hrW := own_on hrow hb0
  have hgW : g < W.heap.size := by omega
  clear hq4 fr4 hW
  have hxl : (cs3 (hf.L.map FE.cells)).length = hf.L.length * 3 := by rw [cs3_len]; simp
  have hLz : (hf.L.length : Int) < (hf.L.length : Int) + 1 := by omega
  go_region_law (refine step_append_own rfl (.tmp 17) (.tmp 20) 35 rfl B 37 i0 _ 3 40 Tryz.underlying35 hi0 hz0 hz1 hz2 rfl (by decide) (.slice hf.am hf.L.length hf.cm) hf.L.length (cs3 (hf.L.map FE.cells)) (by first | (simp [Act.eval]; done) | simp [Act.eval, Act.put]) (own_on hrW (by repeat (first | exact Below.refl _ _ | refine Below.drew ?_ | refine Below.alloc ?_ (by simp) _))) ⟨w.heap.size + 1, 0, none⟩ 1 1 [.int .i64 0, .int .i64 0, .slice none 0 0] (by first | (simp [Act.eval]; done) | simp [Act.eval, Act.put]) rfl (three_at (by simp [← hWz]) (by simp [← hWz]) (by simp [← hWz])) (three_cell _ _ _ _ _) (by unfold maxLen; omega) (by omega) (by simp; omega) ?_; intro v5 w5 hown5 hgrow5 hat5; have PF := put_facts hxl hown5 hgrow5 hat5 (by repeat (first | exact Below.refl _ _ | refine Below.drew ?_ | refine Below.alloc ?_ (by simp) _)) hgW c4 f4 hhg; obtain ⟨g5, c5, rfl, ⟨e0, e1, e2⟩, ⟨f0, f1, f2⟩, c4', f4', hg5, hc5, hat'⟩ := PF; have HO5 : Hid _ := hown5; have HG5 : Hid _ := hgrow5; clear hown5 hgrow5 hat5)
  all_goals
    have hO := HO5.out
    have hG := HG5.out
    rw [HFE.out] at hO hG hat'
    have FI := put_fin HH.out (hb0.trans (Below.mono (by repeat (first | exact Below.refl _ _ | refine Below.drew ?_ | refine Below.alloc ?_ (by simp) _)) hb0.size)) hh he hd hdg hG hO hat'
    rw [← HFE.out, ← HIX.out] at FI
    go_end0
    first
      | exact ⟨g5, c5, rfl, FI.1, FI.2⟩
      | (rw [set_comm _ g g5 _ _ _ _ hg5.symm, set_comm _ g g5 _ _ _ _ hg5.symm, set_comm _ g g5 _ _ _ _ hg5.symm]; exact ⟨g5, c5, rfl, FI.1, FI.2⟩)
end Go.Proofs.YthbilahilmmfmabGreat

/- One form of a term, as the program makes it. Conditions: terms of at most 549755813887 parts. -/
namespace Go.Proofs.YthbilahilmmfmabGreat
set_option maxRecDepth 100000
open Go.RowKit

/-- Parts of what is made. -/
def bulkP (l : List FD) : Nat := (l.map fun x => 1 + partsL x.left + partsL x.made).sum
theorem bulkP_add (A : List TermD) : ∀ l, bulkP (addHome A l) ≤ bulkP l + partsL A
  | [] => by simp [addHome, bulkP]
  | x :: r => by
    have ih := bulkP_add A r
    unfold bulkP at *
    rw [addHome]
    split
    · simp only [List.map_cons, List.sum_cons, partsL_append]; omega
    · simp only [List.map_cons, List.sum_cons]; omega
theorem bulkP_len (l : List FD) : l.length ≤ bulkP l := by
  induction l with
  | nil => simp
  | cons x r ih => unfold bulkP at *; simp only [List.length_cons, List.map_cons, List.sum_cons]; omega
theorem bulkP_cons (x : FD) (r : List FD) : bulkP (x :: r) = 1 + partsL x.left + partsL x.made + bulkP r := by simp [bulkP]
theorem todo_cons (x : FD) (r : List FD) : todo (x :: r) = 1 + 2 * partsL x.left + todo r := by simp [todo]
theorem bulkP_mem {x : FD} {l : List FD} (h : x ∈ l) : partsL x.left + partsL x.made < bulkP l := by
  induction l with
  | nil => simp at h
  | cons y r ih =>
    rw [bulkP_cons]
    rcases List.mem_cons.1 h with rfl | h
    · omega
    · have := ih h; omega
theorem sortT_parts (l : List TermD) : partsL (sortT l) = partsL l := by unfold sortT; rw [foldP_parts]; simp [partsL]
theorem close_parts (bl : Int → Bool) (f v : Int) (m : List TermD) : partsT (closeT bl f v m) = partsL m + 1 := by
  unfold closeT
  rw [partsT]
  split <;> simp [sortT_parts]

/-- A term that is closed. -/
theorem closed_any (sa : Option Addr) (ss : List SymD) (sc n0 B h : Nat) (x : FM) (w : World) (hs : RdS w sa ss) (M : MR n0 B x w) (hp : partsL (x.L.map FE.t) ≤ 549755813888) :
    Calls Tryz.prog 71 #[.agg #[.int .i64 x.t.f, .int .i64 x.t.v, .slice x.a x.t.kids.length x.c, .slice x.al x.left.length x.cl, .slice x.am x.L.length x.cm, .int .i64 h], .slice sa ss.length sc] w fun e w' => ∃ T : TermD, T = closeT (blindAt ss) x.t.f x.t.v (x.L.map FE.t) ∧ e = .returned (.agg #[.int .i64 T.f, .int .i64 T.v, .slice x.am T.kids.length T.kids.length]) ∧ OwnS w' x.S x.am T.kids ∧ Stay (fun k => k < w.heap.size ∧ ¬ x.S k) w w' := by
  have hl : x.L.length ≤ 549755813888 := by have := partsL_len (x.L.map FE.t); simp at this; omega
  have hpe : ∀ e ∈ x.L, partsT e.t ≤ 549755813888 := fun e he => by have := parts_kid (List.mem_map_of_mem (f := FE.t) he); omega
  cases hbl : blindAt ss x.t.f with
  | false =>
    refine (closed_plain sa ss sc n0 B h x w hs M hl hbl).mono ?_
    rintro e w' ⟨rfl, ho, hst⟩
    have hT : closeT (blindAt ss) x.t.f x.t.v (x.L.map FE.t) = .mk x.t.f x.t.v (x.L.map FE.t) := by unfold closeT; rw [if_neg (by rw [hbl]; simp)]
    refine ⟨_, hT.symm, ?_, ho, hst⟩
    show _ = Ending.returned (Value.agg #[.int .i64 x.t.f, .int .i64 x.t.v, .slice x.am (x.L.map FE.t).length (x.L.map FE.t).length])
    rw [List.length_map]
  | true =>
    have hlen : (sortT (x.L.map FE.t)).length = x.L.length := by have := (sortT_perm (x.L.map FE.t)).length_eq; simpa using this
    refine (closed_blind sa ss sc n0 B h x w hs M hl hpe hbl).mono ?_
    rintro e w' ⟨rfl, ho, hst⟩
    have hT : closeT (blindAt ss) x.t.f x.t.v (x.L.map FE.t) = .mk x.t.f x.t.v (sortT (x.L.map FE.t)) := by unfold closeT; rw [if_pos hbl]
    refine ⟨_, hT.symm, ?_, ho, hst⟩
    show _ = Ending.returned (Value.agg #[.int .i64 x.t.f, .int .i64 x.t.v, .slice x.am (sortT (x.L.map FE.t)).length (sortT (x.L.map FE.t)).length])
    rw [hlen]
theorem NSt.keep {n0 B : Nat} {F : List FM} {v : Value} {wr wr' : World} {S : Nat → Prop} (h : NSt n0 B F v wr) (hs : Stay S wr wr') (hn : ∀ k, k < n0 → S k) (hx : ∀ x ∈ F, ∀ k, x.S k → S k) (hv : ∀ g, v.ownBlock = some g → S g) : NSt n0 B F v wr' :=
  ⟨own_stay h.row hs hv, h.frames hs hn hx, h.dis, h.vb, Nat.le_trans h.z hs.size, h.n⟩

/-- The call's own boxes: the answer's place. -/
structure NB (w wr : World) : Prop where
  be : Below w.heap.size w wr
  c0 : wr.cell? ⟨w.heap.size + 1, 0, none⟩ = some (.int .i64 0)
  c1 : wr.cell? ⟨w.heap.size + 1, 1, none⟩ = some (.int .i64 0)
  c2 : wr.cell? ⟨w.heap.size + 1, 2, none⟩ = some (.slice none 0 0)
  cf : ∀ j, wr.frozen? ⟨w.heap.size + 1, j, none⟩ = false
  z : w.heap.size + 1 + 1 ≤ wr.heap.size
theorem NB.stay {w wr wr' : World} (h : NB w wr) (hs : Stay (fun k => k < w.heap.size + 1 + 1) wr wr') : NB w wr' := by
  have hz := h.z
  exact ⟨h.be.trans (hs.below h.be.size (fun k hk => by omega)), hs.cell h.c0 (by simp only; omega), hs.cell h.c1 (by simp only; omega), hs.cell h.c2 (by simp only; omega), fun j => (hs.frozen (p := ⟨w.heap.size + 1, j, none⟩) (by simp only; omega) (by simp only; omega)).trans (h.cf j), Nat.le_trans hz hs.size⟩
theorem NB.on {w wr wr' : World} (h : NB w wr) (hb : Below wr.heap.size wr wr') : NB w wr' := h.stay (.of_below hb (fun _ hk _ => hk))

/-- The outermost one is its own home. -/
def botH : List FM → Prop
  | [] => False
  | x :: r => (r = [] ∧ x.hm = true) ∨ botH r
theorem botH_has : ∀ {F : List FM}, botH F → hasHome F
  | [], h => h
  | _ :: _, h => h.elim (fun q => .inl q.2) (fun q => .inr (botH_has q))
theorem botH_rest {x : FM} {r : List FM} (h : botH (x :: r)) (hr : r ≠ []) : botH r := h.resolve_left (fun q => hr q.1)
theorem botH_put (e : FE) (am : Option Addr) (cm : Nat) : ∀ {F : List FM}, botH F → botH (putHome e am cm F)
  | [], h => h
  | x :: r, h => by
    unfold putHome
    split
    · rename_i hx; exact h.imp (fun q => ⟨q.1, hx⟩) id
    · rename_i hx
      refine .inr (botH_put e am cm (h.resolve_left (fun q => hx q.2)))

/-- What holds between two rounds. -/
structure NI (w : World) (bl : Int → Bool) (t : TermD) (N m : Nat) (F : List FM) (g cv : Nat) (wr : World) : Prop where
  st : NSt w.heap.size (w.heap.size + 1 + 1) F (.slice (some ⟨g, 0, none⟩) F.length cv) wr
  hh : botH F
  md : todo (F.map FM.d) ≤ m
  bk : bulkP (F.map FM.d) ≤ N
  fin : finS bl (F.map FM.d) = normT bl t
  nb : NB w wr
namespace NI
variable {w : World} {bl : Int → Bool} {t : TermD} {N m g cv : Nat} {x : FM} {r : List FM} {wr wr' : World}
theorem drop (h : NI w bl t N m (x :: r) g cv wr) (hl : x.left = []) (hx : x.hm = false) (hb : Below wr.heap.size wr wr') : NI w bl t N (m - 1) r g cv wr' ∧ 1 ≤ m := by
  have h1 := h.md
  have h2 := h.bk
  have h3 := h.fin
  rw [List.map_cons] at h1 h2 h3
  rw [todo_cons] at h1
  rw [bulkP_cons] at h2
  rw [fin_drop (show x.d.left = [] from hl) (show x.d.home = false from hx)] at h3
  exact ⟨⟨h.st.pop.on hb, h.hh.resolve_left (fun q => by rw [hx] at q; simp at q), by omega, by omega, h3, h.nb.on hb⟩, by omega⟩
theorem opn {k : TermD} {ks : List TermD} {ak al : Option Addr} {ck cl g' cv' : Nat} (h : NI w bl t N m (x :: r) g cv wr) (hl : x.left = k :: ks) (hst : NSt w.heap.size (w.heap.size + 1 + 1) (Go.Proofs.YthbilahilmmfmabGreat.opn k ak ck (isHome bl k ({ x with left := ks, al := al, cl := cl } :: r)) :: { x with left := ks, al := al, cl := cl } :: r) (.slice (some ⟨g', 0, none⟩) (r.length + 1 + 1) cv') wr') (hn : NB w wr') :
    NI w bl t N (m - 1) (Go.Proofs.YthbilahilmmfmabGreat.opn k ak ck (isHome bl k ({ x with left := ks, al := al, cl := cl } :: r)) :: { x with left := ks, al := al, cl := cl } :: r) g' cv' wr' ∧ 1 ≤ m := by
  have h1 := h.md
  have h2 := h.bk
  have h3 := h.fin
  rw [List.map_cons] at h1 h2 h3
  rw [todo_cons] at h1
  rw [bulkP_cons] at h2
  have hk := partsT_eq k
  have e1 : x.d.left = k :: ks := hl
  rw [e1, partsL] at h1 h2
  refine ⟨⟨hst, ?_, ?_, ?_, ?_, hn⟩, by omega⟩
  · exact .inr (h.hh.imp (fun q => ⟨q.1, q.2⟩) id)
  · rw [List.map_cons, List.map_cons, todo_cons, todo_cons]
    show 1 + 2 * partsL k.kids + (1 + 2 * partsL ks + _) ≤ _
    omega
  · rw [List.map_cons, List.map_cons, bulkP_cons, bulkP_cons]
    show 1 + partsL k.kids + 0 + (1 + partsL ks + partsL (x.L.map FE.t) + _) ≤ _
    have : x.d.made = x.L.map FE.t := rfl
    rw [this] at h2
    omega
  · rw [← h3, ← fin_open (x := x.d) (r := r.map FM.d) (m := []) hl rfl]
    rfl
theorem close {T : TermD} {e : FE} {am : Option Addr} {cm : Nat} (h : NI w bl t N m (x :: r) g cv wr) (hl : x.left = []) (hx : x.hm = true) (hr : r ≠ []) (hT : T = closeT bl x.t.f x.t.v (x.L.map FE.t)) (he : e.t = T) (hst : NSt w.heap.size (w.heap.size + 1 + 1) (putHome e am cm r) (.slice (some ⟨g, 0, none⟩) r.length cv) wr') (hn : NB w wr') :
    NI w bl t N (m - 1) (putHome e am cm r) g cv wr' ∧ 1 ≤ m := by
  have h1 := h.md
  have h2 := h.bk
  have h3 := h.fin
  rw [List.map_cons] at h1 h2 h3
  rw [todo_cons] at h1
  rw [bulkP_cons] at h2
  rw [fin_close (show x.d.left = [] from hl) (show x.d.home = true from hx) (by simpa using hr)] at h3
  have e1 : closeT bl x.d.f x.d.v x.d.made = e.t := by rw [he, hT]; rfl
  rw [e1] at h3
  have hp := close_parts bl x.t.f x.t.v (x.L.map FE.t)
  rw [← hT, ← he] at hp
  have hb := bulkP_add [e.t] (r.map FM.d)
  have ht := todo_add [e.t] (r.map FM.d)
  have e2 : x.d.made = x.L.map FE.t := rfl
  rw [e2] at h2
  simp only [partsL] at hb
  exact ⟨⟨by rw [putHome_len]; exact hst, botH_put _ _ _ (botH_rest h.hh hr), by rw [putHome_d]; omega, by rw [putHome_d]; omega, by rw [putHome_d]; exact h3, hn⟩, by omega⟩
theorem len (h : NI w bl t N m (x :: r) g cv wr) : r.length < N := by
  have := bulkP_len ((x :: r).map FM.d)
  have := h.bk
  simp at *
  omega
theorem made (h : NI w bl t N m (x :: r) g cv wr) : ∀ y ∈ x :: r, partsL (y.L.map FE.t) < N := fun y hy => by
  have h1 := bulkP_mem (List.mem_map_of_mem (f := FM.d) hy)
  have h2 := h.bk
  have e2 : y.d.made = y.L.map FE.t := rfl
  rw [e2] at h1
  omega
theorem lefts (h : NI w bl t N m (x :: r) g cv wr) : x.left.length < N := by
  have h1 := bulkP_mem (List.mem_map_of_mem (f := FM.d) (List.mem_cons_self (a := x) (l := r)))
  have h2 := h.bk
  have h3 := partsL_len x.left
  have e2 : x.d.left = x.left := rfl
  rw [e2] at h1
  omega
end NI
end Go.Proofs.YthbilahilmmfmabGreat

