/- Contracts of the specification's functions on terms: how many parts, how often a variable, whether two are the same, which is before. Conditions: terms of at most 4194304 parts. -/
import Derived.Test.YtjoopbdaafhdfaaProg
import Derived.Test.YtjoopbdaafhdfaaTermA
import Derived.Deep.RegionHeld3
namespace Go.Proofs.Ytjoopbdaafhdfaa
open Go.RowKit


set_option maxHeartbeats 1600000 in
theorem specParts_any (N : Nat) : ∀ (t : TermD) (a : Option Addr) (c hi : Nat) (w : World), partsT t ≤ N → N ≤ 4194304 → RdK w hi a t.kids → hi ≤ w.heap.size →
    Calls Try.prog 24 #[.agg #[.int .i64 t.f, .int .i64 t.v, .slice a t.kids.length c]] w fun e w' => e = .returned (.int .i64 (partsT t)) ∧ Below w.heap.size w w' := by
  induction N with
  | zero => intro t a c hi w h; rw [partsT_eq] at h; omega
  | succ N ih =>
    intro t a c hi w hN hM hr hhi
    rw [partsT_eq] at hN ⊢
    have hlen := partsL_len t.kids
    generalize t.kids = ks at *
    have HR : Hid (RdK w hi a ks) := hr
    clear hr
    have hb0 : Below w.heap.size w (w.alloc (.cells #[.int .i64 t.f, .int .i64 t.v, .slice a ks.length c] 26)) := (Below.refl w.heap.size w).alloc (Nat.le_refl _) _
    go_enter Try.func24, Try.ntmps24
    go_wp2_with fail
    go_loopw [3, 4] (fun n i wr => ∃ k : Nat, k ≤ ks.length ∧ i = .int .i64 k ∧ n = .int .i64 ((partsL (ks.take k) + 1 : Nat) : Int) ∧ wr.cell? ⟨w.heap.size, 2, none⟩ = some (.slice a ks.length c) ∧ Below w.heap.size w wr ∧ w.heap.size < wr.heap.size) (fun _ i _ => ks.length - (intOf i).toNat)
    case atStart => exact ⟨0, Nat.zero_le _, rfl, by simp [partsL], by simp [go_sem], hb0, by simp⟩
    case round =>
      obtain ⟨k, hk, rfl, rfl, hct, hbr, hwl⟩ := hrel
      have hpk := partsL_take ks k
      clear hb0
      by_cases hk' : k < ks.length
      · obtain ⟨b, off, a', c', rfl, hlt, d0, d1, d2, hkr⟩ := RdK.kid (HR.out.on (hbr.mono hhi)) hk'
        have hpg := partsL_get hk'
        have hki : (k : Int) < (ks.length : Int) := by omega
        have HP : Hid (partsL (ks.take (k + 1)) = partsL (ks.take k) + partsT ks[k]) := partsL_next hk'
        have I := ih ks[k] a' c' hi wr (by omega) (by omega) hkr (Nat.le_trans hhi hbr.size)
        clear hkr
        go_wp2_with (go_at_call 24; refine I.mono ?_; rintro e w1 ⟨rfl, hb1⟩; clear I; have hct1 := (hb1.cell (p := ⟨w.heap.size, 2, none⟩) hwl).trans hct; have hbb := hbr.trans (hb1.mono hbr.size); have hwl1 : w.heap.size < w1.heap.size := (Nat.lt_of_lt_of_le hwl hb1.size); clear hbr hb1)
        go_roundw
        case rel => exact ⟨k + 1, by omega, by go_num, by rw [HP.out]; go_num, hct1, hbb, hwl1⟩
        case measure => simp [intOf]; omega
      · have E : Hid (k = ks.length) := (by omega : k = ks.length)
        go_wp2_with fail
        go_ret
        refine ⟨rtI ?_, hbr⟩
        rw [E.out, List.take_length]

set_option maxHeartbeats 1600000 in
theorem l1Bit_any (b : Bool) (w : World) : Calls Try.prog 48 #[.bool b] w fun e w' => e = .returned (.int .i64 (if b = true then 1 else 0)) ∧ w' = w := by
  cases b <;>
  · go_enter Try.func48, Try.ntmps48
    go_wp2_with fail
    go_ret
    exact ⟨rfl, rfl⟩

set_option maxHeartbeats 1600000 in
theorem specCount_any (N : Nat) : ∀ (t : TermD) (a : Option Addr) (c hi : Nat) (x : Int) (w : World), partsT t ≤ N → N ≤ 4194304 → RdK w hi a t.kids → hi ≤ w.heap.size →
    Calls Try.prog 26 #[.agg #[.int .i64 t.f, .int .i64 t.v, .slice a t.kids.length c], .int .i64 x] w fun e w' => e = .returned (.int .i64 (cntT x t)) ∧ Below w.heap.size w w' := by
  induction N with
  | zero => intro t a c hi x w h; rw [partsT_eq] at h; omega
  | succ N ih =>
    intro t a c hi x w hN hM hr hhi
    rw [partsT_eq] at hN
    rw [cntT_eq]
    have hlen := partsL_len t.kids
    generalize t.kids = ks at *
    have HR : Hid (RdK w hi a ks) := hr
    clear hr
    obtain ⟨m, hm⟩ : ∃ m : Nat, m = (if t.f = -1 ∧ t.v = x then 1 else 0) := ⟨_, rfl⟩
    have hm1 : m ≤ 1 := by rw [hm]; split <;> omega
    obtain ⟨q, hq⟩ : ∃ q : Bool, q = (if t.f = -1 then (t.v == x) else false) := ⟨_, rfl⟩
    have L : ∀ w, Calls Try.prog 48 #[.bool q] w fun e w' => e = .returned (.int .i64 (m : Int)) ∧ w' = w := by
      intro w
      refine (l1Bit_any q w).mono ?_
      rintro e w' ⟨rfl, rfl⟩
      refine ⟨rtI ?_, rfl⟩
      rw [hm, hq]
      by_cases h : t.f = -1 <;> by_cases h' : t.v = x <;> simp [h, h']
    have HM : Hid (m = (if t.f = -1 ∧ t.v = x then 1 else 0)) := hm
    clear hm
    rw [← HM.out]
    have hf : (t.f = -1 ∧ q = (t.v == x)) ∨ ((t.f == -1) = false ∧ q = false) := by
      by_cases h : t.f = -1
      · exact .inl ⟨h, by rw [hq, if_pos h]⟩
      · exact .inr ⟨by simp [h], by rw [hq, if_neg h]⟩
    clear hq
    rcases hf with ⟨hf, rfl⟩ | ⟨hf, rfl⟩
    all_goals
      go_enter Try.func26, Try.ntmps26
      go_wp2_with (go_at_call 48; refine (L _).mono ?_; rintro e w' ⟨rfl, hw⟩; subst w')
      go_loopw [5, 6] (fun n i wr => ∃ k : Nat, k ≤ ks.length ∧ i = .int .i64 k ∧ n = .int .i64 ((m + cntL x (ks.take k) : Nat) : Int) ∧ wr.cell? ⟨w.heap.size, 2, none⟩ = some (.slice a ks.length c) ∧ Below w.heap.size w wr ∧ w.heap.size < wr.heap.size) (fun _ i _ => ks.length - (intOf i).toNat)
      case atStart => exact ⟨0, Nat.zero_le _, rfl, by simp [cntL], by simp [go_sem], (Below.refl w.heap.size w).alloc (Nat.le_refl _) _, by simp⟩
      case round =>
        obtain ⟨k, hk, rfl, rfl, hct, hbr, hwl⟩ := hrel
        have hpk := partsL_take ks k
        have hck := cntL_le x (ks.take k)
        clear L
        by_cases hk' : k < ks.length
        · obtain ⟨b, off, a', c', rfl, hlt, d0, d1, d2, hkr⟩ := RdK.kid (HR.out.on (hbr.mono hhi)) hk'
          have hpg := partsL_get hk'
          have hcg := cntT_le x ks[k]
          have hki : (k : Int) < (ks.length : Int) := by omega
          have HP : Hid (cntL x (ks.take (k + 1)) = cntL x (ks.take k) + cntT x ks[k]) := cntL_next x hk'
          have I := ih ks[k] a' c' hi x wr (by omega) (by omega) hkr (Nat.le_trans hhi hbr.size)
          clear hkr
          go_wp2_with (go_at_call 26; refine I.mono ?_; rintro e w1 ⟨rfl, hb1⟩; clear I; have hct1 := (hb1.cell (p := ⟨w.heap.size, 2, none⟩) hwl).trans hct; have hbb := hbr.trans (hb1.mono hbr.size); have hwl1 : w.heap.size < w1.heap.size := (Nat.lt_of_lt_of_le hwl hb1.size); clear hbr hb1)
          go_roundw
          case rel => exact ⟨k + 1, by omega, by go_num, by rw [HP.out]; go_num, hct1, hbb, hwl1⟩
          case measure => simp [intOf]; omega
        · have E : Hid (k = ks.length) := (by omega : k = ks.length)
          go_wp2_with fail
          go_ret
          refine ⟨rtI ?_, hbr⟩
          rw [E.out, List.take_length]

set_option maxHeartbeats 1600000 in
theorem specSame_any (N : Nat) : ∀ (t u : TermD) (a a' : Option Addr) (c c' hi : Nat) (w : World), partsT t ≤ N → N ≤ 4194304 → RdK w hi a t.kids → RdK w hi a' u.kids → hi ≤ w.heap.size →
    Calls Try.prog 19 #[.agg #[.int .i64 t.f, .int .i64 t.v, .slice a t.kids.length c], .agg #[.int .i64 u.f, .int .i64 u.v, .slice a' u.kids.length c']] w fun e w' => e = .returned (.bool (sameT t u)) ∧ Below w.heap.size w w' := by
  induction N with
  | zero => intro t u a a' c c' hi w h; rw [partsT_eq] at h; omega
  | succ N ih =>
    intro t u a a' c c' hi w hN hM hr hr' hhi
    rw [partsT_eq] at hN
    have HS : Hid (sameT t u = (t.f == u.f && t.v == u.v && t.kids.length == u.kids.length && sameL t.kids u.kids)) := sameT_eq t u
    have hlen := partsL_len t.kids
    generalize t.kids = ks at *
    generalize u.kids = us at *
    have hB : ∀ o1 o2, Below w.heap.size w ((w.alloc o1).alloc o2) := fun o1 o2 => ((Below.refl _ _).alloc (Nat.le_refl _) o1).alloc (by simp) o2
    by_cases hf : t.f = u.f ∧ t.v = u.v ∧ ks.length = us.length
    · obtain ⟨h1, h2, h3⟩ := hf
      have HS2 : Hid (sameT t u = sameL ks us) := by show _ = _; rw [HS.out, h1, h2, h3]; simp
      have HR : Hid (RdK w hi a ks) := hr
      have HR' : Hid (RdK w hi a' us) := hr'
      have q1 : (t.f != u.f) = false := by simp [h1]
      have q2 : (t.v != u.v) = false := by simp [h2]
      have q3 : ((ks.length : Int) != (us.length : Int)) = false := by simp [h3]
      have H3 : Hid (ks.length = us.length) := h3
      clear hr hr' HS h1 h2 h3
      go_enter Try.func19, Try.ntmps19
      go_wp2_with fail
      go_loopw [5] (fun i wr => ∃ k : Nat, k ≤ ks.length ∧ i = .int .i64 k ∧ wr.cell? ⟨w.heap.size, 2, none⟩ = some (.slice a ks.length c) ∧ wr.cell? ⟨w.heap.size + 1, 2, none⟩ = some (.slice a' us.length c') ∧ Below w.heap.size w wr ∧ w.heap.size + 1 < wr.heap.size ∧ Hid (∀ j, (h : j < ks.length) → (h' : j < us.length) → j < k → sameT ks[j] us[j] = true)) (fun i _ => ks.length - (intOf i).toNat)
      case atStart => exact ⟨0, Nat.zero_le _, rfl, by simp [go_sem], by simp [go_sem], hB _ _, by simp, fun j _ _ h => absurd h (by omega)⟩
      case round =>
        obtain ⟨k, hk, rfl, hct, hcu, hbr, hwl, HA⟩ := hrel
        clear hB
        by_cases hk' : k < ks.length
        · have hku : k < us.length := by have := H3.out; omega
          obtain ⟨b, off, e1, c1, rfl, hlt, d0, d1, d2, hkr⟩ := RdK.kid (HR.out.on (hbr.mono hhi)) hk'
          obtain ⟨b', off', e2, c2, rfl, hlt', g0, g1, g2, hkr'⟩ := RdK.kid (HR'.out.on (hbr.mono hhi)) hku
          have hpg := partsL_get hk'
          have hki : (k : Int) < (ks.length : Int) := by omega
          have hkj : (k : Int) < (us.length : Int) := by omega
          have hwr := Nat.le_trans hhi hbr.size
          have I := fun (w' : World) (h : Below wr.heap.size wr w') => ih ks[k] us[k] e1 e2 c1 c2 hi w' (by omega) (by omega) (hkr.on (h.mono hwr)) (hkr'.on (h.mono hwr)) (Nat.le_trans hwr h.size)
          clear HR HR' hkr hkr'
          cases hsm : sameT ks[k] us[k] with
          | true =>
            rw [hsm] at I
            have HA' : Hid (∀ j, (h : j < ks.length) → (h' : j < us.length) → j < k + 1 → sameT ks[j] us[j] = true) := fun j h h' hj => by
              by_cases e : j = k
              · subst e; exact hsm
              · exact HA.out j h h' (by omega)
            clear HA hsm
            go_wp2_with fail
            go_region_held3 (fun w' => w'.cell? ⟨w.heap.size, 2, none⟩ = some (.slice (some ⟨b, off, none⟩) ks.length c) ∧ w'.cell? ⟨w.heap.size + 1, 2, none⟩ = some (.slice (some ⟨b', off', none⟩) us.length c') ∧ w'.cell? ⟨b, off + k * 3, none⟩ = some (.int .i64 ks[k].f) ∧ w'.cell? ⟨b, off + k * 3 + 1, none⟩ = some (.int .i64 ks[k].v) ∧ w'.cell? ⟨b, off + k * 3 + 2, none⟩ = some (.slice e1 ks[k].kids.length c1) ∧ w'.cell? ⟨b', off' + k * 3, none⟩ = some (.int .i64 us[k].f) ∧ w'.cell? ⟨b', off' + k * 3 + 1, none⟩ = some (.int .i64 us[k].v) ∧ w'.cell? ⟨b', off' + k * 3 + 2, none⟩ = some (.slice e2 us[k].kids.length c2)) (first | go_keep | exact ⟨keepC hbb hct, keepC hbb hcu, keepC hbb d0, keepC hbb d1, keepC hbb d2, keepC hbb g0, keepC hbb g1, keepC hbb g2⟩)
              (first | (go_at_call 19; refine (I _ ?_).mono ?_; exact (Below.refl _ _).drew; rintro e w1 ⟨rfl, hb1⟩; have hbb : Below wr.heap.size wr w1 := (Below.refl _ _).drew.trans hb1; clear hb1))
            go_wp2_with fail
            go_roundw
            case rel => exact ⟨k + 1, by omega, by go_num, keepC hbb hct, keepC hbb hcu, hbr.trans (hbb.mono hbr.size), Nat.lt_of_lt_of_le hwl hbb.size, HA'⟩
            case measure => simp [intOf]; omega
          | false =>
            rw [hsm] at I
            have HF : Hid (sameT t u = false) := by show _ = _; rw [HS2.out]; exact sameL_hit hk' hku hsm
            clear HA hsm
            go_wp2_with fail
            go_region_held3 (fun w' => w'.cell? ⟨w.heap.size, 2, none⟩ = some (.slice (some ⟨b, off, none⟩) ks.length c) ∧ w'.cell? ⟨w.heap.size + 1, 2, none⟩ = some (.slice (some ⟨b', off', none⟩) us.length c') ∧ w'.cell? ⟨b, off + k * 3, none⟩ = some (.int .i64 ks[k].f) ∧ w'.cell? ⟨b, off + k * 3 + 1, none⟩ = some (.int .i64 ks[k].v) ∧ w'.cell? ⟨b, off + k * 3 + 2, none⟩ = some (.slice e1 ks[k].kids.length c1) ∧ w'.cell? ⟨b', off' + k * 3, none⟩ = some (.int .i64 us[k].f) ∧ w'.cell? ⟨b', off' + k * 3 + 1, none⟩ = some (.int .i64 us[k].v) ∧ w'.cell? ⟨b', off' + k * 3 + 2, none⟩ = some (.slice e2 us[k].kids.length c2)) (first | go_keep | exact ⟨keepC hbb hct, keepC hbb hcu, keepC hbb d0, keepC hbb d1, keepC hbb d2, keepC hbb g0, keepC hbb g1, keepC hbb g2⟩)
              (first | (go_at_call 19; refine (I _ ?_).mono ?_; exact (Below.refl _ _).drew; rintro e w1 ⟨rfl, hb1⟩; have hbb : Below wr.heap.size wr w1 := (Below.refl _ _).drew.trans hb1; clear hb1))
            go_wp2_with fail
            go_ret
            exact ⟨rtB HF.out.symm, hbr.trans (hbb.mono hbr.size)⟩
        · have HT : Hid (sameT t u = true) := by show _ = _; rw [HS2.out]; exact sameL_all H3.out (fun j h h' => HA.out j h h' (by omega))
          go_wp2_with fail
          go_ret
          exact ⟨rtB HT.out.symm, hbr⟩
    · have HF : Hid (sameT t u = false) := by
        show _ = _
        rw [HS.out]
        by_cases h1 : t.f = u.f <;> by_cases h2 : t.v = u.v <;> by_cases h3 : ks.length = us.length <;> simp [h1, h2, h3] <;> exact absurd ⟨h1, h2, h3⟩ hf
      have hq : (t.f != u.f) = true ∨ ((t.f != u.f) = false ∧ (t.v != u.v) = true) ∨ ((t.f != u.f) = false ∧ (t.v != u.v) = false ∧ ((ks.length : Int) != (us.length : Int)) = true) := by
        by_cases h1 : t.f = u.f <;> by_cases h2 : t.v = u.v <;> simp [h1, h2]
        intro h3
        exact hf ⟨h1, h2, by omega⟩
      clear hr hr' HS hf
      rcases hq with q1 | ⟨q1, q2⟩ | ⟨q1, q2, q3⟩
      all_goals
        go_enter Try.func19, Try.ntmps19
        go_wp2_with fail
        go_ret
        exact ⟨rtB HF.out.symm, hB _ _⟩
end Go.Proofs.Ytjoopbdaafhdfaa
