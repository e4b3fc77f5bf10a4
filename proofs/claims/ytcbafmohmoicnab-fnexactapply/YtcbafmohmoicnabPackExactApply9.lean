/- What the proof of FnExactApply stands on, part 9 of 10: each piece says what it proves and under which conditions. Conditions: as each piece says. -/
import Derived.Test.YtcbafmohmoicnabPackExactApply8
import Derived.Deep.RegionLaw
import Derived.Deep.Cut
import Derived.Deep.CutBlock
import Derived.Test.YtcbafmohmoicnabProg
import Derived.Deep.RegionHeld3
import GoSem.Claim
import Derived.Below
import Derived.Deep.Draws
import Derived.BigQuiet
import Derived.Deep.QuietTactic
import Derived.OpenShut
import Derived.ProofKit
import Derived.WalkKit
import Derived.WalkSmall
/- What is put for one variable: the program's way and the specification's. Conditions: at most 549755813887 parts. -/
namespace Go.Proofs.Ytcbafmohmoicnab
set_option maxRecDepth 100000
open Go.RowKit

/-- What is put for v. -/
def lookT (us : List BindD) (v : Int) : TermD :=
  match us.find? (fun u => u.n == v) with
  | some u => u.t
  | none => .mk (-1) v []
theorem look_hit : ∀ {us : List BindD} {v : Int} {k : Nat} (hk : k < us.length), us[k].n = v → (∀ j, (hj : j < us.length) → j < k → us[j].n ≠ v) → lookT us v = us[k].t
  | [], _, k, hk, _, _ => by simp at hk
  | u :: us, v, 0, _, h, _ => by unfold lookT; rw [List.find?_cons_of_pos (by simpa using h)]; rfl
  | u :: us, v, k + 1, hk, h, hj => by
    have h0 : u.n ≠ v := hj 0 (by simp) (by omega)
    have ih := look_hit (us := us) (v := v) (k := k) (by simpa using hk) (by simpa using h) (fun j hj' hjk => by have := hj (j + 1) (by simpa using hj') (by omega); simpa using this)
    unfold lookT at ih ⊢
    rw [List.find?_cons_of_neg (by simpa using h0)]
    simpa using ih
theorem look_none {us : List BindD} {v : Int} (h : ∀ j, (hj : j < us.length) → us[j].n ≠ v) : lookT us v = .mk (-1) v [] := by
  unfold lookT
  rw [List.find?_eq_none.2 (fun u hu => by
    obtain ⟨j, hj, e⟩ := List.getElem_of_mem hu
    have := h j hj
    rw [e] at this
    simpa using this)]
theorem look_cases (us : List BindD) (v : Int) : (∃ k, ∃ hk : k < us.length, us[k].n = v ∧ (∀ j, (hj : j < us.length) → j < k → us[j].n ≠ v) ∧ lookT us v = us[k].t) ∨ ((∀ j, (hj : j < us.length) → us[j].n ≠ v) ∧ lookT us v = .mk (-1) v []) := by
  by_cases h : ∀ j, (hj : j < us.length) → us[j].n ≠ v
  · exact .inr ⟨h, look_none h⟩
  · simp only [Classical.not_forall, ne_eq, Classical.not_not] at h
    obtain ⟨j, hj, e⟩ := h
    have key : ∀ n j, j ≤ n → (hj : j < us.length) → us[j].n = v → ∃ k, ∃ hk : k < us.length, us[k].n = v ∧ ∀ i, (hi : i < us.length) → i < k → us[i].n ≠ v := by
      intro n
      induction n with
      | zero => intro j hn hj e; have : j = 0 := by omega
                subst this; exact ⟨0, hj, e, fun i _ hi => absurd hi (by omega)⟩
      | succ n ih =>
        intro j hn hj e
        by_cases hs : ∃ i, ∃ hi : i < us.length, i < j ∧ us[i].n = v
        · obtain ⟨i, hi, hij, ei⟩ := hs
          exact ih i (by omega) hi ei
        · exact ⟨j, hj, e, fun i hi hij ei => hs ⟨i, hi, hij, ei⟩⟩
    obtain ⟨k, hk, ek, hh⟩ := key j j (Nat.le_refl _) hj e
    exact .inl ⟨k, hk, ek, hh, look_hit hk ek hh⟩
theorem look_parts {us : List BindD} {v : Int} (hp : partsU us ≤ 549755813887) : partsT (lookT us v) ≤ 549755813888 := by
  rcases look_cases us v with ⟨k, hk, _, _, e⟩ | ⟨_, e⟩
  · rw [e, partsT_eq]
    have := partsU_get hk
    omega
  · rw [e, partsT_eq]
    show partsL [] + 1 ≤ _
    simp [partsL]

set_option maxHeartbeats 1600000 in
theorem find_any (p : Nat) (us : List BindD) (a : Option Addr) (c hi : Nat) (v : Int) (w : World) (hl : us.length ≤ 549755813888) (hp : w.cell? ⟨p, 0, none⟩ = some (.slice a us.length c)) (hr : RdU w hi a us) (hhi : hi ≤ w.heap.size) :
    Calls Try.prog 96 #[.pointer (some ⟨p, 0, none⟩), .int .i64 v] w fun e w' => Below w.heap.size w w' ∧ ((∃ k : Nat, ∃ hk : k < us.length, us[k].n = v ∧ (∀ j, (hj : j < us.length) → j < k → us[j].n ≠ v) ∧ e = .returned (.tuple #[.int .i64 k, .bool true])) ∨ ((∀ j, (hj : j < us.length) → us[j].n ≠ v) ∧ e = .returned (.tuple #[.int .i64 0, .bool false]))) := by
  have HR : Hid _ := hr
  clear hr
  go_enter Try.func96, Try.ntmps96
  go_wp2_with fail
  go_loopw [13] (fun i wr => ∃ k : Nat, i = .int .i64 k ∧ k ≤ us.length ∧ Below w.heap.size w wr ∧ Hid (∀ j, (hj : j < us.length) → j < k → us[j].n ≠ v)) (fun i _ => us.length - (intOf i).toNat)
  case atStart => exact ⟨0, rfl, Nat.zero_le _, Below.refl _ _, fun j _ h => absurd h (Nat.not_lt_zero _)⟩
  case round =>
    obtain ⟨k, rfl, hk, hb, HA⟩ := hrel
    by_cases hk' : k < us.length
    · obtain ⟨b, off, a', c', rfl, hlt, d0, d1, d2, d3, hc', hkr, hz⟩ := RdU.get (HR.out.on (hb.mono hhi)) hk'
      have hki : (k : Int) < (us.length : Int) := by omega
      have hki0 : (0 : Int) ≤ (k : Int) := by omega
      have hnew := hb.alloc hb.size (.cells #[.int .i64 us[k].n, .int .i64 us[k].t.f, .int .i64 us[k].t.v, .slice a' us[k].t.kids.length c'] 71)
      by_cases he : us[k].n = v
      · have HE : Hid (us[k].n = v) := he
        have heb : (us[k].n == v) = true := by simp [he]
        clear he hkr hz hc'
        go_wp2_with fail
        exact bodyPost_ret (v := .tuple #[.int .i64 k, .bool true]) (by simp [results, Try.results96, go_sem]) rfl ⟨hnew, .inl ⟨k, hk', HE.out, HA.out, rfl⟩⟩
      · have HE : Hid (us[k].n ≠ v) := he
        have heb : (us[k].n == v) = false := by simp [he]
        have he2 : ¬ us[k].n = v := he
        clear he hkr hz hc'
        go_wp2_with fail
        go_roundw
        case rel => exact ⟨k + 1, by go_num, by omega, hnew, fun j hj hjk => by
          rcases Nat.lt_or_ge j k with h1 | h1
          · exact HA.out j hj h1
          · have : j = k := by omega
            subst this; exact HE.out⟩
        case measure => simp [intOf]; omega
    · have hki : ¬ (k : Int) < (us.length : Int) := by omega
      go_wp2_with fail
      exact bodyPost_ret (v := .tuple #[.int .i64 0, .bool false]) (by simp [results, Try.results96, go_sem]) rfl ⟨hb, .inr ⟨fun j hj => HA.out j hj (by omega), rfl⟩⟩

/-- The end of a function that answers a term in its place. -/
theorem res_end {w w4 : World} {t : TermD} {a' : Option Addr} {c' : Nat} (nb4 : MB w w4) :
    (((w4.setCell ⟨w.heap.size, 0, none⟩ (.int .i64 t.f)).setCell ⟨w.heap.size, 1, none⟩ (.int .i64 t.v)).setCell ⟨w.heap.size, 2, none⟩ (.slice a' t.kids.length c')).cell? ⟨w.heap.size, 0, none⟩ = some (.int .i64 t.f) ∧ (((w4.setCell ⟨w.heap.size, 0, none⟩ (.int .i64 t.f)).setCell ⟨w.heap.size, 1, none⟩ (.int .i64 t.v)).setCell ⟨w.heap.size, 2, none⟩ (.slice a' t.kids.length c')).cell? ⟨w.heap.size, 1, none⟩ = some (.int .i64 t.v) ∧ (((w4.setCell ⟨w.heap.size, 0, none⟩ (.int .i64 t.f)).setCell ⟨w.heap.size, 1, none⟩ (.int .i64 t.v)).setCell ⟨w.heap.size, 2, none⟩ (.slice a' t.kids.length c')).cell? ⟨w.heap.size, 2, none⟩ = some (.slice a' t.kids.length c') ∧ Below w.heap.size w (((w4.setCell ⟨w.heap.size, 0, none⟩ (.int .i64 t.f)).setCell ⟨w.heap.size, 1, none⟩ (.int .i64 t.v)).setCell ⟨w.heap.size, 2, none⟩ (.slice a' t.kids.length c')) := by
  obtain ⟨z0, z1, z2⟩ := set3_cells (u := w4) (r := w.heap.size) (x := .int .i64 t.f) (y := .int .i64 t.v) (z := .slice a' t.kids.length c') nb4.c0 nb4.c1 nb4.c2
  exact ⟨z0, z1, z2, ((nb4.be.setCell (p := ⟨w.heap.size, 0, none⟩) (by simp) _).setCell (p := ⟨w.heap.size, 1, none⟩) (by simp) _).setCell (p := ⟨w.heap.size, 2, none⟩) (by simp) _⟩

theorem MB.new (w : World) : MB w (w.alloc (.cells #[.int .i64 0, .int .i64 0, .slice none 0 0] 32)) :=
  ⟨(Below.refl _ _).alloc (Nat.le_refl _) _, by simp [go_sem], by simp [go_sem], by simp [go_sem], fun j => by simp [go_sem], by simp⟩

set_option maxHeartbeats 1600000 in
theorem termFor_any (p : Nat) (us : List BindD) (a : Option Addr) (c hi : Nat) (v : Int) (w : World) (hl : us.length ≤ 549755813888) (hp : w.cell? ⟨p, 0, none⟩ = some (.slice a us.length c)) (hr : RdU w hi a us) (hhi : hi ≤ w.heap.size) :
    Calls Try.prog 83 #[.pointer (some ⟨p, 0, none⟩), .int .i64 v] w fun e w' => ∃ a' c', e = .returned (.agg #[.int .i64 (lookT us v).f, .int .i64 (lookT us v).v, .slice a' (lookT us v).kids.length c']) ∧ RdK w' hi a' (lookT us v).kids ∧ (lookT us v).kids.length ≤ c' ∧ Below w.heap.size w w' := by
  obtain ⟨W, hW⟩ : ∃ W, W = w.alloc (.cells #[.int .i64 0, .int .i64 0, .slice none 0 0] 32) := ⟨_, rfl⟩
  have nb0 : MB w W := by rw [hW]; exact MB.new w
  have h0 := nb0.be
  have C := find_any p us a c hi v W hl (keepC h0 hp) (hr.on (h0.mono hhi)) (Nat.le_trans hhi h0.size)
  have HP : Hid _ := hp
  have HR : Hid _ := hr
  have HW : Hid _ := hW
  clear hW hp hr
  obtain ⟨T, hT⟩ : ∃ T, T = lookT us v := ⟨_, rfl⟩
  rw [← hT]
  have HT : Hid (T = lookT us v) := hT
  clear hT
  go_enter Try.func83, Try.ntmps83
  go_upto_region 2 with (go_at_call 96; rw [← HW.out]; refine C.mono ?_; rintro e w1 ⟨hb1, hc⟩; have nb1 := nb0.on hb1; have hB1 := h0.trans (hb1.mono h0.size); clear C nb0 h0 hb1; rcases hc with ⟨k, hk, hkn, hlow, rfl⟩ | ⟨hnone, rfl⟩)
  · have e : T = us[k].t := HT.out.trans (look_hit hk hkn hlow)
    subst e
    clear HT
    obtain ⟨b, off, a', c', rfl, hlt, d0, d1, d2, d3, hc', hkr, hz⟩ := RdU.get (HR.out.on (hB1.mono hhi)) hk
    have hki : (k : Int) < (us.length : Int) := by omega
    have hki0 : (0 : Int) ≤ (k : Int) := by omega
    have hp1 := keepC hB1 HP.out
    have n0 := nb1.c0
    have n1 := nb1.c1
    have n2 := nb1.c2
    have nf := nb1.cf
    have nz := nb1.z
    clear hkn hlow hz d0
    go_wp2_with fail
    obtain ⟨z0, z1, z2, hbF⟩ := res_end (t := us[k].t) (a' := a') (c' := c') nb1
    exact bodyPost_ret (v := .agg #[.int .i64 us[k].t.f, .int .i64 us[k].t.v, .slice a' us[k].t.kids.length c']) (by simp [results, Try.results83, go_sem, z0, z1, z2]) rfl ⟨a', c', rfl, RdK.on hkr ((((Below.refl _ _).setCell (p := ⟨w.heap.size, 0, none⟩) hhi _).setCell (p := ⟨w.heap.size, 1, none⟩) hhi _).setCell (p := ⟨w.heap.size, 2, none⟩) hhi _), hc', hbF⟩
  · have e : T = .mk (-1) v [] := HT.out.trans (look_none hnone)
    subst e
    clear HT
    have n0 := nb1.c0
    have n1 := nb1.c1
    have n2 := nb1.c2
    have nf := nb1.cf
    have nz := nb1.z
    clear hnone
    go_wp2_with fail
    obtain ⟨z0, z1, z2, hbF⟩ := res_end (t := .mk (-1) v []) (a' := none) (c' := 0) nb1
    dsimp only [TermD.f, TermD.v, TermD.kids, List.length_nil] at z0 z1 z2 hbF ⊢
    exact bodyPost_ret (v := .agg #[.int .i64 (-1), .int .i64 v, .slice none 0 0]) (by simp [results, Try.results83, go_sem, z0, z1, z2]) rfl ⟨none, 0, rfl, .nil _, Nat.le_refl _, hbF⟩

/-- The numbers of what is put fit. -/
theorem look_wf {us : List BindD} {v : Int} {w : World} {hi : Nat} {a : Option Addr} (hr : RdU w hi a us) (hv : isW v) : isW (lookT us v).f ∧ isW (lookT us v).v := by
  rcases look_cases us v with ⟨k, hk, _, _, e⟩ | ⟨_, e⟩
  · rw [e]
    obtain ⟨_, _, _, _, _, _, _, _, _, _, _, _, q⟩ := hr.get hk
    exact q.2
  · rw [e]
    exact ⟨by show isW (-1); unfold isW; omega, hv⟩

set_option maxHeartbeats 1600000 in
theorem specLook_any (us : List BindD) (a : Option Addr) (c hi : Nat) (v : Int) (w : World) (hp : partsU us ≤ 549755813887) (hr : RdU w hi a us) (hhi : hi ≤ w.heap.size) :
    Calls Try.prog 66 #[.slice a us.length c, .int .i64 v] w fun e w' => ∃ a' c', e = .returned (.agg #[.int .i64 (lookT us v).f, .int .i64 (lookT us v).v, .slice a' (lookT us v).kids.length c']) ∧ OwnS w' (fun k => w.heap.size ≤ k ∧ k < w'.heap.size) a' (lookT us v).kids ∧ (lookT us v).kids.length ≤ c' ∧ Below w.heap.size w w' := by
  have hl : us.length ≤ 549755813888 := by unfold partsU at hp; omega
  have nb0 := MB.new w
  have HR : Hid _ := hr
  clear hr
  obtain ⟨T, hT⟩ : ∃ T, T = lookT us v := ⟨_, rfl⟩
  rw [← hT]
  have HT : Hid (T = lookT us v) := hT
  clear hT
  go_enter Try.func66, Try.ntmps66
  go_wp2_with fail
  go_loopw [5] (fun i wr => ∃ k : Nat, i = .int .i64 k ∧ k ≤ us.length ∧ MB w wr ∧ Hid (∀ j, (hj : j < us.length) → j < k → us[j].n ≠ v)) (fun i _ => us.length - (intOf i).toNat)
  case atStart => exact ⟨0, rfl, Nat.zero_le _, nb0, fun j _ h => absurd h (Nat.not_lt_zero _)⟩
  case round =>
    obtain ⟨k, rfl, hk, nb, HA⟩ := hrel
    clear nb0
    have hb := nb.be
    by_cases hk' : k < us.length
    · obtain ⟨b, off, a1, c1, rfl, hlt, d0, d1, d2, d3, hc', hkr, hz⟩ := RdU.get (HR.out.on (hb.mono hhi)) hk'
      have hki : (k : Int) < (us.length : Int) := by omega
      have hki0 : (0 : Int) ≤ (k : Int) := by omega
      by_cases he : us[k].n = v
      · have e : T = us[k].t := HT.out.trans (look_hit hk' he HA.out)
        subst e
        clear HT
        have heb : (us[k].n == v) = true := by simp [he]
        have hpg := partsU_get hk'
        have hpt := partsT_eq us[k].t
        have C := l3Copy_any 549755813888 us[k].t a1 c1 hi wr (by omega) (Nat.le_refl _) hkr (Nat.le_trans hhi hb.size) hz.2.1 hz.2.2
        clear HA hpg hpt hkr hz hc'
        go_wp2_with (go_at_call 80; refine C.mono ?_; rintro e w4 ⟨a', c', rfl, ho4, hc4, hb4⟩; have nb4 := nb.on hb4; have n0 := nb4.c0; have n1 := nb4.c1; have n2 := nb4.c2; have nf := nb4.cf; have nz := nb4.z; have hn1 := nb.z; clear C)
        obtain ⟨z0, z1, z2, hoF, hbF⟩ := make_end (x := us[k].t.f) (y := us[k].t.v) (us := us[k].t.kids) (a' := a') (c' := c') nb4 (ho4.s.mono (fun k hk => ⟨by omega, hk.2⟩))
        exact bodyPost_ret (v := .agg #[.int .i64 us[k].t.f, .int .i64 us[k].t.v, .slice a' us[k].t.kids.length c']) (by simp [results, Try.results66, go_sem, z0, z1, z2]) rfl ⟨a', c', rfl, hoF, hc4, hbF⟩
      · have HE : Hid (us[k].n ≠ v) := he
        have heb : (us[k].n == v) = false := by simp [he]
        have he2 : ¬ us[k].n = v := he
        clear he hkr hz hc'
        go_wp2_with fail
        go_roundw
        case rel => exact ⟨k + 1, by go_num, by omega, nb, fun j hj hjk => by
          rcases Nat.lt_or_ge j k with h1 | h1
          · exact HA.out j hj h1
          · have : j = k := by omega
            subst this; exact HE.out⟩
        case measure => simp [intOf]; omega
    · have hki : ¬ (k : Int) < (us.length : Int) := by omega
      have e : T = .mk (-1) v [] := HT.out.trans (look_none (fun j hj => HA.out j hj (by omega)))
      subst e
      clear HT HA
      go_wp2_with (go_at_call 81; refine (l3Var_any v _).mono ?_; rintro e w4 ⟨rfl, hb4⟩; have nb4 := nb.on hb4; have n0 := nb4.c0; have n1 := nb4.c1; have n2 := nb4.c2; have nf := nb4.cf; have nz := nb4.z)
      obtain ⟨z0, z1, z2, hoF, hbF⟩ := make_end (x := -1) (y := v) (us := []) (a' := none) (c' := 0) nb4 (.nil _ _)
      simp only [List.length_nil] at z0 z1 z2 hoF hbF
      exact bodyPost_ret (v := .agg #[.int .i64 (-1), .int .i64 v, .slice none [].length 0]) (by simp [results, Try.results66, go_sem, z0, z1, z2]) rfl ⟨none, 0, rfl, hoF, (Nat.le_refl _), hbF⟩
end Go.Proofs.Ytcbafmohmoicnab

/- A term with what is put for its variables, not in one form yet. Conditions: none. -/
namespace Go.Proofs.Ytcbafmohmoicnab
set_option maxRecDepth 100000
open Go.RowKit

mutual
/-- With what is put for its variables without Kids. -/
def putV (us : List BindD) : TermD → TermD
  | .mk f v ks => if f = -1 ∧ ks = [] then lookT us v else .mk f v (putVL us ks)
def putVL (us : List BindD) : List TermD → List TermD
  | [] => []
  | k :: ks => putV us k :: putVL us ks
end
theorem putVL_map (us : List BindD) : ∀ ks : List TermD, putVL us ks = ks.map (putV us)
  | [] => by rw [putVL]; rfl
  | k :: ks => by rw [putVL, putVL_map us ks]; rfl
theorem putV_eq (us : List BindD) (t : TermD) : putV us t = if t.f = -1 ∧ t.kids = [] then lookT us t.v else .mk t.f t.v (t.kids.map (putV us)) := by cases t; rw [putV, putVL_map]; rfl
end Go.Proofs.Ytcbafmohmoicnab

/- A term with what is put for its variables, as the specification makes it, not in one form yet. Conditions: terms of at most 549755813888 parts. -/
namespace Go.Proofs.Ytcbafmohmoicnab
set_option maxRecDepth 100000
open Go.RowKit

theorem make_endR {w w4 : World} {x y : Int} {us : List TermD} {a' : Option Addr} {c' : Nat} (nb4 : MB w w4) (ho4 : OwnR w4 (fun k => w.heap.size + 1 ≤ k ∧ k < w4.heap.size) a' c' us) :
    OwnR (((w4.setCell ⟨w.heap.size, 0, none⟩ (.int .i64 x)).setCell ⟨w.heap.size, 1, none⟩ (.int .i64 y)).setCell ⟨w.heap.size, 2, none⟩ (.slice a' us.length c')) (fun k => w.heap.size ≤ k ∧ k < (((w4.setCell ⟨w.heap.size, 0, none⟩ (.int .i64 x)).setCell ⟨w.heap.size, 1, none⟩ (.int .i64 y)).setCell ⟨w.heap.size, 2, none⟩ (.slice a' us.length c')).heap.size) a' c' us := by
  have hnS : ∀ j, ¬ (w.heap.size + 1 ≤ (⟨w.heap.size, j, none⟩ : Addr).block ∧ (⟨w.heap.size, j, none⟩ : Addr).block < w4.heap.size) := fun j q => by have := q.1; simp only at this; omega
  have _ := nb4.z
  exact (((ho4.setCell ⟨w.heap.size, 0, none⟩ (hnS 0) (.int .i64 x)).setCell ⟨w.heap.size, 1, none⟩ (hnS 1) (.int .i64 y)).setCell ⟨w.heap.size, 2, none⟩ (hnS 2) (.slice a' us.length c')).mono (fun k hk => ⟨by omega, by simpa using hk.2⟩)
set_option maxHeartbeats 1600000 in
theorem specLookR_any (us : List BindD) (a : Option Addr) (c hi : Nat) (v : Int) (w : World) (hp : partsU us ≤ 549755813887) (hr : RdU w hi a us) (hhi : hi ≤ w.heap.size) :
    Calls Try.prog 66 #[.slice a us.length c, .int .i64 v] w fun e w' => ∃ a' c', e = .returned (.agg #[.int .i64 (lookT us v).f, .int .i64 (lookT us v).v, .slice a' (lookT us v).kids.length c']) ∧ OwnR w' (fun k => w.heap.size ≤ k ∧ k < w'.heap.size) a' c' (lookT us v).kids ∧ (lookT us v).kids.length ≤ c' ∧ Below w.heap.size w w' := by
  have hl : us.length ≤ 549755813888 := by unfold partsU at hp; omega
  have nb0 := MB.new w
  have HR : Hid _ := hr
  clear hr
  obtain ⟨T, hT⟩ : ∃ T, T = lookT us v := ⟨_, rfl⟩
  rw [← hT]
  have HT : Hid (T = lookT us v) := hT
  clear hT
  go_enter Try.func66, Try.ntmps66
  go_wp2_with fail
  go_loopw [5] (fun i wr => ∃ k : Nat, i = .int .i64 k ∧ k ≤ us.length ∧ MB w wr ∧ Hid (∀ j, (hj : j < us.length) → j < k → us[j].n ≠ v)) (fun i _ => us.length - (intOf i).toNat)
  case atStart => exact ⟨0, rfl, Nat.zero_le _, nb0, fun j _ h => absurd h (Nat.not_lt_zero _)⟩
  case round =>
    obtain ⟨k, rfl, hk, nb, HA⟩ := hrel
    clear nb0
    have hb := nb.be
    by_cases hk' : k < us.length
    · obtain ⟨b, off, a1, c1, rfl, hlt, d0, d1, d2, d3, hc', hkr, hz⟩ := RdU.get (HR.out.on (hb.mono hhi)) hk'
      have hki : (k : Int) < (us.length : Int) := by omega
      have hki0 : (0 : Int) ≤ (k : Int) := by omega
      by_cases he : us[k].n = v
      · have e : T = us[k].t := HT.out.trans (look_hit hk' he HA.out)
        subst e
        clear HT
        have heb : (us[k].n == v) = true := by simp [he]
        have hpg := partsU_get hk'
        have hpt := partsT_eq us[k].t
        have C := l3Copy_any 549755813888 us[k].t a1 c1 hi wr (by omega) (Nat.le_refl _) hkr (Nat.le_trans hhi hb.size) hz.2.1 hz.2.2
        clear HA hpg hpt hkr hz hc'
        go_wp2_with (go_at_call 80; refine C.mono ?_; rintro e w4 ⟨a', c', rfl, ho4, hc4, hb4⟩; have nb4 := nb.on hb4; have n0 := nb4.c0; have n1 := nb4.c1; have n2 := nb4.c2; have nf := nb4.cf; have nz := nb4.z; have hn1 := nb.z; clear C)
        obtain ⟨z0, z1, z2, hoF, hbF⟩ := make_end (x := us[k].t.f) (y := us[k].t.v) (us := us[k].t.kids) (a' := a') (c' := c') nb4 (ho4.s.mono (fun k hk => ⟨by omega, hk.2⟩))
        have hoR := make_endR (x := us[k].t.f) (y := us[k].t.v) nb4 (ho4.mono (fun k hk => ⟨by omega, hk.2⟩))
        exact bodyPost_ret (v := .agg #[.int .i64 us[k].t.f, .int .i64 us[k].t.v, .slice a' us[k].t.kids.length c']) (by simp [results, Try.results66, go_sem, z0, z1, z2]) rfl ⟨a', c', rfl, hoR, hc4, hbF⟩
      · have HE : Hid (us[k].n ≠ v) := he
        have heb : (us[k].n == v) = false := by simp [he]
        have he2 : ¬ us[k].n = v := he
        clear he hkr hz hc'
        go_wp2_with fail
        go_roundw
        case rel => exact ⟨k + 1, by go_num, by omega, nb, fun j hj hjk => by
          rcases Nat.lt_or_ge j k with h1 | h1
          · exact HA.out j hj h1
          · have : j = k := by omega
            subst this; exact HE.out⟩
        case measure => simp [intOf]; omega
    · have hki : ¬ (k : Int) < (us.length : Int) := by omega
      have e : T = .mk (-1) v [] := HT.out.trans (look_none (fun j hj => HA.out j hj (by omega)))
      subst e
      clear HT HA
      go_wp2_with (go_at_call 81; refine (l3Var_any v _).mono ?_; rintro e w4 ⟨rfl, hb4⟩; have nb4 := nb.on hb4; have n0 := nb4.c0; have n1 := nb4.c1; have n2 := nb4.c2; have nf := nb4.cf; have nz := nb4.z)
      obtain ⟨z0, z1, z2, hoF, hbF⟩ := make_end (x := -1) (y := v) (us := []) (a' := none) (c' := 0) nb4 (.nil _ _)
      simp only [List.length_nil] at z0 z1 z2 hoF hbF
      exact bodyPost_ret (v := .agg #[.int .i64 (-1), .int .i64 v, .slice none [].length 0]) (by simp [results, Try.results66, go_sem, z0, z1, z2]) rfl ⟨none, 0, rfl, .nil _, (Nat.le_refl _), hbF⟩

end Go.Proofs.Ytcbafmohmoicnab

/- A term with what is put for its variables, as the specification makes it; in one form. Conditions: as its size is told. -/
namespace Go.Proofs.Ytcbafmohmoicnab
set_option maxRecDepth 100000
open Go.RowKit

theorem mk_f (f v : Int) (ks : List TermD) : (TermD.mk f v ks).f = f := rfl
theorem mk_v (f v : Int) (ks : List TermD) : (TermD.mk f v ks).v = v := rfl
theorem mk_kids (f v : Int) (ks : List TermD) : (TermD.mk f v ks).kids = ks := rfl
set_option maxHeartbeats 3200000 in
set_option maxRecDepth 100000 in
theorem l6Put_any (us : List BindD) (ua : Option Addr) (uc : Nat) (hpu : partsU us ≤ 549755813887) (N : Nat) : ∀ (t : TermD) (a : Option Addr) (c hi : Nat) (w : World), partsT t ≤ N → N ≤ 549755813888 → RdU w hi ua us → RdK w hi a t.kids → hi ≤ w.heap.size → isW t.f → isW t.v →
    Calls Try.prog 44 #[.slice ua us.length uc, .agg #[.int .i64 t.f, .int .i64 t.v, .slice a t.kids.length c]] w fun e w' => ∃ a' c', e = .returned (.agg #[.int .i64 (putV us t).f, .int .i64 (putV us t).v, .slice a' (putV us t).kids.length c']) ∧ OwnR w' (fun x => w.heap.size ≤ x ∧ x < w'.heap.size) a' c' (putV us t).kids ∧ (putV us t).kids.length ≤ c' ∧ (isW (putV us t).f ∧ isW (putV us t).v) ∧ Below w.heap.size w w' := by
  induction N with
  | zero => intro t a c hi w h; rw [partsT_eq] at h; omega
  | succ N ih =>
    intro t a c hi w hN hM hu hr hhi hfw hvw
    rw [partsT_eq] at hN
    obtain ⟨i0, hi0, hz0, hz1, hz2⟩ := info_parts info29
    have hlen := partsL_len t.kids
    rw [putV_eq]
    by_cases hv : t.f = -1 ∧ t.kids = []
    · rw [if_pos hv]
      obtain ⟨w0, hw0⟩ : ∃ w0, w0 = w.alloc (.cells #[.int .i64 t.f, .int .i64 t.v, .slice a t.kids.length c] 32) := ⟨_, rfl⟩
      have hb0 : Below w.heap.size w w0 := by rw [hw0]; exact (Below.refl _ _).alloc (Nat.le_refl _) _
      obtain ⟨W, hW⟩ : ∃ W, W = w0.alloc (.cells #[.int .i64 0, .int .i64 0, .slice none 0 0] 32) := ⟨_, rfl⟩
      have nb0 : MB w0 W := by rw [hW]; exact MB.new w0
      have hB := hb0.trans (nb0.be.mono hb0.size)
      have t0 : W.cell? ⟨w.heap.size, 0, none⟩ = some (.int .i64 t.f) := by rw [hW, hw0]; simp [go_sem]
      have t1 : W.cell? ⟨w.heap.size, 1, none⟩ = some (.int .i64 t.v) := by rw [hW, hw0]; simp [go_sem]
      have t2 : W.cell? ⟨w.heap.size, 2, none⟩ = some (.slice a t.kids.length c) := by rw [hW, hw0]; simp [go_sem]
      have hwz : w0.heap.size = w.heap.size + 1 := by rw [hw0]; simp
      have C := specLookR_any us ua uc hi t.v W hpu (hu.on (hB.mono hhi)) (Nat.le_trans hhi hB.size)
      have hwf := look_wf hu hvw
      have e1 := hv.1
      have e2 : t.kids.length = 0 := by rw [hv.2]; rfl
      have HWW : Hid (W = (w.alloc (.cells #[.int .i64 t.f, .int .i64 t.v, .slice a t.kids.length c] 32)).alloc (.cells #[.int .i64 0, .int .i64 0, .slice none 0 0] 32)) := by show _ = _; rw [hW, hw0]
      rw [e1] at t0
      rw [e2] at t2
      generalize lookT us t.v = T at C hwf ⊢
      have hwz2 : w.heap.size + 1 ≤ w0.heap.size := by omega
      have HWZ : Hid (w0.heap.size = w.heap.size + 1) := hwz
      have n4 : True := trivial
      clear hu hr hW hw0 hv hwz ih hN
      rw [e1, e2] at HWW
      rw [e1, e2]
      clear e1 e2
      go_enter Try.func44, Try.ntmps44
      go_wp2_with (go_at_call 66; rw [← HWW.out]; refine C.mono ?_; rintro e w4 ⟨a', c', rfl, ho4, hc4, hb4⟩; have nb4 := nb0.on hb4; have n0 := nb4.c0; have n1 := nb4.c1; have n2 := nb4.c2; have nf := nb4.cf; have nz := nb4.z; have nz0 := nb0.z; rw [HWZ.out] at n0 n1 n2 nf; clear C HWW)
      obtain ⟨z0, z1, z2, _, hbF⟩ := make_end (x := T.f) (y := T.v) (us := T.kids) (a' := a') (c' := c') nb4 (ho4.s.mono (fun k hk => ⟨by omega, hk.2⟩))
      have hoR := make_endR (x := T.f) (y := T.v) nb4 (ho4.mono (fun k hk => ⟨by omega, hk.2⟩))
      rw [HWZ.out] at z0 z1 z2 hbF hoR
      have hbF2 := hb0.trans (Below.mono hbF (by have := hb0.size; omega))
      exact bodyPost_ret (v := .agg #[.int .i64 T.f, .int .i64 T.v, .slice a' T.kids.length c']) (by simp [results, Try.results44, go_sem, z0, z1, z2]) rfl ⟨a', c', rfl, hoR.mono (fun k hk => ⟨by omega, hk.2⟩), hc4, hwf, hbF2⟩
    rw [if_neg hv]
    obtain ⟨f0, v0, ks0⟩ := t
    dsimp only [mk_f, mk_v, mk_kids] at *
    have htst : (f0 == -1) = false ∨ ((f0 == -1) = true ∧ ((ks0.length : Int) == 0) = false) := by
      by_cases h : f0 = -1
      · refine .inr ⟨by simp [h], ?_⟩
        have : ks0.length ≠ 0 := fun e => hv ⟨h, List.length_eq_zero_iff.1 e⟩
        rw [beq_eq_false_iff_ne]; omega
      · exact .inl (by simp [h])
    have HR : Hid (RdK w hi a ks0) := hr
    have HU : Hid (RdU w hi ua us) := hu
    have HWF : Hid (isW f0 ∧ isW v0) := ⟨hfw, hvw⟩
    have HTS : Hid _ := htst
    clear hr hu hfw hvw hv htst
    have C0 : NC w (.mk f0 v0 ks0) a c (.slice none 0 0) (((w.alloc (.cells #[.int .i64 f0, .int .i64 v0, .slice a ks0.length c] 32)).alloc (.cells #[.int .i64 0, .int .i64 0, .slice none 0 0] 32)).alloc (.cells #[.int .i64 f0, .int .i64 v0, .slice none 0 0] 32)) := by
      refine ⟨?_, ?_, ?_, ?_, ?_, ?_, ?_, ?_, fun j => ?_, fun j => ?_, (((Below.refl _ _).alloc (Nat.le_refl _) _).alloc (by simp) _).alloc (by simp; omega) _, ?_⟩
      all_goals simp [go_sem, mk_f, mk_v, mk_kids]
    have htst := HTS.out
    clear HTS
    rcases htst with h | ⟨h, h2⟩
    all_goals
      go_enter Try.func44, Try.ntmps44
      go_wp2_with fail
      go_loopw [6] (fun i wr => ∃ (k : Nat) (L : List FE) (av : Option Addr) (cv : Nat), k ≤ ks0.length ∧ i = .int .i64 k ∧ NC w (.mk f0 v0 ks0) a c (.slice av L.length cv) wr ∧ NR (w.heap.size + 1 + 1 + 1) L [] av cv wr ∧ Hid (L.map FE.t = (ks0.take k).map (putV us))) (fun i _ => ks0.length - (intOf i).toNat)
      case atStart => exact ⟨0, [], none, 0, Nat.zero_le _, rfl, C0, NR.start _ _, by show _ = _; simp⟩
      case round =>
        obtain ⟨k, L, av, cv, hk, rfl, C, R, HL⟩ := hrel
        clear C0
        have p2 : wr.cell? ⟨w.heap.size, 2, none⟩ = some (.slice a ks0.length c) := C.p2
        have hz := C.z
        have hLl : L.length ≤ ks0.length := by have := congrArg List.length HL.out; simp at this; omega
        by_cases hk' : k < ks0.length
        · obtain ⟨b, off, a', c', rfl, hlt, d0, d1, d2, hkr⟩ := RdK.kid (HR.out.on (C.bel.mono hhi)) hk'
          have hints := HR.out.ints hk'
          have hpg := partsL_get hk'
          have hki : (k : Int) < (ks0.length : Int) := by omega
          have hki0 : (0 : Int) ≤ (k : Int) := by omega
          have hkz : (L.length : Int) < (L.length : Int) + 1 := by omega
          have hLb : L.length ≤ 549755813888 := by omega
          have HK : Hid (L.map FE.t ++ [putV us ks0[k]] = (ks0.take (k + 1)).map (putV us)) := by show _ = _; rw [HL.out, List.take_succ_eq_append_getElem hk', List.map_append]; rfl
          have I := fun (w' : World) (h : Below wr.heap.size wr w') => ih ks0[k] a' c' hi w' (by omega) (by omega) (HU.out.on ((C.bel.trans (h.mono C.bel.size)).mono hhi)) (hkr.on (h.mono (Nat.le_trans hhi C.bel.size))) (Nat.le_trans (Nat.le_trans hhi C.bel.size) h.size) hints.1 hints.2
          generalize ks0[k] = u at d0 d1 d2 I HK
          generalize putV us u = P at I HK
          have q2 := C.q2
          clear hkr hints hpg ih hlt
          have hlb : b < wr.heap.size := World.block_lt_of_cell? _ _ d0
          have b1 : Below wr.heap.size wr (wr.alloc (.cells #[.int .i64 0, .int .i64 0, .slice none 0 0] 32)) := (Below.refl _ _).alloc (Nat.le_refl _) _
          have p2a := keepC b1 p2
          have q2a := keepC b1 q2
          have d0a := keepC b1 d0
          have d1a := keepC b1 d1
          have d2a := keepC b1 d2
          clear b1
          go_wp2_with fail
          go_region_law (first
            | (go_simp; go_at_call 44; refine (I (wr.drew.alloc (.cells #[.int .i64 0, .int .i64 0, .slice none 0 0] 32)) ((Below.refl _ _).drew.alloc (by simp) _)).mono ?_; rintro e1 w1 ⟨a1, c1, rfl, o1, hle1, hI1, hb1⟩; have C1 := (C.on ((Below.refl _ _).drew.alloc (by simp) _)).on hb1; have R1 := (R.on ((Below.refl _ _).drew.alloc (by simp) _)).join hb1 (fe_one o1 hle1 hI1.1 hI1.2 (Nat.le_of_lt_succ (by simp; omega))) (fun e he x hx => by simp only [List.mem_singleton] at he; subst he; exact hx.1); have z0 := keepC (p := ⟨wr.heap.size, 0, none⟩) (v := .int .i64 0) hb1 (by simp [go_sem]); have z1 := keepC (p := ⟨wr.heap.size, 1, none⟩) (v := .int .i64 0) hb1 (by simp [go_sem]); have z2 := keepC (p := ⟨wr.heap.size, 2, none⟩) (v := .slice none 0 0) hb1 (by simp [go_sem]); have c2' := C1.q2; have f2' := C1.fq 2; have hbw := C1.z; have hne : (Value.slice av L.length cv).ownBlock ≠ some (w.heap.size + 1 + 1) := (fun q => by have := (R1.row.lt _ q).1; omega); have hrow := R1.row; have hxl := hrow.1; have hsz1 := hb1.size; have HC : Hid _ := C1; have HRR : Hid _ := R1; clear C1 R1 hb1 o1)
            | (go_simp; go_at_call 44; refine (I wr.drew (Below.refl _ _).drew).mono ?_; rintro e1 w1 ⟨a1, c1, rfl, o1, hle1, hI1, hb1⟩; have C1 := (C.on (Below.refl _ _).drew).on hb1; have R1 := (R.on (Below.refl _ _).drew).join hb1 (fe_one o1 hle1 hI1.1 hI1.2 (Nat.le_of_lt_succ (by simp; omega))) (fun e he x hx => by simp only [List.mem_singleton] at he; subst he; exact hx.1); have zB : True := trivial; have c2' := C1.q2; have f2' := C1.fq 2; have hbw := C1.z; have hne : (Value.slice av L.length cv).ownBlock ≠ some (w.heap.size + 1 + 1) := (fun q => by have := (R1.row.lt _ q).1; omega); have hrow := R1.row; have hxl := hrow.1; have hsz1 := hb1.size; have HC : Hid _ := C1; have HRR : Hid _ := R1; clear C1 R1 hb1 o1)
            | (have _ := zB; refine step_append_own rfl (.tmp 33) (.tmp 41) 30 rfl (w.heap.size + 1 + 1 + 1) 32 i0 _ 3 40 Try.underlying30 hi0 hz0 hz1 hz2 rfl (by decide) (.slice av L.length cv) L.length (cs3 (L.map FE.cells)) (by first | (simp [Act.eval]; done) | simp [Act.eval, Act.put]) (own_on hrow (by repeat (first | exact Below.refl _ _ | refine Below.drew ?_ | refine Below.alloc ?_ (by simp) _))) ⟨w1.heap.size, 0, none⟩ 1 1 [.int .i64 P.f, .int .i64 P.v, .slice a1 P.kids.length c1] (by first | (simp [Act.eval]; done) | simp [Act.eval, Act.put]) rfl (three_at (by simp) (by simp) (by simp)) (three_cell _ _ _ _ _) (by unfold maxLen; omega) (by omega) (by simp <;> omega) ?_; intro v5 w5 hown5 hgrow5 hat5; have HA5 : Hid _ := hat5; obtain ⟨g5, c5, rfl, _⟩ := own_slot hown5; have HO5 : Hid _ := hown5; have HG5 : Hid _ := hgrow5; have A5 := cpy_app HC.out HRR.out (by repeat (first | exact Below.refl _ _ | refine Below.drew ?_ | refine Below.alloc ?_ (by simp) _)) hown5 hgrow5 hat5; have c4' := A5.1.q2; have f4' := A5.1.fq 2; have HA : Hid _ := A5; clear A5 hown5 hgrow5 hat5)
            | (refine step_append_own rfl (.tmp 33) (.tmp 41) 30 rfl (w.heap.size + 1 + 1 + 1) 32 i0 _ 3 40 Try.underlying30 hi0 hz0 hz1 hz2 rfl (by decide) (.slice av L.length cv) L.length (cs3 (L.map FE.cells)) (by first | (simp [Act.eval]; done) | simp [Act.eval, Act.put]) (own_on hrow (by repeat (first | exact Below.refl _ _ | refine Below.drew ?_ | refine Below.alloc ?_ (by simp) _))) ⟨wr.heap.size, 0, none⟩ 1 1 [.int .i64 0, .int .i64 0, .slice none 0 0] (by first | (simp [Act.eval]; done) | simp [Act.eval, Act.put]) rfl (three_at z0 z1 z2) (three_cell _ _ _ _ _) (by unfold maxLen; omega) (by omega) (by simp <;> omega) ?_; intro v5 w5 hown5 hgrow5 hat5; have PF := put_facts hrow.1 hown5 hgrow5 hat5 (by repeat (first | exact Below.refl _ _ | refine Below.drew ?_ | refine Below.alloc ?_ (by simp) _)) hbw c2' f2' hne; have HA5 : Hid _ := hat5; obtain ⟨g5, c5, rfl, ⟨e0, e1, e2⟩, ⟨f0, f1, f2⟩, c4', f4', hg5, hc5, hat'⟩ := PF; have HO5 : Hid _ := hown5; have HG5 : Hid _ := hgrow5; clear hown5 hgrow5 hat5))
          all_goals
            clear c4' f4'
            have A5 := HA.out
            have C6 := A5.1.set (.slice (some ⟨g5, 0, none⟩) (L.length + 1) c5)
            have R6 := A5.2.set (p := ⟨w.heap.size + 1 + 1, 2, none⟩) (.slice (some ⟨g5, 0, none⟩) (L.length + 1) c5) (by simp only; omega)
            clear A5 HA
            go_wp2_with fail
            refine ⟨⟨k + 1, L ++ [⟨P, a1, c1, _⟩], some ⟨g5, 0, none⟩, c5, by omega, by go_num, by simpa using C6, R6, ?_⟩, by simp [intOf]; omega⟩
            show _ = _
            rw [fe_snoc, HK.out]
        · have E : Hid (k = ks0.length) := (by omega : k = ks0.length)
          have q0 := C.q0
          have q1 := C.q1
          have q2 := C.q2
          have r0 := C.r0
          have r1 := C.r1
          have r2 := C.r2
          simp only [mk_f, mk_v] at q0 q1 q2 r0 r1 r2
          have fr := C.fr
          have hL : Hid (L.map FE.t = ks0.map (putV us)) := by
            show _ = _
            rw [HL.out, E.out, List.take_length]
          have O : OwnR wr (fun x => w.heap.size + 1 + 1 + 1 ≤ x ∧ x < wr.heap.size) av cv (L.map FE.t) := by
            rcases R.row.2 with ⟨hv, h0⟩ | ⟨g, cap, _, hv, _⟩
            · have : L = [] := List.length_eq_zero_iff.1 h0
              subst this; cases hv; exact .nil _
            · cases hv
              exact (by simpa using R.fo : Forest wr _ L).owns R.row (fun e he => R.ap g rfl e (by simpa using he)) (by omega)
          have hcl : L.length ≤ cv := by obtain ⟨_, _, h, hh⟩ := own_form R.row; cases h; exact hh
          have hbel := C.bel
          clear C R HL E ih
          go_wp2_with fail
          obtain ⟨z0, z1, z2⟩ := set3_cells (u := wr) (r := w.heap.size + 1) (x := .int .i64 f0) (y := .int .i64 v0) (z := .slice av L.length cv) r0 r1 r2
          have hn : ¬ (w.heap.size + 1 + 1 + 1 ≤ w.heap.size + 1 ∧ w.heap.size + 1 < wr.heap.size) := by omega
          have O3 := ((O.setCell ⟨w.heap.size + 1, 0, none⟩ hn (.int .i64 f0)).setCell ⟨w.heap.size + 1, 1, none⟩ hn (.int .i64 v0)).setCell ⟨w.heap.size + 1, 2, none⟩ hn (.slice av L.length cv)
          rw [← hL.out, List.length_map]
          refine bodyPost_ret (v := .agg #[.int .i64 f0, .int .i64 v0, .slice av L.length cv]) (by simp [results, Try.results44, go_sem, z0, z1, z2]) rfl ⟨av, cv, rfl, O3.mono (fun x hx => ⟨by omega, by simpa using hx.2⟩), by simpa using hcl, HWF.out, ?_⟩
          exact ((hbel.setCell (p := ⟨w.heap.size + 1, 0, none⟩) (by simp) _).setCell (p := ⟨w.heap.size + 1, 1, none⟩) (by simp) _).setCell (p := ⟨w.heap.size + 1, 2, none⟩) (by simp) _
end Go.Proofs.Ytcbafmohmoicnab

/- A term with what is put for its variables, in one form: the specification's way. Conditions: as its size is told. -/
namespace Go.Proofs.Ytcbafmohmoicnab
set_option maxRecDepth 100000
open Go.RowKit

set_option maxHeartbeats 1600000 in
theorem specApply_any (sa : Option Addr) (ss : List SymD) (sc : Nat) (us : List BindD) (ua : Option Addr) (uc : Nat) (t : TermD) (a : Option Addr) (c hi : Nat) (w : World) (hsl : ss.length ≤ 1048577) (hpu : partsU us ≤ 549755813887) (hu : RdU w hi ua us) (hs : RdS w sa ss)
    (hpt : partsT t ≤ 549755813888) (hpp : partsT (putV us t) ≤ 549755813888) (hr : RdK w hi a t.kids) (hhi : hi ≤ w.heap.size) (hwf : isW t.f ∧ isW t.v) :
    Calls Try.prog 11 #[.slice sa ss.length sc, .slice ua us.length uc, .agg #[.int .i64 t.f, .int .i64 t.v, .slice a t.kids.length c]] w fun e w' => ∃ a' c', e = .returned (.agg #[.int .i64 (putV us t).f, .int .i64 (putV us t).v, .slice a' (normT (blindAt ss) (putV us t)).kids.length c']) ∧ OwnS w' (fun k => w.heap.size ≤ k ∧ k < w'.heap.size) a' (normT (blindAt ss) (putV us t)).kids ∧ Below w.heap.size w w' := by
  obtain ⟨W, hW⟩ : ∃ W, W = (w.alloc (.cells #[.int .i64 t.f, .int .i64 t.v, .slice a t.kids.length c] 32)).alloc (.cells #[.int .i64 0, .int .i64 0, .slice none 0 0] 32) := ⟨_, rfl⟩
  have hb0 : Below w.heap.size w W := by rw [hW]; exact ((Below.refl _ _).alloc (Nat.le_refl _) _).alloc (by simp) _
  have nb0 : NB w W := ⟨hb0, by rw [hW]; simp [go_sem], by rw [hW]; simp [go_sem], by rw [hW]; simp [go_sem], fun j => by rw [hW]; simp [go_sem], by rw [hW]; simp⟩
  have C1 := l6Put_any us ua uc hpu 549755813888 t a c hi W hpt (Nat.le_refl _) (hu.on (hb0.mono hhi)) (hr.on (hb0.mono hhi)) (Nat.le_trans hhi hb0.size) hwf.1 hwf.2
  obtain ⟨P, hP⟩ : ∃ P, P = putV us t := ⟨_, rfl⟩
  rw [← hP] at hpp C1 ⊢
  have HS : Hid (RdS w sa ss) := hs
  have HW : Hid (W = (w.alloc (.cells #[.int .i64 t.f, .int .i64 t.v, .slice a t.kids.length c] 32)).alloc (.cells #[.int .i64 0, .int .i64 0, .slice none 0 0] 32)) := hW
  have hWz := nb0.z
  clear hu hs hr hW hb0 hwf hP
  go_enter Try.func11, Try.ntmps11
  go_wp2_with (first
    | (go_at_call 44; rw [← HW.out]; refine C1.mono ?_; rintro e w3 ⟨a3, c3, rfl, ho3, hle3, hw3, hb3⟩; have nb3 := nb0.on hb3; have C3 := specNorm_any ss sa sc hsl 549755813888 P a3 c3 w3.heap.size w3 hpp (Nat.le_refl _) ho3.rd (Nat.le_refl _) hw3.1 hw3.2 (HS.out.below nb3.be); clear C1 nb0 ho3)
    | (go_at_call 43; refine C3.mono ?_; rintro e w4 ⟨a', c', rfl, ho4, hc4, hb4⟩; have nb4 := nb3.on hb4; have d0 := nb4.c0; have d1 := nb4.c1; have d2 := nb4.c2; have df := nb4.cf; have hz4 := nb4.z; have hz34 := nb3.z; clear C3))
  obtain ⟨z0, z1, z2⟩ := set3_cells (u := w4) (r := w.heap.size + 1) (x := .int .i64 P.f) (y := .int .i64 P.v) (z := .slice a' (normT (blindAt ss) P).kids.length c') d0 d1 d2
  have hnS : ∀ j, ¬ (w3.heap.size ≤ (⟨w.heap.size + 1, j, none⟩ : Addr).block ∧ (⟨w.heap.size + 1, j, none⟩ : Addr).block < w4.heap.size) := fun j q => by have := q.1; simp only at this; omega
  have hoF := ((ho4.s.setCell ⟨w.heap.size + 1, 0, none⟩ (hnS 0) (.int .i64 P.f)).setCell ⟨w.heap.size + 1, 1, none⟩ (hnS 1) (.int .i64 P.v)).setCell ⟨w.heap.size + 1, 2, none⟩ (hnS 2) (.slice a' (normT (blindAt ss) P).kids.length c')
  have hbF := ((nb4.be.setCell (p := ⟨w.heap.size + 1, 0, none⟩) (by simp) (.int .i64 P.f)).setCell (p := ⟨w.heap.size + 1, 1, none⟩) (by simp) (.int .i64 P.v)).setCell (p := ⟨w.heap.size + 1, 2, none⟩) (by simp) (.slice a' (normT (blindAt ss) P).kids.length c')
  refine bodyPost_ret (v := .agg #[.int .i64 P.f, .int .i64 P.v, .slice a' (normT (blindAt ss) P).kids.length c']) (by simp [results, Try.results11, go_sem, z0, z1, z2]) rfl ⟨a', c', rfl, hoF.mono (fun k hk => ⟨by omega, by simpa using hk.2⟩), hbF⟩
end Go.Proofs.Ytcbafmohmoicnab

/- Terms whose variables are put in place, one after the other, over a list of places that are left: what holds of memory meanwhile. Conditions: none. -/
namespace Go.Proofs.Ytcbafmohmoicnab
set_option maxRecDepth 100000
open Go.RowKit

theorem RdK.frameB {w w' : World} {hi : Nat} {a : Option Addr} {ts : List TermD} (h : RdK w hi a ts) (hb : ∀ k, k < hi → w'.heap[k]? = w.heap[k]?) : RdK w' hi a ts := by
  induction h with
  | nil a => exact .nil a
  | row b off ts A C hlt hl hz hc hk ih =>
    refine .row b off ts A C hlt hl hz (fun i h => ?_) ih
    obtain ⟨h0, h1, h2⟩ := hc i h
    have e := hb b hlt
    exact ⟨(World.cell?_of_block (a := ⟨b, _, none⟩) e).trans h0, (World.cell?_of_block (a := ⟨b, _, none⟩) e).trans h1, (World.cell?_of_block (a := ⟨b, _, none⟩) e).trans h2⟩
theorem OwnS.open {w : World} {S : Nat → Prop} {a : Option Addr} {ts : List TermD} (h : OwnS w S a ts) : ts = [] ∨ ∃ (b off : Nat) (A : Nat → Option Addr) (C : Nat → Nat) (K : Nat → Nat → Prop), a = some ⟨b, off, none⟩ ∧ S b ∧ b < w.heap.size ∧ (ts.length ≤ 9223372036854775807 ∧ ∀ i, (h : i < ts.length) → ts[i].kids.length ≤ C i) ∧ (∀ i, (h : i < ts.length) → isW ts[i].f ∧ isW ts[i].v)
    ∧ (∀ i, (h : i < ts.length) → w.cell? ⟨b, off + i * 3, none⟩ = some (.int .i64 ts[i].f) ∧ w.cell? ⟨b, off + i * 3 + 1, none⟩ = some (.int .i64 ts[i].v) ∧ w.cell? ⟨b, off + i * 3 + 2, none⟩ = some (.slice (A i) ts[i].kids.length (C i)))
    ∧ (∀ j, w.frozen? ⟨b, j, none⟩ = false) ∧ (∀ i x, i < ts.length → K i x → S x ∧ x ≠ b) ∧ (∀ i j x, i < ts.length → j < ts.length → i ≠ j → K i x → ¬ K j x) ∧ (∀ i, (h : i < ts.length) → OwnS w (K i) (A i) ts[i].kids) := by
  cases h with
  | nil S a => exact .inl rfl
  | row S b off ts A C K hb hlt hl hz hc hf hsub hdis hk => exact .inr ⟨b, off, A, C, K, rfl, hb, hlt, hl, hz, hc, hf, hsub, hdis, hk⟩

/-- A place that is left: where it is, what stands there, and which blocks lie under it. -/
structure PL where
  b : Nat
  o : Nat
  t : TermD
  a : Option Addr
  c : Nat
  U : Nat → Prop

/-- A term stands at the place. -/
def RdT (w : World) (b o : Nat) (t : TermD) : Prop := ∃ a c, w.cell? ⟨b, o, none⟩ = some (.int .i64 t.f) ∧ w.cell? ⟨b, o + 1, none⟩ = some (.int .i64 t.v) ∧ w.cell? ⟨b, o + 2, none⟩ = some (.slice a t.kids.length c) ∧ RdK w w.heap.size a t.kids ∧ t.kids.length ≤ c ∧ isW t.f ∧ isW t.v

/-- The place as it is told. -/
structure PL.Ok (e : PL) (w : World) : Prop where
  c0 : w.cell? ⟨e.b, e.o, none⟩ = some (.int .i64 e.t.f)
  c1 : w.cell? ⟨e.b, e.o + 1, none⟩ = some (.int .i64 e.t.v)
  c2 : w.cell? ⟨e.b, e.o + 2, none⟩ = some (.slice e.a e.t.kids.length e.c)
  fr : ∀ j, w.frozen? ⟨e.b, j, none⟩ = false
  own : OwnS w e.U e.a e.t.kids
  le : e.t.kids.length ≤ e.c
  wf : isW e.t.f ∧ isW e.t.v
  nb : ¬ e.U e.b

/-- Two places that have nothing of each other. -/
def PL.Far (e d : PL) : Prop := ¬ e.U d.b ∧ ¬ d.U e.b ∧ (∀ x, e.U x → ¬ d.U x) ∧ (e.b = d.b → e.o + 3 ≤ d.o ∨ d.o + 3 ≤ e.o)

/-- The block has a cell that is left. -/
def Hot (L : List PL) (b : Nat) : Prop := ∃ e ∈ L, e.U b ∨ b = e.b
/-- The cell is one that is left. -/
def HotC (L : List PL) (b j : Nat) : Prop := ∃ e ∈ L, e.U b ∨ (b = e.b ∧ e.o ≤ j ∧ j < e.o + 3)

/-- Nothing below N turned but what is left. -/
structure Same (N : Nat) (L : List PL) (w w' : World) : Prop where
  size : w.heap.size ≤ w'.heap.size
  blk : ∀ b, b < N → ¬ Hot L b → w'.heap[b]? = w.heap[b]?
  cel : ∀ b j, b < N → ¬ HotC L b j → w'.cell? ⟨b, j, none⟩ = w.cell? ⟨b, j, none⟩

/-- All that is left, and what becomes of the whole when each place has what is put. -/
structure AP (us : List BindD) (Z : Nat → Prop) (lo N r : Nat) (T : TermD) (L : List PL) (w : World) : Prop where
  ok : ∀ e ∈ L, e.Ok w
  far : L.Pairwise PL.Far
  inz : ∀ e ∈ L, (∀ x, e.U x → Z x) ∧ Z e.b
  zlo : ∀ x, Z x → lo ≤ x ∧ x < N
  Nw : N ≤ w.heap.size
  cl : ∀ w', Same N L w w' → (∀ e ∈ L, RdT w' e.b e.o (putV us e.t)) → RdT w' r 0 (putV us T)

theorem AP.low {us : List BindD} {Z : Nat → Prop} {lo N r : Nat} {T : TermD} {L : List PL} {w : World} (h : AP us Z lo N r T L w) : ∀ e ∈ L, (∀ x, e.U x → lo ≤ x ∧ x < N) ∧ lo ≤ e.b ∧ e.b < N :=
  fun e he => ⟨fun x hx => h.zlo x ((h.inz e he).1 x hx), h.zlo _ (h.inz e he).2⟩
theorem Same.on {N : Nat} {L : List PL} {w w1 w' : World} (h : Same N L w1 w') (hz : w.heap.size ≤ w1.heap.size) (hb : ∀ k, k < N → w1.heap[k]? = w.heap[k]?) : Same N L w w' :=
  ⟨Nat.le_trans hz h.size, fun b hbN hh => (h.blk b hbN hh).trans (hb b hbN), fun b j hbN hh => (h.cel b j hbN hh).trans (World.cell?_of_block (a := ⟨b, j, none⟩) (hb b hbN))⟩
/-- What turns nothing below N leaves it. -/
theorem AP.on {us : List BindD} {Z : Nat → Prop} {lo N r : Nat} {T : TermD} {L : List PL} {w w1 : World} (h : AP us Z lo N r T L w) (hz : w.heap.size ≤ w1.heap.size) (hb : ∀ k, k < N → w1.heap[k]? = w.heap[k]?) : AP us Z lo N r T L w1 := by
  refine ⟨fun e he => ?_, h.far, h.inz, h.zlo, Nat.le_trans h.Nw hz, fun w' hs hr => h.cl w' (hs.on hz hb) hr⟩
  have k := h.ok e he
  have l := h.low e he
  have hc := hb e.b l.2.2
  exact ⟨(World.cell?_of_block (a := ⟨e.b, _, none⟩) hc).trans k.c0, (World.cell?_of_block (a := ⟨e.b, _, none⟩) hc).trans k.c1, (World.cell?_of_block (a := ⟨e.b, _, none⟩) hc).trans k.c2, fun j => (World.frozen?_of_block (a := ⟨e.b, j, none⟩) hc).trans (k.fr j), k.own.frame (fun x hx => hb x (l.1 x hx).2) hz, k.le, k.wf, k.nb⟩

/-- The whole, before anything is put. -/
theorem AP.start {us : List BindD} {Z : Nat → Prop} {lo N r : Nat} {T : TermD} {a : Option Addr} {c : Nat} {w : World} {U : Nat → Prop} (k : (PL.mk r 0 T a c U).Ok w) (hU : ∀ x, U x → Z x) (hr : Z r) (hZ : ∀ x, Z x → lo ≤ x ∧ x < N) (hN : N ≤ w.heap.size) : AP us Z lo N r T [⟨r, 0, T, a, c, U⟩] w :=
  ⟨fun e he => by simp at he; subst he; exact k, by simp, fun e he => by simp at he; subst he; exact ⟨hU, hr⟩, hZ, hN, fun w' _ hr => hr ⟨r, 0, T, a, c, U⟩ (by simp)⟩

theorem putV_var {us : List BindD} {t : TermD} (h : t.f = -1) (hk : t.kids = []) : putV us t = lookT us t.v := by rw [putV_eq, if_pos ⟨h, hk⟩]
theorem putV_not {us : List BindD} {t : TermD} (h : ¬ (t.f = -1 ∧ t.kids = [])) : putV us t = .mk t.f t.v (t.kids.map (putV us)) := by rw [putV_eq, if_neg h]
theorem putV_kids (us : List BindD) (t : TermD) (h : ¬ (t.f = -1 ∧ t.kids = [])) : (putV us t).f = t.f ∧ (putV us t).v = t.v ∧ (putV us t).kids = t.kids.map (putV us) := by rw [putV_not h]; exact ⟨rfl, rfl, rfl⟩

/-- A variable is put: its place is left no more. -/
theorem AP.put {us : List BindD} {Z : Nat → Prop} {lo N r : Nat} {T : TermD} {L : List PL} {e : PL} {w w1 : World} {q : Option Addr} {cq : Nat} (h : AP us Z lo N r T (L ++ [e]) w) (hf : e.t.f = -1) (hk : e.t.kids = [])
    (hz : w.heap.size ≤ w1.heap.size) (hb : ∀ k, k < N → k ≠ e.b → w1.heap[k]? = w.heap[k]?) (hc : ∀ j, j < e.o ∨ e.o + 3 ≤ j → w1.cell? ⟨e.b, j, none⟩ = w.cell? ⟨e.b, j, none⟩) (hfz : ∀ j, w1.frozen? ⟨e.b, j, none⟩ = false)
    (x0 : w1.cell? ⟨e.b, e.o, none⟩ = some (.int .i64 (lookT us e.t.v).f)) (x1 : w1.cell? ⟨e.b, e.o + 1, none⟩ = some (.int .i64 (lookT us e.t.v).v)) (x2 : w1.cell? ⟨e.b, e.o + 2, none⟩ = some (.slice q (lookT us e.t.v).kids.length cq))
    (hq : RdK w lo q (lookT us e.t.v).kids) (hle : (lookT us e.t.v).kids.length ≤ cq) (hw : isW (lookT us e.t.v).f ∧ isW (lookT us e.t.v).v) (_hloN : lo ≤ N) : AP us Z lo N r T L w1 := by
  have hfar := List.pairwise_append.1 h.far
  have fe : ∀ d ∈ L, PL.Far d e := fun d hd => hfar.2.2 d hd e (by simp)
  have le := h.low e (by simp)
  refine ⟨fun d hd => ?_, hfar.1, fun d hd => h.inz d (by simp [hd]), h.zlo, Nat.le_trans h.Nw hz, fun w' hs hr => ?_⟩
  · have k := h.ok d (by simp [hd])
    have l := h.low d (by simp [hd])
    have f := fe d hd
    have cc : ∀ j, j < 3 → w1.cell? ⟨d.b, d.o + j, none⟩ = w.cell? ⟨d.b, d.o + j, none⟩ := fun j hj => by
      by_cases e1 : d.b = e.b
      · have := f.2.2.2 e1
        rw [e1]
        exact hc _ (by omega)
      · exact World.cell?_of_block (a := ⟨d.b, _, none⟩) (hb d.b l.2.2 e1)
    exact ⟨(cc 0 (by omega)).trans k.c0, (cc 1 (by omega)).trans k.c1, (cc 2 (by omega)).trans k.c2, fun j => by
      by_cases e1 : d.b = e.b
      · rw [e1]; exact hfz j
      · exact (World.frozen?_of_block (a := ⟨d.b, j, none⟩) (hb d.b l.2.2 e1)).trans (k.fr j), k.own.frame (fun x hx => hb x (l.1 x hx).2 (fun e1 => f.1 (e1 ▸ hx))) hz, k.le, k.wf, k.nb⟩
  · have notC : ∀ j, e.o ≤ j → j < e.o + 3 → ¬ HotC L e.b j := fun j h1 h2 ⟨d, hd, hx⟩ => by
      rcases hx with hx | ⟨e1, h3, h4⟩
      · exact (fe d hd).1 hx
      · have := (fe d hd).2.2.2 e1.symm
        omega
    have cellE : ∀ j, e.o ≤ j → j < e.o + 3 → w'.cell? ⟨e.b, j, none⟩ = w1.cell? ⟨e.b, j, none⟩ := fun j h1 h2 => hs.cel e.b j le.2.2 (notC j h1 h2)
    refine h.cl w' ⟨Nat.le_trans hz hs.size, fun b hbN hh => ?_, fun b j hbN hh => ?_⟩ (fun d hd => ?_)
    · have hne : b ≠ e.b := fun e1 => hh ⟨e, by simp, .inr e1⟩
      exact (hs.blk b hbN (fun ⟨d, hd, hx⟩ => hh ⟨d, by simp [hd], hx⟩)).trans (hb b hbN hne)
    · have h2 := hs.cel b j hbN (fun ⟨d, hd, hx⟩ => hh ⟨d, by simp [hd], hx⟩)
      rw [h2]
      by_cases e1 : b = e.b
      · subst e1
        refine hc j ?_
        by_cases q1 : j < e.o
        · exact .inl q1
        · refine .inr ?_
          have : ¬ (e.o ≤ j ∧ j < e.o + 3) := fun q2 => hh ⟨e, by simp, .inr ⟨rfl, q2.1, q2.2⟩⟩
          omega
      · exact World.cell?_of_block (a := ⟨b, j, none⟩) (hb b hbN e1)
    · rcases List.mem_append.1 hd with hd | hd
      · exact hr d hd
      · simp at hd
        subst hd
        rw [putV_var hf hk]
        have hcold : ∀ k, k < lo → ¬ Hot L k := fun k hk ⟨d, hd, hx⟩ => by
          have := h.low d (by simp [hd])
          rcases hx with hx | hx
          · have := (this.1 k hx).1; omega
          · omega
        refine ⟨q, cq, (cellE _ (Nat.le_refl _) (by omega)).trans x0, (cellE _ (by omega) (by omega)).trans x1, (cellE _ (by omega) (by omega)).trans x2, ?_, hle, hw⟩
        exact (hq.frameB (fun k hk => (hs.blk k (by omega) (hcold k hk)).trans (hb k (by omega) (by omega)))).mono (by have := h.Nw; have := hs.size; omega)

/-- The Kids of a place, each a place. -/
def kidsPL (b off : Nat) (A : Nat → Option Addr) (C : Nat → Nat) (K : Nat → Nat → Prop) (ts : List TermD) : List PL := List.ofFn (fun i : Fin ts.length => PL.mk b (off + i * 3) ts[i] (A i) (C i) (K i))
theorem kidsPL_len (b off : Nat) (A : Nat → Option Addr) (C : Nat → Nat) (K : Nat → Nat → Prop) (ts : List TermD) : (kidsPL b off A C K ts).length = ts.length := by simp [kidsPL]
theorem kidsPL_get {b off : Nat} {A : Nat → Option Addr} {C : Nat → Nat} {K : Nat → Nat → Prop} {ts : List TermD} {i : Nat} (h : i < (kidsPL b off A C K ts).length) (h' : i < ts.length) : (kidsPL b off A C K ts)[i] = PL.mk b (off + i * 3) ts[i] (A i) (C i) (K i) := by simp [kidsPL]
theorem kidsPL_mem {b off : Nat} {A : Nat → Option Addr} {C : Nat → Nat} {K : Nat → Nat → Prop} {ts : List TermD} {e : PL} (h : e ∈ kidsPL b off A C K ts) : ∃ i, ∃ h' : i < ts.length, e = PL.mk b (off + i * 3) ts[i] (A i) (C i) (K i) := by
  obtain ⟨i, hi, rfl⟩ := List.getElem_of_mem h
  have h' : i < ts.length := by rwa [kidsPL_len] at hi
  exact ⟨i, h', kidsPL_get hi h'⟩

/-- A place that is no variable: its Kids are left instead. -/
theorem AP.kids {us : List BindD} {Z : Nat → Prop} {lo N r : Nat} {T : TermD} {L : List PL} {e : PL} {w : World} (h : AP us Z lo N r T (L ++ [e]) w) (hv : ¬ (e.t.f = -1 ∧ e.t.kids = [])) :
    ∃ M : List PL, M.length = e.t.kids.length ∧ (e.t.kids = [] ∨ ∃ b off, e.a = some ⟨b, off, none⟩ ∧ ∀ i, (h : i < M.length) → M[i].b = b ∧ M[i].o = off + i * 3) ∧ (∀ i, (h : i < M.length) → (h' : i < e.t.kids.length) → M[i].t = e.t.kids[i]) ∧ AP us Z lo N r T (L ++ M) w := by
  have hfar := List.pairwise_append.1 h.far
  have fe : ∀ d ∈ L, PL.Far d e := fun d hd => hfar.2.2 d hd e (by simp)
  have le := h.low e (by simp)
  have ke := h.ok e (by simp)
  have pv := putV_kids us e.t hv
  rcases ke.own.open with h0 | ⟨b, off, A, C, K, ha, hSb, hlt, hl, hz, hc, hf, hsub, hdis, hk⟩
  · refine ⟨[], by simp [h0], .inl h0, fun i hi => by simp at hi, ?_⟩
    rw [List.append_nil]
    refine ⟨fun d hd => h.ok d (by simp [hd]), hfar.1, fun d hd => h.inz d (by simp [hd]), h.zlo, h.Nw, fun w' hs hr => h.cl w' ⟨hs.size, fun b hbN hh => hs.blk b hbN (fun ⟨d, hd, hx⟩ => hh ⟨d, by simp [hd], hx⟩), fun b j hbN hh => hs.cel b j hbN (fun ⟨d, hd, hx⟩ => hh ⟨d, by simp [hd], hx⟩)⟩ (fun d hd => ?_)⟩
    rcases List.mem_append.1 hd with hd | hd
    · exact hr d hd
    · simp at hd
      subst hd
      have cellE : ∀ j, d.o ≤ j → j < d.o + 3 → w'.cell? ⟨d.b, j, none⟩ = w.cell? ⟨d.b, j, none⟩ := fun j h1 h2 => hs.cel d.b j le.2.2 (fun ⟨g, hg, hx⟩ => by
        rcases hx with hx | ⟨e1, h3, h4⟩
        · exact (fe g hg).1 hx
        · have := (fe g hg).2.2.2 e1.symm
          omega)
      obtain ⟨p1, p2, p3⟩ := pv
      rw [h0, List.map_nil] at p3
      have k2 := ke.c2
      rw [h0] at k2
      refine ⟨d.a, d.c, ?_, ?_, ?_, ?_, ?_, ?_, ?_⟩
      · rw [p1]; exact (cellE _ (Nat.le_refl _) (by omega)).trans ke.c0
      · rw [p2]; exact (cellE _ (by omega) (by omega)).trans ke.c1
      · rw [p3]; exact (cellE _ (by omega) (by omega)).trans k2
      · rw [p3]; exact .nil _
      · rw [p3]; simp
      · rw [p1]; exact ke.wf.1
      · rw [p2]; exact ke.wf.2
  · have hbr := le.1 b hSb
    have hbe : b ≠ e.b := fun q => ke.nb (q ▸ hSb)
    refine ⟨kidsPL b off A C K e.t.kids, kidsPL_len .., .inr ⟨b, off, ha, fun i hi => ?_⟩, fun i hi hi' => by rw [kidsPL_get hi hi'], ?_⟩
    · rw [kidsPL_get hi (by rwa [kidsPL_len] at hi)]; exact ⟨rfl, rfl⟩
    · refine ⟨fun d hd => ?_, ?_, fun d hd => ?_, h.zlo, h.Nw, fun w' hs hr => ?_⟩
      · rcases List.mem_append.1 hd with hd | hd
        · exact h.ok d (by simp [hd])
        · obtain ⟨i, hi, rfl⟩ := kidsPL_mem hd
          obtain ⟨h0, h1, h2⟩ := hc i hi
          exact ⟨h0, h1, h2, hf, hk i hi, hl.2 i hi, hz i hi, fun q => (hsub i b hi q).2 rfl⟩
      · refine List.pairwise_append.2 ⟨hfar.1, ?_, fun d hd g hg => ?_⟩
        · rw [List.pairwise_iff_getElem]
          intro i j hi hj hij
          have hi' : i < e.t.kids.length := by rwa [kidsPL_len] at hi
          have hj' : j < e.t.kids.length := by rwa [kidsPL_len] at hj
          rw [kidsPL_get hi hi', kidsPL_get hj hj']
          exact ⟨fun q => (hsub i b hi' q).2 rfl, fun q => (hsub j b hj' q).2 rfl, fun x hx => hdis i j x hi' hj' (by omega) hx, fun _ => .inl (by show off + i * 3 + 3 ≤ off + j * 3; omega)⟩
        · obtain ⟨i, hi, rfl⟩ := kidsPL_mem hg
          have f := fe d hd
          exact ⟨fun q => f.2.2.1 b q hSb, fun q => f.2.1 (hsub i d.b hi q).1, fun x hx q => f.2.2.1 x hx (hsub i x hi q).1, fun q => absurd hSb (fun q2 => f.2.1 (by rw [show d.b = b from q]; exact q2))⟩
      · rcases List.mem_append.1 hd with hd | hd
        · exact h.inz d (by simp [hd])
        · obtain ⟨i, hi, rfl⟩ := kidsPL_mem hd
          exact ⟨fun x hx => (h.inz e (by simp)).1 x (hsub i x hi hx).1, (h.inz e (by simp)).1 b hSb⟩
      · have hot : ∀ k, Hot (L ++ kidsPL b off A C K e.t.kids) k → Hot (L ++ [e]) k := fun k ⟨d, hd, hx⟩ => by
          rcases List.mem_append.1 hd with hd | hd
          · exact ⟨d, by simp [hd], hx⟩
          · obtain ⟨i, hi, rfl⟩ := kidsPL_mem hd
            rcases hx with hx | hx
            · exact ⟨e, by simp, .inl (hsub i k hi hx).1⟩
            · exact ⟨e, by simp, .inl (by rw [show k = b from hx]; exact hSb)⟩
        have hotc : ∀ k j, HotC (L ++ kidsPL b off A C K e.t.kids) k j → HotC (L ++ [e]) k j := fun k j ⟨d, hd, hx⟩ => by
          rcases List.mem_append.1 hd with hd | hd
          · exact ⟨d, by simp [hd], hx⟩
          · obtain ⟨i, hi, rfl⟩ := kidsPL_mem hd
            rcases hx with hx | hx
            · exact ⟨e, by simp, .inl (hsub i k hi hx).1⟩
            · exact ⟨e, by simp, .inl (by rw [show k = b from hx.1]; exact hSb)⟩
        refine h.cl w' ⟨hs.size, fun k hkN hh => hs.blk k hkN (fun q => hh (hot k q)), fun k j hkN hh => hs.cel k j hkN (fun q => hh (hotc k j q))⟩ (fun d hd => ?_)
        rcases List.mem_append.1 hd with hd | hd
        · exact hr d (by simp [hd])
        · simp at hd
          subst hd
          have cellE : ∀ j, d.o ≤ j → j < d.o + 3 → w'.cell? ⟨d.b, j, none⟩ = w.cell? ⟨d.b, j, none⟩ := fun j h1 h2 => hs.cel d.b j le.2.2 (fun ⟨g, hg, hx⟩ => by
            rcases List.mem_append.1 hg with hg | hg
            · rcases hx with hx | ⟨e1, h3, h4⟩
              · exact (fe g hg).1 hx
              · have := (fe g hg).2.2.2 e1.symm
                omega
            · obtain ⟨i, hi, rfl⟩ := kidsPL_mem hg
              rcases hx with hx | hx
              · exact ke.nb (hsub i d.b hi hx).1
              · exact hbe hx.1.symm)
          obtain ⟨p1, p2, p3⟩ := pv
          have hkid : ∀ i, i < d.t.kids.length → ∃ y : Option Addr × Nat, ∀ (hi : i < d.t.kids.length), w'.cell? ⟨b, off + i * 3, none⟩ = some (.int .i64 (putV us d.t.kids[i]).f) ∧ w'.cell? ⟨b, off + i * 3 + 1, none⟩ = some (.int .i64 (putV us d.t.kids[i]).v) ∧ w'.cell? ⟨b, off + i * 3 + 2, none⟩ = some (.slice y.1 (putV us d.t.kids[i]).kids.length y.2) ∧ RdK w' w'.heap.size y.1 (putV us d.t.kids[i]).kids ∧ (putV us d.t.kids[i]).kids.length ≤ y.2 ∧ isW (putV us d.t.kids[i]).f ∧ isW (putV us d.t.kids[i]).v := fun i hi => by
            have hm : PL.mk b (off + i * 3) d.t.kids[i] (A i) (C i) (K i) ∈ kidsPL b off A C K d.t.kids := by
              rw [← kidsPL_get (by rw [kidsPL_len]; exact hi) hi]; exact List.getElem_mem _
            obtain ⟨a', c', q0, q1, q2, q3, q4, q5, q6⟩ := hr _ (List.mem_append_right L hm)
            exact ⟨(a', c'), fun _ => ⟨q0, q1, q2, q3, q4, q5, q6⟩⟩
          obtain ⟨F, hF⟩ := Deep.choose_lt hkid
          have hbw : b < w'.heap.size := Nat.lt_of_lt_of_le hbr.2 (Nat.le_trans h.Nw hs.size)
          refine ⟨d.a, d.c, ?_, ?_, ?_, ?_, ?_, ?_, ?_⟩
          · rw [p1]; exact (cellE _ (Nat.le_refl _) (by omega)).trans ke.c0
          · rw [p2]; exact (cellE _ (by omega) (by omega)).trans ke.c1
          · rw [p3, List.length_map]; exact (cellE _ (by omega) (by omega)).trans ke.c2
          · rw [p3, ha]
            refine .row b off _ (fun i => (F i).1) (fun i => (F i).2) hbw ⟨by simpa using hl.1, fun i hi => ?_⟩ (fun i hi => ?_) (fun i hi => ?_) (fun i hi => ?_)
            · simp only [List.length_map] at hi; simp only [List.getElem_map]; exact (hF i hi hi).2.2.2.2.1
            · simp only [List.length_map] at hi; simp only [List.getElem_map]; exact (hF i hi hi).2.2.2.2.2
            · simp only [List.length_map] at hi; simp only [List.getElem_map]; exact ⟨(hF i hi hi).1, (hF i hi hi).2.1, (hF i hi hi).2.2.1⟩
            · simp only [List.length_map] at hi; simp only [List.getElem_map]; exact (hF i hi hi).2.2.2.1
          · rw [p3, List.length_map]; exact ke.le
          · rw [p1]; exact ke.wf.1
          · rw [p2]; exact ke.wf.2
end Go.Proofs.Ytcbafmohmoicnab

/- Whether a term is a variable, and which, as the program tells it by a type switch. Conditions: none. -/
namespace Go.Proofs.Ytcbafmohmoicnab
set_option maxRecDepth 100000
open Go.RowKit

theorem pieceOf_var (t : TermD) (a : Option Addr) (n c : Nat) (w : World) (h : t.f = -1) :
    Calls Try.prog 95 #[.agg #[.int .i64 t.f, .int .i64 t.v, .slice a n c]] w fun e w' => e = .returned (.iface 139 (.agg #[.int .i64 t.v])) ∧ Below w.heap.size w w' := by
  go_enter Try.func95, Try.ntmps95
  go_wp2
  go_ret
  exact ⟨rfl, (Below.refl _ _).alloc (Nat.le_refl _) _⟩

theorem pieceOf_fun (t : TermD) (a : Option Addr) (n c : Nat) (w : World) (h : (t.f == -1) = false) :
    Calls Try.prog 95 #[.agg #[.int .i64 t.f, .int .i64 t.v, .slice a n c]] w fun e w' => e = .returned (.iface 145 (.agg #[.int .i64 t.f, .slice a n c])) ∧ Below w.heap.size w w' := by
  go_enter Try.func95, Try.ntmps95
  go_wp2
  go_ret
  exact ⟨rfl, (Below.refl _ _).alloc (Nat.le_refl _) _⟩

theorem ta_hit (v : Value) (w : World) : (Instr.typeAssert (.iface 139 v) 136 139 true).run Try.prog w = .ok (.tuple #[v, .bool true]) w := by
  simp [Instr.typeAssert, run_underlying Try.underlying139, go_sem]
theorem ta_miss (v : Value) (w : World) : (Instr.typeAssert (.iface 145 v) 136 139 true).run Try.prog w = .ok (.tuple #[.agg #[.int .i64 0], .bool false]) w := by
  have hz : (zeroValue 139).run Try.prog w = .ok (.agg #[.int .i64 0]) w := by simp [go_sem]
  simp [Instr.typeAssert, run_underlying Try.underlying139, go_sem, hz]

/-- What is told of a term: its number where it is a variable. -/
def vofI (t : TermD) : Int := if t.f = -1 then t.v else 0
def vofB (t : TermD) : Bool := t.f == -1
theorem rtT {a b : Int} {p q : Bool} (h : a = b) (h' : p = q) : Ending.returned (.tuple #[.int .i64 a, .bool p]) = .returned (.tuple #[.int .i64 b, .bool q]) := by rw [h, h']

set_option maxHeartbeats 1600000 in
set_option maxRecDepth 100000 in
theorem variableOf_any (t : TermD) (a : Option Addr) (n c : Nat) (w : World) :
    Calls Try.prog 82 #[.agg #[.int .i64 t.f, .int .i64 t.v, .slice a n c]] w fun e w' => e = .returned (.tuple #[.int .i64 (vofI t), .bool (vofB t)]) ∧ Below w.heap.size w w' := by
  by_cases h : t.f = -1
  · have HI : Hid (vofI t = t.v) := by show _ = _; simp [vofI, h]
    have HB : Hid (vofB t = true) := by show _ = _; simp [vofB, h]
    have C := fun w => pieceOf_var t a n c w h
    clear h
    have hA := ta_hit
    go_enter Try.func82, Try.ntmps82
    go_wp2_with (go_at_call 95; refine (C _).mono ?_; rintro e w1 ⟨rfl, hb1⟩; clear C)
    go_ret2
    have h0 : Below w.heap.size w w1 := ((Below.refl _ _).alloc (Nat.le_refl _) _).trans (hb1.mono (by simp))
    exact ⟨rtT HI.out.symm HB.out.symm, h0.alloc h0.size _⟩
  · have h' : (t.f == -1) = false := by simp [h]
    have HI : Hid (vofI t = 0) := by show _ = _; simp [vofI, h]
    have HB : Hid (vofB t = false) := by show _ = _; simp [vofB, h]
    have C := fun w => pieceOf_fun t a n c w h'
    clear h h'
    have hA := ta_miss
    go_enter Try.func82, Try.ntmps82
    go_wp2_with (go_at_call 95; refine (C _).mono ?_; rintro e w1 ⟨rfl, hb1⟩; clear C)
    go_ret2
    exact ⟨rtT HI.out.symm HB.out.symm, ((Below.refl _ _).alloc (Nat.le_refl _) _).trans (hb1.mono (by simp))⟩
end Go.Proofs.Ytcbafmohmoicnab

/- Plain facts on lists of whole numbers: what a loop over a list has seen so far. Conditions: none. -/
namespace Go.Proofs.Ytcbafmohmoicnab
set_option maxRecDepth 100000
open Go.RowKit

/-- Whether x is in the list. -/
def hasB (zs : List Int) (x : Int) : Bool := zs.any (fun y => y == x)

theorem take_snoc {zs : List Int} {k : Nat} (h : k < zs.length) : zs.take (k + 1) = zs.take k ++ [zs[k]] :=
  List.take_succ_eq_append_getElem h

theorem hasB_hit {zs : List Int} {k : Nat} {x : Int} (h : k < zs.length) (e : (zs[k] == x) = true) : hasB zs x = true := by
  unfold hasB
  rw [List.any_eq_true]
  exact ⟨zs[k], List.getElem_mem h, e⟩

theorem hasB_step {zs : List Int} {k : Nat} {x : Int} (h : k < zs.length) (e0 : hasB (zs.take k) x = false) (e : (zs[k] == x) = false) : hasB (zs.take (k + 1)) x = false := by
  unfold hasB at *
  rw [take_snoc h, List.any_append, e0]
  simpa using e

theorem hasB_all {zs : List Int} {k : Nat} {x : Int} (h : ¬ k < zs.length) (e0 : hasB (zs.take k) x = false) : hasB zs x = false := by
  rwa [List.take_of_length_le (by omega)] at e0

/-- Whether two lists are the same. -/
def eqB (zs ys : List Int) : Bool := zs == ys

theorem eqB_self (zs : List Int) : eqB zs zs = true := by simp [eqB]
theorem eqB_len {zs ys : List Int} (h : ¬ zs.length = ys.length) : eqB zs ys = false := by
  simp only [eqB, beq_eq_false_iff_ne]; intro e; exact h (by rw [e])
theorem eqB_hit {zs ys : List Int} {k : Nat} (h : k < zs.length) (h' : k < ys.length) (e : (zs[k] != ys[k]) = true) : eqB zs ys = false := by
  simp only [eqB, beq_eq_false_iff_ne]; intro e'; subst e'; simp at e
theorem eqB_step {zs ys : List Int} {k : Nat} (h : k < zs.length) (h' : k < ys.length) (e0 : zs.take k = ys.take k) (e : (zs[k] != ys[k]) = false) : zs.take (k + 1) = ys.take (k + 1) := by
  have e' : zs[k] = ys[k] := by simpa using e
  rw [take_snoc h, take_snoc h', e0, e']
theorem eqB_all {zs ys : List Int} {k : Nat} (h : ¬ k < zs.length) (hl : zs.length = ys.length) (e0 : zs.take k = ys.take k) : eqB zs ys = true := by
  rw [List.take_of_length_le (by omega), List.take_of_length_le (by omega)] at e0
  rw [e0]; exact eqB_self _

/-- The slice value that begins at 'a' reads in w as the numbers zs: it is empty, or it leads to their cells. -/
def Rd (w : World) (a : Option Addr) (zs : List Int) : Prop :=
  zs = [] ∨ ∃ b off, a = some ⟨b, off, none⟩ ∧ b < w.heap.size ∧ ∀ i, i < zs.length → w.cell? ⟨b, off + i, none⟩ = some (.int .i64 (zs[i]?.getD 0))

theorem Rd.below {w w' : World} {a : Option Addr} {zs : List Int} (h : Rd w a zs) (hb : Below w.heap.size w w') : Rd w' a zs := by
  rcases h with h | ⟨b, off, rfl, hlt, hc⟩
  · exact .inl h
  · exact .inr ⟨b, off, rfl, Nat.lt_of_lt_of_le hlt hb.size, fun i hi => (hb.cell (p := ⟨b, off + i, none⟩) hlt).trans (hc i hi)⟩

theorem Rd.drewN {w : World} {a : Option Addr} {zs : List Int} (h : Rd w a zs) (n : Nat) : Rd (w.drewN n) a zs := by
  rcases h with h | ⟨b, off, rfl, hlt, hc⟩
  · exact .inl h
  · exact .inr ⟨b, off, rfl, hlt, fun i hi => hc i hi⟩

/-- The cells of a list of numbers. -/
def ints (zs : List Int) : List Value := zs.map (Value.int .i64)

theorem copy_step {zs : List Int} {k : Nat} (h : k < zs.length) :
    (ints (zs.take k) ++ List.replicate (zs.length - k) (Value.int .i64 0)).set k (.int .i64 zs[k]) = ints (zs.take (k + 1)) ++ List.replicate (zs.length - (k + 1)) (Value.int .i64 0) := by
  have e : zs.length - k = (zs.length - (k + 1)) + 1 := by omega
  have l : (ints (zs.take k)).length = k := by simp [ints]; omega
  rw [List.set_append, if_neg (by omega), l, Nat.sub_self, e, List.replicate_succ, List.set_cons_zero, take_snoc h]
  simp only [ints, List.map_append, List.map_cons, List.map_nil, List.append_assoc, List.cons_append, List.nil_append]

theorem copy_at {zs : List Int} {k : Nat} (h : k < zs.length) : (ints (zs.take k) ++ List.replicate (zs.length - k) (Value.int .i64 0))[k]? = some (.int .i64 0) := by
  have l : (ints (zs.take k)).length = k := by simp [ints]; omega
  rw [List.getElem?_append_right (by omega), l, Nat.sub_self, List.getElem?_replicate, if_pos (by omega)]

theorem made_zero (n : Nat) : (madeCells #[Value.int .i64 0] n).toList = List.replicate n (Value.int .i64 0) := by
  apply List.ext_getElem
  · simp [madeCells]
  · intro i h1 h2
    simp [madeCells, Nat.mod_one]

theorem Rd.own {w : World} {base g cap : Nat} {zs : List Int} {n : Nat} (hn : n = zs.length) (h : w.ownsRow base 3 1 (.slice (some ⟨g, 0, none⟩) n cap) n (ints zs)) : Rd w (some ⟨g, 0, none⟩) zs := by
  subst hn
  refine .inr ⟨g, 0, rfl, (h.lt g rfl).2, fun i hi => ?_⟩
  rw [show (0 + i) = i by omega, h.cellAt i (by omega)]
  simp [ints, hi]
end Go.Proofs.Ytcbafmohmoicnab

/- Plain facts on a number put into a list where it comes by its size, and on lists that count up. Conditions: none. -/
namespace Go.Proofs.Ytcbafmohmoicnab
set_option maxRecDepth 100000
open Go.RowKit

/-- x put into zs where it comes by its size, once. -/
def ins (zs : List Int) (x : Int) : List Int :=
  if hasB zs x = true then zs else zs.takeWhile (fun y => decide (y < x)) ++ x :: zs.dropWhile (fun y => decide (y < x))

/-- One round of the program's own loop: what it has laid out, and whether x is placed. -/
def stepI (x : Int) (s : List Int × Bool) (y : Int) : List Int × Bool :=
  if (!s.2 && decide (x < y)) = true then (s.1 ++ [x] ++ [y], true) else (s.1 ++ [y], s.2)

theorem fold_placed (x : Int) : ∀ (l o : List Int), l.foldl (stepI x) (o, true) = (o ++ l, true)
  | [], o => by simp
  | y :: l, o => by rw [List.foldl_cons, show stepI x (o, true) y = (o ++ [y], true) from by simp [stepI], fold_placed x l]; simp

theorem fold_new (x : Int) : ∀ (l o : List Int), hasB l x = false →
    (let r := l.foldl (stepI x) (o, false); if r.2 = true then r.1 else r.1 ++ [x]) = o ++ (l.takeWhile (fun y => decide (y < x)) ++ x :: l.dropWhile (fun y => decide (y < x)))
  | [], o, _ => by simp
  | y :: l, o, h => by
    have hy : ¬ y = x := by intro e; simp [hasB, e] at h
    have hl : hasB l x = false := by simp [hasB] at h ⊢; exact h.2
    rw [List.foldl_cons]
    by_cases hxy : x < y
    · rw [show stepI x (o, false) y = (o ++ [x] ++ [y], true) from by simp [stepI, hxy], fold_placed]
      have : ¬ y < x := by omega
      simp [this]
    · rw [show stepI x (o, false) y = (o ++ [y], false) from by simp [stepI, hxy], fold_new x l (o ++ [y]) hl]
      have : y < x := by omega
      simp [this]

/-- What the program's loop has made of the first k numbers. -/
def made (zs : List Int) (x : Int) (k : Nat) : List Int × Bool := (zs.take k).foldl (stepI x) ([], hasB zs x)

theorem made_zero_ (zs : List Int) (x : Int) : made zs x 0 = ([], hasB zs x) := rfl
theorem made_succ {zs : List Int} {x : Int} {k : Nat} (h : k < zs.length) : made zs x (k + 1) = stepI x (made zs x k) zs[k] := by
  unfold made; rw [take_snoc h, List.foldl_append]; rfl
theorem made_put {zs : List Int} {x : Int} {k : Nat} (h : k < zs.length) (hp : (made zs x k).2 = false) (hx : x < zs[k]) :
    (made zs x (k + 1)).1 = (made zs x k).1 ++ [x] ++ [zs[k]] ∧ (made zs x (k + 1)).2 = true := by
  rw [made_succ h]; simp [stepI, hp, hx]
theorem made_not {zs : List Int} {x : Int} {k : Nat} (h : k < zs.length) (hp : (made zs x k).2 = true ∨ ¬ x < zs[k]) :
    (made zs x (k + 1)).1 = (made zs x k).1 ++ [zs[k]] ∧ (made zs x (k + 1)).2 = (made zs x k).2 := by
  rw [made_succ h]
  rcases hp with hp | hp <;> simp [stepI, hp]
theorem made_len (zs : List Int) (x : Int) : ∀ k, k ≤ zs.length → ((made zs x k).1.length = k ∨ ((made zs x k).1.length = k + 1 ∧ (made zs x k).2 = true))
  | 0, _ => .inl rfl
  | k + 1, h => by
    have ih := made_len zs x k (by omega)
    rw [made_succ (by omega)]
    by_cases c : (!(made zs x k).2 && decide (x < zs[k])) = true
    · simp only [stepI, c, if_true]
      simp at c
      rcases ih with ih | ⟨_, ih⟩
      · right; simp [ih]
      · simp [ih] at c
    · have e : stepI x (made zs x k) zs[k] = ((made zs x k).1 ++ [zs[k]], (made zs x k).2) := by
        rw [stepI, if_neg c]
      rw [e]
      rcases ih with ih | ⟨ih, ih'⟩
      · left; simp [ih]
      · right; simp [ih, ih']
theorem made_end (zs : List Int) (x : Int) : (if (made zs x zs.length).2 = true then (made zs x zs.length).1 else (made zs x zs.length).1 ++ [x]) = ins zs x := by
  unfold made ins
  rw [List.take_length]
  by_cases h : hasB zs x = true
  · rw [if_pos h, h, fold_placed]; simp
  · have h' : hasB zs x = false := by simpa using h
    rw [if_neg h, h']
    exact fold_new x zs [] h'

theorem ins_len (zs : List Int) (x : Int) : (ins zs x).length ≤ zs.length + 1 := by
  unfold ins
  split
  · omega
  · rw [List.length_append, List.length_cons]
    have h : (zs.takeWhile (fun y => decide (y < x)) ++ zs.dropWhile (fun y => decide (y < x))).length = zs.length := by rw [List.takeWhile_append_dropWhile]
    rw [List.length_append] at h
    omega

/-- Where the first number that is not less than x stands, once all ahead of k are less and that at k is not. -/
theorem ins_at {zs : List Int} {x : Int} {k : Nat} (hk : k ≤ zs.length) (h0 : hasB zs x = false) (hlt : ∀ j, (h : j < zs.length) → j < k → zs[j] < x) (hge : ∀ h : k < zs.length, ¬ zs[k] < x) :
    ins zs x = zs.take k ++ [x] ++ zs.drop k := by
  have e : zs = zs.take k ++ zs.drop k := (List.take_append_drop k zs).symm
  have a1 : (zs.take k).all (fun y => decide (y < x)) = true := by
    rw [List.all_eq_true]
    intro y hy
    obtain ⟨j, hj, rfl⟩ := List.getElem_of_mem hy
    rw [List.length_take] at hj
    rw [List.getElem_take]
    simpa using hlt j (by omega) (by omega)
  have t1 : zs.takeWhile (fun y => decide (y < x)) = zs.take k ∧ zs.dropWhile (fun y => decide (y < x)) = zs.drop k := by
    have g : ∀ (l r : List Int), l.all (fun y => decide (y < x)) = true → (∀ h : 0 < r.length, ¬ r[0] < x) → (l ++ r).takeWhile (fun y => decide (y < x)) = l ∧ (l ++ r).dropWhile (fun y => decide (y < x)) = r := by
      intro l r hl hr
      induction l with
      | nil =>
        cases r with
        | nil => exact ⟨rfl, rfl⟩
        | cons y r => have := hr (by simp); simp at this; have h' : ¬ y < x := by omega
                      simp [h']
      | cons y l ih =>
        simp at hl
        have := ih (by simpa using hl.2)
        simp [hl.1, this]
    have := g (zs.take k) (zs.drop k) a1 (by
      intro h
      rw [List.getElem_drop]
      simp at h
      exact hge (by omega))
    rwa [← e] at this
  unfold ins
  rw [if_neg (by simp [h0]), t1.1, t1.2]
  simp

/-- n numbers from k on, each one more. -/
def upFrom (k : Int) (n : Nat) : List Int := (List.range n).map (fun j : Nat => k + (j : Int))
theorem upFrom_len (k : Int) (n : Nat) : (upFrom k n).length = n := by simp [upFrom]
theorem upFrom_at (k : Int) (n j : Nat) (h : j < n) : (upFrom k n)[j]? = some (k + (j : Int)) := by simp [upFrom, h]
theorem upFrom_get (k : Int) (n j : Nat) (h : j < (upFrom k n).length) : (upFrom k n)[j] = k + (j : Int) := by simp [upFrom]
theorem upFrom_succ (k : Int) (n : Nat) : upFrom k (n + 1) = upFrom k n ++ [k + (n : Int)] := by simp [upFrom, List.range_succ]
theorem mark_step {zs : List Int} {k : Int} {j : Nat} (h : j < zs.length) : (ints (upFrom k j) ++ (ints zs).drop j).set j (.int .i64 (k + (j : Int))) = ints (upFrom k (j + 1)) ++ (ints zs).drop (j + 1) := by
  have l : (ints (upFrom k j)).length = j := by simp [ints, upFrom]
  have d : (ints zs).drop j = (ints zs)[j]'(by simpa [ints] using h) :: (ints zs).drop (j + 1) := List.drop_eq_getElem_cons _
  rw [List.set_append, if_neg (by omega), l, Nat.sub_self, d, List.set_cons_zero, upFrom_succ]
  simp only [ints, List.map_append, List.map_cons, List.map_nil, List.append_assoc, List.cons_append, List.nil_append]
theorem mark_at {zs : List Int} {k : Int} {j : Nat} (h : j < zs.length) : ∃ u, (ints (upFrom k j) ++ (ints zs).drop j)[j]? = some (.int .i64 u) := by
  have l : (ints (upFrom k j)).length = j := by simp [ints, upFrom]
  refine ⟨zs[j], ?_⟩
  rw [List.getElem?_append_right (by omega), l, Nat.sub_self, List.getElem?_drop]
  simp [ints, h]

/-- What is owned stays owned where no old block turns. -/
theorem own_below {w w' : World} {base : Nat} {e : TypeId} {size : Nat} {v : Value} {n : Nat} {xs : List Value} (h : w.ownsRow base e size v n xs) (hb : Below w.heap.size w w') : w'.ownsRow base e size v n xs := by
  have hl := h.lt
  obtain ⟨h1, h2⟩ := h
  refine ⟨h1, ?_⟩
  rcases h2 with h2 | ⟨g, cap, cur, rfl, hg, hh, r⟩
  · exact .inl h2
  · exact .inr ⟨g, cap, cur, rfl, hg, by rw [hb.block g (hl g rfl).2]; exact hh, r⟩
end Go.Proofs.Ytcbafmohmoicnab

/- Contracts of the specification's NumIn and NumAdd, and of the program's NumAdd: a number in a list, and put into it. Conditions: at most 1048577 numbers. -/
namespace Go.Proofs.Ytcbafmohmoicnab
set_option maxRecDepth 100000
open Go.RowKit

theorem one_new (w : World) (u : Value) (t : TypeId) : ∀ j v, [u][j]? = some v → (w.alloc (.cells #[u] t)).cell? ((⟨w.heap.size, 0, none⟩ : Addr).add j) = some v := by
  intro j v hj
  match j, hj with
  | 0, hj => simp at hj; subst hj; simp [Addr.add]
  | j + 1, hj => simp at hj
theorem one_cell (n : Int) : ∀ u ∈ [Value.int .i64 n], u.oneCell' = true := by
  intro u hu; simp at hu; subst hu; rfl
theorem own_some {w : World} {base : Nat} {e : TypeId} {size : Nat} {v : Value} {n : Nat} {xs : List Value} {a : Addr} {m c : Nat} {q : Prop} (h : w.ownsRow base e size v n xs) (hv : v = .slice none 0 0 ↔ .slice (some a) m c = Value.slice none 0 0 ∧ q) : ∃ g c, v = .slice (some ⟨g, 0, none⟩) n c := by
  rcases h.2 with ⟨h, _⟩ | ⟨g, cap, _, rfl, _⟩
  · have := (hv.1 h).1; simp at this
  · exact ⟨g, cap, rfl⟩
theorem Try.info3 : (Try.prog.info? 3).map (fun i => (i.zero, i.size, i.bytes)) = some (some (.int .i64 0), 1, 8) := by kernel_rfl

theorem own_one {w : World} {B g c : Nat} {o : List Int} {x : Int} (h : w.ownsRow B 3 1 (.slice (some ⟨g, 0, none⟩) (o.length + 1) c) (o.length + 1) (ints o ++ [.int .i64 x])) :
    w.ownsRow B 3 1 (.slice (some ⟨g, 0, none⟩) (o ++ [x]).length c) (o ++ [x]).length (ints (o ++ [x])) := by
  simpa [ints] using h
theorem own_two {w : World} {B g c : Nat} {o : List Int} {x y : Int} (h : w.ownsRow B 3 1 (.slice (some ⟨g, 0, none⟩) (o.length + 1 + 1) c) (o.length + 1 + 1) (ints o ++ [.int .i64 x] ++ [.int .i64 y])) :
    w.ownsRow B 3 1 (.slice (some ⟨g, 0, none⟩) (o ++ [x] ++ [y]).length c) (o ++ [x] ++ [y]).length (ints (o ++ [x] ++ [y])) := by
  simpa [ints] using h

theorem add_at (b off j : Nat) : (⟨b, off, none⟩ : Addr).add j = ⟨b, off + j, none⟩ := by
  by_cases h : j = 0 <;> simp [Addr.add, h]
theorem news_of {w : World} {b off : Nat} {l : List Int} (hc : ∀ i, i < l.length → w.cell? ⟨b, off + i, none⟩ = some (.int .i64 (l[i]?.getD 0))) : ∀ j u, (ints l)[j]? = some u → w.cell? ((⟨b, off, none⟩ : Addr).add j) = some u := by
  intro j u h
  have hj : j < l.length := by
    have := (List.getElem?_eq_some_iff.1 h).1
    simpa [ints] using this
  rw [add_at, hc j hj, ← h]
  simp [ints, hj]
theorem news_take {w W : World} {b : Nat} {zs : List Int} {k : Nat} (hlt : b < w.heap.size) (hc : ∀ i, i < zs.length → w.cell? ⟨b, 0 + i, none⟩ = some (.int .i64 (zs[i]?.getD 0))) (hb : Below w.heap.size w W) (o : Obj) :
    ∀ j u, (ints (zs.take k))[j]? = some u → (W.alloc o).cell? ((⟨b, 0, none⟩ : Addr).add j) = some u := by
  refine news_of (off := 0) fun i h => ?_
  rw [List.length_take] at h
  rw [(hb.alloc hb.size o).cell (p := ⟨b, 0 + i, none⟩) hlt, hc i (by omega), List.getElem?_take, if_pos (by omega)]
theorem news_drop {w W : World} {b : Nat} {zs : List Int} {k : Nat} (hlt : b < w.heap.size) (hc : ∀ i, i < zs.length → w.cell? ⟨b, 0 + i, none⟩ = some (.int .i64 (zs[i]?.getD 0))) (hb : Below w.heap.size w W) :
    ∀ j u, (ints (zs.drop k))[j]? = some u → W.cell? ((⟨b, k, none⟩ : Addr).add j) = some u := by
  refine news_of (off := k) fun i h => ?_
  rw [List.length_drop] at h
  have := hc (k + i) (by omega)
  rw [show 0 + (k + i) = k + i by omega] at this
  rw [hb.cell (p := ⟨b, k + i, none⟩) hlt, this, List.getElem?_drop]
theorem below_app {w w2 w3 : World} {g n c : Nat} {e : TypeId} {size : Nat} {xs : List Value} {o : Obj} (hb : Below w.heap.size w w2) (hown : w2.ownsRow w.heap.size e size (.slice (some ⟨g, 0, none⟩) n c) n xs) (hg : (w2.alloc o).grownBy w3 (some g)) : Below w.heap.size w w3 :=
  (hb.alloc hb.size o).grown hg (by have := hb.size; simp; omega) (fun k hk => by cases hk; exact (hown.lt g rfl).1)
theorem below_app' {w w2 w3 : World} {g n c : Nat} {e : TypeId} {size : Nat} {xs : List Value} (hb : Below w.heap.size w w2) (hown : w2.ownsRow w.heap.size e size (.slice (some ⟨g, 0, none⟩) n c) n xs) (hg : w2.grownBy w3 (some g)) : Below w.heap.size w w3 :=
  hb.grown hg hb.size (fun k hk => by cases hk; exact (hown.lt g rfl).1)
theorem own_cap {w : World} {base : Nat} {e : TypeId} {size g n c : Nat} {xs : List Value} (h : w.ownsRow base e size (.slice (some ⟨g, 0, none⟩) n c) n xs) : n ≤ c := by
  rcases h.2 with ⟨h, _⟩ | ⟨g', cap, _, h, _, _, hn, _⟩
  · simp at h
  · simp at h; omega
theorem ints_one (l : List Int) : ∀ u ∈ ints l, u.oneCell' = true := by
  intro u hu; simp [ints] at hu; obtain ⟨n, _, rfl⟩ := hu; rfl
end Go.Proofs.Ytcbafmohmoicnab

