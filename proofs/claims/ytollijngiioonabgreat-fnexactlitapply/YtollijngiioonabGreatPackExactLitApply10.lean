/- What the proof of FnExactLitApply stands on, part 10 of 13: each piece says what it proves and under which conditions. Conditions: as each piece says. -/
import Derived.Test.YtollijngiioonabGreatPackExactLitApply9
import Derived.Test.YtollijngiioonabGreatProg
import Derived.Deep.RegionHeld3
import GoSem.Claim
import Derived.Below
import Derived.Deep.Draws
import Derived.BigQuiet
import Derived.Deep.QuietTactic
import Derived.OpenShut
import Derived.ProofKit
import Derived.WalkKit
import Derived.WalkSmall
import Derived.Deep.LoopGhost
/- What is put for one variable: the program's way and the specification's. Conditions: at most 549755813887 parts. -/
namespace Go.Proofs.YtollijngiioonabGreat
set_option maxRecDepth 100000
open Go.RowKit

/-- What is put for v. -/
def lookT (us : List BindD) (v : Int) : TermD :=
  match us.find? (fun u => u.n == v) with
  | some u => u.t
  | none => .mk (-1) v []
theorem look_hit : ∀ {us : List BindD} {v : Int} {k : Nat} (hk : k < us.length), us[k].n = v → (∀ j, (hj : j < us.length) → j < k → us[j].n ≠ v) → lookT us v = us[k].t
  | [], _, k, hk, _, _ => by simp at hk
  | u :: us, v, 0, _, h, _ => by unfold lookT; rw [List.find?_cons_of_pos (by simpa using h)]; rfl
  | u :: us, v, k + 1, hk, h, hj => by
    have h0 : u.n ≠ v := hj 0 (by simp) (by omega)
    have ih := look_hit (us := us) (v := v) (k := k) (by simpa using hk) (by simpa using h) (fun j hj' hjk => by have := hj (j + 1) (by simpa using hj') (by omega); simpa using this)
    unfold lookT at ih ⊢
    rw [List.find?_cons_of_neg (by simpa using h0)]
    simpa using ih
theorem look_none {us : List BindD} {v : Int} (h : ∀ j, (hj : j < us.length) → us[j].n ≠ v) : lookT us v = .mk (-1) v [] := by
  unfold lookT
  rw [List.find?_eq_none.2 (fun u hu => by
    obtain ⟨j, hj, e⟩ := List.getElem_of_mem hu
    have := h j hj
    rw [e] at this
    simpa using this)]
theorem look_cases (us : List BindD) (v : Int) : (∃ k, ∃ hk : k < us.length, us[k].n = v ∧ (∀ j, (hj : j < us.length) → j < k → us[j].n ≠ v) ∧ lookT us v = us[k].t) ∨ ((∀ j, (hj : j < us.length) → us[j].n ≠ v) ∧ lookT us v = .mk (-1) v []) := by
  by_cases h : ∀ j, (hj : j < us.length) → us[j].n ≠ v
  · exact .inr ⟨h, look_none h⟩
  · simp only [Classical.not_forall, ne_eq, Classical.not_not] at h
    obtain ⟨j, hj, e⟩ := h
    have key : ∀ n j, j ≤ n → (hj : j < us.length) → us[j].n = v → ∃ k, ∃ hk : k < us.length, us[k].n = v ∧ ∀ i, (hi : i < us.length) → i < k → us[i].n ≠ v := by
      intro n
      induction n with
      | zero => intro j hn hj e; have : j = 0 := by omega
                subst this; exact ⟨0, hj, e, fun i _ hi => absurd hi (by omega)⟩
      | succ n ih =>
        intro j hn hj e
        by_cases hs : ∃ i, ∃ hi : i < us.length, i < j ∧ us[i].n = v
        · obtain ⟨i, hi, hij, ei⟩ := hs
          exact ih i (by omega) hi ei
        · exact ⟨j, hj, e, fun i hi hij ei => hs ⟨i, hi, hij, ei⟩⟩
    obtain ⟨k, hk, ek, hh⟩ := key j j (Nat.le_refl _) hj e
    exact .inl ⟨k, hk, ek, hh, look_hit hk ek hh⟩
theorem look_parts {us : List BindD} {v : Int} (hp : partsU us ≤ 549755813887) : partsT (lookT us v) ≤ 549755813888 := by
  rcases look_cases us v with ⟨k, hk, _, _, e⟩ | ⟨_, e⟩
  · rw [e, partsT_eq]
    have := partsU_get hk
    omega
  · rw [e, partsT_eq]
    show partsL [] + 1 ≤ _
    simp [partsL]

set_option maxHeartbeats 1600000 in
theorem find_any (p : Nat) (us : List BindD) (a : Option Addr) (c hi : Nat) (v : Int) (w : World) (hl : us.length ≤ 549755813888) (hp : w.cell? ⟨p, 0, none⟩ = some (.slice a us.length c)) (hr : RdU w hi a us) (hhi : hi ≤ w.heap.size) :
    Calls Tryz.prog 75 #[.pointer (some ⟨p, 0, none⟩), .int .i64 v] w fun e w' => Below w.heap.size w w' ∧ ((∃ k : Nat, ∃ hk : k < us.length, us[k].n = v ∧ (∀ j, (hj : j < us.length) → j < k → us[j].n ≠ v) ∧ e = .returned (.tuple #[.int .i64 k, .bool true])) ∨ ((∀ j, (hj : j < us.length) → us[j].n ≠ v) ∧ e = .returned (.tuple #[.int .i64 0, .bool false]))) := by
  have HR : Hid _ := hr
  clear hr
  go_enter Tryz.func75, Tryz.ntmps75
  go_wp2_with fail
  go_loopw [13] (fun i wr => ∃ k : Nat, i = .int .i64 k ∧ k ≤ us.length ∧ Below w.heap.size w wr ∧ Hid (∀ j, (hj : j < us.length) → j < k → us[j].n ≠ v)) (fun i _ => us.length - (intOf i).toNat)
  case atStart => exact ⟨0, rfl, Nat.zero_le _, Below.refl _ _, fun j _ h => absurd h (Nat.not_lt_zero _)⟩
  case round =>
    obtain ⟨k, rfl, hk, hb, HA⟩ := hrel
    by_cases hk' : k < us.length
    · obtain ⟨b, off, a', c', rfl, hlt, d0, d1, d2, d3, hc', hkr, hz⟩ := RdU.get (HR.out.on (hb.mono hhi)) hk'
      have hki : (k : Int) < (us.length : Int) := by omega
      have hki0 : (0 : Int) ≤ (k : Int) := by omega
      have hnew := hb.alloc hb.size (.cells #[.int .i64 us[k].n, .int .i64 us[k].t.f, .int .i64 us[k].t.v, .slice a' us[k].t.kids.length c'] 62)
      by_cases he : us[k].n = v
      · have HE : Hid (us[k].n = v) := he
        have heb : (us[k].n == v) = true := by simp [he]
        clear he hkr hz hc'
        go_wp2_with fail
        exact bodyPost_ret (v := .tuple #[.int .i64 k, .bool true]) (by simp [results, Tryz.results75, go_sem]) rfl ⟨hnew, .inl ⟨k, hk', HE.out, HA.out, rfl⟩⟩
      · have HE : Hid (us[k].n ≠ v) := he
        have heb : (us[k].n == v) = false := by simp [he]
        have he2 : ¬ us[k].n = v := he
        clear he hkr hz hc'
        go_wp2_with fail
        go_roundw
        case rel => exact ⟨k + 1, by go_num, by omega, hnew, fun j hj hjk => by
          rcases Nat.lt_or_ge j k with h1 | h1
          · exact HA.out j hj h1
          · have : j = k := by omega
            subst this; exact HE.out⟩
        case measure => simp [intOf]; omega
    · have hki : ¬ (k : Int) < (us.length : Int) := by omega
      go_wp2_with fail
      exact bodyPost_ret (v := .tuple #[.int .i64 0, .bool false]) (by simp [results, Tryz.results75, go_sem]) rfl ⟨hb, .inr ⟨fun j hj => HA.out j hj (by omega), rfl⟩⟩

/-- The end of a function that answers a term in its place. -/
theorem res_end {w w4 : World} {t : TermD} {a' : Option Addr} {c' : Nat} (nb4 : MB w w4) :
    (((w4.setCell ⟨w.heap.size, 0, none⟩ (.int .i64 t.f)).setCell ⟨w.heap.size, 1, none⟩ (.int .i64 t.v)).setCell ⟨w.heap.size, 2, none⟩ (.slice a' t.kids.length c')).cell? ⟨w.heap.size, 0, none⟩ = some (.int .i64 t.f) ∧ (((w4.setCell ⟨w.heap.size, 0, none⟩ (.int .i64 t.f)).setCell ⟨w.heap.size, 1, none⟩ (.int .i64 t.v)).setCell ⟨w.heap.size, 2, none⟩ (.slice a' t.kids.length c')).cell? ⟨w.heap.size, 1, none⟩ = some (.int .i64 t.v) ∧ (((w4.setCell ⟨w.heap.size, 0, none⟩ (.int .i64 t.f)).setCell ⟨w.heap.size, 1, none⟩ (.int .i64 t.v)).setCell ⟨w.heap.size, 2, none⟩ (.slice a' t.kids.length c')).cell? ⟨w.heap.size, 2, none⟩ = some (.slice a' t.kids.length c') ∧ Below w.heap.size w (((w4.setCell ⟨w.heap.size, 0, none⟩ (.int .i64 t.f)).setCell ⟨w.heap.size, 1, none⟩ (.int .i64 t.v)).setCell ⟨w.heap.size, 2, none⟩ (.slice a' t.kids.length c')) := by
  obtain ⟨z0, z1, z2⟩ := set3_cells (u := w4) (r := w.heap.size) (x := .int .i64 t.f) (y := .int .i64 t.v) (z := .slice a' t.kids.length c') nb4.c0 nb4.c1 nb4.c2
  exact ⟨z0, z1, z2, ((nb4.be.setCell (p := ⟨w.heap.size, 0, none⟩) (by simp) _).setCell (p := ⟨w.heap.size, 1, none⟩) (by simp) _).setCell (p := ⟨w.heap.size, 2, none⟩) (by simp) _⟩

theorem MB.new (w : World) : MB w (w.alloc (.cells #[.int .i64 0, .int .i64 0, .slice none 0 0] 34)) :=
  ⟨(Below.refl _ _).alloc (Nat.le_refl _) _, by simp [go_sem], by simp [go_sem], by simp [go_sem], fun j => by simp [go_sem], by simp⟩

set_option maxHeartbeats 1600000 in
theorem termFor_any (p : Nat) (us : List BindD) (a : Option Addr) (c hi : Nat) (v : Int) (w : World) (hl : us.length ≤ 549755813888) (hp : w.cell? ⟨p, 0, none⟩ = some (.slice a us.length c)) (hr : RdU w hi a us) (hhi : hi ≤ w.heap.size) :
    Calls Tryz.prog 65 #[.pointer (some ⟨p, 0, none⟩), .int .i64 v] w fun e w' => ∃ a' c', e = .returned (.agg #[.int .i64 (lookT us v).f, .int .i64 (lookT us v).v, .slice a' (lookT us v).kids.length c']) ∧ RdK w' hi a' (lookT us v).kids ∧ (lookT us v).kids.length ≤ c' ∧ Below w.heap.size w w' := by
  obtain ⟨W, hW⟩ : ∃ W, W = w.alloc (.cells #[.int .i64 0, .int .i64 0, .slice none 0 0] 34) := ⟨_, rfl⟩
  have nb0 : MB w W := by rw [hW]; exact MB.new w
  have h0 := nb0.be
  have C := find_any p us a c hi v W hl (keepC h0 hp) (hr.on (h0.mono hhi)) (Nat.le_trans hhi h0.size)
  have HP : Hid _ := hp
  have HR : Hid _ := hr
  have HW : Hid _ := hW
  clear hW hp hr
  obtain ⟨T, hT⟩ : ∃ T, T = lookT us v := ⟨_, rfl⟩
  rw [← hT]
  have HT : Hid (T = lookT us v) := hT
  clear hT
  go_enter Tryz.func65, Tryz.ntmps65
  go_upto_region 2 with (go_at_call 75; rw [← HW.out]; refine C.mono ?_; rintro e w1 ⟨hb1, hc⟩; have nb1 := nb0.on hb1; have hB1 := h0.trans (hb1.mono h0.size); clear C nb0 h0 hb1; rcases hc with ⟨k, hk, hkn, hlow, rfl⟩ | ⟨hnone, rfl⟩)
  · have e : T = us[k].t := HT.out.trans (look_hit hk hkn hlow)
    subst e
    clear HT
    obtain ⟨b, off, a', c', rfl, hlt, d0, d1, d2, d3, hc', hkr, hz⟩ := RdU.get (HR.out.on (hB1.mono hhi)) hk
    have hki : (k : Int) < (us.length : Int) := by omega
    have hki0 : (0 : Int) ≤ (k : Int) := by omega
    have hp1 := keepC hB1 HP.out
    have n0 := nb1.c0
    have n1 := nb1.c1
    have n2 := nb1.c2
    have nf := nb1.cf
    have nz := nb1.z
    clear hkn hlow hz d0
    go_wp2_with fail
    obtain ⟨z0, z1, z2, hbF⟩ := res_end (t := us[k].t) (a' := a') (c' := c') nb1
    exact bodyPost_ret (v := .agg #[.int .i64 us[k].t.f, .int .i64 us[k].t.v, .slice a' us[k].t.kids.length c']) (by simp [results, Tryz.results65, go_sem, z0, z1, z2]) rfl ⟨a', c', rfl, RdK.on hkr ((((Below.refl _ _).setCell (p := ⟨w.heap.size, 0, none⟩) hhi _).setCell (p := ⟨w.heap.size, 1, none⟩) hhi _).setCell (p := ⟨w.heap.size, 2, none⟩) hhi _), hc', hbF⟩
  · have e : T = .mk (-1) v [] := HT.out.trans (look_none hnone)
    subst e
    clear HT
    have n0 := nb1.c0
    have n1 := nb1.c1
    have n2 := nb1.c2
    have nf := nb1.cf
    have nz := nb1.z
    clear hnone
    go_wp2_with fail
    obtain ⟨z0, z1, z2, hbF⟩ := res_end (t := .mk (-1) v []) (a' := none) (c' := 0) nb1
    dsimp only [TermD.f, TermD.v, TermD.kids, List.length_nil] at z0 z1 z2 hbF ⊢
    exact bodyPost_ret (v := .agg #[.int .i64 (-1), .int .i64 v, .slice none 0 0]) (by simp [results, Tryz.results65, go_sem, z0, z1, z2]) rfl ⟨none, 0, rfl, .nil _, Nat.le_refl _, hbF⟩

/-- The numbers of what is put fit. -/
theorem look_wf {us : List BindD} {v : Int} {w : World} {hi : Nat} {a : Option Addr} (hr : RdU w hi a us) (hv : isW v) : isW (lookT us v).f ∧ isW (lookT us v).v := by
  rcases look_cases us v with ⟨k, hk, _, _, e⟩ | ⟨_, e⟩
  · rw [e]
    obtain ⟨_, _, _, _, _, _, _, _, _, _, _, _, q⟩ := hr.get hk
    exact q.2
  · rw [e]
    exact ⟨by show isW (-1); unfold isW; omega, hv⟩

set_option maxHeartbeats 1600000 in
theorem specLook_any (us : List BindD) (a : Option Addr) (c hi : Nat) (v : Int) (w : World) (hp : partsU us ≤ 549755813887) (hr : RdU w hi a us) (hhi : hi ≤ w.heap.size) :
    Calls Tryz.prog 49 #[.slice a us.length c, .int .i64 v] w fun e w' => ∃ a' c', e = .returned (.agg #[.int .i64 (lookT us v).f, .int .i64 (lookT us v).v, .slice a' (lookT us v).kids.length c']) ∧ OwnS w' (fun k => w.heap.size ≤ k ∧ k < w'.heap.size) a' (lookT us v).kids ∧ (lookT us v).kids.length ≤ c' ∧ Below w.heap.size w w' := by
  have hl : us.length ≤ 549755813888 := by unfold partsU at hp; omega
  have nb0 := MB.new w
  have HR : Hid _ := hr
  clear hr
  obtain ⟨T, hT⟩ : ∃ T, T = lookT us v := ⟨_, rfl⟩
  rw [← hT]
  have HT : Hid (T = lookT us v) := hT
  clear hT
  go_enter Tryz.func49, Tryz.ntmps49
  go_wp2_with fail
  go_loopw [5] (fun i wr => ∃ k : Nat, i = .int .i64 k ∧ k ≤ us.length ∧ MB w wr ∧ Hid (∀ j, (hj : j < us.length) → j < k → us[j].n ≠ v)) (fun i _ => us.length - (intOf i).toNat)
  case atStart => exact ⟨0, rfl, Nat.zero_le _, nb0, fun j _ h => absurd h (Nat.not_lt_zero _)⟩
  case round =>
    obtain ⟨k, rfl, hk, nb, HA⟩ := hrel
    clear nb0
    have hb := nb.be
    by_cases hk' : k < us.length
    · obtain ⟨b, off, a1, c1, rfl, hlt, d0, d1, d2, d3, hc', hkr, hz⟩ := RdU.get (HR.out.on (hb.mono hhi)) hk'
      have hki : (k : Int) < (us.length : Int) := by omega
      have hki0 : (0 : Int) ≤ (k : Int) := by omega
      by_cases he : us[k].n = v
      · have e : T = us[k].t := HT.out.trans (look_hit hk' he HA.out)
        subst e
        clear HT
        have heb : (us[k].n == v) = true := by simp [he]
        have hpg := partsU_get hk'
        have hpt := partsT_eq us[k].t
        have C := l3Copy_any 549755813888 us[k].t a1 c1 hi wr (by omega) (Nat.le_refl _) hkr (Nat.le_trans hhi hb.size) hz.2.1 hz.2.2
        clear HA hpg hpt hkr hz hc'
        go_wp2_with (go_at_call 58; refine C.mono ?_; rintro e w4 ⟨a', c', rfl, ho4, hc4, hb4⟩; have nb4 := nb.on hb4; have n0 := nb4.c0; have n1 := nb4.c1; have n2 := nb4.c2; have nf := nb4.cf; have nz := nb4.z; have hn1 := nb.z; clear C)
        obtain ⟨z0, z1, z2, hoF, hbF⟩ := make_end (x := us[k].t.f) (y := us[k].t.v) (us := us[k].t.kids) (a' := a') (c' := c') nb4 (ho4.s.mono (fun k hk => ⟨by omega, hk.2⟩))
        exact bodyPost_ret (v := .agg #[.int .i64 us[k].t.f, .int .i64 us[k].t.v, .slice a' us[k].t.kids.length c']) (by simp [results, Tryz.results49, go_sem, z0, z1, z2]) rfl ⟨a', c', rfl, hoF, hc4, hbF⟩
      · have HE : Hid (us[k].n ≠ v) := he
        have heb : (us[k].n == v) = false := by simp [he]
        have he2 : ¬ us[k].n = v := he
        clear he hkr hz hc'
        go_wp2_with fail
        go_roundw
        case rel => exact ⟨k + 1, by go_num, by omega, nb, fun j hj hjk => by
          rcases Nat.lt_or_ge j k with h1 | h1
          · exact HA.out j hj h1
          · have : j = k := by omega
            subst this; exact HE.out⟩
        case measure => simp [intOf]; omega
    · have hki : ¬ (k : Int) < (us.length : Int) := by omega
      have e : T = .mk (-1) v [] := HT.out.trans (look_none (fun j hj => HA.out j hj (by omega)))
      subst e
      clear HT HA
      go_wp2_with (go_at_call 59; refine (l3Var_any v _).mono ?_; rintro e w4 ⟨rfl, hb4⟩; have nb4 := nb.on hb4; have n0 := nb4.c0; have n1 := nb4.c1; have n2 := nb4.c2; have nf := nb4.cf; have nz := nb4.z)
      obtain ⟨z0, z1, z2, hoF, hbF⟩ := make_end (x := -1) (y := v) (us := []) (a' := none) (c' := 0) nb4 (.nil _ _)
      simp only [List.length_nil] at z0 z1 z2 hoF hbF
      exact bodyPost_ret (v := .agg #[.int .i64 (-1), .int .i64 v, .slice none [].length 0]) (by simp [results, Tryz.results49, go_sem, z0, z1, z2]) rfl ⟨none, 0, rfl, hoF, (Nat.le_refl _), hbF⟩
end Go.Proofs.YtollijngiioonabGreat

/- A term with what is put for its variables, not in one form yet. Conditions: none. -/
namespace Go.Proofs.YtollijngiioonabGreat
set_option maxRecDepth 100000
open Go.RowKit

mutual
/-- With what is put for its variables without Kids. -/
def putV (us : List BindD) : TermD → TermD
  | .mk f v ks => if f = -1 ∧ ks = [] then lookT us v else .mk f v (putVL us ks)
def putVL (us : List BindD) : List TermD → List TermD
  | [] => []
  | k :: ks => putV us k :: putVL us ks
end
theorem putVL_map (us : List BindD) : ∀ ks : List TermD, putVL us ks = ks.map (putV us)
  | [] => by rw [putVL]; rfl
  | k :: ks => by rw [putVL, putVL_map us ks]; rfl
theorem putV_eq (us : List BindD) (t : TermD) : putV us t = if t.f = -1 ∧ t.kids = [] then lookT us t.v else .mk t.f t.v (t.kids.map (putV us)) := by cases t; rw [putV, putVL_map]; rfl
end Go.Proofs.YtollijngiioonabGreat

/- Terms whose variables are put in place, one after the other, over a list of places that are left: what holds of memory meanwhile. Conditions: none. -/
namespace Go.Proofs.YtollijngiioonabGreat
set_option maxRecDepth 100000
open Go.RowKit

theorem RdK.frameB {w w' : World} {hi : Nat} {a : Option Addr} {ts : List TermD} (h : RdK w hi a ts) (hb : ∀ k, k < hi → w'.heap[k]? = w.heap[k]?) : RdK w' hi a ts := by
  induction h with
  | nil a => exact .nil a
  | row b off ts A C hlt hl hz hc hk ih =>
    refine .row b off ts A C hlt hl hz (fun i h => ?_) ih
    obtain ⟨h0, h1, h2⟩ := hc i h
    have e := hb b hlt
    exact ⟨(World.cell?_of_block (a := ⟨b, _, none⟩) e).trans h0, (World.cell?_of_block (a := ⟨b, _, none⟩) e).trans h1, (World.cell?_of_block (a := ⟨b, _, none⟩) e).trans h2⟩
theorem OwnS.open {w : World} {S : Nat → Prop} {a : Option Addr} {ts : List TermD} (h : OwnS w S a ts) : ts = [] ∨ ∃ (b off : Nat) (A : Nat → Option Addr) (C : Nat → Nat) (K : Nat → Nat → Prop), a = some ⟨b, off, none⟩ ∧ S b ∧ b < w.heap.size ∧ (ts.length ≤ 9223372036854775807 ∧ ∀ i, (h : i < ts.length) → ts[i].kids.length ≤ C i) ∧ (∀ i, (h : i < ts.length) → isW ts[i].f ∧ isW ts[i].v)
    ∧ (∀ i, (h : i < ts.length) → w.cell? ⟨b, off + i * 3, none⟩ = some (.int .i64 ts[i].f) ∧ w.cell? ⟨b, off + i * 3 + 1, none⟩ = some (.int .i64 ts[i].v) ∧ w.cell? ⟨b, off + i * 3 + 2, none⟩ = some (.slice (A i) ts[i].kids.length (C i)))
    ∧ (∀ j, w.frozen? ⟨b, j, none⟩ = false) ∧ (∀ i x, i < ts.length → K i x → S x ∧ x ≠ b) ∧ (∀ i j x, i < ts.length → j < ts.length → i ≠ j → K i x → ¬ K j x) ∧ (∀ i, (h : i < ts.length) → OwnS w (K i) (A i) ts[i].kids) := by
  cases h with
  | nil S a => exact .inl rfl
  | row S b off ts A C K hb hlt hl hz hc hf hsub hdis hk => exact .inr ⟨b, off, A, C, K, rfl, hb, hlt, hl, hz, hc, hf, hsub, hdis, hk⟩

/-- A place that is left: where it is, what stands there, and which blocks lie under it. -/
structure PL where
  b : Nat
  o : Nat
  t : TermD
  a : Option Addr
  c : Nat
  U : Nat → Prop

/-- A term stands at the place. -/
def RdT (w : World) (b o : Nat) (t : TermD) : Prop := ∃ a c, w.cell? ⟨b, o, none⟩ = some (.int .i64 t.f) ∧ w.cell? ⟨b, o + 1, none⟩ = some (.int .i64 t.v) ∧ w.cell? ⟨b, o + 2, none⟩ = some (.slice a t.kids.length c) ∧ RdK w w.heap.size a t.kids ∧ t.kids.length ≤ c ∧ isW t.f ∧ isW t.v

/-- The place as it is told. -/
structure PL.Ok (e : PL) (w : World) : Prop where
  c0 : w.cell? ⟨e.b, e.o, none⟩ = some (.int .i64 e.t.f)
  c1 : w.cell? ⟨e.b, e.o + 1, none⟩ = some (.int .i64 e.t.v)
  c2 : w.cell? ⟨e.b, e.o + 2, none⟩ = some (.slice e.a e.t.kids.length e.c)
  fr : ∀ j, w.frozen? ⟨e.b, j, none⟩ = false
  own : OwnS w e.U e.a e.t.kids
  le : e.t.kids.length ≤ e.c
  wf : isW e.t.f ∧ isW e.t.v
  nb : ¬ e.U e.b

/-- Two places that have nothing of each other. -/
def PL.Far (e d : PL) : Prop := ¬ e.U d.b ∧ ¬ d.U e.b ∧ (∀ x, e.U x → ¬ d.U x) ∧ (e.b = d.b → e.o + 3 ≤ d.o ∨ d.o + 3 ≤ e.o)

/-- The block has a cell that is left. -/
def Hot (L : List PL) (b : Nat) : Prop := ∃ e ∈ L, e.U b ∨ b = e.b
/-- The cell is one that is left. -/
def HotC (L : List PL) (b j : Nat) : Prop := ∃ e ∈ L, e.U b ∨ (b = e.b ∧ e.o ≤ j ∧ j < e.o + 3)

/-- Nothing below N turned but what is left. -/
structure Same (N : Nat) (L : List PL) (w w' : World) : Prop where
  size : w.heap.size ≤ w'.heap.size
  blk : ∀ b, b < N → ¬ Hot L b → w'.heap[b]? = w.heap[b]?
  cel : ∀ b j, b < N → ¬ HotC L b j → w'.cell? ⟨b, j, none⟩ = w.cell? ⟨b, j, none⟩

/-- All that is left, and what becomes of the whole when each place has what is put. -/
structure AP (us : List BindD) (Z : Nat → Prop) (lo N r : Nat) (T : TermD) (L : List PL) (w : World) : Prop where
  ok : ∀ e ∈ L, e.Ok w
  far : L.Pairwise PL.Far
  inz : ∀ e ∈ L, (∀ x, e.U x → Z x) ∧ Z e.b
  zlo : ∀ x, Z x → lo ≤ x ∧ x < N
  Nw : N ≤ w.heap.size
  cl : ∀ w', Same N L w w' → (∀ e ∈ L, RdT w' e.b e.o (putV us e.t)) → RdT w' r 0 (putV us T)

theorem AP.low {us : List BindD} {Z : Nat → Prop} {lo N r : Nat} {T : TermD} {L : List PL} {w : World} (h : AP us Z lo N r T L w) : ∀ e ∈ L, (∀ x, e.U x → lo ≤ x ∧ x < N) ∧ lo ≤ e.b ∧ e.b < N :=
  fun e he => ⟨fun x hx => h.zlo x ((h.inz e he).1 x hx), h.zlo _ (h.inz e he).2⟩
theorem Same.on {N : Nat} {L : List PL} {w w1 w' : World} (h : Same N L w1 w') (hz : w.heap.size ≤ w1.heap.size) (hb : ∀ k, k < N → w1.heap[k]? = w.heap[k]?) : Same N L w w' :=
  ⟨Nat.le_trans hz h.size, fun b hbN hh => (h.blk b hbN hh).trans (hb b hbN), fun b j hbN hh => (h.cel b j hbN hh).trans (World.cell?_of_block (a := ⟨b, j, none⟩) (hb b hbN))⟩
/-- What turns nothing below N leaves it. -/
theorem AP.on {us : List BindD} {Z : Nat → Prop} {lo N r : Nat} {T : TermD} {L : List PL} {w w1 : World} (h : AP us Z lo N r T L w) (hz : w.heap.size ≤ w1.heap.size) (hb : ∀ k, k < N → w1.heap[k]? = w.heap[k]?) : AP us Z lo N r T L w1 := by
  refine ⟨fun e he => ?_, h.far, h.inz, h.zlo, Nat.le_trans h.Nw hz, fun w' hs hr => h.cl w' (hs.on hz hb) hr⟩
  have k := h.ok e he
  have l := h.low e he
  have hc := hb e.b l.2.2
  exact ⟨(World.cell?_of_block (a := ⟨e.b, _, none⟩) hc).trans k.c0, (World.cell?_of_block (a := ⟨e.b, _, none⟩) hc).trans k.c1, (World.cell?_of_block (a := ⟨e.b, _, none⟩) hc).trans k.c2, fun j => (World.frozen?_of_block (a := ⟨e.b, j, none⟩) hc).trans (k.fr j), k.own.frame (fun x hx => hb x (l.1 x hx).2) hz, k.le, k.wf, k.nb⟩

/-- The whole, before anything is put. -/
theorem AP.start {us : List BindD} {Z : Nat → Prop} {lo N r : Nat} {T : TermD} {a : Option Addr} {c : Nat} {w : World} {U : Nat → Prop} (k : (PL.mk r 0 T a c U).Ok w) (hU : ∀ x, U x → Z x) (hr : Z r) (hZ : ∀ x, Z x → lo ≤ x ∧ x < N) (hN : N ≤ w.heap.size) : AP us Z lo N r T [⟨r, 0, T, a, c, U⟩] w :=
  ⟨fun e he => by simp at he; subst he; exact k, by simp, fun e he => by simp at he; subst he; exact ⟨hU, hr⟩, hZ, hN, fun w' _ hr => hr ⟨r, 0, T, a, c, U⟩ (by simp)⟩

theorem putV_var {us : List BindD} {t : TermD} (h : t.f = -1) (hk : t.kids = []) : putV us t = lookT us t.v := by rw [putV_eq, if_pos ⟨h, hk⟩]
theorem putV_not {us : List BindD} {t : TermD} (h : ¬ (t.f = -1 ∧ t.kids = [])) : putV us t = .mk t.f t.v (t.kids.map (putV us)) := by rw [putV_eq, if_neg h]
theorem putV_kids (us : List BindD) (t : TermD) (h : ¬ (t.f = -1 ∧ t.kids = [])) : (putV us t).f = t.f ∧ (putV us t).v = t.v ∧ (putV us t).kids = t.kids.map (putV us) := by rw [putV_not h]; exact ⟨rfl, rfl, rfl⟩

/-- A variable is put: its place is left no more. -/
theorem AP.put {us : List BindD} {Z : Nat → Prop} {lo N r : Nat} {T : TermD} {L : List PL} {e : PL} {w w1 : World} {q : Option Addr} {cq : Nat} (h : AP us Z lo N r T (L ++ [e]) w) (hf : e.t.f = -1) (hk : e.t.kids = [])
    (hz : w.heap.size ≤ w1.heap.size) (hb : ∀ k, k < N → k ≠ e.b → w1.heap[k]? = w.heap[k]?) (hc : ∀ j, j < e.o ∨ e.o + 3 ≤ j → w1.cell? ⟨e.b, j, none⟩ = w.cell? ⟨e.b, j, none⟩) (hfz : ∀ j, w1.frozen? ⟨e.b, j, none⟩ = false)
    (x0 : w1.cell? ⟨e.b, e.o, none⟩ = some (.int .i64 (lookT us e.t.v).f)) (x1 : w1.cell? ⟨e.b, e.o + 1, none⟩ = some (.int .i64 (lookT us e.t.v).v)) (x2 : w1.cell? ⟨e.b, e.o + 2, none⟩ = some (.slice q (lookT us e.t.v).kids.length cq))
    (hq : RdK w lo q (lookT us e.t.v).kids) (hle : (lookT us e.t.v).kids.length ≤ cq) (hw : isW (lookT us e.t.v).f ∧ isW (lookT us e.t.v).v) (_hloN : lo ≤ N) : AP us Z lo N r T L w1 := by
  have hfar := List.pairwise_append.1 h.far
  have fe : ∀ d ∈ L, PL.Far d e := fun d hd => hfar.2.2 d hd e (by simp)
  have le := h.low e (by simp)
  refine ⟨fun d hd => ?_, hfar.1, fun d hd => h.inz d (by simp [hd]), h.zlo, Nat.le_trans h.Nw hz, fun w' hs hr => ?_⟩
  · have k := h.ok d (by simp [hd])
    have l := h.low d (by simp [hd])
    have f := fe d hd
    have cc : ∀ j, j < 3 → w1.cell? ⟨d.b, d.o + j, none⟩ = w.cell? ⟨d.b, d.o + j, none⟩ := fun j hj => by
      by_cases e1 : d.b = e.b
      · have := f.2.2.2 e1
        rw [e1]
        exact hc _ (by omega)
      · exact World.cell?_of_block (a := ⟨d.b, _, none⟩) (hb d.b l.2.2 e1)
    exact ⟨(cc 0 (by omega)).trans k.c0, (cc 1 (by omega)).trans k.c1, (cc 2 (by omega)).trans k.c2, fun j => by
      by_cases e1 : d.b = e.b
      · rw [e1]; exact hfz j
      · exact (World.frozen?_of_block (a := ⟨d.b, j, none⟩) (hb d.b l.2.2 e1)).trans (k.fr j), k.own.frame (fun x hx => hb x (l.1 x hx).2 (fun e1 => f.1 (e1 ▸ hx))) hz, k.le, k.wf, k.nb⟩
  · have notC : ∀ j, e.o ≤ j → j < e.o + 3 → ¬ HotC L e.b j := fun j h1 h2 ⟨d, hd, hx⟩ => by
      rcases hx with hx | ⟨e1, h3, h4⟩
      · exact (fe d hd).1 hx
      · have := (fe d hd).2.2.2 e1.symm
        omega
    have cellE : ∀ j, e.o ≤ j → j < e.o + 3 → w'.cell? ⟨e.b, j, none⟩ = w1.cell? ⟨e.b, j, none⟩ := fun j h1 h2 => hs.cel e.b j le.2.2 (notC j h1 h2)
    refine h.cl w' ⟨Nat.le_trans hz hs.size, fun b hbN hh => ?_, fun b j hbN hh => ?_⟩ (fun d hd => ?_)
    · have hne : b ≠ e.b := fun e1 => hh ⟨e, by simp, .inr e1⟩
      exact (hs.blk b hbN (fun ⟨d, hd, hx⟩ => hh ⟨d, by simp [hd], hx⟩)).trans (hb b hbN hne)
    · have h2 := hs.cel b j hbN (fun ⟨d, hd, hx⟩ => hh ⟨d, by simp [hd], hx⟩)
      rw [h2]
      by_cases e1 : b = e.b
      · subst e1
        refine hc j ?_
        by_cases q1 : j < e.o
        · exact .inl q1
        · refine .inr ?_
          have : ¬ (e.o ≤ j ∧ j < e.o + 3) := fun q2 => hh ⟨e, by simp, .inr ⟨rfl, q2.1, q2.2⟩⟩
          omega
      · exact World.cell?_of_block (a := ⟨b, j, none⟩) (hb b hbN e1)
    · rcases List.mem_append.1 hd with hd | hd
      · exact hr d hd
      · simp at hd
        subst hd
        rw [putV_var hf hk]
        have hcold : ∀ k, k < lo → ¬ Hot L k := fun k hk ⟨d, hd, hx⟩ => by
          have := h.low d (by simp [hd])
          rcases hx with hx | hx
          · have := (this.1 k hx).1; omega
          · omega
        refine ⟨q, cq, (cellE _ (Nat.le_refl _) (by omega)).trans x0, (cellE _ (by omega) (by omega)).trans x1, (cellE _ (by omega) (by omega)).trans x2, ?_, hle, hw⟩
        exact (hq.frameB (fun k hk => (hs.blk k (by omega) (hcold k hk)).trans (hb k (by omega) (by omega)))).mono (by have := h.Nw; have := hs.size; omega)

/-- The Kids of a place, each a place. -/
def kidsPL (b off : Nat) (A : Nat → Option Addr) (C : Nat → Nat) (K : Nat → Nat → Prop) (ts : List TermD) : List PL := List.ofFn (fun i : Fin ts.length => PL.mk b (off + i * 3) ts[i] (A i) (C i) (K i))
theorem kidsPL_len (b off : Nat) (A : Nat → Option Addr) (C : Nat → Nat) (K : Nat → Nat → Prop) (ts : List TermD) : (kidsPL b off A C K ts).length = ts.length := by simp [kidsPL]
theorem kidsPL_get {b off : Nat} {A : Nat → Option Addr} {C : Nat → Nat} {K : Nat → Nat → Prop} {ts : List TermD} {i : Nat} (h : i < (kidsPL b off A C K ts).length) (h' : i < ts.length) : (kidsPL b off A C K ts)[i] = PL.mk b (off + i * 3) ts[i] (A i) (C i) (K i) := by simp [kidsPL]
theorem kidsPL_mem {b off : Nat} {A : Nat → Option Addr} {C : Nat → Nat} {K : Nat → Nat → Prop} {ts : List TermD} {e : PL} (h : e ∈ kidsPL b off A C K ts) : ∃ i, ∃ h' : i < ts.length, e = PL.mk b (off + i * 3) ts[i] (A i) (C i) (K i) := by
  obtain ⟨i, hi, rfl⟩ := List.getElem_of_mem h
  have h' : i < ts.length := by rwa [kidsPL_len] at hi
  exact ⟨i, h', kidsPL_get hi h'⟩

/-- A place that is no variable: its Kids are left instead. -/
theorem AP.kids {us : List BindD} {Z : Nat → Prop} {lo N r : Nat} {T : TermD} {L : List PL} {e : PL} {w : World} (h : AP us Z lo N r T (L ++ [e]) w) (hv : ¬ (e.t.f = -1 ∧ e.t.kids = [])) :
    ∃ M : List PL, M.length = e.t.kids.length ∧ (e.t.kids = [] ∨ ∃ b off, e.a = some ⟨b, off, none⟩ ∧ ∀ i, (h : i < M.length) → M[i].b = b ∧ M[i].o = off + i * 3) ∧ (∀ i, (h : i < M.length) → (h' : i < e.t.kids.length) → M[i].t = e.t.kids[i]) ∧ AP us Z lo N r T (L ++ M) w := by
  have hfar := List.pairwise_append.1 h.far
  have fe : ∀ d ∈ L, PL.Far d e := fun d hd => hfar.2.2 d hd e (by simp)
  have le := h.low e (by simp)
  have ke := h.ok e (by simp)
  have pv := putV_kids us e.t hv
  rcases ke.own.open with h0 | ⟨b, off, A, C, K, ha, hSb, hlt, hl, hz, hc, hf, hsub, hdis, hk⟩
  · refine ⟨[], by simp [h0], .inl h0, fun i hi => by simp at hi, ?_⟩
    rw [List.append_nil]
    refine ⟨fun d hd => h.ok d (by simp [hd]), hfar.1, fun d hd => h.inz d (by simp [hd]), h.zlo, h.Nw, fun w' hs hr => h.cl w' ⟨hs.size, fun b hbN hh => hs.blk b hbN (fun ⟨d, hd, hx⟩ => hh ⟨d, by simp [hd], hx⟩), fun b j hbN hh => hs.cel b j hbN (fun ⟨d, hd, hx⟩ => hh ⟨d, by simp [hd], hx⟩)⟩ (fun d hd => ?_)⟩
    rcases List.mem_append.1 hd with hd | hd
    · exact hr d hd
    · simp at hd
      subst hd
      have cellE : ∀ j, d.o ≤ j → j < d.o + 3 → w'.cell? ⟨d.b, j, none⟩ = w.cell? ⟨d.b, j, none⟩ := fun j h1 h2 => hs.cel d.b j le.2.2 (fun ⟨g, hg, hx⟩ => by
        rcases hx with hx | ⟨e1, h3, h4⟩
        · exact (fe g hg).1 hx
        · have := (fe g hg).2.2.2 e1.symm
          omega)
      obtain ⟨p1, p2, p3⟩ := pv
      rw [h0, List.map_nil] at p3
      have k2 := ke.c2
      rw [h0] at k2
      refine ⟨d.a, d.c, ?_, ?_, ?_, ?_, ?_, ?_, ?_⟩
      · rw [p1]; exact (cellE _ (Nat.le_refl _) (by omega)).trans ke.c0
      · rw [p2]; exact (cellE _ (by omega) (by omega)).trans ke.c1
      · rw [p3]; exact (cellE _ (by omega) (by omega)).trans k2
      · rw [p3]; exact .nil _
      · rw [p3]; simp
      · rw [p1]; exact ke.wf.1
      · rw [p2]; exact ke.wf.2
  · have hbr := le.1 b hSb
    have hbe : b ≠ e.b := fun q => ke.nb (q ▸ hSb)
    refine ⟨kidsPL b off A C K e.t.kids, kidsPL_len .., .inr ⟨b, off, ha, fun i hi => ?_⟩, fun i hi hi' => by rw [kidsPL_get hi hi'], ?_⟩
    · rw [kidsPL_get hi (by rwa [kidsPL_len] at hi)]; exact ⟨rfl, rfl⟩
    · refine ⟨fun d hd => ?_, ?_, fun d hd => ?_, h.zlo, h.Nw, fun w' hs hr => ?_⟩
      · rcases List.mem_append.1 hd with hd | hd
        · exact h.ok d (by simp [hd])
        · obtain ⟨i, hi, rfl⟩ := kidsPL_mem hd
          obtain ⟨h0, h1, h2⟩ := hc i hi
          exact ⟨h0, h1, h2, hf, hk i hi, hl.2 i hi, hz i hi, fun q => (hsub i b hi q).2 rfl⟩
      · refine List.pairwise_append.2 ⟨hfar.1, ?_, fun d hd g hg => ?_⟩
        · rw [List.pairwise_iff_getElem]
          intro i j hi hj hij
          have hi' : i < e.t.kids.length := by rwa [kidsPL_len] at hi
          have hj' : j < e.t.kids.length := by rwa [kidsPL_len] at hj
          rw [kidsPL_get hi hi', kidsPL_get hj hj']
          exact ⟨fun q => (hsub i b hi' q).2 rfl, fun q => (hsub j b hj' q).2 rfl, fun x hx => hdis i j x hi' hj' (by omega) hx, fun _ => .inl (by show off + i * 3 + 3 ≤ off + j * 3; omega)⟩
        · obtain ⟨i, hi, rfl⟩ := kidsPL_mem hg
          have f := fe d hd
          exact ⟨fun q => f.2.2.1 b q hSb, fun q => f.2.1 (hsub i d.b hi q).1, fun x hx q => f.2.2.1 x hx (hsub i x hi q).1, fun q => absurd hSb (fun q2 => f.2.1 (by rw [show d.b = b from q]; exact q2))⟩
      · rcases List.mem_append.1 hd with hd | hd
        · exact h.inz d (by simp [hd])
        · obtain ⟨i, hi, rfl⟩ := kidsPL_mem hd
          exact ⟨fun x hx => (h.inz e (by simp)).1 x (hsub i x hi hx).1, (h.inz e (by simp)).1 b hSb⟩
      · have hot : ∀ k, Hot (L ++ kidsPL b off A C K e.t.kids) k → Hot (L ++ [e]) k := fun k ⟨d, hd, hx⟩ => by
          rcases List.mem_append.1 hd with hd | hd
          · exact ⟨d, by simp [hd], hx⟩
          · obtain ⟨i, hi, rfl⟩ := kidsPL_mem hd
            rcases hx with hx | hx
            · exact ⟨e, by simp, .inl (hsub i k hi hx).1⟩
            · exact ⟨e, by simp, .inl (by rw [show k = b from hx]; exact hSb)⟩
        have hotc : ∀ k j, HotC (L ++ kidsPL b off A C K e.t.kids) k j → HotC (L ++ [e]) k j := fun k j ⟨d, hd, hx⟩ => by
          rcases List.mem_append.1 hd with hd | hd
          · exact ⟨d, by simp [hd], hx⟩
          · obtain ⟨i, hi, rfl⟩ := kidsPL_mem hd
            rcases hx with hx | hx
            · exact ⟨e, by simp, .inl (hsub i k hi hx).1⟩
            · exact ⟨e, by simp, .inl (by rw [show k = b from hx.1]; exact hSb)⟩
        refine h.cl w' ⟨hs.size, fun k hkN hh => hs.blk k hkN (fun q => hh (hot k q)), fun k j hkN hh => hs.cel k j hkN (fun q => hh (hotc k j q))⟩ (fun d hd => ?_)
        rcases List.mem_append.1 hd with hd | hd
        · exact hr d (by simp [hd])
        · simp at hd
          subst hd
          have cellE : ∀ j, d.o ≤ j → j < d.o + 3 → w'.cell? ⟨d.b, j, none⟩ = w.cell? ⟨d.b, j, none⟩ := fun j h1 h2 => hs.cel d.b j le.2.2 (fun ⟨g, hg, hx⟩ => by
            rcases List.mem_append.1 hg with hg | hg
            · rcases hx with hx | ⟨e1, h3, h4⟩
              · exact (fe g hg).1 hx
              · have := (fe g hg).2.2.2 e1.symm
                omega
            · obtain ⟨i, hi, rfl⟩ := kidsPL_mem hg
              rcases hx with hx | hx
              · exact ke.nb (hsub i d.b hi hx).1
              · exact hbe hx.1.symm)
          obtain ⟨p1, p2, p3⟩ := pv
          have hkid : ∀ i, i < d.t.kids.length → ∃ y : Option Addr × Nat, ∀ (hi : i < d.t.kids.length), w'.cell? ⟨b, off + i * 3, none⟩ = some (.int .i64 (putV us d.t.kids[i]).f) ∧ w'.cell? ⟨b, off + i * 3 + 1, none⟩ = some (.int .i64 (putV us d.t.kids[i]).v) ∧ w'.cell? ⟨b, off + i * 3 + 2, none⟩ = some (.slice y.1 (putV us d.t.kids[i]).kids.length y.2) ∧ RdK w' w'.heap.size y.1 (putV us d.t.kids[i]).kids ∧ (putV us d.t.kids[i]).kids.length ≤ y.2 ∧ isW (putV us d.t.kids[i]).f ∧ isW (putV us d.t.kids[i]).v := fun i hi => by
            have hm : PL.mk b (off + i * 3) d.t.kids[i] (A i) (C i) (K i) ∈ kidsPL b off A C K d.t.kids := by
              rw [← kidsPL_get (by rw [kidsPL_len]; exact hi) hi]; exact List.getElem_mem _
            obtain ⟨a', c', q0, q1, q2, q3, q4, q5, q6⟩ := hr _ (List.mem_append_right L hm)
            exact ⟨(a', c'), fun _ => ⟨q0, q1, q2, q3, q4, q5, q6⟩⟩
          obtain ⟨F, hF⟩ := Deep.choose_lt hkid
          have hbw : b < w'.heap.size := Nat.lt_of_lt_of_le hbr.2 (Nat.le_trans h.Nw hs.size)
          refine ⟨d.a, d.c, ?_, ?_, ?_, ?_, ?_, ?_, ?_⟩
          · rw [p1]; exact (cellE _ (Nat.le_refl _) (by omega)).trans ke.c0
          · rw [p2]; exact (cellE _ (by omega) (by omega)).trans ke.c1
          · rw [p3, List.length_map]; exact (cellE _ (by omega) (by omega)).trans ke.c2
          · rw [p3, ha]
            refine .row b off _ (fun i => (F i).1) (fun i => (F i).2) hbw ⟨by simpa using hl.1, fun i hi => ?_⟩ (fun i hi => ?_) (fun i hi => ?_) (fun i hi => ?_)
            · simp only [List.length_map] at hi; simp only [List.getElem_map]; exact (hF i hi hi).2.2.2.2.1
            · simp only [List.length_map] at hi; simp only [List.getElem_map]; exact (hF i hi hi).2.2.2.2.2
            · simp only [List.length_map] at hi; simp only [List.getElem_map]; exact ⟨(hF i hi hi).1, (hF i hi hi).2.1, (hF i hi hi).2.2.1⟩
            · simp only [List.length_map] at hi; simp only [List.getElem_map]; exact (hF i hi hi).2.2.2.1
          · rw [p3, List.length_map]; exact ke.le
          · rw [p1]; exact ke.wf.1
          · rw [p2]; exact ke.wf.2
end Go.Proofs.YtollijngiioonabGreat

/- Whether a term is a variable, and which, as the program tells it by a type switch. Conditions: none. -/
namespace Go.Proofs.YtollijngiioonabGreat
set_option maxRecDepth 100000
open Go.RowKit

theorem pieceOf_var (t : TermD) (a : Option Addr) (n c : Nat) (w : World) (h : t.f = -1) :
    Calls Tryz.prog 74 #[.agg #[.int .i64 t.f, .int .i64 t.v, .slice a n c]] w fun e w' => e = .returned (.iface 126 (.agg #[.int .i64 t.v])) ∧ Below w.heap.size w w' := by
  go_enter Tryz.func74, Tryz.ntmps74
  go_wp2
  go_ret
  exact ⟨rfl, (Below.refl _ _).alloc (Nat.le_refl _) _⟩

theorem pieceOf_fun (t : TermD) (a : Option Addr) (n c : Nat) (w : World) (h : (t.f == -1) = false) :
    Calls Tryz.prog 74 #[.agg #[.int .i64 t.f, .int .i64 t.v, .slice a n c]] w fun e w' => e = .returned (.iface 145 (.agg #[.int .i64 t.f, .slice a n c])) ∧ Below w.heap.size w w' := by
  go_enter Tryz.func74, Tryz.ntmps74
  go_wp2
  go_ret
  exact ⟨rfl, (Below.refl _ _).alloc (Nat.le_refl _) _⟩

theorem ta_hit (v : Value) (w : World) : (Instr.typeAssert (.iface 126 v) 123 126 true).run Tryz.prog w = .ok (.tuple #[v, .bool true]) w := by
  simp [Instr.typeAssert, run_underlying Tryz.underlying126, go_sem]
theorem ta_miss (v : Value) (w : World) : (Instr.typeAssert (.iface 145 v) 123 126 true).run Tryz.prog w = .ok (.tuple #[.agg #[.int .i64 0], .bool false]) w := by
  have hz : (zeroValue 126).run Tryz.prog w = .ok (.agg #[.int .i64 0]) w := by simp [go_sem]
  simp [Instr.typeAssert, run_underlying Tryz.underlying126, go_sem, hz]

/-- What is told of a term: its number where it is a variable. -/
def vofI (t : TermD) : Int := if t.f = -1 then t.v else 0
def vofB (t : TermD) : Bool := t.f == -1
theorem rtT {a b : Int} {p q : Bool} (h : a = b) (h' : p = q) : Ending.returned (.tuple #[.int .i64 a, .bool p]) = .returned (.tuple #[.int .i64 b, .bool q]) := by rw [h, h']

set_option maxHeartbeats 1600000 in
set_option maxRecDepth 100000 in
theorem variableOf_any (t : TermD) (a : Option Addr) (n c : Nat) (w : World) :
    Calls Tryz.prog 64 #[.agg #[.int .i64 t.f, .int .i64 t.v, .slice a n c]] w fun e w' => e = .returned (.tuple #[.int .i64 (vofI t), .bool (vofB t)]) ∧ Below w.heap.size w w' := by
  by_cases h : t.f = -1
  · have HI : Hid (vofI t = t.v) := by show _ = _; simp [vofI, h]
    have HB : Hid (vofB t = true) := by show _ = _; simp [vofB, h]
    have C := fun w => pieceOf_var t a n c w h
    clear h
    have hA := ta_hit
    go_enter Tryz.func64, Tryz.ntmps64
    go_wp2_with (go_at_call 74; refine (C _).mono ?_; rintro e w1 ⟨rfl, hb1⟩; clear C)
    go_ret2
    have h0 : Below w.heap.size w w1 := ((Below.refl _ _).alloc (Nat.le_refl _) _).trans (hb1.mono (by simp))
    exact ⟨rtT HI.out.symm HB.out.symm, h0.alloc h0.size _⟩
  · have h' : (t.f == -1) = false := by simp [h]
    have HI : Hid (vofI t = 0) := by show _ = _; simp [vofI, h]
    have HB : Hid (vofB t = false) := by show _ = _; simp [vofB, h]
    have C := fun w => pieceOf_fun t a n c w h'
    clear h h'
    have hA := ta_miss
    go_enter Tryz.func64, Tryz.ntmps64
    go_wp2_with (go_at_call 74; refine (C _).mono ?_; rintro e w1 ⟨rfl, hb1⟩; clear C)
    go_ret2
    exact ⟨rtT HI.out.symm HB.out.symm, ((Below.refl _ _).alloc (Nat.le_refl _) _).trans (hb1.mono (by simp))⟩
end Go.Proofs.YtollijngiioonabGreat

/- Plain facts on lists of whole numbers: what a loop over a list has seen so far. Conditions: none. -/
namespace Go.Proofs.YtollijngiioonabGreat
set_option maxRecDepth 100000
open Go.RowKit

/-- Whether x is in the list. -/
def hasB (zs : List Int) (x : Int) : Bool := zs.any (fun y => y == x)

theorem take_snoc {zs : List Int} {k : Nat} (h : k < zs.length) : zs.take (k + 1) = zs.take k ++ [zs[k]] :=
  List.take_succ_eq_append_getElem h

theorem hasB_hit {zs : List Int} {k : Nat} {x : Int} (h : k < zs.length) (e : (zs[k] == x) = true) : hasB zs x = true := by
  unfold hasB
  rw [List.any_eq_true]
  exact ⟨zs[k], List.getElem_mem h, e⟩

theorem hasB_step {zs : List Int} {k : Nat} {x : Int} (h : k < zs.length) (e0 : hasB (zs.take k) x = false) (e : (zs[k] == x) = false) : hasB (zs.take (k + 1)) x = false := by
  unfold hasB at *
  rw [take_snoc h, List.any_append, e0]
  simpa using e

theorem hasB_all {zs : List Int} {k : Nat} {x : Int} (h : ¬ k < zs.length) (e0 : hasB (zs.take k) x = false) : hasB zs x = false := by
  rwa [List.take_of_length_le (by omega)] at e0

/-- Whether two lists are the same. -/
def eqB (zs ys : List Int) : Bool := zs == ys

theorem eqB_self (zs : List Int) : eqB zs zs = true := by simp [eqB]
theorem eqB_len {zs ys : List Int} (h : ¬ zs.length = ys.length) : eqB zs ys = false := by
  simp only [eqB, beq_eq_false_iff_ne]; intro e; exact h (by rw [e])
theorem eqB_hit {zs ys : List Int} {k : Nat} (h : k < zs.length) (h' : k < ys.length) (e : (zs[k] != ys[k]) = true) : eqB zs ys = false := by
  simp only [eqB, beq_eq_false_iff_ne]; intro e'; subst e'; simp at e
theorem eqB_step {zs ys : List Int} {k : Nat} (h : k < zs.length) (h' : k < ys.length) (e0 : zs.take k = ys.take k) (e : (zs[k] != ys[k]) = false) : zs.take (k + 1) = ys.take (k + 1) := by
  have e' : zs[k] = ys[k] := by simpa using e
  rw [take_snoc h, take_snoc h', e0, e']
theorem eqB_all {zs ys : List Int} {k : Nat} (h : ¬ k < zs.length) (hl : zs.length = ys.length) (e0 : zs.take k = ys.take k) : eqB zs ys = true := by
  rw [List.take_of_length_le (by omega), List.take_of_length_le (by omega)] at e0
  rw [e0]; exact eqB_self _

/-- The slice value that begins at 'a' reads in w as the numbers zs: it is empty, or it leads to their cells. -/
def Rd (w : World) (a : Option Addr) (zs : List Int) : Prop :=
  zs = [] ∨ ∃ b off, a = some ⟨b, off, none⟩ ∧ b < w.heap.size ∧ ∀ i, i < zs.length → w.cell? ⟨b, off + i, none⟩ = some (.int .i64 (zs[i]?.getD 0))

theorem Rd.below {w w' : World} {a : Option Addr} {zs : List Int} (h : Rd w a zs) (hb : Below w.heap.size w w') : Rd w' a zs := by
  rcases h with h | ⟨b, off, rfl, hlt, hc⟩
  · exact .inl h
  · exact .inr ⟨b, off, rfl, Nat.lt_of_lt_of_le hlt hb.size, fun i hi => (hb.cell (p := ⟨b, off + i, none⟩) hlt).trans (hc i hi)⟩

theorem Rd.drewN {w : World} {a : Option Addr} {zs : List Int} (h : Rd w a zs) (n : Nat) : Rd (w.drewN n) a zs := by
  rcases h with h | ⟨b, off, rfl, hlt, hc⟩
  · exact .inl h
  · exact .inr ⟨b, off, rfl, hlt, fun i hi => hc i hi⟩

/-- The cells of a list of numbers. -/
def ints (zs : List Int) : List Value := zs.map (Value.int .i64)

theorem copy_step {zs : List Int} {k : Nat} (h : k < zs.length) :
    (ints (zs.take k) ++ List.replicate (zs.length - k) (Value.int .i64 0)).set k (.int .i64 zs[k]) = ints (zs.take (k + 1)) ++ List.replicate (zs.length - (k + 1)) (Value.int .i64 0) := by
  have e : zs.length - k = (zs.length - (k + 1)) + 1 := by omega
  have l : (ints (zs.take k)).length = k := by simp [ints]; omega
  rw [List.set_append, if_neg (by omega), l, Nat.sub_self, e, List.replicate_succ, List.set_cons_zero, take_snoc h]
  simp only [ints, List.map_append, List.map_cons, List.map_nil, List.append_assoc, List.cons_append, List.nil_append]

theorem copy_at {zs : List Int} {k : Nat} (h : k < zs.length) : (ints (zs.take k) ++ List.replicate (zs.length - k) (Value.int .i64 0))[k]? = some (.int .i64 0) := by
  have l : (ints (zs.take k)).length = k := by simp [ints]; omega
  rw [List.getElem?_append_right (by omega), l, Nat.sub_self, List.getElem?_replicate, if_pos (by omega)]

theorem made_zero (n : Nat) : (madeCells #[Value.int .i64 0] n).toList = List.replicate n (Value.int .i64 0) := by
  apply List.ext_getElem
  · simp [madeCells]
  · intro i h1 h2
    simp [madeCells, Nat.mod_one]

theorem Rd.own {w : World} {base g cap : Nat} {zs : List Int} {n : Nat} (hn : n = zs.length) (h : w.ownsRow base 3 1 (.slice (some ⟨g, 0, none⟩) n cap) n (ints zs)) : Rd w (some ⟨g, 0, none⟩) zs := by
  subst hn
  refine .inr ⟨g, 0, rfl, (h.lt g rfl).2, fun i hi => ?_⟩
  rw [show (0 + i) = i by omega, h.cellAt i (by omega)]
  simp [ints, hi]
end Go.Proofs.YtollijngiioonabGreat

/- Plain facts on a number put into a list where it comes by its size, and on lists that count up. Conditions: none. -/
namespace Go.Proofs.YtollijngiioonabGreat
set_option maxRecDepth 100000
open Go.RowKit

/-- x put into zs where it comes by its size, once. -/
def ins (zs : List Int) (x : Int) : List Int :=
  if hasB zs x = true then zs else zs.takeWhile (fun y => decide (y < x)) ++ x :: zs.dropWhile (fun y => decide (y < x))

/-- One round of the program's own loop: what it has laid out, and whether x is placed. -/
def stepI (x : Int) (s : List Int × Bool) (y : Int) : List Int × Bool :=
  if (!s.2 && decide (x < y)) = true then (s.1 ++ [x] ++ [y], true) else (s.1 ++ [y], s.2)

theorem fold_placed (x : Int) : ∀ (l o : List Int), l.foldl (stepI x) (o, true) = (o ++ l, true)
  | [], o => by simp
  | y :: l, o => by rw [List.foldl_cons, show stepI x (o, true) y = (o ++ [y], true) from by simp [stepI], fold_placed x l]; simp

theorem fold_new (x : Int) : ∀ (l o : List Int), hasB l x = false →
    (let r := l.foldl (stepI x) (o, false); if r.2 = true then r.1 else r.1 ++ [x]) = o ++ (l.takeWhile (fun y => decide (y < x)) ++ x :: l.dropWhile (fun y => decide (y < x)))
  | [], o, _ => by simp
  | y :: l, o, h => by
    have hy : ¬ y = x := by intro e; simp [hasB, e] at h
    have hl : hasB l x = false := by simp [hasB] at h ⊢; exact h.2
    rw [List.foldl_cons]
    by_cases hxy : x < y
    · rw [show stepI x (o, false) y = (o ++ [x] ++ [y], true) from by simp [stepI, hxy], fold_placed]
      have : ¬ y < x := by omega
      simp [this]
    · rw [show stepI x (o, false) y = (o ++ [y], false) from by simp [stepI, hxy], fold_new x l (o ++ [y]) hl]
      have : y < x := by omega
      simp [this]

/-- What the program's loop has made of the first k numbers. -/
def made (zs : List Int) (x : Int) (k : Nat) : List Int × Bool := (zs.take k).foldl (stepI x) ([], hasB zs x)

theorem made_zero_ (zs : List Int) (x : Int) : made zs x 0 = ([], hasB zs x) := rfl
theorem made_succ {zs : List Int} {x : Int} {k : Nat} (h : k < zs.length) : made zs x (k + 1) = stepI x (made zs x k) zs[k] := by
  unfold made; rw [take_snoc h, List.foldl_append]; rfl
theorem made_put {zs : List Int} {x : Int} {k : Nat} (h : k < zs.length) (hp : (made zs x k).2 = false) (hx : x < zs[k]) :
    (made zs x (k + 1)).1 = (made zs x k).1 ++ [x] ++ [zs[k]] ∧ (made zs x (k + 1)).2 = true := by
  rw [made_succ h]; simp [stepI, hp, hx]
theorem made_not {zs : List Int} {x : Int} {k : Nat} (h : k < zs.length) (hp : (made zs x k).2 = true ∨ ¬ x < zs[k]) :
    (made zs x (k + 1)).1 = (made zs x k).1 ++ [zs[k]] ∧ (made zs x (k + 1)).2 = (made zs x k).2 := by
  rw [made_succ h]
  rcases hp with hp | hp <;> simp [stepI, hp]
theorem made_len (zs : List Int) (x : Int) : ∀ k, k ≤ zs.length → ((made zs x k).1.length = k ∨ ((made zs x k).1.length = k + 1 ∧ (made zs x k).2 = true))
  | 0, _ => .inl rfl
  | k + 1, h => by
    have ih := made_len zs x k (by omega)
    rw [made_succ (by omega)]
    by_cases c : (!(made zs x k).2 && decide (x < zs[k])) = true
    · simp only [stepI, c, if_true]
      simp at c
      rcases ih with ih | ⟨_, ih⟩
      · right; simp [ih]
      · simp [ih] at c
    · have e : stepI x (made zs x k) zs[k] = ((made zs x k).1 ++ [zs[k]], (made zs x k).2) := by
        rw [stepI, if_neg c]
      rw [e]
      rcases ih with ih | ⟨ih, ih'⟩
      · left; simp [ih]
      · right; simp [ih, ih']
theorem made_end (zs : List Int) (x : Int) : (if (made zs x zs.length).2 = true then (made zs x zs.length).1 else (made zs x zs.length).1 ++ [x]) = ins zs x := by
  unfold made ins
  rw [List.take_length]
  by_cases h : hasB zs x = true
  · rw [if_pos h, h, fold_placed]; simp
  · have h' : hasB zs x = false := by simpa using h
    rw [if_neg h, h']
    exact fold_new x zs [] h'

theorem ins_len (zs : List Int) (x : Int) : (ins zs x).length ≤ zs.length + 1 := by
  unfold ins
  split
  · omega
  · rw [List.length_append, List.length_cons]
    have h : (zs.takeWhile (fun y => decide (y < x)) ++ zs.dropWhile (fun y => decide (y < x))).length = zs.length := by rw [List.takeWhile_append_dropWhile]
    rw [List.length_append] at h
    omega

/-- Where the first number that is not less than x stands, once all ahead of k are less and that at k is not. -/
theorem ins_at {zs : List Int} {x : Int} {k : Nat} (hk : k ≤ zs.length) (h0 : hasB zs x = false) (hlt : ∀ j, (h : j < zs.length) → j < k → zs[j] < x) (hge : ∀ h : k < zs.length, ¬ zs[k] < x) :
    ins zs x = zs.take k ++ [x] ++ zs.drop k := by
  have e : zs = zs.take k ++ zs.drop k := (List.take_append_drop k zs).symm
  have a1 : (zs.take k).all (fun y => decide (y < x)) = true := by
    rw [List.all_eq_true]
    intro y hy
    obtain ⟨j, hj, rfl⟩ := List.getElem_of_mem hy
    rw [List.length_take] at hj
    rw [List.getElem_take]
    simpa using hlt j (by omega) (by omega)
  have t1 : zs.takeWhile (fun y => decide (y < x)) = zs.take k ∧ zs.dropWhile (fun y => decide (y < x)) = zs.drop k := by
    have g : ∀ (l r : List Int), l.all (fun y => decide (y < x)) = true → (∀ h : 0 < r.length, ¬ r[0] < x) → (l ++ r).takeWhile (fun y => decide (y < x)) = l ∧ (l ++ r).dropWhile (fun y => decide (y < x)) = r := by
      intro l r hl hr
      induction l with
      | nil =>
        cases r with
        | nil => exact ⟨rfl, rfl⟩
        | cons y r => have := hr (by simp); simp at this; have h' : ¬ y < x := by omega
                      simp [h']
      | cons y l ih =>
        simp at hl
        have := ih (by simpa using hl.2)
        simp [hl.1, this]
    have := g (zs.take k) (zs.drop k) a1 (by
      intro h
      rw [List.getElem_drop]
      simp at h
      exact hge (by omega))
    rwa [← e] at this
  unfold ins
  rw [if_neg (by simp [h0]), t1.1, t1.2]
  simp

/-- n numbers from k on, each one more. -/
def upFrom (k : Int) (n : Nat) : List Int := (List.range n).map (fun j : Nat => k + (j : Int))
theorem upFrom_len (k : Int) (n : Nat) : (upFrom k n).length = n := by simp [upFrom]
theorem upFrom_at (k : Int) (n j : Nat) (h : j < n) : (upFrom k n)[j]? = some (k + (j : Int)) := by simp [upFrom, h]
theorem upFrom_get (k : Int) (n j : Nat) (h : j < (upFrom k n).length) : (upFrom k n)[j] = k + (j : Int) := by simp [upFrom]
theorem upFrom_succ (k : Int) (n : Nat) : upFrom k (n + 1) = upFrom k n ++ [k + (n : Int)] := by simp [upFrom, List.range_succ]
theorem mark_step {zs : List Int} {k : Int} {j : Nat} (h : j < zs.length) : (ints (upFrom k j) ++ (ints zs).drop j).set j (.int .i64 (k + (j : Int))) = ints (upFrom k (j + 1)) ++ (ints zs).drop (j + 1) := by
  have l : (ints (upFrom k j)).length = j := by simp [ints, upFrom]
  have d : (ints zs).drop j = (ints zs)[j]'(by simpa [ints] using h) :: (ints zs).drop (j + 1) := List.drop_eq_getElem_cons _
  rw [List.set_append, if_neg (by omega), l, Nat.sub_self, d, List.set_cons_zero, upFrom_succ]
  simp only [ints, List.map_append, List.map_cons, List.map_nil, List.append_assoc, List.cons_append, List.nil_append]
theorem mark_at {zs : List Int} {k : Int} {j : Nat} (h : j < zs.length) : ∃ u, (ints (upFrom k j) ++ (ints zs).drop j)[j]? = some (.int .i64 u) := by
  have l : (ints (upFrom k j)).length = j := by simp [ints, upFrom]
  refine ⟨zs[j], ?_⟩
  rw [List.getElem?_append_right (by omega), l, Nat.sub_self, List.getElem?_drop]
  simp [ints, h]

/-- What is owned stays owned where no old block turns. -/
theorem own_below {w w' : World} {base : Nat} {e : TypeId} {size : Nat} {v : Value} {n : Nat} {xs : List Value} (h : w.ownsRow base e size v n xs) (hb : Below w.heap.size w w') : w'.ownsRow base e size v n xs := by
  have hl := h.lt
  obtain ⟨h1, h2⟩ := h
  refine ⟨h1, ?_⟩
  rcases h2 with h2 | ⟨g, cap, cur, rfl, hg, hh, r⟩
  · exact .inl h2
  · exact .inr ⟨g, cap, cur, rfl, hg, by rw [hb.block g (hl g rfl).2]; exact hh, r⟩
end Go.Proofs.YtollijngiioonabGreat

/- Contracts of the specification's NumIn and NumAdd, and of the program's NumAdd: a number in a list, and put into it. Conditions: at most 1048577 numbers. -/
namespace Go.Proofs.YtollijngiioonabGreat
set_option maxRecDepth 100000
open Go.RowKit

theorem one_new (w : World) (u : Value) (t : TypeId) : ∀ j v, [u][j]? = some v → (w.alloc (.cells #[u] t)).cell? ((⟨w.heap.size, 0, none⟩ : Addr).add j) = some v := by
  intro j v hj
  match j, hj with
  | 0, hj => simp at hj; subst hj; simp [Addr.add]
  | j + 1, hj => simp at hj
theorem one_cell (n : Int) : ∀ u ∈ [Value.int .i64 n], u.oneCell' = true := by
  intro u hu; simp at hu; subst hu; rfl
theorem own_some {w : World} {base : Nat} {e : TypeId} {size : Nat} {v : Value} {n : Nat} {xs : List Value} {a : Addr} {m c : Nat} {q : Prop} (h : w.ownsRow base e size v n xs) (hv : v = .slice none 0 0 ↔ .slice (some a) m c = Value.slice none 0 0 ∧ q) : ∃ g c, v = .slice (some ⟨g, 0, none⟩) n c := by
  rcases h.2 with ⟨h, _⟩ | ⟨g, cap, _, rfl, _⟩
  · have := (hv.1 h).1; simp at this
  · exact ⟨g, cap, rfl⟩
theorem Tryz.info3 : (Tryz.prog.info? 3).map (fun i => (i.zero, i.size, i.bytes)) = some (some (.int .i64 0), 1, 8) := by kernel_rfl

theorem own_one {w : World} {B g c : Nat} {o : List Int} {x : Int} (h : w.ownsRow B 3 1 (.slice (some ⟨g, 0, none⟩) (o.length + 1) c) (o.length + 1) (ints o ++ [.int .i64 x])) :
    w.ownsRow B 3 1 (.slice (some ⟨g, 0, none⟩) (o ++ [x]).length c) (o ++ [x]).length (ints (o ++ [x])) := by
  simpa [ints] using h
theorem own_two {w : World} {B g c : Nat} {o : List Int} {x y : Int} (h : w.ownsRow B 3 1 (.slice (some ⟨g, 0, none⟩) (o.length + 1 + 1) c) (o.length + 1 + 1) (ints o ++ [.int .i64 x] ++ [.int .i64 y])) :
    w.ownsRow B 3 1 (.slice (some ⟨g, 0, none⟩) (o ++ [x] ++ [y]).length c) (o ++ [x] ++ [y]).length (ints (o ++ [x] ++ [y])) := by
  simpa [ints] using h

theorem add_at (b off j : Nat) : (⟨b, off, none⟩ : Addr).add j = ⟨b, off + j, none⟩ := by
  by_cases h : j = 0 <;> simp [Addr.add, h]
theorem news_of {w : World} {b off : Nat} {l : List Int} (hc : ∀ i, i < l.length → w.cell? ⟨b, off + i, none⟩ = some (.int .i64 (l[i]?.getD 0))) : ∀ j u, (ints l)[j]? = some u → w.cell? ((⟨b, off, none⟩ : Addr).add j) = some u := by
  intro j u h
  have hj : j < l.length := by
    have := (List.getElem?_eq_some_iff.1 h).1
    simpa [ints] using this
  rw [add_at, hc j hj, ← h]
  simp [ints, hj]
theorem news_take {w W : World} {b : Nat} {zs : List Int} {k : Nat} (hlt : b < w.heap.size) (hc : ∀ i, i < zs.length → w.cell? ⟨b, 0 + i, none⟩ = some (.int .i64 (zs[i]?.getD 0))) (hb : Below w.heap.size w W) (o : Obj) :
    ∀ j u, (ints (zs.take k))[j]? = some u → (W.alloc o).cell? ((⟨b, 0, none⟩ : Addr).add j) = some u := by
  refine news_of (off := 0) fun i h => ?_
  rw [List.length_take] at h
  rw [(hb.alloc hb.size o).cell (p := ⟨b, 0 + i, none⟩) hlt, hc i (by omega), List.getElem?_take, if_pos (by omega)]
theorem news_drop {w W : World} {b : Nat} {zs : List Int} {k : Nat} (hlt : b < w.heap.size) (hc : ∀ i, i < zs.length → w.cell? ⟨b, 0 + i, none⟩ = some (.int .i64 (zs[i]?.getD 0))) (hb : Below w.heap.size w W) :
    ∀ j u, (ints (zs.drop k))[j]? = some u → W.cell? ((⟨b, k, none⟩ : Addr).add j) = some u := by
  refine news_of (off := k) fun i h => ?_
  rw [List.length_drop] at h
  have := hc (k + i) (by omega)
  rw [show 0 + (k + i) = k + i by omega] at this
  rw [hb.cell (p := ⟨b, k + i, none⟩) hlt, this, List.getElem?_drop]
theorem below_app {w w2 w3 : World} {g n c : Nat} {e : TypeId} {size : Nat} {xs : List Value} {o : Obj} (hb : Below w.heap.size w w2) (hown : w2.ownsRow w.heap.size e size (.slice (some ⟨g, 0, none⟩) n c) n xs) (hg : (w2.alloc o).grownBy w3 (some g)) : Below w.heap.size w w3 :=
  (hb.alloc hb.size o).grown hg (by have := hb.size; simp; omega) (fun k hk => by cases hk; exact (hown.lt g rfl).1)
theorem below_app' {w w2 w3 : World} {g n c : Nat} {e : TypeId} {size : Nat} {xs : List Value} (hb : Below w.heap.size w w2) (hown : w2.ownsRow w.heap.size e size (.slice (some ⟨g, 0, none⟩) n c) n xs) (hg : w2.grownBy w3 (some g)) : Below w.heap.size w w3 :=
  hb.grown hg hb.size (fun k hk => by cases hk; exact (hown.lt g rfl).1)
theorem own_cap {w : World} {base : Nat} {e : TypeId} {size g n c : Nat} {xs : List Value} (h : w.ownsRow base e size (.slice (some ⟨g, 0, none⟩) n c) n xs) : n ≤ c := by
  rcases h.2 with ⟨h, _⟩ | ⟨g', cap, _, h, _, _, hn, _⟩
  · simp at h
  · simp at h; omega
theorem ints_one (l : List Int) : ∀ u ∈ ints l, u.oneCell' = true := by
  intro u hu; simp [ints] at hu; obtain ⟨n, _, rfl⟩ := hu; rfl
end Go.Proofs.YtollijngiioonabGreat

/- The program puts what is put for variables into a copy, over a list of places that are left. Conditions: terms of at most 1048577 parts, at most 1048577 things put. -/
namespace Go.Proofs.YtollijngiioonabGreat
set_option maxRecDepth 100000
open Go.RowKit

theorem Tryz.infoP : (Tryz.prog.info? 95).map (fun i => (i.zero, i.size, i.bytes)) = some (some (.pointer none), 1, 8) := by kernel_rfl

def sizeP (L : List PL) : Nat := (L.map (fun e => partsT e.t)).sum
theorem sizeP_snoc (L : List PL) (e : PL) : sizeP (L ++ [e]) = sizeP L + partsT e.t := by simp [sizeP]
theorem sizeP_app (L M : List PL) : sizeP (L ++ M) = sizeP L + sizeP M := by simp [sizeP]
theorem sizeP_len (L : List PL) : L.length ≤ sizeP L := by
  induction L with
  | nil => simp
  | cons e L ih =>
    have := partsT_eq e.t
    simp only [sizeP, List.map_cons, List.sum_cons, List.length_cons] at *
    omega
theorem sizeP_kids : ∀ (M : List PL) (ts : List TermD), M.length = ts.length → (∀ i, (h : i < M.length) → (h' : i < ts.length) → M[i].t = ts[i]) → sizeP M = partsL ts
  | [], [], _, _ => by simp [sizeP, partsL]
  | e :: M, t :: ts, hl, h => by
    have h0 : e.t = t := h 0 (by simp) (by simp)
    have ih := sizeP_kids M ts (by simpa using hl) (fun i h1 h2 => by have := h (i + 1) (by simpa using h1) (by simpa using h2); simpa using this)
    simp only [sizeP, List.map_cons, List.sum_cons, partsL] at *
    rw [h0, ih]
  | [], _ :: _, hl, _ => by simp at hl
  | _ :: _, [], hl, _ => by simp at hl
/-- The list of places as its row holds it. -/
def ptrs (L : List PL) : List Value := L.map (fun e => Value.pointer (some ⟨e.b, e.o, none⟩))
theorem ptrs_len (L : List PL) : (ptrs L).length = L.length := by simp [ptrs]
theorem ptrs_snoc (L : List PL) (e : PL) : ptrs (L ++ [e]) = ptrs L ++ [Value.pointer (some ⟨e.b, e.o, none⟩)] := by simp [ptrs]
theorem ptr_one (a : Option Addr) : ∀ u ∈ [Value.pointer a], u.oneCell' = true := by intro u hu; simp at hu; subst hu; rfl
theorem own_ptr {W : World} {N n : Nat} {a : Option Addr} {T : TypeId} (hN : N ≤ W.heap.size) (hn : n = W.heap.size) : (W.alloc (.cells #[.pointer a] T)).ownsRow N T 1 (.slice (some ⟨n, 0, none⟩) 1 1) 1 [.pointer a] := by
  subst hn
  exact ⟨rfl, .inr ⟨W.heap.size, 1, #[.pointer a], rfl, hN, heap_alloc_new W _, Nat.le_refl _, by unfold maxLen; omega, rfl, rfl⟩⟩

theorem var_tests (t : TermD) : (vofB t = true ∧ t.kids = [] → t.f = -1 ∧ t.kids = [] ∧ vofI t = t.v) ∧ (¬ (t.f = -1 ∧ t.kids = []) → vofB t = false ∨ (vofB t = true ∧ ((t.kids.length : Int) == 0) = false)) := by
  refine ⟨fun h => ?_, fun h => ?_⟩
  · by_cases q : t.f = -1
    · exact ⟨q, h.2, by simp [vofI, q]⟩
    · simp [vofB, q] at h
  · by_cases q : t.f = -1
    · refine .inr ⟨by simp [vofB, q], ?_⟩
      have : t.kids.length ≠ 0 := fun e => h ⟨q, List.length_eq_zero_iff.1 e⟩
      rw [beq_eq_false_iff_ne]; omega
    · exact .inl (by simp [vofB, q])

theorem set3_at {u : World} {b o : Nat} {x y z p q s : Value} (h0 : u.cell? ⟨b, o, none⟩ = some p) (h1 : u.cell? ⟨b, o + 1, none⟩ = some q) (h2 : u.cell? ⟨b, o + 2, none⟩ = some s) :
    (((u.setCell ⟨b, o, none⟩ x).setCell ⟨b, o + 1, none⟩ y).setCell ⟨b, o + 2, none⟩ z).cell? ⟨b, o, none⟩ = some x ∧ (((u.setCell ⟨b, o, none⟩ x).setCell ⟨b, o + 1, none⟩ y).setCell ⟨b, o + 2, none⟩ z).cell? ⟨b, o + 1, none⟩ = some y ∧ (((u.setCell ⟨b, o, none⟩ x).setCell ⟨b, o + 1, none⟩ y).setCell ⟨b, o + 2, none⟩ z).cell? ⟨b, o + 2, none⟩ = some z := by
  refine ⟨?_, ?_, ?_⟩
  · rw [World.cell?_setCell_other _ _ _ _ (by simp), World.cell?_setCell_other _ _ _ _ (by simp)]
    exact World.cell?_setCell_same _ _ _ h0
  · rw [World.cell?_setCell_other _ _ _ _ (by simp)]
    exact World.cell?_setCell_same _ _ _ (by rw [World.cell?_setCell_other _ _ _ _ (by simp)]; exact h1)
  · exact World.cell?_setCell_same _ _ _ (by rw [World.cell?_setCell_other _ _ _ _ (by simp), World.cell?_setCell_other _ _ _ _ (by simp)]; exact h2)
theorem set3_far {u : World} {b o j : Nat} {x y z : Value} (h : j < o ∨ o + 3 ≤ j) : (((u.setCell ⟨b, o, none⟩ x).setCell ⟨b, o + 1, none⟩ y).setCell ⟨b, o + 2, none⟩ z).cell? ⟨b, j, none⟩ = u.cell? ⟨b, j, none⟩ := by
  have e : ∀ i, i < 3 → (⟨b, o + i, none⟩ : Addr) ≠ ⟨b, j, none⟩ := fun i hi q => by injection q with _ q2; omega
  rw [World.cell?_setCell_other _ _ _ _ (e 2 (by omega)), World.cell?_setCell_other _ _ _ _ (e 1 (by omega)), World.cell?_setCell_other _ _ _ _ (show (⟨b, o, none⟩ : Addr) ≠ ⟨b, j, none⟩ from e 0 (by omega))]
theorem set3_heap {u : World} {b o k : Nat} {x y z : Value} (h : k ≠ b) : (((u.setCell ⟨b, o, none⟩ x).setCell ⟨b, o + 1, none⟩ y).setCell ⟨b, o + 2, none⟩ z).heap[k]? = u.heap[k]? := by
  simp only [World.setCell, Array.getElem?_modify]
  rw [if_neg (fun e => h e.symm), if_neg (fun e => h e.symm), if_neg (fun e => h e.symm)]
theorem own_frA {w w' : World} {base g n c : Nat} {e : TypeId} {size : Nat} {xs : List Value} (h : w.ownsRow base e size (.slice (some ⟨g, 0, none⟩) n c) n xs) (hb : w'.heap[g]? = w.heap[g]?) : w'.ownsRow base e size (.slice (some ⟨g, 0, none⟩) n c) n xs := by
  obtain ⟨h1, h2⟩ := h
  refine ⟨h1, ?_⟩
  rcases h2 with ⟨h, _⟩ | ⟨g', cap, cur, h, hg, hh, r⟩
  · simp at h
  · cases h
    exact .inr ⟨g, c, cur, rfl, hg, hb.trans hh, r⟩
/-- A variable's place has what is put. -/
theorem AP.put3 {us : List BindD} {Z : Nat → Prop} {lo N r : Nat} {T : TermD} {L : List PL} {e : PL} {w w3 : World} {q : Option Addr} {cq : Nat} (h : AP us Z lo N r T (L ++ [e]) w) (hf : e.t.f = -1) (hk : e.t.kids = []) (hb : Below w.heap.size w w3)
    (hq : RdK w3 lo q (lookT us e.t.v).kids) (hle : (lookT us e.t.v).kids.length ≤ cq) (hw : isW (lookT us e.t.v).f ∧ isW (lookT us e.t.v).v) (hloN : lo ≤ N) :
    AP us Z lo N r T L (((w3.setCell ⟨e.b, e.o, none⟩ (.int .i64 (lookT us e.t.v).f)).setCell ⟨e.b, e.o + 1, none⟩ (.int .i64 (lookT us e.t.v).v)).setCell ⟨e.b, e.o + 2, none⟩ (.slice q (lookT us e.t.v).kids.length cq)) := by
  have K := h.ok e (by simp)
  have hN := h.Nw
  obtain ⟨x0, x1, x2⟩ := set3_at (x := .int .i64 (lookT us e.t.v).f) (y := .int .i64 (lookT us e.t.v).v) (z := .slice q (lookT us e.t.v).kids.length cq) (keepC hb K.c0) (keepC hb K.c1) (keepC hb K.c2)
  have hbl : e.b < w.heap.size := World.block_lt_of_cell? _ _ K.c0
  refine h.put hf hk (by simpa using hb.size) (fun k hkN hne => (set3_heap hne).trans (hb.block k (by omega))) (fun j hj => (set3_far hj).trans (hb.cell (p := ⟨e.b, j, none⟩) hbl)) (fun j => ?_) x0 x1 x2 (hq.frameB (fun k hk => (hb.block k (by omega)).symm)) hle hw hloN
  simp only [World.frozen?_setCell]
  exact (hb.frozen (p := ⟨e.b, j, none⟩) hbl).trans (K.fr j)

theorem ptr_ge {N g k n c : Nat} (h : N ≤ g) (e : (Value.slice (some ⟨g, 0, none⟩) n c).ownBlock = some k) : ¬ k < N := by
  have e2 : g = k := by simpa [Value.ownBlock] using e
  omega
set_option maxHeartbeats 3200000 in
set_option maxRecDepth 100000 in
theorem putInto_any (p : Nat) (us : List BindD) (ua : Option Addr) (uc lo r : Nat) (T : TermD) (a : Option Addr) (c : Nat) (U Z : Nat → Prop) (w : World) (hul : us.length ≤ 549755813888) (hpT : partsT T ≤ 549755813888) (hp : w.cell? ⟨p, 0, none⟩ = some (.slice ua us.length uc)) (hplo : p < lo) (hu : RdU w lo ua us)
    (hk : (PL.mk r 0 T a c U).Ok w) (hU : ∀ x, U x → Z x) (hr : Z r) (hZ : ∀ x, Z x → lo ≤ x ∧ x < w.heap.size) :
    Calls Tryz.prog 56 #[.pointer (some ⟨p, 0, none⟩), .pointer (some ⟨r, 0, none⟩)] w fun e w' => e = .returned (.tuple #[]) ∧ RdT w' r 0 (putV us T) ∧ Stay (fun k => k < w.heap.size ∧ ¬ Z k) w w' := by
  obtain ⟨i0, hi, hz0, hz1, hz2⟩ := info_parts Tryz.infoP
  obtain ⟨N, hN⟩ : ∃ N, N = w.heap.size := ⟨_, rfl⟩
  have A0 := AP.start (us := us) (Z := Z) (lo := lo) (N := N) hk hU hr (by rw [hN]; exact hZ) (by omega)
  obtain ⟨W, hW⟩ : ∃ W, W = w.alloc (.cells #[.pointer (some ⟨r, 0, none⟩)] 95) := ⟨_, rfl⟩
  have b0 : Below w.heap.size w W := by rw [hW]; exact (Below.refl _ _).alloc (Nat.le_refl _) _
  have HA0 : Hid (AP us Z lo N r T [⟨r, 0, T, a, c, U⟩] W) := A0.on b0.size (fun k hk => b0.block k (by omega))
  have HO0 : Hid (W.ownsRow N 95 1 (.slice (some ⟨w.heap.size, 0, none⟩) 1 1) 1 (ptrs [⟨r, 0, T, a, c, U⟩])) := by show World.ownsRow _ _ _ _ _ _ _; rw [hW]; exact own_ptr (by omega) rfl
  have HB0 : Hid (Stay (fun k => k < N ∧ ¬ Z k) w W) := .of_below b0 (fun k hk _ => hk)
  have HU : Hid (RdU w lo ua us) := hu
  have HP : Hid (w.cell? ⟨p, 0, none⟩ = some (.slice ua us.length uc)) := hp
  have hloN : lo ≤ N := by have := hZ r hr; omega
  have HZ : Hid (∀ x, Z x → lo ≤ x ∧ x < N) := by rw [hN]; exact hZ
  have HW : Hid (W = w.alloc (.cells #[.pointer (some ⟨r, 0, none⟩)] 95)) := hW
  have HN : Hid (N = w.heap.size) := hN
  clear A0 hu hp hk hU hr hN b0 hW hZ
  go_enter Tryz.func56, Tryz.ntmps56
  go_wp2_with fail
  rw [← HW.out]
  clear HW
  go_loopg [4] (partsT T) (fun gh v wr => ∃ (L : List PL) (g cc : Nat), v = .slice (some ⟨g, 0, none⟩) L.length cc ∧ Hid (wr.ownsRow N 95 1 (.slice (some ⟨g, 0, none⟩) L.length cc) L.length (ptrs L)) ∧ Hid (AP us Z lo N r T L wr) ∧ Hid (Stay (fun k => k < N ∧ ¬ Z k) w wr) ∧ sizeP L ≤ gh ∧ gh ≤ partsT T)
  case atStart => exact ⟨[⟨r, 0, T, a, c, U⟩], w.heap.size, 1, rfl, HO0, HA0, HB0, by simp [sizeP], Nat.le_refl _⟩
  case round =>
    obtain ⟨L, g, cc, rfl, HO, HA, HB, hsz, hgk⟩ := hrel
    clear HA0 HO0 HB0
    rcases List.eq_nil_or_concat L with rfl | ⟨L0, e, rfl⟩
    · have HR : Hid (RdT wr r 0 (putV us T)) := HA.out.cl wr ⟨Nat.le_refl _, fun _ _ _ => rfl, fun _ _ _ _ => rfl⟩ (fun e he => by simp at he)
      have hb : Stay (fun k => k < w.heap.size ∧ ¬ Z k) w wr := by have := HB.out; rwa [HN.out] at this
      have HBX : Hid _ := hb
      clear HA HO HU HP HN hb
      simp only [List.length_nil] at *
      go_wp2_with fail
      go_end0
      exact ⟨rfl, HR.out, HBX.out⟩
    · rw [List.concat_eq_append] at HO HA hsz ⊢
      have hln : (L0 ++ [e]).length = L0.length + 1 := by simp
      rw [hln] at HO ⊢
      rw [sizeP_snoc] at hsz
      have hL0 := sizeP_len L0
      have hpe := partsT_eq e.t
      have K := HA.out.ok e (by simp)
      have LW := HA.out.low e (by simp)
      have IZ : Hid (Z e.b) := (HA.out.inz e (by simp)).2
      have BLO : Hid (Below lo w wr) := HB.out.below (by have := HN.out; omega) (fun k hk => ⟨by omega, fun q => by have := (HZ.out k q).1; omega⟩)
      have HNw : N ≤ wr.heap.size := HA.out.Nw
      have hO : wr.ownsRow N 95 1 (.slice (some ⟨g, 0, none⟩) (L0.length + 1) cc) (L0.length + 1) (ptrs (L0 ++ [e])) := HO.out
      have hO2 := hO
      rw [ptrs_snoc] at hO2
      have hcc := own_cap hO
      have hm1 : IntKind.i64.wrap (((L0.length + 1 : Nat) : Int) - 1) = (L0.length : Int) := by rw [IntKind.wrap_i64]; omega
      have hge : (0 : Int) < ((L0.length + 1 : Nat) : Int) := by omega
      have hlt : (L0.length : Int) < ((L0.length + 1 : Nat) : Int) := by omega
      have hl0 : (0 : Int) ≤ (L0.length : Int) := by omega
      have hlc : (L0.length : Int) ≤ (cc : Int) := by omega
      have ctop : wr.cell? ⟨g, L0.length, none⟩ = some (.pointer (some ⟨e.b, e.o, none⟩)) := (hO2.cellAt L0.length (by omega)).trans (by rw [List.getElem?_append_right (by simp [ptrs])]; simp [ptrs])
      have HO1 : Hid (wr.ownsRow N 95 1 (.slice (some ⟨g, 0, none⟩) L0.length cc) L0.length (ptrs L0)) := ownsRow_pop (by simp [ptrs]) hO2
      have k0 := K.c0
      have k1 := K.c1
      have k2 := K.c2
      have C := variableOf_any e.t e.a e.t.kids.length e.c wr
      have hfz := K.fr
      have hbl : e.b < wr.heap.size := World.block_lt_of_cell? _ _ k0
      have hgN := hO.lt g rfl
      have HK : Hid (e.Ok wr) := K
      have hwfv := K.wf.2
      clear hO hO2 HO hln K
      by_cases hv : e.t.f = -1 ∧ e.t.kids = []
      · have vB : vofB e.t = true := by simp [vofB, hv.1]
        have vI : vofI e.t = e.t.v := by simp [vofI, hv.1]
        have hk0 : e.t.kids.length = 0 := by rw [hv.2]; rfl
        rw [vB, vI] at C
        rw [hk0] at C k2
        have hwl := look_wf HU.out hwfv
        have HV : Hid (e.t.f = -1 ∧ e.t.kids = []) := hv
        clear hv vB vI hk0
        go_wp2_with (first
          | (go_at_call 64; refine C.mono ?_; rintro e1 w2 ⟨rfl, hb2⟩; have B2 := hb2; have hBlo : Below lo w w2 := BLO.out.trans (hb2.mono (Nat.le_trans hloN HNw)); have C2 := termFor_any p us ua uc lo e.t.v w2 hul ((hBlo.cell (p := ⟨p, 0, none⟩) hplo).trans HP.out) (HU.out.on hBlo) (Nat.le_trans (Nat.le_trans hloN HNw) hb2.size); have q0 := keepC hb2 k0; have q1 := keepC hb2 k1; have q2 := keepC hb2 k2; clear C hb2 k0 k1 k2)
          | (go_at_call 65; refine C2.mono ?_; rintro e2 w3 ⟨a3, c3, rfl, hr3, hc3, hb3⟩; have B3 : Below wr.heap.size wr w3 := B2.trans (hb3.mono B2.size); have p0 := keepC hb3 q0; have p1 := keepC hb3 q1; have p2 := keepC hb3 q2; have hf3 := fun j => (B3.frozen (p := ⟨e.b, j, none⟩) hbl).trans (HK.out.fr j); have HR3 : Hid _ := hr3; clear C2 hb3 q0 q1 q2 hr3))
        have P := HA.out.put3 HV.out.1 HV.out.2 B3 HR3.out hc3 hwl hloN
        have HPP : Hid _ := P
        have hsz2 : sizeP L0 ≤ gk - 1 := by omega
        have HOF : Hid ((((w3.setCell ⟨e.b, e.o, none⟩ (.int .i64 (lookT us e.t.v).f)).setCell ⟨e.b, e.o + 1, none⟩ (.int .i64 (lookT us e.t.v).v)).setCell ⟨e.b, e.o + 2, none⟩ (.slice a3 (lookT us e.t.v).kids.length c3)).ownsRow N 95 1 (.slice (some ⟨g, 0, none⟩) L0.length cc) L0.length (ptrs L0)) := own_frA HO1.out ((set3_heap (by omega)).trans (B3.block g hgN.2))
        have HBF : Hid (Stay (fun k => k < N ∧ ¬ Z k) w (((w3.setCell ⟨e.b, e.o, none⟩ (.int .i64 (lookT us e.t.v).f)).setCell ⟨e.b, e.o + 1, none⟩ (.int .i64 (lookT us e.t.v).v)).setCell ⟨e.b, e.o + 2, none⟩ (.slice a3 (lookT us e.t.v).kids.length c3))) := (((HB.out.trans (.of_below B3 (fun k hk _ => hk))).trans (.setCell _ _ (fun q => q.2 IZ.out))).trans (.setCell _ _ (fun q => q.2 IZ.out))).trans (.setCell _ _ (fun q => q.2 IZ.out))
        clear P HA HK HV HN LW hL0 hbl ctop HO1 HB B2 B3 HU HP HR3 hwl IZ BLO HZ
        go_wp2_with fail
        go_roundg (gk - 1)
        case measure => omega
        case rel => exact ⟨L0, g, cc, rfl, HOF, HPP, HBF, hsz2, by omega⟩
      · have VT := (var_tests e.t).2 hv
        obtain ⟨M, hM1, hM2, hM3, hMA⟩ := HA.out.kids hv
        have hMs := sizeP_kids M e.t.kids hM1 hM3
        have HMA : Hid (AP us Z lo N r T (L0 ++ M) wr) := hMA
        have HM2 : Hid (∀ j, (h : j < M.length) → ∃ b off, e.a = some ⟨b, off, none⟩ ∧ M[j].b = b ∧ M[j].o = off + j * 3) := fun j hj => by
          rcases hM2 with h0 | ⟨b, off, ha, hb⟩
          · rw [hM1, h0] at hj; simp at hj
          · exact ⟨b, off, ha, hb j hj⟩
        have HM1 : Hid (M.length = e.t.kids.length) := hM1
        have hsz2 : sizeP (L0 ++ M) ≤ gk - 1 := by rw [sizeP_app, hMs]; omega
        have hlm : L0.length + M.length ≤ 549755813888 := by have := sizeP_len (L0 ++ M); rw [List.length_append] at this; omega
        clear HA hMA hM2 hM3 hv hMs hL0 hwfv HK
        generalize vofI e.t = vi at C
        generalize vofB e.t = vb at C VT
        rw [← hM1] at VT C k2
        clear hM1
        rcases VT with rfl | ⟨rfl, hne⟩
        all_goals
          go_wp2_with (go_at_call 64; refine C.mono ?_; rintro e1 w2 ⟨rfl, hb2⟩; have B2 : Hid (Below wr.heap.size wr w2) := hb2; have q0 := keepC hb2 k0; have q1 := keepC hb2 k1; have q2 := keepC hb2 k2; have HO2 : Hid (w2.ownsRow N 95 1 (.slice (some ⟨g, 0, none⟩) L0.length cc) L0.length (ptrs L0)) := own_frA HO1.out (hb2.block g hgN.2); have hz2' := hb2.size; clear C hb2 k0 k1 k2)
          obtain ⟨W0, hW0⟩ : ∃ W0, W0 = w2 := ⟨_, rfl⟩
          go_loopw [4, 51] (fun v i wr => ∃ (j g cc : Nat), j ≤ M.length ∧ i = .int .i64 j ∧ v = .slice (some ⟨g, 0, none⟩) (L0.length + j) cc ∧ Hid (wr.ownsRow N 95 1 (.slice (some ⟨g, 0, none⟩) (L0.length + j) cc) (L0.length + j) (ptrs (L0 ++ M.take j))) ∧ Hid (Stay (fun k => k < N) w2 wr)) (fun _ i _ => M.length - (intOf i).toNat)
          case atStart => exact ⟨0, g, cc, Nat.zero_le _, rfl, rfl, by simpa using HO2, Stay.refl _ _⟩
          case round =>
            obtain ⟨j, g1, cc1, hj, rfl, rfl, HOJ, HS⟩ := hrel
            by_cases hj' : j < M.length
            · obtain ⟨b, off, ha, hMb, hMo⟩ := HM2.out j hj'
              have p2 := HS.out.cell q2 LW.2.2
              rw [ha] at p2
              have hji : (j : Int) < (M.length : Int) := by omega
              have hji0 : (0 : Int) ≤ (j : Int) := by omega
              have hown : wr.ownsRow N 95 1 (.slice (some ⟨g1, 0, none⟩) (L0.length + j) cc1) (L0.length + j) (ptrs (L0 ++ M.take j)) := HOJ.out
              have hg1 := hown.lt g1 rfl
              have HX : Hid (ptrs (L0 ++ M.take j) ++ [Value.pointer (some ⟨b, off + j * 3, none⟩)] = ptrs (L0 ++ M.take (j + 1))) := by
                show _ = _
                rw [List.take_succ_eq_append_getElem hj', ← List.append_assoc, ptrs_snoc, hMb, hMo]
              have hNs : N ≤ wr.heap.size := by have := HS.out.size; omega
              clear HOJ ha hMb hMo
              go_wp2_with (at_builtin; refine wpList_append_own _ rfl (.tmp 54) (.tmp 61) 104 rfl N 95 i0 (.pointer none) 1 8 Tryz.underlying104 hi hz0 hz1 hz2 rfl (by decide) _ (L0.length + j) _ rfl (hown.alloc _) ⟨wr.heap.size, 0, none⟩ 1 1 [.pointer (some ⟨b, off + j * 3, none⟩)] rfl rfl (one_new _ _ _) (ptr_one _) (by unfold maxLen; omega) (by omega) (by simp; omega) ?_; intro v3 w3 hown3 hgrow3 hnil3; obtain ⟨g3, c3, rfl⟩ := own_some hown3 hnil3; have HO3 : Hid _ := hown3; have HS3 : Hid (Stay (fun k => k < N) w2 w3) := (HS.out.trans (Stay.alloc _ _ _)).trans (Stay.grown hgrow3 (fun k ek => ptr_ge hg1.1 ek)); clear hnil3 hgrow3 hown hown3)
              go_roundw
              case rel => exact ⟨j + 1, g3, c3, by omega, by go_num, rfl, by have := HO3.out; rw [HX.out] at this; exact this, HS3⟩
              case measure => simp [intOf]; omega
            · have hji : ¬ (j : Int) < (M.length : Int) := by omega
              have e1 : j = M.length := by omega
              subst e1
              have HOF : Hid (wr.ownsRow N 95 1 (.slice (some ⟨g1, 0, none⟩) (L0 ++ M).length cc1) (L0 ++ M).length (ptrs (L0 ++ M))) := by have := HOJ.out; rw [List.take_length] at this; rw [List.length_append]; exact this
              have HAF : Hid (AP us Z lo N r T (L0 ++ M) wr) := HMA.out.on (Nat.le_trans B2.out.size HS.out.size) (fun k hk => (HS.out.block k (by omega) hk).trans (B2.out.block k (by omega)))
              have HBF : Hid (Stay (fun k => k < N ∧ ¬ Z k) w wr) := (HB.out.trans (.of_below B2.out (fun k hk _ => hk))).trans (HS.out.weak (fun k _ hk => hk.1))
              clear HOJ HS HMA B2 HB HO2 HO1 HN HU HP HM1 HM2 LW IZ BLO HZ
              go_wp2_with fail
              go_roundg (gk - 1)
              case measure => omega
              case rel => exact ⟨L0 ++ M, g1, cc1, by rw [List.length_append], HOF, HAF, HBF, hsz2, by omega⟩
end Go.Proofs.YtollijngiioonabGreat

