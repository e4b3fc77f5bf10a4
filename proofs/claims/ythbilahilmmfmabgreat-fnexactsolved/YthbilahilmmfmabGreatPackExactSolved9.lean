/- What the proof of FnExactSolved stands on, part 9 of 13: each piece says what it proves and under which conditions. Conditions: as each piece says. -/
import Derived.Test.YthbilahilmmfmabGreatPackExactSolved8
import Derived.Deep.RegionLaw
import Derived.Deep.Cut
import Derived.Deep.CutBlock
import Derived.RangeFuncNested
import Derived.RangeFuncBound
import Derived.RangeFuncCalls
import Derived.RangeFuncLeaves
import Derived.Shelf.Abstract
import Derived.Shelf.RegionOpen
import Derived.WalkKit
import Derived.OwnWalkIn
import Derived.TacticsInMore
import Derived.LoopNIn
import Derived.LoopIn
import Derived.Maps.OwnIn
import Derived.Deep.RegionHeld3
/- A term with what is put for its variables, in one form: the program's way. Conditions: as its size is told. -/
namespace Go.Proofs.YthbilahilmmfmabGreat
set_option maxRecDepth 100000
open Go.RowKit

theorem parts_put (us : List BindD) (m : Nat) (hm : 1 ≤ m) (hu : ∀ v, partsT (lookT us v) ≤ m) : ∀ (n : Nat) (t : TermD), partsT t ≤ n → partsT (putV us t) ≤ partsT t * m
  | 0, t, h => by rw [partsT_eq] at h; omega
  | n + 1, t, h => by
    by_cases hv : t.f = -1 ∧ t.kids = []
    · rw [putV_var hv.1 hv.2, partsT_eq t, hv.2]
      show _ ≤ (partsL [] + 1) * m
      simp only [partsL]
      have := hu t.v
      omega
    · rw [putV_not hv, partsT_eq, partsT_eq t]
      show partsL (t.kids.map (putV us)) + 1 ≤ _
      have hk : ∀ ts : List TermD, partsL ts ≤ n → partsL (ts.map (putV us)) ≤ partsL ts * m := by
        intro ts
        induction ts with
        | nil => intro _; simp [partsL]
        | cons u ts ih =>
          intro h2
          simp only [partsL, List.map_cons] at *
          have h3 := parts_put us m hm hu n u (by omega)
          have h4 := ih (by omega)
          rw [Nat.add_mul]; omega
      rw [partsT_eq] at h
      have := hk t.kids (by omega)
      rw [Nat.add_mul]; omega
theorem look_le {us : List BindD} (v : Int) : partsT (lookT us v) ≤ partsU us + 1 := by
  rcases look_cases us v with ⟨k, hk, _, _, e⟩ | ⟨_, e⟩
  · rw [e, partsT_eq]
    have := partsU_get hk
    omega
  · rw [e, partsT_eq]
    show partsL [] + 1 ≤ _
    simp [partsL]
theorem prod_small {x y : Nat} (h : x + y ≤ 1048580) : x * y ≤ 549755813888 := by
  by_cases h1 : x ≤ 349526
  · exact Nat.le_trans (Nat.mul_le_mul h1 (show y ≤ 1048580 by omega)) (by decide)
  · by_cases h2 : x ≤ 699054
    · exact Nat.le_trans (Nat.mul_le_mul h2 (show y ≤ 699054 by omega)) (by decide)
    · exact Nat.le_trans (Nat.mul_le_mul (show x ≤ 1048580 by omega) (show y ≤ 349526 by omega)) (by decide)
theorem put_small {us : List BindD} {t : TermD} (h : partsU us + partsT t ≤ 1048579) : partsT (putV us t) ≤ 549755813888 :=
  Nat.le_trans (parts_put us (partsU us + 1) (by omega) (fun v => look_le v) _ t (Nat.le_refl _)) (prod_small (by omega))

/-- Between the copy and its one form. -/
theorem applied_mid {w W w1 : World} {p : Nat} {us : List BindD} {ua : Option Addr} {uc : Nat} {t : TermD} {a1 : Option Addr} {c1 : Nat} (hul : us.length ≤ 549755813888) (hpt : partsT t ≤ 549755813888) (hz0 : W.heap.size = w.heap.size + 1 + 1) (hp : w.cell? ⟨p, 0, none⟩ = some (.slice ua us.length uc)) (hplt : p < w.heap.size) (hu : RdU w w.heap.size ua us)
    (nb1 : NB w w1) (x0 : w1.cell? ⟨w.heap.size, 0, none⟩ = some (.int .i64 t.f)) (x1 : w1.cell? ⟨w.heap.size, 1, none⟩ = some (.int .i64 t.v)) {v : Value} (x2 : w1.cell? ⟨w.heap.size, 2, none⟩ = some v) (xf : ∀ j, w1.frozen? ⟨w.heap.size, j, none⟩ = false) (ho1 : OwnS w1 (fun k => W.heap.size ≤ k ∧ k < w1.heap.size) a1 t.kids) (hle : t.kids.length ≤ c1) (hwf : isW t.f ∧ isW t.v) :
    Calls Tryz.prog 52 #[.pointer (some ⟨p, 0, none⟩), .pointer (some ⟨w.heap.size, 0, none⟩)] (((w1.setCell ⟨w.heap.size, 0, none⟩ (.int .i64 t.f)).setCell ⟨w.heap.size, 1, none⟩ (.int .i64 t.v)).setCell ⟨w.heap.size, 2, none⟩ (.slice a1 t.kids.length c1)) fun e w' => e = .returned (.tuple #[]) ∧ RdT w' w.heap.size 0 (putV us t) ∧ NB w w' := by
  have hz := nb1.z
  have hn : ∀ j, ¬ (W.heap.size ≤ (⟨w.heap.size, j, none⟩ : Addr).block ∧ (⟨w.heap.size, j, none⟩ : Addr).block < w1.heap.size) := fun j q => by have := q.1; simp only at this; omega
  have ho2 := ((ho1.setCell ⟨w.heap.size, 0, none⟩ (hn 0) (.int .i64 t.f)).setCell ⟨w.heap.size, 1, none⟩ (hn 1) (.int .i64 t.v)).setCell ⟨w.heap.size, 2, none⟩ (hn 2) (.slice a1 t.kids.length c1)
  obtain ⟨z0, z1, z2⟩ := set3_at (u := w1) (b := w.heap.size) (o := 0) (x := .int .i64 t.f) (y := .int .i64 t.v) (z := .slice a1 t.kids.length c1) x0 x1 x2
  have nb2 : NB w (((w1.setCell ⟨w.heap.size, 0, none⟩ (.int .i64 t.f)).setCell ⟨w.heap.size, 1, none⟩ (.int .i64 t.v)).setCell ⟨w.heap.size, 2, none⟩ (.slice a1 t.kids.length c1)) := by
    have hne : ∀ j : Nat, w.heap.size + 1 ≠ w.heap.size := fun _ => by omega
    have hc : ∀ j, (((w1.setCell ⟨w.heap.size, 0, none⟩ (.int .i64 t.f)).setCell ⟨w.heap.size, 1, none⟩ (.int .i64 t.v)).setCell ⟨w.heap.size, 2, none⟩ (.slice a1 t.kids.length c1)).cell? ⟨w.heap.size + 1, j, none⟩ = w1.cell? ⟨w.heap.size + 1, j, none⟩ := fun j => World.cell?_of_block (a := ⟨w.heap.size + 1, j, none⟩) (set3_heap (o := 0) (hne 0))
    exact ⟨((nb1.be.setCell (p := ⟨w.heap.size, 0, none⟩) (Nat.le_refl _) _).setCell (p := ⟨w.heap.size, 1, none⟩) (Nat.le_refl _) _).setCell (p := ⟨w.heap.size, 2, none⟩) (Nat.le_refl _) _, (hc 0).trans nb1.c0, (hc 1).trans nb1.c1, (hc 2).trans nb1.c2, fun j => by simp only [World.frozen?_setCell]; exact nb1.cf j, by simpa using hz⟩
  have hxf : ∀ j, (((w1.setCell ⟨w.heap.size, 0, none⟩ (.int .i64 t.f)).setCell ⟨w.heap.size, 1, none⟩ (.int .i64 t.v)).setCell ⟨w.heap.size, 2, none⟩ (.slice a1 t.kids.length c1)).frozen? ⟨w.heap.size, j, none⟩ = false := fun j => by simp only [World.frozen?_setCell]; exact xf j
  have hs2 : (((w1.setCell ⟨w.heap.size, 0, none⟩ (.int .i64 t.f)).setCell ⟨w.heap.size, 1, none⟩ (.int .i64 t.v)).setCell ⟨w.heap.size, 2, none⟩ (.slice a1 t.kids.length c1)).heap.size = w1.heap.size := by simp
  generalize (((w1.setCell ⟨w.heap.size, 0, none⟩ (.int .i64 t.f)).setCell ⟨w.heap.size, 1, none⟩ (.int .i64 t.v)).setCell ⟨w.heap.size, 2, none⟩ (.slice a1 t.kids.length c1)) = W2 at *
  have hB2 := nb2.be
  have hfr2 : ∀ j, W2.frozen? ⟨w.heap.size, j, none⟩ = false := fun j => hxf j
  have hk : (PL.mk w.heap.size 0 t a1 c1 (fun k => W.heap.size ≤ k ∧ k < w1.heap.size)).Ok W2 := ⟨z0, z1, z2, hfr2, ho2, hle, hwf, fun q => by have := q.1; simp only at this; omega⟩
  refine (putInto_any p us ua uc w.heap.size w.heap.size t a1 c1 (fun k => W.heap.size ≤ k ∧ k < w1.heap.size) (fun k => k = w.heap.size ∨ W.heap.size ≤ k ∧ k < w1.heap.size) W2 hul hpt ((hB2.cell (p := ⟨p, 0, none⟩) hplt).trans hp) hplt (hu.on hB2) hk (fun x hx => .inr hx) (.inl rfl) (fun x hx => by omega)).mono fun e w3 ⟨h1, h2, h3⟩ => ⟨h1, h2, ?_⟩
  have hsz := h3.size
  have hc3 : ∀ j v, W2.cell? ⟨w.heap.size + 1, j, none⟩ = some v → w3.cell? ⟨w.heap.size + 1, j, none⟩ = some v := fun j v hv => h3.cell hv ⟨by simp only; omega, by simp only; omega⟩
  exact ⟨hB2.trans (h3.below hB2.size (fun k hk => ⟨by omega, by omega⟩)), hc3 0 _ nb2.c0, hc3 1 _ nb2.c1, hc3 2 _ nb2.c2, fun j => (h3.frozen (p := ⟨w.heap.size + 1, j, none⟩) (by simp only; omega) ⟨by simp only; omega, by simp only; omega⟩).trans (nb2.cf j), by omega⟩

set_option maxHeartbeats 3200000 in
set_option maxRecDepth 100000 in
theorem applied_any (p : Nat) (us : List BindD) (ua : Option Addr) (uc lo : Nat) (sa : Option Addr) (ss : List SymD) (sc : Nat) (t : TermD) (a : Option Addr) (c hi : Nat) (w : World) (hul : us.length ≤ 549755813888) (hp : w.cell? ⟨p, 0, none⟩ = some (.slice ua us.length uc)) (hu : RdU w lo ua us) (hlo : lo ≤ w.heap.size) (hs : RdS w sa ss)
    (hpt : partsT t ≤ 549755813888) (hpp : partsT (putV us t) ≤ 549755813888) (hr : RdK w hi a t.kids) (hhi : hi ≤ w.heap.size) (hc : t.kids.length ≤ c) (hwf : isW t.f ∧ isW t.v) :
    Calls Tryz.prog 39 #[.pointer (some ⟨p, 0, none⟩), .slice sa ss.length sc, .agg #[.int .i64 t.f, .int .i64 t.v, .slice a t.kids.length c]] w fun e w' => ∃ a' c', e = .returned (.agg #[.int .i64 (putV us t).f, .int .i64 (putV us t).v, .slice a' (normT (blindAt ss) (putV us t)).kids.length c']) ∧ OwnS w' (fun k => w.heap.size ≤ k ∧ k < w'.heap.size) a' (normT (blindAt ss) (putV us t)).kids ∧ (normT (blindAt ss) (putV us t)).kids.length ≤ c' ∧ Below w.heap.size w w' := by
  obtain ⟨W, hW⟩ : ∃ W, W = (w.alloc (.cells #[.int .i64 t.f, .int .i64 t.v, .slice a t.kids.length c] 37)).alloc (.cells #[.int .i64 0, .int .i64 0, .slice none 0 0] 37) := ⟨_, rfl⟩
  have hb0 : Below w.heap.size w W := by rw [hW]; exact ((Below.refl _ _).alloc (Nat.le_refl _) _).alloc (by simp) _
  have hz0 : W.heap.size = w.heap.size + 1 + 1 := by rw [hW]; simp
  have nb0 : NB w W := ⟨hb0, by rw [hW]; simp [go_sem], by rw [hW]; simp [go_sem], by rw [hW]; simp [go_sem], fun j => by rw [hW]; simp [go_sem], by omega⟩
  have t0 : W.cell? ⟨w.heap.size, 0, none⟩ = some (.int .i64 t.f) := by rw [hW]; simp [go_sem]
  have t1 : W.cell? ⟨w.heap.size, 1, none⟩ = some (.int .i64 t.v) := by rw [hW]; simp [go_sem]
  have t2 : W.cell? ⟨w.heap.size, 2, none⟩ = some (.slice a t.kids.length c) := by rw [hW]; simp [go_sem]
  have tf : ∀ j, W.frozen? ⟨w.heap.size, j, none⟩ = false := fun j => by rw [hW]; simp [go_sem]
  have hBW : w.heap.size < W.heap.size := by omega
  have hplt : p < w.heap.size := World.block_lt_of_cell? _ _ hp
  have C1 := copyTerm_any t a c hi W hpt (hr.on (hb0.mono hhi)) (Nat.le_trans hhi hb0.size) hc hwf
  obtain ⟨P, hP⟩ : ∃ P, P = putV us t := ⟨_, rfl⟩
  rw [← hP] at hpp ⊢
  have HP : Hid (w.cell? ⟨p, 0, none⟩ = some (.slice ua us.length uc)) := hp
  have HU : Hid (RdU w w.heap.size ua us) := hu.mono hlo
  have HS : Hid (RdS w sa ss) := hs
  have HW : Hid _ := hW
  have HZ0 : Hid (W.heap.size = w.heap.size + 1 + 1) := hz0
  have HWF : Hid (isW t.f ∧ isW t.v) := hwf
  have HPE : Hid (P = putV us t) := hP
  clear hp hu hs hr hc hW hz0 hb0 hwf hP
  go_enter Tryz.func39, Tryz.ntmps39
  go_wp2_with (go_at_call 51; rw [← HW.out]; refine C1.mono ?_; rintro e w1 ⟨a1, c1, rfl, ho1, hle1, hb1⟩; have nb1 := nb0.on hb1; have x0 := keepC hb1 t0; have x1 := keepC hb1 t1; have x2 := keepC hb1 t2; have xf := fun j => (hb1.frozen (p := ⟨w.heap.size, j, none⟩) hBW).trans (tf j); have HO1 : Hid (OwnS w1 (fun k => W.heap.size ≤ k ∧ k < w1.heap.size) a1 t.kids) := ho1; have HB1 : Hid (Below W.heap.size W w1) := hb1; clear C1 t0 t1 t2 tf nb0 ho1 hb1)
  have C2 := applied_mid hul hpt HZ0.out HP.out hplt HU.out nb1 x0 x1 x2 xf HO1.out hle1 HWF.out
  rw [← HPE.out] at C2
  clear nb1 xf HO1 HPE HP
  go_wp2_with (first
    | (go_at_call 52; refine C2.mono ?_; rintro e w3 ⟨rfl, HT3, nb3⟩; obtain ⟨a3, c3, t0, t1, t2, hr3, hle3, hw3⟩ := HT3; have C3 := impNorm_any sa ss sc P a3 c3 w3.heap.size w3 (HS.out.below nb3.be) hpp hr3 (Nat.le_refl _) hle3 hw3; clear C2 x0 x1 x2 hr3)
    | (go_at_call 53; refine C3.mono ?_; rintro e w4 ⟨a', c', rfl, ho4, hc4, hb4⟩; have nb4 := nb3.on hb4; have d0 := nb4.c0; have d1 := nb4.c1; have d2 := nb4.c2; have df := nb4.cf; have hz4 := nb4.z; have hz34 := nb3.z; clear C3))
  obtain ⟨z0, z1, z2⟩ := set3_cells (u := w4) (r := w.heap.size + 1) (x := .int .i64 P.f) (y := .int .i64 P.v) (z := .slice a' (normT (blindAt ss) P).kids.length c') d0 d1 d2
  have hnS : ∀ j, ¬ (w3.heap.size ≤ (⟨w.heap.size + 1, j, none⟩ : Addr).block ∧ (⟨w.heap.size + 1, j, none⟩ : Addr).block < w4.heap.size) := fun j q => by have := q.1; simp only at this; omega
  have hoF := ((ho4.setCell ⟨w.heap.size + 1, 0, none⟩ (hnS 0) (.int .i64 P.f)).setCell ⟨w.heap.size + 1, 1, none⟩ (hnS 1) (.int .i64 P.v)).setCell ⟨w.heap.size + 1, 2, none⟩ (hnS 2) (.slice a' (normT (blindAt ss) P).kids.length c')
  have hbF := ((nb4.be.setCell (p := ⟨w.heap.size + 1, 0, none⟩) (by simp) (.int .i64 P.f)).setCell (p := ⟨w.heap.size + 1, 1, none⟩) (by simp) (.int .i64 P.v)).setCell (p := ⟨w.heap.size + 1, 2, none⟩) (by simp) (.slice a' (normT (blindAt ss) P).kids.length c')
  refine bodyPost_ret (v := .agg #[.int .i64 P.f, .int .i64 P.v, .slice a' (normT (blindAt ss) P).kids.length c']) (by simp [results, Tryz.results39, go_sem, z0, z1, z2]) rfl ⟨a', c', rfl, hoF.mono (fun k hk => ⟨by omega, by simpa using hk.2⟩), hc4, hbF⟩

set_option maxHeartbeats 1600000 in
theorem impApply_any (sa : Option Addr) (ss : List SymD) (sc : Nat) (us : List BindD) (ua : Option Addr) (uc lo : Nat) (t : TermD) (a : Option Addr) (c hi : Nat) (w : World) (hul : us.length ≤ 549755813888) (hu : RdU w lo ua us) (hlo : lo ≤ w.heap.size) (hs : RdS w sa ss)
    (hpt : partsT t ≤ 549755813888) (hpp : partsT (putV us t) ≤ 549755813888) (hr : RdK w hi a t.kids) (hhi : hi ≤ w.heap.size) (hc : t.kids.length ≤ c) (hwf : isW t.f ∧ isW t.v) :
    Calls Tryz.prog 26 #[.slice sa ss.length sc, .slice ua us.length uc, .agg #[.int .i64 t.f, .int .i64 t.v, .slice a t.kids.length c]] w fun e w' => ∃ a' c', e = .returned (.agg #[.int .i64 (putV us t).f, .int .i64 (putV us t).v, .slice a' (normT (blindAt ss) (putV us t)).kids.length c']) ∧ OwnS w' (fun k => w.heap.size ≤ k ∧ k < w'.heap.size) a' (normT (blindAt ss) (putV us t)).kids ∧ (normT (blindAt ss) (putV us t)).kids.length ≤ c' ∧ Below w.heap.size w w' := by
  obtain ⟨W0, hW0⟩ : ∃ W0, W0 = (w.alloc (.cells #[.int .i64 t.f, .int .i64 t.v, .slice a t.kids.length c] 37)).alloc (.cells #[.int .i64 0, .int .i64 0, .slice none 0 0] 37) := ⟨_, rfl⟩
  obtain ⟨W, hW⟩ : ∃ W, W = W0.alloc (.cells #[.slice ua us.length uc] 68) := ⟨_, rfl⟩
  have hb0 : Below w.heap.size w W0 := by rw [hW0]; exact ((Below.refl _ _).alloc (Nat.le_refl _) _).alloc (by simp) _
  have hz0 : W0.heap.size = w.heap.size + 1 + 1 := by rw [hW0]; simp
  have nbw : NB w W0 := ⟨hb0, by rw [hW0]; simp [go_sem], by rw [hW0]; simp [go_sem], by rw [hW0]; simp [go_sem], fun j => by rw [hW0]; simp [go_sem], by omega⟩
  have hbW : Below W0.heap.size W0 W := by rw [hW]; exact (Below.refl _ _).alloc (Nat.le_refl _) _
  have nb0 := nbw.on hbW
  have t0 : W.cell? ⟨w.heap.size, 0, none⟩ = some (.int .i64 t.f) := keepC hbW (by rw [hW0]; simp [go_sem])
  have t1 : W.cell? ⟨w.heap.size, 1, none⟩ = some (.int .i64 t.v) := keepC hbW (by rw [hW0]; simp [go_sem])
  have t2 : W.cell? ⟨w.heap.size, 2, none⟩ = some (.slice a t.kids.length c) := keepC hbW (by rw [hW0]; simp [go_sem])
  have tp : W.cell? ⟨w.heap.size + 1 + 1, 0, none⟩ = some (.slice ua us.length uc) := by rw [hW, ← hz0]; simp [go_sem]
  have hB := nb0.be
  have C1 := applied_any (w.heap.size + 1 + 1) us ua uc lo sa ss sc t a c hi W hul tp (hu.on (hB.mono hlo)) (Nat.le_trans hlo hB.size) (hs.below hB) hpt hpp (hr.on (hB.mono hhi)) (Nat.le_trans hhi hB.size) hc hwf
  obtain ⟨P, hP⟩ : ∃ P, P = putV us t := ⟨_, rfl⟩
  rw [← hP] at C1 ⊢
  have HW : Hid (W = ((w.alloc (.cells #[.int .i64 t.f, .int .i64 t.v, .slice a t.kids.length c] 37)).alloc (.cells #[.int .i64 0, .int .i64 0, .slice none 0 0] 37)).alloc (.cells #[.slice ua us.length uc] 68)) := by show _ = _; rw [hW, hW0]
  have hWz : w.heap.size + 1 + 1 ≤ W.heap.size := nb0.z
  clear hu hs hr hW hW0 hz0 hb0 hbW nbw hP tp hB
  go_enter Tryz.func26, Tryz.ntmps26
  go_wp2_with fail
  rw [← HW.out]
  go_wp2_with (go_at_call 39; refine C1.mono ?_; rintro e w4 ⟨a', c', rfl, ho4, hc4, hb4⟩; have nb4 := nb0.on hb4; have d0 := nb4.c0; have d1 := nb4.c1; have d2 := nb4.c2; have df := nb4.cf; have hz4 := nb4.z; clear C1)
  obtain ⟨z0, z1, z2⟩ := set3_cells (u := w4) (r := w.heap.size + 1) (x := .int .i64 P.f) (y := .int .i64 P.v) (z := .slice a' (normT (blindAt ss) P).kids.length c') d0 d1 d2
  have hnS : ∀ j, ¬ (W.heap.size ≤ (⟨w.heap.size + 1, j, none⟩ : Addr).block ∧ (⟨w.heap.size + 1, j, none⟩ : Addr).block < w4.heap.size) := fun j q => by have := q.1; simp only at this; omega
  have hoF := ((ho4.setCell ⟨w.heap.size + 1, 0, none⟩ (hnS 0) (.int .i64 P.f)).setCell ⟨w.heap.size + 1, 1, none⟩ (hnS 1) (.int .i64 P.v)).setCell ⟨w.heap.size + 1, 2, none⟩ (hnS 2) (.slice a' (normT (blindAt ss) P).kids.length c')
  have hbF := ((nb4.be.setCell (p := ⟨w.heap.size + 1, 0, none⟩) (by simp) (.int .i64 P.f)).setCell (p := ⟨w.heap.size + 1, 1, none⟩) (by simp) (.int .i64 P.v)).setCell (p := ⟨w.heap.size + 1, 2, none⟩) (by simp) (.slice a' (normT (blindAt ss) P).kids.length c')
  refine bodyPost_ret (v := .agg #[.int .i64 P.f, .int .i64 P.v, .slice a' (normT (blindAt ss) P).kids.length c']) (by simp [results, Tryz.results26, go_sem, z0, z1, z2]) rfl ⟨a', c', rfl, hoF.mono (fun k hk => ⟨by omega, by simpa using hk.2⟩), hc4, hbF⟩
end Go.Proofs.YthbilahilmmfmabGreat

/- A term with what is put for its variables, as the specification makes it, not in one form yet. Conditions: terms of at most 549755813888 parts. -/
namespace Go.Proofs.YthbilahilmmfmabGreat
set_option maxRecDepth 100000
open Go.RowKit

theorem make_endR {w w4 : World} {x y : Int} {us : List TermD} {a' : Option Addr} {c' : Nat} (nb4 : MB w w4) (ho4 : OwnR w4 (fun k => w.heap.size + 1 ≤ k ∧ k < w4.heap.size) a' c' us) :
    OwnR (((w4.setCell ⟨w.heap.size, 0, none⟩ (.int .i64 x)).setCell ⟨w.heap.size, 1, none⟩ (.int .i64 y)).setCell ⟨w.heap.size, 2, none⟩ (.slice a' us.length c')) (fun k => w.heap.size ≤ k ∧ k < (((w4.setCell ⟨w.heap.size, 0, none⟩ (.int .i64 x)).setCell ⟨w.heap.size, 1, none⟩ (.int .i64 y)).setCell ⟨w.heap.size, 2, none⟩ (.slice a' us.length c')).heap.size) a' c' us := by
  have hnS : ∀ j, ¬ (w.heap.size + 1 ≤ (⟨w.heap.size, j, none⟩ : Addr).block ∧ (⟨w.heap.size, j, none⟩ : Addr).block < w4.heap.size) := fun j q => by have := q.1; simp only at this; omega
  have _ := nb4.z
  exact (((ho4.setCell ⟨w.heap.size, 0, none⟩ (hnS 0) (.int .i64 x)).setCell ⟨w.heap.size, 1, none⟩ (hnS 1) (.int .i64 y)).setCell ⟨w.heap.size, 2, none⟩ (hnS 2) (.slice a' us.length c')).mono (fun k hk => ⟨by omega, by simpa using hk.2⟩)
set_option maxHeartbeats 1600000 in
theorem specLookR_any (us : List BindD) (a : Option Addr) (c hi : Nat) (v : Int) (w : World) (hp : partsU us ≤ 549755813887) (hr : RdU w hi a us) (hhi : hi ≤ w.heap.size) :
    Calls Tryz.prog 46 #[.slice a us.length c, .int .i64 v] w fun e w' => ∃ a' c', e = .returned (.agg #[.int .i64 (lookT us v).f, .int .i64 (lookT us v).v, .slice a' (lookT us v).kids.length c']) ∧ OwnR w' (fun k => w.heap.size ≤ k ∧ k < w'.heap.size) a' c' (lookT us v).kids ∧ (lookT us v).kids.length ≤ c' ∧ Below w.heap.size w w' := by
  have hl : us.length ≤ 549755813888 := by unfold partsU at hp; omega
  have nb0 := MB.new w
  have HR : Hid _ := hr
  clear hr
  obtain ⟨T, hT⟩ : ∃ T, T = lookT us v := ⟨_, rfl⟩
  rw [← hT]
  have HT : Hid (T = lookT us v) := hT
  clear hT
  go_enter Tryz.func46, Tryz.ntmps46
  go_wp2_with fail
  go_loopw [5] (fun i wr => ∃ k : Nat, i = .int .i64 k ∧ k ≤ us.length ∧ MB w wr ∧ Hid (∀ j, (hj : j < us.length) → j < k → us[j].n ≠ v)) (fun i _ => us.length - (intOf i).toNat)
  case atStart => exact ⟨0, rfl, Nat.zero_le _, nb0, fun j _ h => absurd h (Nat.not_lt_zero _)⟩
  case round =>
    obtain ⟨k, rfl, hk, nb, HA⟩ := hrel
    clear nb0
    have hb := nb.be
    by_cases hk' : k < us.length
    · obtain ⟨b, off, a1, c1, rfl, hlt, d0, d1, d2, d3, hc', hkr, hz⟩ := RdU.get (HR.out.on (hb.mono hhi)) hk'
      have hki : (k : Int) < (us.length : Int) := by omega
      have hki0 : (0 : Int) ≤ (k : Int) := by omega
      by_cases he : us[k].n = v
      · have e : T = us[k].t := HT.out.trans (look_hit hk' he HA.out)
        subst e
        clear HT
        have heb : (us[k].n == v) = true := by simp [he]
        have hpg := partsU_get hk'
        have hpt := partsT_eq us[k].t
        have C := l3Copy_any 549755813888 us[k].t a1 c1 hi wr (by omega) (Nat.le_refl _) hkr (Nat.le_trans hhi hb.size) hz.2.1 hz.2.2
        clear HA hpg hpt hkr hz hc'
        go_wp2_with (go_at_call 57; refine C.mono ?_; rintro e w4 ⟨a', c', rfl, ho4, hc4, hb4⟩; have nb4 := nb.on hb4; have n0 := nb4.c0; have n1 := nb4.c1; have n2 := nb4.c2; have nf := nb4.cf; have nz := nb4.z; have hn1 := nb.z; clear C)
        obtain ⟨z0, z1, z2, hoF, hbF⟩ := make_end (x := us[k].t.f) (y := us[k].t.v) (us := us[k].t.kids) (a' := a') (c' := c') nb4 (ho4.s.mono (fun k hk => ⟨by omega, hk.2⟩))
        have hoR := make_endR (x := us[k].t.f) (y := us[k].t.v) nb4 (ho4.mono (fun k hk => ⟨by omega, hk.2⟩))
        exact bodyPost_ret (v := .agg #[.int .i64 us[k].t.f, .int .i64 us[k].t.v, .slice a' us[k].t.kids.length c']) (by simp [results, Tryz.results46, go_sem, z0, z1, z2]) rfl ⟨a', c', rfl, hoR, hc4, hbF⟩
      · have HE : Hid (us[k].n ≠ v) := he
        have heb : (us[k].n == v) = false := by simp [he]
        have he2 : ¬ us[k].n = v := he
        clear he hkr hz hc'
        go_wp2_with fail
        go_roundw
        case rel => exact ⟨k + 1, by go_num, by omega, nb, fun j hj hjk => by
          rcases Nat.lt_or_ge j k with h1 | h1
          · exact HA.out j hj h1
          · have : j = k := by omega
            subst this; exact HE.out⟩
        case measure => simp [intOf]; omega
    · have hki : ¬ (k : Int) < (us.length : Int) := by omega
      have e : T = .mk (-1) v [] := HT.out.trans (look_none (fun j hj => HA.out j hj (by omega)))
      subst e
      clear HT HA
      go_wp2_with (go_at_call 58; refine (l3Var_any v _).mono ?_; rintro e w4 ⟨rfl, hb4⟩; have nb4 := nb.on hb4; have n0 := nb4.c0; have n1 := nb4.c1; have n2 := nb4.c2; have nf := nb4.cf; have nz := nb4.z)
      obtain ⟨z0, z1, z2, hoF, hbF⟩ := make_end (x := -1) (y := v) (us := []) (a' := none) (c' := 0) nb4 (.nil _ _)
      simp only [List.length_nil] at z0 z1 z2 hoF hbF
      exact bodyPost_ret (v := .agg #[.int .i64 (-1), .int .i64 v, .slice none [].length 0]) (by simp [results, Tryz.results46, go_sem, z0, z1, z2]) rfl ⟨none, 0, rfl, .nil _, (Nat.le_refl _), hbF⟩

end Go.Proofs.YthbilahilmmfmabGreat

/- A term with what is put for its variables, as the specification makes it; in one form. Conditions: as its size is told. -/
namespace Go.Proofs.YthbilahilmmfmabGreat
set_option maxRecDepth 100000
open Go.RowKit

theorem mk_f (f v : Int) (ks : List TermD) : (TermD.mk f v ks).f = f := rfl
theorem mk_v (f v : Int) (ks : List TermD) : (TermD.mk f v ks).v = v := rfl
theorem mk_kids (f v : Int) (ks : List TermD) : (TermD.mk f v ks).kids = ks := rfl
set_option maxHeartbeats 3200000 in
set_option maxRecDepth 100000 in
theorem l6Put_any (us : List BindD) (ua : Option Addr) (uc : Nat) (hpu : partsU us ≤ 549755813887) (N : Nat) : ∀ (t : TermD) (a : Option Addr) (c hi : Nat) (w : World), partsT t ≤ N → N ≤ 549755813888 → RdU w hi ua us → RdK w hi a t.kids → hi ≤ w.heap.size → isW t.f → isW t.v →
    Calls Tryz.prog 34 #[.slice ua us.length uc, .agg #[.int .i64 t.f, .int .i64 t.v, .slice a t.kids.length c]] w fun e w' => ∃ a' c', e = .returned (.agg #[.int .i64 (putV us t).f, .int .i64 (putV us t).v, .slice a' (putV us t).kids.length c']) ∧ OwnR w' (fun x => w.heap.size ≤ x ∧ x < w'.heap.size) a' c' (putV us t).kids ∧ (putV us t).kids.length ≤ c' ∧ (isW (putV us t).f ∧ isW (putV us t).v) ∧ Below w.heap.size w w' := by
  induction N with
  | zero => intro t a c hi w h; rw [partsT_eq] at h; omega
  | succ N ih =>
    intro t a c hi w hN hM hu hr hhi hfw hvw
    rw [partsT_eq] at hN
    obtain ⟨i0, hi0, hz0, hz1, hz2⟩ := info_parts info29
    have hlen := partsL_len t.kids
    rw [putV_eq]
    by_cases hv : t.f = -1 ∧ t.kids = []
    · rw [if_pos hv]
      obtain ⟨w0, hw0⟩ : ∃ w0, w0 = w.alloc (.cells #[.int .i64 t.f, .int .i64 t.v, .slice a t.kids.length c] 37) := ⟨_, rfl⟩
      have hb0 : Below w.heap.size w w0 := by rw [hw0]; exact (Below.refl _ _).alloc (Nat.le_refl _) _
      obtain ⟨W, hW⟩ : ∃ W, W = w0.alloc (.cells #[.int .i64 0, .int .i64 0, .slice none 0 0] 37) := ⟨_, rfl⟩
      have nb0 : MB w0 W := by rw [hW]; exact MB.new w0
      have hB := hb0.trans (nb0.be.mono hb0.size)
      have t0 : W.cell? ⟨w.heap.size, 0, none⟩ = some (.int .i64 t.f) := by rw [hW, hw0]; simp [go_sem]
      have t1 : W.cell? ⟨w.heap.size, 1, none⟩ = some (.int .i64 t.v) := by rw [hW, hw0]; simp [go_sem]
      have t2 : W.cell? ⟨w.heap.size, 2, none⟩ = some (.slice a t.kids.length c) := by rw [hW, hw0]; simp [go_sem]
      have hwz : w0.heap.size = w.heap.size + 1 := by rw [hw0]; simp
      have C := specLookR_any us ua uc hi t.v W hpu (hu.on (hB.mono hhi)) (Nat.le_trans hhi hB.size)
      have hwf := look_wf hu hvw
      have e1 := hv.1
      have e2 : t.kids.length = 0 := by rw [hv.2]; rfl
      have HWW : Hid (W = (w.alloc (.cells #[.int .i64 t.f, .int .i64 t.v, .slice a t.kids.length c] 37)).alloc (.cells #[.int .i64 0, .int .i64 0, .slice none 0 0] 37)) := by show _ = _; rw [hW, hw0]
      rw [e1] at t0
      rw [e2] at t2
      generalize lookT us t.v = T at C hwf ⊢
      have hwz2 : w.heap.size + 1 ≤ w0.heap.size := by omega
      have HWZ : Hid (w0.heap.size = w.heap.size + 1) := hwz
      have n4 : True := trivial
      clear hu hr hW hw0 hv hwz ih hN
      rw [e1, e2] at HWW
      rw [e1, e2]
      clear e1 e2
      go_enter Tryz.func34, Tryz.ntmps34
      go_wp2_with (go_at_call 46; rw [← HWW.out]; refine C.mono ?_; rintro e w4 ⟨a', c', rfl, ho4, hc4, hb4⟩; have nb4 := nb0.on hb4; have n0 := nb4.c0; have n1 := nb4.c1; have n2 := nb4.c2; have nf := nb4.cf; have nz := nb4.z; have nz0 := nb0.z; rw [HWZ.out] at n0 n1 n2 nf; clear C HWW)
      obtain ⟨z0, z1, z2, _, hbF⟩ := make_end (x := T.f) (y := T.v) (us := T.kids) (a' := a') (c' := c') nb4 (ho4.s.mono (fun k hk => ⟨by omega, hk.2⟩))
      have hoR := make_endR (x := T.f) (y := T.v) nb4 (ho4.mono (fun k hk => ⟨by omega, hk.2⟩))
      rw [HWZ.out] at z0 z1 z2 hbF hoR
      have hbF2 := hb0.trans (Below.mono hbF (by have := hb0.size; omega))
      exact bodyPost_ret (v := .agg #[.int .i64 T.f, .int .i64 T.v, .slice a' T.kids.length c']) (by simp [results, Tryz.results34, go_sem, z0, z1, z2]) rfl ⟨a', c', rfl, hoR.mono (fun k hk => ⟨by omega, hk.2⟩), hc4, hwf, hbF2⟩
    rw [if_neg hv]
    obtain ⟨f0, v0, ks0⟩ := t
    dsimp only [mk_f, mk_v, mk_kids] at *
    have htst : (f0 == -1) = false ∨ ((f0 == -1) = true ∧ ((ks0.length : Int) == 0) = false) := by
      by_cases h : f0 = -1
      · refine .inr ⟨by simp [h], ?_⟩
        have : ks0.length ≠ 0 := fun e => hv ⟨h, List.length_eq_zero_iff.1 e⟩
        rw [beq_eq_false_iff_ne]; omega
      · exact .inl (by simp [h])
    have HR : Hid (RdK w hi a ks0) := hr
    have HU : Hid (RdU w hi ua us) := hu
    have HWF : Hid (isW f0 ∧ isW v0) := ⟨hfw, hvw⟩
    have HTS : Hid _ := htst
    clear hr hu hfw hvw hv htst
    have C0 : NC w (.mk f0 v0 ks0) a c (.slice none 0 0) (((w.alloc (.cells #[.int .i64 f0, .int .i64 v0, .slice a ks0.length c] 37)).alloc (.cells #[.int .i64 0, .int .i64 0, .slice none 0 0] 37)).alloc (.cells #[.int .i64 f0, .int .i64 v0, .slice none 0 0] 37)) := by
      refine ⟨?_, ?_, ?_, ?_, ?_, ?_, ?_, ?_, fun j => ?_, fun j => ?_, (((Below.refl _ _).alloc (Nat.le_refl _) _).alloc (by simp) _).alloc (by simp; omega) _, ?_⟩
      all_goals simp [go_sem, mk_f, mk_v, mk_kids]
    have htst := HTS.out
    clear HTS
    rcases htst with h | ⟨h, h2⟩
    all_goals
      go_enter Tryz.func34, Tryz.ntmps34
      go_wp2_with fail
      go_loopw [6] (fun i wr => ∃ (k : Nat) (L : List FE) (av : Option Addr) (cv : Nat), k ≤ ks0.length ∧ i = .int .i64 k ∧ NC w (.mk f0 v0 ks0) a c (.slice av L.length cv) wr ∧ NR (w.heap.size + 1 + 1 + 1) L [] av cv wr ∧ Hid (L.map FE.t = (ks0.take k).map (putV us))) (fun i _ => ks0.length - (intOf i).toNat)
      case atStart => exact ⟨0, [], none, 0, Nat.zero_le _, rfl, C0, NR.start _ _, by show _ = _; simp⟩
      case round =>
        obtain ⟨k, L, av, cv, hk, rfl, C, R, HL⟩ := hrel
        clear C0
        have p2 : wr.cell? ⟨w.heap.size, 2, none⟩ = some (.slice a ks0.length c) := C.p2
        have hz := C.z
        have hLl : L.length ≤ ks0.length := by have := congrArg List.length HL.out; simp at this; omega
        by_cases hk' : k < ks0.length
        · obtain ⟨b, off, a', c', rfl, hlt, d0, d1, d2, hkr⟩ := RdK.kid (HR.out.on (C.bel.mono hhi)) hk'
          have hints := HR.out.ints hk'
          have hpg := partsL_get hk'
          have hki : (k : Int) < (ks0.length : Int) := by omega
          have hki0 : (0 : Int) ≤ (k : Int) := by omega
          have hkz : (L.length : Int) < (L.length : Int) + 1 := by omega
          have hLb : L.length ≤ 549755813888 := by omega
          have HK : Hid (L.map FE.t ++ [putV us ks0[k]] = (ks0.take (k + 1)).map (putV us)) := by show _ = _; rw [HL.out, List.take_succ_eq_append_getElem hk', List.map_append]; rfl
          have I := fun (w' : World) (h : Below wr.heap.size wr w') => ih ks0[k] a' c' hi w' (by omega) (by omega) (HU.out.on ((C.bel.trans (h.mono C.bel.size)).mono hhi)) (hkr.on (h.mono (Nat.le_trans hhi C.bel.size))) (Nat.le_trans (Nat.le_trans hhi C.bel.size) h.size) hints.1 hints.2
          generalize ks0[k] = u at d0 d1 d2 I HK
          generalize putV us u = P at I HK
          have q2 := C.q2
          clear hkr hints hpg ih hlt
          have hlb : b < wr.heap.size := World.block_lt_of_cell? _ _ d0
          have b1 : Below wr.heap.size wr (wr.alloc (.cells #[.int .i64 0, .int .i64 0, .slice none 0 0] 37)) := (Below.refl _ _).alloc (Nat.le_refl _) _
          have p2a := keepC b1 p2
          have q2a := keepC b1 q2
          have d0a := keepC b1 d0
          have d1a := keepC b1 d1
          have d2a := keepC b1 d2
          clear b1
          go_wp2_with fail
          go_region_law (first
            | (go_simp; go_at_call 34; refine (I (wr.drew.alloc (.cells #[.int .i64 0, .int .i64 0, .slice none 0 0] 37)) ((Below.refl _ _).drew.alloc (by simp) _)).mono ?_; rintro e1 w1 ⟨a1, c1, rfl, o1, hle1, hI1, hb1⟩; have C1 := (C.on ((Below.refl _ _).drew.alloc (by simp) _)).on hb1; have R1 := (R.on ((Below.refl _ _).drew.alloc (by simp) _)).join hb1 (fe_one o1 hle1 hI1.1 hI1.2 (Nat.le_of_lt_succ (by simp; omega))) (fun e he x hx => by simp only [List.mem_singleton] at he; subst he; exact hx.1); have z0 := keepC (p := ⟨wr.heap.size, 0, none⟩) (v := .int .i64 0) hb1 (by simp [go_sem]); have z1 := keepC (p := ⟨wr.heap.size, 1, none⟩) (v := .int .i64 0) hb1 (by simp [go_sem]); have z2 := keepC (p := ⟨wr.heap.size, 2, none⟩) (v := .slice none 0 0) hb1 (by simp [go_sem]); have c2' := C1.q2; have f2' := C1.fq 2; have hbw := C1.z; have hne : (Value.slice av L.length cv).ownBlock ≠ some (w.heap.size + 1 + 1) := (fun q => by have := (R1.row.lt _ q).1; omega); have hrow := R1.row; have hxl := hrow.1; have hsz1 := hb1.size; have HC : Hid _ := C1; have HRR : Hid _ := R1; clear C1 R1 hb1 o1)
            | (go_simp; go_at_call 34; refine (I wr.drew (Below.refl _ _).drew).mono ?_; rintro e1 w1 ⟨a1, c1, rfl, o1, hle1, hI1, hb1⟩; have C1 := (C.on (Below.refl _ _).drew).on hb1; have R1 := (R.on (Below.refl _ _).drew).join hb1 (fe_one o1 hle1 hI1.1 hI1.2 (Nat.le_of_lt_succ (by simp; omega))) (fun e he x hx => by simp only [List.mem_singleton] at he; subst he; exact hx.1); have zB : True := trivial; have c2' := C1.q2; have f2' := C1.fq 2; have hbw := C1.z; have hne : (Value.slice av L.length cv).ownBlock ≠ some (w.heap.size + 1 + 1) := (fun q => by have := (R1.row.lt _ q).1; omega); have hrow := R1.row; have hxl := hrow.1; have hsz1 := hb1.size; have HC : Hid _ := C1; have HRR : Hid _ := R1; clear C1 R1 hb1 o1)
            | (have _ := zB; refine step_append_own rfl (.tmp 33) (.tmp 41) 35 rfl (w.heap.size + 1 + 1 + 1) 37 i0 _ 3 40 Tryz.underlying35 hi0 hz0 hz1 hz2 rfl (by decide) (.slice av L.length cv) L.length (cs3 (L.map FE.cells)) (by first | (simp [Act.eval]; done) | simp [Act.eval, Act.put]) (own_on hrow (by repeat (first | exact Below.refl _ _ | refine Below.drew ?_ | refine Below.alloc ?_ (by simp) _))) ⟨w1.heap.size, 0, none⟩ 1 1 [.int .i64 P.f, .int .i64 P.v, .slice a1 P.kids.length c1] (by first | (simp [Act.eval]; done) | simp [Act.eval, Act.put]) rfl (three_at (by simp) (by simp) (by simp)) (three_cell _ _ _ _ _) (by unfold maxLen; omega) (by omega) (by simp <;> omega) ?_; intro v5 w5 hown5 hgrow5 hat5; have HA5 : Hid _ := hat5; obtain ⟨g5, c5, rfl, _⟩ := own_slot hown5; have HO5 : Hid _ := hown5; have HG5 : Hid _ := hgrow5; have A5 := cpy_app HC.out HRR.out (by repeat (first | exact Below.refl _ _ | refine Below.drew ?_ | refine Below.alloc ?_ (by simp) _)) hown5 hgrow5 hat5; have c4' := A5.1.q2; have f4' := A5.1.fq 2; have HA : Hid _ := A5; clear A5 hown5 hgrow5 hat5)
            | (refine step_append_own rfl (.tmp 33) (.tmp 41) 35 rfl (w.heap.size + 1 + 1 + 1) 37 i0 _ 3 40 Tryz.underlying35 hi0 hz0 hz1 hz2 rfl (by decide) (.slice av L.length cv) L.length (cs3 (L.map FE.cells)) (by first | (simp [Act.eval]; done) | simp [Act.eval, Act.put]) (own_on hrow (by repeat (first | exact Below.refl _ _ | refine Below.drew ?_ | refine Below.alloc ?_ (by simp) _))) ⟨wr.heap.size, 0, none⟩ 1 1 [.int .i64 0, .int .i64 0, .slice none 0 0] (by first | (simp [Act.eval]; done) | simp [Act.eval, Act.put]) rfl (three_at z0 z1 z2) (three_cell _ _ _ _ _) (by unfold maxLen; omega) (by omega) (by simp <;> omega) ?_; intro v5 w5 hown5 hgrow5 hat5; have PF := put_facts hrow.1 hown5 hgrow5 hat5 (by repeat (first | exact Below.refl _ _ | refine Below.drew ?_ | refine Below.alloc ?_ (by simp) _)) hbw c2' f2' hne; have HA5 : Hid _ := hat5; obtain ⟨g5, c5, rfl, ⟨e0, e1, e2⟩, ⟨f0, f1, f2⟩, c4', f4', hg5, hc5, hat'⟩ := PF; have HO5 : Hid _ := hown5; have HG5 : Hid _ := hgrow5; clear hown5 hgrow5 hat5))
          all_goals
            clear c4' f4'
            have A5 := HA.out
            have C6 := A5.1.set (.slice (some ⟨g5, 0, none⟩) (L.length + 1) c5)
            have R6 := A5.2.set (p := ⟨w.heap.size + 1 + 1, 2, none⟩) (.slice (some ⟨g5, 0, none⟩) (L.length + 1) c5) (by simp only; omega)
            clear A5 HA
            go_wp2_with fail
            refine ⟨⟨k + 1, L ++ [⟨P, a1, c1, _⟩], some ⟨g5, 0, none⟩, c5, by omega, by go_num, by simpa using C6, R6, ?_⟩, by simp [intOf]; omega⟩
            show _ = _
            rw [fe_snoc, HK.out]
        · have E : Hid (k = ks0.length) := (by omega : k = ks0.length)
          have q0 := C.q0
          have q1 := C.q1
          have q2 := C.q2
          have r0 := C.r0
          have r1 := C.r1
          have r2 := C.r2
          simp only [mk_f, mk_v] at q0 q1 q2 r0 r1 r2
          have fr := C.fr
          have hL : Hid (L.map FE.t = ks0.map (putV us)) := by
            show _ = _
            rw [HL.out, E.out, List.take_length]
          have O : OwnR wr (fun x => w.heap.size + 1 + 1 + 1 ≤ x ∧ x < wr.heap.size) av cv (L.map FE.t) := by
            rcases R.row.2 with ⟨hv, h0⟩ | ⟨g, cap, _, hv, _⟩
            · have : L = [] := List.length_eq_zero_iff.1 h0
              subst this; cases hv; exact .nil _
            · cases hv
              exact (by simpa using R.fo : Forest wr _ L).owns R.row (fun e he => R.ap g rfl e (by simpa using he)) (by omega)
          have hcl : L.length ≤ cv := by obtain ⟨_, _, h, hh⟩ := own_form R.row; cases h; exact hh
          have hbel := C.bel
          clear C R HL E ih
          go_wp2_with fail
          obtain ⟨z0, z1, z2⟩ := set3_cells (u := wr) (r := w.heap.size + 1) (x := .int .i64 f0) (y := .int .i64 v0) (z := .slice av L.length cv) r0 r1 r2
          have hn : ¬ (w.heap.size + 1 + 1 + 1 ≤ w.heap.size + 1 ∧ w.heap.size + 1 < wr.heap.size) := by omega
          have O3 := ((O.setCell ⟨w.heap.size + 1, 0, none⟩ hn (.int .i64 f0)).setCell ⟨w.heap.size + 1, 1, none⟩ hn (.int .i64 v0)).setCell ⟨w.heap.size + 1, 2, none⟩ hn (.slice av L.length cv)
          rw [← hL.out, List.length_map]
          refine bodyPost_ret (v := .agg #[.int .i64 f0, .int .i64 v0, .slice av L.length cv]) (by simp [results, Tryz.results34, go_sem, z0, z1, z2]) rfl ⟨av, cv, rfl, O3.mono (fun x hx => ⟨by omega, by simpa using hx.2⟩), by simpa using hcl, HWF.out, ?_⟩
          exact ((hbel.setCell (p := ⟨w.heap.size + 1, 0, none⟩) (by simp) _).setCell (p := ⟨w.heap.size + 1, 1, none⟩) (by simp) _).setCell (p := ⟨w.heap.size + 1, 2, none⟩) (by simp) _
end Go.Proofs.YthbilahilmmfmabGreat

/- A term with what is put for its variables, in one form: the specification's way. Conditions: as its size is told. -/
namespace Go.Proofs.YthbilahilmmfmabGreat
set_option maxRecDepth 100000
open Go.RowKit

set_option maxHeartbeats 1600000 in
theorem specApply_any (sa : Option Addr) (ss : List SymD) (sc : Nat) (us : List BindD) (ua : Option Addr) (uc : Nat) (t : TermD) (a : Option Addr) (c hi : Nat) (w : World) (hsl : ss.length ≤ 1048577) (hpu : partsU us ≤ 549755813887) (hu : RdU w hi ua us) (hs : RdS w sa ss)
    (hpt : partsT t ≤ 549755813888) (hpp : partsT (putV us t) ≤ 549755813888) (hr : RdK w hi a t.kids) (hhi : hi ≤ w.heap.size) (hwf : isW t.f ∧ isW t.v) :
    Calls Tryz.prog 20 #[.slice sa ss.length sc, .slice ua us.length uc, .agg #[.int .i64 t.f, .int .i64 t.v, .slice a t.kids.length c]] w fun e w' => ∃ a' c', e = .returned (.agg #[.int .i64 (putV us t).f, .int .i64 (putV us t).v, .slice a' (normT (blindAt ss) (putV us t)).kids.length c']) ∧ OwnS w' (fun k => w.heap.size ≤ k ∧ k < w'.heap.size) a' (normT (blindAt ss) (putV us t)).kids ∧ Below w.heap.size w w' := by
  obtain ⟨W, hW⟩ : ∃ W, W = (w.alloc (.cells #[.int .i64 t.f, .int .i64 t.v, .slice a t.kids.length c] 37)).alloc (.cells #[.int .i64 0, .int .i64 0, .slice none 0 0] 37) := ⟨_, rfl⟩
  have hb0 : Below w.heap.size w W := by rw [hW]; exact ((Below.refl _ _).alloc (Nat.le_refl _) _).alloc (by simp) _
  have nb0 : NB w W := ⟨hb0, by rw [hW]; simp [go_sem], by rw [hW]; simp [go_sem], by rw [hW]; simp [go_sem], fun j => by rw [hW]; simp [go_sem], by rw [hW]; simp⟩
  have C1 := l6Put_any us ua uc hpu 549755813888 t a c hi W hpt (Nat.le_refl _) (hu.on (hb0.mono hhi)) (hr.on (hb0.mono hhi)) (Nat.le_trans hhi hb0.size) hwf.1 hwf.2
  obtain ⟨P, hP⟩ : ∃ P, P = putV us t := ⟨_, rfl⟩
  rw [← hP] at hpp C1 ⊢
  have HS : Hid (RdS w sa ss) := hs
  have HW : Hid (W = (w.alloc (.cells #[.int .i64 t.f, .int .i64 t.v, .slice a t.kids.length c] 37)).alloc (.cells #[.int .i64 0, .int .i64 0, .slice none 0 0] 37)) := hW
  have hWz := nb0.z
  clear hu hs hr hW hb0 hwf hP
  go_enter Tryz.func20, Tryz.ntmps20
  go_wp2_with (first
    | (go_at_call 34; rw [← HW.out]; refine C1.mono ?_; rintro e w3 ⟨a3, c3, rfl, ho3, hle3, hw3, hb3⟩; have nb3 := nb0.on hb3; have C3 := specNorm_any ss sa sc hsl 549755813888 P a3 c3 w3.heap.size w3 hpp (Nat.le_refl _) ho3.rd (Nat.le_refl _) hw3.1 hw3.2 (HS.out.below nb3.be); clear C1 nb0 ho3)
    | (go_at_call 33; refine C3.mono ?_; rintro e w4 ⟨a', c', rfl, ho4, hc4, hb4⟩; have nb4 := nb3.on hb4; have d0 := nb4.c0; have d1 := nb4.c1; have d2 := nb4.c2; have df := nb4.cf; have hz4 := nb4.z; have hz34 := nb3.z; clear C3))
  obtain ⟨z0, z1, z2⟩ := set3_cells (u := w4) (r := w.heap.size + 1) (x := .int .i64 P.f) (y := .int .i64 P.v) (z := .slice a' (normT (blindAt ss) P).kids.length c') d0 d1 d2
  have hnS : ∀ j, ¬ (w3.heap.size ≤ (⟨w.heap.size + 1, j, none⟩ : Addr).block ∧ (⟨w.heap.size + 1, j, none⟩ : Addr).block < w4.heap.size) := fun j q => by have := q.1; simp only at this; omega
  have hoF := ((ho4.s.setCell ⟨w.heap.size + 1, 0, none⟩ (hnS 0) (.int .i64 P.f)).setCell ⟨w.heap.size + 1, 1, none⟩ (hnS 1) (.int .i64 P.v)).setCell ⟨w.heap.size + 1, 2, none⟩ (hnS 2) (.slice a' (normT (blindAt ss) P).kids.length c')
  have hbF := ((nb4.be.setCell (p := ⟨w.heap.size + 1, 0, none⟩) (by simp) (.int .i64 P.f)).setCell (p := ⟨w.heap.size + 1, 1, none⟩) (by simp) (.int .i64 P.v)).setCell (p := ⟨w.heap.size + 1, 2, none⟩) (by simp) (.slice a' (normT (blindAt ss) P).kids.length c')
  refine bodyPost_ret (v := .agg #[.int .i64 P.f, .int .i64 P.v, .slice a' (normT (blindAt ss) P).kids.length c']) (by simp [results, Tryz.results20, go_sem, z0, z1, z2]) rfl ⟨a', c', rfl, hoF.mono (fun k hk => ⟨by omega, by simpa using hk.2⟩), hbF⟩
end Go.Proofs.YthbilahilmmfmabGreat

/- All terms within a term, in the order in which the program goes over them, and its stack of lists. Conditions: none. -/
namespace Go.Proofs.YthbilahilmmfmabGreat
set_option maxRecDepth 100000
open Go.RowKit

mutual
/-- A term and all terms within it, a term ahead of its Kids. -/
def preT : TermD → List TermD
  | .mk f v ks => .mk f v ks :: preL ks
def preL : List TermD → List TermD
  | [] => []
  | t :: ts => preT t ++ preL ts
end
theorem preT_eq (t : TermD) : preT t = t :: preL t.kids := by cases t; rw [preT]; rfl
mutual
theorem preT_len : ∀ t : TermD, (preT t).length = partsT t
  | .mk f v ks => by have := preL_len ks; rw [preT, partsT, List.length_cons, this]
theorem preL_len : ∀ ts : List TermD, (preL ts).length = partsL ts
  | [] => by simp [preL, partsL]
  | t :: ts => by have h1 := preT_len t; have h2 := preL_len ts; rw [preL, partsL, List.length_append, h1, h2]
end
/-- How often variable v stands among terms. -/
def cntP (v : Int) (l : List TermD) : Nat := (l.filter fun x => x.f == -1 && x.v == v).length
theorem cntP_append (v : Int) (a b : List TermD) : cntP v (a ++ b) = cntP v a + cntP v b := by simp [cntP]
mutual
theorem cntP_pre (v : Int) : ∀ t : TermD, cntP v (preT t) = cntT v t
  | .mk f u ks => by
    have := cntP_preL v ks
    rw [preT, cntT, ← this, show TermD.mk f u ks :: preL ks = [TermD.mk f u ks] ++ preL ks from rfl, cntP_append]
    congr 1
    by_cases h1 : f = -1 <;> by_cases h2 : u = v <;> simp [cntP, TermD.f, TermD.v, h1, h2]
theorem cntP_preL (v : Int) : ∀ ts : List TermD, cntP v (preL ts) = cntL v ts
  | [] => by simp [preL, cntL, cntP]
  | t :: ts => by have h1 := cntP_pre v t; have h2 := cntP_preL v ts; rw [preL, cntL, cntP_append, h1, h2]
end

/-- What comes to the loop: a term, and where its Kids lie. -/
structure El where
  t : TermD
  a : Option Addr
  c : Nat
/-- As it comes. -/
def El.enc (x : El) : Array Value := #[.agg #[.int .i64 x.t.f, .int .i64 x.t.v, .slice x.a x.t.kids.length x.c]]

/-- One list on the stack. -/
structure LE where
  a : Option Addr
  c : Nat
  ts : List TermD
def cellsL : List LE → List Value
  | [] => []
  | e :: E => cellsL E ++ [.slice e.a e.ts.length e.c]
theorem cellsL_len (E : List LE) : (cellsL E).length = E.length * 1 := by
  induction E with
  | nil => rfl
  | cons e E ih => simp only [cellsL, List.length_append, ih, List.length_cons, List.length_nil]; omega
/-- All that is still to come. -/
def preS : List LE → List TermD
  | [] => []
  | e :: E => preL e.ts ++ preS E
def sizeL : List LE → Nat
  | [] => 0
  | e :: E => 2 * partsL e.ts + 1 + sizeL E
theorem sizeL_len (E : List LE) : E.length ≤ sizeL E := by
  induction E with
  | nil => simp
  | cons e E ih => simp only [sizeL, List.length_cons]; omega

theorem cellsL_top {w : World} {B T g c : Nat} {e : LE} {E : List LE} (h : w.ownsRow B T 1 (.slice (some ⟨g, 0, none⟩) (E.length + 1) c) (E.length + 1) (cellsL (e :: E))) :
    w.cell? ⟨g, E.length, none⟩ = some (.slice e.a e.ts.length e.c) := by
  have hl := cellsL_len E
  refine (h.cellAt _ (by omega)).trans ?_
  rw [cellsL, List.getElem?_append_right (by omega)]; simp [hl]
theorem cellsL_set {w : World} {B T g c : Nat} {e : LE} {E : List LE} (h : w.ownsRow B T 1 (.slice (some ⟨g, 0, none⟩) (E.length + 1) c) (E.length + 1) (cellsL (e :: E))) (d : LE) :
    (w.setCell ⟨g, E.length, none⟩ (.slice d.a d.ts.length d.c)).ownsRow B T 1 (.slice (some ⟨g, 0, none⟩) (E.length + 1) c) (E.length + 1) (cellsL (d :: E)) := by
  have hl := cellsL_len E
  have h1 := (h.stored E.length (.slice d.a d.ts.length d.c)).1
  have e1 : (cellsL (e :: E)).set E.length (.slice d.a d.ts.length d.c) = cellsL (d :: E) := by
    simp only [cellsL]
    rw [List.set_append_right _ _ (by omega)]
    simp [hl]
  rwa [e1] at h1
theorem cellsL_pop {w : World} {B T g c : Nat} {e : LE} {E : List LE} (h : w.ownsRow B T 1 (.slice (some ⟨g, 0, none⟩) (E.length + 1) c) (E.length + 1) (cellsL (e :: E))) :
    w.ownsRow B T 1 (.slice (some ⟨g, 0, none⟩) E.length c) E.length (cellsL E) := ownsRow_pop (cellsL_len E) h

/-- The blocks in which the terms lie. -/
def Rx (n B k : Nat) : Prop := k < n ∨ k = B

/-- The list at 'a' lies in wr, in a block of S; its terms' Kids lie in w0 below n. -/
def RdF (w0 : World) (n : Nat) (wr : World) (S : Nat → Prop) (a : Option Addr) (ts : List TermD) : Prop :=
  ts = [] ∨ ∃ (b off : Nat) (A : Nat → Option Addr) (C : Nat → Nat), a = some ⟨b, off, none⟩ ∧ S b ∧ (∀ i, (h : i < ts.length) → ts[i].kids.length ≤ C i) ∧
    (∀ i, (h : i < ts.length) → wr.cell? ⟨b, off + i * 3, none⟩ = some (.int .i64 ts[i].f) ∧ wr.cell? ⟨b, off + i * 3 + 1, none⟩ = some (.int .i64 ts[i].v) ∧ wr.cell? ⟨b, off + i * 3 + 2, none⟩ = some (.slice (A i) ts[i].kids.length (C i))) ∧
    (∀ i, (h : i < ts.length) → RdK w0 n (A i) ts[i].kids)
theorem RdF.stay {w0 wr wr' : World} {n : Nat} {S : Nat → Prop} {a : Option Addr} {ts : List TermD} (h : RdF w0 n wr S a ts) (hb : Stay S wr wr') : RdF w0 n wr' S a ts := by
  rcases h with h | ⟨b, off, A, C, h1, h2, h3, h4, h5⟩
  · exact .inl h
  · refine .inr ⟨b, off, A, C, h1, h2, h3, fun i hi => ?_, h5⟩
    obtain ⟨q0, q1, q2⟩ := h4 i hi
    exact ⟨hb.cell q0 h2, hb.cell q1 h2, hb.cell q2 h2⟩
theorem RdF.head {w0 wr : World} {n : Nat} {S : Nat → Prop} {a : Option Addr} {t : TermD} {ts : List TermD} (h : RdF w0 n wr S a (t :: ts)) :
    ∃ b off a' c', a = some ⟨b, off, none⟩ ∧ S b ∧ wr.cell? ⟨b, off, none⟩ = some (.int .i64 t.f) ∧ wr.cell? ⟨b, off + 1, none⟩ = some (.int .i64 t.v) ∧ wr.cell? ⟨b, off + 2, none⟩ = some (.slice a' t.kids.length c') ∧ t.kids.length ≤ c' ∧ RdK w0 n a' t.kids := by
  rcases h with h | ⟨b, off, A, C, h1, h2, h3, h4, h5⟩
  · simp at h
  · have q := h4 0 (by simp)
    simp only [Nat.zero_mul, Nat.add_zero, List.getElem_cons_zero] at q
    exact ⟨b, off, A 0, C 0, h1, h2, q.1, q.2.1, q.2.2, h3 0 (by simp), h5 0 (by simp)⟩
theorem RdF.tailA {w0 wr : World} {n : Nat} {S : Nat → Prop} {b off : Nat} {t : TermD} {ts : List TermD} (h : RdF w0 n wr S (some ⟨b, off, none⟩) (t :: ts)) {c : Nat} (hc : ts.length + 1 ≤ c) : RdF w0 n wr S (tailA b off c) ts := by
  rcases h with h | ⟨b', off', A, C, h1, h2, h3, h4, h5⟩
  · simp at h
  · cases h1
    unfold Go.Proofs.YthbilahilmmfmabGreat.tailA
    split
    · exact .inl (List.eq_nil_of_length_eq_zero (by omega))
    · refine .inr ⟨b, off + 3, fun i => A (i + 1), fun i => C (i + 1), rfl, h2, fun i hi => ?_, fun i hi => ?_, fun i hi => ?_⟩
      · have := h3 (i + 1) (by simpa using hi); simpa using this
      · have := h4 (i + 1) (by simpa using hi)
        rw [show off + (i + 1) * 3 = off + 3 + i * 3 by omega] at this
        simpa using this
      · have := h5 (i + 1) (by simpa using hi); simpa using this
theorem RdK.f {w0 wr : World} {n : Nat} {S : Nat → Prop} {a : Option Addr} {ts : List TermD} (h : RdK w0 n a ts) (he : ∀ k, k < n → wr.heap[k]? = w0.heap[k]?) (hs : ∀ k, k < n → S k) : RdF w0 n wr S a ts := by
  cases h with
  | nil a => exact .inl rfl
  | row b off ts A C hlt hl hz hc hk =>
    refine .inr ⟨b, off, A, C, rfl, hs _ hlt, hl.2, fun i hi => ?_, hk⟩
    obtain ⟨q0, q1, q2⟩ := hc i hi
    exact ⟨(World.cell?_of_block (he b hlt)).trans q0, (World.cell?_of_block (he b hlt)).trans q1, (World.cell?_of_block (he b hlt)).trans q2⟩
/-- It read so before what came behind it was laid. -/
theorem RdK.back {w w' : World} {hi : Nat} {a : Option Addr} {ts : List TermD} (h : RdK w' hi a ts) (hb : ∀ k, k < hi → w'.heap[k]? = w.heap[k]?) : RdK w hi a ts := by
  induction h with
  | nil a => exact .nil a
  | row b off ts A C hlt hl hz hc hk ih =>
    refine .row b off ts A C hlt hl hz (fun i h => ?_) ih
    obtain ⟨h0, h1, h2⟩ := hc i h
    exact ⟨(World.cell?_of_block (hb b hlt).symm).trans h0, (World.cell?_of_block (hb b hlt).symm).trans h1, (World.cell?_of_block (hb b hlt).symm).trans h2⟩

/-- The iterator's own memory, apart from the blocks of S. -/
structure WSt (w0 : World) (n B T : Nat) (S : Nat → Prop) (E : List LE) (v : Value) (wr : World) : Prop where
  row : wr.ownsRow n T 1 v E.length (cellsL E)
  own : ∀ g, v.ownBlock = some g → ¬ S g ∧ g ≠ B
  nB : ¬ S B
  lB : B < wr.heap.size
  nle : n ≤ B
  good : ∀ e ∈ E, RdF w0 n wr (Rx n B) e.a e.ts ∧ e.ts.length ≤ e.c
  same : ∀ k, k < n → wr.heap[k]? = w0.heap[k]?

namespace WSt
variable {w0 : World} {n B T : Nat} {S S' : Nat → Prop} {E : List LE} {v : Value} {wr wr' : World}

theorem out (h : WSt w0 n B T S E v wr) : ∀ g, v.ownBlock = some g → ¬ Rx n B g := fun g hg hx => hx.elim (fun h1 => by have := (h.row.lt g hg).1; omega) (h.own g hg).2

/-- New blocks alone. -/
theorem on (h : WSt w0 n B T S E v wr) (hb : Below wr.heap.size wr wr') : WSt w0 n B T S E v wr' :=
  ⟨own_on h.row hb, h.own, h.nB, Nat.lt_of_lt_of_le h.lB hb.size, h.nle, fun e he => ⟨(h.good e he).1.stay (.of_below hb (fun _ hk _ => hk)), (h.good e he).2⟩, fun k hk => (hb.block k (by have := h.lB; have := h.nle; omega)).trans (h.same k hk)⟩

/-- Over a round: the body turns nothing below n, nor outside S. -/
theorem round (h : WSt w0 n B T S E v wr) (hs : Stay (fun k => k < n ∨ ¬ S k) wr wr') (hS : ∀ k, S' k → S k ∨ wr.heap.size ≤ k) : WSt w0 n B T S' E v wr' := by
  have hl := h.row.lt
  refine ⟨own_stay h.row hs (fun g hg => .inr (h.own g hg).1), fun g hg => ⟨fun hg' => ?_, (h.own g hg).2⟩, fun hB => ?_, Nat.lt_of_lt_of_le h.lB hs.size, h.nle, fun e he => ⟨(h.good e he).1.stay (hs.weak (fun _ _ hk => hk.elim .inl (fun e => .inr (e ▸ h.nB)))), (h.good e he).2⟩, fun k hk => (hs.block k (by have := h.lB; have := h.nle; omega) (.inl hk)).trans (h.same k hk)⟩
  · rcases hS g hg' with h1 | h1
    · exact (h.own g hg).1 h1
    · have := (hl g hg).2; omega
  · rcases hS B hB with h1 | h1
    · exact h.nB h1
    · have := h.lB; omega

theorem pop {g c : Nat} {e : LE} (h : WSt w0 n B T S (e :: E) (.slice (some ⟨g, 0, none⟩) (E.length + 1) c) wr) : WSt w0 n B T S E (.slice (some ⟨g, 0, none⟩) E.length c) wr :=
  ⟨cellsL_pop h.row, fun g' hg => h.own g' hg, h.nB, h.lB, h.nle, fun e he => h.good e (by simp [he]), h.same⟩

theorem set {g c : Nat} {e d : LE} (h : WSt w0 n B T S (e :: E) (.slice (some ⟨g, 0, none⟩) (E.length + 1) c) wr) (hd : RdF w0 n wr (Rx n B) d.a d.ts ∧ d.ts.length ≤ d.c) :
    WSt w0 n B T S (d :: E) (.slice (some ⟨g, 0, none⟩) (E.length + 1) c) (wr.setCell ⟨g, E.length, none⟩ (.slice d.a d.ts.length d.c)) := by
  have hs : Stay (Rx n B) wr (wr.setCell ⟨g, E.length, none⟩ (.slice d.a d.ts.length d.c)) := Stay.setCell _ _ (h.out g rfl)
  refine ⟨cellsL_set h.row d, h.own, h.nB, Nat.lt_of_lt_of_le h.lB hs.size, h.nle, fun f hf => ?_, fun k hk => (hs.block k (by have := h.lB; have := h.nle; omega) (.inl hk)).trans (h.same k hk)⟩
  rcases List.mem_cons.1 hf with rfl | hf
  · exact ⟨hd.1.stay hs, hd.2⟩
  · exact ⟨(h.good f (by simp [hf])).1.stay hs, (h.good f (by simp [hf])).2⟩

theorem push {v' : Value} {d : LE} (h : WSt w0 n B T S E v wr) (hS : ∀ k, S k → k < wr.heap.size) (hrow : wr'.ownsRow n T 1 v' (E.length + 1) (cellsL E ++ [.slice d.a d.ts.length d.c])) (hg : wr.grownBy wr' v.ownBlock) (hv : v'.ownBlock = v.ownBlock ∨ v'.ownBlock = some wr.heap.size) (hd : RdF w0 n wr (Rx n B) d.a d.ts ∧ d.ts.length ≤ d.c) :
    WSt w0 n B T S (d :: E) v' wr' := by
  have hs : Stay (Rx n B) wr wr' := .grown hg (fun k hk => h.out k hk)
  refine ⟨hrow, fun g hg' => ?_, h.nB, Nat.lt_of_lt_of_le h.lB hs.size, h.nle, fun f hf => ?_, fun k hk => (hs.block k (by have := h.lB; have := h.nle; omega) (.inl hk)).trans (h.same k hk)⟩
  · rcases hv with e | e
    · exact h.own g (e ▸ hg')
    · rw [hg'] at e
      cases e
      exact ⟨fun h1 => by have := hS _ h1; omega, fun e => by have := h.lB; omega⟩
  · rcases List.mem_cons.1 hf with rfl | hf
    · exact ⟨hd.1.stay hs, hd.2⟩
    · exact ⟨(h.good f hf).1.stay hs, (h.good f hf).2⟩
end WSt

theorem one_slice (x : Option Addr) (l c : Nat) : ∀ u ∈ [Value.slice x l c], u.oneCell' = true := by
  intro u hu; simp at hu; subst hu; rfl
theorem one_new1 (w : World) (u : Value) (t : TypeId) (n : Nat) (hn : n = w.heap.size) : ∀ j v, [u][j]? = some v → (w.alloc (.cells #[u] t)).cell? ((⟨n, 0, none⟩ : Addr).add j) = some v := by
  subst hn
  intro j v hj
  match j, hj with
  | 0, hj => simp at hj; subst hj; simp [Addr.add]
  | j + 1, hj => simp at hj
end Go.Proofs.YthbilahilmmfmabGreat

/- The program's iterator over all terms within a term: its contract. Conditions: terms of at most 549755813888 parts. -/
namespace Go.Proofs.YthbilahilmmfmabGreat
set_option maxRecDepth 100000
open Go.RowKit Go.Shelf
attribute [local go_sem] Oper.semAt_some

theorem info24 : (Tryz.prog.info? 35).map (fun i => (i.zero, i.size, i.bytes)) = some (some (.slice none 0 0), 1, 24) := by kernel_rfl

/-- What comes next: a term within t, all ahead of it having come; its Kids read. -/
def InT (w : World) (n₀ : Nat) (t : TermD) (pre : List El) (x : El) : Prop := (∃ r, pre.map El.t ++ x.t :: r = preT t) ∧ RdK w n₀ x.a x.t.kids ∧ x.t.kids.length ≤ x.c

/-- What holds between two rounds. -/
structure WRel (w0 : World) (n B M : Nat) (t : TermD) (J : List El → (Nat → Prop) → World → Prop) (pre : List El) (S : Nat → Prop) (E : List LE) (v : Value) (wr : World) : Prop where
  st : WSt w0 n B 35 S E v wr
  j : J pre S wr
  got : pre.map El.t ++ preS E = preT t
  size : sizeL E ≤ M

theorem with_start {t : TermD} {a : Option Addr} {c hi n : Nat} {w W : World} {S : Nat → Prop} (hc : t.kids.length ≤ c) (hr : RdK w hi a t.kids) (hhi : hi ≤ n) (hn : n ≤ w.heap.size) (hbW : Below w.heap.size w W) (hS : ∀ k, S k → k < W.heap.size) :
    WSt w n W.heap.size 35 S [⟨some ⟨W.heap.size, 0, none⟩, 1, [t]⟩] (.slice (some ⟨W.heap.size + 1, 0, none⟩) 1 1) ((W.alloc (.cells #[.int .i64 t.f, .int .i64 t.v, .slice a t.kids.length c] 37)).alloc (.cells #[.slice (some ⟨W.heap.size, 0, none⟩) 1 1] 35)) := by
  have hrow := World.ownsRow_lit (base := n) (size := 1) (e := 35) (W.alloc (.cells #[.int .i64 t.f, .int .i64 t.v, .slice a t.kids.length c] 37)) #[.slice (some ⟨W.heap.size, 0, none⟩) 1 1] 1 (by simp; have := hbW.size; omega) (by unfold maxLen; omega) rfl
  rw [World.size_alloc] at hrow
  have hb : Below W.heap.size W ((W.alloc (.cells #[.int .i64 t.f, .int .i64 t.v, .slice a t.kids.length c] 37)).alloc (.cells #[.slice (some ⟨W.heap.size, 0, none⟩) 1 1] 35)) := ((Below.refl _ _).alloc (Nat.le_refl _) _).alloc (by simp) _
  refine ⟨hrow, fun g hg => ?_, fun h => by have := hS _ h; omega, by simp; omega, Nat.le_trans hn hbW.size, fun e he => ?_, fun k hk => (hb.block k (by have := hbW.size; omega)).trans (hbW.block k (by omega))⟩
  · have e : W.heap.size + 1 = g := by simpa [Value.ownBlock] using hg
    subst e
    exact ⟨fun h => by have := hS _ h; omega, by omega⟩
  · simp only [List.mem_singleton] at he
    subst he
    refine ⟨.inr ⟨W.heap.size, 0, fun _ => a, fun _ => c, rfl, .inr rfl, fun i hi => ?_, fun i hi => ?_, fun i hi => ?_⟩, Nat.le_refl _⟩
    all_goals
      have e : i = 0 := by simp at hi; omega
      subst e
      simp only [List.getElem_cons_zero]
    · exact hc
    · simp [go_sem]
    · exact hr.mono hhi

set_option maxHeartbeats 3200000 in
set_option maxRecDepth 100000 in
theorem within_seq (F : Fence) (n : Nat) (h64 : F.fn 75) (hro : F.round = none) (hn : 1 ≤ n) (w : World) (t : TermD) (a : Option Addr) (c hi n₀ Bt : Nat) (hp : partsT t ≤ 549755813888) (hc : t.kids.length ≤ c) (hr : RdK w hi a t.kids) (hhi : hi ≤ n₀) (hn₀ : n₀ ≤ w.heap.size)
    (b0 : w.cell? ⟨Bt, 0, none⟩ = some (.int .i64 t.f)) (b1 : w.cell? ⟨Bt, 1, none⟩ = some (.int .i64 t.v)) (b2 : w.cell? ⟨Bt, 2, none⟩ = some (.slice a t.kids.length c)) :
    SeqPriv F n Tryz.prog 75 #[.pointer (some ⟨Bt, 0, none⟩)] El.enc n₀ (fun xs => xs.map El.t = preT t) (fun pre => ∃ r, pre.map El.t ++ r = preT t) (InT w n₀ t) (partsT t) w := by
  intro l J Jx S₀ W hbW hJ hJx hJb hY h0
  obtain ⟨i0, hi0, hz0, hz1, hz2⟩ := info_parts info24
  have c0 := keepC hbW b0
  have c1 := keepC hbW b1
  have c2 := keepC hbW b2
  refine callsIn_of_wp Tryz.func75 rfl h64 ?_ hro
  simp only [Tryz.ntmps75, List.size_toArray, List.length_cons, List.length_nil, Nat.reduceAdd, Nat.reduceSub, Array.replicate_succ, Array.replicate_zero, List.push_toArray, List.append_toArray, List.nil_append, List.cons_append]
  have st0 := with_start (S := S₀) hc hr hhi hn₀ hbW (hJb _ _ _ h0)
  have R0 : WRel w n₀ W.heap.size (2 * partsT t + 1) t J [] S₀ [⟨some ⟨W.heap.size, 0, none⟩, 1, [t]⟩] (.slice (some ⟨W.heap.size + 1, 0, none⟩) 1 1) ((W.alloc (.cells #[.int .i64 t.f, .int .i64 t.v, .slice a t.kids.length c] 37)).alloc (.cells #[.slice (some ⟨W.heap.size, 0, none⟩) 1 1] 35)) :=
    ⟨st0, hJ _ _ _ _ (hJ _ _ _ _ h0 (.alloc _ _ _)) (.alloc _ _ _), by simp [preS, preL], by simp [sizeL, partsL]⟩
  have HM : Hid (2 * partsT t + 1 ≤ 1099511627777) := (by omega : 2 * partsT t + 1 ≤ 1099511627777)
  have HJ : Hid (∀ pre S A B, J pre S A → Stay S A B → J pre S B) := hJ
  have HJB : Hid (∀ pre S A, J pre S A → ∀ k, S k → k < A.heap.size) := hJb
  have HY : Hid (∀ pre x S A, J pre S A → pre.length < partsT t → InT w n₀ t pre x → YieldAt F (n - 1) Tryz.prog l (El.enc x) A fun e B =>
      (e = .returned (.bool true) ∧ ∃ S', J (pre ++ [x]) S' B ∧ (∀ k, S' k → S k ∨ A.heap.size ≤ k) ∧ Stay (fun k => k < n₀ ∨ ¬ S k) A B) ∨
      (e = .returned (.bool false) ∧ ∃ S', Jx (pre ++ [x]) S' B)) := hY
  clear hJ hJx hJb hY h0 st0 b0 b1 b2 hr hp hc hhi
  have HPT : Hid ((preT t).length = partsT t) := preT_len t
  generalize 2 * partsT t + 1 = M at *
  gi_wp2
  clear c0 c1 c2
  generalize W.heap.size = B at *
  gi_loopw [3] (fun v wr => ∃ pre S E, WRel w n₀ B M t J pre S E v wr) (fun v wr => leastN (fun m => ∃ pre S E, WRel w n₀ B M t J pre S E v wr ∧ sizeL E = m))
  case atStart => exact ⟨_, _, _, R0⟩
  case round =>
    obtain ⟨pre1, S1, E1, R1⟩ := hrel
    obtain ⟨m0, ⟨pre, S, E, R, hm0⟩, hmin⟩ := leastN_spec (p := fun m => ∃ pre S E, WRel w n₀ B M t J pre S E u3 wr ∧ sizeL E = m) ⟨_, pre1, S1, E1, R1, rfl⟩
    clear R1 R0
    obtain ⟨st, hj, hgot, hsz⟩ := R
    cases E with
    | nil =>
      obtain ⟨a5, c5, rfl, _⟩ := own_form st.row
      have HG : Hid (pre.map El.t = preT t) := by show _ = _; simpa [preS] using hgot
      clear st hmin hm0 hgot
      gi_wp2
      go_end0
      exact ⟨⟨_, rfl⟩, .inl ⟨pre, S, HG.out, hj⟩⟩
    | cons e E =>
      obtain ⟨g, cap, rfl, hcap, hg0, hgl⟩ := own_slot st.row
      have q0 := cellsL_top st.row
      obtain ⟨hrd, hlec⟩ := st.good e (by simp)
      have hlen := sizeL_len (e :: E)
      have HM' := HM.out
      have hEl : E.length ≤ 1099511627776 := by simp only [List.length_cons] at hlen; omega
      have hEi : (E.length : Int) ≤ cap := by omega
      clear hlen HM'
      obtain ⟨ea, ec, ets⟩ := e
      cases ets with
      | nil =>
        have R' : WRel w n₀ B M t J pre S E (.slice (some ⟨g, 0, none⟩) E.length cap) wr := ⟨st.pop, hj, by simpa [preS, preL] using hgot, by simp only [sizeL] at hsz; omega⟩
        have Q0 : Hid (sizeL E < m0) := by show _ < _; rw [← hm0]; simp only [sizeL]; omega
        simp only [List.length_nil] at q0
        clear st hgot hj hsz hm0 hrd hlec
        gi_wp2
        go_roundw
        case rel => exact ⟨_, _, _, R'⟩
        case measure => exact Nat.lt_of_le_of_lt (leastN_le ⟨_, _, _, R', rfl⟩) (by rw [hmin]; exact Q0.out)
      | cons x xs =>
        obtain ⟨b, off, xa, xc, hb, hSb, x0, x1, x2, hxc, hxr⟩ := hrd.head
        simp only at hb
        subst hb
        simp only [List.length_cons] at q0 hlec
        have hgg := st.out g rfl
        have hSg := (st.own g rfl).1
        have hbg : b ≠ g := fun e => hgg (e ▸ hSb)
        have hbl : b < wr.heap.size := World.block_lt_of_cell? _ _ x0
        have hbk : (0 : Int) ≤ E.length := by omega
        have hs1 := slice_tail b off xs.length ec
        have hs3 := sliceAt_tail b off xs.length ec
        have fz : ∀ j, wr.frozen? ⟨g, j, none⟩ = false := fun j => st.row.frozenAt j
        obtain ⟨W2, hW2⟩ : ∃ W2, W2 = wr.setCell ⟨g, E.length, none⟩ (.slice (tailA b off ec) xs.length (ec - 1)) := ⟨_, rfl⟩
        have hz2' : W2.heap.size = wr.heap.size := by rw [hW2]; simp
        have st2 : WSt w n₀ B 35 S (⟨tailA b off ec, ec - 1, xs⟩ :: E) (.slice (some ⟨g, 0, none⟩) (E.length + 1) cap) W2 := by
          rw [hW2]; exact st.set (d := ⟨tailA b off ec, ec - 1, xs⟩) ⟨hrd.tailA hlec, by simp only; omega⟩
        obtain ⟨W3, hW3⟩ : ∃ W3, W3 = W2.alloc (.cells #[.int .i64 x.f, .int .i64 x.v, .slice xa x.kids.length xc] 37) := ⟨_, rfl⟩
        have hb3 : Below W2.heap.size W2 W3 := by rw [hW3]; exact (Below.refl _ _).alloc (Nat.le_refl _) _
        have hz3 : W3.heap.size = wr.heap.size + 1 := by rw [hW3, ← hz2']; simp
        have st3 := st2.on hb3
        have hj3 : J pre S W3 := by
          rw [hW3, hW2]; exact HJ.out _ _ _ _ (HJ.out _ _ _ _ hj (.setCell _ _ hSg)) (.alloc _ _ _)
        have hSk := HJB.out _ _ _ hj
        have nbn : ¬ S wr.heap.size := fun h => by have := hSk _ h; omega
        have X0 : W3.cell? ⟨wr.heap.size, 0, none⟩ = some (.int .i64 x.f) ∧ W3.cell? ⟨wr.heap.size, 1, none⟩ = some (.int .i64 x.v) ∧ W3.cell? ⟨wr.heap.size, 2, none⟩ = some (.slice xa x.kids.length xc) := by
          rw [hW3, ← hz2']; simp [go_sem]
        have hxr3 : Hid (RdK w n₀ xa x.kids) := hxr
        have hin : InT w n₀ t pre ⟨x, xa, xc⟩ := ⟨⟨preL x.kids ++ (preL xs ++ preS E), by rw [← hgot]; simp [preS, preL, preT_eq]⟩, hxr, hxc⟩
        have HG : Hid ((pre ++ [(⟨x, xa, xc⟩ : El)]).map El.t ++ (preL x.kids ++ (preL xs ++ preS E)) = preT t) := by
          show _ = _
          rw [← hgot]; simp [preS, preL, preT_eq]
        have HS : Hid (sizeL (⟨xa, xc, x.kids⟩ :: ⟨tailA b off ec, ec - 1, xs⟩ :: E) < m0) := by show _ < _; rw [← hm0]; simp only [sizeL, partsL, partsT_eq]; omega
        have HS2 : Hid (m0 ≤ M) := by show _ ≤ _; rw [← hm0]; exact hsz
        have hpl : pre.length < partsT t := by rw [← HPT.out, ← hgot]; simp [preS, preL, preT_eq]
        obtain ⟨fn, tmps, assign, body, hy, hR⟩ := HY.out pre ⟨x, xa, xc⟩ S W3 hj3 hpl hin
        clear hin
        dsimp only [El.enc] at hy
        rw [hW2] at hW3
        rw [hW3] at hy
        clear st hj hgot hsz hm0 hrd st2 hxr hj3 hSk hb3 hz2' hW2
        gi_wp2
        rw [← hW3]
        refine hR.mono ?_
        rintro e W4 (⟨rfl, S', hj4, hsub, hst4⟩ | ⟨rfl, S', hjx⟩)
        · have st4 := st3.round hst4 hsub
          have X0 := hst4.cell X0.2.2 (.inr nbn)
          have HSk : Hid (∀ k, S' k → k < W4.heap.size) := HJB.out _ _ _ hj4
          have hE2 : E.length + 1 + 1 ≤ 1099511627778 := by omega
          have hn4 : n₀ ≤ W4.heap.size := Nat.le_trans st4.nle (Nat.le_of_lt st4.lB)
          clear hy hR hW3 hsub hst4 st3 q0 hs1 hs3 fz hz3
          gi_wp2_with (gi_at_builtin; refine wpListIn_append_own_at _ rfl (.tmp 42) (.tmp 45) 113 rfl n₀ 35 i0 _ 1 24 Tryz.underlying113 hi0 hz0 hz1 hz2 rfl (by decide) _ _ _ rfl (st4.row.alloc _) ⟨W4.heap.size, 0, none⟩ 1 1 _ rfl rfl (one_new1 _ _ _ _ rfl) (one_slice _ _ _) (by unfold maxLen; simp only [List.length_cons]; omega) (by simp only [List.length_cons]; omega) (by simp; omega) ?_; intro v6 w6 hown6 hgrow6 hnil6 hat6; clear hnil6)
          have st6 := (st4.on ((Below.refl _ _).alloc (Nat.le_refl _) _)).push (d := ⟨xa, xc, x.kids⟩) (fun k h => by have := HSk.out k h; simp; omega) hown6 hgrow6 hat6 ⟨hxr3.out.f (st4.on ((Below.refl _ _).alloc (Nat.le_refl _) _)).same (fun k hk => .inl hk), hxc⟩
          have hj6 := HJ.out _ _ _ _ (HJ.out _ _ _ _ hj4 (.alloc _ _ _)) (.grown hgrow6 (fun k hk => (st4.own k hk).1))
          have R6 : WRel w n₀ B M t J _ S' _ v6 w6 := ⟨st6, hj6, HG.out, by have h1 := HS.out; have h2 := HS2.out; exact Nat.le_of_lt (Nat.lt_of_lt_of_le h1 h2)⟩
          clear st4 st6 hj6 hown6 hgrow6 hat6 hxr3
          go_roundw
          case rel => exact ⟨_, _, _, R6⟩
          case measure => exact Nat.lt_of_le_of_lt (leastN_le ⟨_, _, _, R6, rfl⟩) (by rw [hmin]; exact HS.out)
        · clear hy hR hW3 st3 hxr3 q0 hs1 hs3 fz hz3
          gi_wp2
          refine bodyPost_ret (results_none rfl _ _ _) rfl ?_
          exact ⟨⟨_, rfl⟩, .inr ⟨_, S', ⟨_, HG.out⟩, hjx⟩⟩
end Go.Proofs.YthbilahilmmfmabGreat

/- The program makes an iterator over a term. Conditions: none. -/
namespace Go.Proofs.YthbilahilmmfmabGreat
set_option maxRecDepth 100000
open Go.RowKit Go.Shelf
attribute [local go_sem] Oper.semAt_some

theorem within_any (t : TermD) (a : Option Addr) (c : Nat) (w : World) :
    Calls Tryz.prog 61 #[.agg #[.int .i64 t.f, .int .i64 t.v, .slice a t.kids.length c]] w fun e w' => e = .returned (.func (.func 75) #[] #[.pointer (some ⟨w.heap.size, 0, none⟩)]) ∧ w' = w.alloc (.cells #[.int .i64 t.f, .int .i64 t.v, .slice a t.kids.length c] 37) := by
  generalize t.kids.length = n at *
  go_enter Tryz.func61, Tryz.ntmps61
  go_wp2
  go_ret
  exact ⟨rfl, rfl⟩

end Go.Proofs.YthbilahilmmfmabGreat

/- A round's own variable. Conditions: none. -/
namespace Go.Proofs.YthbilahilmmfmabGreat
set_option maxRecDepth 100000
open Go.RowKit
/-- The round's own variable lies in a block of its own. -/
structure BoxEl (x : El) (Bx : Nat) (S : Nat → Prop) (W : World) : Prop where
  s : S Bx
  c0 : W.cell? ⟨Bx, 0, none⟩ = some (.int .i64 x.t.f)
  c1 : W.cell? ⟨Bx, 1, none⟩ = some (.int .i64 x.t.v)
  c2 : W.cell? ⟨Bx, 2, none⟩ = some (.slice x.a x.t.kids.length x.c)
theorem BoxEl.stay {x : El} {Bx : Nat} {S : Nat → Prop} {A B : World} (h : BoxEl x Bx S A) (hs : Stay S A B) : BoxEl x Bx S B := ⟨h.s, hs.cell h.c0 h.s, hs.cell h.c1 h.s, hs.cell h.c2 h.s⟩
end Go.Proofs.YthbilahilmmfmabGreat

/- Whether a term has at most 60 parts, as the program tells it: it stops at the first one too many. Conditions: terms of at most 549755813888 parts. -/
namespace Go.Proofs.YthbilahilmmfmabGreat
set_option maxRecDepth 100000
open Go.RowKit Go.Shelf
attribute [local go_sem] Oper.semAt_some

/-- What the loop holds between two rounds. -/
structure FInv (w W0 : World) (pre : List El) (S : Nat → Prop) (W : World) : Prop where
  lo : ∀ k, k < W0.heap.size → S k
  hi : ∀ k, S k → k < W.heap.size
  r : W.cell? ⟨w.heap.size + 1, 0, none⟩ = some (.bool false)
  f : W.frozen? ⟨w.heap.size + 1, 0, none⟩ = false
  n : W.cell? ⟨w.heap.size + 1 + 1, 0, none⟩ = some (.int .i64 (pre.length : Int))
  g : W.frozen? ⟨w.heap.size + 1 + 1, 0, none⟩ = false
  b : Below w.heap.size w W
  z : w.heap.size + 1 + 1 < W0.heap.size
  le : pre.length ≤ 60
theorem FInv.stay {w W0 A B : World} {pre : List El} {S : Nat → Prop} (h : FInv w W0 pre S A) (hs : Stay S A B) : FInv w W0 pre S B := by
  have hz := h.z
  exact ⟨h.lo, fun k hk => Nat.lt_of_lt_of_le (h.hi k hk) hs.size, hs.cell h.r (h.lo _ (by simp only; omega)), (hs.frozen (World.block_lt_of_cell? _ _ h.r) (h.lo _ (by simp only; omega))).trans h.f, hs.cell h.n (h.lo _ hz), (hs.frozen (World.block_lt_of_cell? _ _ h.n) (h.lo _ hz)).trans h.g, h.b.trans (hs.below h.b.size (fun k hk => h.lo k (by omega))), hz, h.le⟩
/-- What is left where there was one too many. -/
structure FOut (w W0 : World) (pre : List El) (S : Nat → Prop) (W : World) : Prop where
  lo : ∀ k, k < W0.heap.size → S k
  r : W.cell? ⟨w.heap.size + 1, 0, none⟩ = some (.bool false)
  b : Below w.heap.size w W
  z : w.heap.size + 1 + 1 < W0.heap.size
  hit : 60 < pre.length
theorem FOut.stay {w W0 A B : World} {pre : List El} {S : Nat → Prop} (h : FOut w W0 pre S A) (hs : Stay S A B) : FOut w W0 pre S B := by
  have hz := h.z
  exact ⟨h.lo, hs.cell h.r (h.lo _ (by simp only; omega)), h.b.trans (hs.below h.b.size (fun k hk => h.lo k (by omega))), hz, h.hit⟩

set_option maxHeartbeats 3200000 in
theorem fewParts_any (t : TermD) (a : Option Addr) (c hi : Nat) (w : World) (hp : partsT t ≤ 549755813888) (hr : RdK w hi a t.kids) (hhi : hi ≤ w.heap.size) (hc : t.kids.length ≤ c) :
    Calls Tryz.prog 60 #[.agg #[.int .i64 t.f, .int .i64 t.v, .slice a t.kids.length c]] w fun e w' => e = .returned (.bool (decide (partsT t ≤ 60))) ∧ Below w.heap.size w w' := by
  refine (callsIn_wide (n := 5)).1 ?_
  refine callsIn_of_wp_marks Tryz.func60 rfl trivial ?_ rfl
  simp only [Tryz.ntmps60, List.size_toArray, List.length_cons, List.length_nil, Nat.reduceAdd, Nat.reduceSub, Array.replicate_succ, Array.replicate_zero, List.push_toArray, List.append_toArray, List.nil_append, List.cons_append]
  gi_wp2_with (refine ⟨trivial, ?_⟩; gi_at_call 61; refine (callsIn_wide.2 (within_any t a c _)).mono ?_; rintro e w' ⟨rfl, rfl⟩)
  obtain ⟨W0, hW0⟩ : ∃ W0, W0 = (((w.alloc (.cells #[.int .i64 t.f, .int .i64 t.v, .slice a t.kids.length c] 37)).alloc (.cells #[.bool false] 4)).alloc (.cells #[.int .i64 0] 3)).alloc (.cells #[.int .i64 t.f, .int .i64 t.v, .slice a t.kids.length c] 37) := ⟨_, rfl⟩
  have hB0 : Below w.heap.size w W0 := by rw [hW0]; exact ((((Below.refl _ _).alloc (Nat.le_refl _) _).alloc (by simp) _).alloc (by simp; omega) _).alloc (by simp; omega) _
  have hz : W0.heap.size = w.heap.size + 1 + 1 + 1 + 1 := by rw [hW0]; simp
  have r0 : W0.cell? ⟨w.heap.size + 1, 0, none⟩ = some (.bool false) := by rw [hW0]; simp [go_sem]
  have f0 : W0.frozen? ⟨w.heap.size + 1, 0, none⟩ = false := by rw [hW0]; simp [go_sem]
  have n0 : W0.cell? ⟨w.heap.size + 1 + 1, 0, none⟩ = some (.int .i64 0) := by rw [hW0]; simp [go_sem]
  have g0 : W0.frozen? ⟨w.heap.size + 1 + 1, 0, none⟩ = false := by rw [hW0]; simp [go_sem]
  have t0 : W0.cell? ⟨w.heap.size + 1 + 1 + 1, 0, none⟩ = some (.int .i64 t.f) := by rw [hW0]; simp [go_sem]
  have t1 : W0.cell? ⟨w.heap.size + 1 + 1 + 1, 1, none⟩ = some (.int .i64 t.v) := by rw [hW0]; simp [go_sem]
  have t2 : W0.cell? ⟨w.heap.size + 1 + 1 + 1, 2, none⟩ = some (.slice a t.kids.length c) := by rw [hW0]; simp [go_sem]
  rw [← hW0]
  clear hW0
  refine wpIn_rangeFunc_priv rfl (by omega) (gf := 75) (lb := #[.pointer (some ⟨w.heap.size + 1 + 1 + 1, 0, none⟩)]) rfl trivial (enters_of Tryz.func75 (by kernel_rfl) rfl)
    (within_seq Fence.wide 4 trivial rfl (by omega) W0 t a c hi w.heap.size (w.heap.size + 1 + 1 + 1) hp hc (hr.on (hB0.mono hhi)) hhi hB0.size t0 t1 t2) hB0.size (Below.refl _ _) (fun _ => rfl)
    (fun pre S W => FInv w W0 pre S W) (fun cd pre S W => cd = .ret ∧ FOut w W0 pre S W) (fun pre S A B h hs => h.stay hs)
    (fun _ _ _ _ _ h hs => ⟨h.1, h.2.stay hs⟩) (fun pre S A h => h.hi) (fun k => k < W0.heap.size) (fun _ h => h) ⟨fun _ h => h, fun _ h => h, r0, f0, n0, g0, hB0, by omega, by simp⟩
    (fun pre x S a₁ W => FInv w W0 pre S W ∧ a₁ = { tmps := #[.agg #[.int .i64 t.f, .int .i64 t.v, .slice a t.kids.length c], .pointer (some ⟨w.heap.size, 0, none⟩), .pointer (some ⟨w.heap.size + 1, 0, none⟩), .pointer (some ⟨w.heap.size + 1 + 1, 0, none⟩), .agg #[.int .i64 t.f, .int .i64 t.v, .slice a t.kids.length c], .func (.func 75) #[] #[.pointer (some ⟨w.heap.size + 1 + 1 + 1, 0, none⟩)], .agg #[.int .i64 x.t.f, .int .i64 x.t.v, .slice x.a x.t.kids.length x.c], undef, undef, undef, undef], defers := [] })
    (fun pre x S a₁ A B h hs => ⟨h.1.stay hs, h.2⟩)
    ?assign ?body ?done ?stop
  case assign =>
    intro l pre x S W K hi hlen hok hK
    dsimp only [El.enc]
    gi_wp2
    exact hK _ S _ ⟨hi, by simp⟩ (fun _ h => .inl h) (.refl _ _)
  case body =>
    rintro l pre x S a₁ W ⟨h, rfl⟩ hlen hok
    have hr0 := h.r
    have hf0 := h.f
    have hn0 := h.n
    have hg0 := h.g
    have hz0 := h.z
    have hl0 := h.le
    have nlo : ∀ k, k < W0.heap.size → S k := h.lo
    have N1 : FInv w W0 pre S W := h
    by_cases h60 : pre.length < 60
    · have F0 : Hid (FInv w W0 (pre ++ [x]) S (W.setCell ⟨w.heap.size + 1 + 1, 0, none⟩ (.int .i64 ((pre.length : Int) + 1))) ∧ Stay (fun k => k < w.heap.size ∨ ¬ S k) W (W.setCell ⟨w.heap.size + 1 + 1, 0, none⟩ (.int .i64 ((pre.length : Int) + 1)))) := by
        refine ⟨⟨h.lo, fun k hk => by simpa using h.hi k hk, ?_, ?_, ?_, ?_, h.b.setCell (p := ⟨w.heap.size + 1 + 1, 0, none⟩) (by simp; omega) _, hz0, by simp; omega⟩, .setCell _ _ (fun h' => h'.elim (fun h' => by simp only at h'; omega) (fun h' => h' (h.lo _ hz0)))⟩
        · exact (World.cell?_of_block (Below.heap_setCell _ _ _ _ (by simp))).trans hr0
        · rw [World.frozen?_setCell]; exact hf0
        · rw [World.cell?_setCell_same _ _ _ hn0]; simp
        · rw [World.frozen?_setCell]; exact hg0
      have hb60 : (pre.length : Int) < 60 := by omega
      clear h N1 nlo hlen hok
      gi_wp2
      exact ⟨S, F0.out.1, fun k h => .inl h, F0.out.2⟩
    · have e60 : (pre.length : Int) = 60 := by omega
      have F1 : Hid (∀ v, FOut w W0 (pre ++ [x]) S ((W.setCell ⟨w.heap.size + 1 + 1, 0, none⟩ v).setCell ⟨w.heap.size + 1, 0, none⟩ (.bool false)) ∧ Stay (fun k => k < w.heap.size ∨ ¬ S k) W ((W.setCell ⟨w.heap.size + 1 + 1, 0, none⟩ v).setCell ⟨w.heap.size + 1, 0, none⟩ (.bool false))) := fun v => by
        refine ⟨⟨h.lo, ?_, (h.b.setCell (p := ⟨w.heap.size + 1 + 1, 0, none⟩) (by simp; omega) _).setCell (p := ⟨w.heap.size + 1, 0, none⟩) (by simp) _, hz0, by simp; omega⟩, (Stay.setCell _ _ (fun h' => h'.elim (fun h' => by simp only at h'; omega) (fun h' => h' (h.lo _ hz0)))).trans (.setCell _ _ (fun h' => h'.elim (fun h' => by simp only at h'; omega) (fun h' => h' (h.lo _ (by simp only; omega)))))⟩
        exact World.cell?_setCell_same _ _ _ ((World.cell?_of_block (Below.heap_setCell _ _ _ _ (by simp))).trans hr0)
      rw [e60] at hn0
      have hr1 : ∀ v, (W.setCell ⟨w.heap.size + 1 + 1, 0, none⟩ v).cell? ⟨w.heap.size + 1, 0, none⟩ = some (.bool false) := fun v => (World.cell?_of_block (Below.heap_setCell _ _ _ _ (by simp))).trans hr0
      have HR1 : Hid _ := hr1
      clear h N1 nlo hlen hok h60 e60 hl0 hr1
      gi_wp2
      exact ⟨S, ⟨rfl, (F1.out _).1⟩, fun k h => .inl h, (F1.out _).2⟩
  case done =>
    rintro D xs S W hxs h hK hD hSD
    have h3 := h.r
    have h4 := h.f
    have h5 := h.b
    have hg : Hid (decide (partsT t ≤ 60) = true) := by
      show _ = _
      have h6 := h.le
      have : xs.length = partsT t := by rw [← preT_len, ← hxs]; simp
      simp; omega
    clear h
    gi_wp2
    refine ⟨by simp, .inl ⟨_, _, rfl, run_takeDeferred (by rw [Below.heap_setCell _ _ _ _ (by simp only; omega)]; exact hK), ?_⟩⟩
    have e5 := (h5.setCell (p := ⟨w.heap.size + 1, 0, none⟩) (by simp) (.bool true))
    exact ⟨_, results_bool rfl rfl (b := true) ((World.cell?_of_block (World.putObj_heap_other (by simp only; omega))).trans (World.cell?_setCell_same _ _ _ h3)), rtB hg.out.symm, e5.trans ((Stay.putObj (S := fun k => k < w.heap.size) _ _ (by omega)).below e5.size (fun _ h => h))⟩
  case stop =>
    rintro D cd pre S W ⟨r, hpre⟩ ⟨rfl, h⟩ hK hD hSD
    have h3 := h.r
    have h5 := h.b
    have hg : Hid (decide (partsT t ≤ 60) = false) := by
      show _ = _
      have h6 := h.hit
      have : pre.length + r.length = partsT t := by rw [← preT_len, ← hpre]; simp
      simp; omega
    clear h
    gi_wp2
    refine ⟨by simp, .inl ⟨_, _, rfl, run_takeDeferred hK, ?_⟩⟩
    exact ⟨_, results_bool rfl rfl (b := false) ((World.cell?_of_block (World.putObj_heap_other (by simp only; omega))).trans h3), rtB hg.out.symm, h5.trans ((Stay.putObj (S := fun k => k < w.heap.size) W _ (by omega)).below h5.size (fun _ h => h))⟩
end Go.Proofs.YthbilahilmmfmabGreat

/- Whether a blind function's Kids stand right, as the program tells it. Conditions: at most 549755813888 parts. -/
namespace Go.Proofs.YthbilahilmmfmabGreat
set_option maxRecDepth 100000
open Go.RowKit

/-- The Kids of a blind function: none of that function, none before the one ahead of it. -/
def bkL (f : Int) : Option TermD → List TermD → Bool
  | _, [] => true
  | p, k :: ks => !(k.f == f || befO k p) && bkL f (some k) ks
def bkOk (f : Int) (ks : List TermD) : Bool := decide (2 ≤ ks.length) && bkL f none ks

set_option maxHeartbeats 3200000 in
theorem blindKidsOk_any (f : Int) (ks : List TermD) (a : Option Addr) (c hi : Nat) (w : World) (hp : partsL ks ≤ 549755813888) (hr : RdK w hi a ks) (hhi : hi ≤ w.heap.size) :
    Calls Tryz.prog 78 #[.int .i64 f, .slice a ks.length c] w fun e w' => e = .returned (.bool (bkOk f ks)) ∧ Below w.heap.size w w' := by
  have hlen := partsL_len ks
  by_cases h2 : ks.length < 2
  · have HB : Hid (bkOk f ks = false) := by show _ = _; unfold bkOk; rw [decide_eq_false (by omega)]; rfl
    go_enter Tryz.func78, Tryz.ntmps78
    go_wp2
    go_ret
    exact ⟨rtB HB.out.symm, Below.refl _ _⟩
  · have HB : Hid (bkOk f ks = bkL f none ks) := by show _ = _; unfold bkOk; rw [decide_eq_true (by omega)]; rfl
    go_enter Tryz.func78, Tryz.ntmps78
    have HR : Hid (RdK w hi a ks) := hr
    clear hr
    go_wp2
    go_loopw [12] (fun i wr => ∃ k : Nat, k ≤ ks.length ∧ i = .int .i64 k ∧ Hid (bkL f none ks = bkL f (if k = 0 then none else ks[k-1]?) (ks.drop k)) ∧ Below w.heap.size w wr) (fun i _ => ks.length - (intOf i).toNat)
    case atStart => exact ⟨0, Nat.zero_le _, rfl, by show _ = _; simp, Below.refl _ _⟩
    case round =>
      obtain ⟨k, hk, rfl, HK, hb⟩ := hrel
      by_cases hk' : k < ks.length
      · obtain ⟨b, off, a', c', rfl, hlt, d0, d1, d2, hle, hkr⟩ := RdK.kidc (HR.out.on (hb.mono hhi)) hk'
        have hki : (k : Int) < (ks.length : Int) := by omega
        have hpg := partsL_get hk'
        have HD : Hid (ks.drop k = ks[k] :: ks.drop (k + 1)) := List.drop_eq_getElem_cons hk'
        by_cases hf : ks[k].f = f
        · have HB2 : Hid (bkOk f ks = false) := by show _ = _; rw [HB.out, HK.out, HD.out, bkL]; simp [hf]
          have hfe : (ks[k].f == f) = true := by simp [hf]
          clear HK HB HD hf hkr
          go_wp2_with fail
          obtain ⟨W1, hW1⟩ : ∃ W1, W1 = wr.alloc (.cells #[.int .i64 ks[k].f, .int .i64 ks[k].v, .slice a' ks[k].kids.length c'] 37) := ⟨_, rfl⟩
          have hb1 : Below w.heap.size w W1 := by rw [hW1]; exact hb.alloc hb.size _
          have x0 : W1.cell? ⟨wr.heap.size, 0, none⟩ = some (.int .i64 ks[k].f) := by rw [hW1]; simp [go_sem]
          have x1 : W1.cell? ⟨wr.heap.size, 1, none⟩ = some (.int .i64 ks[k].v) := by rw [hW1]; simp [go_sem]
          have x2 : W1.cell? ⟨wr.heap.size, 2, none⟩ = some (.slice a' ks[k].kids.length c') := by rw [hW1]; simp [go_sem]
          rw [← hW1]
          clear hW1
          go_quiet ((fail))
          go_wp2_with fail
          go_ret
          exact ⟨rtB HB2.out.symm, below_drewN hb1 _⟩
        · have hfe : (ks[k].f == f) = false := by simp [hf]
          by_cases hk0 : k = 0
          · have HN : Hid (bkL f none ks = bkL f (some ks[k]) (ks.drop (k + 1))) := by show _ = _; rw [HK.out, HD.out, bkL, if_pos hk0, hfe]; rfl
            have hkn : decide ((0 : Int) < (k : Int)) = false := by simp; omega
            have hkn2 : decide (0 < k) = false := by simp; omega
            clear HK HD hf hkr hk0
            go_wp2_with fail
            obtain ⟨W1, hW1⟩ : ∃ W1, W1 = wr.alloc (.cells #[.int .i64 ks[k].f, .int .i64 ks[k].v, .slice a' ks[k].kids.length c'] 37) := ⟨_, rfl⟩
            have hb1 : Below w.heap.size w W1 := by rw [hW1]; exact hb.alloc hb.size _
            have x0 : W1.cell? ⟨wr.heap.size, 0, none⟩ = some (.int .i64 ks[k].f) := by rw [hW1]; simp [go_sem]
            have x1 : W1.cell? ⟨wr.heap.size, 1, none⟩ = some (.int .i64 ks[k].v) := by rw [hW1]; simp [go_sem]
            have x2 : W1.cell? ⟨wr.heap.size, 2, none⟩ = some (.slice a' ks[k].kids.length c') := by rw [hW1]; simp [go_sem]
            rw [← hW1]
            clear hW1
            go_quiet ((fail))
            go_wp2_with fail
            go_roundw
            case rel => exact ⟨k + 1, by omega, by go_num, by show _ = _; rw [HN.out, if_neg (by omega), show k + 1 - 1 = k by omega, List.getElem?_eq_getElem hk'], below_drewN hb1 _⟩
            case measure => simp [intOf]; omega
          · obtain ⟨j, rfl⟩ : ∃ j, k = j + 1 := ⟨k - 1, by omega⟩
            have hj : j < ks.length := by omega
            obtain ⟨b2, off2, a2, c2, e2, hlt2, g0, g1, g2, hle2, hkr2⟩ := RdK.kidc (HR.out.on (hb.mono hhi)) hj
            cases e2
            have hkn : (0 : Int) < ((j + 1 : Nat) : Int) := by omega
            have hj0 : (0 : Int) ≤ (j : Int) := by omega
            have hj1 : (j : Int) < (ks.length : Int) := by omega
            have hj2 : (ks.length : Int) ≤ 549755813888 := by omega
            have hsub : IntKind.i64.wrap (((j + 1 : Nat) : Int) - 1) = (j : Int) := by rw [IntKind.wrap_i64]; omega
            have hsub2 : IntKind.i64.wrap ((j : Int) + 1 - 1) = (j : Int) := by rw [IntKind.wrap_i64]; omega
            have hsub3 : IntKind.i64.wrap (j : Int) = (j : Int) := by rw [IntKind.wrap_i64]; omega
            cases hbf : befT ks[j + 1] ks[j] with
            | true =>
              have HB2 : Hid (bkOk f ks = false) := by show _ = _; rw [HB.out, HK.out, HD.out, bkL, if_neg hk0, show j + 1 - 1 = j by omega, List.getElem?_eq_getElem hj]; simp [befO, hbf]
              have CC : ∀ W1, Below wr.heap.size wr W1 → ∀ W', Below W1.heap.size W1 W' → Calls Tryz.prog 86 #[.agg #[.int .i64 ks[j + 1].f, .int .i64 ks[j + 1].v, .slice a' ks[j + 1].kids.length c'], .agg #[.int .i64 ks[j].f, .int .i64 ks[j].v, .slice a2 ks[j].kids.length c2]] W' fun e w' => e = .returned (.bool true) ∧ Below W'.heap.size W' w' := fun W1 h1 W' h2 => by
                have hh : Below wr.heap.size wr W' := h1.trans (h2.mono h1.size)
                have hiw : hi ≤ wr.heap.size := Nat.le_trans hhi hb.size
                have := impBef_any (partsT ks[j + 1]) ks[j + 1] ks[j] a' a2 c' c2 hi W' (Nat.le_refl _) (by omega) (hkr.on (hh.mono hiw)) (hkr2.on (hh.mono hiw)) (Nat.le_trans hiw hh.size) hle hle2
                rwa [hbf] at this
              clear HK HD hf hk0 hbf
              go_wp2_with fail
              obtain ⟨W1, hW1⟩ : ∃ W1, W1 = wr.alloc (.cells #[.int .i64 ks[j + 1].f, .int .i64 ks[j + 1].v, .slice a' ks[j + 1].kids.length c'] 37) := ⟨_, rfl⟩
              have hb1 : Below w.heap.size w W1 := by rw [hW1]; exact hb.alloc hb.size _
              have hb01 : Below wr.heap.size wr W1 := by rw [hW1]; exact (Below.refl _ _).alloc (Nat.le_refl _) _
              have x0 : W1.cell? ⟨wr.heap.size, 0, none⟩ = some (.int .i64 ks[j + 1].f) := by rw [hW1]; simp [go_sem]
              have x1 : W1.cell? ⟨wr.heap.size, 1, none⟩ = some (.int .i64 ks[j + 1].v) := by rw [hW1]; simp [go_sem]
              have x2 : W1.cell? ⟨wr.heap.size, 2, none⟩ = some (.slice a' ks[j + 1].kids.length c') := by rw [hW1]; simp [go_sem]
              have y0 := keepC hb01 g0
              have y1 := keepC hb01 g1
              have y2 := keepC hb01 g2
              rw [← hW1]
              have C := CC W1 hb01
              clear hW1 CC g0 g1 g2 d0 d1 d2
              go_region_held3 (fun w' => w'.cell? ⟨wr.heap.size, 0, none⟩ = some (.int .i64 ks[j + 1].f) ∧ w'.cell? ⟨wr.heap.size, 1, none⟩ = some (.int .i64 ks[j + 1].v) ∧ w'.cell? ⟨wr.heap.size, 2, none⟩ = some (.slice a' ks[j + 1].kids.length c') ∧ w'.cell? ⟨b, off + j * 3, none⟩ = some (.int .i64 ks[j].f) ∧ w'.cell? ⟨b, off + j * 3 + 1, none⟩ = some (.int .i64 ks[j].v) ∧ w'.cell? ⟨b, off + j * 3 + 2, none⟩ = some (.slice a2 ks[j].kids.length c2)) (first | go_keep | exact ⟨x0, x1, x2, y0, y1, y2⟩)
                ((go_at_call 86; refine (C _ ?_).mono ?_; exact (Below.refl _ _).drew; rintro e w2 ⟨rfl, hb0⟩; have hb2 : Below W1.heap.size W1 w2 := (Below.refl _ _).drew.trans hb0; have hB2 : Below w.heap.size w w2 := hb1.trans (hb2.mono hb1.size); have z0 := keepC hb2 x0; have z1 := keepC hb2 x1; have z2 := keepC hb2 x2; have u0 := keepC hb2 y0; have u1 := keepC hb2 y1; have u2 := keepC hb2 y2; clear x0 x1 x2 y0 y1 y2 C hb0 hb2))
              go_wp2_with fail
              go_ret
              exact ⟨rtB HB2.out.symm, hB2⟩
            | false =>
              have HN : Hid (bkL f none ks = bkL f (some ks[j + 1]) (ks.drop (j + 1 + 1))) := by show _ = _; rw [HK.out, HD.out, bkL, if_neg hk0, show j + 1 - 1 = j by omega, List.getElem?_eq_getElem hj]; simp [befO, hbf, hfe]
              have CC : ∀ W1, Below wr.heap.size wr W1 → ∀ W', Below W1.heap.size W1 W' → Calls Tryz.prog 86 #[.agg #[.int .i64 ks[j + 1].f, .int .i64 ks[j + 1].v, .slice a' ks[j + 1].kids.length c'], .agg #[.int .i64 ks[j].f, .int .i64 ks[j].v, .slice a2 ks[j].kids.length c2]] W' fun e w' => e = .returned (.bool false) ∧ Below W'.heap.size W' w' := fun W1 h1 W' h2 => by
                have hh : Below wr.heap.size wr W' := h1.trans (h2.mono h1.size)
                have hiw : hi ≤ wr.heap.size := Nat.le_trans hhi hb.size
                have := impBef_any (partsT ks[j + 1]) ks[j + 1] ks[j] a' a2 c' c2 hi W' (Nat.le_refl _) (by omega) (hkr.on (hh.mono hiw)) (hkr2.on (hh.mono hiw)) (Nat.le_trans hiw hh.size) hle hle2
                rwa [hbf] at this
              clear HK HD hf hk0 hbf
              go_wp2_with fail
              obtain ⟨W1, hW1⟩ : ∃ W1, W1 = wr.alloc (.cells #[.int .i64 ks[j + 1].f, .int .i64 ks[j + 1].v, .slice a' ks[j + 1].kids.length c'] 37) := ⟨_, rfl⟩
              have hb1 : Below w.heap.size w W1 := by rw [hW1]; exact hb.alloc hb.size _
              have hb01 : Below wr.heap.size wr W1 := by rw [hW1]; exact (Below.refl _ _).alloc (Nat.le_refl _) _
              have x0 : W1.cell? ⟨wr.heap.size, 0, none⟩ = some (.int .i64 ks[j + 1].f) := by rw [hW1]; simp [go_sem]
              have x1 : W1.cell? ⟨wr.heap.size, 1, none⟩ = some (.int .i64 ks[j + 1].v) := by rw [hW1]; simp [go_sem]
              have x2 : W1.cell? ⟨wr.heap.size, 2, none⟩ = some (.slice a' ks[j + 1].kids.length c') := by rw [hW1]; simp [go_sem]
              have y0 := keepC hb01 g0
              have y1 := keepC hb01 g1
              have y2 := keepC hb01 g2
              rw [← hW1]
              have C := CC W1 hb01
              clear hW1 CC g0 g1 g2 d0 d1 d2
              go_region_held3 (fun w' => w'.cell? ⟨wr.heap.size, 0, none⟩ = some (.int .i64 ks[j + 1].f) ∧ w'.cell? ⟨wr.heap.size, 1, none⟩ = some (.int .i64 ks[j + 1].v) ∧ w'.cell? ⟨wr.heap.size, 2, none⟩ = some (.slice a' ks[j + 1].kids.length c') ∧ w'.cell? ⟨b, off + j * 3, none⟩ = some (.int .i64 ks[j].f) ∧ w'.cell? ⟨b, off + j * 3 + 1, none⟩ = some (.int .i64 ks[j].v) ∧ w'.cell? ⟨b, off + j * 3 + 2, none⟩ = some (.slice a2 ks[j].kids.length c2)) (first | go_keep | exact ⟨x0, x1, x2, y0, y1, y2⟩)
                ((go_at_call 86; refine (C _ ?_).mono ?_; exact (Below.refl _ _).drew; rintro e w2 ⟨rfl, hb0⟩; have hb2 : Below W1.heap.size W1 w2 := (Below.refl _ _).drew.trans hb0; have hB2 : Below w.heap.size w w2 := hb1.trans (hb2.mono hb1.size); have z0 := keepC hb2 x0; have z1 := keepC hb2 x1; have z2 := keepC hb2 x2; have u0 := keepC hb2 y0; have u1 := keepC hb2 y1; have u2 := keepC hb2 y2; clear x0 x1 x2 y0 y1 y2 C hb0 hb2))
              go_wp2_with fail
              go_roundw
              case rel => exact ⟨j + 1 + 1, by omega, by go_num, by show _ = _; rw [HN.out, if_neg (by omega), show j + 1 + 1 - 1 = j + 1 by omega, List.getElem?_eq_getElem hk'], hB2⟩
              case measure => simp [intOf]; omega
      · have HE : Hid (bkOk f ks = true) := by
          show _ = _
          rw [HB.out, HK.out, List.drop_eq_nil_of_le (by omega), bkL]
        clear HK HB
        go_wp2_with fail
        go_ret
        exact ⟨rtB HE.out.symm, hb⟩
end Go.Proofs.YthbilahilmmfmabGreat

