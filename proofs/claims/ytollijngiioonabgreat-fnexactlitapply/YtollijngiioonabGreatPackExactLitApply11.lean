/- What the proof of FnExactLitApply stands on, part 11 of 13: each piece says what it proves and under which conditions. Conditions: as each piece says. -/
import Derived.Test.YtollijngiioonabGreatPackExactLitApply10
import Derived.Deep.RegionLaw
import Derived.Deep.Cut
import Derived.Deep.CutBlock
/- A term with what is put for its variables, in one form: the program's way. Conditions: as its size is told. -/
namespace Go.Proofs.YtollijngiioonabGreat
set_option maxRecDepth 100000
open Go.RowKit

theorem parts_put (us : List BindD) (m : Nat) (hm : 1 ≤ m) (hu : ∀ v, partsT (lookT us v) ≤ m) : ∀ (n : Nat) (t : TermD), partsT t ≤ n → partsT (putV us t) ≤ partsT t * m
  | 0, t, h => by rw [partsT_eq] at h; omega
  | n + 1, t, h => by
    by_cases hv : t.f = -1 ∧ t.kids = []
    · rw [putV_var hv.1 hv.2, partsT_eq t, hv.2]
      show _ ≤ (partsL [] + 1) * m
      simp only [partsL]
      have := hu t.v
      omega
    · rw [putV_not hv, partsT_eq, partsT_eq t]
      show partsL (t.kids.map (putV us)) + 1 ≤ _
      have hk : ∀ ts : List TermD, partsL ts ≤ n → partsL (ts.map (putV us)) ≤ partsL ts * m := by
        intro ts
        induction ts with
        | nil => intro _; simp [partsL]
        | cons u ts ih =>
          intro h2
          simp only [partsL, List.map_cons] at *
          have h3 := parts_put us m hm hu n u (by omega)
          have h4 := ih (by omega)
          rw [Nat.add_mul]; omega
      rw [partsT_eq] at h
      have := hk t.kids (by omega)
      rw [Nat.add_mul]; omega
theorem look_le {us : List BindD} (v : Int) : partsT (lookT us v) ≤ partsU us + 1 := by
  rcases look_cases us v with ⟨k, hk, _, _, e⟩ | ⟨_, e⟩
  · rw [e, partsT_eq]
    have := partsU_get hk
    omega
  · rw [e, partsT_eq]
    show partsL [] + 1 ≤ _
    simp [partsL]
theorem prod_small {x y : Nat} (h : x + y ≤ 1048580) : x * y ≤ 549755813888 := by
  by_cases h1 : x ≤ 349526
  · exact Nat.le_trans (Nat.mul_le_mul h1 (show y ≤ 1048580 by omega)) (by decide)
  · by_cases h2 : x ≤ 699054
    · exact Nat.le_trans (Nat.mul_le_mul h2 (show y ≤ 699054 by omega)) (by decide)
    · exact Nat.le_trans (Nat.mul_le_mul (show x ≤ 1048580 by omega) (show y ≤ 349526 by omega)) (by decide)
theorem put_small {us : List BindD} {t : TermD} (h : partsU us + partsT t ≤ 1048579) : partsT (putV us t) ≤ 549755813888 :=
  Nat.le_trans (parts_put us (partsU us + 1) (by omega) (fun v => look_le v) _ t (Nat.le_refl _)) (prod_small (by omega))

/-- Between the copy and its one form. -/
theorem applied_mid {w W w1 : World} {p : Nat} {us : List BindD} {ua : Option Addr} {uc : Nat} {t : TermD} {a1 : Option Addr} {c1 : Nat} (hul : us.length ≤ 549755813888) (hpt : partsT t ≤ 549755813888) (hz0 : W.heap.size = w.heap.size + 1 + 1) (hp : w.cell? ⟨p, 0, none⟩ = some (.slice ua us.length uc)) (hplt : p < w.heap.size) (hu : RdU w w.heap.size ua us)
    (nb1 : NB w w1) (x0 : w1.cell? ⟨w.heap.size, 0, none⟩ = some (.int .i64 t.f)) (x1 : w1.cell? ⟨w.heap.size, 1, none⟩ = some (.int .i64 t.v)) {v : Value} (x2 : w1.cell? ⟨w.heap.size, 2, none⟩ = some v) (xf : ∀ j, w1.frozen? ⟨w.heap.size, j, none⟩ = false) (ho1 : OwnS w1 (fun k => W.heap.size ≤ k ∧ k < w1.heap.size) a1 t.kids) (hle : t.kids.length ≤ c1) (hwf : isW t.f ∧ isW t.v) :
    Calls Tryz.prog 56 #[.pointer (some ⟨p, 0, none⟩), .pointer (some ⟨w.heap.size, 0, none⟩)] (((w1.setCell ⟨w.heap.size, 0, none⟩ (.int .i64 t.f)).setCell ⟨w.heap.size, 1, none⟩ (.int .i64 t.v)).setCell ⟨w.heap.size, 2, none⟩ (.slice a1 t.kids.length c1)) fun e w' => e = .returned (.tuple #[]) ∧ RdT w' w.heap.size 0 (putV us t) ∧ NB w w' := by
  have hz := nb1.z
  have hn : ∀ j, ¬ (W.heap.size ≤ (⟨w.heap.size, j, none⟩ : Addr).block ∧ (⟨w.heap.size, j, none⟩ : Addr).block < w1.heap.size) := fun j q => by have := q.1; simp only at this; omega
  have ho2 := ((ho1.setCell ⟨w.heap.size, 0, none⟩ (hn 0) (.int .i64 t.f)).setCell ⟨w.heap.size, 1, none⟩ (hn 1) (.int .i64 t.v)).setCell ⟨w.heap.size, 2, none⟩ (hn 2) (.slice a1 t.kids.length c1)
  obtain ⟨z0, z1, z2⟩ := set3_at (u := w1) (b := w.heap.size) (o := 0) (x := .int .i64 t.f) (y := .int .i64 t.v) (z := .slice a1 t.kids.length c1) x0 x1 x2
  have nb2 : NB w (((w1.setCell ⟨w.heap.size, 0, none⟩ (.int .i64 t.f)).setCell ⟨w.heap.size, 1, none⟩ (.int .i64 t.v)).setCell ⟨w.heap.size, 2, none⟩ (.slice a1 t.kids.length c1)) := by
    have hne : ∀ j : Nat, w.heap.size + 1 ≠ w.heap.size := fun _ => by omega
    have hc : ∀ j, (((w1.setCell ⟨w.heap.size, 0, none⟩ (.int .i64 t.f)).setCell ⟨w.heap.size, 1, none⟩ (.int .i64 t.v)).setCell ⟨w.heap.size, 2, none⟩ (.slice a1 t.kids.length c1)).cell? ⟨w.heap.size + 1, j, none⟩ = w1.cell? ⟨w.heap.size + 1, j, none⟩ := fun j => World.cell?_of_block (a := ⟨w.heap.size + 1, j, none⟩) (set3_heap (o := 0) (hne 0))
    exact ⟨((nb1.be.setCell (p := ⟨w.heap.size, 0, none⟩) (Nat.le_refl _) _).setCell (p := ⟨w.heap.size, 1, none⟩) (Nat.le_refl _) _).setCell (p := ⟨w.heap.size, 2, none⟩) (Nat.le_refl _) _, (hc 0).trans nb1.c0, (hc 1).trans nb1.c1, (hc 2).trans nb1.c2, fun j => by simp only [World.frozen?_setCell]; exact nb1.cf j, by simpa using hz⟩
  have hxf : ∀ j, (((w1.setCell ⟨w.heap.size, 0, none⟩ (.int .i64 t.f)).setCell ⟨w.heap.size, 1, none⟩ (.int .i64 t.v)).setCell ⟨w.heap.size, 2, none⟩ (.slice a1 t.kids.length c1)).frozen? ⟨w.heap.size, j, none⟩ = false := fun j => by simp only [World.frozen?_setCell]; exact xf j
  have hs2 : (((w1.setCell ⟨w.heap.size, 0, none⟩ (.int .i64 t.f)).setCell ⟨w.heap.size, 1, none⟩ (.int .i64 t.v)).setCell ⟨w.heap.size, 2, none⟩ (.slice a1 t.kids.length c1)).heap.size = w1.heap.size := by simp
  generalize (((w1.setCell ⟨w.heap.size, 0, none⟩ (.int .i64 t.f)).setCell ⟨w.heap.size, 1, none⟩ (.int .i64 t.v)).setCell ⟨w.heap.size, 2, none⟩ (.slice a1 t.kids.length c1)) = W2 at *
  have hB2 := nb2.be
  have hfr2 : ∀ j, W2.frozen? ⟨w.heap.size, j, none⟩ = false := fun j => hxf j
  have hk : (PL.mk w.heap.size 0 t a1 c1 (fun k => W.heap.size ≤ k ∧ k < w1.heap.size)).Ok W2 := ⟨z0, z1, z2, hfr2, ho2, hle, hwf, fun q => by have := q.1; simp only at this; omega⟩
  refine (putInto_any p us ua uc w.heap.size w.heap.size t a1 c1 (fun k => W.heap.size ≤ k ∧ k < w1.heap.size) (fun k => k = w.heap.size ∨ W.heap.size ≤ k ∧ k < w1.heap.size) W2 hul hpt ((hB2.cell (p := ⟨p, 0, none⟩) hplt).trans hp) hplt (hu.on hB2) hk (fun x hx => .inr hx) (.inl rfl) (fun x hx => by omega)).mono fun e w3 ⟨h1, h2, h3⟩ => ⟨h1, h2, ?_⟩
  have hsz := h3.size
  have hc3 : ∀ j v, W2.cell? ⟨w.heap.size + 1, j, none⟩ = some v → w3.cell? ⟨w.heap.size + 1, j, none⟩ = some v := fun j v hv => h3.cell hv ⟨by simp only; omega, by simp only; omega⟩
  exact ⟨hB2.trans (h3.below hB2.size (fun k hk => ⟨by omega, by omega⟩)), hc3 0 _ nb2.c0, hc3 1 _ nb2.c1, hc3 2 _ nb2.c2, fun j => (h3.frozen (p := ⟨w.heap.size + 1, j, none⟩) (by simp only; omega) ⟨by simp only; omega, by simp only; omega⟩).trans (nb2.cf j), by omega⟩

set_option maxHeartbeats 3200000 in
set_option maxRecDepth 100000 in
theorem applied_any (p : Nat) (us : List BindD) (ua : Option Addr) (uc lo : Nat) (sa : Option Addr) (ss : List SymD) (sc : Nat) (t : TermD) (a : Option Addr) (c hi : Nat) (w : World) (hul : us.length ≤ 549755813888) (hp : w.cell? ⟨p, 0, none⟩ = some (.slice ua us.length uc)) (hu : RdU w lo ua us) (hlo : lo ≤ w.heap.size) (hs : RdS w sa ss)
    (hpt : partsT t ≤ 549755813888) (hpp : partsT (putV us t) ≤ 549755813888) (hr : RdK w hi a t.kids) (hhi : hi ≤ w.heap.size) (hc : t.kids.length ≤ c) (hwf : isW t.f ∧ isW t.v) :
    Calls Tryz.prog 43 #[.pointer (some ⟨p, 0, none⟩), .slice sa ss.length sc, .agg #[.int .i64 t.f, .int .i64 t.v, .slice a t.kids.length c]] w fun e w' => ∃ a' c', e = .returned (.agg #[.int .i64 (putV us t).f, .int .i64 (putV us t).v, .slice a' (normT (blindAt ss) (putV us t)).kids.length c']) ∧ OwnS w' (fun k => w.heap.size ≤ k ∧ k < w'.heap.size) a' (normT (blindAt ss) (putV us t)).kids ∧ (normT (blindAt ss) (putV us t)).kids.length ≤ c' ∧ Below w.heap.size w w' := by
  obtain ⟨W, hW⟩ : ∃ W, W = (w.alloc (.cells #[.int .i64 t.f, .int .i64 t.v, .slice a t.kids.length c] 34)).alloc (.cells #[.int .i64 0, .int .i64 0, .slice none 0 0] 34) := ⟨_, rfl⟩
  have hb0 : Below w.heap.size w W := by rw [hW]; exact ((Below.refl _ _).alloc (Nat.le_refl _) _).alloc (by simp) _
  have hz0 : W.heap.size = w.heap.size + 1 + 1 := by rw [hW]; simp
  have nb0 : NB w W := ⟨hb0, by rw [hW]; simp [go_sem], by rw [hW]; simp [go_sem], by rw [hW]; simp [go_sem], fun j => by rw [hW]; simp [go_sem], by omega⟩
  have t0 : W.cell? ⟨w.heap.size, 0, none⟩ = some (.int .i64 t.f) := by rw [hW]; simp [go_sem]
  have t1 : W.cell? ⟨w.heap.size, 1, none⟩ = some (.int .i64 t.v) := by rw [hW]; simp [go_sem]
  have t2 : W.cell? ⟨w.heap.size, 2, none⟩ = some (.slice a t.kids.length c) := by rw [hW]; simp [go_sem]
  have tf : ∀ j, W.frozen? ⟨w.heap.size, j, none⟩ = false := fun j => by rw [hW]; simp [go_sem]
  have hBW : w.heap.size < W.heap.size := by omega
  have hplt : p < w.heap.size := World.block_lt_of_cell? _ _ hp
  have C1 := copyTerm_any t a c hi W hpt (hr.on (hb0.mono hhi)) (Nat.le_trans hhi hb0.size) hc hwf
  obtain ⟨P, hP⟩ : ∃ P, P = putV us t := ⟨_, rfl⟩
  rw [← hP] at hpp ⊢
  have HP : Hid (w.cell? ⟨p, 0, none⟩ = some (.slice ua us.length uc)) := hp
  have HU : Hid (RdU w w.heap.size ua us) := hu.mono hlo
  have HS : Hid (RdS w sa ss) := hs
  have HW : Hid _ := hW
  have HZ0 : Hid (W.heap.size = w.heap.size + 1 + 1) := hz0
  have HWF : Hid (isW t.f ∧ isW t.v) := hwf
  have HPE : Hid (P = putV us t) := hP
  clear hp hu hs hr hc hW hz0 hb0 hwf hP
  go_enter Tryz.func43, Tryz.ntmps43
  go_wp2_with (go_at_call 55; rw [← HW.out]; refine C1.mono ?_; rintro e w1 ⟨a1, c1, rfl, ho1, hle1, hb1⟩; have nb1 := nb0.on hb1; have x0 := keepC hb1 t0; have x1 := keepC hb1 t1; have x2 := keepC hb1 t2; have xf := fun j => (hb1.frozen (p := ⟨w.heap.size, j, none⟩) hBW).trans (tf j); have HO1 : Hid (OwnS w1 (fun k => W.heap.size ≤ k ∧ k < w1.heap.size) a1 t.kids) := ho1; have HB1 : Hid (Below W.heap.size W w1) := hb1; clear C1 t0 t1 t2 tf nb0 ho1 hb1)
  have C2 := applied_mid hul hpt HZ0.out HP.out hplt HU.out nb1 x0 x1 x2 xf HO1.out hle1 HWF.out
  rw [← HPE.out] at C2
  clear nb1 xf HO1 HPE HP
  go_wp2_with (first
    | (go_at_call 56; refine C2.mono ?_; rintro e w3 ⟨rfl, HT3, nb3⟩; obtain ⟨a3, c3, t0, t1, t2, hr3, hle3, hw3⟩ := HT3; have C3 := impNorm_any sa ss sc P a3 c3 w3.heap.size w3 (HS.out.below nb3.be) hpp hr3 (Nat.le_refl _) hle3 hw3; clear C2 x0 x1 x2 hr3)
    | (go_at_call 41; refine C3.mono ?_; rintro e w4 ⟨a', c', rfl, ho4, hc4, hb4⟩; have nb4 := nb3.on hb4; have d0 := nb4.c0; have d1 := nb4.c1; have d2 := nb4.c2; have df := nb4.cf; have hz4 := nb4.z; have hz34 := nb3.z; clear C3))
  obtain ⟨z0, z1, z2⟩ := set3_cells (u := w4) (r := w.heap.size + 1) (x := .int .i64 P.f) (y := .int .i64 P.v) (z := .slice a' (normT (blindAt ss) P).kids.length c') d0 d1 d2
  have hnS : ∀ j, ¬ (w3.heap.size ≤ (⟨w.heap.size + 1, j, none⟩ : Addr).block ∧ (⟨w.heap.size + 1, j, none⟩ : Addr).block < w4.heap.size) := fun j q => by have := q.1; simp only at this; omega
  have hoF := ((ho4.setCell ⟨w.heap.size + 1, 0, none⟩ (hnS 0) (.int .i64 P.f)).setCell ⟨w.heap.size + 1, 1, none⟩ (hnS 1) (.int .i64 P.v)).setCell ⟨w.heap.size + 1, 2, none⟩ (hnS 2) (.slice a' (normT (blindAt ss) P).kids.length c')
  have hbF := ((nb4.be.setCell (p := ⟨w.heap.size + 1, 0, none⟩) (by simp) (.int .i64 P.f)).setCell (p := ⟨w.heap.size + 1, 1, none⟩) (by simp) (.int .i64 P.v)).setCell (p := ⟨w.heap.size + 1, 2, none⟩) (by simp) (.slice a' (normT (blindAt ss) P).kids.length c')
  refine bodyPost_ret (v := .agg #[.int .i64 P.f, .int .i64 P.v, .slice a' (normT (blindAt ss) P).kids.length c']) (by simp [results, Tryz.results43, go_sem, z0, z1, z2]) rfl ⟨a', c', rfl, hoF.mono (fun k hk => ⟨by omega, by simpa using hk.2⟩), hc4, hbF⟩

set_option maxHeartbeats 1600000 in
theorem impApply_any (sa : Option Addr) (ss : List SymD) (sc : Nat) (us : List BindD) (ua : Option Addr) (uc lo : Nat) (t : TermD) (a : Option Addr) (c hi : Nat) (w : World) (hul : us.length ≤ 549755813888) (hu : RdU w lo ua us) (hlo : lo ≤ w.heap.size) (hs : RdS w sa ss)
    (hpt : partsT t ≤ 549755813888) (hpp : partsT (putV us t) ≤ 549755813888) (hr : RdK w hi a t.kids) (hhi : hi ≤ w.heap.size) (hc : t.kids.length ≤ c) (hwf : isW t.f ∧ isW t.v) :
    Calls Tryz.prog 28 #[.slice sa ss.length sc, .slice ua us.length uc, .agg #[.int .i64 t.f, .int .i64 t.v, .slice a t.kids.length c]] w fun e w' => ∃ a' c', e = .returned (.agg #[.int .i64 (putV us t).f, .int .i64 (putV us t).v, .slice a' (normT (blindAt ss) (putV us t)).kids.length c']) ∧ OwnS w' (fun k => w.heap.size ≤ k ∧ k < w'.heap.size) a' (normT (blindAt ss) (putV us t)).kids ∧ (normT (blindAt ss) (putV us t)).kids.length ≤ c' ∧ Below w.heap.size w w' := by
  obtain ⟨W0, hW0⟩ : ∃ W0, W0 = (w.alloc (.cells #[.int .i64 t.f, .int .i64 t.v, .slice a t.kids.length c] 34)).alloc (.cells #[.int .i64 0, .int .i64 0, .slice none 0 0] 34) := ⟨_, rfl⟩
  obtain ⟨W, hW⟩ : ∃ W, W = W0.alloc (.cells #[.slice ua us.length uc] 77) := ⟨_, rfl⟩
  have hb0 : Below w.heap.size w W0 := by rw [hW0]; exact ((Below.refl _ _).alloc (Nat.le_refl _) _).alloc (by simp) _
  have hz0 : W0.heap.size = w.heap.size + 1 + 1 := by rw [hW0]; simp
  have nbw : NB w W0 := ⟨hb0, by rw [hW0]; simp [go_sem], by rw [hW0]; simp [go_sem], by rw [hW0]; simp [go_sem], fun j => by rw [hW0]; simp [go_sem], by omega⟩
  have hbW : Below W0.heap.size W0 W := by rw [hW]; exact (Below.refl _ _).alloc (Nat.le_refl _) _
  have nb0 := nbw.on hbW
  have t0 : W.cell? ⟨w.heap.size, 0, none⟩ = some (.int .i64 t.f) := keepC hbW (by rw [hW0]; simp [go_sem])
  have t1 : W.cell? ⟨w.heap.size, 1, none⟩ = some (.int .i64 t.v) := keepC hbW (by rw [hW0]; simp [go_sem])
  have t2 : W.cell? ⟨w.heap.size, 2, none⟩ = some (.slice a t.kids.length c) := keepC hbW (by rw [hW0]; simp [go_sem])
  have tp : W.cell? ⟨w.heap.size + 1 + 1, 0, none⟩ = some (.slice ua us.length uc) := by rw [hW, ← hz0]; simp [go_sem]
  have hB := nb0.be
  have C1 := applied_any (w.heap.size + 1 + 1) us ua uc lo sa ss sc t a c hi W hul tp (hu.on (hB.mono hlo)) (Nat.le_trans hlo hB.size) (hs.below hB) hpt hpp (hr.on (hB.mono hhi)) (Nat.le_trans hhi hB.size) hc hwf
  obtain ⟨P, hP⟩ : ∃ P, P = putV us t := ⟨_, rfl⟩
  rw [← hP] at C1 ⊢
  have HW : Hid (W = ((w.alloc (.cells #[.int .i64 t.f, .int .i64 t.v, .slice a t.kids.length c] 34)).alloc (.cells #[.int .i64 0, .int .i64 0, .slice none 0 0] 34)).alloc (.cells #[.slice ua us.length uc] 77)) := by show _ = _; rw [hW, hW0]
  have hWz : w.heap.size + 1 + 1 ≤ W.heap.size := nb0.z
  clear hu hs hr hW hW0 hz0 hb0 hbW nbw hP tp hB
  go_enter Tryz.func28, Tryz.ntmps28
  go_wp2_with fail
  rw [← HW.out]
  go_wp2_with (go_at_call 43; refine C1.mono ?_; rintro e w4 ⟨a', c', rfl, ho4, hc4, hb4⟩; have nb4 := nb0.on hb4; have d0 := nb4.c0; have d1 := nb4.c1; have d2 := nb4.c2; have df := nb4.cf; have hz4 := nb4.z; clear C1)
  obtain ⟨z0, z1, z2⟩ := set3_cells (u := w4) (r := w.heap.size + 1) (x := .int .i64 P.f) (y := .int .i64 P.v) (z := .slice a' (normT (blindAt ss) P).kids.length c') d0 d1 d2
  have hnS : ∀ j, ¬ (W.heap.size ≤ (⟨w.heap.size + 1, j, none⟩ : Addr).block ∧ (⟨w.heap.size + 1, j, none⟩ : Addr).block < w4.heap.size) := fun j q => by have := q.1; simp only at this; omega
  have hoF := ((ho4.setCell ⟨w.heap.size + 1, 0, none⟩ (hnS 0) (.int .i64 P.f)).setCell ⟨w.heap.size + 1, 1, none⟩ (hnS 1) (.int .i64 P.v)).setCell ⟨w.heap.size + 1, 2, none⟩ (hnS 2) (.slice a' (normT (blindAt ss) P).kids.length c')
  have hbF := ((nb4.be.setCell (p := ⟨w.heap.size + 1, 0, none⟩) (by simp) (.int .i64 P.f)).setCell (p := ⟨w.heap.size + 1, 1, none⟩) (by simp) (.int .i64 P.v)).setCell (p := ⟨w.heap.size + 1, 2, none⟩) (by simp) (.slice a' (normT (blindAt ss) P).kids.length c')
  refine bodyPost_ret (v := .agg #[.int .i64 P.f, .int .i64 P.v, .slice a' (normT (blindAt ss) P).kids.length c']) (by simp [results, Tryz.results28, go_sem, z0, z1, z2]) rfl ⟨a', c', rfl, hoF.mono (fun k hk => ⟨by omega, by simpa using hk.2⟩), hc4, hbF⟩
end Go.Proofs.YtollijngiioonabGreat

/- A term with what is put for its variables, as the specification makes it, not in one form yet. Conditions: terms of at most 549755813888 parts. -/
namespace Go.Proofs.YtollijngiioonabGreat
set_option maxRecDepth 100000
open Go.RowKit

theorem make_endR {w w4 : World} {x y : Int} {us : List TermD} {a' : Option Addr} {c' : Nat} (nb4 : MB w w4) (ho4 : OwnR w4 (fun k => w.heap.size + 1 ≤ k ∧ k < w4.heap.size) a' c' us) :
    OwnR (((w4.setCell ⟨w.heap.size, 0, none⟩ (.int .i64 x)).setCell ⟨w.heap.size, 1, none⟩ (.int .i64 y)).setCell ⟨w.heap.size, 2, none⟩ (.slice a' us.length c')) (fun k => w.heap.size ≤ k ∧ k < (((w4.setCell ⟨w.heap.size, 0, none⟩ (.int .i64 x)).setCell ⟨w.heap.size, 1, none⟩ (.int .i64 y)).setCell ⟨w.heap.size, 2, none⟩ (.slice a' us.length c')).heap.size) a' c' us := by
  have hnS : ∀ j, ¬ (w.heap.size + 1 ≤ (⟨w.heap.size, j, none⟩ : Addr).block ∧ (⟨w.heap.size, j, none⟩ : Addr).block < w4.heap.size) := fun j q => by have := q.1; simp only at this; omega
  have _ := nb4.z
  exact (((ho4.setCell ⟨w.heap.size, 0, none⟩ (hnS 0) (.int .i64 x)).setCell ⟨w.heap.size, 1, none⟩ (hnS 1) (.int .i64 y)).setCell ⟨w.heap.size, 2, none⟩ (hnS 2) (.slice a' us.length c')).mono (fun k hk => ⟨by omega, by simpa using hk.2⟩)
set_option maxHeartbeats 1600000 in
theorem specLookR_any (us : List BindD) (a : Option Addr) (c hi : Nat) (v : Int) (w : World) (hp : partsU us ≤ 549755813887) (hr : RdU w hi a us) (hhi : hi ≤ w.heap.size) :
    Calls Tryz.prog 49 #[.slice a us.length c, .int .i64 v] w fun e w' => ∃ a' c', e = .returned (.agg #[.int .i64 (lookT us v).f, .int .i64 (lookT us v).v, .slice a' (lookT us v).kids.length c']) ∧ OwnR w' (fun k => w.heap.size ≤ k ∧ k < w'.heap.size) a' c' (lookT us v).kids ∧ (lookT us v).kids.length ≤ c' ∧ Below w.heap.size w w' := by
  have hl : us.length ≤ 549755813888 := by unfold partsU at hp; omega
  have nb0 := MB.new w
  have HR : Hid _ := hr
  clear hr
  obtain ⟨T, hT⟩ : ∃ T, T = lookT us v := ⟨_, rfl⟩
  rw [← hT]
  have HT : Hid (T = lookT us v) := hT
  clear hT
  go_enter Tryz.func49, Tryz.ntmps49
  go_wp2_with fail
  go_loopw [5] (fun i wr => ∃ k : Nat, i = .int .i64 k ∧ k ≤ us.length ∧ MB w wr ∧ Hid (∀ j, (hj : j < us.length) → j < k → us[j].n ≠ v)) (fun i _ => us.length - (intOf i).toNat)
  case atStart => exact ⟨0, rfl, Nat.zero_le _, nb0, fun j _ h => absurd h (Nat.not_lt_zero _)⟩
  case round =>
    obtain ⟨k, rfl, hk, nb, HA⟩ := hrel
    clear nb0
    have hb := nb.be
    by_cases hk' : k < us.length
    · obtain ⟨b, off, a1, c1, rfl, hlt, d0, d1, d2, d3, hc', hkr, hz⟩ := RdU.get (HR.out.on (hb.mono hhi)) hk'
      have hki : (k : Int) < (us.length : Int) := by omega
      have hki0 : (0 : Int) ≤ (k : Int) := by omega
      by_cases he : us[k].n = v
      · have e : T = us[k].t := HT.out.trans (look_hit hk' he HA.out)
        subst e
        clear HT
        have heb : (us[k].n == v) = true := by simp [he]
        have hpg := partsU_get hk'
        have hpt := partsT_eq us[k].t
        have C := l3Copy_any 549755813888 us[k].t a1 c1 hi wr (by omega) (Nat.le_refl _) hkr (Nat.le_trans hhi hb.size) hz.2.1 hz.2.2
        clear HA hpg hpt hkr hz hc'
        go_wp2_with (go_at_call 58; refine C.mono ?_; rintro e w4 ⟨a', c', rfl, ho4, hc4, hb4⟩; have nb4 := nb.on hb4; have n0 := nb4.c0; have n1 := nb4.c1; have n2 := nb4.c2; have nf := nb4.cf; have nz := nb4.z; have hn1 := nb.z; clear C)
        obtain ⟨z0, z1, z2, hoF, hbF⟩ := make_end (x := us[k].t.f) (y := us[k].t.v) (us := us[k].t.kids) (a' := a') (c' := c') nb4 (ho4.s.mono (fun k hk => ⟨by omega, hk.2⟩))
        have hoR := make_endR (x := us[k].t.f) (y := us[k].t.v) nb4 (ho4.mono (fun k hk => ⟨by omega, hk.2⟩))
        exact bodyPost_ret (v := .agg #[.int .i64 us[k].t.f, .int .i64 us[k].t.v, .slice a' us[k].t.kids.length c']) (by simp [results, Tryz.results49, go_sem, z0, z1, z2]) rfl ⟨a', c', rfl, hoR, hc4, hbF⟩
      · have HE : Hid (us[k].n ≠ v) := he
        have heb : (us[k].n == v) = false := by simp [he]
        have he2 : ¬ us[k].n = v := he
        clear he hkr hz hc'
        go_wp2_with fail
        go_roundw
        case rel => exact ⟨k + 1, by go_num, by omega, nb, fun j hj hjk => by
          rcases Nat.lt_or_ge j k with h1 | h1
          · exact HA.out j hj h1
          · have : j = k := by omega
            subst this; exact HE.out⟩
        case measure => simp [intOf]; omega
    · have hki : ¬ (k : Int) < (us.length : Int) := by omega
      have e : T = .mk (-1) v [] := HT.out.trans (look_none (fun j hj => HA.out j hj (by omega)))
      subst e
      clear HT HA
      go_wp2_with (go_at_call 59; refine (l3Var_any v _).mono ?_; rintro e w4 ⟨rfl, hb4⟩; have nb4 := nb.on hb4; have n0 := nb4.c0; have n1 := nb4.c1; have n2 := nb4.c2; have nf := nb4.cf; have nz := nb4.z)
      obtain ⟨z0, z1, z2, hoF, hbF⟩ := make_end (x := -1) (y := v) (us := []) (a' := none) (c' := 0) nb4 (.nil _ _)
      simp only [List.length_nil] at z0 z1 z2 hoF hbF
      exact bodyPost_ret (v := .agg #[.int .i64 (-1), .int .i64 v, .slice none [].length 0]) (by simp [results, Tryz.results49, go_sem, z0, z1, z2]) rfl ⟨none, 0, rfl, .nil _, (Nat.le_refl _), hbF⟩

end Go.Proofs.YtollijngiioonabGreat

/- A term with what is put for its variables, as the specification makes it; in one form. Conditions: as its size is told. -/
namespace Go.Proofs.YtollijngiioonabGreat
set_option maxRecDepth 100000
open Go.RowKit

theorem mk_f (f v : Int) (ks : List TermD) : (TermD.mk f v ks).f = f := rfl
theorem mk_v (f v : Int) (ks : List TermD) : (TermD.mk f v ks).v = v := rfl
theorem mk_kids (f v : Int) (ks : List TermD) : (TermD.mk f v ks).kids = ks := rfl
set_option maxHeartbeats 3200000 in
set_option maxRecDepth 100000 in
theorem l6Put_any (us : List BindD) (ua : Option Addr) (uc : Nat) (hpu : partsU us ≤ 549755813887) (N : Nat) : ∀ (t : TermD) (a : Option Addr) (c hi : Nat) (w : World), partsT t ≤ N → N ≤ 549755813888 → RdU w hi ua us → RdK w hi a t.kids → hi ≤ w.heap.size → isW t.f → isW t.v →
    Calls Tryz.prog 39 #[.slice ua us.length uc, .agg #[.int .i64 t.f, .int .i64 t.v, .slice a t.kids.length c]] w fun e w' => ∃ a' c', e = .returned (.agg #[.int .i64 (putV us t).f, .int .i64 (putV us t).v, .slice a' (putV us t).kids.length c']) ∧ OwnR w' (fun x => w.heap.size ≤ x ∧ x < w'.heap.size) a' c' (putV us t).kids ∧ (putV us t).kids.length ≤ c' ∧ (isW (putV us t).f ∧ isW (putV us t).v) ∧ Below w.heap.size w w' := by
  induction N with
  | zero => intro t a c hi w h; rw [partsT_eq] at h; omega
  | succ N ih =>
    intro t a c hi w hN hM hu hr hhi hfw hvw
    rw [partsT_eq] at hN
    obtain ⟨i0, hi0, hz0, hz1, hz2⟩ := info_parts info29
    have hlen := partsL_len t.kids
    rw [putV_eq]
    by_cases hv : t.f = -1 ∧ t.kids = []
    · rw [if_pos hv]
      obtain ⟨w0, hw0⟩ : ∃ w0, w0 = w.alloc (.cells #[.int .i64 t.f, .int .i64 t.v, .slice a t.kids.length c] 34) := ⟨_, rfl⟩
      have hb0 : Below w.heap.size w w0 := by rw [hw0]; exact (Below.refl _ _).alloc (Nat.le_refl _) _
      obtain ⟨W, hW⟩ : ∃ W, W = w0.alloc (.cells #[.int .i64 0, .int .i64 0, .slice none 0 0] 34) := ⟨_, rfl⟩
      have nb0 : MB w0 W := by rw [hW]; exact MB.new w0
      have hB := hb0.trans (nb0.be.mono hb0.size)
      have t0 : W.cell? ⟨w.heap.size, 0, none⟩ = some (.int .i64 t.f) := by rw [hW, hw0]; simp [go_sem]
      have t1 : W.cell? ⟨w.heap.size, 1, none⟩ = some (.int .i64 t.v) := by rw [hW, hw0]; simp [go_sem]
      have t2 : W.cell? ⟨w.heap.size, 2, none⟩ = some (.slice a t.kids.length c) := by rw [hW, hw0]; simp [go_sem]
      have hwz : w0.heap.size = w.heap.size + 1 := by rw [hw0]; simp
      have C := specLookR_any us ua uc hi t.v W hpu (hu.on (hB.mono hhi)) (Nat.le_trans hhi hB.size)
      have hwf := look_wf hu hvw
      have e1 := hv.1
      have e2 : t.kids.length = 0 := by rw [hv.2]; rfl
      have HWW : Hid (W = (w.alloc (.cells #[.int .i64 t.f, .int .i64 t.v, .slice a t.kids.length c] 34)).alloc (.cells #[.int .i64 0, .int .i64 0, .slice none 0 0] 34)) := by show _ = _; rw [hW, hw0]
      rw [e1] at t0
      rw [e2] at t2
      generalize lookT us t.v = T at C hwf ⊢
      have hwz2 : w.heap.size + 1 ≤ w0.heap.size := by omega
      have HWZ : Hid (w0.heap.size = w.heap.size + 1) := hwz
      have n4 : True := trivial
      clear hu hr hW hw0 hv hwz ih hN
      rw [e1, e2] at HWW
      rw [e1, e2]
      clear e1 e2
      go_enter Tryz.func39, Tryz.ntmps39
      go_wp2_with (go_at_call 49; rw [← HWW.out]; refine C.mono ?_; rintro e w4 ⟨a', c', rfl, ho4, hc4, hb4⟩; have nb4 := nb0.on hb4; have n0 := nb4.c0; have n1 := nb4.c1; have n2 := nb4.c2; have nf := nb4.cf; have nz := nb4.z; have nz0 := nb0.z; rw [HWZ.out] at n0 n1 n2 nf; clear C HWW)
      obtain ⟨z0, z1, z2, _, hbF⟩ := make_end (x := T.f) (y := T.v) (us := T.kids) (a' := a') (c' := c') nb4 (ho4.s.mono (fun k hk => ⟨by omega, hk.2⟩))
      have hoR := make_endR (x := T.f) (y := T.v) nb4 (ho4.mono (fun k hk => ⟨by omega, hk.2⟩))
      rw [HWZ.out] at z0 z1 z2 hbF hoR
      have hbF2 := hb0.trans (Below.mono hbF (by have := hb0.size; omega))
      exact bodyPost_ret (v := .agg #[.int .i64 T.f, .int .i64 T.v, .slice a' T.kids.length c']) (by simp [results, Tryz.results39, go_sem, z0, z1, z2]) rfl ⟨a', c', rfl, hoR.mono (fun k hk => ⟨by omega, hk.2⟩), hc4, hwf, hbF2⟩
    rw [if_neg hv]
    obtain ⟨f0, v0, ks0⟩ := t
    dsimp only [mk_f, mk_v, mk_kids] at *
    have htst : (f0 == -1) = false ∨ ((f0 == -1) = true ∧ ((ks0.length : Int) == 0) = false) := by
      by_cases h : f0 = -1
      · refine .inr ⟨by simp [h], ?_⟩
        have : ks0.length ≠ 0 := fun e => hv ⟨h, List.length_eq_zero_iff.1 e⟩
        rw [beq_eq_false_iff_ne]; omega
      · exact .inl (by simp [h])
    have HR : Hid (RdK w hi a ks0) := hr
    have HU : Hid (RdU w hi ua us) := hu
    have HWF : Hid (isW f0 ∧ isW v0) := ⟨hfw, hvw⟩
    have HTS : Hid _ := htst
    clear hr hu hfw hvw hv htst
    have C0 : NC w (.mk f0 v0 ks0) a c (.slice none 0 0) (((w.alloc (.cells #[.int .i64 f0, .int .i64 v0, .slice a ks0.length c] 34)).alloc (.cells #[.int .i64 0, .int .i64 0, .slice none 0 0] 34)).alloc (.cells #[.int .i64 f0, .int .i64 v0, .slice none 0 0] 34)) := by
      refine ⟨?_, ?_, ?_, ?_, ?_, ?_, ?_, ?_, fun j => ?_, fun j => ?_, (((Below.refl _ _).alloc (Nat.le_refl _) _).alloc (by simp) _).alloc (by simp; omega) _, ?_⟩
      all_goals simp [go_sem, mk_f, mk_v, mk_kids]
    have htst := HTS.out
    clear HTS
    rcases htst with h | ⟨h, h2⟩
    all_goals
      go_enter Tryz.func39, Tryz.ntmps39
      go_wp2_with fail
      go_loopw [6] (fun i wr => ∃ (k : Nat) (L : List FE) (av : Option Addr) (cv : Nat), k ≤ ks0.length ∧ i = .int .i64 k ∧ NC w (.mk f0 v0 ks0) a c (.slice av L.length cv) wr ∧ NR (w.heap.size + 1 + 1 + 1) L [] av cv wr ∧ Hid (L.map FE.t = (ks0.take k).map (putV us))) (fun i _ => ks0.length - (intOf i).toNat)
      case atStart => exact ⟨0, [], none, 0, Nat.zero_le _, rfl, C0, NR.start _ _, by show _ = _; simp⟩
      case round =>
        obtain ⟨k, L, av, cv, hk, rfl, C, R, HL⟩ := hrel
        clear C0
        have p2 : wr.cell? ⟨w.heap.size, 2, none⟩ = some (.slice a ks0.length c) := C.p2
        have hz := C.z
        have hLl : L.length ≤ ks0.length := by have := congrArg List.length HL.out; simp at this; omega
        by_cases hk' : k < ks0.length
        · obtain ⟨b, off, a', c', rfl, hlt, d0, d1, d2, hkr⟩ := RdK.kid (HR.out.on (C.bel.mono hhi)) hk'
          have hints := HR.out.ints hk'
          have hpg := partsL_get hk'
          have hki : (k : Int) < (ks0.length : Int) := by omega
          have hki0 : (0 : Int) ≤ (k : Int) := by omega
          have hkz : (L.length : Int) < (L.length : Int) + 1 := by omega
          have hLb : L.length ≤ 549755813888 := by omega
          have HK : Hid (L.map FE.t ++ [putV us ks0[k]] = (ks0.take (k + 1)).map (putV us)) := by show _ = _; rw [HL.out, List.take_succ_eq_append_getElem hk', List.map_append]; rfl
          have I := fun (w' : World) (h : Below wr.heap.size wr w') => ih ks0[k] a' c' hi w' (by omega) (by omega) (HU.out.on ((C.bel.trans (h.mono C.bel.size)).mono hhi)) (hkr.on (h.mono (Nat.le_trans hhi C.bel.size))) (Nat.le_trans (Nat.le_trans hhi C.bel.size) h.size) hints.1 hints.2
          generalize ks0[k] = u at d0 d1 d2 I HK
          generalize putV us u = P at I HK
          have q2 := C.q2
          clear hkr hints hpg ih hlt
          have hlb : b < wr.heap.size := World.block_lt_of_cell? _ _ d0
          have b1 : Below wr.heap.size wr (wr.alloc (.cells #[.int .i64 0, .int .i64 0, .slice none 0 0] 34)) := (Below.refl _ _).alloc (Nat.le_refl _) _
          have p2a := keepC b1 p2
          have q2a := keepC b1 q2
          have d0a := keepC b1 d0
          have d1a := keepC b1 d1
          have d2a := keepC b1 d2
          clear b1
          go_wp2_with fail
          go_region_law (first
            | (go_simp; go_at_call 39; refine (I (wr.drew.alloc (.cells #[.int .i64 0, .int .i64 0, .slice none 0 0] 34)) ((Below.refl _ _).drew.alloc (by simp) _)).mono ?_; rintro e1 w1 ⟨a1, c1, rfl, o1, hle1, hI1, hb1⟩; have C1 := (C.on ((Below.refl _ _).drew.alloc (by simp) _)).on hb1; have R1 := (R.on ((Below.refl _ _).drew.alloc (by simp) _)).join hb1 (fe_one o1 hle1 hI1.1 hI1.2 (Nat.le_of_lt_succ (by simp; omega))) (fun e he x hx => by simp only [List.mem_singleton] at he; subst he; exact hx.1); have z0 := keepC (p := ⟨wr.heap.size, 0, none⟩) (v := .int .i64 0) hb1 (by simp [go_sem]); have z1 := keepC (p := ⟨wr.heap.size, 1, none⟩) (v := .int .i64 0) hb1 (by simp [go_sem]); have z2 := keepC (p := ⟨wr.heap.size, 2, none⟩) (v := .slice none 0 0) hb1 (by simp [go_sem]); have c2' := C1.q2; have f2' := C1.fq 2; have hbw := C1.z; have hne : (Value.slice av L.length cv).ownBlock ≠ some (w.heap.size + 1 + 1) := (fun q => by have := (R1.row.lt _ q).1; omega); have hrow := R1.row; have hxl := hrow.1; have hsz1 := hb1.size; have HC : Hid _ := C1; have HRR : Hid _ := R1; clear C1 R1 hb1 o1)
            | (go_simp; go_at_call 39; refine (I wr.drew (Below.refl _ _).drew).mono ?_; rintro e1 w1 ⟨a1, c1, rfl, o1, hle1, hI1, hb1⟩; have C1 := (C.on (Below.refl _ _).drew).on hb1; have R1 := (R.on (Below.refl _ _).drew).join hb1 (fe_one o1 hle1 hI1.1 hI1.2 (Nat.le_of_lt_succ (by simp; omega))) (fun e he x hx => by simp only [List.mem_singleton] at he; subst he; exact hx.1); have zB : True := trivial; have c2' := C1.q2; have f2' := C1.fq 2; have hbw := C1.z; have hne : (Value.slice av L.length cv).ownBlock ≠ some (w.heap.size + 1 + 1) := (fun q => by have := (R1.row.lt _ q).1; omega); have hrow := R1.row; have hxl := hrow.1; have hsz1 := hb1.size; have HC : Hid _ := C1; have HRR : Hid _ := R1; clear C1 R1 hb1 o1)
            | (have _ := zB; refine step_append_own rfl (.tmp 33) (.tmp 41) 32 rfl (w.heap.size + 1 + 1 + 1) 34 i0 _ 3 40 Tryz.underlying32 hi0 hz0 hz1 hz2 rfl (by decide) (.slice av L.length cv) L.length (cs3 (L.map FE.cells)) (by first | (simp [Act.eval]; done) | simp [Act.eval, Act.put]) (own_on hrow (by repeat (first | exact Below.refl _ _ | refine Below.drew ?_ | refine Below.alloc ?_ (by simp) _))) ⟨w1.heap.size, 0, none⟩ 1 1 [.int .i64 P.f, .int .i64 P.v, .slice a1 P.kids.length c1] (by first | (simp [Act.eval]; done) | simp [Act.eval, Act.put]) rfl (three_at (by simp) (by simp) (by simp)) (three_cell _ _ _ _ _) (by unfold maxLen; omega) (by omega) (by simp <;> omega) ?_; intro v5 w5 hown5 hgrow5 hat5; have HA5 : Hid _ := hat5; obtain ⟨g5, c5, rfl, _⟩ := own_slot hown5; have HO5 : Hid _ := hown5; have HG5 : Hid _ := hgrow5; have A5 := cpy_app HC.out HRR.out (by repeat (first | exact Below.refl _ _ | refine Below.drew ?_ | refine Below.alloc ?_ (by simp) _)) hown5 hgrow5 hat5; have c4' := A5.1.q2; have f4' := A5.1.fq 2; have HA : Hid _ := A5; clear A5 hown5 hgrow5 hat5)
            | (refine step_append_own rfl (.tmp 33) (.tmp 41) 32 rfl (w.heap.size + 1 + 1 + 1) 34 i0 _ 3 40 Tryz.underlying32 hi0 hz0 hz1 hz2 rfl (by decide) (.slice av L.length cv) L.length (cs3 (L.map FE.cells)) (by first | (simp [Act.eval]; done) | simp [Act.eval, Act.put]) (own_on hrow (by repeat (first | exact Below.refl _ _ | refine Below.drew ?_ | refine Below.alloc ?_ (by simp) _))) ⟨wr.heap.size, 0, none⟩ 1 1 [.int .i64 0, .int .i64 0, .slice none 0 0] (by first | (simp [Act.eval]; done) | simp [Act.eval, Act.put]) rfl (three_at z0 z1 z2) (three_cell _ _ _ _ _) (by unfold maxLen; omega) (by omega) (by simp <;> omega) ?_; intro v5 w5 hown5 hgrow5 hat5; have PF := put_facts hrow.1 hown5 hgrow5 hat5 (by repeat (first | exact Below.refl _ _ | refine Below.drew ?_ | refine Below.alloc ?_ (by simp) _)) hbw c2' f2' hne; have HA5 : Hid _ := hat5; obtain ⟨g5, c5, rfl, ⟨e0, e1, e2⟩, ⟨f0, f1, f2⟩, c4', f4', hg5, hc5, hat'⟩ := PF; have HO5 : Hid _ := hown5; have HG5 : Hid _ := hgrow5; clear hown5 hgrow5 hat5))
          all_goals
            clear c4' f4'
            have A5 := HA.out
            have C6 := A5.1.set (.slice (some ⟨g5, 0, none⟩) (L.length + 1) c5)
            have R6 := A5.2.set (p := ⟨w.heap.size + 1 + 1, 2, none⟩) (.slice (some ⟨g5, 0, none⟩) (L.length + 1) c5) (by simp only; omega)
            clear A5 HA
            go_wp2_with fail
            refine ⟨⟨k + 1, L ++ [⟨P, a1, c1, _⟩], some ⟨g5, 0, none⟩, c5, by omega, by go_num, by simpa using C6, R6, ?_⟩, by simp [intOf]; omega⟩
            show _ = _
            rw [fe_snoc, HK.out]
        · have E : Hid (k = ks0.length) := (by omega : k = ks0.length)
          have q0 := C.q0
          have q1 := C.q1
          have q2 := C.q2
          have r0 := C.r0
          have r1 := C.r1
          have r2 := C.r2
          simp only [mk_f, mk_v] at q0 q1 q2 r0 r1 r2
          have fr := C.fr
          have hL : Hid (L.map FE.t = ks0.map (putV us)) := by
            show _ = _
            rw [HL.out, E.out, List.take_length]
          have O : OwnR wr (fun x => w.heap.size + 1 + 1 + 1 ≤ x ∧ x < wr.heap.size) av cv (L.map FE.t) := by
            rcases R.row.2 with ⟨hv, h0⟩ | ⟨g, cap, _, hv, _⟩
            · have : L = [] := List.length_eq_zero_iff.1 h0
              subst this; cases hv; exact .nil _
            · cases hv
              exact (by simpa using R.fo : Forest wr _ L).owns R.row (fun e he => R.ap g rfl e (by simpa using he)) (by omega)
          have hcl : L.length ≤ cv := by obtain ⟨_, _, h, hh⟩ := own_form R.row; cases h; exact hh
          have hbel := C.bel
          clear C R HL E ih
          go_wp2_with fail
          obtain ⟨z0, z1, z2⟩ := set3_cells (u := wr) (r := w.heap.size + 1) (x := .int .i64 f0) (y := .int .i64 v0) (z := .slice av L.length cv) r0 r1 r2
          have hn : ¬ (w.heap.size + 1 + 1 + 1 ≤ w.heap.size + 1 ∧ w.heap.size + 1 < wr.heap.size) := by omega
          have O3 := ((O.setCell ⟨w.heap.size + 1, 0, none⟩ hn (.int .i64 f0)).setCell ⟨w.heap.size + 1, 1, none⟩ hn (.int .i64 v0)).setCell ⟨w.heap.size + 1, 2, none⟩ hn (.slice av L.length cv)
          rw [← hL.out, List.length_map]
          refine bodyPost_ret (v := .agg #[.int .i64 f0, .int .i64 v0, .slice av L.length cv]) (by simp [results, Tryz.results39, go_sem, z0, z1, z2]) rfl ⟨av, cv, rfl, O3.mono (fun x hx => ⟨by omega, by simpa using hx.2⟩), by simpa using hcl, HWF.out, ?_⟩
          exact ((hbel.setCell (p := ⟨w.heap.size + 1, 0, none⟩) (by simp) _).setCell (p := ⟨w.heap.size + 1, 1, none⟩) (by simp) _).setCell (p := ⟨w.heap.size + 1, 2, none⟩) (by simp) _
end Go.Proofs.YtollijngiioonabGreat

/- A term with what is put for its variables, in one form: the specification's way. Conditions: as its size is told. -/
namespace Go.Proofs.YtollijngiioonabGreat
set_option maxRecDepth 100000
open Go.RowKit

set_option maxHeartbeats 1600000 in
theorem specApply_any (sa : Option Addr) (ss : List SymD) (sc : Nat) (us : List BindD) (ua : Option Addr) (uc : Nat) (t : TermD) (a : Option Addr) (c hi : Nat) (w : World) (hsl : ss.length ≤ 1048577) (hpu : partsU us ≤ 549755813887) (hu : RdU w hi ua us) (hs : RdS w sa ss)
    (hpt : partsT t ≤ 549755813888) (hpp : partsT (putV us t) ≤ 549755813888) (hr : RdK w hi a t.kids) (hhi : hi ≤ w.heap.size) (hwf : isW t.f ∧ isW t.v) :
    Calls Tryz.prog 23 #[.slice sa ss.length sc, .slice ua us.length uc, .agg #[.int .i64 t.f, .int .i64 t.v, .slice a t.kids.length c]] w fun e w' => ∃ a' c', e = .returned (.agg #[.int .i64 (putV us t).f, .int .i64 (putV us t).v, .slice a' (normT (blindAt ss) (putV us t)).kids.length c']) ∧ OwnS w' (fun k => w.heap.size ≤ k ∧ k < w'.heap.size) a' (normT (blindAt ss) (putV us t)).kids ∧ Below w.heap.size w w' := by
  obtain ⟨W, hW⟩ : ∃ W, W = (w.alloc (.cells #[.int .i64 t.f, .int .i64 t.v, .slice a t.kids.length c] 34)).alloc (.cells #[.int .i64 0, .int .i64 0, .slice none 0 0] 34) := ⟨_, rfl⟩
  have hb0 : Below w.heap.size w W := by rw [hW]; exact ((Below.refl _ _).alloc (Nat.le_refl _) _).alloc (by simp) _
  have nb0 : NB w W := ⟨hb0, by rw [hW]; simp [go_sem], by rw [hW]; simp [go_sem], by rw [hW]; simp [go_sem], fun j => by rw [hW]; simp [go_sem], by rw [hW]; simp⟩
  have C1 := l6Put_any us ua uc hpu 549755813888 t a c hi W hpt (Nat.le_refl _) (hu.on (hb0.mono hhi)) (hr.on (hb0.mono hhi)) (Nat.le_trans hhi hb0.size) hwf.1 hwf.2
  obtain ⟨P, hP⟩ : ∃ P, P = putV us t := ⟨_, rfl⟩
  rw [← hP] at hpp C1 ⊢
  have HS : Hid (RdS w sa ss) := hs
  have HW : Hid (W = (w.alloc (.cells #[.int .i64 t.f, .int .i64 t.v, .slice a t.kids.length c] 34)).alloc (.cells #[.int .i64 0, .int .i64 0, .slice none 0 0] 34)) := hW
  have hWz := nb0.z
  clear hu hs hr hW hb0 hwf hP
  go_enter Tryz.func23, Tryz.ntmps23
  go_wp2_with (first
    | (go_at_call 39; rw [← HW.out]; refine C1.mono ?_; rintro e w3 ⟨a3, c3, rfl, ho3, hle3, hw3, hb3⟩; have nb3 := nb0.on hb3; have C3 := specNorm_any ss sa sc hsl 549755813888 P a3 c3 w3.heap.size w3 hpp (Nat.le_refl _) ho3.rd (Nat.le_refl _) hw3.1 hw3.2 (HS.out.below nb3.be); clear C1 nb0 ho3)
    | (go_at_call 37; refine C3.mono ?_; rintro e w4 ⟨a', c', rfl, ho4, hc4, hb4⟩; have nb4 := nb3.on hb4; have d0 := nb4.c0; have d1 := nb4.c1; have d2 := nb4.c2; have df := nb4.cf; have hz4 := nb4.z; have hz34 := nb3.z; clear C3))
  obtain ⟨z0, z1, z2⟩ := set3_cells (u := w4) (r := w.heap.size + 1) (x := .int .i64 P.f) (y := .int .i64 P.v) (z := .slice a' (normT (blindAt ss) P).kids.length c') d0 d1 d2
  have hnS : ∀ j, ¬ (w3.heap.size ≤ (⟨w.heap.size + 1, j, none⟩ : Addr).block ∧ (⟨w.heap.size + 1, j, none⟩ : Addr).block < w4.heap.size) := fun j q => by have := q.1; simp only at this; omega
  have hoF := ((ho4.s.setCell ⟨w.heap.size + 1, 0, none⟩ (hnS 0) (.int .i64 P.f)).setCell ⟨w.heap.size + 1, 1, none⟩ (hnS 1) (.int .i64 P.v)).setCell ⟨w.heap.size + 1, 2, none⟩ (hnS 2) (.slice a' (normT (blindAt ss) P).kids.length c')
  have hbF := ((nb4.be.setCell (p := ⟨w.heap.size + 1, 0, none⟩) (by simp) (.int .i64 P.f)).setCell (p := ⟨w.heap.size + 1, 1, none⟩) (by simp) (.int .i64 P.v)).setCell (p := ⟨w.heap.size + 1, 2, none⟩) (by simp) (.slice a' (normT (blindAt ss) P).kids.length c')
  refine bodyPost_ret (v := .agg #[.int .i64 P.f, .int .i64 P.v, .slice a' (normT (blindAt ss) P).kids.length c']) (by simp [results, Tryz.results23, go_sem, z0, z1, z2]) rfl ⟨a', c', rfl, hoF.mono (fun k hk => ⟨by omega, by simpa using hk.2⟩), hbF⟩
end Go.Proofs.YtollijngiioonabGreat

