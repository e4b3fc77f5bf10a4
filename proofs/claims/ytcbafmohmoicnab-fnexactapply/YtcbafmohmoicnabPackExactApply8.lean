/- What the proof of FnExactApply stands on, part 8 of 10: each piece says what it proves and under which conditions. Conditions: as each piece says. -/
import Derived.Test.YtcbafmohmoicnabPackExactApply7
import Derived.Test.YtcbafmohmoicnabProg
import Derived.Tactics
import Derived.WalkKit
import Derived.Deep.RegionLaw
import Derived.ProofKit
import Derived.OpenShut
import Derived.WalkSmall
import Derived.Deep.QuietTactic
import Derived.BigQuiet
import Derived.Lib.Builder
/- Contracts of the laws' helpers on what is put for variables: it is copied, and owns its memory. Conditions: at most 549755813887 parts. -/
namespace Go.Proofs.Ytcbafmohmoicnab
set_option maxRecDepth 100000
open Go.RowKit

theorem infoB : (Try.prog.info? 71).map (fun i => (i.zero, i.size, i.bytes)) = some (some (.agg #[.int .i64 0, .int .i64 0, .int .i64 0, .slice none 0 0]), 4, 48) := by kernel_rfl

/-- Four cells are written. -/
def set4 (W : World) (b o : Nat) (x y z v : Value) : World := (((W.setCell ⟨b, o, none⟩ x).setCell ⟨b, o + 1, none⟩ y).setCell ⟨b, o + 2, none⟩ z).setCell ⟨b, o + 3, none⟩ v
theorem set4_cells {u : World} {r o : Nat} {x y z v p q s t : Value} (h0 : u.cell? ⟨r, o, none⟩ = some p) (h1 : u.cell? ⟨r, o + 1, none⟩ = some q) (h2 : u.cell? ⟨r, o + 2, none⟩ = some s) (h3 : u.cell? ⟨r, o + 3, none⟩ = some t) :
    (set4 u r o x y z v).cell? ⟨r, o, none⟩ = some x ∧ (set4 u r o x y z v).cell? ⟨r, o + 1, none⟩ = some y ∧ (set4 u r o x y z v).cell? ⟨r, o + 2, none⟩ = some z ∧ (set4 u r o x y z v).cell? ⟨r, o + 3, none⟩ = some v := by
  have n : ∀ i j, i ≠ j → (⟨r, o + i, none⟩ : Addr) ≠ ⟨r, o + j, none⟩ := fun i j h e => by injection e with _ e2; omega
  have n0 : ∀ j, j ≠ 0 → (⟨r, o + j, none⟩ : Addr) ≠ ⟨r, o, none⟩ := fun j h e => by injection e with _ e2; omega
  have m0 : ∀ j, j ≠ 0 → (⟨r, o, none⟩ : Addr) ≠ ⟨r, o + j, none⟩ := fun j h e => by injection e with _ e2; omega
  unfold set4
  refine ⟨?_, ?_, ?_, ?_⟩
  · rw [World.cell?_setCell_other _ _ _ _ (n0 3 (by omega)), World.cell?_setCell_other _ _ _ _ (n0 2 (by omega)), World.cell?_setCell_other _ _ _ _ (n0 1 (by omega))]
    exact World.cell?_setCell_same _ _ _ h0
  · rw [World.cell?_setCell_other _ _ _ _ (n 3 1 (by omega)), World.cell?_setCell_other _ _ _ _ (n 2 1 (by omega))]
    exact World.cell?_setCell_same _ _ _ (by rw [World.cell?_setCell_other _ _ _ _ (m0 1 (by omega))]; exact h1)
  · rw [World.cell?_setCell_other _ _ _ _ (n 3 2 (by omega))]
    exact World.cell?_setCell_same _ _ _ (by rw [World.cell?_setCell_other _ _ _ _ (n 1 2 (by omega)), World.cell?_setCell_other _ _ _ _ (m0 2 (by omega))]; exact h2)
  · exact World.cell?_setCell_same _ _ _ (by rw [World.cell?_setCell_other _ _ _ _ (n 2 3 (by omega)), World.cell?_setCell_other _ _ _ _ (n 1 3 (by omega)), World.cell?_setCell_other _ _ _ _ (m0 3 (by omega))]; exact h3)
theorem set4_own {W : World} {b o : Nat} {x y z v : Value} {S : Nat → Prop} {a : Option Addr} {ts : List TermD} (h : OwnS W S a ts) (hn : ¬ S b) : OwnS (set4 W b o x y z v) S a ts :=
  (((h.setCell ⟨b, o, none⟩ hn x).setCell ⟨b, o + 1, none⟩ hn y).setCell ⟨b, o + 2, none⟩ hn z).setCell ⟨b, o + 3, none⟩ hn v
theorem set4_below {w W : World} {B b o : Nat} {x y z v : Value} (h : Below B w W) (hb : B ≤ b) : Below B w (set4 W b o x y z v) :=
  (((h.setCell (p := ⟨b, o, none⟩) hb x).setCell (p := ⟨b, o + 1, none⟩) hb y).setCell (p := ⟨b, o + 2, none⟩) hb z).setCell (p := ⟨b, o + 3, none⟩) hb v
theorem set4_size (W : World) (b o : Nat) (x y z v : Value) : (set4 W b o x y z v).heap.size = W.heap.size := by unfold set4; simp

set_option maxHeartbeats 1600000 in
theorem toBind_any (u : BindD) (a : Option Addr) (c hi : Nat) (w : World) (hp : partsT u.t ≤ 549755813888) (hr : RdK w hi a u.t.kids) (hhi : hi ≤ w.heap.size) :
    Calls Try.prog 46 #[.agg #[.int .i64 u.n, .int .i64 u.t.f, .int .i64 u.t.v, .slice a u.t.kids.length c]] w fun e w' => ∃ a', e = .returned (.agg #[.int .i64 u.n, .int .i64 u.t.f, .int .i64 u.t.v, .slice a' u.t.kids.length u.t.kids.length]) ∧ OwnS w' (fun x => w.heap.size ≤ x ∧ x < w'.heap.size) a' u.t.kids ∧ Below w.heap.size w w' := by
  obtain ⟨W, hW⟩ : ∃ W, W = (((w.alloc (.cells #[.int .i64 u.n, .int .i64 u.t.f, .int .i64 u.t.v, .slice a u.t.kids.length c] 64)).alloc (.cells #[.int .i64 0, .int .i64 0, .int .i64 0, .slice none 0 0] 71)).alloc (.cells #[.int .i64 u.n, .int .i64 0, .int .i64 0, .slice none 0 0] 71)) := ⟨_, rfl⟩
  have hWs : w.heap.size + 1 + 1 < W.heap.size := by rw [hW]; simp
  have h0 : Below w.heap.size w W := by rw [hW]; exact (((Below.refl _ _).alloc (Nat.le_refl _) _).alloc (by simp) _).alloc (by simp; omega) _
  have C := toTerm_any u.t a c hi W hp (hr.on (h0.mono hhi)) (Nat.le_trans hhi h0.size)
  have x0 : W.cell? ⟨w.heap.size + 1, 0, none⟩ = some (.int .i64 0) := by rw [hW]; simp [go_sem]
  have x1 : W.cell? ⟨w.heap.size + 1, 1, none⟩ = some (.int .i64 0) := by rw [hW]; simp [go_sem]
  have x2 : W.cell? ⟨w.heap.size + 1, 2, none⟩ = some (.int .i64 0) := by rw [hW]; simp [go_sem]
  have x3 : W.cell? ⟨w.heap.size + 1, 3, none⟩ = some (.slice none 0 0) := by rw [hW]; simp [go_sem]
  have y0 : W.cell? ⟨w.heap.size + 1 + 1, 0, none⟩ = some (.int .i64 u.n) := by rw [hW]; simp [go_sem]
  have y1 : W.cell? ⟨w.heap.size + 1 + 1, 1, none⟩ = some (.int .i64 0) := by rw [hW]; simp [go_sem]
  have y2 : W.cell? ⟨w.heap.size + 1 + 1, 2, none⟩ = some (.int .i64 0) := by rw [hW]; simp [go_sem]
  have y3 : W.cell? ⟨w.heap.size + 1 + 1, 3, none⟩ = some (.slice none 0 0) := by rw [hW]; simp [go_sem]
  have fz : ∀ j, W.frozen? ⟨w.heap.size + 1, j, none⟩ = false := by intro j; rw [hW]; simp [go_sem]
  have gz : ∀ j, W.frozen? ⟨w.heap.size + 1 + 1, j, none⟩ = false := by intro j; rw [hW]; simp [go_sem]
  have HW : Hid _ := hW
  clear hW hr
  go_enter Try.func46, Try.ntmps46
  go_wp2_with (go_at_call 14; (rw [← HW.out]; refine C.mono ?_; rintro e w1 ⟨a1, rfl, ho1, hb1⟩; have a0 := keepC hb1 x0; have a1' := keepC hb1 x1; have a2 := keepC hb1 x2; have a3 := keepC hb1 x3; have b0 := keepC hb1 y0; have b1 := keepC hb1 y1; have b2 := keepC hb1 y2; have b3 := keepC hb1 y3; have fa : ∀ j, w1.frozen? ⟨w.heap.size + 1, j, none⟩ = false := (fun j => (hb1.frozen (p := ⟨w.heap.size + 1, j, none⟩) (by simp only; omega)).trans (fz j)); have fb : ∀ j, w1.frozen? ⟨w.heap.size + 1 + 1, j, none⟩ = false := (fun j => (hb1.frozen (p := ⟨w.heap.size + 1 + 1, j, none⟩) (by simp only; omega)).trans (gz j)); have hz1 := hb1.size; clear x0 x1 x2 x3 y0 y1 y2 y3 fz gz C HW))
  obtain ⟨X, hX⟩ : ∃ X, X = ((w1.setCell ⟨w.heap.size + 1 + 1, 1, none⟩ (.int .i64 u.t.f)).setCell ⟨w.heap.size + 1 + 1, 2, none⟩ (.int .i64 u.t.v)).setCell ⟨w.heap.size + 1 + 1, 3, none⟩ (.slice a1 u.t.kids.length u.t.kids.length) := ⟨_, rfl⟩
  have other : ∀ j v, w1.cell? ⟨w.heap.size + 1, j, none⟩ = some v → X.cell? ⟨w.heap.size + 1, j, none⟩ = some v := fun j v h => by
    have e : ∀ i, (⟨w.heap.size + 1 + 1, i, none⟩ : Addr) ≠ ⟨w.heap.size + 1, j, none⟩ := fun i q => by injection q with q1; omega
    rw [hX, World.cell?_setCell_other _ _ _ _ (e 3), World.cell?_setCell_other _ _ _ _ (e 2), World.cell?_setCell_other _ _ _ _ (e 1)]; exact h
  have hn2 : ¬ (W.heap.size ≤ w.heap.size + 1 + 1 ∧ w.heap.size + 1 + 1 < w1.heap.size) := by omega
  have hn1 : ¬ (W.heap.size ≤ w.heap.size + 1 ∧ w.heap.size + 1 < w1.heap.size) := by omega
  have oX : OwnS X (fun x => W.heap.size ≤ x ∧ x < w1.heap.size) a1 u.t.kids := by rw [hX]; exact ((ho1.setCell ⟨w.heap.size + 1 + 1, 1, none⟩ hn2 _).setCell ⟨w.heap.size + 1 + 1, 2, none⟩ hn2 _).setCell ⟨w.heap.size + 1 + 1, 3, none⟩ hn2 _
  have hB1 := h0.trans (hb1.mono h0.size)
  have bX : Below w.heap.size w X := by rw [hX]; exact ((hB1.setCell (p := ⟨w.heap.size + 1 + 1, 1, none⟩) (by simp only; omega) _).setCell (p := ⟨w.heap.size + 1 + 1, 2, none⟩) (by simp only; omega) _).setCell (p := ⟨w.heap.size + 1 + 1, 3, none⟩) (by simp only; omega) _
  have zX : X.heap.size = w1.heap.size := by rw [hX]; simp
  rw [← hX]
  obtain ⟨q0, q1, q2, q3⟩ := set4_cells (u := X) (r := w.heap.size + 1) (o := 0) (x := .int .i64 u.n) (y := .int .i64 u.t.f) (z := .int .i64 u.t.v) (v := .slice a1 u.t.kids.length u.t.kids.length) (other 0 _ a0) (other 1 _ a1') (other 2 _ a2) (other 3 _ a3)
  have O := set4_own (b := w.heap.size + 1) (o := 0) (x := .int .i64 u.n) (y := .int .i64 u.t.f) (z := .int .i64 u.t.v) (v := .slice a1 u.t.kids.length u.t.kids.length) oX hn1
  have Bf := set4_below (b := w.heap.size + 1) (o := 0) (x := .int .i64 u.n) (y := .int .i64 u.t.f) (z := .int .i64 u.t.v) (v := .slice a1 u.t.kids.length u.t.kids.length) bX (by omega)
  have Zf := set4_size X (w.heap.size + 1) 0 (.int .i64 u.n) (.int .i64 u.t.f) (.int .i64 u.t.v) (.slice a1 u.t.kids.length u.t.kids.length)
  unfold set4 at q0 q1 q2 q3 O Bf Zf
  simp only [Nat.zero_add] at q0 q1 q2 q3 O Bf Zf
  refine bodyPost_ret (v := .agg #[.int .i64 u.n, .int .i64 u.t.f, .int .i64 u.t.v, .slice a1 u.t.kids.length u.t.kids.length]) (by simp [results, Try.results46, go_sem, q0, q1, q2, q3]) rfl ⟨a1, rfl, O.mono (fun x hx => ⟨by omega, by rw [Zf, zX]; exact hx.2⟩), Bf⟩

/-- What lies in memory when the first k Binds are copied. -/
structure BSt (w wr : World) (us : List BindD) (k : Nat) (A : Nat → Option Addr) (L : Nat → Nat) (xs : List Value) : Prop where
  row : wr.ownsRow w.heap.size 71 4 (.slice (some ⟨w.heap.size, 0, none⟩) us.length us.length) us.length xs
  cel : ∀ i, (h : i < us.length) → i < k → xs[i * 4]? = some (.int .i64 us[i].n) ∧ xs[i * 4 + 1]? = some (.int .i64 us[i].t.f) ∧ xs[i * 4 + 2]? = some (.int .i64 us[i].t.v) ∧ xs[i * 4 + 3]? = some (.slice (A i) us[i].t.kids.length us[i].t.kids.length)
  low : w.heap.size < L 0
  mono : ∀ i, i < k → L i ≤ L (i + 1)
  top : L k ≤ wr.heap.size
  kid : ∀ i, (h : i < us.length) → i < k → OwnS wr (fun x => L i ≤ x ∧ x < L (i + 1)) (A i) us[i].t.kids
  below : Below w.heap.size w wr
theorem BSt.le {w wr : World} {us : List BindD} {k : Nat} {A : Nat → Option Addr} {L : Nat → Nat} {xs : List Value} (h : BSt w wr us k A L xs) : ∀ i j, i ≤ j → j ≤ k → L i ≤ L j := by
  intro i j
  induction j with
  | zero => intro h1 _; have : i = 0 := by omega
            subst this; exact Nat.le_refl _
  | succ j ih =>
    intro h1 h2
    by_cases e : i = j + 1
    · subst e; exact Nat.le_refl _
    · exact Nat.le_trans (ih (by omega) (by omega)) (h.mono j (by omega))
theorem BSt.done {w wr : World} {us : List BindD} {A : Nat → Option Addr} {L : Nat → Nat} {xs : List Value} (h : BSt w wr us us.length A L xs) (hl : us.length ≤ 9223372036854775807) (hz : ∀ i, (h : i < us.length) → isW us[i].n ∧ isW us[i].t.f ∧ isW us[i].t.v) :
    OwnU wr (fun x => w.heap.size ≤ x ∧ x < wr.heap.size) (some ⟨w.heap.size, 0, none⟩) us := by
  have hlt := (h.row.lt _ rfl).2
  have hx := h.row.1
  refine .row _ w.heap.size 0 us A (fun i => (us[i]?.getD default).t.kids.length) (fun i x => L i ≤ x ∧ x < L (i + 1)) ⟨Nat.le_refl _, hlt⟩ hlt ⟨hl, fun i hi => by simp [hi]⟩ hz (fun i hi => ?_) (fun j => h.row.frozenAt j) (fun i x hi hx => ?_) (fun i j x hi hj hne hx hy => ?_) (fun i hi => h.kid i hi hi)
  · obtain ⟨c0, c1, c2, c3⟩ := h.cel i hi hi
    simp only [Nat.zero_add]
    exact ⟨(h.row.cellAt _ (by omega)).trans c0, (h.row.cellAt _ (by omega)).trans c1, (h.row.cellAt _ (by omega)).trans c2, (h.row.cellAt _ (by omega)).trans (by simpa [hi] using c3)⟩
  · have h1 := h.le 0 i (by omega) (by omega)
    have h2 := h.le (i + 1) us.length (by omega) (Nat.le_refl _)
    have h3 := h.low
    have h4 := h.top
    exact ⟨⟨by omega, by omega⟩, by omega⟩
  · rcases Nat.lt_or_gt_of_ne hne with hh | hh
    · have := h.le (i + 1) j (by omega) (by omega)
      omega
    · have := h.le (j + 1) i (by omega) (by omega)
      omega
theorem BSt.step {w wr w1 : World} {us : List BindD} {k : Nat} {A : Nat → Option Addr} {L : Nat → Nat} {xs : List Value} (h : BSt w wr us k A L xs) (hk : k < us.length) {a' : Option Addr} (ho : OwnS w1 (fun x => wr.heap.size ≤ x ∧ x < w1.heap.size) a' us[k].t.kids) (hb : Below wr.heap.size wr w1) :
    ∃ xs', BSt w (set4 w1 w.heap.size (k * 4) (.int .i64 us[k].n) (.int .i64 us[k].t.f) (.int .i64 us[k].t.v) (.slice a' us[k].t.kids.length us[k].t.kids.length)) us (k + 1) (fun i => if i = k then a' else A i) (fun i => if i ≤ k then L i else w1.heap.size) xs' := by
  have h3 := h.low
  have h4 := h.top
  have h5 := hb.size
  have hle := h.le
  have hxl := h.row.1
  have r0 := (own_on h.row hb).stored (k * 4) (.int .i64 us[k].n)
  have r1 := r0.1.stored (k * 4 + 1) (.int .i64 us[k].t.f)
  have r2 := r1.1.stored (k * 4 + 2) (.int .i64 us[k].t.v)
  have r3 := r2.1.stored (k * 4 + 3) (.slice a' us[k].t.kids.length us[k].t.kids.length)
  refine ⟨_, r3.1, fun i hi hik => ?_, ?_, fun i hi => ?_, ?_, fun i hi hik => ?_, set4_below (h.below.trans (hb.mono h.below.size)) (Nat.le_refl _)⟩
  · by_cases e : i = k
    · subst e
      simp only [if_true]
      refine ⟨?_, ?_, ?_, ?_⟩ <;> simp [show i * 4 < xs.length by omega, show i * 4 + 1 < xs.length by omega, show i * 4 + 2 < xs.length by omega, show i * 4 + 3 < xs.length by omega]
    · simp only [e, if_false]
      obtain ⟨c0, c1, c2, c3⟩ := h.cel i hi (by omega)
      refine ⟨?_, ?_, ?_, ?_⟩
      · rw [List.getElem?_set_ne (by omega), List.getElem?_set_ne (by omega), List.getElem?_set_ne (by omega), List.getElem?_set_ne (by omega)]; exact c0
      · rw [List.getElem?_set_ne (by omega), List.getElem?_set_ne (by omega), List.getElem?_set_ne (by omega), List.getElem?_set_ne (by omega)]; exact c1
      · rw [List.getElem?_set_ne (by omega), List.getElem?_set_ne (by omega), List.getElem?_set_ne (by omega), List.getElem?_set_ne (by omega)]; exact c2
      · rw [List.getElem?_set_ne (by omega), List.getElem?_set_ne (by omega), List.getElem?_set_ne (by omega), List.getElem?_set_ne (by omega)]; exact c3
  · simp only [Nat.zero_le, if_true]; exact h3
  · by_cases e : i = k
    · subst e
      simp only [Nat.le_refl, if_true, show ¬ i + 1 ≤ i by omega, if_false]; omega
    · simp only [show i ≤ k by omega, show i + 1 ≤ k by omega, if_true]; exact h.mono i (by omega)
  · rw [set4_size]; simp only [show ¬ k + 1 ≤ k by omega, if_false]; exact Nat.le_refl _
  · have h0i := hle 0 i (by omega) (by omega)
    by_cases e : i = k
    · subst e
      simp only [Nat.le_refl, if_true, show ¬ i + 1 ≤ i by omega, if_false]
      exact set4_own (ho.mono (S' := fun x => L i ≤ x ∧ x < w1.heap.size) (fun x hx => ⟨by omega, hx.2⟩)) (by omega)
    · simp only [show i ≤ k by omega, show i + 1 ≤ k by omega, if_true, e, if_false]
      have h6 := hle (i + 1) k (by omega) (Nat.le_refl _)
      exact set4_own ((h.kid i hi (by omega)).frame (w' := w1) (fun x hx => hb.block x (by omega)) hb.size) (by omega)

set_option maxHeartbeats 1600000 in
theorem toBindS_any (us : List BindD) (a : Option Addr) (c hi : Nat) (w : World) (hp : partsU us ≤ 549755813887) (hr : RdU w hi a us) (hhi : hi ≤ w.heap.size) :
    Calls Try.prog 13 #[.slice a us.length c] w fun e w' => e = .returned (.slice (some ⟨w.heap.size, 0, none⟩) us.length us.length) ∧ OwnU w' (fun x => w.heap.size ≤ x ∧ x < w'.heap.size) (some ⟨w.heap.size, 0, none⟩) us ∧ Below w.heap.size w w' := by
  obtain ⟨i0, hi0, hz0, hz1, hz2⟩ := info_parts infoB
  have hlen : us.length ≤ 549755813888 := by unfold partsU at hp; omega
  have HZ : Hid (∀ i, (h : i < us.length) → isW us[i].n ∧ isW us[i].t.f ∧ isW us[i].t.v) := fun i h => by obtain ⟨_, _, _, _, _, _, _, _, _, _, _, _, q⟩ := hr.get h; exact q
  have HR : Hid _ := hr
  clear hr
  go_enter Try.func13, Try.ntmps13
  go_wp2_with (first
    | (at_make; refine wpList_make_full _ rfl _ _ 36 rfl w.heap.size 71 i0 _ 4 Try.underlying36 hi0 hz0 hz1 _ _ _ _ us.length rfl rfl rfl rfl (by rw [hz2]; omega) (by unfold maxLen; omega) (Nat.le_refl _) ?_; intro w1 hown hgrow))
  have hlt1 : w.heap.size < w1.heap.size := (hown.lt _ rfl).2
  have S0 : ∃ xs, BSt w w1 us 0 (fun _ => none) (fun _ => w1.heap.size) xs := ⟨_, hown, fun i _ hi => absurd hi (by omega), hlt1, fun i hi => absurd hi (by omega), Nat.le_refl _, fun i _ hi => absurd hi (by omega), (Below.refl _ _).grown hgrow (Nat.le_refl _) (by simp)⟩
  clear hown hgrow hlt1
  obtain ⟨xs0, S0⟩ := S0
  go_loopw [4] (fun i wr => ∃ (k : Nat) (A : Nat → Option Addr) (L : Nat → Nat) (xs : List Value), k ≤ us.length ∧ i = .int .i64 k ∧ BSt w wr us k A L xs) (fun i _ => us.length - (intOf i).toNat)
  case atStart => exact ⟨0, _, _, _, Nat.zero_le _, rfl, S0⟩
  case round =>
    obtain ⟨k, A, L, xs, hk, rfl, S⟩ := hrel
    clear S0
    by_cases hk' : k < us.length
    · obtain ⟨b, off, a', c', rfl, hlt, d0, d1, d2, d3, hc', hkr, hz⟩ := RdU.get (HR.out.on (S.below.mono hhi)) hk'
      have hpg := partsU_get hk'
      have hpt := partsT_eq us[k].t
      have hki : (k : Int) < (us.length : Int) := by omega
      have hki0 : (0 : Int) ≤ (k : Int) := by omega
      have hwr := Nat.le_trans hhi S.below.size
      have T := toBind_any us[k] a' c' hi wr (by omega) hkr hwr
      have hxl := S.row.1
      clear hkr hpt hz hc'
      go_wp2_with (go_at_call 46; refine T.mono ?_; rintro e w2 ⟨a2, rfl, ho, hb⟩; clear T; have S1 := S.step hk' ho hb; have hown2 := own_on S.row hb; obtain ⟨v0, e0⟩ : ∃ v, w2.cell? ⟨w.heap.size, k * 4, none⟩ = some v := ⟨_, (hown2.cellAt _ (by omega)).trans (List.getElem?_eq_getElem (by omega))⟩; obtain ⟨v1, e1⟩ : ∃ v, w2.cell? ⟨w.heap.size, k * 4 + 1, none⟩ = some v := ⟨_, (hown2.cellAt _ (by omega)).trans (List.getElem?_eq_getElem (by omega))⟩; obtain ⟨v2, e2⟩ : ∃ v, w2.cell? ⟨w.heap.size, k * 4 + 2, none⟩ = some v := ⟨_, (hown2.cellAt _ (by omega)).trans (List.getElem?_eq_getElem (by omega))⟩; obtain ⟨v3, e3⟩ : ∃ v, w2.cell? ⟨w.heap.size, k * 4 + 3, none⟩ = some v := ⟨_, (hown2.cellAt _ (by omega)).trans (List.getElem?_eq_getElem (by omega))⟩; have f0 := hown2.frozenAt (k * 4); have f1 := hown2.frozenAt (k * 4 + 1); have f2 := hown2.frozenAt (k * 4 + 2); have f3 := hown2.frozenAt (k * 4 + 3); clear hown2 S ho hb d0 d1 d2 d3)
      obtain ⟨xs1, S1⟩ := S1
      unfold set4 at S1
      go_roundw
      case rel => exact ⟨k + 1, _, _, _, by omega, by go_num, S1⟩
      case measure => simp [intOf]; omega
    · have e : k = us.length := by omega
      have S1 : BSt w wr us us.length A L xs := e ▸ S
      clear e S
      go_wp2_with fail
      go_ret
      exact ⟨rfl, S1.done (by omega) HZ.out, S1.below⟩
end Go.Proofs.Ytcbafmohmoicnab

/- Contract of the laws' helper that writes marks into what is put for variables. Conditions: at most 549755813887 parts. -/
namespace Go.Proofs.Ytcbafmohmoicnab
set_option maxRecDepth 100000
open Go.RowKit

/-- What is still to be marked. -/
structure MarkU (wr : World) (b off : Nat) (us : List BindD) (A : Nat → Option Addr) (C : Nat → Nat) (K : Nat → Nat → Prop) (k : Nat) : Prop where
  cells : ∀ i, (h : i < us.length) → k ≤ i → wr.cell? ⟨b, off + i * 4, none⟩ = some (.int .i64 us[i].n) ∧ wr.cell? ⟨b, off + i * 4 + 1, none⟩ = some (.int .i64 us[i].t.f) ∧ wr.cell? ⟨b, off + i * 4 + 2, none⟩ = some (.int .i64 us[i].t.v) ∧ wr.cell? ⟨b, off + i * 4 + 3, none⟩ = some (.slice (A i) us[i].t.kids.length (C i))
  frozen : ∀ j, wr.frozen? ⟨b, j, none⟩ = false
  kid : ∀ i, (h : i < us.length) → k ≤ i → OwnS wr (K i) (A i) us[i].t.kids
theorem MarkU.next {wr w1 : World} {S : Nat → Prop} {b off : Nat} {us : List BindD} {A : Nat → Option Addr} {C : Nat → Nat} {K : Nat → Nat → Prop} {k : Nat} (h : MarkU wr b off us A C K k) (hk : k < us.length)
    (hsub : ∀ i x, i < us.length → K i x → S x ∧ x ≠ b) (hdis : ∀ i j x, i < us.length → j < us.length → i ≠ j → K i x → ¬ K j x) (x y z : Value)
    (ho : Only (K k) (((wr.setCell ⟨b, off + k * 4, none⟩ x).setCell ⟨b, off + k * 4 + 1, none⟩ y).setCell ⟨b, off + k * 4 + 2, none⟩ z) w1) : MarkU w1 b off us A C K (k + 1) := by
  have hkb : ¬ K k b := fun e => (hsub k b hk e).2 rfl
  refine ⟨fun i hi hki => ?_, fun j => ?_, fun i hi hki => ?_⟩
  · obtain ⟨c0, c1, c2, c3⟩ := h.cells i hi (by omega)
    have d : ∀ o v, (off + k * 4 ≠ o) → (off + k * 4 + 1 ≠ o) → (off + k * 4 + 2 ≠ o) → wr.cell? ⟨b, o, none⟩ = some v → w1.cell? ⟨b, o, none⟩ = some v := by
      intro o v h1 h2 h3 hv
      rw [ho.cell (p := ⟨b, o, none⟩) hkb, World.cell?_setCell_other _ _ _ _ (fun e => h3 (by injection e)), World.cell?_setCell_other _ _ _ _ (fun e => h2 (by injection e)), World.cell?_setCell_other _ _ _ _ (fun e => h1 (by injection e))]
      exact hv
    exact ⟨d _ _ (by omega) (by omega) (by omega) c0, d _ _ (by omega) (by omega) (by omega) c1, d _ _ (by omega) (by omega) (by omega) c2, d _ _ (by omega) (by omega) (by omega) c3⟩
  · rw [ho.frozen (p := ⟨b, j, none⟩) hkb]
    simp only [World.frozen?_setCell]
    exact h.frozen j
  · have hib : ¬ K i b := fun e => (hsub i b hi e).2 rfl
    have o := (((h.kid i hi (by omega)).setCell ⟨b, off + k * 4, none⟩ hib x).setCell ⟨b, off + k * 4 + 1, none⟩ hib y).setCell ⟨b, off + k * 4 + 2, none⟩ hib z
    exact o.frame (fun q hq => ho.block q (fun e => hdis i k q hi hk (by omega) hq e)) (Nat.le_of_eq ho.size.symm)

/-- How many marks the first k take. -/
def mkU (us : List BindD) (k : Nat) : Nat := ((us.take k).map (fun u => 3 + 2 * partsL u.t.kids)).sum
theorem mkU_next {us : List BindD} {k : Nat} (h : k < us.length) : mkU us (k + 1) = mkU us k + 3 + 2 * partsL us[k].t.kids := by
  unfold mkU
  rw [List.take_succ_eq_append_getElem h, List.map_append, List.sum_append]; simp only [List.map_cons, List.map_nil, List.sum_cons, List.sum_nil, Nat.add_zero]; omega
theorem mkU_le (us : List BindD) (k : Nat) : mkU us k ≤ 3 * partsU us := by
  unfold mkU
  have h1 : ∀ l : List BindD, (l.map (fun u => 3 + 2 * partsL u.t.kids)).sum ≤ 3 * partsU l := by
    intro l
    induction l with
    | nil => simp
    | cons u l ih => unfold partsU at *; simp only [List.map_cons, List.sum_cons, List.length_cons] at *; omega
  have h2 := h1 (us.take k)
  have h3 := sum_takeU us k
  have h4 : (us.take k).length ≤ us.length := by rw [List.length_take]; omega
  unfold partsU at *
  omega

set_option maxHeartbeats 1600000 in
theorem markBindS_any (us : List BindD) (a : Option Addr) (c : Nat) (m : Int) (S : Nat → Prop) (w : World) (hp : partsU us ≤ 549755813887) (hm0 : 0 ≤ m) (hm : m ≤ 1000000000000000) (ho : OwnU w S a us) :
    Calls Try.prog 20 #[.slice a us.length c, .int .i64 m] w fun e w' => e = .returned (.int .i64 (m + (mkU us us.length : Nat))) ∧ Only S w w' := by
  have hlen : us.length ≤ 549755813888 := by unfold partsU at hp; omega
  cases ho with
  | nil a =>
    go_enter Try.func20, Try.ntmps20
    go_wp2_with fail
    refine wp_loop_rounds 1 ?_
    rw [rounds_succ]
    go_wp2_with fail
    go_ret
    exact ⟨by simp [mkU], Only.refl _ _⟩
  | row b off us A C K hb hlt hl hz hc hf hsub hdis hk =>
    have M0 : MarkU w b off us A C K 0 := ⟨fun i h _ => hc i h, hf, fun i h _ => hk i h⟩
    clear hc hf hk hz
    go_enter Try.func20, Try.ntmps20
    go_wp2_with fail
    go_loopw [1, 5] (fun l i wr => ∃ k : Nat, k ≤ us.length ∧ i = .int .i64 k ∧ l = .int .i64 (m + (mkU us k : Nat)) ∧ MarkU wr b off us A C K k ∧ Only S w wr) (fun _ i _ => us.length - (intOf i).toNat)
    case atStart => exact ⟨0, Nat.zero_le _, rfl, by simp [mkU], M0, Only.refl _ _⟩
    case round =>
      obtain ⟨k, hk, rfl, rfl, M, O⟩ := hrel
      clear M0
      have hpk := mkU_le us k
      by_cases hk' : k < us.length
      · obtain ⟨c0, c1, c2, c3⟩ := M.cells k hk' (Nat.le_refl _)
        have hpg := partsU_get hk'
        have HN : Hid _ := mkU_next hk'
        have hki : (k : Int) < (us.length : Int) := by omega
        have hki0 : (0 : Int) ≤ (k : Int) := by omega
        have hkb : ¬ K k b := fun e => (hsub k b hk' e).2 rfl
        have f0 := M.frozen (off + k * 4)
        have f1 := M.frozen (off + k * 4 + 1)
        have f2 := M.frozen (off + k * 4 + 2)
        obtain ⟨n, hn⟩ : ∃ n : Int, n = m + (mkU us k : Nat) := ⟨_, rfl⟩
        have hn0 : 0 ≤ n := by omega
        have hn1 : n ≤ 1100000000000000 := by omega
        have HNE : Hid (n = m + (mkU us k : Nat)) := hn
        rw [← hn]
        clear hn
        obtain ⟨W, hW⟩ : ∃ W, W = ((wr.setCell ⟨b, off + k * 4, none⟩ (.int .i64 n)).setCell ⟨b, off + k * 4 + 1, none⟩ (.int .i64 (n + 1))).setCell ⟨b, off + k * 4 + 2, none⟩ (.int .i64 (n + 1 + 1)) := ⟨_, rfl⟩
        have e1 : (wr.setCell ⟨b, off + k * 4, none⟩ (.int .i64 n)).cell? ⟨b, off + k * 4 + 1, none⟩ = some (.int .i64 us[k].t.f) := by rw [World.cell?_setCell_other _ _ _ _ (by simp)]; exact c1
        have e2 : ((wr.setCell ⟨b, off + k * 4, none⟩ (.int .i64 n)).setCell ⟨b, off + k * 4 + 1, none⟩ (.int .i64 (n + 1))).cell? ⟨b, off + k * 4 + 2, none⟩ = some (.int .i64 us[k].t.v) := by rw [World.cell?_setCell_other _ _ _ _ (by simp), World.cell?_setCell_other _ _ _ _ (by simp)]; exact c2
        have e3 : (((wr.setCell ⟨b, off + k * 4, none⟩ (.int .i64 n)).setCell ⟨b, off + k * 4 + 1, none⟩ (.int .i64 (n + 1))).setCell ⟨b, off + k * 4 + 2, none⟩ (.int .i64 (n + 1 + 1))).cell? ⟨b, off + k * 4 + 3, none⟩ = some (.slice (A k) us[k].t.kids.length (C k)) := by rw [World.cell?_setCell_other _ _ _ _ (by simp), World.cell?_setCell_other _ _ _ _ (by simp), World.cell?_setCell_other _ _ _ _ (by simp)]; exact c3
        have oK : OwnS W (K k) (A k) us[k].t.kids := by rw [hW]; exact (((M.kid k hk' (Nat.le_refl _)).setCell ⟨b, off + k * 4, none⟩ hkb _).setCell ⟨b, off + k * 4 + 1, none⟩ hkb _).setCell ⟨b, off + k * 4 + 2, none⟩ hkb _
        have O2 : Only S w W := by rw [hW]; exact ((O.setCell ⟨b, off + k * 4, none⟩ hb _).setCell ⟨b, off + k * 4 + 1, none⟩ hb _).setCell ⟨b, off + k * 4 + 2, none⟩ hb _
        have I := markTermS_any 549755813888 us[k].t.kids (A k) (C k) (n + 1 + 1 + 1) (K k) W (by omega) (Nat.le_refl _) (by omega) (by omega) oK
        have NX : ∀ w1, Only (K k) W w1 → MarkU w1 b off us A C K (k + 1) := fun w1 h => M.next hk' hsub hdis _ _ _ (hW ▸ h)
        have HE : Hid (n + 1 + 1 + 1 + 2 * (partsL us[k].t.kids : Int) = m + (mkU us (k + 1) : Nat)) := by show _ = _; have h1 := HN.out; have h2 := HNE.out; omega
        have hsubk : ∀ x, K k x → S x := fun x hx => (hsub k x hk' hx).1
        have HW : Hid _ := hW
        clear M oK hW
        go_wp2_with (go_at_call 53; rw [← HW.out]; refine I.mono ?_; rintro e w1 ⟨rfl, h1⟩; have M1 := NX _ h1; have O3 := O2.trans (h1.mono hsubk); clear I NX h1 O2 HW)
        go_roundw
        case rel => exact ⟨k + 1, by omega, by go_num, by rw [← HE.out], M1, O3⟩
        case measure => simp [intOf]; omega
      · have E : Hid (k = us.length) := (by omega : k = us.length)
        go_wp2_with fail
        go_ret
        refine ⟨rt_mark ?_, O⟩
        rw [E.out]
end Go.Proofs.Ytcbafmohmoicnab

/- What lies in memory while the law on Apply goes on. Conditions: none. -/
namespace Go.Proofs.Ytcbafmohmoicnab
set_option maxRecDepth 100000
open Go.RowKit

/-- The argument's box, and the wanted answer in its box; all below H. -/
structure AQ (w : World) (t : TermD) (a : Option Addr) (c : Nat) (N : TermD) (B : Nat) (aw : Option Addr) (cw H : Nat) (W : World) : Prop where
  bel : Below w.heap.size w W
  p : Bx3 W w.heap.size t.f t.v a t.kids.length c
  q : Bx3 W B N.f N.v aw N.kids.length cw
  rd : RdK W H aw N.kids
  hp : w.heap.size < H
  hB : B < H
  z : H ≤ W.heap.size
theorem AQ.stay {w : World} {t : TermD} {a : Option Addr} {c : Nat} {N : TermD} {B : Nat} {aw : Option Addr} {cw H : Nat} {W W' : World} (h : AQ w t a c N B aw cw H W) (hs : Stay (fun k => k < H) W W') : AQ w t a c N B aw cw H W' :=
  have hp := h.hp
  ⟨h.bel.trans (hs.below h.bel.size (fun k hk => by omega)), h.p.stay hs h.hp, h.q.stay hs h.hB, h.rd.on (hs.below h.z (fun _ hk => hk)), h.hp, h.hB, Nat.le_trans h.z hs.size⟩
theorem AQ.on {w : World} {t : TermD} {a : Option Addr} {c : Nat} {N : TermD} {B : Nat} {aw : Option Addr} {cw H : Nat} {W W' : World} (h : AQ w t a c N B aw cw H W) (hb : Below W.heap.size W W') : AQ w t a c N B aw cw H W' := h.stay (.of_below hb (fun _ hk _ => hk))
/-- The wanted answer's box made last. -/
theorem AQ.last {w W : World} {t N : TermD} {a aw : Option Addr} {c cw : Nat} {S : Nat → Prop} (bel : Below w.heap.size w W) (p : Bx3 W w.heap.size t.f t.v a t.kids.length c) (ho : OwnS W S aw N.kids) : AQ w t a c N W.heap.size aw cw (W.alloc (.cells #[.int .i64 N.f, .int .i64 N.v, .slice aw N.kids.length cw] 32)).heap.size (W.alloc (.cells #[.int .i64 N.f, .int .i64 N.v, .slice aw N.kids.length cw] 32)) := by
  have hb := (Below.refl W.heap.size W).alloc (Nat.le_refl _) (.cells #[.int .i64 N.f, .int .i64 N.v, .slice aw N.kids.length cw] 32)
  have hp := p.lt
  exact ⟨bel.trans (hb.mono bel.size), p.on hb, ⟨by simp, by simp, by simp⟩, (ho.rd.on hb).mono (by simp), by simp; omega, by simp, Nat.le_refl _⟩
/-- Or made earlier. -/
theorem AQ.early {w W : World} {t N : TermD} {a aw : Option Addr} {c cw B : Nat} {S : Nat → Prop} (bel : Below w.heap.size w W) (p : Bx3 W w.heap.size t.f t.v a t.kids.length c) (ho : OwnS W S aw N.kids) (z : Bz W B) (hS : ¬ S B) (hB : w.heap.size < B) :
    AQ w t a c N B aw cw (((W.setCell ⟨B, 0, none⟩ (.int .i64 N.f)).setCell ⟨B, 1, none⟩ (.int .i64 N.v)).setCell ⟨B, 2, none⟩ (.slice aw N.kids.length cw)).heap.size (((W.setCell ⟨B, 0, none⟩ (.int .i64 N.f)).setCell ⟨B, 1, none⟩ (.int .i64 N.v)).setCell ⟨B, 2, none⟩ (.slice aw N.kids.length cw)) := by
  obtain ⟨z0, z1, z2⟩ := set3_cells (u := W) (r := B) (x := .int .i64 N.f) (y := .int .i64 N.v) (z := .slice aw N.kids.length cw) z.1.1 z.1.2.1 z.1.2.2
  have hl := z.1.lt
  have hst : Stay (fun k => k ≠ B) W (((W.setCell ⟨B, 0, none⟩ (.int .i64 N.f)).setCell ⟨B, 1, none⟩ (.int .i64 N.v)).setCell ⟨B, 2, none⟩ (.slice aw N.kids.length cw)) := ((Stay.setCell _ _ (by simp)).trans (.setCell _ _ (by simp))).trans (.setCell _ _ (by simp))
  have ho' := ((ho.setCell ⟨B, 0, none⟩ hS (.int .i64 N.f)).setCell ⟨B, 1, none⟩ hS (.int .i64 N.v)).setCell ⟨B, 2, none⟩ hS (.slice aw N.kids.length cw)
  exact ⟨bel.trans (hst.below bel.size (fun k hk => by omega)), p.stay hst (by omega), ⟨z0, z1, z2⟩, ho'.rd, by have := hst.size; omega, by have := hst.size; omega, Nat.le_refl _⟩
/-- Behind the call: the arguments' copies, the answer in its box. -/
structure AG (w : World) (t : TermD) (a : Option Addr) (c : Nat) (N : TermD) (B6 : Nat) (aw : Option Addr) (cw H : Nat) (ss : List SymD) (us : List BindD) (G0 gu g7 B8 : Nat) (y : Option Addr) (B9 : Nat) (ag : Option Addr) (cg : Nat) (W : World) : Prop where
  lp : AQ w t a c N B6 aw cw H W
  sy : W.ownsRow G0 68 3 (.slice (some ⟨G0, 0, none⟩) ss.length ss.length) ss.length (symCs ss)
  bi : OwnU W (fun k => gu ≤ k ∧ k < g7) (some ⟨gu, 0, none⟩) us
  x : Bx3 W B8 t.f t.v y t.kids.length t.kids.length
  ox : OwnS W (fun k => g7 ≤ k ∧ k < B8) y t.kids
  g : Bx3 W B9 N.f N.v ag N.kids.length cg
  og : OwnS W (fun k => B8 + 1 ≤ k ∧ k < B9) ag N.kids
  h1 : H ≤ G0
  h2 : G0 < gu
  h2b : gu ≤ g7
  h3 : g7 ≤ B8
  h4 : B8 + 1 ≤ B9
  h5 : B9 < W.heap.size
theorem AG.on {w : World} {t : TermD} {a : Option Addr} {c : Nat} {N : TermD} {B6 : Nat} {aw : Option Addr} {cw H : Nat} {ss : List SymD} {us : List BindD} {G0 gu g7 B8 : Nat} {y : Option Addr} {B9 : Nat} {ag : Option Addr} {cg : Nat} {W W' : World} (h : AG w t a c N B6 aw cw H ss us G0 gu g7 B8 y B9 ag cg W) (hb : Below W.heap.size W W') : AG w t a c N B6 aw cw H ss us G0 gu g7 B8 y B9 ag cg W' := by
  have h3 := h.h3
  have h4 := h.h4
  have h5 := h.h5
  have h2b := h.h2b
  exact ⟨h.lp.on hb, own_on h.sy hb, h.bi.frame (fun k hk => hb.block k (by omega)) hb.size, h.x.on hb, h.ox.frame (fun k hk => hb.block k (by omega)) hb.size, h.g.on hb, h.og.frame (fun k hk => hb.block k (by omega)) hb.size, h.h1, h.h2, h.h2b, h.h3, h.h4, Nat.lt_of_lt_of_le h5 hb.size⟩
/-- When the copies may be written over. -/
structure AH (w : World) (t : TermD) (a : Option Addr) (c : Nat) (N : TermD) (B6 : Nat) (aw : Option Addr) (cw H lo B9 : Nat) (ag : Option Addr) (cg : Nat) (W : World) : Prop where
  lp : AQ w t a c N B6 aw cw H W
  g : Bx3 W B9 N.f N.v ag N.kids.length cg
  og : OwnS W (fun k => lo ≤ k ∧ k < B9) ag N.kids
  h1 : H ≤ lo
  h4 : lo ≤ B9
  h5 : B9 < W.heap.size
theorem AH.stay {w : World} {t : TermD} {a : Option Addr} {c : Nat} {N : TermD} {B6 : Nat} {aw : Option Addr} {cw H lo B9 : Nat} {ag : Option Addr} {cg : Nat} {W W' : World} (h : AH w t a c N B6 aw cw H lo B9 ag cg W) (hs : Stay (fun k => k < H ∨ lo ≤ k) W W') : AH w t a c N B6 aw cw H lo B9 ag cg W' := by
  have h4 := h.h4
  have h5 := h.h5
  exact ⟨h.lp.stay (hs.weak (fun _ _ hk => .inl hk)), h.g.stay hs (.inr h4), h.og.frame (fun k hk => hs.block k (by omega) (.inr hk.1)) hs.size, h.h1, h.h4, Nat.lt_of_lt_of_le h5 hs.size⟩
theorem AH.on {w : World} {t : TermD} {a : Option Addr} {c : Nat} {N : TermD} {B6 : Nat} {aw : Option Addr} {cw H lo B9 : Nat} {ag : Option Addr} {cg : Nat} {W W' : World} (h : AH w t a c N B6 aw cw H lo B9 ag cg W) (hb : Below W.heap.size W W') : AH w t a c N B6 aw cw H lo B9 ag cg W' := h.stay (.of_below hb (fun _ hk _ => hk))
/-- When the answer bears marks. -/
structure AM (w : World) (t : TermD) (a : Option Addr) (c : Nat) (N : TermD) (B6 : Nat) (aw : Option Addr) (cw H lo B9 : Nat) (ag : Option Addr) (cg : Nat) (W : World) : Prop where
  lp : AQ w t a c N B6 aw cw H W
  g : Bx3 W B9 N.f N.v ag N.kids.length cg
  og : Mk W (fun k => lo ≤ k ∧ k < B9) ag N.kids 1
  h5 : B9 < W.heap.size
theorem AM.on {w : World} {t : TermD} {a : Option Addr} {c : Nat} {N : TermD} {B6 : Nat} {aw : Option Addr} {cw H lo B9 : Nat} {ag : Option Addr} {cg : Nat} {W W' : World} (h : AM w t a c N B6 aw cw H lo B9 ag cg W) (hb : Below W.heap.size W W') : AM w t a c N B6 aw cw H lo B9 ag cg W' := by
  have h5 := h.h5
  exact ⟨h.lp.on hb, h.g.on hb, h.og.frame (fun k hk => hb.block k (by omega)), Nat.lt_of_lt_of_le h5 hb.size⟩
theorem AH.marked {w : World} {t : TermD} {a : Option Addr} {c : Nat} {N : TermD} {B6 : Nat} {aw : Option Addr} {cw H lo B9 : Nat} {ag : Option Addr} {cg : Nat} {W W0 W' : World} (h : AH w t a c N B6 aw cw H lo B9 ag cg W) (hb : Below W.heap.size W W0) (ho : Only (fun k => lo ≤ k ∧ k < B9) W0 W') (hm : Mk W' (fun k => lo ≤ k ∧ k < B9) ag N.kids 1) : AM w t a c N B6 aw cw H lo B9 ag cg W' := by
  have h1 := h.h1
  have h5 := h.h5
  have hs : Stay (fun k => k < H ∨ k = B9) W W' := only_stay hb ho (fun k _ hk q => by omega)
  exact ⟨h.lp.stay (hs.weak (fun _ _ hk => .inl hk)), h.g.stay hs (.inr rfl), hm, Nat.lt_of_lt_of_le h5 hs.size⟩
theorem ag_start {w wc w7 wb w8 w9 : World} {t N : TermD} {a aw y1 ag : Option Addr} {c B6 cw H cg : Nat} {ss : List SymD} {us : List BindD} (L8 : AQ w t a c N B6 aw cw H w8) (o8 : w8.ownsRow wc.heap.size 68 3 (.slice (some ⟨wc.heap.size, 0, none⟩) ss.length ss.length) ss.length (symCs ss)) (hob : OwnU w8 (fun k => w7.heap.size ≤ k ∧ k < wb.heap.size) (some ⟨w7.heap.size, 0, none⟩) us) (ho8 : OwnS w8 (fun k => wb.heap.size ≤ k ∧ k < w8.heap.size) y1 t.kids)
    (hbx : Below w8.heap.size w8 (w8.alloc (.cells #[.int .i64 t.f, .int .i64 t.v, .slice y1 t.kids.length t.kids.length] 32))) (ho9 : OwnS w9 (fun k => (w8.alloc (.cells #[.int .i64 t.f, .int .i64 t.v, .slice y1 t.kids.length t.kids.length] 32)).heap.size ≤ k ∧ k < w9.heap.size) ag N.kids) (hb0 : Below (w8.alloc (.cells #[.int .i64 t.f, .int .i64 t.v, .slice y1 t.kids.length t.kids.length] 32)).heap.size (w8.alloc (.cells #[.int .i64 t.f, .int .i64 t.v, .slice y1 t.kids.length t.kids.length] 32)) w9) (hw6 : H ≤ wc.heap.size) (h67 : wc.heap.size < w7.heap.size) (h7b : w7.heap.size ≤ wb.heap.size) (hb8 : wb.heap.size ≤ w8.heap.size) :
    AG w t a c N B6 aw cw H ss us wc.heap.size w7.heap.size wb.heap.size w8.heap.size y1 w9.heap.size ag cg (w9.alloc (.cells #[.int .i64 N.f, .int .i64 N.v, .slice ag N.kids.length cg] 32)) := by
  have hb9 : Below w9.heap.size w9 (w9.alloc (.cells #[.int .i64 N.f, .int .i64 N.v, .slice ag N.kids.length cg] 32)) := (Below.refl _ _).alloc (Nat.le_refl _) _
  have h1 : Below w8.heap.size w8 w9 := hbx.trans (hb0.mono hbx.size)
  have h2 : Below w8.heap.size w8 (w9.alloc (.cells #[.int .i64 N.f, .int .i64 N.v, .slice ag N.kids.length cg] 32)) := h1.trans (hb9.mono h1.size)
  have hx : Bx3 (w8.alloc (.cells #[.int .i64 t.f, .int .i64 t.v, .slice y1 t.kids.length t.kids.length] 32)) w8.heap.size t.f t.v y1 t.kids.length t.kids.length := ⟨by simp, by simp, by simp⟩
  have hs0 := hb0.size
  simp only [World.size_alloc] at hs0 ho9
  exact ⟨L8.on h2, own_on o8 h2, hob.frame (fun k hk => h2.block k (by omega)) h2.size, (hx.on hb0).on hb9, ho8.frame (fun k hk => h2.block k hk.2) h2.size, ⟨by simp, by simp, by simp⟩, ho9.frame (fun k hk => hb9.block k hk.2) hb9.size, hw6, h67, h7b, hb8, by omega, by simp⟩
theorem AG.h {w : World} {t : TermD} {a : Option Addr} {c : Nat} {N : TermD} {B6 : Nat} {aw : Option Addr} {cw H : Nat} {ss : List SymD} {us : List BindD} {G0 gu g7 B8 : Nat} {y : Option Addr} {B9 : Nat} {ag : Option Addr} {cg : Nat} {W W' : World} (h : AG w t a c N B6 aw cw H ss us G0 gu g7 B8 y B9 ag cg W) (hs : Stay (fun k => k ≠ G0) W W') :
    AH w t a c N B6 aw cw H (B8 + 1) B9 ag cg W' ∧ OwnU W' (fun k => gu ≤ k ∧ k < g7) (some ⟨gu, 0, none⟩) us ∧ OwnS W' (fun k => g7 ≤ k ∧ k < B8) y t.kids ∧ Bx3 W' B8 t.f t.v y t.kids.length t.kids.length := by
  have h1 := h.h1
  have h2 := h.h2
  have h3 := h.h3
  have h4 := h.h4
  have h5 := h.h5
  have h2b := h.h2b
  have L : AH w t a c N B6 aw cw H (B8 + 1) B9 ag cg W := ⟨h.lp, h.g, h.og, by omega, h.h4, h.h5⟩
  exact ⟨L.stay (hs.weak (fun k _ hk => by omega)), h.bi.frame (fun k hk => hs.block k (by omega) (by omega)) hs.size, h.ox.frame (fun k hk => hs.block k (by omega) (by omega)) hs.size, h.x.stay hs (by omega)⟩
theorem AH.bind {w : World} {t : TermD} {a : Option Addr} {c : Nat} {N : TermD} {B6 : Nat} {aw : Option Addr} {cw H gu g7 B8 B9 : Nat} {y ag : Option Addr} {cg : Nat} {W W' : World} (h : AH w t a c N B6 aw cw H (B8 + 1) B9 ag cg W) (hx : OwnS W (fun k => g7 ≤ k ∧ k < B8) y t.kids) (hb : Bx3 W B8 t.f t.v y t.kids.length t.kids.length) (ho : Only (fun k => gu ≤ k ∧ k < g7) W W') (hH : H ≤ gu) (h3 : g7 ≤ B8) :
    AH w t a c N B6 aw cw H (B8 + 1) B9 ag cg W' ∧ OwnS W' (fun k => g7 ≤ k ∧ k < B8) y t.kids ∧ Bx3 W' B8 t.f t.v y t.kids.length t.kids.length := by
  have hs : Stay (fun k => k < H ∨ g7 ≤ k) W W' := only_stay (Below.refl _ _) ho (fun k _ hk q => by omega)
  have h4 := h.h4
  have h5 := h.h5
  exact ⟨h.stay (hs.weak (fun k _ hk => by omega)), hx.frame (fun k hk => hs.block k (by omega) (.inr hk.1)) hs.size, hb.stay hs (.inr h3)⟩
theorem AM.last {w : World} {t : TermD} {a : Option Addr} {c : Nat} {N : TermD} {B6 : Nat} {aw : Option Addr} {cw H lo B9 : Nat} {ag : Option Addr} {cg : Nat} {W : World} {S : Nat → Prop} {ah : Option Addr} {ch : Nat} (h : AM w t a c N B6 aw cw H lo B9 ag cg W) (ho : OwnS W S ah N.kids) : AM w t a c N B6 aw cw H lo B9 ag cg (W.alloc (.cells #[.int .i64 N.f, .int .i64 N.v, .slice ah N.kids.length ch] 32)) ∧ Bx3 (W.alloc (.cells #[.int .i64 N.f, .int .i64 N.v, .slice ah N.kids.length ch] 32)) W.heap.size N.f N.v ah N.kids.length ch ∧ RdK (W.alloc (.cells #[.int .i64 N.f, .int .i64 N.v, .slice ah N.kids.length ch] 32)) (W.alloc (.cells #[.int .i64 N.f, .int .i64 N.v, .slice ah N.kids.length ch] 32)).heap.size ah N.kids := by
  have hb : Below W.heap.size W (W.alloc (.cells #[.int .i64 N.f, .int .i64 N.v, .slice ah N.kids.length ch] 32)) := (Below.refl _ _).alloc (Nat.le_refl _) _
  exact ⟨h.on hb, ⟨by simp, by simp, by simp⟩, (ho.rd.on hb).mono hb.size⟩
theorem AM.early {w : World} {t : TermD} {a : Option Addr} {c : Nat} {N : TermD} {B6 : Nat} {aw : Option Addr} {cw H lo B9 : Nat} {ag : Option Addr} {cg : Nat} {W : World} {S : Nat → Prop} {ah : Option Addr} {ch : Nat} {B : Nat} (h : AM w t a c N B6 aw cw H lo B9 ag cg W) (ho : OwnS W S ah N.kids) (z : Bz W B) (hS : ¬ S B) (hH : H ≤ B) (hB : B9 < B) : AM w t a c N B6 aw cw H lo B9 ag cg (((W.setCell ⟨B, 0, none⟩ (.int .i64 N.f)).setCell ⟨B, 1, none⟩ (.int .i64 N.v)).setCell ⟨B, 2, none⟩ (.slice ah N.kids.length ch)) ∧ Bx3 (((W.setCell ⟨B, 0, none⟩ (.int .i64 N.f)).setCell ⟨B, 1, none⟩ (.int .i64 N.v)).setCell ⟨B, 2, none⟩ (.slice ah N.kids.length ch)) B N.f N.v ah N.kids.length ch ∧ RdK (((W.setCell ⟨B, 0, none⟩ (.int .i64 N.f)).setCell ⟨B, 1, none⟩ (.int .i64 N.v)).setCell ⟨B, 2, none⟩ (.slice ah N.kids.length ch)) (((W.setCell ⟨B, 0, none⟩ (.int .i64 N.f)).setCell ⟨B, 1, none⟩ (.int .i64 N.v)).setCell ⟨B, 2, none⟩ (.slice ah N.kids.length ch)).heap.size ah N.kids := by
  obtain ⟨z0, z1, z2⟩ := set3_cells (u := W) (r := B) (x := .int .i64 N.f) (y := .int .i64 N.v) (z := .slice ah N.kids.length ch) z.1.1 z.1.2.1 z.1.2.2
  have hst : Stay (fun k => k ≠ B) W (((W.setCell ⟨B, 0, none⟩ (.int .i64 N.f)).setCell ⟨B, 1, none⟩ (.int .i64 N.v)).setCell ⟨B, 2, none⟩ (.slice ah N.kids.length ch)) := ((Stay.setCell _ _ (by simp)).trans (.setCell _ _ (by simp))).trans (.setCell _ _ (by simp))
  have ho' := ((ho.setCell ⟨B, 0, none⟩ hS (.int .i64 N.f)).setCell ⟨B, 1, none⟩ hS (.int .i64 N.v)).setCell ⟨B, 2, none⟩ hS (.slice ah N.kids.length ch)
  have h5 := h.h5
  exact ⟨⟨h.lp.stay (hst.weak (fun k _ hk => by omega)), h.g.stay hst (by omega), h.og.frame (fun k hk => hst.block k (by omega) (by omega)), Nat.lt_of_lt_of_le h5 hst.size⟩, ⟨z0, z1, z2⟩, ho'.rd⟩
end Go.Proofs.Ytcbafmohmoicnab

/- The one result of a function, where it lies in a cell. Conditions: none. -/
namespace Go.Proofs.Ytcbafmohmoicnab
set_option maxRecDepth 100000
open Go.RowKit

theorem results_cell1 {fn : Func} {p : Tmp} {ty : TypeId} (h : fn.results = #[.cell p ty]) (tmps : Array Value) (P : Program) (w : World) :
    (results fn tmps).run P w = ((asAddr (tmps.getD p undef)).run P w).andThen fun a w₁ => (loadVar ty a).run P w₁ := by
  simp only [results, h]
  simp [Sem.run_bind, Result.andThen]
theorem load_bool {w : World} {p : Addr} {b : Bool} (h : w.cell? p = some (.bool b)) : (loadVar 4 p).run Try.prog w = .ok (.bool b) w := by
  simp [loadVar, go_sem, h]
theorem results_bool {fn : Func} {p : Tmp} (h : fn.results = #[.cell p 4]) {tmps : Array Value} {w : World} {a : Addr} (ha : tmps.getD p undef = .pointer (some a)) {b : Bool} (hc : w.cell? a = some (.bool b)) :
    (results fn tmps).run Try.prog w = .ok (.bool b) w := by
  rw [results_cell1 h, ha]
  simp [go_sem, hc, Result.andThen]
end Go.Proofs.Ytcbafmohmoicnab

/- The program's copy of a term: one form where no function is blind is the term itself. Conditions: terms of at most 549755813888 parts. -/
namespace Go.Proofs.Ytcbafmohmoicnab
set_option maxRecDepth 100000
open Go.RowKit

mutual
theorem normT_id (bl : Int → Bool) (h : ∀ f, bl f = false) : ∀ t, normT bl t = t
  | .mk f v ks => by rw [normT, normL_id bl h f ks []]; simp
theorem normL_id (bl : Int → Bool) (h : ∀ f, bl f = false) (f : Int) : ∀ ks out, normL bl f ks out = out ++ ks
  | [], out => by simp [normL]
  | k :: ks, out => by rw [normL, normT_id bl h k, stepN, h f, if_pos rfl, normL_id bl h f ks]; simp
end
theorem blindAt_none : ∀ f, blindAt [] f = false := by intro f; unfold blindAt; split <;> simp

theorem copyTerm_any (t : TermD) (a : Option Addr) (c hi : Nat) (w : World) (hp : partsT t ≤ 549755813888) (hr : RdK w hi a t.kids) (hhi : hi ≤ w.heap.size) (hc : t.kids.length ≤ c) (hwf : isW t.f ∧ isW t.v) :
    Calls Try.prog 67 #[.agg #[.int .i64 t.f, .int .i64 t.v, .slice a t.kids.length c]] w fun e w' => ∃ a' c', e = .returned (.agg #[.int .i64 t.f, .int .i64 t.v, .slice a' t.kids.length c']) ∧ OwnS w' (fun k => w.heap.size ≤ k ∧ k < w'.heap.size) a' t.kids ∧ t.kids.length ≤ c' ∧ Below w.heap.size w w' := by
  obtain ⟨W, hW⟩ : ∃ W, W = (w.alloc (.cells #[.int .i64 t.f, .int .i64 t.v, .slice a t.kids.length c] 32)).alloc (.cells #[.int .i64 0, .int .i64 0, .slice none 0 0] 32) := ⟨_, rfl⟩
  have hb0 : Below w.heap.size w W := by rw [hW]; exact ((Below.refl _ _).alloc (Nat.le_refl _) _).alloc (by simp) _
  have hz0 : W.heap.size = w.heap.size + 1 + 1 := by rw [hW]; simp
  have nb0 : NB w W := ⟨hb0, by rw [hW]; simp [go_sem], by rw [hW]; simp [go_sem], by rw [hW]; simp [go_sem], fun j => by rw [hW]; simp [go_sem], by omega⟩
  have C := impNorm_any none [] 0 t a c hi W (by simp [RdS]) hp (hr.on (hb0.mono hhi)) (Nat.le_trans hhi hb0.size) hc hwf
  rw [normT_id _ blindAt_none t] at C
  simp only [List.length_nil] at C
  clear hp hr hhi hc
  go_enter Try.func67, Try.ntmps67
  go_wp2_with (go_at_call 69; rw [← hW]; refine C.mono ?_; rintro e w4 ⟨a', c', rfl, ho4, hc4, hb4⟩; have nb4 := nb0.on hb4; have d0 := nb4.c0; have d1 := nb4.c1; have d2 := nb4.c2; have df := nb4.cf; have hz4 : w.heap.size + 1 < w4.heap.size := nb4.z; clear C hW)
  obtain ⟨z0, z1, z2⟩ := set3_cells (u := w4) (r := w.heap.size + 1) (x := .int .i64 t.f) (y := .int .i64 t.v) (z := .slice a' t.kids.length c') d0 d1 d2
  have hnS : ∀ j, ¬ (W.heap.size ≤ (⟨w.heap.size + 1, j, none⟩ : Addr).block ∧ (⟨w.heap.size + 1, j, none⟩ : Addr).block < w4.heap.size) := fun j q => by have := q.1; simp only at this; omega
  have hoF := ((ho4.setCell ⟨w.heap.size + 1, 0, none⟩ (hnS 0) (.int .i64 t.f)).setCell ⟨w.heap.size + 1, 1, none⟩ (hnS 1) (.int .i64 t.v)).setCell ⟨w.heap.size + 1, 2, none⟩ (hnS 2) (.slice a' t.kids.length c')
  have hbF := ((nb4.be.setCell (p := ⟨w.heap.size + 1, 0, none⟩) (by simp) (.int .i64 t.f)).setCell (p := ⟨w.heap.size + 1, 1, none⟩) (by simp) (.int .i64 t.v)).setCell (p := ⟨w.heap.size + 1, 2, none⟩) (by simp) (.slice a' t.kids.length c')
  refine bodyPost_ret (v := .agg #[.int .i64 t.f, .int .i64 t.v, .slice a' t.kids.length c']) (by simp [results, Try.results67, go_sem, z0, z1, z2]) rfl ⟨a', c', rfl, hoF.mono (fun k hk => ⟨by omega, by simpa using hk.2⟩), hc4, hbF⟩
end Go.Proofs.Ytcbafmohmoicnab

/- The specification's copy of a term: it owns new memory. Conditions: terms of at most 549755813888 parts. -/
namespace Go.Proofs.Ytcbafmohmoicnab
set_option maxRecDepth 100000
open Go.RowKit

/-- Behind the append of a copied Kid: the boxes and the row. -/
theorem cpy_app {w X w1 w5 : World} {t u : TermD} {a a1 av : Option Addr} {c c1 cv m g5 c5 : Nat} {vo : Value} {L : List FE}
    (C1 : NC w t a c vo w1) (R1 : NR (w.heap.size + 1 + 1 + 1) L [⟨u, a1, c1, fun x => m ≤ x ∧ x < w1.heap.size⟩] av cv w1) (hb : Below w1.heap.size w1 X)
    (hO : w5.ownsRow (w.heap.size + 1 + 1 + 1) 32 3 (.slice (some ⟨g5, 0, none⟩) (L.length + 1) c5) (L.length + 1) (cs3 (L.map FE.cells) ++ [.int .i64 u.f, .int .i64 u.v, .slice a1 u.kids.length c1])) (hG : X.grownBy w5 (Value.slice av L.length cv).ownBlock) (hat : (Value.slice (some ⟨g5, 0, none⟩) (L.length + 1) c5).ownBlock = (Value.slice av L.length cv).ownBlock ∨ (Value.slice (some ⟨g5, 0, none⟩) (L.length + 1) c5).ownBlock = some X.heap.size) :
    NC w t a c vo w5 ∧ NR (w.heap.size + 1 + 1 + 1) (L ++ [⟨u, a1, c1, fun x => m ≤ x ∧ x < w1.heap.size⟩]) [] (some ⟨g5, 0, none⟩) c5 w5 := by
  have R2 := R1.on hb
  obtain ⟨g, c', hv, R3⟩ := R2.app hG hO hat
  cases hv
  exact ⟨(C1.on hb).stay (.grown hG (fun k e hk => by have := (R2.row.lt k e).1; omega)), R3⟩

set_option maxHeartbeats 3200000 in
set_option maxRecDepth 100000 in
theorem l3Copy_any (N : Nat) : ∀ (t : TermD) (a : Option Addr) (c hi : Nat) (w : World), partsT t ≤ N → N ≤ 549755813888 → RdK w hi a t.kids → hi ≤ w.heap.size → isW t.f → isW t.v →
    Calls Try.prog 80 #[.agg #[.int .i64 t.f, .int .i64 t.v, .slice a t.kids.length c]] w fun e w' => ∃ a' c', e = .returned (.agg #[.int .i64 t.f, .int .i64 t.v, .slice a' t.kids.length c']) ∧ OwnR w' (fun x => w.heap.size ≤ x ∧ x < w'.heap.size) a' c' t.kids ∧ t.kids.length ≤ c' ∧ Below w.heap.size w w' := by
  induction N with
  | zero => intro t a c hi w h; rw [partsT_eq] at h; omega
  | succ N ih =>
    intro t a c hi w hN hM hr hhi hfw hvw
    rw [partsT_eq] at hN
    obtain ⟨i0, hi0, hz0, hz1, hz2⟩ := info_parts info29
    have hlen := partsL_len t.kids
    have HR : Hid (RdK w hi a t.kids) := hr
    clear hr hfw hvw
    have C0 : NC w t a c (.slice none 0 0) (((w.alloc (.cells #[.int .i64 t.f, .int .i64 t.v, .slice a t.kids.length c] 32)).alloc (.cells #[.int .i64 0, .int .i64 0, .slice none 0 0] 32)).alloc (.cells #[.int .i64 t.f, .int .i64 t.v, .slice none 0 0] 32)) := by
      refine ⟨?_, ?_, ?_, ?_, ?_, ?_, ?_, ?_, fun j => ?_, fun j => ?_, (((Below.refl _ _).alloc (Nat.le_refl _) _).alloc (by simp) _).alloc (by simp; omega) _, ?_⟩
      all_goals simp [go_sem]
    go_enter Try.func80, Try.ntmps80
    go_wp2_with fail
    go_loopw [4] (fun i wr => ∃ (k : Nat) (L : List FE) (av : Option Addr) (cv : Nat), k ≤ t.kids.length ∧ i = .int .i64 k ∧ NC w t a c (.slice av L.length cv) wr ∧ NR (w.heap.size + 1 + 1 + 1) L [] av cv wr ∧ Hid (L.map FE.t = t.kids.take k)) (fun i _ => t.kids.length - (intOf i).toNat)
    case atStart => exact ⟨0, [], none, 0, Nat.zero_le _, rfl, C0, NR.start _ _, by show _ = _; simp⟩
    case round =>
      obtain ⟨k, L, av, cv, hk, rfl, C, R, HL⟩ := hrel
      clear C0
      have p2 := C.p2
      have hz := C.z
      have hLl : L.length ≤ t.kids.length := by have := congrArg List.length HL.out; simp at this; omega
      by_cases hk' : k < t.kids.length
      · obtain ⟨b, off, a', c', rfl, hlt, d0, d1, d2, hkr⟩ := RdK.kid (HR.out.on (C.bel.mono hhi)) hk'
        have hints := HR.out.ints hk'
        have hpg := partsL_get hk'
        have hki : (k : Int) < (t.kids.length : Int) := by omega
        have hki0 : (0 : Int) ≤ (k : Int) := by omega
        have hkz : (L.length : Int) < (L.length : Int) + 1 := by omega
        have hLb : L.length ≤ 549755813888 := by omega
        have HK : Hid (L.map FE.t ++ [t.kids[k]] = t.kids.take (k + 1)) := by show _ = _; rw [HL.out, List.take_succ_eq_append_getElem hk']
        have I := fun (w' : World) (h : Below wr.heap.size wr w') => ih t.kids[k] a' c' hi w' (by omega) (by omega) (hkr.on (h.mono (Nat.le_trans hhi C.bel.size))) (Nat.le_trans (Nat.le_trans hhi C.bel.size) h.size) hints.1 hints.2
        have HI : Hid (isW t.kids[k].f ∧ isW t.kids[k].v) := hints
        generalize t.kids[k] = u at d0 d1 d2 I HK HI
        have q2 := C.q2
        clear hkr hints hpg ih hlt
        have hlb : b < wr.heap.size := World.block_lt_of_cell? _ _ d0
        have b1 : Below wr.heap.size wr (wr.alloc (.cells #[.int .i64 0, .int .i64 0, .slice none 0 0] 32)) := (Below.refl _ _).alloc (Nat.le_refl _) _
        have p2a := keepC b1 p2
        have q2a := keepC b1 q2
        have d0a := keepC b1 d0
        have d1a := keepC b1 d1
        have d2a := keepC b1 d2
        clear b1
        go_wp2_with fail
        go_region_law (first
          | (go_simp; go_at_call 80; refine (I (wr.drew.alloc (.cells #[.int .i64 0, .int .i64 0, .slice none 0 0] 32)) ((Below.refl _ _).drew.alloc (by simp) _)).mono ?_; rintro e1 w1 ⟨a1, c1, rfl, o1, hle1, hb1⟩; have C1 := (C.on ((Below.refl _ _).drew.alloc (by simp) _)).on hb1; have R1 := (R.on ((Below.refl _ _).drew.alloc (by simp) _)).join hb1 (fe_one o1 hle1 HI.out.1 HI.out.2 (Nat.le_of_lt_succ (by simp; omega))) (fun e he x hx => by simp only [List.mem_singleton] at he; subst he; exact hx.1); have z0 := keepC (p := ⟨wr.heap.size, 0, none⟩) (v := .int .i64 0) hb1 (by simp [go_sem]); have z1 := keepC (p := ⟨wr.heap.size, 1, none⟩) (v := .int .i64 0) hb1 (by simp [go_sem]); have z2 := keepC (p := ⟨wr.heap.size, 2, none⟩) (v := .slice none 0 0) hb1 (by simp [go_sem]); have c2' := C1.q2; have f2' := C1.fq 2; have hbw := C1.z; have hne : (Value.slice av L.length cv).ownBlock ≠ some (w.heap.size + 1 + 1) := (fun q => by have := (R1.row.lt _ q).1; omega); have hrow := R1.row; have hxl := hrow.1; have hsz1 := hb1.size; have HC : Hid _ := C1; have HRR : Hid _ := R1; clear C1 R1 hb1 o1)
          | (go_simp; go_at_call 80; refine (I wr.drew (Below.refl _ _).drew).mono ?_; rintro e1 w1 ⟨a1, c1, rfl, o1, hle1, hb1⟩; have C1 := (C.on (Below.refl _ _).drew).on hb1; have R1 := (R.on (Below.refl _ _).drew).join hb1 (fe_one o1 hle1 HI.out.1 HI.out.2 (Nat.le_of_lt_succ (by simp; omega))) (fun e he x hx => by simp only [List.mem_singleton] at he; subst he; exact hx.1); have zB : True := trivial; have c2' := C1.q2; have f2' := C1.fq 2; have hbw := C1.z; have hne : (Value.slice av L.length cv).ownBlock ≠ some (w.heap.size + 1 + 1) := (fun q => by have := (R1.row.lt _ q).1; omega); have hrow := R1.row; have hxl := hrow.1; have hsz1 := hb1.size; have HC : Hid _ := C1; have HRR : Hid _ := R1; clear C1 R1 hb1 o1)
          | (have _ := zB; refine step_append_own rfl (.tmp 18) (.tmp 25) 30 rfl (w.heap.size + 1 + 1 + 1) 32 i0 _ 3 40 Try.underlying30 hi0 hz0 hz1 hz2 rfl (by decide) (.slice av L.length cv) L.length (cs3 (L.map FE.cells)) (by first | (simp [Act.eval]; done) | simp [Act.eval, Act.put]) (own_on hrow (by repeat (first | exact Below.refl _ _ | refine Below.drew ?_ | refine Below.alloc ?_ (by simp) _))) ⟨w1.heap.size, 0, none⟩ 1 1 [.int .i64 u.f, .int .i64 u.v, .slice a1 u.kids.length c1] (by first | (simp [Act.eval]; done) | simp [Act.eval, Act.put]) rfl (three_at (by simp) (by simp) (by simp)) (three_cell _ _ _ _ _) (by unfold maxLen; omega) (by omega) (by simp <;> omega) ?_; intro v5 w5 hown5 hgrow5 hat5; have HA5 : Hid _ := hat5; obtain ⟨g5, c5, rfl, _⟩ := own_slot hown5; have HO5 : Hid _ := hown5; have HG5 : Hid _ := hgrow5; have A5 := cpy_app HC.out HRR.out (by repeat (first | exact Below.refl _ _ | refine Below.drew ?_ | refine Below.alloc ?_ (by simp) _)) hown5 hgrow5 hat5; have c4' := A5.1.q2; have f4' := A5.1.fq 2; have HA : Hid _ := A5; clear A5 hown5 hgrow5 hat5)
          | (refine step_append_own rfl (.tmp 18) (.tmp 25) 30 rfl (w.heap.size + 1 + 1 + 1) 32 i0 _ 3 40 Try.underlying30 hi0 hz0 hz1 hz2 rfl (by decide) (.slice av L.length cv) L.length (cs3 (L.map FE.cells)) (by first | (simp [Act.eval]; done) | simp [Act.eval, Act.put]) (own_on hrow (by repeat (first | exact Below.refl _ _ | refine Below.drew ?_ | refine Below.alloc ?_ (by simp) _))) ⟨wr.heap.size, 0, none⟩ 1 1 [.int .i64 0, .int .i64 0, .slice none 0 0] (by first | (simp [Act.eval]; done) | simp [Act.eval, Act.put]) rfl (three_at z0 z1 z2) (three_cell _ _ _ _ _) (by unfold maxLen; omega) (by omega) (by simp <;> omega) ?_; intro v5 w5 hown5 hgrow5 hat5; have PF := put_facts hrow.1 hown5 hgrow5 hat5 (by repeat (first | exact Below.refl _ _ | refine Below.drew ?_ | refine Below.alloc ?_ (by simp) _)) hbw c2' f2' hne; have HA5 : Hid _ := hat5; obtain ⟨g5, c5, rfl, ⟨e0, e1, e2⟩, ⟨f0, f1, f2⟩, c4', f4', hg5, hc5, hat'⟩ := PF; have HO5 : Hid _ := hown5; have HG5 : Hid _ := hgrow5; clear hown5 hgrow5 hat5))
        all_goals
          clear c4' f4'
          have A5 := HA.out
          have C6 := A5.1.set (.slice (some ⟨g5, 0, none⟩) (L.length + 1) c5)
          have R6 := A5.2.set (p := ⟨w.heap.size + 1 + 1, 2, none⟩) (.slice (some ⟨g5, 0, none⟩) (L.length + 1) c5) (by simp only; omega)
          clear A5 HA
          go_wp2_with fail
          refine ⟨⟨k + 1, L ++ [⟨u, a1, c1, _⟩], some ⟨g5, 0, none⟩, c5, by omega, by go_num, by simpa using C6, R6, ?_⟩, by simp [intOf]; omega⟩
          show _ = _
          rw [fe_snoc, HK.out]
      · have E : Hid (k = t.kids.length) := (by omega : k = t.kids.length)
        have q0 := C.q0
        have q1 := C.q1
        have q2 := C.q2
        have r0 := C.r0
        have r1 := C.r1
        have r2 := C.r2
        have fr := C.fr
        have hL : Hid (L.map FE.t = t.kids) := by
          show _ = _
          rw [HL.out, E.out, List.take_length]
        have O : OwnR wr (fun x => w.heap.size + 1 + 1 + 1 ≤ x ∧ x < wr.heap.size) av cv (L.map FE.t) := by
          rcases R.row.2 with ⟨hv, h0⟩ | ⟨g, cap, _, hv, _⟩
          · have : L = [] := List.length_eq_zero_iff.1 h0
            subst this; cases hv; exact .nil _
          · cases hv
            exact (by simpa using R.fo : Forest wr _ L).owns R.row (fun e he => R.ap g rfl e (by simpa using he)) (by omega)
        have hcl : L.length ≤ cv := by obtain ⟨_, _, h, hh⟩ := own_form R.row; cases h; exact hh
        have hbel := C.bel
        clear C R HL E ih
        go_wp2_with fail
        obtain ⟨z0, z1, z2⟩ := set3_cells (u := wr) (r := w.heap.size + 1) (x := .int .i64 t.f) (y := .int .i64 t.v) (z := .slice av L.length cv) r0 r1 r2
        have hn : ¬ (w.heap.size + 1 + 1 + 1 ≤ w.heap.size + 1 ∧ w.heap.size + 1 < wr.heap.size) := by omega
        have O3 := ((O.setCell ⟨w.heap.size + 1, 0, none⟩ hn (.int .i64 t.f)).setCell ⟨w.heap.size + 1, 1, none⟩ hn (.int .i64 t.v)).setCell ⟨w.heap.size + 1, 2, none⟩ hn (.slice av L.length cv)
        rw [← hL.out, List.length_map]
        refine bodyPost_ret (v := .agg #[.int .i64 t.f, .int .i64 t.v, .slice av L.length cv]) (by simp [results, Try.results80, go_sem, z0, z1, z2]) rfl ⟨av, cv, rfl, O3.mono (fun x hx => ⟨by omega, by simpa using hx.2⟩), hcl, ?_⟩
        exact ((hbel.setCell (p := ⟨w.heap.size + 1, 0, none⟩) (by simp) _).setCell (p := ⟨w.heap.size + 1, 1, none⟩) (by simp) _).setCell (p := ⟨w.heap.size + 1, 2, none⟩) (by simp) _
end Go.Proofs.Ytcbafmohmoicnab

/- Weights as data. Conditions: none. -/
namespace Go.Proofs.Ytcbafmohmoicnab
set_option maxRecDepth 100000
open Go.RowKit

mutual
/-- The weight. -/
def wgtT (bl : Int → Bool) : TermD → Nat
  | .mk f _ ks => (if bl f && !ks.isEmpty then ks.length - 1 else 1) + wgtL bl ks
def wgtL (bl : Int → Bool) : List TermD → Nat
  | [] => 0
  | k :: ks => wgtT bl k + wgtL bl ks
end
theorem wgtT_eq (bl : Int → Bool) (t : TermD) : wgtT bl t = (if bl t.f && !t.kids.isEmpty then t.kids.length - 1 else 1) + wgtL bl t.kids := by cases t; rw [wgtT]; rfl
theorem wgtL_append (bl : Int → Bool) (a b : List TermD) : wgtL bl (a ++ b) = wgtL bl a + wgtL bl b := by
  induction a with
  | nil => simp [wgtL]
  | cons t ts ih => simp only [List.cons_append, wgtL, ih]; omega
theorem wgtL_next (bl : Int → Bool) {ts : List TermD} {k : Nat} (h : k < ts.length) : wgtL bl (ts.take (k + 1)) = wgtL bl (ts.take k) + wgtT bl ts[k] := by
  rw [List.take_succ_eq_append_getElem h, wgtL_append]
  simp [wgtL]
mutual
theorem wgtT_pos (bl : Int → Bool) : ∀ t : TermD, 1 ≤ wgtT bl t
  | .mk f v ks => by
    have h := wgtL_pos bl ks
    rw [wgtT]
    split
    · next hb =>
      have : ks ≠ [] := by intro e; subst e; simp at hb
      have := List.length_pos_iff.2 this
      omega
    · omega
theorem wgtL_pos (bl : Int → Bool) : ∀ ks : List TermD, ks.length ≤ wgtL bl ks
  | [] => by simp
  | k :: ks => by have := wgtT_pos bl k; have := wgtL_pos bl ks; rw [wgtL, List.length_cons]; omega
end
mutual
/-- A weight is less than twice the number of parts. -/
theorem wgtT_parts (bl : Int → Bool) : ∀ t : TermD, wgtT bl t + 1 ≤ 2 * partsT t
  | .mk f v ks => by
    have h := wgtL_parts bl ks
    rw [wgtT, partsT]
    split <;> omega
theorem wgtL_parts (bl : Int → Bool) : ∀ ks : List TermD, wgtL bl ks + ks.length ≤ 2 * partsL ks
  | [] => by simp [wgtL, partsL]
  | k :: ks => by have := wgtT_parts bl k; have := wgtL_parts bl ks; rw [wgtL, partsL, List.length_cons]; omega
end
end Go.Proofs.Ytcbafmohmoicnab

/- Right terms, weights, and terms that are made, as data; what a right term's form and weight are. Conditions: none. -/
namespace Go.Proofs.Ytcbafmohmoicnab
set_option maxRecDepth 100000
open Go.RowKit

/-- Before the one ahead of it, if there is one. -/
def befO (k : TermD) : Option TermD → Bool
  | some q => befT k q
  | none => false
mutual
/-- Right, of any size. -/
def rightT (ss : List SymD) : TermD → Bool
  | .mk f v ks => if f = -1 then decide (0 ≤ v ∧ v ≤ 99) && ks.isEmpty
    else decide (0 ≤ f ∧ f < ss.length) && v == 0 && (if blindAt ss f then decide (2 ≤ ks.length) else (ks.length : Int) == arityAt ss f) && rightL ss f none ks
/-- The Kids, the one ahead of them known. -/
def rightL (ss : List SymD) (f : Int) : Option TermD → List TermD → Bool
  | _, [] => true
  | p, k :: ks => !(blindAt ss f && (k.f == f || befO k p)) && rightT ss k && rightL ss f (some k) ks
end
theorem rightT_eq (ss : List SymD) (t : TermD) : rightT ss t = if t.f = -1 then decide (0 ≤ t.v ∧ t.v ≤ 99) && t.kids.isEmpty
    else decide (0 ≤ t.f ∧ t.f < ss.length) && t.v == 0 && (if blindAt ss t.f then decide (2 ≤ t.kids.length) else (t.kids.length : Int) == arityAt ss t.f) && rightL ss t.f none t.kids := by
  cases t; rw [rightT]; rfl
theorem rightL_all (ss : List SymD) (f : Int) : ∀ (ks : List TermD) (p : Option TermD), rightL ss f p ks = true → ∀ k ∈ ks, rightT ss k = true ∧ (blindAt ss f = true → k.f ≠ f)
  | [], _, _ => by simp
  | x :: xs, p, h => by
    rw [rightL, Bool.and_eq_true, Bool.and_eq_true] at h
    intro k hk
    rcases List.mem_cons.1 hk with rfl | hk
    · refine ⟨h.1.2, fun hb e => ?_⟩
      have := h.1.1
      rw [hb, e] at this
      simp at this
    · exact rightL_all ss f xs (some x) h.2 k hk
theorem rightL_from (ss : List SymD) (f : Int) (hb : blindAt ss f = true) : ∀ (ks : List TermD) (q : TermD), rightL ss f (some q) ks = true → (q :: ks).Pairwise leT
  | [], q, _ => by simp
  | x :: xs, q, h => by
    rw [rightL, Bool.and_eq_true, Bool.and_eq_true] at h
    have h0 : leT q x := by
      rw [← befT_leT]
      have := h.1.1
      rw [hb] at this
      simp only [Bool.true_and, Bool.not_eq_true', Bool.or_eq_false_iff] at this
      exact this.2
    have h1 := rightL_from ss f hb xs x h.2
    refine List.Pairwise.cons (fun y hy => ?_) h1
    rcases List.mem_cons.1 hy with rfl | hy
    · exact h0
    · exact leT_trans h0 ((List.pairwise_cons.1 h1).1 y hy)
theorem rightL_sorted (ss : List SymD) (f : Int) (hb : blindAt ss f = true) (ks : List TermD) (h : rightL ss f none ks = true) : ks.Pairwise leT := by
  cases ks with
  | nil => exact .nil
  | cons x xs =>
    rw [rightL, Bool.and_eq_true] at h
    exact rightL_from ss f hb xs x h.2
theorem right_isN (ss : List SymD) : ∀ (n : Nat) (t : TermD), partsT t ≤ n → rightT ss t = true → IsN (blindAt ss) t := by
  intro n
  induction n with
  | zero => intro t h; rw [partsT_eq] at h; omega
  | succ n ih =>
    intro t hn h
    rw [partsT_eq] at hn
    rw [rightT_eq] at h
    split at h
    · simp only [Bool.and_eq_true, List.isEmpty_iff] at h
      exact .mk t (by simp [h.2]) (fun _ => by simp [h.2])
    · simp only [Bool.and_eq_true] at h
      have ha := rightL_all ss t.f t.kids none h.2
      exact .mk t (fun k hk => ih k (by have := parts_kid hk; omega) (ha k hk).1) (fun hb => ⟨rightL_sorted ss t.f hb t.kids h.2, fun k hk => (ha k hk).2 hb⟩)
/-- One form of what is right is it. -/
theorem right_self (ss : List SymD) {t : TermD} (h : rightT ss t = true) : normT (blindAt ss) t = t := normT_self _ (right_isN ss _ t (Nat.le_refl _) h)


/-- A term that is made of a function and Kids. -/
def makeT (ss : List SymD) (f : Int) (ks : List TermD) : TermD :=
  if blindAt ss f = true ∧ ks = [] then .mk 0 0 []
  else if blindAt ss f = true ∧ ks.length = 1 then normT (blindAt ss) (ks.headD (.mk 0 0 []))
  else if ¬ (0 ≤ f ∧ f < ss.length) then .mk f 0 ks
  else normT (blindAt ss) (.mk f 0 ks)
theorem blindAt_lt {ss : List SymD} {f : Int} (h : blindAt ss f = true) : 0 ≤ f ∧ f < ss.length := by
  unfold blindAt at h
  split at h
  · next h0 =>
    refine ⟨h0, ?_⟩
    by_cases hl : f.toNat < ss.length
    · omega
    · rw [List.getElem?_eq_none (by omega)] at h; cases h
  · cases h
theorem makeT_blind {ss : List SymD} {f : Int} (h : blindAt ss f = true) {ks : List TermD} (hl : 2 ≤ ks.length) : makeT ss f ks = normT (blindAt ss) (.mk f 0 ks) := by
  unfold makeT
  rw [if_neg (by rintro ⟨_, rfl⟩; simp at hl), if_neg (by rintro ⟨_, e⟩; omega), if_neg (by simpa using blindAt_lt h)]
/-- In any order. -/
theorem makeT_perm {ss : List SymD} {f : Int} (h : blindAt ss f = true) {us bs : List TermD} (hl : 2 ≤ us.length) (hp : us.Perm bs) : makeT ss f us = makeT ss f bs := by
  rw [makeT_blind h hl, makeT_blind h (by rw [← hp.length_eq]; exact hl)]
  exact normT_perm _ h hp
/-- In brackets. -/
theorem makeT_in {ss : List SymD} {f : Int} (h : blindAt ss f = true) {us bs : List TermD} (ha : 2 ≤ us.length) (hb : 1 ≤ bs.length) : makeT ss f (makeT ss f us :: bs) = makeT ss f (us ++ bs) := by
  rw [makeT_blind h (by simp; omega), makeT_blind h ha, makeT_blind h (by simp; omega)]
  exact normT_in _ h us bs
end Go.Proofs.Ytcbafmohmoicnab

/- A term that is made, as the program makes it. Conditions: terms of at most 549755813888 parts. -/
namespace Go.Proofs.Ytcbafmohmoicnab
set_option maxRecDepth 100000
open Go.RowKit

/-- While Make goes on: its answer's place. -/
structure MB (w wr : World) : Prop where
  be : Below w.heap.size w wr
  c0 : wr.cell? ⟨w.heap.size, 0, none⟩ = some (.int .i64 0)
  c1 : wr.cell? ⟨w.heap.size, 1, none⟩ = some (.int .i64 0)
  c2 : wr.cell? ⟨w.heap.size, 2, none⟩ = some (.slice none 0 0)
  cf : ∀ j, wr.frozen? ⟨w.heap.size, j, none⟩ = false
  z : w.heap.size + 1 ≤ wr.heap.size
theorem MB.on {w wr wr' : World} (h : MB w wr) (hb : Below wr.heap.size wr wr') : MB w wr' :=
  ⟨h.be.trans (hb.mono h.be.size), keepC hb h.c0, keepC hb h.c1, keepC hb h.c2, fun j => (hb.frozen (p := ⟨w.heap.size, j, none⟩) h.z).trans (h.cf j), Nat.le_trans h.z hb.size⟩
theorem make_end {w w4 : World} {x y : Int} {us : List TermD} {a' : Option Addr} {c' : Nat} (nb4 : MB w w4) (ho4 : OwnS w4 (fun k => w.heap.size + 1 ≤ k ∧ k < w4.heap.size) a' us) :
    (((w4.setCell ⟨w.heap.size, 0, none⟩ (.int .i64 x)).setCell ⟨w.heap.size, 1, none⟩ (.int .i64 y)).setCell ⟨w.heap.size, 2, none⟩ (.slice a' us.length c')).cell? ⟨w.heap.size, 0, none⟩ = some (.int .i64 x) ∧ (((w4.setCell ⟨w.heap.size, 0, none⟩ (.int .i64 x)).setCell ⟨w.heap.size, 1, none⟩ (.int .i64 y)).setCell ⟨w.heap.size, 2, none⟩ (.slice a' us.length c')).cell? ⟨w.heap.size, 1, none⟩ = some (.int .i64 y) ∧ (((w4.setCell ⟨w.heap.size, 0, none⟩ (.int .i64 x)).setCell ⟨w.heap.size, 1, none⟩ (.int .i64 y)).setCell ⟨w.heap.size, 2, none⟩ (.slice a' us.length c')).cell? ⟨w.heap.size, 2, none⟩ = some (.slice a' us.length c') ∧
      OwnS (((w4.setCell ⟨w.heap.size, 0, none⟩ (.int .i64 x)).setCell ⟨w.heap.size, 1, none⟩ (.int .i64 y)).setCell ⟨w.heap.size, 2, none⟩ (.slice a' us.length c')) (fun k => w.heap.size ≤ k ∧ k < (((w4.setCell ⟨w.heap.size, 0, none⟩ (.int .i64 x)).setCell ⟨w.heap.size, 1, none⟩ (.int .i64 y)).setCell ⟨w.heap.size, 2, none⟩ (.slice a' us.length c')).heap.size) a' us ∧ Below w.heap.size w (((w4.setCell ⟨w.heap.size, 0, none⟩ (.int .i64 x)).setCell ⟨w.heap.size, 1, none⟩ (.int .i64 y)).setCell ⟨w.heap.size, 2, none⟩ (.slice a' us.length c')) := by
  obtain ⟨z0, z1, z2⟩ := set3_cells (u := w4) (r := w.heap.size) (x := .int .i64 x) (y := .int .i64 y) (z := .slice a' us.length c') nb4.c0 nb4.c1 nb4.c2
  have hnS : ∀ j, ¬ (w.heap.size + 1 ≤ (⟨w.heap.size, j, none⟩ : Addr).block ∧ (⟨w.heap.size, j, none⟩ : Addr).block < w4.heap.size) := fun j q => by have := q.1; simp only at this; omega
  have hoF := ((ho4.setCell ⟨w.heap.size, 0, none⟩ (hnS 0) (.int .i64 x)).setCell ⟨w.heap.size, 1, none⟩ (hnS 1) (.int .i64 y)).setCell ⟨w.heap.size, 2, none⟩ (hnS 2) (.slice a' us.length c')
  have hbF := ((nb4.be.setCell (p := ⟨w.heap.size, 0, none⟩) (by simp) (.int .i64 x)).setCell (p := ⟨w.heap.size, 1, none⟩) (by simp) (.int .i64 y)).setCell (p := ⟨w.heap.size, 2, none⟩) (by simp) (.slice a' us.length c')
  exact ⟨z0, z1, z2, hoF.mono (fun k hk => ⟨by omega, by simpa using hk.2⟩), hbF⟩

end Go.Proofs.Ytcbafmohmoicnab

/- The cursor from which the laws draw, and how memory stands behind a draw. Conditions: none. -/
namespace Go.Proofs.Ytcbafmohmoicnab
set_option maxRecDepth 100000
open Go.RowKit

def isInt (z : Int) : Prop := -9223372036854775808 ≤ z ∧ z ≤ 9223372036854775807
def intsD (zs : List Int) : List Value := zs.map (Value.int .i64)

/-- The slice of bytes that begins at 'a' reads in w as bs, and no cell of it lies in block c. -/
def RdB (w : World) (c : Nat) (a : Option Addr) (bs : List Int) : Prop :=
  (∀ z ∈ bs, 0 ≤ z ∧ z ≤ 255) ∧ (bs = [] ∨ ∃ b off, a = some ⟨b, off, none⟩ ∧ b < w.heap.size ∧ b ≠ c ∧ ∀ i, i < bs.length → w.cell? ⟨b, off + i, none⟩ = some (.int .u8 (bs[i]?.getD 0)))

/-- Block c is a cursor over the code bs. -/
def Cur (T : TypeId) (w : World) (c : Nat) (a : Option Addr) (bs : List Int) (cap : Nat) : Prop :=
  RdB w c a bs ∧ ∃ (i : Nat) (h : Int), i ≤ bs.length ∧ isInt h ∧ w.heap[c]? = some (.cells #[.slice a bs.length cap, .int .i64 i, .int .i64 h] T (0, 0))

theorem and_le (x : Int) (m : Nat) (hm : m < 4611686018427387904) : 0 ≤ bits .and .i64 x (m : Int) ∧ bits .and .i64 x (m : Int) ≤ (m : Int) := by
  have h2 : (BitVec.ofInt 64 (m : Int)).toNat = m := by
    rw [BitVec.ofInt_natCast, BitVec.toNat_ofNat]; exact Nat.mod_eq_of_lt (by omega)
  have h : bits .and .i64 x (m : Int) = IntKind.i64.wrap (((BitVec.ofInt 64 x).toNat &&& m : Nat) : Int) := by
    show IntKind.i64.wrap ((BitVec.ofInt 64 x &&& BitVec.ofInt 64 (m : Int)).toNat : Int) = _
    rw [BitVec.toNat_and, h2]
  have h3 : (BitVec.ofInt 64 x).toNat &&& m ≤ m := Nat.and_le_right
  rw [h, IntKind.wrap_i64]
  omega

theorem and_255 (x : Int) : 0 ≤ bits .and .i64 x 255 ∧ bits .and .i64 x 255 ≤ 255 := and_le x 255 (by omega)

theorem grown_refl (w : World) (row : Option Nat) : w.grownBy w row := ⟨rfl, rfl, rfl, Nat.le_refl _, fun _ _ _ => rfl⟩

theorem grown_then {a w w' : World} {row : Option Nat} (h : a.grownBy w row) (k : w.grownBy w' row) : a.grownBy w' row :=
  ⟨k.os.trans h.os, k.tape.trans h.tape, k.output.trans h.output, Nat.le_trans h.size k.size, fun i hi hr => (k.block i (Nat.lt_of_lt_of_le hi h.size) hr).trans (h.block i hi hr)⟩

theorem grown_draw {a w : World} {row : Option Nat} (h : a.grownBy w row) (n : Nat) : a.grownBy (w.drewN n) row := ⟨h.os, h.tape, h.output, h.size, h.block⟩

theorem grown_set (w : World) (c j : Nat) (v : Value) : w.grownBy (w.setCell ⟨c, j, none⟩ v) (some c) :=
  ⟨rfl, rfl, rfl, by simp [World.setCell], fun k _ hk => Below.heap_setCell w ⟨c, j, none⟩ v k (fun e => hk (by simp [e]))⟩

theorem RdB.grown {w w' : World} {c : Nat} {a : Option Addr} {bs : List Int} (h : RdB w c a bs) (hg : w.grownBy w' (some c)) : RdB w' c a bs := by
  refine ⟨h.1, ?_⟩
  rcases h.2 with h | ⟨b, off, rfl, hlt, hne, hc⟩
  · exact .inl h
  · refine .inr ⟨b, off, rfl, Nat.lt_of_lt_of_le hlt hg.size, hne, fun i hi => ?_⟩
    rw [← hc i hi]
    exact World.cell?_of_block (w := w) (hg.block b hlt (by simp [hne]))

theorem isInt_wrap (x : Int) : isInt (wrap64 x) := bounds_i64 (wrap64_wf x)

theorem Rd.grown {w w' : World} {c g o : Nat} {zs : List Int} (h : ∀ i, i < zs.length → w.cell? ⟨g, o + i, none⟩ = some (.int .i64 (zs[i]?.getD 0))) (hlt : g < w.heap.size) (hne : g ≠ c) (hg : w.grownBy w' (some c)) :
    ∀ i, i < zs.length → w'.cell? ⟨g, o + i, none⟩ = some (.int .i64 (zs[i]?.getD 0)) := by
  intro i hi
  rw [← h i hi]
  exact World.cell?_of_block (w := w) (hg.block g hlt (by simp [hne]))

theorem cell_pick {w : World} {g k : Nat} {zs : List Int} (hk : k < zs.length) (h : ∀ i, i < zs.length → w.cell? ⟨g, 0 + i, none⟩ = some (.int .i64 (zs[i]?.getD 0))) : w.cell? ⟨g, k, none⟩ = some (.int .i64 zs[k]) := by
  have := h k hk
  rw [show 0 + k = k by omega] at this
  rw [this]; simp [hk]

theorem RdB.below {w w' : World} {c : Nat} {a : Option Addr} {bs : List Int} (h : RdB w c a bs) (hg : Below w.heap.size w w') : RdB w' c a bs := by
  refine ⟨h.1, ?_⟩
  rcases h.2 with h | ⟨b, off, rfl, hlt, hne, hc⟩
  · exact .inl h
  · exact .inr ⟨b, off, rfl, Nat.lt_of_lt_of_le hlt hg.size, hne, fun i hi => (hg.cell (p := ⟨b, off + i, none⟩) hlt).trans (hc i hi)⟩

theorem cur_new {T : TypeId} {w : World} {a : Option Addr} {bs : List Int} {cap : Nat} {h : Int} (hr : RdB w w.heap.size a bs) (hh : isInt h) :
    Cur T (w.alloc (.cells #[.slice a bs.length cap, .int .i64 0, .int .i64 h] T)) w.heap.size a bs cap :=
  ⟨hr.below ((Below.refl _ _).alloc (Nat.le_refl _) _), 0, h, Nat.zero_le _, hh, heap_alloc_new w _⟩

theorem Cur.below {T : TypeId} {w w' : World} {c : Nat} {a : Option Addr} {bs : List Int} {cap : Nat} (h : Cur T w c a bs cap) (hb : Below w.heap.size w w') : Cur T w' c a bs cap := by
  obtain ⟨hr, i, x, hi, hx, hk⟩ := h
  have hlt : c < w.heap.size := by
    rcases Nat.lt_or_ge c w.heap.size with h' | h'
    · exact h'
    · simp [Array.getElem?_eq_none h'] at hk
  exact ⟨hr.below hb, i, x, hi, hx, by rw [hb.block c hlt]; exact hk⟩

theorem Cur.lt {T : TypeId} {w : World} {c : Nat} {a : Option Addr} {bs : List Int} {cap : Nat} (h : Cur T w c a bs cap) : c < w.heap.size := by
  obtain ⟨hr, i, x, hi, hx, hk⟩ := h
  rcases Nat.lt_or_ge c w.heap.size with h' | h'
  · exact h'
  · simp [Array.getElem?_eq_none h'] at hk
theorem lit_cells (w : World) (zs : List Int) : ∀ i, i < zs.length → (w.alloc (.cells (intsD zs).toArray 3)).cell? ⟨w.heap.size, 0 + i, none⟩ = some (.int .i64 (zs[i]?.getD 0)) := by
  intro i hi
  rw [World.cell?_alloc_at _ _ _ _ rfl]
  simp [intsD, hi]
theorem lit_strs (w : World) (ss : List ByteArray) : ∀ i, i < ss.length → (w.alloc (.cells (ss.map Value.string).toArray 9)).cell? ⟨w.heap.size, i, none⟩ = some (.string (ss[i]?.getD ByteArray.empty)) := by
  intro i hi
  rw [World.cell?_alloc_at _ _ _ _ rfl]
  simp [hi]
theorem grown_below {w w' : World} {B c : Nat} (hg : w.grownBy w' (some c)) (hB : B ≤ w.heap.size) (hc : B ≤ c) : Below B w w' :=
  (Below.refl B w).grown hg hB (fun k hk => by cases hk; exact hc)
theorem grown_alloc {a w : World} {row : Option Nat} (h : a.grownBy w row) (o : Obj) : a.grownBy (w.alloc o) row :=
  ⟨h.os, h.tape, h.output, Nat.le_trans h.size (by simp), fun i hi hr => (Below.heap_alloc w o i (Nat.lt_of_lt_of_le hi h.size)).trans (h.block i hi hr)⟩
theorem grown_own {a w w' : World} {c g : Nat} (h : a.grownBy w (some c)) (k : w.grownBy w' (some g)) (hg : a.heap.size ≤ g) : a.grownBy w' (some c) :=
  ⟨k.os.trans h.os, k.tape.trans h.tape, k.output.trans h.output, Nat.le_trans h.size k.size, fun i hi hr => (k.block i (Nat.lt_of_lt_of_le hi h.size) (by simp; omega)).trans (h.block i hi hr)⟩
theorem Rd_new {w : World} {a : Option Addr} {bs : List Int} (hr : ∀ c, w.heap.size ≤ c → RdB w c a bs) : bs = [] ∨ ∀ x, a = some x → x.block < w.heap.size := by
  rcases (hr _ (Nat.le_refl _)).2 with h | ⟨b, off, rfl, hlt, _⟩
  · exact .inl h
  · exact .inr fun x hx => by cases hx; exact hlt
theorem codeOn {w w' : World} {a : Option Addr} {bs : List Int} (hr : ∀ c, w.heap.size ≤ c → RdB w c a bs) (hb : Below w.heap.size w w') : ∀ c, w'.heap.size ≤ c → RdB w' c a bs :=
  fun c hc => (hr c (Nat.le_trans hb.size hc)).below hb
theorem Cur.grown {T : TypeId} {w w' : World} {c g : Nat} {a : Option Addr} {bs : List Int} {cap : Nat} {B : Nat} (h : Cur T w c a bs cap) (hg : w.grownBy w' (some g)) (hc : c < B) (hB : B ≤ g) (hbs : bs = [] ∨ ∀ x, a = some x → x.block < B) : Cur T w' c a bs cap := by
  have hlt := h.lt
  obtain ⟨hr, i, x, hi, hx, hk⟩ := h
  refine ⟨⟨hr.1, ?_⟩, i, x, hi, hx, by rw [hg.block c hlt (by simp; omega)]; exact hk⟩
  rcases hr.2 with h | ⟨b, off, rfl, hlt, hne, hcs⟩
  · exact .inl h
  · rcases hbs with rfl | hbs
    · exact .inl rfl
    have hb := hbs _ rfl
    simp at hb
    refine .inr ⟨b, off, rfl, Nat.lt_of_lt_of_le hlt hg.size, hne, fun j hj => ?_⟩
    rw [← hcs j hj]
    exact World.cell?_of_block (w := w) (hg.block b hlt (by simp; omega))
end Go.Proofs.Ytcbafmohmoicnab

/- Contracts of the functions by which the laws draw their inputs from a code. Conditions: the code has at most 1048576 bytes. -/
namespace Go.Proofs.Ytcbafmohmoicnab
set_option maxRecDepth 100000
open Go.RowKit

end Go.Proofs.Ytcbafmohmoicnab

/- A drawn term: whatever the bytes, it owns its memory and is small; only the cursor has turned. Conditions: at most 1048576 bytes. -/
namespace Go.Proofs.Ytcbafmohmoicnab
set_option maxRecDepth 100000
open Go.RowKit

set_option maxHeartbeats 800000 in
theorem l3Var_any (v : Int) (w : World) : Calls Try.prog 81 #[.int .i64 v] w fun e w' => e = .returned (.agg #[.int .i64 (-1), .int .i64 v, .slice none 0 0]) ∧ Below w.heap.size w w' := by
  go_enter Try.func81, Try.ntmps81
  go_wp2
  exact bodyPost_ret (v := .agg #[.int .i64 (-1), .int .i64 v, .slice none 0 0]) (by simp [results, Try.results81, go_sem]) rfl ⟨rfl, (Below.refl _ _).alloc (Nat.le_refl _) _⟩

theorem stay_of_grown {w w' : World} {c : Nat} (h : w.grownBy w' (some c)) : Stay (fun k => k ≠ c) w w' := .grown h (fun k e => by cases e; simp)
end Go.Proofs.Ytcbafmohmoicnab

