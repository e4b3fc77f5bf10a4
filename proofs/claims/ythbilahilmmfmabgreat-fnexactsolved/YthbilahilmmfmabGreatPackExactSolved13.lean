/- What the proof of FnExactSolved stands on, part 13 of 13: each piece says what it proves and under which conditions. Conditions: as each piece says. -/
import Derived.Test.YthbilahilmmfmabGreatPackExactSolved12
/- Contracts of the laws' helpers on what is put for variables: it is copied, and owns its memory. Conditions: at most 549755813887 parts. -/
namespace Go.Proofs.YthbilahilmmfmabGreat
set_option maxRecDepth 100000
open Go.RowKit

theorem infoB : (Tryz.prog.info? 55).map (fun i => (i.zero, i.size, i.bytes)) = some (some (.agg #[.int .i64 0, .int .i64 0, .int .i64 0, .slice none 0 0]), 4, 48) := by kernel_rfl

/-- Four cells are written. -/
def set4 (W : World) (b o : Nat) (x y z v : Value) : World := (((W.setCell ⟨b, o, none⟩ x).setCell ⟨b, o + 1, none⟩ y).setCell ⟨b, o + 2, none⟩ z).setCell ⟨b, o + 3, none⟩ v
theorem set4_cells {u : World} {r o : Nat} {x y z v p q s t : Value} (h0 : u.cell? ⟨r, o, none⟩ = some p) (h1 : u.cell? ⟨r, o + 1, none⟩ = some q) (h2 : u.cell? ⟨r, o + 2, none⟩ = some s) (h3 : u.cell? ⟨r, o + 3, none⟩ = some t) :
    (set4 u r o x y z v).cell? ⟨r, o, none⟩ = some x ∧ (set4 u r o x y z v).cell? ⟨r, o + 1, none⟩ = some y ∧ (set4 u r o x y z v).cell? ⟨r, o + 2, none⟩ = some z ∧ (set4 u r o x y z v).cell? ⟨r, o + 3, none⟩ = some v := by
  have n : ∀ i j, i ≠ j → (⟨r, o + i, none⟩ : Addr) ≠ ⟨r, o + j, none⟩ := fun i j h e => by injection e with _ e2; omega
  have n0 : ∀ j, j ≠ 0 → (⟨r, o + j, none⟩ : Addr) ≠ ⟨r, o, none⟩ := fun j h e => by injection e with _ e2; omega
  have m0 : ∀ j, j ≠ 0 → (⟨r, o, none⟩ : Addr) ≠ ⟨r, o + j, none⟩ := fun j h e => by injection e with _ e2; omega
  unfold set4
  refine ⟨?_, ?_, ?_, ?_⟩
  · rw [World.cell?_setCell_other _ _ _ _ (n0 3 (by omega)), World.cell?_setCell_other _ _ _ _ (n0 2 (by omega)), World.cell?_setCell_other _ _ _ _ (n0 1 (by omega))]
    exact World.cell?_setCell_same _ _ _ h0
  · rw [World.cell?_setCell_other _ _ _ _ (n 3 1 (by omega)), World.cell?_setCell_other _ _ _ _ (n 2 1 (by omega))]
    exact World.cell?_setCell_same _ _ _ (by rw [World.cell?_setCell_other _ _ _ _ (m0 1 (by omega))]; exact h1)
  · rw [World.cell?_setCell_other _ _ _ _ (n 3 2 (by omega))]
    exact World.cell?_setCell_same _ _ _ (by rw [World.cell?_setCell_other _ _ _ _ (n 1 2 (by omega)), World.cell?_setCell_other _ _ _ _ (m0 2 (by omega))]; exact h2)
  · exact World.cell?_setCell_same _ _ _ (by rw [World.cell?_setCell_other _ _ _ _ (n 2 3 (by omega)), World.cell?_setCell_other _ _ _ _ (n 1 3 (by omega)), World.cell?_setCell_other _ _ _ _ (m0 3 (by omega))]; exact h3)
theorem set4_own {W : World} {b o : Nat} {x y z v : Value} {S : Nat → Prop} {a : Option Addr} {ts : List TermD} (h : OwnS W S a ts) (hn : ¬ S b) : OwnS (set4 W b o x y z v) S a ts :=
  (((h.setCell ⟨b, o, none⟩ hn x).setCell ⟨b, o + 1, none⟩ hn y).setCell ⟨b, o + 2, none⟩ hn z).setCell ⟨b, o + 3, none⟩ hn v
theorem set4_below {w W : World} {B b o : Nat} {x y z v : Value} (h : Below B w W) (hb : B ≤ b) : Below B w (set4 W b o x y z v) :=
  (((h.setCell (p := ⟨b, o, none⟩) hb x).setCell (p := ⟨b, o + 1, none⟩) hb y).setCell (p := ⟨b, o + 2, none⟩) hb z).setCell (p := ⟨b, o + 3, none⟩) hb v
theorem set4_size (W : World) (b o : Nat) (x y z v : Value) : (set4 W b o x y z v).heap.size = W.heap.size := by unfold set4; simp

set_option maxHeartbeats 1600000 in
theorem toBind_any (u : BindD) (a : Option Addr) (c hi : Nat) (w : World) (hp : partsT u.t ≤ 549755813888) (hr : RdK w hi a u.t.kids) (hhi : hi ≤ w.heap.size) :
    Calls Tryz.prog 22 #[.agg #[.int .i64 u.n, .int .i64 u.t.f, .int .i64 u.t.v, .slice a u.t.kids.length c]] w fun e w' => ∃ a', e = .returned (.agg #[.int .i64 u.n, .int .i64 u.t.f, .int .i64 u.t.v, .slice a' u.t.kids.length u.t.kids.length]) ∧ OwnS w' (fun x => w.heap.size ≤ x ∧ x < w'.heap.size) a' u.t.kids ∧ Below w.heap.size w w' := by
  obtain ⟨W, hW⟩ : ∃ W, W = (((w.alloc (.cells #[.int .i64 u.n, .int .i64 u.t.f, .int .i64 u.t.v, .slice a u.t.kids.length c] 48)).alloc (.cells #[.int .i64 0, .int .i64 0, .int .i64 0, .slice none 0 0] 55)).alloc (.cells #[.int .i64 u.n, .int .i64 0, .int .i64 0, .slice none 0 0] 55)) := ⟨_, rfl⟩
  have hWs : w.heap.size + 1 + 1 < W.heap.size := by rw [hW]; simp
  have h0 : Below w.heap.size w W := by rw [hW]; exact (((Below.refl _ _).alloc (Nat.le_refl _) _).alloc (by simp) _).alloc (by simp; omega) _
  have C := toTerm_any u.t a c hi W hp (hr.on (h0.mono hhi)) (Nat.le_trans hhi h0.size)
  have x0 : W.cell? ⟨w.heap.size + 1, 0, none⟩ = some (.int .i64 0) := by rw [hW]; simp [go_sem]
  have x1 : W.cell? ⟨w.heap.size + 1, 1, none⟩ = some (.int .i64 0) := by rw [hW]; simp [go_sem]
  have x2 : W.cell? ⟨w.heap.size + 1, 2, none⟩ = some (.int .i64 0) := by rw [hW]; simp [go_sem]
  have x3 : W.cell? ⟨w.heap.size + 1, 3, none⟩ = some (.slice none 0 0) := by rw [hW]; simp [go_sem]
  have y0 : W.cell? ⟨w.heap.size + 1 + 1, 0, none⟩ = some (.int .i64 u.n) := by rw [hW]; simp [go_sem]
  have y1 : W.cell? ⟨w.heap.size + 1 + 1, 1, none⟩ = some (.int .i64 0) := by rw [hW]; simp [go_sem]
  have y2 : W.cell? ⟨w.heap.size + 1 + 1, 2, none⟩ = some (.int .i64 0) := by rw [hW]; simp [go_sem]
  have y3 : W.cell? ⟨w.heap.size + 1 + 1, 3, none⟩ = some (.slice none 0 0) := by rw [hW]; simp [go_sem]
  have fz : ∀ j, W.frozen? ⟨w.heap.size + 1, j, none⟩ = false := by intro j; rw [hW]; simp [go_sem]
  have gz : ∀ j, W.frozen? ⟨w.heap.size + 1 + 1, j, none⟩ = false := by intro j; rw [hW]; simp [go_sem]
  have HW : Hid _ := hW
  clear hW hr
  go_enter Tryz.func22, Tryz.ntmps22
  go_wp2_with (go_at_call 10; (rw [← HW.out]; refine C.mono ?_; rintro e w1 ⟨a1, rfl, ho1, hb1⟩; have a0 := keepC hb1 x0; have a1' := keepC hb1 x1; have a2 := keepC hb1 x2; have a3 := keepC hb1 x3; have b0 := keepC hb1 y0; have b1 := keepC hb1 y1; have b2 := keepC hb1 y2; have b3 := keepC hb1 y3; have fa : ∀ j, w1.frozen? ⟨w.heap.size + 1, j, none⟩ = false := (fun j => (hb1.frozen (p := ⟨w.heap.size + 1, j, none⟩) (by simp only; omega)).trans (fz j)); have fb : ∀ j, w1.frozen? ⟨w.heap.size + 1 + 1, j, none⟩ = false := (fun j => (hb1.frozen (p := ⟨w.heap.size + 1 + 1, j, none⟩) (by simp only; omega)).trans (gz j)); have hz1 := hb1.size; clear x0 x1 x2 x3 y0 y1 y2 y3 fz gz C HW))
  obtain ⟨X, hX⟩ : ∃ X, X = ((w1.setCell ⟨w.heap.size + 1 + 1, 1, none⟩ (.int .i64 u.t.f)).setCell ⟨w.heap.size + 1 + 1, 2, none⟩ (.int .i64 u.t.v)).setCell ⟨w.heap.size + 1 + 1, 3, none⟩ (.slice a1 u.t.kids.length u.t.kids.length) := ⟨_, rfl⟩
  have other : ∀ j v, w1.cell? ⟨w.heap.size + 1, j, none⟩ = some v → X.cell? ⟨w.heap.size + 1, j, none⟩ = some v := fun j v h => by
    have e : ∀ i, (⟨w.heap.size + 1 + 1, i, none⟩ : Addr) ≠ ⟨w.heap.size + 1, j, none⟩ := fun i q => by injection q with q1; omega
    rw [hX, World.cell?_setCell_other _ _ _ _ (e 3), World.cell?_setCell_other _ _ _ _ (e 2), World.cell?_setCell_other _ _ _ _ (e 1)]; exact h
  have hn2 : ¬ (W.heap.size ≤ w.heap.size + 1 + 1 ∧ w.heap.size + 1 + 1 < w1.heap.size) := by omega
  have hn1 : ¬ (W.heap.size ≤ w.heap.size + 1 ∧ w.heap.size + 1 < w1.heap.size) := by omega
  have oX : OwnS X (fun x => W.heap.size ≤ x ∧ x < w1.heap.size) a1 u.t.kids := by rw [hX]; exact ((ho1.setCell ⟨w.heap.size + 1 + 1, 1, none⟩ hn2 _).setCell ⟨w.heap.size + 1 + 1, 2, none⟩ hn2 _).setCell ⟨w.heap.size + 1 + 1, 3, none⟩ hn2 _
  have hB1 := h0.trans (hb1.mono h0.size)
  have bX : Below w.heap.size w X := by rw [hX]; exact ((hB1.setCell (p := ⟨w.heap.size + 1 + 1, 1, none⟩) (by simp only; omega) _).setCell (p := ⟨w.heap.size + 1 + 1, 2, none⟩) (by simp only; omega) _).setCell (p := ⟨w.heap.size + 1 + 1, 3, none⟩) (by simp only; omega) _
  have zX : X.heap.size = w1.heap.size := by rw [hX]; simp
  rw [← hX]
  obtain ⟨q0, q1, q2, q3⟩ := set4_cells (u := X) (r := w.heap.size + 1) (o := 0) (x := .int .i64 u.n) (y := .int .i64 u.t.f) (z := .int .i64 u.t.v) (v := .slice a1 u.t.kids.length u.t.kids.length) (other 0 _ a0) (other 1 _ a1') (other 2 _ a2) (other 3 _ a3)
  have O := set4_own (b := w.heap.size + 1) (o := 0) (x := .int .i64 u.n) (y := .int .i64 u.t.f) (z := .int .i64 u.t.v) (v := .slice a1 u.t.kids.length u.t.kids.length) oX hn1
  have Bf := set4_below (b := w.heap.size + 1) (o := 0) (x := .int .i64 u.n) (y := .int .i64 u.t.f) (z := .int .i64 u.t.v) (v := .slice a1 u.t.kids.length u.t.kids.length) bX (by omega)
  have Zf := set4_size X (w.heap.size + 1) 0 (.int .i64 u.n) (.int .i64 u.t.f) (.int .i64 u.t.v) (.slice a1 u.t.kids.length u.t.kids.length)
  unfold set4 at q0 q1 q2 q3 O Bf Zf
  simp only [Nat.zero_add] at q0 q1 q2 q3 O Bf Zf
  refine bodyPost_ret (v := .agg #[.int .i64 u.n, .int .i64 u.t.f, .int .i64 u.t.v, .slice a1 u.t.kids.length u.t.kids.length]) (by simp [results, Tryz.results22, go_sem, q0, q1, q2, q3]) rfl ⟨a1, rfl, O.mono (fun x hx => ⟨by omega, by rw [Zf, zX]; exact hx.2⟩), Bf⟩

/-- What lies in memory when the first k Binds are copied. -/
structure BSt (w wr : World) (us : List BindD) (k : Nat) (A : Nat → Option Addr) (L : Nat → Nat) (xs : List Value) : Prop where
  row : wr.ownsRow w.heap.size 55 4 (.slice (some ⟨w.heap.size, 0, none⟩) us.length us.length) us.length xs
  cel : ∀ i, (h : i < us.length) → i < k → xs[i * 4]? = some (.int .i64 us[i].n) ∧ xs[i * 4 + 1]? = some (.int .i64 us[i].t.f) ∧ xs[i * 4 + 2]? = some (.int .i64 us[i].t.v) ∧ xs[i * 4 + 3]? = some (.slice (A i) us[i].t.kids.length us[i].t.kids.length)
  low : w.heap.size < L 0
  mono : ∀ i, i < k → L i ≤ L (i + 1)
  top : L k ≤ wr.heap.size
  kid : ∀ i, (h : i < us.length) → i < k → OwnS wr (fun x => L i ≤ x ∧ x < L (i + 1)) (A i) us[i].t.kids
  below : Below w.heap.size w wr
theorem BSt.le {w wr : World} {us : List BindD} {k : Nat} {A : Nat → Option Addr} {L : Nat → Nat} {xs : List Value} (h : BSt w wr us k A L xs) : ∀ i j, i ≤ j → j ≤ k → L i ≤ L j := by
  intro i j
  induction j with
  | zero => intro h1 _; have : i = 0 := by omega
            subst this; exact Nat.le_refl _
  | succ j ih =>
    intro h1 h2
    by_cases e : i = j + 1
    · subst e; exact Nat.le_refl _
    · exact Nat.le_trans (ih (by omega) (by omega)) (h.mono j (by omega))
theorem BSt.done {w wr : World} {us : List BindD} {A : Nat → Option Addr} {L : Nat → Nat} {xs : List Value} (h : BSt w wr us us.length A L xs) (hl : us.length ≤ 9223372036854775807) (hz : ∀ i, (h : i < us.length) → isW us[i].n ∧ isW us[i].t.f ∧ isW us[i].t.v) :
    OwnU wr (fun x => w.heap.size ≤ x ∧ x < wr.heap.size) (some ⟨w.heap.size, 0, none⟩) us := by
  have hlt := (h.row.lt _ rfl).2
  have hx := h.row.1
  refine .row _ w.heap.size 0 us A (fun i => (us[i]?.getD default).t.kids.length) (fun i x => L i ≤ x ∧ x < L (i + 1)) ⟨Nat.le_refl _, hlt⟩ hlt ⟨hl, fun i hi => by simp [hi]⟩ hz (fun i hi => ?_) (fun j => h.row.frozenAt j) (fun i x hi hx => ?_) (fun i j x hi hj hne hx hy => ?_) (fun i hi => h.kid i hi hi)
  · obtain ⟨c0, c1, c2, c3⟩ := h.cel i hi hi
    simp only [Nat.zero_add]
    exact ⟨(h.row.cellAt _ (by omega)).trans c0, (h.row.cellAt _ (by omega)).trans c1, (h.row.cellAt _ (by omega)).trans c2, (h.row.cellAt _ (by omega)).trans (by simpa [hi] using c3)⟩
  · have h1 := h.le 0 i (by omega) (by omega)
    have h2 := h.le (i + 1) us.length (by omega) (Nat.le_refl _)
    have h3 := h.low
    have h4 := h.top
    exact ⟨⟨by omega, by omega⟩, by omega⟩
  · rcases Nat.lt_or_gt_of_ne hne with hh | hh
    · have := h.le (i + 1) j (by omega) (by omega)
      omega
    · have := h.le (j + 1) i (by omega) (by omega)
      omega
theorem BSt.step {w wr w1 : World} {us : List BindD} {k : Nat} {A : Nat → Option Addr} {L : Nat → Nat} {xs : List Value} (h : BSt w wr us k A L xs) (hk : k < us.length) {a' : Option Addr} (ho : OwnS w1 (fun x => wr.heap.size ≤ x ∧ x < w1.heap.size) a' us[k].t.kids) (hb : Below wr.heap.size wr w1) :
    ∃ xs', BSt w (set4 w1 w.heap.size (k * 4) (.int .i64 us[k].n) (.int .i64 us[k].t.f) (.int .i64 us[k].t.v) (.slice a' us[k].t.kids.length us[k].t.kids.length)) us (k + 1) (fun i => if i = k then a' else A i) (fun i => if i ≤ k then L i else w1.heap.size) xs' := by
  have h3 := h.low
  have h4 := h.top
  have h5 := hb.size
  have hle := h.le
  have hxl := h.row.1
  have r0 := (own_on h.row hb).stored (k * 4) (.int .i64 us[k].n)
  have r1 := r0.1.stored (k * 4 + 1) (.int .i64 us[k].t.f)
  have r2 := r1.1.stored (k * 4 + 2) (.int .i64 us[k].t.v)
  have r3 := r2.1.stored (k * 4 + 3) (.slice a' us[k].t.kids.length us[k].t.kids.length)
  refine ⟨_, r3.1, fun i hi hik => ?_, ?_, fun i hi => ?_, ?_, fun i hi hik => ?_, set4_below (h.below.trans (hb.mono h.below.size)) (Nat.le_refl _)⟩
  · by_cases e : i = k
    · subst e
      simp only [if_true]
      refine ⟨?_, ?_, ?_, ?_⟩ <;> simp [show i * 4 < xs.length by omega, show i * 4 + 1 < xs.length by omega, show i * 4 + 2 < xs.length by omega, show i * 4 + 3 < xs.length by omega]
    · simp only [e, if_false]
      obtain ⟨c0, c1, c2, c3⟩ := h.cel i hi (by omega)
      refine ⟨?_, ?_, ?_, ?_⟩
      · rw [List.getElem?_set_ne (by omega), List.getElem?_set_ne (by omega), List.getElem?_set_ne (by omega), List.getElem?_set_ne (by omega)]; exact c0
      · rw [List.getElem?_set_ne (by omega), List.getElem?_set_ne (by omega), List.getElem?_set_ne (by omega), List.getElem?_set_ne (by omega)]; exact c1
      · rw [List.getElem?_set_ne (by omega), List.getElem?_set_ne (by omega), List.getElem?_set_ne (by omega), List.getElem?_set_ne (by omega)]; exact c2
      · rw [List.getElem?_set_ne (by omega), List.getElem?_set_ne (by omega), List.getElem?_set_ne (by omega), List.getElem?_set_ne (by omega)]; exact c3
  · simp only [Nat.zero_le, if_true]; exact h3
  · by_cases e : i = k
    · subst e
      simp only [Nat.le_refl, if_true, show ¬ i + 1 ≤ i by omega, if_false]; omega
    · simp only [show i ≤ k by omega, show i + 1 ≤ k by omega, if_true]; exact h.mono i (by omega)
  · rw [set4_size]; simp only [show ¬ k + 1 ≤ k by omega, if_false]; exact Nat.le_refl _
  · have h0i := hle 0 i (by omega) (by omega)
    by_cases e : i = k
    · subst e
      simp only [Nat.le_refl, if_true, show ¬ i + 1 ≤ i by omega, if_false]
      exact set4_own (ho.mono (S' := fun x => L i ≤ x ∧ x < w1.heap.size) (fun x hx => ⟨by omega, hx.2⟩)) (by omega)
    · simp only [show i ≤ k by omega, show i + 1 ≤ k by omega, if_true, e, if_false]
      have h6 := hle (i + 1) k (by omega) (Nat.le_refl _)
      exact set4_own ((h.kid i hi (by omega)).frame (w' := w1) (fun x hx => hb.block x (by omega)) hb.size) (by omega)

set_option maxHeartbeats 1600000 in
theorem toBindS_any (us : List BindD) (a : Option Addr) (c hi : Nat) (w : World) (hp : partsU us ≤ 549755813887) (hr : RdU w hi a us) (hhi : hi ≤ w.heap.size) :
    Calls Tryz.prog 9 #[.slice a us.length c] w fun e w' => e = .returned (.slice (some ⟨w.heap.size, 0, none⟩) us.length us.length) ∧ OwnU w' (fun x => w.heap.size ≤ x ∧ x < w'.heap.size) (some ⟨w.heap.size, 0, none⟩) us ∧ Below w.heap.size w w' := by
  obtain ⟨i0, hi0, hz0, hz1, hz2⟩ := info_parts infoB
  have hlen : us.length ≤ 549755813888 := by unfold partsU at hp; omega
  have HZ : Hid (∀ i, (h : i < us.length) → isW us[i].n ∧ isW us[i].t.f ∧ isW us[i].t.v) := fun i h => by obtain ⟨_, _, _, _, _, _, _, _, _, _, _, _, q⟩ := hr.get h; exact q
  have HR : Hid _ := hr
  clear hr
  go_enter Tryz.func9, Tryz.ntmps9
  go_wp2_with (first
    | (at_make; refine wpList_make_full _ rfl _ _ 33 rfl w.heap.size 55 i0 _ 4 Tryz.underlying33 hi0 hz0 hz1 _ _ _ _ us.length rfl rfl rfl rfl (by rw [hz2]; omega) (by unfold maxLen; omega) (Nat.le_refl _) ?_; intro w1 hown hgrow))
  have hlt1 : w.heap.size < w1.heap.size := (hown.lt _ rfl).2
  have S0 : ∃ xs, BSt w w1 us 0 (fun _ => none) (fun _ => w1.heap.size) xs := ⟨_, hown, fun i _ hi => absurd hi (by omega), hlt1, fun i hi => absurd hi (by omega), Nat.le_refl _, fun i _ hi => absurd hi (by omega), (Below.refl _ _).grown hgrow (Nat.le_refl _) (by simp)⟩
  clear hown hgrow hlt1
  obtain ⟨xs0, S0⟩ := S0
  go_loopw [4] (fun i wr => ∃ (k : Nat) (A : Nat → Option Addr) (L : Nat → Nat) (xs : List Value), k ≤ us.length ∧ i = .int .i64 k ∧ BSt w wr us k A L xs) (fun i _ => us.length - (intOf i).toNat)
  case atStart => exact ⟨0, _, _, _, Nat.zero_le _, rfl, S0⟩
  case round =>
    obtain ⟨k, A, L, xs, hk, rfl, S⟩ := hrel
    clear S0
    by_cases hk' : k < us.length
    · obtain ⟨b, off, a', c', rfl, hlt, d0, d1, d2, d3, hc', hkr, hz⟩ := RdU.get (HR.out.on (S.below.mono hhi)) hk'
      have hpg := partsU_get hk'
      have hpt := partsT_eq us[k].t
      have hki : (k : Int) < (us.length : Int) := by omega
      have hki0 : (0 : Int) ≤ (k : Int) := by omega
      have hwr := Nat.le_trans hhi S.below.size
      have T := toBind_any us[k] a' c' hi wr (by omega) hkr hwr
      have hxl := S.row.1
      clear hkr hpt hz hc'
      go_wp2_with (go_at_call 22; refine T.mono ?_; rintro e w2 ⟨a2, rfl, ho, hb⟩; clear T; have S1 := S.step hk' ho hb; have hown2 := own_on S.row hb; obtain ⟨v0, e0⟩ : ∃ v, w2.cell? ⟨w.heap.size, k * 4, none⟩ = some v := ⟨_, (hown2.cellAt _ (by omega)).trans (List.getElem?_eq_getElem (by omega))⟩; obtain ⟨v1, e1⟩ : ∃ v, w2.cell? ⟨w.heap.size, k * 4 + 1, none⟩ = some v := ⟨_, (hown2.cellAt _ (by omega)).trans (List.getElem?_eq_getElem (by omega))⟩; obtain ⟨v2, e2⟩ : ∃ v, w2.cell? ⟨w.heap.size, k * 4 + 2, none⟩ = some v := ⟨_, (hown2.cellAt _ (by omega)).trans (List.getElem?_eq_getElem (by omega))⟩; obtain ⟨v3, e3⟩ : ∃ v, w2.cell? ⟨w.heap.size, k * 4 + 3, none⟩ = some v := ⟨_, (hown2.cellAt _ (by omega)).trans (List.getElem?_eq_getElem (by omega))⟩; have f0 := hown2.frozenAt (k * 4); have f1 := hown2.frozenAt (k * 4 + 1); have f2 := hown2.frozenAt (k * 4 + 2); have f3 := hown2.frozenAt (k * 4 + 3); clear hown2 S ho hb d0 d1 d2 d3)
      obtain ⟨xs1, S1⟩ := S1
      unfold set4 at S1
      go_roundw
      case rel => exact ⟨k + 1, _, _, _, by omega, by go_num, S1⟩
      case measure => simp [intOf]; omega
    · have e : k = us.length := by omega
      have S1 : BSt w wr us us.length A L xs := e ▸ S
      clear e S
      go_wp2_with fail
      go_ret
      exact ⟨rfl, S1.done (by omega) HZ.out, S1.below⟩
end Go.Proofs.YthbilahilmmfmabGreat

