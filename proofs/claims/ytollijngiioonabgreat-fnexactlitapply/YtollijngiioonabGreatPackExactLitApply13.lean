/- What the proof of FnExactLitApply stands on, part 13 of 13: each piece says what it proves and under which conditions. Conditions: as each piece says. -/
import Derived.Test.YtollijngiioonabGreatPackExactLitApply12
import Derived.Test.YtollijngiioonabGreatProg
import Derived.Deep.Slices
/- Contracts of the laws' helpers on what is put for variables: it is copied, and owns its memory. Conditions: at most 549755813887 parts. -/
namespace Go.Proofs.YtollijngiioonabGreat
set_option maxRecDepth 100000
open Go.RowKit

theorem infoB : (Tryz.prog.info? 62).map (fun i => (i.zero, i.size, i.bytes)) = some (some (.agg #[.int .i64 0, .int .i64 0, .int .i64 0, .slice none 0 0]), 4, 48) := by kernel_rfl

/-- Four cells are written. -/
def set4 (W : World) (b o : Nat) (x y z v : Value) : World := (((W.setCell ⟨b, o, none⟩ x).setCell ⟨b, o + 1, none⟩ y).setCell ⟨b, o + 2, none⟩ z).setCell ⟨b, o + 3, none⟩ v
theorem set4_cells {u : World} {r o : Nat} {x y z v p q s t : Value} (h0 : u.cell? ⟨r, o, none⟩ = some p) (h1 : u.cell? ⟨r, o + 1, none⟩ = some q) (h2 : u.cell? ⟨r, o + 2, none⟩ = some s) (h3 : u.cell? ⟨r, o + 3, none⟩ = some t) :
    (set4 u r o x y z v).cell? ⟨r, o, none⟩ = some x ∧ (set4 u r o x y z v).cell? ⟨r, o + 1, none⟩ = some y ∧ (set4 u r o x y z v).cell? ⟨r, o + 2, none⟩ = some z ∧ (set4 u r o x y z v).cell? ⟨r, o + 3, none⟩ = some v := by
  have n : ∀ i j, i ≠ j → (⟨r, o + i, none⟩ : Addr) ≠ ⟨r, o + j, none⟩ := fun i j h e => by injection e with _ e2; omega
  have n0 : ∀ j, j ≠ 0 → (⟨r, o + j, none⟩ : Addr) ≠ ⟨r, o, none⟩ := fun j h e => by injection e with _ e2; omega
  have m0 : ∀ j, j ≠ 0 → (⟨r, o, none⟩ : Addr) ≠ ⟨r, o + j, none⟩ := fun j h e => by injection e with _ e2; omega
  unfold set4
  refine ⟨?_, ?_, ?_, ?_⟩
  · rw [World.cell?_setCell_other _ _ _ _ (n0 3 (by omega)), World.cell?_setCell_other _ _ _ _ (n0 2 (by omega)), World.cell?_setCell_other _ _ _ _ (n0 1 (by omega))]
    exact World.cell?_setCell_same _ _ _ h0
  · rw [World.cell?_setCell_other _ _ _ _ (n 3 1 (by omega)), World.cell?_setCell_other _ _ _ _ (n 2 1 (by omega))]
    exact World.cell?_setCell_same _ _ _ (by rw [World.cell?_setCell_other _ _ _ _ (m0 1 (by omega))]; exact h1)
  · rw [World.cell?_setCell_other _ _ _ _ (n 3 2 (by omega))]
    exact World.cell?_setCell_same _ _ _ (by rw [World.cell?_setCell_other _ _ _ _ (n 1 2 (by omega)), World.cell?_setCell_other _ _ _ _ (m0 2 (by omega))]; exact h2)
  · exact World.cell?_setCell_same _ _ _ (by rw [World.cell?_setCell_other _ _ _ _ (n 2 3 (by omega)), World.cell?_setCell_other _ _ _ _ (n 1 3 (by omega)), World.cell?_setCell_other _ _ _ _ (m0 3 (by omega))]; exact h3)
theorem set4_own {W : World} {b o : Nat} {x y z v : Value} {S : Nat → Prop} {a : Option Addr} {ts : List TermD} (h : OwnS W S a ts) (hn : ¬ S b) : OwnS (set4 W b o x y z v) S a ts :=
  (((h.setCell ⟨b, o, none⟩ hn x).setCell ⟨b, o + 1, none⟩ hn y).setCell ⟨b, o + 2, none⟩ hn z).setCell ⟨b, o + 3, none⟩ hn v
theorem set4_below {w W : World} {B b o : Nat} {x y z v : Value} (h : Below B w W) (hb : B ≤ b) : Below B w (set4 W b o x y z v) :=
  (((h.setCell (p := ⟨b, o, none⟩) hb x).setCell (p := ⟨b, o + 1, none⟩) hb y).setCell (p := ⟨b, o + 2, none⟩) hb z).setCell (p := ⟨b, o + 3, none⟩) hb v
theorem set4_size (W : World) (b o : Nat) (x y z v : Value) : (set4 W b o x y z v).heap.size = W.heap.size := by unfold set4; simp

set_option maxHeartbeats 1600000 in
theorem toBind_any (u : BindD) (a : Option Addr) (c hi : Nat) (w : World) (hp : partsT u.t ≤ 549755813888) (hr : RdK w hi a u.t.kids) (hhi : hi ≤ w.heap.size) :
    Calls Tryz.prog 25 #[.agg #[.int .i64 u.n, .int .i64 u.t.f, .int .i64 u.t.v, .slice a u.t.kids.length c]] w fun e w' => ∃ a', e = .returned (.agg #[.int .i64 u.n, .int .i64 u.t.f, .int .i64 u.t.v, .slice a' u.t.kids.length u.t.kids.length]) ∧ OwnS w' (fun x => w.heap.size ≤ x ∧ x < w'.heap.size) a' u.t.kids ∧ Below w.heap.size w w' := by
  obtain ⟨W, hW⟩ : ∃ W, W = (((w.alloc (.cells #[.int .i64 u.n, .int .i64 u.t.f, .int .i64 u.t.v, .slice a u.t.kids.length c] 55)).alloc (.cells #[.int .i64 0, .int .i64 0, .int .i64 0, .slice none 0 0] 62)).alloc (.cells #[.int .i64 u.n, .int .i64 0, .int .i64 0, .slice none 0 0] 62)) := ⟨_, rfl⟩
  have hWs : w.heap.size + 1 + 1 < W.heap.size := by rw [hW]; simp
  have h0 : Below w.heap.size w W := by rw [hW]; exact (((Below.refl _ _).alloc (Nat.le_refl _) _).alloc (by simp) _).alloc (by simp; omega) _
  have C := toTerm_any u.t a c hi W hp (hr.on (h0.mono hhi)) (Nat.le_trans hhi h0.size)
  have x0 : W.cell? ⟨w.heap.size + 1, 0, none⟩ = some (.int .i64 0) := by rw [hW]; simp [go_sem]
  have x1 : W.cell? ⟨w.heap.size + 1, 1, none⟩ = some (.int .i64 0) := by rw [hW]; simp [go_sem]
  have x2 : W.cell? ⟨w.heap.size + 1, 2, none⟩ = some (.int .i64 0) := by rw [hW]; simp [go_sem]
  have x3 : W.cell? ⟨w.heap.size + 1, 3, none⟩ = some (.slice none 0 0) := by rw [hW]; simp [go_sem]
  have y0 : W.cell? ⟨w.heap.size + 1 + 1, 0, none⟩ = some (.int .i64 u.n) := by rw [hW]; simp [go_sem]
  have y1 : W.cell? ⟨w.heap.size + 1 + 1, 1, none⟩ = some (.int .i64 0) := by rw [hW]; simp [go_sem]
  have y2 : W.cell? ⟨w.heap.size + 1 + 1, 2, none⟩ = some (.int .i64 0) := by rw [hW]; simp [go_sem]
  have y3 : W.cell? ⟨w.heap.size + 1 + 1, 3, none⟩ = some (.slice none 0 0) := by rw [hW]; simp [go_sem]
  have fz : ∀ j, W.frozen? ⟨w.heap.size + 1, j, none⟩ = false := by intro j; rw [hW]; simp [go_sem]
  have gz : ∀ j, W.frozen? ⟨w.heap.size + 1 + 1, j, none⟩ = false := by intro j; rw [hW]; simp [go_sem]
  have HW : Hid _ := hW
  clear hW hr
  go_enter Tryz.func25, Tryz.ntmps25
  go_wp2_with (go_at_call 26; (rw [← HW.out]; refine C.mono ?_; rintro e w1 ⟨a1, rfl, ho1, hb1⟩; have a0 := keepC hb1 x0; have a1' := keepC hb1 x1; have a2 := keepC hb1 x2; have a3 := keepC hb1 x3; have b0 := keepC hb1 y0; have b1 := keepC hb1 y1; have b2 := keepC hb1 y2; have b3 := keepC hb1 y3; have fa : ∀ j, w1.frozen? ⟨w.heap.size + 1, j, none⟩ = false := (fun j => (hb1.frozen (p := ⟨w.heap.size + 1, j, none⟩) (by simp only; omega)).trans (fz j)); have fb : ∀ j, w1.frozen? ⟨w.heap.size + 1 + 1, j, none⟩ = false := (fun j => (hb1.frozen (p := ⟨w.heap.size + 1 + 1, j, none⟩) (by simp only; omega)).trans (gz j)); have hz1 := hb1.size; clear x0 x1 x2 x3 y0 y1 y2 y3 fz gz C HW))
  obtain ⟨X, hX⟩ : ∃ X, X = ((w1.setCell ⟨w.heap.size + 1 + 1, 1, none⟩ (.int .i64 u.t.f)).setCell ⟨w.heap.size + 1 + 1, 2, none⟩ (.int .i64 u.t.v)).setCell ⟨w.heap.size + 1 + 1, 3, none⟩ (.slice a1 u.t.kids.length u.t.kids.length) := ⟨_, rfl⟩
  have other : ∀ j v, w1.cell? ⟨w.heap.size + 1, j, none⟩ = some v → X.cell? ⟨w.heap.size + 1, j, none⟩ = some v := fun j v h => by
    have e : ∀ i, (⟨w.heap.size + 1 + 1, i, none⟩ : Addr) ≠ ⟨w.heap.size + 1, j, none⟩ := fun i q => by injection q with q1; omega
    rw [hX, World.cell?_setCell_other _ _ _ _ (e 3), World.cell?_setCell_other _ _ _ _ (e 2), World.cell?_setCell_other _ _ _ _ (e 1)]; exact h
  have hn2 : ¬ (W.heap.size ≤ w.heap.size + 1 + 1 ∧ w.heap.size + 1 + 1 < w1.heap.size) := by omega
  have hn1 : ¬ (W.heap.size ≤ w.heap.size + 1 ∧ w.heap.size + 1 < w1.heap.size) := by omega
  have oX : OwnS X (fun x => W.heap.size ≤ x ∧ x < w1.heap.size) a1 u.t.kids := by rw [hX]; exact ((ho1.setCell ⟨w.heap.size + 1 + 1, 1, none⟩ hn2 _).setCell ⟨w.heap.size + 1 + 1, 2, none⟩ hn2 _).setCell ⟨w.heap.size + 1 + 1, 3, none⟩ hn2 _
  have hB1 := h0.trans (hb1.mono h0.size)
  have bX : Below w.heap.size w X := by rw [hX]; exact ((hB1.setCell (p := ⟨w.heap.size + 1 + 1, 1, none⟩) (by simp only; omega) _).setCell (p := ⟨w.heap.size + 1 + 1, 2, none⟩) (by simp only; omega) _).setCell (p := ⟨w.heap.size + 1 + 1, 3, none⟩) (by simp only; omega) _
  have zX : X.heap.size = w1.heap.size := by rw [hX]; simp
  rw [← hX]
  obtain ⟨q0, q1, q2, q3⟩ := set4_cells (u := X) (r := w.heap.size + 1) (o := 0) (x := .int .i64 u.n) (y := .int .i64 u.t.f) (z := .int .i64 u.t.v) (v := .slice a1 u.t.kids.length u.t.kids.length) (other 0 _ a0) (other 1 _ a1') (other 2 _ a2) (other 3 _ a3)
  have O := set4_own (b := w.heap.size + 1) (o := 0) (x := .int .i64 u.n) (y := .int .i64 u.t.f) (z := .int .i64 u.t.v) (v := .slice a1 u.t.kids.length u.t.kids.length) oX hn1
  have Bf := set4_below (b := w.heap.size + 1) (o := 0) (x := .int .i64 u.n) (y := .int .i64 u.t.f) (z := .int .i64 u.t.v) (v := .slice a1 u.t.kids.length u.t.kids.length) bX (by omega)
  have Zf := set4_size X (w.heap.size + 1) 0 (.int .i64 u.n) (.int .i64 u.t.f) (.int .i64 u.t.v) (.slice a1 u.t.kids.length u.t.kids.length)
  unfold set4 at q0 q1 q2 q3 O Bf Zf
  simp only [Nat.zero_add] at q0 q1 q2 q3 O Bf Zf
  refine bodyPost_ret (v := .agg #[.int .i64 u.n, .int .i64 u.t.f, .int .i64 u.t.v, .slice a1 u.t.kids.length u.t.kids.length]) (by simp [results, Tryz.results25, go_sem, q0, q1, q2, q3]) rfl ⟨a1, rfl, O.mono (fun x hx => ⟨by omega, by rw [Zf, zX]; exact hx.2⟩), Bf⟩

/-- What lies in memory when the first k Binds are copied. -/
structure BSt (w wr : World) (us : List BindD) (k : Nat) (A : Nat → Option Addr) (L : Nat → Nat) (xs : List Value) : Prop where
  row : wr.ownsRow w.heap.size 62 4 (.slice (some ⟨w.heap.size, 0, none⟩) us.length us.length) us.length xs
  cel : ∀ i, (h : i < us.length) → i < k → xs[i * 4]? = some (.int .i64 us[i].n) ∧ xs[i * 4 + 1]? = some (.int .i64 us[i].t.f) ∧ xs[i * 4 + 2]? = some (.int .i64 us[i].t.v) ∧ xs[i * 4 + 3]? = some (.slice (A i) us[i].t.kids.length us[i].t.kids.length)
  low : w.heap.size < L 0
  mono : ∀ i, i < k → L i ≤ L (i + 1)
  top : L k ≤ wr.heap.size
  kid : ∀ i, (h : i < us.length) → i < k → OwnS wr (fun x => L i ≤ x ∧ x < L (i + 1)) (A i) us[i].t.kids
  below : Below w.heap.size w wr
theorem BSt.le {w wr : World} {us : List BindD} {k : Nat} {A : Nat → Option Addr} {L : Nat → Nat} {xs : List Value} (h : BSt w wr us k A L xs) : ∀ i j, i ≤ j → j ≤ k → L i ≤ L j := by
  intro i j
  induction j with
  | zero => intro h1 _; have : i = 0 := by omega
            subst this; exact Nat.le_refl _
  | succ j ih =>
    intro h1 h2
    by_cases e : i = j + 1
    · subst e; exact Nat.le_refl _
    · exact Nat.le_trans (ih (by omega) (by omega)) (h.mono j (by omega))
theorem BSt.done {w wr : World} {us : List BindD} {A : Nat → Option Addr} {L : Nat → Nat} {xs : List Value} (h : BSt w wr us us.length A L xs) (hl : us.length ≤ 9223372036854775807) (hz : ∀ i, (h : i < us.length) → isW us[i].n ∧ isW us[i].t.f ∧ isW us[i].t.v) :
    OwnU wr (fun x => w.heap.size ≤ x ∧ x < wr.heap.size) (some ⟨w.heap.size, 0, none⟩) us := by
  have hlt := (h.row.lt _ rfl).2
  have hx := h.row.1
  refine .row _ w.heap.size 0 us A (fun i => (us[i]?.getD default).t.kids.length) (fun i x => L i ≤ x ∧ x < L (i + 1)) ⟨Nat.le_refl _, hlt⟩ hlt ⟨hl, fun i hi => by simp [hi]⟩ hz (fun i hi => ?_) (fun j => h.row.frozenAt j) (fun i x hi hx => ?_) (fun i j x hi hj hne hx hy => ?_) (fun i hi => h.kid i hi hi)
  · obtain ⟨c0, c1, c2, c3⟩ := h.cel i hi hi
    simp only [Nat.zero_add]
    exact ⟨(h.row.cellAt _ (by omega)).trans c0, (h.row.cellAt _ (by omega)).trans c1, (h.row.cellAt _ (by omega)).trans c2, (h.row.cellAt _ (by omega)).trans (by simpa [hi] using c3)⟩
  · have h1 := h.le 0 i (by omega) (by omega)
    have h2 := h.le (i + 1) us.length (by omega) (Nat.le_refl _)
    have h3 := h.low
    have h4 := h.top
    exact ⟨⟨by omega, by omega⟩, by omega⟩
  · rcases Nat.lt_or_gt_of_ne hne with hh | hh
    · have := h.le (i + 1) j (by omega) (by omega)
      omega
    · have := h.le (j + 1) i (by omega) (by omega)
      omega
theorem BSt.step {w wr w1 : World} {us : List BindD} {k : Nat} {A : Nat → Option Addr} {L : Nat → Nat} {xs : List Value} (h : BSt w wr us k A L xs) (hk : k < us.length) {a' : Option Addr} (ho : OwnS w1 (fun x => wr.heap.size ≤ x ∧ x < w1.heap.size) a' us[k].t.kids) (hb : Below wr.heap.size wr w1) :
    ∃ xs', BSt w (set4 w1 w.heap.size (k * 4) (.int .i64 us[k].n) (.int .i64 us[k].t.f) (.int .i64 us[k].t.v) (.slice a' us[k].t.kids.length us[k].t.kids.length)) us (k + 1) (fun i => if i = k then a' else A i) (fun i => if i ≤ k then L i else w1.heap.size) xs' := by
  have h3 := h.low
  have h4 := h.top
  have h5 := hb.size
  have hle := h.le
  have hxl := h.row.1
  have r0 := (own_on h.row hb).stored (k * 4) (.int .i64 us[k].n)
  have r1 := r0.1.stored (k * 4 + 1) (.int .i64 us[k].t.f)
  have r2 := r1.1.stored (k * 4 + 2) (.int .i64 us[k].t.v)
  have r3 := r2.1.stored (k * 4 + 3) (.slice a' us[k].t.kids.length us[k].t.kids.length)
  refine ⟨_, r3.1, fun i hi hik => ?_, ?_, fun i hi => ?_, ?_, fun i hi hik => ?_, set4_below (h.below.trans (hb.mono h.below.size)) (Nat.le_refl _)⟩
  · by_cases e : i = k
    · subst e
      simp only [if_true]
      refine ⟨?_, ?_, ?_, ?_⟩ <;> simp [show i * 4 < xs.length by omega, show i * 4 + 1 < xs.length by omega, show i * 4 + 2 < xs.length by omega, show i * 4 + 3 < xs.length by omega]
    · simp only [e, if_false]
      obtain ⟨c0, c1, c2, c3⟩ := h.cel i hi (by omega)
      refine ⟨?_, ?_, ?_, ?_⟩
      · rw [List.getElem?_set_ne (by omega), List.getElem?_set_ne (by omega), List.getElem?_set_ne (by omega), List.getElem?_set_ne (by omega)]; exact c0
      · rw [List.getElem?_set_ne (by omega), List.getElem?_set_ne (by omega), List.getElem?_set_ne (by omega), List.getElem?_set_ne (by omega)]; exact c1
      · rw [List.getElem?_set_ne (by omega), List.getElem?_set_ne (by omega), List.getElem?_set_ne (by omega), List.getElem?_set_ne (by omega)]; exact c2
      · rw [List.getElem?_set_ne (by omega), List.getElem?_set_ne (by omega), List.getElem?_set_ne (by omega), List.getElem?_set_ne (by omega)]; exact c3
  · simp only [Nat.zero_le, if_true]; exact h3
  · by_cases e : i = k
    · subst e
      simp only [Nat.le_refl, if_true, show ¬ i + 1 ≤ i by omega, if_false]; omega
    · simp only [show i ≤ k by omega, show i + 1 ≤ k by omega, if_true]; exact h.mono i (by omega)
  · rw [set4_size]; simp only [show ¬ k + 1 ≤ k by omega, if_false]; exact Nat.le_refl _
  · have h0i := hle 0 i (by omega) (by omega)
    by_cases e : i = k
    · subst e
      simp only [Nat.le_refl, if_true, show ¬ i + 1 ≤ i by omega, if_false]
      exact set4_own (ho.mono (S' := fun x => L i ≤ x ∧ x < w1.heap.size) (fun x hx => ⟨by omega, hx.2⟩)) (by omega)
    · simp only [show i ≤ k by omega, show i + 1 ≤ k by omega, if_true, e, if_false]
      have h6 := hle (i + 1) k (by omega) (Nat.le_refl _)
      exact set4_own ((h.kid i hi (by omega)).frame (w' := w1) (fun x hx => hb.block x (by omega)) hb.size) (by omega)

set_option maxHeartbeats 1600000 in
theorem toBindS_any (us : List BindD) (a : Option Addr) (c hi : Nat) (w : World) (hp : partsU us ≤ 549755813887) (hr : RdU w hi a us) (hhi : hi ≤ w.heap.size) :
    Calls Tryz.prog 9 #[.slice a us.length c] w fun e w' => e = .returned (.slice (some ⟨w.heap.size, 0, none⟩) us.length us.length) ∧ OwnU w' (fun x => w.heap.size ≤ x ∧ x < w'.heap.size) (some ⟨w.heap.size, 0, none⟩) us ∧ Below w.heap.size w w' := by
  obtain ⟨i0, hi0, hz0, hz1, hz2⟩ := info_parts infoB
  have hlen : us.length ≤ 549755813888 := by unfold partsU at hp; omega
  have HZ : Hid (∀ i, (h : i < us.length) → isW us[i].n ∧ isW us[i].t.f ∧ isW us[i].t.v) := fun i h => by obtain ⟨_, _, _, _, _, _, _, _, _, _, _, _, q⟩ := hr.get h; exact q
  have HR : Hid _ := hr
  clear hr
  go_enter Tryz.func9, Tryz.ntmps9
  go_wp2_with (first
    | (at_make; refine wpList_make_full _ rfl _ _ 40 rfl w.heap.size 62 i0 _ 4 Tryz.underlying40 hi0 hz0 hz1 _ _ _ _ us.length rfl rfl rfl rfl (by rw [hz2]; omega) (by unfold maxLen; omega) (Nat.le_refl _) ?_; intro w1 hown hgrow))
  have hlt1 : w.heap.size < w1.heap.size := (hown.lt _ rfl).2
  have S0 : ∃ xs, BSt w w1 us 0 (fun _ => none) (fun _ => w1.heap.size) xs := ⟨_, hown, fun i _ hi => absurd hi (by omega), hlt1, fun i hi => absurd hi (by omega), Nat.le_refl _, fun i _ hi => absurd hi (by omega), (Below.refl _ _).grown hgrow (Nat.le_refl _) (by simp)⟩
  clear hown hgrow hlt1
  obtain ⟨xs0, S0⟩ := S0
  go_loopw [4] (fun i wr => ∃ (k : Nat) (A : Nat → Option Addr) (L : Nat → Nat) (xs : List Value), k ≤ us.length ∧ i = .int .i64 k ∧ BSt w wr us k A L xs) (fun i _ => us.length - (intOf i).toNat)
  case atStart => exact ⟨0, _, _, _, Nat.zero_le _, rfl, S0⟩
  case round =>
    obtain ⟨k, A, L, xs, hk, rfl, S⟩ := hrel
    clear S0
    by_cases hk' : k < us.length
    · obtain ⟨b, off, a', c', rfl, hlt, d0, d1, d2, d3, hc', hkr, hz⟩ := RdU.get (HR.out.on (S.below.mono hhi)) hk'
      have hpg := partsU_get hk'
      have hpt := partsT_eq us[k].t
      have hki : (k : Int) < (us.length : Int) := by omega
      have hki0 : (0 : Int) ≤ (k : Int) := by omega
      have hwr := Nat.le_trans hhi S.below.size
      have T := toBind_any us[k] a' c' hi wr (by omega) hkr hwr
      have hxl := S.row.1
      clear hkr hpt hz hc'
      go_wp2_with (go_at_call 25; refine T.mono ?_; rintro e w2 ⟨a2, rfl, ho, hb⟩; clear T; have S1 := S.step hk' ho hb; have hown2 := own_on S.row hb; obtain ⟨v0, e0⟩ : ∃ v, w2.cell? ⟨w.heap.size, k * 4, none⟩ = some v := ⟨_, (hown2.cellAt _ (by omega)).trans (List.getElem?_eq_getElem (by omega))⟩; obtain ⟨v1, e1⟩ : ∃ v, w2.cell? ⟨w.heap.size, k * 4 + 1, none⟩ = some v := ⟨_, (hown2.cellAt _ (by omega)).trans (List.getElem?_eq_getElem (by omega))⟩; obtain ⟨v2, e2⟩ : ∃ v, w2.cell? ⟨w.heap.size, k * 4 + 2, none⟩ = some v := ⟨_, (hown2.cellAt _ (by omega)).trans (List.getElem?_eq_getElem (by omega))⟩; obtain ⟨v3, e3⟩ : ∃ v, w2.cell? ⟨w.heap.size, k * 4 + 3, none⟩ = some v := ⟨_, (hown2.cellAt _ (by omega)).trans (List.getElem?_eq_getElem (by omega))⟩; have f0 := hown2.frozenAt (k * 4); have f1 := hown2.frozenAt (k * 4 + 1); have f2 := hown2.frozenAt (k * 4 + 2); have f3 := hown2.frozenAt (k * 4 + 3); clear hown2 S ho hb d0 d1 d2 d3)
      obtain ⟨xs1, S1⟩ := S1
      unfold set4 at S1
      go_roundw
      case rel => exact ⟨k + 1, _, _, _, by omega, by go_num, S1⟩
      case measure => simp [intOf]; omega
    · have e : k = us.length := by omega
      have S1 : BSt w wr us us.length A L xs := e ▸ S
      clear e S
      go_wp2_with fail
      go_ret
      exact ⟨rfl, S1.done (by omega) HZ.out, S1.below⟩
end Go.Proofs.YtollijngiioonabGreat

/- Contract of the laws' helper that writes marks into what is put for variables. Conditions: at most 549755813887 parts. -/
namespace Go.Proofs.YtollijngiioonabGreat
set_option maxRecDepth 100000
open Go.RowKit

/-- What is still to be marked. -/
structure MarkU (wr : World) (b off : Nat) (us : List BindD) (A : Nat → Option Addr) (C : Nat → Nat) (K : Nat → Nat → Prop) (k : Nat) : Prop where
  cells : ∀ i, (h : i < us.length) → k ≤ i → wr.cell? ⟨b, off + i * 4, none⟩ = some (.int .i64 us[i].n) ∧ wr.cell? ⟨b, off + i * 4 + 1, none⟩ = some (.int .i64 us[i].t.f) ∧ wr.cell? ⟨b, off + i * 4 + 2, none⟩ = some (.int .i64 us[i].t.v) ∧ wr.cell? ⟨b, off + i * 4 + 3, none⟩ = some (.slice (A i) us[i].t.kids.length (C i))
  frozen : ∀ j, wr.frozen? ⟨b, j, none⟩ = false
  kid : ∀ i, (h : i < us.length) → k ≤ i → OwnS wr (K i) (A i) us[i].t.kids
theorem MarkU.next {wr w1 : World} {S : Nat → Prop} {b off : Nat} {us : List BindD} {A : Nat → Option Addr} {C : Nat → Nat} {K : Nat → Nat → Prop} {k : Nat} (h : MarkU wr b off us A C K k) (hk : k < us.length)
    (hsub : ∀ i x, i < us.length → K i x → S x ∧ x ≠ b) (hdis : ∀ i j x, i < us.length → j < us.length → i ≠ j → K i x → ¬ K j x) (x y z : Value)
    (ho : Only (K k) (((wr.setCell ⟨b, off + k * 4, none⟩ x).setCell ⟨b, off + k * 4 + 1, none⟩ y).setCell ⟨b, off + k * 4 + 2, none⟩ z) w1) : MarkU w1 b off us A C K (k + 1) := by
  have hkb : ¬ K k b := fun e => (hsub k b hk e).2 rfl
  refine ⟨fun i hi hki => ?_, fun j => ?_, fun i hi hki => ?_⟩
  · obtain ⟨c0, c1, c2, c3⟩ := h.cells i hi (by omega)
    have d : ∀ o v, (off + k * 4 ≠ o) → (off + k * 4 + 1 ≠ o) → (off + k * 4 + 2 ≠ o) → wr.cell? ⟨b, o, none⟩ = some v → w1.cell? ⟨b, o, none⟩ = some v := by
      intro o v h1 h2 h3 hv
      rw [ho.cell (p := ⟨b, o, none⟩) hkb, World.cell?_setCell_other _ _ _ _ (fun e => h3 (by injection e)), World.cell?_setCell_other _ _ _ _ (fun e => h2 (by injection e)), World.cell?_setCell_other _ _ _ _ (fun e => h1 (by injection e))]
      exact hv
    exact ⟨d _ _ (by omega) (by omega) (by omega) c0, d _ _ (by omega) (by omega) (by omega) c1, d _ _ (by omega) (by omega) (by omega) c2, d _ _ (by omega) (by omega) (by omega) c3⟩
  · rw [ho.frozen (p := ⟨b, j, none⟩) hkb]
    simp only [World.frozen?_setCell]
    exact h.frozen j
  · have hib : ¬ K i b := fun e => (hsub i b hi e).2 rfl
    have o := (((h.kid i hi (by omega)).setCell ⟨b, off + k * 4, none⟩ hib x).setCell ⟨b, off + k * 4 + 1, none⟩ hib y).setCell ⟨b, off + k * 4 + 2, none⟩ hib z
    exact o.frame (fun q hq => ho.block q (fun e => hdis i k q hi hk (by omega) hq e)) (Nat.le_of_eq ho.size.symm)

/-- How many marks the first k take. -/
def mkU (us : List BindD) (k : Nat) : Nat := ((us.take k).map (fun u => 3 + 2 * partsL u.t.kids)).sum
theorem mkU_next {us : List BindD} {k : Nat} (h : k < us.length) : mkU us (k + 1) = mkU us k + 3 + 2 * partsL us[k].t.kids := by
  unfold mkU
  rw [List.take_succ_eq_append_getElem h, List.map_append, List.sum_append]; simp only [List.map_cons, List.map_nil, List.sum_cons, List.sum_nil, Nat.add_zero]; omega
theorem mkU_le (us : List BindD) (k : Nat) : mkU us k ≤ 3 * partsU us := by
  unfold mkU
  have h1 : ∀ l : List BindD, (l.map (fun u => 3 + 2 * partsL u.t.kids)).sum ≤ 3 * partsU l := by
    intro l
    induction l with
    | nil => simp
    | cons u l ih => unfold partsU at *; simp only [List.map_cons, List.sum_cons, List.length_cons] at *; omega
  have h2 := h1 (us.take k)
  have h3 := sum_takeU us k
  have h4 : (us.take k).length ≤ us.length := by rw [List.length_take]; omega
  unfold partsU at *
  omega

set_option maxHeartbeats 1600000 in
theorem markBindS_any (us : List BindD) (a : Option Addr) (c : Nat) (m : Int) (S : Nat → Prop) (w : World) (hp : partsU us ≤ 549755813887) (hm0 : 0 ≤ m) (hm : m ≤ 1000000000000000) (ho : OwnU w S a us) :
    Calls Tryz.prog 16 #[.slice a us.length c, .int .i64 m] w fun e w' => e = .returned (.int .i64 (m + (mkU us us.length : Nat))) ∧ Only S w w' := by
  have hlen : us.length ≤ 549755813888 := by unfold partsU at hp; omega
  cases ho with
  | nil a =>
    go_enter Tryz.func16, Tryz.ntmps16
    go_wp2_with fail
    refine wp_loop_rounds 1 ?_
    rw [rounds_succ]
    go_wp2_with fail
    go_ret
    exact ⟨by simp [mkU], Only.refl _ _⟩
  | row b off us A C K hb hlt hl hz hc hf hsub hdis hk =>
    have M0 : MarkU w b off us A C K 0 := ⟨fun i h _ => hc i h, hf, fun i h _ => hk i h⟩
    clear hc hf hk hz
    go_enter Tryz.func16, Tryz.ntmps16
    go_wp2_with fail
    go_loopw [1, 5] (fun l i wr => ∃ k : Nat, k ≤ us.length ∧ i = .int .i64 k ∧ l = .int .i64 (m + (mkU us k : Nat)) ∧ MarkU wr b off us A C K k ∧ Only S w wr) (fun _ i _ => us.length - (intOf i).toNat)
    case atStart => exact ⟨0, Nat.zero_le _, rfl, by simp [mkU], M0, Only.refl _ _⟩
    case round =>
      obtain ⟨k, hk, rfl, rfl, M, O⟩ := hrel
      clear M0
      have hpk := mkU_le us k
      by_cases hk' : k < us.length
      · obtain ⟨c0, c1, c2, c3⟩ := M.cells k hk' (Nat.le_refl _)
        have hpg := partsU_get hk'
        have HN : Hid _ := mkU_next hk'
        have hki : (k : Int) < (us.length : Int) := by omega
        have hki0 : (0 : Int) ≤ (k : Int) := by omega
        have hkb : ¬ K k b := fun e => (hsub k b hk' e).2 rfl
        have f0 := M.frozen (off + k * 4)
        have f1 := M.frozen (off + k * 4 + 1)
        have f2 := M.frozen (off + k * 4 + 2)
        obtain ⟨n, hn⟩ : ∃ n : Int, n = m + (mkU us k : Nat) := ⟨_, rfl⟩
        have hn0 : 0 ≤ n := by omega
        have hn1 : n ≤ 1100000000000000 := by omega
        have HNE : Hid (n = m + (mkU us k : Nat)) := hn
        rw [← hn]
        clear hn
        obtain ⟨W, hW⟩ : ∃ W, W = ((wr.setCell ⟨b, off + k * 4, none⟩ (.int .i64 n)).setCell ⟨b, off + k * 4 + 1, none⟩ (.int .i64 (n + 1))).setCell ⟨b, off + k * 4 + 2, none⟩ (.int .i64 (n + 1 + 1)) := ⟨_, rfl⟩
        have e1 : (wr.setCell ⟨b, off + k * 4, none⟩ (.int .i64 n)).cell? ⟨b, off + k * 4 + 1, none⟩ = some (.int .i64 us[k].t.f) := by rw [World.cell?_setCell_other _ _ _ _ (by simp)]; exact c1
        have e2 : ((wr.setCell ⟨b, off + k * 4, none⟩ (.int .i64 n)).setCell ⟨b, off + k * 4 + 1, none⟩ (.int .i64 (n + 1))).cell? ⟨b, off + k * 4 + 2, none⟩ = some (.int .i64 us[k].t.v) := by rw [World.cell?_setCell_other _ _ _ _ (by simp), World.cell?_setCell_other _ _ _ _ (by simp)]; exact c2
        have e3 : (((wr.setCell ⟨b, off + k * 4, none⟩ (.int .i64 n)).setCell ⟨b, off + k * 4 + 1, none⟩ (.int .i64 (n + 1))).setCell ⟨b, off + k * 4 + 2, none⟩ (.int .i64 (n + 1 + 1))).cell? ⟨b, off + k * 4 + 3, none⟩ = some (.slice (A k) us[k].t.kids.length (C k)) := by rw [World.cell?_setCell_other _ _ _ _ (by simp), World.cell?_setCell_other _ _ _ _ (by simp), World.cell?_setCell_other _ _ _ _ (by simp)]; exact c3
        have oK : OwnS W (K k) (A k) us[k].t.kids := by rw [hW]; exact (((M.kid k hk' (Nat.le_refl _)).setCell ⟨b, off + k * 4, none⟩ hkb _).setCell ⟨b, off + k * 4 + 1, none⟩ hkb _).setCell ⟨b, off + k * 4 + 2, none⟩ hkb _
        have O2 : Only S w W := by rw [hW]; exact ((O.setCell ⟨b, off + k * 4, none⟩ hb _).setCell ⟨b, off + k * 4 + 1, none⟩ hb _).setCell ⟨b, off + k * 4 + 2, none⟩ hb _
        have I := markTermS_any 549755813888 us[k].t.kids (A k) (C k) (n + 1 + 1 + 1) (K k) W (by omega) (Nat.le_refl _) (by omega) (by omega) oK
        have NX : ∀ w1, Only (K k) W w1 → MarkU w1 b off us A C K (k + 1) := fun w1 h => M.next hk' hsub hdis _ _ _ (hW ▸ h)
        have HE : Hid (n + 1 + 1 + 1 + 2 * (partsL us[k].t.kids : Int) = m + (mkU us (k + 1) : Nat)) := by show _ = _; have h1 := HN.out; have h2 := HNE.out; omega
        have hsubk : ∀ x, K k x → S x := fun x hx => (hsub k x hk' hx).1
        have HW : Hid _ := hW
        clear M oK hW
        go_wp2_with (go_at_call 33; rw [← HW.out]; refine I.mono ?_; rintro e w1 ⟨rfl, h1⟩; have M1 := NX _ h1; have O3 := O2.trans (h1.mono hsubk); clear I NX h1 O2 HW)
        go_roundw
        case rel => exact ⟨k + 1, by omega, by go_num, by rw [← HE.out], M1, O3⟩
        case measure => simp [intOf]; omega
      · have E : Hid (k = us.length) := (by omega : k = us.length)
        go_wp2_with fail
        go_ret
        refine ⟨rt_mark ?_, O⟩
        rw [E.out]
end Go.Proofs.YtollijngiioonabGreat

/- What lies in memory while the law on what is put into an equation goes on; its drawn region. Conditions: none. -/
namespace Go.Proofs.YtollijngiioonabGreat
set_option maxRecDepth 100000
open Go.RowKit

theorem OwnU.mono {w : World} {S T : Nat → Prop} {a : Option Addr} {us : List BindD} (h : OwnU w S a us) (hs : ∀ x, S x → T x) : OwnU w T a us := by
  cases h with
  | nil => exact .nil _ _
  | row b off us A C K hb hlt hl hz hc hf hsub hdis hk => exact .row _ b off us A C K (hs b hb) hlt hl hz hc hf (fun i x hi hx => ⟨hs x (hsub i x hi hx).1, (hsub i x hi hx).2⟩) hdis hk
theorem OwnU.tp {w0 : World} {o o' : Nat → Nat} {W W' : World} {g : Nat} {t : Nat → Prop} {a : Option Addr} {us : List BindD} (h : OwnU W (fun k => o k = g) a us) (hT : Tg w0 o W) (F : TP t o W o' W') (h0 : g ≠ 0) (ht : ¬ t g) : OwnU W' (fun k => o' k = g) a us := by
  have hl : ∀ k, o k = g → k < W.heap.size := fun k hk => (hT.own k (by rw [hk]; exact h0)).2
  exact (h.frame (fun k hk => F.st.block k (hl k hk) (by rw [hk]; exact ht)) F.st.size).mono fun k hk => (F.old k (hl k hk)).trans hk
theorem ownX_lit {W W' : World} {x : LitD} {b1 b2 : Option Addr} {m : Nat} (h1 : OwnS W' (fun k => W.heap.size ≤ k ∧ k < m) b1 x.l.kids) (h2 : OwnS W' (fun k => m ≤ k ∧ k < W'.heap.size) b2 x.r.kids) (hm1 : W.heap.size ≤ m) (hm2 : m ≤ W'.heap.size) :
    OwnX W W' x b1 x.l.kids.length b2 x.r.kids.length (fun k => W.heap.size ≤ k ∧ k < m) (fun k => m ≤ k ∧ k < W'.heap.size) :=
  ⟨h1, h2, fun k a b => by omega, fun k hk => by omega, fun k hk => by omega, Nat.le_refl _, Nat.le_refl _⟩

structure NA2 (w1 : World) (X : LitD) (Bw : Nat) (aw : Option Addr) (cw : Nat) (bw : Option Addr) (dw : Nat) (ss : List SymD) (G : Nat) (us : List BindD) (ua : Option Addr) (o : Nat → Nat) (W : World) : Prop where
  q : LA1 w1 X Bw aw cw bw dw ss G o W
  u : OwnU W (fun k => o k = 14) ua us
structure NA3 (w1 : World) (X : LitD) (Bw : Nat) (aw : Option Addr) (cw : Nat) (bw : Option Addr) (dw : Nat) (ss : List SymD) (G : Nat) (us : List BindD) (ua : Option Addr) (x : LitD) (Bx : Nat) (ax : Option Addr) (cx : Nat) (bx : Option Addr) (dx : Nat) (o : Nat → Nat) (W : World) : Prop where
  q : NA2 w1 X Bw aw cw bw dw ss G us ua o W
  x : X7 o W 15 16 17 Bx x ax cx bx dx
structure NA4 (w1 : World) (X : LitD) (Bw : Nat) (aw : Option Addr) (cw : Nat) (bw : Option Addr) (dw : Nat) (ss : List SymD) (G : Nat) (us : List BindD) (ua : Option Addr) (x : LitD) (Bx : Nat) (ax : Option Addr) (cx : Nat) (bx : Option Addr) (dx : Nat) (Bg : Nat) (ag : Option Addr) (cg : Nat) (bg : Option Addr) (dg : Nat) (o : Nat → Nat) (W : World) : Prop where
  q : NA3 w1 X Bw aw cw bw dw ss G us ua x Bx ax cx bx dx o W
  g : X7 o W 18 19 20 Bg X ag cg bg dg
structure NB2 (w1 : World) (X : LitD) (Bw : Nat) (aw : Option Addr) (cw : Nat) (bw : Option Addr) (dw : Nat) (us : List BindD) (ua : Option Addr) (x : LitD) (Bx : Nat) (ax : Option Addr) (cx : Nat) (bx : Option Addr) (dx : Nat) (Bg : Nat) (ag : Option Addr) (cg : Nat) (bg : Option Addr) (dg : Nat) (o : Nat → Nat) (W : World) : Prop where
  q : LS w1 X Bw aw cw bw dw o W
  u : OwnU W (fun k => o k = 14) ua us
  x : X7 o W 15 16 17 Bx x ax cx bx dx
  g : X7 o W 18 19 20 Bg X ag cg bg dg
structure NB1 (w1 : World) (X : LitD) (Bw : Nat) (aw : Option Addr) (cw : Nat) (bw : Option Addr) (dw : Nat) (x : LitD) (Bx : Nat) (ax : Option Addr) (cx : Nat) (bx : Option Addr) (dx : Nat) (Bg : Nat) (ag : Option Addr) (cg : Nat) (bg : Option Addr) (dg : Nat) (o : Nat → Nat) (W : World) : Prop where
  q : LS w1 X Bw aw cw bw dw o W
  x : X7 o W 15 16 17 Bx x ax cx bx dx
  g : X7 o W 18 19 20 Bg X ag cg bg dg
section
variable {w1 : World} {X : LitD} {Bw : Nat} {aw : Option Addr} {cw : Nat} {bw : Option Addr} {dw : Nat} {ss : List SymD} {G : Nat} {us : List BindD} {ua : Option Addr} {x : LitD} {Bx : Nat} {ax : Option Addr} {cx : Nat} {bx : Option Addr} {dx : Nat} {Bg : Nat} {ag : Option Addr} {cg : Nat} {bg : Option Addr} {dg : Nat} {o o' : Nat → Nat} {W W' : World}
theorem NA2.on (h : NA2 w1 X Bw aw cw bw dw ss G us ua o W) (hb : Below W.heap.size W W') (T : Tg w1 o' W') (F : TP pNo o W o' W') : NA2 w1 X Bw aw cw bw dw ss G us ua o' W' := ⟨h.q.on hb T F, h.u.tp h.q.q.tg F (by decide) id⟩
theorem NA3.on (h : NA3 w1 X Bw aw cw bw dw ss G us ua x Bx ax cx bx dx o W) (hb : Below W.heap.size W W') (T : Tg w1 o' W') (F : TP pNo o W o' W') : NA3 w1 X Bw aw cw bw dw ss G us ua x Bx ax cx bx dx o' W' := ⟨h.q.on hb T F, h.x.tp h.q.q.q.tg F (by decide) (by decide) id id id⟩
theorem NA4.on (h : NA4 w1 X Bw aw cw bw dw ss G us ua x Bx ax cx bx dx Bg ag cg bg dg o W) (hb : Below W.heap.size W W') : NA4 w1 X Bw aw cw bw dw ss G us ua x Bx ax cx bx dx Bg ag cg bg dg o W' :=
  ⟨h.q.on hb (h.q.q.q.q.tg.same hb) (TP.same _ o hb), h.g.tp h.q.q.q.q.tg (TP.same pNo o hb) (by decide) (by decide) id id id⟩
theorem LA1.bind (h : LA1 w1 X Bw aw cw bw dw ss G o W) (hb : Below W.heap.size W W') (hk : OwnU W' (fun k => W.heap.size ≤ k ∧ k < W'.heap.size) ua us) : ∃ o', NA2 w1 X Bw aw cw bw dw ss G us ua o' W' :=
  ⟨_, h.on hb (h.q.tg.grow hb 14) (TP.grow pNo o hb 14), hk.mono fun _ hk => upd_new hk.1 hk.2⟩
theorem NA2.lit {S1 S2 : Nat → Prop} (h : NA2 w1 X Bw aw cw bw dw ss G us ua o W) (hb : Below W.heap.size W W') (hX : OwnX W W' x ax cx bx dx S1 S2) (TT : TypeId) : ∃ o', NA3 w1 X Bw aw cw bw dw ss G us ua x W'.heap.size ax cx bx dx o' (W'.alloc (.cells #[.bool x.p, .int .i64 x.l.f, .int .i64 x.l.v, .slice ax x.l.kids.length cx, .int .i64 x.r.f, .int .i64 x.r.v, .slice bx x.r.kids.length dx] TT)) := by
  obtain ⟨o', F, T, hx⟩ := X7.new h.q.q.tg hb hX 15 16 17 (by decide) (by decide) TT
  exact ⟨o', h.on (hb.trans (Below.mono ((Below.refl _ _).alloc (Nat.le_refl _) _) hb.size)) T F, hx⟩
theorem NA3.lit {S1 S2 : Nat → Prop} (h : NA3 w1 X Bw aw cw bw dw ss G us ua x Bx ax cx bx dx o W) (hb : Below W.heap.size W W') (hX : OwnX W W' X ag cg bg dg S1 S2) (TT : TypeId) : ∃ o', NA4 w1 X Bw aw cw bw dw ss G us ua x Bx ax cx bx dx W'.heap.size ag cg bg dg o' (W'.alloc (.cells #[.bool X.p, .int .i64 X.l.f, .int .i64 X.l.v, .slice ag X.l.kids.length cg, .int .i64 X.r.f, .int .i64 X.r.v, .slice bg X.r.kids.length dg] TT)) := by
  obtain ⟨o', F, T, hx⟩ := X7.new h.q.q.q.tg hb hX 18 19 20 (by decide) (by decide) TT
  exact ⟨o', h.on (hb.trans (Below.mono ((Below.refl _ _).alloc (Nat.le_refl _) _) hb.size)) T F, hx⟩
theorem NA4.m1 (h : NA4 w1 X Bw aw cw bw dw ss G us ua x Bx ax cx bx dx Bg ag cg bg dg o W) (hs : Stay (fun k => k ≠ G) W W') : NB2 w1 X Bw aw cw bw dw us ua x Bx ax cx bx dx Bg ag cg bg dg o W' := by
  have st : Stay (fun k => ¬ (o k = 13)) W W' := hs.weak fun k _ hk e => hk (by rw [e]; exact h.q.q.q.s.e)
  have T := h.q.q.q.q.tg.write (t := fun g => g = 13) st (by decide)
  have F : TP (fun g => g = 13) o W o W' := ⟨st, fun _ _ => rfl⟩
  exact ⟨h.q.q.q.q.tp T F (by decide), h.q.q.u.tp h.q.q.q.q.tg F (by decide) (by decide), h.q.x.tp h.q.q.q.q.tg F (by decide) (by decide) (by decide) (by decide) (by decide), h.g.tp h.q.q.q.q.tg F (by decide) (by decide) (by decide) (by decide) (by decide)⟩
theorem NB2.m2 (h : NB2 w1 X Bw aw cw bw dw us ua x Bx ax cx bx dx Bg ag cg bg dg o W) (ho : Only (fun k => o k = 14) W W') : NB1 w1 X Bw aw cw bw dw x Bx ax cx bx dx Bg ag cg bg dg o W' := by
  have st : Stay (fun k => ¬ (o k = 14)) W W' := only_stay (Below.refl _ _) ho (fun _ _ hk => hk)
  have T := h.q.tg.write (t := fun g => g = 14) st (by decide)
  have F : TP (fun g => g = 14) o W o W' := ⟨st, fun _ _ => rfl⟩
  exact ⟨h.q.tp T F (by decide), h.x.tp h.q.tg F (by decide) (by decide) (by decide) (by decide) (by decide), h.g.tp h.q.tg F (by decide) (by decide) (by decide) (by decide) (by decide)⟩
theorem NB1.m3 (h : NB1 w1 X Bw aw cw bw dw x Bx ax cx bx dx Bg ag cg bg dg o W) (hs : Stay (fun k => ¬ o k = 16 ∧ ¬ o k = 17) W W') : LB0 w1 X Bw aw cw bw dw Bg ag cg bg dg o W' := by
  have st : Stay (fun k => ¬ (o k = 16 ∨ o k = 17)) W W' := hs.weak fun k _ hk => ⟨fun e => hk (.inl e), fun e => hk (.inr e)⟩
  have T := h.q.tg.write (t := fun g => g = 16 ∨ g = 17) st (by decide)
  have F : TP (fun g => g = 16 ∨ g = 17) o W o W' := ⟨st, fun _ _ => rfl⟩
  exact ⟨h.q.tp T F (by decide), h.g.tp h.q.tg F (by decide) (by decide) (by decide) (by decide) (by decide)⟩
end

/-- The drawn region: copies of a list of functions, of what is put, of an equation; a call; a box; a store. -/
structure LV (W1 : World) (ss : List SymD) (us : List BindD) (x X : LitD) (L : Array Bool) (o : Nat → Nat) (W : World) (v1 v3 v5 v6 v7 : Value) : Prop where
  tg : Tg W1 o W
  c1 : Dn L 1 → ¬ Dn L 8 → ∃ G, v1 = .slice (some ⟨G, 0, none⟩) ss.length ss.length ∧ RdS W (some ⟨G, 0, none⟩) ss
  c3 : Dn L 3 → ¬ Dn L 8 → ∃ G, v3 = .slice (some ⟨G, 0, none⟩) us.length us.length ∧ RdU W W.heap.size (some ⟨G, 0, none⟩) us
  c5 : Dn L 5 → ¬ Dn L 8 → ∃ y z, v5 = litV x y x.l.kids.length z x.r.kids.length ∧ RdK W W.heap.size y x.l.kids ∧ RdK W W.heap.size z x.r.kids
  c6 : Dn L 6 → ∃ a1 c1 a2 c2, v6 = litV X a1 c1 a2 c2 ∧ OwnS W (fun k => o k = 11) a1 X.l.kids ∧ OwnS W (fun k => o k = 12) a2 X.r.kids ∧ X.l.kids.length ≤ c1 ∧ X.r.kids.length ≤ c2
  z7 : Dn L 7 → ¬ Dn L 8 → ∃ B, v7 = .pointer (some ⟨B, 0, none⟩) ∧ o B = 10 ∧ R7 W B
  f8 : Dn L 8 → ∃ B a1 c1 a2 c2, v7 = .pointer (some ⟨B, 0, none⟩) ∧ v6 = litV X a1 c1 a2 c2 ∧ B7 o W 10 B X a1 c1 a2 c2
section
variable {W1 : World} {ss : List SymD} {us : List BindD} {x X : LitD} {L : Array Bool} {o : Nat → Nat} {W : World} {v1 v3 v5 v6 v7 : Value}
theorem LV.start (w : World) (ss : List SymD) (us : List BindD) (x X : LitD) (n : Nat) (v1 v3 v5 v6 v7 : Value) : LV w ss us x X (Array.replicate n false) (fun _ => 0) w.drew v1 v3 v5 v6 v7 :=
  ⟨Tg.start w, fun h => absurd h dn_none, fun h => absurd h dn_none, fun h => absurd h dn_none, fun h => absurd h dn_none, fun h => absurd h dn_none, fun h => absurd h dn_none⟩
theorem LV.pure (h : LV W1 ss us x X L o W v1 v3 v5 v6 v7) {i : Nat} (hi : i < L.size) (hn : i ≠ 1 ∧ i ≠ 3 ∧ i ≠ 5 ∧ i ≠ 6 ∧ i ≠ 7 ∧ i ≠ 8) : LV W1 ss us x X (L.setIfInBounds i true) o W v1 v3 v5 v6 v7 :=
  ⟨h.tg, fun d n => h.c1 (dnb hi hn.1 d) (dnn hi n), fun d n => h.c3 (dnb hi hn.2.1 d) (dnn hi n), fun d n => h.c5 (dnb hi hn.2.2.1 d) (dnn hi n), fun d => h.c6 (dnb hi hn.2.2.2.1 d), fun d n => h.z7 (dnb hi hn.2.2.2.2.1 d) (dnn hi n), fun d => h.f8 (dnb hi hn.2.2.2.2.2 d)⟩
theorem LV.old (h : LV W1 ss us x X L o W v1 v3 v5 v6 v7) {o' : Nat → Nat} {W' : World} (hb : Below W.heap.size W W') (T : Tg W1 o' W') (F : TP pNo o W o' W') : LV W1 ss us x X L o' W' v1 v3 v5 v6 v7 := by
  refine ⟨T, fun d n => ?_, fun d n => ?_, fun d n => ?_, fun d => ?_, fun d n => ?_, fun d => ?_⟩
  · obtain ⟨G, e, hr⟩ := h.c1 d n
    exact ⟨G, e, hr.below hb⟩
  · obtain ⟨G, e, hr⟩ := h.c3 d n
    exact ⟨G, e, (hr.on hb).mono hb.size⟩
  · obtain ⟨y, z, e, h1, h2⟩ := h.c5 d n
    exact ⟨y, z, e, (h1.on hb).mono hb.size, (h2.on hb).mono hb.size⟩
  · obtain ⟨a1, c1, a2, c2, e, h1, h2, h3⟩ := h.c6 d
    exact ⟨a1, c1, a2, c2, e, h1.tp h.tg F (by decide) id, h2.tp h.tg F (by decide) id, h3⟩
  · obtain ⟨B, e, hB, hR⟩ := h.z7 d n
    exact ⟨B, e, (F.old B hR.lt).trans hB, hR.stay F.st id⟩
  · obtain ⟨B, a1, c1, a2, c2, e1, e2, hB⟩ := h.f8 d
    exact ⟨B, a1, c1, a2, c2, e1, e2, hB.tp F id⟩
theorem LV.sym (h : LV W1 ss us x X L o W v1 v3 v5 v6 v7) (hi : 1 < L.size) {W' : World} (hb : Below W.heap.size W W') (hw : W'.ownsRow W.heap.size 59 3 (.slice (some ⟨W.heap.size, 0, none⟩) ss.length ss.length) ss.length (symCs ss)) :
    LV W1 ss us x X (L.setIfInBounds 1 true) o W' (.slice (some ⟨W.heap.size, 0, none⟩) ss.length ss.length) v3 v5 v6 v7 := by
  have g := h.old hb (h.tg.same hb) (TP.same _ o hb)
  exact ⟨g.tg, fun _ _ => ⟨_, rfl, RdS.own rfl hw⟩, fun d n => g.c3 (dnb hi (by decide) d) (dnn hi n), fun d n => g.c5 (dnb hi (by decide) d) (dnn hi n), fun d => g.c6 (dnb hi (by decide) d), fun d n => g.z7 (dnb hi (by decide) d) (dnn hi n), fun d => g.f8 (dnb hi (by decide) d)⟩
theorem LV.bind (h : LV W1 ss us x X L o W v1 v3 v5 v6 v7) (hi : 3 < L.size) {W' : World} (hb : Below W.heap.size W W') (hw : RdU W' W'.heap.size (some ⟨W.heap.size, 0, none⟩) us) :
    LV W1 ss us x X (L.setIfInBounds 3 true) o W' v1 (.slice (some ⟨W.heap.size, 0, none⟩) us.length us.length) v5 v6 v7 := by
  have g := h.old hb (h.tg.same hb) (TP.same _ o hb)
  exact ⟨g.tg, fun d n => g.c1 (dnb hi (by decide) d) (dnn hi n), fun _ _ => ⟨_, rfl, hw⟩, fun d n => g.c5 (dnb hi (by decide) d) (dnn hi n), fun d => g.c6 (dnb hi (by decide) d), fun d n => g.z7 (dnb hi (by decide) d) (dnn hi n), fun d => g.f8 (dnb hi (by decide) d)⟩
theorem LV.lit (h : LV W1 ss us x X L o W v1 v3 v5 v6 v7) (hi : 5 < L.size) {W' : World} (hb : Below W.heap.size W W') {y z : Option Addr} (h1 : RdK W' W'.heap.size y x.l.kids) (h2 : RdK W' W'.heap.size z x.r.kids) :
    LV W1 ss us x X (L.setIfInBounds 5 true) o W' v1 v3 (litV x y x.l.kids.length z x.r.kids.length) v6 v7 := by
  have g := h.old hb (h.tg.same hb) (TP.same _ o hb)
  exact ⟨g.tg, fun d n => g.c1 (dnb hi (by decide) d) (dnn hi n), fun d n => g.c3 (dnb hi (by decide) d) (dnn hi n), fun _ _ => ⟨_, _, rfl, h1, h2⟩, fun d => g.c6 (dnb hi (by decide) d), fun d n => g.z7 (dnb hi (by decide) d) (dnn hi n), fun d => g.f8 (dnb hi (by decide) d)⟩
theorem LV.call (h : LV W1 ss us x X L o W v1 v3 v5 v6 v7) (hi : 6 < L.size) (hn8 : ¬ Dn L 8) {W' : World} (hb : Below W.heap.size W W') {a1 : Option Addr} {c1 : Nat} {a2 : Option Addr} {c2 : Nat} {S1 S2 : Nat → Prop} (hX : OwnX W W' X a1 c1 a2 c2 S1 S2) :
    ∃ o', LV W1 ss us x X (L.setIfInBounds 6 true) o' W' v1 v3 v5 (litV X a1 c1 a2 c2) v7 := by
  have g := h.old hb (h.tg.two hb hX.i1 hX.i2 11 12) (TP.two pNo o hb (fun k hk => (hX.i1 k hk).1) (fun k hk => (hX.i2 k hk).1) 11 12)
  exact ⟨_, g.tg, fun d n => g.c1 (dnb hi (by decide) d) (dnn hi n), fun d n => g.c3 (dnb hi (by decide) d) (dnn hi n), fun d n => g.c5 (dnb hi (by decide) d) (dnn hi n), fun _ => ⟨_, _, _, _, rfl, hX.o1.mono fun k hk => upd2_1 hk, hX.o2.mono fun k hk => upd2_2 hk (fun h => hX.dis k h hk), hX.l1, hX.l2⟩, fun d n => g.z7 (dnb hi (by decide) d) (dnn hi n), fun d => absurd (dnb hi (by decide) d) hn8⟩
theorem LV.box (h : LV W1 ss us x X L o W v1 v3 v5 v6 v7) (hi : 7 < L.size) (hn8 : ¬ Dn L 8) (TT : TypeId) :
    ∃ o', LV W1 ss us x X (L.setIfInBounds 7 true) o' (W.alloc (.cells #[.bool false, .int .i64 0, .int .i64 0, .slice none 0 0, .int .i64 0, .int .i64 0, .slice none 0 0] TT)) v1 v3 v5 v6 (.pointer (some ⟨W.heap.size, 0, none⟩)) := by
  have hb : Below W.heap.size W (W.alloc (.cells #[.bool false, .int .i64 0, .int .i64 0, .slice none 0 0, .int .i64 0, .int .i64 0, .slice none 0 0] TT)) := (Below.refl _ _).alloc (Nat.le_refl _) _
  have g := h.old hb (h.tg.grow hb 10) (TP.grow pNo o hb 10)
  exact ⟨_, g.tg, fun d n => g.c1 (dnb hi (by decide) d) (dnn hi n), fun d n => g.c3 (dnb hi (by decide) d) (dnn hi n), fun d n => g.c5 (dnb hi (by decide) d) (dnn hi n), fun d => g.c6 (dnb hi (by decide) d), fun _ _ => ⟨_, rfl, upd_new (Nat.le_refl _) (by simp), by simp [go_sem], by simp [go_sem], by simp [go_sem], by simp [go_sem], by simp [go_sem], by simp [go_sem], by simp [go_sem], fun j => by simp [go_sem]⟩, fun d => absurd (dnb hi (by decide) d) hn8⟩
theorem LV.put {B : Nat} {a1 : Option Addr} {c1 : Nat} {a2 : Option Addr} {c2 : Nat} (h : LV W1 ss us x X L o W v1 v3 v5 (litV X a1 c1 a2 c2) (.pointer (some ⟨B, 0, none⟩))) (hi : 8 < L.size) (hob : o B = 10) (hR : R7 W B) :
    LV W1 ss us x X (L.setIfInBounds 8 true) o (((((((W.setCell ⟨B, 0, none⟩ (.bool X.p)).setCell ⟨B, 1, none⟩ (.int .i64 X.l.f)).setCell ⟨B, 2, none⟩ (.int .i64 X.l.v)).setCell ⟨B, 3, none⟩ (.slice a1 X.l.kids.length c1)).setCell ⟨B, 4, none⟩ (.int .i64 X.r.f)).setCell ⟨B, 5, none⟩ (.int .i64 X.r.v)).setCell ⟨B, 6, none⟩ (.slice a2 X.r.kids.length c2)) v1 v3 v5 (litV X a1 c1 a2 c2) (.pointer (some ⟨B, 0, none⟩)) := by
  have st : Stay (fun k => ¬ (o k = 10)) W _ := (set7_stay W B (.bool X.p) (.int .i64 X.l.f) (.int .i64 X.l.v) (.slice a1 X.l.kids.length c1) (.int .i64 X.r.f) (.int .i64 X.r.v) (.slice a2 X.r.kids.length c2)).weak (fun k _ hk e => hk (e ▸ hob))
  have T := h.tg.write (t := fun g => g = 10) st (by decide)
  have F : TP (fun g => g = 10) o W o _ := ⟨st, fun _ _ => rfl⟩
  have h9 : Dn (L.setIfInBounds 8 true) 8 := (dn_set hi).2 (.inl rfl)
  refine ⟨T, fun _ n => absurd h9 n, fun _ n => absurd h9 n, fun _ n => absurd h9 n, fun d => ?_, fun _ n => absurd h9 n, fun _ => ⟨B, a1, c1, a2, c2, rfl, rfl, hob, R7.set hR _ _ _ _ _ _ _⟩⟩
  obtain ⟨e1, k1, e2, k2, e, h1, h2, h3⟩ := h.c6 (dnb hi (by decide) d)
  exact ⟨e1, k1, e2, k2, e, h1.tp h.tg F (by decide) (by decide), h2.tp h.tg F (by decide) (by decide), h3⟩
theorem LV.fin (h : LV W1 ss us x X L o W v1 v3 v5 v6 v7) (h7 : Dn L 6) (h9 : Dn L 8) : ∃ B a1 c1 a2 c2, v7 = .pointer (some ⟨B, 0, none⟩) ∧ X7 o W 10 11 12 B X a1 c1 a2 c2 := by
  obtain ⟨e1, k1, e2, k2, rfl, h1, h2, h3⟩ := h.c6 h7
  obtain ⟨B, a1, c1, a2, c2, e, e', hB⟩ := h.f8 h9
  unfold litV at e'
  have q : e1 = a1 ∧ k1 = c1 ∧ e2 = a2 ∧ k2 = c2 := by
    injection e' with e'
    have := congrArg Array.toList e'
    simp at this
    exact ⟨this.1.1, this.1.2, this.2.1, this.2.2⟩
  obtain ⟨rfl, rfl, rfl, rfl⟩ := q
  exact ⟨B, e1, k1, e2, k2, e, hB, h1, h2⟩
end
end Go.Proofs.YtollijngiioonabGreat

/- How a list of functions that came in as an argument is opened: its cells, and that each part is in its bounds. Conditions: none. -/
namespace Go.Proofs.YtollijngiioonabGreat
set_option maxRecDepth 100000
open Go.RowKit Go.ChangeShapes Go.WideShapes Go.ChangeAt

theorem cells38 : Tryz.prog.cellsOf 52 = 3 := by kernel_rfl
theorem cells9 : Tryz.prog.cellsOf 9 = 1 := by kernel_rfl
theorem cells3i : Tryz.prog.cellsOf 3 = 1 := by kernel_rfl
theorem cells4 : Tryz.prog.cellsOf 4 = 1 := by kernel_rfl

set_option maxRecDepth 100000 in
theorem sym_of_trod {H : Type} {enc : TypeId × Value → H} {w : World} {base : Nat} {spare : Nat → Bool} {held : Bool} {n : Nat} {cs : List Value} {x : DataW H × List MemPlace}
    (h : DataW.trod enc Tryz.prog w base spare held n 52 cs = some x) : ∃ s : SymD, cs = symC s ∧ s.name.size ≤ maxLen ∧ (Lit.int .i64 s.ar).wf = true := by
  obtain ⟨xs, m, rfl, rfl, hlen, hxl, hf⟩ := DataW.trod_struct Tryz.underlying52 h
  rw [cells38] at hlen
  match cs, hlen with
  | [c0, c1, c2], _ =>
    match xs, hxl with
    | [y0, y1, y2], _ =>
      have h0 : DataW.trod enc Tryz.prog w base spare held m 9 [c0] = some y0 := by have := hf 0 _ rfl; simpa [cells9] using this
      have h1 : DataW.trod enc Tryz.prog w base spare held m 3 [c1] = some y1 := by have := hf 1 _ rfl; simpa [cells3i] using this
      have h2 : DataW.trod enc Tryz.prog w base spare held m 4 [c2] = some y2 := by have := hf 2 _ rfl; simpa [cells4] using this
      obtain ⟨s, e0, _, hs⟩ := DataW.trod_string Tryz.underlying9 h0
      obtain ⟨z, e1, _, hz⟩ := DataW.trod_int Tryz.underlying3 h1
      obtain ⟨b, e2, _⟩ := DataW.trod_bool Tryz.underlying4 h2
      simp at e0 e1 e2
      subst e0 e1 e2
      exact ⟨⟨s, z, b⟩, rfl, hs, hz⟩

set_option maxRecDepth 100000 in
theorem open_syms {H : Type} {enc : TypeId × Value → H} {W : World} {base : Nat} {spare : Nat → Bool} {held : Bool} {v : Value} {d : DataW H} {p : List MemPlace} {a : Option Addr} {len cap : Nat} (hv : v = .slice a len cap)
    (h : DataW.Trod enc Tryz.prog W base spare held 22 v d p) : ∃ ss : List SymD, len = ss.length ∧ len ≤ maxLen ∧ RdS W a ss ∧ ∀ s ∈ ss, s.name.size ≤ maxLen ∧ (Lit.int .i64 s.ar).wf = true := by
  subst hv
  obtain ⟨fuel, hf⟩ := h
  rcases Deep.open_slice Tryz.underlying22 hf with ⟨hcs, _⟩ | ⟨x, l, c, m, n, Dd, Pl, hcs, _, hl, hm, hmm, _, hel⟩
  · simp [Value.cells] at hcs
    obtain ⟨rfl, rfl, rfl⟩ := hcs
    exact ⟨[], rfl, Nat.zero_le _, .inl rfl, fun s hs => by simp at hs⟩
  · simp [Value.cells] at hcs
    obtain ⟨rfl, rfl, rfl⟩ := hcs
    rw [cells38] at hel
    have hlm : len ≤ m := by rw [hmm]; split <;> omega
    have hall : ∀ i, i < len → ∃ s : SymD, W.cells? base (x.add (i * 3)) 3 = some (symC s) ∧ s.name.size ≤ maxLen ∧ (Lit.int .i64 s.ar).wf = true := by
      intro i hi
      obtain ⟨cs', h1, h2⟩ := hel i (by omega)
      obtain ⟨s, rfl, h3, h4⟩ := sym_of_trod h2
      exact ⟨s, h1, h3, h4⟩
    obtain ⟨F, hF⟩ := Deep.choose_lt hall
    refine ⟨(List.range len).map F, by simp, by omega, ?_, ?_⟩
    · by_cases h0 : len = 0
      · subst h0; exact .inl rfl
      · have hcell : ∀ i, (hi : i < len) → ∀ j, j < 3 → W.cell? ((x.add (i * 3)).add j) = (symC (F i))[j]? := fun i hi j hj => (World.cells?_some (hF i hi).1).2.2 j hj
        obtain ⟨b, off, spot⟩ := x
        have hc0 := hcell 0 (by omega) 0 (by omega)
        have hspot : spot = none := by
          have h1 : W.cell? (⟨b, off, spot⟩ : Addr) = some (.string (F 0).name) := by simpa [Addr.add, symC] using hc0
          simpa using World.cell?_spot h1
        subst hspot
        have hadd : ∀ i j, ((⟨b, off, none⟩ : Addr).add i).add j = ⟨b, off + i + j, none⟩ := by
          intro i j
          by_cases h1 : i = 0 <;> by_cases h2 : j = 0 <;> simp [Addr.add, h1, h2, Nat.add_assoc]
        have hb : b < W.heap.size := by
          have h1 : W.cell? (⟨b, off, none⟩ : Addr) = some (.string (F 0).name) := by simpa [Addr.add, symC] using hc0
          exact World.block_lt_of_cell? _ _ h1
        refine .inr ⟨b, off, rfl, hb, fun i hi => ?_⟩
        simp at hi
        have g0 := hcell i hi 0 (by omega)
        have g1 := hcell i hi 1 (by omega)
        have g2 := hcell i hi 2 (by omega)
        rw [hadd] at g0 g1 g2
        simp [symC] at g0 g1 g2
        simp [g0, g1, g2]
    · intro s hs
      simp at hs
      obtain ⟨i, hi, rfl⟩ := hs
      exact ⟨(hF i hi).2.1, (hF i hi).2.2⟩
end Go.Proofs.YtollijngiioonabGreat

