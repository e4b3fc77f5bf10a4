/- Contracts of the laws' copies of terms. Conditions: terms of at most 549755813888 parts. -/
import Derived.Test.YtollijngiioonabProg
import Derived.Test.YtollijngiioonabTermOwn
import Derived.Deep.RegionHeld3
import Derived.Deep.DeepMust
namespace Go.Proofs.Ytollijngiioonab
set_option maxRecDepth 100000
open Go.RowKit

set_option maxHeartbeats 1600000 in
theorem toTerm_of (t : TermD) (a : Option Addr) (c : Nat) (w : World)
    (H : ∀ w', Below w.heap.size w w' → Calls Try.prog 33 #[.slice a t.kids.length c] w' fun e w'' => e = .returned (.slice (some ⟨w'.heap.size, 0, none⟩) t.kids.length t.kids.length) ∧ OwnS w'' (fun x => w'.heap.size ≤ x ∧ x < w''.heap.size) (some ⟨w'.heap.size, 0, none⟩) t.kids ∧ Below w'.heap.size w' w'') :
    Calls Try.prog 20 #[.agg #[.int .i64 t.f, .int .i64 t.v, .slice a t.kids.length c]] w fun e w' => ∃ a', e = .returned (.agg #[.int .i64 t.f, .int .i64 t.v, .slice a' t.kids.length t.kids.length]) ∧ OwnS w' (fun x => w.heap.size ≤ x ∧ x < w'.heap.size) a' t.kids ∧ Below w.heap.size w w' := by
  generalize t.kids = ks at *
  obtain ⟨W, hW⟩ : ∃ W, W = (((w.alloc (.cells #[.int .i64 t.f, .int .i64 t.v, .slice a ks.length c] 24)).alloc (.cells #[.int .i64 0, .int .i64 0, .slice none 0 0] 31)).alloc (.cells #[.int .i64 t.f, .int .i64 t.v, .slice none 0 0] 31)) := ⟨_, rfl⟩
  have hWs : W.heap.size = w.heap.size + 1 + 1 + 1 := by rw [hW]; simp
  have h0 : Below w.heap.size w W := by rw [hW]; exact (((Below.refl _ _).alloc (Nat.le_refl _) _).alloc (by simp) _).alloc (by simp; omega) _
  have H1 := H W h0
  have x0 : W.cell? ⟨w.heap.size + 1, 0, none⟩ = some (.int .i64 0) := by rw [hW]; simp [go_sem]
  have x1 : W.cell? ⟨w.heap.size + 1, 1, none⟩ = some (.int .i64 0) := by rw [hW]; simp [go_sem]
  have x2 : W.cell? ⟨w.heap.size + 1, 2, none⟩ = some (.slice none 0 0) := by rw [hW]; simp [go_sem]
  have y0 : W.cell? ⟨w.heap.size + 1 + 1, 0, none⟩ = some (.int .i64 t.f) := by rw [hW]; simp [go_sem]
  have y1 : W.cell? ⟨w.heap.size + 1 + 1, 1, none⟩ = some (.int .i64 t.v) := by rw [hW]; simp [go_sem]
  have y2 : W.cell? ⟨w.heap.size + 1 + 1, 2, none⟩ = some (.slice none 0 0) := by rw [hW]; simp [go_sem]
  have fz : ∀ j, W.frozen? ⟨w.heap.size + 1, j, none⟩ = false := by intro j; rw [hW]; simp [go_sem]
  have gz : ∀ j, W.frozen? ⟨w.heap.size + 1 + 1, j, none⟩ = false := by intro j; rw [hW]; simp [go_sem]
  rw [hWs] at H1
  clear H
  go_enter Try.func20, Try.ntmps20
  go_wp2_with (go_at_call 33; (rw [← hW]; refine H1.mono ?_; rintro e w1 ⟨rfl, ho1, hb1⟩; have hb3 := hb1; have hbW : Below W.heap.size W w1 := (by rw [hWs]; exact hb1); have a0 := keepC hbW x0; have a1 := keepC hbW x1; have a2 := keepC hbW x2; have b0 := keepC hbW y0; have b1 := keepC hbW y1; have b2 := keepC hbW y2; have fa : ∀ j, w1.frozen? ⟨w.heap.size + 1, j, none⟩ = false := (fun j => (World.frozen?_of_block (a := ⟨w.heap.size + 1, j, none⟩) (hb3.block (w.heap.size + 1) (by omega))).trans (fz j)); have fb : ∀ j, w1.frozen? ⟨w.heap.size + 1 + 1, j, none⟩ = false := (fun j => (World.frozen?_of_block (a := ⟨w.heap.size + 1 + 1, j, none⟩) (hb3.block (w.heap.size + 1 + 1) (by omega))).trans (gz j)); have hB1 := h0.trans (hbW.mono h0.size); have hsz := hb3.size; clear H1 hb1 hb3 hbW x0 x1 x2 y0 y1 y2 fz gz h0 hW))
  have other : ∀ j, (w1.setCell ⟨w.heap.size + 1 + 1, 2, none⟩ (.slice (some ⟨w.heap.size + 1 + 1 + 1, 0, none⟩) ks.length ks.length)).cell? ⟨w.heap.size + 1, j, none⟩ = w1.cell? ⟨w.heap.size + 1, j, none⟩ := fun j => World.cell?_setCell_other _ _ _ _ (by simp)
  obtain ⟨q0, q1, q2⟩ := set3_cells (u := w1.setCell ⟨w.heap.size + 1 + 1, 2, none⟩ (.slice (some ⟨w.heap.size + 1 + 1 + 1, 0, none⟩) ks.length ks.length)) (r := w.heap.size + 1) (x := .int .i64 t.f) (y := .int .i64 t.v) (z := .slice (some ⟨w.heap.size + 1 + 1 + 1, 0, none⟩) ks.length ks.length) ((other 0).trans a0) ((other 1).trans a1) ((other 2).trans a2)
  have hn2 : ¬ (w.heap.size + 1 + 1 + 1 ≤ w.heap.size + 1 + 1 ∧ w.heap.size + 1 + 1 < w1.heap.size) := by omega
  have hn1 : ¬ (w.heap.size + 1 + 1 + 1 ≤ w.heap.size + 1 ∧ w.heap.size + 1 < w1.heap.size) := by omega
  have O := (((ho1.setCell ⟨w.heap.size + 1 + 1, 2, none⟩ hn2 (.slice (some ⟨w.heap.size + 1 + 1 + 1, 0, none⟩) ks.length ks.length)).setCell ⟨w.heap.size + 1, 0, none⟩ hn1 (.int .i64 t.f)).setCell ⟨w.heap.size + 1, 1, none⟩ hn1 (.int .i64 t.v)).setCell ⟨w.heap.size + 1, 2, none⟩ hn1 (.slice (some ⟨w.heap.size + 1 + 1 + 1, 0, none⟩) ks.length ks.length)
  refine bodyPost_ret (v := .agg #[.int .i64 t.f, .int .i64 t.v, .slice (some ⟨w.heap.size + 1 + 1 + 1, 0, none⟩) ks.length ks.length]) (by simp [results, Try.results20, go_sem, q0, q1, q2]) rfl ⟨_, rfl, O.mono (fun x hx => ⟨by omega, by simpa using hx.2⟩), ?_⟩
  exact (((hB1.setCell (p := ⟨w.heap.size + 1 + 1, 2, none⟩) (by simp; omega) _).setCell (p := ⟨w.heap.size + 1, 0, none⟩) (by simp) _).setCell (p := ⟨w.heap.size + 1, 1, none⟩) (by simp) _).setCell (p := ⟨w.heap.size + 1, 2, none⟩) (by simp) _

theorem info29 : (Try.prog.info? 31).map (fun i => (i.zero, i.size, i.bytes)) = some (some (.agg #[.int .i64 0, .int .i64 0, .slice none 0 0]), 3, 40) := by kernel_rfl

/-- What lies in memory when the first k terms of a list are copied. -/
structure CopySt (w wr : World) (ts : List TermD) (k : Nat) (A : Nat → Option Addr) (L : Nat → Nat) : Prop where
  row : wr.ownsRow w.heap.size 31 3 (.slice (some ⟨w.heap.size, 0, none⟩) ts.length ts.length) ts.length (cs3 (laidTo ts A k))
  low : w.heap.size < L 0
  mono : ∀ i, i < k → L i ≤ L (i + 1)
  top : L k ≤ wr.heap.size
  kid : ∀ i, (h : i < ts.length) → i < k → OwnS wr (fun x => L i ≤ x ∧ x < L (i + 1)) (A i) ts[i].kids
  below : Below w.heap.size w wr

theorem CopySt.le {w wr : World} {ts : List TermD} {k : Nat} {A : Nat → Option Addr} {L : Nat → Nat} (h : CopySt w wr ts k A L) : ∀ i j, i ≤ j → j ≤ k → L i ≤ L j := by
  intro i j
  induction j with
  | zero => intro h1 _; have : i = 0 := by omega
            subst this; exact Nat.le_refl _
  | succ j ih =>
    intro h1 h2
    by_cases e : i = j + 1
    · subst e; exact Nat.le_refl _
    · exact Nat.le_trans (ih (by omega) (by omega)) (h.mono j (by omega))

theorem CopySt.done {w wr : World} {ts : List TermD} {A : Nat → Option Addr} {L : Nat → Nat} (h : CopySt w wr ts ts.length A L) (hl : ts.length ≤ 9223372036854775807) (hz : ∀ i, (h : i < ts.length) → isW ts[i].f ∧ isW ts[i].v) :
    OwnS wr (fun x => w.heap.size ≤ x ∧ x < wr.heap.size) (some ⟨w.heap.size, 0, none⟩) ts := by
  have hlt := (h.row.lt _ rfl).2
  refine .row _ w.heap.size 0 ts A (fun i => (ts[i]?.getD default).kids.length) (fun i x => L i ≤ x ∧ x < L (i + 1)) ⟨Nat.le_refl _, hlt⟩ hlt ⟨hl, fun i hi => by simp [hi]⟩ hz (fun i hi => ?_) (fun j => h.row.frozenAt j) (fun i x hi hx => ?_) (fun i j x hi hj hne hx hy => ?_) (fun i hi => h.kid i hi hi)
  · obtain ⟨c0, c1, c2⟩ := cs3_cells (by rw [laidTo_len]) (k := i) (by rw [laidTo_len]; exact hi) h.row
    have e : (laidTo ts A ts.length)[i]'(by rw [laidTo_len]; exact hi) = (.int .i64 ts[i].f, .int .i64 ts[i].v, .slice (A i) ts[i].kids.length ts[i].kids.length) := by
      simp [laidTo, hi]
    rw [e] at c0 c1 c2
    simp only [Nat.zero_add]
    exact ⟨c0, c1, by simpa [hi] using c2⟩
  · have h1 := h.le 0 i (by omega) (by omega)
    have h2 := h.le (i + 1) ts.length (by omega) (Nat.le_refl _)
    have h3 := h.low
    have h4 := h.top
    exact ⟨⟨by omega, by omega⟩, by omega⟩
  · rcases Nat.lt_or_gt_of_ne hne with hh | hh
    · have := h.le (i + 1) j (by omega) (by omega)
      omega
    · have := h.le (j + 1) i (by omega) (by omega)
      omega

/-- One more term is copied. -/
theorem CopySt.step {w wr w1 : World} {ts : List TermD} {k : Nat} {A : Nat → Option Addr} {L : Nat → Nat} (h : CopySt w wr ts k A L) (hk : k < ts.length) {a' : Option Addr} (ho : OwnS w1 (fun x => wr.heap.size ≤ x ∧ x < w1.heap.size) a' ts[k].kids) (hb : Below wr.heap.size wr w1) :
    CopySt w (((w1.setCell ⟨w.heap.size, k * 3, none⟩ (.int .i64 ts[k].f)).setCell ⟨w.heap.size, k * 3 + 1, none⟩ (.int .i64 ts[k].v)).setCell ⟨w.heap.size, k * 3 + 2, none⟩ (.slice a' ts[k].kids.length ts[k].kids.length)) ts (k + 1) (fun i => if i = k then a' else A i) (fun i => if i ≤ k then L i else w1.heap.size) := by
  have h3 := h.low
  have h4 := h.top
  have h5 := hb.size
  have hle := h.le
  refine ⟨?_, ?_, fun i hi => ?_, ?_, fun i hi hik => ?_, ?_⟩
  · have r := cs3_store (t := (.int .i64 ts[k].f, .int .i64 ts[k].v, .slice a' ts[k].kids.length ts[k].kids.length)) (k := k) (by rw [laidTo_len]; exact hk) (own_on h.row hb)
    rwa [laidTo_set ts A hk a'] at r
  · simp only [Nat.zero_le, if_true]; exact h3
  · by_cases e : i = k
    · subst e
      simp only [Nat.le_refl, if_true, show ¬ i + 1 ≤ i by omega, if_false]; omega
    · simp only [show i ≤ k by omega, show i + 1 ≤ k by omega, if_true]; exact h.mono i (by omega)
  · simp only [show ¬ k + 1 ≤ k by omega, if_false, World.size_setCell]; exact Nat.le_refl _
  · have h0i := hle 0 i (by omega) (by omega)
    by_cases e : i = k
    · subst e
      simp only [Nat.le_refl, if_true, show ¬ i + 1 ≤ i by omega, if_false]
      have hn : ¬ (L i ≤ w.heap.size ∧ w.heap.size < w1.heap.size) := by omega
      exact (((ho.mono (S' := fun x => L i ≤ x ∧ x < w1.heap.size) (fun x hx => ⟨by omega, hx.2⟩)).setCell ⟨w.heap.size, i * 3, none⟩ hn _).setCell ⟨w.heap.size, i * 3 + 1, none⟩ hn _).setCell ⟨w.heap.size, i * 3 + 2, none⟩ hn _
    · simp only [show i ≤ k by omega, show i + 1 ≤ k by omega, if_true, e, if_false]
      have h6 := hle (i + 1) k (by omega) (Nat.le_refl _)
      have hn : ¬ (L i ≤ w.heap.size ∧ w.heap.size < L (i + 1)) := by omega
      have o := (h.kid i hi (by omega)).frame (w' := w1) (fun x hx => hb.block x (by omega)) hb.size
      exact ((o.setCell ⟨w.heap.size, k * 3, none⟩ hn _).setCell ⟨w.heap.size, k * 3 + 1, none⟩ hn _).setCell ⟨w.heap.size, k * 3 + 2, none⟩ hn _
  · have hB := h.below.trans (hb.mono h.below.size)
    exact ((hB.setCell (p := ⟨w.heap.size, k * 3, none⟩) (Nat.le_refl _) _).setCell (p := ⟨w.heap.size, k * 3 + 1, none⟩) (Nat.le_refl _) _).setCell (p := ⟨w.heap.size, k * 3 + 2, none⟩) (Nat.le_refl _) _

set_option maxHeartbeats 1600000 in
theorem toTermS_any (N : Nat) : ∀ (ts : List TermD) (a : Option Addr) (c hi : Nat) (w : World), partsL ts ≤ N → N ≤ 549755813888 → RdK w hi a ts → hi ≤ w.heap.size →
    Calls Try.prog 33 #[.slice a ts.length c] w fun e w' => e = .returned (.slice (some ⟨w.heap.size, 0, none⟩) ts.length ts.length) ∧ OwnS w' (fun x => w.heap.size ≤ x ∧ x < w'.heap.size) (some ⟨w.heap.size, 0, none⟩) ts ∧ Below w.heap.size w w' := by
  obtain ⟨i0, hi0, hz0, hz1, hz2⟩ := info_parts info29
  induction N with
  | zero =>
    intro ts a c hi w hN hM hr hhi
    have h1 := partsL_len ts
    have : ts = [] := List.length_eq_zero_iff.1 (by omega)
    subst this
    go_enter Try.func33, Try.ntmps33
    go_wp2_with (first
      | (at_make; refine wpList_make_full _ rfl _ _ 29 rfl w.heap.size 31 i0 _ 3 Try.underlying29 hi0 hz0 hz1 _ _ _ _ 0 rfl rfl rfl rfl (by omega) (by unfold maxLen; omega) (Nat.le_refl _) ?_; intro w1 hown hgrow))
    refine wp_loop_rounds 1 ?_
    rw [rounds_succ]
    go_wp2_with fail
    go_ret
    exact ⟨rfl, .nil _ _, (Below.refl _ _).grown hgrow (Nat.le_refl _) (by simp)⟩
  | succ N ih =>
    intro ts a c hi w hN hM hr hhi
    have hlen := partsL_len ts
    have HZ : Hid (∀ i, (h : i < ts.length) → isW ts[i].f ∧ isW ts[i].v) := fun i h => hr.ints h
    have HR : Hid (RdK w hi a ts) := hr
    clear hr
    go_enter Try.func33, Try.ntmps33
    go_wp2_with (first
      | (at_make; refine wpList_make_full _ rfl _ _ 29 rfl w.heap.size 31 i0 _ 3 Try.underlying29 hi0 hz0 hz1 _ _ _ _ ts.length rfl rfl rfl rfl (by rw [hz2]; omega) (by unfold maxLen; omega) (Nat.le_refl _) ?_; intro w1 hown hgrow))
    have hlt1 : w.heap.size < w1.heap.size := (hown.lt _ rfl).2
    have S0 : CopySt w w1 ts 0 (fun _ => none) (fun _ => w1.heap.size) := ⟨by rw [laidTo_zero, ← cs3_made]; exact hown, hlt1, fun i hi => absurd hi (by omega), Nat.le_refl _, fun i _ hi => absurd hi (by omega), (Below.refl _ _).grown hgrow (Nat.le_refl _) (by simp)⟩
    clear hown hgrow hlt1
    go_loopw [4] (fun i wr => ∃ (k : Nat) (A : Nat → Option Addr) (L : Nat → Nat), k ≤ ts.length ∧ i = .int .i64 k ∧ CopySt w wr ts k A L) (fun i _ => ts.length - (intOf i).toNat)
    case atStart => exact ⟨0, _, _, Nat.zero_le _, rfl, S0⟩
    case round =>
      obtain ⟨k, A, L, hk, rfl, S⟩ := hrel
      clear S0
      by_cases hk' : k < ts.length
      · obtain ⟨b, off, a', c', rfl, hlt, d0, d1, d2, hkr⟩ := RdK.kid (HR.out.on (S.below.mono hhi)) hk'
        have hpg := partsL_get hk'
        have hpt := partsT_eq ts[k]
        have hki : (k : Int) < (ts.length : Int) := by omega
        have hwr := Nat.le_trans hhi S.below.size
        have T := toTerm_of ts[k] a' c' wr (fun w' h => ih ts[k].kids a' c' hi w' (by omega) (by omega) (hkr.on (h.mono hwr)) (Nat.le_trans hwr h.size))
        have hlen2 := laidTo_len ts A k
        have hkl : k < (laidTo ts A k).length := by rw [hlen2]; exact hk'
        clear hkr hpt
        go_wp2_with (go_at_call 20; refine T.mono ?_; rintro e w2 ⟨a2, rfl, ho, hb⟩; clear T; have S1 := S.step hk' ho hb; have hown2 := own_on S.row hb; obtain ⟨e0, e1, e2⟩ := cs3_cells hlen2.symm hkl hown2; have f0 := hown2.frozenAt (k * 3); have f1 := hown2.frozenAt (k * 3 + 1); have f2 := hown2.frozenAt (k * 3 + 2); clear hown2 S ho hb d0 d1 d2 hlen2)
        go_roundw
        case rel => exact ⟨k + 1, _, _, by omega, by go_num, S1⟩
        case measure => simp [intOf]; omega
      · have e : k = ts.length := by omega
        have S1 : CopySt w wr ts ts.length A L := e ▸ S
        clear e S
        go_wp2_with fail
        go_ret
        exact ⟨rfl, S1.done (by omega) HZ.out, S1.below⟩

theorem toTerm_any (t : TermD) (a : Option Addr) (c hi : Nat) (w : World) (hp : partsT t ≤ 549755813888) (hr : RdK w hi a t.kids) (hhi : hi ≤ w.heap.size) :
    Calls Try.prog 20 #[.agg #[.int .i64 t.f, .int .i64 t.v, .slice a t.kids.length c]] w fun e w' => ∃ a', e = .returned (.agg #[.int .i64 t.f, .int .i64 t.v, .slice a' t.kids.length t.kids.length]) ∧ OwnS w' (fun x => w.heap.size ≤ x ∧ x < w'.heap.size) a' t.kids ∧ Below w.heap.size w w' :=
  toTerm_of t a c w (fun w' h => toTermS_any (partsL t.kids) t.kids a c hi w' (Nat.le_refl _) (by rw [partsT_eq] at hp; omega) (hr.on (h.mono hhi)) (Nat.le_trans hhi h.size))
end Go.Proofs.Ytollijngiioonab
