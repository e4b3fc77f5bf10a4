/- What the proof of FnExactSubOk stands on, part 2 of 12: each piece says what it proves and under which conditions. Conditions: as each piece says. -/
import Derived.Test.YtkjlldbgooogdabPackExactSubOk1
import Derived.Test.YtkjlldbgooogdabProg
import Derived.Deep.RegionHeld3
import Derived.Deep.DeepMust
import Derived.RangeFuncNested
import Derived.RangeFuncCalls
import Derived.RangeFuncLeaves
import Derived.Below
import Derived.Sort.AssemblyPlain
import Derived.Sort.WalkA
import Derived.WalkKit
import Derived.BigCall
import Derived.BigGuard
import Derived.Laws.Externs
import Derived.Shelf.Abstract
import Derived.Shelf.RegionOpenPlain
import Derived.Sort.WalkB2
/- Contracts of the laws' helpers on what is put for variables: how much it holds, whether two are alike. Conditions: at most 4194304 parts. -/
namespace Go.Proofs.Ytkjlldbgooogdab
set_option maxRecDepth 100000
open Go.RowKit

set_option maxHeartbeats 800000 in
theorem szBind_any (u : BindD) (a : Option Addr) (c hi : Nat) (m : Int) (w : World) (hm0 : 0 ≤ m) (hm : m ≤ 1048576) (hr : RdK w hi a u.t.kids) (hhi : hi ≤ w.heap.size) :
    Calls Try.prog 46 #[.agg #[.int .i64 u.n, .int .i64 u.t.f, .int .i64 u.t.v, .slice a u.t.kids.length c], .int .i64 m] w fun e w' => e = .returned (.int .i64 (szR u.t.kids m)) ∧ Below w.heap.size w w' := by
  have h0 : Below w.heap.size w (w.alloc (.cells #[.int .i64 u.n, .int .i64 u.t.f, .int .i64 u.t.v, .slice a u.t.kids.length c] 71)) := (Below.refl w.heap.size w).alloc (Nat.le_refl _) _
  have H1 := szTerm_any u.t a c hi m _ hm0 hm (hr.on (h0.mono hhi)) (Nat.le_trans hhi h0.size)
  have hr1 : szR u.t.kids m < 0 → szR u.t.kids m = -1 := by unfold szR; split <;> omega
  generalize szR u.t.kids m = r at *
  by_cases hn : r < 0
  · have hr2 := hr1 hn
    subst hr2
    clear hr1
    go_enter Try.func46, Try.ntmps46
    go_wp2_with (go_at_call 28; refine H1.mono ?_; rintro e w1 ⟨rfl, hb1⟩; clear H1)
    go_ret
    exact ⟨rfl, h0.trans (hb1.mono h0.size)⟩
  · clear hr1
    go_enter Try.func46, Try.ntmps46
    go_wp2_with (go_at_call 28; refine H1.mono ?_; rintro e w1 ⟨rfl, hb1⟩; clear H1)
    go_ret
    exact ⟨rfl, h0.trans (hb1.mono h0.size)⟩

set_option maxHeartbeats 1600000 in
theorem szBindS_any (us : List BindD) (a : Option Addr) (c hi : Nat) (m : Int) (w : World) (hm0 : 0 ≤ m) (hm : m ≤ 1048576) (hl : us.length ≤ 9223372036854775807) (hr : RdU w hi a us) (hhi : hi ≤ w.heap.size) :
    Calls Try.prog 20 #[.slice a us.length c, .int .i64 m] w fun e w' => e = .returned (.int .i64 (szU us m)) ∧ Below w.heap.size w w' := by
  have HR : Hid _ := hr
  clear hr
  by_cases h0 : (us.length : Int) ≤ m
  · have hsub : IntKind.i64.wrap (m - (us.length : Int)) = m - (us.length : Int) := by rw [IntKind.wrap_i64]; omega
    have hnn : ¬ (m - (us.length : Int)) < 0 := by omega
    go_enter Try.func20, Try.ntmps20
    go_wp2_with fail
    go_loopw [1, 5] (fun l i wr => ∃ k : Nat, k ≤ us.length ∧ i = .int .i64 k ∧ l = .int .i64 (m - us.length - (((us.take k).map (fun u => partsL u.t.kids)).sum : Nat)) ∧ (((us.take k).map (fun u => partsL u.t.kids)).sum : Int) ≤ m - us.length ∧ Below w.heap.size w wr) (fun _ i _ => us.length - (intOf i).toNat)
    case atStart => exact ⟨0, Nat.zero_le _, rfl, by simp, by simp; omega, Below.refl _ _⟩
    case round =>
      obtain ⟨k, hk, rfl, rfl, hle, hb⟩ := hrel
      by_cases hk' : k < us.length
      · obtain ⟨b, off, a', c', rfl, hlt, d0, d1, d2, d3, hc', hkr, hz⟩ := RdU.get (HR.out.on (hb.mono hhi)) hk'
        have hki : (k : Int) < (us.length : Int) := by omega
        have HN : Hid _ := sum_nextU hk'
        have HT : Hid _ := sum_takeU us (k + 1)
        obtain ⟨S, hS⟩ : ∃ S, S = ((us.take k).map (fun u => partsL u.t.kids)).sum := ⟨_, rfl⟩
        rw [← hS] at hle HN ⊢
        clear hS
        have C := szBind_any us[k] a' c' hi (m - us.length - (S : Nat)) wr (by omega) (by omega) hkr (Nat.le_trans hhi hb.size)
        generalize us[k] = u at d0 d1 d2 d3 C HN
        by_cases hp : (partsL u.t.kids : Int) ≤ m - us.length - (S : Nat)
        · rw [show szR u.t.kids (m - us.length - (S : Nat)) = m - us.length - (S : Nat) - partsL u.t.kids by unfold szR; rw [if_pos hp]] at C
          have hn2 : ¬ (m - (us.length : Int) - (S : Nat) - (partsL u.t.kids : Int)) < 0 := by omega
          clear hkr hz hc'
          go_wp2_with (go_at_call 46; refine C.mono ?_; rintro e w1 ⟨rfl, hb1⟩; clear C)
          go_roundw
          case rel => exact ⟨k + 1, by omega, by go_num, by rw [HN.out]; congr 1; push_cast; omega, by rw [HN.out]; push_cast; omega, hb.trans (hb1.mono hb.size)⟩
          case measure => simp [intOf]; omega
        · rw [show szR u.t.kids (m - us.length - (S : Nat)) = -1 by unfold szR; rw [if_neg hp]] at C
          have HF : Hid (szU us m = -1) := by
            show _ = _
            unfold szU partsU
            rw [if_neg]
            have h1 := HN.out
            have h2 := HT.out
            push_cast
            omega
          clear hkr hz hc'
          go_wp2_with (go_at_call 46; refine C.mono ?_; rintro e w1 ⟨rfl, hb1⟩; clear C)
          go_ret
          exact ⟨rt_int HF.out.symm, hb.trans (hb1.mono hb.size)⟩
      · have e : k = us.length := by omega
        have HF : Hid (szU us m = m - us.length - (((us.take k).map (fun u => partsL u.t.kids)).sum : Nat)) := by
          show _ = _
          rw [e, List.take_length] at hle ⊢
          unfold szU partsU
          rw [if_pos (by push_cast; omega)]
          push_cast; omega
        have hki : ¬ (k : Int) < (us.length : Int) := by omega
        clear e
        go_wp2_with fail
        go_ret
        exact ⟨rt_int (by rw [HF.out, List.map_take]), hb⟩
  · have hsub : IntKind.i64.wrap (m - (us.length : Int)) = m - (us.length : Int) := by rw [IntKind.wrap_i64]; omega
    have hnn : (m - (us.length : Int)) < 0 := by omega
    have HF : Hid (szU us m = -1) := by
      show _ = _
      unfold szU partsU
      rw [if_neg]
      push_cast
      omega
    go_enter Try.func20, Try.ntmps20
    go_wp2_with fail
    go_ret
    exact ⟨rt_int HF.out.symm, Below.refl _ _⟩

set_option maxHeartbeats 800000 in
theorem eqBind_same (u : BindD) (a a' : Option Addr) (c c' hi : Nat) (w : World) (hp : partsT u.t ≤ 4194304) (hr : RdK w hi a u.t.kids) (hr' : RdK w hi a' u.t.kids) (hhi : hi ≤ w.heap.size) :
    Calls Try.prog 53 #[.agg #[.int .i64 u.n, .int .i64 u.t.f, .int .i64 u.t.v, .slice a u.t.kids.length c], .agg #[.int .i64 u.n, .int .i64 u.t.f, .int .i64 u.t.v, .slice a' u.t.kids.length c']] w fun e w' => e = .returned (.bool true) ∧ Below w.heap.size w w' := by
  have h0 : Below w.heap.size w ((w.alloc (.cells #[.int .i64 u.n, .int .i64 u.t.f, .int .i64 u.t.v, .slice a u.t.kids.length c] 73)).alloc (.cells #[.int .i64 u.n, .int .i64 u.t.f, .int .i64 u.t.v, .slice a' u.t.kids.length c'] 73)) := ((Below.refl _ _).alloc (Nat.le_refl _) _).alloc (by simp) _
  have H1 := eqTerm_same u.t a a' c c' hi _ hp (hr.on (h0.mono hhi)) (hr'.on (h0.mono hhi)) (Nat.le_trans hhi h0.size)
  go_enter Try.func53, Try.ntmps53
  go_wp2_with (go_at_call 13; refine H1.mono ?_; rintro e w1 ⟨rfl, hb1⟩; clear H1)
  go_ret
  exact ⟨rfl, h0.trans (hb1.mono h0.size)⟩

set_option maxHeartbeats 1600000 in
theorem eqBindS_same (us : List BindD) (a a' : Option Addr) (c c' hi : Nat) (w : World) (hp : partsU us ≤ 4194303) (hr : RdU w hi a us) (hr' : RdU w hi a' us) (hhi : hi ≤ w.heap.size) :
    Calls Try.prog 24 #[.slice a us.length c, .slice a' us.length c'] w fun e w' => e = .returned (.bool true) ∧ Below w.heap.size w w' := by
  have HR : Hid _ := hr
  have HR' : Hid _ := hr'
  have hlen : us.length ≤ 4194304 := by unfold partsU at hp; omega
  clear hr hr'
  go_enter Try.func24, Try.ntmps24
  go_wp2_with fail
  go_loopw [5] (fun i wr => ∃ k : Nat, k ≤ us.length ∧ i = .int .i64 k ∧ Below w.heap.size w wr) (fun i _ => us.length - (intOf i).toNat)
  case atStart => exact ⟨0, Nat.zero_le _, rfl, Below.refl _ _⟩
  case round =>
    obtain ⟨k, hk, rfl, hb⟩ := hrel
    by_cases hk' : k < us.length
    · obtain ⟨b, off, x, xc, rfl, hlt, d0, d1, d2, d3, _, hkr, _⟩ := RdU.get (HR.out.on (hb.mono hhi)) hk'
      obtain ⟨b', off', y, yc, rfl, hlt', g0, g1, g2, g3, _, hkr', _⟩ := RdU.get (HR'.out.on (hb.mono hhi)) hk'
      have hki : (k : Int) < (us.length : Int) := by omega
      have hki0 : (0 : Int) ≤ (k : Int) := by omega
      have hpg := partsU_get hk'
      have hpt := partsT_eq us[k].t
      have C := fun (W' : World) (h : Below wr.heap.size wr W') => eqBind_same us[k] x y xc yc hi W' (by omega) (hkr.on (h.mono (Nat.le_trans hhi hb.size))) (hkr'.on (h.mono (Nat.le_trans hhi hb.size))) (Nat.le_trans (Nat.le_trans hhi hb.size) h.size)
      generalize us[k] = u at d0 d1 d2 d3 g0 g1 g2 g3 C
      clear hkr hkr' hpg hpt
      go_wp2_with fail
      have k0 := cellB d0
      have k1 := cellB d1
      have k2 := cellB d2
      have k3 := cellB d3
      have l0 := cellB g0
      have l1 := cellB g1
      have l2 := cellB g2
      have l3 := cellB g3
      refine wp_region_below (by kernel_rfl) (by kernel_rfl) ?_
      repeat (go_big_quiet_step ((go_at_call 53; refine callsB (C _ (BW.b _)))))
      refine wpQuiet_nil ?_
      intro w2 hw'
      have hb2 : Below wr.heap.size wr w2 := by obtain ⟨p, rfl⟩ := hw'; exact p.b
      clear hw' k0 k1 k2 k3 l0 l1 l2 l3
      go_wp2_with fail
      go_roundw
      case rel => exact ⟨k + 1, by omega, by go_num, hb.trans (hb2.mono hb.size)⟩
      case measure => simp [intOf]; omega
    · have hki : ¬ (k : Int) < (us.length : Int) := by omega
      go_wp2_with fail
      go_ret
      exact ⟨rfl, hb⟩
end Go.Proofs.Ytkjlldbgooogdab

/- Contracts of the laws' copies of terms. Conditions: terms of at most 4194304 parts. -/
namespace Go.Proofs.Ytkjlldbgooogdab
set_option maxRecDepth 100000
open Go.RowKit

set_option maxHeartbeats 1600000 in
theorem toTerm_of (t : TermD) (a : Option Addr) (c : Nat) (w : World)
    (H : ∀ w', Below w.heap.size w w' → Calls Try.prog 11 #[.slice a t.kids.length c] w' fun e w'' => e = .returned (.slice (some ⟨w'.heap.size, 0, none⟩) t.kids.length t.kids.length) ∧ OwnS w'' (fun x => w'.heap.size ≤ x ∧ x < w''.heap.size) (some ⟨w'.heap.size, 0, none⟩) t.kids ∧ Below w'.heap.size w' w'') :
    Calls Try.prog 30 #[.agg #[.int .i64 t.f, .int .i64 t.v, .slice a t.kids.length c]] w fun e w' => ∃ a', e = .returned (.agg #[.int .i64 t.f, .int .i64 t.v, .slice a' t.kids.length t.kids.length]) ∧ OwnS w' (fun x => w.heap.size ≤ x ∧ x < w'.heap.size) a' t.kids ∧ Below w.heap.size w w' := by
  generalize t.kids = ks at *
  obtain ⟨W, hW⟩ : ∃ W, W = (((w.alloc (.cells #[.int .i64 t.f, .int .i64 t.v, .slice a ks.length c] 51)).alloc (.cells #[.int .i64 0, .int .i64 0, .slice none 0 0] 28)).alloc (.cells #[.int .i64 t.f, .int .i64 t.v, .slice none 0 0] 28)) := ⟨_, rfl⟩
  have hWs : W.heap.size = w.heap.size + 1 + 1 + 1 := by rw [hW]; simp
  have h0 : Below w.heap.size w W := by rw [hW]; exact (((Below.refl _ _).alloc (Nat.le_refl _) _).alloc (by simp) _).alloc (by simp; omega) _
  have H1 := H W h0
  have x0 : W.cell? ⟨w.heap.size + 1, 0, none⟩ = some (.int .i64 0) := by rw [hW]; simp [go_sem]
  have x1 : W.cell? ⟨w.heap.size + 1, 1, none⟩ = some (.int .i64 0) := by rw [hW]; simp [go_sem]
  have x2 : W.cell? ⟨w.heap.size + 1, 2, none⟩ = some (.slice none 0 0) := by rw [hW]; simp [go_sem]
  have y0 : W.cell? ⟨w.heap.size + 1 + 1, 0, none⟩ = some (.int .i64 t.f) := by rw [hW]; simp [go_sem]
  have y1 : W.cell? ⟨w.heap.size + 1 + 1, 1, none⟩ = some (.int .i64 t.v) := by rw [hW]; simp [go_sem]
  have y2 : W.cell? ⟨w.heap.size + 1 + 1, 2, none⟩ = some (.slice none 0 0) := by rw [hW]; simp [go_sem]
  have fz : ∀ j, W.frozen? ⟨w.heap.size + 1, j, none⟩ = false := by intro j; rw [hW]; simp [go_sem]
  have gz : ∀ j, W.frozen? ⟨w.heap.size + 1 + 1, j, none⟩ = false := by intro j; rw [hW]; simp [go_sem]
  rw [hWs] at H1
  clear H
  go_enter Try.func30, Try.ntmps30
  go_wp2_with (go_at_call 11; (rw [← hW]; refine H1.mono ?_; rintro e w1 ⟨rfl, ho1, hb1⟩; have hb3 := hb1; have hbW : Below W.heap.size W w1 := (by rw [hWs]; exact hb1); have a0 := keepC hbW x0; have a1 := keepC hbW x1; have a2 := keepC hbW x2; have b0 := keepC hbW y0; have b1 := keepC hbW y1; have b2 := keepC hbW y2; have fa : ∀ j, w1.frozen? ⟨w.heap.size + 1, j, none⟩ = false := (fun j => (World.frozen?_of_block (a := ⟨w.heap.size + 1, j, none⟩) (hb3.block (w.heap.size + 1) (by omega))).trans (fz j)); have fb : ∀ j, w1.frozen? ⟨w.heap.size + 1 + 1, j, none⟩ = false := (fun j => (World.frozen?_of_block (a := ⟨w.heap.size + 1 + 1, j, none⟩) (hb3.block (w.heap.size + 1 + 1) (by omega))).trans (gz j)); have hB1 := h0.trans (hbW.mono h0.size); have hsz := hb3.size; clear H1 hb1 hb3 hbW x0 x1 x2 y0 y1 y2 fz gz h0 hW))
  have other : ∀ j, (w1.setCell ⟨w.heap.size + 1 + 1, 2, none⟩ (.slice (some ⟨w.heap.size + 1 + 1 + 1, 0, none⟩) ks.length ks.length)).cell? ⟨w.heap.size + 1, j, none⟩ = w1.cell? ⟨w.heap.size + 1, j, none⟩ := fun j => World.cell?_setCell_other _ _ _ _ (by simp)
  obtain ⟨q0, q1, q2⟩ := set3_cells (u := w1.setCell ⟨w.heap.size + 1 + 1, 2, none⟩ (.slice (some ⟨w.heap.size + 1 + 1 + 1, 0, none⟩) ks.length ks.length)) (r := w.heap.size + 1) (x := .int .i64 t.f) (y := .int .i64 t.v) (z := .slice (some ⟨w.heap.size + 1 + 1 + 1, 0, none⟩) ks.length ks.length) ((other 0).trans a0) ((other 1).trans a1) ((other 2).trans a2)
  have hn2 : ¬ (w.heap.size + 1 + 1 + 1 ≤ w.heap.size + 1 + 1 ∧ w.heap.size + 1 + 1 < w1.heap.size) := by omega
  have hn1 : ¬ (w.heap.size + 1 + 1 + 1 ≤ w.heap.size + 1 ∧ w.heap.size + 1 < w1.heap.size) := by omega
  have O := (((ho1.setCell ⟨w.heap.size + 1 + 1, 2, none⟩ hn2 (.slice (some ⟨w.heap.size + 1 + 1 + 1, 0, none⟩) ks.length ks.length)).setCell ⟨w.heap.size + 1, 0, none⟩ hn1 (.int .i64 t.f)).setCell ⟨w.heap.size + 1, 1, none⟩ hn1 (.int .i64 t.v)).setCell ⟨w.heap.size + 1, 2, none⟩ hn1 (.slice (some ⟨w.heap.size + 1 + 1 + 1, 0, none⟩) ks.length ks.length)
  refine bodyPost_ret (v := .agg #[.int .i64 t.f, .int .i64 t.v, .slice (some ⟨w.heap.size + 1 + 1 + 1, 0, none⟩) ks.length ks.length]) (by simp [results, Try.results30, go_sem, q0, q1, q2]) rfl ⟨_, rfl, O.mono (fun x hx => ⟨by omega, by simpa using hx.2⟩), ?_⟩
  exact (((hB1.setCell (p := ⟨w.heap.size + 1 + 1, 2, none⟩) (by simp; omega) _).setCell (p := ⟨w.heap.size + 1, 0, none⟩) (by simp) _).setCell (p := ⟨w.heap.size + 1, 1, none⟩) (by simp) _).setCell (p := ⟨w.heap.size + 1, 2, none⟩) (by simp) _

theorem info29 : (Try.prog.info? 28).map (fun i => (i.zero, i.size, i.bytes)) = some (some (.agg #[.int .i64 0, .int .i64 0, .slice none 0 0]), 3, 40) := by kernel_rfl

/-- What lies in memory when the first k terms of a list are copied. -/
structure CopySt (w wr : World) (ts : List TermD) (k : Nat) (A : Nat → Option Addr) (L : Nat → Nat) : Prop where
  row : wr.ownsRow w.heap.size 28 3 (.slice (some ⟨w.heap.size, 0, none⟩) ts.length ts.length) ts.length (cs3 (laidTo ts A k))
  low : w.heap.size < L 0
  mono : ∀ i, i < k → L i ≤ L (i + 1)
  top : L k ≤ wr.heap.size
  kid : ∀ i, (h : i < ts.length) → i < k → OwnS wr (fun x => L i ≤ x ∧ x < L (i + 1)) (A i) ts[i].kids
  below : Below w.heap.size w wr

theorem CopySt.le {w wr : World} {ts : List TermD} {k : Nat} {A : Nat → Option Addr} {L : Nat → Nat} (h : CopySt w wr ts k A L) : ∀ i j, i ≤ j → j ≤ k → L i ≤ L j := by
  intro i j
  induction j with
  | zero => intro h1 _; have : i = 0 := by omega
            subst this; exact Nat.le_refl _
  | succ j ih =>
    intro h1 h2
    by_cases e : i = j + 1
    · subst e; exact Nat.le_refl _
    · exact Nat.le_trans (ih (by omega) (by omega)) (h.mono j (by omega))

theorem CopySt.done {w wr : World} {ts : List TermD} {A : Nat → Option Addr} {L : Nat → Nat} (h : CopySt w wr ts ts.length A L) (hl : ts.length ≤ 9223372036854775807) (hz : ∀ i, (h : i < ts.length) → isW ts[i].f ∧ isW ts[i].v) :
    OwnS wr (fun x => w.heap.size ≤ x ∧ x < wr.heap.size) (some ⟨w.heap.size, 0, none⟩) ts := by
  have hlt := (h.row.lt _ rfl).2
  refine .row _ w.heap.size 0 ts A (fun i => (ts[i]?.getD default).kids.length) (fun i x => L i ≤ x ∧ x < L (i + 1)) ⟨Nat.le_refl _, hlt⟩ hlt ⟨hl, fun i hi => by simp [hi]⟩ hz (fun i hi => ?_) (fun j => h.row.frozenAt j) (fun i x hi hx => ?_) (fun i j x hi hj hne hx hy => ?_) (fun i hi => h.kid i hi hi)
  · obtain ⟨c0, c1, c2⟩ := cs3_cells (by rw [laidTo_len]) (k := i) (by rw [laidTo_len]; exact hi) h.row
    have e : (laidTo ts A ts.length)[i]'(by rw [laidTo_len]; exact hi) = (.int .i64 ts[i].f, .int .i64 ts[i].v, .slice (A i) ts[i].kids.length ts[i].kids.length) := by
      simp [laidTo, hi]
    rw [e] at c0 c1 c2
    simp only [Nat.zero_add]
    exact ⟨c0, c1, by simpa [hi] using c2⟩
  · have h1 := h.le 0 i (by omega) (by omega)
    have h2 := h.le (i + 1) ts.length (by omega) (Nat.le_refl _)
    have h3 := h.low
    have h4 := h.top
    exact ⟨⟨by omega, by omega⟩, by omega⟩
  · rcases Nat.lt_or_gt_of_ne hne with hh | hh
    · have := h.le (i + 1) j (by omega) (by omega)
      omega
    · have := h.le (j + 1) i (by omega) (by omega)
      omega

/-- One more term is copied. -/
theorem CopySt.step {w wr w1 : World} {ts : List TermD} {k : Nat} {A : Nat → Option Addr} {L : Nat → Nat} (h : CopySt w wr ts k A L) (hk : k < ts.length) {a' : Option Addr} (ho : OwnS w1 (fun x => wr.heap.size ≤ x ∧ x < w1.heap.size) a' ts[k].kids) (hb : Below wr.heap.size wr w1) :
    CopySt w (((w1.setCell ⟨w.heap.size, k * 3, none⟩ (.int .i64 ts[k].f)).setCell ⟨w.heap.size, k * 3 + 1, none⟩ (.int .i64 ts[k].v)).setCell ⟨w.heap.size, k * 3 + 2, none⟩ (.slice a' ts[k].kids.length ts[k].kids.length)) ts (k + 1) (fun i => if i = k then a' else A i) (fun i => if i ≤ k then L i else w1.heap.size) := by
  have h3 := h.low
  have h4 := h.top
  have h5 := hb.size
  have hle := h.le
  refine ⟨?_, ?_, fun i hi => ?_, ?_, fun i hi hik => ?_, ?_⟩
  · have r := cs3_store (t := (.int .i64 ts[k].f, .int .i64 ts[k].v, .slice a' ts[k].kids.length ts[k].kids.length)) (k := k) (by rw [laidTo_len]; exact hk) (own_on h.row hb)
    rwa [laidTo_set ts A hk a'] at r
  · simp only [Nat.zero_le, if_true]; exact h3
  · by_cases e : i = k
    · subst e
      simp only [Nat.le_refl, if_true, show ¬ i + 1 ≤ i by omega, if_false]; omega
    · simp only [show i ≤ k by omega, show i + 1 ≤ k by omega, if_true]; exact h.mono i (by omega)
  · simp only [show ¬ k + 1 ≤ k by omega, if_false, World.size_setCell]; exact Nat.le_refl _
  · have h0i := hle 0 i (by omega) (by omega)
    by_cases e : i = k
    · subst e
      simp only [Nat.le_refl, if_true, show ¬ i + 1 ≤ i by omega, if_false]
      have hn : ¬ (L i ≤ w.heap.size ∧ w.heap.size < w1.heap.size) := by omega
      exact (((ho.mono (S' := fun x => L i ≤ x ∧ x < w1.heap.size) (fun x hx => ⟨by omega, hx.2⟩)).setCell ⟨w.heap.size, i * 3, none⟩ hn _).setCell ⟨w.heap.size, i * 3 + 1, none⟩ hn _).setCell ⟨w.heap.size, i * 3 + 2, none⟩ hn _
    · simp only [show i ≤ k by omega, show i + 1 ≤ k by omega, if_true, e, if_false]
      have h6 := hle (i + 1) k (by omega) (Nat.le_refl _)
      have hn : ¬ (L i ≤ w.heap.size ∧ w.heap.size < L (i + 1)) := by omega
      have o := (h.kid i hi (by omega)).frame (w' := w1) (fun x hx => hb.block x (by omega)) hb.size
      exact ((o.setCell ⟨w.heap.size, k * 3, none⟩ hn _).setCell ⟨w.heap.size, k * 3 + 1, none⟩ hn _).setCell ⟨w.heap.size, k * 3 + 2, none⟩ hn _
  · have hB := h.below.trans (hb.mono h.below.size)
    exact ((hB.setCell (p := ⟨w.heap.size, k * 3, none⟩) (Nat.le_refl _) _).setCell (p := ⟨w.heap.size, k * 3 + 1, none⟩) (Nat.le_refl _) _).setCell (p := ⟨w.heap.size, k * 3 + 2, none⟩) (Nat.le_refl _) _

set_option maxHeartbeats 1600000 in
theorem toTermS_any (N : Nat) : ∀ (ts : List TermD) (a : Option Addr) (c hi : Nat) (w : World), partsL ts ≤ N → N ≤ 4194304 → RdK w hi a ts → hi ≤ w.heap.size →
    Calls Try.prog 11 #[.slice a ts.length c] w fun e w' => e = .returned (.slice (some ⟨w.heap.size, 0, none⟩) ts.length ts.length) ∧ OwnS w' (fun x => w.heap.size ≤ x ∧ x < w'.heap.size) (some ⟨w.heap.size, 0, none⟩) ts ∧ Below w.heap.size w w' := by
  obtain ⟨i0, hi0, hz0, hz1, hz2⟩ := info_parts info29
  induction N with
  | zero =>
    intro ts a c hi w hN hM hr hhi
    have h1 := partsL_len ts
    have : ts = [] := List.length_eq_zero_iff.1 (by omega)
    subst this
    go_enter Try.func11, Try.ntmps11
    go_wp2_with (first
      | (at_make; refine wpList_make_full _ rfl _ _ 26 rfl w.heap.size 28 i0 _ 3 Try.underlying26 hi0 hz0 hz1 _ _ _ _ 0 rfl rfl rfl rfl (by omega) (by unfold maxLen; omega) (Nat.le_refl _) ?_; intro w1 hown hgrow))
    refine wp_loop_rounds 1 ?_
    rw [rounds_succ]
    go_wp2_with fail
    go_ret
    exact ⟨rfl, .nil _ _, (Below.refl _ _).grown hgrow (Nat.le_refl _) (by simp)⟩
  | succ N ih =>
    intro ts a c hi w hN hM hr hhi
    have hlen := partsL_len ts
    have HZ : Hid (∀ i, (h : i < ts.length) → isW ts[i].f ∧ isW ts[i].v) := fun i h => hr.ints h
    have HR : Hid (RdK w hi a ts) := hr
    clear hr
    go_enter Try.func11, Try.ntmps11
    go_wp2_with (first
      | (at_make; refine wpList_make_full _ rfl _ _ 26 rfl w.heap.size 28 i0 _ 3 Try.underlying26 hi0 hz0 hz1 _ _ _ _ ts.length rfl rfl rfl rfl (by rw [hz2]; omega) (by unfold maxLen; omega) (Nat.le_refl _) ?_; intro w1 hown hgrow))
    have hlt1 : w.heap.size < w1.heap.size := (hown.lt _ rfl).2
    have S0 : CopySt w w1 ts 0 (fun _ => none) (fun _ => w1.heap.size) := ⟨by rw [laidTo_zero, ← cs3_made]; exact hown, hlt1, fun i hi => absurd hi (by omega), Nat.le_refl _, fun i _ hi => absurd hi (by omega), (Below.refl _ _).grown hgrow (Nat.le_refl _) (by simp)⟩
    clear hown hgrow hlt1
    go_loopw [4] (fun i wr => ∃ (k : Nat) (A : Nat → Option Addr) (L : Nat → Nat), k ≤ ts.length ∧ i = .int .i64 k ∧ CopySt w wr ts k A L) (fun i _ => ts.length - (intOf i).toNat)
    case atStart => exact ⟨0, _, _, Nat.zero_le _, rfl, S0⟩
    case round =>
      obtain ⟨k, A, L, hk, rfl, S⟩ := hrel
      clear S0
      by_cases hk' : k < ts.length
      · obtain ⟨b, off, a', c', rfl, hlt, d0, d1, d2, hkr⟩ := RdK.kid (HR.out.on (S.below.mono hhi)) hk'
        have hpg := partsL_get hk'
        have hpt := partsT_eq ts[k]
        have hki : (k : Int) < (ts.length : Int) := by omega
        have hwr := Nat.le_trans hhi S.below.size
        have T := toTerm_of ts[k] a' c' wr (fun w' h => ih ts[k].kids a' c' hi w' (by omega) (by omega) (hkr.on (h.mono hwr)) (Nat.le_trans hwr h.size))
        have hlen2 := laidTo_len ts A k
        have hkl : k < (laidTo ts A k).length := by rw [hlen2]; exact hk'
        clear hkr hpt
        go_wp2_with (go_at_call 30; refine T.mono ?_; rintro e w2 ⟨a2, rfl, ho, hb⟩; clear T; have S1 := S.step hk' ho hb; have hown2 := own_on S.row hb; obtain ⟨e0, e1, e2⟩ := cs3_cells hlen2.symm hkl hown2; have f0 := hown2.frozenAt (k * 3); have f1 := hown2.frozenAt (k * 3 + 1); have f2 := hown2.frozenAt (k * 3 + 2); clear hown2 S ho hb d0 d1 d2 hlen2)
        go_roundw
        case rel => exact ⟨k + 1, _, _, by omega, by go_num, S1⟩
        case measure => simp [intOf]; omega
      · have e : k = ts.length := by omega
        have S1 : CopySt w wr ts ts.length A L := e ▸ S
        clear e S
        go_wp2_with fail
        go_ret
        exact ⟨rfl, S1.done (by omega) HZ.out, S1.below⟩

theorem toTerm_any (t : TermD) (a : Option Addr) (c hi : Nat) (w : World) (hp : partsT t ≤ 4194304) (hr : RdK w hi a t.kids) (hhi : hi ≤ w.heap.size) :
    Calls Try.prog 30 #[.agg #[.int .i64 t.f, .int .i64 t.v, .slice a t.kids.length c]] w fun e w' => ∃ a', e = .returned (.agg #[.int .i64 t.f, .int .i64 t.v, .slice a' t.kids.length t.kids.length]) ∧ OwnS w' (fun x => w.heap.size ≤ x ∧ x < w'.heap.size) a' t.kids ∧ Below w.heap.size w w' :=
  toTerm_of t a c w (fun w' h => toTermS_any (partsL t.kids) t.kids a c hi w' (Nat.le_refl _) (by rw [partsT_eq] at hp; omega) (hr.on (h.mono hhi)) (Nat.le_trans hhi h.size))
end Go.Proofs.Ytkjlldbgooogdab

/- Contracts of the laws' helpers on what is put for variables: it is copied, and owns its memory. Conditions: at most 4194303 parts. -/
namespace Go.Proofs.Ytkjlldbgooogdab
set_option maxRecDepth 100000
open Go.RowKit

theorem infoB : (Try.prog.info? 73).map (fun i => (i.zero, i.size, i.bytes)) = some (some (.agg #[.int .i64 0, .int .i64 0, .int .i64 0, .slice none 0 0]), 4, 48) := by kernel_rfl

/-- Four cells are written. -/
def set4 (W : World) (b o : Nat) (x y z v : Value) : World := (((W.setCell ⟨b, o, none⟩ x).setCell ⟨b, o + 1, none⟩ y).setCell ⟨b, o + 2, none⟩ z).setCell ⟨b, o + 3, none⟩ v
theorem set4_cells {u : World} {r o : Nat} {x y z v p q s t : Value} (h0 : u.cell? ⟨r, o, none⟩ = some p) (h1 : u.cell? ⟨r, o + 1, none⟩ = some q) (h2 : u.cell? ⟨r, o + 2, none⟩ = some s) (h3 : u.cell? ⟨r, o + 3, none⟩ = some t) :
    (set4 u r o x y z v).cell? ⟨r, o, none⟩ = some x ∧ (set4 u r o x y z v).cell? ⟨r, o + 1, none⟩ = some y ∧ (set4 u r o x y z v).cell? ⟨r, o + 2, none⟩ = some z ∧ (set4 u r o x y z v).cell? ⟨r, o + 3, none⟩ = some v := by
  have n : ∀ i j, i ≠ j → (⟨r, o + i, none⟩ : Addr) ≠ ⟨r, o + j, none⟩ := fun i j h e => by injection e with _ e2; omega
  have n0 : ∀ j, j ≠ 0 → (⟨r, o + j, none⟩ : Addr) ≠ ⟨r, o, none⟩ := fun j h e => by injection e with _ e2; omega
  have m0 : ∀ j, j ≠ 0 → (⟨r, o, none⟩ : Addr) ≠ ⟨r, o + j, none⟩ := fun j h e => by injection e with _ e2; omega
  unfold set4
  refine ⟨?_, ?_, ?_, ?_⟩
  · rw [World.cell?_setCell_other _ _ _ _ (n0 3 (by omega)), World.cell?_setCell_other _ _ _ _ (n0 2 (by omega)), World.cell?_setCell_other _ _ _ _ (n0 1 (by omega))]
    exact World.cell?_setCell_same _ _ _ h0
  · rw [World.cell?_setCell_other _ _ _ _ (n 3 1 (by omega)), World.cell?_setCell_other _ _ _ _ (n 2 1 (by omega))]
    exact World.cell?_setCell_same _ _ _ (by rw [World.cell?_setCell_other _ _ _ _ (m0 1 (by omega))]; exact h1)
  · rw [World.cell?_setCell_other _ _ _ _ (n 3 2 (by omega))]
    exact World.cell?_setCell_same _ _ _ (by rw [World.cell?_setCell_other _ _ _ _ (n 1 2 (by omega)), World.cell?_setCell_other _ _ _ _ (m0 2 (by omega))]; exact h2)
  · exact World.cell?_setCell_same _ _ _ (by rw [World.cell?_setCell_other _ _ _ _ (n 2 3 (by omega)), World.cell?_setCell_other _ _ _ _ (n 1 3 (by omega)), World.cell?_setCell_other _ _ _ _ (m0 3 (by omega))]; exact h3)
theorem set4_own {W : World} {b o : Nat} {x y z v : Value} {S : Nat → Prop} {a : Option Addr} {ts : List TermD} (h : OwnS W S a ts) (hn : ¬ S b) : OwnS (set4 W b o x y z v) S a ts :=
  (((h.setCell ⟨b, o, none⟩ hn x).setCell ⟨b, o + 1, none⟩ hn y).setCell ⟨b, o + 2, none⟩ hn z).setCell ⟨b, o + 3, none⟩ hn v
theorem set4_below {w W : World} {B b o : Nat} {x y z v : Value} (h : Below B w W) (hb : B ≤ b) : Below B w (set4 W b o x y z v) :=
  (((h.setCell (p := ⟨b, o, none⟩) hb x).setCell (p := ⟨b, o + 1, none⟩) hb y).setCell (p := ⟨b, o + 2, none⟩) hb z).setCell (p := ⟨b, o + 3, none⟩) hb v
theorem set4_size (W : World) (b o : Nat) (x y z v : Value) : (set4 W b o x y z v).heap.size = W.heap.size := by unfold set4; simp

set_option maxHeartbeats 1600000 in
theorem toBind_any (u : BindD) (a : Option Addr) (c hi : Nat) (w : World) (hp : partsT u.t ≤ 4194304) (hr : RdK w hi a u.t.kids) (hhi : hi ≤ w.heap.size) :
    Calls Try.prog 49 #[.agg #[.int .i64 u.n, .int .i64 u.t.f, .int .i64 u.t.v, .slice a u.t.kids.length c]] w fun e w' => ∃ a', e = .returned (.agg #[.int .i64 u.n, .int .i64 u.t.f, .int .i64 u.t.v, .slice a' u.t.kids.length u.t.kids.length]) ∧ OwnS w' (fun x => w.heap.size ≤ x ∧ x < w'.heap.size) a' u.t.kids ∧ Below w.heap.size w w' := by
  obtain ⟨W, hW⟩ : ∃ W, W = (((w.alloc (.cells #[.int .i64 u.n, .int .i64 u.t.f, .int .i64 u.t.v, .slice a u.t.kids.length c] 71)).alloc (.cells #[.int .i64 0, .int .i64 0, .int .i64 0, .slice none 0 0] 73)).alloc (.cells #[.int .i64 u.n, .int .i64 0, .int .i64 0, .slice none 0 0] 73)) := ⟨_, rfl⟩
  have hWs : w.heap.size + 1 + 1 < W.heap.size := by rw [hW]; simp
  have h0 : Below w.heap.size w W := by rw [hW]; exact (((Below.refl _ _).alloc (Nat.le_refl _) _).alloc (by simp) _).alloc (by simp; omega) _
  have C := toTerm_any u.t a c hi W hp (hr.on (h0.mono hhi)) (Nat.le_trans hhi h0.size)
  have x0 : W.cell? ⟨w.heap.size + 1, 0, none⟩ = some (.int .i64 0) := by rw [hW]; simp [go_sem]
  have x1 : W.cell? ⟨w.heap.size + 1, 1, none⟩ = some (.int .i64 0) := by rw [hW]; simp [go_sem]
  have x2 : W.cell? ⟨w.heap.size + 1, 2, none⟩ = some (.int .i64 0) := by rw [hW]; simp [go_sem]
  have x3 : W.cell? ⟨w.heap.size + 1, 3, none⟩ = some (.slice none 0 0) := by rw [hW]; simp [go_sem]
  have y0 : W.cell? ⟨w.heap.size + 1 + 1, 0, none⟩ = some (.int .i64 u.n) := by rw [hW]; simp [go_sem]
  have y1 : W.cell? ⟨w.heap.size + 1 + 1, 1, none⟩ = some (.int .i64 0) := by rw [hW]; simp [go_sem]
  have y2 : W.cell? ⟨w.heap.size + 1 + 1, 2, none⟩ = some (.int .i64 0) := by rw [hW]; simp [go_sem]
  have y3 : W.cell? ⟨w.heap.size + 1 + 1, 3, none⟩ = some (.slice none 0 0) := by rw [hW]; simp [go_sem]
  have fz : ∀ j, W.frozen? ⟨w.heap.size + 1, j, none⟩ = false := by intro j; rw [hW]; simp [go_sem]
  have gz : ∀ j, W.frozen? ⟨w.heap.size + 1 + 1, j, none⟩ = false := by intro j; rw [hW]; simp [go_sem]
  have HW : Hid _ := hW
  clear hW hr
  go_enter Try.func49, Try.ntmps49
  go_wp2_with (go_at_call 30; (rw [← HW.out]; refine C.mono ?_; rintro e w1 ⟨a1, rfl, ho1, hb1⟩; have a0 := keepC hb1 x0; have a1' := keepC hb1 x1; have a2 := keepC hb1 x2; have a3 := keepC hb1 x3; have b0 := keepC hb1 y0; have b1 := keepC hb1 y1; have b2 := keepC hb1 y2; have b3 := keepC hb1 y3; have fa : ∀ j, w1.frozen? ⟨w.heap.size + 1, j, none⟩ = false := (fun j => (hb1.frozen (p := ⟨w.heap.size + 1, j, none⟩) (by simp only; omega)).trans (fz j)); have fb : ∀ j, w1.frozen? ⟨w.heap.size + 1 + 1, j, none⟩ = false := (fun j => (hb1.frozen (p := ⟨w.heap.size + 1 + 1, j, none⟩) (by simp only; omega)).trans (gz j)); have hz1 := hb1.size; clear x0 x1 x2 x3 y0 y1 y2 y3 fz gz C HW))
  obtain ⟨X, hX⟩ : ∃ X, X = ((w1.setCell ⟨w.heap.size + 1 + 1, 1, none⟩ (.int .i64 u.t.f)).setCell ⟨w.heap.size + 1 + 1, 2, none⟩ (.int .i64 u.t.v)).setCell ⟨w.heap.size + 1 + 1, 3, none⟩ (.slice a1 u.t.kids.length u.t.kids.length) := ⟨_, rfl⟩
  have other : ∀ j v, w1.cell? ⟨w.heap.size + 1, j, none⟩ = some v → X.cell? ⟨w.heap.size + 1, j, none⟩ = some v := fun j v h => by
    have e : ∀ i, (⟨w.heap.size + 1 + 1, i, none⟩ : Addr) ≠ ⟨w.heap.size + 1, j, none⟩ := fun i q => by injection q with q1; omega
    rw [hX, World.cell?_setCell_other _ _ _ _ (e 3), World.cell?_setCell_other _ _ _ _ (e 2), World.cell?_setCell_other _ _ _ _ (e 1)]; exact h
  have hn2 : ¬ (W.heap.size ≤ w.heap.size + 1 + 1 ∧ w.heap.size + 1 + 1 < w1.heap.size) := by omega
  have hn1 : ¬ (W.heap.size ≤ w.heap.size + 1 ∧ w.heap.size + 1 < w1.heap.size) := by omega
  have oX : OwnS X (fun x => W.heap.size ≤ x ∧ x < w1.heap.size) a1 u.t.kids := by rw [hX]; exact ((ho1.setCell ⟨w.heap.size + 1 + 1, 1, none⟩ hn2 _).setCell ⟨w.heap.size + 1 + 1, 2, none⟩ hn2 _).setCell ⟨w.heap.size + 1 + 1, 3, none⟩ hn2 _
  have hB1 := h0.trans (hb1.mono h0.size)
  have bX : Below w.heap.size w X := by rw [hX]; exact ((hB1.setCell (p := ⟨w.heap.size + 1 + 1, 1, none⟩) (by simp only; omega) _).setCell (p := ⟨w.heap.size + 1 + 1, 2, none⟩) (by simp only; omega) _).setCell (p := ⟨w.heap.size + 1 + 1, 3, none⟩) (by simp only; omega) _
  have zX : X.heap.size = w1.heap.size := by rw [hX]; simp
  rw [← hX]
  obtain ⟨q0, q1, q2, q3⟩ := set4_cells (u := X) (r := w.heap.size + 1) (o := 0) (x := .int .i64 u.n) (y := .int .i64 u.t.f) (z := .int .i64 u.t.v) (v := .slice a1 u.t.kids.length u.t.kids.length) (other 0 _ a0) (other 1 _ a1') (other 2 _ a2) (other 3 _ a3)
  have O := set4_own (b := w.heap.size + 1) (o := 0) (x := .int .i64 u.n) (y := .int .i64 u.t.f) (z := .int .i64 u.t.v) (v := .slice a1 u.t.kids.length u.t.kids.length) oX hn1
  have Bf := set4_below (b := w.heap.size + 1) (o := 0) (x := .int .i64 u.n) (y := .int .i64 u.t.f) (z := .int .i64 u.t.v) (v := .slice a1 u.t.kids.length u.t.kids.length) bX (by omega)
  have Zf := set4_size X (w.heap.size + 1) 0 (.int .i64 u.n) (.int .i64 u.t.f) (.int .i64 u.t.v) (.slice a1 u.t.kids.length u.t.kids.length)
  unfold set4 at q0 q1 q2 q3 O Bf Zf
  simp only [Nat.zero_add] at q0 q1 q2 q3 O Bf Zf
  refine bodyPost_ret (v := .agg #[.int .i64 u.n, .int .i64 u.t.f, .int .i64 u.t.v, .slice a1 u.t.kids.length u.t.kids.length]) (by simp [results, Try.results49, go_sem, q0, q1, q2, q3]) rfl ⟨a1, rfl, O.mono (fun x hx => ⟨by omega, by rw [Zf, zX]; exact hx.2⟩), Bf⟩

/-- What lies in memory when the first k Binds are copied. -/
structure BSt (w wr : World) (us : List BindD) (k : Nat) (A : Nat → Option Addr) (L : Nat → Nat) (xs : List Value) : Prop where
  row : wr.ownsRow w.heap.size 73 4 (.slice (some ⟨w.heap.size, 0, none⟩) us.length us.length) us.length xs
  cel : ∀ i, (h : i < us.length) → i < k → xs[i * 4]? = some (.int .i64 us[i].n) ∧ xs[i * 4 + 1]? = some (.int .i64 us[i].t.f) ∧ xs[i * 4 + 2]? = some (.int .i64 us[i].t.v) ∧ xs[i * 4 + 3]? = some (.slice (A i) us[i].t.kids.length us[i].t.kids.length)
  low : w.heap.size < L 0
  mono : ∀ i, i < k → L i ≤ L (i + 1)
  top : L k ≤ wr.heap.size
  kid : ∀ i, (h : i < us.length) → i < k → OwnS wr (fun x => L i ≤ x ∧ x < L (i + 1)) (A i) us[i].t.kids
  below : Below w.heap.size w wr
theorem BSt.le {w wr : World} {us : List BindD} {k : Nat} {A : Nat → Option Addr} {L : Nat → Nat} {xs : List Value} (h : BSt w wr us k A L xs) : ∀ i j, i ≤ j → j ≤ k → L i ≤ L j := by
  intro i j
  induction j with
  | zero => intro h1 _; have : i = 0 := by omega
            subst this; exact Nat.le_refl _
  | succ j ih =>
    intro h1 h2
    by_cases e : i = j + 1
    · subst e; exact Nat.le_refl _
    · exact Nat.le_trans (ih (by omega) (by omega)) (h.mono j (by omega))
theorem BSt.done {w wr : World} {us : List BindD} {A : Nat → Option Addr} {L : Nat → Nat} {xs : List Value} (h : BSt w wr us us.length A L xs) (hl : us.length ≤ 9223372036854775807) (hz : ∀ i, (h : i < us.length) → isW us[i].n ∧ isW us[i].t.f ∧ isW us[i].t.v) :
    OwnU wr (fun x => w.heap.size ≤ x ∧ x < wr.heap.size) (some ⟨w.heap.size, 0, none⟩) us := by
  have hlt := (h.row.lt _ rfl).2
  have hx := h.row.1
  refine .row _ w.heap.size 0 us A (fun i => (us[i]?.getD default).t.kids.length) (fun i x => L i ≤ x ∧ x < L (i + 1)) ⟨Nat.le_refl _, hlt⟩ hlt ⟨hl, fun i hi => by simp [hi]⟩ hz (fun i hi => ?_) (fun j => h.row.frozenAt j) (fun i x hi hx => ?_) (fun i j x hi hj hne hx hy => ?_) (fun i hi => h.kid i hi hi)
  · obtain ⟨c0, c1, c2, c3⟩ := h.cel i hi hi
    simp only [Nat.zero_add]
    exact ⟨(h.row.cellAt _ (by omega)).trans c0, (h.row.cellAt _ (by omega)).trans c1, (h.row.cellAt _ (by omega)).trans c2, (h.row.cellAt _ (by omega)).trans (by simpa [hi] using c3)⟩
  · have h1 := h.le 0 i (by omega) (by omega)
    have h2 := h.le (i + 1) us.length (by omega) (Nat.le_refl _)
    have h3 := h.low
    have h4 := h.top
    exact ⟨⟨by omega, by omega⟩, by omega⟩
  · rcases Nat.lt_or_gt_of_ne hne with hh | hh
    · have := h.le (i + 1) j (by omega) (by omega)
      omega
    · have := h.le (j + 1) i (by omega) (by omega)
      omega
theorem BSt.step {w wr w1 : World} {us : List BindD} {k : Nat} {A : Nat → Option Addr} {L : Nat → Nat} {xs : List Value} (h : BSt w wr us k A L xs) (hk : k < us.length) {a' : Option Addr} (ho : OwnS w1 (fun x => wr.heap.size ≤ x ∧ x < w1.heap.size) a' us[k].t.kids) (hb : Below wr.heap.size wr w1) :
    ∃ xs', BSt w (set4 w1 w.heap.size (k * 4) (.int .i64 us[k].n) (.int .i64 us[k].t.f) (.int .i64 us[k].t.v) (.slice a' us[k].t.kids.length us[k].t.kids.length)) us (k + 1) (fun i => if i = k then a' else A i) (fun i => if i ≤ k then L i else w1.heap.size) xs' := by
  have h3 := h.low
  have h4 := h.top
  have h5 := hb.size
  have hle := h.le
  have hxl := h.row.1
  have r0 := (own_on h.row hb).stored (k * 4) (.int .i64 us[k].n)
  have r1 := r0.1.stored (k * 4 + 1) (.int .i64 us[k].t.f)
  have r2 := r1.1.stored (k * 4 + 2) (.int .i64 us[k].t.v)
  have r3 := r2.1.stored (k * 4 + 3) (.slice a' us[k].t.kids.length us[k].t.kids.length)
  refine ⟨_, r3.1, fun i hi hik => ?_, ?_, fun i hi => ?_, ?_, fun i hi hik => ?_, set4_below (h.below.trans (hb.mono h.below.size)) (Nat.le_refl _)⟩
  · by_cases e : i = k
    · subst e
      simp only [if_true]
      refine ⟨?_, ?_, ?_, ?_⟩ <;> simp [show i * 4 < xs.length by omega, show i * 4 + 1 < xs.length by omega, show i * 4 + 2 < xs.length by omega, show i * 4 + 3 < xs.length by omega]
    · simp only [e, if_false]
      obtain ⟨c0, c1, c2, c3⟩ := h.cel i hi (by omega)
      refine ⟨?_, ?_, ?_, ?_⟩
      · rw [List.getElem?_set_ne (by omega), List.getElem?_set_ne (by omega), List.getElem?_set_ne (by omega), List.getElem?_set_ne (by omega)]; exact c0
      · rw [List.getElem?_set_ne (by omega), List.getElem?_set_ne (by omega), List.getElem?_set_ne (by omega), List.getElem?_set_ne (by omega)]; exact c1
      · rw [List.getElem?_set_ne (by omega), List.getElem?_set_ne (by omega), List.getElem?_set_ne (by omega), List.getElem?_set_ne (by omega)]; exact c2
      · rw [List.getElem?_set_ne (by omega), List.getElem?_set_ne (by omega), List.getElem?_set_ne (by omega), List.getElem?_set_ne (by omega)]; exact c3
  · simp only [Nat.zero_le, if_true]; exact h3
  · by_cases e : i = k
    · subst e
      simp only [Nat.le_refl, if_true, show ¬ i + 1 ≤ i by omega, if_false]; omega
    · simp only [show i ≤ k by omega, show i + 1 ≤ k by omega, if_true]; exact h.mono i (by omega)
  · rw [set4_size]; simp only [show ¬ k + 1 ≤ k by omega, if_false]; exact Nat.le_refl _
  · have h0i := hle 0 i (by omega) (by omega)
    by_cases e : i = k
    · subst e
      simp only [Nat.le_refl, if_true, show ¬ i + 1 ≤ i by omega, if_false]
      exact set4_own (ho.mono (S' := fun x => L i ≤ x ∧ x < w1.heap.size) (fun x hx => ⟨by omega, hx.2⟩)) (by omega)
    · simp only [show i ≤ k by omega, show i + 1 ≤ k by omega, if_true, e, if_false]
      have h6 := hle (i + 1) k (by omega) (Nat.le_refl _)
      exact set4_own ((h.kid i hi (by omega)).frame (w' := w1) (fun x hx => hb.block x (by omega)) hb.size) (by omega)

set_option maxHeartbeats 1600000 in
theorem toBindS_any (us : List BindD) (a : Option Addr) (c hi : Nat) (w : World) (hp : partsU us ≤ 4194303) (hr : RdU w hi a us) (hhi : hi ≤ w.heap.size) :
    Calls Try.prog 22 #[.slice a us.length c] w fun e w' => e = .returned (.slice (some ⟨w.heap.size, 0, none⟩) us.length us.length) ∧ OwnU w' (fun x => w.heap.size ≤ x ∧ x < w'.heap.size) (some ⟨w.heap.size, 0, none⟩) us ∧ Below w.heap.size w w' := by
  obtain ⟨i0, hi0, hz0, hz1, hz2⟩ := info_parts infoB
  have hlen : us.length ≤ 4194304 := by unfold partsU at hp; omega
  have HZ : Hid (∀ i, (h : i < us.length) → isW us[i].n ∧ isW us[i].t.f ∧ isW us[i].t.v) := fun i h => by obtain ⟨_, _, _, _, _, _, _, _, _, _, _, _, q⟩ := hr.get h; exact q
  have HR : Hid _ := hr
  clear hr
  go_enter Try.func22, Try.ntmps22
  go_wp2_with (first
    | (at_make; refine wpList_make_full _ rfl _ _ 43 rfl w.heap.size 73 i0 _ 4 Try.underlying43 hi0 hz0 hz1 _ _ _ _ us.length rfl rfl rfl rfl (by rw [hz2]; omega) (by unfold maxLen; omega) (Nat.le_refl _) ?_; intro w1 hown hgrow))
  have hlt1 : w.heap.size < w1.heap.size := (hown.lt _ rfl).2
  have S0 : ∃ xs, BSt w w1 us 0 (fun _ => none) (fun _ => w1.heap.size) xs := ⟨_, hown, fun i _ hi => absurd hi (by omega), hlt1, fun i hi => absurd hi (by omega), Nat.le_refl _, fun i _ hi => absurd hi (by omega), (Below.refl _ _).grown hgrow (Nat.le_refl _) (by simp)⟩
  clear hown hgrow hlt1
  obtain ⟨xs0, S0⟩ := S0
  go_loopw [4] (fun i wr => ∃ (k : Nat) (A : Nat → Option Addr) (L : Nat → Nat) (xs : List Value), k ≤ us.length ∧ i = .int .i64 k ∧ BSt w wr us k A L xs) (fun i _ => us.length - (intOf i).toNat)
  case atStart => exact ⟨0, _, _, _, Nat.zero_le _, rfl, S0⟩
  case round =>
    obtain ⟨k, A, L, xs, hk, rfl, S⟩ := hrel
    clear S0
    by_cases hk' : k < us.length
    · obtain ⟨b, off, a', c', rfl, hlt, d0, d1, d2, d3, hc', hkr, hz⟩ := RdU.get (HR.out.on (S.below.mono hhi)) hk'
      have hpg := partsU_get hk'
      have hpt := partsT_eq us[k].t
      have hki : (k : Int) < (us.length : Int) := by omega
      have hki0 : (0 : Int) ≤ (k : Int) := by omega
      have hwr := Nat.le_trans hhi S.below.size
      have T := toBind_any us[k] a' c' hi wr (by omega) hkr hwr
      have hxl := S.row.1
      clear hkr hpt hz hc'
      go_wp2_with (go_at_call 49; refine T.mono ?_; rintro e w2 ⟨a2, rfl, ho, hb⟩; clear T; have S1 := S.step hk' ho hb; have hown2 := own_on S.row hb; obtain ⟨v0, e0⟩ : ∃ v, w2.cell? ⟨w.heap.size, k * 4, none⟩ = some v := ⟨_, (hown2.cellAt _ (by omega)).trans (List.getElem?_eq_getElem (by omega))⟩; obtain ⟨v1, e1⟩ : ∃ v, w2.cell? ⟨w.heap.size, k * 4 + 1, none⟩ = some v := ⟨_, (hown2.cellAt _ (by omega)).trans (List.getElem?_eq_getElem (by omega))⟩; obtain ⟨v2, e2⟩ : ∃ v, w2.cell? ⟨w.heap.size, k * 4 + 2, none⟩ = some v := ⟨_, (hown2.cellAt _ (by omega)).trans (List.getElem?_eq_getElem (by omega))⟩; obtain ⟨v3, e3⟩ : ∃ v, w2.cell? ⟨w.heap.size, k * 4 + 3, none⟩ = some v := ⟨_, (hown2.cellAt _ (by omega)).trans (List.getElem?_eq_getElem (by omega))⟩; have f0 := hown2.frozenAt (k * 4); have f1 := hown2.frozenAt (k * 4 + 1); have f2 := hown2.frozenAt (k * 4 + 2); have f3 := hown2.frozenAt (k * 4 + 3); clear hown2 S ho hb d0 d1 d2 d3)
      obtain ⟨xs1, S1⟩ := S1
      unfold set4 at S1
      go_roundw
      case rel => exact ⟨k + 1, _, _, _, by omega, by go_num, S1⟩
      case measure => simp [intOf]; omega
    · have e : k = us.length := by omega
      have S1 : BSt w wr us us.length A L xs := e ▸ S
      clear e S
      go_wp2_with fail
      go_ret
      exact ⟨rfl, S1.done (by omega) HZ.out, S1.below⟩
end Go.Proofs.Ytkjlldbgooogdab

/- A range over a function whose iterator keeps memory of its own: what it promises the loop's body, and what the body promises it, told by sets of blocks; the statement's law. Conditions: none. -/
namespace Go.Proofs.Ytkjlldbgooogdab
set_option maxRecDepth 100000
open Go.RowKit

/-- All blocks of S lie as they lay. -/
structure Stay (S : Nat → Prop) (w w' : World) : Prop where
  os : w'.os = w.os
  tape : w'.tape = w.tape
  output : w'.output = w.output
  size : w.heap.size ≤ w'.heap.size
  block : ∀ k, k < w.heap.size → S k → w'.heap[k]? = w.heap[k]?

theorem Stay.refl (S : Nat → Prop) (w : World) : Stay S w w := ⟨rfl, rfl, rfl, Nat.le_refl _, fun _ _ _ => rfl⟩
theorem Stay.trans {S : Nat → Prop} {a b c : World} (h : Stay S a b) (k : Stay S b c) : Stay S a c :=
  ⟨k.os.trans h.os, k.tape.trans h.tape, k.output.trans h.output, Nat.le_trans h.size k.size, fun i hi hs => (k.block i (Nat.lt_of_lt_of_le hi h.size) hs).trans (h.block i hi hs)⟩
theorem Stay.weak {S T : Nat → Prop} {a b : World} (h : Stay S a b) (ht : ∀ k, k < a.heap.size → T k → S k) : Stay T a b :=
  ⟨h.os, h.tape, h.output, h.size, fun k hk hs => h.block k hk (ht k hk hs)⟩
theorem Stay.below {S : Nat → Prop} {a b : World} {B : Nat} (h : Stay S a b) (hB : B ≤ a.heap.size) (hs : ∀ k, k < B → S k) : Below B a b :=
  ⟨h.os, h.tape, h.output, h.size, fun k hk => h.block k (by omega) (hs k hk)⟩
theorem Stay.of_below {S : Nat → Prop} {a b : World} {B : Nat} (h : Below B a b) (hs : ∀ k, k < a.heap.size → S k → k < B) : Stay S a b :=
  ⟨h.os, h.tape, h.output, h.size, fun k hk hk' => h.block k (hs k hk hk')⟩
theorem Stay.grown {S : Nat → Prop} {a b : World} {row : Option Nat} (h : a.grownBy b row) (hr : ∀ k, row = some k → ¬ S k) : Stay S a b :=
  ⟨h.os, h.tape, h.output, h.size, fun k hk hs => h.block k hk (fun e => hr k e.symm hs)⟩
theorem Stay.putObj {S : Nat → Prop} (a : World) {r : Nat} (o : Obj) (hr : ¬ S r) : Stay S a (a.putObj r o) :=
  .grown (grownBy_putObj' a r o) (fun k e => by cases e; exact hr)
theorem Stay.setCell {S : Nat → Prop} (a : World) {p : Addr} (v : Value) (hr : ¬ S p.block) : Stay S a (a.setCell p v) :=
  ⟨rfl, rfl, rfl, by simp [World.setCell], fun k _ hs => Below.heap_setCell _ _ _ _ (fun e => hr (e ▸ hs))⟩
theorem Stay.alloc (S : Nat → Prop) (a : World) (o : Obj) : Stay S a (a.alloc o) :=
  ⟨rfl, rfl, rfl, by simp, fun k hk _ => Below.heap_alloc _ _ _ hk⟩
theorem Stay.drew (S : Nat → Prop) (a : World) : Stay S a a.drew := ⟨rfl, rfl, rfl, Nat.le_refl _, fun _ _ _ => rfl⟩
theorem Stay.cell {S : Nat → Prop} {a b : World} (h : Stay S a b) {p : Addr} {v : Value} (hc : a.cell? p = some v) (hs : S p.block) : b.cell? p = some v :=
  (World.cell?_of_block (h.block p.block (World.block_lt_of_cell? a p hc) hs)).trans hc
theorem Stay.frozen {S : Nat → Prop} {a b : World} (h : Stay S a b) {p : Addr} (hl : p.block < a.heap.size) (hs : S p.block) : b.frozen? p = a.frozen? p :=
  World.frozen?_of_block (h.block p.block hl hs)

/-- The iterator's word: whatever stays while the blocks of S do is not turned by it; the body's: below n₀, and outside S, nothing is turned. -/
def SeqPriv {α : Type} (F : Fence) (n : Nat) (P : Program) (g : Nat) (lb : Array Value) (encs : α → Array Value) (n₀ : Nat) (Sa Sp : List α → Prop) (Ok : List α → α → Prop) (N : Nat) (w : World) : Prop :=
  ∀ (l : Nat) (J Jx : List α → (Nat → Prop) → World → Prop) (S₀ : Nat → Prop) (W : World), Below w.heap.size w W →
    (∀ pre S A B, J pre S A → Stay S A B → J pre S B) → (∀ pre S A B, Jx pre S A → Stay S A B → Jx pre S B) → (∀ pre S A, J pre S A → ∀ k, S k → k < A.heap.size) →
    (∀ pre x S A, J pre S A → pre.length < N → Ok pre x → YieldAt F (n - 1) P l (encs x) A fun e B =>
      (e = .returned (.bool true) ∧ ∃ S', J (pre ++ [x]) S' B ∧ (∀ k, S' k → S k ∨ A.heap.size ≤ k) ∧ Stay (fun k => k < n₀ ∨ ¬ S k) A B) ∨
      (e = .returned (.bool false) ∧ ∃ S', Jx (pre ++ [x]) S' B)) →
    J [] S₀ W →
    CallsIn F n P g (#[.func (.yield l) #[] #[]] ++ lb) W fun e B => (∃ v, e = .returned v) ∧ ((∃ xs S', Sa xs ∧ J xs S' B) ∨ (∃ pre S', Sp pre ∧ Jx pre S' B))

/-- How the body of a round may be left. -/
def privPost {α : Type} (n₀ : Nat) (I : List α → (Nat → Prop) → World → Prop) (Ix : Code → List α → (Nat → Prop) → World → Prop) (xs : List α) (S : Nat → Prop) (W : World) : Exit → Act → World → Prop
  | .normal, _, B => ∃ S', I xs S' B ∧ (∀ k, S' k → S k ∨ W.heap.size ≤ k) ∧ Stay (fun k => k < n₀ ∨ ¬ S k) W B
  | .ret, _, B => ∃ S', Ix .ret xs S' B ∧ (∀ k, S' k → S k ∨ W.heap.size ≤ k) ∧ Stay (fun k => k < n₀ ∨ ¬ S k) W B
  | .exit id, _, B => ∃ S', Ix (.exit id) xs S' B ∧ (∀ k, S' k → S k ∨ W.heap.size ≤ k) ∧ Stay (fun k => k < n₀ ∨ ¬ S k) W B
  | .goto t, _, B => ∃ S', Ix (.goto t) xs S' B ∧ (∀ k, S' k → S k ∨ W.heap.size ≤ k) ∧ Stay (fun k => k < n₀ ∨ ¬ S k) W B
  | .panic _, _, _ => False
  | .outgrown, _, _ => False

variable {F : Fence} {n : Nat} {P : Program}

theorem wpIn_rangeFunc_priv {α : Type} {g : Operand} {ps : Array Tmp} {assign body : Code} {Q : Exit → Act → World → Prop} {a : Act} {w : World}
    (hro : F.round = none) (h1 : 1 ≤ n) {gf : Nat} {lb : Array Value} (hg : a.eval g = .func (.func gf) #[] lb) (hFg : F.fn gf) (eg : ∀ args w, (callFunc gf args).run P w = .ok (.enter gf args) w)
    {encs : α → Array Value} {n₀ : Nat} {Sa Sp : List α → Prop} {Ok : List α → α → Prop} {N : Nat} {w0 : World} (hseq : SeqPriv F (n - 1) P gf lb encs n₀ Sa Sp Ok N w0) (hn₀ : n₀ ≤ w.heap.size) (hb0 : Below w0.heap.size w0 w) (hps : ∀ x, (encs x).size = ps.size)
    (I : List α → (Nat → Prop) → World → Prop) (Ix : Code → List α → (Nat → Prop) → World → Prop)
    (hI : ∀ pre S A B, I pre S A → Stay S A B → I pre S B) (hIx : ∀ c pre S A B, Ix c pre S A → Stay S A B → Ix c pre S B)
    (hIb : ∀ pre S A, I pre S A → ∀ k, S k → k < A.heap.size) (S₀ : Nat → Prop) (hS₀ : ∀ k, S₀ k → k < w.heap.size) (h0 : I [] S₀ w)
    (Ax : List α → α → (Nat → Prop) → Act → World → Prop) (hAx : ∀ pre x S a A B, Ax pre x S a A → Stay S A B → Ax pre x S a B)
    (hassign : ∀ (l : Nat) (pre : List α) (x : α) (S : Nat → Prop) (W : World) (K : Act → World → Prop), I pre S W → pre.length < N → Ok pre x →
      (∀ a₁ S₁ W₁, Ax pre x S₁ a₁ W₁ → (∀ k, S₁ k → S k ∨ W.heap.size ≤ k) → Stay (fun k => k < n₀ ∨ ¬ S k) W W₁ → K a₁ W₁) →
      assign.wpIn (F.inRound l) (n - 1 - 1) P (Exit.then K (fun _ _ _ => False)) { tmps := (ps.zip (encs x)).foldl (fun t (p, v) => t.setIfInBounds p v) a.tmps, defers := [] } W)
    (hbody : ∀ (l : Nat) (pre : List α) (x : α) (S : Nat → Prop) (a₁ : Act) (W : World), Ax pre x S a₁ W → pre.length < N → Ok pre x → body.wpIn (F.inRound l) (n - 1 - 1) P (privPost n₀ I Ix (pre ++ [x]) S W) a₁ W)
    (hdone : ∀ (D : Nat) (xs : List α) (S : Nat → Prop) (W : World), Sa xs → I xs S W → W.heap[D]? = some (.deferred (some [])) → w.heap.size ≤ D → ¬ S D → Q .normal { a with defers := { target := .collected D, args := #[] } :: a.defers } W)
    (hstop : ∀ (D : Nat) (c : Code) (pre : List α) (S : Nat → Prop) (W : World), Sp pre → Ix c pre S W → W.heap[D]? = some (.deferred (some [])) → w.heap.size ≤ D → ¬ S D → c.wpIn F n P Q { a with defers := { target := .collected D, args := #[] } :: a.defers } W) :
    (Code.rangeFunc g ps assign body).wpIn F n P Q a w := by
  refine wpIn_rangeFunc ?_
  intro fn hfn
  rw [hro]
  obtain ⟨rec, hrec⟩ : ∃ rec : LoopState → Option Code → Loop, rec = fun st pe => { state := st, pending := pe, fn, tmps := a.tmps, params := ps, assign, body, defers := w.heap.size } := ⟨_, rfl⟩
  obtain ⟨W1, hW1⟩ : ∃ W1, (w.alloc (.deferred (some []))).alloc (.loop (rec .ready none)) = W1 := ⟨_, rfl⟩
  have hL1 : W1.heap[w.heap.size + 1]? = some (.loop (rec .ready none)) := by
    rw [← hW1]; have := World.alloc_heap_new (w.alloc (.deferred (some []))) (.loop (rec .ready none)); rwa [World.size_alloc] at this
  have hK1 : W1.heap[w.heap.size]? = some (.deferred (some [])) := by
    rw [← hW1]; exact (Below.heap_alloc _ _ _ (by simp)).trans (World.alloc_heap_new w _)
  have hI1 : I [] S₀ W1 := by rw [← hW1]; exact hI _ _ _ _ (hI _ _ _ _ h0 (.alloc _ _ _)) (.alloc _ _ _)
  have hb1 : Below w0.heap.size w0 W1 := by
    rw [← hW1]; exact hb0.trans ((((Below.refl _ w).alloc (Nat.le_refl _) _).alloc (by simp) _).mono hb0.size)
  have hsz : ∀ {A : World} {r : Loop}, A.heap[w.heap.size + 1]? = some (.loop r) → w.heap.size + 1 < A.heap.size := fun h => (Array.getElem?_eq_some_iff.1 h).1
  refine ⟨w.heap.size + 1, [{ target := .collected w.heap.size, args := #[] }], W1, { target := .fn (.func gf) lb, args := #[.func (.yield (w.heap.size + 1)) #[] #[]] }, W1, gf,
    #[.func (.yield (w.heap.size + 1)) #[] #[]] ++ lb, W1, ?_, ?_, ?_, ?_, fun _ => h1, ?_⟩
  · rw [← hW1, hrec]; exact run_enterLoop_outer _ _ _ _ _
  · simp only [resolve, hg]
    simp [go_sem]
  · intro f' hf'; simp [Target.leads] at hf'; subst hf'; exact hFg
  · simp [invoke, go_sem, eg]
  · -- the sets: the caller's, and the two blocks of the loop
    have hst : ∀ {A B : World} {T S : Nat → Prop}, (∀ k, S k ↔ T k ∨ k = w.heap.size ∨ k = w.heap.size + 1) → Stay S A B → Stay T A B := fun hS h => h.weak (fun k _ ht => (hS k).2 (.inl ht))
    refine (hseq (w.heap.size + 1)
      (fun pre S W => ∃ T : Nat → Prop, (∀ k, S k ↔ T k ∨ k = w.heap.size ∨ k = w.heap.size + 1) ∧ (∀ k, T k → k ≠ w.heap.size ∧ k ≠ w.heap.size + 1) ∧ I pre T W ∧ W.heap[w.heap.size + 1]? = some (.loop (rec .ready none)) ∧ W.heap[w.heap.size]? = some (.deferred (some [])))
      (fun pre S W => ∃ T : Nat → Prop, (∀ k, S k ↔ T k ∨ k = w.heap.size ∨ k = w.heap.size + 1) ∧ (∀ k, T k → k ≠ w.heap.size ∧ k ≠ w.heap.size + 1) ∧ ∃ c, Ix c pre T W ∧ W.heap[w.heap.size + 1]? = some (.loop (rec .done (some c))) ∧ W.heap[w.heap.size]? = some (.deferred (some [])))
      (fun k => S₀ k ∨ k = w.heap.size ∨ k = w.heap.size + 1) W1 hb1 ?_ ?_ ?_ ?_ ⟨S₀, fun k => Iff.rfl, fun k hk => by have := hS₀ k hk; omega, hI1, hL1, hK1⟩).mono ?_
    · rintro pre S A B ⟨T, hS, hT, hi, hl, hk⟩ h
      have hlt := hsz hl
      exact ⟨T, hS, hT, hI _ _ _ _ hi (hst hS h), (h.block _ hlt ((hS _).2 (.inr (.inr rfl)))).trans hl, (h.block _ (by omega) ((hS _).2 (.inr (.inl rfl)))).trans hk⟩
    · rintro pre S A B ⟨T, hS, hT, c, hi, hl, hk⟩ h
      have hlt := hsz hl
      exact ⟨T, hS, hT, c, hIx _ _ _ _ _ hi (hst hS h), (h.block _ hlt ((hS _).2 (.inr (.inr rfl)))).trans hl, (h.block _ (by omega) ((hS _).2 (.inr (.inl rfl)))).trans hk⟩
    · rintro pre S A ⟨T, hS, hT, hi, hl, hk⟩ k hk'
      have hlt := hsz hl
      rcases (hS k).1 hk' with h | h | h
      · exact hIb _ _ _ hi k h
      · omega
      · omega
    · -- one round
      rintro pre x S W ⟨T, hS, hT, hi, hl, hk⟩ hlen hok
      have hlt := hsz hl
      have nL : ¬ T (w.heap.size + 1) := fun h => (hT _ h).2 rfl
      have nD : ¬ T w.heap.size := fun h => (hT _ h).1 rfl
      have hy := run_yield (P := P) (args := encs x) hl (by rw [hrec]; exact hps x)
      rw [hrec] at hy
      refine ⟨fn, _, assign, body, hy, roundIn_of_wpIn hfn (hassign _ pre x T W _ hi hlen hok ?_)⟩
      intro a₁ T₁ W₁ hax hT₁ hst₁
      have hL₁ := (hst₁.block (w.heap.size + 1) hlt (.inr nL)).trans hl
      have hD₁ := (hst₁.block w.heap.size (by omega) (.inr nD)).trans hk
      have nL₁ : ¬ T₁ (w.heap.size + 1) := fun h => (hT₁ _ h).elim nL (fun h => by omega)
      have nD₁ : ¬ T₁ w.heap.size := fun h => (hT₁ _ h).elim nD (fun h => by omega)
      have hz₁ := hst₁.size
      refine ⟨_, run_beginRound hL₁ (by rw [hrec]), ?_⟩
      obtain ⟨W2, hW2⟩ : ∃ W2, W2 = W₁.putObj (w.heap.size + 1) (.loop { rec .ready none with state := .busy }) := ⟨_, rfl⟩
      rw [← hW2]
      have hl2 : W2.heap[w.heap.size + 1]? = some (.loop { rec .ready none with state := .busy }) := by rw [hW2]; exact World.putObj_heap_same (by omega)
      have hk2 : W2.heap[w.heap.size]? = some (.deferred (some [])) := by rw [hW2]; exact (World.putObj_heap_other (by omega)).trans hD₁
      have hz2 : W2.heap.size = W₁.heap.size := by rw [hW2]; simp
      have hi2 : Ax pre x T₁ a₁ W2 := by rw [hW2]; exact hAx _ _ _ _ _ _ hax (.putObj _ _ nL₁)
      have hs2 : Stay (fun k => k < n₀ ∨ ¬ S k) W W2 := by
        rw [hW2]
        exact (hst₁.weak (fun k _ h => h.elim .inl (fun h => .inr (fun ht => h ((hS _).2 (.inl ht)))))).trans (.putObj _ _ (fun h => h.elim (fun h => by omega) (fun h => h ((hS _).2 (.inr (.inr rfl))))))
      have sub₁ : ∀ k, k < W.heap.size → T₁ k → T k := fun k hk h => (hT₁ k h).elim id (fun h => by omega)
      refine wpIn_mono (hbody _ pre x T₁ a₁ W2 hi2 hlen hok) ?_
      have fin : ∀ (jump : Option Code) (W3 : World), Stay (fun k => k < n₀ ∨ ¬ T₁ k) W2 W3 →
          (Instr.endRound (w.heap.size + 1) jump).run P W3 = .ok (.bool jump.isNone) (W3.putObj (w.heap.size + 1) (.loop (rec (if jump.isNone then .ready else .done) jump))) ∧
          (W3.putObj (w.heap.size + 1) (.loop (rec (if jump.isNone then .ready else .done) jump))).heap[w.heap.size + 1]? = some (.loop (rec (if jump.isNone then .ready else .done) jump)) ∧
          (W3.putObj (w.heap.size + 1) (.loop (rec (if jump.isNone then .ready else .done) jump))).heap[w.heap.size]? = some (.deferred (some [])) ∧
          Stay (fun k => k < n₀ ∨ ¬ S k) W (W3.putObj (w.heap.size + 1) (.loop (rec (if jump.isNone then .ready else .done) jump))) := fun jump W3 hk3 => by
        have hl3 := (hk3.block (w.heap.size + 1) (by omega) (.inr nL₁)).trans hl2
        have hd3 := (hk3.block w.heap.size (by omega) (.inr nD₁)).trans hk2
        have := run_endRound (P := P) jump hl3
        rw [hrec] at this ⊢
        refine ⟨this, World.putObj_heap_same (Array.getElem?_eq_some_iff.1 hl3).1, (World.putObj_heap_other (by omega)).trans hd3, ?_⟩
        have h34 : Stay (fun k => (k < n₀ ∨ ¬ S k) ∧ k < W.heap.size) W W3 := (hs2.weak (fun _ _ h => h.1)).trans (hk3.weak (fun k _ h => h.1.elim .inl (fun h' => .inr (fun ht => h' ((hS _).2 (.inl (sub₁ k h.2 ht)))))))
        exact (h34.weak (fun k hk h => ⟨h, hk⟩)).trans (.putObj _ _ (fun h => h.elim (fun h => by omega) (fun h => h ((hS _).2 (.inr (.inr rfl))))))
      have sub : ∀ {T' : Nat → Prop}, (∀ k, T' k → T₁ k ∨ W2.heap.size ≤ k) → (∀ k, T' k → k ≠ w.heap.size ∧ k ≠ w.heap.size + 1) ∧ (∀ k, (T' k ∨ k = w.heap.size ∨ k = w.heap.size + 1) → S k ∨ W.heap.size ≤ k) := fun hT' =>
        ⟨fun k hk => (hT' k hk).elim (fun h => (hT₁ k h).elim (hT k) (fun h => by omega)) (fun h => by omega), fun k hk => hk.elim (fun h => (hT' k h).elim (fun h => (hT₁ k h).elim (fun h => .inl ((hS _).2 (.inl h))) .inr) (fun h => .inr (by omega))) (fun h => .inl ((hS _).2 (.inr h)))⟩
      rintro e a3 W3 hp
      cases e with
      | normal =>
        obtain ⟨T', hi3, hT', hk3⟩ := hp
        obtain ⟨hr, hl4, hk4, hst4⟩ := fin none W3 hk3
        obtain ⟨q1, q2⟩ := sub hT'
        exact ⟨_, _, hr, .inl ⟨rfl, fun k => T' k ∨ k = w.heap.size ∨ k = w.heap.size + 1, ⟨T', fun k => Iff.rfl, q1, hI _ _ _ _ hi3 (.putObj _ _ (fun h => (q1 _ h).2 rfl)), hl4, hk4⟩, q2, hst4⟩⟩
      | ret =>
        obtain ⟨T', hi3, hT', hk3⟩ := hp
        obtain ⟨hr, hl4, hk4, hst4⟩ := fin (some .ret) W3 hk3
        obtain ⟨q1, q2⟩ := sub hT'
        exact ⟨_, _, hr, .inr ⟨rfl, fun k => T' k ∨ k = w.heap.size ∨ k = w.heap.size + 1, T', fun k => Iff.rfl, q1, .ret, hIx _ _ _ _ _ hi3 (.putObj _ _ (fun h => (q1 _ h).2 rfl)), hl4, hk4⟩⟩
      | exit id =>
        obtain ⟨T', hi3, hT', hk3⟩ := hp
        obtain ⟨hr, hl4, hk4, hst4⟩ := fin (some (.exit id)) W3 hk3
        obtain ⟨q1, q2⟩ := sub hT'
        exact ⟨_, _, hr, .inr ⟨rfl, fun k => T' k ∨ k = w.heap.size ∨ k = w.heap.size + 1, T', fun k => Iff.rfl, q1, .exit id, hIx _ _ _ _ _ hi3 (.putObj _ _ (fun h => (q1 _ h).2 rfl)), hl4, hk4⟩⟩
      | goto t =>
        obtain ⟨T', hi3, hT', hk3⟩ := hp
        obtain ⟨hr, hl4, hk4, hst4⟩ := fin (some (.goto t)) W3 hk3
        obtain ⟨q1, q2⟩ := sub hT'
        exact ⟨_, _, hr, .inr ⟨rfl, fun k => T' k ∨ k = w.heap.size ∨ k = w.heap.size + 1, T', fun k => Iff.rfl, q1, .goto t, hIx _ _ _ _ _ hi3 (.putObj _ _ (fun h => (q1 _ h).2 rfl)), hl4, hk4⟩⟩
      | panic ch => exact hp.elim
      | outgrown => exact hp.elim
    · -- behind the iterator
      rintro e W2 ⟨⟨v, rfl⟩, (⟨xs, S, hSa, T, hS, hT, hi, hl, hk⟩ | ⟨pre, S, hSp, T, hS, hT, c, hi, hl, hk⟩)⟩
      · exact ⟨none, _, by have := run_endLoop (P := P) hl (by rw [hrec]; simp); rw [hrec] at this; exact this, hdone _ xs T _ hSa (hI _ _ _ _ hi (.putObj _ _ (fun h => (hT _ h).2 rfl))) ((World.putObj_heap_other (by omega)).trans hk) (Nat.le_refl _) (fun h => (hT _ h).1 rfl)⟩
      · exact ⟨some c, _, by have := run_endLoop (P := P) hl (by rw [hrec]; simp); rw [hrec] at this; exact this, hstop _ c pre T _ hSp (hIx _ _ _ _ _ hi (.putObj _ _ (fun h => (hT _ h).2 rfl))) ((World.putObj_heap_other (by omega)).trans hk) (Nat.le_refl _) (fun h => (hT _ h).1 rfl)⟩
end Go.Proofs.Ytkjlldbgooogdab

/- What a sort by a comparison of one's own needs: the comparison may lay blocks; what holds between two steps is a relation of one's own. sort.insertionSort_func. Conditions: rows of less than 2^62 elements. -/
namespace Go.Proofs.Ytkjlldbgooogdab
set_option maxRecDepth 100000
open Go.RowKit Go.Sort

variable {α : Type} [Inhabited α]

/-- The row holds d in W, as I says. The comparison (function g, bound to lb) tells lt of what the row holds and leaves all that was there as it was, the row's block alone is not promised; the swap (sf, bound to sb) turns the row alone. -/
structure SEnv (g : Nat) (lb : Array Value) (sf : Nat) (sb : Array Value) (lt : α → α → Bool) (n blk base : Nat) (I : Array α → World → Prop) : Prop where
  eg : ∀ args w, (callFunc g args).run Try.prog w = .ok (.enter g args) w
  less : ∀ (d : Array α) (W : World) (i j : Nat), I d W → i < n → j < n → Calls Try.prog g (#[.int .i64 i, .int .i64 j] ++ lb) W fun e W' => e = .returned (.bool (lt d[i]! d[j]!)) ∧ I d W' ∧ Stay (fun k => k ≠ blk) W W'
  swap : ∀ (d : Array α) (W : World) (i j : Nat), I d W → i < n → j < n → ∃ W', (callFunc sf (#[.int .i64 i, .int .i64 j] ++ sb)).run Try.prog W = .ok (.value (.tuple #[])) W' ∧ I (swp d i j) W' ∧ Stay (fun k => k ≠ blk) W W'
  on : ∀ (d : Array α) (W W' : World), I d W → Below W.heap.size W W' → I d W'
  set : ∀ (d : Array α) (W : World) (p : Addr) (v : Value), I d W → base ≤ p.block → I d (W.setCell p v)
  lt : ∀ (d : Array α) (W : World), I d W → base ≤ W.heap.size
  bb : blk < base
  size : ∀ (d : Array α) (W : World), I d W → d.size = n
  big : n < 4611686018427387904

/-- While a function of the sort runs: its parameter lies in a block of its own. -/
structure SSt (blk : Nat) (I : Array α → World → Prop) (w : World) (B : Nat) (g : Nat) (lb : Array Value) (sf : Nat) (sb : Array Value) (d : Array α) (wr : World) : Prop where
  i : I d wr
  c0 : wr.cell? ⟨B, 0, none⟩ = some (.func (.func g) #[] lb)
  c1 : wr.cell? ⟨B, 1, none⟩ = some (.func (.func sf) #[] sb)
  st : Stay (fun k => k ≠ blk) w wr
omit [Inhabited α] in
theorem SSt.step {blk : Nat} {I : Array α → World → Prop} {w : World} {B g : Nat} {lb : Array Value} {sf : Nat} {sb : Array Value} {d d' : Array α} {wr wr' : World} (h : SSt blk I w B g lb sf sb d wr) (hB : B ≠ blk) (hi : I d' wr') (hs : Stay (fun k => k ≠ blk) wr wr') : SSt blk I w B g lb sf sb d' wr' :=
  ⟨hi, hs.cell h.c0 hB, hs.cell h.c1 hB, h.st.trans hs⟩
theorem SSt.start {blk : Nat} {I : Array α → World → Prop} {w : World} {g : Nat} {lb : Array Value} {sf : Nat} {sb : Array Value} {lt : α → α → Bool} {n base : Nat} (E : SEnv g lb sf sb lt n blk base I) {d : Array α} (hi : I d w) (T : TypeId) :
    SSt blk I w w.heap.size g lb sf sb d (w.alloc (.cells #[.func (.func g) #[] lb, .func (.func sf) #[] sb] T)) :=
  ⟨E.on _ _ _ hi ((Below.refl _ _).alloc (Nat.le_refl _) _), by simp, by simp, .alloc _ _ _⟩

set_option maxHeartbeats 2000000 in
theorem insertion_any {g : Nat} {lb : Array Value} {sf : Nat} {sb : Array Value} {lt : α → α → Bool} {n blk base : Nat} {I : Array α → World → Prop} (E : SEnv g lb sf sb lt n blk base I) (a b : Nat) (d : Array α) (w : World) (h : I d w) (hab : a ≤ b) (hb : b ≤ n) :
    Calls Try.prog 110 #[.agg #[.func (.func g) #[] lb, .func (.func sf) #[] sb], .int .i64 a, .int .i64 b] w fun e w' => e = .returned (.tuple #[]) ∧ I (Sort.insertionSort lt d a b) w' ∧ Stay (fun k => k ≠ blk) w w' := by
  have eg := E.eg
  have hbig := E.big
  have HB : Hid (w.heap.size ≠ blk) := by have := E.lt _ _ h; have := E.bb; show _ ≠ _; omega
  have HE : Hid (SEnv g lb sf sb lt n blk base I) := E
  have S0 := SSt.start E h 128
  clear E h
  go_enter Try.func110, Try.ntmps110
  go_wp2
  go_loopw [6] (fun vi wr => ∃ (i : Nat) (dk : Array α), vi = .int .i64 i ∧ a < i ∧ i ≤ b + 1 ∧ SSt blk I w w.heap.size g lb sf sb dk wr ∧ Hid (insOuter lt a b i dk = insOuter lt a b (a + 1) d)) (fun vi _ => b + 1 - (intOf vi).toNat)
  case atStart => exact ⟨a + 1, d, by go_num, by omega, by omega, S0, rfl⟩
  case round =>
    obtain ⟨i, dk, rfl, hai, hib, S, HO⟩ := hrel
    clear S0
    go_wp2
    · go_loopw [7] (fun vj wr2 => ∃ (j : Nat) (dj : Array α), vj = .int .i64 j ∧ a ≤ j ∧ j ≤ i ∧ SSt blk I w w.heap.size g lb sf sb dj wr2 ∧ Hid (insInner lt a j dj = insInner lt a i dk)) (fun vj _ => (intOf vj).toNat)
      case atStart => exact ⟨i, dk, rfl, by omega, Nat.le_refl _, S, rfl⟩
      case round =>
        obtain ⟨j, dj, rfl, haj, hji, S2, HI⟩ := hrel
        have hlt : i < b := by assumption
        clear S
        have c0 := S2.c0
        have c1 := S2.c1
        by_cases hja : a < j
        · have hl := HE.out.less dj wr j (j - 1) S2.i (by omega) (by omega)
          rw [show (((j - 1 : Nat) : Int)) = (j : Int) - 1 by omega] at hl
          cases hlv : lt dj[j]! dj[j - 1]! with
          | true =>
            rw [hlv] at hl
            have HI2 : Hid (insInner lt a (j - 1) (swp dj j (j - 1)) = insInner lt a i dk) := by show _ = _; rw [← HI.out, insInner_go lt a j dj hja hlv]
            go_wp2_with (go_at_fn g; refine hl.mono ?_; rintro e w' ⟨rfl, hI', hS'⟩; have c1' := hS'.cell c1 HB.out; clear c0 c1)
            obtain ⟨W', hrun, hI2, hS2⟩ := HE.out.swap dj w' j (j - 1) hI' (by omega) (by omega)
            rw [show (((j - 1 : Nat) : Int)) = (j : Int) - 1 by omega] at hrun
            rw [hrun, Oper.upon_value]
            have S3 := (S2.step HB.out hI' hS').step HB.out hI2 hS2
            clear hrun hl
            go_wp2
            go_roundw
            case rel =>
              (repeat apply Exists.intro)
              exact ⟨⟨j - 1, swp dj j (j - 1), by congr 1 <;> omega, by omega, by omega, S3, HI2⟩, by rw [decide_eq_true hlt, show ((j - 1 : Nat) : Int) = (j : Int) - 1 by omega]⟩
            case measure => simp [intOf]; omega
          | false =>
            rw [hlv] at hl
            have HO2 : Hid (insOuter lt a b (i + 1) dj = insOuter lt a b (a + 1) d) := by show _ = _; rw [← HO.out, insOuter_go _ _ _ _ _ hlt, ← HI.out, insInner_stop _ _ _ _ (Or.inr hlv)]
            go_wp2_with (go_at_fn g; refine hl.mono ?_; rintro e w' ⟨rfl, hI', hS'⟩; clear c0 c1)
            have S3 := S2.step HB.out hI' hS'
            go_roundw
            case rel => exact ⟨i + 1, dj, by go_num, by omega, by omega, S3, HO2⟩
            case measure => simp [intOf]; omega
        · have HO2 : Hid (insOuter lt a b (i + 1) dj = insOuter lt a b (a + 1) d) := by show _ = _; rw [← HO.out, insOuter_go _ _ _ _ _ hlt, ← HI.out, insInner_stop _ _ _ _ (Or.inl (by omega))]
          go_wp2
          go_roundw
          case rel => exact ⟨i + 1, dj, by go_num, by omega, by omega, S2, HO2⟩
          case measure => simp [intOf]; omega
    · have hge : ¬ i < b := by assumption
      go_end0
      exact ⟨rfl, by unfold Sort.insertionSort; rw [← HO.out, insOuter_stop _ _ _ _ _ hge]; exact S.i, S.st⟩
end Go.Proofs.Ytkjlldbgooogdab

/- sort.siftDown_func, by a comparison that may lay blocks. Conditions: rows of less than 2^62 elements. -/
namespace Go.Proofs.Ytkjlldbgooogdab
set_option maxRecDepth 100000
open Go.RowKit Go.Sort

variable {α : Type} [Inhabited α]
variable {g : Nat} {lb : Array Value} {sf : Nat} {sb : Array Value} {lt : α → α → Bool} {n blk base : Nat} {I : Array α → World → Prop}

/-- The comparison, the places as the walk has them. -/
theorem SEnv.lessI (E : SEnv g lb sf sb lt n blk base I) (d : Array α) (W : World) (i j : Nat) (x y : Int) (hx : x = i) (hy : y = j) (h : I d W) (hi : i < n) (hj : j < n) :
    Calls Try.prog g (#[.int .i64 x, .int .i64 y] ++ lb) W fun e W' => e = .returned (.bool (lt d[i]! d[j]!)) ∧ I d W' ∧ Stay (fun k => k ≠ blk) W W' := by
  subst hx hy
  exact E.less d W i j h hi hj
/-- The same, what it tells known. -/
theorem SEnv.lessV (E : SEnv g lb sf sb lt n blk base I) (d : Array α) (i j : Nat) (x y : Int) (v : Bool) (hv : lt d[i]! d[j]! = v) (hx : x = i) (hy : y = j) (hi : i < n) (hj : j < n) (W : World) (h : I d W) :
    Calls Try.prog g (#[.int .i64 x, .int .i64 y] ++ lb) W fun e W' => e = .returned (.bool v) ∧ I d W' ∧ Stay (fun k => k ≠ blk) W W' := by
  subst hv
  exact E.lessI d W i j x y hx hy h hi hj
theorem SEnv.swapI (E : SEnv g lb sf sb lt n blk base I) (d : Array α) (W : World) (i j : Nat) (x y : Int) (hx : x = i) (hy : y = j) (h : I d W) (hi : i < n) (hj : j < n) :
    ∃ W', (callFunc sf (#[.int .i64 x, .int .i64 y] ++ sb)).run Try.prog W = .ok (.value (.tuple #[])) W' ∧ I (swp d i j) W' ∧ Stay (fun k => k ≠ blk) W W' := by
  subst hx hy
  exact E.swap d W i j h hi hj

set_option maxHeartbeats 4000000 in
theorem siftDown_any (E : SEnv g lb sf sb lt n blk base I) (lo hi first : Nat) (d : Array α) (w : World) (h : I d w) (hlo : lo ≤ hi) (hb : first + hi ≤ n) :
    Calls Try.prog 129 #[.agg #[.func (.func g) #[] lb, .func (.func sf) #[] sb], .int .i64 lo, .int .i64 hi, .int .i64 first] w fun e w' => e = .returned (.tuple #[]) ∧ I (siftDown lt hi first lo d) w' ∧ Stay (fun k => k ≠ blk) w w' := by
  have eg := E.eg
  have hbig := E.big
  have HB : Hid (w.heap.size ≠ blk) := by have := E.lt _ _ h; have := E.bb; show _ ≠ _; omega
  have HE : Hid (SEnv g lb sf sb lt n blk base I) := E
  have S0 := SSt.start E h 128
  clear E h
  go_enter Try.func129, Try.ntmps129
  go_wp2
  go_loopw [8] (fun v wr => ∃ (root : Nat) (dk : Array α), v = .int .i64 root ∧ root ≤ hi ∧ SSt blk I w w.heap.size g lb sf sb dk wr ∧ Hid (siftDown lt hi first root dk = siftDown lt hi first lo d)) (fun v _ => hi - (intOf v).toNat)
  case atStart => exact ⟨lo, d, rfl, hlo, S0, rfl⟩
  case round =>
    obtain ⟨root, dk, rfl, hr, S, HK⟩ := hrel
    clear S0
    have c0 := S.c0
    have c1 := S.c1
    by_cases h0 : hi ≤ 2 * root + 1
    · have h0z : (hi : Int) ≤ 2 * (root : Int) + 1 := by omega
      go_wp2
      go_end0
      exact ⟨rfl, by rw [← HK.out, sd_end lt dk h0]; exact S.i, S.st⟩
    · have h0z : ¬ ((hi : Int) ≤ 2 * (root : Int) + 1) := by omega
      by_cases h1 : 2 * root + 2 < hi
      · have h1z : 2 * (root : Int) + 1 + 1 < (hi : Int) := by omega
        cases hL : lt dk[first + (2 * root + 1)]! dk[first + (2 * root + 2)]! with
        | true =>
          have hl1 := HE.out.lessV dk (first + (2 * root + 1)) (first + (2 * root + 2)) ((first : Int) + (2 * (root : Int) + 1)) ((first : Int) + (2 * (root : Int) + 1) + 1) true hL (by omega) (by omega) (by omega) (by omega)
          cases hG : lt dk[first + root]! dk[first + (2 * root + 2)]! with
          | true =>
            have hl2 := HE.out.lessV dk (first + root) (first + (2 * root + 2)) ((first : Int) + (root : Int)) ((first : Int) + (2 * (root : Int) + 1 + 1)) true hG (by omega) (by omega) (by omega) (by omega)
            have HN : Hid (siftDown lt hi first (2 * root + 2) (swp dk (first + root) (first + (2 * root + 2))) = siftDown lt hi first lo d) := by show _ = _; rw [← HK.out, sd_right_go lt dk h1 hL hG]
            go_wp2_with (first
              | (go_at_fn g; refine (hl1 _ S.i).mono ?_; rintro e w2 ⟨rfl, hI2, hS2⟩; have S2 := S.step HB.out hI2 hS2; clear c0 c1 hl1; have c0 := S2.c0; have c1 := S2.c1)
              | (go_at_fn g; refine (hl2 _ S2.i).mono ?_; rintro e w3 ⟨rfl, hI3, hS3⟩; have S3 := S2.step HB.out hI3 hS3; have k0 := S3.c0; have k1 := S3.c1; obtain ⟨W4, hrun, hI4, hS4⟩ := HE.out.swapI dk w3 (first + root) (first + (2 * root + 2)) ((first : Int) + (root : Int)) ((first : Int) + (2 * (root : Int) + 1 + 1)) (by omega) (by omega) S3.i (by omega) (by omega); have S4 := S3.step HB.out hI4 hS4; clear hl2))
            go_roundw
            case rel => exact ⟨2 * root + 2, swp dk (first + root) (first + (2 * root + 2)), by go_num, by omega, S4, HN⟩
            case measure => simp [intOf]; omega
          | false =>
            have hl2 := HE.out.lessV dk (first + root) (first + (2 * root + 2)) ((first : Int) + (root : Int)) ((first : Int) + (2 * (root : Int) + 1 + 1)) false hG (by omega) (by omega) (by omega) (by omega)
            have HN : Hid (dk = siftDown lt hi first lo d) := by show _ = _; rw [← HK.out, sd_right_stop lt dk h1 hL hG]
            go_wp2_with (first
              | (go_at_fn g; refine (hl1 _ S.i).mono ?_; rintro e w2 ⟨rfl, hI2, hS2⟩; have S2 := S.step HB.out hI2 hS2; clear c0 c1 hl1; have c0 := S2.c0; have c1 := S2.c1)
              | (go_at_fn g; refine (hl2 _ S2.i).mono ?_; rintro e w3 ⟨rfl, hI3, hS3⟩; have S3 := S2.step HB.out hI3 hS3; have k0 := S3.c0; have k1 := S3.c1; clear hl2))
            refine bodyPost_ret (results_none rfl _ _ _) rfl ?_
            exact ⟨rfl, by rw [← HN.out]; exact S3.i, S3.st⟩
        | false =>
          have hl1 := HE.out.lessV dk (first + (2 * root + 1)) (first + (2 * root + 2)) ((first : Int) + (2 * (root : Int) + 1)) ((first : Int) + (2 * (root : Int) + 1) + 1) false hL (by omega) (by omega) (by omega) (by omega)
          cases hG : lt dk[first + root]! dk[first + (2 * root + 1)]! with
          | true =>
            have hl2 := HE.out.lessV dk (first + root) (first + (2 * root + 1)) ((first : Int) + (root : Int)) ((first : Int) + (2 * (root : Int) + 1)) true hG (by omega) (by omega) (by omega) (by omega)
            have HN : Hid (siftDown lt hi first (2 * root + 1) (swp dk (first + root) (first + (2 * root + 1))) = siftDown lt hi first lo d) := by show _ = _; rw [← HK.out, sd_left_go lt dk (by omega) (fun _ => hL) hG]
            go_wp2_with (first
              | (go_at_fn g; refine (hl1 _ S.i).mono ?_; rintro e w2 ⟨rfl, hI2, hS2⟩; have S2 := S.step HB.out hI2 hS2; clear c0 c1 hl1; have c0 := S2.c0; have c1 := S2.c1)
              | (go_at_fn g; refine (hl2 _ S2.i).mono ?_; rintro e w3 ⟨rfl, hI3, hS3⟩; have S3 := S2.step HB.out hI3 hS3; have k0 := S3.c0; have k1 := S3.c1; obtain ⟨W4, hrun, hI4, hS4⟩ := HE.out.swapI dk w3 (first + root) (first + (2 * root + 1)) ((first : Int) + (root : Int)) ((first : Int) + (2 * (root : Int) + 1)) (by omega) (by omega) S3.i (by omega) (by omega); have S4 := S3.step HB.out hI4 hS4; clear hl2))
            go_roundw
            case rel => exact ⟨2 * root + 1, swp dk (first + root) (first + (2 * root + 1)), by go_num, by omega, S4, HN⟩
            case measure => simp [intOf]; omega
          | false =>
            have hl2 := HE.out.lessV dk (first + root) (first + (2 * root + 1)) ((first : Int) + (root : Int)) ((first : Int) + (2 * (root : Int) + 1)) false hG (by omega) (by omega) (by omega) (by omega)
            have HN : Hid (dk = siftDown lt hi first lo d) := by show _ = _; rw [← HK.out, sd_left_stop lt dk (by omega) (fun _ => hL) hG]
            go_wp2_with (first
              | (go_at_fn g; refine (hl1 _ S.i).mono ?_; rintro e w2 ⟨rfl, hI2, hS2⟩; have S2 := S.step HB.out hI2 hS2; clear c0 c1 hl1; have c0 := S2.c0; have c1 := S2.c1)
              | (go_at_fn g; refine (hl2 _ S2.i).mono ?_; rintro e w3 ⟨rfl, hI3, hS3⟩; have S3 := S2.step HB.out hI3 hS3; have k0 := S3.c0; have k1 := S3.c1; clear hl2))
            refine bodyPost_ret (results_none rfl _ _ _) rfl ?_
            exact ⟨rfl, by rw [← HN.out]; exact S3.i, S3.st⟩
      · have h1z : ¬ (2 * (root : Int) + 1 + 1 < (hi : Int)) := by omega
        cases hG : lt dk[first + root]! dk[first + (2 * root + 1)]! with
        | true =>
          have hl2 := HE.out.lessV dk (first + root) (first + (2 * root + 1)) ((first : Int) + (root : Int)) ((first : Int) + (2 * (root : Int) + 1)) true hG (by omega) (by omega) (by omega) (by omega)
          have HN : Hid (siftDown lt hi first (2 * root + 1) (swp dk (first + root) (first + (2 * root + 1))) = siftDown lt hi first lo d) := by show _ = _; rw [← HK.out, sd_left_go lt dk (by omega) (fun h => absurd h h1) hG]
          go_wp2_with (go_at_fn g; refine (hl2 _ S.i).mono ?_; rintro e w3 ⟨rfl, hI3, hS3⟩; have S3 := S.step HB.out hI3 hS3; have k0 := S3.c0; have k1 := S3.c1; obtain ⟨W4, hrun, hI4, hS4⟩ := HE.out.swapI dk w3 (first + root) (first + (2 * root + 1)) ((first : Int) + (root : Int)) ((first : Int) + (2 * (root : Int) + 1)) (by omega) (by omega) S3.i (by omega) (by omega); have S4 := S3.step HB.out hI4 hS4; clear hl2)
          go_roundw
          case rel => exact ⟨2 * root + 1, swp dk (first + root) (first + (2 * root + 1)), by go_num, by omega, S4, HN⟩
          case measure => simp [intOf]; omega
        | false =>
          have hl2 := HE.out.lessV dk (first + root) (first + (2 * root + 1)) ((first : Int) + (root : Int)) ((first : Int) + (2 * (root : Int) + 1)) false hG (by omega) (by omega) (by omega) (by omega)
          have HN : Hid (dk = siftDown lt hi first lo d) := by show _ = _; rw [← HK.out, sd_left_stop lt dk (by omega) (fun h => absurd h h1) hG]
          go_wp2_with (go_at_fn g; refine (hl2 _ S.i).mono ?_; rintro e w3 ⟨rfl, hI3, hS3⟩; have S3 := S.step HB.out hI3 hS3; have k0 := S3.c0; have k1 := S3.c1; clear hl2)
          refine bodyPost_ret (results_none rfl _ _ _) rfl ?_
          exact ⟨rfl, by rw [← HN.out]; exact S3.i, S3.st⟩
end Go.Proofs.Ytkjlldbgooogdab

/- sort.heapSort_func, sort.reverseRange_func, by a comparison that may lay blocks. Conditions: rows of less than 2^62 elements. -/
namespace Go.Proofs.Ytkjlldbgooogdab
set_option maxRecDepth 100000
open Go.RowKit Go.Sort

variable {α : Type} [Inhabited α]
variable {g : Nat} {lb : Array Value} {sf : Nat} {sb : Array Value} {lt : α → α → Bool} {n blk base : Nat} {I : Array α → World → Prop}

set_option maxHeartbeats 1000000 in
theorem reverse_any (E : SEnv g lb sf sb lt n blk base I) (a b : Nat) (d : Array α) (w : World) (h : I d w) (hab : a < b) (hb : b ≤ n) :
    Calls Try.prog 114 #[.agg #[.func (.func g) #[] lb, .func (.func sf) #[] sb], .int .i64 a, .int .i64 b] w fun e w' => e = .returned (.tuple #[]) ∧ I (reverseRange d a b) w' ∧ Stay (fun k => k ≠ blk) w w' := by
  have eg := E.eg
  have hbig := E.big
  have HB : Hid (w.heap.size ≠ blk) := by have := E.lt _ _ h; have := E.bb; show _ ≠ _; omega
  have HE : Hid (SEnv g lb sf sb lt n blk base I) := E
  have S0 := SSt.start E h 128
  clear E h
  go_enter Try.func114, Try.ntmps114
  go_wp2
  go_loopw [6, 7] (fun vi vj wr => ∃ (i j : Nat) (dk : Array α), vi = .int .i64 i ∧ vj = .int .i64 j ∧ j < b ∧ i ≤ b ∧ SSt blk I w w.heap.size g lb sf sb dk wr ∧ Hid (reverseLoop i j dk = reverseRange d a b)) (fun vi vj _ => (intOf vj).toNat - (intOf vi).toNat)
  case atStart => exact ⟨a, b - 1, d, rfl, by congr 1; omega, by omega, by omega, S0, rfl⟩
  case round =>
    obtain ⟨i, j, dk, rfl, rfl, hj, hi, S, HK⟩ := hrel
    clear S0
    have c0 := S.c0
    have c1 := S.c1
    by_cases hij : i < j
    · have hijz : (i : Int) < (j : Int) := by omega
      obtain ⟨W4, hrun, hI4, hS4⟩ := HE.out.swapI dk wr i j i j rfl rfl S.i (by omega) (by omega)
      have S4 := S.step HB.out hI4 hS4
      have HN : Hid (reverseLoop (i + 1) (j - 1) (swp dk i j) = reverseRange d a b) := by have := HK.out; rw [reverseLoop, if_pos hij] at this; exact this
      go_wp2
      go_roundw
      case rel => exact ⟨i + 1, j - 1, swp dk i j, by go_num, by congr 1; omega, by omega, by omega, S4, HN⟩
      case measure => simp [intOf] <;> omega
    · have hijz : ¬ (i : Int) < (j : Int) := by omega
      have HN : Hid (dk = reverseRange d a b) := by have := HK.out; rw [reverseLoop, if_neg hij] at this; exact this
      go_wp2
      go_end0
      exact ⟨rfl, by rw [← HN.out]; exact S.i, S.st⟩

set_option maxHeartbeats 1000000 in
theorem heapSort_any (E : SEnv g lb sf sb lt n blk base I) (a b : Nat) (d : Array α) (w : World) (h : I d w) (hab : a < b) (hb : b ≤ n) :
    Calls Try.prog 111 #[.agg #[.func (.func g) #[] lb, .func (.func sf) #[] sb], .int .i64 a, .int .i64 b] w fun e w' => e = .returned (.tuple #[]) ∧ I (heapSort lt d a b) w' ∧ Stay (fun k => k ≠ blk) w w' := by
  have eg := E.eg
  have hbig := E.big
  have HB : Hid (w.heap.size ≠ blk) := by have := E.lt _ _ h; have := E.bb; show _ ≠ _; omega
  have HE : Hid (SEnv g lb sf sb lt n blk base I) := E
  have S0 := SSt.start E h 128
  clear E h
  go_enter Try.func111, Try.ntmps111
  have hdiv : IntKind.i64.wrap ((b : Int) - (a : Int)) = ((b - a : Nat) : Int) := by rw [IntKind.wrap_i64]; omega
  have hcb : (b : Int) - (a : Int) = ((b - a : Nat) : Int) := by omega
  obtain ⟨N, hN⟩ : ∃ N, N = b - a := ⟨_, rfl⟩
  rw [← hN] at hdiv hcb
  have hN1 : 1 ≤ N := by omega
  have hNa : a + N ≤ n := by omega
  have HH : Hid (heapSort lt d a b = heapPop lt a N (heapBuild lt N a ((N - 1) / 2 + 1) d)) := by show _ = _; unfold heapSort; rw [hN]
  have htd : ((N : Int) - 1).tdiv 2 = (((N - 1) / 2 : Nat) : Int) := by rw [show (N : Int) - 1 = ((N - 1 : Nat) : Int) by omega]; rfl
  clear hN
  go_wp2
  go_loopw [9] (fun v wr => ∃ (kx : Nat) (dk : Array α), v = .int .i64 ((kx : Int) - 1) ∧ kx ≤ (N - 1) / 2 + 1 ∧ SSt blk I w w.heap.size g lb sf sb dk wr ∧ Hid (heapBuild lt N a kx dk = heapBuild lt N a ((N - 1) / 2 + 1) d)) (fun v _ => (intOf v + 1).toNat)
  case atStart => exact ⟨(N - 1) / 2 + 1, d, by congr 1; omega, Nat.le_refl _, S0, rfl⟩
  case round =>
    obtain ⟨kx, dk, rfl, hkx, S, HK⟩ := hrel
    clear S0
    have c0 := S.c0
    have c1 := S.c1
    cases kx with
    | zero =>
      have HK2 : Hid (dk = heapBuild lt N a ((N - 1) / 2 + 1) d) := by show _ = _; rw [← HK.out, heapBuild]
      clear HK
      go_wp2
      go_loopw [10] (fun v wr2 => ∃ (kx : Nat) (dj : Array α), v = .int .i64 ((kx : Int) - 1) ∧ kx ≤ N ∧ SSt blk I w w.heap.size g lb sf sb dj wr2 ∧ Hid (heapPop lt a kx dj = heapPop lt a N dk)) (fun v _ => (intOf v + 1).toNat)
      case atStart => exact ⟨N, dk, rfl, Nat.le_refl _, S, rfl⟩
      case round =>
        obtain ⟨kx, dj, rfl, hkx2, S2, HK3⟩ := hrel
        clear S c0 c1
        have c0 := S2.c0
        have c1 := S2.c1
        cases kx with
        | zero =>
          have HF : Hid (dj = heapSort lt d a b) := by show _ = _; rw [HH.out, ← HK2.out, ← HK3.out, heapPop]
          go_wp2
          go_end0
          exact ⟨rfl, by rw [← HF.out]; exact S2.i, S2.st⟩
        | succ kx =>
          simp only [show (((kx + 1 : Nat) : Int) - 1) = (kx : Int) by omega]
          have hz : (0 : Int) ≤ (kx : Int) := by omega
          have hw1 : IntKind.i64.wrap ((a : Int) + (kx : Int)) = (a : Int) + (kx : Int) := by rw [IntKind.wrap_i64]; omega
          obtain ⟨W4, hrun, hI4, hS4⟩ := HE.out.swapI dj wr a (a + kx) a ((a : Int) + (kx : Int)) rfl (by omega) S2.i (by omega) (by omega)
          have S4 := S2.step HB.out hI4 hS4
          have k0 := S4.c0
          have k1 := S4.c1
          have C := siftDown_any HE.out 0 kx a (swp dj a (a + kx)) W4 S4.i (by omega) (by omega)
          have HN : Hid (heapPop lt a kx (siftDown lt kx a 0 (swp dj a (a + kx))) = heapPop lt a N dk) := by show _ = _; rw [← HK3.out, heapPop]
          go_wp2_with (go_at_call 129; refine C.mono ?_; rintro e w5 ⟨rfl, hI5, hS5⟩; have S5 := S4.step HB.out hI5 hS5; clear C)
          go_roundw
          case rel =>
            first
              | exact ⟨kx, _, by first | rfl | (congr 1; omega), by omega, S5, HN⟩
              | ((repeat apply Exists.intro); exact ⟨⟨kx, _, by first | rfl | (congr 1; omega), by omega, S5, HN⟩, rfl⟩)
          case measure => simp [intOf] <;> omega
    | succ kx =>
      simp only [show (((kx + 1 : Nat) : Int) - 1) = (kx : Int) by omega]
      have hz : (0 : Int) ≤ (kx : Int) := by omega
      have C := siftDown_any HE.out kx N a dk wr S.i (by omega) (by omega)
      have HN : Hid (heapBuild lt N a kx (siftDown lt N a kx dk) = heapBuild lt N a ((N - 1) / 2 + 1) d) := by show _ = _; rw [← HK.out, heapBuild]
      go_wp2_with (go_at_call 129; refine C.mono ?_; rintro e w5 ⟨rfl, hI5, hS5⟩; have S5 := S.step HB.out hI5 hS5; clear C)
      go_roundw
      case rel =>
        first
          | exact ⟨kx, _, by first | rfl | (congr 1; omega), by omega, S5, HN⟩
          | ((repeat apply Exists.intro); exact ⟨⟨kx, _, by first | rfl | (congr 1; omega), by omega, S5, HN⟩, rfl⟩)
      case measure => simp [intOf] <;> omega
end Go.Proofs.Ytkjlldbgooogdab

