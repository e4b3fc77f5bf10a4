/- What the proof of FnExactBasis stands on, part 8 of 8: each piece says what it proves and under which conditions. Conditions: as each piece says. -/
import Derived.Test.YthbilahilmmfmaaPackExactBasis7
/- Rows of numbers marked and held against their marks, each in a block of its own. Conditions: at most 1048577 rows and numbers together. -/
namespace Go.Proofs.Ythbilahilmmfmaa
set_option maxRecDepth 100000
open Go.RowKit

set_option maxHeartbeats 1600000 in
theorem mark_own (base g : Nat) (zs : List Int) (k : Int) (n cap : Nat) (w : World) (hn : n = zs.length) (hown : w.ownsRow base 3 1 (.slice (some ⟨g, 0, none⟩) n cap) n (ints zs)) (hl : n ≤ 1048577) (hk1 : 0 ≤ k) (hk2 : k ≤ 4000000000000) :
    Calls Try.prog 35 #[.slice (some ⟨g, 0, none⟩) n cap, .int .i64 k] w fun e w' => e = .returned (.int .i64 (k + n)) ∧ w'.ownsRow base 3 1 (.slice (some ⟨g, 0, none⟩) n cap) n (ints (upFrom k n)) ∧ w.grownBy w' (some g) := by
  subst hn
  go_enter Try.func35, Try.ntmps35
  go_wp2
  go_loopw [1, 5] (fun t i wr => ∃ j : Nat, j ≤ zs.length ∧ i = .int .i64 j ∧ t = .int .i64 (k + (j : Int)) ∧ wr.ownsRow base 3 1 (.slice (some ⟨g, 0, none⟩) zs.length cap) zs.length (ints (upFrom k j) ++ (ints zs).drop j) ∧ w.grownBy wr (some g)) (fun _ i _ => zs.length - (intOf i).toNat)
  case atStart => exact ⟨0, Nat.zero_le _, rfl, by simp, hown, ⟨rfl, rfl, rfl, Nat.le_refl _, fun _ _ _ => rfl⟩⟩
  case round =>
    obtain ⟨j, hj, rfl, rfl, hown', hg⟩ := hrel
    clear hown
    by_cases hj' : j < zs.length
    · obtain ⟨u, hu⟩ := mark_at (k := k) hj'
      have hfz := hown'.frozenAt j
      have hce : wr.cell? ⟨g, j, none⟩ = some (.int .i64 u) := (hown'.cellAt j (by omega)).trans hu
      have R := hown'.stored j (.int .i64 (k + (j : Int)))
      rw [mark_step hj'] at R
      obtain ⟨R1, R2⟩ := R
      have R3 := grown_trans hg R2
      clear hown' hg R2 hu
      go_wp2
      go_roundw
      case rel => exact ⟨j + 1, by omega, by go_num, by go_num, R1, R3⟩
      case measure => simp [intOf]; omega
    · have e : j = zs.length := by omega
      subst e
      have e2 : (ints zs).drop zs.length = [] := List.drop_of_length_le (by simp [ints])
      rw [e2, List.append_nil] at hown'
      have HW : Hid (wr.ownsRow base 3 1 (.slice (some ⟨g, 0, none⟩) zs.length cap) zs.length (ints (upFrom k zs.length))) := hown'
      clear hown' e2
      go_wp2
      go_ret
      exact ⟨rtI (by omega), HW.out, hg⟩

set_option maxHeartbeats 1600000 in
theorem held_far (a : Option Addr) (k : Int) (n cap : Nat) (w : World) (hr : Rd w a (upFrom k n)) (hl : n ≤ 1048577) (hk1 : 0 ≤ k) (hk2 : k ≤ 4000000000000) :
    Calls Try.prog 67 #[.slice a n cap, .int .i64 k] w fun e w' => e = .returned (.int .i64 (k + n)) ∧ w' = w := by
  rcases hr with h | ⟨b, off, rfl, hlt, hc⟩
  · have hn : n = 0 := by have := upFrom_len k n; rw [h] at this; simpa using this.symm
    subst hn
    clear h
    go_enter Try.func67, Try.ntmps67
    go_wp2
    refine wp_loop_rounds 1 ?_
    rw [rounds_succ]
    go_wp2
    go_ret
    exact ⟨rtI (by omega), rfl⟩
  · have hc2 : ∀ i, i < n → w.cell? ⟨b, off + i, none⟩ = some (.int .i64 (k + (i : Int))) := by
      intro i hi
      rw [hc i (by rw [upFrom_len]; exact hi), upFrom_at k n i hi]; rfl
    clear hc
    go_enter Try.func67, Try.ntmps67
    go_wp2
    go_loop [1, 5] (fun t i => ∃ j : Nat, j ≤ n ∧ i = .int .i64 j ∧ t = .int .i64 (k + (j : Int))) (fun _ i => n - (intOf i).toNat)
    case atStart => exact ⟨0, Nat.zero_le _, rfl, by simp⟩
    case round =>
      obtain ⟨j, hj, rfl, rfl⟩ := hrel
      by_cases hj' : j < n
      · have hcj := hc2 j hj'
        clear hc2
        go_wp2
        go_round
        case rel => exact ⟨j + 1, by omega, by go_num, by go_num⟩
        case measure => simp [intOf]; omega
      · go_wp2
        go_ret
        exact ⟨rtI (by omega), rfl⟩

theorem cellsG_get {gs : List (Nat × Nat)} {rows : List (List Int)} {i : Nat} (h : i < gs.length) (h' : i < rows.length) : (cellsG gs rows)[i]? = some (.slice (some ⟨gs[i].1, 0, none⟩) rows[i].length gs[i].2) := by
  unfold cellsG
  rw [List.getElem?_zipWith, List.getElem?_eq_getElem h, List.getElem?_eq_getElem h']
theorem sumQ_le {rows : List (List Int)} (j : Nat) : sumQ (rows.take j) ≤ sumQ rows := by
  have e : sumQ rows = sumQ (rows.take j) + sumQ (rows.drop j) := by
    conv => lhs; rw [← List.take_append_drop j rows]
    unfold sumQ
    rw [List.map_append, List.sum_append]
  omega
/-- Each row holds its marks. -/
def Marked (k : Int) (lo : Nat) (W : World) (gs : List (Nat × Nat)) (rows : List (List Int)) (n : Nat) : Prop :=
  ∀ i, i < n → (h : i < gs.length) → (h' : i < rows.length) → W.ownsRow lo 3 1 (.slice (some ⟨gs[i].1, 0, none⟩) rows[i].length gs[i].2) rows[i].length (ints (upFrom (k + (sumQ (rows.take i) : Int)) rows[i].length))

set_option maxHeartbeats 1600000 in
theorem markRows_any (S : Nat → Prop) (lo : Nat) (la : Option Addr) (gs : List (Nat × Nat)) (rows : List (List Int)) (c : Nat) (k : Int) (w : World) (ho : w.ownsRow lo 24 1 (.slice la rows.length c) rows.length (cellsG gs rows)) (hq : RowO S lo (.slice la rows.length c) w gs rows) (hl : rows.length + sumQ rows ≤ 1048577) (hk1 : 0 ≤ k) (hk2 : k ≤ 4) :
    Calls Try.prog 36 #[.slice la rows.length c, .int .i64 k] w fun e w' => e = .returned (.int .i64 (k + sumQ rows)) ∧ Stay (fun x => x ∉ gs.map Prod.fst) w w' ∧ Marked k lo w' gs rows rows.length := by
  have HO : Hid (w.ownsRow lo 24 1 (.slice la rows.length c) rows.length (cellsG gs rows)) := ho
  have HQ : Hid (RowO S lo (.slice la rows.length c) w gs rows) := hq
  have hlen := hq.len
  clear ho hq
  go_enter Try.func36, Try.ntmps36
  go_wp2_with fail
  go_loopw [1, 5] (fun t i wr => ∃ j : Nat, j ≤ rows.length ∧ i = .int .i64 j ∧ t = .int .i64 (k + (sumQ (rows.take j) : Int)) ∧ Hid (Stay (fun x => x ∉ (gs.map Prod.fst).take j) w wr) ∧ Hid (Marked k lo wr gs rows j)) (fun _ i _ => rows.length - (intOf i).toNat)
  case atStart => exact ⟨0, Nat.zero_le _, rfl, by simp [sumQ], Stay.refl _ _, fun i h => by omega⟩
  case round =>
    obtain ⟨j, hj, rfl, rfl, HS, HM⟩ := hrel
    by_cases hj' : j < rows.length
    · have hjL : j < gs.length := by omega
      obtain ⟨g, rfl⟩ : ∃ g, la = some ⟨g, 0, none⟩ := by
        rcases HO.out.2 with ⟨_, e0⟩ | ⟨g, cap, _, e, _⟩
        · omega
        · cases e; exact ⟨g, rfl⟩
      have hgL : g ∉ gs.map Prod.fst := fun h => by
        obtain ⟨p, hp, e⟩ := List.mem_map.1 h
        exact (HQ.out.s p hp).2.2 (by rw [e]; rfl)
      have c0 := HO.out.cellAt j (by omega)
      rw [cellsG_get hjL hj'] at c0
      have c1 := HS.out.cell c0 (fun h => hgL (List.mem_of_mem_take h))
      have hji : (j : Int) < (rows.length : Int) := by omega
      have hji0 : (0 : Int) ≤ (j : Int) := by omega
      have hmj : j < (gs.map Prod.fst).length := by simpa using hjL
      have hnx : gs[j].1 ∉ (gs.map Prod.fst).take j := fun h => by
        obtain ⟨i, hi, e⟩ := List.getElem_of_mem h
        simp at hi
        rw [List.getElem_take] at e
        have e' : (gs.map Prod.fst)[i]'(by simp; omega) = (gs.map Prod.fst)[j]'hmj := by rw [e]; simp
        have := (List.getElem_inj HQ.out.nd).1 e'
        omega
      have hrw := sumQ_row rows[j] (List.getElem_mem hj')
      have hst := sumQ_take hj'
      have hsl := sumQ_le (rows := rows) j
      have C := mark_own lo gs[j].1 rows[j] (k + (sumQ (rows.take j) : Int)) _ gs[j].2 wr rfl (own_fr (HQ.out.own j hjL hj') (HS.out.block gs[j].1 ((HQ.out.own j hjL hj').lt _ rfl).2 hnx)) (by omega) (by omega) (by omega)
      have HT : Hid ((gs.map Prod.fst).take (j + 1) = (gs.map Prod.fst).take j ++ [gs[j].1]) := by show _ = _; rw [List.take_succ_eq_append_getElem hmj]; simp
      have HST : Hid (sumQ (rows.take (j + 1)) = sumQ (rows.take j) + rows[j].length) := hst
      have HNX : Hid _ := hnx
      have HMS : Hid (∀ W : World, wr.grownBy W (some gs[j].1) → W.ownsRow lo 3 1 (.slice (some ⟨gs[j].1, 0, none⟩) rows[j].length gs[j].2) rows[j].length (ints (upFrom (k + (sumQ (rows.take j) : Int)) rows[j].length)) → Marked k lo W gs rows (j + 1)) := fun W hg hw i hi h1 h2 => by
        by_cases e : i = j
        · subst e; exact hw
        · have hij : i < j := by omega
          refine own_fr (HM.out i hij h1 h2) (hg.block _ ((HM.out i hij h1 h2).lt _ rfl).2 (fun e' => ?_))
          have e2 : gs[j].1 = gs[i].1 := (Option.some.inj e').symm
          have e3 : (gs.map Prod.fst)[i]'(by simp; omega) = (gs.map Prod.fst)[j]'hmj := by simp [e2]
          have := (List.getElem_inj HQ.out.nd).1 e3
          omega
      clear c0 hnx hrw hst hsl
      generalize hgj : gs[j] = gj at c1 C HT HMS
      generalize hm : rows[j].length = m at c1 C HST HMS
      generalize rows[j] = row at C hm
      generalize sumQ (rows.take j) = sj at C HST HMS ⊢
      clear hgj hm
      go_wp2_with (go_at_call 35; refine C.mono ?_; rintro e w2 ⟨rfl, hw2, hg2⟩; have HM2 : Hid _ := HMS.out w2 hg2 hw2; have HG : Hid _ := hg2; clear C hg2 hw2)
      go_roundw
      case rel =>
        refine ⟨j + 1, by omega, by go_num, by rw [HST.out]; go_num, ?_, HM2.out⟩
        show Stay _ _ _
        rw [HT.out]
        exact (HS.out.weak (fun x _ hx h => hx (List.mem_append_left _ h))).trans ((Stay.grown HG.out (fun k e => by cases e; simp)))
      case measure => simp [intOf]; omega
    · have hji : ¬ (j : Int) < (rows.length : Int) := by omega
      have ej : j = rows.length := by omega
      subst ej
      have e2 : (gs.map Prod.fst).take rows.length = gs.map Prod.fst := List.take_of_length_le (by simp; omega)
      rw [List.take_length]
      have H2 : Hid (Stay (fun x => x ∉ gs.map Prod.fst) w wr) := by have := HS.out; rwa [e2] at this
      clear e2 HS
      go_wp2_with fail
      go_ret
      exact ⟨rfl, H2.out.weak (fun x _ hx => by simpa using hx), HM.out⟩

set_option maxHeartbeats 1600000 in
theorem heldRows_any (lo : Nat) (la : Option Addr) (gs : List (Nat × Nat)) (rows : List (List Int)) (c : Nat) (k : Int) (w : World) (hlen : gs.length = rows.length) (ho : w.ownsRow lo 24 1 (.slice la rows.length c) rows.length (cellsG gs rows)) (hq : Marked k lo w gs rows rows.length) (hl : rows.length + sumQ rows ≤ 1048577) (hk1 : 0 ≤ k) (hk2 : k ≤ 4) :
    Calls Try.prog 37 #[.slice la rows.length c, .int .i64 k] w fun e w' => e = .returned (.int .i64 (k + sumQ rows)) ∧ w' = w := by
  have HO : Hid (w.ownsRow lo 24 1 (.slice la rows.length c) rows.length (cellsG gs rows)) := ho
  have HQ : Hid (Marked k lo w gs rows rows.length) := hq
  clear ho hq
  go_enter Try.func37, Try.ntmps37
  go_wp2_with fail
  go_loop [1, 5] (fun t i => ∃ j : Nat, j ≤ rows.length ∧ i = .int .i64 j ∧ t = .int .i64 (k + (sumQ (rows.take j) : Int))) (fun _ i => rows.length - (intOf i).toNat)
  case atStart => exact ⟨0, Nat.zero_le _, rfl, by simp [sumQ]⟩
  case round =>
    obtain ⟨j, hj, rfl, rfl⟩ := hrel
    by_cases hj' : j < rows.length
    · have hjL : j < gs.length := by omega
      obtain ⟨g, rfl⟩ : ∃ g, la = some ⟨g, 0, none⟩ := by
        rcases HO.out.2 with ⟨_, e0⟩ | ⟨g, cap, _, e, _⟩
        · omega
        · cases e; exact ⟨g, rfl⟩
      have c1 := HO.out.cellAt j (by omega)
      rw [cellsG_get hjL hj'] at c1
      have hji : (j : Int) < (rows.length : Int) := by omega
      have hji0 : (0 : Int) ≤ (j : Int) := by omega
      have hrw := sumQ_row rows[j] (List.getElem_mem hj')
      have hst := sumQ_take hj'
      have hsl := sumQ_le (rows := rows) j
      have C := held_far (some ⟨gs[j].1, 0, none⟩) (k + (sumQ (rows.take j) : Int)) rows[j].length gs[j].2 w (RdI.rd (S := fun _ => True) (own_rdi (upFrom_len _ _).symm (HQ.out j hj' hjL hj') trivial)) (by omega) (by omega) (by omega)
      have HST : Hid (sumQ (rows.take (j + 1)) = sumQ (rows.take j) + rows[j].length) := hst
      clear hrw hst hsl
      generalize gs[j] = gj at c1 C
      generalize rows[j].length = m at c1 C HST
      generalize sumQ (rows.take j) = sj at C HST ⊢
      have hk0 : ¬ k + (sj : Int) + (m : Int) < 0 := by omega
      go_wp2_with (go_at_call 67; refine C.mono ?_; rintro e w2 ⟨rfl, hw2⟩; subst w2; clear C)
      go_round
      case rel => exact ⟨j + 1, by omega, by go_num, by rw [HST.out]; go_num⟩
      case measure => simp [intOf]; omega
    · have hji : ¬ (j : Int) < (rows.length : Int) := by omega
      have ej : j = rows.length := by omega
      subst ej
      rw [List.take_length]
      go_wp2_with fail
      go_ret
      exact ⟨rfl, rfl⟩
end Go.Proofs.Ythbilahilmmfmaa

/- What holds in the law of the basis, from the program's first answer on. Conditions: none. -/
namespace Go.Proofs.Ythbilahilmmfmaa
set_option maxRecDepth 100000
open Go.RowKit

/-- What both answered. -/
structure ZC (w w3 : World) (B5 : Nat) (R : List (List Int)) (aW aG : Option Addr) (cG : Nat) (W : World) : Prop where
  hb : Below w.heap.size w w3
  hW : RdQ w3 aW R
  h3 : Below w3.heap.size w3 W
  g : LI B5 (fun _ => True) W (.slice aG R.length cG) R
  l5 : B5 ≤ W.heap.size
  l3 : w3.heap.size ≤ B5
theorem ZC.on {w w3 : World} {B5 : Nat} {R : List (List Int)} {aW aG : Option Addr} {cG : Nat} {W W' : World} (h : ZC w w3 B5 R aW aG cG W) (hb : Below W.heap.size W W') : ZC w w3 B5 R aW aG cG W' := by
  obtain ⟨gs, h1, h2⟩ := h.g.own
  have hs : Stay (fun k => k < W.heap.size) W W' := Stay.of_below hb (fun k _ q => q)
  refine ⟨h.hb, h.hW, h.h3.trans (hb.mono h.h3.size), ⟨⟨gs, own_below h1 hb, ?_⟩, fun _ _ => trivial⟩, Nat.le_trans h.l5 hb.size, h.l3⟩
  refine ⟨h2.len, fun i q1 q2 => own_below (h2.own i q1 q2) hb, h2.s, h2.nd⟩
theorem ZC.bel {w w3 : World} {B5 : Nat} {R : List (List Int)} {aW aG : Option Addr} {cG : Nat} {W : World} (h : ZC w w3 B5 R aW aG cG W) : Below w.heap.size w W := h.hb.trans (h.h3.mono h.hb.size)
theorem ZC.rW {w w3 : World} {B5 : Nat} {R : List (List Int)} {aW aG : Option Addr} {cG : Nat} {W : World} (h : ZC w w3 B5 R aW aG cG W) : RdQ W aW R := h.hW.below h.h3
theorem ZC.rG {w w3 : World} {B5 : Nat} {R : List (List Int)} {aW aG : Option Addr} {cG : Nat} {W : World} (h : ZC w w3 B5 R aW aG cG W) : RdQ W aG R := h.g.rd
theorem ZC.grown {w w3 : World} {B5 : Nat} {R : List (List Int)} {aW aG : Option Addr} {cG : Nat} {W W' : World} (h : ZC w w3 B5 R aW aG cG W) {x : Nat} (hg : W.grownBy W' (some x)) (h3 : w3.heap.size ≤ x) (h5 : x < B5) : ZC w w3 B5 R aW aG cG W' := by
  have hs : Stay (fun k => k ≠ x) W W' := Stay.grown hg (fun k e => by cases e; simp)
  exact ⟨h.hb, h.hW, h.h3.trans (hs.below h.h3.size (fun k hk => by omega)), h.g.stay2 hs (fun k _ hk => by omega), Nat.le_trans h.l5 hs.size, h.l3⟩
/-- With the second one's argument. -/
structure ZB (w w3 : World) (B4 B5 : Nat) (ys : List Int) (R : List (List Int)) (aW aG : Option Addr) (cG : Nat) (W : World) : Prop where
  c : ZC w w3 B5 R aW aG cG W
  o1 : W.ownsRow B4 3 1 (.slice (some ⟨B4, 0, none⟩) ys.length ys.length) ys.length (ints ys)
  l34 : w3.heap.size < B4
  l45 : B4 < B5
theorem ZB.on {w w3 : World} {B4 B5 : Nat} {ys : List Int} {R : List (List Int)} {aW aG : Option Addr} {cG : Nat} {W W' : World} (h : ZB w w3 B4 B5 ys R aW aG cG W) (hb : Below W.heap.size W W') : ZB w w3 B4 B5 ys R aW aG cG W' :=
  ⟨h.c.on hb, own_below h.o1 hb, h.l34, h.l45⟩
/-- With both arguments. -/
structure ZA (w w3 : World) (B4 B5 : Nat) (xs ys : List Int) (R : List (List Int)) (aW aG : Option Addr) (cG : Nat) (W : World) : Prop where
  b : ZB w w3 B4 B5 ys R aW aG cG W
  o0 : W.ownsRow w3.heap.size 3 1 (.slice (some ⟨w3.heap.size, 0, none⟩) xs.length xs.length) xs.length (ints xs)
theorem ZA.on {w w3 : World} {B4 B5 : Nat} {xs ys : List Int} {R : List (List Int)} {aW aG : Option Addr} {cG : Nat} {W W' : World} (h : ZA w w3 B4 B5 xs ys R aW aG cG W) (hb : Below W.heap.size W W') : ZA w w3 B4 B5 xs ys R aW aG cG W' :=
  ⟨h.b.on hb, own_below h.o0 hb⟩
theorem ZA.bel {w w3 : World} {B4 B5 : Nat} {xs ys : List Int} {R : List (List Int)} {aW aG : Option Addr} {cG : Nat} {W : World} (h : ZA w w3 B4 B5 xs ys R aW aG cG W) : Below w.heap.size w W := h.b.c.bel
theorem ZA.r0 {w w3 : World} {B4 B5 : Nat} {xs ys : List Int} {R : List (List Int)} {aW aG : Option Addr} {cG : Nat} {W : World} (h : ZA w w3 B4 B5 xs ys R aW aG cG W) : Rd W (some ⟨w3.heap.size, 0, none⟩) xs := Rd.own rfl h.o0
theorem ZA.r1 {w w3 : World} {B4 B5 : Nat} {xs ys : List Int} {R : List (List Int)} {aW aG : Option Addr} {cG : Nat} {W : World} (h : ZA w w3 B4 B5 xs ys R aW aG cG W) : Rd W (some ⟨B4, 0, none⟩) ys := Rd.own rfl h.b.o1
theorem ZA.start {w w3 w4 w5 w6 : World} {xs ys : List Int} {R : List (List Int)} {aW aG : Option Addr} {cG : Nat} (hb : Below w.heap.size w w3) (hW : RdQ w3 aW R)
    (o4 : w4.ownsRow w3.heap.size 3 1 (.slice (some ⟨w3.heap.size, 0, none⟩) xs.length xs.length) xs.length (ints xs)) (b4 : Below w3.heap.size w3 w4)
    (o5 : w5.ownsRow w4.heap.size 3 1 (.slice (some ⟨w4.heap.size, 0, none⟩) ys.length ys.length) ys.length (ints ys)) (b5 : Below w4.heap.size w4 w5)
    (hG : LI w5.heap.size (fun _ => True) w6 (.slice aG R.length cG) R) (b6 : Below w5.heap.size w5 w6) : ZA w w3 w4.heap.size w5.heap.size xs ys R aW aG cG w6 := by
  have z4 := (o4.lt _ rfl).2
  have z5 := (o5.lt _ rfl).2
  have h4 := b4.size
  have h5 := b5.size
  exact ⟨⟨⟨hb, hW, (b4.trans (b5.mono h4)).trans (b6.mono (by omega)), hG, b6.size, by omega⟩, own_below o5 b6, z4, z5⟩, own_below (own_below o4 b5) b6⟩
theorem ZA.mark {w w3 : World} {B4 B5 : Nat} {xs ys : List Int} {R : List (List Int)} {aW aG : Option Addr} {cG : Nat} {W W' : World} (h : ZA w w3 B4 B5 xs ys R aW aG cG W) (hg : W.grownBy W' (some w3.heap.size)) : ZB w w3 B4 B5 ys R aW aG cG W' := by
  have h1 := h.b.l34
  have h2 := h.b.l45
  exact ⟨h.b.c.grown hg (Nat.le_refl _) (by omega), own_fr h.b.o1 (hg.block _ (h.b.o1.lt _ rfl).2 (fun e => by cases e; omega)), h1, h2⟩
theorem ZB.mark {w w3 : World} {B4 B5 : Nat} {ys : List Int} {R : List (List Int)} {aW aG : Option Addr} {cG : Nat} {W W' : World} (h : ZB w w3 B4 B5 ys R aW aG cG W) (hg : W.grownBy W' (some B4)) : ZC w w3 B5 R aW aG cG W' :=
  h.c.grown hg (Nat.le_of_lt h.l34) h.l45
/-- With the answer's rows marked. -/
structure ZD (w w3 : World) (B5 : Nat) (R : List (List Int)) (gs : List (Nat × Nat)) (aW aG : Option Addr) (cG : Nat) (W : World) : Prop where
  hb : Below w.heap.size w w3
  hW : RdQ w3 aW R
  h3 : Below w3.heap.size w3 W
  len : gs.length = R.length
  own : W.ownsRow B5 24 1 (.slice aG R.length cG) R.length (cellsG gs R)
  m : Marked 1 B5 W gs R R.length
theorem ZD.on {w w3 : World} {B5 : Nat} {R : List (List Int)} {gs : List (Nat × Nat)} {aW aG : Option Addr} {cG : Nat} {W W' : World} (h : ZD w w3 B5 R gs aW aG cG W) (hb : Below W.heap.size W W') : ZD w w3 B5 R gs aW aG cG W' :=
  ⟨h.hb, h.hW, h.h3.trans (hb.mono h.h3.size), h.len, own_below h.own hb, fun i q1 q2 q3 => own_below (h.m i q1 q2 q3) hb⟩
theorem ZD.bel {w w3 : World} {B5 : Nat} {R : List (List Int)} {gs : List (Nat × Nat)} {aW aG : Option Addr} {cG : Nat} {W : World} (h : ZD w w3 B5 R gs aW aG cG W) : Below w.heap.size w W := h.hb.trans (h.h3.mono h.hb.size)
theorem ZD.rW {w w3 : World} {B5 : Nat} {R : List (List Int)} {gs : List (Nat × Nat)} {aW aG : Option Addr} {cG : Nat} {W : World} (h : ZD w w3 B5 R gs aW aG cG W) : RdQ W aW R := h.hW.below h.h3
theorem ZC.mark {w w3 : World} {B5 : Nat} {R : List (List Int)} {gs : List (Nat × Nat)} {aW aG : Option Addr} {cG : Nat} {W W' : World} (h : ZC w w3 B5 R aW aG cG W) (ho : W.ownsRow B5 24 1 (.slice aG R.length cG) R.length (cellsG gs R)) (hq : RowO (fun _ => True) B5 (.slice aG R.length cG) W gs R)
    (hs : Stay (fun x => x ∉ gs.map Prod.fst) W W') (hm : Marked 1 B5 W' gs R R.length) : ZD w w3 B5 R gs aW aG cG W' := by
  have h3 := h.l3
  refine ⟨h.hb, h.hW, h.h3.trans (hs.below h.h3.size (fun k hk hx => ?_)), hq.len, own_stay ho hs (fun g hg hx => ?_), hm⟩
  · obtain ⟨p, hp, e⟩ := List.mem_map.1 hx
    have := (hq.s p hp).2.1
    omega
  · obtain ⟨p, hp, e⟩ := List.mem_map.1 hx
    exact (hq.s p hp).2.2 (by rw [e]; exact hg)
end Go.Proofs.Ythbilahilmmfmaa

