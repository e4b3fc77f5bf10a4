/- What the proof of FnBasis stands on, part 8 of 10: each piece says what it proves and under which conditions. Conditions: as each piece says. -/
import Derived.Test.YthbilahilmmfmaaPackBasis7
import Derived.Test.YthbilahilmmfmaaProg
import Derived.Deep.Matrix
import Derived.Deep.RegionWith
import Derived.BigQuiet
import Derived.Deep.QuietTactic
import Derived.OpenShut
import Derived.ProofKit
import Derived.WalkKit
import Derived.WalkSmall
import Derived.Lib.Builder
/- Lists of lists of numbers as arguments of a law: opened, measured, copied, held against each other, marked. Conditions: at most 1048577 lists, each of at most 1048577 numbers. -/
namespace Go.Proofs.Ythbilahilmmfmaa
set_option maxRecDepth 100000
open Go.RowKit Go.ChangeShapes Go.WideShapes Go.ChangeAt

/-- An argument, opened. -/
theorem open_introws {H : Type} {enc : TypeId × Value → H} {W : World} {base : Nat} {held : Bool} {v : Value} {d : DataW H} {p : List MemPlace} {a : Option Addr} {len cap : Nat} (hv : v = .slice a len cap)
    (h : DataW.Trod enc Try.prog W base (fun _ => true) held 27 v d p) : ∃ rows : List (List Int), len = rows.length ∧ len ≤ maxLen ∧ RdQ W a rows ∧ ∀ r ∈ rows, r.length ≤ maxLen := by
  subst hv
  obtain ⟨fuel, hf⟩ := h
  rcases Go.Deep.open_int_rows Try.underlying27 Try.underlying24 Try.underlying3 (by kernel_rfl) (by kernel_rfl) hf with ⟨hcs, _⟩ | ⟨x, l, c, A, L, C, Z, hcs, _, hl, hm, _, hrow⟩
  · simp [Value.cells] at hcs
    obtain ⟨rfl, rfl, rfl⟩ := hcs
    exact ⟨[], rfl, Nat.zero_le _, .inl rfl, fun r hr => by simp at hr⟩
  · simp [Value.cells] at hcs
    obtain ⟨rfl, rfl, rfl⟩ := hcs
    have hlenr : ∀ i, i < len → ((Z i).take (L i)).length = L i := fun i hi => by
      obtain ⟨_, h1, _, h3, _⟩ := hrow i (by omega)
      rw [List.length_take]; omega
    refine ⟨(List.range len).map (fun i => (Z i).take (L i)), by simp, by omega, ?_, fun r hr => ?_⟩
    · by_cases h0 : len = 0
      · subst h0; exact .inl (by simp)
      · obtain ⟨b, off, spot⟩ := x
        have hc0 := (hrow 0 (by omega)).1
        have hspot : spot = none := by simpa [Addr.add] using World.cell?_spot hc0
        subst hspot
        have hadd : ∀ i, (⟨b, off, none⟩ : Addr).add i = ⟨b, off + i, none⟩ := by
          intro i
          by_cases h1 : i = 0 <;> simp [Addr.add, h1]
        have hb : b < W.heap.size := by rw [hadd] at hc0; exact World.block_lt_of_cell? _ _ hc0
        refine .inr ⟨b, off, rfl, hb, fun i hi => ?_⟩
        simp at hi
        obtain ⟨h1, h2, h3, h4, h5, h6, h7⟩ := hrow i (by omega)
        simp only [List.getElem_map, List.getElem_range]
        rw [hlenr i hi]
        rw [hadd] at h1
        refine ⟨A i, C i, h1, ?_⟩
        have hR : IsRow .i64 W (A i) (L i) (C i) (Z i) := by
          cases hA : A i with
          | none =>
            have e := h6 hA
            exact .inl ⟨rfl, by omega, e, List.length_eq_zero_iff.1 (by omega)⟩
          | some y =>
            exact .inr ⟨y, rfl, h2, h3, h4, fun j hj => (h7 y hA).2 j (by omega), h5⟩
        exact (rd_of hR).1
    · simp at hr
      obtain ⟨i, hi, rfl⟩ := hr
      obtain ⟨_, h2, h3, _⟩ := hrow i (by omega)
      rw [hlenr i hi]; omega

def sumQ (rows : List (List Int)) : Nat := (rows.map List.length).sum
theorem sumQ_take {rows : List (List Int)} {k : Nat} (h : k < rows.length) : sumQ (rows.take (k + 1)) = sumQ (rows.take k) + rows[k].length := by
  rw [take_snocQ h]
  simp only [sumQ, List.map_append, List.map_cons, List.map_nil, List.sum_append, List.sum_cons, List.sum_nil]
  omega
theorem sumQ_row {rows : List (List Int)} : ∀ r ∈ rows, r.length ≤ sumQ rows := by
  induction rows with
  | nil => intro r hr; simp at hr
  | cons a rows ih =>
    intro r hr
    simp only [sumQ, List.map_cons, List.sum_cons] at *
    rcases List.mem_cons.1 hr with rfl | h
    · omega
    · have := ih r h; omega

set_option maxHeartbeats 800000 in
theorem eqIntss_same (a a' : Option Addr) (rows : List (List Int)) (cap cap' : Nat) (w : World) (hr : RdQ w a rows) (hr' : RdQ w a' rows) (hl : rows.length ≤ 1048577) (hl2 : ∀ r ∈ rows, r.length ≤ 1048577) :
    Calls Try.prog 33 #[.slice a rows.length cap, .slice a' rows.length cap'] w fun e w' => e = .returned (.bool true) ∧ Below w.heap.size w w' := by
  have HR : Hid (RdQ w a rows) := hr
  have HR' : Hid (RdQ w a' rows) := hr'
  clear hr hr'
  go_enter Try.func33, Try.ntmps33
  go_wp2_with fail
  go_loopw [5] (fun i wr => ∃ k : Nat, k ≤ rows.length ∧ i = .int .i64 k ∧ Below w.heap.size w wr) (fun i _ => rows.length - (intOf i).toNat)
  case atStart => exact ⟨0, Nat.zero_le _, rfl, Below.refl _ _⟩
  case round =>
    obtain ⟨k, hk, rfl, hb⟩ := hrel
    by_cases hk' : k < rows.length
    · obtain ⟨b, off, ai, ci, rfl, c0, hrd⟩ := RdQ.get HR.out hk'
      obtain ⟨b', off', ai', ci', rfl, c0', hrd'⟩ := RdQ.get HR'.out hk'
      have c1 := keepC hb c0
      have c1' := keepC hb c0'
      have hki : (k : Int) < (rows.length : Int) := by omega
      have hki0 : (0 : Int) ≤ (k : Int) := by omega
      have hlr := hl2 rows[k] (List.getElem_mem hk')
      have C := fun (W' : World) (h : Below w.heap.size w W') => eqInts_any ai ai' rows[k] rows[k] _ ci _ ci' W' rfl rfl (hrd.below h) (hrd'.below h) hlr hlr
      rw [eqB_self] at C
      clear c0 c0' hrd hrd' hlr
      generalize rows[k].length = m at c1 c1' C
      go_wp2_with fail
      go_region_with (go_at_call 34; refine (C _ ?_).mono ?_; (repeat (first | exact hb | refine Below.drew ?_)); rintro e w2 ⟨rfl, q2, rfl⟩; have hb2 := below_drewN (Below.drew hb) q2; clear C)
      all_goals go_wp2_with fail
      all_goals
        go_roundw
        case rel => exact ⟨k + 1, by omega, by go_num, by first | exact hb2 | exact below_drewN hb _⟩
        case measure => simp [intOf]; omega
    · have hki : ¬ (k : Int) < (rows.length : Int) := by omega
      go_wp2_with fail
      go_ret
      exact ⟨rfl, hb⟩

/-- The cells of a list of lists, each of whose rows has a block to itself. -/
def cellsQ (L : List Nat) (rows : List (List Int)) : List Value := List.zipWith (fun a r => Value.slice (some ⟨a, 0, none⟩) r.length r.length) L rows
theorem cellsQ_len {L : List Nat} {rows : List (List Int)} (h : L.length ≤ rows.length) : (cellsQ L rows).length = L.length := by simp [cellsQ]; omega
theorem cellsQ_snoc {L : List Nat} {rows : List (List Int)} {k x : Nat} (hL : L.length = k) (hk : k < rows.length) : cellsQ (L ++ [x]) rows = cellsQ L rows ++ [Value.slice (some ⟨x, 0, none⟩) rows[k].length rows[k].length] := by
  subst hL
  unfold cellsQ
  apply List.ext_getElem
  · simp; omega
  · intro i h1 h2
    simp only [List.length_zipWith, List.length_append, List.length_cons, List.length_nil] at h1
    rw [List.getElem_append]
    simp only [List.getElem_zipWith, List.length_zipWith]
    split
    · rename_i h3
      rw [List.getElem_append_left (by omega)]
    · rename_i h3
      have e : i = L.length := by omega
      subst e
      simp
theorem cellsQ_get {L : List Nat} {rows : List (List Int)} {i : Nat} (hi : i < L.length) (hr : i < rows.length) : (cellsQ L rows)[i]? = some (Value.slice (some ⟨L[i], 0, none⟩) rows[i].length rows[i].length) := by
  unfold cellsQ
  rw [List.getElem?_eq_getElem (by simp; omega)]
  simp

/-- The rows ahead of k lie in blocks of their own, from lo on, none of them g. -/
structure OwnQ (w : World) (lo g : Nat) (L : List Nat) (rows : List (List Int)) : Prop where
  own : ∀ i, (h : i < L.length) → (h' : i < rows.length) → w.ownsRow lo 3 1 (.slice (some ⟨L[i], 0, none⟩) rows[i].length rows[i].length) rows[i].length (ints rows[i])
  lt : ∀ x ∈ L, lo ≤ x ∧ x < w.heap.size ∧ x ≠ g
  nd : L.Nodup
theorem OwnQ.on {w w' : World} {lo g : Nat} {L : List Nat} {rows : List (List Int)} (h : OwnQ w lo g L rows) (hb : Below w.heap.size w w') : OwnQ w' lo g L rows :=
  ⟨fun i h1 h2 => own_below (h.own i h1 h2) hb, fun x hx => ⟨(h.lt x hx).1, Nat.lt_of_lt_of_le (h.lt x hx).2.1 hb.size, (h.lt x hx).2.2⟩, h.nd⟩
end Go.Proofs.Ythbilahilmmfmaa

/- Lists of lists of numbers, copied and marked. Conditions: at most 1048577 lists, of at most 1048577 numbers together. -/
namespace Go.Proofs.Ythbilahilmmfmaa
set_option maxRecDepth 100000
open Go.RowKit

theorem Try.infoQ : (Try.prog.info? 24).map (fun i => (i.zero, i.size, i.bytes)) = some (some (.slice none 0 0), 1, 24) := by kernel_rfl
theorem madeQ (n : Nat) : (madeCells #[Value.slice none 0 0] n).toList = List.replicate n (Value.slice none 0 0) := by
  apply List.ext_getElem
  · simp [madeCells]
  · intro i h1 h2
    simp [madeCells, Nat.mod_one]
theorem own_fr {w w' : World} {base g n c : Nat} {e : TypeId} {size : Nat} {xs : List Value} (h : w.ownsRow base e size (.slice (some ⟨g, 0, none⟩) n c) n xs) (hb : w'.heap[g]? = w.heap[g]?) : w'.ownsRow base e size (.slice (some ⟨g, 0, none⟩) n c) n xs := by
  obtain ⟨h1, h2⟩ := h
  refine ⟨h1, ?_⟩
  rcases h2 with ⟨h, _⟩ | ⟨g', cap, cur, h, hg, hh, r⟩
  · simp at h
  · cases h
    exact .inr ⟨g, c, cur, rfl, hg, hb.trans hh, r⟩
theorem setCell_heap {w : World} {g j k : Nat} {v : Value} (h : k ≠ g) : (w.setCell ⟨g, j, none⟩ v).heap[k]? = w.heap[k]? := by
  simp [World.setCell, Array.getElem?_modify]
  intro e; exact absurd e.symm h

/-- Whatever leaves all blocks below lo leaves it, and what was drawn. -/
theorem upFrom_ints (k : Int) (n : Nat) : (ints (upFrom k n)).length = n := by simp [ints, upFrom_len]
theorem mark_gen (base g : Nat) (zs : List Int) (k : Int) (n cap : Nat) (w : World) (hn : n = zs.length) (hown : w.ownsRow base 3 1 (.slice (some ⟨g, 0, none⟩) n cap) n (ints zs)) (hl : n ≤ 1048577) (hk1 : 0 ≤ k) (hk2 : k ≤ 4000000000000) :
    Calls Try.prog 35 #[.slice (some ⟨g, 0, none⟩) n cap, .int .i64 k] w fun e w' => e = .returned (.int .i64 (k + n)) ∧ w.grownBy w' (some g) := by
  subst hn
  go_enter Try.func35, Try.ntmps35
  go_wp2
  go_loopw [1, 5] (fun t i wr => ∃ j : Nat, j ≤ zs.length ∧ i = .int .i64 j ∧ t = .int .i64 (k + (j : Int)) ∧ wr.ownsRow base 3 1 (.slice (some ⟨g, 0, none⟩) zs.length cap) zs.length (ints (upFrom k j) ++ (ints zs).drop j) ∧ w.grownBy wr (some g)) (fun _ i _ => zs.length - (intOf i).toNat)
  case atStart => exact ⟨0, Nat.zero_le _, rfl, by simp, hown, ⟨rfl, rfl, rfl, Nat.le_refl _, fun _ _ _ => rfl⟩⟩
  case round =>
    obtain ⟨j, hj, rfl, rfl, hown', hg⟩ := hrel
    clear hown
    by_cases hj' : j < zs.length
    · obtain ⟨u, hu⟩ := mark_at (k := k) hj'
      have hfz := hown'.frozenAt j
      have hce : wr.cell? ⟨g, j, none⟩ = some (.int .i64 u) := (hown'.cellAt j (by omega)).trans hu
      have R := hown'.stored j (.int .i64 (k + (j : Int)))
      rw [mark_step hj'] at R
      obtain ⟨R1, R2⟩ := R
      have R3 := grown_trans hg R2
      clear hown' hg R2 hu
      go_wp2
      go_roundw
      case rel => exact ⟨j + 1, by omega, by go_num, by go_num, R1, R3⟩
      case measure => simp [intOf]; omega
    · go_wp2
      go_ret
      exact ⟨rtI (by omega), hg⟩

set_option maxHeartbeats 1600000 in
theorem markIntss_any (lo g : Nat) (L : List Nat) (rows : List (List Int)) (c : Nat) (k : Int) (w : World) (hL : L.length = rows.length) (ho : w.ownsRow lo 24 1 (.slice (some ⟨g, 0, none⟩) rows.length c) rows.length (cellsQ L rows)) (hq : OwnQ w lo g L rows) (hl : rows.length + sumQ rows ≤ 1048577) (hk1 : 0 ≤ k) (hk2 : k ≤ 4) :
    Calls Try.prog 36 #[.slice (some ⟨g, 0, none⟩) rows.length c, .int .i64 k] w fun e w' => e = .returned (.int .i64 (k + sumQ rows)) ∧ Stay (fun x => x ∉ L) w w' := by
  have HO : Hid (w.ownsRow lo 24 1 (.slice (some ⟨g, 0, none⟩) rows.length c) rows.length (cellsQ L rows)) := ho
  have HQ : Hid (OwnQ w lo g L rows) := hq
  have hgL : g ∉ L := fun h => (hq.lt g h).2.2 rfl
  clear ho hq
  go_enter Try.func36, Try.ntmps36
  go_wp2_with fail
  go_loopw [1, 5] (fun t i wr => ∃ j : Nat, j ≤ rows.length ∧ i = .int .i64 j ∧ t = .int .i64 (k + (sumQ (rows.take j) : Int)) ∧ Hid (Stay (fun x => x ∉ L.take j) w wr)) (fun _ i _ => rows.length - (intOf i).toNat)
  case atStart => exact ⟨0, Nat.zero_le _, rfl, by simp [sumQ], Stay.refl _ _⟩
  case round =>
    obtain ⟨j, hj, rfl, rfl, HS⟩ := hrel
    by_cases hj' : j < rows.length
    · have hjL : j < L.length := by omega
      have c0 := HO.out.cellAt j (by omega)
      rw [cellsQ_get hjL hj'] at c0
      have c1 := HS.out.cell c0 (fun h => hgL (List.mem_of_mem_take h))
      have hji : (j : Int) < (rows.length : Int) := by omega
      have hji0 : (0 : Int) ≤ (j : Int) := by omega
      have hnx : L[j] ∉ L.take j := fun h => by
        obtain ⟨i, hi, e⟩ := List.getElem_of_mem h
        simp at hi
        rw [List.getElem_take] at e
        have := (List.getElem_inj HQ.out.nd).1 e
        omega
      have hrw := sumQ_row rows[j] (List.getElem_mem hj')
      have hst := sumQ_take hj'
      have C := mark_gen lo L[j] rows[j] (k + (sumQ (rows.take j) : Int)) _ rows[j].length wr rfl (own_fr (HQ.out.own j hjL hj') (HS.out.block L[j] (HQ.out.lt _ (List.getElem_mem hjL)).2.1 hnx)) (by omega) (by omega) (by
        have : sumQ (rows.take j) ≤ sumQ rows := by
          have e : sumQ rows = sumQ (rows.take j) + sumQ (rows.drop j) := by
            conv => lhs; rw [← List.take_append_drop j rows]
            unfold sumQ
            rw [List.map_append, List.sum_append]
          omega
        omega)
      have HT : Hid (L.take (j + 1) = L.take j ++ [L[j]]) := List.take_succ_eq_append_getElem hjL
      have HST : Hid (sumQ (rows.take (j + 1)) = sumQ (rows.take j) + rows[j].length) := hst
      clear c0 hnx hrw hst
      generalize L[j] = gj at c1 C HT
      generalize rows[j].length = m at c1 C HST
      generalize rows[j] = row at C
      generalize sumQ (rows.take j) = sj at C HST ⊢
      go_wp2_with (go_at_call 35; refine C.mono ?_; rintro e w2 ⟨rfl, hg2⟩; have HG : Hid _ := hg2; clear C hg2)
      go_roundw
      case rel =>
        refine ⟨j + 1, by omega, by go_num, by rw [HST.out]; go_num, ?_⟩
        show Stay _ _ _
        rw [HT.out]
        exact (HS.out.weak (fun x _ hx h => hx (List.mem_append_left _ h))).trans ((Stay.grown HG.out (fun k e => by cases e; simp)))
      case measure => simp [intOf]; omega
    · have hji : ¬ (j : Int) < (rows.length : Int) := by omega
      have e : rows.take j = rows := List.take_of_length_le (by omega)
      have e2 : L.take j = L := List.take_of_length_le (by omega)
      rw [e]
      have H2 : Hid (Stay (fun x => x ∉ L) w wr) := by have := HS.out; rwa [e2] at this
      clear e e2 HS
      go_wp2_with fail
      go_ret
      exact ⟨rfl, H2.out⟩
end Go.Proofs.Ythbilahilmmfmaa

/- What lists of numbers come to, place by place: the specification's way and the program's. Conditions: at most 1048577 lists, each of at most 1048577 numbers. -/
namespace Go.Proofs.Ythbilahilmmfmaa
set_option maxRecDepth 100000
open Go.RowKit

theorem own_none (w : World) : (w.alloc (.cells #[] 3)).ownsRow w.heap.size 3 1 (.slice (some ⟨w.heap.size, 0, none⟩) 0 0) 0 [] := World.ownsRow_made w #[] 0 (Nat.le_refl _) (Nat.zero_le _) rfl
set_option maxHeartbeats 1600000 in
theorem specSum_any (a : Option Addr) (rows : List (List Int)) (cap : Nat) (n : Int) (w : World) (hr : RdQ w a rows) (hl : rows.length ≤ 1048577) (hl2 : ∀ row ∈ rows, row.length ≤ 1048577) :
    Calls Try.prog 20 #[.slice a rows.length cap, .int .i64 n] w fun e w' => ∃ g c, e = .returned (.slice (some ⟨g, 0, none⟩) (sumL rows n).length c) ∧ w'.ownsRow w.heap.size 3 1 (.slice (some ⟨g, 0, none⟩) (sumL rows n).length c) (sumL rows n).length (ints (sumL rows n)) ∧ Below w.heap.size w w' := by
  obtain ⟨i0, hi, hz0, hz1, hz2⟩ := info_parts Try.info3
  by_cases hn : 1 ≤ n ∧ n ≤ 1000
  · obtain ⟨m, rfl⟩ : ∃ m : Nat, n = (m : Int) := ⟨n.toNat, by omega⟩
    have hm1 : 1 ≤ m := by omega
    have hm2 : m ≤ 1000 := by omega
    have hle : (m : Int) ≤ 1000 := by omega
    have HS : Hid (sumL rows (m : Int) = (List.range m).map (sumAt rows)) := sumL_nat hm1 hm2
    have HR : Hid (RdQ w a rows) := hr
    clear hn hr
    go_enter Try.func20, Try.ntmps20
    go_wp2_with fail
    go_loopw [5, 6] (fun o i wr => ∃ k g c : Nat, k ≤ m ∧ i = .int .i64 k ∧ o = .slice (some ⟨g, 0, none⟩) k c ∧ wr.ownsRow w.heap.size 3 1 (.slice (some ⟨g, 0, none⟩) k c) k (ints ((List.range k).map (sumAt rows))) ∧ Below w.heap.size w wr) (fun _ i _ => m - (intOf i).toNat)
    case atStart => exact ⟨0, w.heap.size, 0, Nat.zero_le _, rfl, rfl, World.ownsRow_made w #[] 0 (Nat.le_refl _) (Nat.zero_le _) rfl, (Below.refl _ _).alloc (Nat.le_refl _) _⟩
    case round =>
      obtain ⟨k, g, c, hk, rfl, rfl, hown, hb⟩ := hrel
      have HRW : Hid (RdQ wr a rows) := RdQ.below HR.out hb
      by_cases hk' : k < m
      · have hki : (k : Int) < (m : Int) := by omega
        have HO : Hid (wr.ownsRow w.heap.size 3 1 (.slice (some ⟨g, 0, none⟩) k c) k (ints ((List.range k).map (sumAt rows)))) := hown
        have HB : Hid (Below w.heap.size w wr) := hb
        clear hown hb
        go_wp2_with fail
        go_loop [7, 8] (fun t i => ∃ r : Nat, r ≤ rows.length ∧ i = .int .i64 r ∧ t = .int .i64 (sumAt (rows.take r) k)) (fun _ i => rows.length - (intOf i).toNat)
        case atStart => exact ⟨0, Nat.zero_le _, rfl, rfl⟩
        case round =>
          obtain ⟨r, hrl, rfl, rfl⟩ := hrel
          by_cases hr' : r < rows.length
          · obtain ⟨b, off, ai, ci, rfl, c1, hrd⟩ := HRW.out.get hr'
            have hri : (r : Int) < (rows.length : Int) := by omega
            have hri0 : (0 : Int) ≤ (r : Int) := by omega
            have hki0 : (0 : Int) ≤ (k : Int) := by omega
            have HST : Hid (sumAt (rows.take (r + 1)) k = sumStep k (sumAt (rows.take r) k) rows[r]) := sumAt_step hr' k
            have hlr := hl2 rows[r] (List.getElem_mem hr')
            generalize sumAt (rows.take r) k = t at HST ⊢
            generalize rows[r] = row at c1 hrd HST hlr
            by_cases hkr : k < row.length
            · obtain ⟨b2, off2, rfl, _, c2⟩ := hrd.get hkr
              have hkri : (k : Int) < (row.length : Int) := by omega
              have HE : Hid _ := HST.out.trans (sumStep_in hkr)
              clear HST hrd
              generalize row[k] = x at c2 HE
              go_wp2_with fail
              go_round
              case rel => exact ⟨r + 1, by omega, by go_num, by rw [HE.out]⟩
              case measure => simp [intOf]; omega
            · have hkri : ¬ (k : Int) < (row.length : Int) := by omega
              have HE : Hid _ := HST.out.trans (sumStep_out hkr)
              clear HST hrd
              go_wp2_with fail
              go_round
              case rel => exact ⟨r + 1, by omega, by go_num, by rw [HE.out]⟩
              case measure => simp [intOf]; omega
          · have hri : ¬ (r : Int) < (rows.length : Int) := by omega
            have e : rows.take r = rows := List.take_of_length_le (by omega)
            rw [e]
            clear e
            have hown : wr.ownsRow w.heap.size 3 1 (.slice (some ⟨g, 0, none⟩) k c) k (ints ((List.range k).map (sumAt rows))) := HO.out
            have hb : Below w.heap.size w wr := HB.out
            have HX : Hid (ints ((List.range k).map (sumAt rows)) ++ [.int .i64 (sumAt rows k)] = ints ((List.range (k + 1)).map (sumAt rows))) := by show _ = _; simp [ints, List.range_succ]
            generalize sumAt rows k = t at HX ⊢
            go_wp2_with (at_builtin; go_loud ((refine wpList_append_own _ rfl (.tmp 41) (.tmp 43) 24 rfl w.heap.size 3 i0 (.int .i64 0) 1 8 Try.underlying24 hi hz0 hz1 hz2 rfl (by decide) _ k _ rfl (hown.alloc _) ⟨wr.heap.size, 0, none⟩ 1 1 [.int .i64 t] rfl rfl (one_new _ _ _) (one_cell _) (by unfold maxLen; omega) (by omega) (by have := hb.size; simp; omega) ?_)); intro v3 w3 hown3 hgrow3 hnil3; obtain ⟨g3, c3, rfl⟩ := own_some hown3 hnil3; have hb3 := below_app hb hown hgrow3; have HO3 : Hid _ := hown3; clear hnil3 hgrow3 hown hb hown3)
            go_roundw
            case rel => exact ⟨k + 1, g3, c3, by omega, by go_num, by simp, by have := HO3.out; rw [HX.out] at this; exact this, hb3⟩
            case measure => simp [intOf]; omega
      · have hki : ¬ (k : Int) < (m : Int) := by omega
        have e : k = m := by omega
        subst e
        have HO : Hid _ := hown
        clear hown
        go_wp2_with fail
        go_ret
        have hlen : (sumL rows (k : Int)).length = k := by rw [HS.out]; simp
        rw [hlen, HS.out]
        exact ⟨g, c, rfl, HO.out, hb⟩
  · have HS : Hid (sumL rows n = []) := by show _ = _; unfold sumL; rw [if_neg hn]
    have hb : Below w.heap.size w (w.alloc (.cells #[] 3)) := (Below.refl _ _).alloc (Nat.le_refl _) _
    have ho : Hid ((w.alloc (.cells #[] 3)).ownsRow w.heap.size 3 1 (.slice (some ⟨w.heap.size, 0, none⟩) 0 0) 0 []) := own_none w
    go_enter Try.func20, Try.ntmps20
    by_cases h0 : (0 : Int) < n
    · have h1 : ¬ n ≤ 1000 := by omega
      clear hn
      go_wp2_with fail
      refine wp_loop_rounds 1 ?_
      rw [rounds_succ]
      go_wp2_with fail
      go_ret
      rw [HS.out]
      exact ⟨_, _, rfl, ho.out, hb⟩
    · clear hn
      go_wp2_with fail
      refine wp_loop_rounds 1 ?_
      rw [rounds_succ]
      go_wp2_with fail
      go_ret
      rw [HS.out]
      exact ⟨_, _, rfl, ho.out, hb⟩
end Go.Proofs.Ythbilahilmmfmaa

/- What lists of numbers come to, place by place: the program's way. Conditions: at most 1048577 lists, each of at most 1048577 numbers. -/
namespace Go.Proofs.Ythbilahilmmfmaa
set_option maxRecDepth 100000
open Go.RowKit

set_option maxHeartbeats 1600000 in
theorem impSum_any (a : Option Addr) (rows : List (List Int)) (cap : Nat) (n : Int) (w : World) (hr : RdQ w a rows) (hl : rows.length ≤ 1048577) (hl2 : ∀ row ∈ rows, row.length ≤ 1048577) :
    Calls Try.prog 19 #[.slice a rows.length cap, .int .i64 n] w fun e w' => ∃ a' c, e = .returned (.slice a' (sumL rows n).length c) ∧ w'.ownsRow w.heap.size 3 1 (.slice a' (sumL rows n).length c) (sumL rows n).length (ints (sumL rows n)) ∧ Below w.heap.size w w' := by
  obtain ⟨i0, hi, hz0, hz1, hz2⟩ := info_parts Try.info3
  by_cases hn : 1 ≤ n ∧ n ≤ 1000
  · obtain ⟨m, rfl⟩ : ∃ m : Nat, n = (m : Int) := ⟨n.toNat, by omega⟩
    have hm1 : 1 ≤ m := by omega
    have hm2 : m ≤ 1000 := by omega
    have hle : ¬ (1000 : Int) < (m : Int) := by omega
    have hge : ¬ (m : Int) < 1 := by omega
    have HS : Hid (sumL rows (m : Int) = (List.range m).map (sumAt rows)) := sumL_nat hm1 hm2
    have HR : Hid (RdQ w a rows) := hr
    clear hn hr
    go_enter Try.func19, Try.ntmps19
    go_wp2_with (first
      | (at_make; refine wpList_make_full _ rfl _ _ 24 rfl w.heap.size 3 i0 (.int .i64 0) 1 Try.underlying24 hi hz0 hz1 _ _ _ _ m rfl rfl rfl rfl (by rw [hz2]; omega) (by unfold maxLen; omega) (Nat.le_refl _) ?_)
      | go_in)
    intro w1 hown hgrow
    have hb1 : Below w.heap.size w w1 := (Below.refl _ _).grown hgrow (Nat.le_refl _) (by simp)
    clear hgrow
    rw [made_zero] at hown
    go_wp2_with fail
    go_loopw [19] (fun i wr => ∃ r : Nat, r ≤ rows.length ∧ i = .int .i64 r ∧ Hid (wr.ownsRow w.heap.size 3 1 (.slice (some ⟨w.heap.size, 0, none⟩) m m) m (ints (mixL rows r 0 m))) ∧ Below w.heap.size w wr) (fun i _ => rows.length - (intOf i).toNat)
    case atStart => exact ⟨0, Nat.zero_le _, rfl, by show World.ownsRow _ _ _ _ _ _ _; rw [mixL_start]; simpa [ints] using hown, hb1⟩
    case round =>
      obtain ⟨r, hrl, rfl, HO, hb⟩ := hrel
      clear hown hb1
      by_cases hr' : r < rows.length
      · obtain ⟨b, off, ai, ci, rfl, c0, hrd⟩ := RdQ.get HR.out hr'
        have c1 := keepC hb c0
        clear c0
        have hri : (r : Int) < (rows.length : Int) := by omega
        have hri0 : (0 : Int) ≤ (r : Int) := by omega
        have hlr := hl2 rows[r] (List.getElem_mem hr')
        have HST : Hid (∀ k, sumAt (rows.take (r + 1)) k = sumStep k (sumAt (rows.take r) k) rows[r]) := sumAt_step hr'
        have HEN : Hid (∀ i, ¬ (i < rows[r].length ∧ i < m) → mixL rows r i m = mixL rows (r + 1) 0 m) := fun i hi => mixL_end hr' hi
        have HRD : Hid (Rd w ai rows[r]) := hrd
        have HB : Hid (Below w.heap.size w wr) := hb
        clear hrd hb
        generalize rows[r] = row at c1 HRD HST HEN hlr
        go_wp2_with fail
        all_goals
          go_loopw [27] (fun i wq => ∃ k : Nat, k ≤ m ∧ i = .int .i64 k ∧ Hid (wq.ownsRow w.heap.size 3 1 (.slice (some ⟨w.heap.size, 0, none⟩) m m) m (ints (mixL rows r k m))) ∧ Hid (Below w.heap.size w wq)) (fun i _ => m - (intOf i).toNat)
          case atStart => exact ⟨0, Nat.zero_le _, rfl, HO, HB⟩
          case round =>
            obtain ⟨k, hk, rfl, HO2, HB2⟩ := hrel
            by_cases hkk : k < row.length ∧ k < m
            · obtain ⟨b2, off2, rfl, hb2, c0⟩ := Rd.get HRD.out hkk.1
              have c2 := keepC HB2.out c0
              clear c0
              have hk1 : (k : Int) < (row.length : Int) := by omega
              have hk2 : (k : Int) < (m : Int) := by omega
              have hk0 : (0 : Int) ≤ (k : Int) := by omega
              have ho : wr.ownsRow w.heap.size 3 1 (.slice (some ⟨w.heap.size, 0, none⟩) m m) m (ints (mixL rows r k m)) := HO2.out
              have hfz := ho.frozenAt k
              have hce : wr.cell? ⟨w.heap.size, k, none⟩ = some (.int .i64 (sumAt (rows.take r) k)) := (ho.cellAt k (by omega)).trans (mixL_get hkk.2)
              have R := ho.stored k (.int .i64 (sumAt (rows.take (r + 1)) k))
              rw [mixL_set, HST.out k, sumStep_in hkk.1] at R
              have HR1 : Hid ((wr.setCell ⟨w.heap.size, k, none⟩ (.int .i64 (wrap64 (sumAt (rows.take r) k + row[k])))).ownsRow w.heap.size 3 1 (.slice (some ⟨w.heap.size, 0, none⟩) m m) m (ints (mixL rows r (k + 1) m))) := R.1
              have HR3 : Hid (Below w.heap.size w (wr.setCell ⟨w.heap.size, k, none⟩ (.int .i64 (wrap64 (sumAt (rows.take r) k + row[k])))) ) := Below.setCell HB2.out (Nat.le_refl _) _
              clear ho R hk HST HEN HB HO HO2 HRD HR
              clear HB2
              go_wp2_with fail
              go_region
              go_wp2_with fail
              go_roundw
              case rel => exact ⟨k + 1, by omega, by go_num, HR1, Below.drew HR3.out⟩
              case measure => simp [intOf]; omega
            · first
                | have hx : ¬ (k : Int) < (row.length : Int) := by omega
                | have hx : ¬ (k : Int) < (m : Int) := by omega
                | have hx : ¬ (k : Int) < min (row.length : Int) (m : Int) := by omega
              have HO3 : Hid _ := HEN.out k hkk
              clear HST HEN HRD
              have HO4 : Hid (wr.ownsRow w.heap.size 3 1 (.slice (some ⟨w.heap.size, 0, none⟩) m m) m (ints (mixL rows (r + 1) 0 m))) := by have := HO2.out; rwa [HO3.out] at this
              clear HO3 HO2 HO
              go_wp2_with fail
              go_roundw
              case rel => exact ⟨r + 1, by omega, by go_num, HO4, HB2.out⟩
              case measure => simp [intOf]; omega
      · have hri : ¬ (r : Int) < (rows.length : Int) := by omega
        have HE : Hid (mixL rows r 0 m = sumL rows (m : Int)) := (mixL_all (by omega)).trans HS.out.symm
        have ho : wr.ownsRow w.heap.size 3 1 (.slice (some ⟨w.heap.size, 0, none⟩) m m) m (ints (mixL rows r 0 m)) := HO.out
        have HO4 : Hid _ := ho
        clear ho HO
        go_wp2_with fail
        go_ret
        have hlen : (sumL rows (m : Int)).length = m := by rw [HS.out]; simp
        rw [hlen, ← HE.out]
        exact ⟨_, _, rfl, HO4.out, hb⟩
  · have HS : Hid (sumL rows n = []) := by show _ = _; unfold sumL; rw [if_neg hn]
    go_enter Try.func19, Try.ntmps19
    by_cases h0 : n < 1
    · clear hn
      go_wp2_with fail
      go_ret
      rw [HS.out]
      exact ⟨none, 0, rfl, ⟨rfl, .inl ⟨rfl, rfl⟩⟩, Below.refl _ _⟩
    · have h1 : (1000 : Int) < n := by omega
      clear hn
      go_wp2_with fail
      go_ret
      rw [HS.out]
      exact ⟨none, 0, rfl, ⟨rfl, .inl ⟨rfl, rfl⟩⟩, Below.refl _ _⟩
end Go.Proofs.Ythbilahilmmfmaa

/- What lies in memory while the law on Sum goes on. Conditions: none. -/
namespace Go.Proofs.Ythbilahilmmfmaa
set_option maxRecDepth 100000
open Go.RowKit

theorem rd_own {w : World} {base cap : Nat} {a : Option Addr} {zs : List Int} {n : Nat} (hn : n = zs.length) (h : w.ownsRow base 3 1 (.slice a n cap) n (ints zs)) : Rd w a zs := by
  rcases h.2 with ⟨e, h0⟩ | ⟨g, c, cur, e, _⟩
  · exact .inl (List.length_eq_zero_iff.1 (hn.symm.trans h0))
  · cases e
    exact Rd.own hn h
theorem rdq_own {W : World} {lo g n c : Nat} {T : TypeId} {L : List Nat} {rows : List (List Int)} (hn : n = rows.length) (h : W.ownsRow lo T 1 (.slice (some ⟨g, 0, none⟩) n c) n (cellsQ L rows)) (q : OwnQ W lo g L rows) (hL : L.length = rows.length) : RdQ W (some ⟨g, 0, none⟩) rows := by
  subst hn
  refine .inr ⟨g, 0, rfl, (h.lt g rfl).2, fun i hi => ?_⟩
  have h1 := h.cellAt i (by omega)
  rw [cellsQ_get (by omega) hi] at h1
  rw [Nat.zero_add]
  exact ⟨_, _, h1, Rd.own rfl (q.own i (by omega) hi)⟩

/-- What was wanted, and the answer. -/
structure QG (w : World) (S : List Int) (gW cW H2 : Nat) (aG : Option Addr) (cG : Nat) (G : List Int) (W : World) : Prop where
  bel : Below w.heap.size w W
  hW : W.ownsRow w.heap.size 3 1 (.slice (some ⟨gW, 0, none⟩) S.length cW) S.length (ints S)
  hG : W.ownsRow H2 3 1 (.slice aG S.length cG) S.length (ints G)
  ltW : gW < H2
  h0 : w.heap.size ≤ H2
  h2 : H2 ≤ W.heap.size
theorem QG.on {w : World} {S : List Int} {gW cW H2 : Nat} {aG : Option Addr} {cG : Nat} {G : List Int} {W W' : World} (h : QG w S gW cW H2 aG cG G W) (hb : Below W.heap.size W W') : QG w S gW cW H2 aG cG G W' :=
  ⟨h.bel.trans (hb.mono h.bel.size), own_below h.hW hb, own_below h.hG hb, h.ltW, h.h0, Nat.le_trans h.h2 hb.size⟩
theorem QG.draw {w : World} {S : List Int} {gW cW H2 : Nat} {aG : Option Addr} {cG : Nat} {G : List Int} {W : World} (h : QG w S gW cW H2 aG cG G W) (q : Nat) : QG w S gW cW H2 aG cG G (W.drewN q) := h.on (below_drewN (Below.refl _ _) q)
theorem QG.markG {w : World} {S : List Int} {gW cW H2 : Nat} {aG : Option Addr} {cG : Nat} {G G' : List Int} {W W' : World} (h : QG w S gW cW H2 aG cG G W) (hb : Below H2 W W') (ho : W'.ownsRow H2 3 1 (.slice aG S.length cG) S.length (ints G')) : QG w S gW cW H2 aG cG G' W' :=
  ⟨h.bel.trans (hb.mono h.h0), own_fr h.hW (hb.block gW h.ltW), ho, h.ltW, h.h0, Nat.le_trans h.h2 hb.size⟩
/-- The argument's copy besides. -/
structure QS (w : World) (rows : List (List Int)) (S : List Int) (gW cW H1 gX : Nat) (L : List Nat) (H2 : Nat) (aG : Option Addr) (cG : Nat) (W : World) : Prop where
  g : QG w S gW cW H2 aG cG S W
  hX : W.ownsRow H1 24 1 (.slice (some ⟨gX, 0, none⟩) rows.length rows.length) rows.length (cellsQ L rows)
  qX : OwnQ W H1 gX L rows
  hL : L.length = rows.length
  lt1 : gW < H1
  ltX : gX < H2 ∧ ∀ x ∈ L, x < H2
  h01 : w.heap.size ≤ H1
theorem QS.on {w : World} {rows : List (List Int)} {S : List Int} {gW cW H1 gX : Nat} {L : List Nat} {H2 : Nat} {aG : Option Addr} {cG : Nat} {W W' : World} (h : QS w rows S gW cW H1 gX L H2 aG cG W) (hb : Below W.heap.size W W') : QS w rows S gW cW H1 gX L H2 aG cG W' :=
  ⟨h.g.on hb, own_below h.hX hb, h.qX.on hb, h.hL, h.lt1, h.ltX, h.h01⟩
theorem QS.rX {w : World} {rows : List (List Int)} {S : List Int} {gW cW H1 gX : Nat} {L : List Nat} {H2 : Nat} {aG : Option Addr} {cG : Nat} {W : World} (h : QS w rows S gW cW H1 gX L H2 aG cG W) : RdQ W (some ⟨gX, 0, none⟩) rows := rdq_own rfl h.hX h.qX h.hL
theorem own_ge {w : World} {base n c : Nat} {a : Option Addr} {e : TypeId} {size : Nat} {xs : List Value} (h : w.ownsRow base e size (.slice a n c) n xs) {w' : World} (hs : ∀ k, base ≤ k → k < w.heap.size → w'.heap[k]? = w.heap[k]?) : w'.ownsRow base e size (.slice a n c) n xs := by
  rcases h.2 with ⟨e, h0⟩ | ⟨g, c, cur, e, hg, hh, _⟩
  · exact ⟨h.1, .inl ⟨e, h0⟩⟩
  · cases e
    exact own_fr h (hs g hg (Array.getElem?_eq_some_iff.1 hh).1)
theorem QS.marked {w : World} {rows : List (List Int)} {S : List Int} {gW cW H1 gX : Nat} {L : List Nat} {H2 : Nat} {aG : Option Addr} {cG : Nat} {W W' : World} (h : QS w rows S gW cW H1 gX L H2 aG cG W) (hs : Stay (fun x => x ∉ L) W W') : QG w S gW cW H2 aG cG S W' := by
  have hlo : ∀ k, k < H1 → k ∉ L := fun k hk hm => by have := (h.qX.lt k hm).1; omega
  have hhi : ∀ k, H2 ≤ k → k ∉ L := fun k hk hm => by have := h.ltX.2 k hm; omega
  have hlw := (h.g.hW.lt gW rfl).2
  exact ⟨h.g.bel.trans (hs.below h.g.bel.size (fun k hk => hlo k (Nat.lt_of_lt_of_le hk h.h01))), own_fr h.g.hW (hs.block gW hlw (hlo gW h.lt1)), own_ge h.g.hG (fun k h1 h2 => hs.block k h2 (hhi k h1)), h.g.ltW, h.g.h0, Nat.le_trans h.g.h2 hs.size⟩
theorem QS.start {w w2 w3 w4 : World} {rows : List (List Int)} {S : List Int} {gW cW : Nat} {L : List Nat} {aG : Option Addr} {cG : Nat} (B2 : Below w.heap.size w w2) (hW : w2.ownsRow w.heap.size 3 1 (.slice (some ⟨gW, 0, none⟩) S.length cW) S.length (ints S)) (hL : L.length = rows.length)
    (hX : w3.ownsRow w2.heap.size 24 1 (.slice (some ⟨w2.heap.size, 0, none⟩) rows.length rows.length) rows.length (cellsQ L rows)) (qX : OwnQ w3 w2.heap.size w2.heap.size L rows) (b3 : Below w2.heap.size w2 w3) (hG : w4.ownsRow w3.heap.size 3 1 (.slice aG S.length cG) S.length (ints S)) (b4 : Below w3.heap.size w3 w4) : QS w rows S gW cW w2.heap.size w2.heap.size L w3.heap.size aG cG w4 := by
  have h1 := (hW.lt gW rfl).2
  have h2 : w2.heap.size < w3.heap.size := (hX.lt _ rfl).2
  have h3 := B2.size
  have h4 := b4.size
  exact ⟨⟨(B2.trans (b3.mono B2.size)).trans (b4.mono (by omega)), own_below (own_below hW b3) b4, hG, by omega, by omega, h4⟩, own_below hX b4, qX.on b4, hL, h1, ⟨h2, fun x hx => (qX.lt x hx).2.1⟩, h3⟩

theorem mark_opt (base : Nat) (a : Option Addr) (zs : List Int) (n cap : Nat) (w : World) (hn : n = zs.length) (hown : w.ownsRow base 3 1 (.slice a n cap) n (ints zs)) (hl : n ≤ 1048577) :
    Calls Try.prog 35 #[.slice a n cap, .int .i64 1] w fun e w' => e = .returned (.int .i64 (1 + n)) ∧ w'.ownsRow base 3 1 (.slice a n cap) n (ints (upFrom 1 n)) ∧ Below base w w' := by
  rcases hown.2 with ⟨e, h0⟩ | ⟨g, c, cur, e, hg, _⟩
  · cases e
    clear h0
    go_enter Try.func35, Try.ntmps35
    go_wp2
    refine wp_loop_rounds 1 ?_
    rw [rounds_succ]
    go_wp2
    go_ret
    exact ⟨rfl, ⟨rfl, .inl ⟨rfl, rfl⟩⟩, Below.refl _ _⟩
  · cases e
    refine (mark_any base g zs 1 n cap w hn hown hl (by omega) (by omega)).mono fun e w' ⟨h1, h2, h3⟩ => ⟨h1, h2, ⟨h3.os, h3.tape, h3.output, h3.size, fun k hk => ?_⟩⟩
    by_cases hkw : k < w.heap.size
    · exact h3.block k hkw (fun e => by cases e; omega)
    · exact absurd (Nat.lt_of_lt_of_le hk (Nat.le_of_lt (Nat.lt_of_le_of_lt hg (hown.lt g rfl).2))) hkw
end Go.Proofs.Ythbilahilmmfmaa

/- The cursor from which the laws draw, and how memory stands behind a draw. Conditions: none. -/
namespace Go.Proofs.Ythbilahilmmfmaa
set_option maxRecDepth 100000
open Go.RowKit

def isInt (z : Int) : Prop := -9223372036854775808 ≤ z ∧ z ≤ 9223372036854775807
def intsD (zs : List Int) : List Value := zs.map (Value.int .i64)

/-- The slice of bytes that begins at 'a' reads in w as bs, and no cell of it lies in block c. -/
def RdB (w : World) (c : Nat) (a : Option Addr) (bs : List Int) : Prop :=
  (∀ z ∈ bs, 0 ≤ z ∧ z ≤ 255) ∧ (bs = [] ∨ ∃ b off, a = some ⟨b, off, none⟩ ∧ b < w.heap.size ∧ b ≠ c ∧ ∀ i, i < bs.length → w.cell? ⟨b, off + i, none⟩ = some (.int .u8 (bs[i]?.getD 0)))

/-- Block c is a cursor over the code bs. -/
def Cur (T : TypeId) (w : World) (c : Nat) (a : Option Addr) (bs : List Int) (cap : Nat) : Prop :=
  RdB w c a bs ∧ ∃ (i : Nat) (h : Int), i ≤ bs.length ∧ isInt h ∧ w.heap[c]? = some (.cells #[.slice a bs.length cap, .int .i64 i, .int .i64 h] T (0, 0))

theorem and_le (x : Int) (m : Nat) (hm : m < 4611686018427387904) : 0 ≤ bits .and .i64 x (m : Int) ∧ bits .and .i64 x (m : Int) ≤ (m : Int) := by
  have h2 : (BitVec.ofInt 64 (m : Int)).toNat = m := by
    rw [BitVec.ofInt_natCast, BitVec.toNat_ofNat]; exact Nat.mod_eq_of_lt (by omega)
  have h : bits .and .i64 x (m : Int) = IntKind.i64.wrap (((BitVec.ofInt 64 x).toNat &&& m : Nat) : Int) := by
    show IntKind.i64.wrap ((BitVec.ofInt 64 x &&& BitVec.ofInt 64 (m : Int)).toNat : Int) = _
    rw [BitVec.toNat_and, h2]
  have h3 : (BitVec.ofInt 64 x).toNat &&& m ≤ m := Nat.and_le_right
  rw [h, IntKind.wrap_i64]
  omega

theorem and_255 (x : Int) : 0 ≤ bits .and .i64 x 255 ∧ bits .and .i64 x 255 ≤ 255 := and_le x 255 (by omega)

theorem grown_refl (w : World) (row : Option Nat) : w.grownBy w row := ⟨rfl, rfl, rfl, Nat.le_refl _, fun _ _ _ => rfl⟩

theorem grown_then {a w w' : World} {row : Option Nat} (h : a.grownBy w row) (k : w.grownBy w' row) : a.grownBy w' row :=
  ⟨k.os.trans h.os, k.tape.trans h.tape, k.output.trans h.output, Nat.le_trans h.size k.size, fun i hi hr => (k.block i (Nat.lt_of_lt_of_le hi h.size) hr).trans (h.block i hi hr)⟩

theorem grown_draw {a w : World} {row : Option Nat} (h : a.grownBy w row) (n : Nat) : a.grownBy (w.drewN n) row := ⟨h.os, h.tape, h.output, h.size, h.block⟩

theorem grown_set (w : World) (c j : Nat) (v : Value) : w.grownBy (w.setCell ⟨c, j, none⟩ v) (some c) :=
  ⟨rfl, rfl, rfl, by simp [World.setCell], fun k _ hk => Below.heap_setCell w ⟨c, j, none⟩ v k (fun e => hk (by simp [e]))⟩

theorem RdB.grown {w w' : World} {c : Nat} {a : Option Addr} {bs : List Int} (h : RdB w c a bs) (hg : w.grownBy w' (some c)) : RdB w' c a bs := by
  refine ⟨h.1, ?_⟩
  rcases h.2 with h | ⟨b, off, rfl, hlt, hne, hc⟩
  · exact .inl h
  · refine .inr ⟨b, off, rfl, Nat.lt_of_lt_of_le hlt hg.size, hne, fun i hi => ?_⟩
    rw [← hc i hi]
    exact World.cell?_of_block (w := w) (hg.block b hlt (by simp [hne]))

theorem isInt_wrap (x : Int) : isInt (wrap64 x) := bounds_i64 (wrap64_wf x)

theorem Rd.grown {w w' : World} {c g o : Nat} {zs : List Int} (h : ∀ i, i < zs.length → w.cell? ⟨g, o + i, none⟩ = some (.int .i64 (zs[i]?.getD 0))) (hlt : g < w.heap.size) (hne : g ≠ c) (hg : w.grownBy w' (some c)) :
    ∀ i, i < zs.length → w'.cell? ⟨g, o + i, none⟩ = some (.int .i64 (zs[i]?.getD 0)) := by
  intro i hi
  rw [← h i hi]
  exact World.cell?_of_block (w := w) (hg.block g hlt (by simp [hne]))

theorem cell_pick {w : World} {g k : Nat} {zs : List Int} (hk : k < zs.length) (h : ∀ i, i < zs.length → w.cell? ⟨g, 0 + i, none⟩ = some (.int .i64 (zs[i]?.getD 0))) : w.cell? ⟨g, k, none⟩ = some (.int .i64 zs[k]) := by
  have := h k hk
  rw [show 0 + k = k by omega] at this
  rw [this]; simp [hk]

theorem RdB.below {w w' : World} {c : Nat} {a : Option Addr} {bs : List Int} (h : RdB w c a bs) (hg : Below w.heap.size w w') : RdB w' c a bs := by
  refine ⟨h.1, ?_⟩
  rcases h.2 with h | ⟨b, off, rfl, hlt, hne, hc⟩
  · exact .inl h
  · exact .inr ⟨b, off, rfl, Nat.lt_of_lt_of_le hlt hg.size, hne, fun i hi => (hg.cell (p := ⟨b, off + i, none⟩) hlt).trans (hc i hi)⟩

theorem cur_new {T : TypeId} {w : World} {a : Option Addr} {bs : List Int} {cap : Nat} {h : Int} (hr : RdB w w.heap.size a bs) (hh : isInt h) :
    Cur T (w.alloc (.cells #[.slice a bs.length cap, .int .i64 0, .int .i64 h] T)) w.heap.size a bs cap :=
  ⟨hr.below ((Below.refl _ _).alloc (Nat.le_refl _) _), 0, h, Nat.zero_le _, hh, heap_alloc_new w _⟩

theorem Cur.below {T : TypeId} {w w' : World} {c : Nat} {a : Option Addr} {bs : List Int} {cap : Nat} (h : Cur T w c a bs cap) (hb : Below w.heap.size w w') : Cur T w' c a bs cap := by
  obtain ⟨hr, i, x, hi, hx, hk⟩ := h
  have hlt : c < w.heap.size := by
    rcases Nat.lt_or_ge c w.heap.size with h' | h'
    · exact h'
    · simp [Array.getElem?_eq_none h'] at hk
  exact ⟨hr.below hb, i, x, hi, hx, by rw [hb.block c hlt]; exact hk⟩

theorem Cur.lt {T : TypeId} {w : World} {c : Nat} {a : Option Addr} {bs : List Int} {cap : Nat} (h : Cur T w c a bs cap) : c < w.heap.size := by
  obtain ⟨hr, i, x, hi, hx, hk⟩ := h
  rcases Nat.lt_or_ge c w.heap.size with h' | h'
  · exact h'
  · simp [Array.getElem?_eq_none h'] at hk
theorem lit_cells (w : World) (zs : List Int) : ∀ i, i < zs.length → (w.alloc (.cells (intsD zs).toArray 3)).cell? ⟨w.heap.size, 0 + i, none⟩ = some (.int .i64 (zs[i]?.getD 0)) := by
  intro i hi
  rw [World.cell?_alloc_at _ _ _ _ rfl]
  simp [intsD, hi]
theorem lit_strs (w : World) (ss : List ByteArray) : ∀ i, i < ss.length → (w.alloc (.cells (ss.map Value.string).toArray 9)).cell? ⟨w.heap.size, i, none⟩ = some (.string (ss[i]?.getD ByteArray.empty)) := by
  intro i hi
  rw [World.cell?_alloc_at _ _ _ _ rfl]
  simp [hi]
theorem grown_below {w w' : World} {B c : Nat} (hg : w.grownBy w' (some c)) (hB : B ≤ w.heap.size) (hc : B ≤ c) : Below B w w' :=
  (Below.refl B w).grown hg hB (fun k hk => by cases hk; exact hc)
theorem grown_alloc {a w : World} {row : Option Nat} (h : a.grownBy w row) (o : Obj) : a.grownBy (w.alloc o) row :=
  ⟨h.os, h.tape, h.output, Nat.le_trans h.size (by simp), fun i hi hr => (Below.heap_alloc w o i (Nat.lt_of_lt_of_le hi h.size)).trans (h.block i hi hr)⟩
theorem grown_own {a w w' : World} {c g : Nat} (h : a.grownBy w (some c)) (k : w.grownBy w' (some g)) (hg : a.heap.size ≤ g) : a.grownBy w' (some c) :=
  ⟨k.os.trans h.os, k.tape.trans h.tape, k.output.trans h.output, Nat.le_trans h.size k.size, fun i hi hr => (k.block i (Nat.lt_of_lt_of_le hi h.size) (by simp; omega)).trans (h.block i hi hr)⟩
theorem Rd_new {w : World} {a : Option Addr} {bs : List Int} (hr : ∀ c, w.heap.size ≤ c → RdB w c a bs) : bs = [] ∨ ∀ x, a = some x → x.block < w.heap.size := by
  rcases (hr _ (Nat.le_refl _)).2 with h | ⟨b, off, rfl, hlt, _⟩
  · exact .inl h
  · exact .inr fun x hx => by cases hx; exact hlt
theorem codeOn {w w' : World} {a : Option Addr} {bs : List Int} (hr : ∀ c, w.heap.size ≤ c → RdB w c a bs) (hb : Below w.heap.size w w') : ∀ c, w'.heap.size ≤ c → RdB w' c a bs :=
  fun c hc => (hr c (Nat.le_trans hb.size hc)).below hb
theorem Cur.grown {T : TypeId} {w w' : World} {c g : Nat} {a : Option Addr} {bs : List Int} {cap : Nat} {B : Nat} (h : Cur T w c a bs cap) (hg : w.grownBy w' (some g)) (hc : c < B) (hB : B ≤ g) (hbs : bs = [] ∨ ∀ x, a = some x → x.block < B) : Cur T w' c a bs cap := by
  have hlt := h.lt
  obtain ⟨hr, i, x, hi, hx, hk⟩ := h
  refine ⟨⟨hr.1, ?_⟩, i, x, hi, hx, by rw [hg.block c hlt (by simp; omega)]; exact hk⟩
  rcases hr.2 with h | ⟨b, off, rfl, hlt, hne, hcs⟩
  · exact .inl h
  · rcases hbs with rfl | hbs
    · exact .inl rfl
    have hb := hbs _ rfl
    simp at hb
    refine .inr ⟨b, off, rfl, Nat.lt_of_lt_of_le hlt hg.size, hne, fun j hj => ?_⟩
    rw [← hcs j hj]
    exact World.cell?_of_block (w := w) (hg.block b hlt (by simp; omega))
end Go.Proofs.Ythbilahilmmfmaa

/- Contracts of the functions by which the laws draw their inputs from a code. Conditions: the code has at most 1048576 bytes. -/
namespace Go.Proofs.Ythbilahilmmfmaa
set_option maxRecDepth 100000
open Go.RowKit

set_option maxHeartbeats 1600000 in
theorem byte_any (c : Nat) (a : Option Addr) (bs : List Int) (cap : Nat) (w : World) (hl : bs.length ≤ 1048576) (hc : Cur 91 w c a bs cap) :
    Calls Try.prog 74 #[.pointer (some ⟨c, 0, none⟩)] w fun e w' => ∃ x : Int, e = .returned (.int .i64 x) ∧ 0 ≤ x ∧ x ≤ 255 ∧ Cur 91 w' c a bs cap ∧ w.grownBy w' (some c) := by
  obtain ⟨hr, i, h, hi, ⟨hh1, hh2⟩, hk⟩ := hc
  have c0 : w.cell? ⟨c, 0, none⟩ = some (.slice a bs.length cap) := by rw [Lib.cell_of_heap hk]; rfl
  have c1 : w.cell? ⟨c, 1, none⟩ = some (.int .i64 i) := by rw [Lib.cell_of_heap hk]; rfl
  have c2 : w.cell? ⟨c, 2, none⟩ = some (.int .i64 h) := by rw [Lib.cell_of_heap hk]; rfl
  have f1 : w.frozen? ⟨c, 1, none⟩ = false := Lib.frozen_of_heap hk 1
  have f2 : w.frozen? ⟨c, 2, none⟩ = false := Lib.frozen_of_heap hk 2
  have HK : Hid (w.heap[c]? = some (.cells #[.slice a bs.length cap, .int .i64 i, .int .i64 h] 91 (0, 0))) := hk
  clear hk
  by_cases hi' : i < bs.length
  · obtain ⟨hz, hrr⟩ := hr
    rcases hrr with rfl | ⟨b, off, rfl, hlt, hne, hcs⟩
    · simp at hi'
    have hci : w.cell? ⟨b, off + i, none⟩ = some (.int .u8 bs[i]) := by rw [hcs i hi']; simp [hi']
    have hi2 : (i : Int) < (bs.length : Int) := by omega
    have hzi := hz bs[i] (List.getElem_mem hi')
    have hr : RdB w c (some ⟨b, off, none⟩) bs := ⟨hz, .inr ⟨b, off, rfl, hlt, hne, hcs⟩⟩
    obtain ⟨hz1, hz2⟩ := hzi
    clear hcs hz
    go_enter Try.func74, Try.ntmps74
    go_wp2
    go_quiet (fail)
    go_wp2
    go_quiet (fail)
    go_wp2
    go_quiet (fail)
    go_wp2
    go_ret
    have hx := and_255 (wrap64 (bits BinOp.and IntKind.i64 (bits BinOp.xor IntKind.i64 (wrap64 (wrap64 (h * 6364136223846793005) + 1442695040888963407) / 8589934592) (wrap64 (wrap64 (h * 6364136223846793005) + 1442695040888963407) / 35184372088832)) 255 + bs[i]))
    refine ⟨_, rfl, hx.1, hx.2, ?_, ?_⟩
    · refine ⟨hr.grown (grown_then (grown_draw (grown_set _ _ _ _) _) (grown_set _ _ _ _)), i + 1, _, by omega, isInt_wrap (wrap64 (h * 6364136223846793005) + 1442695040888963407), ?_⟩
      exact heap_setCell_same _ c 1 _ 91 _ (heap_setCell_same w c 2 _ 91 _ HK.out)
    · exact grown_then (grown_draw (grown_set _ _ _ _) _) (grown_set _ _ _ _)
  · have hi2 : ¬ (i : Int) < (bs.length : Int) := by omega
    go_enter Try.func74, Try.ntmps74
    go_wp2
    go_quiet (fail)
    go_wp2
    go_quiet (fail)
    go_wp2
    go_ret
    have hx := and_255 (bits BinOp.xor IntKind.i64 (wrap64 (wrap64 (h * 6364136223846793005) + 1442695040888963407) / 8589934592) (wrap64 (wrap64 (h * 6364136223846793005) + 1442695040888963407) / 35184372088832))
    refine ⟨_, rfl, hx.1, hx.2, ?_, ?_⟩
    · refine ⟨hr.grown (grown_draw (grown_draw (grown_set _ _ _ _) _) _), i, _, hi, isInt_wrap (wrap64 (h * 6364136223846793005) + 1442695040888963407), ?_⟩
      exact heap_setCell_same w c 2 _ 91 _ HK.out
    · exact grown_draw (grown_draw (grown_set _ _ _ _) _) _

set_option maxHeartbeats 800000 in
theorem below_any (c : Nat) (a : Option Addr) (bs : List Int) (cap : Nat) (n : Int) (w : World) (hl : bs.length ≤ 1048576) (hn0 : 0 < n) (hn1 : n ≤ 256) (hc : Cur 91 w c a bs cap) :
    Calls Try.prog 46 #[.pointer (some ⟨c, 0, none⟩), .int .i64 n] w fun e w' => ∃ k : Nat, e = .returned (.int .i64 k) ∧ (k : Int) < n ∧ Cur 91 w' c a bs cap ∧ w.grownBy w' (some c) := by
  have H := byte_any c a bs cap w hl hc
  have hne : (n == 0) = false := by simp; omega
  clear hc hl
  go_enter Try.func46, Try.ntmps46
  go_wp2_with (go_at_call 74; refine H.mono ?_; rintro e w1 ⟨x, rfl, hx0, hx1, hC, hg⟩; clear H)
  go_ret
  have h1 := Int.emod_nonneg x (show n ≠ 0 by omega)
  have h2 := Int.emod_lt_of_pos x hn0
  exact ⟨(x % n).toNat, by rw [Int.toNat_of_nonneg h1]; rfl, by omega, hC, hg⟩

set_option maxHeartbeats 800000 in
theorem pickInt_any (c : Nat) (a : Option Addr) (bs : List Int) (cap g lcap : Nat) (zs : List Int) (n : Nat) (w : World) (hl : bs.length ≤ 1048576) (hn : n = zs.length) (hn0 : 0 < zs.length) (hn1 : zs.length ≤ 256) (hc : Cur 91 w c a bs cap)
    (hlt : g < w.heap.size) (hne : g ≠ c) (hcs : ∀ i, i < zs.length → w.cell? ⟨g, 0 + i, none⟩ = some (.int .i64 (zs[i]?.getD 0))) :
    Calls Try.prog 58 #[.pointer (some ⟨c, 0, none⟩), .slice (some ⟨g, 0, none⟩) n lcap] w fun e w' => ∃ z : Int, e = .returned (.int .i64 z) ∧ z ∈ zs ∧ Cur 91 w' c a bs cap ∧ w.grownBy w' (some c) := by
  subst hn
  have H := below_any c a bs cap zs.length w hl (by omega) (by omega) hc
  have HC := fun w' => Rd.grown (w' := w') hcs hlt hne
  clear hc hl hcs
  go_enter Try.func58, Try.ntmps58
  go_wp2_with (go_at_call 46; refine H.mono ?_; rintro e w1 ⟨k, rfl, hx1, hC, hg⟩; clear H; have hk : k < zs.length := (by omega); have hck : w1.cell? ⟨g, k, none⟩ = some (.int .i64 zs[k]) := cell_pick hk (HC w1 hg); clear HC)
  go_ret
  exact ⟨zs[k], rfl, List.getElem_mem hk, hC, hg⟩

set_option maxHeartbeats 800000 in
theorem new_any (a : Option Addr) (bs : List Int) (n cap : Nat) (w : World) (hn : n = bs.length) (hl : bs.length ≤ 1048576) (hr : ∀ c, w.heap.size ≤ c → RdB w c a bs) :
    Calls Try.prog 38 #[.slice a n cap] w fun e w' => e = .returned (.pointer (some ⟨w.heap.size, 0, none⟩)) ∧ Cur 91 w' w.heap.size a bs cap ∧ Below w.heap.size w w' := by
  subst hn
  have hr0 := hr _ (Nat.le_refl _)
  obtain ⟨hz, hrr⟩ := hr0
  rcases hrr with rfl | ⟨b, off, rfl, hlt, hne, hcs⟩
  · go_enter Try.func38, Try.ntmps38
    go_wp2
    refine wp_loop_rounds 1 ?_
    rw [rounds_succ]
    go_wp2
    go_ret
    exact ⟨rfl, cur_new (h := 27064) (hr _ (Nat.le_refl _)) (by unfold isInt; omega), (Below.refl _ _).alloc (Nat.le_refl _) _⟩
  · go_enter Try.func38, Try.ntmps38
    go_wp2
    go_loop [3, 4] (fun t i => ∃ (k : Nat) (h : Int), k ≤ bs.length ∧ i = .int .i64 k ∧ t = .int .i64 h ∧ 0 ≤ h ∧ h ≤ 1073741823) (fun _ i => bs.length - (intOf i).toNat)
    case atStart => exact ⟨0, _, Nat.zero_le _, rfl, rfl, by omega, by omega⟩
    case round =>
      obtain ⟨k, h, hk, rfl, rfl, hh0, hh1⟩ := hrel
      by_cases hk' : k < bs.length
      · have hck : w.cell? ⟨b, off + k, none⟩ = some (.int .u8 bs[k]) := by rw [hcs k hk']; simp [hk']
        obtain ⟨hz1, hz2⟩ := hz bs[k] (List.getElem_mem hk')
        clear hcs hz
        by_cases h4 : k < 4000
        · have h4' : (k : Int) < 4000 := by omega
          go_wp2
          go_round
          case rel =>
            have hx := and_le (h * 131 + bs[k] + 7) 1073741823 (by omega)
            exact ⟨k + 1, _, by omega, by go_num, rfl, hx.1, hx.2⟩
          case measure => simp [intOf]; omega
        · have h4' : ¬ (k : Int) < 4000 := by omega
          go_wp2
          go_ret
          exact ⟨rfl, cur_new (hr _ (Nat.le_refl _)) (by unfold isInt; omega), (Below.refl _ _).alloc (Nat.le_refl _) _⟩
      · go_wp2
        go_ret
        exact ⟨rfl, cur_new (hr _ (Nat.le_refl _)) (by unfold isInt; omega), (Below.refl _ _).alloc (Nat.le_refl _) _⟩
end Go.Proofs.Ythbilahilmmfmaa

/- What the laws of the chapter on whole numbers draw: a list, a side, two sides. Conditions: the code has at most 1048576 bytes. -/
namespace Go.Proofs.Ythbilahilmmfmaa
set_option maxRecDepth 100000
open Go.RowKit

set_option maxHeartbeats 800000 in
theorem onceS_any (c : Nat) (a : Option Addr) (bs : List Int) (cap : Nat) (n : Int) (w : World) (hl : bs.length ≤ 1048576) (hn0 : 0 < n) (hn1 : n ≤ 256) (hc : Cur 91 w c a bs cap) :
    Calls Try.prog 45 #[.pointer (some ⟨c, 0, none⟩), .int .i64 n] w fun e w' => ∃ b : Bool, e = .returned (.bool b) ∧ Cur 91 w' c a bs cap ∧ w.grownBy w' (some c) := by
  have H := below_any c a bs cap n w hl hn0 hn1 hc
  clear hc hl
  go_enter Try.func45, Try.ntmps45
  go_wp2_with (go_at_call 46; refine H.mono ?_; rintro e w1 ⟨k, rfl, hx1, hC, hg⟩; clear H)
  go_ret
  exact ⟨_, rfl, hC, hg⟩
theorem RdB.onS {w w' : World} {c : Nat} {a : Option Addr} {bs : List Int} (h : RdB w c a bs) (hb : Below w.heap.size w w') : RdB w' c a bs := by
  refine ⟨h.1, ?_⟩
  rcases h.2 with h | ⟨b, off, rfl, hlt, hne, hc⟩
  · exact .inl h
  · exact .inr ⟨b, off, rfl, Nat.lt_of_lt_of_le hlt hb.size, hne, fun i hi => (hb.cell (p := ⟨b, off + i, none⟩) hlt).trans (hc i hi)⟩
def dr5 (z : Int) : Prop := -3 ≤ z ∧ z ≤ 9
theorem Rd_newS {w : World} {a : Option Addr} {bs : List Int} (hr : ∀ c, w.heap.size ≤ c → RdB w c a bs) : bs = [] ∨ ∀ x, a = some x → x.block < w.heap.size := by
  rcases (hr _ (Nat.le_refl _)).2 with h | ⟨b, off, rfl, hlt, _⟩
  · exact .inl h
  · exact .inr fun x hx => by cases hx; exact hlt
theorem own_baseS {w : World} {base base' : Nat} {e : TypeId} {size g n c : Nat} {xs : List Value} (h : w.ownsRow base e size (.slice (some ⟨g, 0, none⟩) n c) n xs) (hb : base' ≤ base) : w.ownsRow base' e size (.slice (some ⟨g, 0, none⟩) n c) n xs := by
  obtain ⟨h1, h2⟩ := h
  refine ⟨h1, ?_⟩
  rcases h2 with ⟨h, _⟩ | ⟨g', cap, cur, h, hg, r⟩
  · simp at h
  · exact .inr ⟨g', cap, cur, h, by omega, r⟩
def sideList : List Int := [0, 4, 5, -1]
def listList : List Int := [0, 1, 2, 5, 9, -3]
set_option maxHeartbeats 3200000 in
theorem drawSide_any (c : Nat) (a : Option Addr) (bs : List Int) (cap : Nat) (w : World) (hl : bs.length ≤ 1048576) (hc : Cur 91 w c a bs cap) (hbs : bs = [] ∨ ∀ x, a = some x → x.block < w.heap.size) :
    Calls Try.prog 39 #[.pointer (some ⟨c, 0, none⟩)] w fun e w' => ∃ (g lc : Nat) (o : List Int), e = .returned (.slice (some ⟨g, 0, none⟩) o.length lc) ∧ 1 ≤ o.length ∧ o.length ≤ 4 ∧ (∀ z ∈ o, dr5 z) ∧ w'.ownsRow w.heap.size 3 1 (.slice (some ⟨g, 0, none⟩) o.length lc) o.length (ints o) ∧ Cur 91 w' c a bs cap ∧ w.grownBy w' (some c) := by
  obtain ⟨i0, hi, hz0, hz1, hz2⟩ := info_parts Try.info3
  have hclt := hc.lt
  go_enter Try.func39, Try.ntmps39
  go_wp2_with fail
  go_loopw [3, 4] (fun v i wr => ∃ (o : List Int) (g lc : Nat), o.length ≤ 3 ∧ i = .int .i64 o.length ∧ v = .slice (some ⟨g, 0, none⟩) o.length lc ∧ Hid (∀ z ∈ o, dr5 z) ∧ wr.ownsRow w.heap.size 3 1 (.slice (some ⟨g, 0, none⟩) o.length lc) o.length (ints o) ∧ Cur 91 wr c a bs cap ∧ w.grownBy wr (some c)) (fun _ i _ => 6 - (intOf i).toNat)
  case atStart => exact ⟨[], w.heap.size, 0, by simp, rfl, rfl, fun z hz => by simp at hz, World.ownsRow_made w #[] 0 (Nat.le_refl _) (Nat.zero_le _) rfl, hc.below ((Below.refl _ _).alloc (Nat.le_refl _) _), grown_alloc ⟨rfl, rfl, rfl, Nat.le_refl _, fun _ _ _ => rfl⟩ _⟩
  case round =>
    obtain ⟨o, g, lc, ho, rfl, rfl, HO, hown, hC, hg⟩ := hrel
    have H := below_any c a bs cap 3 wr hl (by omega) (by omega) hC
    have hgB : w.heap.size ≤ g := (hown.lt g rfl).1
    have hws := hg.size
    have hne : g ≠ c := by omega
    go_wp2_with (go_at_call 46; refine H.mono ?_; rintro e w1 ⟨k, rfl, hk, hC1, hg1⟩; clear H; have hown1 := hown.kept hg1 (.inr (by simp [Value.ownBlock, hne])); have hgr1 := grown_then hg hg1; clear hown hC hg hg1)
    · have hlt : (o.length : Int) < 1 + (k : Int) := by assumption
      have ho' : o.length ≤ 2 := by omega
      have hs1 := hgr1.size
      have H2 := below_any c a bs cap 3 w1 hl (by omega) (by omega) hC1
      go_wp2_with (first
        | (go_at_call 46; refine H2.mono ?_; rintro e w2 ⟨k2, rfl, hk2, hC2, hg2⟩; clear H2; have hown2 := hown1.kept hg2 (.inr (by simp [Value.ownBlock, hne])); have hgr2 := grown_then hgr1 hg2; have hs2 := hgr2.size; clear hown1 hC1 hgr1 hg2)
        | (at_builtin; refine wpList_append_own _ rfl (.tmp 13) (.tmp 17) 24 rfl w.heap.size 3 i0 (.int .i64 0) 1 8 Try.underlying24 hi hz0 hz1 hz2 rfl (by decide) _ o.length _ rfl (hown2.alloc _) ⟨w2.heap.size, 0, none⟩ 1 1 [.int .i64 (1 + (k2 : Int))] rfl rfl (one_new _ _ _) (one_cell _) (by unfold maxLen; omega) (by omega) (by simp; omega) ?_; intro v' w3 hown3 hgrow3 hnil3; obtain ⟨g3, c3, rfl⟩ := own_some hown3 hnil3; clear hnil3))
      have hgrow : (w2.alloc (.cells #[.int .i64 (1 + (k2 : Int))] 3)).grownBy w3 (some g) := hgrow3
      have R1 : w3.ownsRow w.heap.size 3 1 (.slice (some ⟨g3, 0, none⟩) (o ++ [(1 + (k2 : Int))]).length c3) (o ++ [(1 + (k2 : Int))]).length (ints (o ++ [(1 + (k2 : Int))])) := by simpa [ints] using hown3
      have R2 : Cur 91 w3 c a bs cap := (hC2.below ((Below.refl _ _).alloc (Nat.le_refl _) _)).grown hgrow hclt hgB hbs
      have R3 : w.grownBy w3 (some c) := grown_own (grown_alloc hgr2 _) hgrow hgB

      have R4 : Hid (∀ y ∈ o ++ [(1 + (k2 : Int))], dr5 y) := by
        intro y hy
        rcases List.mem_append.1 hy with hy | hy
        · exact HO.out y hy
        · simp at hy; subst hy
          unfold dr5; omega
      clear hown3 hgrow3 hgrow hC2 hgr2 hown2 HO
      go_roundw
      case rel => exact ⟨o ++ [(1 + (k2 : Int))], g3, c3, by simp; omega, by simp, by simp, R4, R1, R2, R3⟩
      case measure => simp [intOf]; omega
    · have hlt : ¬ (o.length : Int) < 1 + (k : Int) := by omega
      have ho1 : 1 ≤ o.length := by omega
      have hs1 := hgr1.size
      have H2 := onceS_any c a bs cap 12 w1 hl (by omega) (by omega) hC1
      go_wp2_with (go_at_call 45; refine H2.mono ?_; rintro e w2 ⟨b2, rfl, hC2, hg2⟩; clear H2; have hown2 := hown1.kept hg2 (.inr (by simp [Value.ownBlock, hne])); have hgr2 := grown_then hgr1 hg2; have hs2 := hgr2.size; clear hown1 hC1 hgr1 hg2)
      · go_wp2_with (first
          | (go_at_call 58; refine (pickInt_any _ _ _ _ _ _ sideList _ _ hl rfl (by decide) (by decide) (hC2.below ((Below.refl _ _).alloc (Nat.le_refl _) _)) (by simp) (Nat.ne_of_gt hC2.lt) (lit_cells w2 sideList)).mono ?_; rintro e w4 ⟨z, rfl, hz, hC4, hg4⟩; have hown4 := (hown2.alloc _).kept hg4 (.inr (by simp [Value.ownBlock, hne])); have hgr4 := grown_then (grown_alloc hgr2 _) hg4; have hs4 := hgr4.size; clear hown2 hC2 hgr2 hg4)
          | (at_builtin; refine wpList_append_own _ rfl (.tmp 21) (.tmp 25) 24 rfl w.heap.size 3 i0 (.int .i64 0) 1 8 Try.underlying24 hi hz0 hz1 hz2 rfl (by decide) _ o.length _ rfl (hown4.alloc _) ⟨w4.heap.size, 0, none⟩ 1 1 [.int .i64 z] rfl rfl (one_new _ _ _) (one_cell _) (by unfold maxLen; omega) (by omega) (by simp; omega) ?_; intro v' w3 hown3 hgrow3 hnil3; obtain ⟨g3, c3, rfl⟩ := own_some hown3 hnil3; clear hnil3))
        have hgrow : (w4.alloc (.cells #[.int .i64 z] 3)).grownBy w3 (some g) := hgrow3
        have R1 : w3.ownsRow w.heap.size 3 1 (.slice (some ⟨g3, 0, none⟩) (o ++ [z]).length c3) (o ++ [z]).length (ints (o ++ [z])) := by simpa [ints] using hown3
        have R2 : Cur 91 w3 c a bs cap := (hC4.below ((Below.refl _ _).alloc (Nat.le_refl _) _)).grown hgrow hclt hgB hbs
        have R3 : w.grownBy w3 (some c) := grown_own (grown_alloc hgr4 _) hgrow hgB

        have R4 : ∀ y ∈ o ++ [z], dr5 y := by
          intro y hy
          rcases List.mem_append.1 hy with hy | hy
          · exact HO.out y hy
          · simp at hy; subst hy
            simp [sideList] at hz
            unfold dr5; omega
        clear hown3 hgrow3 hgrow hC4 hgr4 hown4 HO
        go_ret
        exact ⟨g3, c3, o ++ [z], by simp, by simp, by simp; omega, R4, R1, R2, R3⟩
      · go_ret
        exact ⟨g, lc, o, rfl, ho1, by omega, HO.out, hown2, hC2, hgr2⟩
theorem own_rdS {w : World} {base g c n : Nat} {zs : List Int} (hn : n = zs.length) (h : w.ownsRow base 3 1 (.slice (some ⟨g, 0, none⟩) n c) n (ints zs)) : Rd w (some ⟨g, 0, none⟩) zs := Rd.own hn h
set_option maxHeartbeats 1600000 in
theorem drawBasis_any (a : Option Addr) (bs : List Int) (cap : Nat) (w : World) (hl : bs.length ≤ 1048576) (hr : ∀ c, w.heap.size ≤ c → RdB w c a bs) :
    Calls Try.prog 8 #[.slice a bs.length cap] w fun e w' => ∃ (g lc : Nat) (o : List Int) (g' lc' : Nat) (o' : List Int), e = .returned (.tuple #[.slice (some ⟨g, 0, none⟩) o.length lc, .slice (some ⟨g', 0, none⟩) o'.length lc']) ∧ (1 ≤ o.length ∧ o.length ≤ 4 ∧ ∀ z ∈ o, dr5 z) ∧ (1 ≤ o'.length ∧ o'.length ≤ 4 ∧ ∀ z ∈ o', dr5 z) ∧ Rd w' (some ⟨g, 0, none⟩) o ∧ Rd w' (some ⟨g', 0, none⟩) o' ∧ Below w.heap.size w w' := by
  have H := new_any a bs _ cap w rfl hl hr
  have hbs := Rd_newS hr
  clear hr
  go_enter Try.func8, Try.ntmps8
  go_wp2_with (go_at_call 38; refine H.mono ?_; rintro e w1 ⟨rfl, hC, hb⟩; clear H)
  have D1 := drawSide_any _ a bs cap w1 hl hC (hbs.imp id fun h x hx => Nat.lt_of_lt_of_le (h x hx) hb.size)
  go_wp2_with (go_at_call 39; refine D1.mono ?_; rintro e w2 ⟨g, lc, o, rfl, h1, h2, h3, h4, h5, h6⟩; clear D1)
  have hB2 : Below w.heap.size w w2 := hb.trans (grown_below h6 hb.size (Nat.le_refl _))
  have D2 := drawSide_any _ a bs cap w2 hl h5 (hbs.imp id fun h x hx => Nat.lt_of_lt_of_le (h x hx) hB2.size)
  have hgw := h4.lt g rfl
  have hwc := hC.lt
  have hw1 := hb.size
  have hlc : lc = lc := rfl
  have HO1 : Hid _ := h4
  have HO3 : Hid _ := h3
  clear h4 h3
  go_wp2_with (go_at_call 39; refine D2.mono ?_; rintro e w3 ⟨g', lc', o', rfl, k1, k2, k3, k4, k5, k6⟩; clear D2)
  exact bodyPost_ret (v := .tuple #[.slice (some ⟨g, 0, none⟩) o.length lc, .slice (some ⟨g', 0, none⟩) o'.length lc']) (by simp [results, Try.results8, go_sem]) rfl ⟨g, lc, o, g', lc', o', rfl, ⟨h1, h2, HO3.out⟩, ⟨k1, k2, k3⟩, own_rdS rfl ((show w2.ownsRow w1.heap.size 3 1 (.slice (some ⟨g, 0, none⟩) o.length lc) o.length (ints o) from HO1.out).kept k6 (.inr (by simp [Value.ownBlock]; omega))), own_rdS rfl k4, hB2.trans (grown_below k6 hB2.size (Nat.le_refl _))⟩
end Go.Proofs.Ythbilahilmmfmaa

/- Sums of what solves solve, as plain mathematics; and the law's byte of the code. Conditions: as each says. -/
namespace Go.Proofs.Ythbilahilmmfmaa
set_option maxRecDepth 100000
open Go.RowKit

/-- A sum of products over what a function tells. -/
def dotF : List Int → (Nat → Int) → Int
  | [], _ => 0
  | p :: a, f => p * f 0 + dotF a (fun i => f (i + 1))
theorem dot_F : ∀ (a x : List Int) (f : Nat → Int), a.length ≤ x.length → (∀ i, (h : i < a.length) → (h' : i < x.length) → x[i] = f i) → dotL a x = dotF a f
  | [], x, f, _, _ => by simp [dotL, dotF]
  | p :: a, [], f, h, _ => by simp at h
  | p :: a, q :: x, f, h, hf => by
    rw [dot_cons, dotF, dot_F a x (fun i => f (i + 1)) (by simpa using h) (fun i h1 h2 => by have := hf (i + 1) (by simp; omega) (by simp; omega); simpa using this)]
    have := hf 0 (by simp) (by simp)
    simp at this
    rw [this]
theorem dotF_add (a : List Int) : ∀ (f g : Nat → Int), dotF a (fun i => f i + g i) = dotF a f + dotF a g := by
  induction a with
  | nil => intro f g; rfl
  | cons p a ih => intro f g; simp only [dotF]; rw [ih (fun i => f (i + 1)) (fun i => g (i + 1)), Int.mul_add]; omega
theorem dotF_zero (a : List Int) : dotF a (fun _ => 0) = 0 := by
  induction a with
  | nil => rfl
  | cons p a ih => simp only [dotF]; rw [ih]; omega
theorem dotF_same (a : List Int) : ∀ (f g : Nat → Int), (∀ i, i < a.length → f i = g i) → dotF a f = dotF a g := by
  induction a with
  | nil => intro f g _; rfl
  | cons p a ih => intro f g h; simp only [dotF]; rw [h 0 (by simp), ih _ _ (fun i hi => h (i + 1) (by simp; omega))]
/-- A row that solves, each count from 0 to 4. -/
def OkRow (a b : List Int) (r : List Int) : Prop := r.length = a.length + b.length ∧ (∀ v ∈ r, 0 ≤ v ∧ v ≤ 4) ∧ dotL a r = dotL b (r.drop a.length)
theorem sumAt_snoc (S : List (List Int)) (r : List Int) (k : Nat) : sumAt (S ++ [r]) k = sumStep k (sumAt S k) r := by unfold sumAt; rw [List.foldl_append]; rfl
/-- Each place of the sum is small, and both sums of products are one. -/
theorem sums_ok (a b : List Int) : ∀ (S : List (List Int)), S.length ≤ 200 → (∀ r ∈ S, OkRow a b r) →
    (∀ k, 0 ≤ sumAt S k ∧ sumAt S k ≤ 4 * S.length) ∧ dotF a (sumAt S) = dotF b (fun i => sumAt S (a.length + i)) := by
  intro S
  obtain ⟨n, hn⟩ : ∃ n, n = S.length := ⟨_, rfl⟩
  induction n generalizing S with
  | zero =>
    intro _ _
    obtain rfl : S = [] := List.length_eq_zero_iff.1 hn.symm
    refine ⟨fun k => by simp [sumAt], ?_⟩
    show dotF a (fun _ => 0) = dotF b (fun _ => 0)
    rw [dotF_zero, dotF_zero]
  | succ n ih =>
    intro hl hr
    obtain ⟨S, r, rfl⟩ : ∃ S' r, S = S' ++ [r] := by
      rcases List.eq_nil_or_concat S with h | ⟨L, b, h⟩
      · rw [h] at hn; simp at hn
      · exact ⟨L, b, by simpa using h⟩
    obtain ⟨ih1, ih2⟩ := ih S (by simp at hn; omega) (by simp at hl; omega) (fun x hx => hr x (by simp [hx]))
    obtain ⟨h1, h2, h3⟩ := hr r (by simp)
    have hl' : S.length ≤ 199 := by simp at hl; omega
    have hstep : ∀ k, sumAt (S ++ [r]) k = sumAt S k + r[k]?.getD 0 := by
      intro k
      rw [sumAt_snoc]
      unfold sumStep
      have q := ih1 k
      by_cases hk : k < r.length
      · rw [dif_pos hk, List.getElem?_eq_getElem hk, Option.getD_some]
        have q2 := h2 r[k] (List.getElem_mem hk)
        unfold wrap64
        omega
      · rw [dif_neg hk, List.getElem?_eq_none (by omega)]
        simp
    refine ⟨fun k => ?_, ?_⟩
    · rw [hstep]
      have q := ih1 k
      by_cases hk : k < r.length
      · rw [List.getElem?_eq_getElem hk, Option.getD_some]
        have q2 := h2 r[k] (List.getElem_mem hk)
        simp only [List.length_append, List.length_singleton]
        omega
      · rw [List.getElem?_eq_none (by omega)]
        simp only [List.length_append, List.length_singleton, Option.getD_none]
        omega
    · have e1 : dotF a (sumAt (S ++ [r])) = dotF a (sumAt S) + dotL a r := by
        rw [dot_F a r (fun i => r[i]?.getD 0) (by omega) (fun i h h' => by rw [List.getElem?_eq_getElem h', Option.getD_some]), ← dotF_add]
        exact dotF_same _ _ _ (fun i _ => hstep i)
      have e2 : dotF b (fun i => sumAt (S ++ [r]) (a.length + i)) = dotF b (fun i => sumAt S (a.length + i)) + dotL b (r.drop a.length) := by
        rw [dot_F b (r.drop a.length) (fun i => r[a.length + i]?.getD 0) (by simp; omega) (fun i h h' => by rw [List.getElem_drop]; simp at h'; rw [List.getElem?_eq_getElem (by omega), Option.getD_some]), ← dotF_add]
        exact dotF_same _ _ _ (fun i _ => hstep (a.length + i))
      rw [e1, e2, ih2, h3]
/-- What the program sums up solves. -/
theorem sum_solves {a b : List Int} {S : List (List Int)} (ha : 1 ≤ a.length) (h5 : a.length + b.length ≤ 10) (hS : S.length ≤ 200) (hr : ∀ r ∈ S, OkRow a b r) :
    (sumL S ((a.length : Int) + (b.length : Int))).length = a.length + b.length ∧ smallL (sumL S ((a.length : Int) + (b.length : Int))) ∧ solvB a b (sumL S ((a.length : Int) + (b.length : Int))) = true := by
  obtain ⟨h1, h2⟩ := sums_ok a b S hS hr
  have e : sumL S ((a.length : Int) + (b.length : Int)) = (List.range (a.length + b.length)).map (sumAt S) := by
    unfold sumL
    rw [if_pos (by omega), show ((a.length : Int) + (b.length : Int)).toNat = a.length + b.length by omega]
  rw [e]
  have hlen : ((List.range (a.length + b.length)).map (sumAt S)).length = a.length + b.length := by simp
  have hv : ∀ v ∈ (List.range (a.length + b.length)).map (sumAt S), 0 ≤ v ∧ v ≤ 800 := by
    intro v hv
    obtain ⟨k, _, rfl⟩ := List.mem_map.1 hv
    have := h1 k
    omega
  refine ⟨hlen, fun v h => by have := hv v h; omega, ?_⟩
  unfold solvB
  rw [decide_eq_true hlen, Bool.true_and, Bool.and_eq_true]
  refine ⟨List.all_eq_true.2 (fun v h => by simpa using (hv v h).1), ?_⟩
  rw [decide_eq_true_eq, dot_F a _ (sumAt S) (by omega) (fun i _ _ => by simp), dot_F b _ (fun i => sumAt S (a.length + i)) (by simp) (fun i _ h' => by rw [List.getElem_drop]; simp)]
  exact h2
theorem mem_sumS : ∀ (l : List Int), (∀ v ∈ l, 0 ≤ v) → ∀ v ∈ l, v ≤ l.sum
  | [], _, v, h => by simp at h
  | x :: l, h0, v, h => by
    have hs : 0 ≤ l.sum := by
      have : ∀ (l : List Int), (∀ v ∈ l, 0 ≤ v) → 0 ≤ l.sum := by
        intro l
        induction l with
        | nil => intro _; simp
        | cons y l ih => intro q; have := q y (by simp); have := ih (fun v hv => q v (by simp [hv])); simp; omega
      exact this l (fun v hv => h0 v (by simp [hv]))
    have hx := h0 x (by simp)
    simp only [List.sum_cons]
    rcases List.mem_cons.1 h with rfl | h
    · omega
    · have := mem_sumS l (fun v hv => h0 v (by simp [hv])) v h
      omega
/-- Each of a basis solves. -/
theorem bas_row {a b : List Int} (ha : fineB a = true) (hb : fineB b = true) : ∀ r ∈ solL a b, OkRow a b r := by
  intro r hr
  have hl := solL_len a b r hr
  obtain ⟨x, y, rfl, hx, hy, ho⟩ := sol_mem hr
  have hxl := waysL_len _ _ x hx
  refine ⟨hl, fun v hv => ?_, ?_⟩
  · have fa := fine_len ha
    have fb := fine_len hb
    have ta := top_fine a 0 (by omega) (by omega) fa.2.2
    have tb' := top_fine b 0 (by omega) (by omega) fb.2.2
    rcases List.mem_append.1 hv with h | h
    · have q := waysL_nonneg _ _ x hx
      have q2 := mem_sumS x q.1 v h
      have q3 : (topL b).toNat ≤ 4 := by unfold topL; omega
      exact ⟨q.1 v h, by omega⟩
    · have q := waysL_nonneg _ _ y hy
      have q2 := mem_sumS y q.1 v h
      have q3 : (topL a).toNat ≤ 4 := by unfold topL; omega
      exact ⟨q.1 v h, by omega⟩
  · have e1 : dotL a (x ++ y) = dotL a x := by
      rw [dot_F a (x ++ y) (fun i => x[i]?.getD 0) (by simp; omega) (fun i h h' => by rw [List.getElem_append_left (by omega), List.getElem?_eq_getElem (by omega), Option.getD_some]), dot_F a x (fun i => x[i]?.getD 0) (by omega) (fun i h h' => by rw [List.getElem?_eq_getElem h', Option.getD_some])]
    rw [e1, ← hxl, List.drop_left]
    unfold okB at ho
    simp only [Bool.and_eq_true, decide_eq_true_eq] at ho
    exact ho.1.symm
end Go.Proofs.Ythbilahilmmfmaa

