/- Lists of lists of numbers, copied and marked. Conditions: at most 1048577 lists, of at most 1048577 numbers together. -/
import Derived.Test.YtcbafmohmoicnabIQ
namespace Go.Proofs.Ytcbafmohmoicnab
set_option maxRecDepth 100000
open Go.RowKit

theorem Try.infoQ : (Try.prog.info? 46).map (fun i => (i.zero, i.size, i.bytes)) = some (some (.slice none 0 0), 1, 24) := by kernel_rfl
theorem madeQ (n : Nat) : (madeCells #[Value.slice none 0 0] n).toList = List.replicate n (Value.slice none 0 0) := by
  apply List.ext_getElem
  · simp [madeCells]
  · intro i h1 h2
    simp [madeCells, Nat.mod_one]
theorem own_fr {w w' : World} {base g n c : Nat} {e : TypeId} {size : Nat} {xs : List Value} (h : w.ownsRow base e size (.slice (some ⟨g, 0, none⟩) n c) n xs) (hb : w'.heap[g]? = w.heap[g]?) : w'.ownsRow base e size (.slice (some ⟨g, 0, none⟩) n c) n xs := by
  obtain ⟨h1, h2⟩ := h
  refine ⟨h1, ?_⟩
  rcases h2 with ⟨h, _⟩ | ⟨g', cap, cur, h, hg, hh, r⟩
  · simp at h
  · cases h
    exact .inr ⟨g, c, cur, rfl, hg, hb.trans hh, r⟩
theorem setCell_heap {w : World} {g j k : Nat} {v : Value} (h : k ≠ g) : (w.setCell ⟨g, j, none⟩ v).heap[k]? = w.heap[k]? := by
  simp [World.setCell, Array.getElem?_modify]
  intro e; exact absurd e.symm h

set_option maxHeartbeats 1600000 in
theorem toIntss_any (a : Option Addr) (rows : List (List Int)) (cap : Nat) (w : World) (hr : RdQ w a rows) (hl : rows.length ≤ 1048577) (hl2 : ∀ r ∈ rows, r.length ≤ 1048577) :
    Calls Try.prog 37 #[.slice a rows.length cap] w fun e w' => ∃ L : List Nat, L.length = rows.length ∧ e = .returned (.slice (some ⟨w.heap.size, 0, none⟩) rows.length rows.length) ∧ w'.ownsRow w.heap.size 46 1 (.slice (some ⟨w.heap.size, 0, none⟩) rows.length rows.length) rows.length (cellsQ L rows) ∧ OwnQ w' w.heap.size w.heap.size L rows ∧ Below w.heap.size w w' := by
  obtain ⟨i0, hi, hz0, hz1, hz2⟩ := info_parts Try.infoQ
  have HR : Hid (RdQ w a rows) := hr
  clear hr
  go_enter Try.func37, Try.ntmps37
  go_wp2_with (first
    | (at_make; refine wpList_make_full _ rfl _ _ 50 rfl w.heap.size 46 i0 (.slice none 0 0) 1 Try.underlying50 hi hz0 hz1 _ _ _ _ rows.length rfl rfl rfl rfl (by rw [hz2]; omega) (by unfold maxLen; omega) (Nat.le_refl _) ?_)
    | go_in)
  intro w1 hown hgrow
  have hb1 : Below w.heap.size w w1 := (Below.refl _ _).grown hgrow (Nat.le_refl _) (by simp)
  clear hgrow
  rw [madeQ] at hown
  go_wp2_with fail
  go_loopw [4] (fun i wr => ∃ (k : Nat) (L : List Nat), k ≤ rows.length ∧ L.length = k ∧ i = .int .i64 k ∧ Hid (wr.ownsRow w.heap.size 46 1 (.slice (some ⟨w.heap.size, 0, none⟩) rows.length rows.length) rows.length (cellsQ L rows ++ List.replicate (rows.length - k) (Value.slice none 0 0))) ∧ Hid (OwnQ wr w.heap.size w.heap.size L rows) ∧ Below w.heap.size w wr) (fun i _ => rows.length - (intOf i).toNat)
  case atStart => exact ⟨0, [], Nat.zero_le _, rfl, rfl, by show World.ownsRow _ _ _ _ _ _ _; simpa [cellsQ] using hown, ⟨fun i h => by simp at h, fun x hx => by simp at hx, List.nodup_nil⟩, hb1⟩
  case round =>
    obtain ⟨k, L, hk, hL, rfl, HO, HQ, hb⟩ := hrel
    clear hown hb1
    by_cases hk' : k < rows.length
    · obtain ⟨b, off, ai, ci, rfl, c0, hrd⟩ := RdQ.get HR.out hk'
      have c1 := keepC hb c0
      have hki : (k : Int) < (rows.length : Int) := by omega
      have hki0 : (0 : Int) ≤ (k : Int) := by omega
      have hlr := hl2 rows[k] (List.getElem_mem hk')
      have C := toInts_any ai rows[k] _ ci wr rfl (hrd.below hb) hlr
      have HSN : Hid (cellsQ (L ++ [wr.heap.size]) rows = cellsQ L rows ++ [Value.slice (some ⟨wr.heap.size, 0, none⟩) rows[k].length rows[k].length]) := cellsQ_snoc hL hk'
      have HLL : Hid (L.length = k) := hL
      have HOK : Hid (∀ W : World, W.ownsRow wr.heap.size 3 1 (.slice (some ⟨wr.heap.size, 0, none⟩) rows[k].length rows[k].length) rows[k].length (ints rows[k]) → W.ownsRow w.heap.size 3 1 (.slice (some ⟨wr.heap.size, 0, none⟩) rows[k].length rows[k].length) rows[k].length (ints rows[k])) := fun W h => own_base h hb.size
      have hbs := hb.size
      have HKL : Hid (k < rows.length) := hk'
      have HO2 : wr.ownsRow w.heap.size 46 1 (.slice (some ⟨w.heap.size, 0, none⟩) rows.length rows.length) rows.length (cellsQ L rows ++ List.replicate (rows.length - k) (Value.slice none 0 0)) := HO.out
      have hgl := (HO2.lt _ rfl).2
      clear c0 hrd hlr hL HO
      go_wp2_with (go_at_call 24; refine C.mono ?_; rintro e w2 ⟨rfl, ho2, hb2⟩; have HO3 := own_below HO2 hb2; have hfz := HO3.frozenAt k; have hce : w2.cell? ⟨w.heap.size, k, none⟩ = some (.slice none 0 0) := (HO3.cellAt k (by omega)).trans (by rw [List.getElem?_append_right (by rw [cellsQ_len (by have := HLL.out; have := HKL.out; omega), HLL.out]; exact Nat.le_refl _), cellsQ_len (by have := HLL.out; have := HKL.out; omega), HLL.out, Nat.sub_self, List.getElem?_replicate, if_pos (by have := HKL.out; omega)]); have HW2 : Hid _ := ho2; have hz2' := hb2.size; have hlt2 : wr.heap.size < w2.heap.size := (ho2.lt _ rfl).2; have R := HO3.stored k (.slice (some ⟨wr.heap.size, 0, none⟩) rows[k].length rows[k].length); have HB2 : Hid (Below wr.heap.size wr w2) := hb2; clear C ho2 hb2 HO2 HO3)
      obtain ⟨R1, _⟩ := R
      go_roundw
      case rel =>
        refine ⟨k + 1, L ++ [wr.heap.size], by omega, by simp [HLL.out], by go_num, ?_, ?_, (hb.trans (HB2.out.mono hb.size)).setCell (Nat.le_refl _) _⟩
        · show World.ownsRow _ _ _ _ _ _ _
          have e : (cellsQ L rows ++ List.replicate (rows.length - k) (Value.slice none 0 0)).set k (.slice (some ⟨wr.heap.size, 0, none⟩) rows[k].length rows[k].length) = cellsQ (L ++ [wr.heap.size]) rows ++ List.replicate (rows.length - (k + 1)) (Value.slice none 0 0) := by
            have h1 : rows.length - k = (rows.length - (k + 1)) + 1 := by omega
            have h2 : (cellsQ L rows).length = k := by rw [cellsQ_len (by have := HLL.out; omega), HLL.out]
            rw [List.set_append, if_neg (by omega), h2, Nat.sub_self, h1, List.replicate_succ, List.set_cons_zero, HSN.out]
            simp only [List.append_assoc, List.cons_append, List.nil_append]
            rfl
          rw [← e]; exact R1
        · have Q := (HQ.out.on HB2.out)
          have hne : wr.heap.size ≠ w.heap.size := by omega
          refine ⟨fun i h1 h2 => ?_, fun x hx => ?_, ?_⟩
          · have hi1 : i < k + 1 := by simpa [HLL.out] using h1
            by_cases e : i < k
            · have hiL : i < L.length := by have := HLL.out; omega
              simp only [List.getElem_append_left hiL]
              exact own_fr (Q.own i hiL h2) (setCell_heap (Q.lt _ (List.getElem_mem hiL)).2.2)
            · have e2 : i = k := by omega
              subst e2
              have e3 : (L ++ [wr.heap.size])[i] = wr.heap.size := by
                rw [List.getElem_append_right (by have := HLL.out; omega)]; simp [HLL.out]
              rw [e3]
              exact own_fr (HOK.out w2 HW2.out) (setCell_heap hne)
          · rcases List.mem_append.1 hx with h | h
            · have := Q.lt x h
              exact ⟨this.1, by simpa using this.2.1, this.2.2⟩
            · simp at h
              subst h
              exact ⟨hbs, by simpa using hlt2, hne⟩
          · rw [List.nodup_append]
            refine ⟨Q.nd, by simp, fun x hx y hy => ?_⟩
            simp at hy
            subst hy
            have := (HQ.out.lt x hx).2.1
            omega
      case measure => simp [intOf]; omega
    · have hki : ¬ (k : Int) < (rows.length : Int) := by omega
      have e : k = rows.length := by omega
      subst e
      go_wp2_with fail
      go_ret
      have ho := HO.out
      simp only [Nat.sub_self, List.replicate_zero, List.append_nil] at ho
      exact ⟨L, hL, rfl, ho, HQ.out, hb⟩

/-- Whatever leaves all blocks below lo leaves it, and what was drawn. -/
theorem upFrom_ints (k : Int) (n : Nat) : (ints (upFrom k n)).length = n := by simp [ints, upFrom_len]
theorem mark_gen (base g : Nat) (zs : List Int) (k : Int) (n cap : Nat) (w : World) (hn : n = zs.length) (hown : w.ownsRow base 3 1 (.slice (some ⟨g, 0, none⟩) n cap) n (ints zs)) (hl : n ≤ 1048577) (hk1 : 0 ≤ k) (hk2 : k ≤ 4000000000000) :
    Calls Try.prog 32 #[.slice (some ⟨g, 0, none⟩) n cap, .int .i64 k] w fun e w' => e = .returned (.int .i64 (k + n)) ∧ w.grownBy w' (some g) := by
  subst hn
  go_enter Try.func32, Try.ntmps32
  go_wp2
  go_loopw [1, 5] (fun t i wr => ∃ j : Nat, j ≤ zs.length ∧ i = .int .i64 j ∧ t = .int .i64 (k + (j : Int)) ∧ wr.ownsRow base 3 1 (.slice (some ⟨g, 0, none⟩) zs.length cap) zs.length (ints (upFrom k j) ++ (ints zs).drop j) ∧ w.grownBy wr (some g)) (fun _ i _ => zs.length - (intOf i).toNat)
  case atStart => exact ⟨0, Nat.zero_le _, rfl, by simp, hown, ⟨rfl, rfl, rfl, Nat.le_refl _, fun _ _ _ => rfl⟩⟩
  case round =>
    obtain ⟨j, hj, rfl, rfl, hown', hg⟩ := hrel
    clear hown
    by_cases hj' : j < zs.length
    · obtain ⟨u, hu⟩ := mark_at (k := k) hj'
      have hfz := hown'.frozenAt j
      have hce : wr.cell? ⟨g, j, none⟩ = some (.int .i64 u) := (hown'.cellAt j (by omega)).trans hu
      have R := hown'.stored j (.int .i64 (k + (j : Int)))
      rw [mark_step hj'] at R
      obtain ⟨R1, R2⟩ := R
      have R3 := grown_trans hg R2
      clear hown' hg R2 hu
      go_wp2
      go_roundw
      case rel => exact ⟨j + 1, by omega, by go_num, by go_num, R1, R3⟩
      case measure => simp [intOf]; omega
    · go_wp2
      go_ret
      exact ⟨rtI (by omega), hg⟩

set_option maxHeartbeats 1600000 in
theorem markIntss_any (lo g : Nat) (L : List Nat) (rows : List (List Int)) (c : Nat) (k : Int) (w : World) (hL : L.length = rows.length) (ho : w.ownsRow lo 46 1 (.slice (some ⟨g, 0, none⟩) rows.length c) rows.length (cellsQ L rows)) (hq : OwnQ w lo g L rows) (hl : rows.length + sumQ rows ≤ 1048577) (hk1 : 0 ≤ k) (hk2 : k ≤ 4) :
    Calls Try.prog 33 #[.slice (some ⟨g, 0, none⟩) rows.length c, .int .i64 k] w fun e w' => e = .returned (.int .i64 (k + sumQ rows)) ∧ Stay (fun x => x ∉ L) w w' := by
  have HO : Hid (w.ownsRow lo 46 1 (.slice (some ⟨g, 0, none⟩) rows.length c) rows.length (cellsQ L rows)) := ho
  have HQ : Hid (OwnQ w lo g L rows) := hq
  have hgL : g ∉ L := fun h => (hq.lt g h).2.2 rfl
  clear ho hq
  go_enter Try.func33, Try.ntmps33
  go_wp2_with fail
  go_loopw [1, 5] (fun t i wr => ∃ j : Nat, j ≤ rows.length ∧ i = .int .i64 j ∧ t = .int .i64 (k + (sumQ (rows.take j) : Int)) ∧ Hid (Stay (fun x => x ∉ L.take j) w wr)) (fun _ i _ => rows.length - (intOf i).toNat)
  case atStart => exact ⟨0, Nat.zero_le _, rfl, by simp [sumQ], Stay.refl _ _⟩
  case round =>
    obtain ⟨j, hj, rfl, rfl, HS⟩ := hrel
    by_cases hj' : j < rows.length
    · have hjL : j < L.length := by omega
      have c0 := HO.out.cellAt j (by omega)
      rw [cellsQ_get hjL hj'] at c0
      have c1 := HS.out.cell c0 (fun h => hgL (List.mem_of_mem_take h))
      have hji : (j : Int) < (rows.length : Int) := by omega
      have hji0 : (0 : Int) ≤ (j : Int) := by omega
      have hnx : L[j] ∉ L.take j := fun h => by
        obtain ⟨i, hi, e⟩ := List.getElem_of_mem h
        simp at hi
        rw [List.getElem_take] at e
        have := (List.getElem_inj HQ.out.nd).1 e
        omega
      have hrw := sumQ_row rows[j] (List.getElem_mem hj')
      have hst := sumQ_take hj'
      have C := mark_gen lo L[j] rows[j] (k + (sumQ (rows.take j) : Int)) _ rows[j].length wr rfl (own_fr (HQ.out.own j hjL hj') (HS.out.block L[j] (HQ.out.lt _ (List.getElem_mem hjL)).2.1 hnx)) (by omega) (by omega) (by
        have : sumQ (rows.take j) ≤ sumQ rows := by
          have e : sumQ rows = sumQ (rows.take j) + sumQ (rows.drop j) := by
            conv => lhs; rw [← List.take_append_drop j rows]
            unfold sumQ
            rw [List.map_append, List.sum_append]
          omega
        omega)
      have HT : Hid (L.take (j + 1) = L.take j ++ [L[j]]) := List.take_succ_eq_append_getElem hjL
      have HST : Hid (sumQ (rows.take (j + 1)) = sumQ (rows.take j) + rows[j].length) := hst
      clear c0 hnx hrw hst
      generalize L[j] = gj at c1 C HT
      generalize rows[j].length = m at c1 C HST
      generalize rows[j] = row at C
      generalize sumQ (rows.take j) = sj at C HST ⊢
      go_wp2_with (go_at_call 32; refine C.mono ?_; rintro e w2 ⟨rfl, hg2⟩; have HG : Hid _ := hg2; clear C hg2)
      go_roundw
      case rel =>
        refine ⟨j + 1, by omega, by go_num, by rw [HST.out]; go_num, ?_⟩
        show Stay _ _ _
        rw [HT.out]
        exact (HS.out.weak (fun x _ hx h => hx (List.mem_append_left _ h))).trans ((Stay.grown HG.out (fun k e => by cases e; simp)))
      case measure => simp [intOf]; omega
    · have hji : ¬ (j : Int) < (rows.length : Int) := by omega
      have e : rows.take j = rows := List.take_of_length_le (by omega)
      have e2 : L.take j = L := List.take_of_length_le (by omega)
      rw [e]
      have H2 : Hid (Stay (fun x => x ∉ L) w wr) := by have := HS.out; rwa [e2] at this
      clear e e2 HS
      go_wp2_with fail
      go_ret
      exact ⟨rfl, H2.out⟩
end Go.Proofs.Ytcbafmohmoicnab
