/- Lists of lists of numbers as arguments of a law: opened, measured, copied, held against each other, marked. Conditions: at most 1048577 lists, each of at most 1048577 numbers. -/
import Derived.Test.YtcbafmohmoicnabProg
import Derived.Test.YtcbafmohmoicnabIL
import Derived.Test.YtcbafmohmoicnabSumA
import Derived.Test.YtcbafmohmoicnabPriv
import Derived.Deep.Matrix
import Derived.Deep.RegionWith
namespace Go.Proofs.Ytcbafmohmoicnab
set_option maxRecDepth 100000
open Go.RowKit Go.ChangeShapes Go.WideShapes Go.ChangeAt

/-- An argument, opened. -/
theorem open_introws {H : Type} {enc : TypeId × Value → H} {W : World} {base : Nat} {held : Bool} {v : Value} {d : DataW H} {p : List MemPlace} {a : Option Addr} {len cap : Nat} (hv : v = .slice a len cap)
    (h : DataW.Trod enc Try.prog W base (fun _ => true) held 50 v d p) : ∃ rows : List (List Int), len = rows.length ∧ len ≤ maxLen ∧ RdQ W a rows ∧ ∀ r ∈ rows, r.length ≤ maxLen := by
  subst hv
  obtain ⟨fuel, hf⟩ := h
  rcases Go.Deep.open_int_rows Try.underlying50 Try.underlying46 Try.underlying3 (by kernel_rfl) (by kernel_rfl) hf with ⟨hcs, _⟩ | ⟨x, l, c, A, L, C, Z, hcs, _, hl, hm, _, hrow⟩
  · simp [Value.cells] at hcs
    obtain ⟨rfl, rfl, rfl⟩ := hcs
    exact ⟨[], rfl, Nat.zero_le _, .inl rfl, fun r hr => by simp at hr⟩
  · simp [Value.cells] at hcs
    obtain ⟨rfl, rfl, rfl⟩ := hcs
    have hlenr : ∀ i, i < len → ((Z i).take (L i)).length = L i := fun i hi => by
      obtain ⟨_, h1, _, h3, _⟩ := hrow i (by omega)
      rw [List.length_take]; omega
    refine ⟨(List.range len).map (fun i => (Z i).take (L i)), by simp, by omega, ?_, fun r hr => ?_⟩
    · by_cases h0 : len = 0
      · subst h0; exact .inl (by simp)
      · obtain ⟨b, off, spot⟩ := x
        have hc0 := (hrow 0 (by omega)).1
        have hspot : spot = none := by simpa [Addr.add] using World.cell?_spot hc0
        subst hspot
        have hadd : ∀ i, (⟨b, off, none⟩ : Addr).add i = ⟨b, off + i, none⟩ := by
          intro i
          by_cases h1 : i = 0 <;> simp [Addr.add, h1]
        have hb : b < W.heap.size := by rw [hadd] at hc0; exact World.block_lt_of_cell? _ _ hc0
        refine .inr ⟨b, off, rfl, hb, fun i hi => ?_⟩
        simp at hi
        obtain ⟨h1, h2, h3, h4, h5, h6, h7⟩ := hrow i (by omega)
        simp only [List.getElem_map, List.getElem_range]
        rw [hlenr i hi]
        rw [hadd] at h1
        refine ⟨A i, C i, h1, ?_⟩
        have hR : IsRow .i64 W (A i) (L i) (C i) (Z i) := by
          cases hA : A i with
          | none =>
            have e := h6 hA
            exact .inl ⟨rfl, by omega, e, List.length_eq_zero_iff.1 (by omega)⟩
          | some y =>
            exact .inr ⟨y, rfl, h2, h3, h4, fun j hj => (h7 y hA).2 j (by omega), h5⟩
        exact (rd_of hR).1
    · simp at hr
      obtain ⟨i, hi, rfl⟩ := hr
      obtain ⟨_, h2, h3, _⟩ := hrow i (by omega)
      rw [hlenr i hi]; omega

def sumQ (rows : List (List Int)) : Nat := (rows.map List.length).sum
theorem sumQ_take {rows : List (List Int)} {k : Nat} (h : k < rows.length) : sumQ (rows.take (k + 1)) = sumQ (rows.take k) + rows[k].length := by
  rw [take_snocQ h]
  simp only [sumQ, List.map_append, List.map_cons, List.map_nil, List.sum_append, List.sum_cons, List.sum_nil]
  omega
theorem sumQ_row {rows : List (List Int)} : ∀ r ∈ rows, r.length ≤ sumQ rows := by
  induction rows with
  | nil => intro r hr; simp at hr
  | cons a rows ih =>
    intro r hr
    simp only [sumQ, List.map_cons, List.sum_cons] at *
    rcases List.mem_cons.1 hr with rfl | h
    · omega
    · have := ih r h; omega

theorem szInts_any (a : Option Addr) (n cap : Nat) (left : Int) (w : World) (hn : n ≤ maxLen) (h0 : 0 ≤ left) (h1 : left ≤ 1048576) :
    Calls Try.prog 63 #[.slice a n cap, .int .i64 left] w fun e w' => e = .returned (.int .i64 (if (n : Int) ≤ left then left - n else -1)) ∧ w' = w := by
  unfold maxLen at hn
  by_cases h : (n : Int) ≤ left
  · have h2 : ¬ left - (n : Int) < 0 := by omega
    rw [if_pos h]
    clear h
    go_enter Try.func63, Try.ntmps63
    go_wp2
    go_ret
    exact ⟨rfl, rfl⟩
  · have h2 : left - (n : Int) < 0 := by omega
    rw [if_neg h]
    clear h
    go_enter Try.func63, Try.ntmps63
    go_wp2
    go_ret
    exact ⟨rfl, rfl⟩

set_option maxHeartbeats 800000 in
theorem szIntss_any (a : Option Addr) (rows : List (List Int)) (cap : Nat) (left : Int) (w : World) (hn : rows.length ≤ maxLen) (hr : RdQ w a rows) (hrw : ∀ r ∈ rows, r.length ≤ maxLen) (h0 : 0 ≤ left) (h1 : left ≤ 1048576) :
    Calls Try.prog 35 #[.slice a rows.length cap, .int .i64 left] w fun e w' => ∃ r : Int, e = .returned (.int .i64 r) ∧ (0 ≤ r → (rows.length : Int) + sumQ rows ≤ left) ∧ (-1 ≤ r ∧ r ≤ left) ∧ w' = w := by
  unfold maxLen at hn
  have HR : Hid (RdQ w a rows) := hr
  clear hr
  by_cases h : (rows.length : Int) ≤ left
  · have h2 : ¬ left - (rows.length : Int) < 0 := by omega
    go_enter Try.func35, Try.ntmps35
    go_wp2_with fail
    go_loop [1, 5] (fun l i => ∃ (k : Nat) (q : Int), k ≤ rows.length ∧ i = .int .i64 k ∧ l = .int .i64 q ∧ 0 ≤ q ∧ q ≤ left ∧ (rows.length : Int) + sumQ (rows.take k) + q = left) (fun _ i => rows.length - (intOf i).toNat)
    case atStart => exact ⟨0, left - rows.length, Nat.zero_le _, rfl, by go_num, by omega, by omega, by simp [sumQ]; omega⟩
    case round =>
      obtain ⟨k, q, hk, rfl, rfl, hq0, hq1, hqs⟩ := hrel
      by_cases hk' : k < rows.length
      · obtain ⟨b, off, ai, ci, rfl, c1, hrd⟩ := RdQ.get HR.out hk'
        have hki : (k : Int) < (rows.length : Int) := by omega
        have hki0 : (0 : Int) ≤ (k : Int) := by omega
        have hrl := hrw rows[k] (List.getElem_mem hk')
        have HT := sumQ_take hk'
        have C := szInts_any ai rows[k].length ci q w hrl hq0 (by omega)
        unfold maxLen at hrl
        have HT2 : Hid (sumQ (rows.take (k + 1)) = sumQ (rows.take k) + rows[k].length) := HT
        clear HT hrd
        generalize rows[k].length = m at C c1 hrl HT2
        by_cases hm : (m : Int) ≤ q
        · rw [if_pos hm] at C
          have hm2 : ¬ q - (m : Int) < 0 := by omega
          go_wp2_with (go_at_call 63; refine C.mono ?_; rintro e w2 ⟨rfl, hw⟩; subst w2; clear C)
          go_round
          case rel => exact ⟨k + 1, q - m, by omega, by go_num, rfl, by omega, by omega, by rw [HT2.out]; omega⟩
          case measure => simp [intOf]; omega
        · rw [if_neg hm] at C
          go_wp2_with (go_at_call 63; refine C.mono ?_; rintro e w2 ⟨rfl, hw⟩; subst w2; clear C)
          go_ret
          exact ⟨-1, rfl, fun h => by omega, ⟨by omega, by omega⟩, rfl⟩
      · have hki : ¬ (k : Int) < (rows.length : Int) := by omega
        have e : rows.take k = rows := List.take_of_length_le (by omega)
        rw [e] at hqs
        have HQ : Hid _ := hqs
        clear hqs e
        go_wp2_with fail
        go_ret
        exact ⟨q, rfl, fun _ => by have := HQ.out; omega, ⟨by omega, by omega⟩, rfl⟩
  · have h2 : left - (rows.length : Int) < 0 := by omega
    go_enter Try.func35, Try.ntmps35
    go_wp2_with fail
    go_ret
    exact ⟨-1, rfl, fun h => by omega, ⟨by omega, by omega⟩, rfl⟩

set_option maxHeartbeats 800000 in
theorem eqIntss_same (a a' : Option Addr) (rows : List (List Int)) (cap cap' : Nat) (w : World) (hr : RdQ w a rows) (hr' : RdQ w a' rows) (hl : rows.length ≤ 1048577) (hl2 : ∀ r ∈ rows, r.length ≤ 1048577) :
    Calls Try.prog 31 #[.slice a rows.length cap, .slice a' rows.length cap'] w fun e w' => e = .returned (.bool true) ∧ Below w.heap.size w w' := by
  have HR : Hid (RdQ w a rows) := hr
  have HR' : Hid (RdQ w a' rows) := hr'
  clear hr hr'
  go_enter Try.func31, Try.ntmps31
  go_wp2_with fail
  go_loopw [5] (fun i wr => ∃ k : Nat, k ≤ rows.length ∧ i = .int .i64 k ∧ Below w.heap.size w wr) (fun i _ => rows.length - (intOf i).toNat)
  case atStart => exact ⟨0, Nat.zero_le _, rfl, Below.refl _ _⟩
  case round =>
    obtain ⟨k, hk, rfl, hb⟩ := hrel
    by_cases hk' : k < rows.length
    · obtain ⟨b, off, ai, ci, rfl, c0, hrd⟩ := RdQ.get HR.out hk'
      obtain ⟨b', off', ai', ci', rfl, c0', hrd'⟩ := RdQ.get HR'.out hk'
      have c1 := keepC hb c0
      have c1' := keepC hb c0'
      have hki : (k : Int) < (rows.length : Int) := by omega
      have hki0 : (0 : Int) ≤ (k : Int) := by omega
      have hlr := hl2 rows[k] (List.getElem_mem hk')
      have C := fun (W' : World) (h : Below w.heap.size w W') => eqInts_any ai ai' rows[k] rows[k] _ ci _ ci' W' rfl rfl (hrd.below h) (hrd'.below h) hlr hlr
      rw [eqB_self] at C
      clear c0 c0' hrd hrd' hlr
      generalize rows[k].length = m at c1 c1' C
      go_wp2_with fail
      go_region_with (go_at_call 26; refine (C _ ?_).mono ?_; (repeat (first | exact hb | refine Below.drew ?_)); rintro e w2 ⟨rfl, q2, rfl⟩; have hb2 := below_drewN (Below.drew hb) q2; clear C)
      all_goals go_wp2_with fail
      all_goals
        go_roundw
        case rel => exact ⟨k + 1, by omega, by go_num, by first | exact hb2 | exact below_drewN hb _⟩
        case measure => simp [intOf]; omega
    · have hki : ¬ (k : Int) < (rows.length : Int) := by omega
      go_wp2_with fail
      go_ret
      exact ⟨rfl, hb⟩

/-- The cells of a list of lists, each of whose rows has a block to itself. -/
def cellsQ (L : List Nat) (rows : List (List Int)) : List Value := List.zipWith (fun a r => Value.slice (some ⟨a, 0, none⟩) r.length r.length) L rows
theorem cellsQ_len {L : List Nat} {rows : List (List Int)} (h : L.length ≤ rows.length) : (cellsQ L rows).length = L.length := by simp [cellsQ]; omega
theorem cellsQ_snoc {L : List Nat} {rows : List (List Int)} {k x : Nat} (hL : L.length = k) (hk : k < rows.length) : cellsQ (L ++ [x]) rows = cellsQ L rows ++ [Value.slice (some ⟨x, 0, none⟩) rows[k].length rows[k].length] := by
  subst hL
  unfold cellsQ
  apply List.ext_getElem
  · simp; omega
  · intro i h1 h2
    simp only [List.length_zipWith, List.length_append, List.length_cons, List.length_nil] at h1
    rw [List.getElem_append]
    simp only [List.getElem_zipWith, List.length_zipWith]
    split
    · rename_i h3
      rw [List.getElem_append_left (by omega)]
    · rename_i h3
      have e : i = L.length := by omega
      subst e
      simp
theorem cellsQ_get {L : List Nat} {rows : List (List Int)} {i : Nat} (hi : i < L.length) (hr : i < rows.length) : (cellsQ L rows)[i]? = some (Value.slice (some ⟨L[i], 0, none⟩) rows[i].length rows[i].length) := by
  unfold cellsQ
  rw [List.getElem?_eq_getElem (by simp; omega)]
  simp

/-- The rows ahead of k lie in blocks of their own, from lo on, none of them g. -/
structure OwnQ (w : World) (lo g : Nat) (L : List Nat) (rows : List (List Int)) : Prop where
  own : ∀ i, (h : i < L.length) → (h' : i < rows.length) → w.ownsRow lo 3 1 (.slice (some ⟨L[i], 0, none⟩) rows[i].length rows[i].length) rows[i].length (ints rows[i])
  lt : ∀ x ∈ L, lo ≤ x ∧ x < w.heap.size ∧ x ≠ g
  nd : L.Nodup
theorem OwnQ.on {w w' : World} {lo g : Nat} {L : List Nat} {rows : List (List Int)} (h : OwnQ w lo g L rows) (hb : Below w.heap.size w w') : OwnQ w' lo g L rows :=
  ⟨fun i h1 h2 => own_below (h.own i h1 h2) hb, fun x hx => ⟨(h.lt x hx).1, Nat.lt_of_lt_of_le (h.lt x hx).2.1 hb.size, (h.lt x hx).2.2⟩, h.nd⟩
end Go.Proofs.Ytcbafmohmoicnab
