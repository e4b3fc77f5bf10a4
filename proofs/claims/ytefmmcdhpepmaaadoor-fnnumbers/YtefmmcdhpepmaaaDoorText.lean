/- Contracts of the specification's and the program's NumsText: digits, a byte 44 between. Conditions: at most 1048577 numbers; the library's table of powers of ten holds what its own text lays. -/
import Derived.Test.YtefmmcdhpepmaaaDoorInts
import Derived.Test.YtefmmcdhpepmaaaDoorDigits
import Derived.Test.YtefmmcdhpepmaaaDoorBuilder
namespace Go.Proofs.YtefmmcdhpepmaaaDoor
open Go.RowKit

/-- The text of the first k numbers. -/
def txtK (zs : List Int) : Nat → List UInt8
  | 0 => []
  | k + 1 => txtK zs k ++ (if k = 0 then [] else [44]) ++ Lib.itoa (zs[k]?.getD 0)
def isInt (z : Int) : Prop := -9223372036854775808 ≤ z ∧ z ≤ 9223372036854775807
theorem txt_first (zs : List Int) (k : Nat) (h : k < zs.length) (h0 : k = 0) : txtK zs (k + 1) = txtK zs k ++ Lib.itoa zs[k] := by
  rw [txtK, if_pos h0]; simp [h]
theorem txt_next (zs : List Int) (k : Nat) (h : k < zs.length) (h0 : ¬ k = 0) : txtK zs (k + 1) = txtK zs k ++ [44] ++ Lib.itoa zs[k] := by
  rw [txtK, if_neg h0]; simp [h]
theorem txt_len (zs : List Int) (hi : ∀ z ∈ zs, isInt z) : ∀ k, k ≤ zs.length → (txtK zs k).length ≤ 22 * k
  | 0, _ => by simp [txtK]
  | k + 1, h => by
    have ih := txt_len zs hi k (by omega)
    have hz := hi zs[k] (List.getElem_mem (by omega))
    have hl := itoa_len hz.1 hz.2
    rw [txtK]
    have e : zs[k]?.getD 0 = zs[k] := by simp [show k < zs.length by omega]
    rw [e, List.length_append, List.length_append]
    split <;> simp <;> omega
theorem cat_any (a b : List UInt8) : (⟨a.toArray⟩ : ByteArray) ++ ⟨b.toArray⟩ = ⟨(a ++ b).toArray⟩ := by
  apply ByteArray.ext
  simp

set_option maxHeartbeats 800000 in
theorem specText_any (a : Option Addr) (zs : List Int) (n cap : Nat) (w : World) (hn : n = zs.length) (hr : Rd w a zs) (hl : zs.length ≤ 1048577) (hi : ∀ z ∈ zs, isInt z) :
    Calls Tryd.prog 20 #[.slice a n cap] w fun e w' => e = .returned (.string ⟨(txtK zs zs.length).toArray⟩) ∧ Below w.heap.size w w' := by
  subst hn
  rcases hr with rfl | ⟨b, off, rfl, hlt, hc⟩
  · go_enter Tryd.func20, Tryd.ntmps20
    go_wp2
    refine wp_loop_rounds 1 ?_
    rw [rounds_succ]
    go_wp2
    go_ret
    exact ⟨rfl, Below.refl _ _⟩
  · go_enter Tryd.func20, Tryd.ntmps20
    go_wp2
    go_loopw [3, 4] (fun t i wr => ∃ k : Nat, k ≤ zs.length ∧ i = .int .i64 k ∧ t = .string ⟨(txtK zs k).toArray⟩ ∧ Below w.heap.size w wr) (fun _ i _ => zs.length - (intOf i).toNat)
    case atStart => exact ⟨0, Nat.zero_le _, rfl, rfl, Below.refl _ _⟩
    case round =>
      obtain ⟨k, hk, rfl, rfl, hb⟩ := hrel
      have htl := txt_len zs hi k hk
      by_cases hk' : k < zs.length
      · have hck : wr.cell? ⟨b, off + k, none⟩ = some (.int .i64 zs[k]) := by
          have := (hb.cell (p := ⟨b, off + k, none⟩) hlt).trans (hc k hk')
          simpa [hk'] using this
        have hz := hi zs[k] (List.getElem_mem hk')
        have hzl := itoa_len hz.1 hz.2
        have S := specDigits_any zs[k] wr hz.1 hz.2
        by_cases hk0 : k = 0
        · have T1 : Hid (txtK zs (k + 1) = txtK zs k ++ Lib.itoa zs[k]) := txt_first zs k hk' hk0
          have hk1 : ¬ (0 : Int) < (k : Int) := by omega
          clear hc hi hz hk0
          go_wp2_with (go_at_call 16; refine S.mono ?_; rintro e w1 ⟨rfl, hb1⟩; clear S; have hB := hb.trans (hb1.mono hb.size); clear hb hb1)
          go_roundw
          case rel => exact ⟨k + 1, by omega, by go_num, by rw [cat_any, T1.out], hB⟩
          case measure => simp [intOf]; omega
        · have T1 : Hid (txtK zs (k + 1) = txtK zs k ++ [44] ++ Lib.itoa zs[k]) := txt_next zs k hk' hk0
          have hk1 : (0 : Int) < (k : Int) := by omega
          clear hc hi hz hk0
          go_wp2_with (go_at_call 16; refine S.mono ?_; rintro e w1 ⟨rfl, hb1⟩; clear S; have hB := hb.trans (hb1.mono hb.size); clear hb hb1)
          go_roundw
          case rel => exact ⟨k + 1, by omega, by go_num, by rw [show (⟨#[44]⟩ : ByteArray) = ⟨[44].toArray⟩ from rfl, cat_any, cat_any, T1.out], hB⟩
          case measure => simp [intOf]; omega
      · have e : k = zs.length := by omega
        go_wp2
        go_ret
        exact ⟨by rw [← e]; rfl, hb⟩

theorem isBuilder_below {T e : TypeId} {B b : Nat} {bs : List Value} {w w' : World} (h : Lib.IsBuilder T e B b bs w) (hb : Below w.heap.size w w') : Lib.IsBuilder T e B b bs w' := by
  have at_below : ∀ p, Lib.BuilderAt T e B b p bs w → Lib.BuilderAt T e B b p bs w' := by
    intro p hp
    have hlt := hp.lt
    obtain ⟨hB, v, hbk, hown, hne⟩ := hp
    refine ⟨hB, v, by rw [hb.block b hlt]; exact hbk, ?_, hne⟩
    have hl := hown.lt
    obtain ⟨h1, h2⟩ := hown
    refine ⟨h1, ?_⟩
    rcases h2 with h2 | ⟨g, cap, cur, rfl, hg, hh, r⟩
    · exact .inl h2
    · exact .inr ⟨g, cap, cur, rfl, hg, by rw [hb.block g (hl g rfl).2]; exact hh, r⟩
  rcases h with h | h
  · exact .inl (at_below _ h)
  · exact .inr (at_below _ h)
theorem size_list (l : List UInt8) : (⟨l.toArray⟩ : ByteArray).size = l.length := by simp [ByteArray.size]
theorem strCells_bytes (l : List UInt8) : Lib.strCells ⟨l.toArray⟩ = Lib.byteCells l := by
  rfl

set_option maxHeartbeats 1600000 in
theorem text_any (b off : Nat) (zs : List Int) (n cap : Nat) (w : World) (hn : n = zs.length) (hlt : b < w.heap.size) (hc : ∀ i, i < zs.length → w.cell? ⟨b, off + i, none⟩ = some (.int .i64 (zs[i]?.getD 0))) (hl : zs.length ≤ 1048577) (hi : ∀ z ∈ zs, isInt z)
    (htab : Lib.TabIs Tryd.prog w "internal/strconv.uint64pow10" .u64 Lib.pow10Tab) :
    Calls Tryd.prog 19 #[.slice (some ⟨b, off, none⟩) n cap] w fun e w' => e = .returned (.string ⟨(txtK zs zs.length).toArray⟩) ∧ Below w.heap.size w w' := by
  subst hn
  go_enter Tryd.func19, Tryd.ntmps19
  go_wp2_with go_in
  go_loopw [12] (fun i wr => ∃ k : Nat, k ≤ zs.length ∧ i = .int .i64 k ∧ Lib.IsBuilder 60 5 w.heap.size w.heap.size (Lib.byteCells (txtK zs k)) wr ∧ Below w.heap.size w wr) (fun i _ => zs.length - (intOf i).toNat)
  case atStart => exact ⟨0, Nat.zero_le _, rfl, Lib.fresh_isBuilder 60 5 w, (Below.refl _ _).alloc (Nat.le_refl _) _⟩
  case round =>
    obtain ⟨k, hk, rfl, hB, hb⟩ := hrel
    have htl := txt_len zs hi k hk
    by_cases hk' : k < zs.length
    · have hck : wr.cell? ⟨b, off + k, none⟩ = some (.int .i64 zs[k]) := by
        have := (hb.cell (p := ⟨b, off + k, none⟩) hlt).trans (hc k hk')
        simpa [hk'] using this
      have hz := hi zs[k] (List.getElem_mem hk')
      have hzl := itoa_len hz.1 hz.2
      by_cases hk0 : k = 0
      · have T1 : Hid (txtK zs (k + 1) = txtK zs k ++ Lib.itoa zs[k]) := txt_first zs k hk' hk0
        have hk1 : ¬ (0 : Int) < (k : Int) := by omega
        have hw1 : (Lib.byteCells (txtK zs k)).length + (⟨(Lib.itoa zs[k]).toArray⟩ : ByteArray).size ≤ 140737488355328 := by rw [Lib.byteCells_length, size_list]; omega
        have D := implDigits_any zs[k] wr hz.1 hz.2 (tab_below gPow (by decide) htab hb)
        clear hc hi hz hk0 htab
        go_wp2_with (go_at_call 15; refine D.mono ?_; rintro e w1 ⟨rfl, hb1⟩; clear D; have hB1 := isBuilder_below hB hb1; have hbb := hb.trans (hb1.mono hb.size); clear hB hb hb1)
        go_wp2_with (go_at_call 39; refine (write_any _ _ _ _ _ hB1 hw1 hbb.size).mono ?_; rintro e w2 ⟨rfl, hB2, hb2⟩; clear hB1)
        go_roundw
        case rel => exact ⟨k + 1, by omega, by go_num, .inr (by rw [T1.out, Lib.byteCells_append]; exact hB2), hbb.trans hb2⟩
        case measure => simp [intOf]; omega
      · have T1 : Hid (txtK zs (k + 1) = txtK zs k ++ [44] ++ Lib.itoa zs[k]) := txt_next zs k hk' hk0
        have hk1 : (0 : Int) < (k : Int) := by omega
        have hw0 : (Lib.byteCells (txtK zs k)).length + (⟨#[44]⟩ : ByteArray).size ≤ 140737488355328 := by rw [Lib.byteCells_length]; show _ + 1 ≤ _; omega
        have hw1 : (Lib.byteCells (txtK zs k) ++ Lib.strCells ⟨#[44]⟩).length + (⟨(Lib.itoa zs[k]).toArray⟩ : ByteArray).size ≤ 140737488355328 := by rw [List.length_append, Lib.byteCells_length, size_list]; show _ + 1 + _ ≤ _; omega
        obtain ⟨hz1, hz2⟩ := hz
        clear hc hi hk0
        go_wp2_with (go_at_call 39; refine (write_any _ _ _ _ _ hB hw0 hb.size).mono ?_; rintro e w1 ⟨rfl, hB1, hb1⟩; clear hB hw0; have hbb := hb.trans hb1; clear hb hb1 hck)
        go_wp2_with (go_at_call 15; refine (implDigits_any zs[k] _ hz1 hz2 (tab_below gPow (by decide) htab hbb)).mono ?_; rintro e w2 ⟨rfl, hb2⟩; clear htab; have hB2 := isBuilder_below (.inr hB1) hb2; have hb3 := hbb.trans (hb2.mono hbb.size); clear hB1 hbb hb2)
        go_wp2_with (go_at_call 39; refine (write_any _ _ _ _ _ hB2 hw1 hb3.size).mono ?_; rintro e w3 ⟨rfl, hB3, hb4⟩; clear hB2)
        go_roundw
        case rel => exact ⟨k + 1, by omega, by go_num, .inr (by rw [T1.out, Lib.byteCells_append, Lib.byteCells_append]; exact hB3), hb3.trans hb4⟩
        case measure => simp [intOf]; omega
    · have e : k = zs.length := by omega
      have E : Hid (k = zs.length) := e
      have S := Tryd.Builder_String_any w.heap.size w.heap.size (txtK zs k) wr hB hb.size
      clear hc hi e htab hB
      go_wp2_with (go_at_call 40; refine S.mono ?_; rintro e w2 ⟨rfl, hb2⟩; clear S)
      go_ret
      refine ⟨?_, hb.trans hb2⟩
      rw [← E.out]; rfl
end Go.Proofs.YtefmmcdhpepmaaaDoor
