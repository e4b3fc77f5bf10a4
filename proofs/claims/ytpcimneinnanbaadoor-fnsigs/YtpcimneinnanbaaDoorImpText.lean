/- Contract of the program's SigText. Conditions: at most 1048577 functions and bytes in all; the library's table of powers of ten holds what its own text lays. -/
import Derived.Test.YtpcimneinnanbaaDoorSymText
import Derived.Test.YtpcimneinnanbaaDoorNums
namespace Go.Proofs.YtpcimneinnanbaaDoor
open Go.RowKit Go.Maps

theorem isBuilder_below {T e : TypeId} {B b : Nat} {bs : List Value} {w w' : World} (h : Lib.IsBuilder T e B b bs w) (hb : Below w.heap.size w w') : Lib.IsBuilder T e B b bs w' := by
  have at_below : ∀ p, Lib.BuilderAt T e B b p bs w → Lib.BuilderAt T e B b p bs w' := by
    intro p hp
    have hlt := hp.lt
    obtain ⟨hB, v, hbk, hown, hne⟩ := hp
    refine ⟨hB, v, by rw [hb.block b hlt]; exact hbk, ?_, hne⟩
    have hl := hown.lt
    obtain ⟨h1, h2⟩ := hown
    refine ⟨h1, ?_⟩
    rcases h2 with h2 | ⟨g, cap, cur, rfl, hg, hh, r⟩
    · exact .inl h2
    · exact .inr ⟨g, cap, cur, rfl, hg, by rw [hb.block g (hl g rfl).2]; exact hh, r⟩
  rcases h with h | h
  · exact .inl (at_below _ h)
  · exact .inr (at_below _ h)
theorem size_list (l : List UInt8) : (⟨l.toArray⟩ : ByteArray).size = l.length := by simp [ByteArray.size]

theorem symText_len {s : SymD} (hn : s.name.size ≤ 1048577) (hz : (Lib.itoa s.ar).length ≤ 21) : (symText s).length ≤ 1048677 := by
  have hsz : s.name.data.toList.length = s.name.size := rfl
  simp only [symText, List.length_append, List.length_cons, List.length_nil, hsz]
  split <;> simp <;> omega

/-- What the closure tells of number k. -/
theorem tell_any (S : Nat) (a : Option Addr) (ss : List SymD) (cap k : Nat) (w : World) (hS : w.cell? ⟨S, 0, none⟩ = some (.slice a ss.length cap)) (hr : RdS w a ss) (hk : k < ss.length) (hn : ss[k].name.size ≤ 1048577) (hz : isI ss[k].ar)
    (htab : Lib.TabIs Tryd.prog w "internal/strconv.uint64pow10" .u64 Lib.pow10Tab) :
    Calls Tryd.prog 31 #[.int .i64 k, .pointer (some ⟨S, 0, none⟩)] w fun e w' => e = .returned (.string ⟨(symText ss[k]).toArray⟩) ∧ Below w.heap.size w w' := by
  have T := symText_any ss[k] w hn hz htab
  have hk' : (k : Int) < (ss.length : Int) := by omega
  rcases hr with rfl | ⟨b, off, rfl, hlt, hc⟩
  · simp at hk
  · obtain ⟨c0, c1, c2⟩ := hc k hk
    clear hc htab hz
    go_enter Tryd.func31, Tryd.ntmps31
    go_wp2_with (go_at_call 32; refine T.mono ?_; rintro e w1 ⟨rfl, hb1⟩)
    go_ret
    exact ⟨rfl, hb1⟩

set_option maxHeartbeats 1600000 in
theorem text_any (S : Nat) (a : Option Addr) (ss : List SymD) (cap : Nat) (v : Value) (base : Nat) (w : World) (hS : w.cell? ⟨S, 0, none⟩ = some (.slice a ss.length cap)) (hr : RdS w a ss) (hl : ss.length ≤ 1048577) (hb : bytesOf ss ≤ 1048577) (hi : ∀ s ∈ ss, isI s.ar)
    (hv : w.ownsRow base 3 1 v ss.length (ints (upTo ss.length)))
    (htab : Lib.TabIs Tryd.prog w "internal/strconv.uint64pow10" .u64 Lib.pow10Tab) :
    Calls Tryd.prog 34 #[v, .func (Fn.func 31) #[] #[.pointer (some ⟨S, 0, none⟩)], .string ⟨#[32]⟩] w fun e w' => e = .returned (.string ⟨(sigTextK ss ss.length).toArray⟩) ∧ Below w.heap.size w w' := by
  rcases hv.2 with ⟨rfl, h0⟩ | ⟨g, cv, cur, rfl, hg, hgb, _⟩
  · have hz : ss = [] := List.length_eq_zero_iff.1 h0
    subst hz
    have S0 := Tryd.Builder_String_any w.heap.size w.heap.size [] (w.alloc (.cells #[.pointer none, .slice none 0 0] 68)) (Lib.fresh_isBuilder 68 5 w) (by simp)
    have hb0 := (Below.refl w.heap.size w).alloc (Nat.le_refl _) (.cells #[.pointer none, .slice none 0 0] 68)
    clear hi hv htab
    go_enter Tryd.func34, Tryd.ntmps34
    go_wp2
    refine wp_loop_rounds 1 ?_
    rw [rounds_succ]
    go_wp2_with (go_at_call 45; refine S0.mono ?_; rintro e w2 ⟨rfl, hb2⟩; clear S0)
    go_ret
    exact ⟨rfl, hb0.trans hb2⟩
  have hSlt : S < w.heap.size := World.block_lt_of_cell? _ _ hS
  have hglt : g < w.heap.size := (Array.getElem?_eq_some_iff.1 hgb).1
  have hcell : ∀ k, k < ss.length → w.cell? ⟨g, k, none⟩ = some (.int .i64 k) := fun k hk => by
    rw [hv.cellAt k (by simpa using hk)]
    simp [ints, upTo, hk]
  have TL := fun (k : Nat) (hk : k < ss.length) (w' : World) (h : Below w.heap.size w w') => tell_any S a ss cap k w' ((h.cell (p := ⟨S, 0, none⟩) hSlt).trans hS) (hr.below h) hk (by have h1 := bytesOf_next hk; have h2 := bytesOf_take ss (k + 1); omega) (hi _ (List.getElem_mem hk)) (tab_below gPow (by decide) htab h)
  clear hv hgb hg htab
  go_enter Tryd.func34, Tryd.ntmps34
  go_wp2
  go_loopw [12] (fun i wr => ∃ k : Nat, k ≤ ss.length ∧ i = .int .i64 k ∧ Lib.IsBuilder 68 5 w.heap.size w.heap.size (Lib.byteCells (sigTextK ss k)) wr ∧ Below w.heap.size w wr) (fun i _ => ss.length - (intOf i).toNat)
  case atStart => exact ⟨0, Nat.zero_le _, rfl, Lib.fresh_isBuilder 68 5 w, (Below.refl _ _).alloc (Nat.le_refl _) _⟩
  case round =>
    obtain ⟨k, hk, rfl, hB, hbw⟩ := hrel
    have htl := sigText_len hi k hk
    have htk : bytesOf (ss.take k) ≤ 1048577 := by have := bytesOf_take ss k; omega
    have htl2 : (sigTextK ss k).length ≤ 100000000 := by omega
    by_cases hk' : k < ss.length
    · have hck : wr.cell? ⟨g, k, none⟩ = some (.int .i64 k) := (hbw.cell (p := ⟨g, k, none⟩) hglt).trans (hcell k hk')
      have hz := hi ss[k] (List.getElem_mem hk')
      have hzl := itoa_len hz.1 hz.2
      have hns : ss[k].name.size ≤ 1048577 := by have h1 := bytesOf_next hk'; have h2 := bytesOf_take ss (k + 1); omega
      have hsl : (symText ss[k]).length ≤ 1048677 := symText_len hns hzl
      have T1 : Hid (sigTextK ss (k + 1) = sigTextK ss k ++ (if k = 0 then [] else [32]) ++ symText ss[k]) := sigText_next hk'
      have D := TL k hk'
      clear hcell hi hz hb htk htl TL
      by_cases hk0 : k = 0
      · have T2 : Hid (sigTextK ss (k + 1) = sigTextK ss k ++ symText ss[k]) := by have h := T1.out; rw [if_pos hk0, List.append_nil] at h; exact h
        have hk1 : ¬ (0 : Int) < (k : Int) := by omega
        have hw1 : (Lib.byteCells (sigTextK ss k)).length + (⟨(symText ss[k]).toArray⟩ : ByteArray).size ≤ 140737488355328 := by rw [Lib.byteCells_length, size_list]; omega
        clear hk0 T1
        go_wp2_with (go_at_call 31; go_must (refine (D _ hbw).mono ?_; rintro e w1 ⟨rfl, hb1⟩; clear D; have hB1 := isBuilder_below hB hb1; have hbb := hbw.trans (hb1.mono hbw.size); clear hB hbw hb1))
        go_wp2_with (go_at_call 44; refine (write_any _ _ _ _ _ hB1 hw1 hbb.size).mono ?_; rintro e w2 ⟨rfl, hB2, hb2⟩; clear hB1)
        go_roundw
        case rel => exact ⟨k + 1, by omega, by go_num, .inr (by rw [T2.out, Lib.byteCells_append]; exact hB2), hbb.trans hb2⟩
        case measure => simp [intOf]; omega
      · have T2 : Hid (sigTextK ss (k + 1) = sigTextK ss k ++ [32] ++ symText ss[k]) := by have h := T1.out; rw [if_neg hk0] at h; exact h
        have hk1 : (0 : Int) < (k : Int) := by omega
        have hw0 : (Lib.byteCells (sigTextK ss k)).length + (⟨#[32]⟩ : ByteArray).size ≤ 140737488355328 := by rw [Lib.byteCells_length]; show _ + 1 ≤ _; omega
        have hw1 : (Lib.byteCells (sigTextK ss k) ++ Lib.strCells ⟨#[32]⟩).length + (⟨(symText ss[k]).toArray⟩ : ByteArray).size ≤ 140737488355328 := by rw [List.length_append, Lib.byteCells_length, size_list]; show _ + 1 + _ ≤ _; omega
        clear hk0 T1
        go_wp2_with (go_at_call 44; refine (write_any _ _ _ _ _ hB hw0 hbw.size).mono ?_; rintro e w1 ⟨rfl, hB1, hb1⟩; clear hB hw0; have hbb := hbw.trans hb1; clear hbw hb1 hck)
        go_wp2_with (go_at_call 31; refine (D _ hbb).mono ?_; rintro e w2 ⟨rfl, hb2⟩; clear D; have hB2 := isBuilder_below (.inr hB1) hb2; have hb3 := hbb.trans (hb2.mono hbb.size); clear hB1 hbb hb2)
        go_wp2_with (go_at_call 44; refine (write_any _ _ _ _ _ hB2 hw1 hb3.size).mono ?_; rintro e w3 ⟨rfl, hB3, hb4⟩; clear hB2)
        go_roundw
        case rel => exact ⟨k + 1, by omega, by go_num, .inr (by rw [T2.out, Lib.byteCells_append, Lib.byteCells_append]; exact hB3), hb3.trans hb4⟩
        case measure => simp [intOf]; omega
    · have E : Hid (k = ss.length) := (by omega : k = ss.length)
      have S1 := Tryd.Builder_String_any w.heap.size w.heap.size (sigTextK ss k) wr hB hbw.size
      clear hcell hi TL hB
      go_wp2_with (go_at_call 45; refine S1.mono ?_; rintro e w2 ⟨rfl, hb2⟩; clear S1)
      go_ret
      refine ⟨?_, hbw.trans hb2⟩
      rw [← E.out]; rfl
end Go.Proofs.YtpcimneinnanbaaDoor
