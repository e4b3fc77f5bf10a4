/- Contracts of the specification's and the program's Number: the number of which a text is the digits, or 0 and false. Conditions: the library's table and its two errors hold what their own text lays. -/
import Derived.Test.YtefmmcdhpepmaaaDoorDigits
import Derived.Test.YtefmmcdhpepmaaaDoorPlain2
import Derived.Lib.SmallJoins
namespace Go.Proofs.YtefmmcdhpepmaaaDoor
open Go.RowKit

theorem ret_pair {a b : Int} {p q : Bool} (h : a = b) (h' : p = q) : Ending.returned (.tuple #[.int .i64 a, .bool p]) = .returned (.tuple #[.int .i64 b, .bool q]) := by rw [h, h']
theorem take_next (s : ByteArray) (k : Nat) (h : k < s.size) : s.data.toList.take (k + 1) = s.data.toList.take k ++ [s[k]] := by
  rw [List.take_succ_eq_append_getElem (by simpa using h)]; rfl
theorem val_next (s : ByteArray) (k : Nat) (h : k < s.size) : val (s.data.toList.take (k + 1)) = 10 * val (s.data.toList.take k) + (s[k].toNat - 48) := by
  rw [take_next s k h, val_snoc]
theorem bad_len {l : List UInt8} (h : l.length < 1 ∨ 6 < l.length) : goodB l = false := by
  cases e : goodB l with
  | false => rfl
  | true => simp only [goodB, Bool.and_eq_true, decide_eq_true_eq] at e; omega
theorem bad_num {l : List UInt8} (h : goodB l = false) : numV l = 0 := by simp [numV, h]
theorem good_num {l : List UInt8} (h : goodB l = true) : numV l = (val l : Int) := by simp [numV, h]

theorem bad_at (s : ByteArray) (k : Nat) (h : k < s.size) (hd : (s[k].toNat : Int) < 48 ∨ (57 : Int) < (s[k].toNat : Int)) : goodB s.data.toList = false := by
  cases e : goodB s.data.toList with
  | false => rfl
  | true =>
    simp only [goodB, Bool.and_eq_true, decide_eq_true_eq] at e
    have := List.all_eq_true.1 e.1.2 s[k] (List.getElem_mem (l := s.data.toList) (n := k) (by simpa using h))
    simp [isDig] at this
    omega
theorem val_take_le (s : ByteArray) (k : Nat) (hk : k ≤ s.size) (hs : s.size ≤ 6) (h : (s.data.toList.take k).all isDig = true) : val (s.data.toList.take k) ≤ 999999 := by
  have h1 := val_lt _ h
  have h2 : (s.data.toList.take k).length ≤ 6 := by
    have : s.data.toList.length = s.size := rfl
    rw [List.length_take]; omega
  have h3 : 10 ^ (s.data.toList.take k).length ≤ 10 ^ 6 := Nat.pow_le_pow_right (by omega) h2
  have e6 : (10 : Nat) ^ 6 = 1000000 := rfl
  omega
theorem all_next (s : ByteArray) (k : Nat) (h : k < s.size) (ha : (s.data.toList.take k).all isDig = true) (h1 : (48 : Int) ≤ (s[k].toNat : Int)) (h2 : (s[k].toNat : Int) ≤ 57) : (s.data.toList.take (k + 1)).all isDig = true := by
  rw [take_next s k h, List.all_append, ha]
  simp [isDig]
  omega
/-- How the two texts are held against each other at the end. -/
theorem good_end (s : ByteArray) (hs1 : 1 ≤ s.size) (hs6 : s.size ≤ 6) (ha : s.data.toList.all isDig = true) : goodB s.data.toList = (Lib.itoa (val s.data.toList : Int) == s.data.toList) := by
  have hsz : s.data.toList.length = s.size := rfl
  rw [goodB, ha, hsz, itoa_pos (by omega), Int.natAbs_natCast]
  simp [hs1, hs6]

set_option maxHeartbeats 800000 in
theorem specNumber_any (s : ByteArray) (w : World) (hs : s.size ≤ maxLen) :
    Calls Tryd.prog 11 #[.string s] w fun e w' => e = .returned (.tuple #[.int .i64 (numV s.data.toList), .bool (goodB s.data.toList)]) ∧ Below w.heap.size w w' := by
  unfold maxLen at hs
  have hsz : s.data.toList.length = s.size := rfl
  by_cases hlen : s.size < 1 ∨ 6 < s.size
  · have hb := bad_len (l := s.data.toList) (by omega)
    have HB : Hid (goodB s.data.toList = false) := hb
    clear hb hsz
    by_cases h1 : s.size < 1
    · have h1' : (s.size : Int) < 1 := by omega
      clear hlen
      go_enter Tryd.func11, Tryd.ntmps11
      go_wp2
      go_ret2
      exact ⟨ret_pair (bad_num HB.out).symm HB.out.symm, Below.refl _ _⟩
    · have h1' : ¬ (s.size : Int) < 1 := by omega
      have h6' : (6 : Int) < (s.size : Int) := by omega
      clear hlen
      go_enter Tryd.func11, Tryd.ntmps11
      go_wp2
      go_ret2
      exact ⟨ret_pair (bad_num HB.out).symm HB.out.symm, Below.refl _ _⟩
  · have h1' : ¬ (s.size : Int) < 1 := by omega
    have h6' : ¬ (6 : Int) < (s.size : Int) := by omega
    have hs6 : s.size ≤ 6 := by omega
    have hs1 : 1 ≤ s.size := by omega
    clear hlen hsz hs
    go_enter Tryd.func11, Tryd.ntmps11
    go_wp2
    go_loop [4, 5] (fun t i => ∃ k : Nat, k ≤ s.size ∧ i = .int .i64 k ∧ t = .int .i64 (val (s.data.toList.take k) : Int) ∧ Hid ((s.data.toList.take k).all isDig = true)) (fun _ i => s.size - (intOf i).toNat)
    case atStart => exact ⟨0, Nat.zero_le _, rfl, rfl, rfl⟩
    case round =>
      obtain ⟨k, hk, rfl, rfl, HA⟩ := hrel
      by_cases hk' : k < s.size
      · have hvb := val_take_le s k hk hs6 HA.out
        have VN : Hid (val (s.data.toList.take (k + 1)) = 10 * val (s.data.toList.take k) + (s[k].toNat - 48)) := val_next s k hk'
        go_wp2
        · go_ret2
          have HB := bad_at s k hk' (by assumption)
          exact ⟨ret_pair (bad_num HB).symm HB.symm, Below.refl _ _⟩
        · have hd : (48 : Int) ≤ (s[k].toNat : Int) ∧ (s[k].toNat : Int) ≤ 57 := by assumption
          go_round
          case rel => exact ⟨k + 1, by omega, by go_num, by rw [VN.out]; congr 1; omega, all_next s k hk' HA.out hd.1 hd.2⟩
          case measure => simp [intOf]; omega
        · go_ret2
          have hd : (s[k].toNat : Int) < 48 := by assumption
          have HB := bad_at s k hk' (.inl hd)
          exact ⟨ret_pair (bad_num HB).symm HB.symm, Below.refl _ _⟩
      · have e : s.data.toList.take k = s.data.toList := List.take_of_length_le (by have : s.data.toList.length = s.size := rfl; omega)
        have hvb := val_take_le s k hk hs6 HA.out
        rw [e] at HA hvb ⊢
        have GE : Hid (goodB s.data.toList = (Lib.itoa (val s.data.toList : Int) == s.data.toList)) := good_end s hs1 hs6 HA.out
        clear e HA
        generalize hv : val s.data.toList = v at hvb GE ⊢
        have HV : Hid (val s.data.toList = v) := hv
        clear hv
        have S := specDigits_any (v : Int) w (by omega) (by omega)
        go_wp2_with (go_at_call 16; refine S.mono ?_; rintro e w1 ⟨rfl, hb1⟩; clear S)
        · go_ret2
          have ht : (!Lib.itoa (v : Int) == s.toList) = true := by assumption
          rw [ByteArray.toList_eq] at ht
          have HB : goodB s.data.toList = false := by rw [GE.out]; simpa using ht
          exact ⟨ret_pair (bad_num HB).symm HB.symm, hb1⟩
        · go_ret2
          have ht : (!Lib.itoa (v : Int) == s.toList) = false := by assumption
          rw [ByteArray.toList_eq] at ht
          have HB : goodB s.data.toList = true := by rw [GE.out]; simpa using ht
          exact ⟨ret_pair (by rw [good_num HB, HV.out]) HB.symm, hb1⟩

theorem gSyn : Tryd.prog.globalNamed "strconv.ErrSyntax" = some 0 := by kernel_rfl
theorem gRan : Tryd.prog.globalNamed "strconv.ErrRange" = some 1 := by kernel_rfl

/-- What is asked of the library's variables: the table of powers of ten, and two errors. -/
structure Vars (w : World) : Prop where
  pow : Lib.TabIs Tryd.prog w "internal/strconv.uint64pow10" .u64 Lib.pow10Tab
  syn : ∃ tp p, w.var? Tryd.prog "strconv.ErrSyntax" = some #[.iface tp p]
  ran : ∃ tp p, w.var? Tryd.prog "strconv.ErrRange" = some #[.iface tp p]
theorem var_lt {w : World} {n : String} {g : Nat} {cs : Array Value} (hg : Tryd.prog.globalNamed n = some g) (h : w.var? Tryd.prog n = some cs) : g < w.heap.size := by
  unfold World.var? at h
  simp only [hg, Option.bind_some] at h
  rcases Nat.lt_or_ge g w.heap.size with h' | h'
  · exact h'
  · simp [Array.getElem?_eq_none h'] at h
theorem Vars.below {w w' : World} (h : Vars w) (hb : Below w.heap.size w w') : Vars w' := by
  obtain ⟨h1, ⟨t2, p2, h2⟩, ⟨t3, p3, h3⟩⟩ := h
  exact ⟨tab_below gPow (by decide) h1 hb, ⟨t2, p2, var?_below hb gSyn (var_lt gSyn h2) h2⟩, ⟨t3, p3, var?_below hb gRan (var_lt gRan h3) h3⟩⟩

set_option maxHeartbeats 800000 in
theorem implNumber_any (s : ByteArray) (w : World) (hs : s.size ≤ 1048576) (hv : Vars w) :
    Calls Tryd.prog 10 #[.string s] w fun e w' => e = .returned (.tuple #[.int .i64 (numV s.data.toList), .bool (goodB s.data.toList)]) ∧ Below w.heap.size w w' := by
  cases ha : Lib.atoiAll s.data.toList with
  | «syntax» =>
    obtain ⟨tp, p, hvar⟩ := hv.syn
    have H := Tryd.strconv_Atoi_syntax_var s (by omega) ha tp p w hvar
    have HB : Hid (goodB s.data.toList = false) := by
      show goodB s.data.toList = false
      cases e : goodB s.data.toList with
      | false => rfl
      | true => rw [atoi_good e] at ha; cases ha
    clear hvar ha hv
    go_enter Tryd.func10, Tryd.ntmps10
    go_wp2_with (go_at_call 28; refine H.mono ?_; rintro e w1 ⟨N, rfl, _, _, hb⟩; clear H)
    go_ret2
    exact ⟨ret_pair (bad_num HB.out).symm HB.out.symm, hb⟩
  | range =>
    obtain ⟨tp, p, hvar⟩ := hv.ran
    have H := Tryd.strconv_Atoi_range_var s (by omega) ha tp p w hvar
    have HB : Hid (goodB s.data.toList = false) := by
      show goodB s.data.toList = false
      cases e : goodB s.data.toList with
      | false => rfl
      | true => rw [atoi_good e] at ha; cases ha
    clear hvar ha hv
    go_enter Tryd.func10, Tryd.ntmps10
    go_wp2_with (go_at_call 28; refine H.mono ?_; rintro e w1 ⟨N, rfl, _, _, hb⟩; clear H)
    go_ret2
    exact ⟨ret_pair (bad_num HB.out).symm HB.out.symm, hb⟩
  | ok v =>
    have H := Tryd.strconv_Atoi_ok s (by omega) v ha w
    have H2 : Calls Tryd.prog 28 #[.string s] w fun e w' => e = .returned (.tuple #[.int .i64 v, .nilIface]) ∧ Below w.heap.size w w' := by
      refine H.mono ?_
      rintro e w' ⟨rfl, h⟩
      refine ⟨rfl, ?_⟩
      rcases h with rfl | ⟨t, rfl⟩
      · exact Below.refl _ _
      · exact Joins.below_bytesWorld _ _ _ _ (Nat.le_refl _)
    clear H
    by_cases hgd : 0 ≤ v ∧ v ≤ 999999
    · obtain ⟨h0, h1⟩ := hgd
      have HA : Hid (Lib.atoiAll s.data.toList = .ok v) := ha
      clear ha
      go_enter Tryd.func10, Tryd.ntmps10
      go_wp2_with (go_at_call 28; refine H2.mono ?_; rintro e w1 ⟨rfl, hb⟩; clear H2; have hv1 := hv.below hb; clear hv)
      go_wp2_with (go_at_call 15; refine (implDigits_any v _ (by omega) (by omega) hv1.pow).mono ?_; rintro e w2 ⟨rfl, hb2⟩; have hB := hb.trans (hb2.mono hb.size); clear hb hb2 hv1)
      · go_ret2
        have ht : (v < 0 ∨ 999999 < v) ∨ (!Lib.itoa v == s.toList) = true := by assumption
        have ht2 : (!Lib.itoa v == s.toList) = true := by
          rcases ht with ht | ht
          · exact absurd ht (by omega)
          · exact ht
        rw [ByteArray.toList_eq] at ht2
        have HB : goodB s.data.toList = false := by
          cases e : goodB s.data.toList with
          | false => rfl
          | true =>
            have h2 := atoi_good e
            rw [HA.out] at h2
            injection h2 with h2
            rw [h2, (good_back e).1] at ht2
            simp at ht2
        exact ⟨ret_pair (bad_num HB).symm HB.symm, hB⟩
      · go_ret2
        have ht : (0 ≤ v ∧ v ≤ 999999) ∧ (!Lib.itoa v == s.toList) = false := by assumption
        have ht2 := ht.2
        rw [ByteArray.toList_eq] at ht2
        obtain ⟨HB, HV⟩ := good_of (l := s.data.toList) h0 h1 (by simpa using ht2)
        exact ⟨ret_pair (by rw [good_num HB, HV]) HB.symm, hB⟩
    · have HB : Hid (goodB s.data.toList = false) := by
        show goodB s.data.toList = false
        cases e : goodB s.data.toList with
        | false => rfl
        | true =>
          have h2 := atoi_good e
          rw [ha] at h2
          have h3 := (good_back e).2
          injection h2 with h2
          exact absurd (by omega) hgd
      clear ha hv
      by_cases h0 : v < 0
      · clear hgd
        go_enter Tryd.func10, Tryd.ntmps10
        go_wp2_with (go_at_call 28; refine H2.mono ?_; rintro e w1 ⟨rfl, hb⟩; clear H2)
        go_ret2
        exact ⟨ret_pair (bad_num HB.out).symm HB.out.symm, hb⟩
      · have h1 : 999999 < v := by omega
        clear hgd
        go_enter Tryd.func10, Tryd.ntmps10
        go_wp2_with (go_at_call 28; refine H2.mono ?_; rintro e w1 ⟨rfl, hb⟩; clear H2)
        go_ret2
        exact ⟨ret_pair (bad_num HB.out).symm HB.out.symm, hb⟩
end Go.Proofs.YtefmmcdhpepmaaaDoor
