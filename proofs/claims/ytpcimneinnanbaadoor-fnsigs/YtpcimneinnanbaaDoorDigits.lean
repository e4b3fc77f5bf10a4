/- Contracts of the specification's and the program's Digits: each tells a number's decimal digits. Conditions: the library's table of powers of ten holds what its own text lays. -/
import Derived.Test.YtpcimneinnanbaaDoorRows
import Derived.Test.YtpcimneinnanbaaDoorPlain
import Derived.Test.YtpcimneinnanbaaDoorShelf
import Derived.WalkKit
import Derived.ProofKit
import Derived.OpenShut
import Derived.WalkSmall
import Derived.Laws.Concat
import Derived.Laws.BytesArg
namespace Go.Proofs.YtpcimneinnanbaaDoor
open Go.RowKit

theorem conv_one (W : World) (z : Int) : (convert 22 9 (.slice (some ⟨W.heap.size, 0, none⟩) 1 1)).run Tryd.prog (W.alloc (.cells #[.int .u8 z] 5)) = .ok (.string ⟨#[UInt8.ofNat z.toNat]⟩) (W.alloc (.cells #[.int .u8 z] 5)) := by
  refine run_convert_bytes_arg _ 22 5 Tryd.underlying22 Tryd.underlying5 _ 0 1 1 [z] rfl (fun i hi => ?_) 9 Tryd.underlying9
  obtain rfl : i = 0 := by omega
  simp
theorem cat_one (c : UInt8) (o : List UInt8) : (⟨#[c]⟩ : ByteArray) ++ ⟨o.toArray⟩ = ⟨(c :: o).toArray⟩ := by
  apply ByteArray.ext
  simp
theorem digs_le {m n : Nat} {o : List UInt8} (h : digs m ++ o = digs n) (hn : n < 10 ^ 20) : o.length ≤ 20 := by
  have h1 := congrArg List.length h
  rw [List.length_append] at h1
  have h2 : (digs n).length ≤ 20 := by
    unfold digs; split
    · simp
    · exact dec_len hn
  omega
theorem digs_round {m : Int} {o : List UInt8} {n : Nat} {c : Int} (hm : m ≠ 0) (hc : c = ((48 + m.natAbs % 10 : Nat) : Int)) (h : digs m.natAbs ++ o = digs n) : digs (m.natAbs / 10) ++ (UInt8.ofNat c.toNat :: o) = digs n := by
  rw [digs_step (by omega)] at h
  rw [← h, hc, Int.toNat_natCast, List.append_assoc]
  rfl
theorem neg_mod {m : Int} (h : m < 0) : -9 ≤ m.tmod 10 ∧ m.tmod 10 ≤ 0 ∧ -(m.tmod 10) = ((m.natAbs % 10 : Nat) : Int) := by
  have e : m = -(-m) := by omega
  have e2 : m.tmod 10 = -((-m) % 10) := by
    rw [e, Int.neg_tmod, Int.tmod_eq_emod_of_nonneg (by omega), Int.neg_neg]
  omega
theorem neg_div {m : Int} (h : m < 0) : m.tdiv 10 = -(((m.natAbs / 10 : Nat)) : Int) := by
  have e : m = -(-m) := by omega
  have e2 : m.tdiv 10 = -((-m) / 10) := by
    rw [e, Int.neg_tdiv, Int.tdiv_eq_ediv_of_nonneg (by omega), Int.neg_neg]
  omega
theorem cat_two (o : List UInt8) : (⟨#[45]⟩ : ByteArray) ++ ⟨#[]⟩ ++ ⟨o.toArray⟩ = ⟨(45 :: o).toArray⟩ := by
  apply ByteArray.ext
  simp
theorem ret_str {a b : List UInt8} (h : a = b) : Ending.returned (.string ⟨a.toArray⟩) = .returned (.string ⟨b.toArray⟩) := by rw [h]

set_option maxHeartbeats 800000 in
theorem specDigits_any (n : Int) (w : World) (h0 : -9223372036854775808 ≤ n) (h1 : n ≤ 9223372036854775807) :
    Calls Tryd.prog 35 #[.int .i64 n] w fun e w' => e = .returned (.string ⟨(Lib.itoa n).toArray⟩) ∧ Below w.heap.size w w' := by
  by_cases hz : n = 0
  · subst hz
    go_enter Tryd.func35, Tryd.ntmps35
    go_wp2
    go_ret
    exact ⟨ret_str (a := [48]) itoa_zero.symm, Below.refl _ _⟩
  · have hz' : (n == 0) = false := by simpa using hz
    have HZ : Hid (¬ n = 0) := hz
    clear hz
    go_enter Tryd.func35, Tryd.ntmps35
    go_wp2
    go_loopw [0, 4] (fun s t wr => ∃ (m : Int) (o : List UInt8), s = .int .i64 m ∧ t = .string ⟨o.toArray⟩ ∧ -9223372036854775808 ≤ m ∧ m ≤ 9223372036854775807 ∧ Hid (digs m.natAbs ++ o = digs n.natAbs) ∧ Below w.heap.size w wr) (fun s _ _ => (intOf s).natAbs)
    case atStart => exact ⟨n, [], rfl, rfl, h0, h1, by simp [Hid], Below.refl _ _⟩
    case round =>
      obtain ⟨m, o, rfl, rfl, hm0, hm1, HD, hb⟩ := hrel
      have ho : o.length ≤ 20 := digs_le HD.out (by have : (10 : Nat) ^ 20 = 100000000000000000000 := rfl; omega)
      by_cases hm : m = 0
      · subst hm
        have HE : Hid (o = Lib.decDigits n.natAbs) := by have h := HD.out; rw [digs_ne HZ.out] at h; show o = _; simpa [digs] using h
        clear HD
        go_wp2
        · go_ret
          refine ⟨?_, hb⟩
          rw [itoa_neg (by assumption), ← HE.out, ← cat_two]
          rfl
        · go_ret
          have hpos : 0 ≤ n := by assumption
          exact ⟨ret_str (by rw [itoa_pos (by omega)]; exact HE.out), hb⟩
      · rcases (show 0 < m ∨ m < 0 by omega) with hp | hn
        · clear h0 h1 hz' hm
          have hcv := fun z => conv_one wr z
          go_wp2
          go_roundw
          case rel => exact ⟨m / 10, UInt8.ofNat (48 + m % 10).toNat :: o, rfl, by rw [cat_one], by omega, by omega, by have := digs_round (c := 48 + m % 10) (by omega) (by omega) HD.out; rwa [show m.natAbs / 10 = (m / 10).natAbs by omega] at this, hb.alloc hb.size _⟩
          case measure => simp [intOf]; omega
        · clear h0 h1 hz' hm
          have hcv := fun z => conv_one wr z
          obtain ⟨q1, q2, q3⟩ := neg_mod hn
          have Q3 : Hid (-(m.tmod 10) = ((m.natAbs % 10 : Nat) : Int)) := q3
          have Q4 : Hid (m.tdiv 10 = -(((m.natAbs / 10 : Nat)) : Int)) := neg_div hn
          clear q3
          have hdv := neg_div hn
          have hz1 : m ≠ 0 := by omega
          have hz2 : (m.tdiv 10).natAbs = m.natAbs / 10 := by omega
          have Z2 : Hid ((m.tdiv 10).natAbs = m.natAbs / 10 ∧ -9223372036854775808 ≤ m.tdiv 10 ∧ m.tdiv 10 ≤ 9223372036854775807) := ⟨hz2, by omega, by omega⟩
          clear hdv hz2 hz1
          go_wp2
          · go_roundw
            case rel => exact ⟨m.tdiv 10, UInt8.ofNat (48 + -m.tmod 10).toNat :: o, rfl, by rw [cat_one], Z2.out.2.1, Z2.out.2.2, by have h := digs_round (c := 48 + -m.tmod 10) (by omega) (by have := Q3.out; omega) HD.out; rwa [← Z2.out.1] at h, hb.alloc hb.size _⟩
            case measure => show (m.tdiv 10).natAbs < m.natAbs; rw [Z2.out.1]; omega
          · go_roundw
            case rel => exact ⟨m.tdiv 10, UInt8.ofNat (48 + m.tmod 10).toNat :: o, rfl, by rw [cat_one], Z2.out.2.1, Z2.out.2.2, by have h := digs_round (c := 48 + m.tmod 10) (by omega) (by have := Q3.out; omega) HD.out; rwa [← Z2.out.1] at h, hb.alloc hb.size _⟩
            case measure => show (m.tdiv 10).natAbs < m.natAbs; rw [Z2.out.1]; omega

/-- What the table of powers of ten holds it holds on, where no old block turns. -/
theorem tab_below {W W' : World} {k : IntKind} {zs : List Int} {name : String} {g : Nat} (hg : Tryd.prog.globalNamed name = some g) (hz : 0 < zs.length) (h : Lib.TabIs Tryd.prog W name k zs) (hb : Below W.heap.size W W') : Lib.TabIs Tryd.prog W' name k zs :=
  var?_below hb hg (World.block_lt_of_cell? _ _ (h.cell hg 0 hz)) h
theorem gPow : Tryd.prog.globalNamed "internal/strconv.uint64pow10" = some 0 := by kernel_rfl
theorem below_grow (w : World) (k : Nat) (os : Array Obj) : Below w.heap.size w (Sort.grow (w.drewN k) os) :=
  ⟨rfl, rfl, rfl, by simp [Sort.grow], fun i hi => by
    show (w.heap ++ os)[i]? = _
    rw [Array.getElem?_append_left hi]⟩
theorem implDigits_any (n : Int) (w : World) (h0 : -9223372036854775808 ≤ n) (h1 : n ≤ 9223372036854775807) (htab : Lib.TabIs Tryd.prog w "internal/strconv.uint64pow10" .u64 Lib.pow10Tab) :
    Calls Tryd.prog 41 #[.int .i64 n] w fun e w' => e = .returned (.string ⟨(Lib.itoa n).toArray⟩) ∧ Below w.heap.size w w' := by
  have H := Tryd.strconv_Itoa n h0 h1 w htab
  clear htab
  go_enter Tryd.func41, Tryd.ntmps41
  go_wp2_with (go_at_call 46; refine H.mono ?_; rintro e w' ⟨rfl, k, os, rfl⟩)
  go_ret
  exact ⟨rfl, below_grow w k os⟩
end Go.Proofs.YtpcimneinnanbaaDoor
