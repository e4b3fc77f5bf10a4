/- The contract of the specification's SigText. Conditions: what is told holds at most 1048577 functions and bytes in all. -/
import Derived.Test.YtpcimneinnanbabDoorProg
import Derived.Test.YtpcimneinnanbabDoorSymA
import Derived.Test.YtpcimneinnanbabDoorDigits
import Derived.Test.YtpcimneinnanbabDoorSigTextA
import Derived.Deep.RegionHeld3
namespace Go.Proofs.YtpcimneinnanbabDoor
open Go.RowKit

theorem cat_le {a b : ByteArray} {x y : Nat} (ha : a.size ≤ x) (hb : b.size ≤ y) : (a ++ b).size ≤ x + y := by rw [ByteArray.size_append]; omega
theorem len_le {l : List UInt8} {x : Nat} (h : l.length ≤ x) : (⟨l.toArray⟩ : ByteArray).size ≤ x := by simpa [ByteArray.size] using h
theorem one_le (c : UInt8) : (⟨#[c]⟩ : ByteArray).size ≤ 1 := Nat.le_refl 1
theorem cat_run {a b : ByteArray} {x y : Nat} (ha : a.size ≤ x) (hb : b.size ≤ y) (h : x + y ≤ 9223372036854775807) : ∀ w, (Op.stringOp .add a b).run Tryd.prog w = .ok (.string (a ++ b)) w := fun w => run_string_add_sum w a b (by omega)

set_option maxHeartbeats 6400000 in
theorem specSigText_any (a : Option Addr) (ss : List SymD) (n cap : Nat) (w : World) (hn : n = ss.length) (hr : RdS w a ss) (hl : ss.length ≤ 1048577) (hb : bytesOf ss ≤ 1048577) (hi : ∀ s ∈ ss, isI s.ar) :
    Calls Tryd.prog 5 #[.slice a n cap] w fun e w' => e = .returned (.string ⟨(sigTextK ss ss.length).toArray⟩) ∧ Below w.heap.size w w' := by
  subst hn
  rcases hr with rfl | ⟨b, off, rfl, hlt, hc⟩
  · go_enter Tryd.func5, Tryd.ntmps5
    go_wp2
    refine wp_loop_rounds 1 ?_
    rw [rounds_succ]
    go_wp2
    go_ret
    exact ⟨rfl, Below.refl _ _⟩
  · go_enter Tryd.func5, Tryd.ntmps5
    go_wp2
    go_loopw [3, 4] (fun t i wr => ∃ k : Nat, k ≤ ss.length ∧ i = .int .i64 k ∧ t = .string ⟨(sigTextK ss k).toArray⟩ ∧ Below w.heap.size w wr) (fun _ i _ => ss.length - (intOf i).toNat)
    case atStart => exact ⟨0, Nat.zero_le _, rfl, rfl, Below.refl _ _⟩
    case round =>
      obtain ⟨k, hk, rfl, rfl, hbl⟩ := hrel
      have htl := sigText_len hi k hk
      have htk : bytesOf (ss.take k) ≤ 1048577 := by have := bytesOf_take ss k; omega
      by_cases hk' : k < ss.length
      · obtain ⟨c0, c1, c2⟩ := hc k hk'
        have d0 := (hbl.cell (p := ⟨b, off + k * 3, none⟩) hlt).trans c0
        have d1 := (hbl.cell (p := ⟨b, off + k * 3 + 1, none⟩) hlt).trans c1
        have d2 := (hbl.cell (p := ⟨b, off + k * 3 + 2, none⟩) hlt).trans c2
        have hz := hi ss[k] (List.getElem_mem hk')
        have hzl := itoa_len hz.1 hz.2
        have hz0 := hz
        have hns : ss[k].name.size ≤ 1048577 := by have h1 := bytesOf_next hk'; have h2 := bytesOf_take ss (k + 1); omega
        have T1 : Hid (sigTextK ss (k + 1) = sigTextK ss k ++ (if k = 0 then [] else [32]) ++ symText ss[k]) := sigText_next hk'
        have htl2 : (sigTextK ss k).length ≤ 100000000 := by omega
        clear c0 c1 c2 hc hi hz hb htk htl
        obtain ⟨hz1, hz2⟩ := hz0
        by_cases hk0 : k = 0
        · have hk1 : ¬ (0 : Int) < (k : Int) := by omega
          have T2 : Hid (sigTextK ss (k + 1) = sigTextK ss k ++ [] ++ symText ss[k]) := by have h := T1.out; rw [if_pos hk0] at h; exact h
          clear hk0 T1
          have q1 : ∀ w, (Op.stringOp .add (⟨(sigTextK ss k).toArray⟩) ss[k].name).run Tryd.prog w = .ok (.string (⟨(sigTextK ss k).toArray⟩ ++ ss[k].name)) w := cat_run (len_le htl2) hns (by omega)
          have q2 : ∀ w, (Op.stringOp .add (⟨(sigTextK ss k).toArray⟩ ++ ss[k].name) ⟨#[47]⟩).run Tryd.prog w = .ok (.string (⟨(sigTextK ss k).toArray⟩ ++ ss[k].name ++ ⟨#[47]⟩)) w := cat_run (cat_le (len_le htl2) hns) (one_le 47) (by omega)
          have q3 : ∀ w, (Op.stringOp .add (⟨(sigTextK ss k).toArray⟩ ++ ss[k].name ++ ⟨#[47]⟩) ⟨(Lib.itoa ss[k].ar).toArray⟩).run Tryd.prog w = .ok (.string (⟨(sigTextK ss k).toArray⟩ ++ ss[k].name ++ ⟨#[47]⟩ ++ ⟨(Lib.itoa ss[k].ar).toArray⟩)) w := cat_run (cat_le (cat_le (len_le htl2) hns) (one_le 47)) (len_le hzl) (by omega)
          go_wp2
          go_region_held3 (fun w' => w'.cell? ⟨b, off + k * 3, none⟩ = some (.string ss[k].name) ∧ w'.cell? ⟨b, off + k * 3 + 1, none⟩ = some (.int .i64 ss[k].ar)) (first | go_keep | exact ⟨p0, p1⟩)
            (first | (go_at_call 10; refine (specDigits_any ss[k].ar _ hz1 hz2).mono ?_; rintro e w1 ⟨rfl, hb1⟩; have hB1 : Below w.heap.size w w1 := hbl.drew.trans (hb1.mono hbl.size); have p0 := (hb1.cell (p := ⟨b, off + k * 3, none⟩) (Nat.lt_of_lt_of_le hlt hbl.size)).trans d0; have p1 := (hb1.cell (p := ⟨b, off + k * 3 + 1, none⟩) (Nat.lt_of_lt_of_le hlt hbl.size)).trans d1; have p2 := (hb1.cell (p := ⟨b, off + k * 3 + 2, none⟩) (Nat.lt_of_lt_of_le hlt hbl.size)).trans d2; clear hb1))
          all_goals go_wp2
          all_goals
            go_roundw
            case rel => exact ⟨k + 1, by omega, by go_num, by first | exact text_fin T2.out (by assumption) | exact text_fin' T2.out (by assumption) | exact text_nil T2.out (by assumption) | exact text_nil' T2.out (by assumption), hB1⟩
            case measure => simp [intOf]; omega
        · have hk1 : (0 : Int) < (k : Int) := by omega
          have T2 : Hid (sigTextK ss (k + 1) = sigTextK ss k ++ [32] ++ symText ss[k]) := by have h := T1.out; rw [if_neg hk0] at h; exact h
          clear hk0 T1
          have q1 : ∀ w, (Op.stringOp .add (⟨(sigTextK ss k).toArray⟩ ++ ⟨#[32]⟩) ss[k].name).run Tryd.prog w = .ok (.string (⟨(sigTextK ss k).toArray⟩ ++ ⟨#[32]⟩ ++ ss[k].name)) w := cat_run (cat_le (len_le htl2) (one_le 32)) hns (by omega)
          have q2 : ∀ w, (Op.stringOp .add (⟨(sigTextK ss k).toArray⟩ ++ ⟨#[32]⟩ ++ ss[k].name) ⟨#[47]⟩).run Tryd.prog w = .ok (.string (⟨(sigTextK ss k).toArray⟩ ++ ⟨#[32]⟩ ++ ss[k].name ++ ⟨#[47]⟩)) w := cat_run (cat_le (cat_le (len_le htl2) (one_le 32)) hns) (one_le 47) (by omega)
          have q3 : ∀ w, (Op.stringOp .add (⟨(sigTextK ss k).toArray⟩ ++ ⟨#[32]⟩ ++ ss[k].name ++ ⟨#[47]⟩) ⟨(Lib.itoa ss[k].ar).toArray⟩).run Tryd.prog w = .ok (.string (⟨(sigTextK ss k).toArray⟩ ++ ⟨#[32]⟩ ++ ss[k].name ++ ⟨#[47]⟩ ++ ⟨(Lib.itoa ss[k].ar).toArray⟩)) w := cat_run (cat_le (cat_le (cat_le (len_le htl2) (one_le 32)) hns) (one_le 47)) (len_le hzl) (by omega)
          go_wp2
          go_region_held3 (fun w' => w'.cell? ⟨b, off + k * 3, none⟩ = some (.string ss[k].name) ∧ w'.cell? ⟨b, off + k * 3 + 1, none⟩ = some (.int .i64 ss[k].ar)) (first | go_keep | exact ⟨p0, p1⟩)
            (first | (go_at_call 10; refine (specDigits_any ss[k].ar _ hz1 hz2).mono ?_; rintro e w1 ⟨rfl, hb1⟩; have hB1 : Below w.heap.size w w1 := hbl.drew.trans (hb1.mono hbl.size); have p0 := (hb1.cell (p := ⟨b, off + k * 3, none⟩) (Nat.lt_of_lt_of_le hlt hbl.size)).trans d0; have p1 := (hb1.cell (p := ⟨b, off + k * 3 + 1, none⟩) (Nat.lt_of_lt_of_le hlt hbl.size)).trans d1; have p2 := (hb1.cell (p := ⟨b, off + k * 3 + 2, none⟩) (Nat.lt_of_lt_of_le hlt hbl.size)).trans d2; clear hb1))
          all_goals go_wp2
          all_goals
            go_roundw
            case rel => exact ⟨k + 1, by omega, by go_num, by first | exact text_fin T2.out (by assumption) | exact text_fin' T2.out (by assumption) | exact text_nil T2.out (by assumption) | exact text_nil' T2.out (by assumption), hB1⟩
            case measure => simp [intOf]; omega
      · have e : k = ss.length := by omega
        go_wp2
        go_ret
        exact ⟨by rw [← e]; rfl, hbl⟩
end Go.Proofs.YtpcimneinnanbabDoor
