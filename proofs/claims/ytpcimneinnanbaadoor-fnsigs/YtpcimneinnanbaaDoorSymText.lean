/- Contract of the program's text of one function. Conditions: a name of at most 1048577 bytes; the library's table of powers of ten holds what its own text lays. -/
import Derived.Test.YtpcimneinnanbaaDoorSigTextA
import Derived.Test.YtpcimneinnanbaaDoorBuilder
import Derived.Test.YtpcimneinnanbaaDoorDigits
import Derived.Deep.DeepMust
import Derived.Deep.RegionWith
namespace Go.Proofs.YtpcimneinnanbaaDoor
open Go.RowKit

theorem text_star {s : SymD} (ha : s.ac = true) : Value.string (s.name ++ ⟨#[47]⟩ ++ ⟨(Lib.itoa s.ar).toArray⟩ ++ ⟨#[42]⟩) = .string ⟨(symText s).toArray⟩ := by
  rw [symText, if_pos ha, as_list s.name, show (⟨#[47]⟩ : ByteArray) = ⟨[47].toArray⟩ from rfl, show (⟨#[42]⟩ : ByteArray) = ⟨[42].toArray⟩ from rfl]
  simp only [cat_any, List.append_assoc]
theorem text_bare {s : SymD} (ha : s.ac = false) : Value.string (s.name ++ ⟨#[47]⟩ ++ ⟨(Lib.itoa s.ar).toArray⟩) = .string ⟨(symText s).toArray⟩ := by
  rw [symText, if_neg (by simp [ha]), as_list s.name, show (⟨#[47]⟩ : ByteArray) = ⟨[47].toArray⟩ from rfl]
  simp only [cat_any, List.append_assoc, List.append_nil]

set_option maxHeartbeats 1600000 in
theorem symText_any (s : SymD) (w : World) (hs : s.name.size ≤ 1048577) (hz : isI s.ar) (htab : Lib.TabIs Tryd.prog w "internal/strconv.uint64pow10" .u64 Lib.pow10Tab) :
    Calls Tryd.prog 32 #[.agg #[.string s.name, .int .i64 s.ar, .bool s.ac]] w fun e w' => e = .returned (.string ⟨(symText s).toArray⟩) ∧ Below w.heap.size w w' := by
  obtain ⟨hz1, hz2⟩ := hz
  have hzl := itoa_len hz1 hz2
  have HB := (Below.refl w.heap.size w).alloc (Nat.le_refl _) (.cells #[.string s.name, .int .i64 s.ar, .bool s.ac] 38)
  have D := fun (w' : World) (h : Below w.heap.size w w') => implDigits_any s.ar w' hz1 hz2 (tab_below gPow (by decide) htab h)
  clear htab
  cases ha : s.ac with
  | true =>
    rw [ha] at HB
    go_enter Tryd.func32, Tryd.ntmps32
    go_wp2
    go_region_with (go_at_call 41; refine (D _ HB.drew).mono ?_; rintro e w1 ⟨rfl, hb1⟩; have hB1 : Below w.heap.size w w1 := HB.drew.trans (hb1.mono (by simp)); have p0 : w1.cell? ⟨w.heap.size, 0, none⟩ = some (.string s.name) := (hb1.cell (p := ⟨w.heap.size, 0, none⟩) (by simp)).trans (by simp [go_sem]); have p2 : w1.cell? ⟨w.heap.size, 2, none⟩ = some (.bool true) := (hb1.cell (p := ⟨w.heap.size, 2, none⟩) (by simp)).trans (by simp [go_sem]); clear hb1)
    all_goals go_wp2
    all_goals
      go_ret
      exact ⟨congrArg Ending.returned (text_star ha), hB1⟩
  | false =>
    rw [ha] at HB
    go_enter Tryd.func32, Tryd.ntmps32
    go_wp2
    go_region_with (go_at_call 41; refine (D _ HB.drew).mono ?_; rintro e w1 ⟨rfl, hb1⟩; have hB1 : Below w.heap.size w w1 := HB.drew.trans (hb1.mono (by simp)); have p0 : w1.cell? ⟨w.heap.size, 0, none⟩ = some (.string s.name) := (hb1.cell (p := ⟨w.heap.size, 0, none⟩) (by simp)).trans (by simp [go_sem]); have p2 : w1.cell? ⟨w.heap.size, 2, none⟩ = some (.bool false) := (hb1.cell (p := ⟨w.heap.size, 2, none⟩) (by simp)).trans (by simp [go_sem]); clear hb1)
    all_goals go_wp2
    all_goals
      go_ret
      exact ⟨congrArg Ending.returned (text_bare ha), hB1⟩
end Go.Proofs.YtpcimneinnanbaaDoor
