/- Contracts of the program's SymOf and SigOk. Conditions: at most 1048577 functions, names that are strings of the model. -/
import Derived.Test.YtpcimneinnanbaaDoorTab2
import Derived.Test.YtpcimneinnanbaaDoorTabB
import Derived.Test.YtpcimneinnanbaaDoorImpName
namespace Go.Proofs.YtpcimneinnanbaaDoor
open Go.RowKit Go.Maps Go.WideMaps

theorem look_some {D : DataW Unit} {ss : List SymD} (h : MapIs D ss) {n : ByteArray} {i : Nat} (hi : idx ss n.data.toList = some i) {c : Int} (hat : D.atKey (.string n.data.toList) (.lit (.int .i64 0)) = .lit (.int .i64 c)) : c = (i : Int) := by
  rw [(h.2 _).2 i hi] at hat
  injection hat with hat
  injection hat with _ hat
  exact hat.symm

set_option maxHeartbeats 800000 in
theorem impSymOf_any (a : Option Addr) (ss : List SymD) (n cap : Nat) (nm : ByteArray) (w : World) (hn : n = ss.length) (hr : RdS w a ss) (hl : ss.length ≤ 1048577) (hsz : ∀ s ∈ ss, s.name.size ≤ maxLen) (hnm : nm.size ≤ maxLen) :
    Calls Tryd.prog 13 #[.slice a n cap, .string nm] w fun e w' => e = .returned (.int .i64 (symOf ss nm)) ∧ Below w.heap.size w w' := by
  subst hn
  have TB := tableOf_any a ss _ cap w rfl hr hl hsz
  have hkey : keyOf Tryd.prog 9 (.string nm) = some (.string nm.data.toList) := keyOf_string_mk Tryd.underlying9 hnm
  have HS : Hid (symOf ss nm = match idx ss nm.data.toList with | some i => (i : Int) | none => -1) := symOf_idx ss nm
  have hf0 := field0
  go_enter Tryd.func13, Tryd.ntmps13
  cases hx : idx ss nm.data.toList with
  | some i =>
    rw [hx] at HS
    go_wp2_with (first
      | (go_at_call 27; refine TB.mono ?_; rintro e w2 ⟨av, cv, D, rfl, hown, hm, _, hb, _⟩; have hhas := (hm.2 nm.data.toList).1; rw [hx, Option.isSome_some] at hhas; clear TB)
      | (at_lookup; refine wpList_lookup_own_ok_int _ rfl _ _ 45 rfl 9 3 .i64 law9 Tryd.underlying45 Tryd.underlying3 (zero3 _) (w.heap.size + 1) ss.length D rfl hown _ _ rfl hkey ?_; intro c hat hwc; rw [hhas]; clear hwc))
    go_ret
    exact ⟨ret_int (by rw [HS.out]; exact look_some hm hx hat), hb⟩
  | none =>
    rw [hx] at HS
    go_wp2_with (first
      | (go_at_call 27; refine TB.mono ?_; rintro e w2 ⟨av, cv, D, rfl, hown, hm, _, hb, _⟩; have hhas := (hm.2 nm.data.toList).1; rw [hx, Option.isSome_none] at hhas; clear TB)
      | (at_lookup; refine wpList_lookup_own_ok_int _ rfl _ _ 45 rfl 9 3 .i64 law9 Tryd.underlying45 Tryd.underlying3 (zero3 _) (w.heap.size + 1) ss.length D rfl hown _ _ rfl hkey ?_; intro c hat hwc; rw [hhas]; clear hwc))
    go_ret
    exact ⟨ret_int HS.out.symm, hb⟩

set_option maxHeartbeats 800000 in
theorem symIsOk_any (s : SymD) (w : World) :
    Calls Tryd.prog 28 #[.agg #[.string s.name, .int .i64 s.ar, .bool s.ac]] w fun e w' => e = .returned (.bool (okB s)) ∧ Below w.heap.size w w' := by
  obtain ⟨nm, ar, ac⟩ := s
  have HO : Hid (okB ⟨nm, ar, ac⟩ = (!(ac && ar != 2) && nameOk nm && decide (0 ≤ ar) && decide (ar ≤ 3))) := rfl
  have NM := fun w => impNameOk_any nm w
  generalize okB ⟨nm, ar, ac⟩ = r at HO
  show Calls Tryd.prog 28 #[.agg #[.string nm, .int .i64 ar, .bool ac]] w fun e w' => e = .returned (.bool r) ∧ Below w.heap.size w w'
  have hB : ∀ o, Below w.heap.size w (w.alloc o) := fun o => (Below.refl _ _).alloc (Nat.le_refl _) o
  cases ac with
  | true =>
    by_cases h2 : ar = 2
    · subst h2
      cases hN : nameOk nm with
      | true =>
        rw [hN] at NM HO
        go_enter Tryd.func28, Tryd.ntmps28
        go_wp2_with (go_at_call 21; refine (NM _).mono ?_; rintro e w2 ⟨rfl, hw⟩; subst w2)
        go_ret
        exact ⟨ret_bool (by rw [HO.out]; rfl), hB _⟩
      | false =>
        rw [hN] at NM HO
        go_enter Tryd.func28, Tryd.ntmps28
        go_wp2_with (go_at_call 21; refine (NM _).mono ?_; rintro e w2 ⟨rfl, hw⟩; subst w2)
        go_ret
        exact ⟨ret_bool (by rw [HO.out]; rfl), hB _⟩
    · have h2' : (ar != 2) = true := by simpa using h2
      clear NM
      rw [h2'] at HO
      clear h2
      go_enter Tryd.func28, Tryd.ntmps28
      go_wp2
      go_ret
      exact ⟨ret_bool (by rw [HO.out]; rfl), hB _⟩
  | false =>
    cases hN : nameOk nm with
    | true =>
      rw [hN] at NM HO
      by_cases h0 : 0 ≤ ar
      · go_enter Tryd.func28, Tryd.ntmps28
        go_wp2_with (go_at_call 21; refine (NM _).mono ?_; rintro e w2 ⟨rfl, hw⟩; subst w2)
        go_ret
        exact ⟨ret_bool (by rw [HO.out]; simp [h0]), hB _⟩
      · go_enter Tryd.func28, Tryd.ntmps28
        go_wp2_with (go_at_call 21; refine (NM _).mono ?_; rintro e w2 ⟨rfl, hw⟩; subst w2)
        go_ret
        exact ⟨ret_bool (by rw [HO.out]; simp; omega), hB _⟩
    | false =>
      rw [hN] at NM HO
      go_enter Tryd.func28, Tryd.ntmps28
      go_wp2_with (go_at_call 21; refine (NM _).mono ?_; rintro e w2 ⟨rfl, hw⟩; subst w2)
      go_ret
      exact ⟨ret_bool (by rw [HO.out]; rfl), hB _⟩
end Go.Proofs.YtpcimneinnanbaaDoor
