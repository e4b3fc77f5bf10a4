/- Contracts of the program's SymOf and SigOk. Conditions: at most 1048577 functions, names that are strings of the model. -/
import Derived.Test.YtpmmgplpmonolaaTab2
import Derived.Test.YtpmmgplpmonolaaTabB
import Derived.Test.YtpmmgplpmonolaaImpName
namespace Go.Proofs.Ytpmmgplpmonolaa
open Go.RowKit Go.Maps Go.WideMaps

theorem look_some {D : DataW Unit} {ss : List SymD} (h : MapIs D ss) {n : ByteArray} {i : Nat} (hi : idx ss n.data.toList = some i) {c : Int} (hat : D.atKey (.string n.data.toList) (.lit (.int .i64 0)) = .lit (.int .i64 c)) : c = (i : Int) := by
  rw [(h.2 _).2 i hi] at hat
  injection hat with hat
  injection hat with _ hat
  exact hat.symm

set_option maxHeartbeats 800000 in
theorem symIsOk_any (s : SymD) (w : World) :
    Calls Try.prog 96 #[.agg #[.string s.name, .int .i64 s.ar, .bool s.ac]] w fun e w' => e = .returned (.bool (okB s)) ∧ Below w.heap.size w w' := by
  obtain ⟨nm, ar, ac⟩ := s
  have HO : Hid (okB ⟨nm, ar, ac⟩ = (!(ac && ar != 2) && nameOk nm && decide (0 ≤ ar) && decide (ar ≤ 3))) := rfl
  have NM := fun w => impNameOk_any nm w
  generalize okB ⟨nm, ar, ac⟩ = r at HO
  show Calls Try.prog 96 #[.agg #[.string nm, .int .i64 ar, .bool ac]] w fun e w' => e = .returned (.bool r) ∧ Below w.heap.size w w'
  have hB : ∀ o, Below w.heap.size w (w.alloc o) := fun o => (Below.refl _ _).alloc (Nat.le_refl _) o
  cases ac with
  | true =>
    by_cases h2 : ar = 2
    · subst h2
      cases hN : nameOk nm with
      | true =>
        rw [hN] at NM HO
        go_enter Try.func96, Try.ntmps96
        go_wp2_with (go_at_call 121; refine (NM _).mono ?_; rintro e w2 ⟨rfl, hw⟩; subst w2)
        go_ret
        exact ⟨ret_bool (by rw [HO.out]; rfl), hB _⟩
      | false =>
        rw [hN] at NM HO
        go_enter Try.func96, Try.ntmps96
        go_wp2_with (go_at_call 121; refine (NM _).mono ?_; rintro e w2 ⟨rfl, hw⟩; subst w2)
        go_ret
        exact ⟨ret_bool (by rw [HO.out]; rfl), hB _⟩
    · have h2' : (ar != 2) = true := by simpa using h2
      clear NM
      rw [h2'] at HO
      clear h2
      go_enter Try.func96, Try.ntmps96
      go_wp2
      go_ret
      exact ⟨ret_bool (by rw [HO.out]; rfl), hB _⟩
  | false =>
    cases hN : nameOk nm with
    | true =>
      rw [hN] at NM HO
      by_cases h0 : 0 ≤ ar
      · go_enter Try.func96, Try.ntmps96
        go_wp2_with (go_at_call 121; refine (NM _).mono ?_; rintro e w2 ⟨rfl, hw⟩; subst w2)
        go_ret
        exact ⟨ret_bool (by rw [HO.out]; simp [h0]), hB _⟩
      · go_enter Try.func96, Try.ntmps96
        go_wp2_with (go_at_call 121; refine (NM _).mono ?_; rintro e w2 ⟨rfl, hw⟩; subst w2)
        go_ret
        exact ⟨ret_bool (by rw [HO.out]; simp; omega), hB _⟩
    | false =>
      rw [hN] at NM HO
      go_enter Try.func96, Try.ntmps96
      go_wp2_with (go_at_call 121; refine (NM _).mono ?_; rintro e w2 ⟨rfl, hw⟩; subst w2)
      go_ret
      exact ⟨ret_bool (by rw [HO.out]; rfl), hB _⟩
end Go.Proofs.Ytpmmgplpmonolaa
