/- Whether a function is blind, as the specification tells it. Conditions: at most 1048577 functions. -/
import Derived.Test.YtpmmgplpmonolaaProg
import Derived.Test.YtpmmgplpmonolaaSymA
namespace Go.Proofs.Ytpmmgplpmonolaa
open Go.RowKit

set_option maxHeartbeats 800000 in
theorem specBlind_any (a : Option Addr) (ss : List SymD) (n cap : Nat) (f : Int) (w : World) (hn : n = ss.length) (hr : RdS w a ss) (hl : ss.length ≤ 1048577) (hf0 : -9223372036854775808 ≤ f) (hf1 : f ≤ 9223372036854775807) :
    Calls Try.prog 57 #[.slice a n cap, .int .i64 f] w fun e w' => e = .returned (.bool (blindAt ss f)) ∧ w' = w := by
  subst hn
  by_cases h0 : 0 ≤ f
  · by_cases h1 : f ≤ (ss.length : Int) - 1
    · obtain ⟨k, rfl⟩ := Int.eq_ofNat_of_zero_le h0
      have hk : k < ss.length := by omega
      rcases hr with rfl | ⟨b, off, rfl, hlt, hc⟩
      · simp at hk
      · obtain ⟨c0, c1, c2⟩ := hc k hk
        have hk2 : (k : Int) < (ss.length : Int) := by omega
        clear hc
        go_enter Try.func57, Try.ntmps57
        go_wp2_with go_in
        go_ret
        exact ⟨ret_bool (blindAt_in hk).symm, rfl⟩
    · have HN : Hid (blindAt ss f = false ∧ arityAt ss f = -1) := at_out (.inr (by omega))
      go_enter Try.func57, Try.ntmps57
      go_wp2_with go_in
      go_ret
      exact ⟨ret_bool HN.out.1.symm, rfl⟩
  · have HN : Hid (blindAt ss f = false ∧ arityAt ss f = -1) := at_out (.inl (by omega))
    go_enter Try.func57, Try.ntmps57
    go_wp2_with go_in
    go_ret
    exact ⟨ret_bool HN.out.1.symm, rfl⟩

end Go.Proofs.Ytpmmgplpmonolaa
