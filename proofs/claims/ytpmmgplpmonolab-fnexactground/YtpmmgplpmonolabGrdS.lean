/- Whether a term has no variables, as the specification tells it. Conditions: terms of at most 1048577 parts. -/
import Derived.Test.YtpmmgplpmonolabGrd
namespace Go.Proofs.Ytpmmgplpmonolab
open Go.RowKit

set_option maxHeartbeats 800000 in
theorem specGround_any (t : TermD) (a : Option Addr) (c hi : Nat) (w : World) (hp : partsT t ≤ 1048577) (hr : RdK w hi a t.kids) (hhi : hi ≤ w.heap.size) :
    Calls Try.prog 13 #[.agg #[.int .i64 t.f, .int .i64 t.v, .slice a t.kids.length c]] w fun e w' => e = .returned (.bool (grdT t)) ∧ Below w.heap.size w w' := by
  have h0 : Below w.heap.size w (w.alloc (.cells #[.int .i64 t.f, .int .i64 t.v, .slice a t.kids.length c] 33)) := (Below.refl w.heap.size w).alloc (Nat.le_refl _) _
  have I := specVarsOf_any t a c hi _ hp (hr.on (h0.mono hhi)) (Nat.le_trans hhi h0.size)
  have HG : Hid (grdT t = ((((varsT t []).length : Nat) : Int) == 0)) := by
    show _ = _
    unfold grdT
    cases varsT t [] with
    | nil => rfl
    | cons x xs =>
      have : ¬ (((x :: xs).length : Int) = 0) := by rw [List.length_cons]; omega
      simp only [List.isEmpty_cons, Bool.false_eq, beq_eq_false_iff_ne]; exact this
  go_enter Try.func13, Try.ntmps13
  go_wp2_with (go_at_call 24; refine I.mono ?_; rintro e w1 ⟨g1, c1, rfl, hO1, hb1⟩; clear I)
  go_ret
  exact ⟨rtB HG.out.symm, h0.trans (hb1.mono h0.size)⟩
end Go.Proofs.Ytpmmgplpmonolab
