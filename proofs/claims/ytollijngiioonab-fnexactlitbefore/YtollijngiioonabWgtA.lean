/- Weights as data. Conditions: none. -/
import Derived.Test.YtollijngiioonabTermA
namespace Go.Proofs.Ytollijngiioonab
set_option maxRecDepth 100000
open Go.RowKit

mutual
/-- The weight. -/
def wgtT (bl : Int → Bool) : TermD → Nat
  | .mk f _ ks => (if bl f && !ks.isEmpty then ks.length - 1 else 1) + wgtL bl ks
def wgtL (bl : Int → Bool) : List TermD → Nat
  | [] => 0
  | k :: ks => wgtT bl k + wgtL bl ks
end
theorem wgtT_eq (bl : Int → Bool) (t : TermD) : wgtT bl t = (if bl t.f && !t.kids.isEmpty then t.kids.length - 1 else 1) + wgtL bl t.kids := by cases t; rw [wgtT]; rfl
theorem wgtL_append (bl : Int → Bool) (a b : List TermD) : wgtL bl (a ++ b) = wgtL bl a + wgtL bl b := by
  induction a with
  | nil => simp [wgtL]
  | cons t ts ih => simp only [List.cons_append, wgtL, ih]; omega
theorem wgtL_next (bl : Int → Bool) {ts : List TermD} {k : Nat} (h : k < ts.length) : wgtL bl (ts.take (k + 1)) = wgtL bl (ts.take k) + wgtT bl ts[k] := by
  rw [List.take_succ_eq_append_getElem h, wgtL_append]
  simp [wgtL]
mutual
theorem wgtT_pos (bl : Int → Bool) : ∀ t : TermD, 1 ≤ wgtT bl t
  | .mk f v ks => by
    have h := wgtL_pos bl ks
    rw [wgtT]
    split
    · next hb =>
      have : ks ≠ [] := by intro e; subst e; simp at hb
      have := List.length_pos_iff.2 this
      omega
    · omega
theorem wgtL_pos (bl : Int → Bool) : ∀ ks : List TermD, ks.length ≤ wgtL bl ks
  | [] => by simp
  | k :: ks => by have := wgtT_pos bl k; have := wgtL_pos bl ks; rw [wgtL, List.length_cons]; omega
end
mutual
/-- A weight is less than twice the number of parts. -/
theorem wgtT_parts (bl : Int → Bool) : ∀ t : TermD, wgtT bl t + 1 ≤ 2 * partsT t
  | .mk f v ks => by
    have h := wgtL_parts bl ks
    rw [wgtT, partsT]
    split <;> omega
theorem wgtL_parts (bl : Int → Bool) : ∀ ks : List TermD, wgtL bl ks + ks.length ≤ 2 * partsL ks
  | [] => by simp [wgtL, partsL]
  | k :: ks => by have := wgtT_parts bl k; have := wgtL_parts bl ks; rw [wgtL, partsL, List.length_cons]; omega
end
end Go.Proofs.Ytollijngiioonab
