/- What the laws on two equations stand on. Conditions: none. -/
import Derived.Test.YtollijngiioonabLitB
import Derived.Test.YtollijngiioonabLitC
import Derived.Test.YtollijngiioonabLitE
import Derived.Test.YtollijngiioonabLitO
import Derived.Deep.RegionHeld3
namespace Go.Proofs.Ytollijngiioonab
set_option maxRecDepth 100000
open Go.RowKit

theorem below_stepL {A X Y : World} (h : Below A.heap.size A X) (k : Below X.heap.size X Y) : Below A.heap.size A Y := h.trans (k.mono h.size)
/-- A box of seven cells. -/
def C7 (W : World) (b : Nat) (x0 x1 x2 x3 x4 x5 x6 : Value) : Prop := W.cell? ⟨b, 0, none⟩ = some x0 ∧ W.cell? ⟨b, 1, none⟩ = some x1 ∧ W.cell? ⟨b, 2, none⟩ = some x2 ∧ W.cell? ⟨b, 3, none⟩ = some x3 ∧ W.cell? ⟨b, 4, none⟩ = some x4 ∧ W.cell? ⟨b, 5, none⟩ = some x5 ∧ W.cell? ⟨b, 6, none⟩ = some x6
theorem C7.on {W W' : World} {b : Nat} {x0 x1 x2 x3 x4 x5 x6 : Value} (h : C7 W b x0 x1 x2 x3 x4 x5 x6) (hb : Below W.heap.size W W') : C7 W' b x0 x1 x2 x3 x4 x5 x6 :=
  ⟨keepC hb h.1, keepC hb h.2.1, keepC hb h.2.2.1, keepC hb h.2.2.2.1, keepC hb h.2.2.2.2.1, keepC hb h.2.2.2.2.2.1, keepC hb h.2.2.2.2.2.2⟩
theorem szX_ok (x : LitD) (m : Int) (h0 : 0 ≤ m) (h1 : m ≤ 1048576) : 0 ≤ szX x m → szX x m ≤ m ∧ (partsL x.l.kids : Int) + partsL x.r.kids ≤ m := by
  unfold szX szR
  by_cases a1 : (partsL x.l.kids : Int) ≤ m
  · rw [if_pos a1, if_neg (by omega)]
    by_cases a2 : (partsL x.r.kids : Int) ≤ m - partsL x.l.kids
    · rw [if_pos a2]; intro h; omega
    · rw [if_neg a2]; intro h; omega
  · rw [if_neg a1, if_pos (by omega)]; intro h; omega
end Go.Proofs.Ytollijngiioonab
