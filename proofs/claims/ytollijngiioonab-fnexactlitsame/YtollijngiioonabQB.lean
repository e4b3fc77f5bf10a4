/- A region that draws its order, whose operations only read and whose callees may lay blocks of their own, walked once, in the order of the text: the class of worlds in which all that was there lies as it lay. Conditions: none. -/
import Derived.Deep.QuietTactic
import Derived.BigQuiet
import Derived.Below
import Derived.WalkKit
namespace Go.Proofs.Ytollijngiioonab
set_option maxRecDepth 100000
open Go.RowKit

/-- A world in which all that lay in w lies as it lay. -/
structure BW (w : World) where
  u : World
  b : Below w.heap.size w u
instance (w : World) : Inhabited (BW w) := ⟨⟨w, Below.refl _ _⟩⟩
theorem wp_region_below {P : Program} {id : Nat} {Q : Exit → Act → World → Prop} {a : Act} {w : World} {l : List Oper} (hm : P.follows .mixedOrders = true) (hB : Region.lexB .any l.toArray = true)
    (h : wpQuiet P l.toArray (fun w' => ∃ p : BW w, w' = p.u) (fun a' => ∀ w', (∃ p : BW w, w' = p.u) → Q .normal a' w') l a) : (Code.region id l.toArray true).wp P Q a w :=
  wp_region_quiet (C := fun w' => ∃ p : BW w, w' = p.u) hm hB ⟨⟨w.drew, (Below.refl _ _).drew⟩, rfl⟩ (by simpa using h)
/-- What was there is there. -/
theorem cellB {w : World} {a : Addr} {v : Value} (h : w.cell? a = some v) (p : BW w) : p.u.cell? a = some v := (p.b.cell (World.block_lt_of_cell? w a h)).trans h
/-- A callee's contract, met in a world of the class. -/
theorem callsB {P : Program} {f : FuncId} {args : Array Value} {w : World} {p : BW w} {v : Value}
    (h : Calls P f args p.u fun e w' => e = .returned v ∧ Below p.u.heap.size p.u w') : Calls P f args p.u fun e w'' => e = .returned v ∧ ∃ q : BW w, w'' = q.u :=
  h.mono fun _ w' ⟨he, hb⟩ => ⟨he, ⟨w', p.b.trans (hb.mono p.b.size)⟩, rfl⟩
end Go.Proofs.Ytollijngiioonab
