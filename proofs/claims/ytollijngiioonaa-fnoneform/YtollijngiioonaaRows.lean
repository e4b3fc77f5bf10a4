/-
  NARROWER THAN 'FOR EVERY INPUT', by the rows' own cells (each row's printed sentence says how): FnExactLitMake: loops · FnExactLitOk: loops.
  DERIVED. THE GIVEN ROWS OF THIS SEAT. 3 by the template 'for every input the law returns true; each argument reads behind the call as it read before'; 0 by the template 'total and deterministic' (their statements: YtollijngiioonaaTotals.lean).
  GIVEN WITH THE SEED: the statements are not yours to turn. If you find one false, say at which input.
  Laid BY PROGRAM, IN A SANDBOX (cutbox-rows.mjs): the forced cells as the released guide's own fill.sh prints them over the translation b77787ddb93d47f7… (all of the seat's roots in one cut). By AI agents, Wed Nov 11 2026. No macro, syntax, notation, axiom, sorry.
-/
import Derived.Test.YtollijngiioonaaChecked
import GoSem.Claim
import GoSem.ClaimJoined
import GoSem.ClaimMapViews
import Derived.JoinedTies
import Derived.KernelRfl
namespace Go.Proofs.Ytollijngiioonaa
/- THE CELL 'sum', in the pinned program and in every row, IS THE sha256 OF THE DUMP (.gsa) THAT YtollijngiioonaaProg.lean LOADS. Nothing in Lean hashes anything: it is a label: what it is worth is what the hold of that sum in a sandbox is worth. -/
noncomputable def Try.pinned : Pinned := { name := "ytollijngiioonaa", sum := "b77787ddb93d47f79e309b5c08b703baf14b9df8664221afe09a2ebb82fce20a", checked := Try.checked }
namespace Rows
def none {H : Type} : Left H := { results := [], args := [] }

/-- 'laws.FnOneForm': WHATEVER THE INPUT: true; the input reads as it did. -/
def fnOneFormSpec : ChangeSpec := { name := "fnOneForm", fn := fun _ => fun
  | [d] => { results := [.lit (.bool true)], args := [d] }
  | _ => none }
def fnOneFormRow : OpenClaim := { program := "ytollijngiioonaa", sum := "b77787ddb93d47f79e309b5c08b703baf14b9df8664221afe09a2ebb82fce20a", func := "loop.example/g00461/laws.FnOneForm", spec := "fnOneForm", inPlace := ["internal/reflectlite.ValueOf", "internal/reflectlite.Swapper", "(internal/reflectlite.Value).Len"], unfollowed := true, recurses := true, apart := false }
def FnOneFormSaid : Prop := fnOneFormRow.holds Try.pinned (OpenSpec.ofChange fnOneFormSpec)

/-- ITS FALSE NEIGHBOUR: 'it returns false'. Refute it at one input. -/
def fnOneFormWrong : ChangeSpec := { name := "fnOneForm", fn := fun _ => fun
  | [d] => { results := [.lit (.bool false)], args := [d] }
  | _ => none }
def FnOneFormWrongFalsely : Prop := fnOneFormRow.holds Try.pinned (OpenSpec.ofChange fnOneFormWrong)

/-- 'laws.FnExactLitMake': WHATEVER THE INPUT: true; the input reads as it did. -/
def fnExactLitMakeSpec : ChangeSpec := { name := "fnExactLitMake", fn := fun _ => fun
  | [d1, d2, d3, d4] => { results := [.lit (.bool true)], args := [d1, d2, d3, d4] }
  | _ => none }
def fnExactLitMakeRow : OpenClaim := { program := "ytollijngiioonaa", sum := "b77787ddb93d47f79e309b5c08b703baf14b9df8664221afe09a2ebb82fce20a", func := "loop.example/g00461/laws.FnExactLitMake", spec := "fnExactLitMake", inPlace := ["internal/reflectlite.ValueOf", "internal/reflectlite.Swapper", "(internal/reflectlite.Value).Len"], unfollowed := true, recurses := true, loops := true, apart := false }
def FnExactLitMakeSaid : Prop := fnExactLitMakeRow.holds Try.pinned (OpenSpec.ofChange fnExactLitMakeSpec)

/-- ITS FALSE NEIGHBOUR: 'it returns false'. Refute it at one input. -/
def fnExactLitMakeWrong : ChangeSpec := { name := "fnExactLitMake", fn := fun _ => fun
  | [d1, d2, d3, d4] => { results := [.lit (.bool false)], args := [d1, d2, d3, d4] }
  | _ => none }
def FnExactLitMakeWrongFalsely : Prop := fnExactLitMakeRow.holds Try.pinned (OpenSpec.ofChange fnExactLitMakeWrong)

/-- 'laws.FnExactLitOk': WHATEVER THE INPUT: true; the input reads as it did. -/
def fnExactLitOkSpec : ChangeSpec := { name := "fnExactLitOk", fn := fun _ => fun
  | [d1, d2] => { results := [.lit (.bool true)], args := [d1, d2] }
  | _ => none }
def fnExactLitOkRow : OpenClaim := { program := "ytollijngiioonaa", sum := "b77787ddb93d47f79e309b5c08b703baf14b9df8664221afe09a2ebb82fce20a", func := "loop.example/g00461/laws.FnExactLitOk", spec := "fnExactLitOk", unfollowed := true, recurses := true, loops := true, apart := false }
def FnExactLitOkSaid : Prop := fnExactLitOkRow.holds Try.pinned (OpenSpec.ofChange fnExactLitOkSpec)

/-- ITS FALSE NEIGHBOUR: 'it returns false'. Refute it at one input. -/
def fnExactLitOkWrong : ChangeSpec := { name := "fnExactLitOk", fn := fun _ => fun
  | [d1, d2] => { results := [.lit (.bool false)], args := [d1, d2] }
  | _ => none }
def FnExactLitOkWrongFalsely : Prop := fnExactLitOkRow.holds Try.pinned (OpenSpec.ofChange fnExactLitOkWrong)

/- THE SECOND FORM. 'bulk': how many values and letters a reading holds, each counted each time it is reached (what is shared counts as often as it is met; a slice's spare places count too). A statement '..UptoSaid' is the law's where the arguments, and the package variables that the reading takes, are together of bulk at most 1048576: NARROWER than '..Said'. Prove '..Said' where nothing that the law and all that it calls make is longer than what came in: it says more and counts as full. Else prove '..UptoSaid'. A law counts once. -/
mutual
def uptoBulk {H : Type} : DataW H → Nat
  | .lit (.string bytes) => bytes.length + 1
  | .lit _ => 1
  | .nil => 1
  | .ptr d => uptoBulk d + 1
  | .slice elems spare => uptoBulkAll elems + uptoBulkAll spare + 1
  | .agg parts => uptoBulkAll parts + 1
  | .iface _ d => uptoBulk d + 1
  | .map entries => uptoBulkEntries entries + 1
  | .held _ => 1
def uptoBulkAll {H : Type} : List (DataW H) → Nat
  | [] => 0
  | d :: r => uptoBulk d + uptoBulkAll r
def uptoBulkEntries {H : Type} : List (Lit × DataW H) → Nat
  | [] => 0
  | x :: r => uptoBulkEntry x + uptoBulkEntries r
def uptoBulkEntry {H : Type} : Lit × DataW H → Nat
  | (.string bytes, d) => bytes.length + uptoBulk d + 1
  | (_, d) => uptoBulk d + 1
 end
def uptoSmall : (H : Type) → List (DataW H) → Bool := fun _ ds => decide (uptoBulkAll ds ≤ 1048576)
def OpenSpec.upto (s : _root_.Go.ChangeSpec) : _root_.Go.OpenSpec := { _root_.Go.OpenSpec.ofChange s with cond := some uptoSmall }

/-- 'laws.FnOneForm', WHERE WHAT IT READS IS OF BULK AT MOST 1048576: true; the input reads as it did. -/
def fnOneFormUptoRow : OpenClaim := { program := "ytollijngiioonaa", sum := "b77787ddb93d47f79e309b5c08b703baf14b9df8664221afe09a2ebb82fce20a", func := "loop.example/g00461/laws.FnOneForm", spec := "fnOneForm", inPlace := ["internal/reflectlite.ValueOf", "internal/reflectlite.Swapper", "(internal/reflectlite.Value).Len"], unfollowed := true, recurses := true, apart := false, narrowed := true }
def FnOneFormUptoSaid : Prop := fnOneFormUptoRow.holds Try.pinned (OpenSpec.upto fnOneFormSpec)

/-- 'laws.FnExactLitMake', WHERE WHAT IT READS IS OF BULK AT MOST 1048576: true; the input reads as it did. -/
def fnExactLitMakeUptoRow : OpenClaim := { program := "ytollijngiioonaa", sum := "b77787ddb93d47f79e309b5c08b703baf14b9df8664221afe09a2ebb82fce20a", func := "loop.example/g00461/laws.FnExactLitMake", spec := "fnExactLitMake", inPlace := ["internal/reflectlite.ValueOf", "internal/reflectlite.Swapper", "(internal/reflectlite.Value).Len"], unfollowed := true, recurses := true, loops := true, apart := false, narrowed := true }
def FnExactLitMakeUptoSaid : Prop := fnExactLitMakeUptoRow.holds Try.pinned (OpenSpec.upto fnExactLitMakeSpec)

/-- 'laws.FnExactLitOk', WHERE WHAT IT READS IS OF BULK AT MOST 1048576: true; the input reads as it did. -/
def fnExactLitOkUptoRow : OpenClaim := { program := "ytollijngiioonaa", sum := "b77787ddb93d47f79e309b5c08b703baf14b9df8664221afe09a2ebb82fce20a", func := "loop.example/g00461/laws.FnExactLitOk", spec := "fnExactLitOk", unfollowed := true, recurses := true, loops := true, apart := false, narrowed := true }
def FnExactLitOkUptoSaid : Prop := fnExactLitOkUptoRow.holds Try.pinned (OpenSpec.upto fnExactLitOkSpec)

end Rows
end Go.Proofs.Ytollijngiioonaa
