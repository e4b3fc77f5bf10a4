/-
  No cell of these rows narrows 'for every input' (looked for: loops, veiled, ifaces, maps, wideKeys, modest, calm, conditions, laid).
  DERIVED. THE GIVEN ROWS OF THIS SEAT. 4 by the template 'for every input the law returns true; each argument reads behind the call as it read before'; 0 by the template 'total and deterministic' (their statements: YthbilahilmmfmaaTotals.lean).
  GIVEN WITH THE SEED: the statements are not yours to turn. If you find one false, say at which input.
  Laid BY PROGRAM, IN A SANDBOX (cutbox-rows.mjs): the forced cells as the released guide's own fill.sh prints them over the translation 3c9adf6dfc563bb5… (all of the seat's roots in one cut). By AI agents, Wed Nov 11 2026. No macro, syntax, notation, axiom, sorry.
-/
import Derived.Test.YthbilahilmmfmaaChecked
import GoSem.Claim
import GoSem.ClaimJoined
import GoSem.ClaimMapViews
import Derived.JoinedTies
import Derived.KernelRfl
namespace Go.Proofs.Ythbilahilmmfmaa
/- THE CELL 'sum', in the pinned program and in every row, IS THE sha256 OF THE DUMP (.gsa) THAT YthbilahilmmfmaaProg.lean LOADS. Nothing in Lean hashes anything: it is a label: what it is worth is what the hold of that sum in a sandbox is worth. -/
noncomputable def Try.pinned : Pinned := { name := "ythbilahilmmfmaa", sum := "3c9adf6dfc563bb596e20fad4631462a87950fea9b178160462561e31fc23c15", checked := Try.checked }
namespace Rows
def none {H : Type} : Left H := { results := [], args := [] }

/-- 'laws.FnBasis': WHATEVER THE INPUT: true; the input reads as it did. -/
def fnBasisSpec : ChangeSpec := { name := "fnBasis", fn := fun _ => fun
  | [d] => { results := [.lit (.bool true)], args := [d] }
  | _ => none }
def fnBasisRow : OpenClaim := { program := "ythbilahilmmfmaa", sum := "3c9adf6dfc563bb596e20fad4631462a87950fea9b178160462561e31fc23c15", func := "loop.example/g00461/laws.FnBasis", spec := "fnBasis", inPlace := ["math/bits.Add64"], unfollowed := true, recurses := true, apart := false }
def FnBasisSaid : Prop := fnBasisRow.holds Try.pinned (OpenSpec.ofChange fnBasisSpec)

/-- ITS FALSE NEIGHBOUR: 'it returns false'. Refute it at one input. -/
def fnBasisWrong : ChangeSpec := { name := "fnBasis", fn := fun _ => fun
  | [d] => { results := [.lit (.bool false)], args := [d] }
  | _ => none }
def FnBasisWrongFalsely : Prop := fnBasisRow.holds Try.pinned (OpenSpec.ofChange fnBasisWrong)

/-- 'laws.FnBasisSums': WHATEVER THE INPUT: true; the input reads as it did. -/
def fnBasisSumsSpec : ChangeSpec := { name := "fnBasisSums", fn := fun _ => fun
  | [d] => { results := [.lit (.bool true)], args := [d] }
  | _ => none }
def fnBasisSumsRow : OpenClaim := { program := "ythbilahilmmfmaa", sum := "3c9adf6dfc563bb596e20fad4631462a87950fea9b178160462561e31fc23c15", func := "loop.example/g00461/laws.FnBasisSums", spec := "fnBasisSums", inPlace := ["math/bits.Add64"], unfollowed := true, recurses := true, apart := false }
def FnBasisSumsSaid : Prop := fnBasisSumsRow.holds Try.pinned (OpenSpec.ofChange fnBasisSumsSpec)

/-- ITS FALSE NEIGHBOUR: 'it returns false'. Refute it at one input. -/
def fnBasisSumsWrong : ChangeSpec := { name := "fnBasisSums", fn := fun _ => fun
  | [d] => { results := [.lit (.bool false)], args := [d] }
  | _ => none }
def FnBasisSumsWrongFalsely : Prop := fnBasisSumsRow.holds Try.pinned (OpenSpec.ofChange fnBasisSumsWrong)

/-- 'laws.FnOneForm': WHATEVER THE INPUT: true; the input reads as it did. -/
def fnOneFormSpec : ChangeSpec := { name := "fnOneForm", fn := fun _ => fun
  | [d] => { results := [.lit (.bool true)], args := [d] }
  | _ => none }
def fnOneFormRow : OpenClaim := { program := "ythbilahilmmfmaa", sum := "3c9adf6dfc563bb596e20fad4631462a87950fea9b178160462561e31fc23c15", func := "loop.example/g00461/laws.FnOneForm", spec := "fnOneForm", inPlace := ["internal/reflectlite.ValueOf", "internal/reflectlite.Swapper", "(internal/reflectlite.Value).Len"], unfollowed := true, recurses := true, apart := false }
def FnOneFormSaid : Prop := fnOneFormRow.holds Try.pinned (OpenSpec.ofChange fnOneFormSpec)

/-- ITS FALSE NEIGHBOUR: 'it returns false'. Refute it at one input. -/
def fnOneFormWrong : ChangeSpec := { name := "fnOneForm", fn := fun _ => fun
  | [d] => { results := [.lit (.bool false)], args := [d] }
  | _ => none }
def FnOneFormWrongFalsely : Prop := fnOneFormRow.holds Try.pinned (OpenSpec.ofChange fnOneFormWrong)

/-- 'laws.FnExactBasis': WHATEVER THE INPUT: true; the input reads as it did. -/
def fnExactBasisSpec : ChangeSpec := { name := "fnExactBasis", fn := fun _ => fun
  | [d1, d2] => { results := [.lit (.bool true)], args := [d1, d2] }
  | _ => none }
def fnExactBasisRow : OpenClaim := { program := "ythbilahilmmfmaa", sum := "3c9adf6dfc563bb596e20fad4631462a87950fea9b178160462561e31fc23c15", func := "loop.example/g00461/laws.FnExactBasis", spec := "fnExactBasis", inPlace := ["math/bits.Add64"], unfollowed := true, recurses := true, apart := false }
def FnExactBasisSaid : Prop := fnExactBasisRow.holds Try.pinned (OpenSpec.ofChange fnExactBasisSpec)

/-- ITS FALSE NEIGHBOUR: 'it returns false'. Refute it at one input. -/
def fnExactBasisWrong : ChangeSpec := { name := "fnExactBasis", fn := fun _ => fun
  | [d1, d2] => { results := [.lit (.bool false)], args := [d1, d2] }
  | _ => none }
def FnExactBasisWrongFalsely : Prop := fnExactBasisRow.holds Try.pinned (OpenSpec.ofChange fnExactBasisWrong)

/- THE SECOND FORM. 'bulk': how many values and letters a reading holds, each counted each time it is reached (what is shared counts as often as it is met; a slice's spare places count too). A statement '..UptoSaid' is the law's where the arguments, and the package variables that the reading takes, are together of bulk at most 1048576: NARROWER than '..Said'. Prove '..Said' where nothing that the law and all that it calls make is longer than what came in: it says more and counts as full. Else prove '..UptoSaid'. A law counts once. -/
mutual
def uptoBulk {H : Type} : DataW H → Nat
  | .lit (.string bytes) => bytes.length + 1
  | .lit _ => 1
  | .nil => 1
  | .ptr d => uptoBulk d + 1
  | .slice elems spare => uptoBulkAll elems + uptoBulkAll spare + 1
  | .agg parts => uptoBulkAll parts + 1
  | .iface _ d => uptoBulk d + 1
  | .map entries => uptoBulkEntries entries + 1
  | .held _ => 1
def uptoBulkAll {H : Type} : List (DataW H) → Nat
  | [] => 0
  | d :: r => uptoBulk d + uptoBulkAll r
def uptoBulkEntries {H : Type} : List (Lit × DataW H) → Nat
  | [] => 0
  | x :: r => uptoBulkEntry x + uptoBulkEntries r
def uptoBulkEntry {H : Type} : Lit × DataW H → Nat
  | (.string bytes, d) => bytes.length + uptoBulk d + 1
  | (_, d) => uptoBulk d + 1
 end
def uptoSmall : (H : Type) → List (DataW H) → Bool := fun _ ds => decide (uptoBulkAll ds ≤ 1048576)
def OpenSpec.upto (s : _root_.Go.ChangeSpec) : _root_.Go.OpenSpec := { _root_.Go.OpenSpec.ofChange s with cond := some uptoSmall }

/-- 'laws.FnBasis', WHERE WHAT IT READS IS OF BULK AT MOST 1048576: true; the input reads as it did. -/
def fnBasisUptoRow : OpenClaim := { program := "ythbilahilmmfmaa", sum := "3c9adf6dfc563bb596e20fad4631462a87950fea9b178160462561e31fc23c15", func := "loop.example/g00461/laws.FnBasis", spec := "fnBasis", inPlace := ["math/bits.Add64"], unfollowed := true, recurses := true, apart := false, narrowed := true }
def FnBasisUptoSaid : Prop := fnBasisUptoRow.holds Try.pinned (OpenSpec.upto fnBasisSpec)

/-- 'laws.FnBasisSums', WHERE WHAT IT READS IS OF BULK AT MOST 1048576: true; the input reads as it did. -/
def fnBasisSumsUptoRow : OpenClaim := { program := "ythbilahilmmfmaa", sum := "3c9adf6dfc563bb596e20fad4631462a87950fea9b178160462561e31fc23c15", func := "loop.example/g00461/laws.FnBasisSums", spec := "fnBasisSums", inPlace := ["math/bits.Add64"], unfollowed := true, recurses := true, apart := false, narrowed := true }
def FnBasisSumsUptoSaid : Prop := fnBasisSumsUptoRow.holds Try.pinned (OpenSpec.upto fnBasisSumsSpec)

/-- 'laws.FnOneForm', WHERE WHAT IT READS IS OF BULK AT MOST 1048576: true; the input reads as it did. -/
def fnOneFormUptoRow : OpenClaim := { program := "ythbilahilmmfmaa", sum := "3c9adf6dfc563bb596e20fad4631462a87950fea9b178160462561e31fc23c15", func := "loop.example/g00461/laws.FnOneForm", spec := "fnOneForm", inPlace := ["internal/reflectlite.ValueOf", "internal/reflectlite.Swapper", "(internal/reflectlite.Value).Len"], unfollowed := true, recurses := true, apart := false, narrowed := true }
def FnOneFormUptoSaid : Prop := fnOneFormUptoRow.holds Try.pinned (OpenSpec.upto fnOneFormSpec)

/-- 'laws.FnExactBasis', WHERE WHAT IT READS IS OF BULK AT MOST 1048576: true; the input reads as it did. -/
def fnExactBasisUptoRow : OpenClaim := { program := "ythbilahilmmfmaa", sum := "3c9adf6dfc563bb596e20fad4631462a87950fea9b178160462561e31fc23c15", func := "loop.example/g00461/laws.FnExactBasis", spec := "fnExactBasis", inPlace := ["math/bits.Add64"], unfollowed := true, recurses := true, apart := false, narrowed := true }
def FnExactBasisUptoSaid : Prop := fnExactBasisUptoRow.holds Try.pinned (OpenSpec.upto fnExactBasisSpec)

end Rows
end Go.Proofs.Ythbilahilmmfmaa
