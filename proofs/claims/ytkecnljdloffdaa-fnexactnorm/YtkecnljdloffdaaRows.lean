/-
  NARROWER THAN 'FOR EVERY INPUT', by the rows' own cells (each row's printed sentence says how): FnExactNorm: loops.
  DERIVED. THE GIVEN ROWS OF THIS SEAT. 5 by the template 'for every input the law returns true; each argument reads behind the call as it read before'; 0 by the template 'total and deterministic' (their statements: YtkecnljdloffdaaTotals.lean).
  GIVEN WITH THE SEED: the statements are not yours to turn. If you find one false, say at which input.
  Laid BY PROGRAM, IN A SANDBOX (cutbox-rows.mjs): the forced cells as the released guide's own fill.sh prints them over the translation 8ca635956f71d96e… (all of the seat's roots in one cut). By AI agents, Wed Nov 11 2026. No macro, syntax, notation, axiom, sorry.
-/
import Derived.Test.YtkecnljdloffdaaChecked
import GoSem.Claim
import GoSem.ClaimJoined
import GoSem.ClaimMapViews
import Derived.JoinedTies
import Derived.KernelRfl
namespace Go.Proofs.Ytkecnljdloffdaa
/- THE CELL 'sum', in the pinned program and in every row, IS THE sha256 OF THE DUMP (.gsa) THAT YtkecnljdloffdaaProg.lean LOADS. Nothing in Lean hashes anything: it is a label: what it is worth is what the hold of that sum in a sandbox is worth. -/
noncomputable def Try.pinned : Pinned := { name := "ytkecnljdloffdaa", sum := "8ca635956f71d96e70bbef066b6468a7345187d5dafd2f49a66a624aa14ca7ef", checked := Try.checked }
namespace Rows
def none {H : Type} : Left H := { results := [], args := [] }

/-- 'laws.FnOneForm': WHATEVER THE INPUT: true; the input reads as it did. -/
def fnOneFormSpec : ChangeSpec := { name := "fnOneForm", fn := fun _ => fun
  | [d] => { results := [.lit (.bool true)], args := [d] }
  | _ => none }
def fnOneFormRow : OpenClaim := { program := "ytkecnljdloffdaa", sum := "8ca635956f71d96e70bbef066b6468a7345187d5dafd2f49a66a624aa14ca7ef", func := "loop.example/g00461/laws.FnOneForm", spec := "fnOneForm", inPlace := ["internal/reflectlite.ValueOf", "internal/reflectlite.Swapper", "(internal/reflectlite.Value).Len"], unfollowed := true, recurses := true, apart := false }
def FnOneFormSaid : Prop := fnOneFormRow.holds Try.pinned (OpenSpec.ofChange fnOneFormSpec)

/-- ITS FALSE NEIGHBOUR: 'it returns false'. Refute it at one input. -/
def fnOneFormWrong : ChangeSpec := { name := "fnOneForm", fn := fun _ => fun
  | [d] => { results := [.lit (.bool false)], args := [d] }
  | _ => none }
def FnOneFormWrongFalsely : Prop := fnOneFormRow.holds Try.pinned (OpenSpec.ofChange fnOneFormWrong)

/-- 'laws.FnCounts': WHATEVER THE INPUT: true; the input reads as it did. -/
def fnCountsSpec : ChangeSpec := { name := "fnCounts", fn := fun _ => fun
  | [d] => { results := [.lit (.bool true)], args := [d] }
  | _ => none }
def fnCountsRow : OpenClaim := { program := "ytkecnljdloffdaa", sum := "8ca635956f71d96e70bbef066b6468a7345187d5dafd2f49a66a624aa14ca7ef", func := "loop.example/g00461/laws.FnCounts", spec := "fnCounts", unfollowed := true, recurses := true, apart := false }
def FnCountsSaid : Prop := fnCountsRow.holds Try.pinned (OpenSpec.ofChange fnCountsSpec)

/-- ITS FALSE NEIGHBOUR: 'it returns false'. Refute it at one input. -/
def fnCountsWrong : ChangeSpec := { name := "fnCounts", fn := fun _ => fun
  | [d] => { results := [.lit (.bool false)], args := [d] }
  | _ => none }
def FnCountsWrongFalsely : Prop := fnCountsRow.holds Try.pinned (OpenSpec.ofChange fnCountsWrong)

/-- 'laws.FnRightTerms': WHATEVER THE INPUT: true; the input reads as it did. -/
def fnRightTermsSpec : ChangeSpec := { name := "fnRightTerms", fn := fun _ => fun
  | [d] => { results := [.lit (.bool true)], args := [d] }
  | _ => none }
def fnRightTermsRow : OpenClaim := { program := "ytkecnljdloffdaa", sum := "8ca635956f71d96e70bbef066b6468a7345187d5dafd2f49a66a624aa14ca7ef", func := "loop.example/g00461/laws.FnRightTerms", spec := "fnRightTerms", inPlace := ["internal/reflectlite.ValueOf", "internal/reflectlite.Swapper", "(internal/reflectlite.Value).Len"], unfollowed := true, recurses := true, apart := false }
def FnRightTermsSaid : Prop := fnRightTermsRow.holds Try.pinned (OpenSpec.ofChange fnRightTermsSpec)

/-- ITS FALSE NEIGHBOUR: 'it returns false'. Refute it at one input. -/
def fnRightTermsWrong : ChangeSpec := { name := "fnRightTerms", fn := fun _ => fun
  | [d] => { results := [.lit (.bool false)], args := [d] }
  | _ => none }
def FnRightTermsWrongFalsely : Prop := fnRightTermsRow.holds Try.pinned (OpenSpec.ofChange fnRightTermsWrong)

/-- 'laws.FnGroundTotal': WHATEVER THE INPUT: true; the input reads as it did. -/
def fnGroundTotalSpec : ChangeSpec := { name := "fnGroundTotal", fn := fun _ => fun
  | [d] => { results := [.lit (.bool true)], args := [d] }
  | _ => none }
def fnGroundTotalRow : OpenClaim := { program := "ytkecnljdloffdaa", sum := "8ca635956f71d96e70bbef066b6468a7345187d5dafd2f49a66a624aa14ca7ef", func := "loop.example/g00461/laws.FnGroundTotal", spec := "fnGroundTotal", unfollowed := true, recurses := true, apart := false }
def FnGroundTotalSaid : Prop := fnGroundTotalRow.holds Try.pinned (OpenSpec.ofChange fnGroundTotalSpec)

/-- ITS FALSE NEIGHBOUR: 'it returns false'. Refute it at one input. -/
def fnGroundTotalWrong : ChangeSpec := { name := "fnGroundTotal", fn := fun _ => fun
  | [d] => { results := [.lit (.bool false)], args := [d] }
  | _ => none }
def FnGroundTotalWrongFalsely : Prop := fnGroundTotalRow.holds Try.pinned (OpenSpec.ofChange fnGroundTotalWrong)

/-- 'laws.FnExactNorm': WHATEVER THE INPUT: true; the input reads as it did. -/
def fnExactNormSpec : ChangeSpec := { name := "fnExactNorm", fn := fun _ => fun
  | [d1, d2] => { results := [.lit (.bool true)], args := [d1, d2] }
  | _ => none }
def fnExactNormRow : OpenClaim := { program := "ytkecnljdloffdaa", sum := "8ca635956f71d96e70bbef066b6468a7345187d5dafd2f49a66a624aa14ca7ef", func := "loop.example/g00461/laws.FnExactNorm", spec := "fnExactNorm", inPlace := ["internal/reflectlite.ValueOf", "internal/reflectlite.Swapper", "(internal/reflectlite.Value).Len"], unfollowed := true, recurses := true, loops := true, apart := false }
def FnExactNormSaid : Prop := fnExactNormRow.holds Try.pinned (OpenSpec.ofChange fnExactNormSpec)

/-- ITS FALSE NEIGHBOUR: 'it returns false'. Refute it at one input. -/
def fnExactNormWrong : ChangeSpec := { name := "fnExactNorm", fn := fun _ => fun
  | [d1, d2] => { results := [.lit (.bool false)], args := [d1, d2] }
  | _ => none }
def FnExactNormWrongFalsely : Prop := fnExactNormRow.holds Try.pinned (OpenSpec.ofChange fnExactNormWrong)

/- THE SECOND FORM. 'bulk': how many values and letters a reading holds, each counted each time it is reached (what is shared counts as often as it is met; a slice's spare places count too). A statement '..UptoSaid' is the law's where the arguments, and the package variables that the reading takes, are together of bulk at most 1048576: NARROWER than '..Said'. Prove '..Said' where nothing that the law and all that it calls make is longer than what came in: it says more and counts as full. Else prove '..UptoSaid'. A law counts once. -/
mutual
def uptoBulk {H : Type} : DataW H → Nat
  | .lit (.string bytes) => bytes.length + 1
  | .lit _ => 1
  | .nil => 1
  | .ptr d => uptoBulk d + 1
  | .slice elems spare => uptoBulkAll elems + uptoBulkAll spare + 1
  | .agg parts => uptoBulkAll parts + 1
  | .iface _ d => uptoBulk d + 1
  | .map entries => uptoBulkEntries entries + 1
  | .held _ => 1
def uptoBulkAll {H : Type} : List (DataW H) → Nat
  | [] => 0
  | d :: r => uptoBulk d + uptoBulkAll r
def uptoBulkEntries {H : Type} : List (Lit × DataW H) → Nat
  | [] => 0
  | x :: r => uptoBulkEntry x + uptoBulkEntries r
def uptoBulkEntry {H : Type} : Lit × DataW H → Nat
  | (.string bytes, d) => bytes.length + uptoBulk d + 1
  | (_, d) => uptoBulk d + 1
 end
def uptoSmall : (H : Type) → List (DataW H) → Bool := fun _ ds => decide (uptoBulkAll ds ≤ 1048576)
def OpenSpec.upto (s : _root_.Go.ChangeSpec) : _root_.Go.OpenSpec := { _root_.Go.OpenSpec.ofChange s with cond := some uptoSmall }

/-- 'laws.FnOneForm', WHERE WHAT IT READS IS OF BULK AT MOST 1048576: true; the input reads as it did. -/
def fnOneFormUptoRow : OpenClaim := { program := "ytkecnljdloffdaa", sum := "8ca635956f71d96e70bbef066b6468a7345187d5dafd2f49a66a624aa14ca7ef", func := "loop.example/g00461/laws.FnOneForm", spec := "fnOneForm", inPlace := ["internal/reflectlite.ValueOf", "internal/reflectlite.Swapper", "(internal/reflectlite.Value).Len"], unfollowed := true, recurses := true, apart := false, narrowed := true }
def FnOneFormUptoSaid : Prop := fnOneFormUptoRow.holds Try.pinned (OpenSpec.upto fnOneFormSpec)

/-- 'laws.FnCounts', WHERE WHAT IT READS IS OF BULK AT MOST 1048576: true; the input reads as it did. -/
def fnCountsUptoRow : OpenClaim := { program := "ytkecnljdloffdaa", sum := "8ca635956f71d96e70bbef066b6468a7345187d5dafd2f49a66a624aa14ca7ef", func := "loop.example/g00461/laws.FnCounts", spec := "fnCounts", unfollowed := true, recurses := true, apart := false, narrowed := true }
def FnCountsUptoSaid : Prop := fnCountsUptoRow.holds Try.pinned (OpenSpec.upto fnCountsSpec)

/-- 'laws.FnRightTerms', WHERE WHAT IT READS IS OF BULK AT MOST 1048576: true; the input reads as it did. -/
def fnRightTermsUptoRow : OpenClaim := { program := "ytkecnljdloffdaa", sum := "8ca635956f71d96e70bbef066b6468a7345187d5dafd2f49a66a624aa14ca7ef", func := "loop.example/g00461/laws.FnRightTerms", spec := "fnRightTerms", inPlace := ["internal/reflectlite.ValueOf", "internal/reflectlite.Swapper", "(internal/reflectlite.Value).Len"], unfollowed := true, recurses := true, apart := false, narrowed := true }
def FnRightTermsUptoSaid : Prop := fnRightTermsUptoRow.holds Try.pinned (OpenSpec.upto fnRightTermsSpec)

/-- 'laws.FnGroundTotal', WHERE WHAT IT READS IS OF BULK AT MOST 1048576: true; the input reads as it did. -/
def fnGroundTotalUptoRow : OpenClaim := { program := "ytkecnljdloffdaa", sum := "8ca635956f71d96e70bbef066b6468a7345187d5dafd2f49a66a624aa14ca7ef", func := "loop.example/g00461/laws.FnGroundTotal", spec := "fnGroundTotal", unfollowed := true, recurses := true, apart := false, narrowed := true }
def FnGroundTotalUptoSaid : Prop := fnGroundTotalUptoRow.holds Try.pinned (OpenSpec.upto fnGroundTotalSpec)

/-- 'laws.FnExactNorm', WHERE WHAT IT READS IS OF BULK AT MOST 1048576: true; the input reads as it did. -/
def fnExactNormUptoRow : OpenClaim := { program := "ytkecnljdloffdaa", sum := "8ca635956f71d96e70bbef066b6468a7345187d5dafd2f49a66a624aa14ca7ef", func := "loop.example/g00461/laws.FnExactNorm", spec := "fnExactNorm", inPlace := ["internal/reflectlite.ValueOf", "internal/reflectlite.Swapper", "(internal/reflectlite.Value).Len"], unfollowed := true, recurses := true, loops := true, apart := false, narrowed := true }
def FnExactNormUptoSaid : Prop := fnExactNormUptoRow.holds Try.pinned (OpenSpec.upto fnExactNormSpec)

end Rows
end Go.Proofs.Ytkecnljdloffdaa
