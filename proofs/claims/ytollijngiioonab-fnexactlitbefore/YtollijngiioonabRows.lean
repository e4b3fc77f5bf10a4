/-
  NARROWER THAN 'FOR EVERY INPUT', by the rows' own cells (each row's printed sentence says how): FnExactLitSame: loops · FnExactLitBefore: loops · FnExactLitText: loops.
  DERIVED. THE GIVEN ROWS OF THIS SEAT. 3 by the template 'for every input the law returns true; each argument reads behind the call as it read before'; 0 by the template 'total and deterministic' (their statements: YtollijngiioonabTotals.lean).
  GIVEN WITH THE SEED: the statements are not yours to turn. If you find one false, say at which input.
  Laid BY PROGRAM, IN A SANDBOX (cutbox-rows.mjs): the forced cells as the released guide's own fill.sh prints them over the translation f236c65d30300e56… (all of the seat's roots in one cut). By AI agents, Wed Nov 11 2026. No macro, syntax, notation, axiom, sorry.
-/
import Derived.Test.YtollijngiioonabChecked
import GoSem.Claim
import GoSem.ClaimJoined
import GoSem.ClaimMapViews
import Derived.JoinedTies
import Derived.KernelRfl
namespace Go.Proofs.Ytollijngiioonab
/- THE CELL 'sum', in the pinned program and in every row, IS THE sha256 OF THE DUMP (.gsa) THAT YtollijngiioonabProg.lean LOADS. Nothing in Lean hashes anything: it is a label: what it is worth is what the hold of that sum in a sandbox is worth. -/
noncomputable def Try.pinned : Pinned := { name := "ytollijngiioonab", sum := "f236c65d30300e5686fec96141a6d351b4f6cd0574bfef82c22d8c49cd4a3875", checked := Try.checked }
namespace Rows
def none {H : Type} : Left H := { results := [], args := [] }

/-- 'laws.FnExactLitSame': WHATEVER THE INPUT: true; the input reads as it did. -/
def fnExactLitSameSpec : ChangeSpec := { name := "fnExactLitSame", fn := fun _ => fun
  | [d1, d2] => { results := [.lit (.bool true)], args := [d1, d2] }
  | _ => none }
def fnExactLitSameRow : OpenClaim := { program := "ytollijngiioonab", sum := "f236c65d30300e5686fec96141a6d351b4f6cd0574bfef82c22d8c49cd4a3875", func := "loop.example/g00461/laws.FnExactLitSame", spec := "fnExactLitSame", unfollowed := true, recurses := true, loops := true, apart := false }
def FnExactLitSameSaid : Prop := fnExactLitSameRow.holds Try.pinned (OpenSpec.ofChange fnExactLitSameSpec)

/-- ITS FALSE NEIGHBOUR: 'it returns false'. Refute it at one input. -/
def fnExactLitSameWrong : ChangeSpec := { name := "fnExactLitSame", fn := fun _ => fun
  | [d1, d2] => { results := [.lit (.bool false)], args := [d1, d2] }
  | _ => none }
def FnExactLitSameWrongFalsely : Prop := fnExactLitSameRow.holds Try.pinned (OpenSpec.ofChange fnExactLitSameWrong)

/-- 'laws.FnExactLitBefore': WHATEVER THE INPUT: true; the input reads as it did. -/
def fnExactLitBeforeSpec : ChangeSpec := { name := "fnExactLitBefore", fn := fun _ => fun
  | [d1, d2] => { results := [.lit (.bool true)], args := [d1, d2] }
  | _ => none }
def fnExactLitBeforeRow : OpenClaim := { program := "ytollijngiioonab", sum := "f236c65d30300e5686fec96141a6d351b4f6cd0574bfef82c22d8c49cd4a3875", func := "loop.example/g00461/laws.FnExactLitBefore", spec := "fnExactLitBefore", recurses := true, loops := true, apart := false }
def FnExactLitBeforeSaid : Prop := fnExactLitBeforeRow.holds Try.pinned (OpenSpec.ofChange fnExactLitBeforeSpec)

/-- ITS FALSE NEIGHBOUR: 'it returns false'. Refute it at one input. -/
def fnExactLitBeforeWrong : ChangeSpec := { name := "fnExactLitBefore", fn := fun _ => fun
  | [d1, d2] => { results := [.lit (.bool false)], args := [d1, d2] }
  | _ => none }
def FnExactLitBeforeWrongFalsely : Prop := fnExactLitBeforeRow.holds Try.pinned (OpenSpec.ofChange fnExactLitBeforeWrong)

/-- 'laws.FnExactLitText': WHATEVER THE INPUT: true; the input reads as it did. -/
def fnExactLitTextSpec : ChangeSpec := { name := "fnExactLitText", fn := fun _ => fun
  | [d1, d2] => { results := [.lit (.bool true)], args := [d1, d2] }
  | _ => none }
def fnExactLitTextRow : OpenClaim := { program := "ytollijngiioonab", sum := "f236c65d30300e5686fec96141a6d351b4f6cd0574bfef82c22d8c49cd4a3875", func := "loop.example/g00461/laws.FnExactLitText", spec := "fnExactLitText", inPlace := ["internal/abi.NoEscape"], unfollowed := true, recurses := true, loops := true, apart := false }
def FnExactLitTextSaid : Prop := fnExactLitTextRow.holds Try.pinned (OpenSpec.ofChange fnExactLitTextSpec)

/-- ITS FALSE NEIGHBOUR: 'it returns false'. Refute it at one input. -/
def fnExactLitTextWrong : ChangeSpec := { name := "fnExactLitText", fn := fun _ => fun
  | [d1, d2] => { results := [.lit (.bool false)], args := [d1, d2] }
  | _ => none }
def FnExactLitTextWrongFalsely : Prop := fnExactLitTextRow.holds Try.pinned (OpenSpec.ofChange fnExactLitTextWrong)

/- THE SECOND FORM. 'bulk': how many values and letters a reading holds, each counted each time it is reached (what is shared counts as often as it is met; a slice's spare places count too). A statement '..UptoSaid' is the law's where the arguments, and the package variables that the reading takes, are together of bulk at most 1048576: NARROWER than '..Said'. Prove '..Said' where nothing that the law and all that it calls make is longer than what came in: it says more and counts as full. Else prove '..UptoSaid'. A law counts once. -/
mutual
def uptoBulk {H : Type} : DataW H → Nat
  | .lit (.string bytes) => bytes.length + 1
  | .lit _ => 1
  | .nil => 1
  | .ptr d => uptoBulk d + 1
  | .slice elems spare => uptoBulkAll elems + uptoBulkAll spare + 1
  | .agg parts => uptoBulkAll parts + 1
  | .iface _ d => uptoBulk d + 1
  | .map entries => uptoBulkEntries entries + 1
  | .held _ => 1
def uptoBulkAll {H : Type} : List (DataW H) → Nat
  | [] => 0
  | d :: r => uptoBulk d + uptoBulkAll r
def uptoBulkEntries {H : Type} : List (Lit × DataW H) → Nat
  | [] => 0
  | x :: r => uptoBulkEntry x + uptoBulkEntries r
def uptoBulkEntry {H : Type} : Lit × DataW H → Nat
  | (.string bytes, d) => bytes.length + uptoBulk d + 1
  | (_, d) => uptoBulk d + 1
 end
def uptoSmall : (H : Type) → List (DataW H) → Bool := fun _ ds => decide (uptoBulkAll ds ≤ 1048576)
def OpenSpec.upto (s : _root_.Go.ChangeSpec) : _root_.Go.OpenSpec := { _root_.Go.OpenSpec.ofChange s with cond := some uptoSmall }

/-- 'laws.FnExactLitSame', WHERE WHAT IT READS IS OF BULK AT MOST 1048576: true; the input reads as it did. -/
def fnExactLitSameUptoRow : OpenClaim := { program := "ytollijngiioonab", sum := "f236c65d30300e5686fec96141a6d351b4f6cd0574bfef82c22d8c49cd4a3875", func := "loop.example/g00461/laws.FnExactLitSame", spec := "fnExactLitSame", unfollowed := true, recurses := true, loops := true, apart := false, narrowed := true }
def FnExactLitSameUptoSaid : Prop := fnExactLitSameUptoRow.holds Try.pinned (OpenSpec.upto fnExactLitSameSpec)

/-- 'laws.FnExactLitBefore', WHERE WHAT IT READS IS OF BULK AT MOST 1048576: true; the input reads as it did. -/
def fnExactLitBeforeUptoRow : OpenClaim := { program := "ytollijngiioonab", sum := "f236c65d30300e5686fec96141a6d351b4f6cd0574bfef82c22d8c49cd4a3875", func := "loop.example/g00461/laws.FnExactLitBefore", spec := "fnExactLitBefore", recurses := true, loops := true, apart := false, narrowed := true }
def FnExactLitBeforeUptoSaid : Prop := fnExactLitBeforeUptoRow.holds Try.pinned (OpenSpec.upto fnExactLitBeforeSpec)

/-- 'laws.FnExactLitText', WHERE WHAT IT READS IS OF BULK AT MOST 1048576: true; the input reads as it did. -/
def fnExactLitTextUptoRow : OpenClaim := { program := "ytollijngiioonab", sum := "f236c65d30300e5686fec96141a6d351b4f6cd0574bfef82c22d8c49cd4a3875", func := "loop.example/g00461/laws.FnExactLitText", spec := "fnExactLitText", inPlace := ["internal/abi.NoEscape"], unfollowed := true, recurses := true, loops := true, apart := false, narrowed := true }
def FnExactLitTextUptoSaid : Prop := fnExactLitTextUptoRow.holds Try.pinned (OpenSpec.upto fnExactLitTextSpec)

end Rows
end Go.Proofs.Ytollijngiioonab
