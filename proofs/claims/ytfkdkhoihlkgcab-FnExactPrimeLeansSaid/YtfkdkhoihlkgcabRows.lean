/-
  No cell of these rows narrows 'for every input' (looked for: loops, veiled, ifaces, maps, wideKeys, modest, calm, conditions, laid).
  DERIVED. THE GIVEN ROWS OF THIS SEAT. 7 by the template 'for every input the law returns true; each argument reads behind the call as it read before'; 0 by the template 'total and deterministic' (their statements: YtfkdkhoihlkgcabTotals.lean).
  GIVEN WITH THE SEED: the statements are not yours to turn. If you find one false, say at which input.
  Laid BY PROGRAM, IN A SANDBOX (cutbox-rows.mjs): the forced cells as the released guide's own fill.sh prints them over the translation 40e2b7cbb0aac46e… (all of the seat's roots in one cut). By AI agents, Wed Nov 11 2026. No macro, syntax, notation, axiom, sorry.
-/
import Derived.Test.YtfkdkhoihlkgcabChecked
import GoSem.Claim
import GoSem.ClaimJoined
import GoSem.ClaimMapViews
import Derived.JoinedTies
import Derived.KernelRfl
namespace Go.Proofs.Ytfkdkhoihlkgcab
/- THE CELL 'sum', in the pinned program and in every row, IS THE sha256 OF THE DUMP (.gsa) THAT YtfkdkhoihlkgcabProg.lean LOADS. Nothing in Lean hashes anything: it is a label: what it is worth is what the hold of that sum in a sandbox is worth. -/
noncomputable def Try.pinned : Pinned := { name := "ytfkdkhoihlkgcab", sum := "40e2b7cbb0aac46e26c5866a163641e3e37a624f93792671927328b64a11079b", checked := Try.checked }
namespace Rows
def none {H : Type} : Left H := { results := [], args := [] }

/-- 'laws.FnExactGreatestSquare': WHATEVER THE INPUT: true; the input reads as it did. -/
def fnExactGreatestSquareSpec : ChangeSpec := { name := "fnExactGreatestSquare", fn := fun _ => fun
  | [d] => { results := [.lit (.bool true)], args := [d] }
  | _ => none }
def fnExactGreatestSquareRow : OpenClaim := { program := "ytfkdkhoihlkgcab", sum := "40e2b7cbb0aac46e26c5866a163641e3e37a624f93792671927328b64a11079b", func := "loop.example/g01352/laws.FnExactGreatestSquare", spec := "fnExactGreatestSquare", apart := false }
def FnExactGreatestSquareSaid : Prop := fnExactGreatestSquareRow.holds Try.pinned (OpenSpec.ofChange fnExactGreatestSquareSpec)

/-- ITS FALSE NEIGHBOUR: 'it returns false'. Refute it at one input. -/
def fnExactGreatestSquareWrong : ChangeSpec := { name := "fnExactGreatestSquare", fn := fun _ => fun
  | [d] => { results := [.lit (.bool false)], args := [d] }
  | _ => none }
def FnExactGreatestSquareWrongFalsely : Prop := fnExactGreatestSquareRow.holds Try.pinned (OpenSpec.ofChange fnExactGreatestSquareWrong)

/-- 'laws.FnExactLeanHeight': WHATEVER THE INPUT: true; the input reads as it did. -/
def fnExactLeanHeightSpec : ChangeSpec := { name := "fnExactLeanHeight", fn := fun _ => fun
  | [d1, d2] => { results := [.lit (.bool true)], args := [d1, d2] }
  | _ => none }
def fnExactLeanHeightRow : OpenClaim := { program := "ytfkdkhoihlkgcab", sum := "40e2b7cbb0aac46e26c5866a163641e3e37a624f93792671927328b64a11079b", func := "loop.example/g01352/laws.FnExactLeanHeight", spec := "fnExactLeanHeight", apart := false }
def FnExactLeanHeightSaid : Prop := fnExactLeanHeightRow.holds Try.pinned (OpenSpec.ofChange fnExactLeanHeightSpec)

/-- ITS FALSE NEIGHBOUR: 'it returns false'. Refute it at one input. -/
def fnExactLeanHeightWrong : ChangeSpec := { name := "fnExactLeanHeight", fn := fun _ => fun
  | [d1, d2] => { results := [.lit (.bool false)], args := [d1, d2] }
  | _ => none }
def FnExactLeanHeightWrongFalsely : Prop := fnExactLeanHeightRow.holds Try.pinned (OpenSpec.ofChange fnExactLeanHeightWrong)

/-- 'laws.FnExactStepOut': WHATEVER THE INPUT: true; the input reads as it did. -/
def fnExactStepOutSpec : ChangeSpec := { name := "fnExactStepOut", fn := fun _ => fun
  | [d1, d2, d3] => { results := [.lit (.bool true)], args := [d1, d2, d3] }
  | _ => none }
def fnExactStepOutRow : OpenClaim := { program := "ytfkdkhoihlkgcab", sum := "40e2b7cbb0aac46e26c5866a163641e3e37a624f93792671927328b64a11079b", func := "loop.example/g01352/laws.FnExactStepOut", spec := "fnExactStepOut", apart := false }
def FnExactStepOutSaid : Prop := fnExactStepOutRow.holds Try.pinned (OpenSpec.ofChange fnExactStepOutSpec)

/-- ITS FALSE NEIGHBOUR: 'it returns false'. Refute it at one input. -/
def fnExactStepOutWrong : ChangeSpec := { name := "fnExactStepOut", fn := fun _ => fun
  | [d1, d2, d3] => { results := [.lit (.bool false)], args := [d1, d2, d3] }
  | _ => none }
def FnExactStepOutWrongFalsely : Prop := fnExactStepOutRow.holds Try.pinned (OpenSpec.ofChange fnExactStepOutWrong)

/-- 'laws.FnExactCanTurn': WHATEVER THE INPUT: true; the input reads as it did. -/
def fnExactCanTurnSpec : ChangeSpec := { name := "fnExactCanTurn", fn := fun _ => fun
  | [d1, d2, d3] => { results := [.lit (.bool true)], args := [d1, d2, d3] }
  | _ => none }
def fnExactCanTurnRow : OpenClaim := { program := "ytfkdkhoihlkgcab", sum := "40e2b7cbb0aac46e26c5866a163641e3e37a624f93792671927328b64a11079b", func := "loop.example/g01352/laws.FnExactCanTurn", spec := "fnExactCanTurn", apart := false }
def FnExactCanTurnSaid : Prop := fnExactCanTurnRow.holds Try.pinned (OpenSpec.ofChange fnExactCanTurnSpec)

/-- ITS FALSE NEIGHBOUR: 'it returns false'. Refute it at one input. -/
def fnExactCanTurnWrong : ChangeSpec := { name := "fnExactCanTurn", fn := fun _ => fun
  | [d1, d2, d3] => { results := [.lit (.bool false)], args := [d1, d2, d3] }
  | _ => none }
def FnExactCanTurnWrongFalsely : Prop := fnExactCanTurnRow.holds Try.pinned (OpenSpec.ofChange fnExactCanTurnWrong)

/-- 'laws.FnExactWholeLeans': WHATEVER THE INPUT: true; the input reads as it did. -/
def fnExactWholeLeansSpec : ChangeSpec := { name := "fnExactWholeLeans", fn := fun _ => fun
  | [d] => { results := [.lit (.bool true)], args := [d] }
  | _ => none }
def fnExactWholeLeansRow : OpenClaim := { program := "ytfkdkhoihlkgcab", sum := "40e2b7cbb0aac46e26c5866a163641e3e37a624f93792671927328b64a11079b", func := "loop.example/g01352/laws.FnExactWholeLeans", spec := "fnExactWholeLeans", unfollowed := true, recurses := true, apart := false }
def FnExactWholeLeansSaid : Prop := fnExactWholeLeansRow.holds Try.pinned (OpenSpec.ofChange fnExactWholeLeansSpec)

/-- ITS FALSE NEIGHBOUR: 'it returns false'. Refute it at one input. -/
def fnExactWholeLeansWrong : ChangeSpec := { name := "fnExactWholeLeans", fn := fun _ => fun
  | [d] => { results := [.lit (.bool false)], args := [d] }
  | _ => none }
def FnExactWholeLeansWrongFalsely : Prop := fnExactWholeLeansRow.holds Try.pinned (OpenSpec.ofChange fnExactWholeLeansWrong)

/-- 'laws.FnExactLeansUpTo': WHATEVER THE INPUT: true; the input reads as it did. -/
def fnExactLeansUpToSpec : ChangeSpec := { name := "fnExactLeansUpTo", fn := fun _ => fun
  | [d] => { results := [.lit (.bool true)], args := [d] }
  | _ => none }
def fnExactLeansUpToRow : OpenClaim := { program := "ytfkdkhoihlkgcab", sum := "40e2b7cbb0aac46e26c5866a163641e3e37a624f93792671927328b64a11079b", func := "loop.example/g01352/laws.FnExactLeansUpTo", spec := "fnExactLeansUpTo", unfollowed := true, recurses := true, apart := false }
def FnExactLeansUpToSaid : Prop := fnExactLeansUpToRow.holds Try.pinned (OpenSpec.ofChange fnExactLeansUpToSpec)

/-- ITS FALSE NEIGHBOUR: 'it returns false'. Refute it at one input. -/
def fnExactLeansUpToWrong : ChangeSpec := { name := "fnExactLeansUpTo", fn := fun _ => fun
  | [d] => { results := [.lit (.bool false)], args := [d] }
  | _ => none }
def FnExactLeansUpToWrongFalsely : Prop := fnExactLeansUpToRow.holds Try.pinned (OpenSpec.ofChange fnExactLeansUpToWrong)

/-- 'laws.FnExactPrimeLeans': WHATEVER THE INPUT: true; the input reads as it did. -/
def fnExactPrimeLeansSpec : ChangeSpec := { name := "fnExactPrimeLeans", fn := fun _ => fun
  | [d] => { results := [.lit (.bool true)], args := [d] }
  | _ => none }
def fnExactPrimeLeansRow : OpenClaim := { program := "ytfkdkhoihlkgcab", sum := "40e2b7cbb0aac46e26c5866a163641e3e37a624f93792671927328b64a11079b", func := "loop.example/g01352/laws.FnExactPrimeLeans", spec := "fnExactPrimeLeans", unfollowed := true, recurses := true, apart := false }
def FnExactPrimeLeansSaid : Prop := fnExactPrimeLeansRow.holds Try.pinned (OpenSpec.ofChange fnExactPrimeLeansSpec)

/-- ITS FALSE NEIGHBOUR: 'it returns false'. Refute it at one input. -/
def fnExactPrimeLeansWrong : ChangeSpec := { name := "fnExactPrimeLeans", fn := fun _ => fun
  | [d] => { results := [.lit (.bool false)], args := [d] }
  | _ => none }
def FnExactPrimeLeansWrongFalsely : Prop := fnExactPrimeLeansRow.holds Try.pinned (OpenSpec.ofChange fnExactPrimeLeansWrong)

/- THE SECOND FORM. 'bulk': how many values and letters a reading holds, each counted each time it is reached (what is shared counts as often as it is met; a slice's spare places count too). A statement '..UptoSaid' is the law's where the arguments, and the package variables that the reading takes, are together of bulk at most 1048576: NARROWER than '..Said'. Prove '..Said' where nothing that the law and all that it calls make is longer than what came in: it says more and counts as full. Else prove '..UptoSaid'. A law counts once. -/
mutual
def uptoBulk {H : Type} : DataW H → Nat
  | .lit (.string bytes) => bytes.length + 1
  | .lit _ => 1
  | .nil => 1
  | .ptr d => uptoBulk d + 1
  | .slice elems spare => uptoBulkAll elems + uptoBulkAll spare + 1
  | .agg parts => uptoBulkAll parts + 1
  | .iface _ d => uptoBulk d + 1
  | .map entries => uptoBulkEntries entries + 1
  | .held _ => 1
def uptoBulkAll {H : Type} : List (DataW H) → Nat
  | [] => 0
  | d :: r => uptoBulk d + uptoBulkAll r
def uptoBulkEntries {H : Type} : List (Lit × DataW H) → Nat
  | [] => 0
  | x :: r => uptoBulkEntry x + uptoBulkEntries r
def uptoBulkEntry {H : Type} : Lit × DataW H → Nat
  | (.string bytes, d) => bytes.length + uptoBulk d + 1
  | (_, d) => uptoBulk d + 1
 end
def uptoSmall : (H : Type) → List (DataW H) → Bool := fun _ ds => decide (uptoBulkAll ds ≤ 1048576)
def OpenSpec.upto (s : _root_.Go.ChangeSpec) : _root_.Go.OpenSpec := { _root_.Go.OpenSpec.ofChange s with cond := some uptoSmall }

/-- 'laws.FnExactGreatestSquare', WHERE WHAT IT READS IS OF BULK AT MOST 1048576: true; the input reads as it did. -/
def fnExactGreatestSquareUptoRow : OpenClaim := { program := "ytfkdkhoihlkgcab", sum := "40e2b7cbb0aac46e26c5866a163641e3e37a624f93792671927328b64a11079b", func := "loop.example/g01352/laws.FnExactGreatestSquare", spec := "fnExactGreatestSquare", apart := false, narrowed := true }
def FnExactGreatestSquareUptoSaid : Prop := fnExactGreatestSquareUptoRow.holds Try.pinned (OpenSpec.upto fnExactGreatestSquareSpec)

/-- 'laws.FnExactLeanHeight', WHERE WHAT IT READS IS OF BULK AT MOST 1048576: true; the input reads as it did. -/
def fnExactLeanHeightUptoRow : OpenClaim := { program := "ytfkdkhoihlkgcab", sum := "40e2b7cbb0aac46e26c5866a163641e3e37a624f93792671927328b64a11079b", func := "loop.example/g01352/laws.FnExactLeanHeight", spec := "fnExactLeanHeight", apart := false, narrowed := true }
def FnExactLeanHeightUptoSaid : Prop := fnExactLeanHeightUptoRow.holds Try.pinned (OpenSpec.upto fnExactLeanHeightSpec)

/-- 'laws.FnExactStepOut', WHERE WHAT IT READS IS OF BULK AT MOST 1048576: true; the input reads as it did. -/
def fnExactStepOutUptoRow : OpenClaim := { program := "ytfkdkhoihlkgcab", sum := "40e2b7cbb0aac46e26c5866a163641e3e37a624f93792671927328b64a11079b", func := "loop.example/g01352/laws.FnExactStepOut", spec := "fnExactStepOut", apart := false, narrowed := true }
def FnExactStepOutUptoSaid : Prop := fnExactStepOutUptoRow.holds Try.pinned (OpenSpec.upto fnExactStepOutSpec)

/-- 'laws.FnExactCanTurn', WHERE WHAT IT READS IS OF BULK AT MOST 1048576: true; the input reads as it did. -/
def fnExactCanTurnUptoRow : OpenClaim := { program := "ytfkdkhoihlkgcab", sum := "40e2b7cbb0aac46e26c5866a163641e3e37a624f93792671927328b64a11079b", func := "loop.example/g01352/laws.FnExactCanTurn", spec := "fnExactCanTurn", apart := false, narrowed := true }
def FnExactCanTurnUptoSaid : Prop := fnExactCanTurnUptoRow.holds Try.pinned (OpenSpec.upto fnExactCanTurnSpec)

/-- 'laws.FnExactWholeLeans', WHERE WHAT IT READS IS OF BULK AT MOST 1048576: true; the input reads as it did. -/
def fnExactWholeLeansUptoRow : OpenClaim := { program := "ytfkdkhoihlkgcab", sum := "40e2b7cbb0aac46e26c5866a163641e3e37a624f93792671927328b64a11079b", func := "loop.example/g01352/laws.FnExactWholeLeans", spec := "fnExactWholeLeans", unfollowed := true, recurses := true, apart := false, narrowed := true }
def FnExactWholeLeansUptoSaid : Prop := fnExactWholeLeansUptoRow.holds Try.pinned (OpenSpec.upto fnExactWholeLeansSpec)

/-- 'laws.FnExactLeansUpTo', WHERE WHAT IT READS IS OF BULK AT MOST 1048576: true; the input reads as it did. -/
def fnExactLeansUpToUptoRow : OpenClaim := { program := "ytfkdkhoihlkgcab", sum := "40e2b7cbb0aac46e26c5866a163641e3e37a624f93792671927328b64a11079b", func := "loop.example/g01352/laws.FnExactLeansUpTo", spec := "fnExactLeansUpTo", unfollowed := true, recurses := true, apart := false, narrowed := true }
def FnExactLeansUpToUptoSaid : Prop := fnExactLeansUpToUptoRow.holds Try.pinned (OpenSpec.upto fnExactLeansUpToSpec)

/-- 'laws.FnExactPrimeLeans', WHERE WHAT IT READS IS OF BULK AT MOST 1048576: true; the input reads as it did. -/
def fnExactPrimeLeansUptoRow : OpenClaim := { program := "ytfkdkhoihlkgcab", sum := "40e2b7cbb0aac46e26c5866a163641e3e37a624f93792671927328b64a11079b", func := "loop.example/g01352/laws.FnExactPrimeLeans", spec := "fnExactPrimeLeans", unfollowed := true, recurses := true, apart := false, narrowed := true }
def FnExactPrimeLeansUptoSaid : Prop := fnExactPrimeLeansUptoRow.holds Try.pinned (OpenSpec.upto fnExactPrimeLeansSpec)

end Rows
end Go.Proofs.Ytfkdkhoihlkgcab
