/-
  No cell of these rows narrows 'for every input' (looked for: loops, veiled, ifaces, maps, wideKeys, modest, calm, conditions, laid).
  DERIVED. THE GIVEN ROWS OF THIS SEAT. 6 by the template 'for every input the law returns true; each argument reads behind the call as it read before'; 0 by the template 'total and deterministic' (their statements: YtfokgobmncbkfaaTotals.lean).
  GIVEN WITH THE SEED: the statements are not yours to turn. If you find one false, say at which input.
  Laid BY PROGRAM, IN A SANDBOX (cutbox-rows.mjs): the forced cells as the released guide's own fill.sh prints them over the translation ce243ed100bd3469… (all of the seat's roots in one cut). By AI agents, Wed Nov 11 2026. No macro, syntax, notation, axiom, sorry.
-/
import Derived.Test.YtfokgobmncbkfaaChecked
import GoSem.Claim
import GoSem.ClaimJoined
import GoSem.ClaimMapViews
import Derived.JoinedTies
import Derived.KernelRfl
namespace Go.Proofs.Ytfokgobmncbkfaa
/- THE CELL 'sum', in the pinned program and in every row, IS THE sha256 OF THE DUMP (.gsa) THAT YtfokgobmncbkfaaProg.lean LOADS. Nothing in Lean hashes anything: it is a label: what it is worth is what the hold of that sum in a sandbox is worth. -/
noncomputable def Try.pinned : Pinned := { name := "ytfokgobmncbkfaa", sum := "ce243ed100bd3469122be7f371b642c4ec394f4dae729b6fa5523d8a0a15f893", checked := Try.checked }
namespace Rows
def none {H : Type} : Left H := { results := [], args := [] }

/-- 'laws.FnExactIsRiver': WHATEVER THE INPUT: true; the input reads as it did. -/
def fnExactIsRiverSpec : ChangeSpec := { name := "fnExactIsRiver", fn := fun _ => fun
  | [d] => { results := [.lit (.bool true)], args := [d] }
  | _ => none }
def fnExactIsRiverRow : OpenClaim := { program := "ytfokgobmncbkfaa", sum := "ce243ed100bd3469122be7f371b642c4ec394f4dae729b6fa5523d8a0a15f893", func := "loop.example/g01352/laws.FnExactIsRiver", spec := "fnExactIsRiver", apart := false }
def FnExactIsRiverSaid : Prop := fnExactIsRiverRow.holds Try.pinned (OpenSpec.ofChange fnExactIsRiverSpec)

/-- ITS FALSE NEIGHBOUR: 'it returns false'. Refute it at one input. -/
def fnExactIsRiverWrong : ChangeSpec := { name := "fnExactIsRiver", fn := fun _ => fun
  | [d] => { results := [.lit (.bool false)], args := [d] }
  | _ => none }
def FnExactIsRiverWrongFalsely : Prop := fnExactIsRiverRow.holds Try.pinned (OpenSpec.ofChange fnExactIsRiverWrong)

/-- 'laws.FnExactStonesOf': WHATEVER THE INPUT: true; the input reads as it did. -/
def fnExactStonesOfSpec : ChangeSpec := { name := "fnExactStonesOf", fn := fun _ => fun
  | [d] => { results := [.lit (.bool true)], args := [d] }
  | _ => none }
def fnExactStonesOfRow : OpenClaim := { program := "ytfokgobmncbkfaa", sum := "ce243ed100bd3469122be7f371b642c4ec394f4dae729b6fa5523d8a0a15f893", func := "loop.example/g01352/laws.FnExactStonesOf", spec := "fnExactStonesOf", apart := false }
def FnExactStonesOfSaid : Prop := fnExactStonesOfRow.holds Try.pinned (OpenSpec.ofChange fnExactStonesOfSpec)

/-- ITS FALSE NEIGHBOUR: 'it returns false'. Refute it at one input. -/
def fnExactStonesOfWrong : ChangeSpec := { name := "fnExactStonesOf", fn := fun _ => fun
  | [d] => { results := [.lit (.bool false)], args := [d] }
  | _ => none }
def FnExactStonesOfWrongFalsely : Prop := fnExactStonesOfRow.holds Try.pinned (OpenSpec.ofChange fnExactStonesOfWrong)

/-- 'laws.FnExactCanCross': WHATEVER THE INPUT: true; the input reads as it did. -/
def fnExactCanCrossSpec : ChangeSpec := { name := "fnExactCanCross", fn := fun _ => fun
  | [d1, d2] => { results := [.lit (.bool true)], args := [d1, d2] }
  | _ => none }
def fnExactCanCrossRow : OpenClaim := { program := "ytfokgobmncbkfaa", sum := "ce243ed100bd3469122be7f371b642c4ec394f4dae729b6fa5523d8a0a15f893", func := "loop.example/g01352/laws.FnExactCanCross", spec := "fnExactCanCross", apart := false }
def FnExactCanCrossSaid : Prop := fnExactCanCrossRow.holds Try.pinned (OpenSpec.ofChange fnExactCanCrossSpec)

/-- ITS FALSE NEIGHBOUR: 'it returns false'. Refute it at one input. -/
def fnExactCanCrossWrong : ChangeSpec := { name := "fnExactCanCross", fn := fun _ => fun
  | [d1, d2] => { results := [.lit (.bool false)], args := [d1, d2] }
  | _ => none }
def FnExactCanCrossWrongFalsely : Prop := fnExactCanCrossRow.holds Try.pinned (OpenSpec.ofChange fnExactCanCrossWrong)

/-- 'laws.FnExactLeastLeap': WHATEVER THE INPUT: true; the input reads as it did. -/
def fnExactLeastLeapSpec : ChangeSpec := { name := "fnExactLeastLeap", fn := fun _ => fun
  | [d] => { results := [.lit (.bool true)], args := [d] }
  | _ => none }
def fnExactLeastLeapRow : OpenClaim := { program := "ytfokgobmncbkfaa", sum := "ce243ed100bd3469122be7f371b642c4ec394f4dae729b6fa5523d8a0a15f893", func := "loop.example/g01352/laws.FnExactLeastLeap", spec := "fnExactLeastLeap", apart := false }
def FnExactLeastLeapSaid : Prop := fnExactLeastLeapRow.holds Try.pinned (OpenSpec.ofChange fnExactLeastLeapSpec)

/-- ITS FALSE NEIGHBOUR: 'it returns false'. Refute it at one input. -/
def fnExactLeastLeapWrong : ChangeSpec := { name := "fnExactLeastLeap", fn := fun _ => fun
  | [d] => { results := [.lit (.bool false)], args := [d] }
  | _ => none }
def FnExactLeastLeapWrongFalsely : Prop := fnExactLeastLeapRow.holds Try.pinned (OpenSpec.ofChange fnExactLeastLeapWrong)

/-- 'laws.FnExactFewestLeaps': WHATEVER THE INPUT: true; the input reads as it did. -/
def fnExactFewestLeapsSpec : ChangeSpec := { name := "fnExactFewestLeaps", fn := fun _ => fun
  | [d1, d2] => { results := [.lit (.bool true)], args := [d1, d2] }
  | _ => none }
def fnExactFewestLeapsRow : OpenClaim := { program := "ytfokgobmncbkfaa", sum := "ce243ed100bd3469122be7f371b642c4ec394f4dae729b6fa5523d8a0a15f893", func := "loop.example/g01352/laws.FnExactFewestLeaps", spec := "fnExactFewestLeaps", apart := false }
def FnExactFewestLeapsSaid : Prop := fnExactFewestLeapsRow.holds Try.pinned (OpenSpec.ofChange fnExactFewestLeapsSpec)

/-- ITS FALSE NEIGHBOUR: 'it returns false'. Refute it at one input. -/
def fnExactFewestLeapsWrong : ChangeSpec := { name := "fnExactFewestLeaps", fn := fun _ => fun
  | [d1, d2] => { results := [.lit (.bool false)], args := [d1, d2] }
  | _ => none }
def FnExactFewestLeapsWrongFalsely : Prop := fnExactFewestLeapsRow.holds Try.pinned (OpenSpec.ofChange fnExactFewestLeapsWrong)

/-- 'laws.FnExactFirstCrossing': WHATEVER THE INPUT: true; the input reads as it did. -/
def fnExactFirstCrossingSpec : ChangeSpec := { name := "fnExactFirstCrossing", fn := fun _ => fun
  | [d1, d2] => { results := [.lit (.bool true)], args := [d1, d2] }
  | _ => none }
def fnExactFirstCrossingRow : OpenClaim := { program := "ytfokgobmncbkfaa", sum := "ce243ed100bd3469122be7f371b642c4ec394f4dae729b6fa5523d8a0a15f893", func := "loop.example/g01352/laws.FnExactFirstCrossing", spec := "fnExactFirstCrossing", apart := false }
def FnExactFirstCrossingSaid : Prop := fnExactFirstCrossingRow.holds Try.pinned (OpenSpec.ofChange fnExactFirstCrossingSpec)

/-- ITS FALSE NEIGHBOUR: 'it returns false'. Refute it at one input. -/
def fnExactFirstCrossingWrong : ChangeSpec := { name := "fnExactFirstCrossing", fn := fun _ => fun
  | [d1, d2] => { results := [.lit (.bool false)], args := [d1, d2] }
  | _ => none }
def FnExactFirstCrossingWrongFalsely : Prop := fnExactFirstCrossingRow.holds Try.pinned (OpenSpec.ofChange fnExactFirstCrossingWrong)

/- THE SECOND FORM. 'bulk': how many values and letters a reading holds, each counted each time it is reached (what is shared counts as often as it is met; a slice's spare places count too). A statement '..UptoSaid' is the law's where the arguments, and the package variables that the reading takes, are together of bulk at most 1048576: NARROWER than '..Said'. Prove '..Said' where nothing that the law and all that it calls make is longer than what came in: it says more and counts as full. Else prove '..UptoSaid'. A law counts once. -/
mutual
def uptoBulk {H : Type} : DataW H → Nat
  | .lit (.string bytes) => bytes.length + 1
  | .lit _ => 1
  | .nil => 1
  | .ptr d => uptoBulk d + 1
  | .slice elems spare => uptoBulkAll elems + uptoBulkAll spare + 1
  | .agg parts => uptoBulkAll parts + 1
  | .iface _ d => uptoBulk d + 1
  | .map entries => uptoBulkEntries entries + 1
  | .held _ => 1
def uptoBulkAll {H : Type} : List (DataW H) → Nat
  | [] => 0
  | d :: r => uptoBulk d + uptoBulkAll r
def uptoBulkEntries {H : Type} : List (Lit × DataW H) → Nat
  | [] => 0
  | x :: r => uptoBulkEntry x + uptoBulkEntries r
def uptoBulkEntry {H : Type} : Lit × DataW H → Nat
  | (.string bytes, d) => bytes.length + uptoBulk d + 1
  | (_, d) => uptoBulk d + 1
 end
def uptoSmall : (H : Type) → List (DataW H) → Bool := fun _ ds => decide (uptoBulkAll ds ≤ 1048576)
def OpenSpec.upto (s : _root_.Go.ChangeSpec) : _root_.Go.OpenSpec := { _root_.Go.OpenSpec.ofChange s with cond := some uptoSmall }

/-- 'laws.FnExactIsRiver', WHERE WHAT IT READS IS OF BULK AT MOST 1048576: true; the input reads as it did. -/
def fnExactIsRiverUptoRow : OpenClaim := { program := "ytfokgobmncbkfaa", sum := "ce243ed100bd3469122be7f371b642c4ec394f4dae729b6fa5523d8a0a15f893", func := "loop.example/g01352/laws.FnExactIsRiver", spec := "fnExactIsRiver", apart := false, narrowed := true }
def FnExactIsRiverUptoSaid : Prop := fnExactIsRiverUptoRow.holds Try.pinned (OpenSpec.upto fnExactIsRiverSpec)

/-- 'laws.FnExactStonesOf', WHERE WHAT IT READS IS OF BULK AT MOST 1048576: true; the input reads as it did. -/
def fnExactStonesOfUptoRow : OpenClaim := { program := "ytfokgobmncbkfaa", sum := "ce243ed100bd3469122be7f371b642c4ec394f4dae729b6fa5523d8a0a15f893", func := "loop.example/g01352/laws.FnExactStonesOf", spec := "fnExactStonesOf", apart := false, narrowed := true }
def FnExactStonesOfUptoSaid : Prop := fnExactStonesOfUptoRow.holds Try.pinned (OpenSpec.upto fnExactStonesOfSpec)

/-- 'laws.FnExactCanCross', WHERE WHAT IT READS IS OF BULK AT MOST 1048576: true; the input reads as it did. -/
def fnExactCanCrossUptoRow : OpenClaim := { program := "ytfokgobmncbkfaa", sum := "ce243ed100bd3469122be7f371b642c4ec394f4dae729b6fa5523d8a0a15f893", func := "loop.example/g01352/laws.FnExactCanCross", spec := "fnExactCanCross", apart := false, narrowed := true }
def FnExactCanCrossUptoSaid : Prop := fnExactCanCrossUptoRow.holds Try.pinned (OpenSpec.upto fnExactCanCrossSpec)

/-- 'laws.FnExactLeastLeap', WHERE WHAT IT READS IS OF BULK AT MOST 1048576: true; the input reads as it did. -/
def fnExactLeastLeapUptoRow : OpenClaim := { program := "ytfokgobmncbkfaa", sum := "ce243ed100bd3469122be7f371b642c4ec394f4dae729b6fa5523d8a0a15f893", func := "loop.example/g01352/laws.FnExactLeastLeap", spec := "fnExactLeastLeap", apart := false, narrowed := true }
def FnExactLeastLeapUptoSaid : Prop := fnExactLeastLeapUptoRow.holds Try.pinned (OpenSpec.upto fnExactLeastLeapSpec)

/-- 'laws.FnExactFewestLeaps', WHERE WHAT IT READS IS OF BULK AT MOST 1048576: true; the input reads as it did. -/
def fnExactFewestLeapsUptoRow : OpenClaim := { program := "ytfokgobmncbkfaa", sum := "ce243ed100bd3469122be7f371b642c4ec394f4dae729b6fa5523d8a0a15f893", func := "loop.example/g01352/laws.FnExactFewestLeaps", spec := "fnExactFewestLeaps", apart := false, narrowed := true }
def FnExactFewestLeapsUptoSaid : Prop := fnExactFewestLeapsUptoRow.holds Try.pinned (OpenSpec.upto fnExactFewestLeapsSpec)

/-- 'laws.FnExactFirstCrossing', WHERE WHAT IT READS IS OF BULK AT MOST 1048576: true; the input reads as it did. -/
def fnExactFirstCrossingUptoRow : OpenClaim := { program := "ytfokgobmncbkfaa", sum := "ce243ed100bd3469122be7f371b642c4ec394f4dae729b6fa5523d8a0a15f893", func := "loop.example/g01352/laws.FnExactFirstCrossing", spec := "fnExactFirstCrossing", apart := false, narrowed := true }
def FnExactFirstCrossingUptoSaid : Prop := fnExactFirstCrossingUptoRow.holds Try.pinned (OpenSpec.upto fnExactFirstCrossingSpec)

end Rows
end Go.Proofs.Ytfokgobmncbkfaa
