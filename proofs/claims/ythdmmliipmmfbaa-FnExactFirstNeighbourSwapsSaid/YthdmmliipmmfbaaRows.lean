/-
  No cell of these rows narrows 'for every input' (looked for: loops, veiled, ifaces, maps, wideKeys, modest, calm, conditions, laid).
  DERIVED. THE GIVEN ROWS OF THIS SEAT. 7 by the template 'for every input the law returns true; each argument reads behind the call as it read before'; 0 by the template 'total and deterministic' (their statements: YthdmmliipmmfbaaTotals.lean).
  GIVEN WITH THE SEED: the statements are not yours to turn. If you find one false, say at which input.
  Laid BY PROGRAM, IN A SANDBOX (cutbox-rows.mjs): the forced cells as the released guide's own fill.sh prints them over the translation 5ff181ee543b2d6e… (all of the seat's roots in one cut). By AI agents, Wed Nov 11 2026. No macro, syntax, notation, axiom, sorry.
-/
import Derived.Test.YthdmmliipmmfbaaChecked
import GoSem.Claim
import GoSem.ClaimJoined
import GoSem.ClaimMapViews
import Derived.JoinedTies
import Derived.KernelRfl
namespace Go.Proofs.Ythdmmliipmmfbaa
/- THE CELL 'sum', in the pinned program and in every row, IS THE sha256 OF THE DUMP (.gsa) THAT YthdmmliipmmfbaaProg.lean LOADS. Nothing in Lean hashes anything: it is a label: what it is worth is what the hold of that sum in a sandbox is worth. -/
noncomputable def Try.pinned : Pinned := { name := "ythdmmliipmmfbaa", sum := "5ff181ee543b2d6e39250fba0caa32f925d3a8508dfc51016170859edb0fef8f", checked := Try.checked }
namespace Rows
def none {H : Type} : Left H := { results := [], args := [] }

/-- 'laws.FnExactIsOrder': WHATEVER THE INPUT: true; the input reads as it did. -/
def fnExactIsOrderSpec : ChangeSpec := { name := "fnExactIsOrder", fn := fun _ => fun
  | [d] => { results := [.lit (.bool true)], args := [d] }
  | _ => none }
def fnExactIsOrderRow : OpenClaim := { program := "ythdmmliipmmfbaa", sum := "5ff181ee543b2d6e39250fba0caa32f925d3a8508dfc51016170859edb0fef8f", func := "loop.example/g01352/laws.FnExactIsOrder", spec := "fnExactIsOrder", apart := false }
def FnExactIsOrderSaid : Prop := fnExactIsOrderRow.holds Try.pinned (OpenSpec.ofChange fnExactIsOrderSpec)

/-- ITS FALSE NEIGHBOUR: 'it returns false'. Refute it at one input. -/
def fnExactIsOrderWrong : ChangeSpec := { name := "fnExactIsOrder", fn := fun _ => fun
  | [d] => { results := [.lit (.bool false)], args := [d] }
  | _ => none }
def FnExactIsOrderWrongFalsely : Prop := fnExactIsOrderRow.holds Try.pinned (OpenSpec.ofChange fnExactIsOrderWrong)

/-- 'laws.FnExactCountInverted': WHATEVER THE INPUT: true; the input reads as it did. -/
def fnExactCountInvertedSpec : ChangeSpec := { name := "fnExactCountInverted", fn := fun _ => fun
  | [d] => { results := [.lit (.bool true)], args := [d] }
  | _ => none }
def fnExactCountInvertedRow : OpenClaim := { program := "ythdmmliipmmfbaa", sum := "5ff181ee543b2d6e39250fba0caa32f925d3a8508dfc51016170859edb0fef8f", func := "loop.example/g01352/laws.FnExactCountInverted", spec := "fnExactCountInverted", apart := false }
def FnExactCountInvertedSaid : Prop := fnExactCountInvertedRow.holds Try.pinned (OpenSpec.ofChange fnExactCountInvertedSpec)

/-- ITS FALSE NEIGHBOUR: 'it returns false'. Refute it at one input. -/
def fnExactCountInvertedWrong : ChangeSpec := { name := "fnExactCountInverted", fn := fun _ => fun
  | [d] => { results := [.lit (.bool false)], args := [d] }
  | _ => none }
def FnExactCountInvertedWrongFalsely : Prop := fnExactCountInvertedRow.holds Try.pinned (OpenSpec.ofChange fnExactCountInvertedWrong)

/-- 'laws.FnExactFirstNeighbourSwaps': WHATEVER THE INPUT: true; the input reads as it did. -/
def fnExactFirstNeighbourSwapsSpec : ChangeSpec := { name := "fnExactFirstNeighbourSwaps", fn := fun _ => fun
  | [d] => { results := [.lit (.bool true)], args := [d] }
  | _ => none }
def fnExactFirstNeighbourSwapsRow : OpenClaim := { program := "ythdmmliipmmfbaa", sum := "5ff181ee543b2d6e39250fba0caa32f925d3a8508dfc51016170859edb0fef8f", func := "loop.example/g01352/laws.FnExactFirstNeighbourSwaps", spec := "fnExactFirstNeighbourSwaps", apart := false }
def FnExactFirstNeighbourSwapsSaid : Prop := fnExactFirstNeighbourSwapsRow.holds Try.pinned (OpenSpec.ofChange fnExactFirstNeighbourSwapsSpec)

/-- ITS FALSE NEIGHBOUR: 'it returns false'. Refute it at one input. -/
def fnExactFirstNeighbourSwapsWrong : ChangeSpec := { name := "fnExactFirstNeighbourSwaps", fn := fun _ => fun
  | [d] => { results := [.lit (.bool false)], args := [d] }
  | _ => none }
def FnExactFirstNeighbourSwapsWrongFalsely : Prop := fnExactFirstNeighbourSwapsRow.holds Try.pinned (OpenSpec.ofChange fnExactFirstNeighbourSwapsWrong)

/-- 'laws.FnExactSwapBoats': WHATEVER THE INPUT: true; the input reads as it did. -/
def fnExactSwapBoatsSpec : ChangeSpec := { name := "fnExactSwapBoats", fn := fun _ => fun
  | [d1, d2, d3] => { results := [.lit (.bool true)], args := [d1, d2, d3] }
  | _ => none }
def fnExactSwapBoatsRow : OpenClaim := { program := "ythdmmliipmmfbaa", sum := "5ff181ee543b2d6e39250fba0caa32f925d3a8508dfc51016170859edb0fef8f", func := "loop.example/g01352/laws.FnExactSwapBoats", spec := "fnExactSwapBoats", apart := false }
def FnExactSwapBoatsSaid : Prop := fnExactSwapBoatsRow.holds Try.pinned (OpenSpec.ofChange fnExactSwapBoatsSpec)

/-- ITS FALSE NEIGHBOUR: 'it returns false'. Refute it at one input. -/
def fnExactSwapBoatsWrong : ChangeSpec := { name := "fnExactSwapBoats", fn := fun _ => fun
  | [d1, d2, d3] => { results := [.lit (.bool false)], args := [d1, d2, d3] }
  | _ => none }
def FnExactSwapBoatsWrongFalsely : Prop := fnExactSwapBoatsRow.holds Try.pinned (OpenSpec.ofChange fnExactSwapBoatsWrong)

/-- 'laws.FnExactMoveBoat': WHATEVER THE INPUT: true; the input reads as it did. -/
def fnExactMoveBoatSpec : ChangeSpec := { name := "fnExactMoveBoat", fn := fun _ => fun
  | [d1, d2, d3] => { results := [.lit (.bool true)], args := [d1, d2, d3] }
  | _ => none }
def fnExactMoveBoatRow : OpenClaim := { program := "ythdmmliipmmfbaa", sum := "5ff181ee543b2d6e39250fba0caa32f925d3a8508dfc51016170859edb0fef8f", func := "loop.example/g01352/laws.FnExactMoveBoat", spec := "fnExactMoveBoat", inPlace := ["slices.overlaps[int]"], apart := false }
def FnExactMoveBoatSaid : Prop := fnExactMoveBoatRow.holds Try.pinned (OpenSpec.ofChange fnExactMoveBoatSpec)

/-- ITS FALSE NEIGHBOUR: 'it returns false'. Refute it at one input. -/
def fnExactMoveBoatWrong : ChangeSpec := { name := "fnExactMoveBoat", fn := fun _ => fun
  | [d1, d2, d3] => { results := [.lit (.bool false)], args := [d1, d2, d3] }
  | _ => none }
def FnExactMoveBoatWrongFalsely : Prop := fnExactMoveBoatRow.holds Try.pinned (OpenSpec.ofChange fnExactMoveBoatWrong)

/-- 'laws.FnExactTurnFront': WHATEVER THE INPUT: true; the input reads as it did. -/
def fnExactTurnFrontSpec : ChangeSpec := { name := "fnExactTurnFront", fn := fun _ => fun
  | [d1, d2] => { results := [.lit (.bool true)], args := [d1, d2] }
  | _ => none }
def fnExactTurnFrontRow : OpenClaim := { program := "ythdmmliipmmfbaa", sum := "5ff181ee543b2d6e39250fba0caa32f925d3a8508dfc51016170859edb0fef8f", func := "loop.example/g01352/laws.FnExactTurnFront", spec := "fnExactTurnFront", apart := false }
def FnExactTurnFrontSaid : Prop := fnExactTurnFrontRow.holds Try.pinned (OpenSpec.ofChange fnExactTurnFrontSpec)

/-- ITS FALSE NEIGHBOUR: 'it returns false'. Refute it at one input. -/
def fnExactTurnFrontWrong : ChangeSpec := { name := "fnExactTurnFront", fn := fun _ => fun
  | [d1, d2] => { results := [.lit (.bool false)], args := [d1, d2] }
  | _ => none }
def FnExactTurnFrontWrongFalsely : Prop := fnExactTurnFrontRow.holds Try.pinned (OpenSpec.ofChange fnExactTurnFrontWrong)

/-- 'laws.FnExactBackOrder': WHATEVER THE INPUT: true; the input reads as it did. -/
def fnExactBackOrderSpec : ChangeSpec := { name := "fnExactBackOrder", fn := fun _ => fun
  | [d] => { results := [.lit (.bool true)], args := [d] }
  | _ => none }
def fnExactBackOrderRow : OpenClaim := { program := "ythdmmliipmmfbaa", sum := "5ff181ee543b2d6e39250fba0caa32f925d3a8508dfc51016170859edb0fef8f", func := "loop.example/g01352/laws.FnExactBackOrder", spec := "fnExactBackOrder", apart := false }
def FnExactBackOrderSaid : Prop := fnExactBackOrderRow.holds Try.pinned (OpenSpec.ofChange fnExactBackOrderSpec)

/-- ITS FALSE NEIGHBOUR: 'it returns false'. Refute it at one input. -/
def fnExactBackOrderWrong : ChangeSpec := { name := "fnExactBackOrder", fn := fun _ => fun
  | [d] => { results := [.lit (.bool false)], args := [d] }
  | _ => none }
def FnExactBackOrderWrongFalsely : Prop := fnExactBackOrderRow.holds Try.pinned (OpenSpec.ofChange fnExactBackOrderWrong)

/- THE SECOND FORM. 'bulk': how many values and letters a reading holds, each counted each time it is reached (what is shared counts as often as it is met; a slice's spare places count too). A statement '..UptoSaid' is the law's where the arguments, and the package variables that the reading takes, are together of bulk at most 1048576: NARROWER than '..Said'. Prove '..Said' where nothing that the law and all that it calls make is longer than what came in: it says more and counts as full. Else prove '..UptoSaid'. A law counts once. -/
mutual
def uptoBulk {H : Type} : DataW H → Nat
  | .lit (.string bytes) => bytes.length + 1
  | .lit _ => 1
  | .nil => 1
  | .ptr d => uptoBulk d + 1
  | .slice elems spare => uptoBulkAll elems + uptoBulkAll spare + 1
  | .agg parts => uptoBulkAll parts + 1
  | .iface _ d => uptoBulk d + 1
  | .map entries => uptoBulkEntries entries + 1
  | .held _ => 1
def uptoBulkAll {H : Type} : List (DataW H) → Nat
  | [] => 0
  | d :: r => uptoBulk d + uptoBulkAll r
def uptoBulkEntries {H : Type} : List (Lit × DataW H) → Nat
  | [] => 0
  | x :: r => uptoBulkEntry x + uptoBulkEntries r
def uptoBulkEntry {H : Type} : Lit × DataW H → Nat
  | (.string bytes, d) => bytes.length + uptoBulk d + 1
  | (_, d) => uptoBulk d + 1
 end
def uptoSmall : (H : Type) → List (DataW H) → Bool := fun _ ds => decide (uptoBulkAll ds ≤ 1048576)
def OpenSpec.upto (s : _root_.Go.ChangeSpec) : _root_.Go.OpenSpec := { _root_.Go.OpenSpec.ofChange s with cond := some uptoSmall }

/-- 'laws.FnExactIsOrder', WHERE WHAT IT READS IS OF BULK AT MOST 1048576: true; the input reads as it did. -/
def fnExactIsOrderUptoRow : OpenClaim := { program := "ythdmmliipmmfbaa", sum := "5ff181ee543b2d6e39250fba0caa32f925d3a8508dfc51016170859edb0fef8f", func := "loop.example/g01352/laws.FnExactIsOrder", spec := "fnExactIsOrder", apart := false, narrowed := true }
def FnExactIsOrderUptoSaid : Prop := fnExactIsOrderUptoRow.holds Try.pinned (OpenSpec.upto fnExactIsOrderSpec)

/-- 'laws.FnExactCountInverted', WHERE WHAT IT READS IS OF BULK AT MOST 1048576: true; the input reads as it did. -/
def fnExactCountInvertedUptoRow : OpenClaim := { program := "ythdmmliipmmfbaa", sum := "5ff181ee543b2d6e39250fba0caa32f925d3a8508dfc51016170859edb0fef8f", func := "loop.example/g01352/laws.FnExactCountInverted", spec := "fnExactCountInverted", apart := false, narrowed := true }
def FnExactCountInvertedUptoSaid : Prop := fnExactCountInvertedUptoRow.holds Try.pinned (OpenSpec.upto fnExactCountInvertedSpec)

/-- 'laws.FnExactFirstNeighbourSwaps', WHERE WHAT IT READS IS OF BULK AT MOST 1048576: true; the input reads as it did. -/
def fnExactFirstNeighbourSwapsUptoRow : OpenClaim := { program := "ythdmmliipmmfbaa", sum := "5ff181ee543b2d6e39250fba0caa32f925d3a8508dfc51016170859edb0fef8f", func := "loop.example/g01352/laws.FnExactFirstNeighbourSwaps", spec := "fnExactFirstNeighbourSwaps", apart := false, narrowed := true }
def FnExactFirstNeighbourSwapsUptoSaid : Prop := fnExactFirstNeighbourSwapsUptoRow.holds Try.pinned (OpenSpec.upto fnExactFirstNeighbourSwapsSpec)

/-- 'laws.FnExactSwapBoats', WHERE WHAT IT READS IS OF BULK AT MOST 1048576: true; the input reads as it did. -/
def fnExactSwapBoatsUptoRow : OpenClaim := { program := "ythdmmliipmmfbaa", sum := "5ff181ee543b2d6e39250fba0caa32f925d3a8508dfc51016170859edb0fef8f", func := "loop.example/g01352/laws.FnExactSwapBoats", spec := "fnExactSwapBoats", apart := false, narrowed := true }
def FnExactSwapBoatsUptoSaid : Prop := fnExactSwapBoatsUptoRow.holds Try.pinned (OpenSpec.upto fnExactSwapBoatsSpec)

/-- 'laws.FnExactMoveBoat', WHERE WHAT IT READS IS OF BULK AT MOST 1048576: true; the input reads as it did. -/
def fnExactMoveBoatUptoRow : OpenClaim := { program := "ythdmmliipmmfbaa", sum := "5ff181ee543b2d6e39250fba0caa32f925d3a8508dfc51016170859edb0fef8f", func := "loop.example/g01352/laws.FnExactMoveBoat", spec := "fnExactMoveBoat", inPlace := ["slices.overlaps[int]"], apart := false, narrowed := true }
def FnExactMoveBoatUptoSaid : Prop := fnExactMoveBoatUptoRow.holds Try.pinned (OpenSpec.upto fnExactMoveBoatSpec)

/-- 'laws.FnExactTurnFront', WHERE WHAT IT READS IS OF BULK AT MOST 1048576: true; the input reads as it did. -/
def fnExactTurnFrontUptoRow : OpenClaim := { program := "ythdmmliipmmfbaa", sum := "5ff181ee543b2d6e39250fba0caa32f925d3a8508dfc51016170859edb0fef8f", func := "loop.example/g01352/laws.FnExactTurnFront", spec := "fnExactTurnFront", apart := false, narrowed := true }
def FnExactTurnFrontUptoSaid : Prop := fnExactTurnFrontUptoRow.holds Try.pinned (OpenSpec.upto fnExactTurnFrontSpec)

/-- 'laws.FnExactBackOrder', WHERE WHAT IT READS IS OF BULK AT MOST 1048576: true; the input reads as it did. -/
def fnExactBackOrderUptoRow : OpenClaim := { program := "ythdmmliipmmfbaa", sum := "5ff181ee543b2d6e39250fba0caa32f925d3a8508dfc51016170859edb0fef8f", func := "loop.example/g01352/laws.FnExactBackOrder", spec := "fnExactBackOrder", apart := false, narrowed := true }
def FnExactBackOrderUptoSaid : Prop := fnExactBackOrderUptoRow.holds Try.pinned (OpenSpec.upto fnExactBackOrderSpec)

end Rows
end Go.Proofs.Ythdmmliipmmfbaa
