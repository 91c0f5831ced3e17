/-
  No cell of these rows narrows 'for every input' (looked for: loops, veiled, ifaces, maps, wideKeys, modest, calm, conditions, laid).
  DERIVED. THE GIVEN ROWS OF THIS SEAT. 7 by the template 'for every input the law returns true; each argument reads behind the call as it read before'; 0 by the template 'total and deterministic' (their statements: YtihdajiikonijabTotals.lean).
  GIVEN WITH THE SEED: the statements are not yours to turn. If you find one false, say at which input.
  Laid BY PROGRAM, IN A SANDBOX (cutbox-rows.mjs): the forced cells as the released guide's own fill.sh prints them over the translation 796e06986c505f8b… (all of the seat's roots in one cut). By AI agents, Wed Nov 11 2026. No macro, syntax, notation, axiom, sorry.
-/
import Derived.Test.YtihdajiikonijabChecked
import GoSem.Claim
import GoSem.ClaimJoined
import GoSem.ClaimMapViews
import Derived.JoinedTies
import Derived.KernelRfl
namespace Go.Proofs.Ytihdajiikonijab
/- THE CELL 'sum', in the pinned program and in every row, IS THE sha256 OF THE DUMP (.gsa) THAT YtihdajiikonijabProg.lean LOADS. Nothing in Lean hashes anything: it is a label: what it is worth is what the hold of that sum in a sandbox is worth. -/
noncomputable def Try.pinned : Pinned := { name := "ytihdajiikonijab", sum := "796e06986c505f8b2b68971f60eb5d168b392c5732089980cef3c57c77345cf4", checked := Try.checked }
namespace Rows
def none {H : Type} : Left H := { results := [], args := [] }

/-- 'laws.FnExactTollBetween': WHATEVER THE INPUT: true; the input reads as it did. -/
def fnExactTollBetweenSpec : ChangeSpec := { name := "fnExactTollBetween", fn := fun _ => fun
  | [d1, d2, d3] => { results := [.lit (.bool true)], args := [d1, d2, d3] }
  | _ => none }
def fnExactTollBetweenRow : OpenClaim := { program := "ytihdajiikonijab", sum := "796e06986c505f8b2b68971f60eb5d168b392c5732089980cef3c57c77345cf4", func := "loop.example/g01352/laws.FnExactTollBetween", spec := "fnExactTollBetween", apart := false }
def FnExactTollBetweenSaid : Prop := fnExactTollBetweenRow.holds Try.pinned (OpenSpec.ofChange fnExactTollBetweenSpec)

/-- ITS FALSE NEIGHBOUR: 'it returns false'. Refute it at one input. -/
def fnExactTollBetweenWrong : ChangeSpec := { name := "fnExactTollBetween", fn := fun _ => fun
  | [d1, d2, d3] => { results := [.lit (.bool false)], args := [d1, d2, d3] }
  | _ => none }
def FnExactTollBetweenWrongFalsely : Prop := fnExactTollBetweenRow.holds Try.pinned (OpenSpec.ofChange fnExactTollBetweenWrong)

/-- 'laws.FnExactFirstWayOver': WHATEVER THE INPUT: true; the input reads as it did. -/
def fnExactFirstWayOverSpec : ChangeSpec := { name := "fnExactFirstWayOver", fn := fun _ => fun
  | [d1, d2, d3] => { results := [.lit (.bool true)], args := [d1, d2, d3] }
  | _ => none }
def fnExactFirstWayOverRow : OpenClaim := { program := "ytihdajiikonijab", sum := "796e06986c505f8b2b68971f60eb5d168b392c5732089980cef3c57c77345cf4", func := "loop.example/g01352/laws.FnExactFirstWayOver", spec := "fnExactFirstWayOver", recurses := true, apart := false }
def FnExactFirstWayOverSaid : Prop := fnExactFirstWayOverRow.holds Try.pinned (OpenSpec.ofChange fnExactFirstWayOverSpec)

/-- ITS FALSE NEIGHBOUR: 'it returns false'. Refute it at one input. -/
def fnExactFirstWayOverWrong : ChangeSpec := { name := "fnExactFirstWayOver", fn := fun _ => fun
  | [d1, d2, d3] => { results := [.lit (.bool false)], args := [d1, d2, d3] }
  | _ => none }
def FnExactFirstWayOverWrongFalsely : Prop := fnExactFirstWayOverRow.holds Try.pinned (OpenSpec.ofChange fnExactFirstWayOverWrong)

/-- 'laws.FnExactBridgesBetween': WHATEVER THE INPUT: true; the input reads as it did. -/
def fnExactBridgesBetweenSpec : ChangeSpec := { name := "fnExactBridgesBetween", fn := fun _ => fun
  | [d1, d2, d3] => { results := [.lit (.bool true)], args := [d1, d2, d3] }
  | _ => none }
def fnExactBridgesBetweenRow : OpenClaim := { program := "ytihdajiikonijab", sum := "796e06986c505f8b2b68971f60eb5d168b392c5732089980cef3c57c77345cf4", func := "loop.example/g01352/laws.FnExactBridgesBetween", spec := "fnExactBridgesBetween", apart := false }
def FnExactBridgesBetweenSaid : Prop := fnExactBridgesBetweenRow.holds Try.pinned (OpenSpec.ofChange fnExactBridgesBetweenSpec)

/-- ITS FALSE NEIGHBOUR: 'it returns false'. Refute it at one input. -/
def fnExactBridgesBetweenWrong : ChangeSpec := { name := "fnExactBridgesBetween", fn := fun _ => fun
  | [d1, d2, d3] => { results := [.lit (.bool false)], args := [d1, d2, d3] }
  | _ => none }
def FnExactBridgesBetweenWrongFalsely : Prop := fnExactBridgesBetweenRow.holds Try.pinned (OpenSpec.ofChange fnExactBridgesBetweenWrong)

/-- 'laws.FnExactFarthestIsland': WHATEVER THE INPUT: true; the input reads as it did. -/
def fnExactFarthestIslandSpec : ChangeSpec := { name := "fnExactFarthestIsland", fn := fun _ => fun
  | [d1, d2] => { results := [.lit (.bool true)], args := [d1, d2] }
  | _ => none }
def fnExactFarthestIslandRow : OpenClaim := { program := "ytihdajiikonijab", sum := "796e06986c505f8b2b68971f60eb5d168b392c5732089980cef3c57c77345cf4", func := "loop.example/g01352/laws.FnExactFarthestIsland", spec := "fnExactFarthestIsland", recurses := true, apart := false }
def FnExactFarthestIslandSaid : Prop := fnExactFarthestIslandRow.holds Try.pinned (OpenSpec.ofChange fnExactFarthestIslandSpec)

/-- ITS FALSE NEIGHBOUR: 'it returns false'. Refute it at one input. -/
def fnExactFarthestIslandWrong : ChangeSpec := { name := "fnExactFarthestIsland", fn := fun _ => fun
  | [d1, d2] => { results := [.lit (.bool false)], args := [d1, d2] }
  | _ => none }
def FnExactFarthestIslandWrongFalsely : Prop := fnExactFarthestIslandRow.holds Try.pinned (OpenSpec.ofChange fnExactFarthestIslandWrong)

/-- 'laws.FnExactCenterIsland': WHATEVER THE INPUT: true; the input reads as it did. -/
def fnExactCenterIslandSpec : ChangeSpec := { name := "fnExactCenterIsland", fn := fun _ => fun
  | [d] => { results := [.lit (.bool true)], args := [d] }
  | _ => none }
def fnExactCenterIslandRow : OpenClaim := { program := "ytihdajiikonijab", sum := "796e06986c505f8b2b68971f60eb5d168b392c5732089980cef3c57c77345cf4", func := "loop.example/g01352/laws.FnExactCenterIsland", spec := "fnExactCenterIsland", recurses := true, apart := false }
def FnExactCenterIslandSaid : Prop := fnExactCenterIslandRow.holds Try.pinned (OpenSpec.ofChange fnExactCenterIslandSpec)

/-- ITS FALSE NEIGHBOUR: 'it returns false'. Refute it at one input. -/
def fnExactCenterIslandWrong : ChangeSpec := { name := "fnExactCenterIsland", fn := fun _ => fun
  | [d] => { results := [.lit (.bool false)], args := [d] }
  | _ => none }
def FnExactCenterIslandWrongFalsely : Prop := fnExactCenterIslandRow.holds Try.pinned (OpenSpec.ofChange fnExactCenterIslandWrong)

/-- 'laws.FnExactHasRound': WHATEVER THE INPUT: true; the input reads as it did. -/
def fnExactHasRoundSpec : ChangeSpec := { name := "fnExactHasRound", fn := fun _ => fun
  | [d] => { results := [.lit (.bool true)], args := [d] }
  | _ => none }
def fnExactHasRoundRow : OpenClaim := { program := "ytihdajiikonijab", sum := "796e06986c505f8b2b68971f60eb5d168b392c5732089980cef3c57c77345cf4", func := "loop.example/g01352/laws.FnExactHasRound", spec := "fnExactHasRound", unfollowed := true, recurses := true, apart := false }
def FnExactHasRoundSaid : Prop := fnExactHasRoundRow.holds Try.pinned (OpenSpec.ofChange fnExactHasRoundSpec)

/-- ITS FALSE NEIGHBOUR: 'it returns false'. Refute it at one input. -/
def fnExactHasRoundWrong : ChangeSpec := { name := "fnExactHasRound", fn := fun _ => fun
  | [d] => { results := [.lit (.bool false)], args := [d] }
  | _ => none }
def FnExactHasRoundWrongFalsely : Prop := fnExactHasRoundRow.holds Try.pinned (OpenSpec.ofChange fnExactHasRoundWrong)

/-- 'laws.FnExactFirstRound': WHATEVER THE INPUT: true; the input reads as it did. -/
def fnExactFirstRoundSpec : ChangeSpec := { name := "fnExactFirstRound", fn := fun _ => fun
  | [d1, d2] => { results := [.lit (.bool true)], args := [d1, d2] }
  | _ => none }
def fnExactFirstRoundRow : OpenClaim := { program := "ytihdajiikonijab", sum := "796e06986c505f8b2b68971f60eb5d168b392c5732089980cef3c57c77345cf4", func := "loop.example/g01352/laws.FnExactFirstRound", spec := "fnExactFirstRound", unfollowed := true, recurses := true, apart := false }
def FnExactFirstRoundSaid : Prop := fnExactFirstRoundRow.holds Try.pinned (OpenSpec.ofChange fnExactFirstRoundSpec)

/-- ITS FALSE NEIGHBOUR: 'it returns false'. Refute it at one input. -/
def fnExactFirstRoundWrong : ChangeSpec := { name := "fnExactFirstRound", fn := fun _ => fun
  | [d1, d2] => { results := [.lit (.bool false)], args := [d1, d2] }
  | _ => none }
def FnExactFirstRoundWrongFalsely : Prop := fnExactFirstRoundRow.holds Try.pinned (OpenSpec.ofChange fnExactFirstRoundWrong)

/- THE SECOND FORM. 'bulk': how many values and letters a reading holds, each counted each time it is reached (what is shared counts as often as it is met; a slice's spare places count too). A statement '..UptoSaid' is the law's where the arguments, and the package variables that the reading takes, are together of bulk at most 1048576: NARROWER than '..Said'. Prove '..Said' where nothing that the law and all that it calls make is longer than what came in: it says more and counts as full. Else prove '..UptoSaid'. A law counts once. -/
mutual
def uptoBulk {H : Type} : DataW H → Nat
  | .lit (.string bytes) => bytes.length + 1
  | .lit _ => 1
  | .nil => 1
  | .ptr d => uptoBulk d + 1
  | .slice elems spare => uptoBulkAll elems + uptoBulkAll spare + 1
  | .agg parts => uptoBulkAll parts + 1
  | .iface _ d => uptoBulk d + 1
  | .map entries => uptoBulkEntries entries + 1
  | .held _ => 1
def uptoBulkAll {H : Type} : List (DataW H) → Nat
  | [] => 0
  | d :: r => uptoBulk d + uptoBulkAll r
def uptoBulkEntries {H : Type} : List (Lit × DataW H) → Nat
  | [] => 0
  | x :: r => uptoBulkEntry x + uptoBulkEntries r
def uptoBulkEntry {H : Type} : Lit × DataW H → Nat
  | (.string bytes, d) => bytes.length + uptoBulk d + 1
  | (_, d) => uptoBulk d + 1
 end
def uptoSmall : (H : Type) → List (DataW H) → Bool := fun _ ds => decide (uptoBulkAll ds ≤ 1048576)
def OpenSpec.upto (s : _root_.Go.ChangeSpec) : _root_.Go.OpenSpec := { _root_.Go.OpenSpec.ofChange s with cond := some uptoSmall }

/-- 'laws.FnExactTollBetween', WHERE WHAT IT READS IS OF BULK AT MOST 1048576: true; the input reads as it did. -/
def fnExactTollBetweenUptoRow : OpenClaim := { program := "ytihdajiikonijab", sum := "796e06986c505f8b2b68971f60eb5d168b392c5732089980cef3c57c77345cf4", func := "loop.example/g01352/laws.FnExactTollBetween", spec := "fnExactTollBetween", apart := false, narrowed := true }
def FnExactTollBetweenUptoSaid : Prop := fnExactTollBetweenUptoRow.holds Try.pinned (OpenSpec.upto fnExactTollBetweenSpec)

/-- 'laws.FnExactFirstWayOver', WHERE WHAT IT READS IS OF BULK AT MOST 1048576: true; the input reads as it did. -/
def fnExactFirstWayOverUptoRow : OpenClaim := { program := "ytihdajiikonijab", sum := "796e06986c505f8b2b68971f60eb5d168b392c5732089980cef3c57c77345cf4", func := "loop.example/g01352/laws.FnExactFirstWayOver", spec := "fnExactFirstWayOver", recurses := true, apart := false, narrowed := true }
def FnExactFirstWayOverUptoSaid : Prop := fnExactFirstWayOverUptoRow.holds Try.pinned (OpenSpec.upto fnExactFirstWayOverSpec)

/-- 'laws.FnExactBridgesBetween', WHERE WHAT IT READS IS OF BULK AT MOST 1048576: true; the input reads as it did. -/
def fnExactBridgesBetweenUptoRow : OpenClaim := { program := "ytihdajiikonijab", sum := "796e06986c505f8b2b68971f60eb5d168b392c5732089980cef3c57c77345cf4", func := "loop.example/g01352/laws.FnExactBridgesBetween", spec := "fnExactBridgesBetween", apart := false, narrowed := true }
def FnExactBridgesBetweenUptoSaid : Prop := fnExactBridgesBetweenUptoRow.holds Try.pinned (OpenSpec.upto fnExactBridgesBetweenSpec)

/-- 'laws.FnExactFarthestIsland', WHERE WHAT IT READS IS OF BULK AT MOST 1048576: true; the input reads as it did. -/
def fnExactFarthestIslandUptoRow : OpenClaim := { program := "ytihdajiikonijab", sum := "796e06986c505f8b2b68971f60eb5d168b392c5732089980cef3c57c77345cf4", func := "loop.example/g01352/laws.FnExactFarthestIsland", spec := "fnExactFarthestIsland", recurses := true, apart := false, narrowed := true }
def FnExactFarthestIslandUptoSaid : Prop := fnExactFarthestIslandUptoRow.holds Try.pinned (OpenSpec.upto fnExactFarthestIslandSpec)

/-- 'laws.FnExactCenterIsland', WHERE WHAT IT READS IS OF BULK AT MOST 1048576: true; the input reads as it did. -/
def fnExactCenterIslandUptoRow : OpenClaim := { program := "ytihdajiikonijab", sum := "796e06986c505f8b2b68971f60eb5d168b392c5732089980cef3c57c77345cf4", func := "loop.example/g01352/laws.FnExactCenterIsland", spec := "fnExactCenterIsland", recurses := true, apart := false, narrowed := true }
def FnExactCenterIslandUptoSaid : Prop := fnExactCenterIslandUptoRow.holds Try.pinned (OpenSpec.upto fnExactCenterIslandSpec)

/-- 'laws.FnExactHasRound', WHERE WHAT IT READS IS OF BULK AT MOST 1048576: true; the input reads as it did. -/
def fnExactHasRoundUptoRow : OpenClaim := { program := "ytihdajiikonijab", sum := "796e06986c505f8b2b68971f60eb5d168b392c5732089980cef3c57c77345cf4", func := "loop.example/g01352/laws.FnExactHasRound", spec := "fnExactHasRound", unfollowed := true, recurses := true, apart := false, narrowed := true }
def FnExactHasRoundUptoSaid : Prop := fnExactHasRoundUptoRow.holds Try.pinned (OpenSpec.upto fnExactHasRoundSpec)

/-- 'laws.FnExactFirstRound', WHERE WHAT IT READS IS OF BULK AT MOST 1048576: true; the input reads as it did. -/
def fnExactFirstRoundUptoRow : OpenClaim := { program := "ytihdajiikonijab", sum := "796e06986c505f8b2b68971f60eb5d168b392c5732089980cef3c57c77345cf4", func := "loop.example/g01352/laws.FnExactFirstRound", spec := "fnExactFirstRound", unfollowed := true, recurses := true, apart := false, narrowed := true }
def FnExactFirstRoundUptoSaid : Prop := fnExactFirstRoundUptoRow.holds Try.pinned (OpenSpec.upto fnExactFirstRoundSpec)

end Rows
end Go.Proofs.Ytihdajiikonijab
