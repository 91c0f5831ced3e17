/-
  No cell of these rows narrows 'for every input' (looked for: loops, veiled, ifaces, maps, wideKeys, modest, calm, conditions, laid).
  DERIVED. THE GIVEN ROWS OF THIS SEAT. 8 by the template 'for every input the law returns true; each argument reads behind the call as it read before'; 0 by the template 'total and deterministic' (their statements: YtimbpfenpbkckabTotals.lean).
  GIVEN WITH THE SEED: the statements are not yours to turn. If you find one false, say at which input.
  Laid BY PROGRAM, IN A SANDBOX (cutbox-rows.mjs): the forced cells as the released guide's own fill.sh prints them over the translation 7f705a93ea83fa7f… (all of the seat's roots in one cut). By AI agents, Wed Nov 11 2026. No macro, syntax, notation, axiom, sorry.
-/
import Derived.Test.YtimbpfenpbkckabChecked
import GoSem.Claim
import GoSem.ClaimJoined
import GoSem.ClaimMapViews
import Derived.JoinedTies
import Derived.KernelRfl
namespace Go.Proofs.Ytimbpfenpbkckab
/- THE CELL 'sum', in the pinned program and in every row, IS THE sha256 OF THE DUMP (.gsa) THAT YtimbpfenpbkckabProg.lean LOADS. Nothing in Lean hashes anything: it is a label: what it is worth is what the hold of that sum in a sandbox is worth. -/
noncomputable def Try.pinned : Pinned := { name := "ytimbpfenpbkckab", sum := "7f705a93ea83fa7f80fdada0806984bb1f91e1187b81705035bb9de76a5d519f", checked := Try.checked }
namespace Rows
def none {H : Type} : Left H := { results := [], args := [] }

/-- 'laws.FnExactMostCovered': WHATEVER THE INPUT: true; the input reads as it did. -/
def fnExactMostCoveredSpec : ChangeSpec := { name := "fnExactMostCovered", fn := fun _ => fun
  | [d1, d2, d3] => { results := [.lit (.bool true)], args := [d1, d2, d3] }
  | _ => none }
def fnExactMostCoveredRow : OpenClaim := { program := "ytimbpfenpbkckab", sum := "7f705a93ea83fa7f80fdada0806984bb1f91e1187b81705035bb9de76a5d519f", func := "loop.example/g01352/laws.FnExactMostCovered", spec := "fnExactMostCovered", unfollowed := true, recurses := true, apart := false }
def FnExactMostCoveredSaid : Prop := fnExactMostCoveredRow.holds Try.pinned (OpenSpec.ofChange fnExactMostCoveredSpec)

/-- ITS FALSE NEIGHBOUR: 'it returns false'. Refute it at one input. -/
def fnExactMostCoveredWrong : ChangeSpec := { name := "fnExactMostCovered", fn := fun _ => fun
  | [d1, d2, d3] => { results := [.lit (.bool false)], args := [d1, d2, d3] }
  | _ => none }
def FnExactMostCoveredWrongFalsely : Prop := fnExactMostCoveredRow.holds Try.pinned (OpenSpec.ofChange fnExactMostCoveredWrong)

/-- 'laws.FnExactWidestGap': WHATEVER THE INPUT: true; the input reads as it did. -/
def fnExactWidestGapSpec : ChangeSpec := { name := "fnExactWidestGap", fn := fun _ => fun
  | [d1, d2, d3] => { results := [.lit (.bool true)], args := [d1, d2, d3] }
  | _ => none }
def fnExactWidestGapRow : OpenClaim := { program := "ytimbpfenpbkckab", sum := "7f705a93ea83fa7f80fdada0806984bb1f91e1187b81705035bb9de76a5d519f", func := "loop.example/g01352/laws.FnExactWidestGap", spec := "fnExactWidestGap", unfollowed := true, recurses := true, apart := false }
def FnExactWidestGapSaid : Prop := fnExactWidestGapRow.holds Try.pinned (OpenSpec.ofChange fnExactWidestGapSpec)

/-- ITS FALSE NEIGHBOUR: 'it returns false'. Refute it at one input. -/
def fnExactWidestGapWrong : ChangeSpec := { name := "fnExactWidestGap", fn := fun _ => fun
  | [d1, d2, d3] => { results := [.lit (.bool false)], args := [d1, d2, d3] }
  | _ => none }
def FnExactWidestGapWrongFalsely : Prop := fnExactWidestGapRow.holds Try.pinned (OpenSpec.ofChange fnExactWidestGapWrong)

/-- 'laws.FnExactSortPlanks': WHATEVER THE INPUT: true; the input reads as it did. -/
def fnExactSortPlanksSpec : ChangeSpec := { name := "fnExactSortPlanks", fn := fun _ => fun
  | [d] => { results := [.lit (.bool true)], args := [d] }
  | _ => none }
def fnExactSortPlanksRow : OpenClaim := { program := "ytimbpfenpbkckab", sum := "7f705a93ea83fa7f80fdada0806984bb1f91e1187b81705035bb9de76a5d519f", func := "loop.example/g01352/laws.FnExactSortPlanks", spec := "fnExactSortPlanks", unfollowed := true, recurses := true, apart := false }
def FnExactSortPlanksSaid : Prop := fnExactSortPlanksRow.holds Try.pinned (OpenSpec.ofChange fnExactSortPlanksSpec)

/-- ITS FALSE NEIGHBOUR: 'it returns false'. Refute it at one input. -/
def fnExactSortPlanksWrong : ChangeSpec := { name := "fnExactSortPlanks", fn := fun _ => fun
  | [d] => { results := [.lit (.bool false)], args := [d] }
  | _ => none }
def FnExactSortPlanksWrongFalsely : Prop := fnExactSortPlanksRow.holds Try.pinned (OpenSpec.ofChange fnExactSortPlanksWrong)

/-- 'laws.FnExactCanCoverAll': WHATEVER THE INPUT: true; the input reads as it did. -/
def fnExactCanCoverAllSpec : ChangeSpec := { name := "fnExactCanCoverAll", fn := fun _ => fun
  | [d1, d2, d3] => { results := [.lit (.bool true)], args := [d1, d2, d3] }
  | _ => none }
def fnExactCanCoverAllRow : OpenClaim := { program := "ytimbpfenpbkckab", sum := "7f705a93ea83fa7f80fdada0806984bb1f91e1187b81705035bb9de76a5d519f", func := "loop.example/g01352/laws.FnExactCanCoverAll", spec := "fnExactCanCoverAll", unfollowed := true, recurses := true, apart := false }
def FnExactCanCoverAllSaid : Prop := fnExactCanCoverAllRow.holds Try.pinned (OpenSpec.ofChange fnExactCanCoverAllSpec)

/-- ITS FALSE NEIGHBOUR: 'it returns false'. Refute it at one input. -/
def fnExactCanCoverAllWrong : ChangeSpec := { name := "fnExactCanCoverAll", fn := fun _ => fun
  | [d1, d2, d3] => { results := [.lit (.bool false)], args := [d1, d2, d3] }
  | _ => none }
def FnExactCanCoverAllWrongFalsely : Prop := fnExactCanCoverAllRow.holds Try.pinned (OpenSpec.ofChange fnExactCanCoverAllWrong)

/-- 'laws.FnExactFirstCovering': WHATEVER THE INPUT: true; the input reads as it did. -/
def fnExactFirstCoveringSpec : ChangeSpec := { name := "fnExactFirstCovering", fn := fun _ => fun
  | [d1, d2, d3] => { results := [.lit (.bool true)], args := [d1, d2, d3] }
  | _ => none }
def fnExactFirstCoveringRow : OpenClaim := { program := "ytimbpfenpbkckab", sum := "7f705a93ea83fa7f80fdada0806984bb1f91e1187b81705035bb9de76a5d519f", func := "loop.example/g01352/laws.FnExactFirstCovering", spec := "fnExactFirstCovering", unfollowed := true, recurses := true, apart := false }
def FnExactFirstCoveringSaid : Prop := fnExactFirstCoveringRow.holds Try.pinned (OpenSpec.ofChange fnExactFirstCoveringSpec)

/-- ITS FALSE NEIGHBOUR: 'it returns false'. Refute it at one input. -/
def fnExactFirstCoveringWrong : ChangeSpec := { name := "fnExactFirstCovering", fn := fun _ => fun
  | [d1, d2, d3] => { results := [.lit (.bool false)], args := [d1, d2, d3] }
  | _ => none }
def FnExactFirstCoveringWrongFalsely : Prop := fnExactFirstCoveringRow.holds Try.pinned (OpenSpec.ofChange fnExactFirstCoveringWrong)

/-- 'laws.FnExactCountCoverings': WHATEVER THE INPUT: true; the input reads as it did. -/
def fnExactCountCoveringsSpec : ChangeSpec := { name := "fnExactCountCoverings", fn := fun _ => fun
  | [d1, d2, d3] => { results := [.lit (.bool true)], args := [d1, d2, d3] }
  | _ => none }
def fnExactCountCoveringsRow : OpenClaim := { program := "ytimbpfenpbkckab", sum := "7f705a93ea83fa7f80fdada0806984bb1f91e1187b81705035bb9de76a5d519f", func := "loop.example/g01352/laws.FnExactCountCoverings", spec := "fnExactCountCoverings", unfollowed := true, recurses := true, apart := false }
def FnExactCountCoveringsSaid : Prop := fnExactCountCoveringsRow.holds Try.pinned (OpenSpec.ofChange fnExactCountCoveringsSpec)

/-- ITS FALSE NEIGHBOUR: 'it returns false'. Refute it at one input. -/
def fnExactCountCoveringsWrong : ChangeSpec := { name := "fnExactCountCoverings", fn := fun _ => fun
  | [d1, d2, d3] => { results := [.lit (.bool false)], args := [d1, d2, d3] }
  | _ => none }
def FnExactCountCoveringsWrongFalsely : Prop := fnExactCountCoveringsRow.holds Try.pinned (OpenSpec.ofChange fnExactCountCoveringsWrong)

/-- 'laws.FnExactLeastWood': WHATEVER THE INPUT: true; the input reads as it did. -/
def fnExactLeastWoodSpec : ChangeSpec := { name := "fnExactLeastWood", fn := fun _ => fun
  | [d1, d2, d3] => { results := [.lit (.bool true)], args := [d1, d2, d3] }
  | _ => none }
def fnExactLeastWoodRow : OpenClaim := { program := "ytimbpfenpbkckab", sum := "7f705a93ea83fa7f80fdada0806984bb1f91e1187b81705035bb9de76a5d519f", func := "loop.example/g01352/laws.FnExactLeastWood", spec := "fnExactLeastWood", unfollowed := true, recurses := true, apart := false }
def FnExactLeastWoodSaid : Prop := fnExactLeastWoodRow.holds Try.pinned (OpenSpec.ofChange fnExactLeastWoodSpec)

/-- ITS FALSE NEIGHBOUR: 'it returns false'. Refute it at one input. -/
def fnExactLeastWoodWrong : ChangeSpec := { name := "fnExactLeastWood", fn := fun _ => fun
  | [d1, d2, d3] => { results := [.lit (.bool false)], args := [d1, d2, d3] }
  | _ => none }
def FnExactLeastWoodWrongFalsely : Prop := fnExactLeastWoodRow.holds Try.pinned (OpenSpec.ofChange fnExactLeastWoodWrong)

/-- 'laws.FnExactCanPlankRiver': WHATEVER THE INPUT: true; the input reads as it did. -/
def fnExactCanPlankRiverSpec : ChangeSpec := { name := "fnExactCanPlankRiver", fn := fun _ => fun
  | [d1, d2, d3, d4] => { results := [.lit (.bool true)], args := [d1, d2, d3, d4] }
  | _ => none }
def fnExactCanPlankRiverRow : OpenClaim := { program := "ytimbpfenpbkckab", sum := "7f705a93ea83fa7f80fdada0806984bb1f91e1187b81705035bb9de76a5d519f", func := "loop.example/g01352/laws.FnExactCanPlankRiver", spec := "fnExactCanPlankRiver", unfollowed := true, recurses := true, apart := false }
def FnExactCanPlankRiverSaid : Prop := fnExactCanPlankRiverRow.holds Try.pinned (OpenSpec.ofChange fnExactCanPlankRiverSpec)

/-- ITS FALSE NEIGHBOUR: 'it returns false'. Refute it at one input. -/
def fnExactCanPlankRiverWrong : ChangeSpec := { name := "fnExactCanPlankRiver", fn := fun _ => fun
  | [d1, d2, d3, d4] => { results := [.lit (.bool false)], args := [d1, d2, d3, d4] }
  | _ => none }
def FnExactCanPlankRiverWrongFalsely : Prop := fnExactCanPlankRiverRow.holds Try.pinned (OpenSpec.ofChange fnExactCanPlankRiverWrong)

/- THE SECOND FORM. 'bulk': how many values and letters a reading holds, each counted each time it is reached (what is shared counts as often as it is met; a slice's spare places count too). A statement '..UptoSaid' is the law's where the arguments, and the package variables that the reading takes, are together of bulk at most 1048576: NARROWER than '..Said'. Prove '..Said' where nothing that the law and all that it calls make is longer than what came in: it says more and counts as full. Else prove '..UptoSaid'. A law counts once. -/
mutual
def uptoBulk {H : Type} : DataW H → Nat
  | .lit (.string bytes) => bytes.length + 1
  | .lit _ => 1
  | .nil => 1
  | .ptr d => uptoBulk d + 1
  | .slice elems spare => uptoBulkAll elems + uptoBulkAll spare + 1
  | .agg parts => uptoBulkAll parts + 1
  | .iface _ d => uptoBulk d + 1
  | .map entries => uptoBulkEntries entries + 1
  | .held _ => 1
def uptoBulkAll {H : Type} : List (DataW H) → Nat
  | [] => 0
  | d :: r => uptoBulk d + uptoBulkAll r
def uptoBulkEntries {H : Type} : List (Lit × DataW H) → Nat
  | [] => 0
  | x :: r => uptoBulkEntry x + uptoBulkEntries r
def uptoBulkEntry {H : Type} : Lit × DataW H → Nat
  | (.string bytes, d) => bytes.length + uptoBulk d + 1
  | (_, d) => uptoBulk d + 1
 end
def uptoSmall : (H : Type) → List (DataW H) → Bool := fun _ ds => decide (uptoBulkAll ds ≤ 1048576)
def OpenSpec.upto (s : _root_.Go.ChangeSpec) : _root_.Go.OpenSpec := { _root_.Go.OpenSpec.ofChange s with cond := some uptoSmall }

/-- 'laws.FnExactMostCovered', WHERE WHAT IT READS IS OF BULK AT MOST 1048576: true; the input reads as it did. -/
def fnExactMostCoveredUptoRow : OpenClaim := { program := "ytimbpfenpbkckab", sum := "7f705a93ea83fa7f80fdada0806984bb1f91e1187b81705035bb9de76a5d519f", func := "loop.example/g01352/laws.FnExactMostCovered", spec := "fnExactMostCovered", unfollowed := true, recurses := true, apart := false, narrowed := true }
def FnExactMostCoveredUptoSaid : Prop := fnExactMostCoveredUptoRow.holds Try.pinned (OpenSpec.upto fnExactMostCoveredSpec)

/-- 'laws.FnExactWidestGap', WHERE WHAT IT READS IS OF BULK AT MOST 1048576: true; the input reads as it did. -/
def fnExactWidestGapUptoRow : OpenClaim := { program := "ytimbpfenpbkckab", sum := "7f705a93ea83fa7f80fdada0806984bb1f91e1187b81705035bb9de76a5d519f", func := "loop.example/g01352/laws.FnExactWidestGap", spec := "fnExactWidestGap", unfollowed := true, recurses := true, apart := false, narrowed := true }
def FnExactWidestGapUptoSaid : Prop := fnExactWidestGapUptoRow.holds Try.pinned (OpenSpec.upto fnExactWidestGapSpec)

/-- 'laws.FnExactSortPlanks', WHERE WHAT IT READS IS OF BULK AT MOST 1048576: true; the input reads as it did. -/
def fnExactSortPlanksUptoRow : OpenClaim := { program := "ytimbpfenpbkckab", sum := "7f705a93ea83fa7f80fdada0806984bb1f91e1187b81705035bb9de76a5d519f", func := "loop.example/g01352/laws.FnExactSortPlanks", spec := "fnExactSortPlanks", unfollowed := true, recurses := true, apart := false, narrowed := true }
def FnExactSortPlanksUptoSaid : Prop := fnExactSortPlanksUptoRow.holds Try.pinned (OpenSpec.upto fnExactSortPlanksSpec)

/-- 'laws.FnExactCanCoverAll', WHERE WHAT IT READS IS OF BULK AT MOST 1048576: true; the input reads as it did. -/
def fnExactCanCoverAllUptoRow : OpenClaim := { program := "ytimbpfenpbkckab", sum := "7f705a93ea83fa7f80fdada0806984bb1f91e1187b81705035bb9de76a5d519f", func := "loop.example/g01352/laws.FnExactCanCoverAll", spec := "fnExactCanCoverAll", unfollowed := true, recurses := true, apart := false, narrowed := true }
def FnExactCanCoverAllUptoSaid : Prop := fnExactCanCoverAllUptoRow.holds Try.pinned (OpenSpec.upto fnExactCanCoverAllSpec)

/-- 'laws.FnExactFirstCovering', WHERE WHAT IT READS IS OF BULK AT MOST 1048576: true; the input reads as it did. -/
def fnExactFirstCoveringUptoRow : OpenClaim := { program := "ytimbpfenpbkckab", sum := "7f705a93ea83fa7f80fdada0806984bb1f91e1187b81705035bb9de76a5d519f", func := "loop.example/g01352/laws.FnExactFirstCovering", spec := "fnExactFirstCovering", unfollowed := true, recurses := true, apart := false, narrowed := true }
def FnExactFirstCoveringUptoSaid : Prop := fnExactFirstCoveringUptoRow.holds Try.pinned (OpenSpec.upto fnExactFirstCoveringSpec)

/-- 'laws.FnExactCountCoverings', WHERE WHAT IT READS IS OF BULK AT MOST 1048576: true; the input reads as it did. -/
def fnExactCountCoveringsUptoRow : OpenClaim := { program := "ytimbpfenpbkckab", sum := "7f705a93ea83fa7f80fdada0806984bb1f91e1187b81705035bb9de76a5d519f", func := "loop.example/g01352/laws.FnExactCountCoverings", spec := "fnExactCountCoverings", unfollowed := true, recurses := true, apart := false, narrowed := true }
def FnExactCountCoveringsUptoSaid : Prop := fnExactCountCoveringsUptoRow.holds Try.pinned (OpenSpec.upto fnExactCountCoveringsSpec)

/-- 'laws.FnExactLeastWood', WHERE WHAT IT READS IS OF BULK AT MOST 1048576: true; the input reads as it did. -/
def fnExactLeastWoodUptoRow : OpenClaim := { program := "ytimbpfenpbkckab", sum := "7f705a93ea83fa7f80fdada0806984bb1f91e1187b81705035bb9de76a5d519f", func := "loop.example/g01352/laws.FnExactLeastWood", spec := "fnExactLeastWood", unfollowed := true, recurses := true, apart := false, narrowed := true }
def FnExactLeastWoodUptoSaid : Prop := fnExactLeastWoodUptoRow.holds Try.pinned (OpenSpec.upto fnExactLeastWoodSpec)

/-- 'laws.FnExactCanPlankRiver', WHERE WHAT IT READS IS OF BULK AT MOST 1048576: true; the input reads as it did. -/
def fnExactCanPlankRiverUptoRow : OpenClaim := { program := "ytimbpfenpbkckab", sum := "7f705a93ea83fa7f80fdada0806984bb1f91e1187b81705035bb9de76a5d519f", func := "loop.example/g01352/laws.FnExactCanPlankRiver", spec := "fnExactCanPlankRiver", unfollowed := true, recurses := true, apart := false, narrowed := true }
def FnExactCanPlankRiverUptoSaid : Prop := fnExactCanPlankRiverUptoRow.holds Try.pinned (OpenSpec.upto fnExactCanPlankRiverSpec)

end Rows
end Go.Proofs.Ytimbpfenpbkckab
