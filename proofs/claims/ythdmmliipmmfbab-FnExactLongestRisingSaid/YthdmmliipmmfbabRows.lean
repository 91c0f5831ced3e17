/-
  No cell of these rows narrows 'for every input' (looked for: loops, veiled, ifaces, maps, wideKeys, modest, calm, conditions, laid).
  DERIVED. THE GIVEN ROWS OF THIS SEAT. 7 by the template 'for every input the law returns true; each argument reads behind the call as it read before'; 0 by the template 'total and deterministic' (their statements: YthdmmliipmmfbabTotals.lean).
  GIVEN WITH THE SEED: the statements are not yours to turn. If you find one false, say at which input.
  Laid BY PROGRAM, IN A SANDBOX (cutbox-rows.mjs): the forced cells as the released guide's own fill.sh prints them over the translation a9d1027f7d687ff9… (all of the seat's roots in one cut). By AI agents, Wed Nov 11 2026. No macro, syntax, notation, axiom, sorry.
-/
import Derived.Test.YthdmmliipmmfbabChecked
import GoSem.Claim
import GoSem.ClaimJoined
import GoSem.ClaimMapViews
import Derived.JoinedTies
import Derived.KernelRfl
namespace Go.Proofs.Ythdmmliipmmfbab
/- THE CELL 'sum', in the pinned program and in every row, IS THE sha256 OF THE DUMP (.gsa) THAT YthdmmliipmmfbabProg.lean LOADS. Nothing in Lean hashes anything: it is a label: what it is worth is what the hold of that sum in a sandbox is worth. -/
noncomputable def Try.pinned : Pinned := { name := "ythdmmliipmmfbab", sum := "a9d1027f7d687ff9e37d7307afc1920a4c6c9257b72f8c0bb2f77b982789fa45", checked := Try.checked }
namespace Rows
def none {H : Type} : Left H := { results := [], args := [] }

/-- 'laws.FnExactFollowOrder': WHATEVER THE INPUT: true; the input reads as it did. -/
def fnExactFollowOrderSpec : ChangeSpec := { name := "fnExactFollowOrder", fn := fun _ => fun
  | [d1, d2] => { results := [.lit (.bool true)], args := [d1, d2] }
  | _ => none }
def fnExactFollowOrderRow : OpenClaim := { program := "ythdmmliipmmfbab", sum := "a9d1027f7d687ff9e37d7307afc1920a4c6c9257b72f8c0bb2f77b982789fa45", func := "loop.example/g01352/laws.FnExactFollowOrder", spec := "fnExactFollowOrder", apart := false }
def FnExactFollowOrderSaid : Prop := fnExactFollowOrderRow.holds Try.pinned (OpenSpec.ofChange fnExactFollowOrderSpec)

/-- ITS FALSE NEIGHBOUR: 'it returns false'. Refute it at one input. -/
def fnExactFollowOrderWrong : ChangeSpec := { name := "fnExactFollowOrder", fn := fun _ => fun
  | [d1, d2] => { results := [.lit (.bool false)], args := [d1, d2] }
  | _ => none }
def FnExactFollowOrderWrongFalsely : Prop := fnExactFollowOrderRow.holds Try.pinned (OpenSpec.ofChange fnExactFollowOrderWrong)

/-- 'laws.FnExactRankOfOrder': WHATEVER THE INPUT: true; the input reads as it did. -/
def fnExactRankOfOrderSpec : ChangeSpec := { name := "fnExactRankOfOrder", fn := fun _ => fun
  | [d] => { results := [.lit (.bool true)], args := [d] }
  | _ => none }
def fnExactRankOfOrderRow : OpenClaim := { program := "ythdmmliipmmfbab", sum := "a9d1027f7d687ff9e37d7307afc1920a4c6c9257b72f8c0bb2f77b982789fa45", func := "loop.example/g01352/laws.FnExactRankOfOrder", spec := "fnExactRankOfOrder", apart := false }
def FnExactRankOfOrderSaid : Prop := fnExactRankOfOrderRow.holds Try.pinned (OpenSpec.ofChange fnExactRankOfOrderSpec)

/-- ITS FALSE NEIGHBOUR: 'it returns false'. Refute it at one input. -/
def fnExactRankOfOrderWrong : ChangeSpec := { name := "fnExactRankOfOrder", fn := fun _ => fun
  | [d] => { results := [.lit (.bool false)], args := [d] }
  | _ => none }
def FnExactRankOfOrderWrongFalsely : Prop := fnExactRankOfOrderRow.holds Try.pinned (OpenSpec.ofChange fnExactRankOfOrderWrong)

/-- 'laws.FnExactOrderOfRank': WHATEVER THE INPUT: true; the input reads as it did. -/
def fnExactOrderOfRankSpec : ChangeSpec := { name := "fnExactOrderOfRank", fn := fun _ => fun
  | [d1, d2] => { results := [.lit (.bool true)], args := [d1, d2] }
  | _ => none }
def fnExactOrderOfRankRow : OpenClaim := { program := "ythdmmliipmmfbab", sum := "a9d1027f7d687ff9e37d7307afc1920a4c6c9257b72f8c0bb2f77b982789fa45", func := "loop.example/g01352/laws.FnExactOrderOfRank", spec := "fnExactOrderOfRank", apart := false }
def FnExactOrderOfRankSaid : Prop := fnExactOrderOfRankRow.holds Try.pinned (OpenSpec.ofChange fnExactOrderOfRankSpec)

/-- ITS FALSE NEIGHBOUR: 'it returns false'. Refute it at one input. -/
def fnExactOrderOfRankWrong : ChangeSpec := { name := "fnExactOrderOfRank", fn := fun _ => fun
  | [d1, d2] => { results := [.lit (.bool false)], args := [d1, d2] }
  | _ => none }
def FnExactOrderOfRankWrongFalsely : Prop := fnExactOrderOfRankRow.holds Try.pinned (OpenSpec.ofChange fnExactOrderOfRankWrong)

/-- 'laws.FnExactCountWithInverted': WHATEVER THE INPUT: true; the input reads as it did. -/
def fnExactCountWithInvertedSpec : ChangeSpec := { name := "fnExactCountWithInverted", fn := fun _ => fun
  | [d1, d2] => { results := [.lit (.bool true)], args := [d1, d2] }
  | _ => none }
def fnExactCountWithInvertedRow : OpenClaim := { program := "ythdmmliipmmfbab", sum := "a9d1027f7d687ff9e37d7307afc1920a4c6c9257b72f8c0bb2f77b982789fa45", func := "loop.example/g01352/laws.FnExactCountWithInverted", spec := "fnExactCountWithInverted", recurses := true, apart := false }
def FnExactCountWithInvertedSaid : Prop := fnExactCountWithInvertedRow.holds Try.pinned (OpenSpec.ofChange fnExactCountWithInvertedSpec)

/-- ITS FALSE NEIGHBOUR: 'it returns false'. Refute it at one input. -/
def fnExactCountWithInvertedWrong : ChangeSpec := { name := "fnExactCountWithInverted", fn := fun _ => fun
  | [d1, d2] => { results := [.lit (.bool false)], args := [d1, d2] }
  | _ => none }
def FnExactCountWithInvertedWrongFalsely : Prop := fnExactCountWithInvertedRow.holds Try.pinned (OpenSpec.ofChange fnExactCountWithInvertedWrong)

/-- 'laws.FnExactCountWithCycles': WHATEVER THE INPUT: true; the input reads as it did. -/
def fnExactCountWithCyclesSpec : ChangeSpec := { name := "fnExactCountWithCycles", fn := fun _ => fun
  | [d1, d2] => { results := [.lit (.bool true)], args := [d1, d2] }
  | _ => none }
def fnExactCountWithCyclesRow : OpenClaim := { program := "ythdmmliipmmfbab", sum := "a9d1027f7d687ff9e37d7307afc1920a4c6c9257b72f8c0bb2f77b982789fa45", func := "loop.example/g01352/laws.FnExactCountWithCycles", spec := "fnExactCountWithCycles", recurses := true, apart := false }
def FnExactCountWithCyclesSaid : Prop := fnExactCountWithCyclesRow.holds Try.pinned (OpenSpec.ofChange fnExactCountWithCyclesSpec)

/-- ITS FALSE NEIGHBOUR: 'it returns false'. Refute it at one input. -/
def fnExactCountWithCyclesWrong : ChangeSpec := { name := "fnExactCountWithCycles", fn := fun _ => fun
  | [d1, d2] => { results := [.lit (.bool false)], args := [d1, d2] }
  | _ => none }
def FnExactCountWithCyclesWrongFalsely : Prop := fnExactCountWithCyclesRow.holds Try.pinned (OpenSpec.ofChange fnExactCountWithCyclesWrong)

/-- 'laws.FnExactLongestRising': WHATEVER THE INPUT: true; the input reads as it did. -/
def fnExactLongestRisingSpec : ChangeSpec := { name := "fnExactLongestRising", fn := fun _ => fun
  | [d] => { results := [.lit (.bool true)], args := [d] }
  | _ => none }
def fnExactLongestRisingRow : OpenClaim := { program := "ythdmmliipmmfbab", sum := "a9d1027f7d687ff9e37d7307afc1920a4c6c9257b72f8c0bb2f77b982789fa45", func := "loop.example/g01352/laws.FnExactLongestRising", spec := "fnExactLongestRising", unfollowed := true, recurses := true, apart := false }
def FnExactLongestRisingSaid : Prop := fnExactLongestRisingRow.holds Try.pinned (OpenSpec.ofChange fnExactLongestRisingSpec)

/-- ITS FALSE NEIGHBOUR: 'it returns false'. Refute it at one input. -/
def fnExactLongestRisingWrong : ChangeSpec := { name := "fnExactLongestRising", fn := fun _ => fun
  | [d] => { results := [.lit (.bool false)], args := [d] }
  | _ => none }
def FnExactLongestRisingWrongFalsely : Prop := fnExactLongestRisingRow.holds Try.pinned (OpenSpec.ofChange fnExactLongestRisingWrong)

/-- 'laws.FnExactFewestInserts': WHATEVER THE INPUT: true; the input reads as it did. -/
def fnExactFewestInsertsSpec : ChangeSpec := { name := "fnExactFewestInserts", fn := fun _ => fun
  | [d] => { results := [.lit (.bool true)], args := [d] }
  | _ => none }
def fnExactFewestInsertsRow : OpenClaim := { program := "ythdmmliipmmfbab", sum := "a9d1027f7d687ff9e37d7307afc1920a4c6c9257b72f8c0bb2f77b982789fa45", func := "loop.example/g01352/laws.FnExactFewestInserts", spec := "fnExactFewestInserts", unfollowed := true, recurses := true, apart := false }
def FnExactFewestInsertsSaid : Prop := fnExactFewestInsertsRow.holds Try.pinned (OpenSpec.ofChange fnExactFewestInsertsSpec)

/-- ITS FALSE NEIGHBOUR: 'it returns false'. Refute it at one input. -/
def fnExactFewestInsertsWrong : ChangeSpec := { name := "fnExactFewestInserts", fn := fun _ => fun
  | [d] => { results := [.lit (.bool false)], args := [d] }
  | _ => none }
def FnExactFewestInsertsWrongFalsely : Prop := fnExactFewestInsertsRow.holds Try.pinned (OpenSpec.ofChange fnExactFewestInsertsWrong)

/- THE SECOND FORM. 'bulk': how many values and letters a reading holds, each counted each time it is reached (what is shared counts as often as it is met; a slice's spare places count too). A statement '..UptoSaid' is the law's where the arguments, and the package variables that the reading takes, are together of bulk at most 1048576: NARROWER than '..Said'. Prove '..Said' where nothing that the law and all that it calls make is longer than what came in: it says more and counts as full. Else prove '..UptoSaid'. A law counts once. -/
mutual
def uptoBulk {H : Type} : DataW H → Nat
  | .lit (.string bytes) => bytes.length + 1
  | .lit _ => 1
  | .nil => 1
  | .ptr d => uptoBulk d + 1
  | .slice elems spare => uptoBulkAll elems + uptoBulkAll spare + 1
  | .agg parts => uptoBulkAll parts + 1
  | .iface _ d => uptoBulk d + 1
  | .map entries => uptoBulkEntries entries + 1
  | .held _ => 1
def uptoBulkAll {H : Type} : List (DataW H) → Nat
  | [] => 0
  | d :: r => uptoBulk d + uptoBulkAll r
def uptoBulkEntries {H : Type} : List (Lit × DataW H) → Nat
  | [] => 0
  | x :: r => uptoBulkEntry x + uptoBulkEntries r
def uptoBulkEntry {H : Type} : Lit × DataW H → Nat
  | (.string bytes, d) => bytes.length + uptoBulk d + 1
  | (_, d) => uptoBulk d + 1
 end
def uptoSmall : (H : Type) → List (DataW H) → Bool := fun _ ds => decide (uptoBulkAll ds ≤ 1048576)
def OpenSpec.upto (s : _root_.Go.ChangeSpec) : _root_.Go.OpenSpec := { _root_.Go.OpenSpec.ofChange s with cond := some uptoSmall }

/-- 'laws.FnExactFollowOrder', WHERE WHAT IT READS IS OF BULK AT MOST 1048576: true; the input reads as it did. -/
def fnExactFollowOrderUptoRow : OpenClaim := { program := "ythdmmliipmmfbab", sum := "a9d1027f7d687ff9e37d7307afc1920a4c6c9257b72f8c0bb2f77b982789fa45", func := "loop.example/g01352/laws.FnExactFollowOrder", spec := "fnExactFollowOrder", apart := false, narrowed := true }
def FnExactFollowOrderUptoSaid : Prop := fnExactFollowOrderUptoRow.holds Try.pinned (OpenSpec.upto fnExactFollowOrderSpec)

/-- 'laws.FnExactRankOfOrder', WHERE WHAT IT READS IS OF BULK AT MOST 1048576: true; the input reads as it did. -/
def fnExactRankOfOrderUptoRow : OpenClaim := { program := "ythdmmliipmmfbab", sum := "a9d1027f7d687ff9e37d7307afc1920a4c6c9257b72f8c0bb2f77b982789fa45", func := "loop.example/g01352/laws.FnExactRankOfOrder", spec := "fnExactRankOfOrder", apart := false, narrowed := true }
def FnExactRankOfOrderUptoSaid : Prop := fnExactRankOfOrderUptoRow.holds Try.pinned (OpenSpec.upto fnExactRankOfOrderSpec)

/-- 'laws.FnExactOrderOfRank', WHERE WHAT IT READS IS OF BULK AT MOST 1048576: true; the input reads as it did. -/
def fnExactOrderOfRankUptoRow : OpenClaim := { program := "ythdmmliipmmfbab", sum := "a9d1027f7d687ff9e37d7307afc1920a4c6c9257b72f8c0bb2f77b982789fa45", func := "loop.example/g01352/laws.FnExactOrderOfRank", spec := "fnExactOrderOfRank", apart := false, narrowed := true }
def FnExactOrderOfRankUptoSaid : Prop := fnExactOrderOfRankUptoRow.holds Try.pinned (OpenSpec.upto fnExactOrderOfRankSpec)

/-- 'laws.FnExactCountWithInverted', WHERE WHAT IT READS IS OF BULK AT MOST 1048576: true; the input reads as it did. -/
def fnExactCountWithInvertedUptoRow : OpenClaim := { program := "ythdmmliipmmfbab", sum := "a9d1027f7d687ff9e37d7307afc1920a4c6c9257b72f8c0bb2f77b982789fa45", func := "loop.example/g01352/laws.FnExactCountWithInverted", spec := "fnExactCountWithInverted", recurses := true, apart := false, narrowed := true }
def FnExactCountWithInvertedUptoSaid : Prop := fnExactCountWithInvertedUptoRow.holds Try.pinned (OpenSpec.upto fnExactCountWithInvertedSpec)

/-- 'laws.FnExactCountWithCycles', WHERE WHAT IT READS IS OF BULK AT MOST 1048576: true; the input reads as it did. -/
def fnExactCountWithCyclesUptoRow : OpenClaim := { program := "ythdmmliipmmfbab", sum := "a9d1027f7d687ff9e37d7307afc1920a4c6c9257b72f8c0bb2f77b982789fa45", func := "loop.example/g01352/laws.FnExactCountWithCycles", spec := "fnExactCountWithCycles", recurses := true, apart := false, narrowed := true }
def FnExactCountWithCyclesUptoSaid : Prop := fnExactCountWithCyclesUptoRow.holds Try.pinned (OpenSpec.upto fnExactCountWithCyclesSpec)

/-- 'laws.FnExactLongestRising', WHERE WHAT IT READS IS OF BULK AT MOST 1048576: true; the input reads as it did. -/
def fnExactLongestRisingUptoRow : OpenClaim := { program := "ythdmmliipmmfbab", sum := "a9d1027f7d687ff9e37d7307afc1920a4c6c9257b72f8c0bb2f77b982789fa45", func := "loop.example/g01352/laws.FnExactLongestRising", spec := "fnExactLongestRising", unfollowed := true, recurses := true, apart := false, narrowed := true }
def FnExactLongestRisingUptoSaid : Prop := fnExactLongestRisingUptoRow.holds Try.pinned (OpenSpec.upto fnExactLongestRisingSpec)

/-- 'laws.FnExactFewestInserts', WHERE WHAT IT READS IS OF BULK AT MOST 1048576: true; the input reads as it did. -/
def fnExactFewestInsertsUptoRow : OpenClaim := { program := "ythdmmliipmmfbab", sum := "a9d1027f7d687ff9e37d7307afc1920a4c6c9257b72f8c0bb2f77b982789fa45", func := "loop.example/g01352/laws.FnExactFewestInserts", spec := "fnExactFewestInserts", unfollowed := true, recurses := true, apart := false, narrowed := true }
def FnExactFewestInsertsUptoSaid : Prop := fnExactFewestInsertsUptoRow.holds Try.pinned (OpenSpec.upto fnExactFewestInsertsSpec)

end Rows
end Go.Proofs.Ythdmmliipmmfbab
