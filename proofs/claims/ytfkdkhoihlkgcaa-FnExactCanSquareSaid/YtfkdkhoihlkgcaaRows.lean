/-
  No cell of these rows narrows 'for every input' (looked for: loops, veiled, ifaces, maps, wideKeys, modest, calm, conditions, laid).
  DERIVED. THE GIVEN ROWS OF THIS SEAT. 7 by the template 'for every input the law returns true; each argument reads behind the call as it read before'; 0 by the template 'total and deterministic' (their statements: YtfkdkhoihlkgcaaTotals.lean).
  GIVEN WITH THE SEED: the statements are not yours to turn. If you find one false, say at which input.
  Laid BY PROGRAM, IN A SANDBOX (cutbox-rows.mjs): the forced cells as the released guide's own fill.sh prints them over the translation d64f8e64b5a2f65b… (all of the seat's roots in one cut). By AI agents, Wed Nov 11 2026. No macro, syntax, notation, axiom, sorry.
-/
import Derived.Test.YtfkdkhoihlkgcaaChecked
import GoSem.Claim
import GoSem.ClaimJoined
import GoSem.ClaimMapViews
import Derived.JoinedTies
import Derived.KernelRfl
namespace Go.Proofs.Ytfkdkhoihlkgcaa
/- THE CELL 'sum', in the pinned program and in every row, IS THE sha256 OF THE DUMP (.gsa) THAT YtfkdkhoihlkgcaaProg.lean LOADS. Nothing in Lean hashes anything: it is a label: what it is worth is what the hold of that sum in a sandbox is worth. -/
noncomputable def Try.pinned : Pinned := { name := "ytfkdkhoihlkgcaa", sum := "d64f8e64b5a2f65bdd7043607c27b9222d5621ece96df4741fe29a04ecbdd790", checked := Try.checked }
namespace Rows
def none {H : Type} : Left H := { results := [], args := [] }

/-- 'laws.FnExactIsCorner': WHATEVER THE INPUT: true; the input reads as it did. -/
def fnExactIsCornerSpec : ChangeSpec := { name := "fnExactIsCorner", fn := fun _ => fun
  | [d] => { results := [.lit (.bool true)], args := [d] }
  | _ => none }
def fnExactIsCornerRow : OpenClaim := { program := "ytfkdkhoihlkgcaa", sum := "d64f8e64b5a2f65bdd7043607c27b9222d5621ece96df4741fe29a04ecbdd790", func := "loop.example/g01352/laws.FnExactIsCorner", spec := "fnExactIsCorner", apart := false }
def FnExactIsCornerSaid : Prop := fnExactIsCornerRow.holds Try.pinned (OpenSpec.ofChange fnExactIsCornerSpec)

/-- ITS FALSE NEIGHBOUR: 'it returns false'. Refute it at one input. -/
def fnExactIsCornerWrong : ChangeSpec := { name := "fnExactIsCorner", fn := fun _ => fun
  | [d] => { results := [.lit (.bool false)], args := [d] }
  | _ => none }
def FnExactIsCornerWrongFalsely : Prop := fnExactIsCornerRow.holds Try.pinned (OpenSpec.ofChange fnExactIsCornerWrong)

/-- 'laws.FnExactSquareToInner': WHATEVER THE INPUT: true; the input reads as it did. -/
def fnExactSquareToInnerSpec : ChangeSpec := { name := "fnExactSquareToInner", fn := fun _ => fun
  | [d] => { results := [.lit (.bool true)], args := [d] }
  | _ => none }
def fnExactSquareToInnerRow : OpenClaim := { program := "ytfkdkhoihlkgcaa", sum := "d64f8e64b5a2f65bdd7043607c27b9222d5621ece96df4741fe29a04ecbdd790", func := "loop.example/g01352/laws.FnExactSquareToInner", spec := "fnExactSquareToInner", unfollowed := true, recurses := true, apart := false }
def FnExactSquareToInnerSaid : Prop := fnExactSquareToInnerRow.holds Try.pinned (OpenSpec.ofChange fnExactSquareToInnerSpec)

/-- ITS FALSE NEIGHBOUR: 'it returns false'. Refute it at one input. -/
def fnExactSquareToInnerWrong : ChangeSpec := { name := "fnExactSquareToInner", fn := fun _ => fun
  | [d] => { results := [.lit (.bool false)], args := [d] }
  | _ => none }
def FnExactSquareToInnerWrongFalsely : Prop := fnExactSquareToInnerRow.holds Try.pinned (OpenSpec.ofChange fnExactSquareToInnerWrong)

/-- 'laws.FnExactNeedsCorner': WHATEVER THE INPUT: true; the input reads as it did. -/
def fnExactNeedsCornerSpec : ChangeSpec := { name := "fnExactNeedsCorner", fn := fun _ => fun
  | [d1, d2] => { results := [.lit (.bool true)], args := [d1, d2] }
  | _ => none }
def fnExactNeedsCornerRow : OpenClaim := { program := "ytfkdkhoihlkgcaa", sum := "d64f8e64b5a2f65bdd7043607c27b9222d5621ece96df4741fe29a04ecbdd790", func := "loop.example/g01352/laws.FnExactNeedsCorner", spec := "fnExactNeedsCorner", apart := false }
def FnExactNeedsCornerSaid : Prop := fnExactNeedsCornerRow.holds Try.pinned (OpenSpec.ofChange fnExactNeedsCornerSpec)

/-- ITS FALSE NEIGHBOUR: 'it returns false'. Refute it at one input. -/
def fnExactNeedsCornerWrong : ChangeSpec := { name := "fnExactNeedsCorner", fn := fun _ => fun
  | [d1, d2] => { results := [.lit (.bool false)], args := [d1, d2] }
  | _ => none }
def FnExactNeedsCornerWrongFalsely : Prop := fnExactNeedsCornerRow.holds Try.pinned (OpenSpec.ofChange fnExactNeedsCornerWrong)

/-- 'laws.FnExactSecondNeeds': WHATEVER THE INPUT: true; the input reads as it did. -/
def fnExactSecondNeedsSpec : ChangeSpec := { name := "fnExactSecondNeeds", fn := fun _ => fun
  | [d1, d2, d3] => { results := [.lit (.bool true)], args := [d1, d2, d3] }
  | _ => none }
def fnExactSecondNeedsRow : OpenClaim := { program := "ytfkdkhoihlkgcaa", sum := "d64f8e64b5a2f65bdd7043607c27b9222d5621ece96df4741fe29a04ecbdd790", func := "loop.example/g01352/laws.FnExactSecondNeeds", spec := "fnExactSecondNeeds", unfollowed := true, recurses := true, apart := false }
def FnExactSecondNeedsSaid : Prop := fnExactSecondNeedsRow.holds Try.pinned (OpenSpec.ofChange fnExactSecondNeedsSpec)

/-- ITS FALSE NEIGHBOUR: 'it returns false'. Refute it at one input. -/
def fnExactSecondNeedsWrong : ChangeSpec := { name := "fnExactSecondNeeds", fn := fun _ => fun
  | [d1, d2, d3] => { results := [.lit (.bool false)], args := [d1, d2, d3] }
  | _ => none }
def FnExactSecondNeedsWrongFalsely : Prop := fnExactSecondNeedsRow.holds Try.pinned (OpenSpec.ofChange fnExactSecondNeedsWrong)

/-- 'laws.FnExactTurnCorner': WHATEVER THE INPUT: true; the input reads as it did. -/
def fnExactTurnCornerSpec : ChangeSpec := { name := "fnExactTurnCorner", fn := fun _ => fun
  | [d] => { results := [.lit (.bool true)], args := [d] }
  | _ => none }
def fnExactTurnCornerRow : OpenClaim := { program := "ytfkdkhoihlkgcaa", sum := "d64f8e64b5a2f65bdd7043607c27b9222d5621ece96df4741fe29a04ecbdd790", func := "loop.example/g01352/laws.FnExactTurnCorner", spec := "fnExactTurnCorner", apart := false }
def FnExactTurnCornerSaid : Prop := fnExactTurnCornerRow.holds Try.pinned (OpenSpec.ofChange fnExactTurnCornerSpec)

/-- ITS FALSE NEIGHBOUR: 'it returns false'. Refute it at one input. -/
def fnExactTurnCornerWrong : ChangeSpec := { name := "fnExactTurnCorner", fn := fun _ => fun
  | [d] => { results := [.lit (.bool false)], args := [d] }
  | _ => none }
def FnExactTurnCornerWrongFalsely : Prop := fnExactTurnCornerRow.holds Try.pinned (OpenSpec.ofChange fnExactTurnCornerWrong)

/-- 'laws.FnExactCanSquare': WHATEVER THE INPUT: true; the input reads as it did. -/
def fnExactCanSquareSpec : ChangeSpec := { name := "fnExactCanSquare", fn := fun _ => fun
  | [d1, d2] => { results := [.lit (.bool true)], args := [d1, d2] }
  | _ => none }
def fnExactCanSquareRow : OpenClaim := { program := "ytfkdkhoihlkgcaa", sum := "d64f8e64b5a2f65bdd7043607c27b9222d5621ece96df4741fe29a04ecbdd790", func := "loop.example/g01352/laws.FnExactCanSquare", spec := "fnExactCanSquare", apart := false }
def FnExactCanSquareSaid : Prop := fnExactCanSquareRow.holds Try.pinned (OpenSpec.ofChange fnExactCanSquareSpec)

/-- ITS FALSE NEIGHBOUR: 'it returns false'. Refute it at one input. -/
def fnExactCanSquareWrong : ChangeSpec := { name := "fnExactCanSquare", fn := fun _ => fun
  | [d1, d2] => { results := [.lit (.bool false)], args := [d1, d2] }
  | _ => none }
def FnExactCanSquareWrongFalsely : Prop := fnExactCanSquareRow.holds Try.pinned (OpenSpec.ofChange fnExactCanSquareWrong)

/-- 'laws.FnExactLeastSquarePlank': WHATEVER THE INPUT: true; the input reads as it did. -/
def fnExactLeastSquarePlankSpec : ChangeSpec := { name := "fnExactLeastSquarePlank", fn := fun _ => fun
  | [d] => { results := [.lit (.bool true)], args := [d] }
  | _ => none }
def fnExactLeastSquarePlankRow : OpenClaim := { program := "ytfkdkhoihlkgcaa", sum := "d64f8e64b5a2f65bdd7043607c27b9222d5621ece96df4741fe29a04ecbdd790", func := "loop.example/g01352/laws.FnExactLeastSquarePlank", spec := "fnExactLeastSquarePlank", apart := false }
def FnExactLeastSquarePlankSaid : Prop := fnExactLeastSquarePlankRow.holds Try.pinned (OpenSpec.ofChange fnExactLeastSquarePlankSpec)

/-- ITS FALSE NEIGHBOUR: 'it returns false'. Refute it at one input. -/
def fnExactLeastSquarePlankWrong : ChangeSpec := { name := "fnExactLeastSquarePlank", fn := fun _ => fun
  | [d] => { results := [.lit (.bool false)], args := [d] }
  | _ => none }
def FnExactLeastSquarePlankWrongFalsely : Prop := fnExactLeastSquarePlankRow.holds Try.pinned (OpenSpec.ofChange fnExactLeastSquarePlankWrong)

/- THE SECOND FORM. 'bulk': how many values and letters a reading holds, each counted each time it is reached (what is shared counts as often as it is met; a slice's spare places count too). A statement '..UptoSaid' is the law's where the arguments, and the package variables that the reading takes, are together of bulk at most 1048576: NARROWER than '..Said'. Prove '..Said' where nothing that the law and all that it calls make is longer than what came in: it says more and counts as full. Else prove '..UptoSaid'. A law counts once. -/
mutual
def uptoBulk {H : Type} : DataW H → Nat
  | .lit (.string bytes) => bytes.length + 1
  | .lit _ => 1
  | .nil => 1
  | .ptr d => uptoBulk d + 1
  | .slice elems spare => uptoBulkAll elems + uptoBulkAll spare + 1
  | .agg parts => uptoBulkAll parts + 1
  | .iface _ d => uptoBulk d + 1
  | .map entries => uptoBulkEntries entries + 1
  | .held _ => 1
def uptoBulkAll {H : Type} : List (DataW H) → Nat
  | [] => 0
  | d :: r => uptoBulk d + uptoBulkAll r
def uptoBulkEntries {H : Type} : List (Lit × DataW H) → Nat
  | [] => 0
  | x :: r => uptoBulkEntry x + uptoBulkEntries r
def uptoBulkEntry {H : Type} : Lit × DataW H → Nat
  | (.string bytes, d) => bytes.length + uptoBulk d + 1
  | (_, d) => uptoBulk d + 1
 end
def uptoSmall : (H : Type) → List (DataW H) → Bool := fun _ ds => decide (uptoBulkAll ds ≤ 1048576)
def OpenSpec.upto (s : _root_.Go.ChangeSpec) : _root_.Go.OpenSpec := { _root_.Go.OpenSpec.ofChange s with cond := some uptoSmall }

/-- 'laws.FnExactIsCorner', WHERE WHAT IT READS IS OF BULK AT MOST 1048576: true; the input reads as it did. -/
def fnExactIsCornerUptoRow : OpenClaim := { program := "ytfkdkhoihlkgcaa", sum := "d64f8e64b5a2f65bdd7043607c27b9222d5621ece96df4741fe29a04ecbdd790", func := "loop.example/g01352/laws.FnExactIsCorner", spec := "fnExactIsCorner", apart := false, narrowed := true }
def FnExactIsCornerUptoSaid : Prop := fnExactIsCornerUptoRow.holds Try.pinned (OpenSpec.upto fnExactIsCornerSpec)

/-- 'laws.FnExactSquareToInner', WHERE WHAT IT READS IS OF BULK AT MOST 1048576: true; the input reads as it did. -/
def fnExactSquareToInnerUptoRow : OpenClaim := { program := "ytfkdkhoihlkgcaa", sum := "d64f8e64b5a2f65bdd7043607c27b9222d5621ece96df4741fe29a04ecbdd790", func := "loop.example/g01352/laws.FnExactSquareToInner", spec := "fnExactSquareToInner", unfollowed := true, recurses := true, apart := false, narrowed := true }
def FnExactSquareToInnerUptoSaid : Prop := fnExactSquareToInnerUptoRow.holds Try.pinned (OpenSpec.upto fnExactSquareToInnerSpec)

/-- 'laws.FnExactNeedsCorner', WHERE WHAT IT READS IS OF BULK AT MOST 1048576: true; the input reads as it did. -/
def fnExactNeedsCornerUptoRow : OpenClaim := { program := "ytfkdkhoihlkgcaa", sum := "d64f8e64b5a2f65bdd7043607c27b9222d5621ece96df4741fe29a04ecbdd790", func := "loop.example/g01352/laws.FnExactNeedsCorner", spec := "fnExactNeedsCorner", apart := false, narrowed := true }
def FnExactNeedsCornerUptoSaid : Prop := fnExactNeedsCornerUptoRow.holds Try.pinned (OpenSpec.upto fnExactNeedsCornerSpec)

/-- 'laws.FnExactSecondNeeds', WHERE WHAT IT READS IS OF BULK AT MOST 1048576: true; the input reads as it did. -/
def fnExactSecondNeedsUptoRow : OpenClaim := { program := "ytfkdkhoihlkgcaa", sum := "d64f8e64b5a2f65bdd7043607c27b9222d5621ece96df4741fe29a04ecbdd790", func := "loop.example/g01352/laws.FnExactSecondNeeds", spec := "fnExactSecondNeeds", unfollowed := true, recurses := true, apart := false, narrowed := true }
def FnExactSecondNeedsUptoSaid : Prop := fnExactSecondNeedsUptoRow.holds Try.pinned (OpenSpec.upto fnExactSecondNeedsSpec)

/-- 'laws.FnExactTurnCorner', WHERE WHAT IT READS IS OF BULK AT MOST 1048576: true; the input reads as it did. -/
def fnExactTurnCornerUptoRow : OpenClaim := { program := "ytfkdkhoihlkgcaa", sum := "d64f8e64b5a2f65bdd7043607c27b9222d5621ece96df4741fe29a04ecbdd790", func := "loop.example/g01352/laws.FnExactTurnCorner", spec := "fnExactTurnCorner", apart := false, narrowed := true }
def FnExactTurnCornerUptoSaid : Prop := fnExactTurnCornerUptoRow.holds Try.pinned (OpenSpec.upto fnExactTurnCornerSpec)

/-- 'laws.FnExactCanSquare', WHERE WHAT IT READS IS OF BULK AT MOST 1048576: true; the input reads as it did. -/
def fnExactCanSquareUptoRow : OpenClaim := { program := "ytfkdkhoihlkgcaa", sum := "d64f8e64b5a2f65bdd7043607c27b9222d5621ece96df4741fe29a04ecbdd790", func := "loop.example/g01352/laws.FnExactCanSquare", spec := "fnExactCanSquare", apart := false, narrowed := true }
def FnExactCanSquareUptoSaid : Prop := fnExactCanSquareUptoRow.holds Try.pinned (OpenSpec.upto fnExactCanSquareSpec)

/-- 'laws.FnExactLeastSquarePlank', WHERE WHAT IT READS IS OF BULK AT MOST 1048576: true; the input reads as it did. -/
def fnExactLeastSquarePlankUptoRow : OpenClaim := { program := "ytfkdkhoihlkgcaa", sum := "d64f8e64b5a2f65bdd7043607c27b9222d5621ece96df4741fe29a04ecbdd790", func := "loop.example/g01352/laws.FnExactLeastSquarePlank", spec := "fnExactLeastSquarePlank", apart := false, narrowed := true }
def FnExactLeastSquarePlankUptoSaid : Prop := fnExactLeastSquarePlankUptoRow.holds Try.pinned (OpenSpec.upto fnExactLeastSquarePlankSpec)

end Rows
end Go.Proofs.Ytfkdkhoihlkgcaa
