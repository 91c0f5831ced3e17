/-
  No cell of these rows narrows 'for every input' (looked for: loops, veiled, ifaces, maps, wideKeys, modest, calm, conditions, laid).
  DERIVED. THE GIVEN ROWS OF THIS SEAT. 5 by the template 'for every input the law returns true; each argument reads behind the call as it read before'; 0 by the template 'total and deterministic' (their statements: YtmlokapbholeoacTotals.lean).
  GIVEN WITH THE SEED: the statements are not yours to turn. If you find one false, say at which input.
  Laid BY PROGRAM, IN A SANDBOX (cutbox-rows.mjs): the forced cells as the released guide's own fill.sh prints them over the translation 4fe55afe36e186e3… (all of the seat's roots in one cut). By AI agents, Wed Nov 11 2026. No macro, syntax, notation, axiom, sorry.
-/
import Derived.Test.YtmlokapbholeoacChecked
import GoSem.Claim
import GoSem.ClaimJoined
import GoSem.ClaimMapViews
import Derived.JoinedTies
import Derived.KernelRfl
namespace Go.Proofs.Ytmlokapbholeoac
/- THE CELL 'sum', in the pinned program and in every row, IS THE sha256 OF THE DUMP (.gsa) THAT YtmlokapbholeoacProg.lean LOADS. Nothing in Lean hashes anything: it is a label: what it is worth is what the hold of that sum in a sandbox is worth. -/
noncomputable def Try.pinned : Pinned := { name := "ytmlokapbholeoac", sum := "4fe55afe36e186e3485e917550158b30e8c4642e53c2ac06dd55b1bfbefa3858", checked := Try.checked }
namespace Rows
def none {H : Type} : Left H := { results := [], args := [] }

/-- 'laws.FnExactRaiseStone': WHATEVER THE INPUT: true; the input reads as it did. -/
def fnExactRaiseStoneSpec : ChangeSpec := { name := "fnExactRaiseStone", fn := fun _ => fun
  | [d1, d2, d3] => { results := [.lit (.bool true)], args := [d1, d2, d3] }
  | _ => none }
def fnExactRaiseStoneRow : OpenClaim := { program := "ytmlokapbholeoac", sum := "4fe55afe36e186e3485e917550158b30e8c4642e53c2ac06dd55b1bfbefa3858", func := "loop.example/g01352/laws.FnExactRaiseStone", spec := "fnExactRaiseStone", recurses := true, apart := false }
def FnExactRaiseStoneSaid : Prop := fnExactRaiseStoneRow.holds Try.pinned (OpenSpec.ofChange fnExactRaiseStoneSpec)

/-- ITS FALSE NEIGHBOUR: 'it returns false'. Refute it at one input. -/
def fnExactRaiseStoneWrong : ChangeSpec := { name := "fnExactRaiseStone", fn := fun _ => fun
  | [d1, d2, d3] => { results := [.lit (.bool false)], args := [d1, d2, d3] }
  | _ => none }
def FnExactRaiseStoneWrongFalsely : Prop := fnExactRaiseStoneRow.holds Try.pinned (OpenSpec.ofChange fnExactRaiseStoneWrong)

/-- 'laws.FnExactTurnTide': WHATEVER THE INPUT: true; the input reads as it did. -/
def fnExactTurnTideSpec : ChangeSpec := { name := "fnExactTurnTide", fn := fun _ => fun
  | [d1, d2] => { results := [.lit (.bool true)], args := [d1, d2] }
  | _ => none }
def fnExactTurnTideRow : OpenClaim := { program := "ytmlokapbholeoac", sum := "4fe55afe36e186e3485e917550158b30e8c4642e53c2ac06dd55b1bfbefa3858", func := "loop.example/g01352/laws.FnExactTurnTide", spec := "fnExactTurnTide", apart := false }
def FnExactTurnTideSaid : Prop := fnExactTurnTideRow.holds Try.pinned (OpenSpec.ofChange fnExactTurnTideSpec)

/-- ITS FALSE NEIGHBOUR: 'it returns false'. Refute it at one input. -/
def fnExactTurnTideWrong : ChangeSpec := { name := "fnExactTurnTide", fn := fun _ => fun
  | [d1, d2] => { results := [.lit (.bool false)], args := [d1, d2] }
  | _ => none }
def FnExactTurnTideWrongFalsely : Prop := fnExactTurnTideRow.holds Try.pinned (OpenSpec.ofChange fnExactTurnTideWrong)

/-- 'laws.FnExactMirrorShore': WHATEVER THE INPUT: true; the input reads as it did. -/
def fnExactMirrorShoreSpec : ChangeSpec := { name := "fnExactMirrorShore", fn := fun _ => fun
  | [d] => { results := [.lit (.bool true)], args := [d] }
  | _ => none }
def fnExactMirrorShoreRow : OpenClaim := { program := "ytmlokapbholeoac", sum := "4fe55afe36e186e3485e917550158b30e8c4642e53c2ac06dd55b1bfbefa3858", func := "loop.example/g01352/laws.FnExactMirrorShore", spec := "fnExactMirrorShore", apart := false }
def FnExactMirrorShoreSaid : Prop := fnExactMirrorShoreRow.holds Try.pinned (OpenSpec.ofChange fnExactMirrorShoreSpec)

/-- ITS FALSE NEIGHBOUR: 'it returns false'. Refute it at one input. -/
def fnExactMirrorShoreWrong : ChangeSpec := { name := "fnExactMirrorShore", fn := fun _ => fun
  | [d] => { results := [.lit (.bool false)], args := [d] }
  | _ => none }
def FnExactMirrorShoreWrongFalsely : Prop := fnExactMirrorShoreRow.holds Try.pinned (OpenSpec.ofChange fnExactMirrorShoreWrong)

/-- 'laws.FnExactIsTideWay': WHATEVER THE INPUT: true; the input reads as it did. -/
def fnExactIsTideWaySpec : ChangeSpec := { name := "fnExactIsTideWay", fn := fun _ => fun
  | [d1, d2, d3, d4, d5] => { results := [.lit (.bool true)], args := [d1, d2, d3, d4, d5] }
  | _ => none }
def fnExactIsTideWayRow : OpenClaim := { program := "ytmlokapbholeoac", sum := "4fe55afe36e186e3485e917550158b30e8c4642e53c2ac06dd55b1bfbefa3858", func := "loop.example/g01352/laws.FnExactIsTideWay", spec := "fnExactIsTideWay", apart := false }
def FnExactIsTideWaySaid : Prop := fnExactIsTideWayRow.holds Try.pinned (OpenSpec.ofChange fnExactIsTideWaySpec)

/-- ITS FALSE NEIGHBOUR: 'it returns false'. Refute it at one input. -/
def fnExactIsTideWayWrong : ChangeSpec := { name := "fnExactIsTideWay", fn := fun _ => fun
  | [d1, d2, d3, d4, d5] => { results := [.lit (.bool false)], args := [d1, d2, d3, d4, d5] }
  | _ => none }
def FnExactIsTideWayWrongFalsely : Prop := fnExactIsTideWayRow.holds Try.pinned (OpenSpec.ofChange fnExactIsTideWayWrong)

/-- 'laws.FnExactCountTideWays': WHATEVER THE INPUT: true; the input reads as it did. -/
def fnExactCountTideWaysSpec : ChangeSpec := { name := "fnExactCountTideWays", fn := fun _ => fun
  | [d1, d2, d3, d4, d5] => { results := [.lit (.bool true)], args := [d1, d2, d3, d4, d5] }
  | _ => none }
def fnExactCountTideWaysRow : OpenClaim := { program := "ytmlokapbholeoac", sum := "4fe55afe36e186e3485e917550158b30e8c4642e53c2ac06dd55b1bfbefa3858", func := "loop.example/g01352/laws.FnExactCountTideWays", spec := "fnExactCountTideWays", apart := false }
def FnExactCountTideWaysSaid : Prop := fnExactCountTideWaysRow.holds Try.pinned (OpenSpec.ofChange fnExactCountTideWaysSpec)

/-- ITS FALSE NEIGHBOUR: 'it returns false'. Refute it at one input. -/
def fnExactCountTideWaysWrong : ChangeSpec := { name := "fnExactCountTideWays", fn := fun _ => fun
  | [d1, d2, d3, d4, d5] => { results := [.lit (.bool false)], args := [d1, d2, d3, d4, d5] }
  | _ => none }
def FnExactCountTideWaysWrongFalsely : Prop := fnExactCountTideWaysRow.holds Try.pinned (OpenSpec.ofChange fnExactCountTideWaysWrong)

/- THE SECOND FORM. 'bulk': how many values and letters a reading holds, each counted each time it is reached (what is shared counts as often as it is met; a slice's spare places count too). A statement '..UptoSaid' is the law's where the arguments, and the package variables that the reading takes, are together of bulk at most 1048576: NARROWER than '..Said'. Prove '..Said' where nothing that the law and all that it calls make is longer than what came in: it says more and counts as full. Else prove '..UptoSaid'. A law counts once. -/
mutual
def uptoBulk {H : Type} : DataW H → Nat
  | .lit (.string bytes) => bytes.length + 1
  | .lit _ => 1
  | .nil => 1
  | .ptr d => uptoBulk d + 1
  | .slice elems spare => uptoBulkAll elems + uptoBulkAll spare + 1
  | .agg parts => uptoBulkAll parts + 1
  | .iface _ d => uptoBulk d + 1
  | .map entries => uptoBulkEntries entries + 1
  | .held _ => 1
def uptoBulkAll {H : Type} : List (DataW H) → Nat
  | [] => 0
  | d :: r => uptoBulk d + uptoBulkAll r
def uptoBulkEntries {H : Type} : List (Lit × DataW H) → Nat
  | [] => 0
  | x :: r => uptoBulkEntry x + uptoBulkEntries r
def uptoBulkEntry {H : Type} : Lit × DataW H → Nat
  | (.string bytes, d) => bytes.length + uptoBulk d + 1
  | (_, d) => uptoBulk d + 1
 end
def uptoSmall : (H : Type) → List (DataW H) → Bool := fun _ ds => decide (uptoBulkAll ds ≤ 1048576)
def OpenSpec.upto (s : _root_.Go.ChangeSpec) : _root_.Go.OpenSpec := { _root_.Go.OpenSpec.ofChange s with cond := some uptoSmall }

/-- 'laws.FnExactRaiseStone', WHERE WHAT IT READS IS OF BULK AT MOST 1048576: true; the input reads as it did. -/
def fnExactRaiseStoneUptoRow : OpenClaim := { program := "ytmlokapbholeoac", sum := "4fe55afe36e186e3485e917550158b30e8c4642e53c2ac06dd55b1bfbefa3858", func := "loop.example/g01352/laws.FnExactRaiseStone", spec := "fnExactRaiseStone", recurses := true, apart := false, narrowed := true }
def FnExactRaiseStoneUptoSaid : Prop := fnExactRaiseStoneUptoRow.holds Try.pinned (OpenSpec.upto fnExactRaiseStoneSpec)

/-- 'laws.FnExactTurnTide', WHERE WHAT IT READS IS OF BULK AT MOST 1048576: true; the input reads as it did. -/
def fnExactTurnTideUptoRow : OpenClaim := { program := "ytmlokapbholeoac", sum := "4fe55afe36e186e3485e917550158b30e8c4642e53c2ac06dd55b1bfbefa3858", func := "loop.example/g01352/laws.FnExactTurnTide", spec := "fnExactTurnTide", apart := false, narrowed := true }
def FnExactTurnTideUptoSaid : Prop := fnExactTurnTideUptoRow.holds Try.pinned (OpenSpec.upto fnExactTurnTideSpec)

/-- 'laws.FnExactMirrorShore', WHERE WHAT IT READS IS OF BULK AT MOST 1048576: true; the input reads as it did. -/
def fnExactMirrorShoreUptoRow : OpenClaim := { program := "ytmlokapbholeoac", sum := "4fe55afe36e186e3485e917550158b30e8c4642e53c2ac06dd55b1bfbefa3858", func := "loop.example/g01352/laws.FnExactMirrorShore", spec := "fnExactMirrorShore", apart := false, narrowed := true }
def FnExactMirrorShoreUptoSaid : Prop := fnExactMirrorShoreUptoRow.holds Try.pinned (OpenSpec.upto fnExactMirrorShoreSpec)

/-- 'laws.FnExactIsTideWay', WHERE WHAT IT READS IS OF BULK AT MOST 1048576: true; the input reads as it did. -/
def fnExactIsTideWayUptoRow : OpenClaim := { program := "ytmlokapbholeoac", sum := "4fe55afe36e186e3485e917550158b30e8c4642e53c2ac06dd55b1bfbefa3858", func := "loop.example/g01352/laws.FnExactIsTideWay", spec := "fnExactIsTideWay", apart := false, narrowed := true }
def FnExactIsTideWayUptoSaid : Prop := fnExactIsTideWayUptoRow.holds Try.pinned (OpenSpec.upto fnExactIsTideWaySpec)

/-- 'laws.FnExactCountTideWays', WHERE WHAT IT READS IS OF BULK AT MOST 1048576: true; the input reads as it did. -/
def fnExactCountTideWaysUptoRow : OpenClaim := { program := "ytmlokapbholeoac", sum := "4fe55afe36e186e3485e917550158b30e8c4642e53c2ac06dd55b1bfbefa3858", func := "loop.example/g01352/laws.FnExactCountTideWays", spec := "fnExactCountTideWays", apart := false, narrowed := true }
def FnExactCountTideWaysUptoSaid : Prop := fnExactCountTideWaysUptoRow.holds Try.pinned (OpenSpec.upto fnExactCountTideWaysSpec)

end Rows
end Go.Proofs.Ytmlokapbholeoac
