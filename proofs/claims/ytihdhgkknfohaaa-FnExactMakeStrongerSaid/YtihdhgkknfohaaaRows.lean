/-
  No cell of these rows narrows 'for every input' (looked for: loops, veiled, ifaces, maps, wideKeys, modest, calm, conditions, laid).
  DERIVED. THE GIVEN ROWS OF THIS SEAT. 7 by the template 'for every input the law returns true; each argument reads behind the call as it read before'; 0 by the template 'total and deterministic' (their statements: YtihdhgkknfohaaaTotals.lean).
  GIVEN WITH THE SEED: the statements are not yours to turn. If you find one false, say at which input.
  Laid BY PROGRAM, IN A SANDBOX (cutbox-rows.mjs): the forced cells as the released guide's own fill.sh prints them over the translation 25c25e98d80b7c4a… (all of the seat's roots in one cut). By AI agents, Wed Nov 11 2026. No macro, syntax, notation, axiom, sorry.
-/
import Derived.Test.YtihdhgkknfohaaaChecked
import GoSem.Claim
import GoSem.ClaimJoined
import GoSem.ClaimMapViews
import Derived.JoinedTies
import Derived.KernelRfl
namespace Go.Proofs.Ytihdhgkknfohaaa
/- THE CELL 'sum', in the pinned program and in every row, IS THE sha256 OF THE DUMP (.gsa) THAT YtihdhgkknfohaaaProg.lean LOADS. Nothing in Lean hashes anything: it is a label: what it is worth is what the hold of that sum in a sandbox is worth. -/
noncomputable def Try.pinned : Pinned := { name := "ytihdhgkknfohaaa", sum := "25c25e98d80b7c4a61ac2a949dda404d201155cb4cb89851d4e10a304c9d996c", checked := Try.checked }
namespace Rows
def none {H : Type} : Left H := { results := [], args := [] }

/-- 'laws.FnExactIsStrong': WHATEVER THE INPUT: true; the input reads as it did. -/
def fnExactIsStrongSpec : ChangeSpec := { name := "fnExactIsStrong", fn := fun _ => fun
  | [d] => { results := [.lit (.bool true)], args := [d] }
  | _ => none }
def fnExactIsStrongRow : OpenClaim := { program := "ytihdhgkknfohaaa", sum := "25c25e98d80b7c4a61ac2a949dda404d201155cb4cb89851d4e10a304c9d996c", func := "loop.example/g01352/laws.FnExactIsStrong", spec := "fnExactIsStrong", apart := false }
def FnExactIsStrongSaid : Prop := fnExactIsStrongRow.holds Try.pinned (OpenSpec.ofChange fnExactIsStrongSpec)

/-- ITS FALSE NEIGHBOUR: 'it returns false'. Refute it at one input. -/
def fnExactIsStrongWrong : ChangeSpec := { name := "fnExactIsStrong", fn := fun _ => fun
  | [d] => { results := [.lit (.bool false)], args := [d] }
  | _ => none }
def FnExactIsStrongWrongFalsely : Prop := fnExactIsStrongRow.holds Try.pinned (OpenSpec.ofChange fnExactIsStrongWrong)

/-- 'laws.FnExactStepsLeft': WHATEVER THE INPUT: true; the input reads as it did. -/
def fnExactStepsLeftSpec : ChangeSpec := { name := "fnExactStepsLeft", fn := fun _ => fun
  | [d] => { results := [.lit (.bool true)], args := [d] }
  | _ => none }
def fnExactStepsLeftRow : OpenClaim := { program := "ytihdhgkknfohaaa", sum := "25c25e98d80b7c4a61ac2a949dda404d201155cb4cb89851d4e10a304c9d996c", func := "loop.example/g01352/laws.FnExactStepsLeft", spec := "fnExactStepsLeft", apart := false }
def FnExactStepsLeftSaid : Prop := fnExactStepsLeftRow.holds Try.pinned (OpenSpec.ofChange fnExactStepsLeftSpec)

/-- ITS FALSE NEIGHBOUR: 'it returns false'. Refute it at one input. -/
def fnExactStepsLeftWrong : ChangeSpec := { name := "fnExactStepsLeft", fn := fun _ => fun
  | [d] => { results := [.lit (.bool false)], args := [d] }
  | _ => none }
def FnExactStepsLeftWrongFalsely : Prop := fnExactStepsLeftRow.holds Try.pinned (OpenSpec.ofChange fnExactStepsLeftWrong)

/-- 'laws.FnExactRiverOf': WHATEVER THE INPUT: true; the input reads as it did. -/
def fnExactRiverOfSpec : ChangeSpec := { name := "fnExactRiverOf", fn := fun _ => fun
  | [d] => { results := [.lit (.bool true)], args := [d] }
  | _ => none }
def fnExactRiverOfRow : OpenClaim := { program := "ytihdhgkknfohaaa", sum := "25c25e98d80b7c4a61ac2a949dda404d201155cb4cb89851d4e10a304c9d996c", func := "loop.example/g01352/laws.FnExactRiverOf", spec := "fnExactRiverOf", apart := false }
def FnExactRiverOfSaid : Prop := fnExactRiverOfRow.holds Try.pinned (OpenSpec.ofChange fnExactRiverOfSpec)

/-- ITS FALSE NEIGHBOUR: 'it returns false'. Refute it at one input. -/
def fnExactRiverOfWrong : ChangeSpec := { name := "fnExactRiverOf", fn := fun _ => fun
  | [d] => { results := [.lit (.bool false)], args := [d] }
  | _ => none }
def FnExactRiverOfWrongFalsely : Prop := fnExactRiverOfRow.holds Try.pinned (OpenSpec.ofChange fnExactRiverOfWrong)

/-- 'laws.FnExactMirrorStrong': WHATEVER THE INPUT: true; the input reads as it did. -/
def fnExactMirrorStrongSpec : ChangeSpec := { name := "fnExactMirrorStrong", fn := fun _ => fun
  | [d] => { results := [.lit (.bool true)], args := [d] }
  | _ => none }
def fnExactMirrorStrongRow : OpenClaim := { program := "ytihdhgkknfohaaa", sum := "25c25e98d80b7c4a61ac2a949dda404d201155cb4cb89851d4e10a304c9d996c", func := "loop.example/g01352/laws.FnExactMirrorStrong", spec := "fnExactMirrorStrong", apart := false }
def FnExactMirrorStrongSaid : Prop := fnExactMirrorStrongRow.holds Try.pinned (OpenSpec.ofChange fnExactMirrorStrongSpec)

/-- ITS FALSE NEIGHBOUR: 'it returns false'. Refute it at one input. -/
def fnExactMirrorStrongWrong : ChangeSpec := { name := "fnExactMirrorStrong", fn := fun _ => fun
  | [d] => { results := [.lit (.bool false)], args := [d] }
  | _ => none }
def FnExactMirrorStrongWrongFalsely : Prop := fnExactMirrorStrongRow.holds Try.pinned (OpenSpec.ofChange fnExactMirrorStrongWrong)

/-- 'laws.FnExactJoinStrong': WHATEVER THE INPUT: true; the input reads as it did. -/
def fnExactJoinStrongSpec : ChangeSpec := { name := "fnExactJoinStrong", fn := fun _ => fun
  | [d1, d2] => { results := [.lit (.bool true)], args := [d1, d2] }
  | _ => none }
def fnExactJoinStrongRow : OpenClaim := { program := "ytihdhgkknfohaaa", sum := "25c25e98d80b7c4a61ac2a949dda404d201155cb4cb89851d4e10a304c9d996c", func := "loop.example/g01352/laws.FnExactJoinStrong", spec := "fnExactJoinStrong", apart := false }
def FnExactJoinStrongSaid : Prop := fnExactJoinStrongRow.holds Try.pinned (OpenSpec.ofChange fnExactJoinStrongSpec)

/-- ITS FALSE NEIGHBOUR: 'it returns false'. Refute it at one input. -/
def fnExactJoinStrongWrong : ChangeSpec := { name := "fnExactJoinStrong", fn := fun _ => fun
  | [d1, d2] => { results := [.lit (.bool false)], args := [d1, d2] }
  | _ => none }
def FnExactJoinStrongWrongFalsely : Prop := fnExactJoinStrongRow.holds Try.pinned (OpenSpec.ofChange fnExactJoinStrongWrong)

/-- 'laws.FnExactWearAll': WHATEVER THE INPUT: true; the input reads as it did. -/
def fnExactWearAllSpec : ChangeSpec := { name := "fnExactWearAll", fn := fun _ => fun
  | [d] => { results := [.lit (.bool true)], args := [d] }
  | _ => none }
def fnExactWearAllRow : OpenClaim := { program := "ytihdhgkknfohaaa", sum := "25c25e98d80b7c4a61ac2a949dda404d201155cb4cb89851d4e10a304c9d996c", func := "loop.example/g01352/laws.FnExactWearAll", spec := "fnExactWearAll", recurses := true, apart := false }
def FnExactWearAllSaid : Prop := fnExactWearAllRow.holds Try.pinned (OpenSpec.ofChange fnExactWearAllSpec)

/-- ITS FALSE NEIGHBOUR: 'it returns false'. Refute it at one input. -/
def fnExactWearAllWrong : ChangeSpec := { name := "fnExactWearAll", fn := fun _ => fun
  | [d] => { results := [.lit (.bool false)], args := [d] }
  | _ => none }
def FnExactWearAllWrongFalsely : Prop := fnExactWearAllRow.holds Try.pinned (OpenSpec.ofChange fnExactWearAllWrong)

/-- 'laws.FnExactMakeStronger': WHATEVER THE INPUT: true; the input reads as it did. -/
def fnExactMakeStrongerSpec : ChangeSpec := { name := "fnExactMakeStronger", fn := fun _ => fun
  | [d1, d2, d3] => { results := [.lit (.bool true)], args := [d1, d2, d3] }
  | _ => none }
def fnExactMakeStrongerRow : OpenClaim := { program := "ytihdhgkknfohaaa", sum := "25c25e98d80b7c4a61ac2a949dda404d201155cb4cb89851d4e10a304c9d996c", func := "loop.example/g01352/laws.FnExactMakeStronger", spec := "fnExactMakeStronger", recurses := true, apart := false }
def FnExactMakeStrongerSaid : Prop := fnExactMakeStrongerRow.holds Try.pinned (OpenSpec.ofChange fnExactMakeStrongerSpec)

/-- ITS FALSE NEIGHBOUR: 'it returns false'. Refute it at one input. -/
def fnExactMakeStrongerWrong : ChangeSpec := { name := "fnExactMakeStronger", fn := fun _ => fun
  | [d1, d2, d3] => { results := [.lit (.bool false)], args := [d1, d2, d3] }
  | _ => none }
def FnExactMakeStrongerWrongFalsely : Prop := fnExactMakeStrongerRow.holds Try.pinned (OpenSpec.ofChange fnExactMakeStrongerWrong)

/- THE SECOND FORM. 'bulk': how many values and letters a reading holds, each counted each time it is reached (what is shared counts as often as it is met; a slice's spare places count too). A statement '..UptoSaid' is the law's where the arguments, and the package variables that the reading takes, are together of bulk at most 1048576: NARROWER than '..Said'. Prove '..Said' where nothing that the law and all that it calls make is longer than what came in: it says more and counts as full. Else prove '..UptoSaid'. A law counts once. -/
mutual
def uptoBulk {H : Type} : DataW H → Nat
  | .lit (.string bytes) => bytes.length + 1
  | .lit _ => 1
  | .nil => 1
  | .ptr d => uptoBulk d + 1
  | .slice elems spare => uptoBulkAll elems + uptoBulkAll spare + 1
  | .agg parts => uptoBulkAll parts + 1
  | .iface _ d => uptoBulk d + 1
  | .map entries => uptoBulkEntries entries + 1
  | .held _ => 1
def uptoBulkAll {H : Type} : List (DataW H) → Nat
  | [] => 0
  | d :: r => uptoBulk d + uptoBulkAll r
def uptoBulkEntries {H : Type} : List (Lit × DataW H) → Nat
  | [] => 0
  | x :: r => uptoBulkEntry x + uptoBulkEntries r
def uptoBulkEntry {H : Type} : Lit × DataW H → Nat
  | (.string bytes, d) => bytes.length + uptoBulk d + 1
  | (_, d) => uptoBulk d + 1
 end
def uptoSmall : (H : Type) → List (DataW H) → Bool := fun _ ds => decide (uptoBulkAll ds ≤ 1048576)
def OpenSpec.upto (s : _root_.Go.ChangeSpec) : _root_.Go.OpenSpec := { _root_.Go.OpenSpec.ofChange s with cond := some uptoSmall }

/-- 'laws.FnExactIsStrong', WHERE WHAT IT READS IS OF BULK AT MOST 1048576: true; the input reads as it did. -/
def fnExactIsStrongUptoRow : OpenClaim := { program := "ytihdhgkknfohaaa", sum := "25c25e98d80b7c4a61ac2a949dda404d201155cb4cb89851d4e10a304c9d996c", func := "loop.example/g01352/laws.FnExactIsStrong", spec := "fnExactIsStrong", apart := false, narrowed := true }
def FnExactIsStrongUptoSaid : Prop := fnExactIsStrongUptoRow.holds Try.pinned (OpenSpec.upto fnExactIsStrongSpec)

/-- 'laws.FnExactStepsLeft', WHERE WHAT IT READS IS OF BULK AT MOST 1048576: true; the input reads as it did. -/
def fnExactStepsLeftUptoRow : OpenClaim := { program := "ytihdhgkknfohaaa", sum := "25c25e98d80b7c4a61ac2a949dda404d201155cb4cb89851d4e10a304c9d996c", func := "loop.example/g01352/laws.FnExactStepsLeft", spec := "fnExactStepsLeft", apart := false, narrowed := true }
def FnExactStepsLeftUptoSaid : Prop := fnExactStepsLeftUptoRow.holds Try.pinned (OpenSpec.upto fnExactStepsLeftSpec)

/-- 'laws.FnExactRiverOf', WHERE WHAT IT READS IS OF BULK AT MOST 1048576: true; the input reads as it did. -/
def fnExactRiverOfUptoRow : OpenClaim := { program := "ytihdhgkknfohaaa", sum := "25c25e98d80b7c4a61ac2a949dda404d201155cb4cb89851d4e10a304c9d996c", func := "loop.example/g01352/laws.FnExactRiverOf", spec := "fnExactRiverOf", apart := false, narrowed := true }
def FnExactRiverOfUptoSaid : Prop := fnExactRiverOfUptoRow.holds Try.pinned (OpenSpec.upto fnExactRiverOfSpec)

/-- 'laws.FnExactMirrorStrong', WHERE WHAT IT READS IS OF BULK AT MOST 1048576: true; the input reads as it did. -/
def fnExactMirrorStrongUptoRow : OpenClaim := { program := "ytihdhgkknfohaaa", sum := "25c25e98d80b7c4a61ac2a949dda404d201155cb4cb89851d4e10a304c9d996c", func := "loop.example/g01352/laws.FnExactMirrorStrong", spec := "fnExactMirrorStrong", apart := false, narrowed := true }
def FnExactMirrorStrongUptoSaid : Prop := fnExactMirrorStrongUptoRow.holds Try.pinned (OpenSpec.upto fnExactMirrorStrongSpec)

/-- 'laws.FnExactJoinStrong', WHERE WHAT IT READS IS OF BULK AT MOST 1048576: true; the input reads as it did. -/
def fnExactJoinStrongUptoRow : OpenClaim := { program := "ytihdhgkknfohaaa", sum := "25c25e98d80b7c4a61ac2a949dda404d201155cb4cb89851d4e10a304c9d996c", func := "loop.example/g01352/laws.FnExactJoinStrong", spec := "fnExactJoinStrong", apart := false, narrowed := true }
def FnExactJoinStrongUptoSaid : Prop := fnExactJoinStrongUptoRow.holds Try.pinned (OpenSpec.upto fnExactJoinStrongSpec)

/-- 'laws.FnExactWearAll', WHERE WHAT IT READS IS OF BULK AT MOST 1048576: true; the input reads as it did. -/
def fnExactWearAllUptoRow : OpenClaim := { program := "ytihdhgkknfohaaa", sum := "25c25e98d80b7c4a61ac2a949dda404d201155cb4cb89851d4e10a304c9d996c", func := "loop.example/g01352/laws.FnExactWearAll", spec := "fnExactWearAll", recurses := true, apart := false, narrowed := true }
def FnExactWearAllUptoSaid : Prop := fnExactWearAllUptoRow.holds Try.pinned (OpenSpec.upto fnExactWearAllSpec)

/-- 'laws.FnExactMakeStronger', WHERE WHAT IT READS IS OF BULK AT MOST 1048576: true; the input reads as it did. -/
def fnExactMakeStrongerUptoRow : OpenClaim := { program := "ytihdhgkknfohaaa", sum := "25c25e98d80b7c4a61ac2a949dda404d201155cb4cb89851d4e10a304c9d996c", func := "loop.example/g01352/laws.FnExactMakeStronger", spec := "fnExactMakeStronger", recurses := true, apart := false, narrowed := true }
def FnExactMakeStrongerUptoSaid : Prop := fnExactMakeStrongerUptoRow.holds Try.pinned (OpenSpec.upto fnExactMakeStrongerSpec)

end Rows
end Go.Proofs.Ytihdhgkknfohaaa
