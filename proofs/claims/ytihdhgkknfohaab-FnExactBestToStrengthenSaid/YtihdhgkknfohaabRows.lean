/-
  No cell of these rows narrows 'for every input' (looked for: loops, veiled, ifaces, maps, wideKeys, modest, calm, conditions, laid).
  DERIVED. THE GIVEN ROWS OF THIS SEAT. 7 by the template 'for every input the law returns true; each argument reads behind the call as it read before'; 0 by the template 'total and deterministic' (their statements: YtihdhgkknfohaabTotals.lean).
  GIVEN WITH THE SEED: the statements are not yours to turn. If you find one false, say at which input.
  Laid BY PROGRAM, IN A SANDBOX (cutbox-rows.mjs): the forced cells as the released guide's own fill.sh prints them over the translation eb3ba957c21dd094… (all of the seat's roots in one cut). By AI agents, Wed Nov 11 2026. No macro, syntax, notation, axiom, sorry.
-/
import Derived.Test.YtihdhgkknfohaabChecked
import GoSem.Claim
import GoSem.ClaimJoined
import GoSem.ClaimMapViews
import Derived.JoinedTies
import Derived.KernelRfl
namespace Go.Proofs.Ytihdhgkknfohaab
/- THE CELL 'sum', in the pinned program and in every row, IS THE sha256 OF THE DUMP (.gsa) THAT YtihdhgkknfohaabProg.lean LOADS. Nothing in Lean hashes anything: it is a label: what it is worth is what the hold of that sum in a sandbox is worth. -/
noncomputable def Try.pinned : Pinned := { name := "ytihdhgkknfohaab", sum := "eb3ba957c21dd094550377bf19fa0fbcf4f81e61a266e105edba25633aebb222", checked := Try.checked }
namespace Rows
def none {H : Type} : Left H := { results := [], args := [] }

/-- 'laws.FnExactMostWhoCross': WHATEVER THE INPUT: true; the input reads as it did. -/
def fnExactMostWhoCrossSpec : ChangeSpec := { name := "fnExactMostWhoCross", fn := fun _ => fun
  | [d1, d2] => { results := [.lit (.bool true)], args := [d1, d2] }
  | _ => none }
def fnExactMostWhoCrossRow : OpenClaim := { program := "ytihdhgkknfohaab", sum := "eb3ba957c21dd094550377bf19fa0fbcf4f81e61a266e105edba25633aebb222", func := "loop.example/g01352/laws.FnExactMostWhoCross", spec := "fnExactMostWhoCross", apart := false }
def FnExactMostWhoCrossSaid : Prop := fnExactMostWhoCrossRow.holds Try.pinned (OpenSpec.ofChange fnExactMostWhoCrossSpec)

/-- ITS FALSE NEIGHBOUR: 'it returns false'. Refute it at one input. -/
def fnExactMostWhoCrossWrong : ChangeSpec := { name := "fnExactMostWhoCross", fn := fun _ => fun
  | [d1, d2] => { results := [.lit (.bool false)], args := [d1, d2] }
  | _ => none }
def FnExactMostWhoCrossWrongFalsely : Prop := fnExactMostWhoCrossRow.holds Try.pinned (OpenSpec.ofChange fnExactMostWhoCrossWrong)

/-- 'laws.FnExactNarrowestPart': WHATEVER THE INPUT: true; the input reads as it did. -/
def fnExactNarrowestPartSpec : ChangeSpec := { name := "fnExactNarrowestPart", fn := fun _ => fun
  | [d1, d2] => { results := [.lit (.bool true)], args := [d1, d2] }
  | _ => none }
def fnExactNarrowestPartRow : OpenClaim := { program := "ytihdhgkknfohaab", sum := "eb3ba957c21dd094550377bf19fa0fbcf4f81e61a266e105edba25633aebb222", func := "loop.example/g01352/laws.FnExactNarrowestPart", spec := "fnExactNarrowestPart", apart := false }
def FnExactNarrowestPartSaid : Prop := fnExactNarrowestPartRow.holds Try.pinned (OpenSpec.ofChange fnExactNarrowestPartSpec)

/-- ITS FALSE NEIGHBOUR: 'it returns false'. Refute it at one input. -/
def fnExactNarrowestPartWrong : ChangeSpec := { name := "fnExactNarrowestPart", fn := fun _ => fun
  | [d1, d2] => { results := [.lit (.bool false)], args := [d1, d2] }
  | _ => none }
def FnExactNarrowestPartWrongFalsely : Prop := fnExactNarrowestPartRow.holds Try.pinned (OpenSpec.ofChange fnExactNarrowestPartWrong)

/-- 'laws.FnExactCanGroupCross': WHATEVER THE INPUT: true; the input reads as it did. -/
def fnExactCanGroupCrossSpec : ChangeSpec := { name := "fnExactCanGroupCross", fn := fun _ => fun
  | [d1, d2, d3] => { results := [.lit (.bool true)], args := [d1, d2, d3] }
  | _ => none }
def fnExactCanGroupCrossRow : OpenClaim := { program := "ytihdhgkknfohaab", sum := "eb3ba957c21dd094550377bf19fa0fbcf4f81e61a266e105edba25633aebb222", func := "loop.example/g01352/laws.FnExactCanGroupCross", spec := "fnExactCanGroupCross", apart := false }
def FnExactCanGroupCrossSaid : Prop := fnExactCanGroupCrossRow.holds Try.pinned (OpenSpec.ofChange fnExactCanGroupCrossSpec)

/-- ITS FALSE NEIGHBOUR: 'it returns false'. Refute it at one input. -/
def fnExactCanGroupCrossWrong : ChangeSpec := { name := "fnExactCanGroupCross", fn := fun _ => fun
  | [d1, d2, d3] => { results := [.lit (.bool false)], args := [d1, d2, d3] }
  | _ => none }
def FnExactCanGroupCrossWrongFalsely : Prop := fnExactCanGroupCrossRow.holds Try.pinned (OpenSpec.ofChange fnExactCanGroupCrossWrong)

/-- 'laws.FnExactLeapForGroup': WHATEVER THE INPUT: true; the input reads as it did. -/
def fnExactLeapForGroupSpec : ChangeSpec := { name := "fnExactLeapForGroup", fn := fun _ => fun
  | [d1, d2] => { results := [.lit (.bool true)], args := [d1, d2] }
  | _ => none }
def fnExactLeapForGroupRow : OpenClaim := { program := "ytihdhgkknfohaab", sum := "eb3ba957c21dd094550377bf19fa0fbcf4f81e61a266e105edba25633aebb222", func := "loop.example/g01352/laws.FnExactLeapForGroup", spec := "fnExactLeapForGroup", apart := false }
def FnExactLeapForGroupSaid : Prop := fnExactLeapForGroupRow.holds Try.pinned (OpenSpec.ofChange fnExactLeapForGroupSpec)

/-- ITS FALSE NEIGHBOUR: 'it returns false'. Refute it at one input. -/
def fnExactLeapForGroupWrong : ChangeSpec := { name := "fnExactLeapForGroup", fn := fun _ => fun
  | [d1, d2] => { results := [.lit (.bool false)], args := [d1, d2] }
  | _ => none }
def FnExactLeapForGroupWrongFalsely : Prop := fnExactLeapForGroupRow.holds Try.pinned (OpenSpec.ofChange fnExactLeapForGroupWrong)

/-- 'laws.FnExactFirstStrongCrossing': WHATEVER THE INPUT: true; the input reads as it did. -/
def fnExactFirstStrongCrossingSpec : ChangeSpec := { name := "fnExactFirstStrongCrossing", fn := fun _ => fun
  | [d1, d2] => { results := [.lit (.bool true)], args := [d1, d2] }
  | _ => none }
def fnExactFirstStrongCrossingRow : OpenClaim := { program := "ytihdhgkknfohaab", sum := "eb3ba957c21dd094550377bf19fa0fbcf4f81e61a266e105edba25633aebb222", func := "loop.example/g01352/laws.FnExactFirstStrongCrossing", spec := "fnExactFirstStrongCrossing", apart := false }
def FnExactFirstStrongCrossingSaid : Prop := fnExactFirstStrongCrossingRow.holds Try.pinned (OpenSpec.ofChange fnExactFirstStrongCrossingSpec)

/-- ITS FALSE NEIGHBOUR: 'it returns false'. Refute it at one input. -/
def fnExactFirstStrongCrossingWrong : ChangeSpec := { name := "fnExactFirstStrongCrossing", fn := fun _ => fun
  | [d1, d2] => { results := [.lit (.bool false)], args := [d1, d2] }
  | _ => none }
def FnExactFirstStrongCrossingWrongFalsely : Prop := fnExactFirstStrongCrossingRow.holds Try.pinned (OpenSpec.ofChange fnExactFirstStrongCrossingWrong)

/-- 'laws.FnExactBestToStrengthen': WHATEVER THE INPUT: true; the input reads as it did. -/
def fnExactBestToStrengthenSpec : ChangeSpec := { name := "fnExactBestToStrengthen", fn := fun _ => fun
  | [d1, d2] => { results := [.lit (.bool true)], args := [d1, d2] }
  | _ => none }
def fnExactBestToStrengthenRow : OpenClaim := { program := "ytihdhgkknfohaab", sum := "eb3ba957c21dd094550377bf19fa0fbcf4f81e61a266e105edba25633aebb222", func := "loop.example/g01352/laws.FnExactBestToStrengthen", spec := "fnExactBestToStrengthen", recurses := true, apart := false }
def FnExactBestToStrengthenSaid : Prop := fnExactBestToStrengthenRow.holds Try.pinned (OpenSpec.ofChange fnExactBestToStrengthenSpec)

/-- ITS FALSE NEIGHBOUR: 'it returns false'. Refute it at one input. -/
def fnExactBestToStrengthenWrong : ChangeSpec := { name := "fnExactBestToStrengthen", fn := fun _ => fun
  | [d1, d2] => { results := [.lit (.bool false)], args := [d1, d2] }
  | _ => none }
def FnExactBestToStrengthenWrongFalsely : Prop := fnExactBestToStrengthenRow.holds Try.pinned (OpenSpec.ofChange fnExactBestToStrengthenWrong)

/-- 'laws.FnExactHoursToSink': WHATEVER THE INPUT: true; the input reads as it did. -/
def fnExactHoursToSinkSpec : ChangeSpec := { name := "fnExactHoursToSink", fn := fun _ => fun
  | [d1, d2] => { results := [.lit (.bool true)], args := [d1, d2] }
  | _ => none }
def fnExactHoursToSinkRow : OpenClaim := { program := "ytihdhgkknfohaab", sum := "eb3ba957c21dd094550377bf19fa0fbcf4f81e61a266e105edba25633aebb222", func := "loop.example/g01352/laws.FnExactHoursToSink", spec := "fnExactHoursToSink", recurses := true, apart := false }
def FnExactHoursToSinkSaid : Prop := fnExactHoursToSinkRow.holds Try.pinned (OpenSpec.ofChange fnExactHoursToSinkSpec)

/-- ITS FALSE NEIGHBOUR: 'it returns false'. Refute it at one input. -/
def fnExactHoursToSinkWrong : ChangeSpec := { name := "fnExactHoursToSink", fn := fun _ => fun
  | [d1, d2] => { results := [.lit (.bool false)], args := [d1, d2] }
  | _ => none }
def FnExactHoursToSinkWrongFalsely : Prop := fnExactHoursToSinkRow.holds Try.pinned (OpenSpec.ofChange fnExactHoursToSinkWrong)

/- THE SECOND FORM. 'bulk': how many values and letters a reading holds, each counted each time it is reached (what is shared counts as often as it is met; a slice's spare places count too). A statement '..UptoSaid' is the law's where the arguments, and the package variables that the reading takes, are together of bulk at most 1048576: NARROWER than '..Said'. Prove '..Said' where nothing that the law and all that it calls make is longer than what came in: it says more and counts as full. Else prove '..UptoSaid'. A law counts once. -/
mutual
def uptoBulk {H : Type} : DataW H → Nat
  | .lit (.string bytes) => bytes.length + 1
  | .lit _ => 1
  | .nil => 1
  | .ptr d => uptoBulk d + 1
  | .slice elems spare => uptoBulkAll elems + uptoBulkAll spare + 1
  | .agg parts => uptoBulkAll parts + 1
  | .iface _ d => uptoBulk d + 1
  | .map entries => uptoBulkEntries entries + 1
  | .held _ => 1
def uptoBulkAll {H : Type} : List (DataW H) → Nat
  | [] => 0
  | d :: r => uptoBulk d + uptoBulkAll r
def uptoBulkEntries {H : Type} : List (Lit × DataW H) → Nat
  | [] => 0
  | x :: r => uptoBulkEntry x + uptoBulkEntries r
def uptoBulkEntry {H : Type} : Lit × DataW H → Nat
  | (.string bytes, d) => bytes.length + uptoBulk d + 1
  | (_, d) => uptoBulk d + 1
 end
def uptoSmall : (H : Type) → List (DataW H) → Bool := fun _ ds => decide (uptoBulkAll ds ≤ 1048576)
def OpenSpec.upto (s : _root_.Go.ChangeSpec) : _root_.Go.OpenSpec := { _root_.Go.OpenSpec.ofChange s with cond := some uptoSmall }

/-- 'laws.FnExactMostWhoCross', WHERE WHAT IT READS IS OF BULK AT MOST 1048576: true; the input reads as it did. -/
def fnExactMostWhoCrossUptoRow : OpenClaim := { program := "ytihdhgkknfohaab", sum := "eb3ba957c21dd094550377bf19fa0fbcf4f81e61a266e105edba25633aebb222", func := "loop.example/g01352/laws.FnExactMostWhoCross", spec := "fnExactMostWhoCross", apart := false, narrowed := true }
def FnExactMostWhoCrossUptoSaid : Prop := fnExactMostWhoCrossUptoRow.holds Try.pinned (OpenSpec.upto fnExactMostWhoCrossSpec)

/-- 'laws.FnExactNarrowestPart', WHERE WHAT IT READS IS OF BULK AT MOST 1048576: true; the input reads as it did. -/
def fnExactNarrowestPartUptoRow : OpenClaim := { program := "ytihdhgkknfohaab", sum := "eb3ba957c21dd094550377bf19fa0fbcf4f81e61a266e105edba25633aebb222", func := "loop.example/g01352/laws.FnExactNarrowestPart", spec := "fnExactNarrowestPart", apart := false, narrowed := true }
def FnExactNarrowestPartUptoSaid : Prop := fnExactNarrowestPartUptoRow.holds Try.pinned (OpenSpec.upto fnExactNarrowestPartSpec)

/-- 'laws.FnExactCanGroupCross', WHERE WHAT IT READS IS OF BULK AT MOST 1048576: true; the input reads as it did. -/
def fnExactCanGroupCrossUptoRow : OpenClaim := { program := "ytihdhgkknfohaab", sum := "eb3ba957c21dd094550377bf19fa0fbcf4f81e61a266e105edba25633aebb222", func := "loop.example/g01352/laws.FnExactCanGroupCross", spec := "fnExactCanGroupCross", apart := false, narrowed := true }
def FnExactCanGroupCrossUptoSaid : Prop := fnExactCanGroupCrossUptoRow.holds Try.pinned (OpenSpec.upto fnExactCanGroupCrossSpec)

/-- 'laws.FnExactLeapForGroup', WHERE WHAT IT READS IS OF BULK AT MOST 1048576: true; the input reads as it did. -/
def fnExactLeapForGroupUptoRow : OpenClaim := { program := "ytihdhgkknfohaab", sum := "eb3ba957c21dd094550377bf19fa0fbcf4f81e61a266e105edba25633aebb222", func := "loop.example/g01352/laws.FnExactLeapForGroup", spec := "fnExactLeapForGroup", apart := false, narrowed := true }
def FnExactLeapForGroupUptoSaid : Prop := fnExactLeapForGroupUptoRow.holds Try.pinned (OpenSpec.upto fnExactLeapForGroupSpec)

/-- 'laws.FnExactFirstStrongCrossing', WHERE WHAT IT READS IS OF BULK AT MOST 1048576: true; the input reads as it did. -/
def fnExactFirstStrongCrossingUptoRow : OpenClaim := { program := "ytihdhgkknfohaab", sum := "eb3ba957c21dd094550377bf19fa0fbcf4f81e61a266e105edba25633aebb222", func := "loop.example/g01352/laws.FnExactFirstStrongCrossing", spec := "fnExactFirstStrongCrossing", apart := false, narrowed := true }
def FnExactFirstStrongCrossingUptoSaid : Prop := fnExactFirstStrongCrossingUptoRow.holds Try.pinned (OpenSpec.upto fnExactFirstStrongCrossingSpec)

/-- 'laws.FnExactBestToStrengthen', WHERE WHAT IT READS IS OF BULK AT MOST 1048576: true; the input reads as it did. -/
def fnExactBestToStrengthenUptoRow : OpenClaim := { program := "ytihdhgkknfohaab", sum := "eb3ba957c21dd094550377bf19fa0fbcf4f81e61a266e105edba25633aebb222", func := "loop.example/g01352/laws.FnExactBestToStrengthen", spec := "fnExactBestToStrengthen", recurses := true, apart := false, narrowed := true }
def FnExactBestToStrengthenUptoSaid : Prop := fnExactBestToStrengthenUptoRow.holds Try.pinned (OpenSpec.upto fnExactBestToStrengthenSpec)

/-- 'laws.FnExactHoursToSink', WHERE WHAT IT READS IS OF BULK AT MOST 1048576: true; the input reads as it did. -/
def fnExactHoursToSinkUptoRow : OpenClaim := { program := "ytihdhgkknfohaab", sum := "eb3ba957c21dd094550377bf19fa0fbcf4f81e61a266e105edba25633aebb222", func := "loop.example/g01352/laws.FnExactHoursToSink", spec := "fnExactHoursToSink", recurses := true, apart := false, narrowed := true }
def FnExactHoursToSinkUptoSaid : Prop := fnExactHoursToSinkUptoRow.holds Try.pinned (OpenSpec.upto fnExactHoursToSinkSpec)

end Rows
end Go.Proofs.Ytihdhgkknfohaab
