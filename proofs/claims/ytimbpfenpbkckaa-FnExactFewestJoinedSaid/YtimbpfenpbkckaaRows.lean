/-
  No cell of these rows narrows 'for every input' (looked for: loops, veiled, ifaces, maps, wideKeys, modest, calm, conditions, laid).
  DERIVED. THE GIVEN ROWS OF THIS SEAT. 10 by the template 'for every input the law returns true; each argument reads behind the call as it read before'; 0 by the template 'total and deterministic' (their statements: YtimbpfenpbkckaaTotals.lean).
  GIVEN WITH THE SEED: the statements are not yours to turn. If you find one false, say at which input.
  Laid BY PROGRAM, IN A SANDBOX (cutbox-rows.mjs): the forced cells as the released guide's own fill.sh prints them over the translation 617eb23a6a345bda… (all of the seat's roots in one cut). By AI agents, Wed Nov 11 2026. No macro, syntax, notation, axiom, sorry.
-/
import Derived.Test.YtimbpfenpbkckaaChecked
import GoSem.Claim
import GoSem.ClaimJoined
import GoSem.ClaimMapViews
import Derived.JoinedTies
import Derived.KernelRfl
namespace Go.Proofs.Ytimbpfenpbkckaa
/- THE CELL 'sum', in the pinned program and in every row, IS THE sha256 OF THE DUMP (.gsa) THAT YtimbpfenpbkckaaProg.lean LOADS. Nothing in Lean hashes anything: it is a label: what it is worth is what the hold of that sum in a sandbox is worth. -/
noncomputable def Try.pinned : Pinned := { name := "ytimbpfenpbkckaa", sum := "617eb23a6a345bda46e6b1cb1f29a1ce36b15f07728b4f7ab296ce11a06331ab", checked := Try.checked }
namespace Rows
def none {H : Type} : Left H := { results := [], args := [] }

/-- 'laws.FnExactArePlanks': WHATEVER THE INPUT: true; the input reads as it did. -/
def fnExactArePlanksSpec : ChangeSpec := { name := "fnExactArePlanks", fn := fun _ => fun
  | [d] => { results := [.lit (.bool true)], args := [d] }
  | _ => none }
def fnExactArePlanksRow : OpenClaim := { program := "ytimbpfenpbkckaa", sum := "617eb23a6a345bda46e6b1cb1f29a1ce36b15f07728b4f7ab296ce11a06331ab", func := "loop.example/g01352/laws.FnExactArePlanks", spec := "fnExactArePlanks", apart := false }
def FnExactArePlanksSaid : Prop := fnExactArePlanksRow.holds Try.pinned (OpenSpec.ofChange fnExactArePlanksSpec)

/-- ITS FALSE NEIGHBOUR: 'it returns false'. Refute it at one input. -/
def fnExactArePlanksWrong : ChangeSpec := { name := "fnExactArePlanks", fn := fun _ => fun
  | [d] => { results := [.lit (.bool false)], args := [d] }
  | _ => none }
def FnExactArePlanksWrongFalsely : Prop := fnExactArePlanksRow.holds Try.pinned (OpenSpec.ofChange fnExactArePlanksWrong)

/-- 'laws.FnExactCanSpan': WHATEVER THE INPUT: true; the input reads as it did. -/
def fnExactCanSpanSpec : ChangeSpec := { name := "fnExactCanSpan", fn := fun _ => fun
  | [d1, d2, d3] => { results := [.lit (.bool true)], args := [d1, d2, d3] }
  | _ => none }
def fnExactCanSpanRow : OpenClaim := { program := "ytimbpfenpbkckaa", sum := "617eb23a6a345bda46e6b1cb1f29a1ce36b15f07728b4f7ab296ce11a06331ab", func := "loop.example/g01352/laws.FnExactCanSpan", spec := "fnExactCanSpan", apart := false }
def FnExactCanSpanSaid : Prop := fnExactCanSpanRow.holds Try.pinned (OpenSpec.ofChange fnExactCanSpanSpec)

/-- ITS FALSE NEIGHBOUR: 'it returns false'. Refute it at one input. -/
def fnExactCanSpanWrong : ChangeSpec := { name := "fnExactCanSpan", fn := fun _ => fun
  | [d1, d2, d3] => { results := [.lit (.bool false)], args := [d1, d2, d3] }
  | _ => none }
def FnExactCanSpanWrongFalsely : Prop := fnExactCanSpanRow.holds Try.pinned (OpenSpec.ofChange fnExactCanSpanWrong)

/-- 'laws.FnExactPlankForAll': WHATEVER THE INPUT: true; the input reads as it did. -/
def fnExactPlankForAllSpec : ChangeSpec := { name := "fnExactPlankForAll", fn := fun _ => fun
  | [d1, d2, d3] => { results := [.lit (.bool true)], args := [d1, d2, d3] }
  | _ => none }
def fnExactPlankForAllRow : OpenClaim := { program := "ytimbpfenpbkckaa", sum := "617eb23a6a345bda46e6b1cb1f29a1ce36b15f07728b4f7ab296ce11a06331ab", func := "loop.example/g01352/laws.FnExactPlankForAll", spec := "fnExactPlankForAll", apart := false }
def FnExactPlankForAllSaid : Prop := fnExactPlankForAllRow.holds Try.pinned (OpenSpec.ofChange fnExactPlankForAllSpec)

/-- ITS FALSE NEIGHBOUR: 'it returns false'. Refute it at one input. -/
def fnExactPlankForAllWrong : ChangeSpec := { name := "fnExactPlankForAll", fn := fun _ => fun
  | [d1, d2, d3] => { results := [.lit (.bool false)], args := [d1, d2, d3] }
  | _ => none }
def FnExactPlankForAllWrongFalsely : Prop := fnExactPlankForAllRow.holds Try.pinned (OpenSpec.ofChange fnExactPlankForAllWrong)

/-- 'laws.FnExactJoinedLength': WHATEVER THE INPUT: true; the input reads as it did. -/
def fnExactJoinedLengthSpec : ChangeSpec := { name := "fnExactJoinedLength", fn := fun _ => fun
  | [d1, d2] => { results := [.lit (.bool true)], args := [d1, d2] }
  | _ => none }
def fnExactJoinedLengthRow : OpenClaim := { program := "ytimbpfenpbkckaa", sum := "617eb23a6a345bda46e6b1cb1f29a1ce36b15f07728b4f7ab296ce11a06331ab", func := "loop.example/g01352/laws.FnExactJoinedLength", spec := "fnExactJoinedLength", apart := false }
def FnExactJoinedLengthSaid : Prop := fnExactJoinedLengthRow.holds Try.pinned (OpenSpec.ofChange fnExactJoinedLengthSpec)

/-- ITS FALSE NEIGHBOUR: 'it returns false'. Refute it at one input. -/
def fnExactJoinedLengthWrong : ChangeSpec := { name := "fnExactJoinedLength", fn := fun _ => fun
  | [d1, d2] => { results := [.lit (.bool false)], args := [d1, d2] }
  | _ => none }
def FnExactJoinedLengthWrongFalsely : Prop := fnExactJoinedLengthRow.holds Try.pinned (OpenSpec.ofChange fnExactJoinedLengthWrong)

/-- 'laws.FnExactFewestJoined': WHATEVER THE INPUT: true; the input reads as it did. -/
def fnExactFewestJoinedSpec : ChangeSpec := { name := "fnExactFewestJoined", fn := fun _ => fun
  | [d1, d2, d3, d4] => { results := [.lit (.bool true)], args := [d1, d2, d3, d4] }
  | _ => none }
def fnExactFewestJoinedRow : OpenClaim := { program := "ytimbpfenpbkckaa", sum := "617eb23a6a345bda46e6b1cb1f29a1ce36b15f07728b4f7ab296ce11a06331ab", func := "loop.example/g01352/laws.FnExactFewestJoined", spec := "fnExactFewestJoined", unfollowed := true, recurses := true, apart := false }
def FnExactFewestJoinedSaid : Prop := fnExactFewestJoinedRow.holds Try.pinned (OpenSpec.ofChange fnExactFewestJoinedSpec)

/-- ITS FALSE NEIGHBOUR: 'it returns false'. Refute it at one input. -/
def fnExactFewestJoinedWrong : ChangeSpec := { name := "fnExactFewestJoined", fn := fun _ => fun
  | [d1, d2, d3, d4] => { results := [.lit (.bool false)], args := [d1, d2, d3, d4] }
  | _ => none }
def FnExactFewestJoinedWrongFalsely : Prop := fnExactFewestJoinedRow.holds Try.pinned (OpenSpec.ofChange fnExactFewestJoinedWrong)

/-- 'laws.FnExactFirstJoined': WHATEVER THE INPUT: true; the input reads as it did. -/
def fnExactFirstJoinedSpec : ChangeSpec := { name := "fnExactFirstJoined", fn := fun _ => fun
  | [d1, d2, d3, d4] => { results := [.lit (.bool true)], args := [d1, d2, d3, d4] }
  | _ => none }
def fnExactFirstJoinedRow : OpenClaim := { program := "ytimbpfenpbkckaa", sum := "617eb23a6a345bda46e6b1cb1f29a1ce36b15f07728b4f7ab296ce11a06331ab", func := "loop.example/g01352/laws.FnExactFirstJoined", spec := "fnExactFirstJoined", unfollowed := true, recurses := true, apart := false }
def FnExactFirstJoinedSaid : Prop := fnExactFirstJoinedRow.holds Try.pinned (OpenSpec.ofChange fnExactFirstJoinedSpec)

/-- ITS FALSE NEIGHBOUR: 'it returns false'. Refute it at one input. -/
def fnExactFirstJoinedWrong : ChangeSpec := { name := "fnExactFirstJoined", fn := fun _ => fun
  | [d1, d2, d3, d4] => { results := [.lit (.bool false)], args := [d1, d2, d3, d4] }
  | _ => none }
def FnExactFirstJoinedWrongFalsely : Prop := fnExactFirstJoinedRow.holds Try.pinned (OpenSpec.ofChange fnExactFirstJoinedWrong)

/-- 'laws.FnExactReachOfStack': WHATEVER THE INPUT: true; the input reads as it did. -/
def fnExactReachOfStackSpec : ChangeSpec := { name := "fnExactReachOfStack", fn := fun _ => fun
  | [d] => { results := [.lit (.bool true)], args := [d] }
  | _ => none }
def fnExactReachOfStackRow : OpenClaim := { program := "ytimbpfenpbkckaa", sum := "617eb23a6a345bda46e6b1cb1f29a1ce36b15f07728b4f7ab296ce11a06331ab", func := "loop.example/g01352/laws.FnExactReachOfStack", spec := "fnExactReachOfStack", apart := false }
def FnExactReachOfStackSaid : Prop := fnExactReachOfStackRow.holds Try.pinned (OpenSpec.ofChange fnExactReachOfStackSpec)

/-- ITS FALSE NEIGHBOUR: 'it returns false'. Refute it at one input. -/
def fnExactReachOfStackWrong : ChangeSpec := { name := "fnExactReachOfStack", fn := fun _ => fun
  | [d] => { results := [.lit (.bool false)], args := [d] }
  | _ => none }
def FnExactReachOfStackWrongFalsely : Prop := fnExactReachOfStackRow.holds Try.pinned (OpenSpec.ofChange fnExactReachOfStackWrong)

/-- 'laws.FnExactSafeWalk': WHATEVER THE INPUT: true; the input reads as it did. -/
def fnExactSafeWalkSpec : ChangeSpec := { name := "fnExactSafeWalk", fn := fun _ => fun
  | [d1, d2, d3, d4] => { results := [.lit (.bool true)], args := [d1, d2, d3, d4] }
  | _ => none }
def fnExactSafeWalkRow : OpenClaim := { program := "ytimbpfenpbkckaa", sum := "617eb23a6a345bda46e6b1cb1f29a1ce36b15f07728b4f7ab296ce11a06331ab", func := "loop.example/g01352/laws.FnExactSafeWalk", spec := "fnExactSafeWalk", apart := false }
def FnExactSafeWalkSaid : Prop := fnExactSafeWalkRow.holds Try.pinned (OpenSpec.ofChange fnExactSafeWalkSpec)

/-- ITS FALSE NEIGHBOUR: 'it returns false'. Refute it at one input. -/
def fnExactSafeWalkWrong : ChangeSpec := { name := "fnExactSafeWalk", fn := fun _ => fun
  | [d1, d2, d3, d4] => { results := [.lit (.bool false)], args := [d1, d2, d3, d4] }
  | _ => none }
def FnExactSafeWalkWrongFalsely : Prop := fnExactSafeWalkRow.holds Try.pinned (OpenSpec.ofChange fnExactSafeWalkWrong)

/-- 'laws.FnExactLongestOver': WHATEVER THE INPUT: true; the input reads as it did. -/
def fnExactLongestOverSpec : ChangeSpec := { name := "fnExactLongestOver", fn := fun _ => fun
  | [d1, d2, d3] => { results := [.lit (.bool true)], args := [d1, d2, d3] }
  | _ => none }
def fnExactLongestOverRow : OpenClaim := { program := "ytimbpfenpbkckaa", sum := "617eb23a6a345bda46e6b1cb1f29a1ce36b15f07728b4f7ab296ce11a06331ab", func := "loop.example/g01352/laws.FnExactLongestOver", spec := "fnExactLongestOver", apart := false }
def FnExactLongestOverSaid : Prop := fnExactLongestOverRow.holds Try.pinned (OpenSpec.ofChange fnExactLongestOverSpec)

/-- ITS FALSE NEIGHBOUR: 'it returns false'. Refute it at one input. -/
def fnExactLongestOverWrong : ChangeSpec := { name := "fnExactLongestOver", fn := fun _ => fun
  | [d1, d2, d3] => { results := [.lit (.bool false)], args := [d1, d2, d3] }
  | _ => none }
def FnExactLongestOverWrongFalsely : Prop := fnExactLongestOverRow.holds Try.pinned (OpenSpec.ofChange fnExactLongestOverWrong)

/-- 'laws.FnExactGapsOfRiver': WHATEVER THE INPUT: true; the input reads as it did. -/
def fnExactGapsOfRiverSpec : ChangeSpec := { name := "fnExactGapsOfRiver", fn := fun _ => fun
  | [d1, d2] => { results := [.lit (.bool true)], args := [d1, d2] }
  | _ => none }
def fnExactGapsOfRiverRow : OpenClaim := { program := "ytimbpfenpbkckaa", sum := "617eb23a6a345bda46e6b1cb1f29a1ce36b15f07728b4f7ab296ce11a06331ab", func := "loop.example/g01352/laws.FnExactGapsOfRiver", spec := "fnExactGapsOfRiver", apart := false }
def FnExactGapsOfRiverSaid : Prop := fnExactGapsOfRiverRow.holds Try.pinned (OpenSpec.ofChange fnExactGapsOfRiverSpec)

/-- ITS FALSE NEIGHBOUR: 'it returns false'. Refute it at one input. -/
def fnExactGapsOfRiverWrong : ChangeSpec := { name := "fnExactGapsOfRiver", fn := fun _ => fun
  | [d1, d2] => { results := [.lit (.bool false)], args := [d1, d2] }
  | _ => none }
def FnExactGapsOfRiverWrongFalsely : Prop := fnExactGapsOfRiverRow.holds Try.pinned (OpenSpec.ofChange fnExactGapsOfRiverWrong)

/- THE SECOND FORM. 'bulk': how many values and letters a reading holds, each counted each time it is reached (what is shared counts as often as it is met; a slice's spare places count too). A statement '..UptoSaid' is the law's where the arguments, and the package variables that the reading takes, are together of bulk at most 1048576: NARROWER than '..Said'. Prove '..Said' where nothing that the law and all that it calls make is longer than what came in: it says more and counts as full. Else prove '..UptoSaid'. A law counts once. -/
mutual
def uptoBulk {H : Type} : DataW H → Nat
  | .lit (.string bytes) => bytes.length + 1
  | .lit _ => 1
  | .nil => 1
  | .ptr d => uptoBulk d + 1
  | .slice elems spare => uptoBulkAll elems + uptoBulkAll spare + 1
  | .agg parts => uptoBulkAll parts + 1
  | .iface _ d => uptoBulk d + 1
  | .map entries => uptoBulkEntries entries + 1
  | .held _ => 1
def uptoBulkAll {H : Type} : List (DataW H) → Nat
  | [] => 0
  | d :: r => uptoBulk d + uptoBulkAll r
def uptoBulkEntries {H : Type} : List (Lit × DataW H) → Nat
  | [] => 0
  | x :: r => uptoBulkEntry x + uptoBulkEntries r
def uptoBulkEntry {H : Type} : Lit × DataW H → Nat
  | (.string bytes, d) => bytes.length + uptoBulk d + 1
  | (_, d) => uptoBulk d + 1
 end
def uptoSmall : (H : Type) → List (DataW H) → Bool := fun _ ds => decide (uptoBulkAll ds ≤ 1048576)
def OpenSpec.upto (s : _root_.Go.ChangeSpec) : _root_.Go.OpenSpec := { _root_.Go.OpenSpec.ofChange s with cond := some uptoSmall }

/-- 'laws.FnExactArePlanks', WHERE WHAT IT READS IS OF BULK AT MOST 1048576: true; the input reads as it did. -/
def fnExactArePlanksUptoRow : OpenClaim := { program := "ytimbpfenpbkckaa", sum := "617eb23a6a345bda46e6b1cb1f29a1ce36b15f07728b4f7ab296ce11a06331ab", func := "loop.example/g01352/laws.FnExactArePlanks", spec := "fnExactArePlanks", apart := false, narrowed := true }
def FnExactArePlanksUptoSaid : Prop := fnExactArePlanksUptoRow.holds Try.pinned (OpenSpec.upto fnExactArePlanksSpec)

/-- 'laws.FnExactCanSpan', WHERE WHAT IT READS IS OF BULK AT MOST 1048576: true; the input reads as it did. -/
def fnExactCanSpanUptoRow : OpenClaim := { program := "ytimbpfenpbkckaa", sum := "617eb23a6a345bda46e6b1cb1f29a1ce36b15f07728b4f7ab296ce11a06331ab", func := "loop.example/g01352/laws.FnExactCanSpan", spec := "fnExactCanSpan", apart := false, narrowed := true }
def FnExactCanSpanUptoSaid : Prop := fnExactCanSpanUptoRow.holds Try.pinned (OpenSpec.upto fnExactCanSpanSpec)

/-- 'laws.FnExactPlankForAll', WHERE WHAT IT READS IS OF BULK AT MOST 1048576: true; the input reads as it did. -/
def fnExactPlankForAllUptoRow : OpenClaim := { program := "ytimbpfenpbkckaa", sum := "617eb23a6a345bda46e6b1cb1f29a1ce36b15f07728b4f7ab296ce11a06331ab", func := "loop.example/g01352/laws.FnExactPlankForAll", spec := "fnExactPlankForAll", apart := false, narrowed := true }
def FnExactPlankForAllUptoSaid : Prop := fnExactPlankForAllUptoRow.holds Try.pinned (OpenSpec.upto fnExactPlankForAllSpec)

/-- 'laws.FnExactJoinedLength', WHERE WHAT IT READS IS OF BULK AT MOST 1048576: true; the input reads as it did. -/
def fnExactJoinedLengthUptoRow : OpenClaim := { program := "ytimbpfenpbkckaa", sum := "617eb23a6a345bda46e6b1cb1f29a1ce36b15f07728b4f7ab296ce11a06331ab", func := "loop.example/g01352/laws.FnExactJoinedLength", spec := "fnExactJoinedLength", apart := false, narrowed := true }
def FnExactJoinedLengthUptoSaid : Prop := fnExactJoinedLengthUptoRow.holds Try.pinned (OpenSpec.upto fnExactJoinedLengthSpec)

/-- 'laws.FnExactFewestJoined', WHERE WHAT IT READS IS OF BULK AT MOST 1048576: true; the input reads as it did. -/
def fnExactFewestJoinedUptoRow : OpenClaim := { program := "ytimbpfenpbkckaa", sum := "617eb23a6a345bda46e6b1cb1f29a1ce36b15f07728b4f7ab296ce11a06331ab", func := "loop.example/g01352/laws.FnExactFewestJoined", spec := "fnExactFewestJoined", unfollowed := true, recurses := true, apart := false, narrowed := true }
def FnExactFewestJoinedUptoSaid : Prop := fnExactFewestJoinedUptoRow.holds Try.pinned (OpenSpec.upto fnExactFewestJoinedSpec)

/-- 'laws.FnExactFirstJoined', WHERE WHAT IT READS IS OF BULK AT MOST 1048576: true; the input reads as it did. -/
def fnExactFirstJoinedUptoRow : OpenClaim := { program := "ytimbpfenpbkckaa", sum := "617eb23a6a345bda46e6b1cb1f29a1ce36b15f07728b4f7ab296ce11a06331ab", func := "loop.example/g01352/laws.FnExactFirstJoined", spec := "fnExactFirstJoined", unfollowed := true, recurses := true, apart := false, narrowed := true }
def FnExactFirstJoinedUptoSaid : Prop := fnExactFirstJoinedUptoRow.holds Try.pinned (OpenSpec.upto fnExactFirstJoinedSpec)

/-- 'laws.FnExactReachOfStack', WHERE WHAT IT READS IS OF BULK AT MOST 1048576: true; the input reads as it did. -/
def fnExactReachOfStackUptoRow : OpenClaim := { program := "ytimbpfenpbkckaa", sum := "617eb23a6a345bda46e6b1cb1f29a1ce36b15f07728b4f7ab296ce11a06331ab", func := "loop.example/g01352/laws.FnExactReachOfStack", spec := "fnExactReachOfStack", apart := false, narrowed := true }
def FnExactReachOfStackUptoSaid : Prop := fnExactReachOfStackUptoRow.holds Try.pinned (OpenSpec.upto fnExactReachOfStackSpec)

/-- 'laws.FnExactSafeWalk', WHERE WHAT IT READS IS OF BULK AT MOST 1048576: true; the input reads as it did. -/
def fnExactSafeWalkUptoRow : OpenClaim := { program := "ytimbpfenpbkckaa", sum := "617eb23a6a345bda46e6b1cb1f29a1ce36b15f07728b4f7ab296ce11a06331ab", func := "loop.example/g01352/laws.FnExactSafeWalk", spec := "fnExactSafeWalk", apart := false, narrowed := true }
def FnExactSafeWalkUptoSaid : Prop := fnExactSafeWalkUptoRow.holds Try.pinned (OpenSpec.upto fnExactSafeWalkSpec)

/-- 'laws.FnExactLongestOver', WHERE WHAT IT READS IS OF BULK AT MOST 1048576: true; the input reads as it did. -/
def fnExactLongestOverUptoRow : OpenClaim := { program := "ytimbpfenpbkckaa", sum := "617eb23a6a345bda46e6b1cb1f29a1ce36b15f07728b4f7ab296ce11a06331ab", func := "loop.example/g01352/laws.FnExactLongestOver", spec := "fnExactLongestOver", apart := false, narrowed := true }
def FnExactLongestOverUptoSaid : Prop := fnExactLongestOverUptoRow.holds Try.pinned (OpenSpec.upto fnExactLongestOverSpec)

/-- 'laws.FnExactGapsOfRiver', WHERE WHAT IT READS IS OF BULK AT MOST 1048576: true; the input reads as it did. -/
def fnExactGapsOfRiverUptoRow : OpenClaim := { program := "ytimbpfenpbkckaa", sum := "617eb23a6a345bda46e6b1cb1f29a1ce36b15f07728b4f7ab296ce11a06331ab", func := "loop.example/g01352/laws.FnExactGapsOfRiver", spec := "fnExactGapsOfRiver", apart := false, narrowed := true }
def FnExactGapsOfRiverUptoSaid : Prop := fnExactGapsOfRiverUptoRow.holds Try.pinned (OpenSpec.upto fnExactGapsOfRiverSpec)

end Rows
end Go.Proofs.Ytimbpfenpbkckaa
