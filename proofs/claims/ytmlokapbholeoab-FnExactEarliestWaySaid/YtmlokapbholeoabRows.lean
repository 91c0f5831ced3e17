/-
  No cell of these rows narrows 'for every input' (looked for: loops, veiled, ifaces, maps, wideKeys, modest, calm, conditions, laid).
  DERIVED. THE GIVEN ROWS OF THIS SEAT. 7 by the template 'for every input the law returns true; each argument reads behind the call as it read before'; 0 by the template 'total and deterministic' (their statements: YtmlokapbholeoabTotals.lean).
  GIVEN WITH THE SEED: the statements are not yours to turn. If you find one false, say at which input.
  Laid BY PROGRAM, IN A SANDBOX (cutbox-rows.mjs): the forced cells as the released guide's own fill.sh prints them over the translation c51d1c3e2a570c82… (all of the seat's roots in one cut). By AI agents, Wed Nov 11 2026. No macro, syntax, notation, axiom, sorry.
-/
import Derived.Test.YtmlokapbholeoabChecked
import GoSem.Claim
import GoSem.ClaimJoined
import GoSem.ClaimMapViews
import Derived.JoinedTies
import Derived.KernelRfl
namespace Go.Proofs.Ytmlokapbholeoab
/- THE CELL 'sum', in the pinned program and in every row, IS THE sha256 OF THE DUMP (.gsa) THAT YtmlokapbholeoabProg.lean LOADS. Nothing in Lean hashes anything: it is a label: what it is worth is what the hold of that sum in a sandbox is worth. -/
noncomputable def Try.pinned : Pinned := { name := "ytmlokapbholeoab", sum := "c51d1c3e2a570c82cb87389a01d9bde7b230ba33331a34dfbb04eb50feb7bb8a", checked := Try.checked }
namespace Rows
def none {H : Type} : Left H := { results := [], args := [] }

/-- 'laws.FnExactArrivalsOf': WHATEVER THE INPUT: true; the input reads as it did. -/
def fnExactArrivalsOfSpec : ChangeSpec := { name := "fnExactArrivalsOf", fn := fun _ => fun
  | [d1, d2, d3, d4] => { results := [.lit (.bool true)], args := [d1, d2, d3, d4] }
  | _ => none }
def fnExactArrivalsOfRow : OpenClaim := { program := "ytmlokapbholeoab", sum := "c51d1c3e2a570c82cb87389a01d9bde7b230ba33331a34dfbb04eb50feb7bb8a", func := "loop.example/g01352/laws.FnExactArrivalsOf", spec := "fnExactArrivalsOf", plainKeys := false, apart := false }
def FnExactArrivalsOfSaid : Prop := fnExactArrivalsOfRow.holds Try.pinned (OpenSpec.ofChange fnExactArrivalsOfSpec)

/-- ITS FALSE NEIGHBOUR: 'it returns false'. Refute it at one input. -/
def fnExactArrivalsOfWrong : ChangeSpec := { name := "fnExactArrivalsOf", fn := fun _ => fun
  | [d1, d2, d3, d4] => { results := [.lit (.bool false)], args := [d1, d2, d3, d4] }
  | _ => none }
def FnExactArrivalsOfWrongFalsely : Prop := fnExactArrivalsOfRow.holds Try.pinned (OpenSpec.ofChange fnExactArrivalsOfWrong)

/-- 'laws.FnExactEarliestAt': WHATEVER THE INPUT: true; the input reads as it did. -/
def fnExactEarliestAtSpec : ChangeSpec := { name := "fnExactEarliestAt", fn := fun _ => fun
  | [d1, d2, d3, d4] => { results := [.lit (.bool true)], args := [d1, d2, d3, d4] }
  | _ => none }
def fnExactEarliestAtRow : OpenClaim := { program := "ytmlokapbholeoab", sum := "c51d1c3e2a570c82cb87389a01d9bde7b230ba33331a34dfbb04eb50feb7bb8a", func := "loop.example/g01352/laws.FnExactEarliestAt", spec := "fnExactEarliestAt", plainKeys := false, apart := false }
def FnExactEarliestAtSaid : Prop := fnExactEarliestAtRow.holds Try.pinned (OpenSpec.ofChange fnExactEarliestAtSpec)

/-- ITS FALSE NEIGHBOUR: 'it returns false'. Refute it at one input. -/
def fnExactEarliestAtWrong : ChangeSpec := { name := "fnExactEarliestAt", fn := fun _ => fun
  | [d1, d2, d3, d4] => { results := [.lit (.bool false)], args := [d1, d2, d3, d4] }
  | _ => none }
def FnExactEarliestAtWrongFalsely : Prop := fnExactEarliestAtRow.holds Try.pinned (OpenSpec.ofChange fnExactEarliestAtWrong)

/-- 'laws.FnExactEarliestWay': WHATEVER THE INPUT: true; the input reads as it did. -/
def fnExactEarliestWaySpec : ChangeSpec := { name := "fnExactEarliestWay", fn := fun _ => fun
  | [d1, d2, d3, d4] => { results := [.lit (.bool true)], args := [d1, d2, d3, d4] }
  | _ => none }
def fnExactEarliestWayRow : OpenClaim := { program := "ytmlokapbholeoab", sum := "c51d1c3e2a570c82cb87389a01d9bde7b230ba33331a34dfbb04eb50feb7bb8a", func := "loop.example/g01352/laws.FnExactEarliestWay", spec := "fnExactEarliestWay", plainKeys := false, apart := false }
def FnExactEarliestWaySaid : Prop := fnExactEarliestWayRow.holds Try.pinned (OpenSpec.ofChange fnExactEarliestWaySpec)

/-- ITS FALSE NEIGHBOUR: 'it returns false'. Refute it at one input. -/
def fnExactEarliestWayWrong : ChangeSpec := { name := "fnExactEarliestWay", fn := fun _ => fun
  | [d1, d2, d3, d4] => { results := [.lit (.bool false)], args := [d1, d2, d3, d4] }
  | _ => none }
def FnExactEarliestWayWrongFalsely : Prop := fnExactEarliestWayRow.holds Try.pinned (OpenSpec.ofChange fnExactEarliestWayWrong)

/-- 'laws.FnExactFewestHours': WHATEVER THE INPUT: true; the input reads as it did. -/
def fnExactFewestHoursSpec : ChangeSpec := { name := "fnExactFewestHours", fn := fun _ => fun
  | [d1, d2, d3] => { results := [.lit (.bool true)], args := [d1, d2, d3] }
  | _ => none }
def fnExactFewestHoursRow : OpenClaim := { program := "ytmlokapbholeoab", sum := "c51d1c3e2a570c82cb87389a01d9bde7b230ba33331a34dfbb04eb50feb7bb8a", func := "loop.example/g01352/laws.FnExactFewestHours", spec := "fnExactFewestHours", plainKeys := false, apart := false }
def FnExactFewestHoursSaid : Prop := fnExactFewestHoursRow.holds Try.pinned (OpenSpec.ofChange fnExactFewestHoursSpec)

/-- ITS FALSE NEIGHBOUR: 'it returns false'. Refute it at one input. -/
def fnExactFewestHoursWrong : ChangeSpec := { name := "fnExactFewestHours", fn := fun _ => fun
  | [d1, d2, d3] => { results := [.lit (.bool false)], args := [d1, d2, d3] }
  | _ => none }
def FnExactFewestHoursWrongFalsely : Prop := fnExactFewestHoursRow.holds Try.pinned (OpenSpec.ofChange fnExactFewestHoursWrong)

/-- 'laws.FnExactStartsWithin': WHATEVER THE INPUT: true; the input reads as it did. -/
def fnExactStartsWithinSpec : ChangeSpec := { name := "fnExactStartsWithin", fn := fun _ => fun
  | [d1, d2, d3, d4] => { results := [.lit (.bool true)], args := [d1, d2, d3, d4] }
  | _ => none }
def fnExactStartsWithinRow : OpenClaim := { program := "ytmlokapbholeoab", sum := "c51d1c3e2a570c82cb87389a01d9bde7b230ba33331a34dfbb04eb50feb7bb8a", func := "loop.example/g01352/laws.FnExactStartsWithin", spec := "fnExactStartsWithin", plainKeys := false, apart := false }
def FnExactStartsWithinSaid : Prop := fnExactStartsWithinRow.holds Try.pinned (OpenSpec.ofChange fnExactStartsWithinSpec)

/-- ITS FALSE NEIGHBOUR: 'it returns false'. Refute it at one input. -/
def fnExactStartsWithinWrong : ChangeSpec := { name := "fnExactStartsWithin", fn := fun _ => fun
  | [d1, d2, d3, d4] => { results := [.lit (.bool false)], args := [d1, d2, d3, d4] }
  | _ => none }
def FnExactStartsWithinWrongFalsely : Prop := fnExactStartsWithinRow.holds Try.pinned (OpenSpec.ofChange fnExactStartsWithinWrong)

/-- 'laws.FnExactLatestStart': WHATEVER THE INPUT: true; the input reads as it did. -/
def fnExactLatestStartSpec : ChangeSpec := { name := "fnExactLatestStart", fn := fun _ => fun
  | [d1, d2, d3, d4] => { results := [.lit (.bool true)], args := [d1, d2, d3, d4] }
  | _ => none }
def fnExactLatestStartRow : OpenClaim := { program := "ytmlokapbholeoab", sum := "c51d1c3e2a570c82cb87389a01d9bde7b230ba33331a34dfbb04eb50feb7bb8a", func := "loop.example/g01352/laws.FnExactLatestStart", spec := "fnExactLatestStart", plainKeys := false, apart := false }
def FnExactLatestStartSaid : Prop := fnExactLatestStartRow.holds Try.pinned (OpenSpec.ofChange fnExactLatestStartSpec)

/-- ITS FALSE NEIGHBOUR: 'it returns false'. Refute it at one input. -/
def fnExactLatestStartWrong : ChangeSpec := { name := "fnExactLatestStart", fn := fun _ => fun
  | [d1, d2, d3, d4] => { results := [.lit (.bool false)], args := [d1, d2, d3, d4] }
  | _ => none }
def FnExactLatestStartWrongFalsely : Prop := fnExactLatestStartRow.holds Try.pinned (OpenSpec.ofChange fnExactLatestStartWrong)

/-- 'laws.FnExactLeastTideLeap': WHATEVER THE INPUT: true; the input reads as it did. -/
def fnExactLeastTideLeapSpec : ChangeSpec := { name := "fnExactLeastTideLeap", fn := fun _ => fun
  | [d1, d2] => { results := [.lit (.bool true)], args := [d1, d2] }
  | _ => none }
def fnExactLeastTideLeapRow : OpenClaim := { program := "ytmlokapbholeoab", sum := "c51d1c3e2a570c82cb87389a01d9bde7b230ba33331a34dfbb04eb50feb7bb8a", func := "loop.example/g01352/laws.FnExactLeastTideLeap", spec := "fnExactLeastTideLeap", plainKeys := false, apart := false }
def FnExactLeastTideLeapSaid : Prop := fnExactLeastTideLeapRow.holds Try.pinned (OpenSpec.ofChange fnExactLeastTideLeapSpec)

/-- ITS FALSE NEIGHBOUR: 'it returns false'. Refute it at one input. -/
def fnExactLeastTideLeapWrong : ChangeSpec := { name := "fnExactLeastTideLeap", fn := fun _ => fun
  | [d1, d2] => { results := [.lit (.bool false)], args := [d1, d2] }
  | _ => none }
def FnExactLeastTideLeapWrongFalsely : Prop := fnExactLeastTideLeapRow.holds Try.pinned (OpenSpec.ofChange fnExactLeastTideLeapWrong)

/- THE SECOND FORM. 'bulk': how many values and letters a reading holds, each counted each time it is reached (what is shared counts as often as it is met; a slice's spare places count too). A statement '..UptoSaid' is the law's where the arguments, and the package variables that the reading takes, are together of bulk at most 1048576: NARROWER than '..Said'. Prove '..Said' where nothing that the law and all that it calls make is longer than what came in: it says more and counts as full. Else prove '..UptoSaid'. A law counts once. -/
mutual
def uptoBulk {H : Type} : DataW H → Nat
  | .lit (.string bytes) => bytes.length + 1
  | .lit _ => 1
  | .nil => 1
  | .ptr d => uptoBulk d + 1
  | .slice elems spare => uptoBulkAll elems + uptoBulkAll spare + 1
  | .agg parts => uptoBulkAll parts + 1
  | .iface _ d => uptoBulk d + 1
  | .map entries => uptoBulkEntries entries + 1
  | .held _ => 1
def uptoBulkAll {H : Type} : List (DataW H) → Nat
  | [] => 0
  | d :: r => uptoBulk d + uptoBulkAll r
def uptoBulkEntries {H : Type} : List (Lit × DataW H) → Nat
  | [] => 0
  | x :: r => uptoBulkEntry x + uptoBulkEntries r
def uptoBulkEntry {H : Type} : Lit × DataW H → Nat
  | (.string bytes, d) => bytes.length + uptoBulk d + 1
  | (_, d) => uptoBulk d + 1
 end
def uptoSmall : (H : Type) → List (DataW H) → Bool := fun _ ds => decide (uptoBulkAll ds ≤ 1048576)
def OpenSpec.upto (s : _root_.Go.ChangeSpec) : _root_.Go.OpenSpec := { _root_.Go.OpenSpec.ofChange s with cond := some uptoSmall }

/-- 'laws.FnExactArrivalsOf', WHERE WHAT IT READS IS OF BULK AT MOST 1048576: true; the input reads as it did. -/
def fnExactArrivalsOfUptoRow : OpenClaim := { program := "ytmlokapbholeoab", sum := "c51d1c3e2a570c82cb87389a01d9bde7b230ba33331a34dfbb04eb50feb7bb8a", func := "loop.example/g01352/laws.FnExactArrivalsOf", spec := "fnExactArrivalsOf", plainKeys := false, apart := false, narrowed := true }
def FnExactArrivalsOfUptoSaid : Prop := fnExactArrivalsOfUptoRow.holds Try.pinned (OpenSpec.upto fnExactArrivalsOfSpec)

/-- 'laws.FnExactEarliestAt', WHERE WHAT IT READS IS OF BULK AT MOST 1048576: true; the input reads as it did. -/
def fnExactEarliestAtUptoRow : OpenClaim := { program := "ytmlokapbholeoab", sum := "c51d1c3e2a570c82cb87389a01d9bde7b230ba33331a34dfbb04eb50feb7bb8a", func := "loop.example/g01352/laws.FnExactEarliestAt", spec := "fnExactEarliestAt", plainKeys := false, apart := false, narrowed := true }
def FnExactEarliestAtUptoSaid : Prop := fnExactEarliestAtUptoRow.holds Try.pinned (OpenSpec.upto fnExactEarliestAtSpec)

/-- 'laws.FnExactEarliestWay', WHERE WHAT IT READS IS OF BULK AT MOST 1048576: true; the input reads as it did. -/
def fnExactEarliestWayUptoRow : OpenClaim := { program := "ytmlokapbholeoab", sum := "c51d1c3e2a570c82cb87389a01d9bde7b230ba33331a34dfbb04eb50feb7bb8a", func := "loop.example/g01352/laws.FnExactEarliestWay", spec := "fnExactEarliestWay", plainKeys := false, apart := false, narrowed := true }
def FnExactEarliestWayUptoSaid : Prop := fnExactEarliestWayUptoRow.holds Try.pinned (OpenSpec.upto fnExactEarliestWaySpec)

/-- 'laws.FnExactFewestHours', WHERE WHAT IT READS IS OF BULK AT MOST 1048576: true; the input reads as it did. -/
def fnExactFewestHoursUptoRow : OpenClaim := { program := "ytmlokapbholeoab", sum := "c51d1c3e2a570c82cb87389a01d9bde7b230ba33331a34dfbb04eb50feb7bb8a", func := "loop.example/g01352/laws.FnExactFewestHours", spec := "fnExactFewestHours", plainKeys := false, apart := false, narrowed := true }
def FnExactFewestHoursUptoSaid : Prop := fnExactFewestHoursUptoRow.holds Try.pinned (OpenSpec.upto fnExactFewestHoursSpec)

/-- 'laws.FnExactStartsWithin', WHERE WHAT IT READS IS OF BULK AT MOST 1048576: true; the input reads as it did. -/
def fnExactStartsWithinUptoRow : OpenClaim := { program := "ytmlokapbholeoab", sum := "c51d1c3e2a570c82cb87389a01d9bde7b230ba33331a34dfbb04eb50feb7bb8a", func := "loop.example/g01352/laws.FnExactStartsWithin", spec := "fnExactStartsWithin", plainKeys := false, apart := false, narrowed := true }
def FnExactStartsWithinUptoSaid : Prop := fnExactStartsWithinUptoRow.holds Try.pinned (OpenSpec.upto fnExactStartsWithinSpec)

/-- 'laws.FnExactLatestStart', WHERE WHAT IT READS IS OF BULK AT MOST 1048576: true; the input reads as it did. -/
def fnExactLatestStartUptoRow : OpenClaim := { program := "ytmlokapbholeoab", sum := "c51d1c3e2a570c82cb87389a01d9bde7b230ba33331a34dfbb04eb50feb7bb8a", func := "loop.example/g01352/laws.FnExactLatestStart", spec := "fnExactLatestStart", plainKeys := false, apart := false, narrowed := true }
def FnExactLatestStartUptoSaid : Prop := fnExactLatestStartUptoRow.holds Try.pinned (OpenSpec.upto fnExactLatestStartSpec)

/-- 'laws.FnExactLeastTideLeap', WHERE WHAT IT READS IS OF BULK AT MOST 1048576: true; the input reads as it did. -/
def fnExactLeastTideLeapUptoRow : OpenClaim := { program := "ytmlokapbholeoab", sum := "c51d1c3e2a570c82cb87389a01d9bde7b230ba33331a34dfbb04eb50feb7bb8a", func := "loop.example/g01352/laws.FnExactLeastTideLeap", spec := "fnExactLeastTideLeap", plainKeys := false, apart := false, narrowed := true }
def FnExactLeastTideLeapUptoSaid : Prop := fnExactLeastTideLeapUptoRow.holds Try.pinned (OpenSpec.upto fnExactLeastTideLeapSpec)

end Rows
end Go.Proofs.Ytmlokapbholeoab
