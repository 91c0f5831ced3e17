/-
  No cell of these rows narrows 'for every input' (looked for: loops, veiled, ifaces, maps, wideKeys, modest, calm, conditions, laid).
  DERIVED. THE GIVEN ROWS OF THIS SEAT. 7 by the template 'for every input the law returns true; each argument reads behind the call as it read before'; 0 by the template 'total and deterministic' (their statements: YtmlokapbholeoaaTotals.lean).
  GIVEN WITH THE SEED: the statements are not yours to turn. If you find one false, say at which input.
  Laid BY PROGRAM, IN A SANDBOX (cutbox-rows.mjs): the forced cells as the released guide's own fill.sh prints them over the translation b456422cbafefab5… (all of the seat's roots in one cut). By AI agents, Wed Nov 11 2026. No macro, syntax, notation, axiom, sorry.
-/
import Derived.Test.YtmlokapbholeoaaChecked
import GoSem.Claim
import GoSem.ClaimJoined
import GoSem.ClaimMapViews
import Derived.JoinedTies
import Derived.KernelRfl
namespace Go.Proofs.Ytmlokapbholeoaa
/- THE CELL 'sum', in the pinned program and in every row, IS THE sha256 OF THE DUMP (.gsa) THAT YtmlokapbholeoaaProg.lean LOADS. Nothing in Lean hashes anything: it is a label: what it is worth is what the hold of that sum in a sandbox is worth. -/
noncomputable def Try.pinned : Pinned := { name := "ytmlokapbholeoaa", sum := "b456422cbafefab5cf0b7aa4dc3c1c56b4e9dba202055651f9072bc964e3f90e", checked := Try.checked }
namespace Rows
def none {H : Type} : Left H := { results := [], args := [] }

/-- 'laws.FnExactIsShore': WHATEVER THE INPUT: true; the input reads as it did. -/
def fnExactIsShoreSpec : ChangeSpec := { name := "fnExactIsShore", fn := fun _ => fun
  | [d] => { results := [.lit (.bool true)], args := [d] }
  | _ => none }
def fnExactIsShoreRow : OpenClaim := { program := "ytmlokapbholeoaa", sum := "b456422cbafefab5cf0b7aa4dc3c1c56b4e9dba202055651f9072bc964e3f90e", func := "loop.example/g01352/laws.FnExactIsShore", spec := "fnExactIsShore", apart := false }
def FnExactIsShoreSaid : Prop := fnExactIsShoreRow.holds Try.pinned (OpenSpec.ofChange fnExactIsShoreSpec)

/-- ITS FALSE NEIGHBOUR: 'it returns false'. Refute it at one input. -/
def fnExactIsShoreWrong : ChangeSpec := { name := "fnExactIsShore", fn := fun _ => fun
  | [d] => { results := [.lit (.bool false)], args := [d] }
  | _ => none }
def FnExactIsShoreWrongFalsely : Prop := fnExactIsShoreRow.holds Try.pinned (OpenSpec.ofChange fnExactIsShoreWrong)

/-- 'laws.FnExactIsTide': WHATEVER THE INPUT: true; the input reads as it did. -/
def fnExactIsTideSpec : ChangeSpec := { name := "fnExactIsTide", fn := fun _ => fun
  | [d] => { results := [.lit (.bool true)], args := [d] }
  | _ => none }
def fnExactIsTideRow : OpenClaim := { program := "ytmlokapbholeoaa", sum := "b456422cbafefab5cf0b7aa4dc3c1c56b4e9dba202055651f9072bc964e3f90e", func := "loop.example/g01352/laws.FnExactIsTide", spec := "fnExactIsTide", apart := false }
def FnExactIsTideSaid : Prop := fnExactIsTideRow.holds Try.pinned (OpenSpec.ofChange fnExactIsTideSpec)

/-- ITS FALSE NEIGHBOUR: 'it returns false'. Refute it at one input. -/
def fnExactIsTideWrong : ChangeSpec := { name := "fnExactIsTide", fn := fun _ => fun
  | [d] => { results := [.lit (.bool false)], args := [d] }
  | _ => none }
def FnExactIsTideWrongFalsely : Prop := fnExactIsTideRow.holds Try.pinned (OpenSpec.ofChange fnExactIsTideWrong)

/-- 'laws.FnExactDryAt': WHATEVER THE INPUT: true; the input reads as it did. -/
def fnExactDryAtSpec : ChangeSpec := { name := "fnExactDryAt", fn := fun _ => fun
  | [d1, d2, d3] => { results := [.lit (.bool true)], args := [d1, d2, d3] }
  | _ => none }
def fnExactDryAtRow : OpenClaim := { program := "ytmlokapbholeoaa", sum := "b456422cbafefab5cf0b7aa4dc3c1c56b4e9dba202055651f9072bc964e3f90e", func := "loop.example/g01352/laws.FnExactDryAt", spec := "fnExactDryAt", apart := false }
def FnExactDryAtSaid : Prop := fnExactDryAtRow.holds Try.pinned (OpenSpec.ofChange fnExactDryAtSpec)

/-- ITS FALSE NEIGHBOUR: 'it returns false'. Refute it at one input. -/
def fnExactDryAtWrong : ChangeSpec := { name := "fnExactDryAt", fn := fun _ => fun
  | [d1, d2, d3] => { results := [.lit (.bool false)], args := [d1, d2, d3] }
  | _ => none }
def FnExactDryAtWrongFalsely : Prop := fnExactDryAtRow.holds Try.pinned (OpenSpec.ofChange fnExactDryAtWrong)

/-- 'laws.FnExactDryHours': WHATEVER THE INPUT: true; the input reads as it did. -/
def fnExactDryHoursSpec : ChangeSpec := { name := "fnExactDryHours", fn := fun _ => fun
  | [d1, d2, d3] => { results := [.lit (.bool true)], args := [d1, d2, d3] }
  | _ => none }
def fnExactDryHoursRow : OpenClaim := { program := "ytmlokapbholeoaa", sum := "b456422cbafefab5cf0b7aa4dc3c1c56b4e9dba202055651f9072bc964e3f90e", func := "loop.example/g01352/laws.FnExactDryHours", spec := "fnExactDryHours", apart := false }
def FnExactDryHoursSaid : Prop := fnExactDryHoursRow.holds Try.pinned (OpenSpec.ofChange fnExactDryHoursSpec)

/-- ITS FALSE NEIGHBOUR: 'it returns false'. Refute it at one input. -/
def fnExactDryHoursWrong : ChangeSpec := { name := "fnExactDryHours", fn := fun _ => fun
  | [d1, d2, d3] => { results := [.lit (.bool false)], args := [d1, d2, d3] }
  | _ => none }
def FnExactDryHoursWrongFalsely : Prop := fnExactDryHoursRow.holds Try.pinned (OpenSpec.ofChange fnExactDryHoursWrong)

/-- 'laws.FnExactAlwaysDry': WHATEVER THE INPUT: true; the input reads as it did. -/
def fnExactAlwaysDrySpec : ChangeSpec := { name := "fnExactAlwaysDry", fn := fun _ => fun
  | [d1, d2] => { results := [.lit (.bool true)], args := [d1, d2] }
  | _ => none }
def fnExactAlwaysDryRow : OpenClaim := { program := "ytmlokapbholeoaa", sum := "b456422cbafefab5cf0b7aa4dc3c1c56b4e9dba202055651f9072bc964e3f90e", func := "loop.example/g01352/laws.FnExactAlwaysDry", spec := "fnExactAlwaysDry", apart := false }
def FnExactAlwaysDrySaid : Prop := fnExactAlwaysDryRow.holds Try.pinned (OpenSpec.ofChange fnExactAlwaysDrySpec)

/-- ITS FALSE NEIGHBOUR: 'it returns false'. Refute it at one input. -/
def fnExactAlwaysDryWrong : ChangeSpec := { name := "fnExactAlwaysDry", fn := fun _ => fun
  | [d1, d2] => { results := [.lit (.bool false)], args := [d1, d2] }
  | _ => none }
def FnExactAlwaysDryWrongFalsely : Prop := fnExactAlwaysDryRow.holds Try.pinned (OpenSpec.ofChange fnExactAlwaysDryWrong)

/-- 'laws.FnExactNeverDry': WHATEVER THE INPUT: true; the input reads as it did. -/
def fnExactNeverDrySpec : ChangeSpec := { name := "fnExactNeverDry", fn := fun _ => fun
  | [d1, d2] => { results := [.lit (.bool true)], args := [d1, d2] }
  | _ => none }
def fnExactNeverDryRow : OpenClaim := { program := "ytmlokapbholeoaa", sum := "b456422cbafefab5cf0b7aa4dc3c1c56b4e9dba202055651f9072bc964e3f90e", func := "loop.example/g01352/laws.FnExactNeverDry", spec := "fnExactNeverDry", apart := false }
def FnExactNeverDrySaid : Prop := fnExactNeverDryRow.holds Try.pinned (OpenSpec.ofChange fnExactNeverDrySpec)

/-- ITS FALSE NEIGHBOUR: 'it returns false'. Refute it at one input. -/
def fnExactNeverDryWrong : ChangeSpec := { name := "fnExactNeverDry", fn := fun _ => fun
  | [d1, d2] => { results := [.lit (.bool false)], args := [d1, d2] }
  | _ => none }
def FnExactNeverDryWrongFalsely : Prop := fnExactNeverDryRow.holds Try.pinned (OpenSpec.ofChange fnExactNeverDryWrong)

/-- 'laws.FnExactHighestHour': WHATEVER THE INPUT: true; the input reads as it did. -/
def fnExactHighestHourSpec : ChangeSpec := { name := "fnExactHighestHour", fn := fun _ => fun
  | [d] => { results := [.lit (.bool true)], args := [d] }
  | _ => none }
def fnExactHighestHourRow : OpenClaim := { program := "ytmlokapbholeoaa", sum := "b456422cbafefab5cf0b7aa4dc3c1c56b4e9dba202055651f9072bc964e3f90e", func := "loop.example/g01352/laws.FnExactHighestHour", spec := "fnExactHighestHour", apart := false }
def FnExactHighestHourSaid : Prop := fnExactHighestHourRow.holds Try.pinned (OpenSpec.ofChange fnExactHighestHourSpec)

/-- ITS FALSE NEIGHBOUR: 'it returns false'. Refute it at one input. -/
def fnExactHighestHourWrong : ChangeSpec := { name := "fnExactHighestHour", fn := fun _ => fun
  | [d] => { results := [.lit (.bool false)], args := [d] }
  | _ => none }
def FnExactHighestHourWrongFalsely : Prop := fnExactHighestHourRow.holds Try.pinned (OpenSpec.ofChange fnExactHighestHourWrong)

/- THE SECOND FORM. 'bulk': how many values and letters a reading holds, each counted each time it is reached (what is shared counts as often as it is met; a slice's spare places count too). A statement '..UptoSaid' is the law's where the arguments, and the package variables that the reading takes, are together of bulk at most 1048576: NARROWER than '..Said'. Prove '..Said' where nothing that the law and all that it calls make is longer than what came in: it says more and counts as full. Else prove '..UptoSaid'. A law counts once. -/
mutual
def uptoBulk {H : Type} : DataW H → Nat
  | .lit (.string bytes) => bytes.length + 1
  | .lit _ => 1
  | .nil => 1
  | .ptr d => uptoBulk d + 1
  | .slice elems spare => uptoBulkAll elems + uptoBulkAll spare + 1
  | .agg parts => uptoBulkAll parts + 1
  | .iface _ d => uptoBulk d + 1
  | .map entries => uptoBulkEntries entries + 1
  | .held _ => 1
def uptoBulkAll {H : Type} : List (DataW H) → Nat
  | [] => 0
  | d :: r => uptoBulk d + uptoBulkAll r
def uptoBulkEntries {H : Type} : List (Lit × DataW H) → Nat
  | [] => 0
  | x :: r => uptoBulkEntry x + uptoBulkEntries r
def uptoBulkEntry {H : Type} : Lit × DataW H → Nat
  | (.string bytes, d) => bytes.length + uptoBulk d + 1
  | (_, d) => uptoBulk d + 1
 end
def uptoSmall : (H : Type) → List (DataW H) → Bool := fun _ ds => decide (uptoBulkAll ds ≤ 1048576)
def OpenSpec.upto (s : _root_.Go.ChangeSpec) : _root_.Go.OpenSpec := { _root_.Go.OpenSpec.ofChange s with cond := some uptoSmall }

/-- 'laws.FnExactIsShore', WHERE WHAT IT READS IS OF BULK AT MOST 1048576: true; the input reads as it did. -/
def fnExactIsShoreUptoRow : OpenClaim := { program := "ytmlokapbholeoaa", sum := "b456422cbafefab5cf0b7aa4dc3c1c56b4e9dba202055651f9072bc964e3f90e", func := "loop.example/g01352/laws.FnExactIsShore", spec := "fnExactIsShore", apart := false, narrowed := true }
def FnExactIsShoreUptoSaid : Prop := fnExactIsShoreUptoRow.holds Try.pinned (OpenSpec.upto fnExactIsShoreSpec)

/-- 'laws.FnExactIsTide', WHERE WHAT IT READS IS OF BULK AT MOST 1048576: true; the input reads as it did. -/
def fnExactIsTideUptoRow : OpenClaim := { program := "ytmlokapbholeoaa", sum := "b456422cbafefab5cf0b7aa4dc3c1c56b4e9dba202055651f9072bc964e3f90e", func := "loop.example/g01352/laws.FnExactIsTide", spec := "fnExactIsTide", apart := false, narrowed := true }
def FnExactIsTideUptoSaid : Prop := fnExactIsTideUptoRow.holds Try.pinned (OpenSpec.upto fnExactIsTideSpec)

/-- 'laws.FnExactDryAt', WHERE WHAT IT READS IS OF BULK AT MOST 1048576: true; the input reads as it did. -/
def fnExactDryAtUptoRow : OpenClaim := { program := "ytmlokapbholeoaa", sum := "b456422cbafefab5cf0b7aa4dc3c1c56b4e9dba202055651f9072bc964e3f90e", func := "loop.example/g01352/laws.FnExactDryAt", spec := "fnExactDryAt", apart := false, narrowed := true }
def FnExactDryAtUptoSaid : Prop := fnExactDryAtUptoRow.holds Try.pinned (OpenSpec.upto fnExactDryAtSpec)

/-- 'laws.FnExactDryHours', WHERE WHAT IT READS IS OF BULK AT MOST 1048576: true; the input reads as it did. -/
def fnExactDryHoursUptoRow : OpenClaim := { program := "ytmlokapbholeoaa", sum := "b456422cbafefab5cf0b7aa4dc3c1c56b4e9dba202055651f9072bc964e3f90e", func := "loop.example/g01352/laws.FnExactDryHours", spec := "fnExactDryHours", apart := false, narrowed := true }
def FnExactDryHoursUptoSaid : Prop := fnExactDryHoursUptoRow.holds Try.pinned (OpenSpec.upto fnExactDryHoursSpec)

/-- 'laws.FnExactAlwaysDry', WHERE WHAT IT READS IS OF BULK AT MOST 1048576: true; the input reads as it did. -/
def fnExactAlwaysDryUptoRow : OpenClaim := { program := "ytmlokapbholeoaa", sum := "b456422cbafefab5cf0b7aa4dc3c1c56b4e9dba202055651f9072bc964e3f90e", func := "loop.example/g01352/laws.FnExactAlwaysDry", spec := "fnExactAlwaysDry", apart := false, narrowed := true }
def FnExactAlwaysDryUptoSaid : Prop := fnExactAlwaysDryUptoRow.holds Try.pinned (OpenSpec.upto fnExactAlwaysDrySpec)

/-- 'laws.FnExactNeverDry', WHERE WHAT IT READS IS OF BULK AT MOST 1048576: true; the input reads as it did. -/
def fnExactNeverDryUptoRow : OpenClaim := { program := "ytmlokapbholeoaa", sum := "b456422cbafefab5cf0b7aa4dc3c1c56b4e9dba202055651f9072bc964e3f90e", func := "loop.example/g01352/laws.FnExactNeverDry", spec := "fnExactNeverDry", apart := false, narrowed := true }
def FnExactNeverDryUptoSaid : Prop := fnExactNeverDryUptoRow.holds Try.pinned (OpenSpec.upto fnExactNeverDrySpec)

/-- 'laws.FnExactHighestHour', WHERE WHAT IT READS IS OF BULK AT MOST 1048576: true; the input reads as it did. -/
def fnExactHighestHourUptoRow : OpenClaim := { program := "ytmlokapbholeoaa", sum := "b456422cbafefab5cf0b7aa4dc3c1c56b4e9dba202055651f9072bc964e3f90e", func := "loop.example/g01352/laws.FnExactHighestHour", spec := "fnExactHighestHour", apart := false, narrowed := true }
def FnExactHighestHourUptoSaid : Prop := fnExactHighestHourUptoRow.holds Try.pinned (OpenSpec.upto fnExactHighestHourSpec)

end Rows
end Go.Proofs.Ytmlokapbholeoaa
