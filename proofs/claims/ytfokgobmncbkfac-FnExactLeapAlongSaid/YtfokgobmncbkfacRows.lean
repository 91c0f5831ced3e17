/-
  No cell of these rows narrows 'for every input' (looked for: loops, veiled, ifaces, maps, wideKeys, modest, calm, conditions, laid).
  DERIVED. THE GIVEN ROWS OF THIS SEAT. 6 by the template 'for every input the law returns true; each argument reads behind the call as it read before'; 0 by the template 'total and deterministic' (their statements: YtfokgobmncbkfacTotals.lean).
  GIVEN WITH THE SEED: the statements are not yours to turn. If you find one false, say at which input.
  Laid BY PROGRAM, IN A SANDBOX (cutbox-rows.mjs): the forced cells as the released guide's own fill.sh prints them over the translation 3c3db36ffa20deb2… (all of the seat's roots in one cut). By AI agents, Wed Nov 11 2026. No macro, syntax, notation, axiom, sorry.
-/
import Derived.Test.YtfokgobmncbkfacChecked
import GoSem.Claim
import GoSem.ClaimJoined
import GoSem.ClaimMapViews
import Derived.JoinedTies
import Derived.KernelRfl
namespace Go.Proofs.Ytfokgobmncbkfac
/- THE CELL 'sum', in the pinned program and in every row, IS THE sha256 OF THE DUMP (.gsa) THAT YtfokgobmncbkfacProg.lean LOADS. Nothing in Lean hashes anything: it is a label: what it is worth is what the hold of that sum in a sandbox is worth. -/
noncomputable def Try.pinned : Pinned := { name := "ytfokgobmncbkfac", sum := "3c3db36ffa20deb2a4db79f9fde1ec15cb4c2666985f9cd4ad1e66bf6cde2ef0", checked := Try.checked }
namespace Rows
def none {H : Type} : Left H := { results := [], args := [] }

/-- 'laws.FnExactFewestToAdd': WHATEVER THE INPUT: true; the input reads as it did. -/
def fnExactFewestToAddSpec : ChangeSpec := { name := "fnExactFewestToAdd", fn := fun _ => fun
  | [d1, d2] => { results := [.lit (.bool true)], args := [d1, d2] }
  | _ => none }
def fnExactFewestToAddRow : OpenClaim := { program := "ytfokgobmncbkfac", sum := "3c3db36ffa20deb2a4db79f9fde1ec15cb4c2666985f9cd4ad1e66bf6cde2ef0", func := "loop.example/g01352/laws.FnExactFewestToAdd", spec := "fnExactFewestToAdd", apart := false }
def FnExactFewestToAddSaid : Prop := fnExactFewestToAddRow.holds Try.pinned (OpenSpec.ofChange fnExactFewestToAddSpec)

/-- ITS FALSE NEIGHBOUR: 'it returns false'. Refute it at one input. -/
def fnExactFewestToAddWrong : ChangeSpec := { name := "fnExactFewestToAdd", fn := fun _ => fun
  | [d1, d2] => { results := [.lit (.bool false)], args := [d1, d2] }
  | _ => none }
def FnExactFewestToAddWrongFalsely : Prop := fnExactFewestToAddRow.holds Try.pinned (OpenSpec.ofChange fnExactFewestToAddWrong)

/-- 'laws.FnExactStonesToAdd': WHATEVER THE INPUT: true; the input reads as it did. -/
def fnExactStonesToAddSpec : ChangeSpec := { name := "fnExactStonesToAdd", fn := fun _ => fun
  | [d1, d2] => { results := [.lit (.bool true)], args := [d1, d2] }
  | _ => none }
def fnExactStonesToAddRow : OpenClaim := { program := "ytfokgobmncbkfac", sum := "3c3db36ffa20deb2a4db79f9fde1ec15cb4c2666985f9cd4ad1e66bf6cde2ef0", func := "loop.example/g01352/laws.FnExactStonesToAdd", spec := "fnExactStonesToAdd", apart := false }
def FnExactStonesToAddSaid : Prop := fnExactStonesToAddRow.holds Try.pinned (OpenSpec.ofChange fnExactStonesToAddSpec)

/-- ITS FALSE NEIGHBOUR: 'it returns false'. Refute it at one input. -/
def fnExactStonesToAddWrong : ChangeSpec := { name := "fnExactStonesToAdd", fn := fun _ => fun
  | [d1, d2] => { results := [.lit (.bool false)], args := [d1, d2] }
  | _ => none }
def FnExactStonesToAddWrongFalsely : Prop := fnExactStonesToAddRow.holds Try.pinned (OpenSpec.ofChange fnExactStonesToAddWrong)

/-- 'laws.FnExactPutStone': WHATEVER THE INPUT: true; the input reads as it did. -/
def fnExactPutStoneSpec : ChangeSpec := { name := "fnExactPutStone", fn := fun _ => fun
  | [d1, d2] => { results := [.lit (.bool true)], args := [d1, d2] }
  | _ => none }
def fnExactPutStoneRow : OpenClaim := { program := "ytfokgobmncbkfac", sum := "3c3db36ffa20deb2a4db79f9fde1ec15cb4c2666985f9cd4ad1e66bf6cde2ef0", func := "loop.example/g01352/laws.FnExactPutStone", spec := "fnExactPutStone", apart := false }
def FnExactPutStoneSaid : Prop := fnExactPutStoneRow.holds Try.pinned (OpenSpec.ofChange fnExactPutStoneSpec)

/-- ITS FALSE NEIGHBOUR: 'it returns false'. Refute it at one input. -/
def fnExactPutStoneWrong : ChangeSpec := { name := "fnExactPutStone", fn := fun _ => fun
  | [d1, d2] => { results := [.lit (.bool false)], args := [d1, d2] }
  | _ => none }
def FnExactPutStoneWrongFalsely : Prop := fnExactPutStoneRow.holds Try.pinned (OpenSpec.ofChange fnExactPutStoneWrong)

/-- 'laws.FnExactTakeStone': WHATEVER THE INPUT: true; the input reads as it did. -/
def fnExactTakeStoneSpec : ChangeSpec := { name := "fnExactTakeStone", fn := fun _ => fun
  | [d1, d2] => { results := [.lit (.bool true)], args := [d1, d2] }
  | _ => none }
def fnExactTakeStoneRow : OpenClaim := { program := "ytfokgobmncbkfac", sum := "3c3db36ffa20deb2a4db79f9fde1ec15cb4c2666985f9cd4ad1e66bf6cde2ef0", func := "loop.example/g01352/laws.FnExactTakeStone", spec := "fnExactTakeStone", apart := false }
def FnExactTakeStoneSaid : Prop := fnExactTakeStoneRow.holds Try.pinned (OpenSpec.ofChange fnExactTakeStoneSpec)

/-- ITS FALSE NEIGHBOUR: 'it returns false'. Refute it at one input. -/
def fnExactTakeStoneWrong : ChangeSpec := { name := "fnExactTakeStone", fn := fun _ => fun
  | [d1, d2] => { results := [.lit (.bool false)], args := [d1, d2] }
  | _ => none }
def FnExactTakeStoneWrongFalsely : Prop := fnExactTakeStoneRow.holds Try.pinned (OpenSpec.ofChange fnExactTakeStoneWrong)

/-- 'laws.FnExactLeapAlong': WHATEVER THE INPUT: true; the input reads as it did. -/
def fnExactLeapAlongSpec : ChangeSpec := { name := "fnExactLeapAlong", fn := fun _ => fun
  | [d1, d2] => { results := [.lit (.bool true)], args := [d1, d2] }
  | _ => none }
def fnExactLeapAlongRow : OpenClaim := { program := "ytfokgobmncbkfac", sum := "3c3db36ffa20deb2a4db79f9fde1ec15cb4c2666985f9cd4ad1e66bf6cde2ef0", func := "loop.example/g01352/laws.FnExactLeapAlong", spec := "fnExactLeapAlong", apart := false }
def FnExactLeapAlongSaid : Prop := fnExactLeapAlongRow.holds Try.pinned (OpenSpec.ofChange fnExactLeapAlongSpec)

/-- ITS FALSE NEIGHBOUR: 'it returns false'. Refute it at one input. -/
def fnExactLeapAlongWrong : ChangeSpec := { name := "fnExactLeapAlong", fn := fun _ => fun
  | [d1, d2] => { results := [.lit (.bool false)], args := [d1, d2] }
  | _ => none }
def FnExactLeapAlongWrongFalsely : Prop := fnExactLeapAlongRow.holds Try.pinned (OpenSpec.ofChange fnExactLeapAlongWrong)

/-- 'laws.FnExactLeapsLeft': WHATEVER THE INPUT: true; the input reads as it did. -/
def fnExactLeapsLeftSpec : ChangeSpec := { name := "fnExactLeapsLeft", fn := fun _ => fun
  | [d1, d2] => { results := [.lit (.bool true)], args := [d1, d2] }
  | _ => none }
def fnExactLeapsLeftRow : OpenClaim := { program := "ytfokgobmncbkfac", sum := "3c3db36ffa20deb2a4db79f9fde1ec15cb4c2666985f9cd4ad1e66bf6cde2ef0", func := "loop.example/g01352/laws.FnExactLeapsLeft", spec := "fnExactLeapsLeft", apart := false }
def FnExactLeapsLeftSaid : Prop := fnExactLeapsLeftRow.holds Try.pinned (OpenSpec.ofChange fnExactLeapsLeftSpec)

/-- ITS FALSE NEIGHBOUR: 'it returns false'. Refute it at one input. -/
def fnExactLeapsLeftWrong : ChangeSpec := { name := "fnExactLeapsLeft", fn := fun _ => fun
  | [d1, d2] => { results := [.lit (.bool false)], args := [d1, d2] }
  | _ => none }
def FnExactLeapsLeftWrongFalsely : Prop := fnExactLeapsLeftRow.holds Try.pinned (OpenSpec.ofChange fnExactLeapsLeftWrong)

/- THE SECOND FORM. 'bulk': how many values and letters a reading holds, each counted each time it is reached (what is shared counts as often as it is met; a slice's spare places count too). A statement '..UptoSaid' is the law's where the arguments, and the package variables that the reading takes, are together of bulk at most 1048576: NARROWER than '..Said'. Prove '..Said' where nothing that the law and all that it calls make is longer than what came in: it says more and counts as full. Else prove '..UptoSaid'. A law counts once. -/
mutual
def uptoBulk {H : Type} : DataW H → Nat
  | .lit (.string bytes) => bytes.length + 1
  | .lit _ => 1
  | .nil => 1
  | .ptr d => uptoBulk d + 1
  | .slice elems spare => uptoBulkAll elems + uptoBulkAll spare + 1
  | .agg parts => uptoBulkAll parts + 1
  | .iface _ d => uptoBulk d + 1
  | .map entries => uptoBulkEntries entries + 1
  | .held _ => 1
def uptoBulkAll {H : Type} : List (DataW H) → Nat
  | [] => 0
  | d :: r => uptoBulk d + uptoBulkAll r
def uptoBulkEntries {H : Type} : List (Lit × DataW H) → Nat
  | [] => 0
  | x :: r => uptoBulkEntry x + uptoBulkEntries r
def uptoBulkEntry {H : Type} : Lit × DataW H → Nat
  | (.string bytes, d) => bytes.length + uptoBulk d + 1
  | (_, d) => uptoBulk d + 1
 end
def uptoSmall : (H : Type) → List (DataW H) → Bool := fun _ ds => decide (uptoBulkAll ds ≤ 1048576)
def OpenSpec.upto (s : _root_.Go.ChangeSpec) : _root_.Go.OpenSpec := { _root_.Go.OpenSpec.ofChange s with cond := some uptoSmall }

/-- 'laws.FnExactFewestToAdd', WHERE WHAT IT READS IS OF BULK AT MOST 1048576: true; the input reads as it did. -/
def fnExactFewestToAddUptoRow : OpenClaim := { program := "ytfokgobmncbkfac", sum := "3c3db36ffa20deb2a4db79f9fde1ec15cb4c2666985f9cd4ad1e66bf6cde2ef0", func := "loop.example/g01352/laws.FnExactFewestToAdd", spec := "fnExactFewestToAdd", apart := false, narrowed := true }
def FnExactFewestToAddUptoSaid : Prop := fnExactFewestToAddUptoRow.holds Try.pinned (OpenSpec.upto fnExactFewestToAddSpec)

/-- 'laws.FnExactStonesToAdd', WHERE WHAT IT READS IS OF BULK AT MOST 1048576: true; the input reads as it did. -/
def fnExactStonesToAddUptoRow : OpenClaim := { program := "ytfokgobmncbkfac", sum := "3c3db36ffa20deb2a4db79f9fde1ec15cb4c2666985f9cd4ad1e66bf6cde2ef0", func := "loop.example/g01352/laws.FnExactStonesToAdd", spec := "fnExactStonesToAdd", apart := false, narrowed := true }
def FnExactStonesToAddUptoSaid : Prop := fnExactStonesToAddUptoRow.holds Try.pinned (OpenSpec.upto fnExactStonesToAddSpec)

/-- 'laws.FnExactPutStone', WHERE WHAT IT READS IS OF BULK AT MOST 1048576: true; the input reads as it did. -/
def fnExactPutStoneUptoRow : OpenClaim := { program := "ytfokgobmncbkfac", sum := "3c3db36ffa20deb2a4db79f9fde1ec15cb4c2666985f9cd4ad1e66bf6cde2ef0", func := "loop.example/g01352/laws.FnExactPutStone", spec := "fnExactPutStone", apart := false, narrowed := true }
def FnExactPutStoneUptoSaid : Prop := fnExactPutStoneUptoRow.holds Try.pinned (OpenSpec.upto fnExactPutStoneSpec)

/-- 'laws.FnExactTakeStone', WHERE WHAT IT READS IS OF BULK AT MOST 1048576: true; the input reads as it did. -/
def fnExactTakeStoneUptoRow : OpenClaim := { program := "ytfokgobmncbkfac", sum := "3c3db36ffa20deb2a4db79f9fde1ec15cb4c2666985f9cd4ad1e66bf6cde2ef0", func := "loop.example/g01352/laws.FnExactTakeStone", spec := "fnExactTakeStone", apart := false, narrowed := true }
def FnExactTakeStoneUptoSaid : Prop := fnExactTakeStoneUptoRow.holds Try.pinned (OpenSpec.upto fnExactTakeStoneSpec)

/-- 'laws.FnExactLeapAlong', WHERE WHAT IT READS IS OF BULK AT MOST 1048576: true; the input reads as it did. -/
def fnExactLeapAlongUptoRow : OpenClaim := { program := "ytfokgobmncbkfac", sum := "3c3db36ffa20deb2a4db79f9fde1ec15cb4c2666985f9cd4ad1e66bf6cde2ef0", func := "loop.example/g01352/laws.FnExactLeapAlong", spec := "fnExactLeapAlong", apart := false, narrowed := true }
def FnExactLeapAlongUptoSaid : Prop := fnExactLeapAlongUptoRow.holds Try.pinned (OpenSpec.upto fnExactLeapAlongSpec)

/-- 'laws.FnExactLeapsLeft', WHERE WHAT IT READS IS OF BULK AT MOST 1048576: true; the input reads as it did. -/
def fnExactLeapsLeftUptoRow : OpenClaim := { program := "ytfokgobmncbkfac", sum := "3c3db36ffa20deb2a4db79f9fde1ec15cb4c2666985f9cd4ad1e66bf6cde2ef0", func := "loop.example/g01352/laws.FnExactLeapsLeft", spec := "fnExactLeapsLeft", apart := false, narrowed := true }
def FnExactLeapsLeftUptoSaid : Prop := fnExactLeapsLeftUptoRow.holds Try.pinned (OpenSpec.upto fnExactLeapsLeftSpec)

end Rows
end Go.Proofs.Ytfokgobmncbkfac
