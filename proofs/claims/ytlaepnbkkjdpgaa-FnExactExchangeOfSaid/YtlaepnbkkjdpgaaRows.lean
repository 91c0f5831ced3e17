/-
  No cell of these rows narrows 'for every input' (looked for: loops, veiled, ifaces, maps, wideKeys, modest, calm, conditions, laid).
  DERIVED. THE GIVEN ROWS OF THIS SEAT. 3 by the template 'for every input the law returns true; each argument reads behind the call as it read before'; 0 by the template 'total and deterministic' (their statements: YtlaepnbkkjdpgaaTotals.lean).
  GIVEN WITH THE SEED: the statements are not yours to turn. If you find one false, say at which input.
  Laid BY PROGRAM, IN A SANDBOX (cutbox-rows.mjs): the forced cells as the released guide's own fill.sh prints them over the translation 8d2f954437c7206f… (all of the seat's roots in one cut). By AI agents, Wed Nov 11 2026. No macro, syntax, notation, axiom, sorry.
-/
import Derived.Test.YtlaepnbkkjdpgaaChecked
import GoSem.Claim
import GoSem.ClaimJoined
import GoSem.ClaimMapViews
import Derived.JoinedTies
import Derived.KernelRfl
namespace Go.Proofs.Ytlaepnbkkjdpgaa
/- THE CELL 'sum', in the pinned program and in every row, IS THE sha256 OF THE DUMP (.gsa) THAT YtlaepnbkkjdpgaaProg.lean LOADS. Nothing in Lean hashes anything: it is a label: what it is worth is what the hold of that sum in a sandbox is worth. -/
noncomputable def Try.pinned : Pinned := { name := "ytlaepnbkkjdpgaa", sum := "8d2f954437c7206ff32c9e2ed981341b1a3432f2e6fd3dafa103c9fd6b845e55", checked := Try.checked }
namespace Rows
def none {H : Type} : Left H := { results := [], args := [] }

/-- 'laws.FnExactIsPond': WHATEVER THE INPUT: true; the input reads as it did. -/
def fnExactIsPondSpec : ChangeSpec := { name := "fnExactIsPond", fn := fun _ => fun
  | [d] => { results := [.lit (.bool true)], args := [d] }
  | _ => none }
def fnExactIsPondRow : OpenClaim := { program := "ytlaepnbkkjdpgaa", sum := "8d2f954437c7206ff32c9e2ed981341b1a3432f2e6fd3dafa103c9fd6b845e55", func := "loop.example/g01352/laws.FnExactIsPond", spec := "fnExactIsPond", apart := false }
def FnExactIsPondSaid : Prop := fnExactIsPondRow.holds Try.pinned (OpenSpec.ofChange fnExactIsPondSpec)

/-- ITS FALSE NEIGHBOUR: 'it returns false'. Refute it at one input. -/
def fnExactIsPondWrong : ChangeSpec := { name := "fnExactIsPond", fn := fun _ => fun
  | [d] => { results := [.lit (.bool false)], args := [d] }
  | _ => none }
def FnExactIsPondWrongFalsely : Prop := fnExactIsPondRow.holds Try.pinned (OpenSpec.ofChange fnExactIsPondWrong)

/-- 'laws.FnExactExchangeOf': WHATEVER THE INPUT: true; the input reads as it did. -/
def fnExactExchangeOfSpec : ChangeSpec := { name := "fnExactExchangeOf", fn := fun _ => fun
  | [d] => { results := [.lit (.bool true)], args := [d] }
  | _ => none }
def fnExactExchangeOfRow : OpenClaim := { program := "ytlaepnbkkjdpgaa", sum := "8d2f954437c7206ff32c9e2ed981341b1a3432f2e6fd3dafa103c9fd6b845e55", func := "loop.example/g01352/laws.FnExactExchangeOf", spec := "fnExactExchangeOf", unfollowed := true, recurses := true, apart := false }
def FnExactExchangeOfSaid : Prop := fnExactExchangeOfRow.holds Try.pinned (OpenSpec.ofChange fnExactExchangeOfSpec)

/-- ITS FALSE NEIGHBOUR: 'it returns false'. Refute it at one input. -/
def fnExactExchangeOfWrong : ChangeSpec := { name := "fnExactExchangeOf", fn := fun _ => fun
  | [d] => { results := [.lit (.bool false)], args := [d] }
  | _ => none }
def FnExactExchangeOfWrongFalsely : Prop := fnExactExchangeOfRow.holds Try.pinned (OpenSpec.ofChange fnExactExchangeOfWrong)

/-- 'laws.FnExactTurnPond': WHATEVER THE INPUT: true; the input reads as it did. -/
def fnExactTurnPondSpec : ChangeSpec := { name := "fnExactTurnPond", fn := fun _ => fun
  | [d] => { results := [.lit (.bool true)], args := [d] }
  | _ => none }
def fnExactTurnPondRow : OpenClaim := { program := "ytlaepnbkkjdpgaa", sum := "8d2f954437c7206ff32c9e2ed981341b1a3432f2e6fd3dafa103c9fd6b845e55", func := "loop.example/g01352/laws.FnExactTurnPond", spec := "fnExactTurnPond", apart := false }
def FnExactTurnPondSaid : Prop := fnExactTurnPondRow.holds Try.pinned (OpenSpec.ofChange fnExactTurnPondSpec)

/-- ITS FALSE NEIGHBOUR: 'it returns false'. Refute it at one input. -/
def fnExactTurnPondWrong : ChangeSpec := { name := "fnExactTurnPond", fn := fun _ => fun
  | [d] => { results := [.lit (.bool false)], args := [d] }
  | _ => none }
def FnExactTurnPondWrongFalsely : Prop := fnExactTurnPondRow.holds Try.pinned (OpenSpec.ofChange fnExactTurnPondWrong)

/- THE SECOND FORM. 'bulk': how many values and letters a reading holds, each counted each time it is reached (what is shared counts as often as it is met; a slice's spare places count too). A statement '..UptoSaid' is the law's where the arguments, and the package variables that the reading takes, are together of bulk at most 1048576: NARROWER than '..Said'. Prove '..Said' where nothing that the law and all that it calls make is longer than what came in: it says more and counts as full. Else prove '..UptoSaid'. A law counts once. -/
mutual
def uptoBulk {H : Type} : DataW H → Nat
  | .lit (.string bytes) => bytes.length + 1
  | .lit _ => 1
  | .nil => 1
  | .ptr d => uptoBulk d + 1
  | .slice elems spare => uptoBulkAll elems + uptoBulkAll spare + 1
  | .agg parts => uptoBulkAll parts + 1
  | .iface _ d => uptoBulk d + 1
  | .map entries => uptoBulkEntries entries + 1
  | .held _ => 1
def uptoBulkAll {H : Type} : List (DataW H) → Nat
  | [] => 0
  | d :: r => uptoBulk d + uptoBulkAll r
def uptoBulkEntries {H : Type} : List (Lit × DataW H) → Nat
  | [] => 0
  | x :: r => uptoBulkEntry x + uptoBulkEntries r
def uptoBulkEntry {H : Type} : Lit × DataW H → Nat
  | (.string bytes, d) => bytes.length + uptoBulk d + 1
  | (_, d) => uptoBulk d + 1
 end
def uptoSmall : (H : Type) → List (DataW H) → Bool := fun _ ds => decide (uptoBulkAll ds ≤ 1048576)
def OpenSpec.upto (s : _root_.Go.ChangeSpec) : _root_.Go.OpenSpec := { _root_.Go.OpenSpec.ofChange s with cond := some uptoSmall }

/-- 'laws.FnExactIsPond', WHERE WHAT IT READS IS OF BULK AT MOST 1048576: true; the input reads as it did. -/
def fnExactIsPondUptoRow : OpenClaim := { program := "ytlaepnbkkjdpgaa", sum := "8d2f954437c7206ff32c9e2ed981341b1a3432f2e6fd3dafa103c9fd6b845e55", func := "loop.example/g01352/laws.FnExactIsPond", spec := "fnExactIsPond", apart := false, narrowed := true }
def FnExactIsPondUptoSaid : Prop := fnExactIsPondUptoRow.holds Try.pinned (OpenSpec.upto fnExactIsPondSpec)

/-- 'laws.FnExactExchangeOf', WHERE WHAT IT READS IS OF BULK AT MOST 1048576: true; the input reads as it did. -/
def fnExactExchangeOfUptoRow : OpenClaim := { program := "ytlaepnbkkjdpgaa", sum := "8d2f954437c7206ff32c9e2ed981341b1a3432f2e6fd3dafa103c9fd6b845e55", func := "loop.example/g01352/laws.FnExactExchangeOf", spec := "fnExactExchangeOf", unfollowed := true, recurses := true, apart := false, narrowed := true }
def FnExactExchangeOfUptoSaid : Prop := fnExactExchangeOfUptoRow.holds Try.pinned (OpenSpec.upto fnExactExchangeOfSpec)

/-- 'laws.FnExactTurnPond', WHERE WHAT IT READS IS OF BULK AT MOST 1048576: true; the input reads as it did. -/
def fnExactTurnPondUptoRow : OpenClaim := { program := "ytlaepnbkkjdpgaa", sum := "8d2f954437c7206ff32c9e2ed981341b1a3432f2e6fd3dafa103c9fd6b845e55", func := "loop.example/g01352/laws.FnExactTurnPond", spec := "fnExactTurnPond", apart := false, narrowed := true }
def FnExactTurnPondUptoSaid : Prop := fnExactTurnPondUptoRow.holds Try.pinned (OpenSpec.upto fnExactTurnPondSpec)

end Rows
end Go.Proofs.Ytlaepnbkkjdpgaa
