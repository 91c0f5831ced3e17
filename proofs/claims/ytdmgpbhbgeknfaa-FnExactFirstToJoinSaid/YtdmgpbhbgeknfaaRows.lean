/-
  No cell of these rows narrows 'for every input' (looked for: loops, veiled, ifaces, maps, wideKeys, modest, calm, conditions, laid).
  DERIVED. THE GIVEN ROWS OF THIS SEAT. 5 by the template 'for every input the law returns true; each argument reads behind the call as it read before'; 0 by the template 'total and deterministic' (their statements: YtdmgpbhbgeknfaaTotals.lean).
  GIVEN WITH THE SEED: the statements are not yours to turn. If you find one false, say at which input.
  Laid BY PROGRAM, IN A SANDBOX (cutbox-rows.mjs): the forced cells as the released guide's own fill.sh prints them over the translation eda94eb81c6f9123… (all of the seat's roots in one cut). By AI agents, Wed Nov 11 2026. No macro, syntax, notation, axiom, sorry.
-/
import Derived.Test.YtdmgpbhbgeknfaaChecked
import GoSem.Claim
import GoSem.ClaimJoined
import GoSem.ClaimMapViews
import Derived.JoinedTies
import Derived.KernelRfl
namespace Go.Proofs.Ytdmgpbhbgeknfaa
/- THE CELL 'sum', in the pinned program and in every row, IS THE sha256 OF THE DUMP (.gsa) THAT YtdmgpbhbgeknfaaProg.lean LOADS. Nothing in Lean hashes anything: it is a label: what it is worth is what the hold of that sum in a sandbox is worth. -/
noncomputable def Try.pinned : Pinned := { name := "ytdmgpbhbgeknfaa", sum := "eda94eb81c6f912335af60063fbc8f585ed2e33da38006a96b238baabd14e848", checked := Try.checked }
namespace Rows
def none {H : Type} : Left H := { results := [], args := [] }

/-- 'laws.FnExactAddBridge': WHATEVER THE INPUT: true; the input reads as it did. -/
def fnExactAddBridgeSpec : ChangeSpec := { name := "fnExactAddBridge", fn := fun _ => fun
  | [d1, d2] => { results := [.lit (.bool true)], args := [d1, d2] }
  | _ => none }
def fnExactAddBridgeRow : OpenClaim := { program := "ytdmgpbhbgeknfaa", sum := "eda94eb81c6f912335af60063fbc8f585ed2e33da38006a96b238baabd14e848", func := "loop.example/g01352/laws.FnExactAddBridge", spec := "fnExactAddBridge", apart := false }
def FnExactAddBridgeSaid : Prop := fnExactAddBridgeRow.holds Try.pinned (OpenSpec.ofChange fnExactAddBridgeSpec)

/-- ITS FALSE NEIGHBOUR: 'it returns false'. Refute it at one input. -/
def fnExactAddBridgeWrong : ChangeSpec := { name := "fnExactAddBridge", fn := fun _ => fun
  | [d1, d2] => { results := [.lit (.bool false)], args := [d1, d2] }
  | _ => none }
def FnExactAddBridgeWrongFalsely : Prop := fnExactAddBridgeRow.holds Try.pinned (OpenSpec.ofChange fnExactAddBridgeWrong)

/-- 'laws.FnExactCutIslands': WHATEVER THE INPUT: true; the input reads as it did. -/
def fnExactCutIslandsSpec : ChangeSpec := { name := "fnExactCutIslands", fn := fun _ => fun
  | [d] => { results := [.lit (.bool true)], args := [d] }
  | _ => none }
def fnExactCutIslandsRow : OpenClaim := { program := "ytdmgpbhbgeknfaa", sum := "eda94eb81c6f912335af60063fbc8f585ed2e33da38006a96b238baabd14e848", func := "loop.example/g01352/laws.FnExactCutIslands", spec := "fnExactCutIslands", unfollowed := true, recurses := true, apart := false }
def FnExactCutIslandsSaid : Prop := fnExactCutIslandsRow.holds Try.pinned (OpenSpec.ofChange fnExactCutIslandsSpec)

/-- ITS FALSE NEIGHBOUR: 'it returns false'. Refute it at one input. -/
def fnExactCutIslandsWrong : ChangeSpec := { name := "fnExactCutIslands", fn := fun _ => fun
  | [d] => { results := [.lit (.bool false)], args := [d] }
  | _ => none }
def FnExactCutIslandsWrongFalsely : Prop := fnExactCutIslandsRow.holds Try.pinned (OpenSpec.ofChange fnExactCutIslandsWrong)

/-- 'laws.FnExactLeastToJoin': WHATEVER THE INPUT: true; the input reads as it did. -/
def fnExactLeastToJoinSpec : ChangeSpec := { name := "fnExactLeastToJoin", fn := fun _ => fun
  | [d] => { results := [.lit (.bool true)], args := [d] }
  | _ => none }
def fnExactLeastToJoinRow : OpenClaim := { program := "ytdmgpbhbgeknfaa", sum := "eda94eb81c6f912335af60063fbc8f585ed2e33da38006a96b238baabd14e848", func := "loop.example/g01352/laws.FnExactLeastToJoin", spec := "fnExactLeastToJoin", unfollowed := true, recurses := true, apart := false }
def FnExactLeastToJoinSaid : Prop := fnExactLeastToJoinRow.holds Try.pinned (OpenSpec.ofChange fnExactLeastToJoinSpec)

/-- ITS FALSE NEIGHBOUR: 'it returns false'. Refute it at one input. -/
def fnExactLeastToJoinWrong : ChangeSpec := { name := "fnExactLeastToJoin", fn := fun _ => fun
  | [d] => { results := [.lit (.bool false)], args := [d] }
  | _ => none }
def FnExactLeastToJoinWrongFalsely : Prop := fnExactLeastToJoinRow.holds Try.pinned (OpenSpec.ofChange fnExactLeastToJoinWrong)

/-- 'laws.FnExactFirstToJoin': WHATEVER THE INPUT: true; the input reads as it did. -/
def fnExactFirstToJoinSpec : ChangeSpec := { name := "fnExactFirstToJoin", fn := fun _ => fun
  | [d] => { results := [.lit (.bool true)], args := [d] }
  | _ => none }
def fnExactFirstToJoinRow : OpenClaim := { program := "ytdmgpbhbgeknfaa", sum := "eda94eb81c6f912335af60063fbc8f585ed2e33da38006a96b238baabd14e848", func := "loop.example/g01352/laws.FnExactFirstToJoin", spec := "fnExactFirstToJoin", unfollowed := true, recurses := true, apart := false }
def FnExactFirstToJoinSaid : Prop := fnExactFirstToJoinRow.holds Try.pinned (OpenSpec.ofChange fnExactFirstToJoinSpec)

/-- ITS FALSE NEIGHBOUR: 'it returns false'. Refute it at one input. -/
def fnExactFirstToJoinWrong : ChangeSpec := { name := "fnExactFirstToJoin", fn := fun _ => fun
  | [d] => { results := [.lit (.bool false)], args := [d] }
  | _ => none }
def FnExactFirstToJoinWrongFalsely : Prop := fnExactFirstToJoinRow.holds Try.pinned (OpenSpec.ofChange fnExactFirstToJoinWrong)

/-- 'laws.FnExactCountToJoin': WHATEVER THE INPUT: true; the input reads as it did. -/
def fnExactCountToJoinSpec : ChangeSpec := { name := "fnExactCountToJoin", fn := fun _ => fun
  | [d] => { results := [.lit (.bool true)], args := [d] }
  | _ => none }
def fnExactCountToJoinRow : OpenClaim := { program := "ytdmgpbhbgeknfaa", sum := "eda94eb81c6f912335af60063fbc8f585ed2e33da38006a96b238baabd14e848", func := "loop.example/g01352/laws.FnExactCountToJoin", spec := "fnExactCountToJoin", unfollowed := true, recurses := true, apart := false }
def FnExactCountToJoinSaid : Prop := fnExactCountToJoinRow.holds Try.pinned (OpenSpec.ofChange fnExactCountToJoinSpec)

/-- ITS FALSE NEIGHBOUR: 'it returns false'. Refute it at one input. -/
def fnExactCountToJoinWrong : ChangeSpec := { name := "fnExactCountToJoin", fn := fun _ => fun
  | [d] => { results := [.lit (.bool false)], args := [d] }
  | _ => none }
def FnExactCountToJoinWrongFalsely : Prop := fnExactCountToJoinRow.holds Try.pinned (OpenSpec.ofChange fnExactCountToJoinWrong)

/- THE SECOND FORM. 'bulk': how many values and letters a reading holds, each counted each time it is reached (what is shared counts as often as it is met; a slice's spare places count too). A statement '..UptoSaid' is the law's where the arguments, and the package variables that the reading takes, are together of bulk at most 1048576: NARROWER than '..Said'. Prove '..Said' where nothing that the law and all that it calls make is longer than what came in: it says more and counts as full. Else prove '..UptoSaid'. A law counts once. -/
mutual
def uptoBulk {H : Type} : DataW H → Nat
  | .lit (.string bytes) => bytes.length + 1
  | .lit _ => 1
  | .nil => 1
  | .ptr d => uptoBulk d + 1
  | .slice elems spare => uptoBulkAll elems + uptoBulkAll spare + 1
  | .agg parts => uptoBulkAll parts + 1
  | .iface _ d => uptoBulk d + 1
  | .map entries => uptoBulkEntries entries + 1
  | .held _ => 1
def uptoBulkAll {H : Type} : List (DataW H) → Nat
  | [] => 0
  | d :: r => uptoBulk d + uptoBulkAll r
def uptoBulkEntries {H : Type} : List (Lit × DataW H) → Nat
  | [] => 0
  | x :: r => uptoBulkEntry x + uptoBulkEntries r
def uptoBulkEntry {H : Type} : Lit × DataW H → Nat
  | (.string bytes, d) => bytes.length + uptoBulk d + 1
  | (_, d) => uptoBulk d + 1
 end
def uptoSmall : (H : Type) → List (DataW H) → Bool := fun _ ds => decide (uptoBulkAll ds ≤ 1048576)
def OpenSpec.upto (s : _root_.Go.ChangeSpec) : _root_.Go.OpenSpec := { _root_.Go.OpenSpec.ofChange s with cond := some uptoSmall }

/-- 'laws.FnExactAddBridge', WHERE WHAT IT READS IS OF BULK AT MOST 1048576: true; the input reads as it did. -/
def fnExactAddBridgeUptoRow : OpenClaim := { program := "ytdmgpbhbgeknfaa", sum := "eda94eb81c6f912335af60063fbc8f585ed2e33da38006a96b238baabd14e848", func := "loop.example/g01352/laws.FnExactAddBridge", spec := "fnExactAddBridge", apart := false, narrowed := true }
def FnExactAddBridgeUptoSaid : Prop := fnExactAddBridgeUptoRow.holds Try.pinned (OpenSpec.upto fnExactAddBridgeSpec)

/-- 'laws.FnExactCutIslands', WHERE WHAT IT READS IS OF BULK AT MOST 1048576: true; the input reads as it did. -/
def fnExactCutIslandsUptoRow : OpenClaim := { program := "ytdmgpbhbgeknfaa", sum := "eda94eb81c6f912335af60063fbc8f585ed2e33da38006a96b238baabd14e848", func := "loop.example/g01352/laws.FnExactCutIslands", spec := "fnExactCutIslands", unfollowed := true, recurses := true, apart := false, narrowed := true }
def FnExactCutIslandsUptoSaid : Prop := fnExactCutIslandsUptoRow.holds Try.pinned (OpenSpec.upto fnExactCutIslandsSpec)

/-- 'laws.FnExactLeastToJoin', WHERE WHAT IT READS IS OF BULK AT MOST 1048576: true; the input reads as it did. -/
def fnExactLeastToJoinUptoRow : OpenClaim := { program := "ytdmgpbhbgeknfaa", sum := "eda94eb81c6f912335af60063fbc8f585ed2e33da38006a96b238baabd14e848", func := "loop.example/g01352/laws.FnExactLeastToJoin", spec := "fnExactLeastToJoin", unfollowed := true, recurses := true, apart := false, narrowed := true }
def FnExactLeastToJoinUptoSaid : Prop := fnExactLeastToJoinUptoRow.holds Try.pinned (OpenSpec.upto fnExactLeastToJoinSpec)

/-- 'laws.FnExactFirstToJoin', WHERE WHAT IT READS IS OF BULK AT MOST 1048576: true; the input reads as it did. -/
def fnExactFirstToJoinUptoRow : OpenClaim := { program := "ytdmgpbhbgeknfaa", sum := "eda94eb81c6f912335af60063fbc8f585ed2e33da38006a96b238baabd14e848", func := "loop.example/g01352/laws.FnExactFirstToJoin", spec := "fnExactFirstToJoin", unfollowed := true, recurses := true, apart := false, narrowed := true }
def FnExactFirstToJoinUptoSaid : Prop := fnExactFirstToJoinUptoRow.holds Try.pinned (OpenSpec.upto fnExactFirstToJoinSpec)

/-- 'laws.FnExactCountToJoin', WHERE WHAT IT READS IS OF BULK AT MOST 1048576: true; the input reads as it did. -/
def fnExactCountToJoinUptoRow : OpenClaim := { program := "ytdmgpbhbgeknfaa", sum := "eda94eb81c6f912335af60063fbc8f585ed2e33da38006a96b238baabd14e848", func := "loop.example/g01352/laws.FnExactCountToJoin", spec := "fnExactCountToJoin", unfollowed := true, recurses := true, apart := false, narrowed := true }
def FnExactCountToJoinUptoSaid : Prop := fnExactCountToJoinUptoRow.holds Try.pinned (OpenSpec.upto fnExactCountToJoinSpec)

end Rows
end Go.Proofs.Ytdmgpbhbgeknfaa
