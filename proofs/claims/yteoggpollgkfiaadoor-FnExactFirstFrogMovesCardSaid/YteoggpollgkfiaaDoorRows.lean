/-
  NARROWER THAN 'FOR EVERY INPUT', by the rows' own cells (each row's printed sentence says how): FnExactFewestFrogMoves: ifaces, laid · FnExactFirstFrogMoves: ifaces, laid · FnExactLongestFrogPlay: ifaces, laid · FnExactShortestStuck: ifaces, laid · FnExactStuckPonds: ifaces, laid.
  DERIVED. THE GIVEN ROWS OF THIS SEAT. 5 by the template 'for every input the law returns true; each argument reads behind the call as it read before'; 0 by the template 'total and deterministic' (their statements: YteoggpollgkfiaaDoorTotals.lean).
  GIVEN WITH THE SEED: the statements are not yours to turn. If you find one false, say at which input.
  Laid BY PROGRAM, IN A SANDBOX (cutbox-rows.mjs): the forced cells as the released guide's own fill.sh prints them over the translation a0a99c353d16d243… (all of the seat's roots in one cut). By AI agents, Wed Nov 11 2026. No macro, syntax, notation, axiom, sorry.
-/
import Derived.Test.YteoggpollgkfiaaDoorChecked
import GoSem.Claim
import GoSem.ClaimJoined
import GoSem.ClaimMapViews
import Derived.JoinedTies
import Derived.KernelRfl
namespace Go.Proofs.YteoggpollgkfiaaDoor
/- THE CELL 'sum', in the pinned program and in every row, IS THE sha256 OF THE DUMP (.gsa) THAT YteoggpollgkfiaaDoorProg.lean LOADS. Nothing in Lean hashes anything: it is a label: what it is worth is what the hold of that sum in a sandbox is worth. -/
noncomputable def Tryd.pinned : Pinned := { name := "yteoggpollgkfiaadoor", sum := "a0a99c353d16d2439e5d65c85171b3f1c1dec9657b4282b7813834aa17d5cd96", checked := Tryd.checked }
namespace Rows
def none {H : Type} : Left H := { results := [], args := [] }

/- WHAT THE LISTED PACKAGE-LEVEL VARIABLES READ AS WHEN THE CALL BEGINS. Each datum BY PROGRAM (the guide's laid-datum.mjs) off the statement by which the dump's own 'gosem.cut.vars' lays the variable. In a bare row this is a premise. The card (YteoggpollgkfiaaDoorCards.lean) ties it to the program's text. -/
def laid_errors_errorType {H : Type} : DataW H := .iface "internal/reflectlite.rtype" (.agg [.ptr (.lit (.string [101, 114, 114, 111, 114]))])
def laid_loop_example_g01352_impl_errNoMove {H : Type} : DataW H := .iface "*errors.errorString" (.ptr (.agg [.lit (.string [110, 111, 32, 115, 117, 99, 104, 32, 109, 111, 118, 101])]))

/-- 'laws.FnExactFewestFrogMoves': WHATEVER THE INPUT: true; the input reads as it did. -/
def fnExactFewestFrogMovesSpec : ChangeSpec := { name := "fnExactFewestFrogMoves", vars := ["loop.example/g01352/impl.errNoMove"], fn := fun _ => fun
  | [d1, d2, g1] => { results := [.lit (.bool true)], args := [d1, d2], vars := [g1] }
  | _ => none }
def fnExactFewestFrogMovesRow : OpenClaim := { program := "yteoggpollgkfiaadoor", sum := "a0a99c353d16d2439e5d65c85171b3f1c1dec9657b4282b7813834aa17d5cd96", func := "loop.example/g01352/laws.FnExactFewestFrogMoves", spec := "fnExactFewestFrogMoves", inPlace := ["internal/reflectlite.ValueOf", "(internal/reflectlite.Value).Type", "(internal/reflectlite.Value).IsNil", "internal/reflectlite.TypeOf", "(internal/reflectlite.Value).Elem", "(internal/reflectlite.Value).Set"], unfollowed := true, recurses := true, named := ["loop.example/g01352/impl.errNoMove", "errors.errorType"], ifaces := true, apart := false, laid := [("errors.errorType", laid_errors_errorType), ("loop.example/g01352/impl.errNoMove", laid_loop_example_g01352_impl_errNoMove)] }
def FnExactFewestFrogMovesSaid : Prop := fnExactFewestFrogMovesRow.holds Tryd.pinned (OpenSpec.ofChange fnExactFewestFrogMovesSpec)

/-- ITS FALSE NEIGHBOUR: 'it returns false'. Refute it at one input. -/
def fnExactFewestFrogMovesWrong : ChangeSpec := { name := "fnExactFewestFrogMoves", vars := ["loop.example/g01352/impl.errNoMove"], fn := fun _ => fun
  | [d1, d2, g1] => { results := [.lit (.bool false)], args := [d1, d2], vars := [g1] }
  | _ => none }
def FnExactFewestFrogMovesWrongFalsely : Prop := fnExactFewestFrogMovesRow.holds Tryd.pinned (OpenSpec.ofChange fnExactFewestFrogMovesWrong)

/-- 'laws.FnExactFirstFrogMoves': WHATEVER THE INPUT: true; the input reads as it did. -/
def fnExactFirstFrogMovesSpec : ChangeSpec := { name := "fnExactFirstFrogMoves", vars := ["loop.example/g01352/impl.errNoMove"], fn := fun _ => fun
  | [d1, d2, g1] => { results := [.lit (.bool true)], args := [d1, d2], vars := [g1] }
  | _ => none }
def fnExactFirstFrogMovesRow : OpenClaim := { program := "yteoggpollgkfiaadoor", sum := "a0a99c353d16d2439e5d65c85171b3f1c1dec9657b4282b7813834aa17d5cd96", func := "loop.example/g01352/laws.FnExactFirstFrogMoves", spec := "fnExactFirstFrogMoves", inPlace := ["internal/reflectlite.ValueOf", "(internal/reflectlite.Value).Type", "(internal/reflectlite.Value).IsNil", "internal/reflectlite.TypeOf", "(internal/reflectlite.Value).Elem", "(internal/reflectlite.Value).Set"], unfollowed := true, recurses := true, named := ["loop.example/g01352/impl.errNoMove", "errors.errorType"], ifaces := true, apart := false, laid := [("errors.errorType", laid_errors_errorType), ("loop.example/g01352/impl.errNoMove", laid_loop_example_g01352_impl_errNoMove)] }
def FnExactFirstFrogMovesSaid : Prop := fnExactFirstFrogMovesRow.holds Tryd.pinned (OpenSpec.ofChange fnExactFirstFrogMovesSpec)

/-- ITS FALSE NEIGHBOUR: 'it returns false'. Refute it at one input. -/
def fnExactFirstFrogMovesWrong : ChangeSpec := { name := "fnExactFirstFrogMoves", vars := ["loop.example/g01352/impl.errNoMove"], fn := fun _ => fun
  | [d1, d2, g1] => { results := [.lit (.bool false)], args := [d1, d2], vars := [g1] }
  | _ => none }
def FnExactFirstFrogMovesWrongFalsely : Prop := fnExactFirstFrogMovesRow.holds Tryd.pinned (OpenSpec.ofChange fnExactFirstFrogMovesWrong)

/-- 'laws.FnExactLongestFrogPlay': WHATEVER THE INPUT: true; the input reads as it did. -/
def fnExactLongestFrogPlaySpec : ChangeSpec := { name := "fnExactLongestFrogPlay", vars := ["loop.example/g01352/impl.errNoMove"], fn := fun _ => fun
  | [d, g1] => { results := [.lit (.bool true)], args := [d], vars := [g1] }
  | _ => none }
def fnExactLongestFrogPlayRow : OpenClaim := { program := "yteoggpollgkfiaadoor", sum := "a0a99c353d16d2439e5d65c85171b3f1c1dec9657b4282b7813834aa17d5cd96", func := "loop.example/g01352/laws.FnExactLongestFrogPlay", spec := "fnExactLongestFrogPlay", inPlace := ["internal/reflectlite.ValueOf", "(internal/reflectlite.Value).Type", "(internal/reflectlite.Value).IsNil", "internal/reflectlite.TypeOf", "(internal/reflectlite.Value).Elem", "(internal/reflectlite.Value).Set"], unfollowed := true, recurses := true, named := ["loop.example/g01352/impl.errNoMove", "errors.errorType"], ifaces := true, apart := false, laid := [("errors.errorType", laid_errors_errorType), ("loop.example/g01352/impl.errNoMove", laid_loop_example_g01352_impl_errNoMove)] }
def FnExactLongestFrogPlaySaid : Prop := fnExactLongestFrogPlayRow.holds Tryd.pinned (OpenSpec.ofChange fnExactLongestFrogPlaySpec)

/-- ITS FALSE NEIGHBOUR: 'it returns false'. Refute it at one input. -/
def fnExactLongestFrogPlayWrong : ChangeSpec := { name := "fnExactLongestFrogPlay", vars := ["loop.example/g01352/impl.errNoMove"], fn := fun _ => fun
  | [d, g1] => { results := [.lit (.bool false)], args := [d], vars := [g1] }
  | _ => none }
def FnExactLongestFrogPlayWrongFalsely : Prop := fnExactLongestFrogPlayRow.holds Tryd.pinned (OpenSpec.ofChange fnExactLongestFrogPlayWrong)

/-- 'laws.FnExactShortestStuck': WHATEVER THE INPUT: true; the input reads as it did. -/
def fnExactShortestStuckSpec : ChangeSpec := { name := "fnExactShortestStuck", vars := ["loop.example/g01352/impl.errNoMove"], fn := fun _ => fun
  | [d, g1] => { results := [.lit (.bool true)], args := [d], vars := [g1] }
  | _ => none }
def fnExactShortestStuckRow : OpenClaim := { program := "yteoggpollgkfiaadoor", sum := "a0a99c353d16d2439e5d65c85171b3f1c1dec9657b4282b7813834aa17d5cd96", func := "loop.example/g01352/laws.FnExactShortestStuck", spec := "fnExactShortestStuck", inPlace := ["internal/reflectlite.ValueOf", "(internal/reflectlite.Value).Type", "(internal/reflectlite.Value).IsNil", "internal/reflectlite.TypeOf", "(internal/reflectlite.Value).Elem", "(internal/reflectlite.Value).Set"], unfollowed := true, recurses := true, named := ["loop.example/g01352/impl.errNoMove", "errors.errorType"], ifaces := true, apart := false, laid := [("errors.errorType", laid_errors_errorType), ("loop.example/g01352/impl.errNoMove", laid_loop_example_g01352_impl_errNoMove)] }
def FnExactShortestStuckSaid : Prop := fnExactShortestStuckRow.holds Tryd.pinned (OpenSpec.ofChange fnExactShortestStuckSpec)

/-- ITS FALSE NEIGHBOUR: 'it returns false'. Refute it at one input. -/
def fnExactShortestStuckWrong : ChangeSpec := { name := "fnExactShortestStuck", vars := ["loop.example/g01352/impl.errNoMove"], fn := fun _ => fun
  | [d, g1] => { results := [.lit (.bool false)], args := [d], vars := [g1] }
  | _ => none }
def FnExactShortestStuckWrongFalsely : Prop := fnExactShortestStuckRow.holds Tryd.pinned (OpenSpec.ofChange fnExactShortestStuckWrong)

/-- 'laws.FnExactStuckPonds': WHATEVER THE INPUT: true; the input reads as it did. -/
def fnExactStuckPondsSpec : ChangeSpec := { name := "fnExactStuckPonds", vars := ["loop.example/g01352/impl.errNoMove"], fn := fun _ => fun
  | [d, g1] => { results := [.lit (.bool true)], args := [d], vars := [g1] }
  | _ => none }
def fnExactStuckPondsRow : OpenClaim := { program := "yteoggpollgkfiaadoor", sum := "a0a99c353d16d2439e5d65c85171b3f1c1dec9657b4282b7813834aa17d5cd96", func := "loop.example/g01352/laws.FnExactStuckPonds", spec := "fnExactStuckPonds", inPlace := ["internal/reflectlite.ValueOf", "(internal/reflectlite.Value).Type", "(internal/reflectlite.Value).IsNil", "internal/reflectlite.TypeOf", "(internal/reflectlite.Value).Elem", "(internal/reflectlite.Value).Set"], unfollowed := true, recurses := true, named := ["loop.example/g01352/impl.errNoMove", "errors.errorType"], ifaces := true, apart := false, laid := [("errors.errorType", laid_errors_errorType), ("loop.example/g01352/impl.errNoMove", laid_loop_example_g01352_impl_errNoMove)] }
def FnExactStuckPondsSaid : Prop := fnExactStuckPondsRow.holds Tryd.pinned (OpenSpec.ofChange fnExactStuckPondsSpec)

/-- ITS FALSE NEIGHBOUR: 'it returns false'. Refute it at one input. -/
def fnExactStuckPondsWrong : ChangeSpec := { name := "fnExactStuckPonds", vars := ["loop.example/g01352/impl.errNoMove"], fn := fun _ => fun
  | [d, g1] => { results := [.lit (.bool false)], args := [d], vars := [g1] }
  | _ => none }
def FnExactStuckPondsWrongFalsely : Prop := fnExactStuckPondsRow.holds Tryd.pinned (OpenSpec.ofChange fnExactStuckPondsWrong)

/- THE SECOND FORM. 'bulk': how many values and letters a reading holds, each counted each time it is reached (what is shared counts as often as it is met; a slice's spare places count too). A statement '..UptoSaid' is the law's where the arguments, and the package variables that the reading takes, are together of bulk at most 1048576: NARROWER than '..Said'. Prove '..Said' where nothing that the law and all that it calls make is longer than what came in: it says more and counts as full. Else prove '..UptoSaid'. A law counts once. -/
mutual
def uptoBulk {H : Type} : DataW H → Nat
  | .lit (.string bytes) => bytes.length + 1
  | .lit _ => 1
  | .nil => 1
  | .ptr d => uptoBulk d + 1
  | .slice elems spare => uptoBulkAll elems + uptoBulkAll spare + 1
  | .agg parts => uptoBulkAll parts + 1
  | .iface _ d => uptoBulk d + 1
  | .map entries => uptoBulkEntries entries + 1
  | .held _ => 1
def uptoBulkAll {H : Type} : List (DataW H) → Nat
  | [] => 0
  | d :: r => uptoBulk d + uptoBulkAll r
def uptoBulkEntries {H : Type} : List (Lit × DataW H) → Nat
  | [] => 0
  | x :: r => uptoBulkEntry x + uptoBulkEntries r
def uptoBulkEntry {H : Type} : Lit × DataW H → Nat
  | (.string bytes, d) => bytes.length + uptoBulk d + 1
  | (_, d) => uptoBulk d + 1
 end
def uptoSmall : (H : Type) → List (DataW H) → Bool := fun _ ds => decide (uptoBulkAll ds ≤ 1048576)
def OpenSpec.upto (s : _root_.Go.ChangeSpec) : _root_.Go.OpenSpec := { _root_.Go.OpenSpec.ofChange s with cond := some uptoSmall }

/-- 'laws.FnExactFewestFrogMoves', WHERE WHAT IT READS IS OF BULK AT MOST 1048576: true; the input reads as it did. -/
def fnExactFewestFrogMovesUptoRow : OpenClaim := { program := "yteoggpollgkfiaadoor", sum := "a0a99c353d16d2439e5d65c85171b3f1c1dec9657b4282b7813834aa17d5cd96", func := "loop.example/g01352/laws.FnExactFewestFrogMoves", spec := "fnExactFewestFrogMoves", inPlace := ["internal/reflectlite.ValueOf", "(internal/reflectlite.Value).Type", "(internal/reflectlite.Value).IsNil", "internal/reflectlite.TypeOf", "(internal/reflectlite.Value).Elem", "(internal/reflectlite.Value).Set"], unfollowed := true, recurses := true, named := ["loop.example/g01352/impl.errNoMove", "errors.errorType"], ifaces := true, apart := false, laid := [("errors.errorType", laid_errors_errorType), ("loop.example/g01352/impl.errNoMove", laid_loop_example_g01352_impl_errNoMove)], narrowed := true }
def FnExactFewestFrogMovesUptoSaid : Prop := fnExactFewestFrogMovesUptoRow.holds Tryd.pinned (OpenSpec.upto fnExactFewestFrogMovesSpec)

/-- 'laws.FnExactFirstFrogMoves', WHERE WHAT IT READS IS OF BULK AT MOST 1048576: true; the input reads as it did. -/
def fnExactFirstFrogMovesUptoRow : OpenClaim := { program := "yteoggpollgkfiaadoor", sum := "a0a99c353d16d2439e5d65c85171b3f1c1dec9657b4282b7813834aa17d5cd96", func := "loop.example/g01352/laws.FnExactFirstFrogMoves", spec := "fnExactFirstFrogMoves", inPlace := ["internal/reflectlite.ValueOf", "(internal/reflectlite.Value).Type", "(internal/reflectlite.Value).IsNil", "internal/reflectlite.TypeOf", "(internal/reflectlite.Value).Elem", "(internal/reflectlite.Value).Set"], unfollowed := true, recurses := true, named := ["loop.example/g01352/impl.errNoMove", "errors.errorType"], ifaces := true, apart := false, laid := [("errors.errorType", laid_errors_errorType), ("loop.example/g01352/impl.errNoMove", laid_loop_example_g01352_impl_errNoMove)], narrowed := true }
def FnExactFirstFrogMovesUptoSaid : Prop := fnExactFirstFrogMovesUptoRow.holds Tryd.pinned (OpenSpec.upto fnExactFirstFrogMovesSpec)

/-- 'laws.FnExactLongestFrogPlay', WHERE WHAT IT READS IS OF BULK AT MOST 1048576: true; the input reads as it did. -/
def fnExactLongestFrogPlayUptoRow : OpenClaim := { program := "yteoggpollgkfiaadoor", sum := "a0a99c353d16d2439e5d65c85171b3f1c1dec9657b4282b7813834aa17d5cd96", func := "loop.example/g01352/laws.FnExactLongestFrogPlay", spec := "fnExactLongestFrogPlay", inPlace := ["internal/reflectlite.ValueOf", "(internal/reflectlite.Value).Type", "(internal/reflectlite.Value).IsNil", "internal/reflectlite.TypeOf", "(internal/reflectlite.Value).Elem", "(internal/reflectlite.Value).Set"], unfollowed := true, recurses := true, named := ["loop.example/g01352/impl.errNoMove", "errors.errorType"], ifaces := true, apart := false, laid := [("errors.errorType", laid_errors_errorType), ("loop.example/g01352/impl.errNoMove", laid_loop_example_g01352_impl_errNoMove)], narrowed := true }
def FnExactLongestFrogPlayUptoSaid : Prop := fnExactLongestFrogPlayUptoRow.holds Tryd.pinned (OpenSpec.upto fnExactLongestFrogPlaySpec)

/-- 'laws.FnExactShortestStuck', WHERE WHAT IT READS IS OF BULK AT MOST 1048576: true; the input reads as it did. -/
def fnExactShortestStuckUptoRow : OpenClaim := { program := "yteoggpollgkfiaadoor", sum := "a0a99c353d16d2439e5d65c85171b3f1c1dec9657b4282b7813834aa17d5cd96", func := "loop.example/g01352/laws.FnExactShortestStuck", spec := "fnExactShortestStuck", inPlace := ["internal/reflectlite.ValueOf", "(internal/reflectlite.Value).Type", "(internal/reflectlite.Value).IsNil", "internal/reflectlite.TypeOf", "(internal/reflectlite.Value).Elem", "(internal/reflectlite.Value).Set"], unfollowed := true, recurses := true, named := ["loop.example/g01352/impl.errNoMove", "errors.errorType"], ifaces := true, apart := false, laid := [("errors.errorType", laid_errors_errorType), ("loop.example/g01352/impl.errNoMove", laid_loop_example_g01352_impl_errNoMove)], narrowed := true }
def FnExactShortestStuckUptoSaid : Prop := fnExactShortestStuckUptoRow.holds Tryd.pinned (OpenSpec.upto fnExactShortestStuckSpec)

/-- 'laws.FnExactStuckPonds', WHERE WHAT IT READS IS OF BULK AT MOST 1048576: true; the input reads as it did. -/
def fnExactStuckPondsUptoRow : OpenClaim := { program := "yteoggpollgkfiaadoor", sum := "a0a99c353d16d2439e5d65c85171b3f1c1dec9657b4282b7813834aa17d5cd96", func := "loop.example/g01352/laws.FnExactStuckPonds", spec := "fnExactStuckPonds", inPlace := ["internal/reflectlite.ValueOf", "(internal/reflectlite.Value).Type", "(internal/reflectlite.Value).IsNil", "internal/reflectlite.TypeOf", "(internal/reflectlite.Value).Elem", "(internal/reflectlite.Value).Set"], unfollowed := true, recurses := true, named := ["loop.example/g01352/impl.errNoMove", "errors.errorType"], ifaces := true, apart := false, laid := [("errors.errorType", laid_errors_errorType), ("loop.example/g01352/impl.errNoMove", laid_loop_example_g01352_impl_errNoMove)], narrowed := true }
def FnExactStuckPondsUptoSaid : Prop := fnExactStuckPondsUptoRow.holds Tryd.pinned (OpenSpec.upto fnExactStuckPondsSpec)

end Rows
end Go.Proofs.YteoggpollgkfiaaDoor
