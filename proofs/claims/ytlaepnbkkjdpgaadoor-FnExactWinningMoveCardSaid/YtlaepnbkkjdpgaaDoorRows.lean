/-
  NARROWER THAN 'FOR EVERY INPUT', by the rows' own cells (each row's printed sentence says how): FnExactFrogMoves: ifaces, laid · FnExactMoveFrog: ifaces, laid · FnExactPlayFrogs: ifaces, laid · FnExactIsStuck: ifaces, laid · FnExactLeapsIn: ifaces, laid · FnExactDoesRightWin: ifaces, laid · FnExactWinningMove: ifaces, laid.
  DERIVED. THE GIVEN ROWS OF THIS SEAT. 7 by the template 'for every input the law returns true; each argument reads behind the call as it read before'; 0 by the template 'total and deterministic' (their statements: YtlaepnbkkjdpgaaDoorTotals.lean).
  GIVEN WITH THE SEED: the statements are not yours to turn. If you find one false, say at which input.
  Laid BY PROGRAM, IN A SANDBOX (cutbox-rows.mjs): the forced cells as the released guide's own fill.sh prints them over the translation fd048449d8904f81… (all of the seat's roots in one cut). By AI agents, Wed Nov 11 2026. No macro, syntax, notation, axiom, sorry.
-/
import Derived.Test.YtlaepnbkkjdpgaaDoorChecked
import GoSem.Claim
import GoSem.ClaimJoined
import GoSem.ClaimMapViews
import Derived.JoinedTies
import Derived.KernelRfl
namespace Go.Proofs.YtlaepnbkkjdpgaaDoor
/- THE CELL 'sum', in the pinned program and in every row, IS THE sha256 OF THE DUMP (.gsa) THAT YtlaepnbkkjdpgaaDoorProg.lean LOADS. Nothing in Lean hashes anything: it is a label: what it is worth is what the hold of that sum in a sandbox is worth. -/
noncomputable def Tryd.pinned : Pinned := { name := "ytlaepnbkkjdpgaadoor", sum := "fd048449d8904f8168e8d280ec03fc30d1f1cf7fee66a5389dba6866dbdd6fad", checked := Tryd.checked }
namespace Rows
def none {H : Type} : Left H := { results := [], args := [] }

/- WHAT THE LISTED PACKAGE-LEVEL VARIABLES READ AS WHEN THE CALL BEGINS. Each datum BY PROGRAM (the guide's laid-datum.mjs) off the statement by which the dump's own 'gosem.cut.vars' lays the variable. In a bare row this is a premise. The card (YtlaepnbkkjdpgaaDoorCards.lean) ties it to the program's text. -/
def laid_errors_errorType {H : Type} : DataW H := .iface "internal/reflectlite.rtype" (.agg [.ptr (.lit (.string [101, 114, 114, 111, 114]))])
def laid_loop_example_g01352_impl_errNoMove {H : Type} : DataW H := .iface "*errors.errorString" (.ptr (.agg [.lit (.string [110, 111, 32, 115, 117, 99, 104, 32, 109, 111, 118, 101])]))

/-- 'laws.FnExactFrogMoves': WHATEVER THE INPUT: true; the input reads as it did. -/
def fnExactFrogMovesSpec : ChangeSpec := { name := "fnExactFrogMoves", vars := ["loop.example/g01352/impl.errNoMove"], fn := fun _ => fun
  | [d, g1] => { results := [.lit (.bool true)], args := [d], vars := [g1] }
  | _ => none }
def fnExactFrogMovesRow : OpenClaim := { program := "ytlaepnbkkjdpgaadoor", sum := "fd048449d8904f8168e8d280ec03fc30d1f1cf7fee66a5389dba6866dbdd6fad", func := "loop.example/g01352/laws.FnExactFrogMoves", spec := "fnExactFrogMoves", inPlace := ["internal/reflectlite.ValueOf", "(internal/reflectlite.Value).Type", "(internal/reflectlite.Value).IsNil", "internal/reflectlite.TypeOf", "(internal/reflectlite.Value).Elem", "(internal/reflectlite.Value).Set"], unfollowed := true, recurses := true, named := ["loop.example/g01352/impl.errNoMove", "errors.errorType"], ifaces := true, plainKeys := false, apart := false, laid := [("errors.errorType", laid_errors_errorType), ("loop.example/g01352/impl.errNoMove", laid_loop_example_g01352_impl_errNoMove)] }
def FnExactFrogMovesSaid : Prop := fnExactFrogMovesRow.holds Tryd.pinned (OpenSpec.ofChange fnExactFrogMovesSpec)

/-- ITS FALSE NEIGHBOUR: 'it returns false'. Refute it at one input. -/
def fnExactFrogMovesWrong : ChangeSpec := { name := "fnExactFrogMoves", vars := ["loop.example/g01352/impl.errNoMove"], fn := fun _ => fun
  | [d, g1] => { results := [.lit (.bool false)], args := [d], vars := [g1] }
  | _ => none }
def FnExactFrogMovesWrongFalsely : Prop := fnExactFrogMovesRow.holds Tryd.pinned (OpenSpec.ofChange fnExactFrogMovesWrong)

/-- 'laws.FnExactMoveFrog': WHATEVER THE INPUT: true; the input reads as it did. -/
def fnExactMoveFrogSpec : ChangeSpec := { name := "fnExactMoveFrog", vars := ["loop.example/g01352/impl.errNoMove"], fn := fun _ => fun
  | [d1, d2, g1] => { results := [.lit (.bool true)], args := [d1, d2], vars := [g1] }
  | _ => none }
def fnExactMoveFrogRow : OpenClaim := { program := "ytlaepnbkkjdpgaadoor", sum := "fd048449d8904f8168e8d280ec03fc30d1f1cf7fee66a5389dba6866dbdd6fad", func := "loop.example/g01352/laws.FnExactMoveFrog", spec := "fnExactMoveFrog", inPlace := ["internal/reflectlite.ValueOf", "(internal/reflectlite.Value).Type", "(internal/reflectlite.Value).IsNil", "internal/reflectlite.TypeOf", "(internal/reflectlite.Value).Elem", "(internal/reflectlite.Value).Set"], unfollowed := true, recurses := true, named := ["loop.example/g01352/impl.errNoMove", "errors.errorType"], ifaces := true, plainKeys := false, apart := false, laid := [("errors.errorType", laid_errors_errorType), ("loop.example/g01352/impl.errNoMove", laid_loop_example_g01352_impl_errNoMove)] }
def FnExactMoveFrogSaid : Prop := fnExactMoveFrogRow.holds Tryd.pinned (OpenSpec.ofChange fnExactMoveFrogSpec)

/-- ITS FALSE NEIGHBOUR: 'it returns false'. Refute it at one input. -/
def fnExactMoveFrogWrong : ChangeSpec := { name := "fnExactMoveFrog", vars := ["loop.example/g01352/impl.errNoMove"], fn := fun _ => fun
  | [d1, d2, g1] => { results := [.lit (.bool false)], args := [d1, d2], vars := [g1] }
  | _ => none }
def FnExactMoveFrogWrongFalsely : Prop := fnExactMoveFrogRow.holds Tryd.pinned (OpenSpec.ofChange fnExactMoveFrogWrong)

/-- 'laws.FnExactPlayFrogs': WHATEVER THE INPUT: true; the input reads as it did. -/
def fnExactPlayFrogsSpec : ChangeSpec := { name := "fnExactPlayFrogs", vars := ["loop.example/g01352/impl.errNoMove"], fn := fun _ => fun
  | [d1, d2, g1] => { results := [.lit (.bool true)], args := [d1, d2], vars := [g1] }
  | _ => none }
def fnExactPlayFrogsRow : OpenClaim := { program := "ytlaepnbkkjdpgaadoor", sum := "fd048449d8904f8168e8d280ec03fc30d1f1cf7fee66a5389dba6866dbdd6fad", func := "loop.example/g01352/laws.FnExactPlayFrogs", spec := "fnExactPlayFrogs", inPlace := ["internal/reflectlite.ValueOf", "(internal/reflectlite.Value).Type", "(internal/reflectlite.Value).IsNil", "internal/reflectlite.TypeOf", "(internal/reflectlite.Value).Elem", "(internal/reflectlite.Value).Set"], unfollowed := true, recurses := true, named := ["loop.example/g01352/impl.errNoMove", "errors.errorType"], ifaces := true, plainKeys := false, apart := false, laid := [("errors.errorType", laid_errors_errorType), ("loop.example/g01352/impl.errNoMove", laid_loop_example_g01352_impl_errNoMove)] }
def FnExactPlayFrogsSaid : Prop := fnExactPlayFrogsRow.holds Tryd.pinned (OpenSpec.ofChange fnExactPlayFrogsSpec)

/-- ITS FALSE NEIGHBOUR: 'it returns false'. Refute it at one input. -/
def fnExactPlayFrogsWrong : ChangeSpec := { name := "fnExactPlayFrogs", vars := ["loop.example/g01352/impl.errNoMove"], fn := fun _ => fun
  | [d1, d2, g1] => { results := [.lit (.bool false)], args := [d1, d2], vars := [g1] }
  | _ => none }
def FnExactPlayFrogsWrongFalsely : Prop := fnExactPlayFrogsRow.holds Tryd.pinned (OpenSpec.ofChange fnExactPlayFrogsWrong)

/-- 'laws.FnExactIsStuck': WHATEVER THE INPUT: true; the input reads as it did. -/
def fnExactIsStuckSpec : ChangeSpec := { name := "fnExactIsStuck", vars := ["loop.example/g01352/impl.errNoMove"], fn := fun _ => fun
  | [d, g1] => { results := [.lit (.bool true)], args := [d], vars := [g1] }
  | _ => none }
def fnExactIsStuckRow : OpenClaim := { program := "ytlaepnbkkjdpgaadoor", sum := "fd048449d8904f8168e8d280ec03fc30d1f1cf7fee66a5389dba6866dbdd6fad", func := "loop.example/g01352/laws.FnExactIsStuck", spec := "fnExactIsStuck", inPlace := ["internal/reflectlite.ValueOf", "(internal/reflectlite.Value).Type", "(internal/reflectlite.Value).IsNil", "internal/reflectlite.TypeOf", "(internal/reflectlite.Value).Elem", "(internal/reflectlite.Value).Set"], unfollowed := true, recurses := true, named := ["loop.example/g01352/impl.errNoMove", "errors.errorType"], ifaces := true, plainKeys := false, apart := false, laid := [("errors.errorType", laid_errors_errorType), ("loop.example/g01352/impl.errNoMove", laid_loop_example_g01352_impl_errNoMove)] }
def FnExactIsStuckSaid : Prop := fnExactIsStuckRow.holds Tryd.pinned (OpenSpec.ofChange fnExactIsStuckSpec)

/-- ITS FALSE NEIGHBOUR: 'it returns false'. Refute it at one input. -/
def fnExactIsStuckWrong : ChangeSpec := { name := "fnExactIsStuck", vars := ["loop.example/g01352/impl.errNoMove"], fn := fun _ => fun
  | [d, g1] => { results := [.lit (.bool false)], args := [d], vars := [g1] }
  | _ => none }
def FnExactIsStuckWrongFalsely : Prop := fnExactIsStuckRow.holds Tryd.pinned (OpenSpec.ofChange fnExactIsStuckWrong)

/-- 'laws.FnExactLeapsIn': WHATEVER THE INPUT: true; the input reads as it did. -/
def fnExactLeapsInSpec : ChangeSpec := { name := "fnExactLeapsIn", vars := ["loop.example/g01352/impl.errNoMove"], fn := fun _ => fun
  | [d1, d2, g1] => { results := [.lit (.bool true)], args := [d1, d2], vars := [g1] }
  | _ => none }
def fnExactLeapsInRow : OpenClaim := { program := "ytlaepnbkkjdpgaadoor", sum := "fd048449d8904f8168e8d280ec03fc30d1f1cf7fee66a5389dba6866dbdd6fad", func := "loop.example/g01352/laws.FnExactLeapsIn", spec := "fnExactLeapsIn", inPlace := ["internal/reflectlite.ValueOf", "(internal/reflectlite.Value).Type", "(internal/reflectlite.Value).IsNil", "internal/reflectlite.TypeOf", "(internal/reflectlite.Value).Elem", "(internal/reflectlite.Value).Set"], unfollowed := true, recurses := true, named := ["loop.example/g01352/impl.errNoMove", "errors.errorType"], ifaces := true, plainKeys := false, apart := false, laid := [("errors.errorType", laid_errors_errorType), ("loop.example/g01352/impl.errNoMove", laid_loop_example_g01352_impl_errNoMove)] }
def FnExactLeapsInSaid : Prop := fnExactLeapsInRow.holds Tryd.pinned (OpenSpec.ofChange fnExactLeapsInSpec)

/-- ITS FALSE NEIGHBOUR: 'it returns false'. Refute it at one input. -/
def fnExactLeapsInWrong : ChangeSpec := { name := "fnExactLeapsIn", vars := ["loop.example/g01352/impl.errNoMove"], fn := fun _ => fun
  | [d1, d2, g1] => { results := [.lit (.bool false)], args := [d1, d2], vars := [g1] }
  | _ => none }
def FnExactLeapsInWrongFalsely : Prop := fnExactLeapsInRow.holds Tryd.pinned (OpenSpec.ofChange fnExactLeapsInWrong)

/-- 'laws.FnExactDoesRightWin': WHATEVER THE INPUT: true; the input reads as it did. -/
def fnExactDoesRightWinSpec : ChangeSpec := { name := "fnExactDoesRightWin", vars := ["loop.example/g01352/impl.errNoMove"], fn := fun _ => fun
  | [d1, d2, g1] => { results := [.lit (.bool true)], args := [d1, d2], vars := [g1] }
  | _ => none }
def fnExactDoesRightWinRow : OpenClaim := { program := "ytlaepnbkkjdpgaadoor", sum := "fd048449d8904f8168e8d280ec03fc30d1f1cf7fee66a5389dba6866dbdd6fad", func := "loop.example/g01352/laws.FnExactDoesRightWin", spec := "fnExactDoesRightWin", inPlace := ["internal/reflectlite.ValueOf", "(internal/reflectlite.Value).Type", "(internal/reflectlite.Value).IsNil", "internal/reflectlite.TypeOf", "(internal/reflectlite.Value).Elem", "(internal/reflectlite.Value).Set"], unfollowed := true, recurses := true, named := ["loop.example/g01352/impl.errNoMove", "errors.errorType"], ifaces := true, plainKeys := false, apart := false, laid := [("errors.errorType", laid_errors_errorType), ("loop.example/g01352/impl.errNoMove", laid_loop_example_g01352_impl_errNoMove)] }
def FnExactDoesRightWinSaid : Prop := fnExactDoesRightWinRow.holds Tryd.pinned (OpenSpec.ofChange fnExactDoesRightWinSpec)

/-- ITS FALSE NEIGHBOUR: 'it returns false'. Refute it at one input. -/
def fnExactDoesRightWinWrong : ChangeSpec := { name := "fnExactDoesRightWin", vars := ["loop.example/g01352/impl.errNoMove"], fn := fun _ => fun
  | [d1, d2, g1] => { results := [.lit (.bool false)], args := [d1, d2], vars := [g1] }
  | _ => none }
def FnExactDoesRightWinWrongFalsely : Prop := fnExactDoesRightWinRow.holds Tryd.pinned (OpenSpec.ofChange fnExactDoesRightWinWrong)

/-- 'laws.FnExactWinningMove': WHATEVER THE INPUT: true; the input reads as it did. -/
def fnExactWinningMoveSpec : ChangeSpec := { name := "fnExactWinningMove", vars := ["loop.example/g01352/impl.errNoMove"], fn := fun _ => fun
  | [d1, d2, g1] => { results := [.lit (.bool true)], args := [d1, d2], vars := [g1] }
  | _ => none }
def fnExactWinningMoveRow : OpenClaim := { program := "ytlaepnbkkjdpgaadoor", sum := "fd048449d8904f8168e8d280ec03fc30d1f1cf7fee66a5389dba6866dbdd6fad", func := "loop.example/g01352/laws.FnExactWinningMove", spec := "fnExactWinningMove", inPlace := ["internal/reflectlite.ValueOf", "(internal/reflectlite.Value).Type", "(internal/reflectlite.Value).IsNil", "internal/reflectlite.TypeOf", "(internal/reflectlite.Value).Elem", "(internal/reflectlite.Value).Set"], unfollowed := true, recurses := true, named := ["loop.example/g01352/impl.errNoMove", "errors.errorType"], ifaces := true, plainKeys := false, apart := false, laid := [("errors.errorType", laid_errors_errorType), ("loop.example/g01352/impl.errNoMove", laid_loop_example_g01352_impl_errNoMove)] }
def FnExactWinningMoveSaid : Prop := fnExactWinningMoveRow.holds Tryd.pinned (OpenSpec.ofChange fnExactWinningMoveSpec)

/-- ITS FALSE NEIGHBOUR: 'it returns false'. Refute it at one input. -/
def fnExactWinningMoveWrong : ChangeSpec := { name := "fnExactWinningMove", vars := ["loop.example/g01352/impl.errNoMove"], fn := fun _ => fun
  | [d1, d2, g1] => { results := [.lit (.bool false)], args := [d1, d2], vars := [g1] }
  | _ => none }
def FnExactWinningMoveWrongFalsely : Prop := fnExactWinningMoveRow.holds Tryd.pinned (OpenSpec.ofChange fnExactWinningMoveWrong)

/- THE SECOND FORM. 'bulk': how many values and letters a reading holds, each counted each time it is reached (what is shared counts as often as it is met; a slice's spare places count too). A statement '..UptoSaid' is the law's where the arguments, and the package variables that the reading takes, are together of bulk at most 1048576: NARROWER than '..Said'. Prove '..Said' where nothing that the law and all that it calls make is longer than what came in: it says more and counts as full. Else prove '..UptoSaid'. A law counts once. -/
mutual
def uptoBulk {H : Type} : DataW H → Nat
  | .lit (.string bytes) => bytes.length + 1
  | .lit _ => 1
  | .nil => 1
  | .ptr d => uptoBulk d + 1
  | .slice elems spare => uptoBulkAll elems + uptoBulkAll spare + 1
  | .agg parts => uptoBulkAll parts + 1
  | .iface _ d => uptoBulk d + 1
  | .map entries => uptoBulkEntries entries + 1
  | .held _ => 1
def uptoBulkAll {H : Type} : List (DataW H) → Nat
  | [] => 0
  | d :: r => uptoBulk d + uptoBulkAll r
def uptoBulkEntries {H : Type} : List (Lit × DataW H) → Nat
  | [] => 0
  | x :: r => uptoBulkEntry x + uptoBulkEntries r
def uptoBulkEntry {H : Type} : Lit × DataW H → Nat
  | (.string bytes, d) => bytes.length + uptoBulk d + 1
  | (_, d) => uptoBulk d + 1
 end
def uptoSmall : (H : Type) → List (DataW H) → Bool := fun _ ds => decide (uptoBulkAll ds ≤ 1048576)
def OpenSpec.upto (s : _root_.Go.ChangeSpec) : _root_.Go.OpenSpec := { _root_.Go.OpenSpec.ofChange s with cond := some uptoSmall }

/-- 'laws.FnExactFrogMoves', WHERE WHAT IT READS IS OF BULK AT MOST 1048576: true; the input reads as it did. -/
def fnExactFrogMovesUptoRow : OpenClaim := { program := "ytlaepnbkkjdpgaadoor", sum := "fd048449d8904f8168e8d280ec03fc30d1f1cf7fee66a5389dba6866dbdd6fad", func := "loop.example/g01352/laws.FnExactFrogMoves", spec := "fnExactFrogMoves", inPlace := ["internal/reflectlite.ValueOf", "(internal/reflectlite.Value).Type", "(internal/reflectlite.Value).IsNil", "internal/reflectlite.TypeOf", "(internal/reflectlite.Value).Elem", "(internal/reflectlite.Value).Set"], unfollowed := true, recurses := true, named := ["loop.example/g01352/impl.errNoMove", "errors.errorType"], ifaces := true, plainKeys := false, apart := false, laid := [("errors.errorType", laid_errors_errorType), ("loop.example/g01352/impl.errNoMove", laid_loop_example_g01352_impl_errNoMove)], narrowed := true }
def FnExactFrogMovesUptoSaid : Prop := fnExactFrogMovesUptoRow.holds Tryd.pinned (OpenSpec.upto fnExactFrogMovesSpec)

/-- 'laws.FnExactMoveFrog', WHERE WHAT IT READS IS OF BULK AT MOST 1048576: true; the input reads as it did. -/
def fnExactMoveFrogUptoRow : OpenClaim := { program := "ytlaepnbkkjdpgaadoor", sum := "fd048449d8904f8168e8d280ec03fc30d1f1cf7fee66a5389dba6866dbdd6fad", func := "loop.example/g01352/laws.FnExactMoveFrog", spec := "fnExactMoveFrog", inPlace := ["internal/reflectlite.ValueOf", "(internal/reflectlite.Value).Type", "(internal/reflectlite.Value).IsNil", "internal/reflectlite.TypeOf", "(internal/reflectlite.Value).Elem", "(internal/reflectlite.Value).Set"], unfollowed := true, recurses := true, named := ["loop.example/g01352/impl.errNoMove", "errors.errorType"], ifaces := true, plainKeys := false, apart := false, laid := [("errors.errorType", laid_errors_errorType), ("loop.example/g01352/impl.errNoMove", laid_loop_example_g01352_impl_errNoMove)], narrowed := true }
def FnExactMoveFrogUptoSaid : Prop := fnExactMoveFrogUptoRow.holds Tryd.pinned (OpenSpec.upto fnExactMoveFrogSpec)

/-- 'laws.FnExactPlayFrogs', WHERE WHAT IT READS IS OF BULK AT MOST 1048576: true; the input reads as it did. -/
def fnExactPlayFrogsUptoRow : OpenClaim := { program := "ytlaepnbkkjdpgaadoor", sum := "fd048449d8904f8168e8d280ec03fc30d1f1cf7fee66a5389dba6866dbdd6fad", func := "loop.example/g01352/laws.FnExactPlayFrogs", spec := "fnExactPlayFrogs", inPlace := ["internal/reflectlite.ValueOf", "(internal/reflectlite.Value).Type", "(internal/reflectlite.Value).IsNil", "internal/reflectlite.TypeOf", "(internal/reflectlite.Value).Elem", "(internal/reflectlite.Value).Set"], unfollowed := true, recurses := true, named := ["loop.example/g01352/impl.errNoMove", "errors.errorType"], ifaces := true, plainKeys := false, apart := false, laid := [("errors.errorType", laid_errors_errorType), ("loop.example/g01352/impl.errNoMove", laid_loop_example_g01352_impl_errNoMove)], narrowed := true }
def FnExactPlayFrogsUptoSaid : Prop := fnExactPlayFrogsUptoRow.holds Tryd.pinned (OpenSpec.upto fnExactPlayFrogsSpec)

/-- 'laws.FnExactIsStuck', WHERE WHAT IT READS IS OF BULK AT MOST 1048576: true; the input reads as it did. -/
def fnExactIsStuckUptoRow : OpenClaim := { program := "ytlaepnbkkjdpgaadoor", sum := "fd048449d8904f8168e8d280ec03fc30d1f1cf7fee66a5389dba6866dbdd6fad", func := "loop.example/g01352/laws.FnExactIsStuck", spec := "fnExactIsStuck", inPlace := ["internal/reflectlite.ValueOf", "(internal/reflectlite.Value).Type", "(internal/reflectlite.Value).IsNil", "internal/reflectlite.TypeOf", "(internal/reflectlite.Value).Elem", "(internal/reflectlite.Value).Set"], unfollowed := true, recurses := true, named := ["loop.example/g01352/impl.errNoMove", "errors.errorType"], ifaces := true, plainKeys := false, apart := false, laid := [("errors.errorType", laid_errors_errorType), ("loop.example/g01352/impl.errNoMove", laid_loop_example_g01352_impl_errNoMove)], narrowed := true }
def FnExactIsStuckUptoSaid : Prop := fnExactIsStuckUptoRow.holds Tryd.pinned (OpenSpec.upto fnExactIsStuckSpec)

/-- 'laws.FnExactLeapsIn', WHERE WHAT IT READS IS OF BULK AT MOST 1048576: true; the input reads as it did. -/
def fnExactLeapsInUptoRow : OpenClaim := { program := "ytlaepnbkkjdpgaadoor", sum := "fd048449d8904f8168e8d280ec03fc30d1f1cf7fee66a5389dba6866dbdd6fad", func := "loop.example/g01352/laws.FnExactLeapsIn", spec := "fnExactLeapsIn", inPlace := ["internal/reflectlite.ValueOf", "(internal/reflectlite.Value).Type", "(internal/reflectlite.Value).IsNil", "internal/reflectlite.TypeOf", "(internal/reflectlite.Value).Elem", "(internal/reflectlite.Value).Set"], unfollowed := true, recurses := true, named := ["loop.example/g01352/impl.errNoMove", "errors.errorType"], ifaces := true, plainKeys := false, apart := false, laid := [("errors.errorType", laid_errors_errorType), ("loop.example/g01352/impl.errNoMove", laid_loop_example_g01352_impl_errNoMove)], narrowed := true }
def FnExactLeapsInUptoSaid : Prop := fnExactLeapsInUptoRow.holds Tryd.pinned (OpenSpec.upto fnExactLeapsInSpec)

/-- 'laws.FnExactDoesRightWin', WHERE WHAT IT READS IS OF BULK AT MOST 1048576: true; the input reads as it did. -/
def fnExactDoesRightWinUptoRow : OpenClaim := { program := "ytlaepnbkkjdpgaadoor", sum := "fd048449d8904f8168e8d280ec03fc30d1f1cf7fee66a5389dba6866dbdd6fad", func := "loop.example/g01352/laws.FnExactDoesRightWin", spec := "fnExactDoesRightWin", inPlace := ["internal/reflectlite.ValueOf", "(internal/reflectlite.Value).Type", "(internal/reflectlite.Value).IsNil", "internal/reflectlite.TypeOf", "(internal/reflectlite.Value).Elem", "(internal/reflectlite.Value).Set"], unfollowed := true, recurses := true, named := ["loop.example/g01352/impl.errNoMove", "errors.errorType"], ifaces := true, plainKeys := false, apart := false, laid := [("errors.errorType", laid_errors_errorType), ("loop.example/g01352/impl.errNoMove", laid_loop_example_g01352_impl_errNoMove)], narrowed := true }
def FnExactDoesRightWinUptoSaid : Prop := fnExactDoesRightWinUptoRow.holds Tryd.pinned (OpenSpec.upto fnExactDoesRightWinSpec)

/-- 'laws.FnExactWinningMove', WHERE WHAT IT READS IS OF BULK AT MOST 1048576: true; the input reads as it did. -/
def fnExactWinningMoveUptoRow : OpenClaim := { program := "ytlaepnbkkjdpgaadoor", sum := "fd048449d8904f8168e8d280ec03fc30d1f1cf7fee66a5389dba6866dbdd6fad", func := "loop.example/g01352/laws.FnExactWinningMove", spec := "fnExactWinningMove", inPlace := ["internal/reflectlite.ValueOf", "(internal/reflectlite.Value).Type", "(internal/reflectlite.Value).IsNil", "internal/reflectlite.TypeOf", "(internal/reflectlite.Value).Elem", "(internal/reflectlite.Value).Set"], unfollowed := true, recurses := true, named := ["loop.example/g01352/impl.errNoMove", "errors.errorType"], ifaces := true, plainKeys := false, apart := false, laid := [("errors.errorType", laid_errors_errorType), ("loop.example/g01352/impl.errNoMove", laid_loop_example_g01352_impl_errNoMove)], narrowed := true }
def FnExactWinningMoveUptoSaid : Prop := fnExactWinningMoveUptoRow.holds Tryd.pinned (OpenSpec.upto fnExactWinningMoveSpec)

end Rows
end Go.Proofs.YtlaepnbkkjdpgaaDoor
