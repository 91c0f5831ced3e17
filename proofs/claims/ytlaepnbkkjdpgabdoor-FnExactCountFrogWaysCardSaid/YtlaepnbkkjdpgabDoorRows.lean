/-
  NARROWER THAN 'FOR EVERY INPUT', by the rows' own cells (each row's printed sentence says how): FnExactFewestFrogMoves: ifaces, laid · FnExactFirstFrogMoves: ifaces, laid · FnExactCountFrogWays: ifaces, laid · FnExactCanExchange: ifaces, laid · FnExactPondsReached: ifaces, laid · FnExactLongestFrogPlay: ifaces, laid · FnExactShortestStuck: ifaces, laid · FnExactStuckPonds: ifaces, laid.
  DERIVED. THE GIVEN ROWS OF THIS SEAT. 8 by the template 'for every input the law returns true; each argument reads behind the call as it read before'; 0 by the template 'total and deterministic' (their statements: YtlaepnbkkjdpgabDoorTotals.lean).
  GIVEN WITH THE SEED: the statements are not yours to turn. If you find one false, say at which input.
  Laid BY PROGRAM, IN A SANDBOX (cutbox-rows.mjs): the forced cells as the released guide's own fill.sh prints them over the translation 09167d1428e0df18… (all of the seat's roots in one cut). By AI agents, Wed Nov 11 2026. No macro, syntax, notation, axiom, sorry.
-/
import Derived.Test.YtlaepnbkkjdpgabDoorChecked
import GoSem.Claim
import GoSem.ClaimJoined
import GoSem.ClaimMapViews
import Derived.JoinedTies
import Derived.KernelRfl
namespace Go.Proofs.YtlaepnbkkjdpgabDoor
/- THE CELL 'sum', in the pinned program and in every row, IS THE sha256 OF THE DUMP (.gsa) THAT YtlaepnbkkjdpgabDoorProg.lean LOADS. Nothing in Lean hashes anything: it is a label: what it is worth is what the hold of that sum in a sandbox is worth. -/
noncomputable def Tryd.pinned : Pinned := { name := "ytlaepnbkkjdpgabdoor", sum := "09167d1428e0df1888eea175350910feeeba577e893e113690750e9f2a20ac4e", checked := Tryd.checked }
namespace Rows
def none {H : Type} : Left H := { results := [], args := [] }

/- WHAT THE LISTED PACKAGE-LEVEL VARIABLES READ AS WHEN THE CALL BEGINS. Each datum BY PROGRAM (the guide's laid-datum.mjs) off the statement by which the dump's own 'gosem.cut.vars' lays the variable. In a bare row this is a premise. The card (YtlaepnbkkjdpgabDoorCards.lean) ties it to the program's text. -/
def laid_errors_errorType {H : Type} : DataW H := .iface "internal/reflectlite.rtype" (.agg [.ptr (.lit (.string [101, 114, 114, 111, 114]))])
def laid_loop_example_g01352_impl_errNoMove {H : Type} : DataW H := .iface "*errors.errorString" (.ptr (.agg [.lit (.string [110, 111, 32, 115, 117, 99, 104, 32, 109, 111, 118, 101])]))

/-- 'laws.FnExactFewestFrogMoves': WHATEVER THE INPUT: true; the input reads as it did. -/
def fnExactFewestFrogMovesSpec : ChangeSpec := { name := "fnExactFewestFrogMoves", vars := ["loop.example/g01352/impl.errNoMove"], fn := fun _ => fun
  | [d1, d2, g1] => { results := [.lit (.bool true)], args := [d1, d2], vars := [g1] }
  | _ => none }
def fnExactFewestFrogMovesRow : OpenClaim := { program := "ytlaepnbkkjdpgabdoor", sum := "09167d1428e0df1888eea175350910feeeba577e893e113690750e9f2a20ac4e", func := "loop.example/g01352/laws.FnExactFewestFrogMoves", spec := "fnExactFewestFrogMoves", inPlace := ["internal/reflectlite.ValueOf", "(internal/reflectlite.Value).Type", "(internal/reflectlite.Value).IsNil", "internal/reflectlite.TypeOf", "(internal/reflectlite.Value).Elem", "(internal/reflectlite.Value).Set"], unfollowed := true, recurses := true, named := ["loop.example/g01352/impl.errNoMove", "errors.errorType"], ifaces := true, apart := false, laid := [("errors.errorType", laid_errors_errorType), ("loop.example/g01352/impl.errNoMove", laid_loop_example_g01352_impl_errNoMove)] }
def FnExactFewestFrogMovesSaid : Prop := fnExactFewestFrogMovesRow.holds Tryd.pinned (OpenSpec.ofChange fnExactFewestFrogMovesSpec)

/-- ITS FALSE NEIGHBOUR: 'it returns false'. Refute it at one input. -/
def fnExactFewestFrogMovesWrong : ChangeSpec := { name := "fnExactFewestFrogMoves", vars := ["loop.example/g01352/impl.errNoMove"], fn := fun _ => fun
  | [d1, d2, g1] => { results := [.lit (.bool false)], args := [d1, d2], vars := [g1] }
  | _ => none }
def FnExactFewestFrogMovesWrongFalsely : Prop := fnExactFewestFrogMovesRow.holds Tryd.pinned (OpenSpec.ofChange fnExactFewestFrogMovesWrong)

/-- 'laws.FnExactFirstFrogMoves': WHATEVER THE INPUT: true; the input reads as it did. -/
def fnExactFirstFrogMovesSpec : ChangeSpec := { name := "fnExactFirstFrogMoves", vars := ["loop.example/g01352/impl.errNoMove"], fn := fun _ => fun
  | [d1, d2, g1] => { results := [.lit (.bool true)], args := [d1, d2], vars := [g1] }
  | _ => none }
def fnExactFirstFrogMovesRow : OpenClaim := { program := "ytlaepnbkkjdpgabdoor", sum := "09167d1428e0df1888eea175350910feeeba577e893e113690750e9f2a20ac4e", func := "loop.example/g01352/laws.FnExactFirstFrogMoves", spec := "fnExactFirstFrogMoves", inPlace := ["internal/reflectlite.ValueOf", "(internal/reflectlite.Value).Type", "(internal/reflectlite.Value).IsNil", "internal/reflectlite.TypeOf", "(internal/reflectlite.Value).Elem", "(internal/reflectlite.Value).Set"], unfollowed := true, recurses := true, named := ["loop.example/g01352/impl.errNoMove", "errors.errorType"], ifaces := true, apart := false, laid := [("errors.errorType", laid_errors_errorType), ("loop.example/g01352/impl.errNoMove", laid_loop_example_g01352_impl_errNoMove)] }
def FnExactFirstFrogMovesSaid : Prop := fnExactFirstFrogMovesRow.holds Tryd.pinned (OpenSpec.ofChange fnExactFirstFrogMovesSpec)

/-- ITS FALSE NEIGHBOUR: 'it returns false'. Refute it at one input. -/
def fnExactFirstFrogMovesWrong : ChangeSpec := { name := "fnExactFirstFrogMoves", vars := ["loop.example/g01352/impl.errNoMove"], fn := fun _ => fun
  | [d1, d2, g1] => { results := [.lit (.bool false)], args := [d1, d2], vars := [g1] }
  | _ => none }
def FnExactFirstFrogMovesWrongFalsely : Prop := fnExactFirstFrogMovesRow.holds Tryd.pinned (OpenSpec.ofChange fnExactFirstFrogMovesWrong)

/-- 'laws.FnExactCountFrogWays': WHATEVER THE INPUT: true; the input reads as it did. -/
def fnExactCountFrogWaysSpec : ChangeSpec := { name := "fnExactCountFrogWays", vars := ["loop.example/g01352/impl.errNoMove"], fn := fun _ => fun
  | [d1, d2, g1] => { results := [.lit (.bool true)], args := [d1, d2], vars := [g1] }
  | _ => none }
def fnExactCountFrogWaysRow : OpenClaim := { program := "ytlaepnbkkjdpgabdoor", sum := "09167d1428e0df1888eea175350910feeeba577e893e113690750e9f2a20ac4e", func := "loop.example/g01352/laws.FnExactCountFrogWays", spec := "fnExactCountFrogWays", inPlace := ["internal/reflectlite.ValueOf", "(internal/reflectlite.Value).Type", "(internal/reflectlite.Value).IsNil", "internal/reflectlite.TypeOf", "(internal/reflectlite.Value).Elem", "(internal/reflectlite.Value).Set"], unfollowed := true, recurses := true, named := ["loop.example/g01352/impl.errNoMove", "errors.errorType"], ifaces := true, apart := false, laid := [("errors.errorType", laid_errors_errorType), ("loop.example/g01352/impl.errNoMove", laid_loop_example_g01352_impl_errNoMove)] }
def FnExactCountFrogWaysSaid : Prop := fnExactCountFrogWaysRow.holds Tryd.pinned (OpenSpec.ofChange fnExactCountFrogWaysSpec)

/-- ITS FALSE NEIGHBOUR: 'it returns false'. Refute it at one input. -/
def fnExactCountFrogWaysWrong : ChangeSpec := { name := "fnExactCountFrogWays", vars := ["loop.example/g01352/impl.errNoMove"], fn := fun _ => fun
  | [d1, d2, g1] => { results := [.lit (.bool false)], args := [d1, d2], vars := [g1] }
  | _ => none }
def FnExactCountFrogWaysWrongFalsely : Prop := fnExactCountFrogWaysRow.holds Tryd.pinned (OpenSpec.ofChange fnExactCountFrogWaysWrong)

/-- 'laws.FnExactCanExchange': WHATEVER THE INPUT: true; the input reads as it did. -/
def fnExactCanExchangeSpec : ChangeSpec := { name := "fnExactCanExchange", vars := ["loop.example/g01352/impl.errNoMove"], fn := fun _ => fun
  | [d, g1] => { results := [.lit (.bool true)], args := [d], vars := [g1] }
  | _ => none }
def fnExactCanExchangeRow : OpenClaim := { program := "ytlaepnbkkjdpgabdoor", sum := "09167d1428e0df1888eea175350910feeeba577e893e113690750e9f2a20ac4e", func := "loop.example/g01352/laws.FnExactCanExchange", spec := "fnExactCanExchange", inPlace := ["internal/reflectlite.ValueOf", "(internal/reflectlite.Value).Type", "(internal/reflectlite.Value).IsNil", "internal/reflectlite.TypeOf", "(internal/reflectlite.Value).Elem", "(internal/reflectlite.Value).Set"], unfollowed := true, recurses := true, named := ["loop.example/g01352/impl.errNoMove", "errors.errorType"], ifaces := true, apart := false, laid := [("errors.errorType", laid_errors_errorType), ("loop.example/g01352/impl.errNoMove", laid_loop_example_g01352_impl_errNoMove)] }
def FnExactCanExchangeSaid : Prop := fnExactCanExchangeRow.holds Tryd.pinned (OpenSpec.ofChange fnExactCanExchangeSpec)

/-- ITS FALSE NEIGHBOUR: 'it returns false'. Refute it at one input. -/
def fnExactCanExchangeWrong : ChangeSpec := { name := "fnExactCanExchange", vars := ["loop.example/g01352/impl.errNoMove"], fn := fun _ => fun
  | [d, g1] => { results := [.lit (.bool false)], args := [d], vars := [g1] }
  | _ => none }
def FnExactCanExchangeWrongFalsely : Prop := fnExactCanExchangeRow.holds Tryd.pinned (OpenSpec.ofChange fnExactCanExchangeWrong)

/-- 'laws.FnExactPondsReached': WHATEVER THE INPUT: true; the input reads as it did. -/
def fnExactPondsReachedSpec : ChangeSpec := { name := "fnExactPondsReached", vars := ["loop.example/g01352/impl.errNoMove"], fn := fun _ => fun
  | [d, g1] => { results := [.lit (.bool true)], args := [d], vars := [g1] }
  | _ => none }
def fnExactPondsReachedRow : OpenClaim := { program := "ytlaepnbkkjdpgabdoor", sum := "09167d1428e0df1888eea175350910feeeba577e893e113690750e9f2a20ac4e", func := "loop.example/g01352/laws.FnExactPondsReached", spec := "fnExactPondsReached", inPlace := ["internal/reflectlite.ValueOf", "(internal/reflectlite.Value).Type", "(internal/reflectlite.Value).IsNil", "internal/reflectlite.TypeOf", "(internal/reflectlite.Value).Elem", "(internal/reflectlite.Value).Set"], unfollowed := true, recurses := true, named := ["loop.example/g01352/impl.errNoMove", "errors.errorType"], ifaces := true, apart := false, laid := [("errors.errorType", laid_errors_errorType), ("loop.example/g01352/impl.errNoMove", laid_loop_example_g01352_impl_errNoMove)] }
def FnExactPondsReachedSaid : Prop := fnExactPondsReachedRow.holds Tryd.pinned (OpenSpec.ofChange fnExactPondsReachedSpec)

/-- ITS FALSE NEIGHBOUR: 'it returns false'. Refute it at one input. -/
def fnExactPondsReachedWrong : ChangeSpec := { name := "fnExactPondsReached", vars := ["loop.example/g01352/impl.errNoMove"], fn := fun _ => fun
  | [d, g1] => { results := [.lit (.bool false)], args := [d], vars := [g1] }
  | _ => none }
def FnExactPondsReachedWrongFalsely : Prop := fnExactPondsReachedRow.holds Tryd.pinned (OpenSpec.ofChange fnExactPondsReachedWrong)

/-- 'laws.FnExactLongestFrogPlay': WHATEVER THE INPUT: true; the input reads as it did. -/
def fnExactLongestFrogPlaySpec : ChangeSpec := { name := "fnExactLongestFrogPlay", vars := ["loop.example/g01352/impl.errNoMove"], fn := fun _ => fun
  | [d, g1] => { results := [.lit (.bool true)], args := [d], vars := [g1] }
  | _ => none }
def fnExactLongestFrogPlayRow : OpenClaim := { program := "ytlaepnbkkjdpgabdoor", sum := "09167d1428e0df1888eea175350910feeeba577e893e113690750e9f2a20ac4e", func := "loop.example/g01352/laws.FnExactLongestFrogPlay", spec := "fnExactLongestFrogPlay", inPlace := ["internal/reflectlite.ValueOf", "(internal/reflectlite.Value).Type", "(internal/reflectlite.Value).IsNil", "internal/reflectlite.TypeOf", "(internal/reflectlite.Value).Elem", "(internal/reflectlite.Value).Set"], unfollowed := true, recurses := true, named := ["loop.example/g01352/impl.errNoMove", "errors.errorType"], ifaces := true, apart := false, laid := [("errors.errorType", laid_errors_errorType), ("loop.example/g01352/impl.errNoMove", laid_loop_example_g01352_impl_errNoMove)] }
def FnExactLongestFrogPlaySaid : Prop := fnExactLongestFrogPlayRow.holds Tryd.pinned (OpenSpec.ofChange fnExactLongestFrogPlaySpec)

/-- ITS FALSE NEIGHBOUR: 'it returns false'. Refute it at one input. -/
def fnExactLongestFrogPlayWrong : ChangeSpec := { name := "fnExactLongestFrogPlay", vars := ["loop.example/g01352/impl.errNoMove"], fn := fun _ => fun
  | [d, g1] => { results := [.lit (.bool false)], args := [d], vars := [g1] }
  | _ => none }
def FnExactLongestFrogPlayWrongFalsely : Prop := fnExactLongestFrogPlayRow.holds Tryd.pinned (OpenSpec.ofChange fnExactLongestFrogPlayWrong)

/-- 'laws.FnExactShortestStuck': WHATEVER THE INPUT: true; the input reads as it did. -/
def fnExactShortestStuckSpec : ChangeSpec := { name := "fnExactShortestStuck", vars := ["loop.example/g01352/impl.errNoMove"], fn := fun _ => fun
  | [d, g1] => { results := [.lit (.bool true)], args := [d], vars := [g1] }
  | _ => none }
def fnExactShortestStuckRow : OpenClaim := { program := "ytlaepnbkkjdpgabdoor", sum := "09167d1428e0df1888eea175350910feeeba577e893e113690750e9f2a20ac4e", func := "loop.example/g01352/laws.FnExactShortestStuck", spec := "fnExactShortestStuck", inPlace := ["internal/reflectlite.ValueOf", "(internal/reflectlite.Value).Type", "(internal/reflectlite.Value).IsNil", "internal/reflectlite.TypeOf", "(internal/reflectlite.Value).Elem", "(internal/reflectlite.Value).Set"], unfollowed := true, recurses := true, named := ["loop.example/g01352/impl.errNoMove", "errors.errorType"], ifaces := true, apart := false, laid := [("errors.errorType", laid_errors_errorType), ("loop.example/g01352/impl.errNoMove", laid_loop_example_g01352_impl_errNoMove)] }
def FnExactShortestStuckSaid : Prop := fnExactShortestStuckRow.holds Tryd.pinned (OpenSpec.ofChange fnExactShortestStuckSpec)

/-- ITS FALSE NEIGHBOUR: 'it returns false'. Refute it at one input. -/
def fnExactShortestStuckWrong : ChangeSpec := { name := "fnExactShortestStuck", vars := ["loop.example/g01352/impl.errNoMove"], fn := fun _ => fun
  | [d, g1] => { results := [.lit (.bool false)], args := [d], vars := [g1] }
  | _ => none }
def FnExactShortestStuckWrongFalsely : Prop := fnExactShortestStuckRow.holds Tryd.pinned (OpenSpec.ofChange fnExactShortestStuckWrong)

/-- 'laws.FnExactStuckPonds': WHATEVER THE INPUT: true; the input reads as it did. -/
def fnExactStuckPondsSpec : ChangeSpec := { name := "fnExactStuckPonds", vars := ["loop.example/g01352/impl.errNoMove"], fn := fun _ => fun
  | [d, g1] => { results := [.lit (.bool true)], args := [d], vars := [g1] }
  | _ => none }
def fnExactStuckPondsRow : OpenClaim := { program := "ytlaepnbkkjdpgabdoor", sum := "09167d1428e0df1888eea175350910feeeba577e893e113690750e9f2a20ac4e", func := "loop.example/g01352/laws.FnExactStuckPonds", spec := "fnExactStuckPonds", inPlace := ["internal/reflectlite.ValueOf", "(internal/reflectlite.Value).Type", "(internal/reflectlite.Value).IsNil", "internal/reflectlite.TypeOf", "(internal/reflectlite.Value).Elem", "(internal/reflectlite.Value).Set"], unfollowed := true, recurses := true, named := ["loop.example/g01352/impl.errNoMove", "errors.errorType"], ifaces := true, apart := false, laid := [("errors.errorType", laid_errors_errorType), ("loop.example/g01352/impl.errNoMove", laid_loop_example_g01352_impl_errNoMove)] }
def FnExactStuckPondsSaid : Prop := fnExactStuckPondsRow.holds Tryd.pinned (OpenSpec.ofChange fnExactStuckPondsSpec)

/-- ITS FALSE NEIGHBOUR: 'it returns false'. Refute it at one input. -/
def fnExactStuckPondsWrong : ChangeSpec := { name := "fnExactStuckPonds", vars := ["loop.example/g01352/impl.errNoMove"], fn := fun _ => fun
  | [d, g1] => { results := [.lit (.bool false)], args := [d], vars := [g1] }
  | _ => none }
def FnExactStuckPondsWrongFalsely : Prop := fnExactStuckPondsRow.holds Tryd.pinned (OpenSpec.ofChange fnExactStuckPondsWrong)

/- THE SECOND FORM. 'bulk': how many values and letters a reading holds, each counted each time it is reached (what is shared counts as often as it is met; a slice's spare places count too). A statement '..UptoSaid' is the law's where the arguments, and the package variables that the reading takes, are together of bulk at most 1048576: NARROWER than '..Said'. Prove '..Said' where nothing that the law and all that it calls make is longer than what came in: it says more and counts as full. Else prove '..UptoSaid'. A law counts once. -/
mutual
def uptoBulk {H : Type} : DataW H → Nat
  | .lit (.string bytes) => bytes.length + 1
  | .lit _ => 1
  | .nil => 1
  | .ptr d => uptoBulk d + 1
  | .slice elems spare => uptoBulkAll elems + uptoBulkAll spare + 1
  | .agg parts => uptoBulkAll parts + 1
  | .iface _ d => uptoBulk d + 1
  | .map entries => uptoBulkEntries entries + 1
  | .held _ => 1
def uptoBulkAll {H : Type} : List (DataW H) → Nat
  | [] => 0
  | d :: r => uptoBulk d + uptoBulkAll r
def uptoBulkEntries {H : Type} : List (Lit × DataW H) → Nat
  | [] => 0
  | x :: r => uptoBulkEntry x + uptoBulkEntries r
def uptoBulkEntry {H : Type} : Lit × DataW H → Nat
  | (.string bytes, d) => bytes.length + uptoBulk d + 1
  | (_, d) => uptoBulk d + 1
 end
def uptoSmall : (H : Type) → List (DataW H) → Bool := fun _ ds => decide (uptoBulkAll ds ≤ 1048576)
def OpenSpec.upto (s : _root_.Go.ChangeSpec) : _root_.Go.OpenSpec := { _root_.Go.OpenSpec.ofChange s with cond := some uptoSmall }

/-- 'laws.FnExactFewestFrogMoves', WHERE WHAT IT READS IS OF BULK AT MOST 1048576: true; the input reads as it did. -/
def fnExactFewestFrogMovesUptoRow : OpenClaim := { program := "ytlaepnbkkjdpgabdoor", sum := "09167d1428e0df1888eea175350910feeeba577e893e113690750e9f2a20ac4e", func := "loop.example/g01352/laws.FnExactFewestFrogMoves", spec := "fnExactFewestFrogMoves", inPlace := ["internal/reflectlite.ValueOf", "(internal/reflectlite.Value).Type", "(internal/reflectlite.Value).IsNil", "internal/reflectlite.TypeOf", "(internal/reflectlite.Value).Elem", "(internal/reflectlite.Value).Set"], unfollowed := true, recurses := true, named := ["loop.example/g01352/impl.errNoMove", "errors.errorType"], ifaces := true, apart := false, laid := [("errors.errorType", laid_errors_errorType), ("loop.example/g01352/impl.errNoMove", laid_loop_example_g01352_impl_errNoMove)], narrowed := true }
def FnExactFewestFrogMovesUptoSaid : Prop := fnExactFewestFrogMovesUptoRow.holds Tryd.pinned (OpenSpec.upto fnExactFewestFrogMovesSpec)

/-- 'laws.FnExactFirstFrogMoves', WHERE WHAT IT READS IS OF BULK AT MOST 1048576: true; the input reads as it did. -/
def fnExactFirstFrogMovesUptoRow : OpenClaim := { program := "ytlaepnbkkjdpgabdoor", sum := "09167d1428e0df1888eea175350910feeeba577e893e113690750e9f2a20ac4e", func := "loop.example/g01352/laws.FnExactFirstFrogMoves", spec := "fnExactFirstFrogMoves", inPlace := ["internal/reflectlite.ValueOf", "(internal/reflectlite.Value).Type", "(internal/reflectlite.Value).IsNil", "internal/reflectlite.TypeOf", "(internal/reflectlite.Value).Elem", "(internal/reflectlite.Value).Set"], unfollowed := true, recurses := true, named := ["loop.example/g01352/impl.errNoMove", "errors.errorType"], ifaces := true, apart := false, laid := [("errors.errorType", laid_errors_errorType), ("loop.example/g01352/impl.errNoMove", laid_loop_example_g01352_impl_errNoMove)], narrowed := true }
def FnExactFirstFrogMovesUptoSaid : Prop := fnExactFirstFrogMovesUptoRow.holds Tryd.pinned (OpenSpec.upto fnExactFirstFrogMovesSpec)

/-- 'laws.FnExactCountFrogWays', WHERE WHAT IT READS IS OF BULK AT MOST 1048576: true; the input reads as it did. -/
def fnExactCountFrogWaysUptoRow : OpenClaim := { program := "ytlaepnbkkjdpgabdoor", sum := "09167d1428e0df1888eea175350910feeeba577e893e113690750e9f2a20ac4e", func := "loop.example/g01352/laws.FnExactCountFrogWays", spec := "fnExactCountFrogWays", inPlace := ["internal/reflectlite.ValueOf", "(internal/reflectlite.Value).Type", "(internal/reflectlite.Value).IsNil", "internal/reflectlite.TypeOf", "(internal/reflectlite.Value).Elem", "(internal/reflectlite.Value).Set"], unfollowed := true, recurses := true, named := ["loop.example/g01352/impl.errNoMove", "errors.errorType"], ifaces := true, apart := false, laid := [("errors.errorType", laid_errors_errorType), ("loop.example/g01352/impl.errNoMove", laid_loop_example_g01352_impl_errNoMove)], narrowed := true }
def FnExactCountFrogWaysUptoSaid : Prop := fnExactCountFrogWaysUptoRow.holds Tryd.pinned (OpenSpec.upto fnExactCountFrogWaysSpec)

/-- 'laws.FnExactCanExchange', WHERE WHAT IT READS IS OF BULK AT MOST 1048576: true; the input reads as it did. -/
def fnExactCanExchangeUptoRow : OpenClaim := { program := "ytlaepnbkkjdpgabdoor", sum := "09167d1428e0df1888eea175350910feeeba577e893e113690750e9f2a20ac4e", func := "loop.example/g01352/laws.FnExactCanExchange", spec := "fnExactCanExchange", inPlace := ["internal/reflectlite.ValueOf", "(internal/reflectlite.Value).Type", "(internal/reflectlite.Value).IsNil", "internal/reflectlite.TypeOf", "(internal/reflectlite.Value).Elem", "(internal/reflectlite.Value).Set"], unfollowed := true, recurses := true, named := ["loop.example/g01352/impl.errNoMove", "errors.errorType"], ifaces := true, apart := false, laid := [("errors.errorType", laid_errors_errorType), ("loop.example/g01352/impl.errNoMove", laid_loop_example_g01352_impl_errNoMove)], narrowed := true }
def FnExactCanExchangeUptoSaid : Prop := fnExactCanExchangeUptoRow.holds Tryd.pinned (OpenSpec.upto fnExactCanExchangeSpec)

/-- 'laws.FnExactPondsReached', WHERE WHAT IT READS IS OF BULK AT MOST 1048576: true; the input reads as it did. -/
def fnExactPondsReachedUptoRow : OpenClaim := { program := "ytlaepnbkkjdpgabdoor", sum := "09167d1428e0df1888eea175350910feeeba577e893e113690750e9f2a20ac4e", func := "loop.example/g01352/laws.FnExactPondsReached", spec := "fnExactPondsReached", inPlace := ["internal/reflectlite.ValueOf", "(internal/reflectlite.Value).Type", "(internal/reflectlite.Value).IsNil", "internal/reflectlite.TypeOf", "(internal/reflectlite.Value).Elem", "(internal/reflectlite.Value).Set"], unfollowed := true, recurses := true, named := ["loop.example/g01352/impl.errNoMove", "errors.errorType"], ifaces := true, apart := false, laid := [("errors.errorType", laid_errors_errorType), ("loop.example/g01352/impl.errNoMove", laid_loop_example_g01352_impl_errNoMove)], narrowed := true }
def FnExactPondsReachedUptoSaid : Prop := fnExactPondsReachedUptoRow.holds Tryd.pinned (OpenSpec.upto fnExactPondsReachedSpec)

/-- 'laws.FnExactLongestFrogPlay', WHERE WHAT IT READS IS OF BULK AT MOST 1048576: true; the input reads as it did. -/
def fnExactLongestFrogPlayUptoRow : OpenClaim := { program := "ytlaepnbkkjdpgabdoor", sum := "09167d1428e0df1888eea175350910feeeba577e893e113690750e9f2a20ac4e", func := "loop.example/g01352/laws.FnExactLongestFrogPlay", spec := "fnExactLongestFrogPlay", inPlace := ["internal/reflectlite.ValueOf", "(internal/reflectlite.Value).Type", "(internal/reflectlite.Value).IsNil", "internal/reflectlite.TypeOf", "(internal/reflectlite.Value).Elem", "(internal/reflectlite.Value).Set"], unfollowed := true, recurses := true, named := ["loop.example/g01352/impl.errNoMove", "errors.errorType"], ifaces := true, apart := false, laid := [("errors.errorType", laid_errors_errorType), ("loop.example/g01352/impl.errNoMove", laid_loop_example_g01352_impl_errNoMove)], narrowed := true }
def FnExactLongestFrogPlayUptoSaid : Prop := fnExactLongestFrogPlayUptoRow.holds Tryd.pinned (OpenSpec.upto fnExactLongestFrogPlaySpec)

/-- 'laws.FnExactShortestStuck', WHERE WHAT IT READS IS OF BULK AT MOST 1048576: true; the input reads as it did. -/
def fnExactShortestStuckUptoRow : OpenClaim := { program := "ytlaepnbkkjdpgabdoor", sum := "09167d1428e0df1888eea175350910feeeba577e893e113690750e9f2a20ac4e", func := "loop.example/g01352/laws.FnExactShortestStuck", spec := "fnExactShortestStuck", inPlace := ["internal/reflectlite.ValueOf", "(internal/reflectlite.Value).Type", "(internal/reflectlite.Value).IsNil", "internal/reflectlite.TypeOf", "(internal/reflectlite.Value).Elem", "(internal/reflectlite.Value).Set"], unfollowed := true, recurses := true, named := ["loop.example/g01352/impl.errNoMove", "errors.errorType"], ifaces := true, apart := false, laid := [("errors.errorType", laid_errors_errorType), ("loop.example/g01352/impl.errNoMove", laid_loop_example_g01352_impl_errNoMove)], narrowed := true }
def FnExactShortestStuckUptoSaid : Prop := fnExactShortestStuckUptoRow.holds Tryd.pinned (OpenSpec.upto fnExactShortestStuckSpec)

/-- 'laws.FnExactStuckPonds', WHERE WHAT IT READS IS OF BULK AT MOST 1048576: true; the input reads as it did. -/
def fnExactStuckPondsUptoRow : OpenClaim := { program := "ytlaepnbkkjdpgabdoor", sum := "09167d1428e0df1888eea175350910feeeba577e893e113690750e9f2a20ac4e", func := "loop.example/g01352/laws.FnExactStuckPonds", spec := "fnExactStuckPonds", inPlace := ["internal/reflectlite.ValueOf", "(internal/reflectlite.Value).Type", "(internal/reflectlite.Value).IsNil", "internal/reflectlite.TypeOf", "(internal/reflectlite.Value).Elem", "(internal/reflectlite.Value).Set"], unfollowed := true, recurses := true, named := ["loop.example/g01352/impl.errNoMove", "errors.errorType"], ifaces := true, apart := false, laid := [("errors.errorType", laid_errors_errorType), ("loop.example/g01352/impl.errNoMove", laid_loop_example_g01352_impl_errNoMove)], narrowed := true }
def FnExactStuckPondsUptoSaid : Prop := fnExactStuckPondsUptoRow.holds Tryd.pinned (OpenSpec.upto fnExactStuckPondsSpec)

end Rows
end Go.Proofs.YtlaepnbkkjdpgabDoor
