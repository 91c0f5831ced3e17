/-
  DERIVED. GIVEN WITH THE SEED: THE CARDS: each row of YteoggpollgkfiaaDoorRows.lean that lists a variable, with what it lists TIED to the program's text (the seventh form; the later family's looks); each row that meets fmt, with fmt's text TOLD by the authors' own Lean function (tested against real Go, not proved from fmt's source: count such statements apart). THE CARD IS WHAT COUNTS. Prove the row's statement (the work); the ties are given (YteoggpollgkfiaaDoorTie.lean); close each card by the builder's one call (the guide's Derived/Test/ToyasCard.lean, 'card_holds'). Laid BY PROGRAM, IN A SANDBOX (cutbox-door.mjs). By AI agents, Wed Nov 11 2026. No macro, syntax, notation, axiom, sorry.
-/
import Derived.Test.YteoggpollgkfiaaDoorRows
import GoSem.ClaimSeven
namespace Go.Proofs.YteoggpollgkfiaaDoor
namespace Rows

/-- THE TIED CARD OF 'laws.FnExactFewestFrogMoves'. -/
def fnExactFewestFrogMovesCard : Claim7 := { stood := { row := fnExactFewestFrogMovesRow, standIns := [], harness := (true, "44dc01d671d1c961bde44ffc3d258b8e60b2fe1dbfeeb727c2160aaca87bc004"), looks := true }, kinds := [], alts := [], laidByText := true, laidKinds := [.handle, .sentinel], laidTests := true, laidLooks := .later }
def FnExactFewestFrogMovesCardSaid : Prop := Claim7.holds Tryd.pinned (.plain (OpenSpec.ofChange fnExactFewestFrogMovesSpec)) fnExactFewestFrogMovesCard

/-- THE TIED CARD OF 'laws.FnExactFirstFrogMoves'. -/
def fnExactFirstFrogMovesCard : Claim7 := { stood := { row := fnExactFirstFrogMovesRow, standIns := [], harness := (true, "44dc01d671d1c961bde44ffc3d258b8e60b2fe1dbfeeb727c2160aaca87bc004"), looks := true }, kinds := [], alts := [], laidByText := true, laidKinds := [.handle, .sentinel], laidTests := true, laidLooks := .later }
def FnExactFirstFrogMovesCardSaid : Prop := Claim7.holds Tryd.pinned (.plain (OpenSpec.ofChange fnExactFirstFrogMovesSpec)) fnExactFirstFrogMovesCard

/-- THE TIED CARD OF 'laws.FnExactLongestFrogPlay'. -/
def fnExactLongestFrogPlayCard : Claim7 := { stood := { row := fnExactLongestFrogPlayRow, standIns := [], harness := (true, "44dc01d671d1c961bde44ffc3d258b8e60b2fe1dbfeeb727c2160aaca87bc004"), looks := true }, kinds := [], alts := [], laidByText := true, laidKinds := [.handle, .sentinel], laidTests := true, laidLooks := .later }
def FnExactLongestFrogPlayCardSaid : Prop := Claim7.holds Tryd.pinned (.plain (OpenSpec.ofChange fnExactLongestFrogPlaySpec)) fnExactLongestFrogPlayCard

/-- THE TIED CARD OF 'laws.FnExactShortestStuck'. -/
def fnExactShortestStuckCard : Claim7 := { stood := { row := fnExactShortestStuckRow, standIns := [], harness := (true, "44dc01d671d1c961bde44ffc3d258b8e60b2fe1dbfeeb727c2160aaca87bc004"), looks := true }, kinds := [], alts := [], laidByText := true, laidKinds := [.handle, .sentinel], laidTests := true, laidLooks := .later }
def FnExactShortestStuckCardSaid : Prop := Claim7.holds Tryd.pinned (.plain (OpenSpec.ofChange fnExactShortestStuckSpec)) fnExactShortestStuckCard

/-- THE TIED CARD OF 'laws.FnExactStuckPonds'. -/
def fnExactStuckPondsCard : Claim7 := { stood := { row := fnExactStuckPondsRow, standIns := [], harness := (true, "44dc01d671d1c961bde44ffc3d258b8e60b2fe1dbfeeb727c2160aaca87bc004"), looks := true }, kinds := [], alts := [], laidByText := true, laidKinds := [.handle, .sentinel], laidTests := true, laidLooks := .later }
def FnExactStuckPondsCardSaid : Prop := Claim7.holds Tryd.pinned (.plain (OpenSpec.ofChange fnExactStuckPondsSpec)) fnExactStuckPondsCard

/-- THE SECOND FORM's CARD OF 'laws.FnExactFewestFrogMoves'. -/
def fnExactFewestFrogMovesUptoCard : Claim7 := { stood := { row := fnExactFewestFrogMovesUptoRow, standIns := [], harness := (true, "44dc01d671d1c961bde44ffc3d258b8e60b2fe1dbfeeb727c2160aaca87bc004"), looks := true }, kinds := [], alts := [], laidByText := true, laidKinds := [.handle, .sentinel], laidTests := true, laidLooks := .later }
def FnExactFewestFrogMovesUptoCardSaid : Prop := Claim7.holds Tryd.pinned (.plain (OpenSpec.upto fnExactFewestFrogMovesSpec)) fnExactFewestFrogMovesUptoCard

/-- THE SECOND FORM's CARD OF 'laws.FnExactFirstFrogMoves'. -/
def fnExactFirstFrogMovesUptoCard : Claim7 := { stood := { row := fnExactFirstFrogMovesUptoRow, standIns := [], harness := (true, "44dc01d671d1c961bde44ffc3d258b8e60b2fe1dbfeeb727c2160aaca87bc004"), looks := true }, kinds := [], alts := [], laidByText := true, laidKinds := [.handle, .sentinel], laidTests := true, laidLooks := .later }
def FnExactFirstFrogMovesUptoCardSaid : Prop := Claim7.holds Tryd.pinned (.plain (OpenSpec.upto fnExactFirstFrogMovesSpec)) fnExactFirstFrogMovesUptoCard

/-- THE SECOND FORM's CARD OF 'laws.FnExactLongestFrogPlay'. -/
def fnExactLongestFrogPlayUptoCard : Claim7 := { stood := { row := fnExactLongestFrogPlayUptoRow, standIns := [], harness := (true, "44dc01d671d1c961bde44ffc3d258b8e60b2fe1dbfeeb727c2160aaca87bc004"), looks := true }, kinds := [], alts := [], laidByText := true, laidKinds := [.handle, .sentinel], laidTests := true, laidLooks := .later }
def FnExactLongestFrogPlayUptoCardSaid : Prop := Claim7.holds Tryd.pinned (.plain (OpenSpec.upto fnExactLongestFrogPlaySpec)) fnExactLongestFrogPlayUptoCard

/-- THE SECOND FORM's CARD OF 'laws.FnExactShortestStuck'. -/
def fnExactShortestStuckUptoCard : Claim7 := { stood := { row := fnExactShortestStuckUptoRow, standIns := [], harness := (true, "44dc01d671d1c961bde44ffc3d258b8e60b2fe1dbfeeb727c2160aaca87bc004"), looks := true }, kinds := [], alts := [], laidByText := true, laidKinds := [.handle, .sentinel], laidTests := true, laidLooks := .later }
def FnExactShortestStuckUptoCardSaid : Prop := Claim7.holds Tryd.pinned (.plain (OpenSpec.upto fnExactShortestStuckSpec)) fnExactShortestStuckUptoCard

/-- THE SECOND FORM's CARD OF 'laws.FnExactStuckPonds'. -/
def fnExactStuckPondsUptoCard : Claim7 := { stood := { row := fnExactStuckPondsUptoRow, standIns := [], harness := (true, "44dc01d671d1c961bde44ffc3d258b8e60b2fe1dbfeeb727c2160aaca87bc004"), looks := true }, kinds := [], alts := [], laidByText := true, laidKinds := [.handle, .sentinel], laidTests := true, laidLooks := .later }
def FnExactStuckPondsUptoCardSaid : Prop := Claim7.holds Tryd.pinned (.plain (OpenSpec.upto fnExactStuckPondsSpec)) fnExactStuckPondsUptoCard
end Rows
end Go.Proofs.YteoggpollgkfiaaDoor
