/-
  DERIVED. GIVEN WITH THE SEED: THE CARDS: each row of YtfkdkhoihlkgcacDoorRows.lean that lists a variable, with what it lists TIED to the program's text (the seventh form; the later family's looks); each row that meets fmt, with fmt's text TOLD by the authors' own Lean function (tested against real Go, not proved from fmt's source: count such statements apart). THE CARD IS WHAT COUNTS. Prove the row's statement (the work); the ties are given (YtfkdkhoihlkgcacDoorTie.lean); close each card by the builder's one call (the guide's Derived/Test/ToyasCard.lean, 'card_holds'). Laid BY PROGRAM, IN A SANDBOX (cutbox-door.mjs). By AI agents, Wed Nov 11 2026. No macro, syntax, notation, axiom, sorry.
-/
import Derived.Test.YtfkdkhoihlkgcacDoorRows
import GoSem.ClaimSeven
namespace Go.Proofs.YtfkdkhoihlkgcacDoor
namespace Rows

/-- THE TIED CARD OF 'laws.FnExactCornerText'. -/
def fnExactCornerTextCard : Claim7 := { stood := { row := fnExactCornerTextRow, standIns := [], harness := (true, "0c590a129f14f490c27dca18308e027aff193c5a5dd4d7e2526fbc4b2bc68a4f"), looks := true }, kinds := [], alts := [], laidByText := true, laidKinds := [.data, .data, .data], laidTests := true, laidLooks := .later }
def FnExactCornerTextCardSaid : Prop := Claim7.holds Tryd.pinned (.plain (OpenSpec.ofChange fnExactCornerTextSpec)) fnExactCornerTextCard

/-- THE TIED CARD OF 'laws.FnExactParseCorner'. -/
def fnExactParseCornerCard : Claim7 := { stood := { row := fnExactParseCornerRow, standIns := [], harness := (true, "0c590a129f14f490c27dca18308e027aff193c5a5dd4d7e2526fbc4b2bc68a4f"), looks := true }, kinds := [], alts := [], laidByText := true, laidKinds := [.data, .data, .data, .sentinel, .sentinel], laidTests := true, laidLooks := .later }
def FnExactParseCornerCardSaid : Prop := Claim7.holds Tryd.pinned (.plain (OpenSpec.ofChange fnExactParseCornerSpec)) fnExactParseCornerCard

/-- THE TIED CARD OF 'laws.FnExactParseIsles'. -/
def fnExactParseIslesCard : Claim7 := { stood := { row := fnExactParseIslesRow, standIns := [], harness := (true, "0c590a129f14f490c27dca18308e027aff193c5a5dd4d7e2526fbc4b2bc68a4f"), looks := true }, kinds := [], alts := [], laidByText := true, laidKinds := [.data, .data, .data, .data, .sentinel, .sentinel, .pinned], laidTests := true, laidLooks := .later }
def FnExactParseIslesCardSaid : Prop := Claim7.holds Tryd.pinned (.plain (OpenSpec.ofChange fnExactParseIslesSpec)) fnExactParseIslesCard

/-- THE SECOND FORM's CARD OF 'laws.FnExactCornerText'. -/
def fnExactCornerTextUptoCard : Claim7 := { stood := { row := fnExactCornerTextUptoRow, standIns := [], harness := (true, "0c590a129f14f490c27dca18308e027aff193c5a5dd4d7e2526fbc4b2bc68a4f"), looks := true }, kinds := [], alts := [], laidByText := true, laidKinds := [.data, .data, .data], laidTests := true, laidLooks := .later }
def FnExactCornerTextUptoCardSaid : Prop := Claim7.holds Tryd.pinned (.plain (OpenSpec.upto fnExactCornerTextSpec)) fnExactCornerTextUptoCard

/-- THE SECOND FORM's CARD OF 'laws.FnExactParseCorner'. -/
def fnExactParseCornerUptoCard : Claim7 := { stood := { row := fnExactParseCornerUptoRow, standIns := [], harness := (true, "0c590a129f14f490c27dca18308e027aff193c5a5dd4d7e2526fbc4b2bc68a4f"), looks := true }, kinds := [], alts := [], laidByText := true, laidKinds := [.data, .data, .data, .sentinel, .sentinel], laidTests := true, laidLooks := .later }
def FnExactParseCornerUptoCardSaid : Prop := Claim7.holds Tryd.pinned (.plain (OpenSpec.upto fnExactParseCornerSpec)) fnExactParseCornerUptoCard

/-- THE SECOND FORM's CARD OF 'laws.FnExactParseIsles'. -/
def fnExactParseIslesUptoCard : Claim7 := { stood := { row := fnExactParseIslesUptoRow, standIns := [], harness := (true, "0c590a129f14f490c27dca18308e027aff193c5a5dd4d7e2526fbc4b2bc68a4f"), looks := true }, kinds := [], alts := [], laidByText := true, laidKinds := [.data, .data, .data, .data, .sentinel, .sentinel, .pinned], laidTests := true, laidLooks := .later }
def FnExactParseIslesUptoCardSaid : Prop := Claim7.holds Tryd.pinned (.plain (OpenSpec.upto fnExactParseIslesSpec)) fnExactParseIslesUptoCard
end Rows
end Go.Proofs.YtfkdkhoihlkgcacDoor
