/-
  DERIVED. GIVEN WITH THE SEED: THE CARDS: each row of YteoggpollgkfiabDoorRows.lean that lists a variable, with what it lists TIED to the program's text (the seventh form; the later family's looks); each row that meets fmt, with fmt's text TOLD by the authors' own Lean function (tested against real Go, not proved from fmt's source: count such statements apart). THE CARD IS WHAT COUNTS. Prove the row's statement (the work); the ties are given (YteoggpollgkfiabDoorTie.lean); close each card by the builder's one call (the guide's Derived/Test/ToyasCard.lean, 'card_holds'). Laid BY PROGRAM, IN A SANDBOX (cutbox-door.mjs). By AI agents, Wed Nov 11 2026. No macro, syntax, notation, axiom, sorry.
-/
import Derived.Test.YteoggpollgkfiabDoorRows
import GoSem.ClaimSeven
namespace Go.Proofs.YteoggpollgkfiabDoor
namespace Rows

/-- THE TIED CARD OF 'laws.FnExactPlanksText'. -/
def fnExactPlanksTextCard : Claim7 := { stood := { row := fnExactPlanksTextRow, standIns := [], harness := (true, "dfaada9e7177519f6a7f8f93958f364a12ece077a45ec72e5865601eb11f8fb7"), looks := true }, kinds := [], alts := [], laidByText := true, laidKinds := [.data, .data, .data], laidTests := true, laidLooks := .later }
def FnExactPlanksTextCardSaid : Prop := Claim7.holds Tryd.pinned (.plain (OpenSpec.ofChange fnExactPlanksTextSpec)) fnExactPlanksTextCard

/-- THE TIED CARD OF 'laws.FnExactParsePlanks'. -/
def fnExactParsePlanksCard : Claim7 := { stood := { row := fnExactParsePlanksRow, standIns := [], harness := (true, "dfaada9e7177519f6a7f8f93958f364a12ece077a45ec72e5865601eb11f8fb7"), looks := true }, kinds := [], alts := [], laidByText := true, laidKinds := [.data, .data, .data, .data, .sentinel, .sentinel, .pinned], laidTests := true, laidLooks := .later }
def FnExactParsePlanksCardSaid : Prop := Claim7.holds Tryd.pinned (.plain (OpenSpec.ofChange fnExactParsePlanksSpec)) fnExactParsePlanksCard

/-- THE SECOND FORM's CARD OF 'laws.FnExactPlanksText'. -/
def fnExactPlanksTextUptoCard : Claim7 := { stood := { row := fnExactPlanksTextUptoRow, standIns := [], harness := (true, "dfaada9e7177519f6a7f8f93958f364a12ece077a45ec72e5865601eb11f8fb7"), looks := true }, kinds := [], alts := [], laidByText := true, laidKinds := [.data, .data, .data], laidTests := true, laidLooks := .later }
def FnExactPlanksTextUptoCardSaid : Prop := Claim7.holds Tryd.pinned (.plain (OpenSpec.upto fnExactPlanksTextSpec)) fnExactPlanksTextUptoCard

/-- THE SECOND FORM's CARD OF 'laws.FnExactParsePlanks'. -/
def fnExactParsePlanksUptoCard : Claim7 := { stood := { row := fnExactParsePlanksUptoRow, standIns := [], harness := (true, "dfaada9e7177519f6a7f8f93958f364a12ece077a45ec72e5865601eb11f8fb7"), looks := true }, kinds := [], alts := [], laidByText := true, laidKinds := [.data, .data, .data, .data, .sentinel, .sentinel, .pinned], laidTests := true, laidLooks := .later }
def FnExactParsePlanksUptoCardSaid : Prop := Claim7.holds Tryd.pinned (.plain (OpenSpec.upto fnExactParsePlanksSpec)) fnExactParsePlanksUptoCard
end Rows
end Go.Proofs.YteoggpollgkfiabDoor
