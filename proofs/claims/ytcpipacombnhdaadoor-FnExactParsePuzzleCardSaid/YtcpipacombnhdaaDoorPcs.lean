/- spec.ParseCorner. -/
import Derived.Test.YtcpipacombnhdaaDoorPcp
import Derived.Deep.RegionHeld3
namespace Go.Proofs.YtcpipacombnhdaaDoor
set_option linter.unusedVariables false
open Go.RowKit

theorem two_set {w : World} {g : Nat} {a b c d : Value} (h : Blk w g #[a, b]) : Blk ((w.setCell ⟨g, 0, none⟩ c).setCell ⟨g, 1, none⟩ d) g #[c, d] := (h.set 0 c).set 1 d
theorem two_below {w w' : World} {B g : Nat} (h : Below B w w') (hB : B ≤ g) (c d : Value) : Below B w ((w'.setCell ⟨g, 0, none⟩ c).setCell ⟨g, 1, none⟩ d) :=
  (h.setCell (p := ⟨g, 0, none⟩) hB c).setCell (p := ⟨g, 1, none⟩) hB d
end Go.Proofs.YtcpipacombnhdaaDoor
