/- CornerText, both sides. -/
import Derived.Test.YtcpipacombnhdaaDoorCn
import Derived.Test.YtcpipacombnhdaaDoorPw
import Derived.Deep.RegionHeld3
namespace Go.Proofs.YtcpipacombnhdaaDoor
set_option linter.unusedVariables false
open Go.RowKit

/-- the text of a corner -/
def ctx (x y : Int) : List UInt8 := Lib.decDigits x.toNat ++ [120] ++ Lib.decDigits y.toNat
def ctV (x y : Int) : Value := if isCn x y then .tuple #[.string (bs (ctx x y)), .bool true] else .tuple #[.string ⟨#[]⟩, .bool false]
theorem ctV_no {x y : Int} (h : isCn x y = false) : ctV x y = .tuple #[.string ⟨#[]⟩, .bool false] := by simp [ctV, h]
theorem ctV_yes {x y : Int} (h : isCn x y = true) : ctV x y = .tuple #[.string (bs (ctx x y)), .bool true] := by simp [ctV, h]
theorem ctV_form (x y : Int) : ∃ a b, ctV x y = .tuple #[.string a, .bool b] := by unfold ctV; split <;> exact ⟨_, _, rfl⟩
theorem ctx_sum (a b : Nat) : bs (Lib.decDigits a) ++ ⟨#[120]⟩ ++ bs (Lib.decDigits b) = bs (ctx (a : Int) (b : Int)) := by
  rw [show (⟨#[120]⟩ : ByteArray) = bs [120] from rfl]
  unfold ctx
  simp only [Int.toNat_natCast, bs_app, List.append_assoc]
theorem blk2 {W : World} {g : Nat} {x y : Value} (h : Blk W g #[x, y]) : W.cell? ⟨g, 0, none⟩ = some x ∧ W.cell? ⟨g, 1, none⟩ = some y := ⟨h.cell 0, h.cell 1⟩
end Go.Proofs.YtcpipacombnhdaaDoor
