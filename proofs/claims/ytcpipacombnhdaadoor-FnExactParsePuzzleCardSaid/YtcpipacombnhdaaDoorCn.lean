/- Corners: what they are; distances that are measured by a closure over a place. -/
import Derived.Test.YtcpipacombnhdaaDoorRv
import Derived.Test.YtcpipacombnhdaaDoorBk
import Derived.Deep.Slices
import Derived.Deep.Strs
import Derived.Deep.Fields
import Derived.ChangeSame
import Derived.Lib.SmallJoins
namespace Go.Proofs.YtcpipacombnhdaaDoor
set_option linter.unusedVariables false
open Go.RowKit Go.ChangeShapes Go.WideShapes Go.Deep Go.Joins

def isDt (n : Int) : Bool := decide (1 ≤ n) && decide (n ≤ 100)
def isPl (n : Int) : Bool := decide (1 ≤ n) && decide (n ≤ 200)
def isCn (x y : Int) : Bool := isDt x && isDt y
theorem isDt_in {n : Int} (h : isDt n = true) : 1 ≤ n ∧ n ≤ 100 := by simpa [isDt] using h
theorem isPl_in {n : Int} (h : isPl n = true) : 1 ≤ n ∧ n ≤ 200 := by simpa [isPl] using h
theorem isCn_in {x y : Int} (h : isCn x y = true) : (1 ≤ x ∧ x ≤ 100) ∧ 1 ≤ y ∧ y ≤ 100 := by
  simp only [isCn, Bool.and_eq_true] at h
  exact ⟨isDt_in h.1, isDt_in h.2⟩
theorem inB_dt (n : Int) : inB n 1 100 = isDt n := rfl
theorem inB_pl (n : Int) : inB n 1 200 = isPl n := rfl
/-- a value of two numbers -/
def cv (x y : Int) : Value := .agg #[.int .i64 x, .int .i64 y]

theorem still {P : Program} {f : FuncId} {args : Array Value} {w : World} {v : Ending} (h : Calls P f args w fun e w' => e = v ∧ w = w') : Calls P f args w fun e w' => e = v ∧ Below w.heap.size w w' :=
  h.mono fun e w' ⟨h1, h2⟩ => ⟨h1, by rw [← h2]; exact Below.refl _ _⟩
end Go.Proofs.YtcpipacombnhdaaDoor
