/- Lists of indices; the wood of some planks: impl.woodOf. -/
import Derived.Test.YthdmmliipmmfbabPk
namespace Go.Proofs.Ythdmmliipmmfbab
set_option linter.unusedVariables false
open Go.RowKit

/-- indices as a slice has them -/
def idx (l : List Nat) : List Int := l.map fun (j : Nat) => (j : Int)
theorem idx_len (l : List Nat) : (idx l).length = l.length := by simp [idx]
theorem idx_gt (l : List Nat) (j : Nat) : gt (idx l) j = ((l.getD j 0 : Nat) : Int) := by
  unfold gt idx
  rw [List.getD_eq_getElem?_getD, List.getElem?_map, List.getD_eq_getElem?_getD]
  cases l[j]? <;> simp
/-- the wood of the first k of some planks -/
def woodTo (ps : List Int) (is : List Nat) : Nat → Int
  | 0 => 0
  | k + 1 => woodTo ps is k + gt ps (is.getD k 0)
theorem woodTo_s (ps : List Int) (is : List Nat) (k : Nat) : woodTo ps is (k + 1) = woodTo ps is k + gt ps (is.getD k 0) := rfl
theorem woodTo_in {ps : List Int} {is : List Nat} (h : ∀ j, 0 ≤ gt ps j ∧ gt ps j ≤ 100) : ∀ k : Nat, 0 ≤ woodTo ps is k ∧ woodTo ps is k ≤ 100 * k
  | 0 => ⟨Int.le_refl _, by simp [woodTo]⟩
  | k + 1 => by
    have := woodTo_in (is := is) h k; have := h (is.getD k 0)
    rw [woodTo_s]; omega
def woodL (ps : List Int) (is : List Nat) : Int := woodTo ps is is.length
end Go.Proofs.Ythdmmliipmmfbab
