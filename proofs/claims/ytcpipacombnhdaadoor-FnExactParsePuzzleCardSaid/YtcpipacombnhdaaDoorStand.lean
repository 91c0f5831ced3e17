/- Contracts of impl.isInRiver, impl.isStoneAt, impl.farBank, spec.rvStand. -/
import Derived.Test.YtcpipacombnhdaaDoorRv
namespace Go.Proofs.YtcpipacombnhdaaDoor
set_option linter.unusedVariables false
open Go.RowKit

/-- a stone stands at the place -/
def stn (s : ByteArray) (p : Nat) : Bool := decide (1 ≤ p) && decide (p ≤ s.size) && (s.data.toList.getD (p - 1) 0 == 111)
/-- one can stand at the place -/
def stand (s : ByteArray) (p : Nat) : Bool := p == 0 || p == s.size + 1 || stn s p

theorem stn_in {s : ByteArray} {p : Nat} (h0 : 1 ≤ p) (h1 : p ≤ s.size) (hk : p - 1 < s.size) : stn s p = ((s[p - 1].toNat : Int) == 111) := by
  have e : s.data.toList.getD (p - 1) 0 = s[p - 1] := by
    rw [List.getD_eq_getElem?_getD, List.getElem?_eq_getElem (by simpa using hk)]; rfl
  simp only [stn, h0, h1, decide_true, Bool.true_and, e]
  rw [Bool.eq_iff_iff, beq_iff_eq, beq_iff_eq]
  exact (toNat_eq_iff s[p - 1] 111 (by omega)).symm
theorem stn_out {s : ByteArray} {p : Nat} (h : p < 1 ∨ s.size < p) : stn s p = false := by
  simp only [stn]; rcases h with h | h
  · simp [show ¬ (1 ≤ p) from by omega]
  · simp [show ¬ (p ≤ s.size) from by omega]
theorem stand_0 (s : ByteArray) : stand s 0 = true := by simp [stand]
theorem stand_far (s : ByteArray) : stand s (s.size + 1) = true := by simp [stand]
theorem stand_in {s : ByteArray} {p : Nat} (h0 : 1 ≤ p) (h1 : p ≤ s.size) : stand s p = stn s p := by
  have e1 : (p == 0) = false := by simp; omega
  have e2 : (p == s.size + 1) = false := by simp; omega
  simp [stand, e1, e2]



end Go.Proofs.YtcpipacombnhdaaDoor
