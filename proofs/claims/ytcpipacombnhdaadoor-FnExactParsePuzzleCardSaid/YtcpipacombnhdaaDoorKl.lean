/- Three numbers: a clue, as it lies in memory; plain. -/
import Derived.Test.YtcpipacombnhdaaDoorSl
namespace Go.Proofs.YtcpipacombnhdaaDoor
set_option linter.unusedVariables false
open Go.RowKit

/-- a clue: its kind, A and B -/
abbrev Br := Int × Int × Int
def gb (bs : List Br) (j : Nat) : Br := bs.getD j (0, 0, 0)
theorem gb_mem {bs : List Br} {j : Nat} (h : j < bs.length) : gb bs j ∈ bs := by
  have e : gb bs j = bs[j] := by simp [gb, h]
  rw [e]; exact List.getElem_mem _
theorem mem_gb {bs : List Br} {b : Br} (h : b ∈ bs) : ∃ j, j < bs.length ∧ gb bs j = b := by
  obtain ⟨j, hj, rfl⟩ := List.getElem_of_mem h
  exact ⟨j, hj, by simp [gb, hj]⟩
end Go.Proofs.YtcpipacombnhdaaDoor
