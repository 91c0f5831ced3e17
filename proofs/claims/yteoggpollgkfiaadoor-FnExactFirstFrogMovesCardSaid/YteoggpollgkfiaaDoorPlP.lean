/- Moves keep ponds: plain. -/
import Derived.Test.YteoggpollgkfiaaDoorMvs
namespace Go.Proofs.YteoggpollgkfiaaDoor
set_option linter.unusedVariables false
open Go.RowKit
theorem sg_mv {s : ByteArray} {i t j : Nat} (hj : j < s.size) : sg (mvB s i t) j = if t = j then sg s i else if i = j then 46 else sg s j := by
  have hj' : j < s.data.toList.length := by simpa using hj
  have e : (mvB s i t).data.toList = mvL s.data.toList i t := by simp [mvB]
  unfold sg
  rw [e]
  unfold mvL
  rw [List.getD_eq_getElem?_getD, List.getElem?_set]
  by_cases h1 : t = j
  · subst h1
    rw [if_pos rfl, if_pos (by rw [List.length_set]; exact hj'), if_pos rfl]; rfl
  · rw [if_neg h1, if_neg h1, List.getElem?_set]
    by_cases h2 : i = j
    · subst h2
      rw [if_pos rfl, if_pos hj', if_pos rfl]; rfl
    · rw [if_neg h2, if_neg h2, ← List.getD_eq_getElem?_getD]
theorem isPd_mv {s : ByteArray} (h : isPd s = true) {i : Nat} (hi : i < s.size) (t : Nat) : isPd (mvB s i t) = true := by
  obtain ⟨h1, h2, h3⟩ := isPd_in h
  refine isPd_all (by rw [mvB_size]; exact h1) (by rw [mvB_size]; exact h2) fun j hj => ?_
  rw [← sg_get hj]
  have hj' : j < s.size := by rw [mvB_size] at hj; exact hj
  rw [sg_mv hj']
  unfold fsg
  split
  · have := isPd_sg h hi; omega
  · split
    · exact .inr (.inr rfl)
    · have := isPd_sg h hj'; omega
/-- the pond behind a move, wherever it is told -/
def goI (s : ByteArray) (i : Int) : ByteArray := mvB s i.toNat (toI s i).toNat
theorem isPd_goI {s : ByteArray} (h : isPd s = true) {i : Int} (hi : 0 ≤ toI s i) : isPd (goI s i) = true := by
  have := toI_in hi
  exact isPd_mv h (by omega) _
theorem bytes_eq {a b : ByteArray} (h : a.data.toList = b.data.toList) : a = b := by
  apply ByteArray.ext; exact Array.toList_inj.1 h
end Go.Proofs.YteoggpollgkfiaaDoor
