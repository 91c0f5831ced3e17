/- Lists told by a function; slices of ints as such; builtin max and min. -/
import Derived.Test.YthdmmliipmmfbabSl
import Derived.Laws.OwnMore
namespace Go.Proofs.Ythdmmliipmmfbab
set_option linter.unusedVariables false
open Go.RowKit

/-- the list of f 0, .., f (N - 1) -/
def fl {α : Type} (N : Nat) (f : Nat → α) : List α := (List.range N).map f
theorem fl_len {α : Type} (N : Nat) (f : Nat → α) : (fl N f).length = N := by simp [fl]
theorem fl_getD {α : Type} {N : Nat} {f : Nat → α} {j : Nat} (h : j < N) (d : α) : (fl N f).getD j d = f j := by simp [fl, h]
theorem fl_gt {N : Nat} {f : Nat → Int} {j : Nat} (h : j < N) : gt (fl N f) j = f j := fl_getD h 0
theorem fl_ext {α : Type} {N : Nat} {f g : Nat → α} (h : ∀ j, j < N → f j = g j) : fl N f = fl N g := by
  unfold fl; exact List.map_congr_left fun j hj => h j (List.mem_range.1 hj)
theorem fl_set {α : Type} {N : Nat} {f : Nat → α} {j : Nat} (x : α) : (fl N f).set j x = fl N (fun i => if i = j then x else f i) := by
  apply List.ext_getElem
  · simp [fl]
  · intro i h1 h2
    simp only [fl, List.length_set, List.length_map, List.length_range] at h1
    simp only [List.getElem_set, fl, List.getElem_map, List.getElem_range]
    by_cases e : j = i
    · simp [e]
    · rw [if_neg e, if_neg (fun c => e c.symm)]
theorem fl_rep {α : Type} (N : Nat) (x : α) : List.replicate N x = fl N (fun _ => x) := by
  apply List.ext_getElem
  · simp [fl]
  · intro i h1 h2; simp [fl]
theorem Ints.at_ {w : World} {B g N cap : Nat} {f : Nat → Int} (h : Ints w B (.slice (some ⟨g, 0, none⟩) N cap) (fl N f)) {j : Nat} (hj : j < N) : w.cell? ⟨g, j, none⟩ = some (.int .i64 (f j)) := by
  have := h.cell (fl_len N f).symm j hj
  rwa [fl_gt hj] at this
theorem Ints.put {w : World} {B g N cap : Nat} {f : Nat → Int} (h : Ints w B (.slice (some ⟨g, 0, none⟩) N cap) (fl N f)) (j : Nat) (x : Int) :
    Ints (w.setCell ⟨g, j, none⟩ (.int .i64 x)) B (.slice (some ⟨g, 0, none⟩) N cap) (fl N (fun i => if i = j then x else f i)) ∧ w.grownBy (w.setCell ⟨g, j, none⟩ (.int .i64 x)) (some g) := by
  have := h.set (fl_len N f).symm j x
  rwa [fl_set] at this
theorem Ints.fr_ {w : World} {B g N cap : Nat} {f : Nat → Int} (h : Ints w B (.slice (some ⟨g, 0, none⟩) N cap) (fl N f)) (j : Nat) : w.frozen? ⟨g, j, none⟩ = false := h.frz (fl_len N f).symm j
end Go.Proofs.Ythdmmliipmmfbab
