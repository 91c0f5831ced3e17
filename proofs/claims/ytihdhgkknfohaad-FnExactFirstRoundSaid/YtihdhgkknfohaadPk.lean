/- Planks and gaps: which lists they are, which plank spans which gap; impl's and spec's words for it. -/
import Derived.Test.YtihdhgkknfohaadRv
import Derived.Test.YtihdhgkknfohaadSl
namespace Go.Proofs.Ytihdhgkknfohaad
set_option linter.unusedVariables false
open Go.RowKit

def arePl (zs : List Int) : Bool := inB (zs.length : Int) 1 7 && zs.all fun n => inB n 1 100
theorem inB_iff {n lo hi : Int} : inB n lo hi = true ↔ lo ≤ n ∧ n ≤ hi := by simp [inB]
theorem arePl_far {zs : List Int} (h : zs.length < 1 ∨ 7 < zs.length) : arePl zs = false := by
  unfold arePl; rw [inB_no (by omega)]; rfl
theorem all_bad {zs : List Int} {k : Nat} {lo hi : Int} (hk : k < zs.length) (h : inB (gt zs k) lo hi = false) : (zs.all fun n => inB n lo hi) = false := by
  rw [List.all_eq_false]
  exact ⟨_, gt_mem hk, by simp [h]⟩
theorem all_good {zs : List Int} {lo hi : Int} (h : ∀ j, j < zs.length → inB (gt zs j) lo hi = true) : (zs.all fun n => inB n lo hi) = true := by
  rw [List.all_eq_true]
  intro x hx
  obtain ⟨j, hj, rfl⟩ := List.getElem_of_mem hx
  have := h j hj
  have e : gt zs j = zs[j] := by simp [gt, hj]
  rw [e] at this; exact this
theorem arePl_bad {zs : List Int} {k : Nat} (hk : k < zs.length) (h : inB (gt zs k) 1 100 = false) : arePl zs = false := by
  unfold arePl; rw [all_bad hk h, Bool.and_false]
theorem arePl_good {zs : List Int} (h1 : 1 ≤ zs.length) (h2 : zs.length ≤ 7) (h : ∀ j, j < zs.length → inB (gt zs j) 1 100 = true) : arePl zs = true := by
  unfold arePl; rw [all_good h, inB_yes (by omega) (by omega)]; rfl
theorem arePl_in {zs : List Int} (h : arePl zs = true) : 1 ≤ zs.length ∧ zs.length ≤ 7 ∧ ∀ j, j < zs.length → 1 ≤ gt zs j ∧ gt zs j ≤ 100 := by
  unfold arePl at h
  rw [Bool.and_eq_true, inB_iff, List.all_eq_true] at h
  refine ⟨by omega, by omega, fun j hj => ?_⟩
  exact inB_iff.1 (h.2 _ (gt_mem hj))
theorem arePl_any {zs : List Int} (h : arePl zs = true) (j : Nat) : 0 ≤ gt zs j ∧ gt zs j ≤ 100 := by
  by_cases hj : j < zs.length
  · have := (arePl_in h).2.2 j hj; omega
  · have e : gt zs j = 0 := by simp [gt, hj]
    omega
theorem stepB {zs : List Int} {lo hi : Int} {k : Nat} (h : ∀ j, j < k → inB (gt zs j) lo hi = true) (h2 : inB (gt zs k) lo hi = true) : ∀ j, j < k + 1 → inB (gt zs j) lo hi = true := by
  intro j hj
  by_cases e : j = k
  · subst e; exact h2
  · exact h j (by omega)



/-- gaps, planks and a rest -/
def asks (gs ps : List Int) (r : Int) : Bool := arePl gs && arePl ps && inB r 0 10

def spanV (g p r : Int) : Value := if inB g 1 100 && inB p 1 100 && inB r 0 10 then .tuple #[.bool (decide (g + 2 * r ≤ p)), .bool true] else .tuple #[.bool false, .bool false]
theorem spanV_form (g p r : Int) : ∃ x y, spanV g p r = .tuple #[.bool x, .bool y] := by
  unfold spanV; split <;> exact ⟨_, _, rfl⟩
end Go.Proofs.Ytihdhgkknfohaad
