/- stride.length, impl.longestStride. -/
import Derived.Test.YtimbpfenpbkckabStr
import Derived.Deep.RegionHeld3
import Derived.Test.YtimbpfenpbkckabBox
namespace Go.Proofs.Ytimbpfenpbkckab
set_option linter.unusedVariables false
open Go.RowKit

theorem length (a b : Nat) (w : World) (ha : a ≤ 1000) (hb : b ≤ 1000) :
    Calls Try.prog 66 #[.agg #[.int .i64 a, .int .i64 b]] w fun e w' => e = .returned (.int .i64 ((b : Int) - a)) ∧ w.alloc (.cells #[.int .i64 a, .int .i64 b] 60) = w' := by
  go_enter Try.func66, Try.ntmps66
  go_wp2
  go_ret
  exact ⟨rfl, rfl⟩

theorem lg_take {l : List (Nat × Nat)} {j : Nat} (h : j < l.length) : lg (l.take (j + 1)) = lgStep (lg (l.take j)) (l.getD j (0, 0)) := by
  rw [List.take_succ_eq_append_getElem h, lg_snoc]; simp [h]
theorem lgStep_yes {b p : Nat × Nat} (h : b.2 - b.1 < p.2 - p.1) : lgStep b p = p := by simp [lgStep, h]
theorem lgStep_no {b p : Nat × Nat} (h : ¬ b.2 - b.1 < p.2 - p.1) : lgStep b p = b := by simp [lgStep, h]
theorem take_lt {l : List (Nat × Nat)} {m : Nat} (h : ∀ p ∈ l, p.1 < p.2 ∧ p.2 ≤ m) (j : Nat) : (lg (l.take j)).1 ≤ (lg (l.take j)).2 ∧ (lg (l.take j)).2 ≤ m :=
  lg_mem _ m fun p hp => h p (List.mem_of_mem_take hp)
theorem getD_lt {l : List (Nat × Nat)} {m : Nat} (h : ∀ p ∈ l, p.1 < p.2 ∧ p.2 ≤ m) {j : Nat} (hj : j < l.length) : (l.getD j (0, 0)).1 < (l.getD j (0, 0)).2 ∧ (l.getD j (0, 0)).2 ≤ m := by
  have e : l.getD j (0, 0) = l[j] := by simp [hj]
  rw [e]; exact h _ (List.getElem_mem _)

end Go.Proofs.Ytimbpfenpbkckab
