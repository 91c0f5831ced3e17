/- The least numbers of leaps to the far bank, as a list: plain lists; and impl.oneMoreThanLeast. -/
import Derived.Test.YtfokgobmncbkfabSl
import Derived.Test.YtfokgobmncbkfabStand
namespace Go.Proofs.Ytfokgobmncbkfab
set_option linter.unusedVariables false
open Go.RowKit

def omStep (a n : Int) : Int := if 0 ≤ n ∧ (a < 0 ∨ n + 1 < a) then n + 1 else a
theorem omStep_yes {a n : Int} (h : 0 ≤ n) (h' : a < 0 ∨ n + 1 < a) : omStep a n = n + 1 := by simp [omStep, h, h']
theorem omStep_no {a n : Int} (h : n < 0 ∨ (0 ≤ a ∧ a ≤ n + 1)) : omStep a n = a := by
  have : ¬ (0 ≤ n ∧ (a < 0 ∨ n + 1 < a)) := by omega
  simp [omStep, this]
/-- 1 more than the least of the numbers that are not negative, or -1 -/
def oml (l : List Int) : Int := l.foldl omStep (-1)
theorem oml_take (l : List Int) (j : Nat) (h : j < l.length) : oml (l.take (j + 1)) = omStep (oml (l.take j)) (gt l j) := by
  unfold oml
  rw [List.take_succ_eq_append_getElem h, List.foldl_append]
  simp [gt, h]
theorem oml_0 (l : List Int) : oml (l.take 0) = -1 := by simp [oml]

/-- numbers of leaps: small -/
def Small (l : List Int) (m : Int) : Prop := ∀ j, -1 ≤ gt l j ∧ gt l j ≤ m
theorem gt_nil (j : Nat) : gt [] j = 0 := by simp [gt]
theorem gt_out {l : List Int} {j : Nat} (h : l.length ≤ j) : gt l j = 0 := by simp [gt, List.getElem?_eq_none h]
theorem oml_small {l : List Int} {m : Int} (h : Small l m) (hm : 0 ≤ m) : ∀ j, -1 ≤ oml (l.take j) ∧ oml (l.take j) ≤ m + 1
  | 0 => by rw [oml_0]; omega
  | j + 1 => by
    have ih := oml_small h hm j
    by_cases hj : j < l.length
    · rw [oml_take l j hj]
      have := h j
      unfold omStep
      split <;> omega
    · rw [List.take_of_length_le (by omega)]
      rw [List.take_of_length_le (by omega)] at ih
      exact ih

/-- what LeapsLeft has at the last k + 1 places -/
def lvl (s : ByteArray) (L : Nat) (far : Nat) : Nat → List Int
  | 0 => [0]
  | k + 1 => (if stand s (far - (k + 1)) then oml ((lvl s L far k).take L) else -1) :: lvl s L far k
theorem lvl_len (s : ByteArray) (L far k : Nat) : (lvl s L far k).length = k + 1 := by
  induction k with
  | zero => rfl
  | succ k ih => simp [lvl, ih]
theorem gt_cons (x : Int) (l : List Int) (j : Nat) : gt (x :: l) j = if j = 0 then x else gt l (j - 1) := by
  cases j <;> simp [gt]
theorem lvl_small (s : ByteArray) (L far k : Nat) : Small (lvl s L far k) k := by
  induction k with
  | zero => intro j; simp only [lvl, gt_cons]; split <;> simp [gt]
  | succ k ih =>
    intro j
    have := oml_small ih (by omega) L
    simp only [lvl, gt_cons]
    split
    · split <;> omega
    · have := ih (j - 1); omega
theorem lvl_yes {s : ByteArray} {L far k : Nat} (h : stand s (far - (k + 1)) = true) : lvl s L far (k + 1) = oml ((lvl s L far k).take L) :: lvl s L far k := by simp [lvl, h]
theorem lvl_no {s : ByteArray} {L far k : Nat} (h : stand s (far - (k + 1)) = false) : lvl s L far (k + 1) = -1 :: lvl s L far k := by simp [lvl, h]
def lefts (s : ByteArray) (L : Nat) : List Int := lvl s L (s.size + 1) (s.size + 1)

end Go.Proofs.Ytfokgobmncbkfab
