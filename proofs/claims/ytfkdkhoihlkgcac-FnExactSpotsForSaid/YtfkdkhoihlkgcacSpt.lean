/- Spots, plain: all for a first plank, by columns. -/
import Derived.Test.YtfkdkhoihlkgcacCd
namespace Go.Proofs.Ytfkdkhoihlkgcac
set_option linter.unusedVariables false
open Go.RowKit

/-- the spots of a column from b on, in so many tries -/
def colF (p a : Int) : Nat → Int → List (Int × Int)
  | 0, _ => []
  | n + 1, b => if a * a + b * b ≤ p * p then (a, b) :: colF p a n (b + 1) else []
theorem colF_yes {p a b : Int} {n : Nat} (h : a * a + b * b ≤ p * p) : colF p a (n + 1) b = (a, b) :: colF p a n (b + 1) := by simp [colF, h]
theorem colF_no {p a b : Int} {n : Nat} (h : ¬ a * a + b * b ≤ p * p) : colF p a n b = [] := by
  cases n with
  | zero => rfl
  | succ n => simp only [colF]; rw [if_neg h]
/-- the spots of the columns from a on -/
def rowF (p : Int) : Nat → Int → List (Int × Int)
  | 0, _ => []
  | n + 1, a => if a < p then colF p a 201 1 ++ rowF p n (a + 1) else []
theorem rowF_yes {p a : Int} {n : Nat} (h : a < p) : rowF p (n + 1) a = colF p a 201 1 ++ rowF p n (a + 1) := by simp only [rowF]; rw [if_pos h]
theorem rowF_no {p a : Int} {n : Nat} (h : ¬ a < p) : rowF p n a = [] := by
  cases n with
  | zero => rfl
  | succ n => simp only [rowF]; rw [if_neg h]
def spots (p : Int) : List (Int × Int) := rowF p 201 1
theorem colF_len (p a : Int) : ∀ (n : Nat) (b : Int), (colF p a n b).length ≤ n
  | 0, _ => Nat.le_refl _
  | n + 1, b => by
    by_cases h : a * a + b * b ≤ p * p
    · rw [colF_yes h]; have := colF_len p a n (b + 1); simp; omega
    · rw [colF_no h]; simp
theorem rowF_len (p : Int) : ∀ (n : Nat) (a : Int), (rowF p n a).length ≤ 201 * n
  | 0, _ => Nat.le_refl _
  | n + 1, a => by
    by_cases h : a < p
    · rw [rowF_yes h, List.length_append]; have := rowF_len p n (a + 1); have := colF_len p a 201 1; omega
    · rw [rowF_no h]; simp
theorem spots_len (p : Int) : (spots p).length ≤ 40401 := rowF_len p 201 1
/-- a spot of planks so long -/
def Sp1 (p : Int) (x : Int × Int) : Prop := 1 ≤ x.1 ∧ x.1 < p ∧ 1 ≤ x.2 ∧ x.1 * x.1 + x.2 * x.2 ≤ p * p
theorem colF_in {p a : Int} : ∀ (n : Nat) (b : Int), 1 ≤ a → a < p → 1 ≤ b → ∀ x ∈ colF p a n b, Sp1 p x
  | 0, _, _, _, _, x, hx => by cases hx
  | n + 1, b, h1, h2, h3, x, hx => by
    by_cases h : a * a + b * b ≤ p * p
    · rw [colF_yes h] at hx
      rcases List.mem_cons.1 hx with rfl | hx
      · exact ⟨h1, h2, h3, h⟩
      · exact colF_in n (b + 1) h1 h2 (by omega) x hx
    · rw [colF_no h] at hx; cases hx
theorem rowF_in {p : Int} : ∀ (n : Nat) (a : Int), 1 ≤ a → ∀ x ∈ rowF p n a, Sp1 p x
  | 0, _, _, x, hx => by cases hx
  | n + 1, a, h1, x, hx => by
    by_cases h : a < p
    · rw [rowF_yes h] at hx
      rcases List.mem_append.1 hx with hx | hx
      · exact colF_in _ _ h1 h (Int.le_refl _) x hx
      · exact rowF_in n (a + 1) (by omega) x hx
    · rw [rowF_no h] at hx; cases hx
theorem spots_in {p : Int} {x : Int × Int} (h : x ∈ spots p) : Sp1 p x := rowF_in _ _ (Int.le_refl _) x h
theorem sq_lt {b p : Int} (hp : 1 ≤ p) (h : b * b ≤ p * p) : b ≤ p := by
  by_cases hb : b ≤ p
  · exact hb
  · have h2 : (p + 1) * (p + 1) ≤ b * b := Int.mul_le_mul (by omega) (by omega) (by omega) (by omega)
    have e : (p + 1) * (p + 1) = p * p + 2 * p + 1 := by rw [Int.add_mul, Int.mul_add]; omega
    omega
theorem Sp1.bd {p : Int} {x : Int × Int} (hp : 1 ≤ p ∧ p ≤ 200) (h : Sp1 p x) : (1 ≤ x.1 ∧ x.1 ≤ 200) ∧ 1 ≤ x.2 ∧ x.2 ≤ 200 := by
  obtain ⟨h1, h2, h3, h4⟩ := h
  have := sq_bd (d := x.1) (m := 200) (by omega) (by omega)
  have := sq_lt hp.1 (show x.2 * x.2 ≤ p * p by omega)
  omega
theorem pre_mem {xs pre : List (Int × Int)} {x : Int × Int} (h : pre ++ [x] <+: xs) : x ∈ xs := h.subset (by simp)
theorem pre_len {xs pre : List (Int × Int)} {x : Int × Int} (h : pre ++ [x] <+: xs) : pre.length < xs.length := by
  have := h.length_le; simp at this; omega
end Go.Proofs.Ytfkdkhoihlkgcac
