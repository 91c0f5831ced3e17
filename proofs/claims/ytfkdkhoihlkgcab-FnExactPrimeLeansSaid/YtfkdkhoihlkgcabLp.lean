/- The whole leans of a plank, told plainly. -/
import Derived.Test.YtfkdkhoihlkgcabCr
namespace Go.Proofs.Ytfkdkhoihlkgcab
set_option linter.unusedVariables false
open Go.RowKit

theorem sq_mono {x y : Int} (h0 : 0 ≤ x) (h : x ≤ y) : x * x ≤ y * y := Int.mul_le_mul h h h0 (by omega)
theorem sq_up (x : Int) : (x + 1) * (x + 1) = x * x + 2 * x + 1 := by rw [Int.add_mul, Int.mul_add]; omega
theorem hgF_at (q : Int) : ∀ (n : Nat) (h : Int), 0 ≤ h → h * h ≤ q → h ≤ hgF q n h ∧ hgF q n h * hgF q n h ≤ q ∧ (q < (hgF q n h + 1) * (hgF q n h + 1) ∨ hgF q n h = h + n)
  | 0, h, _, hq => ⟨Int.le_refl _, hq, .inr (by simp [hgF])⟩
  | n + 1, h, h0, hq => by
    by_cases c : (h + 1) * (h + 1) ≤ q
    · rw [hgF_yes c]
      obtain ⟨i1, i2, i3⟩ := hgF_at q n (h + 1) (by omega) c
      refine ⟨by omega, i2, ?_⟩
      rcases i3 with i3 | i3
      · exact .inl i3
      · exact .inr (by rw [i3]; push_cast; omega)
    · rw [hgF_no c]
      exact ⟨Int.le_refl _, hq, .inl (by omega)⟩
/-- the height, bounded from both sides -/
theorem hgt_at {p a : Int} (hp : 1 ≤ p ∧ p ≤ 200) (ha : 0 ≤ a) : 0 ≤ hgt p a ∧ p * p - a * a < (hgt p a + 1) * (hgt p a + 1) ∧ (a ≤ p → hgt p a * hgt p a ≤ p * p - a * a) ∧ (p < a → hgt p a = 0) := by
  have hpp := sq_mono (show 0 ≤ p by omega) hp.2
  have haa : 0 ≤ a * a := Int.mul_nonneg ha ha
  by_cases h : a ≤ p
  · have hq : 0 * 0 ≤ p * p - a * a := by have := sq_mono ha h; omega
    obtain ⟨i1, i2, i3⟩ := hgF_at (p * p - a * a) 201 0 (Int.le_refl _) hq
    rw [show hgF (p * p - a * a) 201 0 = hgt p a from rfl] at i1 i2 i3
    refine ⟨i1, ?_, fun _ => i2, fun h2 => by omega⟩
    rcases i3 with i3 | i3
    · exact i3
    · rw [i3] at i2
      have : ((0 : Int) + (201 : Nat)) * (0 + (201 : Nat)) = 40401 := by decide
      omega
  · have hlt : p * p < a * a := by
      have h1 := sq_mono (show 0 ≤ p + 1 by omega) (show p + 1 ≤ a by omega)
      rw [sq_up] at h1; omega
    have h0 : hgt p a = 0 := by
      show hgF (p * p - a * a) (200 + 1) 0 = 0
      exact hgF_no (by omega)
    rw [h0]
    exact ⟨by omega, by omega, fun h2 => by omega, fun _ => rfl⟩
/-- what is at most p^2 - a^2 as a square is at most the height -/
theorem hgt_max {p a b : Int} (hp : 1 ≤ p ∧ p ≤ 200) (ha : 0 ≤ a) (h : a * a + b * b ≤ p * p) : b ≤ hgt p a := by
  obtain ⟨i1, i2, _⟩ := hgt_at hp ha
  by_cases hk : b ≤ hgt p a
  · exact hk
  · have := sq_mono (show 0 ≤ hgt p a + 1 by omega) (show hgt p a + 1 ≤ b by omega)
    omega
theorem hgt_next {p a : Int} (hp : 1 ≤ p ∧ p ≤ 200) (ha : 0 ≤ a) : hgt p (a + 1) ≤ hgt p a := by
  obtain ⟨i1, i2, i3, i4⟩ := hgt_at (a := a + 1) hp (by omega)
  by_cases h : a + 1 ≤ p
  · refine hgt_max hp ha ?_
    have h1 := i3 h
    rw [sq_up] at h1
    omega
  · rw [i4 (by omega)]
    exact (hgt_at hp ha).1
theorem hgt_le {p a : Int} (hp : 1 ≤ p ∧ p ≤ 200) (ha : 0 ≤ a) : hgt p a ≤ p := by
  obtain ⟨i1, i2, i3, i4⟩ := hgt_at hp ha
  by_cases h : a ≤ p
  · have h1 := i3 h
    have haa : 0 ≤ a * a := Int.mul_nonneg ha ha
    by_cases hk : hgt p a ≤ p
    · exact hk
    · have := sq_mono (show 0 ≤ p + 1 by omega) (show p + 1 ≤ hgt p a by omega)
      rw [sq_up] at this; omega
  · rw [i4 (by omega)]; omega
def lnB (p a : Int) : Bool := decide (a ≤ hgt p a) && decide (a * a + hgt p a * hgt p a = p * p)
/-- the whole leans from a on, in so many tries -/
def lnF (p : Int) : Nat → Int → List (Int × Int)
  | 0, _ => []
  | n + 1, a => if lnB p a then (a, hgt p a) :: lnF p n (a + 1) else lnF p n (a + 1)
theorem lnF_yes {p a : Int} {n : Nat} (h : lnB p a = true) : lnF p (n + 1) a = (a, hgt p a) :: lnF p n (a + 1) := by simp [lnF, h]
theorem lnF_no {p a : Int} {n : Nat} (h : lnB p a = false) : lnF p (n + 1) a = lnF p n (a + 1) := by simp [lnF, h]
def lns (p : Int) : List (Int × Int) := lnF p 200 1
theorem lnF_end {p : Int} (hp : 1 ≤ p ∧ p ≤ 200) : ∀ (n : Nat) (a : Int), 0 ≤ a → hgt p a < a → lnF p n a = []
  | 0, _, _, _ => rfl
  | n + 1, a, ha, h => by
    rw [lnF_no (by simp only [lnB]; rw [decide_eq_false (by omega)]; rfl)]
    exact lnF_end hp n (a + 1) (by omega) (by have := hgt_next hp ha; omega)
theorem lnF_len (p : Int) : ∀ (n : Nat) (a : Int), (lnF p n a).length ≤ n
  | 0, _ => Nat.le_refl _
  | n + 1, a => by
    have := lnF_len p n (a + 1)
    simp only [lnF]
    split
    · simp; omega
    · omega
theorem lns_len (p : Int) : (lns p).length ≤ 200 := lnF_len p 200 1
end Go.Proofs.Ytfkdkhoihlkgcab
