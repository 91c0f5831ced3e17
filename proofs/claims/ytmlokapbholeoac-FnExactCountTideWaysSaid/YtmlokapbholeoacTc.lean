/- Ways counted, plain: how many lead to each place. -/
import Derived.Test.YtmlokapbholeoacTa
namespace Go.Proofs.Ytmlokapbholeoac
set_option linter.unusedVariables false

/-- the sum of i of the numbers f from a place on -/
def sumF (f : Nat → Nat) (lo : Nat) : Nat → Nat
  | 0 => 0
  | i + 1 => sumF f lo i + f (lo + i)
theorem sumF_le {f : Nat → Nat} {lo m : Nat} (hf : ∀ j, f j ≤ m) : ∀ i, sumF f lo i ≤ i * m
  | 0 => by simp [sumF]
  | i + 1 => by have := sumF_le (lo := lo) hf i; have := hf (lo + i); simp only [sumF, Nat.add_mul, Nat.one_mul]; omega
theorem sumF_congr {f g : Nat → Nat} {lo : Nat} : ∀ i, (∀ j, j < i → f (lo + j) = g (lo + j)) → sumF f lo i = sumF g lo i
  | 0, _ => rfl
  | i + 1, h => by simp only [sumF]; rw [sumF_congr i (fun j hj => h j (by omega)), h i (by omega)]
/-- how many ways of k hours lead to a place that are not at the far bank before: from the places from p - L up to p + L, but for the far bank -/
def cw (h t : ByteArray) (L s : Nat) : Nat → Nat → Nat
  | 0, p => if p = 0 then 1 else 0
  | k + 1, p => if dry h t p (s + k + 1) = true then sumF (fun q => if q = h.size + 1 then 0 else cw h t L s k q) (p - L) (cnt h L p) else 0
theorem cw_no {h t : ByteArray} {L s k p : Nat} (g : dry h t p (s + k + 1) = false) : cw h t L s (k + 1) p = 0 := by simp [cw, g]
theorem cw_yes {h t : ByteArray} {L s k p : Nat} (g : dry h t p (s + k + 1) = true) : cw h t L s (k + 1) p = sumF (fun q => if q = h.size + 1 then 0 else cw h t L s k q) (p - L) (cnt h L p) := by simp [cw, g]
/-- up to the far bank, without it -/
def ub (h : ByteArray) (L p : Nat) : Nat := min (p + L) h.size + 1
theorem cw_ub {h t : ByteArray} {L s k p : Nat} (g : dry h t p (s + k + 1) = true) (hp : p ≤ h.size + 1) (hL : 1 ≤ L) : cw h t L s (k + 1) p = sumF (cw h t L s k) (p - L) (ub h L p - (p - L)) := by
  rw [cw_yes g]
  by_cases c : p + L ≤ h.size
  · have e1 : cnt h L p = ub h L p - (p - L) := by unfold cnt ub; omega
    rw [e1]
    refine sumF_congr _ fun j hj => if_neg ?_
    unfold ub at hj; omega
  · have e1 : cnt h L p = ub h L p - (p - L) + 1 := by unfold cnt ub; omega
    have e2 : p - L + (ub h L p - (p - L)) = h.size + 1 := by unfold ub; omega
    rw [e1, sumF, e2, if_pos rfl, Nat.add_zero]
    refine sumF_congr _ fun j hj => if_neg ?_
    unfold ub at hj; omega
theorem cnt_le (h : ByteArray) (L p : Nat) : cnt h L p ≤ h.size + 2 := by unfold cnt; omega
theorem cw_le {h t : ByteArray} {L s : Nat} (hz : h.size ≤ 14) : ∀ k p, cw h t L s k p ≤ 16 ^ k
  | 0, p => by unfold cw; split <;> simp
  | k + 1, p => by
    unfold cw
    split
    · have h1 := sumF_le (f := fun q => if q = h.size + 1 then 0 else cw h t L s k q) (lo := p - L) (m := 16 ^ k) (fun j => by
        by_cases e : j = h.size + 1
        · simp [e]
        · simp only [if_neg e]; exact cw_le hz k j) (cnt h L p)
      have h2 := cnt_le h L p
      have h3 : cnt h L p * 16 ^ k ≤ 16 * 16 ^ k := Nat.mul_le_mul_right _ (by omega)
      rw [Nat.pow_succ]; omega
    · exact Nat.zero_le _
theorem pow_le10 {k : Nat} (h : k ≤ 10) : 16 ^ k ≤ 1099511627776 := by
  have := Nat.pow_le_pow_right (n := 16) (by omega) h
  have e : 16 ^ 10 = 1099511627776 := by decide
  omega
theorem sumF_mono {f : Nat → Nat} {lo : Nat} : ∀ {i j : Nat}, i ≤ j → sumF f lo i ≤ sumF f lo j
  | i, 0, h => by have : i = 0 := by omega
                  subst this; exact Nat.le_refl _
  | i, j + 1, h => by
    by_cases e : i = j + 1
    · subst e; exact Nat.le_refl _
    · have := sumF_mono (f := f) (lo := lo) (show i ≤ j by omega)
      simp only [sumF]; omega
end Go.Proofs.Ytmlokapbholeoac
