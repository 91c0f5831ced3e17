/- Strong rivers, plain: digits, sums of parts, the narrowest part. -/
import Derived.Test.YtmlokapbholeoacRows
import Derived.Lib.Hide
namespace Go.Proofs.Ytmlokapbholeoac
set_option linter.unusedVariables false

def dgC (c : UInt8) : Bool := decide (48 ≤ c.toNat) && decide (c.toNat ≤ 57)
/-- only digits -/
def AllD (s : ByteArray) : Prop := ∀ j, (h : j < s.size) → 48 ≤ s[j].toNat ∧ s[j].toNat ≤ 57
def isSt (s : ByteArray) : Bool := decide (1 ≤ s.size) && decide (s.size ≤ 20) && s.data.toList.all dgC
theorem isSt_out {s : ByteArray} (h : s.size < 1 ∨ 20 < s.size) : isSt s = false := by
  rcases h with h | h <;> simp [isSt] <;> omega
theorem isSt_bad {s : ByteArray} {k : Nat} (hk : k < s.size) (h : s[k].toNat < 48 ∨ 57 < s[k].toNat) : isSt s = false := by
  have : s.data.toList.all dgC = false := by
    rw [List.all_eq_false]
    refine ⟨s[k], ?_, ?_⟩
    · have : s[k] = s.data.toList[k]'(by simpa using hk) := rfl
      rw [this]; exact List.getElem_mem _
    · simp [dgC]; omega
  simp [isSt, this]
theorem isSt_all {s : ByteArray} (h1 : 1 ≤ s.size) (h2 : s.size ≤ 20) (h : AllD s) : isSt s = true := by
  have : s.data.toList.all dgC = true := by
    rw [List.all_eq_true]
    intro x hx
    obtain ⟨j, hj, rfl⟩ := List.getElem_of_mem hx
    have hj' : j < s.size := by simpa using hj
    have e : s.data.toList[j] = s[j] := rfl
    have := h j hj'
    simp [dgC, e, this]
  simp [isSt, this, h1, h2]
theorem isSt_in {s : ByteArray} (h : isSt s = true) : 1 ≤ s.size ∧ s.size ≤ 20 ∧ AllD s := by
  simp only [isSt, Bool.and_eq_true, decide_eq_true_eq, List.all_eq_true] at h
  refine ⟨h.1.1, h.1.2, fun j hj => ?_⟩
  have := h.2 s[j] (by
    have : s[j] = s.data.toList[j]'(by simpa using hj) := rfl
    rw [this]; exact List.getElem_mem _)
  simpa [dgC] using this

/-- the digit at an index, as a number -/
def dD (s : ByteArray) (j : Nat) : Nat := (s.data.toList.getD j 48).toNat - 48
theorem dD_at {s : ByteArray} {j : Nat} (h : j < s.size) : dD s j = s[j].toNat - 48 := by
  have e : s[j] = s.data.toList[j]'(by simpa using h) := rfl
  unfold dD; rw [e, List.getD_eq_getElem?_getD, List.getElem?_eq_getElem (by simpa using h)]; rfl
theorem dD_off {s : ByteArray} {j : Nat} (h : s.size ≤ j) : dD s j = 0 := by
  unfold dD; rw [List.getD_eq_getElem?_getD, List.getElem?_eq_none (by simpa using h)]; rfl
theorem dD_byte {s : ByteArray} (hd : AllD s) {j : Nat} (h : j < s.size) : s[j].toNat = 48 + dD s j := by
  have := hd j h; rw [dD_at h]; omega
theorem dD_le {s : ByteArray} (hd : AllD s) (j : Nat) : dD s j ≤ 9 := by
  by_cases h : j < s.size
  · have := hd j h; rw [dD_at h]; omega
  · rw [dD_off (by omega)]; omega
/-- the sum of n digits from an index on -/
def sumD (s : ByteArray) (i : Nat) : Nat → Nat
  | 0 => 0
  | n + 1 => sumD s i n + dD s (i + n)
theorem sumD_le {s : ByteArray} (hd : AllD s) (i : Nat) : ∀ n, sumD s i n ≤ 9 * n
  | 0 => Nat.le_refl _
  | n + 1 => by have := sumD_le hd i n; have := dD_le hd (i + n); simp only [sumD]; omega
theorem sumD_congr {s t : ByteArray} {i k : Nat} : ∀ n, (∀ j, j < n → dD s (i + j) = dD t (k + j)) → sumD s i n = sumD t k n
  | 0, _ => rfl
  | n + 1, h => by simp only [sumD]; rw [sumD_congr n (fun j hj => h j (by omega)), h n (by omega)]
theorem ext_size {s : ByteArray} {i l : Nat} (h : i + l ≤ s.size) : (s.extract i (i + l)).size = l := by simp; omega
theorem ext_at {s : ByteArray} {i l j : Nat} (h : i + l ≤ s.size) (hj : j < l) (h2 : j < (s.extract i (i + l)).size) (h3 : i + j < s.size) : (s.extract i (i + l))[j] = s[i + j] := by
  have e1 : (s.extract i (i + l))[j] = (s.extract i (i + l)).data[j]'h2 := rfl
  have e2 : s[i + j] = s.data[i + j]'h3 := rfl
  rw [e1, e2]; simp only [ByteArray.data_extract, Array.getElem_extract]
theorem ext_AllD {s : ByteArray} (hd : AllD s) {i l : Nat} (h : i + l ≤ s.size) : AllD (s.extract i (i + l)) := by
  intro j hj
  have hz := ext_size h
  have e := ext_at h (by omega) hj (by omega)
  rw [e]; exact hd _ (by omega)
theorem ext_dD {s : ByteArray} {i l j : Nat} (h : i + l ≤ s.size) (hj : j < l) : dD (s.extract i (i + l)) j = dD s (i + j) := by
  have hz := ext_size h
  rw [dD_at (by omega), dD_at (by omega), ext_at h hj (by omega) (by omega)]
theorem ext_sum {s : ByteArray} {i l : Nat} (h : i + l ≤ s.size) : sumD (s.extract i (i + l)) 0 l = sumD s i l :=
  sumD_congr l fun j hj => by rw [Nat.zero_add, ext_dD h hj]

/-- one part more is looked at -/
def nfS (b : Int × Nat) (p k : Nat) : Int × Nat := if b.1 < 0 ∨ (p : Int) < b.1 then ((p : Int), k + 1) else b
/-- the narrowest of the first k parts of l places: its sum and its first place; (-1, 0): none -/
def nf (s : ByteArray) (l : Nat) : Nat → Int × Nat
  | 0 => (-1, 0)
  | k + 1 => nfS (nf s l k) (sumD s k l) k
theorem nf_yes {s : ByteArray} {l k : Nat} (h : (nf s l k).1 < 0 ∨ (sumD s k l : Int) < (nf s l k).1) : nf s l (k + 1) = ((sumD s k l : Int), k + 1) := by
  show nfS _ _ _ = _; unfold nfS; rw [if_pos h]
theorem nf_no {s : ByteArray} {l k : Nat} (h : ¬ ((nf s l k).1 < 0 ∨ (sumD s k l : Int) < (nf s l k).1)) : nf s l (k + 1) = nf s l k := by
  show nfS _ _ _ = _; unfold nfS; rw [if_neg h]
theorem nf_one (s : ByteArray) (l : Nat) : ∀ k, 0 < k → ∃ i, i < k ∧ nf s l k = ((sumD s i l : Int), i + 1)
  | 0, h => absurd h (Nat.lt_irrefl _)
  | k + 1, _ => by
    by_cases h : (nf s l k).1 < 0 ∨ (sumD s k l : Int) < (nf s l k).1
    · exact ⟨k, by omega, nf_yes h⟩
    · rw [nf_no h]
      by_cases h0 : 0 < k
      · obtain ⟨i, hi, e⟩ := nf_one s l k h0; exact ⟨i, by omega, e⟩
      · obtain rfl : k = 0 := by omega
        exact absurd (.inl (by simp [nf])) h
theorem nf_small {s : ByteArray} (hd : AllD s) (l k : Nat) : -1 ≤ (nf s l k).1 ∧ (nf s l k).1 ≤ 9 * l ∧ (nf s l k).2 ≤ k ∧ ((nf s l k).2 = 0 ↔ (nf s l k).1 = -1) := by
  by_cases h0 : 0 < k
  · obtain ⟨i, hi, e⟩ := nf_one s l k h0
    have := sumD_le hd i l
    rw [e]; dsimp only; omega
  · obtain rfl : k = 0 := by omega
    simp [nf]; omega
/-- the narrowest part of l places of a river -/
def nar (s : ByteArray) (l : Nat) : Int × Nat := nf s l (s.size + 1 - l)
theorem nar_in {s : ByteArray} (hd : AllD s) {l : Nat} (h : l ≤ s.size) : 0 ≤ (nar s l).1 ∧ (nar s l).1 ≤ 9 * l ∧ 1 ≤ (nar s l).2 ∧ (nar s l).2 ≤ s.size + 1 - l := by
  obtain ⟨i, hi, e⟩ := nf_one s l (s.size + 1 - l) (by omega)
  have := sumD_le hd i l
  unfold nar; rw [e]; dsimp only; omega
theorem nar_off {s : ByteArray} {l : Nat} (h : s.size < l) : nar s l = (-1, 0) := by
  unfold nar; rw [show s.size + 1 - l = 0 from by omega]; rfl
end Go.Proofs.Ytmlokapbholeoac
