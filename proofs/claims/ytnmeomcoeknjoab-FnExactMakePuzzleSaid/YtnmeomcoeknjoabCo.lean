/- How many ways lead to a place by so many leaps: plain. -/
import Derived.Test.YtnmeomcoeknjoabStr
namespace Go.Proofs.Ytnmeomcoeknjoab
set_option linter.unusedVariables false
set_option maxRecDepth 100000
open Go.RowKit

/-- n terms of g from a on -/
def sumN (g : Nat → Nat) (a : Nat) : Nat → Nat
  | 0 => 0
  | n + 1 => sumN g a n + g (a + n)
theorem sumN_s (g : Nat → Nat) (a n : Nat) : sumN g a (n + 1) = sumN g a n + g (a + n) := rfl
theorem sumN_congr {g g' : Nat → Nat} {a : Nat} : ∀ {n : Nat}, (∀ i, i < n → g (a + i) = g' (a + i)) → sumN g a n = sumN g' a n
  | 0, _ => rfl
  | n + 1, h => by rw [sumN_s, sumN_s, sumN_congr fun i hi => h i (by omega), h n (by omega)]
theorem sumN_mono {g : Nat → Nat} {a n m : Nat} (h : n ≤ m) : sumN g a n ≤ sumN g a m := by
  induction m with
  | zero => have : n = 0 := by omega
            subst this; exact Nat.le_refl _
  | succ m ih =>
    rcases Nat.lt_or_eq_of_le h with h1 | rfl
    · have := ih (by omega); rw [sumN_s]; omega
    · exact Nat.le_refl _
theorem sumN_pow {g : Nat → Nat} {a : Nat} : ∀ {n : Nat}, (∀ i, i < n → g (a + i) ≤ 2 ^ (a + i)) → sumN g a n + 2 ^ a ≤ 2 ^ (a + n)
  | 0, _ => by simp [sumN]
  | n + 1, h => by
    have h1 := sumN_pow (n := n) fun i hi => h i (by omega)
    have h2 := h n (by omega)
    have e : 2 ^ (a + (n + 1)) = 2 ^ (a + n) * 2 := by rw [← Nat.add_assoc, Nat.pow_succ]
    rw [sumN_s, e]; omega
/-- by how many ways one comes to place p by k leaps -/
def waysK (s : ByteArray) (L : Nat) : Nat → Nat → Nat
  | 0, p => if p = 0 then 1 else 0
  | k + 1, p => if stand s p = true ∧ 0 < p then sumN (waysK s L k) (p - L) (p - (p - L)) else 0
theorem waysK_le (s : ByteArray) (L : Nat) : ∀ (k p : Nat), waysK s L k p ≤ 2 ^ p
  | 0, p => by
    unfold waysK
    split
    · exact Nat.one_le_two_pow
    · exact Nat.zero_le _
  | k + 1, p => by
    unfold waysK
    split
    · have := sumN_pow (g := waysK s L k) (a := p - L) (n := p - (p - L)) fun i _ => waysK_le s L k _
      rw [show p - L + (p - (p - L)) = p by omega] at this
      exact Nat.le_trans (Nat.le_add_right _ _) this
    · exact Nat.zero_le _
theorem waysK_zero (s : ByteArray) (L : Nat) : ∀ (k p : Nat), p < k → waysK s L k p = 0
  | 0, p, h => absurd h (Nat.not_lt_zero _)
  | k + 1, p, h => by
    unfold waysK
    split
    · have : ∀ n, n ≤ p - (p - L) → sumN (waysK s L k) (p - L) n = 0 := by
        intro n
        induction n with
        | zero => intro _; rfl
        | succ n ih =>
          intro hn
          rw [sumN_s, ih (by omega), waysK_zero s L k _ (by omega)]
      exact this _ (Nat.le_refl _)
    · rfl
theorem waysK_big {s : ByteArray} {L k p : Nat} (hp : p ≤ 41) : waysK s L k p ≤ 2199023255552 :=
  Nat.le_trans (waysK_le s L k p) (Nat.le_trans (Nat.pow_le_pow_right (by decide) hp) (by decide))
/-- the sum over the first k numbers of leaps -/
def sumK (s : ByteArray) (L p : Nat) (k : Nat) : Nat := sumN (fun j => waysK s L j p) 0 k
theorem sumK_big {s : ByteArray} {L p : Nat} (hp : p ≤ 41) : ∀ k, sumK s L p k ≤ 2199023255552 * k
  | 0 => Nat.zero_le _
  | k + 1 => by
    have h1 := sumK_big (s := s) (L := L) hp k
    have h2 := waysK_big (s := s) (L := L) (k := 0 + k) hp
    unfold sumK at h1 ⊢
    rw [sumN_s]
    have e : 2199023255552 * (k + 1) = 2199023255552 * k + 2199023255552 := by omega
    omega
theorem sumK_end {s : ByteArray} {L p n m : Nat} (hn : p < n) (h : n ≤ m) : sumK s L p m = sumK s L p n := by
  induction m with
  | zero => have : n = 0 := by omega
            subst this; rfl
  | succ m ih =>
    rcases Nat.lt_or_eq_of_le h with h1 | rfl
    · have := ih (by omega)
      unfold sumK at this ⊢
      rw [sumN_s, this]
      have : waysK s L (0 + m) p = 0 := waysK_zero s L _ p (by omega)
      omega
    · rfl
theorem prTo_mem (s : ByteArray) : ∀ (k p : Nat), (∃ q ∈ prTo s k, q.2 = p) ↔ 0 < p ∧ p ≤ k ∧ stand s p = true
  | 0, p => by simp [prTo]; omega
  | k + 1, p => by
    have ih := prTo_mem s k p
    cases h : stand s (k + 1)
    · rw [prTo_no h, ih]
      constructor
      · rintro ⟨h1, h2, h3⟩; exact ⟨h1, by omega, h3⟩
      · rintro ⟨h1, h2, h3⟩
        refine ⟨h1, ?_, h3⟩
        by_cases e : p = k + 1
        · subst e; rw [h] at h3; cases h3
        · omega
    · rw [prTo_yes h]
      constructor
      · rintro ⟨q, hq, rfl⟩
        rcases List.mem_append.1 hq with h1 | h1
        · have := ih.1 ⟨q, h1, rfl⟩; exact ⟨this.1, by omega, this.2.2⟩
        · have : q = (lastTo s k, k + 1) := by simpa using h1
          subst this; exact ⟨by simp, Nat.le_refl _, h⟩
      · rintro ⟨h1, h2, h3⟩
        by_cases e : p = k + 1
        · subst e; exact ⟨(lastTo s k, k + 1), List.mem_append_right _ (by simp), rfl⟩
        · obtain ⟨q, hq, e2⟩ := ih.2 ⟨h1, by omega, h3⟩
          exact ⟨q, List.mem_append_left _ hq, e2⟩
theorem prTo_rise (s : ByteArray) : ∀ (k : Nat), ((prTo s k).map (·.2)).Pairwise (· < ·)
  | 0 => by simp [prTo]
  | k + 1 => by
    have ih := prTo_rise s k
    cases h : stand s (k + 1)
    · rw [prTo_no h]; exact ih
    · rw [prTo_yes h, List.map_append, List.pairwise_append]
      refine ⟨ih, by simp, ?_⟩
      intro a ha b hb
      obtain ⟨q, hq, rfl⟩ := List.mem_map.1 ha
      have h1 := prTo_lt s k q hq
      have : b = k + 1 := by simpa using hb
      omega
/-- what waysOneLeapOn has when the first j strides are done -/
def onTo (l : List (Nat × Nat)) (V : Nat → Nat) (j : Nat) (p : Nat) : Nat := if p ∈ (l.take j).map (·.2) then V p else 0
theorem onTo_0 (l : List (Nat × Nat)) (V : Nat → Nat) : onTo l V 0 = fun _ => 0 := by funext p; simp [onTo]
theorem onTo_new {l : List (Nat × Nat)} {V : Nat → Nat} {j : Nat} (hl : (l.map (·.2)).Pairwise (· < ·)) (hj : j < l.length) : onTo l V j (l.getD j (0, 0)).2 = 0 := by
  unfold onTo
  rw [if_neg]
  intro h
  obtain ⟨q, hq, e⟩ := List.mem_map.1 h
  obtain ⟨i, hi, rfl⟩ := List.getElem_of_mem hq
  have hi2 : i < j := by rw [List.length_take] at hi; omega
  rw [List.getElem_take] at e
  have := List.pairwise_iff_getElem.1 hl i j (by simp; omega) (by simpa using hj) hi2
  rw [List.getD_eq_getElem?_getD, List.getElem?_eq_getElem hj] at e
  simp at this e
  omega
theorem onTo_s {l : List (Nat × Nat)} {V : Nat → Nat} {j : Nat} (hj : j < l.length) : onTo l V (j + 1) = fun p => if p = (l.getD j (0, 0)).2 then V (l.getD j (0, 0)).2 else onTo l V j p := by
  funext p
  unfold onTo
  rw [List.take_succ_eq_append_getElem hj, List.map_append]
  have e : l.getD j (0, 0) = l[j] := by rw [List.getD_eq_getElem?_getD, List.getElem?_eq_getElem hj]; rfl
  rw [e]
  by_cases h : p = l[j].2
  · subst h; simp
  · rw [if_neg h]
    congr 1
    simp [h]
theorem onTo_end {s : ByteArray} {L k : Nat} : onTo (strides s) (fun p => sumN (waysK s L k) (p - L) (p - (p - L))) (strides s).length = waysK s L (k + 1) := by
  funext p
  unfold onTo
  rw [List.take_length]
  show _ = if stand s p = true ∧ 0 < p then _ else _
  have h := prTo_mem s (s.size + 1) p
  by_cases hp : stand s p = true ∧ 0 < p
  · rw [if_pos hp, if_pos]
    by_cases h2 : p ≤ s.size + 1
    · obtain ⟨q, hq, e⟩ := h.2 ⟨hp.2, h2, hp.1⟩
      exact List.mem_map.2 ⟨q, hq, e⟩
    · exfalso
      have := hp.1
      unfold stand at this
      have h3 : stn s p = false := stn_out (.inr (by omega))
      rw [h3] at this
      simp at this
      omega
  · rw [if_neg hp, if_neg]
    intro hm
    obtain ⟨q, hq, e⟩ := List.mem_map.1 hm
    have := h.1 ⟨q, hq, e⟩
    exact hp ⟨this.2.2, this.1⟩
end Go.Proofs.Ytnmeomcoeknjoab
