/- Plain lists: which places one comes to, by the leaps from one standing place to the next. -/
import Derived.Test.YtfokgobmncbkfabReach
import Derived.Test.YtfokgobmncbkfabCanM
namespace Go.Proofs.Ytfokgobmncbkfab
set_option linter.unusedVariables false

/-- to each standing place up to p one comes by a leap from a standing place near enough -/
def OkTo (s : ByteArray) (l p : Nat) : Prop := ∀ y, 0 < y → y ≤ p → stand s y = true → ∃ x, x < y ∧ y ≤ x + l ∧ stand s x = true

theorem any_drop (bs : List Bool) (lo : Nat) : (bs.drop lo).any id = true ↔ ∃ j, lo ≤ j ∧ j < bs.length ∧ gb bs j = true := by
  rw [List.any_eq_true]
  constructor
  · rintro ⟨x, hx, h⟩
    obtain ⟨i, hi, rfl⟩ := List.getElem_of_mem hx
    simp at hi
    refine ⟨lo + i, by omega, by omega, ?_⟩
    simpa [gb, show lo + i < bs.length from by omega] using h
  · rintro ⟨j, h1, h2, h3⟩
    refine ⟨bs[j], ?_, by simpa [gb, h2] using h3⟩
    rw [List.mem_iff_getElem]
    refine ⟨j - lo, by simp; omega, ?_⟩
    rw [List.getElem_drop]
    congr 1
    omega

theorem rch_ok (s : ByteArray) (l : Nat) : ∀ k p, p ≤ k → (gb (rch s l k) p = true ↔ stand s p = true ∧ OkTo s l p) := by
  intro k
  induction k with
  | zero =>
    intro p hp
    obtain rfl : p = 0 := by omega
    constructor
    · intro _; exact ⟨stand_0 s, fun y h1 h2 => by omega⟩
    · intro _; rfl
  | succ k ih =>
    intro p hp
    rw [show rch s l (k + 1) = rch s l k ++ [stand s (k + 1) && ((rch s l k).drop (k + 1 - l)).any id] from rfl]
    by_cases e : p = k + 1
    · subst e
      have h0 : gb (rch s l k ++ [stand s (k + 1) && ((rch s l k).drop (k + 1 - l)).any id]) (k + 1) = (stand s (k + 1) && ((rch s l k).drop (k + 1 - l)).any id) := by
        have := gb_mid (rch s l k) [] (stand s (k + 1) && ((rch s l k).drop (k + 1 - l)).any id)
        rwa [rch_len] at this
      rw [h0, Bool.and_eq_true, any_drop]
      constructor
      · rintro ⟨h1, j, j1, j2, j3⟩
        rw [rch_len] at j2
        have := (ih j (by omega)).1 j3
        refine ⟨h1, fun y y1 y2 y3 => ?_⟩
        by_cases hy : y ≤ j
        · exact this.2 y y1 hy y3
        · exact ⟨j, by omega, by omega, this.1⟩
      · rintro ⟨h1, h2⟩
        obtain ⟨x, x1, x2, x3⟩ := h2 (k + 1) (by omega) (Nat.le_refl _) h1
        refine ⟨h1, x, by omega, by rw [rch_len]; omega, (ih x (by omega)).2 ⟨x3, fun y y1 y2 y3 => h2 y y1 (by omega) y3⟩⟩
    · rw [gb_left _ _ _ (by rw [rch_len]; omega)]
      exact ih p (by omega)
theorem reaches_ok (s : ByteArray) (l p : Nat) (h : p ≤ s.size + 1) : gb (reaches s l) p = true ↔ stand s p = true ∧ OkTo s l p := rch_ok s l _ p h

/-- the standing place before another one -/
theorem prev_stand (s : ByteArray) : ∀ y, 0 < y → ∃ x, x < y ∧ stand s x = true ∧ ∀ z, x < z → z < y → stand s z = false
  | 0, h => by omega
  | y + 1, _ => ⟨lastTo s y, by have := lastTo_le s y; omega, (lastTo_stand s y).1, fun z h1 h2 => (lastTo_stand s y).2 z h1 (by omega)⟩
theorem not_between {s : ByteArray} {x y z : Nat} (h : ∀ z, x < z → z < y → stand s z = false) (hz : stand s z = true) (h1 : x < z) : y ≤ z := by
  rcases Nat.lt_or_ge z y with h2 | h2
  · rw [h z h1 h2] at hz; cases hz
  · exact h2

theorem okTo_of_from {s : ByteArray} {l : Nat} (h : OkFrom s l (s.size + 1) 0) (p : Nat) (hp : p ≤ s.size + 1) : OkTo s l p := by
  intro y y1 y2 y3
  obtain ⟨x, x1, x2, x3⟩ := prev_stand s y y1
  obtain ⟨z, z1, z2, z3, z4⟩ := h x (Nat.zero_le _) (by omega) x2
  have := not_between x3 z4 z1
  exact ⟨x, x1, by omega, x2⟩
theorem okFrom_of_to {s : ByteArray} {l p : Nat} (hp : p ≤ s.size + 1) (hs : stand s p = true) (h1 : OkTo s l p) (h2 : OkFrom s l (s.size + 1) p) : OkFrom s l (s.size + 1) 0 := by
  intro x _ x2 x3
  by_cases hx : p ≤ x
  · exact h2 x hx x2 x3
  · -- the first standing place behind x
    obtain ⟨y, hy⟩ := strides_all s x x2 x3
    have y1 := strides_lt s _ hy
    have y2 := prTo_next s _ _ hy
    simp only at y1 y2
    have hyp : y ≤ p := not_between y2.2.2 hs (by omega)
    obtain ⟨z, z1, z2, z3⟩ := h1 y (by omega) hyp y2.2.1
    have hzx : z ≤ x := by
      rcases Nat.lt_or_ge x z with h | h
      · have := not_between y2.2.2 z3 h; omega
      · exact h
    exact ⟨y, y1.1, by omega, y1.2, y2.2.1⟩
theorem idle_iff (s : ByteArray) (l p : Nat) (hp : p ≤ s.size + 1) (hs : stand s p = true) : (gb (reaches s l) p = true ∧ 0 ≤ gt (lefts s l) p) ↔ gapLen s (s.size + 1) ≤ l := by
  rw [reaches_ok s l p hp, lefts_ok s l p hp, gap_ok]
  constructor
  · rintro ⟨⟨_, h1⟩, ⟨_, h2⟩⟩; exact okFrom_of_to hp hs h1 h2
  · intro h; exact ⟨⟨hs, okTo_of_from h p hp⟩, ⟨hs, fun x x1 x2 x3 => h x (Nat.zero_le _) x2 x3⟩⟩
end Go.Proofs.Ytfokgobmncbkfab
