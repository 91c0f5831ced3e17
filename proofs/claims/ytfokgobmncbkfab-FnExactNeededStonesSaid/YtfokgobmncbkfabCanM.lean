/- Plain lists: there is a way from a place on just if from each standing place on the way there is one near enough; the longest gap tells it. -/
import Derived.Test.YtfokgobmncbkfabLv
import Derived.Test.YtfokgobmncbkfabStr
namespace Go.Proofs.Ytfokgobmncbkfab
set_option linter.unusedVariables false

/-- from each standing place from p on there is one near enough farther on -/
def OkFrom (s : ByteArray) (l far p : Nat) : Prop := ∀ x, p ≤ x → x < far → stand s x = true → ∃ y, x < y ∧ y ≤ x + l ∧ y ≤ far ∧ stand s y = true

theorem oml_nonneg (l : List Int) : 0 ≤ oml l ↔ ∃ j, j < l.length ∧ 0 ≤ gt l j := by
  have key : ∀ n, n ≤ l.length → (0 ≤ oml (l.take n) ↔ ∃ j, j < n ∧ 0 ≤ gt l j) := by
    intro n
    induction n with
    | zero => intro _; rw [oml_0]; simp
    | succ n ih =>
      intro hn
      have ih := ih (by omega)
      rw [oml_take l n (by omega)]
      by_cases h : 0 ≤ gt l n
      · constructor
        · intro _; exact ⟨n, by omega, h⟩
        · intro _; unfold omStep; split <;> omega
      · rw [omStep_no (.inl (by omega)), ih]
        constructor
        · rintro ⟨j, hj, h2⟩; exact ⟨j, by omega, h2⟩
        · rintro ⟨j, hj, h2⟩
          refine ⟨j, ?_, h2⟩
          by_cases e : j = n
          · subst e; contradiction
          · omega
  have := key l.length (Nat.le_refl _)
  rwa [List.take_length] at this

theorem gt_take (l : List Int) (m j : Nat) (h : j < m) : gt (l.take m) j = gt l j := by simp [gt, h]

theorem lvl_ok (s : ByteArray) (l far : Nat) (hf : stand s far = true) : ∀ k, k ≤ far → ∀ j, j ≤ k → (0 ≤ gt (lvl s l far k) j ↔ stand s (far - k + j) = true ∧ OkFrom s l far (far - k + j)) := by
  intro k
  induction k with
  | zero =>
    intro _ j hj
    obtain rfl : j = 0 := by omega
    simp only [lvl, Nat.sub_zero, Nat.add_zero]
    constructor
    · intro _; exact ⟨hf, fun x h1 h2 => by omega⟩
    · intro _; simp [gt]
  | succ k ih =>
    intro hk j hj
    have ih := ih (by omega)
    rcases j with _ | j
    · rw [Nat.add_zero]
      cases hst : stand s (far - (k + 1))
      · rw [lvl_no hst]
        simp [gt]
      · rw [lvl_yes hst, gt_cons, if_pos rfl, oml_nonneg]
        have hlen : ((lvl s l far k).take l).length = min l (k + 1) := by simp [lvl_len]
        constructor
        · rintro ⟨j, hj, h2⟩
          rw [hlen] at hj
          rw [gt_take _ _ _ (by omega), ih j (by omega)] at h2
          refine ⟨rfl, fun x h3 h4 h5 => ?_⟩
          by_cases hx : x < far - k + j
          · exact ⟨far - k + j, hx, by omega, by omega, h2.1⟩
          · exact h2.2 x (by omega) h4 h5
        · rintro ⟨_, h2⟩
          obtain ⟨y, y1, y2, y3, y4⟩ := h2 (far - (k + 1)) (Nat.le_refl _) (by omega) hst
          refine ⟨y - (far - k), by rw [hlen]; omega, ?_⟩
          rw [gt_take _ _ _ (by omega), ih _ (by omega), show far - k + (y - (far - k)) = y from by omega]
          exact ⟨y4, fun x h3 h4 h5 => h2 x (by omega) h4 h5⟩
    · have e : gt (lvl s l far (k + 1)) (j + 1) = gt (lvl s l far k) j := by
        simp only [lvl, gt_cons]; simp
      rw [e, ih j (by omega), show far - (k + 1) + (j + 1) = far - k + j from by omega]

theorem lefts_ok (s : ByteArray) (l j : Nat) (hj : j ≤ s.size + 1) : 0 ≤ gt (lefts s l) j ↔ stand s j = true ∧ OkFrom s l (s.size + 1) j := by
  have := lvl_ok s l (s.size + 1) (stand_far s) (s.size + 1) (Nat.le_refl _) j hj
  rwa [show s.size + 1 - (s.size + 1) + j = j from by omega] at this

/-! the leaps from one standing place to the next -/
theorem lastTo_stand (s : ByteArray) : ∀ k, stand s (lastTo s k) = true ∧ ∀ z, lastTo s k < z → z ≤ k → stand s z = false
  | 0 => ⟨stand_0 s, fun z h1 h2 => by simp [lastTo] at h1; omega⟩
  | k + 1 => by
    have ih := lastTo_stand s k
    cases h : stand s (k + 1)
    · rw [lastTo_no h]
      refine ⟨ih.1, fun z h1 h2 => ?_⟩
      by_cases e : z = k + 1
      · rw [e]; exact h
      · exact ih.2 z h1 (by omega)
    · rw [lastTo_yes h]
      exact ⟨h, fun z h1 h2 => by omega⟩
theorem prTo_next (s : ByteArray) : ∀ k, ∀ p ∈ prTo s k, stand s p.1 = true ∧ stand s p.2 = true ∧ ∀ z, p.1 < z → z < p.2 → stand s z = false
  | 0 => by simp [prTo]
  | k + 1 => by
    intro p hp
    have ih := prTo_next s k
    have hl := lastTo_stand s k
    cases h : stand s (k + 1)
    · rw [prTo_no h] at hp; exact ih p hp
    · rw [prTo_yes h] at hp
      rcases List.mem_append.1 hp with h1 | h1
      · exact ih p h1
      · simp at h1; subst h1
        exact ⟨hl.1, h, fun z h2 h3 => hl.2 z h2 (by omega)⟩
theorem prTo_all (s : ByteArray) : ∀ k x, x < k → stand s x = true → x = lastTo s k ∨ ∃ y, (x, y) ∈ prTo s k
  | 0, x, h, _ => by omega
  | k + 1, x, h, hx => by
    cases hs : stand s (k + 1)
    · rw [lastTo_no hs, prTo_no hs]
      by_cases e : x = k
      · subst e
        refine .inl ?_
        have := lastTo_stand s x
        have h1 := lastTo_le s x
        by_cases e2 : x = lastTo s x
        · exact e2
        · rw [this.2 x (by omega) (Nat.le_refl _)] at hx; cases hx
      · exact prTo_all s k x (by omega) hx
    · refine .inr ?_
      rw [prTo_yes hs]
      by_cases e : x = lastTo s k
      · exact ⟨k + 1, by simp [e]⟩
      · have hl := lastTo_stand s k
        have : x < k := by
          by_cases e2 : x = k
          · exfalso
            have h1 := lastTo_le s k
            rw [hl.2 x (by omega) (by omega)] at hx; cases hx
          · omega
        rcases prTo_all s k x this hx with h1 | ⟨y, h1⟩
        · exact absurd h1 e
        · exact ⟨y, List.mem_append_left _ h1⟩
theorem strides_all (s : ByteArray) (x : Nat) (h : x < s.size + 1) (hx : stand s x = true) : ∃ y, (x, y) ∈ strides s := by
  rcases prTo_all s (s.size + 1) x h hx with h1 | h1
  · rw [lastTo_yes (stand_far s)] at h1; omega
  · exact h1
theorem lg_max (l : List (Nat × Nat)) : (∀ p ∈ l, p.2 - p.1 ≤ (lg l).2 - (lg l).1) ∧ (lg l = (0, 0) ∨ lg l ∈ l) := by
  unfold lg
  suffices ∀ (l : List (Nat × Nat)) (b : Nat × Nat), ((l.foldl lgStep b).2 - (l.foldl lgStep b).1 ≥ b.2 - b.1) ∧ (∀ p ∈ l, p.2 - p.1 ≤ (l.foldl lgStep b).2 - (l.foldl lgStep b).1) ∧ (l.foldl lgStep b = b ∨ l.foldl lgStep b ∈ l) from (this l (0, 0)).2
  intro l
  induction l with
  | nil => intro b; simp
  | cons q l ih =>
    intro b
    obtain ⟨i1, i2, i3⟩ := ih (lgStep b q)
    simp only [List.foldl_cons]
    have hst : (lgStep b q).2 - (lgStep b q).1 ≥ b.2 - b.1 ∧ (lgStep b q).2 - (lgStep b q).1 ≥ q.2 - q.1 ∧ (lgStep b q = b ∨ lgStep b q = q) := by
      unfold lgStep; split <;> simp <;> omega
    refine ⟨by omega, fun p hp => ?_, ?_⟩
    · rcases List.mem_cons.1 hp with rfl | hp
      · omega
      · exact i2 p hp
    · rcases i3 with i3 | i3
      · rw [i3]
        rcases hst.2.2 with e | e <;> rw [e] <;> simp
      · exact .inr (List.mem_cons_of_mem _ i3)
theorem gap_ok (s : ByteArray) (l : Nat) : gapLen s (s.size + 1) ≤ l ↔ OkFrom s l (s.size + 1) 0 := by
  have hm := lg_max (strides s)
  have e : gapLen s (s.size + 1) = (lg (strides s)).2 - (lg (strides s)).1 := rfl
  constructor
  · intro h x _ h2 h3
    obtain ⟨y, hy⟩ := strides_all s x h2 h3
    have h4 := hm.1 _ hy
    have h5 := strides_lt s _ hy
    have h6 := prTo_next s _ _ hy
    exact ⟨y, h5.1, by simp at h4 h5; omega, h5.2, h6.2.1⟩
  · intro h
    rw [e]
    rcases hm.2 with h0 | h0
    · rw [h0]; simp
    · have h5 := strides_lt s _ h0
      have h6 := prTo_next s _ _ h0
      obtain ⟨y, y1, y2, y3, y4⟩ := h _ (Nat.zero_le _) (by omega : (lg (strides s)).1 < s.size + 1) h6.1
      have : (lg (strides s)).2 ≤ y := by
        rcases Nat.lt_or_ge y (lg (strides s)).2 with h7 | h7
        · rw [h6.2.2 y y1 h7] at y4; cases y4
        · exact h7
      omega
theorem can_iff (s : ByteArray) (l : Nat) : 0 ≤ gt (lefts s l) 0 ↔ gapLen s (s.size + 1) ≤ l := by
  rw [lefts_ok s l 0 (by omega), gap_ok]
  exact ⟨fun h => h.2, fun h => ⟨stand_0 s, h⟩⟩
end Go.Proofs.Ytfokgobmncbkfab
