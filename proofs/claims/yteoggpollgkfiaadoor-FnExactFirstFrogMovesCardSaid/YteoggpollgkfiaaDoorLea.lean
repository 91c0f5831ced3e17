/- impl.firstAlong's list is the first of all lists of moves to a goal. Plain. -/
import Derived.Test.YteoggpollgkfiaaDoorLex
import Derived.Test.YteoggpollgkfiaaDoorFal
namespace Go.Proofs.YteoggpollgkfiaaDoor
set_option linter.unusedVariables false
open Go.RowKit

/-- f and g tell, for each pond that comes, whether the goal can be reached, and by how many moves -/
def Tells (f : ByteArray → Int) (g : ByteArray → Bool) (G : ByteArray) (q : ByteArray) : Prop :=
  (g q = true ↔ ∃ l, runM q l = some G) ∧ (g q = true → f q = pot G - pot q)
theorem find_first {p : Nat → Bool} {q : ByteArray} {i : Nat} (hi : i ∈ moves q) (hp : p i = true) : ∃ i0, (moves q).find? p = some i0 ∧ i0 ∈ moves q ∧ p i0 = true ∧ i0 ≤ i := by
  cases h : (moves q).find? p with
  | none =>
    have := List.find?_eq_none.1 h i hi
    exact absurd hp this
  | some i0 =>
    refine ⟨i0, rfl, List.mem_of_find?_eq_some h, List.find?_some h, ?_⟩
    obtain ⟨j, hj, rfl⟩ := moves_idx hi
    obtain ⟨k, hk, rfl⟩ := moves_idx (List.mem_of_find?_eq_some h)
    rcases Nat.lt_or_ge j k with hjk | hjk
    · exfalso
      have hb : ∀ t, t < j → t < (moves q).length := fun t ht => by omega
      have e1 : (moves q).find? p ≠ some ((moves q).getD k 0) := by
        intro e
        obtain ⟨h1, ys, zs, e2, h3⟩ := List.find?_eq_some_iff_append.1 e
        have hkl : ys.length ≤ j := by
          rcases Nat.lt_or_ge j ys.length with h4 | h4
          · exfalso
            have : (moves q).getD j 0 ∈ ys := by
              rw [e2, List.getD_eq_getElem?_getD, List.getElem?_append_left h4, List.getElem?_eq_getElem h4]; exact List.getElem_mem _
            have := h3 _ this
            rw [hp] at this
            cases this
          · exact h4
        have e3 : (moves q).getD ys.length 0 = (moves q).getD k 0 := by
          conv => lhs; rw [e2]
          rw [List.getD_eq_getElem?_getD, List.getElem?_append_right (Nat.le_refl _)]; simp
        have := moves_rise (q := q) (j := ys.length) (k := k) (by omega) hk
        omega
      exact e1 h
    · rcases Nat.lt_or_eq_of_le hjk with h2 | rfl
      · exact Nat.le_of_lt (moves_rise h2 hj)
      · exact Nat.le_refl _
theorem along_least {f : ByteArray → Int} {g : ByteArray → Bool} {G : ByteArray} : ∀ (m : Nat) (q : ByteArray), isPd q = true → (∀ l p, runM q l = some p → Tells f g G p) → (∃ l, runM q l = some G) → (m : Int) = pot G - pot q →
    runM q (alongF f g m q) = some G ∧ ∀ l, runM q l = some G → l = alongF f g m q ∨ LexLt (alongF f g m q) l
  | 0, q, hp, hT, ⟨l, hl⟩, hm => by
    have h0 : ∀ l, runM q l = some G → l = [] := fun l hl => by
      have := (runM_pot hp hl).2.2
      exact List.length_eq_zero_iff.1 (by omega)
    have e := h0 l hl
    subst e
    exact ⟨hl, fun l hl => .inl (h0 l hl)⟩
  | m + 1, q, hp, hT, ⟨l, hl⟩, hm => by
    have step : ∀ l, runM q l = some G → ∃ i l', l = i :: l' ∧ i ∈ moves q ∧ runM (goes q i) l' = some G ∧ alongP f g q m i = true := by
      intro l hl
      cases l with
      | nil =>
        have := (runM_pot hp hl).2.2
        simp at this; omega
      | cons i l' =>
        obtain ⟨h1, h2⟩ := runM_cons hl
        refine ⟨i, l', rfl, h1, h2, ?_⟩
        have hr : runM q [i] = some (goes q i) := by unfold runM; rw [if_pos h1]; rfl
        obtain ⟨t1, t2⟩ := hT [i] _ hr
        have hg := t1.2 ⟨l', h2⟩
        have hf := t2 hg
        have hpg := pot_goes hp h1
        unfold alongP
        rw [hg, Bool.true_and, decide_eq_true_iff, hf]; omega
    obtain ⟨i, l', rfl, h1, h2, h3⟩ := step l hl
    obtain ⟨i0, e0, m0, p0, _⟩ := find_first h1 h3
    have eA : alongF f g (m + 1) q = i0 :: alongF f g m (goes q i0) := by
      conv => lhs; unfold alongF
      rw [e0]
    have hr0 : runM q [i0] = some (goes q i0) := by unfold runM; rw [if_pos m0]; rfl
    have hg0 : g (goes q i0) = true := by
      unfold alongP at p0; simp only [Bool.and_eq_true] at p0; exact p0.1
    have hx0 := (hT [i0] _ hr0).1.1 hg0
    have hpg0 := pot_goes hp m0
    have IH := along_least m (goes q i0) (isPd_goes hp m0).1 (fun l p hl => hT (i0 :: l) p (by unfold runM; rw [if_pos m0]; exact hl)) hx0 (by omega)
    rw [eA]
    refine ⟨by unfold runM; rw [if_pos m0]; exact IH.1, fun l hl => ?_⟩
    obtain ⟨j, l2, rfl, j1, j2, j3⟩ := step l hl
    obtain ⟨i1, e1, _, _, hle⟩ := find_first j1 j3
    obtain rfl : i0 = i1 := Option.some.inj (e0.symm.trans e1)
    rcases Nat.lt_or_eq_of_le hle with hlt | rfl
    · exact .inr ⟨[], i0, j, alongF f g m (goes q i0), l2, rfl, rfl, hlt⟩
    · rcases IH.2 l2 j2 with rfl | h
      · exact .inl rfl
      · exact .inr (h.pre [i0])
/-- two lists that are both first are the same -/
theorem first_same {l m : List Nat} (h1 : l = m ∨ LexLt m l) (h2 : m = l ∨ LexLt l m) : l = m := by
  rcases h1 with h | h
  · exact h
  · rcases h2 with h' | h'
    · exact h'.symm
    · exact absurd (h.trans h') LexLt.irrefl
end Go.Proofs.YteoggpollgkfiaaDoor
