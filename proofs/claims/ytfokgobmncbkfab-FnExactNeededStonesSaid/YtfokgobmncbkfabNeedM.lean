/- Plain lists: a river without a stone; stones that are needed. -/
import Derived.Test.YtfokgobmncbkfabWo
import Derived.Test.YtfokgobmncbkfabRof
namespace Go.Proofs.Ytfokgobmncbkfab
set_option linter.unusedVariables false

theorem setB_size (s : ByteArray) (p : Nat) (c : UInt8) : (setB s p c).size = s.size := by
  show (s.data.toList.set (p - 1) c).toArray.size = s.data.size
  simp
theorem setB_isRv {s : ByteArray} {p : Nat} (h : isRv s = true) : isRv (setB s p 46) = true := by
  have h2 : s.data.toList.all sgn = true := by unfold isRv at h; rw [Bool.and_eq_true] at h; exact h.2
  simp only [isRv, setB_size] at h ⊢
  have h3 : (setB s p 46).data.toList.all sgn = true := by
    simp only [setB]
    rw [List.all_eq_true] at h2 ⊢
    intro x hx
    rcases List.mem_or_eq_of_mem_set hx with h4 | h4
    · exact h2 x h4
    · subst h4; rfl
  rw [h3]
  rw [Bool.and_eq_true] at h ⊢
  exact ⟨h.1, rfl⟩
theorem stn_setB {s : ByteArray} {p : Nat} (h0 : 1 ≤ p) (z : Nat) : stn (setB s p 46) z = (stn s z && !(z == p)) := by
  unfold stn
  rw [setB_size]
  by_cases hz : 1 ≤ z ∧ z ≤ s.size
  · obtain ⟨z1, z2⟩ := hz
    simp only [z1, z2, decide_true, Bool.true_and]
    simp only [setB, List.getD_eq_getElem?_getD]
    by_cases e : z = p
    · subst e
      rw [List.getElem?_set_self (by simpa using show z - 1 < s.size by omega)]
      simp
    · rw [List.getElem?_set_ne (by omega)]
      simp [e]
  · have : (decide (1 ≤ z) && decide (z ≤ s.size)) = false := by simp; omega
    simp [this]
theorem stand_setB {s : ByteArray} {p : Nat} (h0 : 1 ≤ p) (h1 : p ≤ s.size) (z : Nat) : stand (setB s p 46) z = (stand s z && !(z == p)) := by
  unfold stand
  rw [setB_size, stn_setB h0]
  by_cases e : z = p
  · subst e
    have e1 : (z == 0) = false := by simp; omega
    have e2 : (z == s.size + 1) = false := by simp; omega
    simp [e1, e2]
  · have e1 : (z == p) = false := by simpa using e
    simp [e1]

/-- a stone is needed -/
def ned (s : ByteArray) (l p : Nat) : Bool := stn s p && !decide (gapLen (setB s p 46) (s.size + 1) ≤ l)
theorem ned_iff {s : ByteArray} {l i : Nat} (hi : i + 1 < (strides s).length) (hok : OkFrom s l (s.size + 1) 0) (hr : pe (strides s) (i + 1) ≤ s.size) :
    ned s l (pe (strides s) (i + 1)) = decide (l < ((strides s).getD (i + 1) (0, 0)).2 - ((strides s).getD i (0, 0)).1) := by
  have a1 := str_fst hi
  have a2 := pe_succ (strides s) i
  have b1 := prTo_next s _ _ (str_getD (s := s) (j := i) (by omega))
  have b2 := prTo_next s _ _ (str_getD hi)
  have c1 := strides_lt s _ (str_getD (s := s) (j := i) (by omega))
  have c2 := strides_lt s _ (str_getD hi)
  rw [← a2] at b1 c1
  rw [a1] at b2 c2
  generalize pe (strides s) (i + 1) = p at *
  generalize ((strides s).getD i (0, 0)).1 = x at *
  generalize ((strides s).getD (i + 1) (0, 0)).2 = y at *
  have hst : stn s p = true := by rw [← stand_in (by omega) hr]; exact b1.2.1
  have hS := stand_setB (s := s) (p := p) (by omega) hr
  have key : gapLen (setB s p 46) (s.size + 1) ≤ l ↔ y - x ≤ l := by
    have := gap_ok (setB s p 46) l
    rw [setB_size] at this
    rw [this]
    constructor
    · intro h
      obtain ⟨z, z1, z2, z3, z4⟩ := h x (Nat.zero_le _) (by omega) (by rw [hS, b1.1]; simp; omega)
      rw [hS, Bool.and_eq_true] at z4
      have z5 : p ≤ z := not_between b1.2.2 z4.1 z1
      have z6 : z ≠ p := by simpa using z4.2
      have z7 : y ≤ z := not_between b2.2.2 z4.1 (by omega)
      omega
    · intro h z _ z2 z3
      rw [hS, Bool.and_eq_true] at z3
      have z4 : z ≠ p := by simpa using z3.2
      obtain ⟨q, q1, q2, q3, q4⟩ := hok z (Nat.zero_le _) z2 z3.1
      by_cases e : q = p
      · subst e
        have zx : z ≤ x := by
          rcases Nat.lt_or_ge x z with h5 | h5
          · have := not_between b1.2.2 z3.1 h5; omega
          · exact h5
        by_cases e2 : z = x
        · subst e2
          exact ⟨y, by omega, by omega, c2.2, by rw [hS, b2.2.1]; simp; omega⟩
        · exact ⟨x, by omega, by omega, by omega, by rw [hS, b1.1]; simp; omega⟩
      · exact ⟨q, q1, q2, q3, by rw [hS, q4]; simpa using e⟩
  unfold ned
  rw [hst, Bool.true_and, ← decide_not, decide_eq_decide, key]
  omega

def ndTo (s : ByteArray) (l k : Nat) : List Int := ((List.range k).filter fun j => ned s l (j + 1)).map fun (j : Nat) => ((j : Int) + 1)
theorem ndTo_yes {s : ByteArray} {l k : Nat} (h : ned s l (k + 1) = true) : ndTo s l (k + 1) = ndTo s l k ++ [(k : Int) + 1] := by simp [ndTo, List.range_succ, h]
theorem ndTo_no {s : ByteArray} {l k : Nat} (h : ned s l (k + 1) = false) : ndTo s l (k + 1) = ndTo s l k := by simp [ndTo, List.range_succ, h]
theorem ndTo_len (s : ByteArray) (l k : Nat) : (ndTo s l k).length ≤ k := by
  have := List.length_filter_le (fun j => ned s l (j + 1)) (List.range k)
  simpa [ndTo] using this
theorem ndTo_skip {s : ByteArray} {l : Nat} (a : Nat) : ∀ b, a ≤ b → (∀ z, a < z → z ≤ b → stn s z = false) → ndTo s l b = ndTo s l a
  | 0, h, _ => by obtain rfl : a = 0 := by omega
                  rfl
  | b + 1, h, hz => by
    by_cases e : a = b + 1
    · subst e; rfl
    · rw [ndTo_no (by simp [ned, hz (b + 1) (by omega) (Nat.le_refl _)])]
      exact ndTo_skip a b (by omega) (fun z z1 z2 => hz z z1 (by omega))
theorem stn_false {s : ByteArray} {z : Nat} (h : stand s z = false) : stn s z = false := by
  unfold stand at h; simp at h; exact h.2
theorem nd_start (s : ByteArray) (l : Nat) (h : 0 < (strides s).length) : ndTo s l (pe (strides s) 1 - 1) = [] := by
  have b := prTo_next s _ _ (str_getD h)
  have a1 := str_fst h
  have a2 : pe (strides s) 1 = ((strides s).getD 0 (0, 0)).2 := pe_succ (strides s) 0
  rw [a1, pe_0, ← a2] at b
  have := ndTo_skip (s := s) (l := l) 0 (pe (strides s) 1 - 1) (Nat.zero_le _) (fun z z1 z2 => stn_false (b.2.2 z z1 (by omega)))
  rw [this]; rfl
theorem nd_step {s : ByteArray} {l i : Nat} (hi : i + 1 < (strides s).length) :
    ndTo s l (pe (strides s) (i + 1 + 1) - 1) = ndTo s l (pe (strides s) (i + 1) - 1) ++ (if ned s l (pe (strides s) (i + 1)) then [(pe (strides s) (i + 1) : Int)] else []) := by
  have b := prTo_next s _ _ (str_getD hi)
  have a1 := str_fst hi
  have a2 := pe_succ (strides s) (i + 1)
  have p0 := pe_lt (s := s) (j := i) (by omega)
  have p1 := pe_lt (s := s) (j := i + 1) hi
  rw [a1, ← a2] at b
  generalize pe (strides s) (i + 1) = p at *
  generalize pe (strides s) (i + 1 + 1) = y at *
  rw [ndTo_skip p (y - 1) (by omega) (fun z z1 z2 => stn_false (b.2.2 z z1 (by omega)))]
  obtain ⟨q, rfl⟩ : ∃ q, p = q + 1 := ⟨p - 1, by omega⟩
  rw [Nat.add_sub_cancel]
  cases h : ned s l (q + 1)
  · rw [ndTo_no h]; simp
  · rw [ndTo_yes h]; simp
theorem nd_end (s : ByteArray) (l : Nat) : ndTo s l (pe (strides s) (strides s).length - 1) = ndTo s l s.size := by rw [str_last]; rfl
theorem pe_stone {s : ByteArray} {i : Nat} (hi : i + 1 < (strides s).length) : 1 ≤ pe (strides s) (i + 1) ∧ pe (strides s) (i + 1) ≤ s.size := by
  have p0 := pe_lt (s := s) (j := i) (by omega)
  have p1 := pe_lt (s := s) (j := i + 1) hi
  have p2 := pe_mono (s := s) (i := i + 1 + 1) (j := (strides s).length) (by omega) (Nat.le_refl _)
  rw [str_last] at p2
  omega
end Go.Proofs.Ytfokgobmncbkfab
