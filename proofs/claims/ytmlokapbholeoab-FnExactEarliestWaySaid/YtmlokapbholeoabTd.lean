/- Tides, plain: texts of digits, places that are dry. -/
import Derived.Test.YtmlokapbholeoabRows
import Derived.Lib.Hide
namespace Go.Proofs.Ytmlokapbholeoab
set_option linter.unusedVariables false

def tdC (c : UInt8) : Bool := decide (48 ≤ c.toNat) && decide (c.toNat ≤ 57)
/-- only digits -/
def AllT (s : ByteArray) : Prop := ∀ j, (h : j < s.size) → 48 ≤ s[j].toNat ∧ s[j].toNat ≤ 57
/-- a text of 1..m digits -/
def isTx (m : Nat) (s : ByteArray) : Bool := decide (1 ≤ s.size) && decide (s.size ≤ m) && s.data.toList.all tdC
theorem isTx_out {m : Nat} {s : ByteArray} (h : s.size < 1 ∨ m < s.size) : isTx m s = false := by
  rcases h with h | h <;> simp [isTx] <;> omega
theorem isTx_bad {m : Nat} {s : ByteArray} {k : Nat} (hk : k < s.size) (h : s[k].toNat < 48 ∨ 57 < s[k].toNat) : isTx m s = false := by
  have : s.data.toList.all tdC = false := by
    rw [List.all_eq_false]
    refine ⟨s[k], ?_, ?_⟩
    · have : s[k] = s.data.toList[k]'(by simpa using hk) := rfl
      rw [this]; exact List.getElem_mem _
    · simp [tdC]; omega
  simp [isTx, this]
theorem isTx_all {m : Nat} {s : ByteArray} (h1 : 1 ≤ s.size) (h2 : s.size ≤ m) (h : AllT s) : isTx m s = true := by
  have : s.data.toList.all tdC = true := by
    rw [List.all_eq_true]
    intro x hx
    obtain ⟨j, hj, rfl⟩ := List.getElem_of_mem hx
    have hj' : j < s.size := by simpa using hj
    have e : s.data.toList[j] = s[j] := rfl
    have := h j hj'
    simp [tdC, e, this]
  simp [isTx, this, h1, h2]
theorem isTx_in {m : Nat} {s : ByteArray} (h : isTx m s = true) : 1 ≤ s.size ∧ s.size ≤ m ∧ AllT s := by
  simp only [isTx, Bool.and_eq_true, decide_eq_true_eq, List.all_eq_true] at h
  refine ⟨h.1.1, h.1.2, fun j hj => ?_⟩
  have := h.2 s[j] (by
    have : s[j] = s.data.toList[j]'(by simpa using hj) := rfl
    rw [this]; exact List.getElem_mem _)
  simpa [tdC] using this
theorem tstep {s : ByteArray} {k : Nat} {hlt : k < s.size} (h : ∀ j, j < k → (hj : j < s.size) → 48 ≤ s[j].toNat ∧ s[j].toNat ≤ 57)
    (g : 48 ≤ s[k].toNat ∧ s[k].toNat ≤ 57) : ∀ j, j < k + 1 → (hj : j < s.size) → 48 ≤ s[j].toNat ∧ s[j].toNat ≤ 57 := by
  intro j hj hj'
  by_cases e : j = k
  · subst e; exact g
  · exact h j (by omega) hj'

/-- the byte at an index -/
def bt (s : ByteArray) (j : Nat) : Nat := (s.data.toList.getD j 48).toNat
theorem bt_at {s : ByteArray} {j : Nat} (h : j < s.size) : s[j].toNat = bt s j := by
  have e : s[j] = s.data.toList[j]'(by simpa using h) := rfl
  unfold bt; rw [e, List.getD_eq_getElem?_getD, List.getElem?_eq_getElem (by simpa using h)]; rfl
theorem bt_in {s : ByteArray} (hd : AllT s) (j : Nat) : 48 ≤ bt s j ∧ bt s j ≤ 57 := by
  by_cases h : j < s.size
  · rw [← bt_at h]; exact hd j h
  · unfold bt; rw [List.getD_eq_getElem?_getD, List.getElem?_eq_none (by simp; omega)]; decide
theorem bt_lt (s : ByteArray) (j : Nat) : bt s j < 256 := UInt8.toNat_lt _

/-- whether a place is dry at an hour -/
def dry (h t : ByteArray) (p x : Nat) : Bool := p == 0 || p == h.size + 1 || decide (bt t (x % t.size) < bt h (p - 1))
theorem dry_0 (h t : ByteArray) (x : Nat) : dry h t 0 x = true := by simp [dry]
theorem dry_far (h t : ByteArray) (x : Nat) : dry h t (h.size + 1) x = true := by simp [dry]
theorem dry_in {h t : ByteArray} {k : Nat} (x : Nat) (hk : k < h.size) : dry h t (k + 1) x = decide (bt t (x % t.size) < bt h k) := by
  have : ¬ k = h.size := by omega
  simp [dry, this]
theorem dry_mod (h t : ByteArray) (p x : Nat) : dry h t p (x % t.size) = dry h t p x := by
  unfold dry; rw [Nat.mod_mod]

/-- a shore and a tide -/
def good (h t : ByteArray) : Bool := isTx 14 h && isTx 12 t
theorem good_in {h t : ByteArray} (g : good h t = true) : (1 ≤ h.size ∧ h.size ≤ 14 ∧ AllT h) ∧ (1 ≤ t.size ∧ t.size ≤ 12 ∧ AllT t) := by
  simp only [good, Bool.and_eq_true] at g
  exact ⟨isTx_in g.1, isTx_in g.2⟩

/-- the hours before the k-th at which a place is dry -/
def hrs (h t : ByteArray) (p : Nat) : Nat → List Int
  | 0 => []
  | k + 1 => if dry h t p k then hrs h t p k ++ [(k : Int)] else hrs h t p k
theorem hrs_yes {h t : ByteArray} {p k : Nat} (g : dry h t p k = true) : hrs h t p (k + 1) = hrs h t p k ++ [(k : Int)] := by simp [hrs, g]
theorem hrs_no {h t : ByteArray} {p k : Nat} (g : dry h t p k = false) : hrs h t p (k + 1) = hrs h t p k := by simp [hrs, g]
theorem hrs_len (h t : ByteArray) (p : Nat) : ∀ k, (hrs h t p k).length ≤ k
  | 0 => Nat.le_refl _
  | k + 1 => by unfold hrs; have := hrs_len h t p k; split <;> simp <;> omega
/-- the places of the first k that are stones and dry at n hours of one tide -/
def byH (h t : ByteArray) (n : Nat) : Nat → List Int
  | 0 => []
  | k + 1 => if 48 < bt h k ∧ (hrs h t (k + 1) t.size).length = n then byH h t n k ++ [((k + 1 : Nat) : Int)] else byH h t n k
theorem byH_yes {h t : ByteArray} {n k : Nat} (g : 48 < bt h k) (e : (hrs h t (k + 1) t.size).length = n) : byH h t n (k + 1) = byH h t n k ++ [((k + 1 : Nat) : Int)] := by simp [byH, g, e]
theorem byH_no {h t : ByteArray} {n k : Nat} (g : ¬ (48 < bt h k ∧ (hrs h t (k + 1) t.size).length = n)) : byH h t n (k + 1) = byH h t n k := by
  show (if _ then _ else _) = _; rw [if_neg g]
theorem byH_len (h t : ByteArray) (n : Nat) : ∀ k, (byH h t n k).length ≤ k
  | 0 => Nat.le_refl _
  | k + 1 => by unfold byH; have := byH_len h t n k; split <;> simp <;> omega
end Go.Proofs.Ytmlokapbholeoab
