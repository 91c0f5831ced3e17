/- Plain facts on rising boats: the longest list from a place on, how long it is, how impl takes it. -/
import Derived.Test.YthdmmliipmmfbabOa
import Derived.Test.YthdmmliipmmfbabTl
namespace Go.Proofs.Ythdmmliipmmfbab
set_option linter.unusedVariables false
open Go.RowKit

section
variable (zs : List Int)
/-- the greatest g of k places from p on whose boats are greater than x -/
def mxG (g : Nat → Nat) : Nat → Int → Nat → Nat
  | _, _, 0 => 0
  | p, x, k + 1 => if x < gt zs p then max (g p) (mxG g (p + 1) x k) else mxG g (p + 1) x k
def msF : Nat → Nat → Nat
  | 0, _ => 0
  | f + 1, i => 1 + mxG zs (msF f) (i + 1) (gt zs i) (zs.length - (i + 1))
def ms (i : Nat) : Nat := msF zs 9 i
/-- the first longest list of k places from p on; b: what has been found so far; g: how a list goes on -/
def rsB (g : Nat → Int → List Nat) (b : List Nat) (p : Nat) (x : Int) : List Nat :=
  if x < gt zs p ∧ b.length < (g (p + 1) (gt zs p)).length + 1 then p :: g (p + 1) (gt zs p) else b
def rsF (g : Nat → Int → List Nat) : Nat → Int → Nat → List Nat → List Nat
  | _, _, 0, b => b
  | p, x, k + 1, b => rsF g (p + 1) x k (rsB zs g b p x)
def rsX : Nat → Nat → Int → List Nat
  | 0, _, _ => []
  | f + 1, p, x => rsF zs (rsX f) p x (zs.length - p) []
def RS (p : Nat) (x : Int) : List Nat := rsX zs 9 p x
end
variable {zs : List Int}
theorem mxG_congr {g h : Nat → Nat} : ∀ {k p : Nat} {x : Int}, (∀ j, p ≤ j → j < p + k → g j = h j) → mxG zs g p x k = mxG zs h p x k
  | 0, _, _, _ => rfl
  | k + 1, p, x, H => by
    rw [mxG, mxG, mxG_congr (k := k) (p := p + 1) fun j h1 h2 => H j (by omega) (by omega), H p (by omega) (by omega)]
theorem mxG_le {g : Nat → Nat} {B : Nat} (h : ∀ j, g j ≤ B) : ∀ (k p : Nat) (x : Int), mxG zs g p x k ≤ B
  | 0, _, _ => Nat.zero_le _
  | k + 1, p, x => by
    have h1 := mxG_le h k (p + 1) x; have h2 := h p
    rw [mxG]; split
    · exact Nat.max_le.2 ⟨h2, h1⟩
    · exact h1
theorem msF_le : ∀ (f i : Nat), msF zs f i ≤ f
  | 0, _ => Nat.le_refl _
  | f + 1, i => by
    have := mxG_le (zs := zs) (fun j => msF_le f j) (zs.length - (i + 1)) (i + 1) (gt zs i)
    rw [msF]; omega
theorem ms_le (i : Nat) : ms zs i ≤ 9 := msF_le 9 i
theorem msF_up : ∀ (f i : Nat), zs.length ≤ i + f → i < zs.length → msF zs (f + 1) i = msF zs f i
  | 0, i, h, h2 => absurd h (by omega)
  | f + 1, i, h, h2 => by
    rw [msF, msF]
    congr 1
    exact mxG_congr fun j h1 h3 => msF_up f j (by omega) (by omega)
theorem ms_at {i : Nat} (h : zs.length ≤ 8) (hi : i < zs.length) : ms zs i = 1 + mxG zs (ms zs) (i + 1) (gt zs i) (zs.length - (i + 1)) := by
  unfold ms
  rw [msF]
  congr 1
  exact mxG_congr fun j h1 h3 => (msF_up 8 j (by omega) (by omega)).symm
theorem rsF_congr {g h : Nat → Int → List Nat} : ∀ {k p : Nat} {x : Int} {b : List Nat}, (∀ j y, p ≤ j → j < p + k → g (j + 1) y = h (j + 1) y) → rsF zs g p x k b = rsF zs h p x k b
  | 0, _, _, _, _ => rfl
  | k + 1, p, x, b, H => by
    rw [rsF, rsF, rsF_congr (k := k) (p := p + 1) fun j y h1 h2 => H j y (by omega) (by omega)]
    congr 1
    unfold rsB
    rw [H p _ (by omega) (by omega)]
theorem rsX_up : ∀ (f p : Nat) (x : Int), zs.length ≤ p + f → rsX zs (f + 1) p x = rsX zs f p x
  | 0, p, x, h => by rw [rsX, rsX, show zs.length - p = 0 by omega, rsF]
  | f + 1, p, x, h => by
    rw [rsX, rsX]
    exact rsF_congr fun j y h1 h2 => rsX_up f (j + 1) y (by omega)
theorem RS_at (h : zs.length ≤ 8) (p : Nat) (x : Int) : RS zs p x = rsF zs (RS zs) p x (zs.length - p) [] := by
  unfold RS
  rw [rsX]
  exact rsF_congr fun j y h1 h2 => (rsX_up 8 (j + 1) y (by omega)).symm
theorem rsF_any {g : Nat → Int → List Nat} : ∀ (k p : Nat) (x : Int) (b : List Nat), rsF zs g p x k b = if b.length < (rsF zs g p x k []).length then rsF zs g p x k [] else b
  | 0, p, x, b => by simp [rsF]
  | k + 1, p, x, b => by
    rw [rsF, rsF, rsF_any k (p + 1) x (rsB zs g b p x), rsF_any k (p + 1) x (rsB zs g [] p x)]
    generalize rsF zs g (p + 1) x k [] = R
    by_cases q : x < gt zs p
    · have e1 : rsB zs g [] p x = p :: g (p + 1) (gt zs p) := by unfold rsB; rw [if_pos ⟨q, by simp⟩]
      rw [e1]
      generalize ho : p :: g (p + 1) (gt zs p) = o
      have hol : o.length = (g (p + 1) (gt zs p)).length + 1 := by rw [← ho]; rfl
      have e2 : rsB zs g b p x = if b.length < o.length then o else b := by
        unfold rsB; rw [ho, ← hol]
        by_cases c : b.length < o.length
        · rw [if_pos ⟨q, c⟩, if_pos c]
        · rw [if_neg (fun h => c h.2), if_neg c]
      rw [e2]
      by_cases c1 : b.length < o.length
      · rw [if_pos c1]
        by_cases c2 : o.length < R.length
        · rw [if_pos c2, if_pos (by omega)]
        · rw [if_neg c2, if_pos c1]
      · rw [if_neg c1]
        by_cases c2 : o.length < R.length
        · rw [if_pos c2]
        · rw [if_neg c2, if_neg (by omega), if_neg c1]
    · have e1 : ∀ b, rsB zs g b p x = b := fun b => by unfold rsB; rw [if_neg (fun h => q h.1)]
      rw [e1, e1]
      by_cases c : ([] : List Nat).length < R.length
      · rw [if_pos c]
      · rw [if_neg c]
        have hR : R = [] := List.length_eq_zero_iff.1 (by simp at c; simpa using c)
        rw [hR]
theorem rsF_len {g : Nat → Int → List Nat} {M : Nat → Nat} : ∀ (k p : Nat) (x : Int), (∀ j, p ≤ j → j < p + k → (g (j + 1) (gt zs j)).length + 1 = M j) → (rsF zs g p x k []).length = mxG zs M p x k
  | 0, _, _, _ => rfl
  | k + 1, p, x, H => by
    have IH := rsF_len k (p + 1) x fun j h1 h2 => H j (by omega) (by omega)
    rw [rsF, rsF_any, mxG, IH]
    by_cases q : x < gt zs p
    · have e1 : rsB zs g [] p x = p :: g (p + 1) (gt zs p) := by unfold rsB; rw [if_pos ⟨q, by simp⟩]
      have hl : (p :: g (p + 1) (gt zs p)).length = M p := H p (by omega) (by omega)
      rw [e1, if_pos q, hl]
      split
      · rw [IH]; omega
      · rw [hl]; omega
    · have e1 : rsB zs g [] p x = [] := by unfold rsB; rw [if_neg (fun h => q h.1)]
      rw [e1, if_neg q]
      split
      · exact IH
      · simp only [List.length_nil]; simp only [List.length_nil] at *; omega
/-- how long the list is -/
theorem RS_len (h : zs.length ≤ 8) : ∀ (d p : Nat) (x : Int), zs.length - p ≤ d → (RS zs p x).length = mxG zs (ms zs) p x (zs.length - p)
  | 0, p, x, hd => by rw [RS_at h, show zs.length - p = 0 by omega]; rfl
  | d + 1, p, x, hd => by
    rw [RS_at h]
    refine rsF_len _ _ _ fun j h1 h2 => ?_
    rw [RS_len h d (j + 1) _ (by omega), ms_at h (by omega), Nat.add_comm]
theorem RSlen (h : zs.length ≤ 8) (p : Nat) (x : Int) : (RS zs p x).length = mxG zs (ms zs) p x (zs.length - p) := RS_len h _ p x (Nat.le_refl _)
theorem RS_front (h : zs.length ≤ 8) {p : Nat} (hp : p < zs.length) (x : Int) : RS zs p x = if x < gt zs p ∧ ms zs p = mxG zs (ms zs) p x (zs.length - p) then p :: RS zs (p + 1) (gt zs p) else RS zs (p + 1) x := by
  have hk : zs.length - p = (zs.length - (p + 1)) + 1 := by omega
  have hL : (p :: RS zs (p + 1) (gt zs p)).length = ms zs p := by
    rw [List.length_cons, RSlen h, ms_at h hp, Nat.add_comm]
  rw [RS_at h, hk, rsF, rsF_any, ← RS_at h, mxG]
  have hT := RSlen h (p + 1) x
  by_cases q : x < gt zs p
  · have e1 : rsB zs (RS zs) [] p x = p :: RS zs (p + 1) (gt zs p) := by unfold rsB; rw [if_pos ⟨q, by simp⟩]
    rw [e1, hL, hT, if_pos q]
    by_cases c : ms zs p < mxG zs (ms zs) (p + 1) x (zs.length - (p + 1))
    · rw [if_pos c, if_neg (fun hh => by have := hh.2; omega)]
    · rw [if_neg c, if_pos ⟨q, by omega⟩]
  · have e1 : rsB zs (RS zs) [] p x = [] := by unfold rsB; rw [if_neg (fun h => q h.1)]
    have hne : ∀ q', ¬ (x < gt zs p ∧ q') := fun q' hh => q hh.1
    rw [e1, if_neg (hne _)]
    split
    · rfl
    · rename_i hn
      simp only [List.length_nil] at hn
      exact (List.length_eq_zero_iff.1 (by omega)).symm
theorem mx_front (h : zs.length ≤ 8) {p : Nat} (hp : p < zs.length) (x : Int) :
    (x < gt zs p ∧ ms zs p = mxG zs (ms zs) p x (zs.length - p) → mxG zs (ms zs) (p + 1) (gt zs p) (zs.length - (p + 1)) + 1 = mxG zs (ms zs) p x (zs.length - p)) ∧
    (¬ (x < gt zs p ∧ ms zs p = mxG zs (ms zs) p x (zs.length - p)) → mxG zs (ms zs) (p + 1) x (zs.length - (p + 1)) = mxG zs (ms zs) p x (zs.length - p)) := by
  have hk : zs.length - p = (zs.length - (p + 1)) + 1 := by omega
  have hm := ms_at h hp
  refine ⟨fun hh => ?_, fun hh => ?_⟩
  · rw [← hh.2, hm, Nat.add_comm]
  · rw [hk, mxG] at hh ⊢
    by_cases q : x < gt zs p
    · rw [if_pos q] at hh ⊢
      have : ¬ ms zs p = max (ms zs p) (mxG zs (ms zs) (p + 1) x (zs.length - (p + 1))) := fun e => hh ⟨q, e⟩
      omega
    · rw [if_neg q]
theorem mxG_back {g : Nat → Nat} : ∀ (k p : Nat) (x : Int), mxG zs g p x (k + 1) = if x < gt zs (p + k) then max (mxG zs g p x k) (g (p + k)) else mxG zs g p x k
  | 0, p, x => by simp [mxG]
  | k + 1, p, x => by
    rw [mxG, mxG_back k (p + 1) x, show p + 1 + k = p + (k + 1) by omega]
    conv => rhs; rw [mxG]
    split <;> split <;> omega
/-- the greatest of the first k -/
def topF (g : Nat → Nat) : Nat → Nat
  | 0 => 0
  | k + 1 => max (topF g k) (g k)
theorem topF_mx {g : Nat → Nat} (h : ∀ j, j < zs.length → 0 < gt zs j) : ∀ k, k ≤ zs.length → topF g k = mxG zs g 0 0 k
  | 0, _ => rfl
  | k + 1, hk => by
    rw [topF, topF_mx h k (by omega), mxG_back, Nat.zero_add, if_pos (h k (by omega))]
theorem topF_le {g : Nat → Nat} {B : Nat} (h : ∀ j, g j ≤ B) : ∀ k, topF g k ≤ B
  | 0 => Nat.zero_le _
  | k + 1 => by have := topF_le h k; have := h k; rw [topF]; omega
theorem RS_le (h : zs.length ≤ 8) (p : Nat) (x : Int) : (RS zs p x).length ≤ 9 := by
  rw [RSlen h]; exact mxG_le ms_le _ _ _
end Go.Proofs.Ythdmmliipmmfbab
