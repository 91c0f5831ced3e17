/- Tides, plain: starts, hours that are needed, least leaps. -/
import Derived.Test.YtmlokapbholeoabTn
import Derived.Test.YtmlokapbholeoabTs
namespace Go.Proofs.Ytmlokapbholeoab
set_option linter.unusedVariables false

theorem arV_nn {h t : ByteArray} {L s p : Nat} (ht : 0 < t.size) (hp : p ≤ h.size + 1) : 0 ≤ arV h t L s p ↔ ∃ k, rc h t L s k p = true := by
  unfold arV
  rcases arr_cases h t L s p (kHrs h t) with ⟨e, hn⟩ | ⟨j, hj, e, hr, hn⟩
  · rw [e]
    refine ⟨fun c => by omega, fun ⟨k, hk⟩ => ?_⟩
    obtain ⟨j, _, hj, hr⟩ := rc_soon ht hk hp
    have := hn j (Nat.le_trans hj (kHrs_ge h t))
    rw [hr] at this; exact Bool.noConfusion this
  · rw [e]
    exact ⟨fun _ => ⟨j, hr⟩, fun _ => by omega⟩
/-- there is a way from any start just if there is one from any other -/
theorem arV_any {h t : ByteArray} {L s s' p : Nat} (ht : 0 < t.size) (hp : p ≤ h.size + 1) (g : 0 ≤ arV h t L s' p) : 0 ≤ arV h t L s p := by
  obtain ⟨k, hk⟩ := (arV_nn ht hp).1 g
  refine (arV_nn ht hp).2 ⟨(s' + (t.size - 1) * s) + k, rc_wait k p ?_⟩
  rw [rc_same (s' := s')]
  · exact hk
  · have e : s + (s' + (t.size - 1) * s) = s' + t.size * s := by
      have : t.size * s = (t.size - 1) * s + s := by
        rw [← Nat.succ_mul]; congr 1; omega
      omega
    rw [e, Nat.add_mul_mod_self_left]
/-- the hours that are needed, or -1 -/
def hnV (h t : ByteArray) (l s : Nat) : Int := if arV h t l s (h.size + 1) < 0 then -1 else arV h t l s (h.size + 1) - s
theorem arV_ge {h t : ByteArray} {L s p : Nat} (g : 0 ≤ arV h t L s p) : (s : Int) ≤ arV h t L s p := by
  unfold arV at *
  rcases arr_cases h t L s p (kHrs h t) with ⟨e, hn⟩ | ⟨j, hj, e, hr, hn⟩
  · rw [e] at g; omega
  · rw [e]; omega
theorem hnV_yes {h t : ByteArray} {l s : Nat} (g : 0 ≤ arV h t l s (h.size + 1)) : hnV h t l s = arV h t l s (h.size + 1) - s ∧ 0 ≤ hnV h t l s := by
  have := arV_ge g
  unfold hnV; rw [if_neg (by omega)]; omega
theorem hnV_no {h t : ByteArray} {l s : Nat} (g : ¬ 0 ≤ arV h t l s (h.size + 1)) : hnV h t l s = -1 := by
  unfold hnV; rw [if_pos (by omega)]
theorem hnV_sgn {h t : ByteArray} {l s s' : Nat} (ht : 0 < t.size) (g : 0 ≤ hnV h t l s') : 0 ≤ hnV h t l s := by
  by_cases c : 0 ≤ arV h t l s' (h.size + 1)
  · exact (hnV_yes (arV_any ht (Nat.le_refl _) c)).2
  · rw [hnV_no c] at g; omega
theorem hnV_bd {h t : ByteArray} {l s : Nat} (hg : good h t = true) : -1 ≤ hnV h t l s ∧ hnV h t l s ≤ 204 := by
  have h1 := arr_bd h t l s (h.size + 1) (kHrs h t)
  have h2 := kHrs_le hg
  by_cases c : 0 ≤ arV h t l s (h.size + 1)
  · have := (hnV_yes c); unfold arV at *; omega
  · rw [hnV_no c]; omega
/-- the fewest hours over the first k starts, and the first such start; -1: none -/
def feS (h t : ByteArray) (l : Nat) : Nat → Int × Nat
  | 0 => (-1, 0)
  | k + 1 => if 0 ≤ hnV h t l k ∧ ((feS h t l k).1 < 0 ∨ hnV h t l k < (feS h t l k).1) then (hnV h t l k, k) else feS h t l k
theorem feS_yes {h t : ByteArray} {l k : Nat} (g : 0 ≤ hnV h t l k ∧ ((feS h t l k).1 < 0 ∨ hnV h t l k < (feS h t l k).1)) : feS h t l (k + 1) = (hnV h t l k, k) := if_pos g
theorem feS_no {h t : ByteArray} {l k : Nat} (g : ¬ (0 ≤ hnV h t l k ∧ ((feS h t l k).1 < 0 ∨ hnV h t l k < (feS h t l k).1))) : feS h t l (k + 1) = feS h t l k := if_neg g
theorem feS_none {h t : ByteArray} {l : Nat} (g : ∀ k, hnV h t l k < 0) : ∀ k, feS h t l k = (-1, 0)
  | 0 => rfl
  | k + 1 => by rw [feS_no (fun c => by have := g k; omega), feS_none g k]
theorem feS_bd {h t : ByteArray} {l : Nat} (hg : good h t = true) : ∀ k, -1 ≤ (feS h t l k).1 ∧ (feS h t l k).1 ≤ 204 ∧ (feS h t l k).2 ≤ k
  | 0 => by simp [feS]
  | k + 1 => by
    have ih := feS_bd (l := l) hg k
    have hb := hnV_bd (l := l) (s := k) hg
    by_cases c : 0 ≤ hnV h t l k ∧ ((feS h t l k).1 < 0 ∨ hnV h t l k < (feS h t l k).1)
    · rw [feS_yes c]; dsimp only; omega
    · rw [feS_no c]; omega
theorem feS_some {h t : ByteArray} {l : Nat} (g : ∀ k, 0 ≤ hnV h t l k) : ∀ k, 0 ≤ (feS h t l (k + 1)).1
  | 0 => by rw [feS_yes ⟨g 0, .inl (by simp [feS])⟩]; exact g 0
  | k + 1 => by
    have ih := feS_some g k
    by_cases c : 0 ≤ hnV h t l (k + 1) ∧ ((feS h t l (k + 1)).1 < 0 ∨ hnV h t l (k + 1) < (feS h t l (k + 1)).1)
    · rw [feS_yes c]; exact c.1
    · rw [feS_no c]; exact ih
/-- the starts among the first k from which one needs at most so many hours -/
def swS (h t : ByteArray) (l : Nat) (H : Int) : Nat → List Int
  | 0 => []
  | k + 1 => if 0 ≤ hnV h t l k ∧ hnV h t l k ≤ H then swS h t l H k ++ [(k : Int)] else swS h t l H k
theorem swS_yes {h t : ByteArray} {l k : Nat} {H : Int} (g : 0 ≤ hnV h t l k ∧ hnV h t l k ≤ H) : swS h t l H (k + 1) = swS h t l H k ++ [(k : Int)] := if_pos g
theorem swS_no {h t : ByteArray} {l k : Nat} {H : Int} (g : ¬ (0 ≤ hnV h t l k ∧ hnV h t l k ≤ H)) : swS h t l H (k + 1) = swS h t l H k := if_neg g
theorem swS_len (h t : ByteArray) (l : Nat) (H : Int) : ∀ k, (swS h t l H k).length ≤ k
  | 0 => Nat.le_refl _
  | k + 1 => by unfold swS; have := swS_len h t l H k; split <;> simp <;> omega
/-- the least leap from l on, of so many, that comes over -/
def llF (h t : ByteArray) : Nat → Nat → Nat
  | 0, l => l
  | f + 1, l => if 0 ≤ arV h t l 0 (h.size + 1) then l else llF h t f (l + 1)
theorem llF_yes {h t : ByteArray} {f l : Nat} (g : 0 ≤ arV h t l 0 (h.size + 1)) : llF h t (f + 1) l = l := if_pos g
theorem llF_no {h t : ByteArray} {f l : Nat} (g : ¬ 0 ≤ arV h t l 0 (h.size + 1)) : llF h t (f + 1) l = llF h t f (l + 1) := if_neg g
theorem ll_far {h t : ByteArray} (ht : 0 < t.size) : 0 ≤ arV h t (h.size + 1) 0 (h.size + 1) :=
  (arV_nn ht (Nat.le_refl _)).2 ⟨1, rc_succ.2 ⟨dry_far _ _ _, 0, by omega, rc_0.2 rfl, near_iff.2 (by omega)⟩⟩
end Go.Proofs.Ytmlokapbholeoab
