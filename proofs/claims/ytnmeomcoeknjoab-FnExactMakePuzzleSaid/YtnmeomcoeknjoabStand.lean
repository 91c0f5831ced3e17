/- Contracts of impl.isInRiver, impl.isStoneAt, impl.farBank, spec.rvStand. -/
import Derived.Test.YtnmeomcoeknjoabRv
namespace Go.Proofs.Ytnmeomcoeknjoab
set_option linter.unusedVariables false
open Go.RowKit

/-- a stone stands at the place -/
def stn (s : ByteArray) (p : Nat) : Bool := decide (1 ≤ p) && decide (p ≤ s.size) && (s.data.toList.getD (p - 1) 0 == 111)
/-- one can stand at the place -/
def stand (s : ByteArray) (p : Nat) : Bool := p == 0 || p == s.size + 1 || stn s p

theorem stn_in {s : ByteArray} {p : Nat} (h0 : 1 ≤ p) (h1 : p ≤ s.size) (hk : p - 1 < s.size) : stn s p = ((s[p - 1].toNat : Int) == 111) := by
  have e : s.data.toList.getD (p - 1) 0 = s[p - 1] := by
    rw [List.getD_eq_getElem?_getD, List.getElem?_eq_getElem (by simpa using hk)]; rfl
  simp only [stn, h0, h1, decide_true, Bool.true_and, e]
  rw [Bool.eq_iff_iff, beq_iff_eq, beq_iff_eq]
  exact (toNat_eq_iff s[p - 1] 111 (by omega)).symm
theorem stn_out {s : ByteArray} {p : Nat} (h : p < 1 ∨ s.size < p) : stn s p = false := by
  simp only [stn]; rcases h with h | h
  · simp [show ¬ (1 ≤ p) from by omega]
  · simp [show ¬ (p ≤ s.size) from by omega]
theorem stand_0 (s : ByteArray) : stand s 0 = true := by simp [stand]
theorem stand_far (s : ByteArray) : stand s (s.size + 1) = true := by simp [stand]
theorem stand_in {s : ByteArray} {p : Nat} (h0 : 1 ≤ p) (h1 : p ≤ s.size) : stand s p = stn s p := by
  have e1 : (p == 0) = false := by simp; omega
  have e2 : (p == s.size + 1) = false := by simp; omega
  simp [stand, e1, e2]

theorem isInRiver (s : ByteArray) (p : Int) (w : World) (hs : s.size ≤ maxLen) :
    Calls Try.prog 86 #[.string s, .int .i64 p] w fun e w' => e = .returned (.bool (inB p 1 s.size)) ∧ w = w' := by
  unfold maxLen at hs
  by_cases h1 : p < 1
  · go_enter Try.func86, Try.ntmps86
    go_wp2
    go_ret
    exact ⟨ret_bool (by simp [inB]; omega), rfl⟩
  · by_cases h2 : (s.size : Int) < p
    · go_enter Try.func86, Try.ntmps86
      go_wp2
      go_ret
      exact ⟨ret_bool (by simp [inB]; omega), rfl⟩
    · go_enter Try.func86, Try.ntmps86
      go_wp2
      go_ret
      exact ⟨ret_bool (by simp [inB]; omega), rfl⟩
theorem isStoneAt_out (s : ByteArray) (p : Int) (w : World) (hs : s.size ≤ maxLen) (h : p < 1 ∨ (s.size : Int) < p) :
    Calls Try.prog 75 #[.string s, .int .i64 p] w fun e w' => e = .returned (.bool false) ∧ w = w' := by
  have g := inB_no (n := p) (lo := 1) (hi := s.size) h
  go_enter Try.func75, Try.ntmps75
  go_wp2_with (go_at_call 86; refine (isInRiver _ _ _ hs).mono ?_; rintro e w' ⟨rfl, rfl⟩)
  go_ret
  exact ⟨rfl, rfl⟩

theorem isStoneAt (s : ByteArray) (p : Nat) (w : World) (hs : s.size ≤ maxLen) :
    Calls Try.prog 75 #[.string s, .int .i64 p] w fun e w' => e = .returned (.bool (stn s p)) ∧ w = w' := by
  by_cases h : p < 1 ∨ s.size < p
  · rw [stn_out h]; exact isStoneAt_out s p w hs (by omega)
  · have hk : p - 1 < s.size := by omega
    have h0 : 1 ≤ p := by omega
    have h1 : p ≤ s.size := by omega
    have E := Lib.hid (stn_in h0 h1 hk)
    have g := inB_yes (n := (p : Int)) (lo := 1) (hi := s.size) (by omega) (by omega)
    unfold maxLen at hs
    go_enter Try.func75, Try.ntmps75
    go_wp2_with (go_at_call 86; refine (isInRiver _ _ _ (by unfold maxLen; omega)).mono ?_; rintro e w' ⟨rfl, rfl⟩)
    all_goals go_ret
    all_goals exact ⟨ret_bool (by rw [E.out]), rfl⟩

theorem rvStand_0 (s : ByteArray) (w : World) (hs : s.size ≤ maxLen) :
    Calls Try.prog 67 #[.string s, .int .i64 0] w fun e w' => e = .returned (.bool true) ∧ w = w' := by
  unfold maxLen at hs
  go_enter Try.func67, Try.ntmps67
  go_wp2
  go_ret
  exact ⟨rfl, rfl⟩
theorem rvStand (s : ByteArray) (p : Nat) (w : World) (hs : s.size ≤ 1048576) (hp : p ≤ s.size + 1) :
    Calls Try.prog 67 #[.string s, .int .i64 p] w fun e w' => e = .returned (.bool (stand s p)) ∧ w = w' := by
  by_cases h0 : p = 0
  · subst h0; rw [stand_0]; exact rvStand_0 s w (by unfold maxLen; omega)
  by_cases h1 : p = s.size + 1
  · subst h1
    rw [stand_far]
    have e1 : (((s.size + 1 : Nat) : Int) == 0) = false := by simp; omega
    have e2 : (((s.size + 1 : Nat) : Int) == (s.size : Int) + 1) = true := by simp
    go_enter Try.func67, Try.ntmps67
    go_wp2
    go_ret
    exact ⟨rfl, rfl⟩
  · have hk : p - 1 < s.size := by omega
    have h0 : 1 ≤ p := by omega
    have h1 : p ≤ s.size := by omega
    have E := Lib.hid ((stand_in h0 h1).trans (stn_in h0 h1 hk))
    have e1 : ((p : Int) == 0) = false := by simp; omega
    have e2 : ((p : Int) == (s.size : Int) + 1) = false := by simp; omega
    go_enter Try.func67, Try.ntmps67
    go_wp2
    all_goals go_ret
    all_goals exact ⟨ret_bool (by rw [E.out]), rfl⟩

theorem farBank (s : ByteArray) (w : World) (hs : s.size ≤ 1048576) :
    Calls Try.prog 96 #[.string s] w fun e w' => e = .returned (.int .i64 (s.size + 1)) ∧ w = w' := by
  go_enter Try.func96, Try.ntmps96
  go_wp2
  go_ret
  exact ⟨rfl, rfl⟩
end Go.Proofs.Ytnmeomcoeknjoab
