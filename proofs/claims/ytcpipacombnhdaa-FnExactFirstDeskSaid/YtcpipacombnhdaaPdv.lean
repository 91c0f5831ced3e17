/- Contracts of the functions that tell a pond: impl.IsPond, spec.l1In, spec.fgGood, spec.IsPond. No conditions but that a string is no longer than a string can be. -/
import Derived.Test.YtcpipacombnhdaaRv
import Derived.WalkKit
import Derived.ProofKit
import Derived.OpenShut
import Derived.WalkSpells
import Derived.WalkLawsBesides
import Derived.Lib.Hide
namespace Go.Proofs.Ytcpipacombnhdaa
set_option linter.unusedVariables false
open Go.RowKit

def psgn (c : UInt8) : Bool := c == 114 || c == 108 || c == 46
def isPd (s : ByteArray) : Bool := decide (1 ≤ s.size) && decide (s.size ≤ 9) && s.data.toList.all psgn
theorem isPd_out {s : ByteArray} (h : s.size < 1 ∨ 9 < s.size) : isPd s = false := by
  rcases h with h | h <;> simp [isPd] <;> omega
def fsg (n : Int) : Prop := n = 114 ∨ n = 108 ∨ n = 46
theorem psgn_iff (c : UInt8) : psgn c = true ↔ fsg (c.toNat : Int) := by
  unfold psgn fsg
  simp only [Bool.or_eq_true, beq_iff_eq]
  have e1 := toNat_eq_iff c 114 (by omega)
  have e2 := toNat_eq_iff c 108 (by omega)
  have e3 := toNat_eq_iff c 46 (by omega)
  constructor
  · rintro ((h | h) | h)
    · exact .inl (e1.2 h)
    · exact .inr (.inl (e2.2 h))
    · exact .inr (.inr (e3.2 h))
  · rintro (h | h | h)
    · exact .inl (.inl (e1.1 h))
    · exact .inl (.inr (e2.1 h))
    · exact .inr (e3.1 h)
theorem isPd_bad {s : ByteArray} {k : Nat} (hk : k < s.size) (h : ¬ fsg (s[k].toNat : Int)) : isPd s = false := by
  have : s.data.toList.all psgn = false := by
    rw [List.all_eq_false]
    refine ⟨s[k], ?_, fun e => h ((psgn_iff _).1 e)⟩
    have : s[k] = s.data.toList[k]'(by simpa using hk) := rfl
    rw [this]; exact List.getElem_mem _
  simp [isPd, this]
theorem isPd_all {s : ByteArray} (h1 : 1 ≤ s.size) (h2 : s.size ≤ 9) (h : ∀ j, (hj : j < s.size) → fsg (s[j].toNat : Int)) : isPd s = true := by
  have : s.data.toList.all psgn = true := by
    rw [List.all_eq_true]
    intro x hx
    obtain ⟨j, hj, rfl⟩ := List.getElem_of_mem hx
    have hj' : j < s.size := by simpa using hj
    exact (psgn_iff _).2 (h j hj')
  simp [isPd, this, h1, h2]
theorem isPd_in {s : ByteArray} (h : isPd s = true) : 1 ≤ s.size ∧ s.size ≤ 9 ∧ ∀ j, (hj : j < s.size) → fsg (s[j].toNat : Int) := by
  simp only [isPd, Bool.and_eq_true, decide_eq_true_eq, List.all_eq_true] at h
  refine ⟨h.1.1, h.1.2, fun j hj => (psgn_iff _).1 (h.2 _ ?_)⟩
  have : s[j] = s.data.toList[j]'(by simpa using hj) := rfl
  rw [this]; exact List.getElem_mem _
theorem pstep {s : ByteArray} {k : Nat} {hlt : k < s.size} (h : ∀ j, j < k → (hj : j < s.size) → fsg (s[j].toNat : Int))
    (g : fsg (s[k].toNat : Int)) : ∀ j, j < k + 1 → (hj : j < s.size) → fsg (s[j].toNat : Int) := by
  intro j hj hj'
  by_cases e : j = k
  · subst e; exact g
  · exact h j (by omega) hj'


set_option maxHeartbeats 1000000 in
theorem implIsPond (s : ByteArray) (w : World) (hs : s.size ≤ maxLen) :
    Calls Try.prog 26 #[.string s] w fun e w' => e = .returned (.bool (isPd s)) ∧ w = w' := by
  unfold maxLen at hs
  by_cases h1 : s.size < 1
  · go_enter Try.func26, Try.ntmps26
    go_wp2
    go_ret
    exact ⟨ret_bool (isPd_out (.inl h1)).symm, rfl⟩
  by_cases h2 : 9 < s.size
  · go_enter Try.func26, Try.ntmps26
    go_wp2
    go_ret
    exact ⟨ret_bool (isPd_out (.inr h2)).symm, rfl⟩
  · go_enter Try.func26, Try.ntmps26
    go_wp2
    go_loop [14] (fun i => ∃ k : Nat, k ≤ s.size ∧ i = .int .i64 k ∧ ∀ j, j < k → (hj : j < s.size) → fsg (s[j].toNat : Int)) (fun i => s.size - (intOf i).toNat)
    case atStart => exact ⟨0, Nat.zero_le _, rfl, fun j h => absurd h (Nat.not_lt_zero _)⟩
    case round =>
      obtain ⟨k, hk, rfl, hall0⟩ := hrel
      have hall := Lib.hid hall0
      clear hall0
      by_cases hlt : k < s.size
      · by_cases g1 : (s[k].toNat : Int) = 46
        · have G := Lib.hid g1
          go_wp2
          go_round
          case rel => exact ⟨k + 1, by omega, by go_num, pstep hall.out (.inr (.inr G.out))⟩
          case measure => simp [intOf]; omega
        by_cases g2 : (s[k].toNat : Int) = 114
        · have G := Lib.hid g2
          go_wp2
          go_round
          case rel => exact ⟨k + 1, by omega, by go_num, pstep hall.out (.inl G.out)⟩
          case measure => simp [intOf]; omega
        by_cases g3 : (s[k].toNat : Int) = 108
        · have G := Lib.hid g3
          go_wp2
          go_round
          case rel => exact ⟨k + 1, by omega, by go_num, pstep hall.out (.inr (.inl G.out))⟩
          case measure => simp [intOf]; omega
        · have G := Lib.hid (isPd_bad hlt (show ¬ fsg (s[k].toNat : Int) by unfold fsg; omega))
          have e1 : ((s[k].toNat : Int) != 46) = true := by simpa using g1
          have e2 : ((s[k].toNat : Int) != 114) = true := by simpa using g2
          have e3 : ((s[k].toNat : Int) != 108) = true := by simpa using g3
          go_wp2
          go_ret
          exact ⟨ret_bool G.out.symm, rfl⟩
      · go_wp2
        go_ret
        exact ⟨ret_bool (isPd_all (by omega) (by omega) fun j hj => hall.out j (by omega) hj).symm, rfl⟩



set_option maxHeartbeats 1000000 in
theorem specFgGood (s : ByteArray) (w : World) (hs : s.size ≤ maxLen) :
    Calls Try.prog 34 #[.string s] w fun e w' => e = .returned (.bool (isPd s)) ∧ w = w' := by
  unfold maxLen at hs
  by_cases h0 : s.size < 1 ∨ 9 < s.size
  · have g := inB_no (n := (s.size : Int)) (lo := 1) (hi := 9) (by omega)
    go_enter Try.func34, Try.ntmps34
    go_wp2_with (go_at_call 42; refine (l1In _ _ _ _).mono ?_; rintro e w' ⟨rfl, rfl⟩)
    go_ret
    exact ⟨ret_bool (isPd_out h0).symm, rfl⟩
  · have g := inB_yes (n := (s.size : Int)) (lo := 1) (hi := 9) (by omega) (by omega)
    go_enter Try.func34, Try.ntmps34
    go_wp2_with (go_at_call 42; refine (l1In _ _ _ _).mono ?_; rintro e w' ⟨rfl, rfl⟩)
    go_loop [3] (fun i => ∃ k : Nat, k ≤ s.size ∧ i = .int .i64 k ∧ ∀ j, j < k → (hj : j < s.size) → fsg (s[j].toNat : Int)) (fun i => s.size - (intOf i).toNat)
    case atStart => exact ⟨0, Nat.zero_le _, rfl, fun j h => absurd h (Nat.not_lt_zero _)⟩
    case round =>
      obtain ⟨k, hk, rfl, hall0⟩ := hrel
      have hall := Lib.hid hall0
      clear hall0
      by_cases hlt : k < s.size
      · by_cases g1 : (s[k].toNat : Int) = 114
        · have G := Lib.hid g1
          go_wp2
          go_round
          case rel => exact ⟨k + 1, by omega, by go_num, pstep hall.out (.inl G.out)⟩
          case measure => simp [intOf]; omega
        by_cases g2 : (s[k].toNat : Int) = 108
        · have G := Lib.hid g2
          go_wp2
          go_round
          case rel => exact ⟨k + 1, by omega, by go_num, pstep hall.out (.inr (.inl G.out))⟩
          case measure => simp [intOf]; omega
        by_cases g3 : (s[k].toNat : Int) = 46
        · have G := Lib.hid g3
          go_wp2
          go_round
          case rel => exact ⟨k + 1, by omega, by go_num, pstep hall.out (.inr (.inr G.out))⟩
          case measure => simp [intOf]; omega
        · have G := Lib.hid (isPd_bad hlt (show ¬ fsg (s[k].toNat : Int) by unfold fsg; omega))
          have e1 : ((s[k].toNat : Int) != 46) = true := by simpa using g3
          have e2 : ((s[k].toNat : Int) != 114) = true := by simpa using g1
          have e3 : ((s[k].toNat : Int) != 108) = true := by simpa using g2
          go_wp2
          go_ret
          exact ⟨ret_bool G.out.symm, rfl⟩
      · go_wp2
        go_ret
        exact ⟨ret_bool (isPd_all (by omega) (by omega) fun j hj => hall.out j (by omega) hj).symm, rfl⟩

end Go.Proofs.Ytcpipacombnhdaa
