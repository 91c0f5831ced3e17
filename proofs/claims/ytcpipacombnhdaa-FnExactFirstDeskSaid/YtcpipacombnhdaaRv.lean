/- Contracts of the functions that tell a river: impl.IsRiver, spec.l1In, spec.rvGood, spec.IsRiver. No conditions but that a string is no longer than a string can be. -/
import Derived.Test.YtcpipacombnhdaaRows
import Derived.WalkKit
import Derived.ProofKit
import Derived.OpenShut
import Derived.WalkSpells
import Derived.WalkLawsBesides
import Derived.Lib.Hide
namespace Go.Proofs.Ytcpipacombnhdaa
open Go.RowKit

def sgn (c : UInt8) : Bool := c == 111 || c == 46
def isRv (s : ByteArray) : Bool := decide (1 ≤ s.size) && decide (s.size ≤ 40) && s.data.toList.all sgn

theorem isRv_out {s : ByteArray} (h : s.size < 1 ∨ 40 < s.size) : isRv s = false := by
  rcases h with h | h <;> simp [isRv] <;> omega

theorem toNat_eq_iff (c : UInt8) (n : Nat) (hn : n < 256) : ((c.toNat : Int) = n) ↔ c = UInt8.ofNat n := by
  constructor
  · intro h; have : c.toNat = n := by omega
    apply UInt8.toNat.inj; rw [this]; simp; omega
  · rintro rfl; simp; omega

theorem isRv_bad {s : ByteArray} {k : Nat} (hk : k < s.size) (h1 : ¬ ((s[k].toNat : Int) = 111)) (h2 : ¬ ((s[k].toNat : Int) = 46)) : isRv s = false := by
  have : s.data.toList.all sgn = false := by
    rw [List.all_eq_false]
    refine ⟨s[k], ?_, ?_⟩
    · have : s[k] = s.data.toList[k]'(by simpa using hk) := rfl
      rw [this]; exact List.getElem_mem _
    · simp only [sgn, Bool.or_eq_true, beq_iff_eq, not_or]
      refine ⟨fun e => h1 (by rw [e]; rfl), fun e => h2 (by rw [e]; rfl)⟩
  simp [isRv, this]

theorem isRv_all {s : ByteArray} (h1 : 1 ≤ s.size) (h2 : s.size ≤ 40) (h : ∀ j, (hj : j < s.size) → (s[j].toNat : Int) = 111 ∨ (s[j].toNat : Int) = 46) : isRv s = true := by
  have : s.data.toList.all sgn = true := by
    rw [List.all_eq_true]
    intro x hx
    obtain ⟨j, hj, rfl⟩ := List.getElem_of_mem hx
    have hj' : j < s.size := by simpa using hj
    have e : s.data.toList[j] = s[j] := rfl
    rcases h j hj' with g | g
    · have := (toNat_eq_iff s[j] 111 (by omega)).1 g
      rw [e, this]; rfl
    · have := (toNat_eq_iff s[j] 46 (by omega)).1 g
      rw [e, this]; rfl
  simp [isRv, this, h1, h2]

theorem step {s : ByteArray} {k : Nat} {hlt : k < s.size} (h : ∀ j, j < k → (hj : j < s.size) → (s[j].toNat : Int) = 111 ∨ (s[j].toNat : Int) = 46)
    (g : (s[k].toNat : Int) = 111 ∨ (s[k].toNat : Int) = 46) : ∀ j, j < k + 1 → (hj : j < s.size) → (s[j].toNat : Int) = 111 ∨ (s[j].toNat : Int) = 46 := by
  intro j hj hj'
  by_cases e : j = k
  · subst e; exact g
  · exact h j (by omega) hj'

theorem ret_v {a b : Value} (h : a = b) : Ending.returned a = .returned b := by rw [h]
theorem ret_bool {a b : Bool} (h : a = b) : Ending.returned (.bool a) = .returned (.bool b) := by rw [h]

set_option maxHeartbeats 400000 in
theorem implIsRiver (s : ByteArray) (w : World) (hs : s.size ≤ maxLen) :
    Calls Try.prog 25 #[.string s] w fun e w' => e = .returned (.bool (isRv s)) ∧ w = w' := by
  unfold maxLen at hs
  by_cases h1 : s.size < 1
  · go_enter Try.func25, Try.ntmps25
    go_wp2
    go_ret
    exact ⟨ret_bool (isRv_out (.inl h1)).symm, rfl⟩
  by_cases h2 : 40 < s.size
  · go_enter Try.func25, Try.ntmps25
    go_wp2
    go_ret
    exact ⟨ret_bool (isRv_out (.inr h2)).symm, rfl⟩
  · go_enter Try.func25, Try.ntmps25
    go_wp2
    go_loop [14] (fun i => ∃ k : Nat, k ≤ s.size ∧ i = .int .i64 k ∧ ∀ j, j < k → (hj : j < s.size) → (s[j].toNat : Int) = 111 ∨ (s[j].toNat : Int) = 46) (fun i => s.size - (intOf i).toNat)
    case atStart => exact ⟨0, Nat.zero_le _, rfl, fun j h => absurd h (Nat.not_lt_zero _)⟩
    case round =>
      obtain ⟨k, hk, rfl, hall0⟩ := hrel
      have hall := Lib.hid hall0
      clear hall0
      by_cases hlt : k < s.size
      · go_wp2
        · go_round
          case rel => exact ⟨k + 1, by omega, by go_num, step hall.out (.inl ‹_›)⟩
          case measure => simp [intOf]; omega
        · have g1 : ¬ ((s[k].toNat : Int) = 111) := by assumption
          have g2 := (‹((s[k].toNat : Int) != 111) = true ∧ ((s[k].toNat : Int) != 46) = true›).2
          go_ret
          exact ⟨ret_bool (isRv_bad hlt g1 (by simpa using g2)).symm, rfl⟩
        · have g1 : ¬ ((s[k].toNat : Int) = 111) := by assumption
          have g2 := (‹((s[k].toNat : Int) != 111) = false ∨ ((s[k].toNat : Int) != 46) = false›)
          go_round
          case rel => exact ⟨k + 1, by omega, by go_num, step hall.out (.inr (by simpa [g1] using g2))⟩
          case measure => simp [intOf]; omega
      · go_wp2
        go_ret
        exact ⟨ret_bool (isRv_all (by omega) (by omega) fun j hj => hall.out j (by omega) hj).symm, rfl⟩

/-- spec.l1In: whether a number lies between two others. -/
def inB (n lo hi : Int) : Bool := decide (lo ≤ n) && decide (n ≤ hi)
theorem inB_yes {n lo hi : Int} (h1 : lo ≤ n) (h2 : n ≤ hi) : inB n lo hi = true := by simp [inB, h1, h2]
theorem inB_no {n lo hi : Int} (h : n < lo ∨ hi < n) : inB n lo hi = false := by simp [inB]; omega

theorem l1In (n lo hi : Int) (w : World) :
    Calls Try.prog 42 #[.int .i64 n, .int .i64 lo, .int .i64 hi] w fun e w' => e = .returned (.bool (inB n lo hi)) ∧ w = w' := by
  by_cases h1 : n < lo
  · go_enter Try.func42, Try.ntmps42
    go_wp2
    go_ret
    exact ⟨ret_bool (by simp [inB]; omega), rfl⟩
  · by_cases h2 : hi < n
    · go_enter Try.func42, Try.ntmps42
      go_wp2
      go_ret
      exact ⟨ret_bool (by simp [inB]; omega), rfl⟩
    · go_enter Try.func42, Try.ntmps42
      go_wp2
      go_ret
      exact ⟨ret_bool (by simp [inB]; omega), rfl⟩

set_option maxHeartbeats 400000 in
theorem specRvGood (s : ByteArray) (w : World) (hs : s.size ≤ maxLen) :
    Calls Try.prog 33 #[.string s] w fun e w' => e = .returned (.bool (isRv s)) ∧ w = w' := by
  unfold maxLen at hs
  by_cases h0 : s.size < 1 ∨ 40 < s.size
  · have g := inB_no (n := (s.size : Int)) (lo := 1) (hi := 40) (by omega)
    go_enter Try.func33, Try.ntmps33
    go_wp2_with (go_at_call 42; refine (l1In _ _ _ _).mono ?_; rintro e w' ⟨rfl, rfl⟩)
    go_ret
    exact ⟨ret_bool (isRv_out h0).symm, rfl⟩
  · have g := inB_yes (n := (s.size : Int)) (lo := 1) (hi := 40) (by omega) (by omega)
    go_enter Try.func33, Try.ntmps33
    go_wp2_with (go_at_call 42; refine (l1In _ _ _ _).mono ?_; rintro e w' ⟨rfl, rfl⟩)
    go_loop [3] (fun i => ∃ k : Nat, k ≤ s.size ∧ i = .int .i64 k ∧ ∀ j, j < k → (hj : j < s.size) → (s[j].toNat : Int) = 111 ∨ (s[j].toNat : Int) = 46) (fun i => s.size - (intOf i).toNat)
    case atStart => exact ⟨0, Nat.zero_le _, rfl, fun j h => absurd h (Nat.not_lt_zero _)⟩
    case round =>
      obtain ⟨k, hk, rfl, hall0⟩ := hrel
      have hall := Lib.hid hall0
      clear hall0
      by_cases hlt : k < s.size
      · go_wp2
        · go_round
          case rel => exact ⟨k + 1, by omega, by go_num, step hall.out (.inl ‹_›)⟩
          case measure => simp [intOf]; omega
        · have g1 : ¬ ((s[k].toNat : Int) = 111) := by assumption
          have g2 := (‹((s[k].toNat : Int) != 111) = true ∧ ((s[k].toNat : Int) != 46) = true›).2
          go_ret
          exact ⟨ret_bool (isRv_bad hlt g1 (by simpa using g2)).symm, rfl⟩
        · have g1 : ¬ ((s[k].toNat : Int) = 111) := by assumption
          have g2 := (‹((s[k].toNat : Int) != 111) = false ∨ ((s[k].toNat : Int) != 46) = false›)
          go_round
          case rel => exact ⟨k + 1, by omega, by go_num, step hall.out (.inr (by simpa [g1] using g2))⟩
          case measure => simp [intOf]; omega
      · go_wp2
        go_ret
        exact ⟨ret_bool (isRv_all (by omega) (by omega) fun j hj => hall.out j (by omega) hj).symm, rfl⟩

end Go.Proofs.Ytcpipacombnhdaa
