/- IsStrong, both sides; spec.siGood. -/
import Derived.Test.YtmlokapbholeoacRv
import Derived.Test.YtmlokapbholeoacSd
namespace Go.Proofs.Ytmlokapbholeoac
set_option linter.unusedVariables false
open Go.RowKit

theorem dstep {s : ByteArray} {k : Nat} {hlt : k < s.size} (h : ∀ j, j < k → (hj : j < s.size) → 48 ≤ s[j].toNat ∧ s[j].toNat ≤ 57)
    (g : 48 ≤ s[k].toNat ∧ s[k].toNat ≤ 57) : ∀ j, j < k + 1 → (hj : j < s.size) → 48 ≤ s[j].toNat ∧ s[j].toNat ≤ 57 := by
  intro j hj hj'
  by_cases e : j = k
  · subst e; exact g
  · exact h j (by omega) hj'

set_option maxHeartbeats 400000 in
theorem implIsStrong (s : ByteArray) (w : World) (hs : s.size ≤ maxLen) :
    Calls Try.prog 37 #[.string s] w fun e w' => e = .returned (.bool (isSt s)) ∧ w = w' := by
  unfold maxLen at hs
  by_cases h1 : s.size < 1
  · go_enter Try.func37, Try.ntmps37
    go_wp2
    go_ret
    exact ⟨ret_bool (isSt_out (.inl h1)).symm, rfl⟩
  by_cases h2 : 20 < s.size
  · go_enter Try.func37, Try.ntmps37
    go_wp2
    go_ret
    exact ⟨ret_bool (isSt_out (.inr h2)).symm, rfl⟩
  · go_enter Try.func37, Try.ntmps37
    go_wp2
    go_loop [14] (fun i => ∃ k : Nat, k ≤ s.size ∧ i = .int .i64 k ∧ Hid (∀ j, j < k → (hj : j < s.size) → 48 ≤ s[j].toNat ∧ s[j].toNat ≤ 57)) (fun i => s.size - (intOf i).toNat)
    case atStart => exact ⟨0, Nat.zero_le _, rfl, Lib.hid fun j h => absurd h (Nat.not_lt_zero _)⟩
    case round =>
      obtain ⟨k, hk, rfl, hall⟩ := hrel
      by_cases hlt : k < s.size
      · have hY := Lib.hid (fun g => dstep (hlt := hlt) hall.out g)
        have hN := Lib.hid (fun g => isSt_bad (s := s) hlt g)
        by_cases h3 : s[k].toNat < 48
        · have R := Lib.hid (hN.out (.inl h3))
          have h3' : (s[k].toNat : Int) < 48 := by omega
          clear hN hY
          go_wp2
          go_ret
          exact ⟨ret_bool R.out.symm, rfl⟩
        by_cases h4 : 57 < s[k].toNat
        · have R := Lib.hid (hN.out (.inr h4))
          have h3' : ¬ (s[k].toNat : Int) < 48 := by omega
          have h4' : (57 : Int) < s[k].toNat := by omega
          clear hN hY
          go_wp2
          go_ret
          exact ⟨ret_bool R.out.symm, rfl⟩
        · have R := Lib.hid (hY.out (by omega))
          have h3' : ¬ (s[k].toNat : Int) < 48 := by omega
          have h4' : ¬ (57 : Int) < s[k].toNat := by omega
          clear hN hY
          go_wp2
          go_round
          case rel => exact ⟨k + 1, by omega, by go_num, R⟩
          case measure => simp [intOf]; omega
      · obtain rfl : k = s.size := by omega
        go_wp2
        go_ret
        exact ⟨ret_bool (isSt_all (by omega) (by omega) fun j hj => hall.out j (by omega) hj).symm, rfl⟩
end Go.Proofs.Ytmlokapbholeoac
