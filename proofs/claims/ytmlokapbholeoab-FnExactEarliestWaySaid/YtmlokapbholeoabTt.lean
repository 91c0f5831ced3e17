/- IsShore, IsTide, both sides: spec.tdText, spec.tdGood; impl.hasDigitsUpTo. -/
import Derived.Test.YtmlokapbholeoabRv
import Derived.Test.YtmlokapbholeoabTd
import Derived.Laws.RangeAny
import Derived.Lib.OthersKept
import Derived.OwnWalk
namespace Go.Proofs.Ytmlokapbholeoab
set_option linter.unusedVariables false
open Go.RowKit

set_option maxHeartbeats 400000 in
theorem tdText (s : ByteArray) (m : Nat) (w : World) (hs : s.size ≤ maxLen) (hm : m ≤ 20) :
    Calls Try.prog 53 #[.string s, .int .i64 (m : Int)] w fun e w' => e = .returned (.bool (isTx m s)) ∧ w = w' := by
  unfold maxLen at hs
  by_cases h0 : s.size < 1 ∨ m < s.size
  · have g := inB_no (n := (s.size : Int)) (lo := 1) (hi := m) (by omega)
    go_enter Try.func53, Try.ntmps53
    go_wp2_with (go_at_call 52; refine (l1In _ _ _ _).mono ?_; rintro e w' ⟨rfl, rfl⟩)
    go_ret
    exact ⟨ret_bool (isTx_out h0).symm, rfl⟩
  · have g := inB_yes (n := (s.size : Int)) (lo := 1) (hi := m) (by omega) (by omega)
    go_enter Try.func53, Try.ntmps53
    go_wp2_with (go_at_call 52; refine (l1In _ _ _ _).mono ?_; rintro e w' ⟨rfl, rfl⟩)
    go_loop [5] (fun i => ∃ k : Nat, k ≤ s.size ∧ i = .int .i64 k ∧ Hid (∀ j, j < k → (hj : j < s.size) → 48 ≤ s[j].toNat ∧ s[j].toNat ≤ 57)) (fun i => s.size - (intOf i).toNat)
    case atStart => exact ⟨0, Nat.zero_le _, rfl, Lib.hid fun j h => absurd h (Nat.not_lt_zero _)⟩
    case round =>
      obtain ⟨k, hk, rfl, hall⟩ := hrel
      by_cases hlt : k < s.size
      · have hY := Lib.hid (fun g => tstep (hlt := hlt) hall.out g)
        have hN := Lib.hid (fun g => isTx_bad (m := m) (s := s) hlt g)
        by_cases h3 : s[k].toNat < 48
        · have R := Lib.hid (hN.out (.inl h3))
          have h3' : (s[k].toNat : Int) < 48 := by omega
          clear hN hY
          go_wp2
          go_ret
          exact ⟨ret_bool R.out.symm, rfl⟩
        by_cases h4 : 57 < s[k].toNat
        · have R := Lib.hid (hN.out (.inr h4))
          have h3' : ¬ (s[k].toNat : Int) < 48 := by omega
          have h4' : (57 : Int) < s[k].toNat := by omega
          clear hN hY
          go_wp2
          go_ret
          exact ⟨ret_bool R.out.symm, rfl⟩
        · have R := Lib.hid (hY.out (by omega))
          have h3' : ¬ (s[k].toNat : Int) < 48 := by omega
          have h4' : ¬ (57 : Int) < s[k].toNat := by omega
          clear hN hY
          go_wp2
          go_round
          case rel => exact ⟨k + 1, by omega, by go_num, R⟩
          case measure => simp [intOf]; omega
      · obtain rfl : k = s.size := by omega
        go_wp2
        go_ret
        exact ⟨ret_bool (isTx_all (by omega) (by omega) fun j hj => hall.out j (by omega) hj).symm, rfl⟩
theorem tdText14 (s : ByteArray) (w : World) (hs : s.size ≤ maxLen) :
    Calls Try.prog 53 #[.string s, .int .i64 14] w fun e w' => e = .returned (.bool (isTx 14 s)) ∧ w = w' := tdText s 14 w hs (by omega)
theorem tdText12 (s : ByteArray) (w : World) (hs : s.size ≤ maxLen) :
    Calls Try.prog 53 #[.string s, .int .i64 12] w fun e w' => e = .returned (.bool (isTx 12 s)) ∧ w = w' := tdText s 12 w hs (by omega)
theorem tdGood (h t : ByteArray) (w : World) (hh : h.size ≤ maxLen) (ht : t.size ≤ maxLen) :
    Calls Try.prog 41 #[.string h, .string t] w fun e w' => e = .returned (.bool (good h t)) ∧ w = w' := by
  cases h1 : isTx 14 h
  · have R := Lib.hid (show good h t = false by simp [good, h1])
    have G := Lib.hid h1
    clear h1
    go_enter Try.func41, Try.ntmps41
    go_wp2_with (first | (go_at_call 53; refine (tdText14 _ _ hh).mono ?_; rintro e w' ⟨rfl, rfl⟩; rw [G.out]))
    go_ret
    exact ⟨ret_bool R.out.symm, rfl⟩
  · have R := Lib.hid (show good h t = isTx 12 t by simp [good, h1])
    have G := Lib.hid h1
    clear h1
    go_enter Try.func41, Try.ntmps41
    go_wp2_with (first
      | (go_at_call 53; with_reducible refine (tdText14 _ _ hh).mono ?_; rintro e w' ⟨rfl, rfl⟩; rw [G.out])
      | (go_at_call 53; with_reducible refine (tdText12 _ _ ht).mono ?_; rintro e w' ⟨rfl, rfl⟩))
    go_ret
    exact ⟨ret_bool R.out.symm, rfl⟩
set_option maxHeartbeats 1000000 in
theorem hasDigits (s : ByteArray) (m : Nat) (w : World) (hs : s.size ≤ maxLen) (hm : m ≤ 20) :
    Calls Try.prog 59 #[.int .i64 (m : Int), .string s] w fun e w' => e = .returned (.bool (isTx m s)) ∧ Below w.heap.size w w' := by
  unfold maxLen at hs
  by_cases h1 : s.size < 1
  · go_enter Try.func59, Try.ntmps59
    go_wp2
    go_ret
    exact ⟨ret_bool (isTx_out (.inl h1)).symm, Below.refl _ _⟩
  by_cases h2 : m < s.size
  · have h2' : (m : Int) < s.size := by omega
    go_enter Try.func59, Try.ntmps59
    go_wp2
    go_ret
    exact ⟨ret_bool (isTx_out (.inr h2)).symm, Below.refl _ _⟩
  · have h2' : ¬ (m : Int) < s.size := by omega
    go_enter Try.func59, Try.ntmps59
    go_wp2
    go_loopw [] (fun wr => ∃ k : Nat, k ≤ s.size ∧ wr.heap[w.heap.size]? = some (.stringIter s k) ∧ Below w.heap.size w wr ∧ Hid (∀ j, j < k → (hj : j < s.size) → 48 ≤ s[j].toNat ∧ s[j].toNat ≤ 57)) (fun wr => s.size - wr.iterPos w.heap.size)
    case atStart =>
      refine ⟨0, Nat.zero_le _, ?_, (Below.refl _ w).alloc (Nat.le_refl _) _, Lib.hid fun j h => absurd h (Nat.not_lt_zero _)⟩
      have := World.iter_heap w s 0
      simpa using this
    case round =>
      obtain ⟨k, hk, hit, hbw, hall⟩ := hrel
      have HOLD := Lib.hid hit
      by_cases hlt : k < s.size
      · by_cases hasc : s[k].toNat < 128
        · have hnx : ∀ ty, (Instr.next (.pointer (some ⟨w.heap.size, 0, none⟩)) true ty).run Try.prog wr = _ := fun ty => Lib.run_next_ascii_at wr w.heap.size s k ty hit hlt hasc
          have hit2 := Lib.iterAt_heap wr w.heap.size s k (k + 1) hit
          have hbw2 := Lib.below_iterAt hbw (k := w.heap.size) (Nat.le_refl _) s (k + 1)
          have HIT := Lib.hid hit2
          have HB := Lib.hid hbw2
          clear hit hit2 hbw2 hbw
          have hY := Lib.hid (fun g => tstep (hlt := hlt) hall.out g)
          have hN := Lib.hid (fun g => isTx_bad (m := m) (s := s) hlt g)
          by_cases h3 : s[k].toNat < 48
          · have R := Lib.hid (hN.out (.inl h3))
            have h3' : (s[k].toNat : Int) < 48 := by omega
            clear hN hY
            go_wp2
            go_ret
            exact ⟨ret_bool R.out.symm, HB.out⟩
          by_cases h4 : 57 < s[k].toNat
          · have R := Lib.hid (hN.out (.inr h4))
            have h3' : ¬ (s[k].toNat : Int) < 48 := by omega
            have h4' : (57 : Int) < s[k].toNat := by omega
            clear hN hY
            go_wp2
            go_ret
            exact ⟨ret_bool R.out.symm, HB.out⟩
          · have R := Lib.hid (hY.out (by omega))
            have h3' : ¬ (s[k].toNat : Int) < 48 := by omega
            have h4' : ¬ (57 : Int) < s[k].toNat := by omega
            clear hN hY
            go_wp2
            go_roundw
            case rel => exact ⟨k + 1, by omega, HIT.out, HB.out, R⟩
            case measure => (simp only [World.iterPos, HIT.out, HOLD.out]; omega)
        · have hnx : ∀ ty, (Instr.next (.pointer (some ⟨w.heap.size, 0, none⟩)) true ty).run Try.prog wr = _ := fun ty => Lib.run_next_any_at wr w.heap.size s k ty hit hlt
          have hd := decode_high s k hlt (by omega)
          have hl := decode_le s k
          have hbw2 := Lib.below_iterAt hbw (k := w.heap.size) (Nat.le_refl _) s (k + (Utf8.decode s k).2)
          have HB := Lib.hid hbw2
          have R := Lib.hid (isTx_bad (m := m) (s := s) hlt (.inr (by omega)))
          clear hit hbw2 hbw hall
          generalize (Utf8.decode s k).1 = r at *
          generalize (Utf8.decode s k).2 = z at *
          have h3' : ¬ (r : Int) < 48 := by omega
          have h4' : (57 : Int) < r := by omega
          go_wp2
          go_ret
          exact ⟨ret_bool R.out.symm, HB.out⟩
      · have hnx : ∀ ty, (Instr.next (.pointer (some ⟨w.heap.size, 0, none⟩)) true ty).run Try.prog wr = _ := fun ty => Lib.run_next_end_at wr w.heap.size s k ty hit hlt
        obtain rfl : k = s.size := by omega
        have R := Lib.hid (isTx_all (m := m) (by omega) (by omega) fun j hj => hall.out j (by omega) hj)
        go_wp2
        go_ret
        exact ⟨ret_bool R.out.symm, hbw⟩
theorem implIsShore (s : ByteArray) (w : World) (hs : s.size ≤ maxLen) :
    Calls Try.prog 54 #[.string s] w fun e w' => e = .returned (.bool (isTx 14 s)) ∧ Below w.heap.size w w' := by
  go_enter Try.func54, Try.ntmps54
  go_wp2_with (go_at_call 59; refine (hasDigits s 14 w hs (by omega)).mono ?_; rintro e w' ⟨rfl, hb⟩)
  go_ret
  exact ⟨rfl, hb⟩
theorem implIsTide (s : ByteArray) (w : World) (hs : s.size ≤ maxLen) :
    Calls Try.prog 55 #[.string s] w fun e w' => e = .returned (.bool (isTx 12 s)) ∧ Below w.heap.size w w' := by
  go_enter Try.func55, Try.ntmps55
  go_wp2_with (go_at_call 59; refine (hasDigits s 12 w hs (by omega)).mono ?_; rintro e w' ⟨rfl, hb⟩)
  go_ret
  exact ⟨rfl, hb⟩
end Go.Proofs.Ytmlokapbholeoab
