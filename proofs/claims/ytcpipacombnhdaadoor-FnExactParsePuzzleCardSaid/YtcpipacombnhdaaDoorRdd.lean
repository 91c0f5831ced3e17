/- spec.l1Read, over Prd. -/
import Derived.Test.YtcpipacombnhdaaDoorSpd
import Derived.Test.YtcpipacombnhdaaDoorRv
namespace Go.Proofs.YtcpipacombnhdaaDoor
set_option linter.unusedVariables false
open Go.RowKit

set_option maxHeartbeats 4000000 in
theorem readLoop (x : ByteArray) (w : World) (h1 : 1 ≤ x.size) (h6 : x.size ≤ 6) (hz : ¬ (((x[0]'h1).toNat : Int) = 48 ∧ 1 < x.size)) :
    Calls Tryd.prog 42 #[.string x] w fun e w' => e = .returned (.int .i64 (rdW x.data.toList)) ∧ w = w' := by
  have SZ : x.data.toList.length = x.size := by rw [Array.length_toList]; rfl
  have HSZ := Lib.hid SZ
  have hin : inB (x.size : Int) 1 6 = true := inB_yes (by omega) (by omega)
  have HIN := Lib.hid hin
  have hhead : x.data.toList.head? = some (x[0]'h1) := by
    rw [List.head?_eq_getElem?, List.getElem?_eq_getElem (by rw [SZ]; exact h1)]
    rfl
  have hz2 : ¬ (x.data.toList.head? = some 48 ∧ 1 < x.data.toList.length) := by
    rintro ⟨a, b⟩
    rw [hhead] at a
    have := Option.some.inj a
    refine hz ⟨?_, by omega⟩
    rw [this]; rfl
  have RV := Lib.hid (rdW_val (w := x.data.toList) (by omega) (by omega) hz2)
  clear SZ hin hhead hz2
  by_cases h0 : ((x[0]'h1).toNat : Int) = 48
  · have hs1 : ¬ (1 : Int) < (x.size : Int) := by omega
    clear hz
    go_enter Tryd.func42, Tryd.ntmps42
    go_wp2_with (go_at_call 47; refine (l1In _ _ _ _).mono ?_; rintro e w' ⟨rfl, rfl⟩; rw [HIN.out])
    go_loopw [3, 4] (fun n i wr => ∃ (k a : Nat), k ≤ x.size ∧ i = .int .i64 k ∧ n = .int .i64 a ∧ a < 10 ^ k ∧ Hid (val 0 (x.data.toList.take k) = some a) ∧ wr = w) (fun _ i _ => x.size - (intOf i).toNat)
    case atStart => exact ⟨0, 0, Nat.zero_le _, rfl, rfl, by decide, Lib.hid rfl, rfl⟩
    case round =>
      obtain ⟨k, a, hk, rfl, rfl, ha, HV, rfl⟩ := hrel
      by_cases hlt : k < x.size
      · have hlt' : (k : Int) < x.size := by omega
        have hkl : k < x.data.toList.length := by rw [HSZ.out]; exact hlt
        have hel : x.data.toList[k] = x[k]'hlt := rfl
        have hpow : 10 ^ (k + 1) = 10 * 10 ^ k := by rw [Nat.pow_succ]; omega
        have hp6 : 10 ^ k ≤ 10 ^ 6 := Nat.pow_le_pow_right (by decide) (by omega)
        have hlt256 := UInt8.toNat_lt (x[k]'hlt)
        obtain ⟨c, hc⟩ : ∃ c : Nat, c = (x[k]'hlt).toNat := ⟨_, rfl⟩
        have ha6 : a ≤ 1000000 := by have : (10 : Nat) ^ 6 = 1000000 := by decide
                                     omega
        by_cases hlo : c < 48
        · have B := Lib.hid (val_bad hkl HV.out (by rw [hel, ← hc]; omega))
          have R := Lib.hid (show rdW x.data.toList = -1 by rw [RV.out, B.out])
          have hg : ((x[k]'hlt).toNat : Int) < 48 := by omega
          clear hpow hp6 hel HV ha
          go_wp2
          go_ret
          exact ⟨ret_w (by rw [R.out]; rfl), rfl⟩
        · by_cases hhi : 57 < c
          · have B := Lib.hid (val_bad hkl HV.out (by rw [hel, ← hc]; omega))
            have R := Lib.hid (show rdW x.data.toList = -1 by rw [RV.out, B.out])
            have hg : ¬ ((x[k]'hlt).toNat : Int) < 48 := by omega
            have hg2 : (57 : Int) < ((x[k]'hlt).toNat : Int) := by omega
            clear hpow hp6 hel HV ha
            go_wp2
            go_ret
            exact ⟨ret_w (by rw [R.out]; rfl), rfl⟩
          · have ST := Lib.hid (val_step hkl HV.out (by rw [hel, ← hc]; omega))
            have E2 : (x.data.toList[k]).toNat = c := by rw [hel, hc]
            rw [E2] at ST
            have hg : ¬ ((x[k]'hlt).toNat : Int) < 48 := by omega
            have hg2 : ¬ (57 : Int) < ((x[k]'hlt).toNat : Int) := by omega
            have ha2 : 10 * a + (c - 48) < 10 ^ (k + 1) := by omega
            have hv : ((x[k]'hlt).toNat : Int) = (c : Int) := by omega
            have HA2 := Lib.hid ha2
            have HN := Lib.hid (show 10 * (a : Int) + ((c : Int) - 48) = ((10 * a + (c - 48) : Nat) : Int) by omega)
            have hcb : 48 ≤ (c : Int) ∧ (c : Int) ≤ 57 := by omega
            clear hpow hp6 hel HV ha ha2 hc E2 hkl
            go_wp2
            go_roundw
            case rel => exact ⟨k + 1, 10 * a + (c - 48), by omega, by go_num, by rw [← HN.out], HA2.out, ST, by trivial⟩
            case measure => (simp [intOf]; try omega)
      · obtain rfl : k = x.size := by omega
        have FV := Lib.hid (show rdW x.data.toList = (a : Int) by
          rw [RV.out]
          have := HV.out
          rw [List.take_of_length_le (by rw [HSZ.out]; exact Nat.le_refl _)] at this
          rw [this])
        go_wp2
        go_ret
        exact ⟨ret_w (by rw [FV.out]; rfl), rfl⟩
  · clear hz
    go_enter Tryd.func42, Tryd.ntmps42
    go_wp2_with (go_at_call 47; refine (l1In _ _ _ _).mono ?_; rintro e w' ⟨rfl, rfl⟩; rw [HIN.out])
    go_loopw [3, 4] (fun n i wr => ∃ (k a : Nat), k ≤ x.size ∧ i = .int .i64 k ∧ n = .int .i64 a ∧ a < 10 ^ k ∧ Hid (val 0 (x.data.toList.take k) = some a) ∧ wr = w) (fun _ i _ => x.size - (intOf i).toNat)
    case atStart => exact ⟨0, 0, Nat.zero_le _, rfl, rfl, by decide, Lib.hid rfl, rfl⟩
    case round =>
      obtain ⟨k, a, hk, rfl, rfl, ha, HV, rfl⟩ := hrel
      by_cases hlt : k < x.size
      · have hlt' : (k : Int) < x.size := by omega
        have hkl : k < x.data.toList.length := by rw [HSZ.out]; exact hlt
        have hel : x.data.toList[k] = x[k]'hlt := rfl
        have hpow : 10 ^ (k + 1) = 10 * 10 ^ k := by rw [Nat.pow_succ]; omega
        have hp6 : 10 ^ k ≤ 10 ^ 6 := Nat.pow_le_pow_right (by decide) (by omega)
        have hlt256 := UInt8.toNat_lt (x[k]'hlt)
        obtain ⟨c, hc⟩ : ∃ c : Nat, c = (x[k]'hlt).toNat := ⟨_, rfl⟩
        have ha6 : a ≤ 1000000 := by have : (10 : Nat) ^ 6 = 1000000 := by decide
                                     omega
        by_cases hlo : c < 48
        · have B := Lib.hid (val_bad hkl HV.out (by rw [hel, ← hc]; omega))
          have R := Lib.hid (show rdW x.data.toList = -1 by rw [RV.out, B.out])
          have hg : ((x[k]'hlt).toNat : Int) < 48 := by omega
          clear hpow hp6 hel HV ha
          go_wp2
          go_ret
          exact ⟨ret_w (by rw [R.out]; rfl), rfl⟩
        · by_cases hhi : 57 < c
          · have B := Lib.hid (val_bad hkl HV.out (by rw [hel, ← hc]; omega))
            have R := Lib.hid (show rdW x.data.toList = -1 by rw [RV.out, B.out])
            have hg : ¬ ((x[k]'hlt).toNat : Int) < 48 := by omega
            have hg2 : (57 : Int) < ((x[k]'hlt).toNat : Int) := by omega
            clear hpow hp6 hel HV ha
            go_wp2
            go_ret
            exact ⟨ret_w (by rw [R.out]; rfl), rfl⟩
          · have ST := Lib.hid (val_step hkl HV.out (by rw [hel, ← hc]; omega))
            have E2 : (x.data.toList[k]).toNat = c := by rw [hel, hc]
            rw [E2] at ST
            have hg : ¬ ((x[k]'hlt).toNat : Int) < 48 := by omega
            have hg2 : ¬ (57 : Int) < ((x[k]'hlt).toNat : Int) := by omega
            have ha2 : 10 * a + (c - 48) < 10 ^ (k + 1) := by omega
            have hv : ((x[k]'hlt).toNat : Int) = (c : Int) := by omega
            have HA2 := Lib.hid ha2
            have HN := Lib.hid (show 10 * (a : Int) + ((c : Int) - 48) = ((10 * a + (c - 48) : Nat) : Int) by omega)
            have hcb : 48 ≤ (c : Int) ∧ (c : Int) ≤ 57 := by omega
            clear hpow hp6 hel HV ha ha2 hc E2 hkl
            go_wp2
            go_roundw
            case rel => exact ⟨k + 1, 10 * a + (c - 48), by omega, by go_num, by rw [← HN.out], HA2.out, ST, by trivial⟩
            case measure => (simp [intOf]; try omega)
      · obtain rfl : k = x.size := by omega
        have FV := Lib.hid (show rdW x.data.toList = (a : Int) by
          rw [RV.out]
          have := HV.out
          rw [List.take_of_length_le (by rw [HSZ.out]; exact Nat.le_refl _)] at this
          rw [this])
        go_wp2
        go_ret
        exact ⟨ret_w (by rw [FV.out]; rfl), rfl⟩
theorem l1Read (x : ByteArray) (w : World) (hs : x.size ≤ 1000) :
    Calls Tryd.prog 42 #[.string x] w fun e w' => e = .returned (.int .i64 (rdW x.data.toList)) ∧ w = w' := by
  have SZ : x.data.toList.length = x.size := by rw [Array.length_toList]; rfl
  by_cases hin : 1 ≤ x.size ∧ x.size ≤ 6
  · by_cases hz : ((x[0]'hin.1).toNat : Int) = 48 ∧ 1 < x.size
    · have h1 := hin.1
      have hin2 : inB (x.size : Int) 1 6 = true := inB_yes (by omega) (by omega)
      have HIN := Lib.hid hin2
      have hhead : x.data.toList.head? = some 48 := by
        rw [List.head?_eq_getElem?, List.getElem?_eq_getElem (by rw [SZ]; exact h1)]
        have e : x[0]'h1 = 48 := by
          apply UInt8.toNat_inj.1
          show (x[0]'h1).toNat = 48
          have := hz.1
          omega
        exact congrArg some e
      have R := Lib.hid (rdW_zero hhead (by omega))
      have h48 : ((x[0]'h1).toNat : Int) = 48 := hz.1
      have hs1 : (1 : Int) < (x.size : Int) := by have := hz.2; omega
      clear hhead hin hz hin2 SZ
      go_enter Tryd.func42, Tryd.ntmps42
      go_wp2_with (go_at_call 47; refine (l1In _ _ _ _).mono ?_; rintro e w' ⟨rfl, rfl⟩; rw [HIN.out])
      go_ret
      exact ⟨ret_w (by rw [R.out]; rfl), rfl⟩
    · exact readLoop x w hin.1 hin.2 hz
  · have hin2 : inB (x.size : Int) 1 6 = false := inB_no (by omega)
    have HIN := Lib.hid hin2
    have R := Lib.hid (rdW_far (w := x.data.toList) (by rw [SZ]; exact hin))
    clear hin hin2 SZ
    go_enter Tryd.func42, Tryd.ntmps42
    go_wp2_with (go_at_call 47; refine (l1In _ _ _ _).mono ?_; rintro e w' ⟨rfl, rfl⟩; rw [HIN.out])
    go_ret
    exact ⟨ret_w (by rw [R.out]; rfl), rfl⟩
end Go.Proofs.YtcpipacombnhdaaDoor
