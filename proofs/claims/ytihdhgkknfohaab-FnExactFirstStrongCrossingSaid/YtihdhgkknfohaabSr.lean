/- RiverOf, both sides; spec.siRiver. -/
import Derived.Test.YtihdhgkknfohaabBy
import Derived.Test.YtihdhgkknfohaabSv
namespace Go.Proofs.Ytihdhgkknfohaab
set_option linter.unusedVariables false
open Go.RowKit

/-- the sign of a digit -/
def rvC (c : UInt8) : UInt8 := if c = 48 then 46 else 111
theorem rvC_0 {c : UInt8} (h : (c.toNat : Int) = 48) : rvC c = 46 := by rw [(toNat_eq_iff c 48 (by omega)).1 h]; rfl
theorem rvC_1 {c : UInt8} (h : ¬ (c.toNat : Int) = 48) : rvC c = 111 := by
  have : c ≠ 48 := fun e => h (by rw [e]; rfl)
  simp [rvC, this]
def rvB (s : ByteArray) : ByteArray := mapB rvC s
def rvofV (s : ByteArray) : Value := if isSt s then .tuple #[.string (rvB s), .bool true] else .tuple #[.string ⟨#[]⟩, .bool false]
theorem rvofV_no {s : ByteArray} (h : isSt s = false) : rvofV s = .tuple #[.string ⟨#[]⟩, .bool false] := by simp [rvofV, h]
theorem rvofV_yes {s : ByteArray} (h : isSt s = true) : rvofV s = .tuple #[.string (rvB s), .bool true] := by simp [rvofV, h]
theorem rvofV_form (a : ByteArray) : ∃ s x, rvofV a = .tuple #[.string s, .bool x] := by
  unfold rvofV; split <;> exact ⟨_, _, rfl⟩
set_option maxHeartbeats 1000000 in
theorem siRiver (s : ByteArray) (w : World) (hs : s.size ≤ 20) :
    Calls Try.prog 53 #[.string s] w fun e w' => e = .returned (.string (rvB s)) ∧ w = w' := by
  go_enter Try.func53, Try.ntmps53
  go_wp2
  go_loop [3, 4] (fun out i => ∃ (k : Nat) (o : ByteArray), k ≤ s.size ∧ i = .int .i64 k ∧ out = .string o ∧ o.data.toList = (s.data.toList.take k).map rvC) (fun _ i => s.size - (intOf i).toNat)
  case atStart => exact ⟨0, ⟨#[]⟩, Nat.zero_le _, rfl, rfl, by simp⟩
  case round =>
    obtain ⟨k, o, hk, rfl, rfl, ho0⟩ := hrel
    have hsz := mapB_len hk ho0
    have ho := Lib.hid ho0
    clear ho0
    by_cases hlt : k < s.size
    · have b1 : o.size + 1 ≤ 100 := by omega
      have hlt' : (k : Int) < s.size := by omega
      by_cases hc : (s[k].toNat : Int) = 48
      · have S := Lib.hid (mapB_step hlt ho.out (rvC_0 hc))
        go_wp2
        go_round
        case rel => exact ⟨k + 1, _, by omega, by go_num, rfl, S.out⟩
        case measure => simp [intOf]; omega
      · have S := Lib.hid (mapB_step hlt ho.out (rvC_1 hc))
        go_wp2
        go_round
        case rel => exact ⟨k + 1, _, by omega, by go_num, rfl, S.out⟩
        case measure => simp [intOf]; omega
    · obtain rfl : k = s.size := by omega
      have E := Lib.hid (mapB_end ho.out)
      go_wp2
      go_ret
      exact ⟨ret_v (by rw [E.out]; rfl), rfl⟩
set_option maxHeartbeats 4000000 in
theorem implRiverOf (s : ByteArray) (w : World) (hs : s.size ≤ 1048576) :
    Calls Try.prog 42 #[.string s] w fun e w' => e = .returned (rvofV s) ∧ Below w.heap.size w w' := by
  cases h1 : isSt s
  · have J := Lib.hid (rvofV_no h1)
    have G := Lib.hid h1
    clear h1
    go_enter Try.func42, Try.ntmps42
    go_wp2_with (go_at_call 40; refine (implIsStrong _ _ (by unfold maxLen; omega)).mono ?_; rintro e w' ⟨rfl, rfl⟩; rw [G.out])
    go_ret2
    exact ⟨ret_v J.out.symm, Below.refl _ _⟩
  · have J := Lib.hid (rvofV_yes h1)
    obtain ⟨z1, z2, hal⟩ := isSt_in h1
    have hcv := run_bytes_of_string (P := Try.prog) w 9 52 5 s Try.underlying9 Try.underlying52 Try.underlying5
    have hcap := grownCap_ge w s.size 0 5
    generalize grownCap w s.size 0 5 = cap at hcv hcap
    obtain ⟨C, hC⟩ : ∃ C, C = bytesRow s cap := ⟨_, rfl⟩
    rw [← hC] at hcv
    have hCs : s.size ≤ C.size := by rw [hC]; simp [bytesRow]
    have HB0 := Lib.hid (Byts.new w hC hCs)
    have HBA := Lib.hid (((Below.refl _ _).alloc (Nat.le_refl _) _).drew : Below w.heap.size w (w.alloc (.cells C 5 (C.size, C.size + 1))).drew)
    obtain ⟨l, hl⟩ : ∃ l, l = s.data.toList := ⟨_, rfl⟩
    have HL0 := Lib.hid (show l.length = s.size by rw [hl]; simp)
    have HEND := Lib.hid (show (⟨(l.map rvC).toArray⟩ : ByteArray) = rvB s by rw [hl]; rfl)
    rw [← hl] at HB0
    have G := Lib.hid h1
    clear h1 hC hal hl
    go_enter Try.func42, Try.ntmps42
    go_wp2_with (go_at_call 40; refine (implIsStrong _ _ (by unfold maxLen; omega)).mono ?_; rintro e w' ⟨rfl, rfl⟩; rw [G.out])
    go_loopw [14] (fun i wr => ∃ k : Nat, k ≤ s.size ∧ i = .int .i64 k ∧ Byts wr w.heap.size (mapTo rvC l k) ∧ Below w.heap.size w wr) (fun i _ => s.size - (intOf i).toNat)
    case atStart => exact ⟨0, Nat.zero_le _, rfl, by rw [mapTo_0]; exact HB0.out, HBA.out⟩
    case round =>
      obtain ⟨k, hk, rfl, hB, hbw⟩ := hrel
      by_cases hlt : k < s.size
      · have hkr : k < l.length := by rw [HL0.out]; exact hlt
        obtain ⟨c1, f1⟩ := hB k (by rw [mapTo_len]; exact hkr)
        rw [mapTo_at hkr] at c1
        have S1 := hB.set (j := k) (by rw [mapTo_len]; exact hkr) 111
        have S2 := Lib.hid (S1.set (j := k) (by rw [List.length_set, mapTo_len]; exact hkr) 46)
        obtain ⟨c2, f2⟩ := S1 k (by rw [List.length_set, mapTo_len]; exact hkr)
        rw [List.set_set] at S2
        have S1' := Lib.hid S1
        have E := Lib.hid (mapTo_succ (f := rvC) hkr)
        have hki : (k : Int) < s.size := by omega
        have HB := Lib.hid hB
        have HBW := Lib.hid hbw
        clear hB hbw S1
        generalize hx : l[k] = x at *
        clear hx
        by_cases hc : (x.toNat : Int) = 48
        · have T := Lib.hid (rvC_0 hc)
          rw [hc] at c1
          clear hc
          go_wp2
          go_roundw
          case rel => exact ⟨k + 1, by omega, by go_num, by rw [← E.out, T.out]; exact S2.out, (HBW.out.setCell (Nat.le_refl _) _).setCell (Nat.le_refl _) _⟩
          case measure => (simp [intOf]; try omega)
        · have T := Lib.hid (rvC_1 hc)
          go_wp2
          go_roundw
          case rel => exact ⟨k + 1, by omega, by go_num, by rw [← E.out, T.out]; exact S1'.out, HBW.out.setCell (Nat.le_refl _) _⟩
          case measure => (simp [intOf]; try omega)
      · obtain rfl : k = s.size := by omega
        rw [mapTo_end rvC (by rw [HL0.out]; exact Nat.le_refl _)] at hB
        have hb := fun x => hB.back x
        rw [List.length_map, HL0.out, HEND.out] at hb
        have HBW := Lib.hid hbw
        clear hB hbw
        go_wp2
        go_ret2
        exact ⟨ret_v J.out.symm, HBW.out⟩
end Go.Proofs.Ytihdhgkknfohaab
