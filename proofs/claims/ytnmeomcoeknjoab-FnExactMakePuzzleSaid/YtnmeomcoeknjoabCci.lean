/- impl.CountCrossings, impl.CountByLeaps. -/
import Derived.Test.YtnmeomcoeknjoabCbl
namespace Go.Proofs.Ytnmeomcoeknjoab
set_option linter.unusedVariables false
set_option maxRecDepth 100000
open Go.RowKit

theorem run_ix42 (h : Nat → Nat) {j : Nat} (hj : j < 42) (w : World) : (Instr.index 113 (.agg (arrV h)) (.int .i64 (j : Int))).run Try.prog w = .ok (.int .i64 (h j : Int)) w := by
  have h2 : (0 : Int) ≤ j ∧ (j : Int) < ((42 : Nat) : Int) := by omega
  simp [Instr.index, run_underlying und42, asIntOf, h2, go_sem, arrV_get hj, hj]
attribute [local go_sem] run_ix42
theorem sumK_s (s : ByteArray) (L p k : Nat) : sumK s L p (k + 1) = sumK s L p k + waysK s L k p := by
  unfold sumK; rw [sumN_s, Nat.zero_add]
theorem sumK_lim {s : ByteArray} {L p k : Nat} (hp : p ≤ 41) (hk : k ≤ 42) : sumK s L p k ≤ 92358976733184 := by
  have h := sumK_big (s := s) (L := L) hp k
  have : 2199023255552 * k ≤ 2199023255552 * 42 := Nat.mul_le_mul_left _ hk
  omega
/-- how many crossings there are -/
def total (s : ByteArray) (L : Nat) : Nat := sumK s L (s.size + 1) (s.size + 2)
theorem total_42 {s : ByteArray} (L : Nat) (hz : s.size ≤ 40) : sumK s L (s.size + 1) 42 = total s L := sumK_end (by omega) (by omega)
def crossV (s : ByteArray) (L : Int) : Value := if asked s L then .tuple #[.int .i64 (total s L.toNat : Int), .bool true] else .tuple #[.int .i64 0, .bool false]
theorem crossV_no {s : ByteArray} {L : Int} (h : asked s L = false) : crossV s L = .tuple #[.int .i64 0, .bool false] := by simp [crossV, h]
theorem crossV_yes {s : ByteArray} {L : Nat} (h : asked s (L : Int) = true) : crossV s (L : Int) = .tuple #[.int .i64 (total s L : Int), .bool true] := by simp [crossV, h]
theorem crossV_form (s : ByteArray) (L : Int) : ∃ x z, crossV s L = .tuple #[.int .i64 x, .bool z] := by unfold crossV; split <;> exact ⟨_, _, rfl⟩
/-- how many have just k leaps -/
def justV (s : ByteArray) (L k : Int) : Value := if asked s L && inB k 0 41 then .tuple #[.int .i64 (waysK s L.toNat k.toNat (s.size + 1) : Int), .bool true] else .tuple #[.int .i64 0, .bool false]
theorem justV_1 {s : ByteArray} {L k : Int} (h : asked s L = false) : justV s L k = .tuple #[.int .i64 0, .bool false] := by simp [justV, h]
theorem justV_2 {s : ByteArray} {L k : Int} (h : inB k 0 41 = false) : justV s L k = .tuple #[.int .i64 0, .bool false] := by simp [justV, h]
theorem justV_yes {s : ByteArray} {L k : Nat} (h : asked s (L : Int) = true) (h2 : inB (k : Int) 0 41 = true) : justV s (L : Int) (k : Int) = .tuple #[.int .i64 (waysK s L k (s.size + 1) : Int), .bool true] := by simp [justV, h, h2]
theorem justV_form (s : ByteArray) (L k : Int) : ∃ x z, justV s L k = .tuple #[.int .i64 x, .bool z] := by unfold justV; split <;> exact ⟨_, _, rfl⟩

theorem upTo (n : Nat) (w : World) (h : n ≤ 1000000000000000) :
    Calls Try.prog 92 #[.int .i64 (n : Int)] w fun e w' => e = .returned (.tuple #[.int .i64 (n : Int), .bool true]) ∧ w = w' := by
  have h2 : ¬ (1000000000000000 : Int) < (n : Int) := by omega
  go_enter Try.func92, Try.ntmps92
  go_wp2
  go_ret2
  exact ⟨rfl, rfl⟩

set_option maxHeartbeats 2000000 in
theorem implCross (s : ByteArray) (L : Int) (w : World) (hs : s.size ≤ 1048576) :
    Calls Try.prog 78 #[.string s, .int .i64 L] w fun e w' => e = .returned (crossV s L) ∧ Below w.heap.size w w' := by
  cases ha : asked s L
  · have J := Lib.hid (crossV_no ha)
    have G := Lib.hid ha
    clear ha
    go_enter Try.func78, Try.ntmps78
    go_wp2_with (go_at_call 90; refine (implAsked _ _ _ hs).mono ?_; rintro e w' ⟨rfl, rfl⟩; rw [G.out])
    go_ret2
    exact ⟨ret_w J.out.symm, Below.refl _ _⟩
  · obtain ⟨hv, hz1, hz2, hL1, hL2⟩ := asked_out ha
    obtain ⟨l, rfl⟩ : ∃ l : Nat, L = (l : Int) := ⟨L.toNat, by omega⟩
    have J := Lib.hid (crossV_yes ha)
    have G := Lib.hid ha
    have T := Lib.hid (total_42 l hz2)
    have LIM := Lib.hid (fun k hk => sumK_lim (s := s) (L := l) (p := s.size + 1) (k := k) (by omega) hk)
    have BIG := Lib.hid (fun k => waysK_big (s := s) (L := l) (k := k) (p := s.size + 1) (by omega))
    have ST := Lib.hid (sumK_s s l (s.size + 1))
    clear ha hv
    go_enter Try.func78, Try.ntmps78
    go_wp2_with (first
      | (go_at_call 90; refine (implAsked _ _ _ hs).mono ?_; rintro e w' ⟨rfl, rfl⟩; rw [G.out])
      | (go_at_call 91; refine (byLeaps s l _ hz2 (by omega)).mono ?_; rintro e w1 ⟨rfl, hB⟩))
    go_loopw [6, 16] (fun x i wr => ∃ j : Nat, j ≤ 42 ∧ i = .int .i64 j ∧ x = .int .i64 ((sumK s l (s.size + 1) j : Nat) : Int) ∧ wr = w1) (fun _ i _ => 42 - (intOf i).toNat)
    case atStart => exact ⟨0, by omega, rfl, rfl, rfl⟩
    case round =>
      obtain ⟨j, hj, rfl, rfl, rfl⟩ := hrel
      by_cases hlt : j < 42
      · have hji : (j : Int) < 42 := by omega
        have c := arrV_get (h := cnt s l) hlt
        have hb1 := LIM.out j hj
        have hb2 := BIG.out j
        have hb3 : cnt s l j ≤ 2199023255552 := hb2
        have E := Lib.hid (show wrap64 (((sumK s l (s.size + 1) j : Nat) : Int) + ((cnt s l j : Nat) : Int)) = ((sumK s l (s.size + 1) (j + 1) : Nat) : Int) by
          rw [ST.out]
          have e : waysK s l j (s.size + 1) = cnt s l j := rfl
          rw [e]; unfold wrap64; omega)
        clear hb1 hb2 hb3
        go_wp2
        go_roundw
        case rel => exact ⟨j + 1, by omega, by go_num, by rw [E.out], by trivial⟩
        case measure => (simp [intOf]; try omega)
      · obtain rfl : j = 42 := by omega
        rw [T.out]
        have hb := LIM.out 42 (Nat.le_refl _)
        rw [T.out] at hb
        go_wp2_with (go_at_call 92; refine (upTo _ _ (by omega)).mono ?_; rintro e w' ⟨rfl, rfl⟩)
        go_ret2
        exact ⟨ret_w J.out.symm, hB⟩
end Go.Proofs.Ytnmeomcoeknjoab
