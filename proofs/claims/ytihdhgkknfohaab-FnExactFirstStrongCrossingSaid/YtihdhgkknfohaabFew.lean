/- spec.rvCan, spec.FewestLeaps, impl.FewestLeaps. -/
import Derived.Test.YtihdhgkknfohaabLeft
namespace Go.Proofs.Ytihdhgkknfohaab
set_option linter.unusedVariables false
open Go.RowKit

def fewV (s : ByteArray) (L : Int) : Value := if asked s L ∧ 0 ≤ gt (leftL s L) 0 then .tuple #[.int .i64 (gt (leftL s L) 0), .bool true] else .tuple #[.int .i64 0, .bool false]
theorem fewV_1 {s : ByteArray} {L : Int} (h : asked s L = false) : fewV s L = .tuple #[.int .i64 0, .bool false] := by simp [fewV, h]
theorem fewV_2 {s : ByteArray} {L : Int} (h : gt (leftL s L) 0 < 0) : fewV s L = .tuple #[.int .i64 0, .bool false] := by
  have : ¬ (asked s L = true ∧ 0 ≤ gt (leftL s L) 0) := by omega
  simp [fewV]; omega
theorem fewV_3 {s : ByteArray} {L : Int} (h : asked s L = true) (h' : 0 ≤ gt (leftL s L) 0) : fewV s L = .tuple #[.int .i64 (gt (leftL s L) 0), .bool true] := by simp [fewV, h, h']
theorem fewV_form (s : ByteArray) (L : Int) : ∃ x y, fewV s L = .tuple #[.int .i64 x, .bool y] := by
  unfold fewV; split <;> exact ⟨_, _, rfl⟩
theorem leftL_pos {s : ByteArray} {L : Int} (h : asked s L = true) : 0 < (leftL s L).length := by
  rw [leftL_yes h, lefts, lvl_len]; omega
theorem leftL_small {s : ByteArray} {L : Int} (h : asked s L = true) : -1 ≤ gt (leftL s L) 0 ∧ gt (leftL s L) 0 ≤ 41 := by
  have h2 := (asked_out h).2.2.1
  have := lvl_small s L.toNat (s.size + 1) (s.size + 1) 0
  rw [leftL_yes h, lefts]; omega

end Go.Proofs.Ytihdhgkknfohaab
