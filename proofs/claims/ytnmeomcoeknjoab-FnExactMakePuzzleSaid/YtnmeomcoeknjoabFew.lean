/- spec.rvCan, spec.FewestLeaps, impl.FewestLeaps. -/
import Derived.Test.YtnmeomcoeknjoabLeft
namespace Go.Proofs.Ytnmeomcoeknjoab
set_option linter.unusedVariables false
open Go.RowKit

def fewV (s : ByteArray) (L : Int) : Value := if asked s L ∧ 0 ≤ gt (leftL s L) 0 then .tuple #[.int .i64 (gt (leftL s L) 0), .bool true] else .tuple #[.int .i64 0, .bool false]
theorem fewV_1 {s : ByteArray} {L : Int} (h : asked s L = false) : fewV s L = .tuple #[.int .i64 0, .bool false] := by simp [fewV, h]
theorem fewV_2 {s : ByteArray} {L : Int} (h : gt (leftL s L) 0 < 0) : fewV s L = .tuple #[.int .i64 0, .bool false] := by
  have : ¬ (asked s L = true ∧ 0 ≤ gt (leftL s L) 0) := by omega
  simp [fewV]; omega
theorem fewV_3 {s : ByteArray} {L : Int} (h : asked s L = true) (h' : 0 ≤ gt (leftL s L) 0) : fewV s L = .tuple #[.int .i64 (gt (leftL s L) 0), .bool true] := by simp [fewV, h, h']
theorem fewV_form (s : ByteArray) (L : Int) : ∃ x y, fewV s L = .tuple #[.int .i64 x, .bool y] := by
  unfold fewV; split <;> exact ⟨_, _, rfl⟩
theorem leftL_pos {s : ByteArray} {L : Int} (h : asked s L = true) : 0 < (leftL s L).length := by
  rw [leftL_yes h, lefts, lvl_len]; omega
theorem leftL_small {s : ByteArray} {L : Int} (h : asked s L = true) : -1 ≤ gt (leftL s L) 0 ∧ gt (leftL s L) 0 ≤ 41 := by
  have h2 := (asked_out h).2.2.1
  have := lvl_small s L.toNat (s.size + 1) (s.size + 1) 0
  rw [leftL_yes h, lefts]; omega

theorem implFew (s : ByteArray) (L : Int) (w : World) (hs : s.size ≤ 1048576) :
    Calls Try.prog 76 #[.string s, .int .i64 L] w fun e w' => e = .returned (fewV s L) ∧ Below w.heap.size w w' := by
  have I := fun wx => implLeft s L wx hs
  cases h1 : asked s L
  · have J := Lib.hid (fewV_1 h1)
    rw [h1, leftL_no h1] at I
    have G := Lib.hid h1
    have HI := Lib.hid I
    clear h1 I
    go_enter Try.func76, Try.ntmps76
    go_wp2_with (go_at_call 87; refine (HI.out _).mono ?_; rintro e w1 ⟨v, rfl, hI, hb1⟩)
    go_ret2
    exact ⟨ret_v J.out.symm, hb1⟩
  · rw [h1] at I
    have hp := leftL_pos h1
    have hsm := leftL_small h1
    have HI := Lib.hid I
    have J1 := fun h2 => fewV_2 (s := s) (L := L) h2
    have J2 := fun h2 => fewV_3 (s := s) (L := L) h1 h2
    clear I h1
    generalize leftL s L = zs at *
    by_cases h2 : 0 ≤ gt zs 0
    · have J := Lib.hid (J2 h2)
      have h3 : ¬ (gt zs 0 < 0) := by omega
      clear J1 J2
      go_enter Try.func76, Try.ntmps76
      go_wp2_with (go_at_call 87; refine (HI.out _).mono ?_; rintro e w1 ⟨v, rfl, hI, hb1⟩; obtain ⟨g, n, cap, rfl, hn, _, _, _, _, hcell⟩ := hI.form hp; have hc := hcell 0 (by omega); clear hcell hI; have HN := Lib.hid hn; have hn0 : 0 < n := (by omega); clear hn)
      go_ret2
      exact ⟨ret_v J.out.symm, hb1⟩
    · have J := Lib.hid (J1 (by omega))
      have h3 : gt zs 0 < 0 := by omega
      clear J1 J2
      go_enter Try.func76, Try.ntmps76
      go_wp2_with (go_at_call 87; refine (HI.out _).mono ?_; rintro e w1 ⟨v, rfl, hI, hb1⟩; obtain ⟨g, n, cap, rfl, hn, _, _, _, _, hcell⟩ := hI.form hp; have hc := hcell 0 (by omega); clear hcell hI; have HN := Lib.hid hn; have hn0 : 0 < n := (by omega); clear hn)
      go_ret2
      exact ⟨ret_v J.out.symm, hb1⟩
end Go.Proofs.Ytnmeomcoeknjoab
