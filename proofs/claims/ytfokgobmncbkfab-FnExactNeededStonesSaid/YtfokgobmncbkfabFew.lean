/- spec.rvCan, spec.FewestLeaps, impl.FewestLeaps. -/
import Derived.Test.YtfokgobmncbkfabLeft
namespace Go.Proofs.Ytfokgobmncbkfab
set_option linter.unusedVariables false
open Go.RowKit

def fewV (s : ByteArray) (L : Int) : Value := if asked s L ∧ 0 ≤ gt (leftL s L) 0 then .tuple #[.int .i64 (gt (leftL s L) 0), .bool true] else .tuple #[.int .i64 0, .bool false]
theorem fewV_1 {s : ByteArray} {L : Int} (h : asked s L = false) : fewV s L = .tuple #[.int .i64 0, .bool false] := by simp [fewV, h]
theorem fewV_2 {s : ByteArray} {L : Int} (h : gt (leftL s L) 0 < 0) : fewV s L = .tuple #[.int .i64 0, .bool false] := by
  have : ¬ (asked s L = true ∧ 0 ≤ gt (leftL s L) 0) := by omega
  simp [fewV]; omega
theorem fewV_3 {s : ByteArray} {L : Int} (h : asked s L = true) (h' : 0 ≤ gt (leftL s L) 0) : fewV s L = .tuple #[.int .i64 (gt (leftL s L) 0), .bool true] := by simp [fewV, h, h']
theorem fewV_form (s : ByteArray) (L : Int) : ∃ x y, fewV s L = .tuple #[.int .i64 x, .bool y] := by
  unfold fewV; split <;> exact ⟨_, _, rfl⟩
theorem leftL_pos {s : ByteArray} {L : Int} (h : asked s L = true) : 0 < (leftL s L).length := by
  rw [leftL_yes h, lefts, lvl_len]; omega
theorem leftL_small {s : ByteArray} {L : Int} (h : asked s L = true) : -1 ≤ gt (leftL s L) 0 ∧ gt (leftL s L) 0 ≤ 41 := by
  have h2 := (asked_out h).2.2.1
  have := lvl_small s L.toNat (s.size + 1) (s.size + 1) 0
  rw [leftL_yes h, lefts]; omega

theorem specCan (s : ByteArray) (L : Int) (w : World) (h : asked s L = true) :
    Calls Try.prog 38 #[.string s, .int .i64 L] w fun e w' => e = .returned (.bool (decide (0 ≤ gt (leftL s L) 0))) ∧ Below w.heap.size w w' := by
  obtain ⟨_, hz1, hz2, hl1, hl2⟩ := asked_out h
  have hp := leftL_pos h
  have J := Lib.hid (leftL_yes h)
  obtain ⟨l, rfl⟩ := Int.eq_ofNat_of_zero_le (show 0 ≤ L by omega)
  clear h
  have e0 : gt (leftL s l) 0 = gt (lefts s l) 0 := by rw [J.out]; rfl
  rw [e0]
  have hp' : 0 < (lefts s l).length := by rw [J.out] at hp; exact hp
  have H0 := Lib.hid e0
  clear e0 hp
  go_enter Try.func38, Try.ntmps38
  go_wp2_with (go_at_call 42; refine (specRvLeft s l _ hz1 hz2 (by omega) (by omega)).mono ?_; rintro e w1 ⟨v, rfl, hI, hb⟩; obtain ⟨g, n, cap, rfl, hn, _, _, _, _, hcell⟩ := hI.form hp'; have hc := hcell 0 (by omega); clear hcell hI; have HN := Lib.hid hn; have hn0 : 0 < n := (by omega); clear hn)
  go_ret
  exact ⟨ret_bool rfl, hb⟩

end Go.Proofs.Ytfokgobmncbkfab
