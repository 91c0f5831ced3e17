/- Contracts of impl.JoinRivers and spec.JoinRivers. -/
import Derived.Test.YtfokgobmncbkfadRv
namespace Go.Proofs.Ytfokgobmncbkfad
open Go.RowKit

def joinV (a b : ByteArray) : Value := if isRv a && isRv b && decide (a.size + b.size ≤ 40) then .tuple #[.string (a ++ b), .bool true] else .tuple #[.string ⟨#[]⟩, .bool false]
theorem joinV_1 {a b : ByteArray} (h : isRv a = false) : joinV a b = .tuple #[.string ⟨#[]⟩, .bool false] := by simp [joinV, h]
theorem joinV_2 {a b : ByteArray} (h : isRv b = false) : joinV a b = .tuple #[.string ⟨#[]⟩, .bool false] := by simp [joinV, h]
theorem joinV_3 {a b : ByteArray} (h : 40 < a.size + b.size) : joinV a b = .tuple #[.string ⟨#[]⟩, .bool false] := by
  have : ¬ (a.size + b.size ≤ 40) := by omega
  simp [joinV, this]
theorem joinV_4 {a b : ByteArray} (h : isRv a = true) (h' : isRv b = true) (h2 : a.size + b.size ≤ 40) : joinV a b = .tuple #[.string (a ++ b), .bool true] := by simp [joinV, h, h', h2]

theorem implJoin (a b : ByteArray) (w : World) (ha : a.size ≤ 1048576) (hb : b.size ≤ 1048576) :
    Calls Try.prog 8 #[.string a, .string b] w fun e w' => e = .returned (joinV a b) ∧ w = w' := by
  cases h1 : isRv a
  · have J := Lib.hid (joinV_1 (b := b) h1)
    have G := Lib.hid h1
    clear h1
    go_enter Try.func8, Try.ntmps8
    go_wp2_with (go_at_call 10; refine (implIsRiver _ _ (by unfold maxLen; omega)).mono ?_; rintro e w' ⟨rfl, rfl⟩; rw [G.out])
    go_ret2
    exact ⟨ret_v J.out.symm, rfl⟩
  cases h2 : isRv b
  · have J := Lib.hid (joinV_2 (a := a) h2)
    have G := Lib.hid h1
    have G2 := Lib.hid h2
    clear h1 h2
    go_enter Try.func8, Try.ntmps8
    go_wp2_with (go_at_call 10; refine (implIsRiver _ _ (by unfold maxLen; omega)).mono ?_; rintro e w' ⟨rfl, rfl⟩; first | rw [G.out] | rw [G2.out])
    go_ret2
    exact ⟨ret_v J.out.symm, rfl⟩
  have G := Lib.hid h1
  have G2 := Lib.hid h2
  by_cases h3 : 40 < a.size + b.size
  · have J := Lib.hid (joinV_3 h3)
    clear h1 h2
    go_enter Try.func8, Try.ntmps8
    go_wp2_with (go_at_call 10; refine (implIsRiver _ _ (by unfold maxLen; omega)).mono ?_; rintro e w' ⟨rfl, rfl⟩; first | rw [G.out] | rw [G2.out])
    go_ret2
    exact ⟨ret_v J.out.symm, rfl⟩
  · have J := Lib.hid (joinV_4 h1 h2 (by omega))
    clear h1 h2
    go_enter Try.func8, Try.ntmps8
    go_wp2_with (go_at_call 10; refine (implIsRiver _ _ (by unfold maxLen; omega)).mono ?_; rintro e w' ⟨rfl, rfl⟩; first | rw [G.out] | rw [G2.out])
    go_ret2
    exact ⟨ret_v J.out.symm, rfl⟩

theorem specJoin (a b : ByteArray) (w : World) (ha : a.size ≤ 1048576) (hb : b.size ≤ 1048576) :
    Calls Try.prog 7 #[.string a, .string b] w fun e w' => e = .returned (joinV a b) ∧ w = w' := by
  cases h1 : isRv a
  · have J := Lib.hid (joinV_1 (b := b) h1)
    have G := Lib.hid h1
    clear h1
    go_enter Try.func7, Try.ntmps7
    go_wp2_with (go_at_call 9; refine (specRvGood _ _ (by unfold maxLen; omega)).mono ?_; rintro e w' ⟨rfl, rfl⟩; rw [G.out])
    go_ret2
    exact ⟨ret_v J.out.symm, rfl⟩
  cases h2 : isRv b
  · have J := Lib.hid (joinV_2 (a := a) h2)
    have G := Lib.hid h1
    have G2 := Lib.hid h2
    clear h1 h2
    go_enter Try.func7, Try.ntmps7
    go_wp2_with (go_at_call 9; refine (specRvGood _ _ (by unfold maxLen; omega)).mono ?_; rintro e w' ⟨rfl, rfl⟩; first | rw [G.out] | rw [G2.out])
    go_ret2
    exact ⟨ret_v J.out.symm, rfl⟩
  have G := Lib.hid h1
  have G2 := Lib.hid h2
  by_cases h3 : 40 < a.size + b.size
  · have J := Lib.hid (joinV_3 h3)
    clear h1 h2
    go_enter Try.func7, Try.ntmps7
    go_wp2_with (go_at_call 9; refine (specRvGood _ _ (by unfold maxLen; omega)).mono ?_; rintro e w' ⟨rfl, rfl⟩; first | rw [G.out] | rw [G2.out])
    go_ret2
    exact ⟨ret_v J.out.symm, rfl⟩
  · have J := Lib.hid (joinV_4 h1 h2 (by omega))
    clear h1 h2
    go_enter Try.func7, Try.ntmps7
    go_wp2_with (go_at_call 9; refine (specRvGood _ _ (by unfold maxLen; omega)).mono ?_; rintro e w' ⟨rfl, rfl⟩; first | rw [G.out] | rw [G2.out])
    go_ret2
    exact ⟨ret_v J.out.symm, rfl⟩

theorem joinV_form (a b : ByteArray) : ∃ s x, joinV a b = .tuple #[.string s, .bool x] := by
  unfold joinV; split <;> exact ⟨_, _, rfl⟩
end Go.Proofs.Ytfokgobmncbkfad
