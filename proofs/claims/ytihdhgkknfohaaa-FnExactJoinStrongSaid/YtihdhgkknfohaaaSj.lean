/- Contracts of impl.JoinStrong and spec.JoinStrong. -/
import Derived.Test.YtihdhgkknfohaaaSv
namespace Go.Proofs.Ytihdhgkknfohaaa
open Go.RowKit

def joinSV (a b : ByteArray) : Value := if isSt a && isSt b && decide (a.size + b.size ≤ 20) then .tuple #[.string (a ++ b), .bool true] else .tuple #[.string ⟨#[]⟩, .bool false]
theorem joinSV_1 {a b : ByteArray} (h : isSt a = false) : joinSV a b = .tuple #[.string ⟨#[]⟩, .bool false] := by simp [joinSV, h]
theorem joinSV_2 {a b : ByteArray} (h : isSt b = false) : joinSV a b = .tuple #[.string ⟨#[]⟩, .bool false] := by simp [joinSV, h]
theorem joinSV_3 {a b : ByteArray} (h : 20 < a.size + b.size) : joinSV a b = .tuple #[.string ⟨#[]⟩, .bool false] := by
  have : ¬ (a.size + b.size ≤ 20) := by omega
  simp [joinSV, this]
theorem joinSV_4 {a b : ByteArray} (h : isSt a = true) (h' : isSt b = true) (h2 : a.size + b.size ≤ 20) : joinSV a b = .tuple #[.string (a ++ b), .bool true] := by simp [joinSV, h, h', h2]

theorem implJoinS (a b : ByteArray) (w : World) (ha : a.size ≤ 1048576) (hb : b.size ≤ 1048576) :
    Calls Try.prog 19 #[.string a, .string b] w fun e w' => e = .returned (joinSV a b) ∧ w = w' := by
  cases h1 : isSt a
  · have J := Lib.hid (joinSV_1 (b := b) h1)
    have G := Lib.hid h1
    clear h1
    go_enter Try.func19, Try.ntmps19
    go_wp2_with (go_at_call 11; refine (implIsStrong _ _ (by unfold maxLen; omega)).mono ?_; rintro e w' ⟨rfl, rfl⟩; rw [G.out])
    go_ret2
    exact ⟨ret_v J.out.symm, rfl⟩
  cases h2 : isSt b
  · have J := Lib.hid (joinSV_2 (a := a) h2)
    have G := Lib.hid h1
    have G2 := Lib.hid h2
    clear h1 h2
    go_enter Try.func19, Try.ntmps19
    go_wp2_with (go_at_call 11; refine (implIsStrong _ _ (by unfold maxLen; omega)).mono ?_; rintro e w' ⟨rfl, rfl⟩; first | rw [G.out] | rw [G2.out])
    go_ret2
    exact ⟨ret_v J.out.symm, rfl⟩
  have G := Lib.hid h1
  have G2 := Lib.hid h2
  by_cases h3 : 20 < a.size + b.size
  · have J := Lib.hid (joinSV_3 h3)
    clear h1 h2
    go_enter Try.func19, Try.ntmps19
    go_wp2_with (go_at_call 11; refine (implIsStrong _ _ (by unfold maxLen; omega)).mono ?_; rintro e w' ⟨rfl, rfl⟩; first | rw [G.out] | rw [G2.out])
    go_ret2
    exact ⟨ret_v J.out.symm, rfl⟩
  · have J := Lib.hid (joinSV_4 h1 h2 (by omega))
    clear h1 h2
    go_enter Try.func19, Try.ntmps19
    go_wp2_with (go_at_call 11; refine (implIsStrong _ _ (by unfold maxLen; omega)).mono ?_; rintro e w' ⟨rfl, rfl⟩; first | rw [G.out] | rw [G2.out])
    go_ret2
    exact ⟨ret_v J.out.symm, rfl⟩

theorem specJoinS (a b : ByteArray) (w : World) (ha : a.size ≤ 1048576) (hb : b.size ≤ 1048576) :
    Calls Try.prog 18 #[.string a, .string b] w fun e w' => e = .returned (joinSV a b) ∧ w = w' := by
  cases h1 : isSt a
  · have J := Lib.hid (joinSV_1 (b := b) h1)
    have G := Lib.hid h1
    clear h1
    go_enter Try.func18, Try.ntmps18
    go_wp2_with (go_at_call 24; refine (siGood _ _ (by unfold maxLen; omega)).mono ?_; rintro e w' ⟨rfl, rfl⟩; rw [G.out])
    go_ret2
    exact ⟨ret_v J.out.symm, rfl⟩
  cases h2 : isSt b
  · have J := Lib.hid (joinSV_2 (a := a) h2)
    have G := Lib.hid h1
    have G2 := Lib.hid h2
    clear h1 h2
    go_enter Try.func18, Try.ntmps18
    go_wp2_with (go_at_call 24; refine (siGood _ _ (by unfold maxLen; omega)).mono ?_; rintro e w' ⟨rfl, rfl⟩; first | rw [G.out] | rw [G2.out])
    go_ret2
    exact ⟨ret_v J.out.symm, rfl⟩
  have G := Lib.hid h1
  have G2 := Lib.hid h2
  by_cases h3 : 20 < a.size + b.size
  · have J := Lib.hid (joinSV_3 h3)
    clear h1 h2
    go_enter Try.func18, Try.ntmps18
    go_wp2_with (go_at_call 24; refine (siGood _ _ (by unfold maxLen; omega)).mono ?_; rintro e w' ⟨rfl, rfl⟩; first | rw [G.out] | rw [G2.out])
    go_ret2
    exact ⟨ret_v J.out.symm, rfl⟩
  · have J := Lib.hid (joinSV_4 h1 h2 (by omega))
    clear h1 h2
    go_enter Try.func18, Try.ntmps18
    go_wp2_with (go_at_call 24; refine (siGood _ _ (by unfold maxLen; omega)).mono ?_; rintro e w' ⟨rfl, rfl⟩; first | rw [G.out] | rw [G2.out])
    go_ret2
    exact ⟨ret_v J.out.symm, rfl⟩

theorem joinSV_form (a b : ByteArray) : ∃ s x, joinSV a b = .tuple #[.string s, .bool x] := by
  unfold joinSV; split <;> exact ⟨_, _, rfl⟩
end Go.Proofs.Ytihdhgkknfohaaa
