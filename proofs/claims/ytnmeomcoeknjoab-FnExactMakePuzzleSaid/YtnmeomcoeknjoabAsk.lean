/- impl.isLeap, impl.isRiverWithLeap, spec.rvAsked: whether there are a river and a length of leaps. -/
import Derived.Test.YtnmeomcoeknjoabRv
namespace Go.Proofs.Ytnmeomcoeknjoab
set_option linter.unusedVariables false
open Go.RowKit

def asked (s : ByteArray) (L : Int) : Bool := isRv s && inB L 1 50
theorem asked_1 {s : ByteArray} {L : Int} (h : isRv s = false) : asked s L = false := by simp [asked, h]
theorem asked_2 {s : ByteArray} {L : Int} (h : isRv s = true) : asked s L = inB L 1 50 := by simp [asked, h]
theorem asked_out {s : ByteArray} {L : Int} (h : asked s L = true) : isRv s = true ∧ 1 ≤ s.size ∧ s.size ≤ 40 ∧ 1 ≤ L ∧ L ≤ 50 := by
  simp [asked, isRv, inB] at h
  simp [isRv, h]

theorem isLeap (L : Int) (w : World) :
    Calls Try.prog 99 #[.int .i64 L] w fun e w' => e = .returned (.bool (inB L 1 50)) ∧ w = w' := by
  by_cases h1 : L < 1
  · go_enter Try.func99, Try.ntmps99
    go_wp2
    go_ret
    exact ⟨ret_bool (by simp [inB]; omega), rfl⟩
  · by_cases h2 : 50 < L
    · go_enter Try.func99, Try.ntmps99
      go_wp2
      go_ret
      exact ⟨ret_bool (by simp [inB]; omega), rfl⟩
    · go_enter Try.func99, Try.ntmps99
      go_wp2
      go_ret
      exact ⟨ret_bool (by simp [inB]; omega), rfl⟩

theorem implAsked (s : ByteArray) (L : Int) (w : World) (hs : s.size ≤ 1048576) :
    Calls Try.prog 90 #[.string s, .int .i64 L] w fun e w' => e = .returned (.bool (asked s L)) ∧ w = w' := by
  have hm : s.size ≤ maxLen := by unfold maxLen; omega
  cases h1 : isRv s
  · have J := Lib.hid (asked_1 (L := L) h1)
    have G := Lib.hid h1
    clear h1
    go_enter Try.func90, Try.ntmps90
    go_wp2_with (go_at_call 59; refine (implIsRiver _ _ hm).mono ?_; rintro e w' ⟨rfl, rfl⟩; rw [G.out])
    go_ret
    exact ⟨ret_bool J.out.symm, rfl⟩
  · have J := Lib.hid (asked_2 (L := L) h1)
    have G := Lib.hid h1
    clear h1
    go_enter Try.func90, Try.ntmps90
    go_wp2_with (first | (go_at_call 59; refine (implIsRiver _ _ hm).mono ?_; rintro e w' ⟨rfl, rfl⟩; rw [G.out]) | (go_at_call 99; refine (isLeap _ _).mono ?_; rintro e w' ⟨rfl, rfl⟩))
    go_ret
    exact ⟨ret_bool J.out.symm, rfl⟩

end Go.Proofs.Ytnmeomcoeknjoab
