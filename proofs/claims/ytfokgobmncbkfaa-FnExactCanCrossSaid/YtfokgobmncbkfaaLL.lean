/- LeastLeap and LongestGap, impl and spec. -/
import Derived.Test.YtfokgobmncbkfaaLong
import Derived.Deep.RegionWith
namespace Go.Proofs.Ytfokgobmncbkfaa
set_option linter.unusedVariables false
open Go.RowKit

theorem size_rv {s : ByteArray} (h : isRv s = true) : 1 ≤ s.size ∧ s.size ≤ 40 := by
  simp [isRv] at h; exact ⟨h.1.1, h.1.2⟩
theorem lg_len (s : ByteArray) : ((lg (strides s)).2 : Int) - ((lg (strides s)).1 : Int) = gapLen s (s.size + 1) := by
  have := lg_mem (strides s) _ (strides_lt s)
  unfold gapLen; rw [show prTo s (s.size + 1) = strides s from rfl]; omega

def leastV (s : ByteArray) : Value := if isRv s then .tuple #[.int .i64 (gapLen s (s.size + 1)), .bool true] else .tuple #[.int .i64 0, .bool false]
theorem leastV_no {s : ByteArray} (h : isRv s = false) : leastV s = .tuple #[.int .i64 0, .bool false] := by simp [leastV, h]
theorem leastV_yes {s : ByteArray} (h : isRv s = true) : leastV s = .tuple #[.int .i64 (gapLen s (s.size + 1)), .bool true] := by simp [leastV, h]
theorem leastV_form (s : ByteArray) : ∃ x y, leastV s = .tuple #[.int .i64 x, .bool y] := by
  unfold leastV; split <;> exact ⟨_, _, rfl⟩

theorem implLeast (s : ByteArray) (w : World) (hs : s.size ≤ 1048576) :
    Calls Try.prog 19 #[.string s] w fun e w' => e = .returned (leastV s) ∧ Below w.heap.size w w' := by
  have hm : s.size ≤ maxLen := by unfold maxLen; omega
  cases h1 : isRv s
  · have J := Lib.hid (leastV_no h1)
    have G := Lib.hid h1
    clear h1
    go_enter Try.func19, Try.ntmps19
    go_wp2_with (go_at_call 10; refine (implIsRiver _ _ hm).mono ?_; rintro e w' ⟨rfl, rfl⟩; rw [G.out])
    go_ret2
    exact ⟨ret_v J.out.symm, Below.refl _ _⟩
  · have J := Lib.hid (leastV_yes h1)
    obtain ⟨hz1, hz2⟩ := size_rv h1
    have G := Lib.hid h1
    have L := Lib.hid (lg_len s)
    have hb := lg_mem (strides s) _ (strides_lt s)
    clear h1
    go_enter Try.func19, Try.ntmps19
    go_wp2_with (first
      | (go_at_call 10; refine (implIsRiver _ _ hm).mono ?_; rintro e w' ⟨rfl, rfl⟩; rw [G.out])
      | (go_at_call 30; refine (longest s _ hz2).mono ?_; rintro e w1 ⟨rfl, hb1⟩)
      | (go_at_call 31; refine (length _ _ _ (by omega) (by omega)).mono ?_; rintro e w' ⟨rfl, rfl⟩))
    go_ret2
    exact ⟨ret_v (by rw [J.out, ← L.out]; rfl), hb1.alloc hb1.size _⟩

theorem specLeast (s : ByteArray) (w : World) (hs : s.size ≤ 1048576) :
    Calls Try.prog 18 #[.string s] w fun e w' => e = .returned (leastV s) ∧ Below w.heap.size w w' := by
  have hm : s.size ≤ maxLen := by unfold maxLen; omega
  cases h1 : isRv s
  · have J := Lib.hid (leastV_no h1)
    have G := Lib.hid h1
    clear h1
    go_enter Try.func18, Try.ntmps18
    go_wp2_with (go_at_call 24; refine (specRvGood _ _ hm).mono ?_; rintro e w' ⟨rfl, rfl⟩; rw [G.out])
    go_ret2
    exact ⟨ret_v J.out.symm, Below.refl _ _⟩
  · have J := Lib.hid (leastV_yes h1)
    obtain ⟨hz1, hz2⟩ := size_rv h1
    have G := Lib.hid h1
    clear h1
    go_enter Try.func18, Try.ntmps18
    go_wp2_with (first
      | (go_at_call 24; refine (specRvGood _ _ hm).mono ?_; rintro e w' ⟨rfl, rfl⟩; rw [G.out])
      | (go_at_call 32; refine (specGap s _ hz2).mono ?_; rintro e w' ⟨rfl, rfl⟩))
    go_ret2
    exact ⟨ret_v J.out.symm, Below.refl _ _⟩
end Go.Proofs.Ytfokgobmncbkfaa
