/- LeastLeap and LongestGap, impl and spec. -/
import Derived.Test.YtnmeomcoeknjoabLong
import Derived.Deep.RegionWith
namespace Go.Proofs.Ytnmeomcoeknjoab
set_option linter.unusedVariables false
set_option maxRecDepth 100000
open Go.RowKit

theorem two {W : World} {b : Nat} {q1 q2 : Value} (X : Box2 W b q1 q2) : W.cell? ⟨b, 0, none⟩ = some q1 ∧ W.cell? ⟨b, 1, none⟩ = some q2 := ⟨X.cell0, X.cell1⟩
theorem size_rv {s : ByteArray} (h : isRv s = true) : 1 ≤ s.size ∧ s.size ≤ 40 := by
  simp [isRv] at h; exact ⟨h.1.1, h.1.2⟩
theorem lg_len (s : ByteArray) : ((lg (strides s)).2 : Int) - ((lg (strides s)).1 : Int) = gapLen s (s.size + 1) := by
  have := lg_mem (strides s) _ (strides_lt s)
  unfold gapLen; rw [show prTo s (s.size + 1) = strides s from rfl]; omega

def leastV (s : ByteArray) : Value := if isRv s then .tuple #[.int .i64 (gapLen s (s.size + 1)), .bool true] else .tuple #[.int .i64 0, .bool false]
theorem leastV_no {s : ByteArray} (h : isRv s = false) : leastV s = .tuple #[.int .i64 0, .bool false] := by simp [leastV, h]
theorem leastV_yes {s : ByteArray} (h : isRv s = true) : leastV s = .tuple #[.int .i64 (gapLen s (s.size + 1)), .bool true] := by simp [leastV, h]
theorem leastV_form (s : ByteArray) : ∃ x y, leastV s = .tuple #[.int .i64 x, .bool y] := by
  unfold leastV; split <;> exact ⟨_, _, rfl⟩

theorem implLeast (s : ByteArray) (w : World) (hs : s.size ≤ 1048576) :
    Calls Try.prog 77 #[.string s] w fun e w' => e = .returned (leastV s) ∧ Below w.heap.size w w' := by
  have hm : s.size ≤ maxLen := by unfold maxLen; omega
  cases h1 : isRv s
  · have J := Lib.hid (leastV_no h1)
    have G := Lib.hid h1
    clear h1
    go_enter Try.func77, Try.ntmps77
    go_wp2_with (go_at_call 59; refine (implIsRiver _ _ hm).mono ?_; rintro e w' ⟨rfl, rfl⟩; rw [G.out])
    go_ret2
    exact ⟨ret_v J.out.symm, Below.refl _ _⟩
  · have J := Lib.hid (leastV_yes h1)
    obtain ⟨hz1, hz2⟩ := size_rv h1
    have G := Lib.hid h1
    have L := Lib.hid (lg_len s)
    have hb := lg_mem (strides s) _ (strides_lt s)
    clear h1
    go_enter Try.func77, Try.ntmps77
    go_wp2_with (first
      | (go_at_call 59; refine (implIsRiver _ _ hm).mono ?_; rintro e w' ⟨rfl, rfl⟩; rw [G.out])
      | (go_at_call 88; refine (longest s _ hz2).mono ?_; rintro e w1 ⟨rfl, hb1⟩)
      | (go_at_call 89; refine (length _ _ _ (by omega) (by omega)).mono ?_; rintro e w' ⟨rfl, rfl⟩))
    go_ret2
    exact ⟨ret_v (by rw [J.out, ← L.out]; rfl), hb1.alloc hb1.size _⟩

def lgapV (s : ByteArray) : Value := if isRv s then .tuple #[.int .i64 (gapLen s (s.size + 1)), .int .i64 (gapAt s (s.size + 1)), .bool true] else .tuple #[.int .i64 0, .int .i64 0, .bool false]
theorem lgapV_no {s : ByteArray} (h : isRv s = false) : lgapV s = .tuple #[.int .i64 0, .int .i64 0, .bool false] := by simp [lgapV, h]
theorem lgapV_yes {s : ByteArray} (h : isRv s = true) : lgapV s = .tuple #[.int .i64 (gapLen s (s.size + 1)), .int .i64 (gapAt s (s.size + 1)), .bool true] := by simp [lgapV, h]
theorem lgapV_form (s : ByteArray) : ∃ x y z, lgapV s = .tuple #[.int .i64 x, .int .i64 y, .bool z] := by
  unfold lgapV; split <;> exact ⟨_, _, _, rfl⟩


set_option maxHeartbeats 1000000 in
theorem implLgap (s : ByteArray) (w : World) (hs : s.size ≤ 1048576) :
    Calls Try.prog 79 #[.string s] w fun e w' => e = .returned (lgapV s) ∧ Below w.heap.size w w' := by
  have hm : s.size ≤ maxLen := by unfold maxLen; omega
  cases h1 : isRv s
  · have J := Lib.hid (lgapV_no h1)
    have G := Lib.hid h1
    clear h1
    go_enter Try.func79, Try.ntmps79
    go_wp2_with (go_at_call 59; refine (implIsRiver _ _ hm).mono ?_; rintro e w' ⟨rfl, rfl⟩; rw [G.out])
    go_ret3
    exact ⟨ret_v J.out.symm, Below.refl _ _⟩
  · have J := Lib.hid (lgapV_yes h1)
    obtain ⟨hz1, hz2⟩ := size_rv h1
    have G := Lib.hid h1
    have L := Lib.hid (lg_len s)
    have hb := lg_mem (strides s) _ (strides_lt s)
    clear h1
    go_enter Try.func79, Try.ntmps79
    go_wp2_with (first
      | (go_at_call 59; refine (implIsRiver _ _ hm).mono ?_; rintro e w' ⟨rfl, rfl⟩; rw [G.out])
      | (go_at_call 88; refine (longest s _ hz2).mono ?_; rintro e w1 ⟨rfl, hb1⟩))
    have hle := hb1.size
    go_region_held3 (fun w' => w'.cell? ⟨w1.heap.size, 0, none⟩ = some (.int .i64 ((lg (strides s)).1 : Int)) ∧ w'.cell? ⟨w1.heap.size, 1, none⟩ = some (.int .i64 ((lg (strides s)).2 : Int))) (exact two (by repeat (first | exact Box2.new _ _ _ _ | apply Box2.drew | apply Box2.alloc))) (first
      | (go_at_call 89; refine (length _ _ _ (by omega) (by omega)).mono ?_; rintro e w' ⟨rfl, rfl⟩))
    all_goals go_wp2_with fail
    all_goals go_ret3
    all_goals refine ⟨ret_v (by rw [J.out, ← L.out]; rfl), ?_⟩
    all_goals repeat (first | exact hb1 | apply Below.drew | refine Below.alloc ?_ (by first | exact hle | (simp; omega)) _)
end Go.Proofs.Ytnmeomcoeknjoab
