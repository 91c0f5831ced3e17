/- CanCross, impl and spec. -/
import Derived.Test.YtfokgobmncbkfabCanM
import Derived.Test.YtfokgobmncbkfabFew
import Derived.Test.YtfokgobmncbkfabLL
namespace Go.Proofs.Ytfokgobmncbkfab
set_option linter.unusedVariables false
open Go.RowKit

def canB (s : ByteArray) (L : Int) : Bool := decide ((gapLen s (s.size + 1) : Int) ≤ L)
def canV (s : ByteArray) (L : Int) : Value := if asked s L then .tuple #[.bool (canB s L), .bool true] else .tuple #[.bool false, .bool false]
theorem canV_no {s : ByteArray} {L : Int} (h : asked s L = false) : canV s L = .tuple #[.bool false, .bool false] := by simp [canV, h]
theorem canV_yes {s : ByteArray} {L : Int} (h : asked s L = true) : canV s L = .tuple #[.bool (canB s L), .bool true] := by simp [canV, h]
theorem canV_form (s : ByteArray) (L : Int) : ∃ x y, canV s L = .tuple #[.bool x, .bool y] := by
  unfold canV; split <;> exact ⟨_, _, rfl⟩
theorem canB_left {s : ByteArray} {L : Int} (h : asked s L = true) : decide (0 ≤ gt (leftL s L) 0) = canB s L := by
  obtain ⟨_, hz1, hz2, hl1, hl2⟩ := asked_out h
  rw [leftL_yes h]
  obtain ⟨l, rfl⟩ := Int.eq_ofNat_of_zero_le (show 0 ≤ L by omega)
  have := can_iff s l
  unfold canB
  rw [decide_eq_decide]
  simp only [Int.toNat_natCast]
  omega
theorem implCan (s : ByteArray) (L : Int) (w : World) (hs : s.size ≤ 1048576) :
    Calls Try.prog 41 #[.string s, .int .i64 L] w fun e w' => e = .returned (canV s L) ∧ Below w.heap.size w w' := by
  cases h1 : asked s L
  · have J := Lib.hid (canV_no h1)
    have G := Lib.hid h1
    clear h1
    go_enter Try.func41, Try.ntmps41
    go_wp2_with (go_at_call 27; refine (implAsked _ _ _ hs).mono ?_; rintro e w' ⟨rfl, rfl⟩; rw [G.out])
    go_ret2
    exact ⟨ret_v J.out.symm, Below.refl _ _⟩
  · have J := Lib.hid (canV_yes h1)
    obtain ⟨_, hz1, hz2, _, _⟩ := asked_out h1
    have G := Lib.hid h1
    have hb := lg_mem (strides s) _ (strides_lt s)
    have E : Hid (canB s L = decide (((lg (strides s)).2 : Int) - ((lg (strides s)).1 : Int) ≤ L)) := Lib.hid (by rw [lg_len]; rfl)
    clear h1
    go_enter Try.func41, Try.ntmps41
    go_wp2_with (first
      | (go_at_call 27; refine (implAsked _ _ _ hs).mono ?_; rintro e w' ⟨rfl, rfl⟩; rw [G.out])
      | (go_at_call 37; refine (longest s _ hz2).mono ?_; rintro e w1 ⟨rfl, hb1⟩)
      | (go_at_call 33; refine (length _ _ _ (by omega) (by omega)).mono ?_; rintro e w' ⟨rfl, rfl⟩))
    go_ret2
    exact ⟨ret_v (by rw [J.out, E.out]; rfl), hb1.alloc hb1.size _⟩
end Go.Proofs.Ytfokgobmncbkfab
