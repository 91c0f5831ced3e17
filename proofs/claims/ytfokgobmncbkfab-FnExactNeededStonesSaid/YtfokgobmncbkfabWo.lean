/- A river with another sign at a place; spec.rvWithout. -/
import Derived.Test.YtfokgobmncbkfabStand
import Derived.Deep.QuietTactic
import Derived.BigQuiet
import Derived.WalkSmall
namespace Go.Proofs.Ytfokgobmncbkfab
set_option linter.unusedVariables false
open Go.RowKit

def setB (s : ByteArray) (k : Nat) (c : UInt8) : ByteArray := ⟨(s.data.toList.set (k - 1) c).toArray⟩

theorem setB_cat {s : ByteArray} {k : Nat} {c : UInt8} (h0 : 1 ≤ k) (h1 : k ≤ s.size) : s.extract 0 (k - 1) ++ ⟨#[c]⟩ ++ s.extract k s.size = setB s k c := by
  apply ByteArray.ext
  apply Array.toList_inj.1
  have e : k - 1 < s.data.toList.length := by simp; omega
  have e2 : s.data.toList.drop k = (s.data.toList.drop k).take (s.data.size - k) := (List.take_of_length_le (by simp)).symm
  simp only [ByteArray.data_append, Array.toList_append, ByteArray.data_extract, Array.toList_extract, List.extract_eq_take_drop, setB, List.drop_zero, Nat.sub_zero]
  rw [List.set_eq_take_append_cons_drop, if_pos e, show k - 1 + 1 = k from by omega]
  rw [show s.size - k = s.data.size - k from rfl, ← e2]
  simp

theorem specWithout (s : ByteArray) (k : Nat) (w : World) (hs : s.size ≤ 1048576) (h0 : 1 ≤ k) (h1 : k ≤ s.size) :
    Calls Try.prog 40 #[.string s, .int .i64 k] w fun e w' => e = .returned (.string (setB s k 46)) ∧ Below w.heap.size w w' := by
  have J := Lib.hid (setB_cat (c := 46) h0 h1)
  go_enter Try.func40, Try.ntmps40
  go_wp2
  go_quiet (fail)
  go_wp2
  go_ret
  exact ⟨ret_v (congrArg Value.string J.out), below_drewN (Below.refl _ _) _⟩
end Go.Proofs.Ytfokgobmncbkfab
