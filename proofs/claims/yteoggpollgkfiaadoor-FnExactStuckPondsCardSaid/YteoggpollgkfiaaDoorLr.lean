/- impl.isStuckPond, impl.isMore. -/
import Derived.Test.YteoggpollgkfiaaDoorLq
import Derived.Test.YteoggpollgkfiaaDoorBl
namespace Go.Proofs.YteoggpollgkfiaaDoor
set_option linter.unusedVariables false
open Go.RowKit
theorem stk_yes {s : ByteArray} (h : (moves s).length = 0) : stk s = true := by unfold stk; rw [List.isEmpty_iff]; exact List.length_eq_zero_iff.1 h
theorem stk_no {s : ByteArray} (h : ¬ (moves s).length = 0) : stk s = false := by
  unfold stk; rw [Bool.eq_false_iff]; intro e; rw [List.isEmpty_iff] at e; rw [e] at h; exact h rfl
set_option maxHeartbeats 1000000 in
theorem isStk (s : ByteArray) (p : Addr) (w : World) (hp : isPd s = true) (hL : Laid w p) :
    Calls Tryd.prog 35 #[.string s] w fun e w' => e = .returned (.bool (stk s)) ∧ Below w.heap.size w w' := by
  have HL := Lib.hid hL
  have HP := Lib.hid hp
  have HY := Lib.hid (fun h => stk_yes (s := s) h)
  have HN := Lib.hid (fun h => stk_no (s := s) h)
  clear hp hL
  generalize stk s = r at *
  go_enter Tryd.func35, Tryd.ntmps35
  go_wp2_with (go_at_call 45; refine (movesOf s p _ HP.out HL.out).mono ?_; rintro e w4 ⟨vm, rfl, hMv, hb3⟩; obtain ⟨a', n', cap', rfl, hn', _⟩ := hMv.form; have HN' := Lib.hid hn'; have HB3 := Lib.hid hb3; clear hMv hb3 hn')
  go_ret
  refine ⟨ret_bool ?_, HB3.out⟩
  by_cases h : n' = 0
  · rw [HY.out (by rw [← HN'.out]; exact h)]; simp [h]
  · rw [HN.out (by rw [← HN'.out]; exact h)]; simp; omega
theorem isMore (n m : Int) (w : World) : Calls Tryd.prog 36 #[.int .i64 n, .int .i64 m] w fun e w' => e = .returned (.bool (moreI n m)) ∧ w = w' := by
  go_enter Tryd.func36, Tryd.ntmps36
  go_wp2
  go_ret
  exact ⟨rfl, rfl⟩
end Go.Proofs.YteoggpollgkfiaaDoor
