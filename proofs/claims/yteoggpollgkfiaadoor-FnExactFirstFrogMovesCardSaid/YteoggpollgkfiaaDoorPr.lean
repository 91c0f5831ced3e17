/- PondsReached, impl and spec. -/
import Derived.Test.YteoggpollgkfiaaDoorRch
import Derived.Test.YteoggpollgkfiaaDoorFrom
namespace Go.Proofs.YteoggpollgkfiaaDoor
set_option linter.unusedVariables false
open Go.RowKit

def prV (s : ByteArray) : Value := if isPd s then .tuple #[.int .i64 ((reach s).length : Int), .bool true] else .tuple #[.int .i64 0, .bool false]
theorem prV_no {s : ByteArray} (h : isPd s = false) : prV s = .tuple #[.int .i64 0, .bool false] := by simp [prV, h]
theorem prV_yes {s : ByteArray} (h : isPd s = true) : prV s = .tuple #[.int .i64 ((reach s).length : Int), .bool true] := by simp [prV, h]
theorem prV_form (s : ByteArray) : ∃ x y, prV s = .tuple #[.int .i64 x, .bool y] := by unfold prV; split <;> exact ⟨_, _, rfl⟩
theorem reach_pos (s : ByteArray) : 0 < (reach s).length := by
  obtain ⟨R, hR⟩ := bfs_head s 262145
  unfold reach; rw [hR]; simp
theorem reach_len {s : ByteArray} (h : isPd s = true) : (reach s).length ≤ 262144 := (bfs_pds h 262145).len (isPd_in h).2.1

end Go.Proofs.YteoggpollgkfiaaDoor
