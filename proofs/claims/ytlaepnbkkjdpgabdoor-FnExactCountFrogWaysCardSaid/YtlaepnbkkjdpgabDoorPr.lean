/- PondsReached, impl and spec. -/
import Derived.Test.YtlaepnbkkjdpgabDoorRch
import Derived.Test.YtlaepnbkkjdpgabDoorFrom
namespace Go.Proofs.YtlaepnbkkjdpgabDoor
set_option linter.unusedVariables false
open Go.RowKit

def prV (s : ByteArray) : Value := if isPd s then .tuple #[.int .i64 ((reach s).length : Int), .bool true] else .tuple #[.int .i64 0, .bool false]
theorem prV_no {s : ByteArray} (h : isPd s = false) : prV s = .tuple #[.int .i64 0, .bool false] := by simp [prV, h]
theorem prV_yes {s : ByteArray} (h : isPd s = true) : prV s = .tuple #[.int .i64 ((reach s).length : Int), .bool true] := by simp [prV, h]
theorem prV_form (s : ByteArray) : ∃ x y, prV s = .tuple #[.int .i64 x, .bool y] := by unfold prV; split <;> exact ⟨_, _, rfl⟩
theorem reach_pos (s : ByteArray) : 0 < (reach s).length := by
  obtain ⟨R, hR⟩ := bfs_head s 262145
  unfold reach; rw [hR]; simp
theorem reach_len {s : ByteArray} (h : isPd s = true) : (reach s).length ≤ 262144 := (bfs_pds h 262145).len (isPd_in h).2.1

theorem implPondsReached (s : ByteArray) (p : Addr) (w : World) (hs : s.size ≤ 1048576) (hL : Laid w p) :
    Calls Tryd.prog 23 #[.string s] w fun e w' => e = .returned (prV s) ∧ Below w.heap.size w w' := by
  have hm : s.size ≤ maxLen := by unfold maxLen; omega
  cases h1 : isPd s
  · have J := Lib.hid (prV_no h1)
    have G := Lib.hid h1
    clear h1
    go_enter Tryd.func23, Tryd.ntmps23
    go_wp2_with (go_at_call 46; refine (implIsPond _ _ hm).mono ?_; rintro e w' ⟨rfl, rfl⟩; rw [G.out])
    go_ret2
    exact ⟨ret_v J.out.symm, Below.refl _ _⟩
  · have J := Lib.hid (prV_yes h1)
    have G := Lib.hid h1
    have HL := Lib.hid hL
    have hp := reach_pos s
    have hl := reach_len h1
    clear h1 hL
    have HP := Lib.hid (fun wx (h : Laid wx p) => pondsFrom s p wx G.out h)
    generalize reach s = L at *
    go_enter Tryd.func23, Tryd.ntmps23
    go_wp2_with (first
      | (go_at_call 46; refine (implIsPond _ _ hm).mono ?_; rintro e w' ⟨rfl, rfl⟩; rw [G.out])
      | (go_at_call 40; refine (HP.out _ HL.out).mono ?_; rintro e w1 ⟨v, rfl, hS, hb⟩; obtain ⟨g, n, cap, rfl, hn, _, _, _, _, _⟩ := hS.form hp; have HN := Lib.hid hn; clear hS hn))
    go_ret2
    exact ⟨ret_v (by rw [J.out, ← HN.out]; rfl), hb⟩
theorem specPondsReached (s : ByteArray) (w : World) (hs : s.size ≤ 1048576) :
    Calls Tryd.prog 22 #[.string s] w fun e w' => e = .returned (prV s) ∧ Below w.heap.size w w' := by
  have hm : s.size ≤ maxLen := by unfold maxLen; omega
  cases h1 : isPd s
  · have J := Lib.hid (prV_no h1)
    have G := Lib.hid h1
    clear h1
    go_enter Tryd.func22, Tryd.ntmps22
    go_wp2_with (go_at_call 42; refine (specFgGood _ _ hm).mono ?_; rintro e w' ⟨rfl, rfl⟩; rw [G.out])
    go_ret2
    exact ⟨ret_v J.out.symm, Below.refl _ _⟩
  · have J := Lib.hid (prV_yes h1)
    have G := Lib.hid h1
    have hp := reach_pos s
    have hl := reach_len h1
    have HP := Lib.hid (fun wx => specReach s wx G.out)
    clear h1
    go_enter Tryd.func22, Tryd.ntmps22
    go_wp2_with (first
      | (go_at_call 42; refine (specFgGood _ _ hm).mono ?_; rintro e w' ⟨rfl, rfl⟩; rw [G.out])
      | (go_at_call 34; refine (HP.out _).mono ?_; rintro e w1 ⟨v6, v7, v8, v9, rfl, hS, _, _, _, hb⟩; obtain ⟨g, n, cap, rfl, hn, _, _, _, _, _⟩ := hS.form hp; have HN := Lib.hid hn; clear hS hn))
    go_ret2
    exact ⟨ret_v (by rw [J.out, ← HN.out]; rfl), hb⟩
end Go.Proofs.YtlaepnbkkjdpgabDoor
