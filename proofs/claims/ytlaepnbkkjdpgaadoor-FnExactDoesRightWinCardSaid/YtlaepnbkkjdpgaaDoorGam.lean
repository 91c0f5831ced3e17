/- impl.DoesRightWin, WinningMove. -/
import Derived.Test.YtlaepnbkkjdpgaaDoorGame
namespace Go.Proofs.YtlaepnbkkjdpgaaDoor
set_option linter.unusedVariables false
open Go.RowKit Go.Maps

theorem wmV_fw {s : ByteArray} {r : Bool} (h : isPd s = true) : wmV s r = .tuple #[.int .i64 (fwI s r), .bool (decide (0 ≤ win s r))] := by
  unfold fwI
  by_cases h2 : 0 ≤ win s r
  · rw [wmV_yes h h2, if_pos h2, decide_eq_true h2]
  · rw [wmV_none h h2, if_neg h2, decide_eq_false h2]
theorem gr_up {w w' : World} (h : (w.alloc (.map #[] 0)).grownBy w' (some w.heap.size)) : Below w.heap.size w w' :=
  ((Below.refl _ _).alloc (Nat.le_refl _) _).grown h (by simp) (by intro k hk; cases hk; exact Nat.le_refl _)

set_option maxHeartbeats 1000000 in
theorem implDrw (s : ByteArray) (f : Bool) (p : Addr) (w : World) (hs : s.size ≤ 1048576) (hL : Laid w p) :
    Calls Tryd.prog 25 #[.string s, .bool f] w fun e w' => e = .returned (drwV s f) ∧ Below w.heap.size w w' := by
  have hm : s.size ≤ maxLen := by unfold maxLen; omega
  cases h1 : isPd s
  · have J := Lib.hid (drwV_no (f := f) h1)
    have G := Lib.hid h1
    clear h1
    go_enter Tryd.func25, Tryd.ntmps25
    go_wp2_with (go_at_call 30; refine (implIsPond _ _ hm).mono ?_; rintro e w' ⟨rfl, rfl⟩; rw [G.out])
    go_ret2
    exact ⟨ret_v J.out.symm, Below.refl _ _⟩
  · have J := Lib.hid (drwV_yes (f := f) h1)
    have G := Lib.hid h1
    have hmm := @run_makeMap Tryd.prog
    have hLA : Laid (w.alloc (.map #[] 0)) p := hL.alloc _
    have h2 : 2 ≤ w.heap.size := hL.2.2
    have T := Lib.hid (turnWin s f w.heap.size s.size [] p _ h1 rfl hLA (TMap.made w s.size) h2 (fun wx hLx hMx => firstWin _ s f _ _ [] p wx h1 rfl (Nat.le_refl _) hLx hMx h2))
    clear h1 hLA hL h2
    go_enter Tryd.func25, Tryd.ntmps25
    go_wp2_with (first
      | (go_at_call 30; refine (implIsPond _ _ hm).mono ?_; rintro e w' ⟨rfl, rfl⟩; rw [G.out])
      | (go_at_call 38; refine T.out.mono ?_; rintro e w1 ⟨rfl, K1, hM1, hK1, hg1⟩; have HB := Lib.hid (gr_up hg1); clear hM1 hK1 hg1))
    go_ret2
    exact ⟨ret_v (by rw [J.out]; rfl), HB.out⟩
set_option maxHeartbeats 1000000 in
theorem implWm (s : ByteArray) (r : Bool) (p : Addr) (w : World) (hs : s.size ≤ 1048576) (hL : Laid w p) :
    Calls Tryd.prog 27 #[.string s, .bool r] w fun e w' => e = .returned (wmV s r) ∧ Below w.heap.size w w' := by
  have hm : s.size ≤ maxLen := by unfold maxLen; omega
  cases h1 : isPd s
  · have J := Lib.hid (wmV_no (r := r) h1)
    have G := Lib.hid h1
    clear h1
    go_enter Tryd.func27, Tryd.ntmps27
    go_wp2_with (go_at_call 30; refine (implIsPond _ _ hm).mono ?_; rintro e w' ⟨rfl, rfl⟩; rw [G.out])
    go_ret2
    exact ⟨ret_v J.out.symm, Below.refl _ _⟩
  · have J := Lib.hid (wmV_fw (r := r) h1)
    have G := Lib.hid h1
    have hmm := @run_makeMap Tryd.prog
    have hLA : Laid (w.alloc (.map #[] 0)) p := hL.alloc _
    have h2 : 2 ≤ w.heap.size := hL.2.2
    have T := Lib.hid (firstWin _ s r w.heap.size s.size [] p _ h1 rfl (Nat.le_refl _) hLA (TMap.made w s.size) h2)
    clear h1 hLA hL h2
    go_enter Tryd.func27, Tryd.ntmps27
    go_wp2_with (first
      | (go_at_call 30; refine (implIsPond _ _ hm).mono ?_; rintro e w' ⟨rfl, rfl⟩; rw [G.out])
      | (go_at_call 40; refine T.out.mono ?_; rintro e w1 ⟨rfl, K1, hM1, hK1, hg1⟩; have HB := Lib.hid (gr_up hg1); clear hM1 hK1 hg1))
    go_ret2
    exact ⟨ret_v (by rw [J.out]; rfl), HB.out⟩
end Go.Proofs.YtlaepnbkkjdpgaaDoor
