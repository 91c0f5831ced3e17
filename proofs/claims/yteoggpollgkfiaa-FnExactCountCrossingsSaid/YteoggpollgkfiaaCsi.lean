/- spec.CountCrossings, spec.CountByLeaps. -/
import Derived.Test.YteoggpollgkfiaaCsp
import Derived.Test.YteoggpollgkfiaaCci
namespace Go.Proofs.Yteoggpollgkfiaa
set_option linter.unusedVariables false
open Go.RowKit

set_option maxHeartbeats 2000000 in
theorem specCross (s : ByteArray) (L : Int) (w : World) (hs : s.size ≤ 1048576) :
    Calls Try.prog 5 #[.string s, .int .i64 L] w fun e w' => e = .returned (crossV s L) ∧ Below w.heap.size w w' := by
  cases ha : asked s L
  · have J := Lib.hid (crossV_no ha)
    have G := Lib.hid ha
    clear ha
    go_enter Try.func5, Try.ntmps5
    go_wp2_with (go_at_call 9; refine (specAsked _ _ _ hs).mono ?_; rintro e w' ⟨rfl, rfl⟩; rw [G.out])
    go_ret2
    exact ⟨ret_w J.out.symm, Below.refl _ _⟩
  · obtain ⟨hv, hz1, hz2, hL1, hL2⟩ := asked_out ha
    obtain ⟨l, rfl⟩ : ∃ l : Nat, L = (l : Int) := ⟨L.toNat, by omega⟩
    have J := Lib.hid (crossV_yes ha)
    have G := Lib.hid ha
    have LIM := Lib.hid (fun k hk => sumK_lim (s := s) (L := l) (p := s.size + 1) (k := k) (by omega) hk)
    have BIG := Lib.hid (fun k => waysK_big (s := s) (L := l) (k := k) (p := s.size + 1) (by omega))
    have ST := Lib.hid (sumK_s s l (s.size + 1))
    have HT := Lib.hid (show total s l = sumK s l (s.size + 1) (s.size + 2) from rfl)
    have FG := Lib.hid (fun j hj => fnL_gt (n := s.size + 2) (h := fun k => waysK s l k (s.size + 1)) (j := j) hj)
    have FL := Lib.hid (fnL_len (s.size + 2) (fun k => waysK s l k (s.size + 1)))
    clear ha hv
    obtain ⟨n, hn⟩ : ∃ n, n = s.size + 2 := ⟨_, rfl⟩
    have hn42 : n ≤ 42 := by omega
    have hn0 : 0 < n := by omega
    have HN := Lib.hid hn
    clear hn
    go_enter Try.func5, Try.ntmps5
    go_wp2_with (first
      | (go_at_call 9; refine (specAsked _ _ _ hs).mono ?_; rintro e w' ⟨rfl, rfl⟩; rw [G.out])
      | (go_at_call 10; refine (specCount s l _ hz2 (by omega)).mono ?_; rintro e w1 ⟨v, rfl, hI, hB⟩; rw [← HN.out] at hI FG FL HT; obtain ⟨g, n', cap, rfl, hn', hnc, hcm, hgb, hg2, hcell⟩ := hI.form (by rw [FL.out]; exact hn0); rw [FL.out] at hn'; rw [hn'] at hcell ⊢; clear hn'; have HC := Lib.hid hcell; clear hcell hI hnc hcm))
    go_loopw [6, 17] (fun x i wr => ∃ j : Nat, j ≤ n ∧ i = .int .i64 j ∧ x = .int .i64 ((sumK s l (s.size + 1) j : Nat) : Int) ∧ wr = w1) (fun _ i _ => n - (intOf i).toNat)
    case atStart => exact ⟨0, by omega, rfl, rfl, rfl⟩
    case round =>
      obtain ⟨j, hj, rfl, rfl, rfl⟩ := hrel
      by_cases hlt : j < n
      · have hji : (j : Int) < n := by omega
        have c := HC.out j hlt
        rw [FG.out j hlt] at c
        have hb1 := LIM.out j (by omega)
        have hb2 := BIG.out j
        have hb3 := LIM.out (j + 1) (by omega)
        have HS := Lib.hid (show ((sumK s l (s.size + 1) j : Nat) : Int) + ((waysK s l j (s.size + 1) : Nat) : Int) = ((sumK s l (s.size + 1) (j + 1) : Nat) : Int) by
          rw [ST.out]; omega)
        have HW := Lib.hid (show wrap64 (((sumK s l (s.size + 1) j : Nat) : Int) + ((waysK s l j (s.size + 1) : Nat) : Int)) = ((sumK s l (s.size + 1) (j + 1) : Nat) : Int) by
          rw [HS.out]; unfold wrap64; omega)
        go_wp2_with (go_at_call 11; first | rw [HW.out] | rw [HS.out]; refine (least _ _ (by omega)).mono ?_; rintro e w' ⟨rfl, rfl⟩)
        go_roundw
        case rel => exact ⟨j + 1, by omega, by go_num, rfl, by trivial⟩
        case measure => (simp [intOf]; try omega)
      · obtain rfl : j = n := by omega
        have hb := LIM.out j hn42
        have hb2 : ¬ (1000000000000000 : Int) < ((sumK s l (s.size + 1) j : Nat) : Int) := by omega
        go_wp2
        go_ret2
        have J2 := J.out
        rw [HT.out] at J2
        exact ⟨ret_w J2.symm, hB⟩
set_option maxHeartbeats 2000000 in
theorem specJust (s : ByteArray) (L k : Int) (w : World) (hs : s.size ≤ 1048576) :
    Calls Try.prog 7 #[.string s, .int .i64 L, .int .i64 k] w fun e w' => e = .returned (justV s L k) ∧ Below w.heap.size w w' := by
  cases ha : asked s L
  · have J := Lib.hid (justV_1 (k := k) ha)
    have G := Lib.hid ha
    clear ha
    go_enter Try.func7, Try.ntmps7
    go_wp2_with (go_at_call 9; refine (specAsked _ _ _ hs).mono ?_; rintro e w' ⟨rfl, rfl⟩; rw [G.out])
    go_ret2
    exact ⟨ret_w J.out.symm, Below.refl _ _⟩
  · have G := Lib.hid ha
    cases hk : inB k 0 41
    · have J := Lib.hid (justV_2 (s := s) (L := L) hk)
      have G2 := Lib.hid hk
      clear ha hk
      go_enter Try.func7, Try.ntmps7
      go_wp2_with (first
        | (go_at_call 9; refine (specAsked _ _ _ hs).mono ?_; rintro e w' ⟨rfl, rfl⟩; rw [G.out])
        | (go_at_call 15; refine (l1In _ _ _ _).mono ?_; rintro e w' ⟨rfl, rfl⟩; rw [G2.out]))
      go_ret2
      exact ⟨ret_w J.out.symm, Below.refl _ _⟩
    · obtain ⟨hv, hz1, hz2, hL1, hL2⟩ := asked_out ha
      obtain ⟨l, rfl⟩ : ∃ l : Nat, L = (l : Int) := ⟨L.toNat, by omega⟩
      have hk2 : 0 ≤ k ∧ k ≤ 41 := by simpa [inB] using hk
      obtain ⟨j, rfl⟩ : ∃ j : Nat, k = (j : Int) := ⟨k.toNat, by omega⟩
      have J := Lib.hid (justV_yes (k := j) ha hk)
      have G2 := Lib.hid hk
      have hb := waysK_big (s := s) (L := l) (k := j) (p := s.size + 1) (by omega)
      have FG := Lib.hid (fun j hj => fnL_gt (n := s.size + 2) (h := fun k => waysK s l k (s.size + 1)) (j := j) hj)
      have FL := Lib.hid (fnL_len (s.size + 2) (fun k => waysK s l k (s.size + 1)))
      have Z := Lib.hid (show s.size + 2 ≤ j → waysK s l j (s.size + 1) = 0 from fun h => waysK_zero s l j (s.size + 1) (by omega))
      have hb2 : ¬ (1000000000000000 : Int) < ((waysK s l j (s.size + 1) : Nat) : Int) := by omega
      clear ha hv hk hb
      obtain ⟨n, hn⟩ : ∃ n, n = s.size + 2 := ⟨_, rfl⟩
      have hn0 : 0 < n := by omega
      have HN := Lib.hid hn
      clear hn
      by_cases hjn : n ≤ j
      · have hjn2 : (n : Int) ≤ (j : Int) := by omega
        go_enter Try.func7, Try.ntmps7
        go_wp2_with (first
          | (go_at_call 9; refine (specAsked _ _ _ hs).mono ?_; rintro e w' ⟨rfl, rfl⟩; rw [G.out])
          | (go_at_call 15; refine (l1In _ _ _ _).mono ?_; rintro e w' ⟨rfl, rfl⟩; rw [G2.out])
          | (go_at_call 10; refine (specCount s l _ hz2 (by omega)).mono ?_; rintro e w1 ⟨v, rfl, hI, hB⟩; rw [← HN.out] at hI FG FL Z; obtain ⟨g, n', cap, rfl, hn', hnc, hcm, hgb, hg2, hcell⟩ := hI.form (by rw [FL.out]; exact hn0); rw [FL.out] at hn'; rw [hn'] at hcell ⊢; clear hn'; have HC := Lib.hid hcell; clear hcell hI hnc hcm))
        go_ret2
        exact ⟨ret_w (by rw [J.out, Z.out hjn]; rfl), hB⟩
      · have hjn2 : (j : Int) < (n : Int) := by omega
        go_enter Try.func7, Try.ntmps7
        go_wp2_with (first
          | (go_at_call 9; refine (specAsked _ _ _ hs).mono ?_; rintro e w' ⟨rfl, rfl⟩; rw [G.out])
          | (go_at_call 15; refine (l1In _ _ _ _).mono ?_; rintro e w' ⟨rfl, rfl⟩; rw [G2.out])
          | (go_at_call 10; refine (specCount s l _ hz2 (by omega)).mono ?_; rintro e w1 ⟨v, rfl, hI, hB⟩; rw [← HN.out] at hI FG FL; obtain ⟨g, n', cap, rfl, hn', hnc, hcm, hgb, hg2, hcell⟩ := hI.form (by rw [FL.out]; exact hn0); rw [FL.out] at hn'; rw [hn'] at hcell ⊢; clear hn'; have hc := hcell j (by omega); rw [FG.out j (by omega)] at hc; clear hcell hI hnc hcm))
        go_ret2
        exact ⟨ret_w J.out.symm, hB⟩
end Go.Proofs.Yteoggpollgkfiaa
