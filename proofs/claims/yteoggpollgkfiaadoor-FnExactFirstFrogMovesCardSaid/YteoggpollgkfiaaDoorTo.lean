/- Where a frog goes: plain; spec.fgTo, impl.headingOf. -/
import Derived.Test.YteoggpollgkfiaaDoorPd
import Derived.Deep.QuietTactic
import Derived.BigQuiet
import Derived.WalkSmall
import Derived.Below
import Derived.Outline
import Derived.IntWalk
namespace Go.Proofs.YteoggpollgkfiaaDoor
set_option linter.unusedVariables false
open Go.RowKit

/-- the sign at a place, as a number -/
def sg (s : ByteArray) (k : Nat) : Int := ((s.data.toList.getD k 0).toNat : Int)
theorem sg_get {s : ByteArray} {k : Nat} (hk : k < s.size) : sg s k = (s[k].toNat : Int) := by
  have e : s.data.toList.getD k 0 = s[k] := by
    rw [List.getD_eq_getElem?_getD, List.getElem?_eq_getElem (by simpa using hk)]; rfl
  rw [sg, e]
theorem sg_out {s : ByteArray} {k : Nat} (hk : s.size ≤ k) : sg s k = 0 := by
  have e : s.data.toList.getD k 0 = 0 := by
    rw [List.getD_eq_getElem?_getD, List.getElem?_eq_none (by simpa using hk)]; rfl
  rw [sg, e]; rfl
theorem isPd_sg {s : ByteArray} (h : isPd s = true) {k : Nat} (hk : k < s.size) : sg s k = 114 ∨ sg s k = 108 ∨ sg s k = 46 := by
  have := (isPd_in h).2.2 k hk
  rw [sg_get hk]; exact this
/-- the stone to which the frog on a stone goes, or -1 -/
def toN (s : ByteArray) (k : Nat) : Int :=
  if sg s k = 114 then (if k + 1 < s.size ∧ sg s (k + 1) = 46 then (k : Int) + 1 else if k + 2 < s.size ∧ sg s (k + 2) = 46 ∧ sg s (k + 1) ≠ 114 then (k : Int) + 2 else -1)
  else if sg s k = 108 then (if 1 ≤ k ∧ sg s (k - 1) = 46 then (k : Int) - 1 else if 2 ≤ k ∧ sg s (k - 2) = 46 ∧ sg s (k - 1) ≠ 108 then (k : Int) - 2 else -1)
  else -1
def toI (s : ByteArray) (i : Int) : Int := if i < 0 ∨ (s.size : Int) ≤ i then -1 else toN s i.toNat
theorem toI_nat {s : ByteArray} {k : Nat} (hk : k < s.size) : toI s k = toN s k := by
  simp [toI]; omega
theorem toI_out {s : ByteArray} {i : Int} (h : i < 0 ∨ (s.size : Int) ≤ i) : toI s i = -1 := by simp [toI, h]
theorem toN_free {s : ByteArray} {k : Nat} (h : sg s k = 46) : toN s k = -1 := by simp [toN, h]
theorem toN_r1 {s : ByteArray} {k : Nat} (h : sg s k = 114) (h1 : k + 1 < s.size) (h2 : sg s (k + 1) = 46) : toN s k = k + 1 := by simp [toN, h, h1, h2]
theorem toN_r2 {s : ByteArray} {k : Nat} (h : sg s k = 114) (h1 : k + 2 < s.size) (h2 : sg s (k + 2) = 46) (h3 : sg s (k + 1) ≠ 114) (h4 : sg s (k + 1) ≠ 46) : toN s k = k + 2 := by simp [toN, h, h1, h2, h3, h4]
theorem toN_r3 {s : ByteArray} {k : Nat} (h : sg s k = 114) (h1 : ¬ (k + 1 < s.size ∧ sg s (k + 1) = 46)) (h2 : ¬ (k + 2 < s.size ∧ sg s (k + 2) = 46 ∧ sg s (k + 1) ≠ 114)) : toN s k = -1 := by
  unfold toN; rw [if_pos h, if_neg h1, if_neg h2]
theorem toN_l1 {s : ByteArray} {k : Nat} (h : sg s k = 108) (h1 : 1 ≤ k) (h2 : sg s (k - 1) = 46) : toN s k = k - 1 := by simp [toN, h, h1, h2]
theorem toN_l2 {s : ByteArray} {k : Nat} (h : sg s k = 108) (h1 : 2 ≤ k) (h2 : sg s (k - 2) = 46) (h3 : sg s (k - 1) ≠ 108) (h4 : sg s (k - 1) ≠ 46) : toN s k = k - 2 := by simp [toN, h, h1, h2, h3, h4]
theorem toN_l3 {s : ByteArray} {k : Nat} (h : sg s k = 108) (h1 : ¬ (1 ≤ k ∧ sg s (k - 1) = 46)) (h2 : ¬ (2 ≤ k ∧ sg s (k - 2) = 46 ∧ sg s (k - 1) ≠ 108)) : toN s k = -1 := by
  unfold toN; rw [if_neg (by omega), if_pos h, if_neg h1, if_neg h2]
theorem toN_bd (s : ByteArray) {k : Nat} (hk : k < s.size) : -1 ≤ toN s k ∧ toN s k < s.size := by
  unfold toN
  repeat' split
  all_goals omega
theorem toI_bd (s : ByteArray) (i : Int) : -1 ≤ toI s i ∧ (toI s i < s.size) := by
  unfold toI
  split
  · omega
  · rename_i h
    have := toN_bd s (k := i.toNat) (by omega)
    exact this
theorem toI_in {s : ByteArray} {i : Int} (h : 0 ≤ toI s i) : 0 ≤ i ∧ i < s.size := by
  unfold toI at h
  split at h
  · omega
  · omega

theorem heading_r (w : World) : Calls Tryd.prog 68 #[.int .u8 114] w fun e w' => e = .returned (.int .i64 1) ∧ w = w' := by
  go_enter Tryd.func68, Tryd.ntmps68
  go_wp2
  go_ret
  exact ⟨rfl, rfl⟩
theorem heading_l (w : World) : Calls Tryd.prog 68 #[.int .u8 108] w fun e w' => e = .returned (.int .i64 (-1)) ∧ w = w' := by
  go_enter Tryd.func68, Tryd.ntmps68
  go_wp2
  go_ret
  exact ⟨rfl, rfl⟩

theorem l1In_q {n lo hi : Int} {b : Bool} (h : Hid (inB n lo hi = b)) (w : World) :
    Calls Tryd.prog 46 #[.int .i64 n, .int .i64 lo, .int .i64 hi] w fun e w' => e = .returned (.bool b) ∧ w' = w :=
  (l1In n lo hi w).mono fun e w' ⟨he, hw⟩ => ⟨by rw [he, h.out], hw.symm⟩

def ToPost (s : ByteArray) (i : Int) (w : World) (e : Ending) (w' : World) : Prop := e = .returned (.int .i64 (toI s i)) ∧ Below w.heap.size w w'
theorem bel_drewN (w : World) (n : Nat) : Below w.heap.size w (w.drewN n) := below_drewN (Below.refl _ _) n

set_option maxHeartbeats 2000000 in
theorem specTo_r (s : ByteArray) (k : Nat) (w : World) (hp : isPd s = true) (hk : k < s.size) (h : sg s k = 114) :
    Calls Tryd.prog 48 #[.string s, .int .i64 k] w (ToPost s k w) := by
  obtain ⟨z1, z2, hal⟩ := isPd_in hp
  clear hal
  have HT := Lib.hid (toI_nat hk)
  have G0 := Lib.hid (inB_yes (n := (k : Int)) (lo := 0) (hi := (s.size : Int) - 1) (by omega) (by omega))
  have HG := Lib.hid h
  rw [sg_get hk] at h
  clear hp
  have b7 : (k : Int) < (s.size : Int) := by omega
  by_cases h1 : k + 1 < s.size
  · have hk1 : k + 1 < s.size := by omega
    have g1 := Lib.hid (inB_yes (n := (k : Int) + 1) (lo := 0) (hi := (s.size : Int) - 1) (by omega) (by omega))
    by_cases h2 : sg s (k + 1) = 46
    · have R := Lib.hid (HT.out.trans (toN_r1 HG.out h1 h2))
      rw [sg_get hk1] at h2
      skip
      go_enter Tryd.func48, Tryd.ntmps48
      go_wp2_with (go_at_call 46; first | ((with_reducible refine (l1In_q G0 _).mono ?_); rintro e w' ⟨rfl, rfl⟩) | ((with_reducible refine (l1In_q g1 _).mono ?_); rintro e w' ⟨rfl, rfl⟩))
      go_ret
      exact ⟨ret_v (by rw [R.out]; rfl), Below.refl _ _⟩
    · have H2 := Lib.hid h2
      rw [sg_get hk1] at h2
      have h2b : ((s[k + 1].toNat : Int) == 46) = false := by simpa using h2
      by_cases h3 : k + 2 < s.size
      · have hk2 : k + 2 < s.size := by omega
        have g2 := Lib.hid (inB_yes (n := (k : Int) + 2) (lo := 0) (hi := (s.size : Int) - 1) (by omega) (by omega))
        by_cases h4 : sg s (k + 2) = 46
        · by_cases h5 : sg s (k + 1) = 114
          · have R := Lib.hid (HT.out.trans (toN_r3 HG.out (fun h => H2.out h.2) (fun h => h.2.2 h5)))
            rw [sg_get hk1] at h5
            rw [sg_get hk2] at h4
            clear h2 h2b
            go_enter Tryd.func48, Tryd.ntmps48
            go_wp2_with (go_at_call 46; first | ((with_reducible refine (l1In_q G0 _).mono ?_); rintro e w' ⟨rfl, rfl⟩) | ((with_reducible refine (l1In_q g1 _).mono ?_); rintro e w' ⟨rfl, rfl⟩))
            have b1 : (k : Int) + 2 < (s.size : Int) := by omega
            have b2 : 0 ≤ (k : Int) + 2 := by omega
            have b4 : (k : Int) + 1 < (s.size : Int) := by omega
            have b5 : 0 ≤ (k : Int) + 1 := by omega
            have b3 : ((k : Int) + 2).toNat = k + 2 := by omega
            have b6 : ((k : Int) + 1).toNat = k + 1 := by omega
            have W1 := IntWalk.i64_in ((s.size : Int) - 1) (by omega)
            go_quiet ((go_at_call 46; exact Calls.quiet_of_same (l1In_q g2 _)))
            clear W1
            go_wp2
            go_ret
            exact ⟨ret_v (by rw [R.out]; rfl), bel_drewN _ _⟩
          · have R := Lib.hid (HT.out.trans (toN_r2 HG.out h3 h4 h5 H2.out))
            rw [sg_get hk1] at h5
            rw [sg_get hk2] at h4
            have h5b : ((s[k + 1].toNat : Int) != 114) = true := by simpa using h5
            go_enter Tryd.func48, Tryd.ntmps48
            go_wp2_with (go_at_call 46; first | ((with_reducible refine (l1In_q G0 _).mono ?_); rintro e w' ⟨rfl, rfl⟩) | ((with_reducible refine (l1In_q g1 _).mono ?_); rintro e w' ⟨rfl, rfl⟩))
            have b1 : (k : Int) + 2 < (s.size : Int) := by omega
            have b2 : 0 ≤ (k : Int) + 2 := by omega
            have b4 : (k : Int) + 1 < (s.size : Int) := by omega
            have b5 : 0 ≤ (k : Int) + 1 := by omega
            have b3 : ((k : Int) + 2).toNat = k + 2 := by omega
            have b6 : ((k : Int) + 1).toNat = k + 1 := by omega
            have W1 := IntWalk.i64_in ((s.size : Int) - 1) (by omega)
            go_quiet ((go_at_call 46; exact Calls.quiet_of_same (l1In_q g2 _)))
            clear W1
            go_wp2
            go_ret
            exact ⟨ret_v (by rw [R.out]; rfl), bel_drewN _ _⟩
        · have R := Lib.hid (HT.out.trans (toN_r3 HG.out (fun h => H2.out h.2) (fun h => h4 h.2.1)))
          rw [sg_get hk2] at h4
          have h4b : ((s[k + 2].toNat : Int) == 46) = false := by simpa using h4
          go_enter Tryd.func48, Tryd.ntmps48
          go_wp2_with (go_at_call 46; first | ((with_reducible refine (l1In_q G0 _).mono ?_); rintro e w' ⟨rfl, rfl⟩) | ((with_reducible refine (l1In_q g1 _).mono ?_); rintro e w' ⟨rfl, rfl⟩))
          have b1 : (k : Int) + 2 < (s.size : Int) := by omega
          have b2 : 0 ≤ (k : Int) + 2 := by omega
          have b4 : (k : Int) + 1 < (s.size : Int) := by omega
          have b5 : 0 ≤ (k : Int) + 1 := by omega
          have b3 : ((k : Int) + 2).toNat = k + 2 := by omega
          have b6 : ((k : Int) + 1).toNat = k + 1 := by omega
          have W1 := IntWalk.i64_in ((s.size : Int) - 1) (by omega)
          go_quiet ((go_at_call 46; exact Calls.quiet_of_same (l1In_q g2 _)))
          clear W1
          go_wp2
          go_ret
          exact ⟨ret_v (by rw [R.out]; rfl), bel_drewN _ _⟩
      · have R := Lib.hid (HT.out.trans (toN_r3 HG.out (fun h => H2.out h.2) (fun h => h3 h.1)))
        have g2 := Lib.hid (inB_no (n := (k : Int) + 2) (lo := 0) (hi := (s.size : Int) - 1) (by omega))
        go_enter Tryd.func48, Tryd.ntmps48
        go_wp2_with (go_at_call 46; first | ((with_reducible refine (l1In_q G0 _).mono ?_); rintro e w' ⟨rfl, rfl⟩) | ((with_reducible refine (l1In_q g1 _).mono ?_); rintro e w' ⟨rfl, rfl⟩))
        have W1 := IntWalk.i64_in ((s.size : Int) - 1) (by omega)
        go_quiet ((go_at_call 46; exact Calls.quiet_of_same (l1In_q g2 _)))
        clear W1
        go_wp2
        go_ret
        exact ⟨ret_v (by rw [R.out]; rfl), bel_drewN _ _⟩
  · have R := Lib.hid (HT.out.trans (toN_r3 HG.out (fun h => h1 h.1) (fun h => h1 (by omega))))
    have g1 := Lib.hid (inB_no (n := (k : Int) + 1) (lo := 0) (hi := (s.size : Int) - 1) (by omega))
    have g2 := Lib.hid (inB_no (n := (k : Int) + 2) (lo := 0) (hi := (s.size : Int) - 1) (by omega))
    go_enter Tryd.func48, Tryd.ntmps48
    go_wp2_with (go_at_call 46; first | ((with_reducible refine (l1In_q G0 _).mono ?_); rintro e w' ⟨rfl, rfl⟩) | ((with_reducible refine (l1In_q g1 _).mono ?_); rintro e w' ⟨rfl, rfl⟩))
    have W1 := IntWalk.i64_in ((s.size : Int) - 1) (by omega)
    go_quiet ((go_at_call 46; exact Calls.quiet_of_same (l1In_q g2 _)))
    clear W1
    go_wp2
    go_ret
    exact ⟨ret_v (by rw [R.out]; rfl), bel_drewN _ _⟩

set_option maxHeartbeats 2000000 in
theorem specTo_l (s : ByteArray) (k : Nat) (w : World) (hp : isPd s = true) (hk : k < s.size) (h : sg s k = 108) :
    Calls Tryd.prog 48 #[.string s, .int .i64 k] w (ToPost s k w) := by
  obtain ⟨z1, z2, hal⟩ := isPd_in hp
  clear hal
  have HT := Lib.hid (toI_nat hk)
  have G0 := Lib.hid (inB_yes (n := (k : Int)) (lo := 0) (hi := (s.size : Int) - 1) (by omega) (by omega))
  have HG := Lib.hid h
  rw [sg_get hk] at h
  clear hp
  have b7 : (k : Int) < (s.size : Int) := by omega
  by_cases h1 : 1 ≤ k
  · have hk1 : k - 1 < s.size := by omega
    have g1 := Lib.hid (inB_yes (n := (k : Int) + -1) (lo := 0) (hi := (s.size : Int) - 1) (by omega) (by omega))
    by_cases h2 : sg s (k - 1) = 46
    · have R := Lib.hid (HT.out.trans (toN_l1 HG.out h1 h2))
      rw [sg_get hk1] at h2
      have b4 : (k : Int) + -1 < (s.size : Int) := by omega
      have b5 : 0 ≤ (k : Int) + -1 := by omega
      have b6 : ((k : Int) + -1).toNat = k - 1 := by omega
      go_enter Tryd.func48, Tryd.ntmps48
      go_wp2_with (go_at_call 46; first | ((with_reducible refine (l1In_q G0 _).mono ?_); rintro e w' ⟨rfl, rfl⟩) | ((with_reducible refine (l1In_q g1 _).mono ?_); rintro e w' ⟨rfl, rfl⟩))
      go_ret
      exact ⟨ret_v (by rw [R.out]; rfl), Below.refl _ _⟩
    · have H2 := Lib.hid h2
      rw [sg_get hk1] at h2
      have h2b : ((s[k - 1].toNat : Int) == 46) = false := by simpa using h2
      by_cases h3 : 2 ≤ k
      · have hk2 : k - 2 < s.size := by omega
        have g2 := Lib.hid (inB_yes (n := (k : Int) + -2) (lo := 0) (hi := (s.size : Int) - 1) (by omega) (by omega))
        by_cases h4 : sg s (k - 2) = 46
        · by_cases h5 : sg s (k - 1) = 108
          · have R := Lib.hid (HT.out.trans (toN_l3 HG.out (fun h => H2.out h.2) (fun h => h.2.2 h5)))
            rw [sg_get hk1] at h5
            rw [sg_get hk2] at h4
            clear h2 h2b
            have b4 : (k : Int) + -1 < (s.size : Int) := by omega
            have b5 : 0 ≤ (k : Int) + -1 := by omega
            have b6 : ((k : Int) + -1).toNat = k - 1 := by omega
            go_enter Tryd.func48, Tryd.ntmps48
            go_wp2_with (go_at_call 46; first | ((with_reducible refine (l1In_q G0 _).mono ?_); rintro e w' ⟨rfl, rfl⟩) | ((with_reducible refine (l1In_q g1 _).mono ?_); rintro e w' ⟨rfl, rfl⟩))
            have b1 : (k : Int) + -2 < (s.size : Int) := by omega
            have b2 : 0 ≤ (k : Int) + -2 := by omega
            have b3 : ((k : Int) + -2).toNat = k - 2 := by omega
            have W1 := IntWalk.i64_in ((s.size : Int) - 1) (by omega)
            go_quiet ((go_at_call 46; exact Calls.quiet_of_same (l1In_q g2 _)))
            clear W1
            go_wp2
            go_ret
            exact ⟨ret_v (by rw [R.out]; rfl), bel_drewN _ _⟩
          · have R := Lib.hid (HT.out.trans (toN_l2 HG.out h3 h4 h5 H2.out))
            rw [sg_get hk1] at h5
            rw [sg_get hk2] at h4
            have h5b : ((s[k - 1].toNat : Int) != 108) = true := by simpa using h5
            have b4 : (k : Int) + -1 < (s.size : Int) := by omega
            have b5 : 0 ≤ (k : Int) + -1 := by omega
            have b6 : ((k : Int) + -1).toNat = k - 1 := by omega
            go_enter Tryd.func48, Tryd.ntmps48
            go_wp2_with (go_at_call 46; first | ((with_reducible refine (l1In_q G0 _).mono ?_); rintro e w' ⟨rfl, rfl⟩) | ((with_reducible refine (l1In_q g1 _).mono ?_); rintro e w' ⟨rfl, rfl⟩))
            have b1 : (k : Int) + -2 < (s.size : Int) := by omega
            have b2 : 0 ≤ (k : Int) + -2 := by omega
            have b3 : ((k : Int) + -2).toNat = k - 2 := by omega
            have W1 := IntWalk.i64_in ((s.size : Int) - 1) (by omega)
            go_quiet ((go_at_call 46; exact Calls.quiet_of_same (l1In_q g2 _)))
            clear W1
            go_wp2
            go_ret
            exact ⟨ret_v (by rw [R.out]; rfl), bel_drewN _ _⟩
        · have R := Lib.hid (HT.out.trans (toN_l3 HG.out (fun h => H2.out h.2) (fun h => h4 h.2.1)))
          rw [sg_get hk2] at h4
          have h4b : ((s[k - 2].toNat : Int) == 46) = false := by simpa using h4
          have b4 : (k : Int) + -1 < (s.size : Int) := by omega
          have b5 : 0 ≤ (k : Int) + -1 := by omega
          have b6 : ((k : Int) + -1).toNat = k - 1 := by omega
          go_enter Tryd.func48, Tryd.ntmps48
          go_wp2_with (go_at_call 46; first | ((with_reducible refine (l1In_q G0 _).mono ?_); rintro e w' ⟨rfl, rfl⟩) | ((with_reducible refine (l1In_q g1 _).mono ?_); rintro e w' ⟨rfl, rfl⟩))
          have b1 : (k : Int) + -2 < (s.size : Int) := by omega
          have b2 : 0 ≤ (k : Int) + -2 := by omega
          have b3 : ((k : Int) + -2).toNat = k - 2 := by omega
          have W1 := IntWalk.i64_in ((s.size : Int) - 1) (by omega)
          go_quiet ((go_at_call 46; exact Calls.quiet_of_same (l1In_q g2 _)))
          clear W1
          go_wp2
          go_ret
          exact ⟨ret_v (by rw [R.out]; rfl), bel_drewN _ _⟩
      · have R := Lib.hid (HT.out.trans (toN_l3 HG.out (fun h => H2.out h.2) (fun h => h3 h.1)))
        have g2 := Lib.hid (inB_no (n := (k : Int) + -2) (lo := 0) (hi := (s.size : Int) - 1) (by omega))
        have b4 : (k : Int) + -1 < (s.size : Int) := by omega
        have b5 : 0 ≤ (k : Int) + -1 := by omega
        have b6 : ((k : Int) + -1).toNat = k - 1 := by omega
        go_enter Tryd.func48, Tryd.ntmps48
        go_wp2_with (go_at_call 46; first | ((with_reducible refine (l1In_q G0 _).mono ?_); rintro e w' ⟨rfl, rfl⟩) | ((with_reducible refine (l1In_q g1 _).mono ?_); rintro e w' ⟨rfl, rfl⟩))
        have W1 := IntWalk.i64_in ((s.size : Int) - 1) (by omega)
        go_quiet ((go_at_call 46; exact Calls.quiet_of_same (l1In_q g2 _)))
        clear W1
        go_wp2
        go_ret
        exact ⟨ret_v (by rw [R.out]; rfl), bel_drewN _ _⟩
  · have R := Lib.hid (HT.out.trans (toN_l3 HG.out (fun h => h1 h.1) (fun h => h1 (by omega))))
    have g1 := Lib.hid (inB_no (n := (k : Int) + -1) (lo := 0) (hi := (s.size : Int) - 1) (by omega))
    have g2 := Lib.hid (inB_no (n := (k : Int) + -2) (lo := 0) (hi := (s.size : Int) - 1) (by omega))
    go_enter Tryd.func48, Tryd.ntmps48
    go_wp2_with (go_at_call 46; first | ((with_reducible refine (l1In_q G0 _).mono ?_); rintro e w' ⟨rfl, rfl⟩) | ((with_reducible refine (l1In_q g1 _).mono ?_); rintro e w' ⟨rfl, rfl⟩))
    have W1 := IntWalk.i64_in ((s.size : Int) - 1) (by omega)
    go_quiet ((go_at_call 46; exact Calls.quiet_of_same (l1In_q g2 _)))
    clear W1
    go_wp2
    go_ret
    exact ⟨ret_v (by rw [R.out]; rfl), bel_drewN _ _⟩

theorem specTo_f (s : ByteArray) (k : Nat) (w : World) (hp : isPd s = true) (hk : k < s.size) (h : sg s k = 46) :
    Calls Tryd.prog 48 #[.string s, .int .i64 k] w (ToPost s k w) := by
  obtain ⟨z1, z2, hal⟩ := isPd_in hp
  clear hal
  have R := Lib.hid ((toI_nat hk).trans (toN_free h))
  have G0 := Lib.hid (inB_yes (n := (k : Int)) (lo := 0) (hi := (s.size : Int) - 1) (by omega) (by omega))
  rw [sg_get hk] at h
  clear hp
  go_enter Tryd.func48, Tryd.ntmps48
  go_wp2_with (go_at_call 46; refine (l1In_q G0 _).mono ?_; rintro e w' ⟨rfl, rfl⟩)
  go_ret
  exact ⟨ret_v (by rw [R.out]; rfl), Below.refl _ _⟩
theorem specTo_o (s : ByteArray) (i : Int) (w : World) (hp : isPd s = true) (h : i < 0 ∨ (s.size : Int) ≤ i) :
    Calls Tryd.prog 48 #[.string s, .int .i64 i] w (ToPost s i w) := by
  obtain ⟨z1, z2, hal⟩ := isPd_in hp
  clear hal
  have R := Lib.hid (toI_out h)
  have G0 := Lib.hid (inB_no (n := i) (lo := 0) (hi := (s.size : Int) - 1) (by omega))
  clear hp h
  go_enter Tryd.func48, Tryd.ntmps48
  go_wp2_with (go_at_call 46; refine (l1In_q G0 _).mono ?_; rintro e w' ⟨rfl, rfl⟩)
  go_ret
  exact ⟨ret_v (by rw [R.out]; rfl), Below.refl _ _⟩
theorem specTo (s : ByteArray) (i : Int) (w : World) (hp : isPd s = true) :
    Calls Tryd.prog 48 #[.string s, .int .i64 i] w (ToPost s i w) := by
  by_cases h : i < 0 ∨ (s.size : Int) ≤ i
  · exact specTo_o s i w hp h
  · obtain ⟨k, rfl⟩ := Int.eq_ofNat_of_zero_le (show 0 ≤ i by omega)
    have hk : k < s.size := by omega
    rcases isPd_sg hp hk with h | h | h
    · exact specTo_r s k w hp hk h
    · exact specTo_l s k w hp hk h
    · exact specTo_f s k w hp hk h
end Go.Proofs.YteoggpollgkfiaaDoor
