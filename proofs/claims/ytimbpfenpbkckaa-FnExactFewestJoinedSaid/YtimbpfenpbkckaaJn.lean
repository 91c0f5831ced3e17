/- Planks that are joined: slices.Min, canBeJoined, plLap, firstIndices, woodOf, joinedLengthOf; JoinedLength, impl and spec. -/
import Derived.Test.YtimbpfenpbkckaaFor
import Derived.Test.YtimbpfenpbkckaaFr
namespace Go.Proofs.Ytimbpfenpbkckaa
set_option linter.unusedVariables false
open Go.RowKit

/-- the least of the first k numbers -/
def mnTo (zs : List Int) : Nat → Int
  | 0 => 100
  | k + 1 => if gt zs k < mnTo zs k then gt zs k else mnTo zs k
theorem mnTo_s (zs : List Int) (k : Nat) : mnTo zs (k + 1) = if gt zs k < mnTo zs k then gt zs k else mnTo zs k := rfl
theorem mnTo_in {zs : List Int} (h : ∀ j, 0 ≤ gt zs j ∧ gt zs j ≤ 100) : ∀ k, 0 ≤ mnTo zs k ∧ mnTo zs k ≤ 100
  | 0 => ⟨by simp [mnTo], by simp [mnTo]⟩
  | k + 1 => by
    have := mnTo_in h k; have := h k
    rw [mnTo_s]; split <;> omega
theorem mnTo_1 {zs : List Int} (h : gt zs 0 ≤ 100) : mnTo zs 1 = gt zs 0 := by
  rw [mnTo_s]
  show (if gt zs 0 < 100 then gt zs 0 else 100) = gt zs 0
  split <;> omega
theorem mnTo_lap (zs : List Int) (lap : Int) (hl : lap < 100) : ∀ k, (lap < mnTo zs k) ↔ ∀ j, j < k → lap < gt zs j
  | 0 => by simp only [mnTo]; exact ⟨fun _ j hj => absurd hj (Nat.not_lt_zero _), fun _ => hl⟩
  | k + 1 => by
    have ih := mnTo_lap zs lap hl k
    rw [mnTo_s]
    constructor
    · intro h j hj
      by_cases e : j = k
      · subst e
        split at h <;> omega
      · refine ih.1 ?_ j (by omega)
        split at h <;> omega
    · intro h
      have h1 := ih.2 fun j hj => h j (by omega)
      have h2 := h k (by omega)
      split <;> omega

set_option maxHeartbeats 1000000 in
theorem minOf (v : Value) (zs : List Int) (w : World) (h : Rd w v zs) (hp : arePl zs = true) :
    Calls Try.prog 65 #[v] w fun e w' => e = .returned (.int .i64 (mnTo zs zs.length)) ∧ w = w' := by
  have hin := arePl_in hp
  have han := arePl_any hp
  have hmx := mnTo_in han
  obtain ⟨b, off, n, c, rfl, hnz, hb, hcell'⟩ := h.cellsP (by omega)
  rw [← hnz] at hin ⊢
  have M1 := Lib.hid (mnTo_1 (han 0).2)
  have c0 := hcell' 0 (by omega)
  rw [Nat.add_zero, ← M1.out] at c0
  have n1 := hin.1
  have n7 := hin.2.1
  have HC := Lib.hid hcell'
  have HN := Lib.hid han
  have HM := Lib.hid hmx
  have h01 := hmx 1
  clear hcell' h hp hin han hmx hnz
  go_enter Try.func65, Try.ntmps65
  go_wp2
  go_loop [3, 4] (fun m i => ∃ k : Nat, 1 ≤ k ∧ k ≤ n ∧ i = .int .i64 k ∧ m = .int .i64 (mnTo zs k)) (fun _ i => n - (intOf i).toNat)
  case atStart => exact ⟨1, by omega, by omega, rfl, rfl⟩
  case round =>
    obtain ⟨k, hk1, hk, rfl, rfl⟩ := hrel
    by_cases hlt : k < n
    · have hc := HC.out k hlt
      have hx := HN.out k
      have hy := HM.out k
      have R := Lib.hid (mnTo_s zs k)
      generalize gt zs k = x at *
      generalize mnTo zs k = y at *
      go_wp2
      go_round
      case rel => exact ⟨k + 1, by omega, by omega, by go_num, by rw [R.out]⟩
      case measure => (simp [intOf]; try omega)
    · obtain rfl : k = n := by omega
      go_wp2
      go_ret
      exact ⟨rfl, rfl⟩

/-- planks, a lap, and each plank longer than it -/
def laps (zs : List Int) (lap : Int) : Bool := arePl zs && inB lap 0 10 && zs.all fun n => inB n (lap + 1) 100
theorem laps_no1 {zs : List Int} {lap : Int} (h : arePl zs = false) : laps zs lap = false := by simp [laps, h]
theorem laps_no2 {zs : List Int} {lap : Int} (h : inB lap 0 10 = false) : laps zs lap = false := by simp [laps, h]
theorem laps_min {zs : List Int} {lap : Int} (h : arePl zs = true) (h2 : inB lap 0 10 = true) : laps zs lap = decide (lap < mnTo zs zs.length) := by
  have hb := inB_iff.1 h2
  have hin := arePl_in h
  have e : (zs.all fun n => inB n (lap + 1) 100) = decide (lap < mnTo zs zs.length) := by
    rw [Bool.eq_iff_iff, decide_eq_true_iff, mnTo_lap zs lap (by omega), List.all_eq_true]
    constructor
    · intro h j hj
      have := inB_iff.1 (h _ (gt_mem hj)); omega
    · intro h x hx
      obtain ⟨j, hj, rfl⟩ := List.getElem_of_mem hx
      have e : gt zs j = zs[j] := by simp [gt, hj]
      rw [← e]
      have := h j hj; have := hin.2.2 j hj
      exact inB_yes (by omega) (by omega)
  rw [laps, h, h2, e]; rfl
theorem laps_in {zs : List Int} {lap : Int} (h : laps zs lap = true) : arePl zs = true ∧ 0 ≤ lap ∧ lap ≤ 10 ∧ ∀ j, j < zs.length → lap < gt zs j := by
  unfold laps at h
  rw [Bool.and_eq_true, Bool.and_eq_true, inB_iff, List.all_eq_true] at h
  refine ⟨h.1.1, h.1.2.1, h.1.2.2, fun j hj => ?_⟩
  have := inB_iff.1 (h.2 _ (gt_mem hj)); omega
set_option maxHeartbeats 1000000 in
theorem canBeJoined (v : Value) (zs : List Int) (lap : Int) (w : World) (h : Rd w v zs) (hn : zs.length ≤ 1048576) :
    Calls Try.prog 49 #[v, .int .i64 lap] w fun e w' => e = .returned (.bool (laps zs lap)) ∧ w = w' := by
  have HA := Lib.hid (implArePl v zs w h hn)
  have HR := Lib.hid (isRest lap w)
  cases h1 : arePl zs
  · have R := Lib.hid (laps_no1 (lap := lap) h1)
    rw [h1] at HA
    clear h h1
    go_enter Try.func49, Try.ntmps49
    go_wp2_with (first
      | (go_at_call 15; refine HA.out.mono ?_; rintro e w' ⟨rfl, rfl⟩))
    go_ret
    exact ⟨ret_bool R.out.symm, rfl⟩
  have HM := Lib.hid (minOf v zs w h h1)
  cases h2 : inB lap 0 10
  · have R := Lib.hid (laps_no2 (zs := zs) h2)
    rw [h1] at HA
    rw [h2] at HR
    clear h h1 h2
    go_enter Try.func49, Try.ntmps49
    go_wp2_with (first
      | (go_at_call 15; refine HA.out.mono ?_; rintro e w' ⟨rfl, rfl⟩)
      | (go_at_call 42; refine HR.out.mono ?_; rintro e w' ⟨rfl, rfl⟩))
    go_ret
    exact ⟨ret_bool R.out.symm, rfl⟩
  · have R := Lib.hid (laps_min h1 h2)
    rw [h1] at HA
    rw [h2] at HR
    clear h h1 h2
    go_enter Try.func49, Try.ntmps49
    go_wp2_with (first
      | (go_at_call 15; refine HA.out.mono ?_; rintro e w' ⟨rfl, rfl⟩)
      | (go_at_call 42; refine HR.out.mono ?_; rintro e w' ⟨rfl, rfl⟩)
      | (go_at_call 65; refine HM.out.mono ?_; rintro e w' ⟨rfl, rfl⟩))
    go_ret
    exact ⟨ret_bool R.out.symm, rfl⟩
set_option maxHeartbeats 1000000 in
theorem plLap (v : Value) (zs : List Int) (lap : Int) (w : World) (h : Rd w v zs) (hn : zs.length ≤ 1048576) :
    Calls Try.prog 48 #[v, .int .i64 lap] w fun e w' => e = .returned (.bool (laps zs lap)) ∧ w = w' := by
  have HA := Lib.hid (plGood v zs w h hn)
  have HR := Lib.hid (plRest lap w)
  cases h1 : arePl zs
  · have R := Lib.hid (laps_no1 (lap := lap) h1)
    rw [h1] at HA
    clear h h1
    go_enter Try.func48, Try.ntmps48
    go_wp2_with (first
      | (go_at_call 37; refine HA.out.mono ?_; rintro e w' ⟨rfl, rfl⟩))
    go_ret
    exact ⟨ret_bool R.out.symm, rfl⟩
  cases h2 : inB lap 0 10
  · have R := Lib.hid (laps_no2 (zs := zs) h2)
    rw [h1] at HA
    rw [h2] at HR
    clear h h1 h2
    go_enter Try.func48, Try.ntmps48
    go_wp2_with (first
      | (go_at_call 37; refine HA.out.mono ?_; rintro e w' ⟨rfl, rfl⟩)
      | (go_at_call 40; refine HR.out.mono ?_; rintro e w' ⟨rfl, rfl⟩))
    go_ret
    exact ⟨ret_bool R.out.symm, rfl⟩
  · have R := Lib.hid (show laps zs lap = zs.all (fun n => inB n (lap + 1) 100) by simp [laps, h1, h2])
    have HL := Lib.hid (l1All v zs (lap + 1) 100 w h hn)
    have hb := inB_iff.1 h2
    rw [h1] at HA
    rw [h2] at HR
    clear h h1 h2
    generalize (zs.all fun n => inB n (lap + 1) 100) = t at *
    go_enter Try.func48, Try.ntmps48
    go_wp2_with (first
      | (go_at_call 37; refine HA.out.mono ?_; rintro e w' ⟨rfl, rfl⟩)
      | (go_at_call 40; refine HR.out.mono ?_; rintro e w' ⟨rfl, rfl⟩)
      | (go_at_call 63; refine HL.out.mono ?_; rintro e w' ⟨rfl, rfl⟩))
    go_ret
    exact ⟨ret_bool R.out.symm, rfl⟩

/-- indices as a slice has them -/
def idx (l : List Nat) : List Int := l.map fun (j : Nat) => (j : Int)
theorem idx_len (l : List Nat) : (idx l).length = l.length := by simp [idx]
theorem idx_gt (l : List Nat) (j : Nat) : gt (idx l) j = ((l.getD j 0 : Nat) : Int) := by
  unfold gt idx
  rw [List.getD_eq_getElem?_getD, List.getElem?_map, List.getD_eq_getElem?_getD]
  cases l[j]? <;> simp
/-- the wood of the first k of some planks -/
def woodTo (ps : List Int) (is : List Nat) : Nat → Int
  | 0 => 0
  | k + 1 => woodTo ps is k + gt ps (is.getD k 0)
theorem woodTo_s (ps : List Int) (is : List Nat) (k : Nat) : woodTo ps is (k + 1) = woodTo ps is k + gt ps (is.getD k 0) := rfl
theorem woodTo_in {ps : List Int} {is : List Nat} (h : ∀ j, 0 ≤ gt ps j ∧ gt ps j ≤ 100) : ∀ k : Nat, 0 ≤ woodTo ps is k ∧ woodTo ps is k ≤ 100 * k
  | 0 => ⟨Int.le_refl _, by simp [woodTo]⟩
  | k + 1 => by
    have := woodTo_in (is := is) h k; have := h (is.getD k 0)
    rw [woodTo_s]; omega
def woodL (ps : List Int) (is : List Nat) : Int := woodTo ps is is.length
set_option maxHeartbeats 1000000 in
theorem woodOf (v u : Value) (ps : List Int) (is : List Nat) (w : World) (h : Rd w v ps) (h2 : Rd w u (idx is)) (hp : arePl ps = true) (hi : ∀ j, j < is.length → is.getD j 0 < ps.length) (hl : is.length ≤ 1000) :
    Calls Try.prog 66 #[v, u] w fun e w' => e = .returned (.int .i64 (woodL ps is)) ∧ w = w' := by
  have hin := arePl_in hp
  obtain ⟨b, off, n, c, rfl, hnz, hb, hcell⟩ := h.cellsP (by omega)
  obtain ⟨a2, m, c2, rfl, hmz, hcell2⟩ := h2.cells
  rw [idx_len] at hmz
  have HX := Lib.hid (arePl_any hp)
  have HC := Lib.hid hcell
  have HC2 := Lib.hid hcell2
  have HI := Lib.hid hi
  have HW := Lib.hid (fun k => woodTo_in (is := is) HX.out k)
  have HMZ := Lib.hid hmz
  have n7 : n ≤ 7 := by omega
  rw [← hmz] at hl
  rw [← hnz] at HI
  have R := Lib.hid (show woodL ps is = woodTo ps is m by rw [hmz]; rfl)
  clear h h2 hp hin hcell hcell2 hi hnz hmz
  go_enter Try.func66, Try.ntmps66
  go_wp2
  go_loop [5, 10] (fun s i => ∃ k : Nat, k ≤ m ∧ i = .int .i64 k ∧ s = .int .i64 (woodTo ps is k)) (fun _ i => m - (intOf i).toNat)
  case atStart => exact ⟨0, Nat.zero_le _, rfl, rfl⟩
  case round =>
    obtain ⟨k, hk, rfl, rfl⟩ := hrel
    by_cases hlt : k < m
    · obtain ⟨b2, off2, rfl, _, hc2⟩ := HC2.out k hlt
      rw [idx_gt] at hc2
      have hi := HI.out k (by have := HMZ.out; omega)
      have hc := HC.out _ hi
      have hw := HW.out k
      have hx := HX.out (is.getD k 0)
      have S := Lib.hid (woodTo_s ps is k)
      generalize is.getD k 0 = i at *
      generalize woodTo ps is k = s at *
      generalize gt ps i = x at *
      have hi2 : (i : Int) < n := by omega
      have hlt' : (k : Int) < m := by omega
      go_wp2
      go_round
      case rel => exact ⟨k + 1, by omega, by go_num, by rw [S.out]⟩
      case measure => (simp [intOf]; try omega)
    · obtain rfl : k = m := by omega
      go_wp2
      go_ret
      exact ⟨ret_w (by rw [R.out]; rfl), rfl⟩
/-- how long planks are that are joined -/
def joinL (ps : List Int) (is : List Nat) (lap : Int) : Int := woodL ps is - lap * ((is.length : Int) - 1)
set_option maxHeartbeats 1000000 in
theorem joinedLengthOf (v u : Value) (ps : List Int) (is : List Nat) (lap : Int) (w : World) (h : Rd w v ps) (h2 : Rd w u (idx is)) (hp : arePl ps = true) (hi : ∀ j, j < is.length → is.getD j 0 < ps.length) (hl : is.length ≤ 1000) (hlap : 0 ≤ lap ∧ lap ≤ 10) :
    Calls Try.prog 50 #[v, u, .int .i64 lap] w fun e w' => e = .returned (.int .i64 (joinL ps is lap)) ∧ w = w' := by
  have HWd := Lib.hid (woodOf v u ps is w h h2 hp hi hl)
  have hw := woodTo_in (is := is) (arePl_any hp) is.length
  have E := Lib.hid (show joinL ps is lap = woodL ps is - lap * ((is.length : Int) - 1) from rfl)
  obtain ⟨a2, m, c2, rfl, hmz, _⟩ := h2.cells
  rw [idx_len] at hmz
  rw [← hmz] at hl E hw
  have hmul : -10 ≤ lap * ((m : Int) - 1) ∧ lap * ((m : Int) - 1) ≤ 10000 := by
    rcases Nat.eq_zero_or_pos m with e | e
    · subst e; simp; omega
    · have := mulB hlap.1 hlap.2 (show 0 ≤ (m : Int) - 1 by omega) (show (m : Int) - 1 ≤ 999 by omega)
      omega
  have hwl : 0 ≤ woodL ps is ∧ woodL ps is ≤ 100 * m := by rw [show woodL ps is = woodTo ps is m by rw [hmz]; rfl]; exact hw
  generalize woodL ps is = s at *
  clear h h2 hp hi hw hmz
  go_enter Try.func50, Try.ntmps50
  go_wp2_with (go_at_call 66; refine HWd.out.mono ?_; rintro e w' ⟨rfl, rfl⟩)
  go_ret
  exact ⟨ret_w (by rw [E.out]; rfl), rfl⟩
end Go.Proofs.Ytimbpfenpbkckaa
