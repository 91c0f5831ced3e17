/- SquareToInner, NeedsCorner, SecondNeeds, TurnCorner, CanSquare, LeastSquarePlank: both sides. -/
import Derived.Test.YtfkdkhoihlkgcaaCd
import Derived.Deep.RegionWith
namespace Go.Proofs.Ytfkdkhoihlkgcaa
set_option linter.unusedVariables false
open Go.RowKit

theorem mul_bd {a b m n : Int} (ha : 0 ≤ a) (hb : 0 ≤ b) (h1 : a ≤ m) (h2 : b ≤ n) : 0 ≤ a * b ∧ a * b ≤ m * n :=
  ⟨Int.mul_nonneg ha hb, Int.mul_le_mul h1 h2 hb (by omega)⟩
theorem rd_two {W : World} {g : Nat} {a b : Int} (h : Blk W g #[.int .i64 a, .int .i64 b]) : Rd W (.slice (some ⟨g, 0, none⟩) 2 2) [a, b] := by
  refine .inr ⟨g, 0, 2, rfl, h.lt, Nat.le_refl _, by unfold maxLen; omega, fun j hj => ?_⟩
  have h01 : j = 0 ∨ j = 1 := by simp at hj; omega
  rcases h01 with rfl | rfl
  · exact h.cell 0
  · exact h.cell 1
theorem gt_two {a b m : Int} (ha : -m ≤ a ∧ a ≤ m) (hb : -m ≤ b ∧ b ≤ m) (j : Nat) : -m ≤ gt [a, b] j ∧ gt [a, b] j ≤ m := by
  rcases j with _ | _ | j
  · exact ha
  · exact hb
  · simp [gt]; omega
def sqV (x y : Int) : Value := if isCn x y then .tuple #[.int .i64 (x * x + y * y), .bool true] else .tuple #[.int .i64 0, .bool false]
theorem sqV_no {x y : Int} (h : isCn x y = false) : sqV x y = .tuple #[.int .i64 0, .bool false] := by simp [sqV, h]
theorem sqV_yes {x y : Int} (h : isCn x y = true) : sqV x y = .tuple #[.int .i64 (x * x + y * y), .bool true] := by simp [sqV, h]
theorem sqV_form (x y : Int) : ∃ a b, sqV x y = .tuple #[.int .i64 a, .bool b] := by unfold sqV; split <;> exact ⟨_, _, rfl⟩
def neV (x y p : Int) : Value := if isCn x y && isPl p then .tuple #[.bool (decide (p < x) && decide (p < y)), .bool true] else .tuple #[.bool false, .bool false]
theorem neV_no {x y p : Int} (h : (isCn x y && isPl p) = false) : neV x y p = .tuple #[.bool false, .bool false] := by simp [neV, h]
theorem neV_yes {x y p : Int} (h : (isCn x y && isPl p) = true) : neV x y p = .tuple #[.bool (decide (p < x) && decide (p < y)), .bool true] := by simp [neV, h]
theorem neV_form (x y p : Int) : ∃ a b, neV x y p = .tuple #[.bool a, .bool b] := by unfold neV; split <;> exact ⟨_, _, rfl⟩
/-- four times the square of what the second plank spans -/
def nd (x y a b : Int) : Int := (2 * x - a) * (2 * x - a) + (2 * y - b) * (2 * y - b)
theorem nd_sq (x y a b : Int) : sqN (2 * x) (2 * y) [a, b] 2 = nd x y a b := by
  rw [sqN_two, nd, ← Int.neg_mul_neg (a - 2 * x), ← Int.neg_mul_neg (b - 2 * y), Int.neg_sub, Int.neg_sub]
def secV (x y a b : Int) : Value := if isCn x y && (isPl a && isPl b) then .tuple #[.int .i64 (nd x y a b), .bool true] else .tuple #[.int .i64 0, .bool false]
theorem secV_no {x y a b : Int} (h : (isCn x y && (isPl a && isPl b)) = false) : secV x y a b = .tuple #[.int .i64 0, .bool false] := by simp only [secV, h]; rfl
theorem secV_yes {x y a b : Int} (h : (isCn x y && (isPl a && isPl b)) = true) : secV x y a b = .tuple #[.int .i64 (nd x y a b), .bool true] := by simp only [secV, h]; rfl
theorem secV_form (x y a b : Int) : ∃ p q, secV x y a b = .tuple #[.int .i64 p, .bool q] := by unfold secV; split <;> exact ⟨_, _, rfl⟩
def turnCV (x y : Int) : Value := if isCn x y then .tuple #[.agg #[.int .i64 y, .int .i64 x], .bool true] else .tuple #[.agg #[.int .i64 0, .int .i64 0], .bool false]
theorem turnCV_no {x y : Int} (h : isCn x y = false) : turnCV x y = .tuple #[.agg #[.int .i64 0, .int .i64 0], .bool false] := by simp [turnCV, h]
theorem turnCV_yes {x y : Int} (h : isCn x y = true) : turnCV x y = .tuple #[.agg #[.int .i64 y, .int .i64 x], .bool true] := by simp [turnCV, h]
theorem turnCV_form (x y : Int) : ∃ a b c, turnCV x y = .tuple #[.agg #[.int .i64 a, .int .i64 b], .bool c] := by unfold turnCV; split <;> exact ⟨_, _, _, rfl⟩

def cansV (a p : Int) : Value := if isDt a && isPl p then .tuple #[.bool (decide (8 * a * a ≤ 9 * p * p)), .bool true] else .tuple #[.bool false, .bool false]
theorem cansV_no {a p : Int} (h : (isDt a && isPl p) = false) : cansV a p = .tuple #[.bool false, .bool false] := by simp [cansV, h]
theorem cansV_yes {a p : Int} (h : (isDt a && isPl p) = true) : cansV a p = .tuple #[.bool (decide (8 * a * a ≤ 9 * p * p)), .bool true] := by simp [cansV, h]
theorem cansV_form (a p : Int) : ∃ x y, cansV a p = .tuple #[.bool x, .bool y] := by unfold cansV; split <;> exact ⟨_, _, rfl⟩
theorem enough (a p : Int) (w : World) (ha : 1 ≤ a ∧ a ≤ 1000) (hp : 1 ≤ p ∧ p ≤ 1000) :
    Calls Try.prog 35 #[.int .i64 a, .int .i64 p] w fun e w' => e = .returned (.bool (decide (8 * a * a ≤ 9 * p * p))) ∧ w = w' := by
  have s1 := mul_bd (a := 9 * p) (b := p) (m := 9000) (n := 1000) (by omega) (by omega) (by omega) (by omega)
  have s2 := mul_bd (a := 8 * a) (b := a) (m := 8000) (n := 1000) (by omega) (by omega) (by omega) (by omega)
  by_cases hc : 8 * a * a ≤ 9 * p * p
  all_goals
    go_enter Try.func35, Try.ntmps35
    go_wp2
    go_ret
    exact ⟨ret_bool (by first | rfl | (simp [hc]; try omega)), rfl⟩
set_option maxHeartbeats 1000000 in
theorem specSquare (x y : Int) (w : World) :
    Calls Try.prog 13 #[.agg #[.int .i64 x, .int .i64 y]] w fun e w' => e = .returned (sqV x y) ∧ Below w.heap.size w w' := by
  have HG := Lib.hid (fun wx => cnGood x y wx)
  cases h : isCn x y
  · have J := Lib.hid (sqV_no h)
    rw [h] at HG
    clear h
    go_enter Try.func13, Try.ntmps13
    go_wp2_with (go_at_call 26; refine (HG.out _).mono ?_; rintro e w1 ⟨rfl, hb⟩)
    go_ret2
    exact ⟨ret_v J.out.symm, Below.trans (by (repeat (first | exact Below.refl _ _ | (refine Below.alloc ?_ (by first | omega | (simp; try omega)) _) | apply Below.drew | apply below_drewN))) (hb.mono (by simp; try omega))⟩
  · have J := Lib.hid (sqV_yes h)
    rw [h] at HG
    have hxy := isCn_in h
    have s1 := mul_bd (a := x) (b := x) (m := 100) (n := 100) (by omega) (by omega) (by omega) (by omega)
    have s2 := mul_bd (a := y) (b := y) (m := 100) (n := 100) (by omega) (by omega) (by omega) (by omega)
    clear h
    have X1 := Lib.hid (Blk.new w #[.int .i64 x, .int .i64 y] 25)
    go_enter Try.func13, Try.ntmps13
    go_wp2_with fail
    refine (HG.out _).mono ?_; rintro e w1 ⟨rfl, hb⟩
    obtain ⟨c0, c1, l0⟩ := (X1.out.below hb (by simp)).two
    go_wp2
    go_ret2
    exact ⟨ret_v J.out.symm, Below.trans (by (repeat (first | exact Below.refl _ _ | (refine Below.alloc ?_ (by first | omega | (simp; try omega)) _) | apply Below.drew | apply below_drewN))) (hb.mono (by simp; try omega))⟩
set_option maxHeartbeats 1000000 in
theorem implSquare (x y : Int) (w : World) :
    Calls Try.prog 14 #[.agg #[.int .i64 x, .int .i64 y]] w fun e w' => e = .returned (sqV x y) ∧ Below w.heap.size w w' := by
  have HG := Lib.hid (fun wx => implIsCorner x y wx)
  cases h : isCn x y
  · have J := Lib.hid (sqV_no h)
    rw [h] at HG
    clear h
    go_enter Try.func14, Try.ntmps14
    go_wp2_with (go_at_call 12; refine (HG.out _).mono ?_; rintro e w1 ⟨rfl, hb⟩)
    go_ret2
    exact ⟨ret_v J.out.symm, Below.trans (by (repeat (first | exact Below.refl _ _ | (refine Below.alloc ?_ (by first | omega | (simp; try omega)) _) | apply Below.drew | apply below_drewN))) (hb.mono (by simp; try omega))⟩
  · have J := Lib.hid (sqV_yes h)
    rw [h] at HG
    have hxy := isCn_in h
    clear h
    have X1 := Lib.hid (Blk.new w #[.int .i64 x, .int .i64 y] 25)
    go_enter Try.func14, Try.ntmps14
    go_wp2_with fail
    refine (HG.out _).mono ?_; rintro e w1 ⟨rfl, hb⟩
    obtain ⟨c0, c1, l0⟩ := (X1.out.below hb (by simp)).two
    have KP := Lib.hid (fun W (hb : Below w1.heap.size w1 W) => (show W.cell? ⟨w.heap.size, 0, none⟩ = some (.int .i64 x) ∧ W.cell? ⟨w.heap.size, 1, none⟩ = some (.int .i64 y) from ⟨(hb.cell (p := ⟨w.heap.size, 0, none⟩) l0).trans c0, (hb.cell (p := ⟨w.heap.size, 1, none⟩) l0).trans c1⟩))
    have HB := Lib.hid (Below.trans (by (repeat (first | exact Below.refl _ _ | (refine Below.alloc ?_ (by first | omega | (simp; try omega)) _) | apply Below.drew | apply below_drewN))) (hb.mono (by simp; try omega)) : Below w.heap.size w w1)
    have HS := Lib.hid (show sqN 0 0 [x, y] [x, y].length = x * x + y * y by simp [sqN, gt])
    clear c0 c1 hb
    go_wp2
    go_region_held3 (fun W => W.cell? ⟨w.heap.size, 0, none⟩ = some (.int .i64 x) ∧ W.cell? ⟨w.heap.size, 1, none⟩ = some (.int .i64 y)) (first | exact KP.out _ D3.out | exact KP.out _ (by (repeat (first | exact Below.refl _ _ | (refine Below.alloc ?_ (by first | omega | (simp; try omega)) _) | apply Below.drew | apply below_drewN)))) (first
      | (go_at_call 28; refine (squareFrom 0 0 _).mono ?_; rintro e w' ⟨rfl, rfl⟩)
      | (go_at_call 37; refine (sqCall _ 0 0 _ [x, y] _ (by first | exact ((Blk.new _ _ _).at_ (by simp)).drew | exact (((Blk.new _ _ _).alloc _).at_ (by simp)).drew) (rd_two (by first | exact ((Blk.new _ _ _).at_ (by simp)).drew | exact (((Blk.new _ _ _).alloc _).at_ (by simp)).drew)) (by simp) (by omega) (by omega) (gt_two (by omega) (by omega))).mono ?_; rintro e w3 ⟨rfl, hb3⟩; have D3 := Lib.hid (Below.trans (by (repeat (first | exact Below.refl _ _ | (refine Below.alloc ?_ (by first | omega | (simp; try omega)) _) | apply Below.drew | apply below_drewN))) (hb3.mono (by simp; try omega)) : Below w1.heap.size w1 w3); clear hb3))
    all_goals
      go_wp2
      go_ret2
      exact ⟨ret_v (by rw [J.out, ← HS.out]; rfl), HB.out.trans (D3.out.mono HB.out.size)⟩
set_option maxHeartbeats 1000000 in
theorem needsAt (x y : Int) (w : World) (h : isCn x y = true) :
    Calls Try.prog 33 #[.agg #[.int .i64 x, .int .i64 y]] w fun e w' => ∃ g, e = .returned (.func (.func 37) #[] #[.pointer (some ⟨g, 0, none⟩)]) ∧ w.heap.size ≤ g ∧ Blk w' g #[.int .i64 (2 * x), .int .i64 (2 * y)] ∧ Below w.heap.size w w' := by
  have hxy := isCn_in h
  clear h
  go_enter Try.func33, Try.ntmps33
  go_wp2_with (go_at_call 28; refine (squareFrom (2 * x) (2 * y) _).mono ?_; rintro e w' ⟨rfl, rfl⟩)
  go_ret
  refine ⟨_, rfl, by simp, (Blk.new _ _ _).at_ (by simp), ?_⟩
  (repeat (first | exact Below.refl _ _ | (refine Below.alloc ?_ (by first | omega | (simp; try omega)) _) | apply Below.drew | apply below_drewN))
theorem cnNeeds (x y a b : Int) (w : World) (h : isCn x y = true) (ha : isPl a = true) (hb : isPl b = true) :
    Calls Try.prog 31 #[.agg #[.int .i64 x, .int .i64 y], .int .i64 a, .int .i64 b] w fun e w' => e = .returned (.int .i64 (nd x y a b)) ∧ Below w.heap.size w w' := by
  have hxy := isCn_in h
  have ha' := isPl_in ha
  have hb' := isPl_in hb
  have s1 := sq_bd (d := 2 * x - a) (m := 200) (by omega) (by omega)
  have s2 := sq_bd (d := 2 * y - b) (m := 200) (by omega) (by omega)
  clear h ha hb
  go_enter Try.func31, Try.ntmps31
  go_wp2
  go_quiet (fail)
  go_wp2
  go_ret
  refine ⟨rfl, ?_⟩
  (repeat (first | exact Below.refl _ _ | (refine Below.alloc ?_ (by first | omega | (simp; try omega)) _) | apply Below.drew | apply below_drewN))
set_option maxHeartbeats 1000000 in
theorem implSecond (x y a b : Int) (w : World) :
    Calls Try.prog 18 #[.agg #[.int .i64 x, .int .i64 y], .int .i64 a, .int .i64 b] w fun e w' => e = .returned (secV x y a b) ∧ Below w.heap.size w w' := by
  have HG := Lib.hid (fun wx => implIsCorner x y wx)
  have HA := Lib.hid (fun wx => isLong a wx)
  have HB := Lib.hid (fun wx => isLong b wx)
  cases h : (isCn x y && (isPl a && isPl b))
  · have J := Lib.hid (secV_no h)
    have H := Lib.hid h
    clear h
    generalize isCn x y = p at *
    generalize isPl a = q at *
    generalize isPl b = r at *
    go_enter Try.func18, Try.ntmps18
    cases p <;> cases q <;> cases r
    all_goals
      first
      | exact absurd H.out (by decide)
      | (go_wp2_with (first
          | (go_at_call 12; (with_reducible refine (HG.out _).mono ?_); rintro e w1 ⟨rfl, hb⟩)
          | (go_at_call 32; (with_reducible refine (HA.out _).mono ?_); rintro e w' ⟨rfl, rfl⟩)
          | (go_at_call 32; (with_reducible refine (HB.out _).mono ?_); rintro e w' ⟨rfl, rfl⟩))
         go_ret2
         exact ⟨ret_v J.out.symm, Below.trans (by (repeat (first | exact Below.refl _ _ | (refine Below.alloc ?_ (by first | omega | (simp; try omega)) _) | apply Below.drew | apply below_drewN))) (hb.mono (by simp; try omega))⟩)
  · have J := Lib.hid (secV_yes h)
    simp only [Bool.and_eq_true] at h
    obtain ⟨h1, h2, h3⟩ := h
    have HN := Lib.hid (fun wx => needsAt x y wx h1)
    have hxy := isCn_in h1
    have ha := isPl_in h2
    have hb := isPl_in h3
    rw [h1] at HG
    rw [h2] at HA
    rw [h3] at HB
    have R := Lib.hid (nd_sq x y a b)
    have X1 := Lib.hid (Blk.new w #[.int .i64 x, .int .i64 y] 25)
    clear h1 h2 h3
    go_enter Try.func18, Try.ntmps18
    go_wp2_with fail
    refine (HG.out _).mono ?_; rintro e w1 ⟨rfl, hb1⟩
    obtain ⟨c0, c1, l0⟩ := (X1.out.below hb1 (by simp)).two
    have HB1 := Lib.hid (Below.trans (by (repeat (first | exact Below.refl _ _ | (refine Below.alloc ?_ (by first | omega | (simp; try omega)) _) | apply Below.drew | apply below_drewN))) (hb1.mono (by simp; try omega)) : Below w.heap.size w w1)
    clear hb1
    go_wp2_with (first
      | (go_at_call 32; (with_reducible refine (HA.out _).mono ?_); rintro e w' ⟨rfl, rfl⟩)
      | (go_at_call 32; (with_reducible refine (HB.out _).mono ?_); rintro e w' ⟨rfl, rfl⟩)
      | (go_at_call 33; refine (HN.out _).mono ?_; rintro e w2 ⟨g, rfl, hg, hX, hb2⟩)
      | (go_at_call 37; refine (sqCall g (2 * x) (2 * y) _ [a, b] _ (hX.alloc _) (rd_two (Blk.new _ _ _)) (by simp) (by omega) (by omega) (gt_two (by omega) (by omega))).mono ?_; rintro e w3 ⟨rfl, hb3⟩))
    go_ret2
    have h12 := HB1.out.trans (hb2.mono HB1.out.size)
    exact ⟨ret_v (by rw [J.out, ← R.out]; rfl), (h12.alloc h12.size _).trans (hb3.mono (by have := h12.size; simp; try omega))⟩
set_option maxHeartbeats 1000000 in
theorem specSecond (x y a b : Int) (w : World) :
    Calls Try.prog 17 #[.agg #[.int .i64 x, .int .i64 y], .int .i64 a, .int .i64 b] w fun e w' => e = .returned (secV x y a b) ∧ Below w.heap.size w w' := by
  have HG := Lib.hid (fun wx => cnGood x y wx)
  have HA := Lib.hid (fun wx => cnPlank a wx)
  have HB := Lib.hid (fun wx => cnPlank b wx)
  cases h : (isCn x y && (isPl a && isPl b))
  · have J := Lib.hid (secV_no h)
    have H := Lib.hid h
    clear h
    generalize isCn x y = p at *
    generalize isPl a = q at *
    generalize isPl b = r at *
    go_enter Try.func17, Try.ntmps17
    cases p <;> cases q <;> cases r
    all_goals
      first
      | exact absurd H.out (by decide)
      | (go_wp2_with (first
          | (go_at_call 26; (with_reducible refine (HG.out _).mono ?_); rintro e w1 ⟨rfl, hb⟩)
          | (go_at_call 29; (with_reducible refine (HA.out _).mono ?_); rintro e w' ⟨rfl, rfl⟩)
          | (go_at_call 29; (with_reducible refine (HB.out _).mono ?_); rintro e w' ⟨rfl, rfl⟩))
         go_ret2
         exact ⟨ret_v J.out.symm, Below.trans (by (repeat (first | exact Below.refl _ _ | (refine Below.alloc ?_ (by first | omega | (simp; try omega)) _) | apply Below.drew | apply below_drewN))) (hb.mono (by simp; try omega))⟩)
  · have J := Lib.hid (secV_yes h)
    simp only [Bool.and_eq_true] at h
    obtain ⟨h1, h2, h3⟩ := h
    have HN := Lib.hid (fun wx => cnNeeds x y a b wx h1 h2 h3)
    rw [h1] at HG
    rw [h2] at HA
    rw [h3] at HB
    have X1 := Lib.hid (Blk.new w #[.int .i64 x, .int .i64 y] 25)
    clear h1 h2 h3
    go_enter Try.func17, Try.ntmps17
    go_wp2_with fail
    refine (HG.out _).mono ?_; rintro e w1 ⟨rfl, hb1⟩
    obtain ⟨c0, c1, l0⟩ := (X1.out.below hb1 (by simp)).two
    have HB1 := Lib.hid (Below.trans (by (repeat (first | exact Below.refl _ _ | (refine Below.alloc ?_ (by first | omega | (simp; try omega)) _) | apply Below.drew | apply below_drewN))) (hb1.mono (by simp; try omega)) : Below w.heap.size w w1)
    clear hb1
    go_wp2_with (first
      | (go_at_call 29; (with_reducible refine (HA.out _).mono ?_); rintro e w' ⟨rfl, rfl⟩)
      | (go_at_call 29; (with_reducible refine (HB.out _).mono ?_); rintro e w' ⟨rfl, rfl⟩)
      | (go_at_call 31; refine (HN.out _).mono ?_; rintro e w2 ⟨rfl, hb2⟩))
    go_ret2
    exact ⟨ret_v J.out.symm, HB1.out.trans (hb2.mono HB1.out.size)⟩
set_option maxHeartbeats 1000000 in
theorem specNeedsC (x y p : Int) (w : World) :
    Calls Try.prog 15 #[.agg #[.int .i64 x, .int .i64 y], .int .i64 p] w fun e w' => e = .returned (neV x y p) ∧ Below w.heap.size w w' := by
  have HG := Lib.hid (fun wx => cnGood x y wx)
  have HA := Lib.hid (fun wx => cnPlank p wx)
  have X1 := Lib.hid (Blk.new w #[.int .i64 x, .int .i64 y] 25)
  cases h : (isCn x y && isPl p)
  · have J := Lib.hid (neV_no h)
    have H := Lib.hid h
    clear h
    generalize isCn x y = c at *
    generalize isPl p = q at *
    go_enter Try.func15, Try.ntmps15
    cases c <;> cases q
    all_goals
      first
      | exact absurd H.out (by decide)
      | (go_wp2_with (first
          | (go_at_call 26; (with_reducible refine (HG.out _).mono ?_); rintro e w1 ⟨rfl, hb⟩)
          | (go_at_call 29; (with_reducible refine (HA.out _).mono ?_); rintro e w' ⟨rfl, rfl⟩))
         go_ret2
         exact ⟨ret_v J.out.symm, Below.trans (by (repeat (first | exact Below.refl _ _ | (refine Below.alloc ?_ (by first | omega | (simp; try omega)) _) | apply Below.drew | apply below_drewN))) (hb.mono (by simp; try omega))⟩)
  · have J := Lib.hid (neV_yes h)
    simp only [Bool.and_eq_true] at h
    rw [h.1] at HG
    rw [h.2] at HA
    clear h
    by_cases h1 : p < x <;> by_cases h2 : p < y
    all_goals
      go_enter Try.func15, Try.ntmps15
      go_wp2_with fail
      refine (HG.out _).mono ?_; rintro e w1 ⟨rfl, hb1⟩
      obtain ⟨c0, c1, l0⟩ := (X1.out.below hb1 (by simp)).two
      have HB1 := Lib.hid (Below.trans (by (repeat (first | exact Below.refl _ _ | (refine Below.alloc ?_ (by first | omega | (simp; try omega)) _) | apply Below.drew | apply below_drewN))) (hb1.mono (by simp; try omega)) : Below w.heap.size w w1)
      clear hb1
      go_wp2_with (go_at_call 29; (with_reducible refine (HA.out _).mono ?_); rintro e w' ⟨rfl, rfl⟩)
      go_ret2
      exact ⟨ret_v (by rw [J.out]; simp [h1, h2]), HB1.out⟩
set_option maxHeartbeats 1000000 in
theorem implNeedsC (x y p : Int) (w : World) :
    Calls Try.prog 16 #[.agg #[.int .i64 x, .int .i64 y], .int .i64 p] w fun e w' => e = .returned (neV x y p) ∧ Below w.heap.size w w' := by
  have HG := Lib.hid (fun wx => isWith x y p wx)
  have X1 := Lib.hid (Blk.new w #[.int .i64 x, .int .i64 y] 25)
  cases h : (isCn x y && isPl p)
  · have J := Lib.hid (neV_no h)
    rw [h] at HG
    clear h
    go_enter Try.func16, Try.ntmps16
    go_wp2_with (go_at_call 30; (with_reducible refine (HG.out _).mono ?_); rintro e w1 ⟨rfl, hb⟩)
    go_ret2
    exact ⟨ret_v J.out.symm, Below.trans (by (repeat (first | exact Below.refl _ _ | (refine Below.alloc ?_ (by first | omega | (simp; try omega)) _) | apply Below.drew | apply below_drewN))) (hb.mono (by simp; try omega))⟩
  · have J := Lib.hid (neV_yes h)
    rw [h] at HG
    clear h
    by_cases h1 : p < x <;> by_cases h2 : p < y
    all_goals
      go_enter Try.func16, Try.ntmps16
      go_wp2_with fail
      refine (HG.out _).mono ?_; rintro e w1 ⟨rfl, hb1⟩
      obtain ⟨c0, c1, l0⟩ := (X1.out.below hb1 (by simp)).two
      have HB1 := Lib.hid (Below.trans (by (repeat (first | exact Below.refl _ _ | (refine Below.alloc ?_ (by first | omega | (simp; try omega)) _) | apply Below.drew | apply below_drewN))) (hb1.mono (by simp; try omega)) : Below w.heap.size w w1)
      clear hb1
      go_wp2
      go_ret2
      exact ⟨ret_v (by rw [J.out]; simp [h1, h2]), HB1.out⟩
set_option maxHeartbeats 1000000 in
theorem specTurnC (x y : Int) (w : World) :
    Calls Try.prog 19 #[.agg #[.int .i64 x, .int .i64 y]] w fun e w' => e = .returned (turnCV x y) ∧ Below w.heap.size w w' := by
  have HG := Lib.hid (fun wx => cnGood x y wx)
  have X1 := Lib.hid ((Blk.new w #[.int .i64 x, .int .i64 y] 25).alloc (.cells #[.int .i64 0, .int .i64 0] 25))
  have X2 := Lib.hid ((Blk.new (w.alloc (.cells #[.int .i64 x, .int .i64 y] 25)) #[.int .i64 0, .int .i64 0] 25).at_ (g' := w.heap.size + 1) (by simp))
  cases h : isCn x y
  all_goals
    first
    | (have J := Lib.hid (turnCV_no h))
    | (have J := Lib.hid (turnCV_yes h))
    rw [h] at HG
    clear h
    go_enter Try.func19, Try.ntmps19
    go_wp2_with fail
    refine (HG.out _).mono ?_; rintro e w1 ⟨rfl, hb1⟩
    have Y2 := Lib.hid (X2.out.below hb1 (by simp))
    obtain ⟨c0, c1, l0⟩ := (X1.out.below hb1 (by simp; omega)).two
    obtain ⟨d0, d1, l1⟩ := Y2.out.two
    have f0 := Y2.out.fr 0
    have f1 := Y2.out.fr 1
    have HB1 := Lib.hid (Below.trans (by (repeat (first | exact Below.refl _ _ | (refine Below.alloc ?_ (by first | omega | (simp; try omega)) _) | apply Below.drew | apply below_drewN))) (hb1.mono (by simp; try omega)) : Below w.heap.size w w1)
    clear hb1
    go_wp2
    first
    | (have Z := Lib.hid ((Y2.out.set 0 (.int .i64 0)).set 1 (.int .i64 0))
       obtain ⟨z0, z1, _⟩ := (show Blk _ _ #[.int .i64 0, .int .i64 0] from Z.out).two
       refine bodyPost_ret (v := .tuple #[.agg #[.int .i64 0, .int .i64 0], .bool false]) (by simp [results, Try.results19, go_sem, z0, z1]) rfl ⟨ret_v J.out.symm, ?_⟩)
    | (have Z := Lib.hid ((Y2.out.set 0 (.int .i64 y)).set 1 (.int .i64 x))
       obtain ⟨z0, z1, _⟩ := (show Blk _ _ #[.int .i64 y, .int .i64 x] from Z.out).two
       refine bodyPost_ret (v := .tuple #[.agg #[.int .i64 y, .int .i64 x], .bool true]) (by simp [results, Try.results19, go_sem, z0, z1]) rfl ⟨ret_v J.out.symm, ?_⟩)
    exact (HB1.out.setCell (by simp) _).setCell (by simp) _
set_option maxHeartbeats 1000000 in
theorem implTurnC (x y : Int) (w : World) :
    Calls Try.prog 20 #[.agg #[.int .i64 x, .int .i64 y]] w fun e w' => e = .returned (turnCV x y) ∧ Below w.heap.size w w' := by
  have HG := Lib.hid (fun wx => implIsCorner x y wx)
  have X1 := Lib.hid ((Blk.new w #[.int .i64 x, .int .i64 y] 25).alloc (.cells #[.int .i64 0, .int .i64 0] 25))
  have X2 := Lib.hid ((Blk.new (w.alloc (.cells #[.int .i64 x, .int .i64 y] 25)) #[.int .i64 0, .int .i64 0] 25).at_ (g' := w.heap.size + 1) (by simp))
  cases h : isCn x y
  all_goals
    first
    | (have J := Lib.hid (turnCV_no h))
    | (have J := Lib.hid (turnCV_yes h))
    rw [h] at HG
    clear h
    go_enter Try.func20, Try.ntmps20
    go_wp2_with fail
    refine (HG.out _).mono ?_; rintro e w1 ⟨rfl, hb1⟩
    have Y2 := Lib.hid (X2.out.below hb1 (by simp))
    obtain ⟨c0, c1, l0⟩ := (X1.out.below hb1 (by simp; omega)).two
    obtain ⟨d0, d1, l1⟩ := Y2.out.two
    have f0 := Y2.out.fr 0
    have f1 := Y2.out.fr 1
    have HB1 := Lib.hid (Below.trans (by (repeat (first | exact Below.refl _ _ | (refine Below.alloc ?_ (by first | omega | (simp; try omega)) _) | apply Below.drew | apply below_drewN))) (hb1.mono (by simp; try omega)) : Below w.heap.size w w1)
    clear hb1
    go_wp2
    first
    | (have Z := Lib.hid ((Y2.out.set 0 (.int .i64 0)).set 1 (.int .i64 0))
       obtain ⟨z0, z1, _⟩ := (show Blk _ _ #[.int .i64 0, .int .i64 0] from Z.out).two
       refine bodyPost_ret (v := .tuple #[.agg #[.int .i64 0, .int .i64 0], .bool false]) (by simp [results, Try.results20, go_sem, z0, z1]) rfl ⟨ret_v J.out.symm, ?_⟩)
    | (have Z := Lib.hid ((Y2.out.set 0 (.int .i64 y)).set 1 (.int .i64 x))
       obtain ⟨z0, z1, _⟩ := (show Blk _ _ #[.int .i64 y, .int .i64 x] from Z.out).two
       refine bodyPost_ret (v := .tuple #[.agg #[.int .i64 y, .int .i64 x], .bool true]) (by simp [results, Try.results20, go_sem, z0, z1]) rfl ⟨ret_v J.out.symm, ?_⟩)
    exact (HB1.out.setCell (by simp) _).setCell (by simp) _
theorem specCanSq (a p : Int) (w : World) :
    Calls Try.prog 22 #[.int .i64 a, .int .i64 p] w fun e w' => e = .returned (cansV a p) ∧ w = w' := by
  have HA := Lib.hid (fun wx => cnDitch a wx)
  have HP := Lib.hid (fun wx => cnPlank p wx)
  cases h : (isDt a && isPl p)
  · have J := Lib.hid (cansV_no h)
    have H := Lib.hid h
    clear h
    generalize isDt a = c at *
    generalize isPl p = q at *
    go_enter Try.func22, Try.ntmps22
    cases c <;> cases q
    all_goals
      first
      | exact absurd H.out (by decide)
      | (go_wp2_with (first
          | (go_at_call 34; (with_reducible refine (HA.out _).mono ?_); rintro e w' ⟨rfl, rfl⟩)
          | (go_at_call 29; (with_reducible refine (HP.out _).mono ?_); rintro e w' ⟨rfl, rfl⟩))
         go_ret2
         exact ⟨ret_v J.out.symm, rfl⟩)
  · have J := Lib.hid (cansV_yes h)
    simp only [Bool.and_eq_true] at h
    have ha := isDt_in h.1
    have hp := isPl_in h.2
    rw [h.1] at HA
    rw [h.2] at HP
    clear h
    have s1 := mul_bd (a := 9 * p) (b := p) (m := 1800) (n := 200) (by omega) (by omega) (by omega) (by omega)
    have s2 := mul_bd (a := 8 * a) (b := a) (m := 800) (n := 100) (by omega) (by omega) (by omega) (by omega)
    by_cases hc : 8 * a * a ≤ 9 * p * p
    all_goals
      have J2 := Lib.hid hc
      go_enter Try.func22, Try.ntmps22
      go_wp2_with (first
        | (go_at_call 34; (with_reducible refine (HA.out _).mono ?_); rintro e w' ⟨rfl, rfl⟩)
        | (go_at_call 29; (with_reducible refine (HP.out _).mono ?_); rintro e w' ⟨rfl, rfl⟩)
        | fail)
      go_ret2
      exact ⟨ret_v (by rw [J.out]; first | rfl | (simp; omega)), rfl⟩
theorem implCanSq (a p : Int) (w : World) :
    Calls Try.prog 23 #[.int .i64 a, .int .i64 p] w fun e w' => e = .returned (cansV a p) ∧ w = w' := by
  have HA := Lib.hid (fun wx => isDitch a wx)
  have HP := Lib.hid (fun wx => isLong p wx)
  cases h : (isDt a && isPl p)
  · have J := Lib.hid (cansV_no h)
    have H := Lib.hid h
    clear h
    generalize isDt a = c at *
    generalize isPl p = q at *
    go_enter Try.func23, Try.ntmps23
    cases c <;> cases q
    all_goals
      first
      | exact absurd H.out (by decide)
      | (go_wp2_with (first
          | (go_at_call 27; (with_reducible refine (HA.out _).mono ?_); rintro e w' ⟨rfl, rfl⟩)
          | (go_at_call 32; (with_reducible refine (HP.out _).mono ?_); rintro e w' ⟨rfl, rfl⟩))
         go_ret2
         exact ⟨ret_v J.out.symm, rfl⟩)
  · have J := Lib.hid (cansV_yes h)
    simp only [Bool.and_eq_true] at h
    have ha := isDt_in h.1
    have hp := isPl_in h.2
    rw [h.1] at HA
    rw [h.2] at HP
    clear h
    have s1 := mul_bd (a := 9 * p) (b := p) (m := 1800) (n := 200) (by omega) (by omega) (by omega) (by omega)
    have s2 := mul_bd (a := 8 * a) (b := a) (m := 800) (n := 100) (by omega) (by omega) (by omega) (by omega)
    by_cases hc : 8 * a * a ≤ 9 * p * p
    all_goals
      have J2 := Lib.hid hc
      go_enter Try.func23, Try.ntmps23
      go_wp2_with (first
        | (go_at_call 27; (with_reducible refine (HA.out _).mono ?_); rintro e w' ⟨rfl, rfl⟩)
        | (go_at_call 32; (with_reducible refine (HP.out _).mono ?_); rintro e w' ⟨rfl, rfl⟩)
        | (go_at_call 35; refine (enough a p _ (by omega) (by omega)).mono ?_; rintro e w' ⟨rfl, rfl⟩))
      go_ret2
      exact ⟨ret_v (by rw [J.out]; first | rfl | (simp; omega)), rfl⟩
/-- the least length from p on, in so many tries -/
def lsF (a : Int) : Nat → Int → Int
  | 0, p => p
  | n + 1, p => if 8 * a * a ≤ 9 * p * p then p else lsF a n (p + 1)
theorem lsF_yes {a p : Int} {n : Nat} (h : 8 * a * a ≤ 9 * p * p) : lsF a (n + 1) p = p := by simp [lsF, h]
theorem lsF_no {a p : Int} {n : Nat} (h : ¬ 8 * a * a ≤ 9 * p * p) : lsF a (n + 1) p = lsF a n (p + 1) := by simp only [lsF]; rw [if_neg h]
def lspV (a : Int) : Value := if isDt a then .tuple #[.int .i64 (lsF a 100 1), .bool true] else .tuple #[.int .i64 0, .bool false]
theorem lspV_no {a : Int} (h : isDt a = false) : lspV a = .tuple #[.int .i64 0, .bool false] := by simp [lspV, h]
theorem lspV_yes {a : Int} (h : isDt a = true) : lspV a = .tuple #[.int .i64 (lsF a 100 1), .bool true] := by simp [lspV, h]
theorem lspV_form (a : Int) : ∃ x y, lspV a = .tuple #[.int .i64 x, .bool y] := by unfold lspV; split <;> exact ⟨_, _, rfl⟩
set_option maxHeartbeats 1000000 in
theorem specLeastSq (a : Int) (w : World) :
    Calls Try.prog 24 #[.int .i64 a] w fun e w' => e = .returned (lspV a) ∧ w = w' := by
  have HA := Lib.hid (fun wx => cnDitch a wx)
  cases h : isDt a
  · have J := Lib.hid (lspV_no h)
    rw [h] at HA
    clear h
    go_enter Try.func24, Try.ntmps24
    go_wp2_with (go_at_call 34; (with_reducible refine (HA.out _).mono ?_); rintro e w' ⟨rfl, rfl⟩)
    go_ret2
    exact ⟨ret_v J.out.symm, rfl⟩
  · have J := Lib.hid (lspV_yes h)
    have ha := isDt_in h
    rw [h] at HA
    clear h
    have s2 := mul_bd (a := 8 * a) (b := a) (m := 800) (n := 100) (by omega) (by omega) (by omega) (by omega)
    go_enter Try.func24, Try.ntmps24
    go_wp2_with (go_at_call 34; (with_reducible refine (HA.out _).mono ?_); rintro e w' ⟨rfl, rfl⟩)
    go_loop [4] (fun p => ∃ k : Nat, (k : Int) < a ∧ p = .int .i64 ((k : Int) + 1) ∧ Hid (lsF a 100 1 = lsF a (100 - k) ((k : Int) + 1))) (fun p => 200 - (intOf p).toNat)
    case atStart => exact ⟨0, by omega, by simp, Lib.hid (by simp)⟩
    case round =>
      obtain ⟨k, hk, rfl, hL⟩ := hrel
      have s1 := mul_bd (a := 9 * ((k : Int) + 1)) (b := (k : Int) + 1) (m := 900) (n := 100) (by omega) (by omega) (by omega) (by omega)
      have E := Lib.hid hL.out
      obtain ⟨q, hq⟩ : ∃ q, 100 - k = q + 1 := ⟨99 - k, by omega⟩
      have hq' : q = 100 - (k + 1) := by omega
      by_cases hc : 8 * a * a ≤ 9 * ((k : Int) + 1) * ((k : Int) + 1)
      · have R := Lib.hid (show lsF a 100 1 = (k : Int) + 1 by rw [E.out, hq, lsF_yes hc])
        clear hq hq'
        go_wp2
        go_ret2
        exact ⟨ret_v (by rw [J.out, R.out]; rfl), rfl⟩
      · have R := Lib.hid (show lsF a 100 1 = lsF a (100 - (k + 1)) (((k + 1 : Nat) : Int) + 1) by rw [E.out, hq, lsF_no hc, hq']; congr 1)
        have hka : (k : Int) + 1 < a := by
          by_cases e : (k : Int) + 1 = a
          · rw [e] at hc; have := Int.mul_nonneg (show 0 ≤ a by omega) (show 0 ≤ a by omega); rw [Int.mul_assoc, Int.mul_assoc] at hc; omega
          · omega
        clear hq hq'
        go_wp2
        go_round
        case rel => exact ⟨k + 1, by omega, by go_num, R⟩
        case measure => (simp [intOf]; try omega)
set_option maxHeartbeats 1000000 in
theorem implLeastSq (a : Int) (w : World) :
    Calls Try.prog 25 #[.int .i64 a] w fun e w' => e = .returned (lspV a) ∧ w = w' := by
  have HA := Lib.hid (fun wx => isDitch a wx)
  cases h : isDt a
  · have J := Lib.hid (lspV_no h)
    rw [h] at HA
    clear h
    go_enter Try.func25, Try.ntmps25
    go_wp2_with (go_at_call 27; (with_reducible refine (HA.out _).mono ?_); rintro e w' ⟨rfl, rfl⟩)
    go_ret2
    exact ⟨ret_v J.out.symm, rfl⟩
  · have J := Lib.hid (lspV_yes h)
    have ha := isDt_in h
    rw [h] at HA
    clear h
    have s2 := mul_bd (a := 8 * a) (b := a) (m := 800) (n := 100) (by omega) (by omega) (by omega) (by omega)
    go_enter Try.func25, Try.ntmps25
    go_wp2_with (go_at_call 27; (with_reducible refine (HA.out _).mono ?_); rintro e w' ⟨rfl, rfl⟩)
    go_loop [4] (fun p => ∃ k : Nat, (k : Int) < a ∧ p = .int .i64 ((k : Int) + 1) ∧ Hid (lsF a 100 1 = lsF a (100 - k) ((k : Int) + 1))) (fun p => 200 - (intOf p).toNat)
    case atStart => exact ⟨0, by omega, by simp, Lib.hid (by simp)⟩
    case round =>
      obtain ⟨k, hk, rfl, hL⟩ := hrel
      have s1 := mul_bd (a := 9 * ((k : Int) + 1)) (b := (k : Int) + 1) (m := 900) (n := 100) (by omega) (by omega) (by omega) (by omega)
      have E := Lib.hid hL.out
      obtain ⟨q, hq⟩ : ∃ q, 100 - k = q + 1 := ⟨99 - k, by omega⟩
      have hq' : q = 100 - (k + 1) := by omega
      by_cases hc : 8 * a * a ≤ 9 * ((k : Int) + 1) * ((k : Int) + 1)
      · have R := Lib.hid (show lsF a 100 1 = (k : Int) + 1 by rw [E.out, hq, lsF_yes hc])
        have EN := fun wx => enough a ((k : Int) + 1) wx (by omega) (by omega)
        rw [decide_eq_true hc] at EN
        have HEN := Lib.hid EN
        clear EN
        clear hq hq'
        go_wp2_with (go_at_call 35; refine (HEN.out _).mono ?_; rintro e w' ⟨rfl, rfl⟩)
        go_ret2
        exact ⟨ret_v (by rw [J.out, R.out]; rfl), rfl⟩
      · have R := Lib.hid (show lsF a 100 1 = lsF a (100 - (k + 1)) (((k + 1 : Nat) : Int) + 1) by rw [E.out, hq, lsF_no hc, hq']; congr 1)
        have EN := fun wx => enough a ((k : Int) + 1) wx (by omega) (by omega)
        rw [decide_eq_false hc] at EN
        have HEN := Lib.hid EN
        clear EN
        have hka : (k : Int) + 1 < a := by
          by_cases e : (k : Int) + 1 = a
          · rw [e] at hc; have := Int.mul_nonneg (show 0 ≤ a by omega) (show 0 ≤ a by omega); rw [Int.mul_assoc, Int.mul_assoc] at hc; omega
          · omega
        clear hq hq'
        go_wp2_with (go_at_call 35; refine (HEN.out _).mono ?_; rintro e w' ⟨rfl, rfl⟩)
        go_round
        case rel => exact ⟨k + 1, by omega, by go_num, R⟩
        case measure => (simp [intOf]; try omega)
end Go.Proofs.Ytfkdkhoihlkgcaa
