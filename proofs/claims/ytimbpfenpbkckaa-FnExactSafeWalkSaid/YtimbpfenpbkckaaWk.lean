/- Walks on planks over an edge: SafeWalk, LongestOver; impl and spec. -/
import Derived.Test.YtimbpfenpbkckaaFr
namespace Go.Proofs.Ytimbpfenpbkckaa
set_option linter.unusedVariables false
open Go.RowKit

def asksW (p o wt pe : Int) : Bool := inB p 1 100 && inB o 0 (p / 2) && inB wt 1 1000 && inB pe 1 1000
def walkV (p o wt pe : Int) : Value := if asksW p o wt pe then (if o * (2 * pe) ≤ wt * (p - 2 * o) then .tuple #[.int .i64 o, .int .i64 1, .bool true] else .tuple #[.int .i64 (lowA (wt * (p - 2 * o)) (2 * pe)), .int .i64 (lowB (wt * (p - 2 * o)) (2 * pe)), .bool true]) else .tuple #[.int .i64 0, .int .i64 0, .bool false]
theorem walkV_no {p o wt pe : Int} (h : asksW p o wt pe = false) : walkV p o wt pe = .tuple #[.int .i64 0, .int .i64 0, .bool false] := by simp [walkV, h]
theorem walkV_far {p o wt pe : Int} (h : asksW p o wt pe = true) (h2 : o * (2 * pe) ≤ wt * (p - 2 * o)) : walkV p o wt pe = .tuple #[.int .i64 o, .int .i64 1, .bool true] := by simp [walkV, h, h2]
theorem walkV_low {p o wt pe : Int} (h : asksW p o wt pe = true) (h2 : ¬ o * (2 * pe) ≤ wt * (p - 2 * o)) : walkV p o wt pe = .tuple #[.int .i64 (lowA (wt * (p - 2 * o)) (2 * pe)), .int .i64 (lowB (wt * (p - 2 * o)) (2 * pe)), .bool true] := by simp [walkV, h, h2]
theorem walkV_form (p o wt pe : Int) : ∃ x y z, walkV p o wt pe = .tuple #[.int .i64 x, .int .i64 y, .bool z] := by
  unfold walkV; split
  · split <;> exact ⟨_, _, _, rfl⟩
  · exact ⟨_, _, _, rfl⟩
def overV (p wt pe : Int) : Value := if inB p 1 100 && inB wt 1 1000 && inB pe 1 1000 then .tuple #[.int .i64 (lowA (wt * p) (2 * (wt + pe))), .int .i64 (lowB (wt * p) (2 * (wt + pe))), .bool true] else .tuple #[.int .i64 0, .int .i64 0, .bool false]
theorem overV_no {p wt pe : Int} (h : (inB p 1 100 && inB wt 1 1000 && inB pe 1 1000) = false) : overV p wt pe = .tuple #[.int .i64 0, .int .i64 0, .bool false] := by simp [overV, h]
theorem overV_yes {p wt pe : Int} (h : (inB p 1 100 && inB wt 1 1000 && inB pe 1 1000) = true) : overV p wt pe = .tuple #[.int .i64 (lowA (wt * p) (2 * (wt + pe))), .int .i64 (lowB (wt * p) (2 * (wt + pe))), .bool true] := by simp [overV, h]
theorem overV_form (p wt pe : Int) : ∃ x y z, overV p wt pe = .tuple #[.int .i64 x, .int .i64 y, .bool z] := by
  unfold overV; split <;> exact ⟨_, _, _, rfl⟩

set_option maxHeartbeats 2000000 in
theorem implWalk (p o wt pe : Int) (w : World) :
    Calls Try.prog 32 #[.int .i64 p, .int .i64 o, .int .i64 wt, .int .i64 pe] w fun e w' => e = .returned (walkV p o wt pe) ∧ Below w.heap.size w w' := by
  have E := Lib.hid (show asksW p o wt pe = (inB p 1 100 && inB o 0 (p / 2) && inB wt 1 1000 && inB pe 1 1000) from rfl)
  cases h1 : inB p 1 100
  · have J := Lib.hid (walkV_no (E.out.trans (by simp [h1])))
    have G1 := Lib.hid h1
    clear h1 E
    go_enter Try.func32, Try.ntmps32
    go_wp2_with (first
      | (go_at_call 38; refine (isPlankLength _ _).mono ?_; rintro e w' ⟨rfl, rfl⟩; rw [G1.out])
      | (go_at_call 57; refine (isWeight _ _).mono ?_; rintro e w' ⟨rfl, rfl⟩; (first | rw [G3.out] | rw [G4.out])))
    go_ret3
    exact ⟨ret_v J.out.symm, Below.refl _ _⟩
  cases h2 : inB o 0 (p / 2)
  · have J := Lib.hid (walkV_no (E.out.trans (by simp [h1, h2])))
    have G1 := Lib.hid h1
    have G2 := Lib.hid h2
    have b1 := inB_iff.1 h1
    have b2 : ¬ (0 ≤ o ∧ o ≤ p / 2) := fun h => by rw [inB_iff.2 h] at h2; cases h2
    clear h1 h2 E
    by_cases ho : o < 0
    · go_enter Try.func32, Try.ntmps32
      go_wp2_with (first
          | (go_at_call 38; refine (isPlankLength _ _).mono ?_; rintro e w' ⟨rfl, rfl⟩; rw [G1.out])
          | (go_at_call 57; refine (isWeight _ _).mono ?_; rintro e w' ⟨rfl, rfl⟩; (first | rw [G3.out] | rw [G4.out])))
      go_ret3
      exact ⟨ret_v J.out.symm, Below.refl _ _⟩
    · go_enter Try.func32, Try.ntmps32
      go_wp2_with (first
          | (go_at_call 38; refine (isPlankLength _ _).mono ?_; rintro e w' ⟨rfl, rfl⟩; rw [G1.out])
          | (go_at_call 57; refine (isWeight _ _).mono ?_; rintro e w' ⟨rfl, rfl⟩; (first | rw [G3.out] | rw [G4.out])))
      go_ret3
      exact ⟨ret_v J.out.symm, Below.refl _ _⟩
  cases h3 : inB wt 1 1000
  · have J := Lib.hid (walkV_no (E.out.trans (by simp [h1, h2, h3])))
    have G1 := Lib.hid h1
    have G2 := Lib.hid h2
    have G3 := Lib.hid h3
    have b1 := inB_iff.1 h1
    have b2 := inB_iff.1 h2
    clear h1 h2 h3 E
    go_enter Try.func32, Try.ntmps32
    go_wp2_with (first
      | (go_at_call 38; refine (isPlankLength _ _).mono ?_; rintro e w' ⟨rfl, rfl⟩; rw [G1.out])
      | (go_at_call 57; refine (isWeight _ _).mono ?_; rintro e w' ⟨rfl, rfl⟩; (first | rw [G3.out] | rw [G4.out])))
    go_ret3
    exact ⟨ret_v J.out.symm, Below.refl _ _⟩
  cases h4 : inB pe 1 1000
  · have J := Lib.hid (walkV_no (E.out.trans (by simp [h1, h2, h3, h4])))
    have G1 := Lib.hid h1
    have G2 := Lib.hid h2
    have G3 := Lib.hid h3
    have G4 := Lib.hid h4
    have b1 := inB_iff.1 h1
    have b2 := inB_iff.1 h2
    clear h1 h2 h3 h4 E
    go_enter Try.func32, Try.ntmps32
    go_wp2_with (first
      | (go_at_call 38; refine (isPlankLength _ _).mono ?_; rintro e w' ⟨rfl, rfl⟩; rw [G1.out])
      | (go_at_call 57; refine (isWeight _ _).mono ?_; rintro e w' ⟨rfl, rfl⟩; (first | rw [G3.out] | rw [G4.out])))
    go_ret3
    exact ⟨ret_v J.out.symm, Below.refl _ _⟩
  have T := Lib.hid (E.out.trans (by simp [h1, h2, h3, h4] : _ = true))
  have b1 := inB_iff.1 h1
  have b2 := inB_iff.1 h2
  have b3 := inB_iff.1 h3
  have b4 := inB_iff.1 h4
  have G1 := Lib.hid h1
  have G2 := Lib.hid h2
  have G3 := Lib.hid h3
  have G4 := Lib.hid h4
  clear h1 h2 h3 h4 E
  have m1 := mulB (show 0 ≤ wt by omega) b3.2 (show 0 ≤ p - 2 * o by omega) (show p - 2 * o ≤ 100 by omega)
  have m2 := mulB b2.1 (show o ≤ 50 by omega) (show 0 ≤ 2 * pe by omega) (show 2 * pe ≤ 2000 by omega)
  by_cases hf : o * (2 * pe) < wt * (p - 2 * o)
  · have J := Lib.hid (walkV_far T.out (Int.le_of_lt hf))
    go_enter Try.func32, Try.ntmps32
    go_wp2_with (first
      | (go_at_call 38; refine (isPlankLength _ _).mono ?_; rintro e w' ⟨rfl, rfl⟩; rw [G1.out])
      | (go_at_call 57; refine (isWeight _ _).mono ?_; rintro e w' ⟨rfl, rfl⟩; (first | rw [G3.out] | rw [G4.out]))
      | (go_at_call 55; refine (lowestTerms _ _ _ (by omega) (by omega)).mono ?_; rintro e w1 ⟨rfl, hb1⟩))
    go_ret3
    exact ⟨ret_v J.out.symm, Below.refl _ _⟩
  by_cases he : o * (2 * pe) = wt * (p - 2 * o)
  · have J := Lib.hid (walkV_far T.out (Int.le_of_eq he))
    have L := Lib.hid (low_whole o (2 * pe) b2.1 (by omega))
    rw [he] at L
    go_enter Try.func32, Try.ntmps32
    go_wp2_with (first
      | (go_at_call 38; refine (isPlankLength _ _).mono ?_; rintro e w' ⟨rfl, rfl⟩; rw [G1.out])
      | (go_at_call 57; refine (isWeight _ _).mono ?_; rintro e w' ⟨rfl, rfl⟩; (first | rw [G3.out] | rw [G4.out]))
      | (go_at_call 55; refine (lowestTerms _ _ _ (by omega) (by omega)).mono ?_; rintro e w1 ⟨rfl, hb1⟩))
    go_ret3
    exact ⟨ret_v (show Value.tuple #[.int .i64 (lowA (wt * (p - 2 * o)) (2 * pe)), .int .i64 (lowB (wt * (p - 2 * o)) (2 * pe)), .bool true] = _ by rw [L.out.1, L.out.2, J.out]), hb1⟩
  · have J := Lib.hid (walkV_low T.out (by omega))
    go_enter Try.func32, Try.ntmps32
    go_wp2_with (first
      | (go_at_call 38; refine (isPlankLength _ _).mono ?_; rintro e w' ⟨rfl, rfl⟩; rw [G1.out])
      | (go_at_call 57; refine (isWeight _ _).mono ?_; rintro e w' ⟨rfl, rfl⟩; (first | rw [G3.out] | rw [G4.out]))
      | (go_at_call 55; refine (lowestTerms _ _ _ (by omega) (by omega)).mono ?_; rintro e w1 ⟨rfl, hb1⟩))
    go_ret3
    exact ⟨ret_v J.out.symm, hb1⟩

set_option maxHeartbeats 2000000 in
theorem specWalk (p o wt pe : Int) (w : World) :
    Calls Try.prog 31 #[.int .i64 p, .int .i64 o, .int .i64 wt, .int .i64 pe] w fun e w' => e = .returned (walkV p o wt pe) ∧ Below w.heap.size w w' := by
  have E := Lib.hid (show asksW p o wt pe = (inB p 1 100 && inB o 0 (p / 2) && inB wt 1 1000 && inB pe 1 1000) from rfl)
  cases h1 : inB p 1 100
  · have J := Lib.hid (walkV_no (E.out.trans (by simp [h1])))
    have G1 := Lib.hid h1
    clear h1 E
    go_enter Try.func31, Try.ntmps31
    go_wp2_with (first
      | (go_at_call 39; refine (l1In _ _ _ _).mono ?_; rintro e w' ⟨rfl, rfl⟩; (first | rw [G1.out] | rw [G2.out]))
      | (go_at_call 56; refine (plWeight _ _).mono ?_; rintro e w' ⟨rfl, rfl⟩; (first | rw [G3.out] | rw [G4.out])))
    go_ret3
    exact ⟨ret_v J.out.symm, Below.refl _ _⟩
  cases h2 : inB o 0 (p / 2)
  · have J := Lib.hid (walkV_no (E.out.trans (by simp [h1, h2])))
    have G1 := Lib.hid h1
    have G2 := Lib.hid h2
    have b1 := inB_iff.1 h1
    have b2 : ¬ (0 ≤ o ∧ o ≤ p / 2) := fun h => by rw [inB_iff.2 h] at h2; cases h2
    clear h1 h2 E
    go_enter Try.func31, Try.ntmps31
    go_wp2_with (first
      | (go_at_call 39; refine (l1In _ _ _ _).mono ?_; rintro e w' ⟨rfl, rfl⟩; (first | rw [G1.out] | rw [G2.out]))
      | (go_at_call 56; refine (plWeight _ _).mono ?_; rintro e w' ⟨rfl, rfl⟩; (first | rw [G3.out] | rw [G4.out])))
    go_ret3
    exact ⟨ret_v J.out.symm, Below.refl _ _⟩
  cases h3 : inB wt 1 1000
  · have J := Lib.hid (walkV_no (E.out.trans (by simp [h1, h2, h3])))
    have G1 := Lib.hid h1
    have G2 := Lib.hid h2
    have G3 := Lib.hid h3
    have b1 := inB_iff.1 h1
    have b2 := inB_iff.1 h2
    clear h1 h2 h3 E
    go_enter Try.func31, Try.ntmps31
    go_wp2_with (first
      | (go_at_call 39; refine (l1In _ _ _ _).mono ?_; rintro e w' ⟨rfl, rfl⟩; (first | rw [G1.out] | rw [G2.out]))
      | (go_at_call 56; refine (plWeight _ _).mono ?_; rintro e w' ⟨rfl, rfl⟩; (first | rw [G3.out] | rw [G4.out])))
    go_ret3
    exact ⟨ret_v J.out.symm, Below.refl _ _⟩
  cases h4 : inB pe 1 1000
  · have J := Lib.hid (walkV_no (E.out.trans (by simp [h1, h2, h3, h4])))
    have G1 := Lib.hid h1
    have G2 := Lib.hid h2
    have G3 := Lib.hid h3
    have G4 := Lib.hid h4
    have b1 := inB_iff.1 h1
    have b2 := inB_iff.1 h2
    clear h1 h2 h3 h4 E
    go_enter Try.func31, Try.ntmps31
    go_wp2_with (first
      | (go_at_call 39; refine (l1In _ _ _ _).mono ?_; rintro e w' ⟨rfl, rfl⟩; (first | rw [G1.out] | rw [G2.out]))
      | (go_at_call 56; refine (plWeight _ _).mono ?_; rintro e w' ⟨rfl, rfl⟩; (first | rw [G3.out] | rw [G4.out])))
    go_ret3
    exact ⟨ret_v J.out.symm, Below.refl _ _⟩
  have T := Lib.hid (E.out.trans (by simp [h1, h2, h3, h4] : _ = true))
  have b1 := inB_iff.1 h1
  have b2 := inB_iff.1 h2
  have b3 := inB_iff.1 h3
  have b4 := inB_iff.1 h4
  have G1 := Lib.hid h1
  have G2 := Lib.hid h2
  have G3 := Lib.hid h3
  have G4 := Lib.hid h4
  clear h1 h2 h3 h4 E
  have m1 := mulB (show 0 ≤ wt by omega) b3.2 (show 0 ≤ p - 2 * o by omega) (show p - 2 * o ≤ 100 by omega)
  have m2 := mulB b2.1 (show o ≤ 50 by omega) (show 0 ≤ 2 * pe by omega) (show 2 * pe ≤ 2000 by omega)
  by_cases hf : o * (2 * pe) ≤ wt * (p - 2 * o)
  · have J := Lib.hid (walkV_far T.out hf)
    go_enter Try.func31, Try.ntmps31
    go_wp2_with (first
      | (go_at_call 39; refine (l1In _ _ _ _).mono ?_; rintro e w' ⟨rfl, rfl⟩; (first | rw [G1.out] | rw [G2.out]))
      | (go_at_call 56; refine (plWeight _ _).mono ?_; rintro e w' ⟨rfl, rfl⟩; (first | rw [G3.out] | rw [G4.out]))
      | (go_at_call 54; refine (plLow _ _ _ (by omega) (by omega)).mono ?_; rintro e w1 ⟨rfl, hb1⟩))
    go_ret3
    exact ⟨ret_v J.out.symm, Below.refl _ _⟩
  · have J := Lib.hid (walkV_low T.out hf)
    go_enter Try.func31, Try.ntmps31
    go_wp2_with (first
      | (go_at_call 39; refine (l1In _ _ _ _).mono ?_; rintro e w' ⟨rfl, rfl⟩; (first | rw [G1.out] | rw [G2.out]))
      | (go_at_call 56; refine (plWeight _ _).mono ?_; rintro e w' ⟨rfl, rfl⟩; (first | rw [G3.out] | rw [G4.out]))
      | (go_at_call 54; refine (plLow _ _ _ (by omega) (by omega)).mono ?_; rintro e w1 ⟨rfl, hb1⟩))
    go_ret3
    exact ⟨ret_v J.out.symm, hb1⟩

set_option maxHeartbeats 2000000 in
theorem implOver (p wt pe : Int) (w : World) :
    Calls Try.prog 34 #[.int .i64 p, .int .i64 wt, .int .i64 pe] w fun e w' => e = .returned (overV p wt pe) ∧ Below w.heap.size w w' := by
  cases h1 : inB p 1 100
  · have J := Lib.hid (overV_no (p := p) (wt := wt) (pe := pe) (by simp [h1]))
    have G1 := Lib.hid h1
    clear h1
    go_enter Try.func34, Try.ntmps34
    go_wp2_with (first
      | (go_at_call 38; refine (isPlankLength _ _).mono ?_; rintro e w' ⟨rfl, rfl⟩; rw [G1.out])
      | (go_at_call 57; refine (isWeight _ _).mono ?_; rintro e w' ⟨rfl, rfl⟩; (first | rw [G3.out] | rw [G4.out])))
    go_ret3
    exact ⟨ret_v J.out.symm, Below.refl _ _⟩
  cases h3 : inB wt 1 1000
  · have J := Lib.hid (overV_no (p := p) (wt := wt) (pe := pe) (by simp [h1, h3]))
    have G1 := Lib.hid h1
    have G3 := Lib.hid h3
    clear h1 h3
    go_enter Try.func34, Try.ntmps34
    go_wp2_with (first
      | (go_at_call 38; refine (isPlankLength _ _).mono ?_; rintro e w' ⟨rfl, rfl⟩; rw [G1.out])
      | (go_at_call 57; refine (isWeight _ _).mono ?_; rintro e w' ⟨rfl, rfl⟩; (first | rw [G3.out] | rw [G4.out])))
    go_ret3
    exact ⟨ret_v J.out.symm, Below.refl _ _⟩
  cases h4 : inB pe 1 1000
  · have J := Lib.hid (overV_no (p := p) (wt := wt) (pe := pe) (by simp [h1, h3, h4]))
    have G1 := Lib.hid h1
    have G3 := Lib.hid h3
    have G4 := Lib.hid h4
    clear h1 h3 h4
    go_enter Try.func34, Try.ntmps34
    go_wp2_with (first
      | (go_at_call 38; refine (isPlankLength _ _).mono ?_; rintro e w' ⟨rfl, rfl⟩; rw [G1.out])
      | (go_at_call 57; refine (isWeight _ _).mono ?_; rintro e w' ⟨rfl, rfl⟩; (first | rw [G3.out] | rw [G4.out])))
    go_ret3
    exact ⟨ret_v J.out.symm, Below.refl _ _⟩
  have J := Lib.hid (overV_yes (p := p) (wt := wt) (pe := pe) (by simp [h1, h3, h4]))
  have b1 := inB_iff.1 h1
  have b3 := inB_iff.1 h3
  have b4 := inB_iff.1 h4
  have G1 := Lib.hid h1
  have G3 := Lib.hid h3
  have G4 := Lib.hid h4
  clear h1 h3 h4
  have m1 := mulB (show 0 ≤ wt by omega) b3.2 (show 0 ≤ p by omega) b1.2
  go_enter Try.func34, Try.ntmps34
  go_wp2_with (first
    | (go_at_call 38; refine (isPlankLength _ _).mono ?_; rintro e w' ⟨rfl, rfl⟩; rw [G1.out])
    | (go_at_call 57; refine (isWeight _ _).mono ?_; rintro e w' ⟨rfl, rfl⟩; (first | rw [G3.out] | rw [G4.out]))
    | (go_at_call 55; refine (lowestTerms _ _ _ (by omega) (by omega)).mono ?_; rintro e w1 ⟨rfl, hb1⟩))
  go_ret3
  exact ⟨ret_v J.out.symm, hb1⟩

set_option maxHeartbeats 2000000 in
theorem specOver (p wt pe : Int) (w : World) :
    Calls Try.prog 33 #[.int .i64 p, .int .i64 wt, .int .i64 pe] w fun e w' => e = .returned (overV p wt pe) ∧ Below w.heap.size w w' := by
  cases h1 : inB p 1 100
  · have J := Lib.hid (overV_no (p := p) (wt := wt) (pe := pe) (by simp [h1]))
    have G1 := Lib.hid h1
    clear h1
    go_enter Try.func33, Try.ntmps33
    go_wp2_with (first
      | (go_at_call 39; refine (l1In _ _ _ _).mono ?_; rintro e w' ⟨rfl, rfl⟩; rw [G1.out])
      | (go_at_call 56; refine (plWeight _ _).mono ?_; rintro e w' ⟨rfl, rfl⟩; (first | rw [G3.out] | rw [G4.out])))
    go_ret3
    exact ⟨ret_v J.out.symm, Below.refl _ _⟩
  cases h3 : inB wt 1 1000
  · have J := Lib.hid (overV_no (p := p) (wt := wt) (pe := pe) (by simp [h1, h3]))
    have G1 := Lib.hid h1
    have G3 := Lib.hid h3
    clear h1 h3
    go_enter Try.func33, Try.ntmps33
    go_wp2_with (first
      | (go_at_call 39; refine (l1In _ _ _ _).mono ?_; rintro e w' ⟨rfl, rfl⟩; rw [G1.out])
      | (go_at_call 56; refine (plWeight _ _).mono ?_; rintro e w' ⟨rfl, rfl⟩; (first | rw [G3.out] | rw [G4.out])))
    go_ret3
    exact ⟨ret_v J.out.symm, Below.refl _ _⟩
  cases h4 : inB pe 1 1000
  · have J := Lib.hid (overV_no (p := p) (wt := wt) (pe := pe) (by simp [h1, h3, h4]))
    have G1 := Lib.hid h1
    have G3 := Lib.hid h3
    have G4 := Lib.hid h4
    clear h1 h3 h4
    go_enter Try.func33, Try.ntmps33
    go_wp2_with (first
      | (go_at_call 39; refine (l1In _ _ _ _).mono ?_; rintro e w' ⟨rfl, rfl⟩; rw [G1.out])
      | (go_at_call 56; refine (plWeight _ _).mono ?_; rintro e w' ⟨rfl, rfl⟩; (first | rw [G3.out] | rw [G4.out])))
    go_ret3
    exact ⟨ret_v J.out.symm, Below.refl _ _⟩
  have J := Lib.hid (overV_yes (p := p) (wt := wt) (pe := pe) (by simp [h1, h3, h4]))
  have b1 := inB_iff.1 h1
  have b3 := inB_iff.1 h3
  have b4 := inB_iff.1 h4
  have G1 := Lib.hid h1
  have G3 := Lib.hid h3
  have G4 := Lib.hid h4
  clear h1 h3 h4
  have m1 := mulB (show 0 ≤ wt by omega) b3.2 (show 0 ≤ p by omega) b1.2
  go_enter Try.func33, Try.ntmps33
  go_wp2_with (first
    | (go_at_call 39; refine (l1In _ _ _ _).mono ?_; rintro e w' ⟨rfl, rfl⟩; rw [G1.out])
    | (go_at_call 56; refine (plWeight _ _).mono ?_; rintro e w' ⟨rfl, rfl⟩; (first | rw [G3.out] | rw [G4.out]))
    | (go_at_call 54; refine (plLow _ _ _ (by omega) (by omega)).mono ?_; rintro e w1 ⟨rfl, hb1⟩))
  go_ret3
  exact ⟨ret_v J.out.symm, hb1⟩
end Go.Proofs.Ytimbpfenpbkckaa
