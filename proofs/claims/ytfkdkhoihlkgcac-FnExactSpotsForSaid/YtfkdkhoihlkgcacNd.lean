/- What the second plank needs; places that are boxed. -/
import Derived.Test.YtfkdkhoihlkgcacCd
namespace Go.Proofs.Ytfkdkhoihlkgcac
set_option linter.unusedVariables false
open Go.RowKit

theorem mul_bd {a b m n : Int} (ha : 0 ≤ a) (hb : 0 ≤ b) (h1 : a ≤ m) (h2 : b ≤ n) : 0 ≤ a * b ∧ a * b ≤ m * n :=
  ⟨Int.mul_nonneg ha hb, Int.mul_le_mul h1 h2 hb (by omega)⟩
theorem rd_two {W : World} {g : Nat} {a b : Int} (h : Blk W g #[.int .i64 a, .int .i64 b]) : Rd W (.slice (some ⟨g, 0, none⟩) 2 2) [a, b] := by
  refine .inr ⟨g, 0, 2, rfl, h.lt, Nat.le_refl _, by unfold maxLen; omega, fun j hj => ?_⟩
  have h01 : j = 0 ∨ j = 1 := by simp at hj; omega
  rcases h01 with rfl | rfl
  · exact h.cell 0
  · exact h.cell 1
theorem gt_two {a b m : Int} (ha : -m ≤ a ∧ a ≤ m) (hb : -m ≤ b ∧ b ≤ m) (j : Nat) : -m ≤ gt [a, b] j ∧ gt [a, b] j ≤ m := by
  rcases j with _ | _ | j
  · exact ha
  · exact hb
  · simp [gt]; omega
/-- a place that is boxed -/
def Plc (W : World) (g : Nat) (a b : Int) : Prop := W.heap[g]? = some (.cells #[.int .i64 a, .int .i64 b] 47 (0, 0))
theorem Plc.blk {W : World} {g : Nat} {a b : Int} (h : Plc W g a b) : Blk W g #[.int .i64 a, .int .i64 b] := ⟨_, h⟩
theorem Plc.new (W : World) (a b : Int) : Plc (W.alloc (.cells #[.int .i64 a, .int .i64 b] 47)) W.heap.size a b := heap_alloc_new W _
theorem Plc.below {W W' : World} {g : Nat} {a b : Int} (h : Plc W g a b) (hb : Below W.heap.size W W') : Plc W' g a b := (hb.block g (Array.getElem?_eq_some_iff.1 h).1).trans h
/-- four times the square of what the second plank spans -/
def nd (x y a b : Int) : Int := (2 * x - a) * (2 * x - a) + (2 * y - b) * (2 * y - b)
theorem nd_sq (x y a b : Int) : sqN (2 * x) (2 * y) [a, b] 2 = nd x y a b := by
  rw [sqN_two, nd, ← Int.neg_mul_neg (a - 2 * x), ← Int.neg_mul_neg (b - 2 * y), Int.neg_sub, Int.neg_sub]
set_option maxHeartbeats 1000000 in
theorem needsAt (x y : Int) (w : World) (h : isCn x y = true) :
    Calls Try.prog 29 #[.agg #[.int .i64 x, .int .i64 y]] w fun e w' => ∃ g, e = .returned (.func (.func 40) #[] #[.pointer (some ⟨g, 0, none⟩)]) ∧ w.heap.size ≤ g ∧ Plc w' g (2 * x) (2 * y) ∧ Below w.heap.size w w' := by
  have hxy := isCn_in h
  clear h
  have HP := Lib.hid (show Plc ((w.alloc (.cells #[.int .i64 x, .int .i64 y] 27)).alloc (.cells #[.int .i64 (2 * x), .int .i64 (2 * y)] 47)) (w.heap.size + 1) (2 * x) (2 * y) by
    have := Plc.new (w.alloc (.cells #[.int .i64 x, .int .i64 y] 27)) (2 * x) (2 * y)
    rwa [World.size_alloc] at this)
  go_enter Try.func29, Try.ntmps29
  go_wp2_with (go_at_call 37; refine (squareFrom (2 * x) (2 * y) _).mono ?_; rintro e w' ⟨rfl, rfl⟩)
  go_ret
  refine ⟨_, rfl, by simp, HP.out, ?_⟩
  (repeat (first | exact Below.refl _ _ | (refine Below.alloc ?_ (by first | omega | (simp; try omega)) _) | apply Below.drew | apply below_drewN))
theorem cnNeeds (x y a b : Int) (w : World) (h : isCn x y = true) (ha : isPl a = true) (hb : isPl b = true) :
    Calls Try.prog 28 #[.agg #[.int .i64 x, .int .i64 y], .int .i64 a, .int .i64 b] w fun e w' => e = .returned (.int .i64 (nd x y a b)) ∧ Below w.heap.size w w' := by
  have hxy := isCn_in h
  have ha' := isPl_in ha
  have hb' := isPl_in hb
  have s1 := sq_bd (d := 2 * x - a) (m := 200) (by omega) (by omega)
  have s2 := sq_bd (d := 2 * y - b) (m := 200) (by omega) (by omega)
  clear h ha hb
  go_enter Try.func28, Try.ntmps28
  go_wp2
  go_quiet (fail)
  go_wp2
  go_ret
  refine ⟨rfl, ?_⟩
  (repeat (first | exact Below.refl _ _ | (refine Below.alloc ?_ (by first | omega | (simp; try omega)) _) | apply Below.drew | apply below_drewN))
end Go.Proofs.Ytfkdkhoihlkgcac
