/- Corners: what they are; distances that are measured by a closure over a place. -/
import Derived.Test.YtfkdkhoihlkgcacDoorRv
import Derived.Test.YtfkdkhoihlkgcacDoorBk
import Derived.Deep.Slices
import Derived.Deep.Strs
import Derived.Deep.Fields
import Derived.ChangeSame
import Derived.Lib.SmallJoins
namespace Go.Proofs.YtfkdkhoihlkgcacDoor
set_option linter.unusedVariables false
open Go.RowKit Go.ChangeShapes Go.WideShapes Go.Deep Go.Joins

def isDt (n : Int) : Bool := decide (1 ≤ n) && decide (n ≤ 100)
def isPl (n : Int) : Bool := decide (1 ≤ n) && decide (n ≤ 200)
def isCn (x y : Int) : Bool := isDt x && isDt y
theorem isDt_in {n : Int} (h : isDt n = true) : 1 ≤ n ∧ n ≤ 100 := by simpa [isDt] using h
theorem isPl_in {n : Int} (h : isPl n = true) : 1 ≤ n ∧ n ≤ 200 := by simpa [isPl] using h
theorem isCn_in {x y : Int} (h : isCn x y = true) : (1 ≤ x ∧ x ≤ 100) ∧ 1 ≤ y ∧ y ≤ 100 := by
  simp only [isCn, Bool.and_eq_true] at h
  exact ⟨isDt_in h.1, isDt_in h.2⟩
theorem inB_dt (n : Int) : inB n 1 100 = isDt n := rfl
theorem inB_pl (n : Int) : inB n 1 200 = isPl n := rfl
/-- a value of two numbers -/
def cv (x y : Int) : Value := .agg #[.int .i64 x, .int .i64 y]

theorem still {P : Program} {f : FuncId} {args : Array Value} {w : World} {v : Ending} (h : Calls P f args w fun e w' => e = v ∧ w = w') : Calls P f args w fun e w' => e = v ∧ Below w.heap.size w w' :=
  h.mono fun e w' ⟨h1, h2⟩ => ⟨h1, by rw [← h2]; exact Below.refl _ _⟩
set_option maxRecDepth 100000 in
theorem openCorner {H : Type} {enc : TypeId × Value → H} {W : World} {r : Reach} {b0 base : Nat} {spare : Nat → Bool} {held : Bool} {v : Value} {d : DataW H} {p : List MemPlace}
    (hv : Value.okWide Tryd.prog W r b0 23 v) (h : DataW.Trod enc Tryd.prog W base spare held 23 v d p) :
    ∃ x y, v = .agg #[.int .i64 x, .int .i64 y] ∧ (Lit.int .i64 x).wf = true ∧ (Lit.int .i64 y).wf = true := by
  obtain ⟨v0, v1, y0, y1, k, rfl, _, _, h0, h1⟩ := open_agg2 Tryd.underlying23 (by kernel_rfl) (by kernel_rfl) hv h
  obtain ⟨x, e0, f0, g0⟩ := DataW.trod_int Tryd.underlying3 h0
  obtain ⟨y, e1, f1, g1⟩ := DataW.trod_int Tryd.underlying3 h1
  injection e0 with e0
  injection e1 with e1
  subst e0 e1
  exact ⟨x, y, rfl, g0, g1⟩
set_option maxHeartbeats 1000000 in
theorem toCorner (x y : Int) (w : World) :
    Calls Tryd.prog 7 #[.agg #[.int .i64 x, .int .i64 y]] w fun e w' => e = .returned (.agg #[.int .i64 x, .int .i64 y]) ∧ Below w.heap.size w w' := by
  go_enter Tryd.func7, Tryd.ntmps7
  go_wp2
  refine bodyPost_ret (v := .agg #[.int .i64 x, .int .i64 y]) (by simp [results, Tryd.results7, go_sem]) rfl ⟨rfl, ?_⟩
  (repeat (first | exact Below.refl _ _ | (refine Below.alloc ?_ (by first | omega | (simp; try omega)) _) | apply Below.drew | apply below_drewN))
theorem eqCorner_same (x y : Int) (w : World) :
    Calls Tryd.prog 11 #[.agg #[.int .i64 x, .int .i64 y], .agg #[.int .i64 x, .int .i64 y]] w fun e w' => e = .returned (.bool true) ∧ Below w.heap.size w w' := by
  go_enter Tryd.func11, Tryd.ntmps11
  go_wp2
  go_ret
  refine ⟨rfl, ?_⟩
  (repeat (first | exact Below.refl _ _ | (refine Below.alloc ?_ (by first | omega | (simp; try omega)) _) | apply Below.drew | apply below_drewN))
theorem cnGood (x y : Int) (w : World) :
    Calls Tryd.prog 17 #[.agg #[.int .i64 x, .int .i64 y]] w fun e w' => e = .returned (.bool (isCn x y)) ∧ Below w.heap.size w w' := by
  have HX := Lib.hid (fun wx => l1In x 1 100 wx)
  have HY := Lib.hid (fun wx => l1In y 1 100 wx)
  rw [inB_dt] at HX HY
  unfold isCn
  generalize isDt x = p at *
  generalize isDt y = q at *
  cases p
  all_goals
    go_enter Tryd.func17, Tryd.ntmps17
    go_wp2_with (first
      | (go_at_call 31; (with_reducible refine (HX.out _).mono ?_); rintro e w' ⟨rfl, rfl⟩)
      | (go_at_call 31; (with_reducible refine (HY.out _).mono ?_); rintro e w' ⟨rfl, rfl⟩))
    go_ret
    refine ⟨ret_bool (by simp), ?_⟩
    (repeat (first | exact Below.refl _ _ | (refine Below.alloc ?_ (by first | omega | (simp; try omega)) _) | apply Below.drew | apply below_drewN))
theorem isDitch (n : Int) (w : World) :
    Calls Tryd.prog 33 #[.int .i64 n] w fun e w' => e = .returned (.bool (isDt n)) ∧ w = w' := by
  by_cases h1 : n < 1
  · go_enter Tryd.func33, Tryd.ntmps33
    go_wp2
    go_ret
    exact ⟨ret_bool (by simp [isDt]; omega), rfl⟩
  · by_cases h2 : 100 < n
    · go_enter Tryd.func33, Tryd.ntmps33
      go_wp2
      go_ret
      exact ⟨ret_bool (by simp [isDt]; omega), rfl⟩
    · go_enter Tryd.func33, Tryd.ntmps33
      go_wp2
      go_ret
      exact ⟨ret_bool (by simp [isDt]; omega), rfl⟩
theorem implIsCorner (x y : Int) (w : World) :
    Calls Tryd.prog 19 #[.agg #[.int .i64 x, .int .i64 y]] w fun e w' => e = .returned (.bool (isCn x y)) ∧ Below w.heap.size w w' := by
  have HX := Lib.hid (fun wx => isDitch x wx)
  have HY := Lib.hid (fun wx => isDitch y wx)
  unfold isCn
  generalize isDt x = p at *
  generalize isDt y = q at *
  cases p
  all_goals
    go_enter Tryd.func19, Tryd.ntmps19
    go_wp2_with (first
      | (go_at_call 33; (with_reducible refine (HX.out _).mono ?_); rintro e w' ⟨rfl, rfl⟩)
      | (go_at_call 33; (with_reducible refine (HY.out _).mono ?_); rintro e w' ⟨rfl, rfl⟩))
    go_ret
    refine ⟨ret_bool (by simp), ?_⟩
    (repeat (first | exact Below.refl _ _ | (refine Below.alloc ?_ (by first | omega | (simp; try omega)) _) | apply Below.drew | apply below_drewN))
end Go.Proofs.YtfkdkhoihlkgcacDoor
