/- FollowOrder, impl and spec. -/
import Derived.Test.YthdmmliipmmfbaaOc
import Derived.Deep.CutRange
import Derived.Deep.DeepCutAuto
import Derived.RegionTactic
import Derived.BigRegion
namespace Go.Proofs.Ythdmmliipmmfbaa
set_option linter.unusedVariables false
open Go.RowKit

/-- a list of the call's own, and whether there is one -/
def IntsQ (B : Nat) (zs : List Int) (ok : Bool) (w : World) (e : Ending) (w' : World) : Prop := ∃ v, e = .returned (.tuple #[v, .bool ok]) ∧ Ints w' B v zs ∧ Below B w w'
theorem fl_snoc {α : Type} (k : Nat) (f : Nat → α) : fl k f ++ [f k] = fl (k + 1) f := by simp [fl, List.range_succ]
def folF (a b : List Int) (j : Nat) : Int := gt b ((gt a j).toNat - 1)
def fol (a b : List Int) : List Int := fl a.length (folF a b)
def folB (a b : List Int) : Bool := isOrd a && isOrd b && a.length == b.length
def folL (a b : List Int) : List Int := if folB a b then fol a b else []
theorem folL_no {a b : List Int} (h : folB a b = false) : folL a b = [] := by simp [folL, h]
theorem folL_yes {a b : List Int} (h : folB a b = true) : folL a b = fol a b := by simp [folL, h]
theorem folL_len (a b : List Int) : (folL a b).length ≤ 8 := by
  cases h : folB a b
  · rw [folL_no h]; simp
  · rw [folL_yes h]
    simp only [folB, Bool.and_eq_true] at h
    have := isOrd_len h.1.1
    simp [fol, fl]; omega
end Go.Proofs.Ythdmmliipmmfbaa
