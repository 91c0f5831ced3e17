/- BackOrder, impl and spec; slices.Clone at ints; places of an order; ptSwap, SwapBoats. (gen_oi.py writes it.) -/
import Derived.Test.YthdmmliipmmfbabOe
import Derived.Test.YthdmmliipmmfbabCat
namespace Go.Proofs.Ythdmmliipmmfbab
set_option linter.unusedVariables false
open Go.RowKit

def bkF (zs : List Int) : Nat → Nat → Int
  | 0, _ => 0
  | k + 1, j => if j = (gt zs k).toNat - 1 then (k : Int) + 1 else bkF zs k j
def bkL (zs : List Int) : List Int := if isOrd zs then fl zs.length (bkF zs zs.length) else []
theorem bkL_no {zs : List Int} (h : isOrd zs = false) : bkL zs = [] := by simp [bkL, h]
theorem bkL_yes {zs : List Int} (h : isOrd zs = true) : bkL zs = fl zs.length (bkF zs zs.length) := by simp [bkL, h]
theorem bkL_len (zs : List Int) : (bkL zs).length ≤ 8 := by
  cases h : isOrd zs
  · rw [bkL_no h]; simp
  · rw [bkL_yes h, fl_len]; exact (isOrd_len h).2



/-- a place of the order -/
def isAtO (zs : List Int) (p : Int) : Bool := decide (0 ≤ p) && decide (p < (zs.length : Int))
/-- the order behind a swap -/
def swp (zs : List Int) (a b : Nat) : List Int := (zs.set a (gt zs b)).set b (gt zs a)
theorem swp_len (zs : List Int) (a b : Nat) : (swp zs a b).length = zs.length := by simp [swp]
end Go.Proofs.Ythdmmliipmmfbab
