/- Inverted boats and ranks: CountInverted, RankOfOrder; impl and spec. -/
import Derived.Test.YthdmmliipmmfbabOb
namespace Go.Proofs.Ythdmmliipmmfbab
set_option linter.unusedVariables false
open Go.RowKit

/-- a number and whether there is one -/
def ansV (ok : Bool) (x : Int) : Value := .tuple #[.int .i64 (if ok then x else 0), .bool ok]
theorem ansV_no {ok : Bool} {x : Int} (h : ok = false) : ansV ok x = .tuple #[.int .i64 0, .bool false] := by subst h; rfl
theorem ansV_yes {ok : Bool} {x : Int} (h : ok = true) : ansV ok x = .tuple #[.int .i64 x, .bool true] := by subst h; rfl
theorem ansV_form (ok : Bool) (x : Int) : ∃ a b, ansV ok x = .tuple #[.int .i64 a, .bool b] := ⟨_, _, rfl⟩

/-- how many are inverted with one of the first k places -/
def invTo (zs : List Int) : Nat → Nat
  | 0 => 0
  | k + 1 => invTo zs k + lsr zs k
theorem invTo_le {zs : List Int} (h : zs.length ≤ 8) : ∀ k, invTo zs k ≤ 8 * k
  | 0 => Nat.le_refl _
  | k + 1 => by
    have := invTo_le h k; have := lsr_le h k
    unfold invTo; omega
def invs (zs : List Int) : Nat := invTo zs zs.length
/-- the rank by the first k places -/
def rkTo (zs : List Int) : Nat → Nat
  | 0 => 0
  | k + 1 => rkTo zs k * (zs.length - k) + lsr zs k
theorem rkTo_le {zs : List Int} (h : zs.length ≤ 8) : ∀ k, rkTo zs k ≤ 16 ^ k
  | 0 => by simp [rkTo]
  | k + 1 => by
    have h1 := rkTo_le h k; have := lsr_le h k
    have h2 : rkTo zs k * (zs.length - k) ≤ 16 ^ k * 8 := Nat.mul_le_mul h1 (by omega)
    have h3 : 1 ≤ 16 ^ k := Nat.one_le_pow _ _ (by omega)
    rw [rkTo, Nat.pow_succ]; omega
theorem rkTo_le8 {zs : List Int} (h : zs.length ≤ 8) {k : Nat} (hk : k ≤ 8) : rkTo zs k ≤ 4294967296 :=
  Nat.le_trans (rkTo_le h k) (Nat.le_trans (Nat.pow_le_pow_right (by omega) hk) (by decide))
def rnk (zs : List Int) : Nat := rkTo zs zs.length

end Go.Proofs.Ythdmmliipmmfbab
