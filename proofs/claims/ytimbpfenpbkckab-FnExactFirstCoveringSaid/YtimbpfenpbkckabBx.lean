/- A box below what turns. -/
import Derived.Test.YtimbpfenpbkckabPk
import Derived.RangeFuncBox
import Derived.RangeFuncFrom
namespace Go.Proofs.Ytimbpfenpbkckab
open Go.RowKit
theorem boxLow {w w' : World} {S c : Nat} {t : TypeId} {v : Value} {row : Option Nat} (h : Boxed w S t v) (hg : w.grownBy w' row) (hr : ∀ r, row = some r → c ≤ r) (hS : S < c) : Boxed w' S t v :=
  h.kept hg fun e => by have := hr S e.symm; omega
theorem ints_own (c B : Nat) (v : Value) (zs : List Int) : OwnFrom c (fun (_ : Unit) W => Ints W B v zs) := by
  rintro _ X Y row hs hg hrow
  refine hs.kept hg ?_
  rcases hs.2 with ⟨rfl, _⟩ | ⟨g, cap, cur, rfl, _, hgb, _⟩
  · exact .inl rfl
  · refine .inr fun e' => ?_
    obtain ⟨_, o, ho, hc⟩ := hrow g (by simpa [Value.ownBlock] using e'.symm)
    rw [hgb] at ho; cases ho; cases hc
end Go.Proofs.Ytimbpfenpbkckab
