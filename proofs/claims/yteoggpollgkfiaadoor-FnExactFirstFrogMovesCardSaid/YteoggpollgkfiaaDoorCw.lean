/- CountFrogWays, impl and spec. -/
import Derived.Test.YteoggpollgkfiaaDoorWm
import Derived.Test.YteoggpollgkfiaaDoorPr
namespace Go.Proofs.YteoggpollgkfiaaDoor
set_option linter.unusedVariables false
open Go.RowKit Go.Maps

def cwV (s g : ByteArray) : Value := if bothP s g then .tuple #[.int .i64 (valL (reach s) (reachT s).2.2 g), .bool (memB (reach s) g)] else .tuple #[.int .i64 0, .bool false]
theorem cwV_no {s g : ByteArray} (h : bothP s g = false) : cwV s g = .tuple #[.int .i64 0, .bool false] := by simp [cwV, h]
theorem cwV_yes {s g : ByteArray} (h : bothP s g = true) : cwV s g = .tuple #[.int .i64 (valL (reach s) (reachT s).2.2 g), .bool (memB (reach s) g)] := by simp [cwV, h]
theorem cwV_form (s g : ByteArray) : ∃ x y, cwV s g = .tuple #[.int .i64 x, .bool y] := by unfold cwV; split <;> exact ⟨_, _, rfl⟩
theorem both_in {s g : ByteArray} (h : bothP s g = true) : isPd s = true ∧ isPd g = true := by
  unfold bothP at h
  simp only [Bool.and_eq_true] at h
  exact h.1

theorem specReachE (s : ByteArray) (w : World) (L : List ByteArray) (T : T3) (hp : isPd s = true) (hL : reach s = L) (hT : reachT s = T) :
    Calls Tryd.prog 25 #[.string s] w fun e w' => ∃ v6 v7 v8 v9, e = .returned (.tuple #[v6, v7, v8, v9]) ∧ Strg w' w.heap.size v6 L ∧ Ints w' w.heap.size v9 T.2.2 ∧ Below w.heap.size w w' := by
  subst hL
  subst hT
  exact (specReach s w hp).mono fun e w' ⟨v6, v7, v8, v9, he, h1, _, _, h4, h5⟩ => ⟨v6, v7, v8, v9, he, h1, h4, h5⟩

end Go.Proofs.YteoggpollgkfiaaDoor
