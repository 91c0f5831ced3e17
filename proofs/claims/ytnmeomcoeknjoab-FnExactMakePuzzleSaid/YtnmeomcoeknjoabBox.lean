/- A block of two cells of the call's own. -/
import Derived.Test.YtnmeomcoeknjoabStr
namespace Go.Proofs.Ytnmeomcoeknjoab
set_option linter.unusedVariables false
set_option maxRecDepth 100000
open Go.RowKit

/-- block b holds the two values, and may be written -/
def Box2 (w : World) (b : Nat) (x y : Value) : Prop := ∃ T, w.heap[b]? = some (.cells #[x, y] T (0, 0))
theorem Box2.cell0 {w : World} {b : Nat} {x y : Value} (h : Box2 w b x y) : w.cell? ⟨b, 0, none⟩ = some x := by obtain ⟨T, h⟩ := h; simp [World.cell?, h]
theorem Box2.cell1 {w : World} {b : Nat} {x y : Value} (h : Box2 w b x y) : w.cell? ⟨b, 1, none⟩ = some y := by obtain ⟨T, h⟩ := h; simp [World.cell?, h]
theorem Box2.fr {w : World} {b : Nat} {x y : Value} (h : Box2 w b x y) (j : Nat) : w.frozen? ⟨b, j, none⟩ = false := by obtain ⟨T, h⟩ := h; simp [World.frozen?, h]
theorem Box2.kept {w w' : World} {b : Nat} {x y : Value} (h : Box2 w b x y) {r : Option Nat} (hg : w.grownBy w' r) (hr : some b ≠ r) : Box2 w' b x y := by
  obtain ⟨T, h⟩ := h
  exact ⟨T, (hg.block b (Array.getElem?_eq_some_iff.1 h).1 hr).trans h⟩
theorem Box2.lt {w : World} {b : Nat} {x y : Value} (h : Box2 w b x y) : b < w.heap.size := by obtain ⟨T, h⟩ := h; exact (Array.getElem?_eq_some_iff.1 h).1
theorem Box2.below {w w' : World} {b : Nat} {x y : Value} (h : Box2 w b x y) (hb : Below w.heap.size w w') : Box2 w' b x y := by
  have := h.lt
  obtain ⟨T, h⟩ := h
  exact ⟨T, (hb.block b this).trans h⟩
theorem Box2.new (w : World) (x y : Value) (T : TypeId) : Box2 (w.alloc (.cells #[x, y] T)) w.heap.size x y := ⟨T, heap_alloc_new w _⟩
theorem Box2.alloc {w : World} {b : Nat} {x y : Value} (h : Box2 w b x y) (o : Obj) : Box2 (w.alloc o) b x y := h.kept (World.grownBy_alloc w o none) (by simp)
theorem Box2.set {w : World} {b : Nat} {x y : Value} (h : Box2 w b x y) (u v : Value) : Box2 ((w.setCell ⟨b, 0, none⟩ u).setCell ⟨b, 1, none⟩ v) b u v := by
  obtain ⟨T, h⟩ := h
  refine ⟨T, ?_⟩
  have h1 := heap_setCell_same w b 0 #[x, y] T u h
  have h2 := heap_setCell_same (w.setCell ⟨b, 0, none⟩ u) b 1 _ T v h1
  rw [h2]; rfl
theorem set2_grown (w : World) (b : Nat) (u v : Value) : w.grownBy ((w.setCell ⟨b, 0, none⟩ u).setCell ⟨b, 1, none⟩ v) (some b) :=
  ⟨rfl, rfl, rfl, by simp [World.setCell], fun k _ hk => (Below.heap_setCell _ _ _ k (by intro e; exact hk (by rw [e]))).trans (Below.heap_setCell _ _ _ k (by intro e; exact hk (by rw [e])))⟩

theorem Box2.drew {w : World} {b : Nat} {x y : Value} (h : Box2 w b x y) : Box2 w.drew b x y := h
theorem grown_drew {w w' : World} {r : Option Nat} (h : w.grownBy w' r) : w.grownBy w'.drew r := ⟨h.os, h.tape, h.output, h.size, h.block⟩
theorem grown_alloc {w w' : World} {r : Option Nat} (h : w.grownBy w' r) (o : Obj) : w.grownBy (w'.alloc o) r := h.trans (World.grownBy_alloc w' o r)
theorem four {W : World} {b c : Nat} {q1 q2 p1 p2 : Value} (X : Box2 W b q1 q2) (Y : Box2 W c p1 p2) : W.cell? ⟨b, 0, none⟩ = some q1 ∧ W.cell? ⟨b, 1, none⟩ = some q2 ∧ W.cell? ⟨c, 0, none⟩ = some p1 ∧ W.cell? ⟨c, 1, none⟩ = some p2 := ⟨X.cell0, X.cell1, Y.cell0, Y.cell1⟩
def SBox (w : World) (b : Nat) (x y : Value) : Prop := w.heap[b]? = some (.cells #[x, y] 110 (0, 0))
theorem SBox.two {w : World} {b : Nat} {x y : Value} (h : SBox w b x y) : Box2 w b x y := ⟨_, h⟩
theorem SBox.kept {w w' : World} {b : Nat} {x y : Value} (h : SBox w b x y) {r : Option Nat} (hg : w.grownBy w' r) (hr : some b ≠ r) : SBox w' b x y :=
  (hg.block b (Array.getElem?_eq_some_iff.1 h).1 hr).trans h
theorem SBox.ne {w : World} {b B : Nat} {x y v : Value} {zs : List Int} (h : SBox w b x y) (hI : Ints w B v zs) : some b ≠ v.ownBlock := by
  intro e
  rcases hI.2 with ⟨rfl, _⟩ | ⟨g, cap, cur, rfl, hb, hg, _⟩
  · cases e
  · have e2 : b = g := by injection e
    subst e2
    unfold SBox at h
    rw [hg] at h
    injection h with h
    injection h with _ h2
    exact absurd h2 (by decide)

end Go.Proofs.Ytnmeomcoeknjoab
