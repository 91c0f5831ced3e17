/- Laws over puzzles and a clue: worlds between calls; the answer's box. -/
import Derived.Test.YtnmeomcoeknjoaaKap
import Derived.Test.YtnmeomcoeknjoaaKo
namespace Go.Proofs.Ytnmeomcoeknjoaa
set_option linter.unusedVariables false
open Go.RowKit

theorem bel1 {P C w : World} (d : Below P.heap.size P C) (hb : Below C.heap.size C w) : Below P.heap.size P w := d.trans (hb.mono d.size)
theorem bel2 {W P C : World} (h : Below W.heap.size W P) (d : Below P.heap.size P C) : Below W.heap.size W C := h.trans (d.mono h.size)
theorem bel3 {W P C w : World} (h : Below W.heap.size W P) (d : Below P.heap.size P C) (hb : Below C.heap.size C w) : Below W.heap.size W w := bel2 h (bel1 d hb)
theorem far2 {W P : World} {na b : Nat} {cs : Array Value} {u v : Value} (h : Blk P na cs) (hb : Hid (W.heap.size ≤ b)) (hn : na < W.heap.size) : Blk ((P.setCell ⟨b, 0, none⟩ u).setCell ⟨b, 1, none⟩ v) na cs :=
  have h1 := hb.out
  (h.far (p := ⟨b, 0, none⟩) (by simp; omega) _).far (p := ⟨b, 1, none⟩) (by simp; omega) _
theorem own_in {w : World} {B : Nat} {v : Value} {bs : List Br} (h : Brs w B v bs) : ∀ k, v.ownBlock = some k → B ≤ k ∧ k < w.heap.size := h.lt
/-- an answer: puzzles in a box, their clues apart from it -/
def CutB (W w : World) (b : Nat) (on : Int) (u : Value) (obs : List Br) : Prop := Blk w b #[.int .i64 on, u] ∧ W.heap.size ≤ b ∧ Brs w W.heap.size u obs ∧ (∀ k, u.ownBlock = some k → k ≠ b) ∧ Below W.heap.size W w
theorem cutB_new {W P : World} {on : Int} {u : Value} {obs : List Br} {T : TypeId} (hB : Below W.heap.size W P) (hI : Brs P W.heap.size u obs) (lt : ∀ k, u.ownBlock = some k → W.heap.size ≤ k ∧ k < P.heap.size) : CutB W (P.alloc (.cells #[.int .i64 on, u] T)) P.heap.size on u obs :=
  ⟨Blk.new _ _ _, hB.size, hI.below ((Below.refl _ _).alloc (Nat.le_refl _) _), fun k hk e => by have := (lt k hk).2; omega, hB.alloc hB.size _⟩
theorem grown_cell (w : World) (a : Addr) (u : Value) : w.grownBy (w.setCell a u) (some a.block) :=
  ⟨rfl, rfl, rfl, by simp, fun i hi hne => Below.heap_setCell w a u i (fun e => hne (by rw [e]))⟩
theorem cutB_old {W P : World} {b : Nat} {on : Int} {u x y : Value} {obs : List Br} (hB : Below W.heap.size W P) (hI : Brs P W.heap.size u obs) (hX : Blk P b #[x, y]) (hb : W.heap.size ≤ b) (ap : ∀ k, u.ownBlock = some k → k ≠ b) :
    CutB W ((P.setCell ⟨b, 0, none⟩ (.int .i64 on)).setCell ⟨b, 1, none⟩ u) b on u obs := by
  have ap' : u.ownBlock = none ∨ u.ownBlock ≠ some b := .inr (fun e => ap b e rfl)
  exact ⟨(hX.set 0 _).set 1 _, hb, (hI.kept (grown_cell _ _ _) ap').kept (grown_cell _ _ _) ap', ap, (hB.setCell hb _).setCell hb _⟩
/-- what a call made lies behind what stood at its begin -/
theorem ap_old {P C w : World} {u : Value} {obs : List Br} (hI : Brs w C.heap.size u obs) (d : Below P.heap.size P C) {b : Nat} (hb : b < P.heap.size) : ∀ k, u.ownBlock = some k → k ≠ b := fun k hk e => by have := (hI.lt k hk).1; have := d.size; omega
theorem ap_new {P w : World} {o : Obj} {u : Value} {obs : List Br} (hI : Brs w (P.alloc o).heap.size u obs) : ∀ k, u.ownBlock = some k → k ≠ P.heap.size := fun k hk e => by have := (hI.lt k hk).1; simp at this; omega
theorem ap_newD {P w : World} {o : Obj} {u : Value} {obs : List Br} (hI : Brs w (P.alloc o).drew.heap.size u obs) : ∀ k, u.ownBlock = some k → k ≠ P.heap.size := fun k hk e => by
  have h : (P.alloc o).heap.size ≤ k := (hI.lt k hk).1
  simp at h; omega
theorem brs_from {W P C w : World} {u : Value} {obs : List Br} (hB : Below W.heap.size W P) (d : Below P.heap.size P C) (hI : Brs w C.heap.size u obs) : Brs w W.heap.size u obs := hI.mono (bel2 hB d).size
end Go.Proofs.Ytnmeomcoeknjoaa
