/- A slice of bools of the call's own, told by a function. -/
import Derived.Test.YtmlokapbholeoabSl
import Derived.Test.YtmlokapbholeoabTl
import Derived.Laws.OwnMore
namespace Go.Proofs.Ytmlokapbholeoab
set_option linter.unusedVariables false
open Go.RowKit

theorem Try.infoBool : (Try.prog.info? 4).map (fun i => (i.zero, i.size, i.bytes)) = some (some (.bool false), 1, 1) := by kernel_rfl
def gb (bs : List Bool) (j : Nat) : Bool := bs.getD j false
def Bools (w : World) (B : Nat) (v : Value) (bs : List Bool) : Prop := w.ownsRow B 4 1 v bs.length (bs.map Value.bool)
theorem wpList_mkB {ops : Array Oper} {rest : List Oper} {o : Oper} {a : Act} {Q : Exit → Act → World → Prop} {w0 : World} (hgd : o.guard = none) (l c : Operand)
    (ho : o.op = Op.makeSlice 43 l c) (B n : Nat) (N : Int) (hl : a.eval l = .int .i64 N) (hc : a.eval c = .int .i64 N) (hN : N = (n : Int)) (hn : n ≤ 16777216) (hB : B ≤ w0.heap.size)
    (h : ∀ w', Bools w' B (.slice (some ⟨w0.heap.size, 0, none⟩) n n) (List.replicate n false) → Below B w0 w' → w0.grownBy w' none → wpList Try.prog ops Q rest (a.put o.dst (.slice (some ⟨w0.heap.size, 0, none⟩) n n)) w') :
    wpList Try.prog ops Q (o :: rest) a w0 := by
  obtain ⟨i0, hi, hz0, hz1, hz2⟩ := info_parts Try.infoBool
  refine wpList_make_full w0 hgd l c 43 ho B 4 i0 (.bool false) 1 Try.underlying43 hi hz0 hz1 .i64 .i64 N N n hl hc hN hN (by rw [hz2]; omega) (by unfold maxLen; omega) hB ?_
  intro w' h1 h2
  refine h w' ?_ ((Below.refl _ _).grown h2 hB (by intro k hk; cases hk)) h2
  unfold Bools
  rw [List.length_replicate, List.map_replicate]
  have e : (madeCells (Value.bool false).cells (n * 1)).toList = List.replicate n (Value.bool false) := by
    rw [Nat.mul_one]; exact toList_madeCells_one _ _
  rw [← e]
  exact h1
theorem Bools.cell {w : World} {B g n cap : Nat} {bs : List Bool} (h : Bools w B (.slice (some ⟨g, 0, none⟩) n cap) bs) (hn : n = bs.length) (j : Nat) (hj : j < n) : w.cell? ⟨g, j, none⟩ = some (.bool (gb bs j)) := by
  subst hn
  rw [World.ownsRow.cellAt h j (by omega)]
  simp [gb, hj]
theorem Bools.frz {w : World} {B g n cap : Nat} {bs : List Bool} (h : Bools w B (.slice (some ⟨g, 0, none⟩) n cap) bs) (hn : n = bs.length) (j : Nat) : w.frozen? ⟨g, j, none⟩ = false := by
  subst hn
  exact World.ownsRow.frozenAt h j
theorem Bools.set {w : World} {B g n cap : Nat} {bs : List Bool} (h : Bools w B (.slice (some ⟨g, 0, none⟩) n cap) bs) (hn : n = bs.length) (j : Nat) (x : Bool) :
    Bools (w.setCell ⟨g, j, none⟩ (.bool x)) B (.slice (some ⟨g, 0, none⟩) n cap) (bs.set j x) ∧ w.grownBy (w.setCell ⟨g, j, none⟩ (.bool x)) (some g) := by
  subst hn
  have := World.ownsRow.stored h j (.bool x)
  refine ⟨?_, this.2⟩
  unfold Bools
  rw [List.length_set, List.map_set]
  exact this.1
theorem Bools.form {w : World} {B : Nat} {v : Value} {bs : List Bool} (h : Bools w B v bs) (hp : 0 < bs.length) :
    ∃ g n cap, v = .slice (some ⟨g, 0, none⟩) n cap ∧ n = bs.length ∧ B ≤ g ∧ g < w.heap.size ∧ ∀ j, j < n → w.cell? ⟨g, j, none⟩ = some (.bool (gb bs j)) := by
  rcases h.2 with ⟨_, h0⟩ | ⟨g, cap, cur, rfl, hb, hg, hnc, hcm, hcs, ht⟩
  · omega
  · exact ⟨g, _, cap, rfl, rfl, hb, (Array.getElem?_eq_some_iff.1 hg).1, fun j hj => Bools.cell h rfl j hj⟩
theorem Bools.below {w w' : World} {B : Nat} {v : Value} {bs : List Bool} (h : Bools w B v bs) (hb : Below w.heap.size w w') : Bools w' B v bs := by
  refine ⟨h.1, ?_⟩
  rcases h.2 with h2 | ⟨g, cap, cur, e, h1, hg, h3, h4, h5, h6⟩
  · exact .inl h2
  · exact .inr ⟨g, cap, cur, e, h1, (hb.block g (Array.getElem?_eq_some_iff.1 hg).1).trans hg, h3, h4, h5, h6⟩
theorem Bools.kept {w w' : World} {B : Nat} {v : Value} {bs : List Bool} {r : Option Nat} (h : Bools w B v bs) (hg : w.grownBy w' r) (hr : v.ownBlock = none ∨ v.ownBlock ≠ r) : Bools w' B v bs := World.ownsRow.kept h hg hr
theorem Bools.blk {w : World} {B g n cap : Nat} {bs : List Bool} (h : Bools w B (.slice (some ⟨g, 0, none⟩) n cap) bs) : B ≤ g ∧ g < w.heap.size := World.ownsRow.lt h g rfl
theorem bools_mono {w : World} {B B' : Nat} {v : Value} {l : List Bool} (h : Bools w B' v l) (hb : B ≤ B') : Bools w B v l := by
  refine ⟨h.1, ?_⟩
  rcases h.2 with h2 | ⟨g, cap, cur, e, h1, r⟩
  · exact .inl h2
  · exact .inr ⟨g, cap, cur, e, Nat.le_trans hb h1, r⟩
theorem fl_gb {N : Nat} {f : Nat → Bool} {j : Nat} (h : j < N) : gb (fl N f) j = f j := fl_getD h false
theorem Bools.at_ {w : World} {B g N cap : Nat} {f : Nat → Bool} (h : Bools w B (.slice (some ⟨g, 0, none⟩) N cap) (fl N f)) {j : Nat} (hj : j < N) : w.cell? ⟨g, j, none⟩ = some (.bool (f j)) := by
  have := h.cell (fl_len N f).symm j hj
  rwa [fl_gb hj] at this
theorem Bools.put {w : World} {B g N cap : Nat} {f : Nat → Bool} (h : Bools w B (.slice (some ⟨g, 0, none⟩) N cap) (fl N f)) (j : Nat) (x : Bool) :
    Bools (w.setCell ⟨g, j, none⟩ (.bool x)) B (.slice (some ⟨g, 0, none⟩) N cap) (fl N (fun i => if i = j then x else f i)) ∧ w.grownBy (w.setCell ⟨g, j, none⟩ (.bool x)) (some g) := by
  have := h.set (fl_len N f).symm j x
  rwa [fl_set] at this
theorem Bools.fr_ {w : World} {B g N cap : Nat} {f : Nat → Bool} (h : Bools w B (.slice (some ⟨g, 0, none⟩) N cap) (fl N f)) (j : Nat) : w.frozen? ⟨g, j, none⟩ = false := h.frz (fl_len N f).symm j
end Go.Proofs.Ytmlokapbholeoab
