/- A slice of ints that a call has made, what it reads as, and the contracts of laws.eqIntS (at equal lists), laws.markIntS, laws.heldIntS (at marked lists). -/
import Derived.Test.YtcpipacombnhdaaDoorRows
import Derived.WalkKit
import Derived.ProofKit
import Derived.OpenShut
import Derived.WalkSpells
import Derived.WalkLawsBesides
import Derived.Lib.Hide
import Derived.OwnWalk
import Derived.Maps.AppendAt
import Derived.Deep.QuietTactic
import Derived.BigQuiet
import Derived.WalkSmall
import Derived.Outline
namespace Go.Proofs.YtcpipacombnhdaaDoor
set_option linter.unusedVariables false
open Go.RowKit

theorem Tryd.infoInt : (Tryd.prog.info? 3).map (fun i => (i.zero, i.size, i.bytes)) = some (some (.int .i64 0), 1, 8) := by kernel_rfl
theorem ret_w {a b : Value} (h : a = b) : Ending.returned a = .returned b := by rw [h]

def i64s (zs : List Int) : List Value := zs.map (Value.int .i64)
theorem i64s_len (zs : List Int) : (i64s zs).length = zs.length := by simp [i64s]
theorem i64s_snoc (zs : List Int) (x : Int) : i64s zs ++ [.int .i64 x] = i64s (zs ++ [x]) := by simp [i64s]
def gt (zs : List Int) (j : Nat) : Int := zs.getD j 0

/-- the slice v of the call's own, at blocks from B on, holds zs -/
def Ints (w : World) (B : Nat) (v : Value) (zs : List Int) : Prop := w.ownsRow B 3 1 v zs.length (i64s zs)
/-- the slice v reads as zs -/
def Rd (w : World) (v : Value) (zs : List Int) : Prop :=
  ((∃ a c, v = .slice a 0 c) ∧ zs = []) ∨
  ∃ b off cap, v = .slice (some ⟨b, off, none⟩) zs.length cap ∧ b < w.heap.size ∧ zs.length ≤ cap ∧ cap ≤ maxLen ∧ ∀ j, j < zs.length → w.cell? ⟨b, off + j, none⟩ = some (.int .i64 (gt zs j))

theorem Ints.rd {w : World} {B : Nat} {v : Value} {zs : List Int} (h : Ints w B v zs) : Rd w v zs := by
  have h' := h
  rcases h.2 with ⟨rfl, h0⟩ | ⟨g, cap, cur, rfl, hb, hg, hn, hc, hs, ht⟩
  · exact .inl ⟨⟨_, _, rfl⟩, List.length_eq_zero_iff.1 h0⟩
  · refine .inr ⟨g, 0, cap, rfl, (Array.getElem?_eq_some_iff.1 hg).1, hn, hc, fun j hj => ?_⟩
    have := World.ownsRow.cellAt h' j (by omega)
    rw [Nat.zero_add, this]
    simp [i64s, gt, hj]

theorem Rd.below {w w' : World} {v : Value} {zs : List Int} (h : Rd w v zs) (hb : Below w.heap.size w w') : Rd w' v zs := by
  rcases h with h | ⟨b, off, cap, e, hlt, hc, hm, hh⟩
  · exact .inl h
  · exact .inr ⟨b, off, cap, e, Nat.lt_of_lt_of_le hlt hb.size, hc, hm, fun j hj => (hb.cell (p := ⟨b, off + j, none⟩) hlt).trans (hh j hj)⟩

theorem Ints.below {w w' : World} {B : Nat} {v : Value} {zs : List Int} (h : Ints w B v zs) (hb : Below w.heap.size w w') : Ints w' B v zs := by
  refine ⟨h.1, ?_⟩
  rcases h.2 with h2 | ⟨g, cap, cur, e, h1, hg, h3, h4, h5, h6⟩
  · exact .inl h2
  · exact .inr ⟨g, cap, cur, e, h1, (hb.block g (Array.getElem?_eq_some_iff.1 hg).1).trans hg, h3, h4, h5, h6⟩

theorem Rd.grown {w w' : World} {v : Value} {zs : List Int} {B : Nat} {r : Option Nat} (h : Rd w v zs) (hlt : ∀ b, v.ownBlock = some b → b < B) (hg : w.grownBy w' r) (hr : ∀ b, r = some b → B ≤ b) : Rd w' v zs := by
  rcases h with h | ⟨b, off, cap, rfl, hlt', hc, hm, hh⟩
  · exact .inl h
  · refine .inr ⟨b, off, cap, rfl, Nat.lt_of_lt_of_le hlt' hg.size, hc, hm, fun j hj => ?_⟩
    refine (World.cell?_of_block (w := w) (a := ⟨b, off + j, none⟩) (hg.block b hlt' ?_)).trans (hh j hj)
    intro e
    have h1 := hlt b rfl
    have h2 := hr b e.symm
    omega


theorem Ints.cell {w : World} {B g n cap : Nat} {zs : List Int} (h : Ints w B (.slice (some ⟨g, 0, none⟩) n cap) zs) (hn : n = zs.length) (j : Nat) (hj : j < n) : w.cell? ⟨g, j, none⟩ = some (.int .i64 (gt zs j)) := by
  subst hn
  rw [World.ownsRow.cellAt h j (by omega)]
  simp [i64s, gt, hj]
theorem Ints.frz {w : World} {B g n cap : Nat} {zs : List Int} (h : Ints w B (.slice (some ⟨g, 0, none⟩) n cap) zs) (hn : n = zs.length) (j : Nat) : w.frozen? ⟨g, j, none⟩ = false := by
  subst hn
  exact World.ownsRow.frozenAt h j
theorem Ints.set {w : World} {B g n cap : Nat} {zs : List Int} (h : Ints w B (.slice (some ⟨g, 0, none⟩) n cap) zs) (hn : n = zs.length) (j : Nat) (x : Int) :
    Ints (w.setCell ⟨g, j, none⟩ (.int .i64 x)) B (.slice (some ⟨g, 0, none⟩) n cap) (zs.set j x) ∧ w.grownBy (w.setCell ⟨g, j, none⟩ (.int .i64 x)) (some g) := by
  subst hn
  have := World.ownsRow.stored h j (.int .i64 x)
  refine ⟨?_, this.2⟩
  unfold Ints i64s
  rw [List.length_set, List.map_set]
  exact this.1
theorem Ints.kept {w w' : World} {B : Nat} {v : Value} {zs : List Int} {r : Option Nat} (h : Ints w B v zs) (hg : w.grownBy w' r) (hr : v.ownBlock = none ∨ v.ownBlock ≠ r) : Ints w' B v zs := World.ownsRow.kept h hg hr
theorem Ints.blk {w : World} {B g n cap : Nat} {zs : List Int} (h : Ints w B (.slice (some ⟨g, 0, none⟩) n cap) zs) : B ≤ g ∧ g < w.heap.size := World.ownsRow.lt h g rfl
theorem Ints.form {w : World} {B : Nat} {v : Value} {zs : List Int} (h : Ints w B v zs) (hp : 0 < zs.length) :
    ∃ g n cap, v = .slice (some ⟨g, 0, none⟩) n cap ∧ n = zs.length ∧ n ≤ cap ∧ cap ≤ maxLen ∧ B ≤ g ∧ g < w.heap.size ∧ ∀ j, j < n → w.cell? ⟨g, j, none⟩ = some (.int .i64 (gt zs j)) := by
  rcases h.2 with ⟨_, h0⟩ | ⟨g, cap, cur, rfl, hb, hg, hnc, hcm, hcs, ht⟩
  · omega
  · exact ⟨g, _, cap, rfl, rfl, hnc, hcm, hb, (Array.getElem?_eq_some_iff.1 hg).1, fun j hj => Ints.cell h rfl j hj⟩
theorem Ints.shut {w : World} {B : Nat} {v : Value} {zs : List Int} (h : Ints w B v zs) (hp : zs.length = 0) : ∃ a cap, v = .slice a 0 cap := by
  rcases h.2 with ⟨rfl, h0⟩ | ⟨g, cap, cur, rfl, hb, hg, hnc, hcm, hcs, ht⟩
  · exact ⟨_, _, rfl⟩
  · rw [hp]; exact ⟨_, _, rfl⟩
theorem ints_mono' {w : World} {B B' : Nat} {v : Value} {l : List Int} (h : Ints w B' v l) (hb : B ≤ B') : Ints w B v l := by
  refine ⟨h.1, ?_⟩
  rcases h.2 with h2 | ⟨g, cap, cur, e, h1, r⟩
  · exact .inl h2
  · exact .inr ⟨g, cap, cur, e, Nat.le_trans hb h1, r⟩
theorem Rd.part {w : World} {B g n cap : Nat} {zs : List Int} (h : Ints w B (.slice (some ⟨g, 0, none⟩) n cap) zs) (hn : n = zs.length) (hc : n ≤ cap) (hm : cap ≤ maxLen) (lo m c' : Nat) (hlo : lo + m ≤ n) (hc1 : m ≤ c') (hc2 : c' ≤ maxLen) :
    Rd w (.slice (some ⟨g, lo, none⟩) m c') ((zs.drop lo).take m) := by
  have hl : ((zs.drop lo).take m).length = m := by simp; omega
  refine .inr ⟨g, lo, c', by rw [hl], h.blk.2, by rw [hl]; exact hc1, hc2, fun j hj => ?_⟩
  rw [hl] at hj
  rw [h.cell hn (lo + j) (by omega)]
  simp only [gt, List.getD_eq_getElem?_getD, List.getElem?_take, List.getElem?_drop, if_pos hj]


def marks (k : Int) (n : Nat) : List Int := (List.range n).map fun (j : Nat) => k + j
theorem marks_len (k : Int) (n : Nat) : (marks k n).length = n := by simp [marks]
theorem marks_at (k : Int) (n j : Nat) (h : j < n) : gt (marks k n) j = k + j := by simp [gt, marks, h]
theorem marks_succ (k : Int) (n : Nat) : marks k (n + 1) = marks k n ++ [k + n] := by simp [marks, List.range_succ]



/-- an argument's slice of ints reads as its elements -/
def IsRow (k : IntKind) (w : World) (a : Option Addr) (len cap : Nat) (zs : List Int) : Prop :=
  (a = none ∧ len = 0 ∧ cap = 0 ∧ zs = []) ∨
  ∃ x, a = some x ∧ len ≤ cap ∧ cap ≤ maxLen ∧ zs.length = cap ∧ (∀ i, i < zs.length → w.cell? (x.add i) = some (.int k (zs.getD i 0))) ∧ ∀ n ∈ zs, (Lit.int k n).wf = true
theorem IsRow.rd {w : World} {a : Option Addr} {len cap : Nat} {zs : List Int} (h : IsRow .i64 w a len cap zs) : Rd w (.slice a len cap) (zs.take len) ∧ (zs.take len).length = len ∧ ∀ n ∈ zs.take len, -9223372036854775808 ≤ n ∧ n ≤ 9223372036854775807 := by
  rcases h with ⟨rfl, rfl, rfl, rfl⟩ | ⟨x, rfl, hl, hm, hz, hcell, hwf⟩
  · exact ⟨.inl ⟨⟨_, _, rfl⟩, rfl⟩, rfl, by simp⟩
  · have hln : (zs.take len).length = len := by simp; omega
    refine ⟨?_, hln, fun n hn => ?_⟩
    · by_cases h0 : len = 0
      · subst h0; exact .inl ⟨⟨_, _, rfl⟩, by simp⟩
      · obtain ⟨b, off, spot⟩ := x
        have hc := hcell 0 (by omega)
        have hspot : spot = none := by simpa [Addr.add] using World.cell?_spot hc
        subst hspot
        have hc0 : w.cell? ⟨b, off, none⟩ = some (.int .i64 (zs.getD 0 0)) := by simpa [Addr.add] using hc
        refine .inr ⟨b, off, cap, by rw [hln], World.block_lt_of_cell? w _ hc0, by omega, hm, fun j hj => ?_⟩
        rw [hln] at hj
        have := hcell j (by omega)
        have e : (⟨b, off, none⟩ : Addr).add j = ⟨b, off + j, none⟩ := by (simp [Addr.add]; try omega)
        rw [e] at this
        rw [this]
        simp [gt, hj]
    · have := hwf n (List.mem_of_mem_take hn)
      simpa [Lit.wf, IntKind.min, IntKind.max, IntKind.signed, IntKind.bits] using this

theorem Rd.cells {w : World} {v : Value} {zs : List Int} (h : Rd w v zs) : ∃ a n c, v = .slice a n c ∧ n = zs.length ∧ ∀ j, j < n → ∃ b off, a = some ⟨b, off, none⟩ ∧ b < w.heap.size ∧ w.cell? ⟨b, off + j, none⟩ = some (.int .i64 (gt zs j)) := by
  rcases h with ⟨⟨a, c, rfl⟩, rfl⟩ | ⟨b, off, cap, rfl, hb, hc, hm, hh⟩
  · exact ⟨_, _, _, rfl, rfl, fun j hj => absurd hj (Nat.not_lt_zero _)⟩
  · exact ⟨_, _, _, rfl, rfl, fun j hj => ⟨b, off, rfl, hb, hh j hj⟩⟩
theorem Rd.cellsP {w : World} {v : Value} {zs : List Int} (h : Rd w v zs) (hp : 0 < zs.length) : ∃ b off n c, v = .slice (some ⟨b, off, none⟩) n c ∧ n = zs.length ∧ b < w.heap.size ∧ ∀ j, j < n → w.cell? ⟨b, off + j, none⟩ = some (.int .i64 (gt zs j)) := by
  rcases h with ⟨⟨a, c, rfl⟩, rfl⟩ | ⟨b, off, cap, rfl, hb, hc, hm, hh⟩
  · simp at hp
  · exact ⟨b, off, _, _, rfl, rfl, hb, hh⟩
theorem gt_bound {zs : List Int} (h : ∀ n ∈ zs, -9223372036854775808 ≤ n ∧ n ≤ 9223372036854775807) : ∀ j, -9223372036854775808 ≤ gt zs j ∧ gt zs j ≤ 9223372036854775807 := by
  intro j
  by_cases hj : j < zs.length
  · have e : gt zs j = zs[j] := by simp [gt, hj]
    rw [e]; exact h _ (List.getElem_mem _)
  · have e : gt zs j = 0 := by simp [gt, hj]
    rw [e]; omega
theorem apart_old {x y : Value} {a b c d : Nat} (hx : ∀ k, x.ownBlock = some k → a ≤ k ∧ k < b) (hy : ∀ k, y.ownBlock = some k → c ≤ k ∧ k < d) (h : d ≤ a) : y.ownBlock = none ∨ y.ownBlock ≠ x.ownBlock := by
  cases hyb : y.ownBlock with
  | none => exact .inl rfl
  | some k =>
    right; intro e
    have := hx k (e.symm); have := hy k hyb; omega
theorem apart_new {x y : Value} {a b c d : Nat} (hx : ∀ k, x.ownBlock = some k → a ≤ k ∧ k < b) (hy : ∀ k, y.ownBlock = some k → c ≤ k ∧ k < d) (h : b ≤ c) : y.ownBlock = none ∨ y.ownBlock ≠ x.ownBlock := by
  cases hyb : y.ownBlock with
  | none => exact .inl rfl
  | some k =>
    right; intro e
    have := hx k (e.symm); have := hy k hyb; omega
theorem keepB {P : Program} {f : FuncId} {args : Array Value} {w : World} {X : Ending} (h : Calls P f args w fun e w' => e = X ∧ w = w') : Calls P f args w fun e w' => e = X ∧ Below w.heap.size w w' :=
  h.mono (by rintro e w' ⟨rfl, rfl⟩; exact ⟨rfl, Below.refl _ _⟩)
theorem gt_mem {zs : List Int} {j : Nat} (h : j < zs.length) : gt zs j ∈ zs := by
  have e : gt zs j = zs[j] := by simp [gt, h]
  rw [e]; exact List.getElem_mem _

end Go.Proofs.YtcpipacombnhdaaDoor
