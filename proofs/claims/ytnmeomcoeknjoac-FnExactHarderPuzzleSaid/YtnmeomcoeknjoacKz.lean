/- Hidden rivers with the clues that they fit, in memory: a slice of structs of seven cells; sets of clues. -/
import Derived.Test.YtnmeomcoeknjoacKy
namespace Go.Proofs.Ytnmeomcoeknjoac
set_option linter.unusedVariables false
set_option maxRecDepth 100000
open Go.RowKit

theorem Try.infoHR : (Try.prog.info? 71).map (fun i => (i.zero, i.size, i.bytes)) = some (some (.agg #[.string ⟨#[]⟩, .bool false, .bool false, .bool false, .bool false, .bool false, .bool false]), 7, 24) := by kernel_rfl
/-- the six flags of a set of clues -/
def a6 (f : Nat → Bool) : Array Value := #[.bool (f 0), .bool (f 1), .bool (f 2), .bool (f 3), .bool (f 4), .bool (f 5)]
theorem lt6 {k : Nat} (h : k < 6) : k = 0 ∨ k = 1 ∨ k = 2 ∨ k = 3 ∨ k = 4 ∨ k = 5 := by omega
theorem a6_at (f : Nat → Bool) {k : Nat} (h : k < 6) : (a6 f)[k]? = some (.bool (f k)) := by
  rcases lt6 h with rfl | rfl | rfl | rfl | rfl | rfl <;> rfl
theorem a6_set (f : Nat → Bool) {k : Nat} (h : k < 6) (b : Bool) : (a6 f).setIfInBounds k (.bool b) = a6 (fun i => if i = k then b else f i) := by
  rcases lt6 h with rfl | rfl | rfl | rfl | rfl | rfl <;> rfl
def hcell (R : Nat → ByteArray) (F : Nat → Nat → Bool) (i : Nat) : Value := if i % 7 = 0 then .string (R (i / 7)) else .bool (F (i / 7) (i % 7 - 1))
def hrs (N : Nat) (R : Nat → ByteArray) (F : Nat → Nat → Bool) : List Value := (List.range (N * 7)).map (hcell R F)
theorem hrs_len (N : Nat) (R : Nat → ByteArray) (F : Nat → Nat → Bool) : (hrs N R F).length = N * 7 := by simp [hrs]
theorem hrs_get {N : Nat} {R : Nat → ByteArray} {F : Nat → Nat → Bool} {i : Nat} (h : i < N * 7) : (hrs N R F)[i]? = some (hcell R F i) := by simp [hrs, h]
theorem hcell_0 (R : Nat → ByteArray) (F : Nat → Nat → Bool) (m : Nat) : hcell R F (m * 7) = .string (R m) := by
  unfold hcell; rw [if_pos (by omega), show m * 7 / 7 = m by omega]
theorem hcell_k (R : Nat → ByteArray) (F : Nat → Nat → Bool) (m : Nat) {k : Nat} (h : k < 6) : hcell R F (m * 7 + 1 + k) = .bool (F m k) := by
  unfold hcell; rw [if_neg (by omega), show (m * 7 + 1 + k) / 7 = m by omega, show (m * 7 + 1 + k) % 7 - 1 = k by omega]
theorem hrs_set0 {N m : Nat} (R : Nat → ByteArray) (F : Nat → Nat → Bool) (s : ByteArray) : (hrs N R F).set (m * 7) (.string s) = hrs N (fun i => if i = m then s else R i) F := by
  apply List.ext_getElem
  · simp [hrs]
  · intro i h1 h2
    simp only [hrs, List.getElem_set, List.getElem_map, List.getElem_range]
    by_cases e : m * 7 = i
    · subst e; rw [if_pos rfl, hcell_0]; simp
    · rw [if_neg e]
      unfold hcell
      by_cases e7 : i % 7 = 0
      · rw [if_pos e7, if_pos e7]
        dsimp only
        rw [if_neg (by omega)]
      · rw [if_neg e7, if_neg e7]
theorem hrs_setk {N m : Nat} (R : Nat → ByteArray) (F : Nat → Nat → Bool) (b : Bool) {k : Nat} (h : k < 6) : (hrs N R F).set (m * 7 + 1 + k) (.bool b) = hrs N R (fun i q => if i = m ∧ q = k then b else F i q) := by
  apply List.ext_getElem
  · simp [hrs]
  · intro i h1 h2
    simp only [hrs, List.getElem_set, List.getElem_map, List.getElem_range]
    by_cases e : m * 7 + 1 + k = i
    · subst e; rw [if_pos rfl, hcell_k _ _ _ h]; simp
    · rw [if_neg e]
      unfold hcell
      by_cases e7 : i % 7 = 0
      · rw [if_pos e7, if_pos e7]
      · rw [if_neg e7, if_neg e7]
        dsimp only
        rw [if_neg (by omega)]
theorem hrs_congr {N : Nat} {R R' : Nat → ByteArray} {F F' : Nat → Nat → Bool} (hR : ∀ m, m < N → R m = R' m) (hF : ∀ m, m < N → ∀ k, k < 6 → F m k = F' m k) : hrs N R F = hrs N R' F' := by
  unfold hrs
  apply List.map_congr_left
  intro i hi
  have : i < N * 7 := by simpa using hi
  unfold hcell
  by_cases e7 : i % 7 = 0
  · rw [if_pos e7, if_pos e7, hR _ (by omega)]
  · rw [if_neg e7, if_neg e7, hF _ (by omega) _ (by omega)]
/-- a slice of the call's own: N hidden rivers R with their flags F -/
def HRs (w : World) (B : Nat) (v : Value) (N : Nat) (R : Nat → ByteArray) (F : Nat → Nat → Bool) : Prop := w.ownsRow B 71 7 v N (hrs N R F)
theorem HRs.below {w w' : World} {B N : Nat} {v : Value} {R : Nat → ByteArray} {F : Nat → Nat → Bool} (h : HRs w B v N R F) (hb : Below w.heap.size w w') : HRs w' B v N R F := by
  refine ⟨h.1, ?_⟩
  rcases h.2 with h2 | ⟨g, cap, cur, e, h1, hg, h3, h4, h5, h6⟩
  · exact .inl h2
  · exact .inr ⟨g, cap, cur, e, h1, (hb.block g (Array.getElem?_eq_some_iff.1 hg).1).trans hg, h3, h4, h5, h6⟩
theorem HRs.blk {w : World} {B g n cap N : Nat} {R : Nat → ByteArray} {F : Nat → Nat → Bool} (h : HRs w B (.slice (some ⟨g, 0, none⟩) n cap) N R F) : B ≤ g ∧ g < w.heap.size := World.ownsRow.lt h g rfl
theorem HRs.cell0 {w : World} {B g N cap : Nat} {R : Nat → ByteArray} {F : Nat → Nat → Bool} (h : HRs w B (.slice (some ⟨g, 0, none⟩) N cap) N R F) {m : Nat} (hm : m < N) : w.cell? ⟨g, m * 7, none⟩ = some (.string (R m)) := by
  rw [World.ownsRow.cellAt h (m * 7) (by omega), hrs_get (by omega), hcell_0]
theorem HRs.cellk {w : World} {B g N cap : Nat} {R : Nat → ByteArray} {F : Nat → Nat → Bool} (h : HRs w B (.slice (some ⟨g, 0, none⟩) N cap) N R F) {m k : Nat} (hm : m < N) (hk : k < 6) : w.cell? ⟨g, m * 7 + 1 + k, none⟩ = some (.bool (F m k)) := by
  rw [World.ownsRow.cellAt h (m * 7 + 1 + k) (by omega), hrs_get (by omega), hcell_k _ _ _ hk]
theorem HRs.frz {w : World} {B g N cap : Nat} {R : Nat → ByteArray} {F : Nat → Nat → Bool} (h : HRs w B (.slice (some ⟨g, 0, none⟩) N cap) N R F) (j : Nat) : w.frozen? ⟨g, j, none⟩ = false := World.ownsRow.frozenAt h j
theorem HRs.set0 {w : World} {B g N cap : Nat} {R : Nat → ByteArray} {F : Nat → Nat → Bool} (h : HRs w B (.slice (some ⟨g, 0, none⟩) N cap) N R F) (m : Nat) (s : ByteArray) :
    HRs (w.setCell ⟨g, m * 7, none⟩ (.string s)) B (.slice (some ⟨g, 0, none⟩) N cap) N (fun i => if i = m then s else R i) F := by
  have := (World.ownsRow.stored h (m * 7) (.string s)).1
  rwa [hrs_set0] at this
theorem HRs.setk {w : World} {B g N cap : Nat} {R : Nat → ByteArray} {F : Nat → Nat → Bool} (h : HRs w B (.slice (some ⟨g, 0, none⟩) N cap) N R F) (m : Nat) {k : Nat} (hk : k < 6) (b : Bool) :
    HRs (w.setCell ⟨g, m * 7 + 1 + k, none⟩ (.bool b)) B (.slice (some ⟨g, 0, none⟩) N cap) N R (fun i q => if i = m ∧ q = k then b else F i q) := by
  have := (World.ownsRow.stored h (m * 7 + 1 + k) (.bool b)).1
  rwa [hrs_setk _ _ _ hk] at this
/-- the seven cells of one -/
theorem HRs.seven {w : World} {B g N cap : Nat} {R : Nat → ByteArray} {F : Nat → Nat → Bool} (h : HRs w B (.slice (some ⟨g, 0, none⟩) N cap) N R F) {m : Nat} (hm : m < N) :
    w.cell? ⟨g, m * 7, none⟩ = some (.string (R m)) ∧ w.cell? ⟨g, m * 7 + 1, none⟩ = some (.bool (F m 0)) ∧ w.cell? ⟨g, m * 7 + 2, none⟩ = some (.bool (F m 1)) ∧ w.cell? ⟨g, m * 7 + 3, none⟩ = some (.bool (F m 2)) ∧ w.cell? ⟨g, m * 7 + 4, none⟩ = some (.bool (F m 3)) ∧ w.cell? ⟨g, m * 7 + 5, none⟩ = some (.bool (F m 4)) ∧ w.cell? ⟨g, m * 7 + 6, none⟩ = some (.bool (F m 5)) :=
  ⟨h.cell0 hm, h.cellk (k := 0) hm (by omega), h.cellk (k := 1) hm (by omega), h.cellk (k := 2) hm (by omega), h.cellk (k := 3) hm (by omega), h.cellk (k := 4) hm (by omega), h.cellk (k := 5) hm (by omega)⟩
theorem made7 (n : Nat) : (madeCells (Value.agg #[.string ⟨#[]⟩, .bool false, .bool false, .bool false, .bool false, .bool false, .bool false]).cells (n * 7)).toList = hrs n (fun _ => ⟨#[]⟩) (fun _ _ => false) := by
  apply List.ext_getElem
  · simp [size_madeCells, hrs]
  · intro i h1 h2
    simp only [hrs, List.getElem_map, List.getElem_range, hcell, madeCells]
    have h7 : i % 7 = 0 ∨ i % 7 = 1 ∨ i % 7 = 2 ∨ i % 7 = 3 ∨ i % 7 = 4 ∨ i % 7 = 5 ∨ i % 7 = 6 := by omega
    rcases h7 with h | h | h | h | h | h | h <;> simp [Value.cells, h]
/-- 'make([]impl.hiddenRiver, n)' -/
theorem wpList_mkH {ops : Array Oper} {rest : List Oper} {o : Oper} {a : Act} {Q : Exit → Act → World → Prop} {w0 : World} (hgd : o.guard = none) (l c : Operand)
    (ho : o.op = Op.makeSlice 48 l c) (B n : Nat) (N : Int) (hl : a.eval l = .int .i64 N) (hc : a.eval c = .int .i64 N) (hN : N = (n : Int)) (hn : n ≤ 1000) (hB : B ≤ w0.heap.size)
    (h : ∀ w', HRs w' B (.slice (some ⟨w0.heap.size, 0, none⟩) n n) n (fun _ => ⟨#[]⟩) (fun _ _ => false) → Below B w0 w' → wpList Try.prog ops Q rest (a.put o.dst (.slice (some ⟨w0.heap.size, 0, none⟩) n n)) w') :
    wpList Try.prog ops Q (o :: rest) a w0 := by
  obtain ⟨i0, hi, hz0, hz1, hz2⟩ := info_parts Try.infoHR
  refine wpList_make_full w0 hgd l c 48 ho B 71 i0 (.agg #[.string ⟨#[]⟩, .bool false, .bool false, .bool false, .bool false, .bool false, .bool false]) 7 Try.underlying48 hi hz0 hz1 .i64 .i64 N N n hl hc hN hN (by rw [hz2]; omega) (by unfold maxLen; omega) hB ?_
  intro w' h1 h2
  refine h w' ?_ ((Below.refl _ _).grown h2 hB (by intro k hk; cases hk))
  unfold HRs
  rw [← made7]
  exact h1
end Go.Proofs.Ytnmeomcoeknjoac
