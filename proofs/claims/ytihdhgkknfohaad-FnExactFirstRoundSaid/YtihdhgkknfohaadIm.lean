/- Maps of islands, map[int]bool, as sets: made, put into, deleted from, ranged over. -/
import Derived.Test.YtihdhgkknfohaadSl
import Derived.Maps.Own
import Derived.Maps.OwnOps
import Derived.Maps.OwnSet
import Derived.Maps.Views
import Derived.Maps.RangeWalk
import Derived.Carry
namespace Go.Proofs.Ytihdhgkknfohaad
set_option linter.unusedVariables false
open Go.RowKit Go.Maps

theorem wfI {c : Int} (h0 : -9223372036854775808 ≤ c) (h1 : c ≤ 9223372036854775807) : (Lit.int .i64 c).wf = true := WalkArith.wf_i64 ⟨h0, h1⟩
theorem elemB_inv {H : Type} {P : Program} {e : TypeId} (he : P.underlying e = some .bool) {v : Value} {z : DataW H × List MemPlace} (h : plainElem P e v = some z) : ∃ a, v = .bool a := by
  unfold plainElem at h
  rw [he] at h
  cases v <;> simp at h
  exact ⟨_, rfl⟩
/-- a set of numbers not below 0, as keys of a map tell it -/
def keyed (D : DataW Unit) (p : Nat → Bool) : Prop := ∀ c : Int, Maps.has D (.int .i64 c) = (decide (0 ≤ c) && p c.toNat)
def ISet (w : World) (b N : Nat) (p : Nat → Bool) : Prop :=
  ∃ D : DataW Unit, w.ownsMap Try.prog 3 (plainElem Try.prog 4) b N D ∧ IsMap D ∧ keyed D p
/-- a range over it: q: which are still to come -/
def IRng (w : World) (b r N : Nat) (p q : Nat → Bool) (cnt : Nat) : Prop :=
  ∃ (D : DataW Unit) (left : Lit → Bool), w.ranges Try.prog 3 (plainElem Try.prog 4) b r N D left cnt ∧ IsMap D ∧ keyed D p ∧ ∀ c : Int, left (.int .i64 c) = (decide (0 ≤ c) && q c.toNat)

theorem ISet.made (w : World) : ISet (w.alloc (.map #[] 0)) w.heap.size 0 (fun _ => false) :=
  ⟨_, World.ownsMap_made _ _ _ _, isMap_empty, fun c => by simp [has_eq]⟩
theorem ISet.kept {w w' : World} {b N : Nat} {p : Nat → Bool} {row : Option Nat} (h : ISet w b N p) (hg : w.grownBy w' row) (hne : some b ≠ row) : ISet w' b N p := by
  obtain ⟨D, h1, h2, h3⟩ := h
  exact ⟨D, h1.kept hg hne, h2, h3⟩
theorem ISet.lt {w : World} {b N : Nat} {p : Nat → Bool} (h : ISet w b N p) : b < w.heap.size := by
  obtain ⟨D, h1, _⟩ := h
  exact h1.lt
theorem below_grown {w w' : World} (hb : Below w.heap.size w w') : w.grownBy w' none := ⟨hb.os, hb.tape, hb.output, hb.size, fun i hi _ => hb.block i hi⟩
theorem ISet.below {w w' : World} {b N : Nat} {p : Nat → Bool} (h : ISet w b N p) (hb : Below w.heap.size w w') : ISet w' b N p := h.kept (below_grown hb) (by simp)
theorem ISet.congr {w : World} {b N : Nat} {p q : Nat → Bool} (h : ISet w b N p) (e : ∀ j, p j = q j) : ISet w b N q := by
  obtain ⟨D, h1, h2, h3⟩ := h
  exact ⟨D, h1, h2, fun c => by rw [h3 c, e]⟩
theorem IRng.kept {w w' : World} {b r N cnt : Nat} {p q : Nat → Bool} {row : Option Nat} (h : IRng w b r N p q cnt) (hg : w.grownBy w' row) (hne : some b ≠ row) (hnr : some r ≠ row) : IRng w' b r N p q cnt := by
  obtain ⟨D, left, h1, h2⟩ := h
  exact ⟨D, left, h1.kept hg hne hnr, h2⟩
theorem IRng.below {w w' : World} {b r N cnt : Nat} {p q : Nat → Bool} (h : IRng w b r N p q cnt) (hb : Below w.heap.size w w') : IRng w' b r N p q cnt := h.kept (below_grown hb) (by simp) (by simp)
theorem IRng.lt {w : World} {b r N cnt : Nat} {p q : Nat → Bool} (h : IRng w b r N p q cnt) : r < w.heap.size ∧ b < w.heap.size ∧ r ≠ b := by
  obtain ⟨D, left, h1, _⟩ := h
  exact ⟨h1.lt, h1.owns.lt, h1.ne⟩
theorem IRng.set {w : World} {b r N cnt : Nat} {p q : Nat → Bool} (h : IRng w b r N p q cnt) : ISet w b N p := by
  obtain ⟨D, left, h1, h2, h3, _⟩ := h
  exact ⟨D, h1.owns, h2, h3⟩
theorem IRng.left_eq {w : World} {b r N cnt : Nat} {p q : Nat → Bool} (h : IRng w b r N p q cnt) : w.rangeLeft b r = cnt := by
  obtain ⟨D, left, h1, _⟩ := h
  exact h1.left_eq
theorem sameInt (a b : Int) : (Lit.int .i64 a).sameKey (.int .i64 b) = decide (a = b) := by
  by_cases h : a = b
  · subst h; simp [Lit.sameKey]
  · rw [sameKey_ne (by intro e; injection e; contradiction)]; simp [h]
theorem lit_ne {a b : Int} (h : a ≠ b) : (Lit.int .i64 a) ≠ .int .i64 b := by intro e; injection e; contradiction
theorem keyed_put {D : DataW Unit} {p : Nat → Bool} (hD : IsMap D) (h : keyed D p) (j : Nat) (d : DataW Unit) : keyed (D.put (.int .i64 (j : Int)) d) (fun i => i == j || p i) := by
  intro c
  by_cases e : c = (j : Int)
  · subst e
    rw [has_put_same hD (by trivial)]; simp
  · rw [has_put_other (lit_ne e), h c]
    by_cases h0 : 0 ≤ c
    · have : (c.toNat == j) = false := by simp; omega
      simp [this]
    · simp [h0]
theorem keyed_del {D : DataW Unit} {p : Nat → Bool} (h : keyed D p) (j : Nat) : keyed (D.del (.int .i64 (j : Int))) (fun i => p i && i != j) := by
  intro c
  by_cases e : c = (j : Int)
  · subst e
    rw [has_del_same]; simp
  · rw [has_del_other (lit_ne e), h c]
    by_cases h0 : 0 ≤ c
    · have : (c.toNat != j) = true := by simp; omega
      simp [this]
    · simp [h0]
theorem left_strike {left : Lit → Bool} {q : Nat → Bool} (h : ∀ c : Int, left (.int .i64 c) = (decide (0 ≤ c) && q c.toNat)) (j : Nat) : ∀ c : Int, (left (.int .i64 c) && !(Lit.int .i64 c).sameKey (.int .i64 (j : Int))) = (decide (0 ≤ c) && (q c.toNat && c.toNat != j)) := by
  intro c
  rw [h c, sameInt]
  by_cases h0 : 0 ≤ c
  · by_cases e : c = (j : Int)
    · subst e; simp
    · have : (c.toNat != j) = true := by simp; omega
      simp [e, this]
  · simp [h0]

section
variable {w : World} {ops : Array Oper} {rest : List Oper} {o : Oper} {a : Act} {Q : Exit → Act → World → Prop}
/-- 'm[j] = true' -/
theorem wpList_putI {b N : Nat} {p : Nat → Bool} (hg : o.guard = none) (h : ISet w b N p) (hN : N < 200) (j : Nat) (hj : j < 1000)
    (m x v : Operand) (hop : o.op = Op.mapUpdate 65 m x v) (hm : a.eval m = .map (some b)) (hx : a.eval x = .int .i64 (j : Int)) (hv : a.eval v = .bool true)
    (hK : ∀ w', ISet w' b (N + 1) (fun i => i == j || p i) → w.grownBy w' (some b) → wpList Try.prog ops Q rest (a.put o.dst undef) w') : wpList Try.prog ops Q (o :: rest) a w := by
  refine wpList_plain hg fun K' hK' => ?_
  obtain ⟨D, h1, h2, h3⟩ := h
  obtain ⟨w', r1, r2, r3⟩ := h1.update (int_keyed Try.underlying3) Try.underlying65 (by unfold maxLen; omega) (keyOf_int_mk Try.underlying3 (wfI (c := (j : Int)) (by omega) (by omega))) (plainElem_bool (H := Unit) Try.underlying4 true)
  unfold Oper.wp
  simp [execOp, hop, hm, hx, hv, r1, Result.andThen]
  exact hK' _ _ (hK w' ⟨_, r2, h2.put _ _, keyed_put h2 h3 j _⟩ r3)
/-- 'delete(m, j)' -/
theorem wpList_delI {b N : Nat} {p : Nat → Bool} (hg : o.guard = none) (h : ISet w b N p) (j : Nat) (hj : j < 1000) (m x : Operand)
    (hop : o.op = Op.call { callee := Callee.builtin Builtin.delete, args := #[m, x], argTypes := #[65, 3] }) (hm : a.eval m = .map (some b)) (hx : a.eval x = .int .i64 (j : Int))
    (hK : ∀ w', ISet w' b N (fun i => p i && i != j) → w.grownBy w' (some b) → wpList Try.prog ops Q rest (a.put o.dst (.tuple #[])) w') : wpList Try.prog ops Q (o :: rest) a w := by
  obtain ⟨D, h1, h2, h3⟩ := h
  refine wpList_delete_own _ hg m x 65 3 hop 4 (int_keyed Try.underlying3) Try.underlying65 _ b N D hm h1 _ _ hx (keyOf_int_mk Try.underlying3 (wfI (c := (j : Int)) (by omega) (by omega))) ?_
  intro w' h4 h5
  exact hK w' ⟨_, h4, h2.del _, keyed_del h3 j⟩ h5.grown
/-- 'range m' -/
theorem wpList_rangeI {b N : Nat} {p : Nat → Bool} (hg : o.guard = none) (h : ISet w b N p) (m : Operand) (hop : o.op = Op.range 65 m) (hm : a.eval m = .map (some b))
    (hK : ∀ w' cnt, IRng w' b w.heap.size N p p cnt → w.grownBy w' none → w'.heap.size = w.heap.size + 1 → wpList Try.prog ops Q rest (a.put o.dst (.pointer (some ⟨w.heap.size, 0, none⟩))) w') : wpList Try.prog ops Q (o :: rest) a w := by
  obtain ⟨D, h1, h2, h3⟩ := h
  refine wpList_range_own _ hg m 65 hop 3 4 (int_keyed Try.underlying3) Try.underlying65 _ b N D hm h1 ?_
  intro w' h4 h5 h6
  exact hK w' _ ⟨D, _, h4, h2, h3, h3⟩ h5 h6
/-- the step of the range -/
theorem wpList_nextI {b r N cnt : Nat} {p q : Nat → Bool} (hg : o.guard = none) (it : Operand) (hop : o.op = Op.next it false) (hit : a.eval it = .pointer (some ⟨r, 0, none⟩)) (h : IRng w b r N p q cnt)
    (hDone : (∀ j, q j = false) → wpList Try.prog ops Q rest (a.put o.dst (.tuple #[.bool false])) w)
    (hMore : ∀ (j : Nat) (c : Bool) (w' : World) (cnt' : Nat), q j = true → IRng w' b r N p (fun i => q i && i != j) cnt' → cnt' < cnt → w.grownBy w' (some r) → w'.heap.size = w.heap.size →
      (Instr.entry (.pointer (some ⟨r, 0, none⟩))).run Try.prog w' = .ok (.tuple #[.int .i64 (j : Int), .bool c]) w' → wpList Try.prog ops Q rest (a.put o.dst (.tuple #[.bool true, .int .i64 (j : Int), .bool c])) w') :
    wpList Try.prog ops Q (o :: rest) a w := by
  obtain ⟨D, left, h1, h2, h3, h4⟩ := h
  refine wpList_next_ranges _ hg it hop 3 (int_keyed Try.underlying3) (plainElem Try.prog 4) (Value.int .i64) Value.bool
    (fun key kl hk => by obtain ⟨x, rfl, _⟩ := Maps.keyOf_int_inv Try.underlying3 hk; exact ⟨x, rfl⟩) (fun v y hv => elemB_inv Try.underlying4 hv) b r N D left cnt hit h1 ?_ ?_
  · intro _ hl
    refine hDone fun j => ?_
    have := h4 (j : Int)
    rw [hl] at this
    simpa using this.symm
  · intro x c kl y w' cnt' hkey hlk hv hat hrg hlt hgr hsz hen
    obtain ⟨x', ex, rfl, hwx⟩ := Maps.keyOf_int_inv Try.underlying3 hkey
    cases ex
    have hx := h4 x
    rw [hlk] at hx
    have hx2 : 0 ≤ x ∧ q x.toNat = true := by
      have := hx.symm
      rw [Bool.and_eq_true] at this
      exact ⟨by simpa using this.1, this.2⟩
    obtain ⟨j, rfl⟩ := Int.eq_ofNat_of_zero_le hx2.1
    exact hMore j c w' cnt' (by simpa using hx2.2) ⟨D, _, hrg, h2, h3, left_strike h4 j⟩ hlt hgr hsz hen
/-- 'delete(m, j)' within it -/
theorem wpList_dropI {b r N cnt : Nat} {p q : Nat → Bool} (hg : o.guard = none) (h : IRng w b r N p q cnt) (j : Nat) (hj : j < 1000) (m x : Operand)
    (hop : o.op = Op.call { callee := Callee.builtin Builtin.delete, args := #[m, x], argTypes := #[65, 3] }) (hm : a.eval m = .map (some b)) (hx : a.eval x = .int .i64 (j : Int))
    (hK : ∀ w' cnt', IRng w' b r N (fun i => p i && i != j) (fun i => q i && i != j) cnt' → cnt' ≤ cnt → w.grownBy w' (some b) → wpList Try.prog ops Q rest (a.put o.dst (.tuple #[])) w') : wpList Try.prog ops Q (o :: rest) a w := by
  obtain ⟨D, left, h1, h2, h3, h4⟩ := h
  refine wpList_delete_ranges _ hg m x 65 3 hop 4 (int_keyed Try.underlying3) Try.underlying65 _ b r N D left cnt hm h1 _ _ hx (keyOf_int_mk Try.underlying3 (wfI (c := (j : Int)) (by omega) (by omega))) ?_
  intro w' cnt' h5 h6 h7
  exact hK w' cnt' ⟨_, _, h5, h2.del _, keyed_del h3 j, left_strike h4 j⟩ h6 h7.grown
end
end Go.Proofs.Ytihdhgkknfohaad
