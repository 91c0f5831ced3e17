/- Maps of tolls, map[int]int of the call's own. -/
import Derived.Test.YtdmgpbhbgeknfabIq
import Derived.Test.YtdmgpbhbgeknfabIm
namespace Go.Proofs.Ytdmgpbhbgeknfab
set_option linter.unusedVariables false
open Go.RowKit Go.Maps

def keyedF (D : DataW Unit) (f : Nat → Option Int) : Prop :=
  ∀ c : Int, Maps.has D (.int .i64 c) = (decide (0 ≤ c) && (f c.toNat).isSome) ∧ D.atKey (.int .i64 c) (.lit (.int .i64 0)) = .lit (.int .i64 (if 0 ≤ c then (f c.toNat).getD 0 else 0))
/-- block b is a map in which f tells the toll to each island -/
def TMp (m : Nat) (w : World) (b : Nat) (f : Nat → Option Int) : Prop :=
  ∃ (N : Nat) (D : DataW Unit), w.ownsMap Try.prog 3 (plainElem Try.prog 3) b N D ∧ N + potF f m ≤ 1000000 ∧ IsMap D ∧ keyedF D f
theorem TMp.kept {m : Nat} {w w' : World} {b : Nat} {f : Nat → Option Int} {row : Option Nat} (h : TMp m w b f) (hg : w.grownBy w' row) (hne : some b ≠ row) : TMp m w' b f := by
  obtain ⟨N, D, h1, h2⟩ := h
  exact ⟨N, D, h1.kept hg hne, h2⟩
theorem TMp.lt {m : Nat} {w : World} {b : Nat} {f : Nat → Option Int} (h : TMp m w b f) : b < w.heap.size := by
  obtain ⟨N, D, h1, _⟩ := h
  exact h1.lt
theorem TMp.below {m : Nat} {w w' : World} {b : Nat} {f : Nat → Option Int} (h : TMp m w b f) (hb : Below w.heap.size w w') : TMp m w' b f := h.kept (below_grown hb) (by simp)
theorem potF_le (f : Nat → Option Int) (hf : ∀ i T, f i = some T → T ≤ 100000) : ∀ n, potF f n ≤ 100000 * n
  | 0 => by simp [potF]
  | n + 1 => by
    have := potF_le f hf n
    unfold potF
    cases h : f n
    · simp; omega
    · have := hf n _ h
      simp; omega
theorem keyedF_put {D : DataW Unit} {f : Nat → Option Int} (hD : IsMap D) (h : keyedF D f) (j : Nat) (T : Int) : keyedF (D.put (.int .i64 (j : Int)) (.lit (.int .i64 T))) (putF f j T) := by
  intro c
  by_cases e : c = (j : Int)
  · subst e
    rw [has_put_same hD (by trivial), atKey_put_same hD (by trivial)]
    simp [putF]
  · rw [has_put_other (lit_ne e), atKey_put_other (lit_ne e), (h c).1, (h c).2]
    by_cases h0 : 0 ≤ c
    · have : ¬ c.toNat = j := by omega
      simp [putF, this]
    · simp [h0]
theorem zeroInt (w : World) : (zeroValue 3).run Try.prog w = .ok (.int .i64 0) w := by kernel_rfl
theorem TMp.start {m : Nat} (hm : m ≤ 7) (w : World) {s : Nat} (hs : s < 1000) :
    ∃ w', (Instr.mapUpdate 65 (.map (some w.heap.size)) (.int .i64 (s : Int)) (.int .i64 0)).run Try.prog (w.alloc (.map #[] 0)) = .ok () w' ∧ TMp m w' w.heap.size (putF (fun _ => none) s 0) ∧ (w.alloc (.map #[] 0)).grownBy w' (some w.heap.size) := by
  obtain ⟨w', r1, r2, r3⟩ := (World.ownsMap_made (H := Unit) w Try.prog 3 (plainElem Try.prog 3)).update (int_keyed Try.underlying3) Try.underlying65 (by unfold maxLen; omega) (keyOf_int_mk Try.underlying3 (wfI (c := (s : Int)) (by omega) (by omega))) (plainElem_int Try.underlying3 (wfI (c := 0) (by omega) (by omega)))
  refine ⟨w', r1, ⟨_, _, r2, ?_, isMap_empty.put _ _, keyedF_put isMap_empty (f := fun _ => none) (fun c => by simp [has_eq, DataW.atKey]) s 0⟩, r3⟩
  have := potF_le (putF (fun _ => none) s 0) (fun i T h => by unfold putF at h; split at h <;> cases h; omega) m
  omega
section
variable {w : World} {ops : Array Oper} {rest : List Oper} {o : Oper} {a : Act} {Q : Exit → Act → World → Prop}
/-- 't, ok := m[j]' -/
theorem wpList_lookT {m b : Nat} {f : Nat → Option Int} (hg : o.guard = none) (h : TMp m w b f) (j : Nat) (hj : j < 1000) (x y : Operand) (hop : o.op = Op.lookup 65 x y true) (hx : a.eval x = .map (some b)) (hy : a.eval y = .int .i64 (j : Int))
    (hK : wpList Try.prog ops Q rest (a.put o.dst (.tuple #[.int .i64 ((f j).getD 0), .bool (f j).isSome])) w) : wpList Try.prog ops Q (o :: rest) a w := by
  obtain ⟨N, D, h1, h2, h3, h4⟩ := h
  refine wpList_lookup_own_ok_int w hg x y 65 hop 3 3 .i64 (int_keyed Try.underlying3) Try.underlying65 Try.underlying3 (zeroInt w) b N D hx h1 _ _ hy (keyOf_int_mk Try.underlying3 (wfI (c := (j : Int)) (by omega) (by omega))) ?_
  intro c hc _
  obtain ⟨e1, e2⟩ := h4 (j : Int)
  rw [hc] at e2
  have e3 : c = (f j).getD 0 := by simpa using e2
  have e4 : Maps.has D (.int .i64 (j : Int)) = (f j).isSome := by rw [e1]; simp
  rw [e3, e4]
  exact hK
/-- 'm[j]' -/
theorem wpList_look0T {m b : Nat} {f : Nat → Option Int} (hg : o.guard = none) (h : TMp m w b f) (j : Nat) (hj : j < 1000) (x y : Operand) (hop : o.op = Op.lookup 65 x y false) (hx : a.eval x = .map (some b)) (hy : a.eval y = .int .i64 (j : Int))
    (hK : wpList Try.prog ops Q rest (a.put o.dst (.int .i64 ((f j).getD 0))) w) : wpList Try.prog ops Q (o :: rest) a w := by
  obtain ⟨N, D, h1, h2, h3, h4⟩ := h
  refine wpList_lookup_own_int w hg x y 65 hop 3 3 .i64 (int_keyed Try.underlying3) Try.underlying65 Try.underlying3 (zeroInt w) b N D hx h1 _ _ hy (keyOf_int_mk Try.underlying3 (wfI (c := (j : Int)) (by omega) (by omega))) ?_
  intro c hc _
  obtain ⟨e1, e2⟩ := h4 (j : Int)
  rw [hc] at e2
  have e3 : c = (f j).getD 0 := by simpa using e2
  rw [e3]
  exact hK
/-- 'm[j] = T' -/
theorem wpList_putT {m b : Nat} {f : Nat → Option Int} (hg : o.guard = none) (h : TMp m w b f) (j : Nat) (hj : j < m) (hm : m ≤ 7) (T : Int) (h0 : 0 ≤ T) (hT : T < 100000) (hf : f j = none ∨ ∃ U, f j = some U ∧ T < U)
    (x y v : Operand) (hop : o.op = Op.mapUpdate 65 x y v) (hx : a.eval x = .map (some b)) (hy : a.eval y = .int .i64 (j : Int)) (hv : a.eval v = .int .i64 T)
    (hK : ∀ w', TMp m w' b (putF f j T) → w.grownBy w' (some b) → wpList Try.prog ops Q rest (a.put o.dst undef) w') : wpList Try.prog ops Q (o :: rest) a w := by
  obtain ⟨N, D, h1, h2, h3, h4⟩ := h
  have hp := potF_put h0 hT hf m
  rw [if_pos hj] at hp
  refine wpList_mapUpdate_own w hg x y v 65 hop 3 3 (int_keyed Try.underlying3) Try.underlying65 (plainElem Try.prog 3) b N D hx h1 (by unfold maxLen; omega) _ _ _ hy hv (keyOf_int_mk Try.underlying3 (wfI (c := (j : Int)) (by omega) (by omega))) _ [] (plainElem_int Try.underlying3 (wfI (by omega) (by omega))) ?_
  intro w' h5 h6
  exact hK w' ⟨_, _, h5, by omega, h3.put _ _, keyedF_put h3 h4 j T⟩ h6
end

/-- what the toll to island o becomes by a bridge of cost z from island i, if it goes down -/
def lwr (f : Nat → Option Int) (i o : Nat) (z : Int) : Option Int :=
  match f i with
  | none => none
  | some T => match f o with
    | none => some (T + z)
    | some U => if U ≤ T + z then none else some (T + z)
theorem lwr_0 {f : Nat → Option Int} {i o : Nat} {z : Int} (h : f i = none) : lwr f i o z = none := by simp [lwr, h]
theorem lwr_1 {f : Nat → Option Int} {i o : Nat} {z T : Int} (h : f i = some T) (h2 : f o = none) : lwr f i o z = some (T + z) := by simp [lwr, h, h2]
theorem lwr_2 {f : Nat → Option Int} {i o : Nat} {z T U : Int} (h : f i = some T) (h2 : f o = some U) (h3 : U ≤ T + z) : lwr f i o z = none := by simp [lwr, h, h2, h3]
theorem lwr_3 {f : Nat → Option Int} {i o : Nat} {z T U : Int} (h : f i = some T) (h2 : f o = some U) (h3 : ¬ U ≤ T + z) : lwr f i o z = some (T + z) := by simp [lwr, h, h2]; omega
theorem lwr_none {f : Nat → Option Int} {i o : Nat} {z : Int} (h : lwr f i o z = none) : ∀ T, f i = some T → ∃ U, f o = some U ∧ U ≤ T + z := by
  intro T hT
  cases ho : f o
  · rw [lwr_1 hT ho] at h; cases h
  · rename_i U
    by_cases h3 : U ≤ T + z
    · exact ⟨U, rfl, h3⟩
    · rw [lwr_3 hT ho h3] at h; cases h
theorem lwr_some {f : Nat → Option Int} {i o : Nat} {z V : Int} (h : lwr f i o z = some V) : ∃ T, f i = some T ∧ V = T + z ∧ (f o = none ∨ ∃ U, f o = some U ∧ T + z < U) := by
  cases hi : f i
  · rw [lwr_0 hi] at h; cases h
  · rename_i T
    cases ho : f o
    · rw [lwr_1 hi ho] at h; cases h; exact ⟨T, rfl, rfl, .inl rfl⟩
    · rename_i U
      by_cases h3 : U ≤ T + z
      · rw [lwr_2 hi ho h3] at h; cases h
      · rw [lwr_3 hi ho h3] at h; cases h; exact ⟨T, rfl, rfl, .inr ⟨U, rfl, by omega⟩⟩
def lowF (f : Nat → Option Int) (o : Nat) : Option Int → Nat → Option Int
  | none => f
  | some V => putF f o V
end Go.Proofs.Ytdmgpbhbgeknfab
