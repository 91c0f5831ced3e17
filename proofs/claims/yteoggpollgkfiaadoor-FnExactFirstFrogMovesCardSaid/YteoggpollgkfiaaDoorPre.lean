/- append([]int{z}, v...) at slices of the call's own. -/
import Derived.Test.YteoggpollgkfiaaDoorSl
import Derived.Laws.AppendOwnNone
namespace Go.Proofs.YteoggpollgkfiaaDoor
set_option linter.unusedVariables false
open Go.RowKit

/-- 'append([]int{z}, v...)' -/
theorem wpList_preI {ops : Array Oper} {rest : List Oper} {o : Oper} {a : Act} {Q : Exit → Act → World → Prop} {W : World} (w0 : World) (hgd : o.guard = none) (s x : Operand)
    (ho : o.op = .call { callee := .builtin .append, args := #[s, x], argTypes := #[25, 25] })
    (B : Nat) (v : Value) (zs : List Int) (hx : a.eval x = v) (hI : Ints w0 B v zs) (z : Int) (hs : a.eval s = .slice (some ⟨w0.heap.size, 0, none⟩) 1 1) (hl : zs.length < 16777216) (hB : B ≤ w0.heap.size) (hW : W = w0.alloc (.cells #[.int .i64 z] 3))
    (h : ∀ v' w', Ints w' B v' (z :: zs) → Below w0.heap.size w0 w' → wpList Tryd.prog ops Q rest (a.put o.dst v') w') : wpList Tryd.prog ops Q (o :: rest) a W := by
  subst hW
  obtain ⟨i0, hi, hz0, hz1, hz2⟩ := info_parts Tryd.infoInt
  have hown : (w0.alloc (.cells #[.int .i64 z] 3)).ownsRow B 3 1 (.slice (some ⟨w0.heap.size, 0, none⟩) 1 1) 1 [.int .i64 z] :=
    World.ownsRow_lit (base := B) (e := 3) (size := 1) w0 #[.int .i64 z] 1 hB (by unfold maxLen; omega) rfl
  have hbA : Below w0.heap.size w0 (w0.alloc (.cells #[.int .i64 z] 3)) := (Below.refl _ _).alloc (Nat.le_refl _) _
  have hI2 := hI.below hbA
  rcases hI2.2 with ⟨rfl, h0⟩ | ⟨g, cap, cur, rfl, hb, hg, hnc, hcm, hcs, ht⟩
  · refine wpList_append_own_none hgd s x 25 ho B 3 i0 1 Tryd.underlying25 hi _ 1 [.int .i64 z] hs hown hx ?_
    refine h _ _ ?_ hbA
    have e : zs = [] := List.length_eq_zero_iff.1 h0
    subst e
    exact hown
  · refine wpList_append_own _ hgd s x 25 ho B 3 i0 (.int .i64 0) 1 8 Tryd.underlying25 hi hz0 hz1 hz2 rfl (by decide) _ 1 [.int .i64 z] hs hown ⟨g, 0, none⟩ zs.length cap (i64s zs) hx (by rw [i64s_len]; omega)
      (fun j u hj => by
        have hjl : j < zs.length := by have := (List.getElem?_eq_some_iff.1 hj).1; rwa [i64s_len] at this
        have := World.ownsRow.cellAt hI2 j (by omega)
        have ea : (⟨g, 0, none⟩ : Addr).add j = ⟨g, j, none⟩ := by simp [Addr.add]; omega
        rw [ea, this]; exact hj)
      (fun u hu => by obtain ⟨y, _, rfl⟩ := List.mem_map.1 hu; rfl) (by unfold maxLen; omega) (by omega) (by simp; omega) ?_
    intro v' w' h1 h2 _
    refine h v' w' ?_ (hbA.grown h2 (by simp) (by intro k hk; cases hk; exact Nat.le_refl _))
    unfold Ints
    have e : (z :: zs).length = 1 + zs.length := by simp; omega
    rw [e]
    exact h1

end Go.Proofs.YteoggpollgkfiaaDoor
