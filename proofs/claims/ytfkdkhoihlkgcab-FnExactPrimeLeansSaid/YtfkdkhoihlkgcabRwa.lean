/- append(lists, list) at slices of lists of the call's own. -/
import Derived.Test.YtfkdkhoihlkgcabRws
import Derived.OwnWalk
namespace Go.Proofs.Ytfkdkhoihlkgcab
set_option linter.unusedVariables false
open Go.RowKit

/-- one list more -/
theorem Lst.snoc {w1 w' : World} {B : Nat} {v v' : Value} {zss : List (List Int)} {us : List Value} (h : Lst w1 B v zss us) {u : Value} {zs : List Int} (hu : Ints w' B u zs) (hfr : ∀ k, u.ownBlock = some k → w1.heap.size ≤ k)
    (hv : w'.ownsRow B 41 1 v' (zss ++ [zs]).length (us ++ [u])) (hold : ∀ j, j < zss.length → Ints w' B (gu us j) (gl zss j)) : Lst w' B v' (zss ++ [zs]) (us ++ [u]) := by
  have hl := h.len
  have ga : ∀ j, j < zss.length → gu (us ++ [u]) j = gu us j := fun j hj => by
    simp only [gu, List.getD_eq_getElem?_getD]; rw [List.getElem?_append_left (by omega)]
  have gb : gu (us ++ [u]) zss.length = u := by
    simp only [gu, List.getD_eq_getElem?_getD]; rw [List.getElem?_append_right (by omega)]; simp [hl]
  refine ⟨hv, fun j hj => ?_, fun i j k hij hj hk => ?_⟩
  · by_cases e : j < zss.length
    · rw [ga j e]
      have : gl (zss ++ [zs]) j = gl zss j := by simp only [gl, List.getD_eq_getElem?_getD]; rw [List.getElem?_append_left e]
      rw [this]; exact hold j e
    · have e2 : j = zss.length := by simp at hj; omega
      subst e2
      rw [gb]
      have : gl (zss ++ [zs]) zss.length = zs := by simp [gl]
      rw [this]; exact hu
  · by_cases e : j < zss.length
    · rw [ga j e]
      rw [ga i (by omega)] at hk
      exact h.2.2 i j k hij e hk
    · have e2 : j = zss.length := by simp at hj; omega
      subst e2
      rw [gb]
      rw [ga i hij] at hk
      have := (h.blk hij hk).2
      intro e3
      have := hfr k e3
      omega
theorem oneS {w : World} {B : Nat} {u : Value} {zs : List Int} (hu : Ints w B u zs) : u.oneCell' = true := by rcases hu.2 with ⟨rfl, _⟩ | ⟨g, cap, cur, rfl, _⟩ <;> rfl
set_option maxRecDepth 100000 in
/-- 'append(lists, u)' -/
theorem wpList_appS {ops : Array Oper} {rest : List Oper} {o : Oper} {a : Act} {Q : Exit → Act → World → Prop} {W : World} (w0 w1 : World) (hgd : o.guard = none) (s x : Operand)
    (ho : o.op = .call { callee := .builtin .append, args := #[s, x], argTypes := #[32, 32] })
    (B : Nat) (v : Value) (zss : List (List Int)) (us : List Value) (hs : a.eval s = v) (hI : Lst w1 B v zss us) (h10 : Below w1.heap.size w1 w0) (u : Value) (zs : List Int) (hu : Ints w0 B u zs) (hfr : ∀ k, u.ownBlock = some k → w1.heap.size ≤ k)
    (nb : Nat) (hx : a.eval x = .slice (some ⟨nb, 0, none⟩) 1 1) (hnb : nb = w0.heap.size) (hl : zss.length < 16777216) (hB : B ≤ w0.heap.size) (hW : W = w0.alloc (.cells #[u] 41))
    (h : ∀ v' w', Lst w' B v' (zss ++ [zs]) (us ++ [u]) → Below B w0 w' → w0.grownBy w' v.ownBlock → wpList Try.prog ops Q rest (a.put o.dst v') w') : wpList Try.prog ops Q (o :: rest) a W := by
  subst hnb
  subst hW
  obtain ⟨i0, hi, hz0, hz1, hz2⟩ := info_parts Try.infoRowI
  have h1 := rowS_below hI.1 h10
  have hlt : ∀ b, v.ownBlock = some b → B ≤ b := fun b hb => (World.ownsRow.lt h1 b hb).1
  have huc := oneS hu
  refine wpList_append_own _ hgd s x 32 ho B 41 i0 (.slice none 0 0) 1 24 Try.underlying32 hi hz0 hz1 hz2 rfl (by decide) v zss.length us hs (World.ownsRow.alloc h1 _) ⟨w0.heap.size, 0, none⟩ 1 1 [u] hx rfl
    (cell_one_new _ _ _) (by intro y hy; simp at hy; subst hy; exact huc) (by unfold maxLen; omega) (by omega) (by simp; omega) ?_
  intro v' w' h4 h5 _
  refine h v' w' (hI.snoc ((hu.below ((Below.refl _ _).alloc (Nat.le_refl _) _)).kept h5 (rowS_ne h1 hu)) hfr (by rw [List.length_append]; exact h4) fun j hj => ?_) (((Below.refl _ _).alloc hB _).grown h5 (by simp; omega) hlt) ((World.grownBy_alloc _ _ _).trans h5)
  have hj' := (hI.2.1 j hj).below h10
  exact (hj'.below ((Below.refl _ _).alloc (Nat.le_refl _) _)).kept h5 (rowS_ne h1 hj')
/-- a list of two of the call's own -/
theorem ints_two (w : World) (B : Nat) (a b : Int) (hB : B ≤ w.heap.size) : Ints (w.alloc (.cells #[.int .i64 a, .int .i64 b] 3)) B (.slice (some ⟨w.heap.size, 0, none⟩) 2 2) [a, b] :=
  World.ownsRow_lit (base := B) (e := 3) (size := 1) w #[.int .i64 a, .int .i64 b] 2 hB (by unfold maxLen; omega) rfl
end Go.Proofs.Ytfkdkhoihlkgcab
