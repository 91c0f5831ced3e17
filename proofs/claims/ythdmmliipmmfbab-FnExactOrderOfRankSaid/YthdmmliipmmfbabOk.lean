/- Cells of a list of ints of the call's own, many at once; slices.Reverse of its head, slices.Delete of one, slices.Insert of one. -/
import Derived.Test.YthdmmliipmmfbabOi
import Derived.Test.YthdmmliipmmfbabShelfO
import Derived.Lib.Walk
namespace Go.Proofs.Ythdmmliipmmfbab
set_option linter.unusedVariables false
open Go.RowKit

theorem put_more {zs : List Int} {o : Nat} {v : Int} {vs : List Int} (h : o + (vs.length + 1) ≤ zs.length) :
    (zs.set o v).take (o + 1) ++ vs ++ (zs.set o v).drop (o + 1 + vs.length) = zs.take o ++ (v :: vs) ++ zs.drop (o + (vs.length + 1)) := by
  have h1 : (zs.set o v).take (o + 1) = zs.take o ++ [v] := by
    rw [List.take_set, List.take_succ_eq_append_getElem (by omega), List.set_append_right _ _ (by simp; omega)]
    rw [show o - (zs.take o).length = 0 by simp; omega]; rfl
  rw [h1, List.drop_set, if_pos (by omega), show o + 1 + vs.length = o + (vs.length + 1) by omega]
  simp
theorem Ints.puts {B g n cap : Nat} (vs : List Int) : ∀ {w : World} {o : Nat} {zs : List Int}, Ints w B (.slice (some ⟨g, 0, none⟩) n cap) zs → n = zs.length → o + vs.length ≤ n →
    Ints (w.setCells g o (i64s vs)) B (.slice (some ⟨g, 0, none⟩) n cap) (zs.take o ++ vs ++ zs.drop (o + vs.length)) ∧ w.grownBy (w.setCells g o (i64s vs)) (some g) := by
  induction vs with
  | nil =>
    intro w o zs h hn ho
    refine ⟨?_, World.grownBy.refl _ _⟩
    simpa [i64s, World.setCells] using h
  | cons v vs ih =>
    intro w o zs h hn ho
    simp only [List.length_cons] at ho
    have S := h.set hn o v
    have R := ih (o := o + 1) S.1 (by rw [List.length_set]; exact hn) (by omega)
    refine ⟨?_, S.2.trans R.2⟩
    have e := put_more (zs := zs) (o := o) (v := v) (vs := vs) (by omega)
    have e2 : w.setCells g o (i64s (v :: vs)) = (w.setCell ⟨g, o, none⟩ (.int .i64 v)).setCells g (o + 1) (i64s vs) := rfl
    rw [e2, List.length_cons, ← e]
    exact R.1
theorem Ints.drewN {w : World} {B : Nat} {v : Value} {zs : List Int} (h : Ints w B v zs) (q : Nat) : Ints (w.drewN q) B v zs := h.below (below_drewN (Below.refl _ _) q)
theorem grown_drewN (w : World) (q : Nat) (r : Option Nat) : w.grownBy (w.drewN q) r := by
  have b := below_drewN (Below.refl w.heap.size w) q
  exact ⟨b.1, b.2, b.3, b.size, fun k hk _ => b.block k hk⟩
set_option maxRecDepth 100000 in
theorem delZ (g n c i : Nat) (y z : Int) (l : List Int) (B : Nat) (w : World) (h : Ints w B (.slice (some ⟨g, 0, none⟩) n c) l) (hn : n = l.length) (hl : n ≤ 1000) (hi : i < n) (hy : y = (i : Int)) (hz : z = (i : Int) + 1) :
    Calls Try.prog 37 #[.slice (some ⟨g, 0, none⟩) n c, .int .i64 y, .int .i64 z] w fun e w' => e = .returned (.slice (some ⟨g, 0, none⟩) (n - 1) c) ∧ Ints w' B (.slice (some ⟨g, 0, none⟩) n c) (l.take i ++ l.drop (i + 1) ++ [0]) ∧ w.grownBy w' (some g) := by
  obtain rfl : z = ((i + 1 : Nat) : Int) := by omega
  subst hy
  have hcm : n ≤ c ∧ c ≤ maxLen := by
    rcases h.2 with ⟨e, _⟩ | ⟨g', cap', cur, e, _, _, h3, h4, _⟩
    · cases e
    · injection e with _ _ e3; subst e3; exact ⟨by omega, h4⟩
  refine (Try.slices_Delete_int_cells g 0 n c i (i + 1) l w (by omega) hcm.1 (by have := hcm.2; unfold maxLen at this; omega) (by omega) (by omega) (fun j hj => ?_) (fun j hj => ?_)).mono ?_
  · rw [Nat.zero_add]; exact h.cell hn j (by omega)
  · rw [Nat.zero_add]; exact h.frz hn j
  rw [show i + 1 - i = 1 by omega, show l.take n = l by rw [hn]; exact List.take_length]
  rintro e w' ⟨rfl, q, rfl⟩
  have P := (h.drewN q).puts (o := 0) (l.take i ++ l.drop (i + 1) ++ [0]) hn (by simp; omega)
  refine ⟨rfl, ?_, (grown_drewN w q _).trans P.2⟩
  have e : l.take 0 ++ (l.take i ++ l.drop (i + 1) ++ [0]) ++ l.drop (0 + (l.take i ++ l.drop (i + 1) ++ [0]).length) = l.take i ++ l.drop (i + 1) ++ [0] := by
    have e0 : l.drop (0 + (l.take i ++ l.drop (i + 1) ++ [0]).length) = [] := List.drop_eq_nil_of_le (by simp only [List.length_append, List.length_take, List.length_drop, List.length_cons, List.length_nil]; omega)
    rw [e0]; simp
  rw [e] at P
  exact P.1
end Go.Proofs.Ythdmmliipmmfbab
