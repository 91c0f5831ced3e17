/- Cells of a list of ints of the call's own, many at once; slices.Reverse of its head, slices.Delete of one, slices.Insert of one. -/
import Derived.Test.YthdmmliipmmfbaaOi
import Derived.Test.YthdmmliipmmfbaaShelfO
import Derived.Lib.Walk
namespace Go.Proofs.Ythdmmliipmmfbaa
set_option linter.unusedVariables false
open Go.RowKit

theorem put_more {zs : List Int} {o : Nat} {v : Int} {vs : List Int} (h : o + (vs.length + 1) ≤ zs.length) :
    (zs.set o v).take (o + 1) ++ vs ++ (zs.set o v).drop (o + 1 + vs.length) = zs.take o ++ (v :: vs) ++ zs.drop (o + (vs.length + 1)) := by
  have h1 : (zs.set o v).take (o + 1) = zs.take o ++ [v] := by
    rw [List.take_set, List.take_succ_eq_append_getElem (by omega), List.set_append_right _ _ (by simp; omega)]
    rw [show o - (zs.take o).length = 0 by simp; omega]; rfl
  rw [h1, List.drop_set, if_pos (by omega), show o + 1 + vs.length = o + (vs.length + 1) by omega]
  simp
theorem Ints.puts {B g n cap : Nat} (vs : List Int) : ∀ {w : World} {o : Nat} {zs : List Int}, Ints w B (.slice (some ⟨g, 0, none⟩) n cap) zs → n = zs.length → o + vs.length ≤ n →
    Ints (w.setCells g o (i64s vs)) B (.slice (some ⟨g, 0, none⟩) n cap) (zs.take o ++ vs ++ zs.drop (o + vs.length)) ∧ w.grownBy (w.setCells g o (i64s vs)) (some g) := by
  induction vs with
  | nil =>
    intro w o zs h hn ho
    refine ⟨?_, World.grownBy.refl _ _⟩
    simpa [i64s, World.setCells] using h
  | cons v vs ih =>
    intro w o zs h hn ho
    simp only [List.length_cons] at ho
    have S := h.set hn o v
    have R := ih (o := o + 1) S.1 (by rw [List.length_set]; exact hn) (by omega)
    refine ⟨?_, S.2.trans R.2⟩
    have e := put_more (zs := zs) (o := o) (v := v) (vs := vs) (by omega)
    have e2 : w.setCells g o (i64s (v :: vs)) = (w.setCell ⟨g, o, none⟩ (.int .i64 v)).setCells g (o + 1) (i64s vs) := rfl
    rw [e2, List.length_cons, ← e]
    exact R.1
theorem Ints.drewN {w : World} {B : Nat} {v : Value} {zs : List Int} (h : Ints w B v zs) (q : Nat) : Ints (w.drewN q) B v zs := h.below (below_drewN (Below.refl _ _) q)
theorem grown_drewN (w : World) (q : Nat) (r : Option Nat) : w.grownBy (w.drewN q) r := by
  have b := below_drewN (Below.refl w.heap.size w) q
  exact ⟨b.1, b.2, b.3, b.size, fun k hk _ => b.block k hk⟩
/-- the first k in the other order -/
def trn (zs : List Int) (k : Nat) : List Int := (zs.take k).reverse ++ zs.drop k
theorem trn_len (zs : List Int) (k : Nat) : (trn zs k).length = zs.length := by simp [trn]; omega
set_option maxRecDepth 100000 in
theorem revZ (g n c k : Nat) (zs : List Int) (B : Nat) (w : World) (h : Ints w B (.slice (some ⟨g, 0, none⟩) n c) zs) (hn : n = zs.length) (hk : k ≤ n) (hl : n ≤ 1000) :
    Calls Try.prog 42 #[.slice (some ⟨g, 0, none⟩) k c] w fun e w' => e = .returned (.tuple #[]) ∧ Ints w' B (.slice (some ⟨g, 0, none⟩) n c) (trn zs k) ∧ w.grownBy w' (some g) := by
  refine (Try.slices_Reverse_int_cells g 0 k c zs w (by omega) (by omega) (fun j hj => ?_) (fun j hj => ?_)).mono ?_
  · rw [Nat.zero_add]; exact h.cell hn j (by omega)
  · rw [Nat.zero_add]; exact h.frz hn j
  rintro e w' ⟨rfl, q, rfl⟩
  have P := (h.drewN q).puts (o := 0) (zs.take k).reverse hn (by simp; omega)
  refine ⟨rfl, ?_, (grown_drewN w q _).trans P.2⟩
  have e : zs.take 0 ++ (zs.take k).reverse ++ zs.drop (0 + (zs.take k).reverse.length) = trn zs k := by
    unfold trn; simp [show min k zs.length = k by omega]
  rw [e] at P
  exact P.1
set_option maxRecDepth 100000 in
theorem delZ (g n c i : Nat) (y z : Int) (l : List Int) (B : Nat) (w : World) (h : Ints w B (.slice (some ⟨g, 0, none⟩) n c) l) (hn : n = l.length) (hl : n ≤ 1000) (hi : i < n) (hy : y = (i : Int)) (hz : z = (i : Int) + 1) :
    Calls Try.prog 38 #[.slice (some ⟨g, 0, none⟩) n c, .int .i64 y, .int .i64 z] w fun e w' => e = .returned (.slice (some ⟨g, 0, none⟩) (n - 1) c) ∧ Ints w' B (.slice (some ⟨g, 0, none⟩) n c) (l.take i ++ l.drop (i + 1) ++ [0]) ∧ w.grownBy w' (some g) := by
  obtain rfl : z = ((i + 1 : Nat) : Int) := by omega
  subst hy
  have hcm : n ≤ c ∧ c ≤ maxLen := by
    rcases h.2 with ⟨e, _⟩ | ⟨g', cap', cur, e, _, _, h3, h4, _⟩
    · cases e
    · injection e with _ _ e3; subst e3; exact ⟨by omega, h4⟩
  refine (Try.slices_Delete_int_cells g 0 n c i (i + 1) l w (by omega) hcm.1 (by have := hcm.2; unfold maxLen at this; omega) (by omega) (by omega) (fun j hj => ?_) (fun j hj => ?_)).mono ?_
  · rw [Nat.zero_add]; exact h.cell hn j (by omega)
  · rw [Nat.zero_add]; exact h.frz hn j
  rw [show i + 1 - i = 1 by omega, show l.take n = l by rw [hn]; exact List.take_length]
  rintro e w' ⟨rfl, q, rfl⟩
  have P := (h.drewN q).puts (o := 0) (l.take i ++ l.drop (i + 1) ++ [0]) hn (by simp; omega)
  refine ⟨rfl, ?_, (grown_drewN w q _).trans P.2⟩
  have e : l.take 0 ++ (l.take i ++ l.drop (i + 1) ++ [0]) ++ l.drop (0 + (l.take i ++ l.drop (i + 1) ++ [0]).length) = l.take i ++ l.drop (i + 1) ++ [0] := by
    have e0 : l.drop (0 + (l.take i ++ l.drop (i + 1) ++ [0]).length) = [] := List.drop_eq_nil_of_le (by simp only [List.length_append, List.length_take, List.length_drop, List.length_cons, List.length_nil]; omega)
    rw [e0]; simp
  rw [e] at P
  exact P.1
set_option maxRecDepth 100000 in
set_option maxHeartbeats 1000000 in
theorem insZ (g m c i vb : Nat) (x : Int) (l : List Int) (z : Int) (B : Nat) (w : World) (h : Ints w B (.slice (some ⟨g, 0, none⟩) (m + 1) c) (l ++ [z])) (hn : m = l.length) (hl : m ≤ 1000) (hi : i ≤ m)
    (hvb : w.heap[vb]? = some (.cells #[.int .i64 x] 3 (0, 0))) (hne : vb ≠ g) :
    Calls Try.prog 39 #[.slice (some ⟨g, 0, none⟩) m c, .int .i64 i, .slice (some ⟨vb, 0, none⟩) 1 1] w fun e w' => e = .returned (.slice (some ⟨g, 0, none⟩) (m + 1) c) ∧ Ints w' B (.slice (some ⟨g, 0, none⟩) (m + 1) c) (l.take i ++ [x] ++ l.drop i) ∧ w.grownBy w' (some g) := by
  have hlen : m + 1 = (l ++ [z]).length := by simp [hn]
  obtain ⟨cur, hblk, hcur, hcm⟩ : ∃ cur, w.heap[g]? = some (.cells cur 3 (0, 0)) ∧ cur.size = c ∧ (m + 1 ≤ c ∧ c ≤ maxLen) := by
    rcases h.2 with ⟨e, _⟩ | ⟨g', cap', cur, e, _, hg, h3, h4, h5, _⟩
    · cases e
    · injection e with e1 _ e3
      injection e1 with e1
      injection e1 with e1
      subst e1 e3
      exact ⟨cur, hg, by simpa using h5, by omega, h4⟩
  have hcm2 := hcm.2
  unfold maxLen at hcm2
  have hv0 : w.cell? ⟨vb, 0, none⟩ = some (.int .i64 x) := by simp [World.cell?, hvb]
  have hvs : ∀ j v, [Value.int .i64 x][j]? = some v → w.cell? ⟨vb, 0 + j, none⟩ = some v := by
    intro j v hj
    have : j = 0 := by have := (List.getElem?_eq_some_iff.1 hj).1; simpa using this
    subst this
    simp at hj
    rw [← hj]; exact hv0
  have h1v : ∀ v ∈ [Value.int .i64 x], v.oneCell' = true := by intro v hv; simp at hv; subst hv; rfl
  have hcell : ∀ j, j < m + 1 → w.cell? ⟨g, j, none⟩ = some (.int .i64 (gt (l ++ [z]) j)) := fun j hj => h.cell hlen j hj
  have hfr : ∀ j, w.frozen? ⟨g, j, none⟩ = false := fun j => h.frz hlen j
  have hfin : ∀ a b, w.frozen? ⟨vb, a, b⟩ = false := fun a b => by simp [World.frozen?, hvb]
  by_cases hlt : i < m
  · have C := Try.slices_Insert_int_shift g 0 m c i vb 0 1 1 (i64s l) [.int .i64 x] w hlt (by omega) (by omega) (by omega) hne (by rw [i64s_len]; omega) rfl
      (fun j v hj => by
        have hjl : j < l.length := by have := (List.getElem?_eq_some_iff.1 hj).1; rwa [i64s_len] at this
        rw [Nat.zero_add, hcell j (by omega), ← hj]
        simp [i64s, gt, hjl, List.getElem?_append_left hjl])
      (fun j hj => by rw [Nat.zero_add, hcell j (by omega)]; rfl) (fun j hj => by rw [Nat.zero_add]; exact hfr j) hvs
      (fun v hv => by obtain ⟨y, _, rfl⟩ := List.mem_map.1 hv; rfl) h1v 3 3 1 c (by simp [World.shape?, hvb]) (by simp [World.shape?, hblk, hcur]) (by omega) (hfin _ _) (hfin _ _)
    refine C.mono ?_
    rintro e w' ⟨rfl, rfl⟩
    have P1 := (h.drewN 1).puts (o := 0 + (i + 1)) (l.drop i) hlen (by simp; omega)
    have e1 : (l ++ [z]).take (0 + (i + 1)) ++ l.drop i ++ (l ++ [z]).drop (0 + (i + 1) + (l.drop i).length) = l.take (i + 1) ++ l.drop i := by
      have e0 : (l ++ [z]).drop (0 + (i + 1) + (l.drop i).length) = [] := List.drop_eq_nil_of_le (by simp only [List.length_append, List.length_drop, List.length_cons, List.length_nil]; omega)
      rw [e0, List.append_nil, Nat.zero_add, List.take_append_of_le_length (by omega)]
    rw [e1] at P1
    have P2 := P1.1.puts (o := 0 + i) [x] (by simp; omega) (by simp; omega)
    have e2 : (l.take (i + 1) ++ l.drop i).take (0 + i) ++ [x] ++ (l.take (i + 1) ++ l.drop i).drop (0 + i + [x].length) = l.take i ++ [x] ++ l.drop i := by
      rw [Nat.zero_add, List.take_append_of_le_length (by simp; omega), List.take_take, show min i (i + 1) = i by omega]
      rw [show i + [x].length = (l.take (i + 1)).length by simp; omega, List.drop_left]
    rw [e2] at P2
    have e3 : i64s (l.drop i) = (i64s l).drop i := by simp [i64s]
    rw [e3] at P1 P2
    exact ⟨rfl, P2.1, ((grown_drewN w 1 _).trans P1.2).trans P2.2⟩
  · obtain rfl : i = m := by omega
    have C := Try.slices_Insert_int_end_room g 0 i c vb 0 1 1 [.int .i64 x] w (by omega) (by omega) (by omega) rfl
      (fun j hj => by rw [Nat.zero_add, hcell _ (by omega)]; rfl) (fun j hj => by rw [Nat.zero_add]; exact hfr _) hvs h1v
    refine C.mono ?_
    rintro e w' ⟨rfl, rfl⟩
    have P := h.puts (o := 0 + i) [x] hlen (by simp)
    have e : (l ++ [z]).take (0 + i) ++ [x] ++ (l ++ [z]).drop (0 + i + [x].length) = l.take i ++ [x] ++ l.drop i := by
      have e0 : (l ++ [z]).drop (i + [x].length) = [] := List.drop_eq_nil_of_le (by simp only [List.length_append, List.length_cons, List.length_nil]; omega)
      have e5 : l.drop i = [] := List.drop_eq_nil_of_le (by omega)
      rw [Nat.zero_add, e0, e5, List.take_append_of_le_length (by omega)]
    rw [e] at P
    exact ⟨rfl, P.1, P.2⟩
end Go.Proofs.Ythdmmliipmmfbaa
