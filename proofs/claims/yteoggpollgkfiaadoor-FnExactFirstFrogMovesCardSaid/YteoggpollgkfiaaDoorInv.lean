/- What the lists of spec.fgReach say: the place before and the move. Plain. -/
import Derived.Test.YteoggpollgkfiaaDoorPath
import Derived.Test.YteoggpollgkfiaaDoorWay
namespace Go.Proofs.YteoggpollgkfiaaDoor
set_option linter.unusedVariables false
open Go.RowKit

/-- each place but the first has one before it, from which a move leads to it -/
def InvT (s : ByteArray) (L : List ByteArray) (t : T3) : Prop :=
  lens t L.length ∧ 0 < L.length ∧ gs L 0 = s ∧ gt t.1 0 = -1 ∧ ∀ k, 1 ≤ k → k < L.length → ∃ a i : Nat, gt t.1 k = (a : Int) ∧ gt t.2.1 k = (i : Int) ∧ a < k ∧ i ∈ moves (gs L a) ∧ goes (gs L a) i = gs L k
theorem gs_app {L : List ByteArray} {r : ByteArray} {k : Nat} (h : k < L.length) : gs (L ++ [r]) k = gs L k := by
  unfold gs; rw [List.getD_eq_getElem?_getD, List.getElem?_append_left h]; rfl
theorem gs_last (L : List ByteArray) (r : ByteArray) : gs (L ++ [r]) L.length = r := by
  unfold gs; rw [List.getD_eq_getElem?_getD, List.getElem?_append_right (Nat.le_refl _)]; simp
theorem stepT_inv {s : ByteArray} {L : List ByteArray} {t : T3} {a i : Nat} {q : ByteArray} (h : InvT s L t) (ha : a < L.length) (hq : gs L a = q) (hi : i ∈ moves q) : InvT s (addN L (goes q i)) (stepT L a i (goes q i) t) := by
  have hl2 := stepT_lens (a := a) (i := i) (r := goes q i) h.1
  obtain ⟨hl, h0, hs, hF, hk⟩ := h
  refine ⟨hl2, ?_⟩
  by_cases e : goes q i ∈ L
  · rw [stepT_old e, addN_old e]
    exact ⟨h0, hs, hF, hk⟩
  · rw [stepT_new e, addN_new e]
    have l1 : t.1.length = L.length := hl.1
    have l2 : t.2.1.length = L.length := hl.2.1
    refine ⟨by simp, by rw [gs_app h0]; exact hs, by show gt (t.1 ++ [(a : Int)]) 0 = -1; rw [gt_snoc (by omega)]; exact hF, fun k h1 h2 => ?_⟩
    show ∃ a' i' : Nat, gt (t.1 ++ [(a : Int)]) k = (a' : Int) ∧ gt (t.2.1 ++ [(i : Int)]) k = (i' : Int) ∧ _
    rw [List.length_append] at h2
    by_cases hlt : k < L.length
    · obtain ⟨a', i', e1, e2, e3, e4, e5⟩ := hk k h1 hlt
      refine ⟨a', i', by rw [gt_snoc (by omega)]; exact e1, by rw [gt_snoc (by omega)]; exact e2, e3, ?_, ?_⟩
      · rw [gs_app (by omega)]; exact e4
      · rw [gs_app (by omega), gs_app hlt]; exact e5
    · obtain rfl : k = L.length := by simp at h2; omega
      refine ⟨a, i, by rw [← l1]; exact gt_last _ _, by rw [← l2]; exact gt_last _ _, ha, ?_, ?_⟩
      · rw [gs_app ha, hq]; exact hi
      · rw [gs_app ha, hq, gs_last]
theorem inT_inv {s : ByteArray} {L : List ByteArray} {t : T3} {a : Nat} {q : ByteArray} (h : InvT s L t) (ha : a < L.length) (hq : gs L a = q) : ∀ k, k ≤ (moves q).length → InvT s (exTo L q k) (inT L q a t k)
  | 0, _ => h
  | k + 1, hk => by
    have ih := inT_inv h ha hq k (by omega)
    obtain ⟨R, hR⟩ := exTo_pre L q k (by omega)
    rw [exTo_succ (by omega)]
    refine stepT_inv ih (by rw [hR, List.length_append]; omega) ?_ (moves_at (by omega))
    have h2 := hq
    unfold gs at h2 ⊢
    rw [hR, pre_at ha]; exact h2
theorem bT_inv (s : ByteArray) : ∀ j, InvT s (bfs s j) (bT s j)
  | 0 => ⟨⟨rfl, rfl, rfl⟩, by simp [bfs], rfl, rfl, fun k h1 h2 => by simp [bfs] at h2; omega⟩
  | j + 1 => by
    by_cases h : j < (bfs s j).length
    · rw [bT_succ h, bfs_succ h]
      exact inT_inv (bT_inv s j) h rfl _ (Nat.le_refl _)
    · rw [bT_else h, bfs_else h]; exact bT_inv s j
theorem reachT_inv (s : ByteArray) : InvT s (reach s) (reachT s) := bT_inv s 262145
theorem InvT.less {s : ByteArray} {L : List ByteArray} {t : T3} (h : InvT s L t) : ∀ j, j < t.1.length → gt t.1 j < j := by
  intro j hj
  have l1 : t.1.length = L.length := h.1.1
  by_cases e : j = 0
  · subst e; rw [h.2.2.2.1]; omega
  · obtain ⟨a, i, e1, _, e3, _⟩ := h.2.2.2.2 j (by omega) (by omega)
    rw [e1]; omega
/-- **the way back is a list of moves from the first pond to the place** -/
theorem InvT.way {s : ByteArray} {L : List ByteArray} {t : T3} (h : InvT s L t) : ∀ (n k : Nat), k < n → k < L.length → ∃ l : List Nat, wayA t.1 t.2.1 k = asI l ∧ runM s l = some (gs L k)
  | 0, _, hn, _ => absurd hn (Nat.not_lt_zero _)
  | n + 1, k, hn, hk => by
    have l1 : t.1.length = L.length := h.1.1
    by_cases e : k = 0
    · subst e
      exact ⟨[], by rw [wayA_end (by rw [h.2.2.2.1]; omega)]; rfl, by rw [h.2.2.1]; rfl⟩
    · obtain ⟨a, i, e1, e2, e3, e4, e5⟩ := h.2.2.2.2 k (by omega) hk
      obtain ⟨l, hl, hr⟩ := InvT.way h n a (by omega) (by omega)
      exact ⟨l ++ [i], by rw [wayA_back h.less (by omega) e1, hl, e2, asI_snoc], by rw [runM_snoc hr e4, e5]⟩
theorem InvT.way_len {s : ByteArray} {L : List ByteArray} {t : T3} (h : InvT s L t) (hs : isPd s = true) {k : Nat} (hk : k < L.length) : ((wayA t.1 t.2.1 k).length : Int) = pot (gs L k) - pot s := by
  obtain ⟨l, hl, hr⟩ := h.way (k + 1) k (by omega) hk
  have := (runM_pot hs hr).2.2
  rw [hl, asI_len]; omega
end Go.Proofs.YteoggpollgkfiaaDoor
