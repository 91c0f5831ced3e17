/- The order in which spec.fgReach finds the ponds. Plain. -/
import Derived.Test.YteoggpollgkfiaaDoorInv
namespace Go.Proofs.YteoggpollgkfiaaDoor
set_option linter.unusedVariables false
open Go.RowKit

theorem mvTo_rises (s : ByteArray) : ∀ n, (mvTo s n).Pairwise (· < ·)
  | 0 => by simp [mvTo]
  | n + 1 => by
    have ih := mvTo_rises s n
    unfold mvTo
    split
    · rw [List.pairwise_append]
      refine ⟨ih, by simp, fun a ha b hb => ?_⟩
      have := (mvTo_mem s n a ha).1
      simp at hb; omega
    · exact ih
theorem moves_rise {q : ByteArray} {j k : Nat} (h : j < k) (hk : k < (moves q).length) : (moves q).getD j 0 < (moves q).getD k 0 := by
  have hp := List.pairwise_iff_getElem.1 (mvTo_rises q q.size) j k (by show j < (moves q).length; omega) hk h
  rw [List.getD_eq_getElem?_getD, List.getD_eq_getElem?_getD, List.getElem?_eq_getElem (by omega), List.getElem?_eq_getElem hk]
  exact hp
theorem moves_idx {q : ByteArray} {x : Nat} (h : x ∈ moves q) : ∃ j, j < (moves q).length ∧ (moves q).getD j 0 = x := by
  obtain ⟨j, hj, e⟩ := List.getElem_of_mem h
  exact ⟨j, hj, by rw [List.getD_eq_getElem?_getD, List.getElem?_eq_getElem hj]; exact e⟩

/-- all that has been done before the move b from place a: what is found stands in the order of (place before, move), and each move done leads to a place found by it or before it -/
def Ord (L : List ByteArray) (t : T3) (a b : Nat) : Prop :=
  (∀ k, 1 ≤ k → k < L.length → gt t.1 k < a ∨ (gt t.1 k = a ∧ gt t.2.1 k < b)) ∧
  (∀ i k, 1 ≤ i → i < k → k < L.length → gt t.1 i < gt t.1 k ∨ (gt t.1 i = gt t.1 k ∧ gt t.2.1 i < gt t.2.1 k)) ∧
  (∀ p x, p < L.length → x ∈ moves (gs L p) → (p < a ∨ (p = a ∧ x < b)) → ∃ k, k < L.length ∧ gs L k = goes (gs L p) x ∧ (k = 0 ∨ gt t.1 k < p ∨ (gt t.1 k = p ∧ gt t.2.1 k ≤ x)))
theorem Ord.raise {L : List ByteArray} {t : T3} {a b b' : Nat} (h : Ord L t a b) (hb : b ≤ b') (hx : ∀ x ∈ moves (gs L a), x < b' → x < b) : Ord L t a b' := by
  obtain ⟨h1, h2, h3⟩ := h
  refine ⟨fun k k1 k2 => ?_, h2, fun p x hp hm hc => h3 p x hp hm ?_⟩
  · rcases h1 k k1 k2 with h | ⟨h, h'⟩
    · exact .inl h
    · exact .inr ⟨h, by omega⟩
  · rcases hc with hc | ⟨rfl, hc⟩
    · exact .inl hc
    · exact .inr ⟨rfl, hx x hm hc⟩
theorem Ord.next {L : List ByteArray} {t : T3} {a b : Nat} (h : Ord L t a b) (hx : ∀ x ∈ moves (gs L a), x < b) : Ord L t (a + 1) 0 := by
  obtain ⟨h1, h2, h3⟩ := h
  refine ⟨fun k k1 k2 => ?_, h2, fun p x hp hm hc => h3 p x hp hm ?_⟩
  · left
    rcases h1 k k1 k2 with h | ⟨h, h'⟩ <;> omega
  · rcases hc with hc | ⟨_, hc⟩
    · by_cases e : p = a
      · subst e; exact .inr ⟨rfl, hx x hm⟩
      · exact .inl (by omega)
    · omega
theorem stepT_ord {s : ByteArray} {L : List ByteArray} {t : T3} {a i : Nat} {q : ByteArray} (hv : InvT s L t) (h : Ord L t a i) (ha : a < L.length) (hq : gs L a = q) (hi : i ∈ moves q) : Ord (addN L (goes q i)) (stepT L a i (goes q i) t) a (i + 1) := by
  obtain ⟨h1, h2, h3⟩ := h
  have l1 : t.1.length = L.length := hv.1.1
  have l2 : t.2.1.length = L.length := hv.1.2.1
  by_cases e : goes q i ∈ L
  · rw [stepT_old e, addN_old e]
    refine ⟨fun k k1 k2 => ?_, h2, fun p x hp hm hc => ?_⟩
    · rcases h1 k k1 k2 with h | ⟨h, h'⟩
      · exact .inl h
      · exact .inr ⟨h, by show gt t.2.1 k < ((i + 1 : Nat) : Int); omega⟩
    · by_cases hlt : p < a ∨ (p = a ∧ x < i)
      · exact h3 p x hp hm hlt
      · obtain ⟨rfl, rfl⟩ : p = a ∧ x = i := by omega
        have hk := idxL_mem.2 e
        refine ⟨idxL L (goes q x), hk, by rw [idxL_get e, hq], ?_⟩
        by_cases k0 : idxL L (goes q x) = 0
        · exact .inl k0
        · rcases h1 _ (by omega) hk with h | ⟨h, h'⟩
          · exact .inr (.inl h)
          · exact .inr (.inr ⟨h, by show gt t.2.1 _ ≤ (x : Int); omega⟩)
  · rw [stepT_new e, addN_new e]
    have f1 : ∀ k, k < L.length → gt (t.1 ++ [(a : Int)]) k = gt t.1 k := fun k hk => gt_snoc (by omega)
    have f2 : ∀ k, k < L.length → gt (t.2.1 ++ [(i : Int)]) k = gt t.2.1 k := fun k hk => gt_snoc (by omega)
    have g1 : gt (t.1 ++ [(a : Int)]) L.length = a := by rw [← l1]; exact gt_last _ _
    have g2 : gt (t.2.1 ++ [(i : Int)]) L.length = i := by rw [← l2]; exact gt_last _ _
    refine ⟨fun k k1 k2 => ?_, fun j k j1 jk k2 => ?_, fun p x hp hm hc => ?_⟩
    · show gt (t.1 ++ [(a : Int)]) k < a ∨ (gt (t.1 ++ [(a : Int)]) k = a ∧ gt (t.2.1 ++ [(i : Int)]) k < ((i + 1 : Nat) : Int))
      rw [List.length_append] at k2
      by_cases hk : k < L.length
      · rw [f1 k hk, f2 k hk]
        rcases h1 k k1 hk with h | ⟨h, h'⟩
        · exact .inl h
        · exact .inr ⟨h, by omega⟩
      · obtain rfl : k = L.length := by simp at k2; omega
        rw [g1, g2]
        exact .inr ⟨rfl, by omega⟩
    · show gt (t.1 ++ [(a : Int)]) j < gt (t.1 ++ [(a : Int)]) k ∨ (gt (t.1 ++ [(a : Int)]) j = gt (t.1 ++ [(a : Int)]) k ∧ gt (t.2.1 ++ [(i : Int)]) j < gt (t.2.1 ++ [(i : Int)]) k)
      rw [List.length_append] at k2
      by_cases hk : k < L.length
      · rw [f1 k hk, f2 k hk, f1 j (by omega), f2 j (by omega)]
        exact h2 j k j1 jk hk
      · obtain rfl : k = L.length := by simp at k2; omega
        rw [g1, g2, f1 j jk, f2 j jk]
        exact h1 j j1 jk
    · show ∃ k, k < (L ++ [goes q i]).length ∧ gs (L ++ [goes q i]) k = goes (gs (L ++ [goes q i]) p) x ∧ (k = 0 ∨ gt (t.1 ++ [(a : Int)]) k < p ∨ (gt (t.1 ++ [(a : Int)]) k = p ∧ gt (t.2.1 ++ [(i : Int)]) k ≤ x))
      have hp' : p < L.length := by rcases hc with hc | ⟨rfl, _⟩ <;> omega
      rw [gs_app hp'] at hm ⊢
      by_cases hlt : p < a ∨ (p = a ∧ x < i)
      · obtain ⟨k, hk, hk2, hk3⟩ := h3 p x hp' hm hlt
        refine ⟨k, by rw [List.length_append]; omega, by rw [gs_app hk]; exact hk2, ?_⟩
        rw [f1 k hk, f2 k hk]
        exact hk3
      · obtain ⟨rfl, rfl⟩ : p = a ∧ x = i := by omega
        refine ⟨L.length, by simp, by rw [gs_last, hq], .inr (.inr ?_)⟩
        rw [g1, g2]
        exact ⟨rfl, Int.le_refl _⟩
theorem inT_ord {s : ByteArray} {L : List ByteArray} {t : T3} {a : Nat} {q : ByteArray} (hz : q.size ≤ 999) (hv : InvT s L t) (h : Ord L t a 0) (ha : a < L.length) (hq : gs L a = q) : ∀ k, k ≤ (moves q).length → Ord (exTo L q k) (inT L q a t k) a (if k < (moves q).length then (moves q).getD k 0 else 1000)
  | 0, _ => by
    refine Ord.raise h (Nat.zero_le _) fun x hx hlt => ?_
    have hx' : x ∈ moves q := by rw [← hq]; exact hx
    obtain ⟨j, hj, rfl⟩ := moves_idx hx'
    rw [if_pos (by omega)] at hlt
    rcases Nat.eq_zero_or_pos j with rfl | hj0
    · omega
    · have := moves_rise hj0 hj; omega
  | k + 1, hk => by
    have ih := inT_ord hz hv h ha hq k (by omega)
    have iv := inT_inv hv ha hq k (by omega)
    rw [if_pos (by omega)] at ih
    obtain ⟨R, hR⟩ := exTo_pre L q k (by omega)
    have hle : a < (exTo L q k).length := by rw [hR, List.length_append]; omega
    have hgq : gs (exTo L q k) a = q := by
      have h2 := hq
      unfold gs at h2 ⊢
      rw [hR, pre_at ha]; exact h2
    rw [exTo_succ (by omega)]
    have st := stepT_ord iv ih hle hgq (moves_at (by omega))
    have hgq2 : gs (addN (exTo L q k) (goes q ((moves q).getD k 0))) a = q := by
      obtain ⟨R2, hR2⟩ := addN_pre (exTo L q k) (goes q ((moves q).getD k 0))
      have h2 := hgq
      unfold gs at h2 ⊢
      rw [hR2, pre_at hle]; exact h2
    refine Ord.raise st ?_ fun x hx hlt => ?_
    · by_cases hk1 : k + 1 < (moves q).length
      · rw [if_pos hk1]; exact moves_rise (Nat.lt_succ_self k) hk1
      · rw [if_neg hk1]
        have := (moves_in (moves_at (q := q) (k := k) (by omega))).1
        omega
    · rw [hgq2] at hx
      obtain ⟨j, hj, rfl⟩ := moves_idx hx
      by_cases hjk : j ≤ k
      · rcases Nat.lt_or_eq_of_le hjk with h | rfl
        · have := moves_rise h (show k < (moves q).length by omega); omega
        · omega
      · exfalso
        rw [if_pos (by omega)] at hlt
        rcases Nat.lt_or_eq_of_le (show k + 1 ≤ j by omega) with h | rfl
        · have := moves_rise h hj; omega
        · omega
theorem moves_none : moves ⟨#[]⟩ = [] := rfl
theorem bT_ord {s : ByteArray} (hs : isPd s = true) : ∀ j, Ord (bfs s j) (bT s j) j 0
  | 0 => ⟨fun k h1 h2 => by simp [bfs] at h2; omega, fun i k h1 h2 h3 => by simp [bfs] at h3; omega, fun p x hp hm hc => by omega⟩
  | j + 1 => by
    have ih := bT_ord hs j
    by_cases h : j < (bfs s j).length
    · have hpd := (bfs_pds hs j).2 _ (gs_mem h)
      have hz : (gs (bfs s j) j).size ≤ 999 := by have := (isPd_in hpd.1).2.1; omega
      have h2 := inT_ord hz (bT_inv s j) ih h rfl _ (Nat.le_refl _)
      rw [if_neg (Nat.lt_irrefl _)] at h2
      rw [bT_succ h, bfs_succ h]
      refine Ord.next h2 fun x hx => ?_
      obtain ⟨R, hR⟩ := exTo_pre (bfs s j) (gs (bfs s j) j) _ (Nat.le_refl _)
      have e : gs (exTo (bfs s j) (gs (bfs s j) j) (moves (gs (bfs s j) j)).length) j = gs (bfs s j) j := by
        rw [hR]
        exact pre_at h
      have hx' : x ∈ moves (gs (exTo (bfs s j) (gs (bfs s j) j) (moves (gs (bfs s j) j)).length) j) := hx
      rw [e] at hx'
      have := (moves_in hx').1
      omega
    · rw [bT_else h, bfs_else h]
      refine Ord.next ih fun x hx => ?_
      have e : gs (bfs s j) j = ⟨#[]⟩ := by
        unfold gs
        rw [List.getD_eq_getElem?_getD, List.getElem?_eq_none (by omega)]; rfl
      rw [e, moves_none] at hx
      simp at hx
theorem reachT_ord {s : ByteArray} (hs : isPd s = true) : Ord (reach s) (reachT s) 262145 0 := bT_ord hs 262145

/-- two lists as long as each other, the first smaller where they first differ -/
def LexLt (l m : List Nat) : Prop := ∃ p a b r r', l = p ++ a :: r ∧ m = p ++ b :: r' ∧ a < b
theorem LexLt.app {l m : List Nat} (h : LexLt l m) (x y : List Nat) : LexLt (l ++ x) (m ++ y) := by
  obtain ⟨p, a, b, r, r', rfl, rfl, hab⟩ := h
  exact ⟨p, a, b, r ++ x, r' ++ y, by simp, by simp, hab⟩
theorem LexLt.snoc (l : List Nat) {a b : Nat} (h : a < b) : LexLt (l ++ [a]) (l ++ [b]) := ⟨l, a, b, [], [], rfl, rfl, h⟩
theorem LexLt.pre {l m : List Nat} (h : LexLt l m) (q : List Nat) : LexLt (q ++ l) (q ++ m) := by
  obtain ⟨p, a, b, r, r', rfl, rfl, hab⟩ := h
  exact ⟨q ++ p, a, b, r, r', by simp, by simp, hab⟩
theorem LexLt.irrefl : ∀ {l : List Nat}, ¬ LexLt l l
  | l, ⟨p, a, b, r, r', h1, h2, hab⟩ => by
    rw [h1] at h2
    have := List.append_cancel_left h2
    injection this with h _
    omega
theorem LexLt.trans {l m n : List Nat} (h : LexLt l m) (h2 : LexLt m n) : LexLt l n := by
  obtain ⟨p, a, b, r, r', e1, e2, hab⟩ := h
  obtain ⟨p', a', b', u, u', e3, e4, hab'⟩ := h2
  rw [e2] at e3
  rcases List.append_eq_append_iff.1 e3 with ⟨c, hc1, hc2⟩ | ⟨c, hc1, hc2⟩
  · cases c with
    | nil =>
      simp at hc1 hc2
      obtain ⟨rfl, rfl⟩ := hc2
      subst hc1
      exact ⟨_, _, _, _, _, e1, e4, by omega⟩
    | cons d c =>
      injection hc2 with h1 h2
      subst h1
      subst hc1
      exact ⟨p, a, _, r, c ++ b' :: u', e1, by rw [e4]; simp, hab⟩
  · cases c with
    | nil =>
      simp at hc1 hc2
      obtain ⟨rfl, rfl⟩ := hc2
      subst hc1
      exact ⟨_, _, _, _, _, e1, e4, by omega⟩
    | cons d c =>
      injection hc2 with h1 h2
      subst h1
      subst hc1
      exact ⟨p', a', b', c ++ a :: r, u', by rw [e1]; simp, e4, hab'⟩
end Go.Proofs.YteoggpollgkfiaaDoor
