/- The way that spec.fgReach finds is the first of all lists of moves. Plain. -/
import Derived.Test.YteoggpollgkfiaaDoorOrd
namespace Go.Proofs.YteoggpollgkfiaaDoor
set_option linter.unusedVariables false
open Go.RowKit

def wl (t : T3) (k : Nat) : List Nat := (wayA t.1 t.2.1 k).map Int.toNat
theorem toNat_asI (l : List Nat) : (asI l).map Int.toNat = l := by
  unfold asI
  rw [List.map_map]
  exact List.map_id'' (fun _ => rfl) l
theorem InvT.wl {s : ByteArray} {L : List ByteArray} {t : T3} (h : InvT s L t) {k : Nat} (hk : k < L.length) : wayA t.1 t.2.1 k = asI (wl t k) ∧ runM s (Go.Proofs.YteoggpollgkfiaaDoor.wl t k) = some (gs L k) := by
  obtain ⟨l, h1, h2⟩ := h.way (k + 1) k (by omega) hk
  unfold Go.Proofs.YteoggpollgkfiaaDoor.wl
  rw [h1, toNat_asI]
  exact ⟨rfl, h2⟩
theorem InvT.wl_back {s : ByteArray} {L : List ByteArray} {t : T3} (h : InvT s L t) {k a i : Nat} (hk : k < L.length) (e1 : gt t.1 k = (a : Int)) (e2 : gt t.2.1 k = (i : Int)) : Go.Proofs.YteoggpollgkfiaaDoor.wl t k = Go.Proofs.YteoggpollgkfiaaDoor.wl t a ++ [i] := by
  have l1 : t.1.length = L.length := h.1.1
  unfold Go.Proofs.YteoggpollgkfiaaDoor.wl
  rw [wayA_back h.less (by omega) e1, List.map_append, e2]
  rfl
theorem InvT.wl_len {s : ByteArray} {L : List ByteArray} {t : T3} (h : InvT s L t) (hs : isPd s = true) {k : Nat} (hk : k < L.length) : ((Go.Proofs.YteoggpollgkfiaaDoor.wl t k).length : Int) = pot (gs L k) - pot s := by
  have := (runM_pot hs (h.wl hk).2).2.2
  omega
/-- of two ponds equally far the one that is found before has the smaller way -/
theorem way_less {s : ByteArray} {L : List ByteArray} {t : T3} {a0 b0 : Nat} (h : InvT s L t) (ho : Ord L t a0 b0) (hs : isPd s = true) : ∀ (n i k : Nat), k < n → i < k → k < L.length → pot (gs L i) = pot (gs L k) → LexLt (wl t i) (wl t k)
  | 0, _, _, hn, _, _, _ => absurd hn (Nat.not_lt_zero _)
  | n + 1, i, k, hn, hik, hk, hp => by
    obtain ⟨ak, xk, e1, e2, e3, e4, e5⟩ := h.2.2.2.2 k (by omega) hk
    have bk := h.wl_back hk e1 e2
    have i1 : 1 ≤ i := by
      rcases Nat.eq_zero_or_pos i with rfl | h0
      · exfalso
        have h1 := h.wl_len hs hk
        rw [bk, List.length_append] at h1
        rw [h.2.2.1] at hp
        simp at h1
        omega
      · exact h0
    obtain ⟨ai, xi, f1, f2, f3, f4, f5⟩ := h.2.2.2.2 i i1 (by omega)
    have bi := h.wl_back (by omega) f1 f2
    have li := h.wl_len hs (k := i) (by omega)
    have lk := h.wl_len hs hk
    have lai := h.wl_len hs (k := ai) (by omega)
    have lak := h.wl_len hs (k := ak) (by omega)
    rw [bi, List.length_append] at li
    rw [bk, List.length_append] at lk
    simp at li lk
    rw [bi, bk]
    rcases ho.2.1 i k i1 hik hk with hlt | ⟨heq, hlt⟩
    · refine LexLt.app (way_less h ho hs n ai ak (by omega) (by omega) (by omega) (by omega)) _ _
    · obtain rfl : ai = ak := by omega
      exact LexLt.snoc _ (by omega)
theorem runM_last : ∀ {l : List Nat} {q r : ByteArray} {x : Nat}, runM q (l ++ [x]) = some r → ∃ p, runM q l = some p ∧ x ∈ moves p ∧ goes p x = r
  | [], q, r, x, h => by
    obtain ⟨h1, h2⟩ := runM_cons (l := []) h
    exact ⟨q, rfl, h1, Option.some.inj h2⟩
  | i :: l, q, r, x, h => by
    obtain ⟨h1, h2⟩ := runM_cons (l := l ++ [x]) h
    obtain ⟨p, h3, h4, h5⟩ := runM_last h2
    refine ⟨p, ?_, h4, h5⟩
    unfold runM
    rw [if_pos h1]; exact h3
/-- **the way to a place is the first of all lists of moves to it** -/
theorem way_least {s : ByteArray} {L : List ByteArray} {t : T3} {a0 : Nat} (h : InvT s L t) (ho : Ord L t a0 0) (ha : L.length ≤ a0) (hs : isPd s = true) (hnd : L.Nodup) (hin : ∀ l p, runM s l = some p → p ∈ L) : ∀ (n : Nat) (l : List Nat), l.length = n → ∀ k, k < L.length → runM s l = some (gs L k) → l = wl t k ∨ LexLt (wl t k) l
  | 0, l, hl, k, hk, hr => by
    left
    have e : l = [] := List.length_eq_zero_iff.1 hl
    subst e
    have h1 := h.wl_len hs hk
    have h2 := (runM_pot hs hr).2.2
    have h3 : (wl t k).length = 0 := by simp at h2; omega
    exact (List.length_eq_zero_iff.1 h3).symm
  | n + 1, l, hl, k, hk, hr => by
    rcases List.eq_nil_or_concat l with rfl | ⟨l', x, rfl⟩
    · simp at hl
    rw [List.concat_eq_append] at hl hr ⊢
    obtain ⟨p, hp1, hp2, hp3⟩ := runM_last hr
    have hpL := hin _ _ hp1
    have hip := idxL_mem.2 hpL
    have hgp := idxL_get hpL
    generalize idxL L p = ip at *
    have ih := way_least h ho ha hs hnd hin n l' (by simpa using hl) ip hip (by rw [hgp]; exact hp1)
    have hpt := (runM_pot hs hr).2.2
    have hpp := (runM_pot hs hp1).2.2
    obtain ⟨k', hk', hgk, hcase⟩ := ho.2.2 ip x hip (by rw [hgp]; exact hp2) (.inl (by omega))
    rw [hgp, hp3] at hgk
    obtain rfl : k' = k := by rw [← idxL_gs hnd hk' hgk, idxL_gs hnd hk rfl]
    have up : wl t ip ++ [x] = l' ++ [x] ∨ LexLt (wl t ip ++ [x]) (l' ++ [x]) := by
      rcases ih with rfl | ih
      · exact .inl rfl
      · exact .inr (ih.app _ _)
    have fin : ∀ {w : List Nat}, (w = wl t ip ++ [x] ∨ LexLt w (wl t ip ++ [x])) → (l' ++ [x] = w ∨ LexLt w (l' ++ [x])) := by
      intro w hw
      rcases hw with rfl | hw
      · rcases up with h | h
        · exact .inl h.symm
        · exact .inr h
      · rcases up with h | h
        · exact .inr (h ▸ hw)
        · exact .inr (hw.trans h)
    apply fin
    rw [List.length_append] at hpt
    simp at hpt
    by_cases k0 : k' = 0
    · exfalso
      subst k0
      rw [h.2.2.1] at hpt
      omega
    · obtain ⟨ak, xk, e1, e2, e3, e4, e5⟩ := h.2.2.2.2 k' (by omega) hk
      have bk := h.wl_back hk e1 e2
      have lk := h.wl_len hs hk
      have lak := h.wl_len hs (k := ak) (by omega)
      rw [bk, List.length_append] at lk
      simp at lk
      rw [bk]
      rcases hcase with hc | hc | ⟨hc, hc2⟩
      · exact absurd hc k0
      · right
        refine LexLt.app (way_less h ho hs (ip + 1) ak ip (by omega) (by omega) hip ?_) _ _
        rw [hgp]; omega
      · obtain rfl : ak = ip := by omega
        rcases Nat.lt_or_eq_of_le (show xk ≤ x by omega) with hx | rfl
        · exact .inr (LexLt.snoc _ hx)
        · exact .inl rfl
end Go.Proofs.YteoggpollgkfiaaDoor
