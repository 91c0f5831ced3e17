/- Lists of moves between ponds, and what is reached. Plain. -/
import Derived.Test.YteoggpollgkfiaaDoorWm
import Derived.Test.YteoggpollgkfiaaDoorPr
import Derived.Test.YteoggpollgkfiaaDoorPot
namespace Go.Proofs.YteoggpollgkfiaaDoor
set_option linter.unusedVariables false
open Go.RowKit

/-- the pond behind a list of moves -/
def runM : ByteArray → List Nat → Option ByteArray
  | q, [] => some q
  | q, i :: l => if i ∈ moves q then runM (goes q i) l else none
theorem runM_cons {q r : ByteArray} {i : Nat} {l : List Nat} (h : runM q (i :: l) = some r) : i ∈ moves q ∧ runM (goes q i) l = some r := by
  unfold runM at h
  split at h
  · exact ⟨by assumption, h⟩
  · cases h
theorem runM_pot : ∀ {l : List Nat} {q r : ByteArray}, isPd q = true → runM q l = some r → isPd r = true ∧ r.size = q.size ∧ pot r = pot q + l.length
  | [], q, r, hp, h => by
    have : q = r := Option.some.inj h
    subst this
    exact ⟨hp, rfl, by simp⟩
  | i :: l, q, r, hp, h => by
    obtain ⟨hi, h2⟩ := runM_cons h
    have hg := isPd_goes hp hi
    have ih := runM_pot hg.1 h2
    have hpg := pot_goes hp hi
    refine ⟨ih.1, ih.2.1.trans hg.2, ?_⟩
    rw [ih.2.2, hpg, List.length_cons]; omega
theorem runM_snoc : ∀ {l : List Nat} {q r : ByteArray} {i : Nat}, runM q l = some r → i ∈ moves r → runM q (l ++ [i]) = some (goes r i)
  | [], q, r, i, h, hi => by
    have : q = r := Option.some.inj h
    subst this
    show runM q [i] = _
    unfold runM
    rw [if_pos hi]; rfl
  | j :: l, q, r, i, h, hi => by
    obtain ⟨hj, h2⟩ := runM_cons h
    show runM q (j :: (l ++ [i])) = _
    unfold runM
    rw [if_pos hj]
    exact runM_snoc h2 hi
theorem addN_mem {L : List ByteArray} {q x : ByteArray} (h : x ∈ addN L q) : x ∈ L ∨ x = q := by
  by_cases e : q ∈ L
  · rw [addN_old e] at h; exact .inl h
  · rw [addN_new e] at h
    rcases List.mem_append.1 h with h | h
    · exact .inl h
    · exact .inr (by simpa using h)
theorem addN_has (L : List ByteArray) (q : ByteArray) : q ∈ addN L q := by
  by_cases e : q ∈ L
  · rw [addN_old e]; exact e
  · rw [addN_new e]; simp
theorem moves_at {q : ByteArray} {k : Nat} (h : k < (moves q).length) : (moves q).getD k 0 ∈ moves q := by
  rw [List.getD_eq_getElem?_getD, List.getElem?_eq_getElem h]; exact List.getElem_mem _
theorem exTo_mem {L : List ByteArray} {q x : ByteArray} : ∀ k, k ≤ (moves q).length → x ∈ exTo L q k → x ∈ L ∨ ∃ i ∈ moves q, x = goes q i
  | 0, _, h => .inl (by rwa [exTo_0] at h)
  | k + 1, hk, h => by
    rw [exTo_succ (by omega)] at h
    rcases addN_mem h with h | h
    · exact exTo_mem k (by omega) h
    · exact .inr ⟨_, moves_at (by omega), h⟩
theorem exTo_has {L : List ByteArray} {q : ByteArray} {k : Nat} (hk : k < (moves q).length) : ∀ m, k + 1 + m ≤ (moves q).length → goes q ((moves q).getD k 0) ∈ exTo L q (k + 1 + m)
  | 0, _ => by rw [Nat.add_zero, exTo_succ hk]; exact addN_has _ _
  | m + 1, h => by
    show _ ∈ exTo L q ((k + 1 + m) + 1)
    rw [exTo_succ (by omega)]
    obtain ⟨R, hR⟩ := addN_pre (exTo L q (k + 1 + m)) (goes q ((moves q).getD (k + 1 + m) 0))
    rw [hR]
    exact List.mem_append_left _ (exTo_has hk m (by omega))
theorem exAll_has {L : List ByteArray} {q : ByteArray} {i : Nat} (hi : i ∈ moves q) : goes q i ∈ exAll L q := by
  obtain ⟨k, hk, rfl⟩ := List.getElem_of_mem hi
  have e : (moves q)[k] = (moves q).getD k 0 := by
    rw [List.getD_eq_getElem?_getD, List.getElem?_eq_getElem hk]; rfl
  rw [e]
  have := exTo_has (L := L) hk ((moves q).length - (k + 1)) (by omega)
  rw [show k + 1 + ((moves q).length - (k + 1)) = (moves q).length from by omega] at this
  exact this
theorem bfs_path (s : ByteArray) : ∀ j, ∀ q ∈ bfs s j, ∃ l, runM s l = some q
  | 0, q, h => by
    have : q = s := by simpa [bfs] using h
    subst this
    exact ⟨[], rfl⟩
  | j + 1, q, h => by
    by_cases hj : j < (bfs s j).length
    · rw [bfs_succ hj] at h
      rcases exTo_mem _ (Nat.le_refl _) h with h | ⟨i, hi, rfl⟩
      · exact bfs_path s j q h
      · have hm : (bfs s j).getD j ⟨#[]⟩ ∈ bfs s j := gs_mem hj
        obtain ⟨l, hl⟩ := bfs_path s j _ hm
        exact ⟨_, runM_snoc hl hi⟩
    · rw [bfs_else hj] at h
      exact bfs_path s j q h
theorem reach_closed {s q : ByteArray} (hs : isPd s = true) (h : q ∈ reach s) {i : Nat} (hi : i ∈ moves q) : goes q i ∈ reach s := by
  have hl := reach_len hs
  have hidx := idxL_mem.2 h
  have hq := idxL_get h
  have hj : idxL (reach s) q ≤ 262145 := by omega
  have hb := reach_in hs hj hidx
  have hg := reach_gs hs hj hidx
  rw [hq] at hg
  obtain ⟨R, hR⟩ := reach_pre s (j := idxL (reach s) q + 1) (by omega)
  rw [hR]
  refine List.mem_append_left _ ?_
  rw [bfs_succ hb]
  have e : (bfs s (idxL (reach s) q)).getD (idxL (reach s) q) ⟨#[]⟩ = q := hg.symm
  rw [e]
  exact exAll_has hi
theorem reach_self (s : ByteArray) : s ∈ reach s := by
  obtain ⟨R, hR⟩ := bfs_head s 262145
  unfold reach; rw [hR]; simp
theorem run_in {s : ByteArray} (hs : isPd s = true) : ∀ {l : List Nat} {q r : ByteArray}, q ∈ reach s → runM q l = some r → r ∈ reach s
  | [], q, r, hq, h => by
    have : q = r := Option.some.inj h
    subst this; exact hq
  | i :: l, q, r, hq, h => by
    obtain ⟨hi, h2⟩ := runM_cons h
    exact run_in hs (reach_closed hs hq hi) h2
/-- **a pond is reached if and only if some list of moves leads to it** -/
theorem reach_iff {s q : ByteArray} (hs : isPd s = true) : q ∈ reach s ↔ ∃ l, runM s l = some q :=
  ⟨fun h => bfs_path s 262145 q h, fun ⟨_, h⟩ => run_in hs (reach_self s) h⟩
/-- **all lists of moves between two ponds are equally long** -/
theorem run_len {s q : ByteArray} (hs : isPd s = true) {l l' : List Nat} (h : runM s l = some q) (h' : runM s l' = some q) : l.length = l'.length := by
  have a := (runM_pot hs h).2.2
  have b := (runM_pot hs h').2.2
  omega
end Go.Proofs.YteoggpollgkfiaaDoor
