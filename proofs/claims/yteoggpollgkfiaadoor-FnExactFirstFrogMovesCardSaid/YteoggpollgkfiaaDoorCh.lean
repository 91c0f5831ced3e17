/- The list of the search is a chain: ponds behind a pond come later. Plain. -/
import Derived.Test.YteoggpollgkfiaaDoorLft
namespace Go.Proofs.YteoggpollgkfiaaDoor
set_option linter.unusedVariables false
open Go.RowKit

theorem gs_get {L : List ByteArray} {k : Nat} (h : k < L.length) : gs L k = L[k] := by
  unfold gs; rw [List.getD_eq_getElem?_getD, List.getElem?_eq_getElem h]; rfl
theorem mem_drop {L : List ByteArray} {k j : Nat} (hk : k < L.length) (h : j ≤ k) : gs L k ∈ L.drop j := by
  rw [gs_get hk]
  have e : (L.drop j)[k - j]? = some L[k] := by
    rw [List.getElem?_drop, show j + (k - j) = k from by omega, List.getElem?_eq_getElem hk]
  exact List.mem_of_getElem? e
theorem chain_drop {s : ByteArray} {L : List ByteArray} {t : T3} {a0 b0 : Nat} (h : InvT s L t) (ho : Ord L t a0 b0) (hs : isPd s = true) (hnd : L.Nodup) (hpd : ∀ p ∈ L, isPd p = true) (hcl : ∀ p ∈ L, ∀ i ∈ moves p, goes p i ∈ L) : ∀ (n k : Nat), L.length ≤ k + n → Chain (L.drop k)
  | 0, k, hk => by rw [List.drop_eq_nil_of_le (by omega)]; trivial
  | n + 1, k, hk => by
    by_cases hlt : k < L.length
    · have hm : gs L k ∈ L := gs_mem hlt
      have e : L.drop k = gs L k :: L.drop (k + 1) := by rw [gs_get hlt]; exact List.drop_eq_getElem_cons hlt
      have nd : (L.drop k).Nodup := (List.drop_sublist k L).nodup hnd
      rw [e] at nd ⊢
      refine ⟨hpd _ hm, (List.nodup_cons.1 nd).1, fun i hi => ?_, chain_drop h ho hs hnd hpd hcl n (k + 1) (by omega)⟩
      have hg := hcl _ hm i hi
      have hx := idxL_mem.2 hg
      have hgx := idxL_get hg
      have hp := pot_goes (hpd _ hm) hi
      have hl := later h ho hs hlt hx (by rw [hgx]; omega)
      rw [← hgx]
      exact mem_drop hx hl
    · rw [List.drop_eq_nil_of_le (by omega)]; trivial
theorem chain_of {s : ByteArray} {L : List ByteArray} (hs : isPd s = true) (e : reach s = L) : Chain L := by
  have hp : Pds s.size L := by rw [← e]; exact bfs_pds hs 262145
  have hv : ∃ t, InvT s L t ∧ Ord L t 262145 0 := ⟨reachT s, by rw [← e]; exact reachT_inv s, by rw [← e]; exact reachT_ord hs⟩
  have hcl : ∀ p ∈ L, ∀ i ∈ moves p, goes p i ∈ L := by rw [← e]; exact fun p h i hi => reach_closed hs h hi
  clear e
  obtain ⟨t, hv, ho⟩ := hv
  have h := chain_drop hv ho hs hp.1 (fun p h => (hp.2 p h).1) hcl L.length 0 (by omega)
  rw [List.drop_zero] at h
  exact h
/-- **impl's first list is spec's way** -/
theorem first_is {s G : ByteArray} {L : List ByteArray} {T : T3} (hs : isPd s = true) (e : reach s = L) (eT : reachT s = T) (hG : G ∈ L) {m : Nat} (hm : (m : Int) = pot G - pot s) :
    alongF (lAll (isG G) lessI L).1 (lAll (isG G) lessI L).2 m s = wl T (idxL L G) := by
  have hC := chain_of hs e
  have hri : ∀ q, q ∈ L ↔ ∃ l, runM s l = some q := fun q => by rw [← e]; exact reach_iff hs
  have hv : InvT s L T := by rw [← e, ← eT]; exact reachT_inv s
  have ho : Ord L T 262145 0 := by rw [← e, ← eT]; exact reachT_ord hs
  have hp : Pds s.size L := by rw [← e]; exact bfs_pds hs 262145
  have hlen : L.length ≤ 262144 := by rw [← e]; exact reach_len hs
  clear e eT
  have A := along_least m s hs (fun l p hl => lAll_tells hC p ((hri p).2 ⟨l, hl⟩)) ((hri G).1 hG) hm
  have hi := idxL_mem.2 hG
  have hgi := idxL_get hG
  have W := hv.wl hi
  rw [hgi] at W
  have Y := way_least hv ho (by omega) hs hp.1 (fun l p hl => (hri p).2 ⟨l, hl⟩) _ _ rfl _ hi (by rw [hgi]; exact A.1)
  exact first_same Y (A.2 _ W.2)
end Go.Proofs.YteoggpollgkfiaaDoor
