/- Helpers for texts that are read back (out of Ipw). -/
import Derived.Test.YtcpipacombnhdaaDoorKpp
import Derived.Test.YtcpipacombnhdaaDoorRdd
import Derived.Test.YtcpipacombnhdaaDoorKap
import Derived.Deep.RegionHeld3
import Derived.Deep.RegionWith
import Derived.Deep.RegionLaw
namespace Go.Proofs.YtcpipacombnhdaaDoor
set_option linter.unusedVariables false
open Go.RowKit

theorem neq_walk {a b : ByteArray} (h : ¬ a = b) : (a.toList == b.toList) = false := by
  rw [ByteArray.toList_eq, ByteArray.toList_eq]
  apply Bool.eq_false_iff.2
  intro e
  exact h (ByteArray.ext (Array.toList_inj.1 (by simpa using e)))
theorem spc_sz {d : UInt8} {s : ByteArray} {W : List ByteArray} (h : W.map (·.data.toList) = spc d s.data.toList) {x : ByteArray} (hx : x ∈ W) : x.size ≤ s.size := by
  have h1 : x.data.toList ∈ spc d s.data.toList := by rw [← h]; exact List.mem_map_of_mem hx
  have h2 := spc_mem d _ _ h1
  have e1 : x.data.toList.length = x.size := by rw [Array.length_toList]; rfl
  have e2 : s.data.toList.length = s.size := by rw [Array.length_toList]; rfl
  omega
theorem spc_pos {d : UInt8} {l : List UInt8} {W : List ByteArray} (h : W.map (·.data.toList) = spc d l) : 0 < W.length := by
  have h1 := congrArg List.length h
  rw [List.length_map] at h1
  have h2 : (spc d l).length ≠ 0 := fun e => spc_ne _ _ (List.length_eq_zero_iff.1 e)
  omega
theorem spc_cnt {d : UInt8} {s : ByteArray} {W : List ByteArray} (h : W.map (·.data.toList) = spc d s.data.toList) : W.length ≤ s.size + 1 := by
  have h1 := congrArg List.length h
  rw [List.length_map] at h1
  have h2 := spc_len d s.data.toList
  have e2 : s.data.toList.length = s.size := by rw [Array.length_toList]; rfl
  omega
theorem strB {w : World} {B g n cap : Nat} {L : List ByteArray} (h : Strg w B (.slice (some ⟨g, 0, none⟩) n cap) L) (hp : 0 < L.length) : B ≤ g ∧ g < w.heap.size ∧ ∃ C, Blk w g C ∧ ∀ j, j < L.length → C[j]? = some (.string (gs L j)) := by
  have hf := h.form hp
  obtain ⟨g', n', cap', e, hn, _, _, hB, hg, hc⟩ := hf
  injection e with e1 e2 e3
  injection e1 with e1
  injection e1 with e1
  subst e1 e2
  rcases h.2 with ⟨_, h0⟩ | ⟨g', cap', cur, e, hb, hg', _, _, hcs, ht⟩
  · omega
  · injection e with e1 e2 e3
    injection e1 with e1
    injection e1 with e1
    rw [← e1] at hg'
    have K := Blk.cell (w := w) ⟨_, hg'⟩
    exact ⟨hB, hg, cur, ⟨_, hg'⟩, fun j hj => (K j).symm.trans (hc j (by omega))⟩
theorem gs_mem {V : List ByteArray} {k : Nat} (h : k < V.length) : gs V k ∈ V := by
  have : gs V k = V[k] := by simp [gs, h]
  rw [this]; exact List.getElem_mem _
theorem gs_map {V : List ByteArray} {ws : List (List UInt8)} (h : V.map (·.data.toList) = ws) {k : Nat} (hk : k < V.length) : ∃ h2 : k < ws.length, ws[k] = (gs V k).data.toList := by
  subst h
  refine ⟨by simpa using hk, ?_⟩
  have : gs V k = V[k] := by simp [gs, hk]
  rw [this]; simp
theorem lt_ne {v : Value} {B B' s : Nat} (h : ∀ k, v.ownBlock = some k → B ≤ k ∧ k < B') (hs : s < B) : some s ≠ v.ownBlock := fun e => by have := (h s e.symm).1; omega
end Go.Proofs.YtcpipacombnhdaaDoor
