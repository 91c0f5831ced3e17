/- Bytes in memory: a string as bytes and back; slices.Reverse at bytes; a list turned byte by byte. -/
import Derived.Test.YtnmeomcoeknjoacRv
import Derived.Laws.IdiomStrings
import Derived.RegionTactic
import Derived.ChangeAlike
import Derived.BigRegion
import Derived.Outline
import Derived.WalkSmall
namespace Go.Proofs.Ytnmeomcoeknjoac
set_option linter.unusedVariables false
open Go.RowKit

/-- block b's first cells are these bytes, and may be written -/
def Byts (w : World) (b : Nat) (l : List UInt8) : Prop := ∀ j, j < l.length → w.cell? ⟨b, j, none⟩ = some (.int .u8 ((l.getD j 0).toNat : Int)) ∧ w.frozen? ⟨b, j, none⟩ = false
theorem Byts.set {w : World} {b : Nat} {l : List UInt8} (h : Byts w b l) {j : Nat} (hj : j < l.length) (c : UInt8) : Byts (w.setCell ⟨b, j, none⟩ (.int .u8 (c.toNat : Int))) b (l.set j c) := by
  intro k hk
  rw [List.length_set] at hk
  rw [World.frozen?_setCell]
  refine ⟨?_, (h k hk).2⟩
  by_cases e : j = k
  · subst e
    rw [World.cell?_setCell_same _ _ _ (h j hj).1]
    simp [List.getD_eq_getElem?_getD, hj]
  · rw [World.cell?_setCell_other, (h k hk).1]
    · simp [List.getD_eq_getElem?_getD, e]
    · intro h; injection h; omega
theorem Byts.set' {w : World} {b : Nat} {l : List UInt8} (h : Byts w b l) {j : Nat} (hj : j < l.length) (c : UInt8) (z : Int) (hz : z = (c.toNat : Int)) : Byts (w.setCell ⟨b, j, none⟩ (.int .u8 z)) b (l.set j c) := by
  subst hz; exact h.set hj c
theorem Byts.drew {w : World} {b : Nat} {l : List UInt8} (h : Byts w b l) : Byts w.drew b l := h
/-- the bytes of a string, as convert lays them -/
theorem Byts.new {s : ByteArray} {cap : Nat} {C : Array Value} (w : World) (hC : C = bytesRow s cap) (hCs : s.size ≤ C.size) : Byts (w.alloc (.cells C 5 (C.size, C.size + 1))).drew w.heap.size s.data.toList := by
  intro j hj
  have hj' : j < s.data.size := by simpa using hj
  refine ⟨?_, ?_⟩
  · show (w.alloc (.cells C 5 (C.size, C.size + 1))).cell? _ = _
    rw [World.cell?_alloc_mark, hC, bytesRow_at s cap j hj', List.getD_eq_getElem?_getD, List.getElem?_eq_getElem hj]; rfl
  · show (w.alloc (.cells C 5 (C.size, C.size + 1))).frozen? _ = _
    have hj2 : j < s.size := hj'
    rw [World.frozen?_alloc_mark]; simp; omega
theorem Byts.back {w : World} {b : Nat} {l : List UInt8} (h : Byts w b l) (x : Nat) :
    Sem.run Try.prog (Go.convert 80 9 (.slice (some ⟨b, 0, none⟩) l.length x)) w = .ok (.string ⟨l.toArray⟩) w :=
  run_convert_bytes_back (P := Try.prog) w 80 9 5 ⟨b, 0, none⟩ x l Try.underlying80 Try.underlying5 Try.underlying9
    (by intro j hj
        have := (h j hj).1
        have ea : (⟨b, 0, none⟩ : Addr).add j = ⟨b, j, none⟩ := by simp [Addr.add]; omega
        rw [ea, this, List.getD_eq_getElem?_getD, List.getElem?_eq_getElem hj]; rfl)

/-- the first k bytes turned by f -/
def mapTo (f : UInt8 → UInt8) (l : List UInt8) (k : Nat) : List UInt8 := (l.take k).map f ++ l.drop k
theorem mapTo_0 (f : UInt8 → UInt8) (l : List UInt8) : mapTo f l 0 = l := by simp [mapTo]
theorem mapTo_len (f : UInt8 → UInt8) (l : List UInt8) (k : Nat) : (mapTo f l k).length = l.length := by simp [mapTo]; omega
theorem mapTo_at {f : UInt8 → UInt8} {l : List UInt8} {k : Nat} (hk : k < l.length) : (mapTo f l k).getD k 0 = l[k] := by
  have : ((l.take k).map f).length = k := by simp; omega
  rw [mapTo, List.getD_eq_getElem?_getD, List.getElem?_append_right (by omega), this, Nat.sub_self, List.getElem?_drop, Nat.add_zero, List.getElem?_eq_getElem hk]; rfl
theorem mapTo_succ {f : UInt8 → UInt8} {l : List UInt8} {k : Nat} (hk : k < l.length) : (mapTo f l k).set k (f l[k]) = mapTo f l (k + 1) := by
  have e : ((l.take k).map f).length = k := by simp; omega
  rw [mapTo, mapTo, List.set_append_right _ _ (by omega), e, Nat.sub_self, List.drop_eq_getElem_cons hk, List.set_cons_zero, List.take_succ_eq_append_getElem hk, List.map_append, List.append_assoc]
  rfl
theorem mapTo_same {f : UInt8 → UInt8} {l : List UInt8} {k : Nat} (hk : k < l.length) (h : f l[k] = l[k]) : mapTo f l k = mapTo f l (k + 1) := by
  rw [← mapTo_succ hk, h, ← mapTo_at (f := f) hk, List.getD_eq_getElem?_getD, List.getElem?_eq_getElem (by rw [mapTo_len]; exact hk)]
  exact (List.set_getElem_self _).symm
theorem mapTo_end (f : UInt8 → UInt8) {l : List UInt8} {n : Nat} (h : l.length ≤ n) : mapTo f l n = l.map f := by
  unfold mapTo; rw [List.take_of_length_le h, List.drop_eq_nil_of_le h, List.append_nil]
/-- a text turned byte by byte -/
def mapB (f : UInt8 → UInt8) (s : ByteArray) : ByteArray := ⟨(s.data.toList.map f).toArray⟩
theorem mapB_size (f : UInt8 → UInt8) (s : ByteArray) : (mapB f s).size = s.size := by
  show ((s.data.toList.map f).toArray).size = s.data.size
  rw [List.size_toArray, List.length_map, Array.length_toList]
/-- built from the left -/
theorem mapB_step {f : UInt8 → UInt8} {s o : ByteArray} {k : Nat} {c : UInt8} (hk : k < s.size) (h : o.data.toList = (s.data.toList.take k).map f) (hc : f s[k] = c) : (o ++ ⟨#[c]⟩).data.toList = (s.data.toList.take (k + 1)).map f := by
  have e : k < s.data.toList.length := by simpa using hk
  rw [List.take_succ_eq_append_getElem e, List.map_append, ← h, ByteArray.data_append, Array.toList_append, ← hc]
  rfl
theorem mapB_len {f : UInt8 → UInt8} {s o : ByteArray} {k : Nat} (hk : k ≤ s.size) (h : o.data.toList = (s.data.toList.take k).map f) : o.size = k := by
  have := congrArg List.length h
  have e : o.data.toList.length = o.size := by simp
  have e2 : s.data.toList.length = s.size := by simp
  rw [e, List.length_map, List.length_take, e2] at this
  omega
theorem mapB_end {f : UInt8 → UInt8} {s o : ByteArray} (h : o.data.toList = (s.data.toList.take s.size).map f) : o = mapB f s := by
  apply ByteArray.ext
  apply Array.toList_inj.1
  rw [List.take_of_length_le (by simp)] at h
  simpa [mapB] using h


end Go.Proofs.Ytnmeomcoeknjoac
