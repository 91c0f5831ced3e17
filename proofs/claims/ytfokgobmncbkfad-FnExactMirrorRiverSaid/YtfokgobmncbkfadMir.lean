/- Contracts of spec.MirrorRiver and impl.MirrorRiver. -/
import Derived.Test.YtfokgobmncbkfadRv

import Derived.Laws.IdiomStrings
import Derived.OwnWalk
import Derived.Maps.AppendAt
namespace Go.Proofs.Ytfokgobmncbkfad
set_option linter.unusedVariables false
open Go.RowKit

def mir (s : ByteArray) : ByteArray := ⟨s.data.toList.reverse.toArray⟩
def mirV (s : ByteArray) : Value := if isRv s then .tuple #[.string (mir s), .bool true] else .tuple #[.string ⟨#[]⟩, .bool false]
theorem mirV_no {s : ByteArray} (h : isRv s = false) : mirV s = .tuple #[.string ⟨#[]⟩, .bool false] := by simp [mirV, h]
theorem mirV_yes {s : ByteArray} (h : isRv s = true) : mirV s = .tuple #[.string (mir s), .bool true] := by simp [mirV, h]
theorem isRv_size {s : ByteArray} (h : isRv s = true) : 1 ≤ s.size ∧ s.size ≤ 40 := by
  simp [isRv] at h; exact ⟨h.1.1, h.1.2⟩

theorem mir_size {s o : ByteArray} {k : Nat} (hk : k ≤ s.size) (h : o.data.toList = (s.data.toList.drop k).reverse) : o.size = s.size - k := by
  have := congrArg List.length h
  simpa using this
theorem mir_step {s o : ByteArray} {k : Nat} (h0 : 0 < k) (hk : k ≤ s.size) (h : o.data.toList = (s.data.toList.drop k).reverse) : (o ++ s.extract (k - 1) k).data.toList = (s.data.toList.drop (k - 1)).reverse := by
  have e : k - 1 < s.data.toList.length := by simp; omega
  rw [List.drop_eq_getElem_cons e, show k - 1 + 1 = k from by omega]
  have h1 : (s.extract (k - 1) k).data.toList = [s.data.toList[k - 1]] := by
    rw [ByteArray.data_extract, Array.toList_extract, List.extract_eq_take_drop, show k - (k - 1) = 1 from by omega, List.drop_eq_getElem_cons e]
    rfl
  rw [List.reverse_cons, ← h, ← h1, ByteArray.data_append, Array.toList_append]
theorem mir_end {s o : ByteArray} (h : o.data.toList = (s.data.toList.drop 0).reverse) : o = mir s := by
  apply ByteArray.ext
  apply Array.toList_inj.1
  simpa [mir] using h

theorem specMirror (s : ByteArray) (w : World) (hs : s.size ≤ 1048576) :
    Calls Try.prog 5 #[.string s] w fun e w' => e = .returned (mirV s) ∧ w = w' := by
  cases h1 : isRv s
  · have J := Lib.hid (mirV_no h1)
    have G := Lib.hid h1
    clear h1
    go_enter Try.func5, Try.ntmps5
    go_wp2_with (go_at_call 9; refine (specRvGood _ _ (by unfold maxLen; omega)).mono ?_; rintro e w' ⟨rfl, rfl⟩; rw [G.out])
    go_ret2
    exact ⟨ret_v J.out.symm, rfl⟩
  · have J := Lib.hid (mirV_yes h1)
    obtain ⟨z1, z2⟩ := isRv_size h1
    have G := Lib.hid h1
    clear h1
    go_enter Try.func5, Try.ntmps5
    go_wp2_with (go_at_call 9; refine (specRvGood _ _ (by unfold maxLen; omega)).mono ?_; rintro e w' ⟨rfl, rfl⟩; rw [G.out])
    go_loop [4, 5] (fun out i => ∃ (k : Nat) (o : ByteArray), k ≤ s.size ∧ i = .int .i64 (k - 1) ∧ out = .string o ∧ o.data.toList = (s.data.toList.drop k).reverse) (fun _ i => (intOf i + 1).toNat)
    case atStart => exact ⟨s.size, ⟨#[]⟩, Nat.le_refl _, rfl, rfl, by simp⟩
    case round =>
      obtain ⟨k, o, hk, rfl, rfl, ho0⟩ := hrel
      have hsz := mir_size hk ho0
      have ho := Lib.hid ho0
      clear ho0
      by_cases hlt : 0 < k
      · have hk1 : ¬ (9223372036854775807 < o.size + (k - (k - 1))) := by omega
        go_wp2
        go_round
        case rel => exact ⟨k - 1, o ++ s.extract (k - 1) k, by omega, by go_num, rfl, mir_step hlt hk ho.out⟩
        case measure => simp [intOf]; omega
      · obtain rfl : k = 0 := by omega
        go_wp2
        go_ret2
        exact ⟨ret_v (by rw [J.out]; simp [mir_end ho.out]), rfl⟩
theorem Try.infoByte : (Try.prog.info? 5).map (fun i => (i.zero, i.size, i.bytes)) = some (some (.int .u8 0), 1, 1) := by kernel_rfl
def u8s (l : List UInt8) : List Value := l.map fun b => .int .u8 (b.toNat : Int)
theorem u8s_len (l : List UInt8) : (u8s l).length = l.length := by simp [u8s]

theorem u8s_end (s : ByteArray) : u8s (s.data.toList.drop s.size).reverse = [] := by
  rw [List.drop_eq_nil_of_le (by simp)]; rfl
theorem u8s_step {s : ByteArray} {k n : Nat} {w : World} {B : Nat} {e : TypeId} {v : Value} (h0 : 0 < k) (hk : k ≤ s.size) (hk1 : k - 1 < s.size)
    (h : w.ownsRow B e 1 v n (u8s (s.data.toList.drop k).reverse ++ [.int .u8 (s[k - 1].toNat : Int)])) : w.ownsRow B e 1 v n (u8s (s.data.toList.drop (k - 1)).reverse) := by
  have e : k - 1 < s.data.toList.length := by simpa using hk1
  have e2 : s.data.toList.drop (k - 1) = s[k - 1] :: s.data.toList.drop k := by
    rw [List.drop_eq_getElem_cons e, show k - 1 + 1 = k from by omega]; rfl
  rw [e2, List.reverse_cons]
  simpa [u8s] using h
theorem mir_cells {s : ByteArray} {w : World} {B : Nat} {e : TypeId} (h : w.ownsRow B e 1 (.slice (some ⟨B, 0, none⟩) (s.size - 0) s.size) (s.size - 0) (u8s (s.data.toList.drop 0).reverse)) :
    ∀ j (hj : j < s.data.toList.reverse.length), w.cell? ((⟨B, 0, none⟩ : Addr).add j) = some (.int .u8 (s.data.toList.reverse[j].toNat : Int)) := by
  intro j hj
  refine h.cells (g := B) rfl j _ ?_
  simp only [u8s, List.drop_zero, List.getElem?_map, List.getElem?_eq_getElem hj, Option.map_some]

set_option maxHeartbeats 400000 in
theorem implMirror (s : ByteArray) (w : World) (hs : s.size ≤ 1048576) :
    Calls Try.prog 6 #[.string s] w fun e w' => e = .returned (mirV s) ∧ Below w.heap.size w w' := by
  cases h1 : isRv s
  · have J := Lib.hid (mirV_no h1)
    have G := Lib.hid h1
    clear h1
    go_enter Try.func6, Try.ntmps6
    go_wp2_with (go_at_call 10; refine (implIsRiver _ _ (by unfold maxLen; omega)).mono ?_; rintro e w' ⟨rfl, rfl⟩; rw [G.out])
    go_ret2
    exact ⟨ret_v J.out.symm, Below.refl _ _⟩
  · have J := Lib.hid (mirV_yes h1)
    obtain ⟨z1, z2⟩ := isRv_size h1
    have G := Lib.hid h1
    clear h1
    obtain ⟨i0, hi, hz0, hz1, hz2⟩ := info_parts Try.infoByte
    have I1 := Lib.hid hi
    have I2 := Lib.hid hz0
    have I3 := Lib.hid hz1
    have I4 := Lib.hid hz2
    clear hi hz0 hz1 hz2
    go_enter Try.func6, Try.ntmps6
    go_wp2_with (first
      | (go_at_call 10; refine (implIsRiver _ _ (by unfold maxLen; omega)).mono ?_; rintro e w' ⟨rfl, rfl⟩; rw [G.out])
      | (at_make; refine wpList_make_own _ rfl _ _ 27 rfl w.heap.size 5 i0 (.int .u8 0) 1 Try.underlying27 I1.out I2.out I3.out .i64 .i64 _ s.size rfl rfl rfl (by rw [I4.out]; omega) (by unfold maxLen; omega) (Nat.le_refl _) ?_; intro w1 hown hgrow))
    have B1 : Below w.heap.size w w1 := (Below.refl _ _).grown hgrow (Nat.le_refl _) (by intro k h; cases h)
    clear hgrow
    go_loopw [4, 5] (fun v i wr => ∃ k : Nat, k ≤ s.size ∧ i = .int .i64 k ∧ v = .slice (some ⟨w.heap.size, 0, none⟩) (s.size - k) s.size ∧ wr.ownsRow w.heap.size 5 1 (.slice (some ⟨w.heap.size, 0, none⟩) (s.size - k) s.size) (s.size - k) (u8s (s.data.toList.drop k).reverse) ∧ Below w.heap.size w wr)
      (fun _ i _ => (intOf i).toNat)
    case atStart => exact ⟨s.size, Nat.le_refl _, rfl, by rw [Nat.sub_self], by rw [Nat.sub_self, u8s_end]; exact hown, B1⟩
    case round =>
      obtain ⟨k, hk, rfl, rfl, hown', hbel⟩ := hrel
      have hle := hbel.size
      by_cases hlt : 0 < k
      · have hk1 : k - 1 < s.size := by omega
        go_wp2_with (first
          | (at_builtin; refine wpList_append_fits _ rfl _ _ 27 rfl w.heap.size 5 i0 1 Try.underlying27 I1.out I3.out w.heap.size (s.size - k) s.size _ rfl (hown'.alloc _) ⟨wr.heap.size, 0, none⟩ 1 1 [.int .u8 (s[k - 1].toNat : Int)] rfl rfl (cell_one_new _ _ _) (by intro u hu; simp at hu; subst hu; rfl) (by omega) ?_; intro w2 hown2 hgrow2))
        have R := u8s_step hlt hk hk1 hown2
        have B2 := ((hbel.alloc hle _).grown hgrow2 (by simp; omega) (by intro k h; cases h; exact Nat.le_refl _))
        have e1 : s.size - k + 1 = s.size - (k - 1) := by omega
        rw [e1] at R
        have R' := Lib.hid R
        clear R hown2 hgrow2
        have E1 := Lib.hid e1
        clear e1
        go_roundw
        case rel => exact ⟨k - 1, by omega, by go_num, by rw [← E1.out], R'.out, B2⟩
        case measure => simp [intOf]; omega
      · obtain rfl : k = 0 := by omega
        have hcv := fun (x : Nat) => run_convert_bytes_back (P := Try.prog) wr 27 9 5 ⟨w.heap.size, 0, none⟩ x s.data.toList.reverse Try.underlying27 Try.underlying5 Try.underlying9 (mir_cells hown')
        simp only [List.length_reverse, Array.length_toList] at hcv
        have hcv' : ∀ x, Sem.run Try.prog (Go.convert 27 9 (.slice (some ⟨w.heap.size, 0, none⟩) s.size x)) wr = .ok (.string ⟨s.data.toList.reverse.toArray⟩) wr := hcv
        clear hcv
        go_wp2
        go_ret2
        exact ⟨ret_v J.out.symm, hbel⟩
theorem mirV_form (a : ByteArray) : ∃ s x, mirV a = .tuple #[.string s, .bool x] := by
  unfold mirV; split <;> exact ⟨_, _, rfl⟩
end Go.Proofs.Ytfokgobmncbkfad
