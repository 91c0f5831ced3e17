/- MirrorStrong, both sides; slices.Reverse at bytes. -/
import Derived.Test.YtmlokapbholeoacBy
import Derived.Test.YtmlokapbholeoacSv
import Derived.OwnWalk
namespace Go.Proofs.Ytmlokapbholeoac
set_option linter.unusedVariables false
open Go.RowKit

/-- after i exchanges from both ends -/
def revTo (l : List UInt8) : Nat → List UInt8
  | 0 => l
  | i + 1 => ((revTo l i).set i ((revTo l i).getD (l.length - 1 - i) 0)).set (l.length - 1 - i) ((revTo l i).getD i 0)
theorem revTo_len (l : List UInt8) : ∀ i, (revTo l i).length = l.length
  | 0 => rfl
  | i + 1 => by simp [revTo, revTo_len l i]
theorem revTo_at (l : List UInt8) : ∀ i, 2 * i ≤ l.length + 1 → ∀ k, k < l.length → (revTo l i).getD k 0 = if k < i ∨ l.length - 1 - k < i then l.getD (l.length - 1 - k) 0 else l.getD k 0
  | 0 => by intro _ k _; simp [revTo]
  | i + 1 => by
    intro h k hk
    have ih := revTo_at l i (by omega)
    unfold revTo
    rw [List.getD_eq_getElem?_getD, List.getElem?_set]
    by_cases h1 : l.length - 1 - i = k
    · rw [if_pos h1, if_pos (by rw [List.length_set, revTo_len]; omega)]
      show (revTo l i).getD i 0 = _
      rw [ih i (by omega), if_neg (by omega), if_pos (by omega)]
      congr 1; omega
    · rw [if_neg h1, List.getElem?_set]
      by_cases h2 : i = k
      · rw [if_pos h2, if_pos (by rw [revTo_len]; omega)]
        show (revTo l i).getD (l.length - 1 - i) 0 = _
        subst h2
        rw [ih _ (by omega), if_neg (by omega), if_pos (by omega)]
      · rw [if_neg h2, ← List.getD_eq_getElem?_getD, ih k hk]
        by_cases h3 : k < i ∨ l.length - 1 - k < i
        · rw [if_pos h3, if_pos (by omega)]
        · rw [if_neg h3, if_neg (by omega)]
theorem getD_ext {a b : List UInt8} (h : a.length = b.length) (h2 : ∀ k, k < a.length → a.getD k 0 = b.getD k 0) : a = b := by
  apply List.ext_getElem h
  intro k h1 h3
  have := h2 k h1
  simpa [List.getD_eq_getElem?_getD, h1, h3] using this
theorem revTo_end {l : List UInt8} {i : Nat} (h : l.length ≤ 2 * i + 1) (h2 : 2 * i ≤ l.length + 1) : revTo l i = l.reverse := by
  refine getD_ext (by rw [revTo_len, List.length_reverse]) fun k hk => ?_
  rw [revTo_len] at hk
  rw [revTo_at l i h2 k hk]
  have er : l.reverse.getD k 0 = l.getD (l.length - 1 - k) 0 := by
    rw [List.getD_eq_getElem?_getD, List.getElem?_reverse hk]; rfl
  rw [er]
  split
  · rfl
  · congr 1; omega

set_option maxHeartbeats 2000000 in
theorem reverse (b cap : Nat) (l : List UInt8) (w : World) (h : Byts w b l) (hl : l.length ≤ 20) (h1 : 1 ≤ l.length) :
    Calls Try.prog 41 #[.slice (some ⟨b, 0, none⟩) l.length cap] w fun e w' => e = .returned (.tuple #[]) ∧ Byts w' b l.reverse ∧ ∀ B, B ≤ b → Below B w w' := by
  obtain ⟨n, hn⟩ : ∃ n, n = l.length := ⟨_, rfl⟩
  rw [← hn] at hl h1 ⊢
  have HN := Lib.hid hn
  have H0 := Lib.hid h
  clear hn h
  go_enter Try.func41, Try.ntmps41
  go_wp2
  go_loopw [2, 3] (fun i j wr => ∃ k : Nat, 2 * k ≤ n + 1 ∧ i = .int .i64 k ∧ j = .int .i64 ((n : Int) - 1 - k) ∧ Byts wr b (revTo l k) ∧ ∀ B, B ≤ b → Below B w wr) (fun i _ _ => n - (intOf i).toNat)
  case atStart => exact ⟨0, by omega, rfl, by simp, H0.out, fun B _ => Below.refl _ _⟩
  case round =>
    obtain ⟨k, hk, rfl, rfl, hB, hbw⟩ := hrel
    have HBW := Lib.hid hbw
    clear hbw
    by_cases hlt : 2 * k + 1 < n
    · obtain ⟨j, hj⟩ : ∃ j, j = n - 1 - k := ⟨_, rfl⟩
      have ej : (n : Int) - 1 - k = (j : Int) := by omega
      rw [ej]
      have hlk : (revTo l k).length = n := by rw [revTo_len, HN.out]
      have hkj : k < j := by omega
      have hjn : j < n := by omega
      have ck := (hB k (by rw [hlk]; omega))
      have cj := (hB j (by rw [hlk]; omega))
      have S1 := hB.set (j := k) (by rw [hlk]; omega) ((revTo l k).getD j 0)
      have S2 := S1.set (j := j) (by rw [List.length_set, hlk]; omega) ((revTo l k).getD k 0)
      have E : ((revTo l k).set k ((revTo l k).getD j 0)).set j ((revTo l k).getD k 0) = revTo l (k + 1) := by
        show _ = ((revTo l k).set k ((revTo l k).getD (l.length - 1 - k) 0)).set (l.length - 1 - k) ((revTo l k).getD k 0)
        rw [← HN.out, ← hj]
      rw [E] at S2
      have SS := Lib.hid S2
      obtain ⟨ck, fk⟩ := ck
      obtain ⟨cj, fj⟩ := cj
      have HJ := Lib.hid hj
      have hki : (k : Int) < j := by omega
      have hji : (j : Int) < n := by omega
      have hkn : (k : Int) < n := by omega
      clear S1 S2 E hB hlk hj ej
      generalize (revTo l k).getD k 0 = x at *
      generalize (revTo l k).getD j 0 = y at *
      have cj2 : (wr.setCell ⟨b, k, none⟩ (.int .u8 (y.toNat : Int))).cell? ⟨b, j, none⟩ = some (.int .u8 (y.toNat : Int)) := by
        rw [World.cell?_setCell_other, cj]; intro h; injection h; omega
      have fj2 : (wr.setCell ⟨b, k, none⟩ (.int .u8 (y.toNat : Int))).frozen? ⟨b, j, none⟩ = false := by
        rw [World.frozen?_setCell]; exact fj
      go_wp2
      go_region
      go_wp2
      go_roundw
      case rel => exact ⟨k + 1, by omega, by go_num, by congr 1; have := HJ.out; omega, SS.out, fun B hB => ((HBW.out B hB).setCell hB _).setCell hB _ |>.drew⟩
      case measure => (simp [intOf]; try omega)
    · have E := Lib.hid (revTo_end (l := l) (i := k) (by rw [← HN.out]; omega) (by rw [← HN.out]; omega))
      go_wp2
      go_end0
      exact ⟨rfl, by rw [← E.out]; exact hB, HBW.out⟩

def mir (s : ByteArray) : ByteArray := ⟨s.data.toList.reverse.toArray⟩
def mirSV (s : ByteArray) : Value := if isSt s then .tuple #[.string (mir s), .bool true] else .tuple #[.string ⟨#[]⟩, .bool false]
theorem mirSV_no {s : ByteArray} (h : isSt s = false) : mirSV s = .tuple #[.string ⟨#[]⟩, .bool false] := by simp [mirSV, h]
theorem mirSV_yes {s : ByteArray} (h : isSt s = true) : mirSV s = .tuple #[.string (mir s), .bool true] := by simp [mirSV, h]
theorem isSt_sz {s : ByteArray} (h : isSt s = true) : 1 ≤ s.size ∧ s.size ≤ 20 := by
  exact ⟨(isSt_in h).1, (isSt_in h).2.1⟩

theorem mir_size {s o : ByteArray} {k : Nat} (hk : k ≤ s.size) (h : o.data.toList = (s.data.toList.drop k).reverse) : o.size = s.size - k := by
  have := congrArg List.length h
  simpa using this
theorem mir_step {s o : ByteArray} {k : Nat} (h0 : 0 < k) (hk : k ≤ s.size) (h : o.data.toList = (s.data.toList.drop k).reverse) : (o ++ s.extract (k - 1) k).data.toList = (s.data.toList.drop (k - 1)).reverse := by
  have e : k - 1 < s.data.toList.length := by simp; omega
  rw [List.drop_eq_getElem_cons e, show k - 1 + 1 = k from by omega]
  have h1 : (s.extract (k - 1) k).data.toList = [s.data.toList[k - 1]] := by
    rw [ByteArray.data_extract, Array.toList_extract, List.extract_eq_take_drop, show k - (k - 1) = 1 from by omega, List.drop_eq_getElem_cons e]
    rfl
  rw [List.reverse_cons, ← h, ← h1, ByteArray.data_append, Array.toList_append]
theorem mir_end {s o : ByteArray} (h : o.data.toList = (s.data.toList.drop 0).reverse) : o = mir s := by
  apply ByteArray.ext
  apply Array.toList_inj.1
  simpa [mir] using h

theorem mirSV_form (a : ByteArray) : ∃ s x, mirSV a = .tuple #[.string s, .bool x] := by
  unfold mirSV; split <;> exact ⟨_, _, rfl⟩
set_option maxHeartbeats 2000000 in
theorem implMirrorS (s : ByteArray) (w : World) (hs : s.size ≤ 1048576) :
    Calls Try.prog 26 #[.string s] w fun e w' => e = .returned (mirSV s) ∧ Below w.heap.size w w' := by
  cases h1 : isSt s
  · have J := Lib.hid (mirSV_no h1)
    have G := Lib.hid h1
    clear h1
    go_enter Try.func26, Try.ntmps26
    go_wp2_with (go_at_call 37; refine (implIsStrong _ _ (by unfold maxLen; omega)).mono ?_; rintro e w' ⟨rfl, rfl⟩; rw [G.out])
    go_ret2
    exact ⟨ret_v J.out.symm, Below.refl _ _⟩
  · have J := Lib.hid (mirSV_yes h1)
    obtain ⟨z1, z2, hal⟩ := isSt_in h1
    have hcv := run_bytes_of_string (P := Try.prog) w 9 40 5 s Try.underlying9 Try.underlying40 Try.underlying5
    have hcap := grownCap_ge w s.size 0 5
    generalize grownCap w s.size 0 5 = cap at hcv hcap
    obtain ⟨C, hC⟩ : ∃ C, C = bytesRow s cap := ⟨_, rfl⟩
    rw [← hC] at hcv
    have hCs : s.size ≤ C.size := by rw [hC]; simp [bytesRow]
    have hB0 := Byts.new w hC hCs
    have hbA : Below w.heap.size w (w.alloc (.cells C 5 (C.size, C.size + 1))).drew := ((Below.refl _ _).alloc (Nat.le_refl _) _).drew
    have hl0 : s.data.toList.length = s.size := by simp
    have G := Lib.hid h1
    have HBA := Lib.hid hbA
    have HL0 := Lib.hid hl0
    have hrv := reverse w.heap.size cap s.data.toList _ hB0 (by rw [hl0]; exact z2) (by rw [hl0]; exact z1)
    rw [hl0] at hrv
    have HRV := Lib.hid hrv
    clear hrv h1 hB0 hbA hC hal hl0
    go_enter Try.func26, Try.ntmps26
    go_wp2_with (first
      | (go_at_call 37; refine (implIsStrong _ _ (by unfold maxLen; omega)).mono ?_; rintro e w' ⟨rfl, rfl⟩; rw [G.out])
      | (go_at_call 41; refine HRV.out.mono ?_; rintro e w1 ⟨rfl, hB1, hb1⟩; have hbk := fun x => hB1.back x; rw [show s.data.toList.reverse.length = s.size by simp] at hbk; have HBB := Lib.hid (HBA.out.trans (hb1 _ (Nat.le_refl _))); clear hB1 hb1))
    go_ret2
    exact ⟨ret_v J.out.symm, HBB.out⟩
end Go.Proofs.Ytmlokapbholeoac
