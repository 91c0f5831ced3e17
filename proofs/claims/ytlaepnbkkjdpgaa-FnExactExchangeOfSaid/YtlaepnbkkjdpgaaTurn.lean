/- TurnPond, spec and impl; slices.Reverse at bytes. -/
import Derived.Test.YtlaepnbkkjdpgaaPd
import Derived.Laws.IdiomStrings
import Derived.RegionTactic
import Derived.ChangeAlike
import Derived.BigRegion
import Derived.Outline
import Derived.WalkSmall
namespace Go.Proofs.Ytlaepnbkkjdpgaa
set_option linter.unusedVariables false
open Go.RowKit

/-- block b's first cells are these bytes, and may be written -/
def Byts (w : World) (b : Nat) (l : List UInt8) : Prop := ∀ j, j < l.length → w.cell? ⟨b, j, none⟩ = some (.int .u8 ((l.getD j 0).toNat : Int)) ∧ w.frozen? ⟨b, j, none⟩ = false
theorem Byts.set {w : World} {b : Nat} {l : List UInt8} (h : Byts w b l) {j : Nat} (hj : j < l.length) (c : UInt8) : Byts (w.setCell ⟨b, j, none⟩ (.int .u8 (c.toNat : Int))) b (l.set j c) := by
  intro k hk
  rw [List.length_set] at hk
  rw [World.frozen?_setCell]
  refine ⟨?_, (h k hk).2⟩
  by_cases e : j = k
  · subst e
    rw [World.cell?_setCell_same _ _ _ (h j hj).1]
    simp [List.getD_eq_getElem?_getD, hj]
  · rw [World.cell?_setCell_other, (h k hk).1]
    · simp [List.getD_eq_getElem?_getD, e]
    · intro h; injection h; omega
theorem Byts.drew {w : World} {b : Nat} {l : List UInt8} (h : Byts w b l) : Byts w.drew b l := h

/-- after i exchanges from both ends -/
def revTo (l : List UInt8) : Nat → List UInt8
  | 0 => l
  | i + 1 => ((revTo l i).set i ((revTo l i).getD (l.length - 1 - i) 0)).set (l.length - 1 - i) ((revTo l i).getD i 0)
theorem revTo_len (l : List UInt8) : ∀ i, (revTo l i).length = l.length
  | 0 => rfl
  | i + 1 => by simp [revTo, revTo_len l i]
theorem revTo_at (l : List UInt8) : ∀ i, 2 * i ≤ l.length + 1 → ∀ k, k < l.length → (revTo l i).getD k 0 = if k < i ∨ l.length - 1 - k < i then l.getD (l.length - 1 - k) 0 else l.getD k 0
  | 0 => by intro _ k _; simp [revTo]
  | i + 1 => by
    intro h k hk
    have ih := revTo_at l i (by omega)
    unfold revTo
    rw [List.getD_eq_getElem?_getD, List.getElem?_set]
    by_cases h1 : l.length - 1 - i = k
    · rw [if_pos h1, if_pos (by rw [List.length_set, revTo_len]; omega)]
      show (revTo l i).getD i 0 = _
      rw [ih i (by omega), if_neg (by omega), if_pos (by omega)]
      congr 1; omega
    · rw [if_neg h1, List.getElem?_set]
      by_cases h2 : i = k
      · rw [if_pos h2, if_pos (by rw [revTo_len]; omega)]
        show (revTo l i).getD (l.length - 1 - i) 0 = _
        subst h2
        rw [ih _ (by omega), if_neg (by omega), if_pos (by omega)]
      · rw [if_neg h2, ← List.getD_eq_getElem?_getD, ih k hk]
        by_cases h3 : k < i ∨ l.length - 1 - k < i
        · rw [if_pos h3, if_pos (by omega)]
        · rw [if_neg h3, if_neg (by omega)]
theorem getD_ext {a b : List UInt8} (h : a.length = b.length) (h2 : ∀ k, k < a.length → a.getD k 0 = b.getD k 0) : a = b := by
  apply List.ext_getElem h
  intro k h1 h3
  have := h2 k h1
  simpa [List.getD_eq_getElem?_getD, h1, h3] using this
theorem revTo_end {l : List UInt8} {i : Nat} (h : l.length ≤ 2 * i + 1) (h2 : 2 * i ≤ l.length + 1) : revTo l i = l.reverse := by
  refine getD_ext (by rw [revTo_len, List.length_reverse]) fun k hk => ?_
  rw [revTo_len] at hk
  rw [revTo_at l i h2 k hk]
  have er : l.reverse.getD k 0 = l.getD (l.length - 1 - k) 0 := by
    rw [List.getD_eq_getElem?_getD, List.getElem?_reverse hk]; rfl
  rw [er]
  split
  · rfl
  · congr 1; omega

set_option maxHeartbeats 2000000 in
theorem reverse (b cap : Nat) (l : List UInt8) (w : World) (h : Byts w b l) (hl : l.length ≤ 9) (h1 : 1 ≤ l.length) :
    Calls Try.prog 18 #[.slice (some ⟨b, 0, none⟩) l.length cap] w fun e w' => e = .returned (.tuple #[]) ∧ Byts w' b l.reverse ∧ ∀ B, B ≤ b → Below B w w' := by
  obtain ⟨n, hn⟩ : ∃ n, n = l.length := ⟨_, rfl⟩
  rw [← hn] at hl h1 ⊢
  have HN := Lib.hid hn
  have H0 := Lib.hid h
  clear hn h
  go_enter Try.func18, Try.ntmps18
  go_wp2
  go_loopw [2, 3] (fun i j wr => ∃ k : Nat, 2 * k ≤ n + 1 ∧ i = .int .i64 k ∧ j = .int .i64 ((n : Int) - 1 - k) ∧ Byts wr b (revTo l k) ∧ ∀ B, B ≤ b → Below B w wr) (fun i _ _ => n - (intOf i).toNat)
  case atStart => exact ⟨0, by omega, rfl, by simp, H0.out, fun B _ => Below.refl _ _⟩
  case round =>
    obtain ⟨k, hk, rfl, rfl, hB, hbw⟩ := hrel
    have HBW := Lib.hid hbw
    clear hbw
    by_cases hlt : 2 * k + 1 < n
    · obtain ⟨j, hj⟩ : ∃ j, j = n - 1 - k := ⟨_, rfl⟩
      have ej : (n : Int) - 1 - k = (j : Int) := by omega
      rw [ej]
      have hlk : (revTo l k).length = n := by rw [revTo_len, HN.out]
      have hkj : k < j := by omega
      have hjn : j < n := by omega
      have ck := (hB k (by rw [hlk]; omega))
      have cj := (hB j (by rw [hlk]; omega))
      have S1 := hB.set (j := k) (by rw [hlk]; omega) ((revTo l k).getD j 0)
      have S2 := S1.set (j := j) (by rw [List.length_set, hlk]; omega) ((revTo l k).getD k 0)
      have E : ((revTo l k).set k ((revTo l k).getD j 0)).set j ((revTo l k).getD k 0) = revTo l (k + 1) := by
        show _ = ((revTo l k).set k ((revTo l k).getD (l.length - 1 - k) 0)).set (l.length - 1 - k) ((revTo l k).getD k 0)
        rw [← HN.out, ← hj]
      rw [E] at S2
      have SS := Lib.hid S2
      obtain ⟨ck, fk⟩ := ck
      obtain ⟨cj, fj⟩ := cj
      have HJ := Lib.hid hj
      have hki : (k : Int) < j := by omega
      have hji : (j : Int) < n := by omega
      have hkn : (k : Int) < n := by omega
      clear S1 S2 E hB hlk hj ej
      generalize (revTo l k).getD k 0 = x at *
      generalize (revTo l k).getD j 0 = y at *
      have cj2 : (wr.setCell ⟨b, k, none⟩ (.int .u8 (y.toNat : Int))).cell? ⟨b, j, none⟩ = some (.int .u8 (y.toNat : Int)) := by
        rw [World.cell?_setCell_other, cj]; intro h; injection h; omega
      have fj2 : (wr.setCell ⟨b, k, none⟩ (.int .u8 (y.toNat : Int))).frozen? ⟨b, j, none⟩ = false := by
        rw [World.frozen?_setCell]; exact fj
      go_wp2
      go_region
      go_wp2
      go_roundw
      case rel => exact ⟨k + 1, by omega, by go_num, by congr 1; have := HJ.out; omega, SS.out, fun B hB => ((HBW.out B hB).setCell hB _).setCell hB _ |>.drew⟩
      case measure => (simp [intOf]; try omega)
    · have E := Lib.hid (revTo_end (l := l) (i := k) (by rw [← HN.out]; omega) (by rw [← HN.out]; omega))
      go_wp2
      go_end0
      exact ⟨rfl, by rw [← E.out]; exact hB, HBW.out⟩

def turnC (c : UInt8) : UInt8 := if c = 114 then 108 else if c = 108 then 114 else c
def turnB (s : ByteArray) : ByteArray := ⟨(s.data.toList.reverse.map turnC).toArray⟩
def turnV (s : ByteArray) : Value := if isPd s then .tuple #[.string (turnB s), .bool true] else .tuple #[.string ⟨#[]⟩, .bool false]
theorem turnV_no {s : ByteArray} (h : isPd s = false) : turnV s = .tuple #[.string ⟨#[]⟩, .bool false] := by simp [turnV, h]
theorem turnV_yes {s : ByteArray} (h : isPd s = true) : turnV s = .tuple #[.string (turnB s), .bool true] := by simp [turnV, h]
theorem turnV_form (a : ByteArray) : ∃ s x, turnV a = .tuple #[.string s, .bool x] := by
  unfold turnV; split <;> exact ⟨_, _, rfl⟩
theorem turn_size {s o : ByteArray} {k : Nat} (hk : k ≤ s.size) (h : o.data.toList = (s.data.toList.drop k).reverse.map turnC) : o.size = s.size - k := by
  have := congrArg List.length h
  simpa using this
theorem turn_step {s o : ByteArray} {k : Nat} {c : UInt8} (h0 : 0 < k) (hk : k - 1 < s.size) (h : o.data.toList = (s.data.toList.drop k).reverse.map turnC) (hc : turnC (s[k - 1]) = c) : (o ++ ⟨#[c]⟩).data.toList = (s.data.toList.drop (k - 1)).reverse.map turnC := by
  have e : k - 1 < s.data.toList.length := by simpa using hk
  rw [List.drop_eq_getElem_cons e, show k - 1 + 1 = k from by omega, List.reverse_cons, List.map_append, ← h, ByteArray.data_append, Array.toList_append, ← hc]
  rfl
theorem turn_end {s o : ByteArray} (h : o.data.toList = (s.data.toList.drop 0).reverse.map turnC) : o = turnB s := by
  apply ByteArray.ext
  apply Array.toList_inj.1
  simpa [turnB] using h
theorem turnC_r {c : UInt8} (h : (c.toNat : Int) = 114) : turnC c = 108 := by rw [(toNat_eq_iff c 114 (by omega)).1 h]; rfl
theorem turnC_l {c : UInt8} (h : (c.toNat : Int) = 108) : turnC c = 114 := by rw [(toNat_eq_iff c 108 (by omega)).1 h]; rfl
theorem turnC_f {c : UInt8} (h : (c.toNat : Int) = 46) : turnC c = 46 := by rw [(toNat_eq_iff c 46 (by omega)).1 h]; rfl

set_option maxHeartbeats 2000000 in
theorem specFgTurn (s : ByteArray) (w : World) (hp : isPd s = true) :
    Calls Try.prog 17 #[.string s] w fun e w' => e = .returned (.string (turnB s)) ∧ w = w' := by
  obtain ⟨z1, z2, hal⟩ := isPd_in hp
  have HAL := Lib.hid hal
  clear hal hp
  go_enter Try.func17, Try.ntmps17
  go_wp2
  go_loop [3, 4] (fun out i => ∃ (k : Nat) (o : ByteArray), k ≤ s.size ∧ i = .int .i64 (k - 1) ∧ out = .string o ∧ o.data.toList = (s.data.toList.drop k).reverse.map turnC) (fun _ i => (intOf i + 1).toNat)
  case atStart => exact ⟨s.size, ⟨#[]⟩, Nat.le_refl _, rfl, rfl, by simp⟩
  case round =>
    obtain ⟨k, o, hk, rfl, rfl, ho0⟩ := hrel
    have hsz := turn_size hk ho0
    have ho := Lib.hid ho0
    clear ho0
    by_cases hlt : 0 < k
    · have hk1 : k - 1 < s.size := by omega
      have b1 : o.size + 1 ≤ 100 := by omega
      rcases HAL.out (k - 1) hk1 with hc | hc | hc
      · have S := Lib.hid (turn_step hlt hk1 ho.out (turnC_r hc))
        go_wp2
        go_round
        case rel => exact ⟨k - 1, _, by omega, by go_num, rfl, S.out⟩
        case measure => simp [intOf]; omega
      · have S := Lib.hid (turn_step hlt hk1 ho.out (turnC_l hc))
        go_wp2
        go_round
        case rel => exact ⟨k - 1, _, by omega, by go_num, rfl, S.out⟩
        case measure => simp [intOf]; omega
      · have S := Lib.hid (turn_step hlt hk1 ho.out (turnC_f hc))
        go_wp2
        go_round
        case rel => exact ⟨k - 1, _, by omega, by go_num, rfl, S.out⟩
        case measure => simp [intOf]; omega
    · obtain rfl : k = 0 := by omega
      go_wp2
      go_ret
      exact ⟨ret_v (by rw [← turn_end ho.out]; rfl), rfl⟩
theorem specTurn (s : ByteArray) (w : World) (hs : s.size ≤ 1048576) :
    Calls Try.prog 10 #[.string s] w fun e w' => e = .returned (turnV s) ∧ w = w' := by
  cases h1 : isPd s
  · have J := Lib.hid (turnV_no h1)
    have G := Lib.hid h1
    clear h1
    go_enter Try.func10, Try.ntmps10
    go_wp2_with (go_at_call 12; refine (specFgGood _ _ (by unfold maxLen; omega)).mono ?_; rintro e w' ⟨rfl, rfl⟩; rw [G.out])
    go_ret2
    exact ⟨ret_v J.out.symm, rfl⟩
  · have J := Lib.hid (turnV_yes h1)
    have G := Lib.hid h1
    clear h1
    go_enter Try.func10, Try.ntmps10
    go_wp2_with (first
      | (go_at_call 12; refine (specFgGood _ _ (by unfold maxLen; omega)).mono ?_; rintro e w' ⟨rfl, rfl⟩; rw [G.out])
      | (go_at_call 17; refine (specFgTurn s _ G.out).mono ?_; rintro e w' ⟨rfl, rfl⟩))
    go_ret2
    exact ⟨ret_v J.out.symm, rfl⟩

/-- the first k bytes turned -/
def turnTo (l : List UInt8) (k : Nat) : List UInt8 := (l.take k).map turnC ++ l.drop k
theorem turnTo_len (l : List UInt8) (k : Nat) : (turnTo l k).length = l.length := by simp [turnTo]; omega
theorem turnTo_at {l : List UInt8} {k : Nat} (hk : k < l.length) : (turnTo l k).getD k 0 = l[k] := by
  have : ((l.take k).map turnC).length = k := by simp; omega
  rw [turnTo, List.getD_eq_getElem?_getD, List.getElem?_append_right (by omega), this, Nat.sub_self, List.getElem?_drop, Nat.add_zero, List.getElem?_eq_getElem hk]; rfl
theorem turnTo_succ {l : List UInt8} {k : Nat} (hk : k < l.length) : (turnTo l k).set k (turnC l[k]) = turnTo l (k + 1) := by
  have e : ((l.take k).map turnC).length = k := by simp; omega
  rw [turnTo, turnTo, List.set_append_right _ _ (by omega), e, Nat.sub_self, List.drop_eq_getElem_cons hk, List.set_cons_zero, List.take_succ_eq_append_getElem hk, List.map_append, List.append_assoc]
  rfl
theorem turnTo_same {l : List UInt8} {k : Nat} (hk : k < l.length) (h : turnC l[k] = l[k]) : turnTo l k = turnTo l (k + 1) := by
  rw [← turnTo_succ hk, h, ← turnTo_at hk, List.getD_eq_getElem?_getD, List.getElem?_eq_getElem (by rw [turnTo_len]; exact hk)]
  exact (List.set_getElem_self _).symm

set_option maxHeartbeats 4000000 in
theorem implTurn (s : ByteArray) (w : World) (hs : s.size ≤ 1048576) :
    Calls Try.prog 11 #[.string s] w fun e w' => e = .returned (turnV s) ∧ Below w.heap.size w w' := by
  cases h1 : isPd s
  · have J := Lib.hid (turnV_no h1)
    have G := Lib.hid h1
    clear h1
    go_enter Try.func11, Try.ntmps11
    go_wp2_with (go_at_call 7; refine (implIsPond _ _ (by unfold maxLen; omega)).mono ?_; rintro e w' ⟨rfl, rfl⟩; rw [G.out])
    go_ret2
    exact ⟨ret_v J.out.symm, Below.refl _ _⟩
  · have J := Lib.hid (turnV_yes h1)
    obtain ⟨z1, z2, hal⟩ := isPd_in h1
    have hcv := run_bytes_of_string (P := Try.prog) w 9 26 5 s Try.underlying9 Try.underlying26 Try.underlying5
    have hcap := grownCap_ge w s.size 0 5
    generalize grownCap w s.size 0 5 = cap at hcv hcap
    obtain ⟨C, hC⟩ : ∃ C, C = bytesRow s cap := ⟨_, rfl⟩
    rw [← hC] at hcv
    have hCs : s.size ≤ C.size := by rw [hC]; simp [bytesRow]
    have hB0 : Byts (w.alloc (.cells C 5 (C.size, C.size + 1))).drew w.heap.size s.data.toList := by
      intro j hj
      have hj' : j < s.data.size := by simpa using hj
      refine ⟨?_, ?_⟩
      · show (w.alloc (.cells C 5 (C.size, C.size + 1))).cell? _ = _
        rw [World.cell?_alloc_mark, hC, bytesRow_at s cap j hj', List.getD_eq_getElem?_getD, List.getElem?_eq_getElem hj]; rfl
      · show (w.alloc (.cells C 5 (C.size, C.size + 1))).frozen? _ = _
        have hj2 : j < s.size := hj'
        rw [World.frozen?_alloc_mark]; simp; omega
    have hbA : Below w.heap.size w (w.alloc (.cells C 5 (C.size, C.size + 1))).drew := ((Below.refl _ _).alloc (Nat.le_refl _) _).drew
    have hl0 : s.data.toList.length = s.size := by simp
    have G := Lib.hid h1
    have HB0 := Lib.hid hB0
    have HBA := Lib.hid hbA
    have HAL := Lib.hid hal
    have HL0 := Lib.hid hl0
    clear h1 hB0 hbA hC hal hl0
    have hrv := reverse w.heap.size cap s.data.toList _ HB0.out (by rw [HL0.out]; exact z2) (by rw [HL0.out]; exact z1)
    rw [HL0.out] at hrv
    have HRV := Lib.hid hrv
    clear hrv
    go_enter Try.func11, Try.ntmps11
    go_wp2_with (first
      | (go_at_call 7; refine (implIsPond _ _ (by unfold maxLen; omega)).mono ?_; rintro e w' ⟨rfl, rfl⟩; rw [G.out])
      | (go_at_call 18; refine HRV.out.mono ?_; rintro e w1 ⟨rfl, hB1, hb1⟩; have HB1 := Lib.hid hB1; have HBB := Lib.hid (HBA.out.trans (hb1 _ (Nat.le_refl _))); clear hB1 hb1))
    generalize hr : s.data.toList.reverse = r at *
    have HR := Lib.hid hr
    have hrl : r.length = s.size := by rw [← hr]; simp
    have HRL := Lib.hid hrl
    have hsg : ∀ j (hj : j < r.length), fsg ((r[j]).toNat : Int) := by
      intro j hj
      have : r[j] ∈ s.data.toList := by rw [← List.mem_reverse, hr]; exact List.getElem_mem _
      obtain ⟨i, hi, e⟩ := List.getElem_of_mem this
      rw [← e]
      exact HAL.out i (by simpa using hi)
    have HSG := Lib.hid hsg
    clear hr hrl hsg
    go_loopw [16] (fun i wr => ∃ k : Nat, k ≤ s.size ∧ i = .int .i64 k ∧ Byts wr w.heap.size (turnTo r k) ∧ Below w.heap.size w wr) (fun i _ => s.size - (intOf i).toNat)
    case atStart => exact ⟨0, Nat.zero_le _, rfl, by simpa [turnTo] using HB1.out, HBB.out⟩
    case round =>
      obtain ⟨k, hk, rfl, hB, hbw⟩ := hrel
      by_cases hlt : k < s.size
      · have hkr : k < r.length := by rw [HRL.out]; exact hlt
        obtain ⟨c1, f1⟩ := hB k (by rw [turnTo_len]; exact hkr)
        rw [turnTo_at hkr] at c1
        have S := Lib.hid (hB.set (j := k) (by rw [turnTo_len]; exact hkr) (turnC r[k]))
        have E := Lib.hid (turnTo_succ hkr)
        have E2 := Lib.hid (fun h => turnTo_same hkr h)
        have HB := Lib.hid hB
        have HBW := Lib.hid hbw
        have hs := HSG.out k hkr
        have hki : (k : Int) < s.size := by omega
        clear hB hbw
        rcases hs with hc | hc | hc
        · have T := Lib.hid (turnC_r hc)
          rw [hc] at c1
          clear hc
          go_wp2
          go_roundw
          case rel => exact ⟨k + 1, by omega, by go_num, by have := S.out; rw [E.out, T.out] at this; exact this, HBW.out.setCell (Nat.le_refl _) _⟩
          case measure => (simp [intOf]; try omega)
        · have T := Lib.hid (turnC_l hc)
          rw [hc] at c1
          clear hc
          go_wp2
          go_roundw
          case rel => exact ⟨k + 1, by omega, by go_num, by have := S.out; rw [E.out, T.out] at this; exact this, HBW.out.setCell (Nat.le_refl _) _⟩
          case measure => (simp [intOf]; try omega)
        · have T := Lib.hid (show turnC r[k] = r[k] by rw [turnC_f hc, (toNat_eq_iff r[k] 46 (by omega)).1 hc]; rfl)
          rw [hc] at c1
          clear hc
          go_wp2
          go_roundw
          case rel => exact ⟨k + 1, by omega, by go_num, by rw [← E2.out T.out]; exact HB.out, HBW.out⟩
          case measure => (simp [intOf]; try omega)
      · obtain rfl : k = s.size := by omega
        have eT : turnTo r s.size = r.map turnC := by
          unfold turnTo
          rw [List.take_of_length_le (by rw [HRL.out]; exact Nat.le_refl _), List.drop_eq_nil_of_le (by rw [HRL.out]; exact Nat.le_refl _), List.append_nil]
        rw [eT] at hB
        have hb := fun (x : Nat) => run_convert_bytes_back (P := Try.prog) wr 26 9 5 ⟨w.heap.size, 0, none⟩ x (r.map turnC) Try.underlying26 Try.underlying5 Try.underlying9
          (by intro j hj
              have := (hB j hj).1
              have ea : (⟨w.heap.size, 0, none⟩ : Addr).add j = ⟨w.heap.size, j, none⟩ := by simp [Addr.add]; omega
              rw [ea, this, List.getD_eq_getElem?_getD, List.getElem?_eq_getElem hj]; rfl)
        rw [show (r.map turnC).length = s.size by rw [List.length_map]; exact HRL.out] at hb
        have HE := Lib.hid (show (⟨(r.map turnC).toArray⟩ : ByteArray) = turnB s by unfold turnB; rw [HR.out])
        have HBW := Lib.hid hbw
        clear hB eT hbw
        go_wp2
        go_ret2
        exact ⟨ret_v (by rw [J.out, ← HE.out]; rfl), HBW.out⟩
end Go.Proofs.Ytlaepnbkkjdpgaa
