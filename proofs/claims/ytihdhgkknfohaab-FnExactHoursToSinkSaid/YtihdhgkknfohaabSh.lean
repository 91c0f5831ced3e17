/- HoursToSink, both sides. -/
import Derived.Test.YtihdhgkknfohaabSg2
import Derived.Test.YtihdhgkknfohaabSw
namespace Go.Proofs.Ytihdhgkknfohaab
set_option linter.unusedVariables false
open Go.RowKit

theorem mapB_at {f : UInt8 → UInt8} {s : ByteArray} {j : Nat} (h : j < s.size) (h2 : j < (mapB f s).size) : (mapB f s)[j] = f s[j] := by
  have e0 : (mapB f s).data.toList = s.data.toList.map f := by simp [mapB]
  have e1 : (mapB f s)[j] = (mapB f s).data.toList[j]'(by simpa using h2) := rfl
  have e2 : s[j] = s.data.toList[j]'(by simpa using h) := rfl
  rw [e1, e2, List.getElem_of_eq e0, List.getElem_map]
theorem wear_size (s : ByteArray) : (wearB s).size = s.size := mapB_size _ _
theorem wear_byte {s : ByteArray} (hd : AllD s) {j : Nat} (h : j < s.size) (h2 : j < (wearB s).size) : (wearB s)[j].toNat = 48 + (dD s j - 1) := by
  have e : (wearB s)[j] = wrC s[j] := mapB_at h h2
  have := hd j h
  rw [e, wrC_n this.1 this.2, dD_at h]
theorem wear_AllD {s : ByteArray} (hd : AllD s) : AllD (wearB s) := by
  intro j hj
  have hj' : j < s.size := by rw [wear_size] at hj; exact hj
  have := wear_byte hd hj' hj
  have := dD_le hd j
  omega
theorem wear_dD {s : ByteArray} (hd : AllD s) (j : Nat) : dD (wearB s) j = dD s j - 1 := by
  by_cases h : j < s.size
  · have h2 : j < (wearB s).size := by rw [wear_size]; exact h
    rw [dD_at h2, wear_byte hd h h2]; omega
  · rw [dD_off (by rw [wear_size]; omega), dD_off (by omega)]
theorem wear_isSt {s : ByteArray} (h : isSt s = true) : isSt (wearB s) = true := by
  obtain ⟨h1, h2, hd⟩ := isSt_in h
  exact isSt_all (by rw [wear_size]; exact h1) (by rw [wear_size]; exact h2) (wear_AllD hd)
theorem sumD_zero {s : ByteArray} (i : Nat) : ∀ n, (∀ j, dD s j = 0) → sumD s i n = 0
  | 0, _ => rfl
  | n + 1, h => by simp only [sumD]; rw [sumD_zero i n h, h]
theorem nar_zero {s : ByteArray} {l : Nat} (h : ∀ j, dD s j = 0) (hl : l ≤ s.size) : (nar s l).1 = 0 := by
  obtain ⟨i, hi, e⟩ := nf_one s l (s.size + 1 - l) (by omega)
  unfold nar; rw [e, sumD_zero i l h]; rfl
/-- how often it has to be worn, in so many tries at most -/
def htF (l : Nat) : Nat → ByteArray → Nat
  | 0, _ => 0
  | f + 1, s => if 0 < (nar s l).1 then htF l f (wearB s) + 1 else 0
theorem htF_yes {l f : Nat} {s : ByteArray} (h : 0 < (nar s l).1) : htF l (f + 1) s = htF l f (wearB s) + 1 := by simp [htF, h]
theorem htF_no {l f : Nat} {s : ByteArray} (h : ¬ 0 < (nar s l).1) : htF l (f + 1) s = 0 := by simp only [htF]; rw [if_neg h]
/-- after j times: what is left to do -/
structure Wn (s : ByteArray) (l j : Nat) (t : ByteArray) : Prop where
  st : isSt t = true
  sz : t.size = s.size
  ht : htF l 10 s = j + htF l (10 - j) t
  dg : ∀ i, dD t i ≤ 9 - j
  le : j ≤ 9
theorem Wn.start {s : ByteArray} (h : isSt s = true) (l : Nat) : Wn s l 0 s := ⟨h, rfl, by simp, fun i => dD_le (isSt_in h).2.2 i, by omega⟩
theorem Wn.next {s t : ByteArray} {l j : Nat} (h : Wn s l j t) (hl : l ≤ s.size) (hn : 0 < (nar t l).1) : Wn s l (j + 1) (wearB t) ∧ j + 1 ≤ 9 := by
  have hj : j + 1 ≤ 9 := by
    by_cases e : j = 9
    · have := nar_zero (s := t) (l := l) (fun i => by have := h.dg i; omega) (by rw [h.sz]; exact hl)
      omega
    · have := h.le; omega
  refine ⟨⟨wear_isSt h.st, by rw [wear_size, h.sz], ?_, fun i => ?_, hj⟩, hj⟩
  · have e := h.ht
    rw [show 10 - j = (10 - (j + 1)) + 1 from by omega, htF_yes hn] at e
    omega
  · rw [wear_dD (isSt_in h.st).2.2]; have := h.dg i; omega
theorem Wn.done {s t : ByteArray} {l j : Nat} (h : Wn s l j t) (hn : ¬ 0 < (nar t l).1) : htF l 10 s = j := by
  have e := h.ht
  have := h.le
  rw [show 10 - j = (9 - j) + 1 from by omega, htF_no hn] at e
  omega
def hourV (s : ByteArray) (L : Int) : Value := if shA s L then .tuple #[.int .i64 (htF L.toNat 10 s : Int), .bool true] else .tuple #[.int .i64 0, .bool false]
theorem hourV_form (s : ByteArray) (L : Int) : ∃ x z, hourV s L = .tuple #[.int .i64 x, .bool z] := by unfold hourV; split <;> exact ⟨_, _, rfl⟩
theorem hourV_no {s : ByteArray} {L : Int} (h : shA s L = false) : hourV s L = .tuple #[.int .i64 0, .bool false] := by simp [hourV, h]
theorem hourV_yes {s : ByteArray} {l : Nat} (h : shA s (l : Int) = true) : hourV s (l : Int) = .tuple #[.int .i64 (htF l 10 s : Int), .bool true] := by simp [hourV, h]
theorem shA_of {t : ByteArray} {l : Nat} (h : isSt t = true) (h1 : 1 ≤ l) (h2 : l ≤ t.size) : shA t (l : Int) = true := by
  have := (isSt_in h).2.1
  simp [shA, stA_yes h (show (1 : Int) ≤ l by omega) (by omega)]; omega
set_option maxHeartbeats 1000000 in
theorem specHour (s : ByteArray) (L : Int) (w : World) (hs : s.size ≤ 1048576) :
    Calls Try.prog 25 #[.string s, .int .i64 L] w fun e w' => e = .returned (hourV s L) ∧ Below w.heap.size w w' := by
  cases h : shA s L
  · have J := Lib.hid (hourV_no h)
    have G := Lib.hid h
    clear h
    go_enter Try.func25, Try.ntmps25
    go_wp2_with (go_at_call 27; refine (siShort _ _ _ hs).mono ?_; rintro e w' ⟨rfl, rfl⟩; rw [G.out])
    go_ret2
    exact ⟨ret_v J.out.symm, Below.refl _ _⟩
  · obtain ⟨h1, h2, h3, h4⟩ := shA_in h
    obtain ⟨z1, z2, hd⟩ := isSt_in h1
    obtain ⟨l, rfl⟩ : ∃ l : Nat, L = (l : Int) := ⟨L.toNat, by omega⟩
    have J := Lib.hid (hourV_yes h)
    have ST := Lib.hid (Wn.start h1 l)
    have G := Lib.hid h
    clear h h1 hd
    go_enter Try.func25, Try.ntmps25
    go_wp2_with (go_at_call 27; refine (siShort _ _ _ hs).mono ?_; rintro e w' ⟨rfl, rfl⟩; rw [G.out])
    go_loopw [0, 6] (fun t n wr => ∃ (j : Nat) (b : ByteArray), t = .string b ∧ n = .int .i64 j ∧ Hid (Wn s l j b) ∧ Hid (Below w.heap.size w wr)) (fun _ n _ => 10 - (intOf n).toNat)
    case atStart => exact ⟨0, s, rfl, rfl, ST, Lib.hid (Below.refl _ _)⟩
    case round =>
      obtain ⟨j, b, rfl, rfl, HW, HB⟩ := hrel
      obtain ⟨y1, y2, hdb⟩ := isSt_in HW.out.st
      have hsz := HW.out.sz
      have hj9 := HW.out.le
      have C := siCan b l 1 wr hdb y2 (by omega) (by omega)
      rw [canB_in (by omega)] at C
      by_cases hn : 0 < (nar b l).1
      · obtain ⟨N, hj⟩ := HW.out.next (by omega) hn
        have HN := Lib.hid N
        rw [decide_eq_true (show 1 ≤ (nar b l).1 by omega)] at C
        have HC := Lib.hid C
        have WR := Lib.hid (siWear b wr hdb y2)
        clear C hn N hdb hsz
        go_wp2_with (first
          | (go_at_call 36; refine HC.out.mono ?_; rintro e w' ⟨rfl, rfl⟩)
          | (go_at_call 46; refine WR.out.mono ?_; rintro e w2 ⟨rfl, hb2⟩))
        go_roundw
        case rel => exact ⟨j + 1, _, rfl, by go_num, HN, Lib.hid (HB.out.trans (hb2.mono HB.out.size))⟩
        case measure => (simp [intOf]; try omega)
      · have HE := Lib.hid (HW.out.done hn)
        rw [decide_eq_false (show ¬ 1 ≤ (nar b l).1 by omega)] at C
        have HC := Lib.hid C
        clear C hn hdb hsz
        go_wp2_with (go_at_call 36; refine HC.out.mono ?_; rintro e w' ⟨rfl, rfl⟩)
        go_ret2
        exact ⟨ret_v (by rw [J.out, HE.out]; rfl), HB.out⟩
set_option maxHeartbeats 1000000 in
theorem implHour (s : ByteArray) (L : Int) (w : World) (hs : s.size ≤ 1048576) :
    Calls Try.prog 26 #[.string s, .int .i64 L] w fun e w' => e = .returned (hourV s L) ∧ Below w.heap.size w w' := by
  have C0 := implMost s L w hs
  cases h : shA s L
  · have J := Lib.hid (hourV_no h)
    rw [mostV_no h] at C0
    have HC0 := Lib.hid C0
    clear h C0
    go_enter Try.func26, Try.ntmps26
    go_wp2_with (go_at_call 11; refine HC0.out.mono ?_; rintro e w1 ⟨rfl, hb1⟩)
    go_loopw [0, 6, 8] (fun t m n wr => m = .int .i64 0 ∧ n = .int .i64 0 ∧ wr = w1) (fun _ _ _ _ => 0)
    case atStart => exact ⟨rfl, rfl, rfl⟩
    case round =>
      obtain ⟨rfl, rfl, rfl⟩ := hrel
      go_wp2
      go_ret2
      exact ⟨ret_v J.out.symm, hb1⟩
  · obtain ⟨h1, h2, h3, h4⟩ := shA_in h
    obtain ⟨z1, z2, hd⟩ := isSt_in h1
    obtain ⟨l, rfl⟩ : ∃ l : Nat, L = (l : Int) := ⟨L.toNat, by omega⟩
    have J := Lib.hid (hourV_yes h)
    have ST := Lib.hid (Wn.start h1 l)
    rw [mostV_yes h] at C0
    have HC0 := Lib.hid C0
    clear h h1 hd C0
    go_enter Try.func26, Try.ntmps26
    go_wp2_with (go_at_call 11; refine HC0.out.mono ?_; rintro e w1 ⟨rfl, hb1⟩)
    have HB1 := Lib.hid hb1
    clear hb1
    go_loopw [0, 6, 8] (fun t m n wr => ∃ (j : Nat) (b : ByteArray), t = .string b ∧ m = .int .i64 (nar b l).1 ∧ n = .int .i64 j ∧ Hid (Wn s l j b) ∧ Hid (Below w.heap.size w wr)) (fun _ _ n _ => 10 - (intOf n).toNat)
    case atStart => exact ⟨0, s, rfl, rfl, rfl, ST, HB1⟩
    case round =>
      obtain ⟨j, b, rfl, rfl, rfl, HW, HB⟩ := hrel
      obtain ⟨y1, y2, hdb⟩ := isSt_in HW.out.st
      have hsz := HW.out.sz
      have hj9 := HW.out.le
      by_cases hn : 0 < (nar b l).1
      · obtain ⟨N, hj⟩ := HW.out.next (by omega) hn
        have M := fun wx => implMost (wearB b) l wx (by rw [wear_size]; omega)
        rw [mostV_yes (shA_of N.st (by omega) (by rw [wear_size]; omega))] at M
        have HM := Lib.hid M
        have WR := implWear b wr (by omega)
        rw [wearV_yes HW.out.st] at WR
        have HWR := Lib.hid WR
        have HN := Lib.hid N
        clear N hdb hsz M WR
        go_wp2_with (first
          | (go_at_call 47; refine HWR.out.mono ?_; rintro e w2 ⟨rfl, hb2⟩)
          | (go_at_call 11; refine (HM.out _).mono ?_; rintro e w3 ⟨rfl, hb3⟩))
        go_roundw
        case rel => exact ⟨j + 1, _, rfl, rfl, by go_num, HN, Lib.hid (HB.out.trans ((hb2.trans (hb3.mono hb2.size)).mono HB.out.size))⟩
        case measure => (simp [intOf]; try omega)
      · have HE := Lib.hid (HW.out.done hn)
        clear hdb hsz
        go_wp2
        go_ret2
        exact ⟨ret_v (by rw [J.out, HE.out]; rfl), HB.out⟩
end Go.Proofs.Ytihdhgkknfohaab
