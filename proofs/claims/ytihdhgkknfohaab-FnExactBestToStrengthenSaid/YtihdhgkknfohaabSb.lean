/- BestToStrengthen, both sides. -/
import Derived.Test.YtihdhgkknfohaabSg2
import Derived.Test.YtihdhgkknfohaabSg
namespace Go.Proofs.Ytihdhgkknfohaab
set_option linter.unusedVariables false
open Go.RowKit

theorem setB_size (s : ByteArray) (k : Nat) (c : UInt8) : (setB s k c).size = s.size := by
  show ((s.data.toList.set (k - 1) c).toArray).size = s.data.size
  rw [List.size_toArray, List.length_set, Array.length_toList]
theorem setB_at {s : ByteArray} {k j : Nat} {c : UInt8} (h : j < s.size) (h2 : j < (setB s k c).size) : (setB s k c)[j] = if k - 1 = j then c else s[j] := by
  have e0 : (setB s k c).data.toList = s.data.toList.set (k - 1) c := by simp [setB]
  have e1 : (setB s k c)[j] = (setB s k c).data.toList[j]'(by simpa using h2) := rfl
  have e2 : s[j] = s.data.toList[j]'(by simpa using h) := rfl
  rw [e1, e2, List.getElem_of_eq e0, List.getElem_set]
theorem more_size (s : ByteArray) (k n : Nat) : (moreB s k n).size = s.size := setB_size _ _ _
theorem more_AllD {s : ByteArray} (hd : AllD s) (k : Nat) {n : Nat} (hn : n ≤ 9) : AllD (moreB s k n) := by
  intro j hj
  have hj' : j < s.size := by rw [more_size] at hj; exact hj
  have e : (moreB s k n)[j] = if k + 1 - 1 = j then dg n else s[j] := setB_at hj' hj
  rw [e]
  split
  · rw [dg_nat hn]; omega
  · exact hd j hj'
/-- the best of the first k places and how many can cross then; (0, -1): none -/
def bsF (s : ByteArray) (l : Nat) : Nat → Nat × Int
  | 0 => (0, -1)
  | k + 1 => if dD s k + 1 ≤ 9 ∧ (bsF s l k).2 < (nar (moreB s k (dD s k + 1)) l).1 then (k + 1, (nar (moreB s k (dD s k + 1)) l).1) else bsF s l k
theorem bsF_full {s : ByteArray} {l k : Nat} (h : 9 < dD s k + 1) : bsF s l (k + 1) = bsF s l k := by
  simp only [bsF]; rw [if_neg (by omega)]
theorem bsF_yes {s : ByteArray} {l k : Nat} (h : ¬ 9 < dD s k + 1) (h2 : (bsF s l k).2 < (nar (moreB s k (dD s k + 1)) l).1) : bsF s l (k + 1) = (k + 1, (nar (moreB s k (dD s k + 1)) l).1) := by
  simp only [bsF]; rw [if_pos ⟨by omega, h2⟩]
theorem bsF_no {s : ByteArray} {l k : Nat} (h2 : ¬ (bsF s l k).2 < (nar (moreB s k (dD s k + 1)) l).1) : bsF s l (k + 1) = bsF s l k := by
  simp only [bsF]; rw [if_neg (fun h => h2 h.2)]
theorem bsF_small {s : ByteArray} (hd : AllD s) {l : Nat} (hl : l ≤ s.size) : ∀ k, (bsF s l k).1 ≤ k ∧ -1 ≤ (bsF s l k).2 ∧ (bsF s l k).2 ≤ 9 * l ∧ ((bsF s l k).1 = 0 ↔ (bsF s l k).2 = -1)
  | 0 => by simp [bsF]; omega
  | k + 1 => by
    have ih := bsF_small hd hl k
    simp only [bsF]
    split
    · rename_i h
      have := nar_in (more_AllD hd k h.1) (l := l) (by rw [more_size]; exact hl)
      simp only; omega
    · omega
def bestV (s : ByteArray) (L : Int) : Value := if shA s L && !decide ((bsF s L.toNat s.size).1 = 0) then .tuple #[.int .i64 ((bsF s L.toNat s.size).1 : Int), .int .i64 (bsF s L.toNat s.size).2, .bool true] else .tuple #[.int .i64 0, .int .i64 0, .bool false]
theorem bestV_form (s : ByteArray) (L : Int) : ∃ x y z, bestV s L = .tuple #[.int .i64 x, .int .i64 y, .bool z] := by unfold bestV; split <;> exact ⟨_, _, _, rfl⟩
theorem bestV_no {s : ByteArray} {L : Int} (h : shA s L = false) : bestV s L = .tuple #[.int .i64 0, .int .i64 0, .bool false] := by simp [bestV, h]
theorem bestV_none {s : ByteArray} {l : Nat} (h2 : (bsF s l s.size).1 = 0) : bestV s (l : Int) = .tuple #[.int .i64 0, .int .i64 0, .bool false] := by simp [bestV, h2]
theorem bestV_yes {s : ByteArray} {l : Nat} (h : shA s (l : Int) = true) (h2 : (bsF s l s.size).1 ≠ 0) : bestV s (l : Int) = .tuple #[.int .i64 ((bsF s l s.size).1 : Int), .int .i64 (bsF s l s.size).2, .bool true] := by simp [bestV, h, h2]
set_option maxHeartbeats 2000000 in
theorem specBest (s : ByteArray) (L : Int) (w : World) (hs : s.size ≤ 1048576) :
    Calls Try.prog 23 #[.string s, .int .i64 L] w fun e w' => e = .returned (bestV s L) ∧ Below w.heap.size w w' := by
  cases h : shA s L
  · have J := Lib.hid (bestV_no h)
    have G := Lib.hid h
    clear h
    go_enter Try.func23, Try.ntmps23
    go_wp2_with (go_at_call 27; refine (siShort _ _ _ hs).mono ?_; rintro e w' ⟨rfl, rfl⟩; rw [G.out])
    go_ret3
    exact ⟨ret_v J.out.symm, Below.refl _ _⟩
  · obtain ⟨h1, h2, h3, h4⟩ := shA_in h
    obtain ⟨z1, z2, hd⟩ := isSt_in h1
    obtain ⟨l, rfl⟩ : ∃ l : Nat, L = (l : Int) := ⟨L.toNat, by omega⟩
    have J0 := Lib.hid (fun h0 => bestV_none (s := s) (l := l) h0)
    have J1 := Lib.hid (fun h0 => bestV_yes (s := s) (l := l) h h0)
    have HD := Lib.hid hd
    have G := Lib.hid h
    have hls : l ≤ s.size := by omega
    clear h h1 hd
    go_enter Try.func23, Try.ntmps23
    go_wp2_with (go_at_call 27; refine (siShort _ _ _ hs).mono ?_; rintro e w' ⟨rfl, rfl⟩; rw [G.out])
    go_loopw [7, 8, 9] (fun b m p wr => ∃ k : Nat, k ≤ s.size ∧ p = .int .i64 ((k : Int) + 1) ∧ b = .int .i64 ((bsF s l k).1 : Int) ∧ m = .int .i64 (bsF s l k).2 ∧ Hid (Below w.heap.size w wr)) (fun _ _ p _ => s.size + 1 - (intOf p).toNat)
    case atStart => exact ⟨0, Nat.zero_le _, rfl, rfl, rfl, Lib.hid (Below.refl _ _)⟩
    case round =>
      obtain ⟨k, hk, rfl, rfl, rfl, HB⟩ := hrel
      have hsm := bsF_small HD.out hls k
      by_cases hlt : k < s.size
      · have hlt' : (k : Int) + 1 ≤ s.size := by omega
        have M := siMore s k 1 wr HD.out z2 hlt (by omega) (by omega)
        have hdl := dD_le HD.out k
        by_cases hf : 9 < dD s k + 1
        · have R := Lib.hid (bsF_full (l := l) hf)
          rw [moreV_no hf] at M
          have HM := Lib.hid M
          clear M
          generalize bsF s l k = b at *
          obtain ⟨x, y⟩ := b
          simp only at hsm R
          go_wp2_with (go_at_call 44; refine HM.out.mono ?_; rintro e w2 ⟨rfl, hb2⟩)
          go_roundw
          case rel => exact ⟨k + 1, by omega, by go_num, by rw [R.out], by rw [R.out], Lib.hid (HB.out.trans (hb2.mono HB.out.size))⟩
          case measure => (simp [intOf]; try omega)
        · rw [moreV_yes (by omega)] at M
          have HM := Lib.hid M
          have C := Lib.hid (fun wx => siNarrow (moreB s k (dD s k + 1)) l wx (more_AllD HD.out k (by omega)) (by rw [more_size]; exact z2) (by omega) (by omega))
          have hna := nar_in (more_AllD HD.out k (n := dD s k + 1) (by omega)) (l := l) (by rw [more_size]; exact hls)
          have Y := Lib.hid (fun h2 => bsF_yes (l := l) hf h2)
          have N := Lib.hid (fun h2 => bsF_no (s := s) (l := l) (k := k) h2)
          clear M hf
          generalize nar (moreB s k (dD s k + 1)) l = q at *
          generalize moreB s k (dD s k + 1) = t at *
          generalize bsF s l k = b at *
          obtain ⟨x, y⟩ := b
          obtain ⟨q1, q2⟩ := q
          simp only at hsm hna Y N
          by_cases hy : y < q1
          · have R := Lib.hid (Y.out hy)
            clear Y N
            go_wp2_with (first
              | (go_at_call 44; refine HM.out.mono ?_; rintro e w2 ⟨rfl, hb2⟩)
              | (go_at_call 28; refine (C.out _).mono ?_; rintro e w' ⟨rfl, rfl⟩))
            go_roundw
            case rel => exact ⟨k + 1, by omega, by go_num, by rw [R.out]; go_num, by rw [R.out], Lib.hid (HB.out.trans (hb2.mono HB.out.size))⟩
            case measure => (simp [intOf]; try omega)
          · have R := Lib.hid (N.out hy)
            clear Y N
            go_wp2_with (first
              | (go_at_call 44; refine HM.out.mono ?_; rintro e w2 ⟨rfl, hb2⟩)
              | (go_at_call 28; refine (C.out _).mono ?_; rintro e w' ⟨rfl, rfl⟩))
            go_roundw
            case rel => exact ⟨k + 1, by omega, by go_num, by rw [R.out], by rw [R.out], Lib.hid (HB.out.trans (hb2.mono HB.out.size))⟩
            case measure => (simp [intOf]; try omega)
      · obtain rfl : k = s.size := by omega
        generalize bsF s l s.size = b at *
        obtain ⟨x, y⟩ := b
        simp only at hsm J0 J1
        by_cases hx : x = 0
        · have R := Lib.hid (J0.out hx)
          subst hx
          go_wp2
          go_ret3
          exact ⟨ret_v R.out.symm, HB.out⟩
        · have R := Lib.hid (J1.out hx)
          have hx' : ¬ (x : Int) = 0 := by omega
          have hx2 : ((x : Int) == 0) = false := by simpa using hx'
          go_wp2
          go_ret3
          exact ⟨ret_v R.out.symm, HB.out⟩
set_option maxHeartbeats 2000000 in
theorem implBest (s : ByteArray) (L : Int) (w : World) (hs : s.size ≤ 1048576) :
    Calls Try.prog 24 #[.string s, .int .i64 L] w fun e w' => e = .returned (bestV s L) ∧ Below w.heap.size w w' := by
  have C0 := implMost s L w hs
  cases h : shA s L
  · have J := Lib.hid (bestV_no h)
    rw [mostV_no h] at C0
    have HC0 := Lib.hid C0
    clear h C0
    go_enter Try.func24, Try.ntmps24
    go_wp2_with (go_at_call 11; refine HC0.out.mono ?_; rintro e w1 ⟨rfl, hb1⟩)
    go_ret3
    exact ⟨ret_v J.out.symm, hb1⟩
  · obtain ⟨h1, h2, h3, h4⟩ := shA_in h
    obtain ⟨z1, z2, hd⟩ := isSt_in h1
    obtain ⟨l, rfl⟩ : ∃ l : Nat, L = (l : Int) := ⟨L.toNat, by omega⟩
    have J0 := Lib.hid (fun h0 => bestV_none (s := s) (l := l) h0)
    have J1 := Lib.hid (fun h0 => bestV_yes (s := s) (l := l) h h0)
    rw [mostV_yes h] at C0
    have HC0 := Lib.hid C0
    have HD := Lib.hid hd
    have H1 := Lib.hid h1
    have hls : l ≤ s.size := by omega
    clear h h1 hd C0
    go_enter Try.func24, Try.ntmps24
    go_wp2_with (go_at_call 11; refine HC0.out.mono ?_; rintro e w1 ⟨rfl, hb1⟩)
    have HB1 := Lib.hid hb1
    clear hb1
    go_loopw [9, 10, 11] (fun b m p wr => ∃ k : Nat, k ≤ s.size ∧ p = .int .i64 ((k : Int) + 1) ∧ b = .int .i64 ((bsF s l k).1 : Int) ∧ m = .int .i64 (if (bsF s l k).1 = 0 then 0 else (bsF s l k).2) ∧ Hid (Below w.heap.size w wr)) (fun _ _ p _ => s.size + 1 - (intOf p).toNat)
    case atStart => exact ⟨0, Nat.zero_le _, rfl, rfl, rfl, HB1⟩
    case round =>
      obtain ⟨k, hk, rfl, rfl, rfl, HB⟩ := hrel
      have hsm := bsF_small HD.out hls k
      by_cases hlt : k < s.size
      · have hlt' : (k : Int) + 1 ≤ s.size := by omega
        have M := implStr s ((k : Int) + 1) 1 wr (by omega) (by omega)
        have e4 : strV s ((k : Int) + 1) 1 = moreV s k (dD s k + 1) := strV_4 (b := 1) H1.out hlt (by omega) (by omega)
        rw [e4] at M
        clear e4
        have hdl := dD_le HD.out k
        by_cases hf : 9 < dD s k + 1
        · have R := Lib.hid (bsF_full (l := l) hf)
          rw [moreV_no hf] at M
          have HM := Lib.hid (show Calls Try.prog 45 #[.string s, .int .i64 ((k : Int) + 1), .int .i64 1] wr _ from M)
          clear M
          generalize bsF s l k = b at *
          obtain ⟨x, y⟩ := b
          simp only at hsm R
          obtain ⟨m, hm⟩ : ∃ m : Int, m = if x = 0 then 0 else y := ⟨_, rfl⟩
          rw [← hm]
          have hmb : -1 ≤ m ∧ m ≤ 9 * l := by split at hm <;> omega
          have hmy : x ≠ 0 → m = y := fun h => by rw [hm, if_neg h]
          have HM0 := Lib.hid hm
          have HMY := Lib.hid hmy
          have HSM := Lib.hid hsm
          have hxk : x ≤ k := hsm.1
          clear hm hmy hsm
          go_wp2_with (go_at_call 45; refine HM.out.mono ?_; rintro e w2 ⟨rfl, hb2⟩)
          go_roundw
          case rel => exact ⟨k + 1, by omega, by go_num, by rw [R.out], by rw [R.out]; exact congrArg (Value.int .i64) HM0.out, Lib.hid (HB.out.trans (hb2.mono HB.out.size))⟩
          case measure => (simp [intOf]; try omega)
        · rw [moreV_yes (by omega)] at M
          have HM := Lib.hid (show Calls Try.prog 45 #[.string s, .int .i64 ((k : Int) + 1), .int .i64 1] wr _ from M)
          have C := Lib.hid (fun wx => narrowest (moreB s k (dD s k + 1)) l wx (more_AllD HD.out k (by omega)) (by rw [more_size]; exact z2) (by omega) (by omega))
          have hna := nar_in (more_AllD HD.out k (n := dD s k + 1) (by omega)) (l := l) (by rw [more_size]; exact hls)
          have Y := Lib.hid (fun h2 => bsF_yes (l := l) hf h2)
          have N := Lib.hid (fun h2 => bsF_no (s := s) (l := l) (k := k) h2)
          clear M hf
          generalize nar (moreB s k (dD s k + 1)) l = q at *
          generalize moreB s k (dD s k + 1) = t at *
          generalize bsF s l k = b at *
          obtain ⟨x, y⟩ := b
          obtain ⟨q1, q2⟩ := q
          simp only at hsm hna Y N
          have e : nI (q1, q2) = q1 := by unfold nI; rw [if_neg]; simp only; omega
          have C' := C.out
          rw [e] at C'
          have HC := Lib.hid C'
          clear C C' e
          obtain ⟨m, hm⟩ : ∃ m : Int, m = if x = 0 then 0 else y := ⟨_, rfl⟩
          rw [← hm]
          have hmb : -1 ≤ m ∧ m ≤ 9 * l := by split at hm <;> omega
          have hmy : x ≠ 0 → m = y := fun h => by rw [hm, if_neg h]
          have HM0 := Lib.hid hm
          have HMY := Lib.hid hmy
          have HSM := Lib.hid hsm
          have hxk : x ≤ k := hsm.1
          clear hm hmy hsm
          by_cases hx : x = 0
          · have R := Lib.hid (Y.out (by have := HSM.out.2.2.2.1 hx; omega))
            subst hx
            clear Y N
            go_wp2_with (first
              | (go_at_call 45; refine HM.out.mono ?_; rintro e w2 ⟨rfl, hb2⟩)
              | (go_at_call 30; refine (HC.out _).mono ?_; rintro e w3 ⟨rfl, hb3⟩)
              | (go_at_call 31; refine (partSum _ _ _).mono ?_; rintro e w4 ⟨rfl, hb4⟩))
            go_roundw
            case rel => exact ⟨k + 1, by omega, by go_num, by rw [R.out]; go_num, by rw [R.out]; simp, Lib.hid (HB.out.trans ((hb2.trans ((hb3.trans (hb4.mono hb3.size)).mono hb2.size)).mono HB.out.size))⟩
            case measure => (simp [intOf]; try omega)
          have hx' : ¬ (x : Int) = 0 := by omega
          have hx2 : ((x : Int) == 0) = false := by simpa using hx'
          have hmy := HMY.out hx
          by_cases hy : m < q1
          · have R := Lib.hid (Y.out (by omega))
            clear Y N hmy
            go_wp2_with (first
              | (go_at_call 45; refine HM.out.mono ?_; rintro e w2 ⟨rfl, hb2⟩)
              | (go_at_call 30; refine (HC.out _).mono ?_; rintro e w3 ⟨rfl, hb3⟩)
              | (go_at_call 31; refine (partSum _ _ _).mono ?_; rintro e w4 ⟨rfl, hb4⟩))
            go_roundw
            case rel => exact ⟨k + 1, by omega, by go_num, by rw [R.out]; go_num, by rw [R.out]; simp, Lib.hid (HB.out.trans ((hb2.trans ((hb3.trans (hb4.mono hb3.size)).mono hb2.size)).mono HB.out.size))⟩
            case measure => (simp [intOf]; try omega)
          · have R := Lib.hid (N.out (by omega))
            clear Y N hmy
            go_wp2_with (first
              | (go_at_call 45; refine HM.out.mono ?_; rintro e w2 ⟨rfl, hb2⟩)
              | (go_at_call 30; refine (HC.out _).mono ?_; rintro e w3 ⟨rfl, hb3⟩)
              | (go_at_call 31; refine (partSum _ _ _).mono ?_; rintro e w4 ⟨rfl, hb4⟩))
            go_roundw
            case rel => exact ⟨k + 1, by omega, by go_num, by rw [R.out], by rw [R.out]; exact congrArg (Value.int .i64) HM0.out, Lib.hid (HB.out.trans ((hb2.trans ((hb3.trans (hb4.mono hb3.size)).mono hb2.size)).mono HB.out.size))⟩
            case measure => (simp [intOf]; try omega)
      · obtain rfl : k = s.size := by omega
        generalize bsF s l s.size = b at *
        obtain ⟨x, y⟩ := b
        simp only at hsm J0 J1
        obtain ⟨m, hm⟩ : ∃ m : Int, m = if x = 0 then 0 else y := ⟨_, rfl⟩
        rw [← hm]
        have hmb : -1 ≤ m ∧ m ≤ 9 * l := by split at hm <;> omega
        have hmy : x ≠ 0 → m = y := fun h => by rw [hm, if_neg h]
        have HM0 := Lib.hid hm
        have HMY := Lib.hid hmy
        have HSM := Lib.hid hsm
        have hxk := hsm.1
        clear hm hmy hsm
        by_cases hx : x = 0
        · have R := Lib.hid (J0.out hx)
          subst hx
          have m0 : m = 0 := by rw [HM0.out]; rfl
          subst m0
          go_wp2
          go_ret3
          exact ⟨ret_v R.out.symm, HB.out⟩
        · have R := Lib.hid (J1.out hx)
          have hx' : ¬ (x : Int) = 0 := by omega
          have hx2 : (0 : Int) < x := by omega
          have hmy := HMY.out hx
          rw [← hmy] at R
          clear hmy
          go_wp2
          go_ret3
          exact ⟨ret_v (by show Value.tuple #[.int .i64 (x : Int), .int .i64 m, .bool (decide (0 < x))] = _; rw [decide_eq_true (show 0 < x by omega)]; exact R.out.symm), HB.out⟩
end Go.Proofs.Ytihdhgkknfohaab
