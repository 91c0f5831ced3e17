/- ArrivalsOf, EarliestAt, both sides; impl's coast.hoursNeeded. -/
import Derived.Test.YtmlokapbholeoabTx
import Derived.Test.YtmlokapbholeoabUb
namespace Go.Proofs.Ytmlokapbholeoab
set_option linter.unusedVariables false
open Go.RowKit

theorem Calls.intsNoU {P : Program} {f : FuncId} {args : Array Value} {w : World} (h : Calls P f args w fun e w' => e = .returned (.tuple #[.slice none 0 0, .bool false]) ∧ Below w.heap.size w w') :
    Calls P f args w fun e w' => ∃ v, e = .returned (.tuple #[v, .bool false]) ∧ Ints w' w.heap.size v [] ∧ Below w.heap.size w w' :=
  h.mono (by rintro e w' ⟨rfl, hb⟩; exact ⟨_, rfl, World.ownsRow_nil _ _ _ _, hb⟩)
def arL (h t : ByteArray) (L X : Int) : List Int := if askd h t L X then fl (h.size + 2) (arV h t L.toNat X.toNat) else []
theorem arL_len (h t : ByteArray) (L X : Int) : (arL h t L X).length ≤ 1000 := by
  unfold arL; split
  · rename_i g
    have := (good_in (lpd_in (askd_in g).1).1).1.2.1
    rw [fl_len]; omega
  · simp
set_option maxHeartbeats 1000000 in
theorem specAr (h t : ByteArray) (L X : Int) (w : World) (hs : h.size ≤ 1048576 ∧ t.size ≤ 1048576) :
    Calls Try.prog 10 #[.string h, .string t, .int .i64 L, .int .i64 X] w fun e w' => ∃ v, e = .returned (.tuple #[v, .bool (askd h t L X)]) ∧ Ints w' w.heap.size v (arL h t L X) ∧ Below w.heap.size w w' := by
  have A := fun wx => tdAsked h t L X wx hs.1 hs.2
  unfold arL
  cases ha : askd h t L X
  · rw [ha] at A
    have HA := Lib.hid A
    clear A ha
    refine Calls.intsNoU ?_
    go_enter Try.func10, Try.ntmps10
    go_wp2_with (go_at_call 27; refine (HA.out _).mono ?_; rintro e w' ⟨rfl, rfl⟩)
    go_ret2
    exact ⟨rfl, Below.refl _ _⟩
  · obtain ⟨hl, x0, x1⟩ := askd_in ha
    obtain ⟨hg, l0, l1⟩ := lpd_in hl
    obtain ⟨s, rfl⟩ : ∃ s : Nat, X = s := ⟨X.toNat, by omega⟩
    obtain ⟨l, rfl⟩ : ∃ l : Nat, L = l := ⟨L.toNat, by omega⟩
    have D := Lib.hid (fun wx => tdArrive h t l s wx hg (by omega) (by omega))
    rw [ha] at A
    have HA := Lib.hid A
    simp only [if_true, Int.toNat_natCast]
    clear A ha hg hl
    go_enter Try.func10, Try.ntmps10
    go_wp2_with (first
      | (go_at_call 27; refine (HA.out _).mono ?_; rintro e w' ⟨rfl, rfl⟩)
      | (go_at_call 28; refine (D.out _).mono ?_; rintro e w2 ⟨d, rfl, hv, hb2⟩))
    go_ret2
    exact ⟨_, rfl, hv, hb2⟩
set_option maxHeartbeats 1000000 in
theorem implAr (h t : ByteArray) (L X : Int) (w : World) (hs : h.size ≤ 1048576 ∧ t.size ≤ 1048576) :
    Calls Try.prog 11 #[.string h, .string t, .int .i64 L, .int .i64 X] w fun e w' => ∃ v, e = .returned (.tuple #[v, .bool (askd h t L X)]) ∧ Ints w' w.heap.size v (arL h t L X) ∧ Below w.heap.size w w' := by
  have A := fun wx => isVAt h t L X wx hs.1 hs.2
  have X0 := Lib.hid (Blk.new w #[.string h, .string t] 37)
  have B0 := Lib.hid ((Below.refl w.heap.size w).alloc (Nat.le_refl _) (.cells #[.string h, .string t] 37))
  unfold arL
  cases ha : askd h t L X
  · rw [ha] at A
    have HA := Lib.hid A
    clear A ha
    refine Calls.intsNoU ?_
    go_enter Try.func11, Try.ntmps11
    go_wp2_with fail
    refine (HA.out _).mono ?_
    rintro e w1 ⟨rfl, hb1⟩
    go_wp2
    go_ret2
    exact ⟨rfl, B0.out.trans (hb1.mono (by simp))⟩
  · obtain ⟨hl, x0, x1⟩ := askd_in ha
    obtain ⟨hg, l0, l1⟩ := lpd_in hl
    obtain ⟨s, rfl⟩ : ∃ s : Nat, X = s := ⟨X.toNat, by omega⟩
    obtain ⟨l, rfl⟩ : ∃ l : Nat, L = l := ⟨L.toNat, by omega⟩
    have D := Lib.hid (fun wx => arrivals h t l s wx hg (by omega) (by omega))
    rw [ha] at A
    have HA := Lib.hid A
    simp only [if_true, Int.toNat_natCast]
    unfold cst at D
    clear A ha hg hl
    go_enter Try.func11, Try.ntmps11
    go_wp2_with fail
    refine (HA.out _).mono ?_
    rintro e w1 ⟨rfl, hb1⟩
    obtain ⟨c0, c1, cl⟩ := (X0.out.below hb1 (by simp)).two
    have s1 : w.heap.size + 1 ≤ w1.heap.size := by have := hb1.size; simpa using this
    have B1 := Lib.hid (B0.out.trans (hb1.mono (by simp)))
    clear hb1
    go_wp2_with fail
    refine (D.out _).mono ?_
    rintro e w2 ⟨d, rfl, hv, hb2⟩
    go_wp2
    go_ret2
    exact ⟨_, rfl, ints_mono' hv (by omega), B1.out.trans (hb2.mono (by omega))⟩
def eaV (h t : ByteArray) (L X : Int) : Value := if askd h t L X = true ∧ 0 ≤ arV h t L.toNat X.toNat (h.size + 1) then .tuple #[.int .i64 (arV h t L.toNat X.toNat (h.size + 1)), .bool true] else .tuple #[.int .i64 0, .bool false]
theorem eaV_no {h t : ByteArray} {L X : Int} (g : ¬ (askd h t L X = true ∧ 0 ≤ arV h t L.toNat X.toNat (h.size + 1))) : eaV h t L X = .tuple #[.int .i64 0, .bool false] := if_neg g
theorem eaV_yes {h t : ByteArray} {L X : Int} (g : askd h t L X = true ∧ 0 ≤ arV h t L.toNat X.toNat (h.size + 1)) : eaV h t L X = .tuple #[.int .i64 (arV h t L.toNat X.toNat (h.size + 1)), .bool true] := if_pos g
theorem eaV_form (h t : ByteArray) (L X : Int) : ∃ x y, eaV h t L X = .tuple #[.int .i64 x, .bool y] := by
  unfold eaV; split <;> exact ⟨_, _, rfl⟩
theorem arV_bd (h t : ByteArray) (L s p : Nat) (hg : good h t = true) : -1 ≤ arV h t L s p ∧ arV h t L s p ≤ s + 204 := by
  have := arr_bd h t L s p (kHrs h t)
  have := kHrs_le hg
  unfold arV; omega
set_option maxHeartbeats 1000000 in
theorem specEa (h t : ByteArray) (L X : Int) (w : World) (hs : h.size ≤ 1048576 ∧ t.size ≤ 1048576) :
    Calls Try.prog 15 #[.string h, .string t, .int .i64 L, .int .i64 X] w fun e w' => e = .returned (eaV h t L X) ∧ Below w.heap.size w w' := by
  have A := fun wx => tdAsked h t L X wx hs.1 hs.2
  cases ha : askd h t L X
  · have J := Lib.hid (eaV_no (h := h) (t := t) (L := L) (X := X) (by rw [ha]; simp))
    rw [ha] at A
    have HA := Lib.hid A
    clear A ha
    go_enter Try.func15, Try.ntmps15
    go_wp2_with (go_at_call 27; refine (HA.out _).mono ?_; rintro e w' ⟨rfl, rfl⟩)
    go_ret2
    exact ⟨ret_v J.out.symm, Below.refl _ _⟩
  · obtain ⟨hl, x0, x1⟩ := askd_in ha
    obtain ⟨hg, l0, l1⟩ := lpd_in hl
    obtain ⟨s, rfl⟩ : ∃ s : Nat, X = s := ⟨X.toNat, by omega⟩
    obtain ⟨l, rfl⟩ : ∃ l : Nat, L = l := ⟨L.toNat, by omega⟩
    have D := Lib.hid (fun wx => tdEnd h t l s wx hg (by omega) (by omega))
    rw [ha] at A
    have HA := Lib.hid A
    by_cases hz : 0 ≤ arV h t l s (h.size + 1)
    · have J := eaV_yes (h := h) (t := t) (L := (l : Int)) (X := (s : Int)) ⟨ha, by simpa using hz⟩
      simp only [Int.toNat_natCast] at J
      have HJ := Lib.hid J
      have hz' : ¬ arV h t l s (h.size + 1) < 0 := by omega
      clear A ha hg hl J
      generalize arV h t l s (h.size + 1) = y at *
      go_enter Try.func15, Try.ntmps15
      go_wp2_with (first
        | (go_at_call 27; refine (HA.out _).mono ?_; rintro e w' ⟨rfl, rfl⟩)
        | (go_at_call 31; refine (D.out _).mono ?_; rintro e w2 ⟨rfl, hb2⟩))
      go_ret2
      exact ⟨ret_v HJ.out.symm, hb2⟩
    · have J := eaV_no (h := h) (t := t) (L := (l : Int)) (X := (s : Int)) (fun c => hz (by simpa using c.2))
      have HJ := Lib.hid J
      have hz' : arV h t l s (h.size + 1) < 0 := by omega
      clear A ha hg hl J
      generalize arV h t l s (h.size + 1) = y at *
      go_enter Try.func15, Try.ntmps15
      go_wp2_with (first
        | (go_at_call 27; refine (HA.out _).mono ?_; rintro e w' ⟨rfl, rfl⟩)
        | (go_at_call 31; refine (D.out _).mono ?_; rintro e w2 ⟨rfl, hb2⟩))
      go_ret2
      exact ⟨ret_v HJ.out.symm, hb2⟩
set_option maxHeartbeats 1000000 in
theorem implEa (h t : ByteArray) (L X : Int) (w : World) (hs : h.size ≤ 1048576 ∧ t.size ≤ 1048576) :
    Calls Try.prog 16 #[.string h, .string t, .int .i64 L, .int .i64 X] w fun e w' => e = .returned (eaV h t L X) ∧ Below w.heap.size w w' := by
  have A := fun wx => implAr h t L X wx hs
  cases ha : askd h t L X
  · have J := Lib.hid (eaV_no (h := h) (t := t) (L := L) (X := X) (by rw [ha]; simp))
    rw [ha] at A
    have HA := Lib.hid A
    clear A ha
    go_enter Try.func16, Try.ntmps16
    go_wp2_with (go_at_call 11; refine (HA.out _).mono ?_; rintro e w1 ⟨v, rfl, hv, hb1⟩)
    go_ret2
    exact ⟨ret_v J.out.symm, hb1⟩
  · obtain ⟨hl, x0, x1⟩ := askd_in ha
    obtain ⟨hg, l0, l1⟩ := lpd_in hl
    obtain ⟨s, rfl⟩ : ∃ s : Nat, X = s := ⟨X.toNat, by omega⟩
    obtain ⟨l, rfl⟩ : ∃ l : Nat, L = l := ⟨L.toNat, by omega⟩
    obtain ⟨⟨z1, z2, _⟩, _⟩ := good_in hg
    unfold arL at A
    rw [ha] at A
    simp only [if_true, Int.toNat_natCast] at A
    have HA := Lib.hid A
    have J := Lib.hid (show eaV h t (l : Int) (s : Int) = if 0 ≤ arV h t l s (h.size + 1) then .tuple #[.int .i64 (arV h t l s (h.size + 1)), .bool true] else .tuple #[.int .i64 0, .bool false] by
      unfold eaV; simp [ha])
    have E1 : (((h.size + 2 : Nat) : Int)) - 1 = (h.size : Int) + 1 := by push_cast; omega
    clear A ha hg hl
    go_enter Try.func16, Try.ntmps16
    go_wp2_with fail
    refine (HA.out _).mono ?_
    rintro e w1 ⟨v, rfl, hv, hb1⟩
    obtain ⟨g, n, cap, rfl, hn, _, _, hg1, hg2, hcell⟩ := hv.form (by rw [fl_len]; omega)
    rw [fl_len] at hn
    have c := hcell (h.size + 1) (by omega)
    rw [fl_gt (by omega)] at c
    have hn1 : (n : Int) - 1 = (h.size : Int) + 1 := by omega
    have hn2 : (h.size : Int) + 1 < n := by omega
    have hn3 : (0 : Int) ≤ (h.size : Int) + 1 := by omega
    have hn4 : ((h.size : Int) + 1).toNat = h.size + 1 := by omega
    obtain ⟨y, hy⟩ : ∃ y, y = arV h t l s (h.size + 1) := ⟨_, rfl⟩
    rw [← hy] at c
    have J2 := J.out
    rw [← hy] at J2
    have HB := Lib.hid hb1
    clear hv hb1 hcell hn hy J
    by_cases hz : 0 ≤ y
    · rw [if_pos hz] at J2
      have HJ := Lib.hid J2
      have hz' : ¬ y < 0 := by omega
      clear J2
      go_wp2
      go_ret2
      exact ⟨ret_v HJ.out.symm, HB.out⟩
    · rw [if_neg hz] at J2
      have HJ := Lib.hid J2
      have hz' : y < 0 := by omega
      clear J2
      go_wp2
      go_ret2
      exact ⟨ret_v HJ.out.symm, HB.out⟩
set_option maxHeartbeats 4000000 in
theorem hoursNeeded (h t : ByteArray) (l s : Nat) (w : World) (hg : good h t = true) (hl : l ≤ 100) (hs : s ≤ 2000) :
    Calls Try.prog 39 #[cst h t, .int .i64 (l : Int), .int .i64 (s : Int)] w fun e w' => e = .returned (.int .i64 (hnV h t l s)) ∧ Below w.heap.size w w' := by
  obtain ⟨⟨z1, z2, _⟩, _⟩ := good_in hg
  have hbd := arV_bd h t l s (h.size + 1) hg
  have AR := Lib.hid (fun wx => arrivals h t l s wx hg hl hs)
  have FB := Lib.hid (fun wx => farBankC h t wx (by omega))
  have X0 := Lib.hid (Blk.new w #[.string h, .string t] 37)
  have B0 := Lib.hid ((Below.refl w.heap.size w).alloc (Nat.le_refl _) (.cells #[.string h, .string t] 37))
  obtain ⟨w1, hw1⟩ : ∃ w1, w1 = w.alloc (.cells #[.string h, .string t] 37) := ⟨_, rfl⟩
  have hs1 : w1.heap.size = w.heap.size + 1 := by rw [hw1]; simp
  rw [← hw1] at X0 B0
  have HW1 := Lib.hid hw1
  unfold cst at *
  obtain ⟨c0, c1, cl⟩ := X0.out.two
  have KP := Lib.hid (fun W (hB : Below w1.heap.size w1 W) => (show W.cell? ⟨w.heap.size, 0, none⟩ = some (.string h) ∧ W.cell? ⟨w.heap.size, 1, none⟩ = some (.string t) from ⟨(hB.cell (p := ⟨w.heap.size, 0, none⟩) cl).trans c0, (hB.cell (p := ⟨w.heap.size, 1, none⟩) cl).trans c1⟩))
  obtain ⟨y, hy⟩ : ∃ y, y = arV h t l s (h.size + 1) := ⟨_, rfl⟩
  rw [← hy] at hbd
  have HY := Lib.hid hy
  have HV := Lib.hid (show hnV h t l s = if y < 0 then -1 else y - s by unfold hnV; rw [← hy])
  have n1 : h.size + 1 < h.size + 2 := by omega
  have n2 : (h.size : Int) + 1 < (h.size : Int) + 2 := by omega
  have n3 : (0 : Int) ≤ (h.size : Int) + 1 := by omega
  have n4 : ((h.size : Int) + 1).toNat = h.size + 1 := by omega
  clear hw1 hy hg
  go_enter Try.func39, Try.ntmps39
  go_wp2_with fail
  rw [← HW1.out]
  go_region_with (first
    | (go_at_call 30; refine (AR.out _).mono ?_; rintro e w2 ⟨d, rfl, hI, hb2⟩; have D2 := Lib.hid (Below.trans (by (repeat (first | exact Below.refl _ _ | (refine Below.alloc ?_ (by first | omega | (simp; try omega)) _) | apply Below.drew | apply below_drewN))) (hb2.mono (by simp; try omega)) : Below w1.heap.size w1 w2); obtain ⟨e0, e1⟩ := KP.out _ D2.out; have cc := hI.at_ (j := h.size + 1) n1; rw [← HY.out] at cc; have hdl := hI.blk.2; clear hb2 hI)
    | (go_at_call 46; refine (FB.out _).mono ?_; rintro e w3 ⟨rfl, hb3⟩; have cd := (hb3.cell (p := ⟨d, h.size + 1, none⟩) hdl).trans cc; have D3 := Lib.hid (D2.out.trans (hb3.mono (by have := D2.out.size; simp; try omega)) : Below w1.heap.size w1 w3); clear hb3))
  all_goals
    have BB := Lib.hid (B0.out.trans (D3.out.mono (by omega)))
    by_cases hz : y < 0
    · have J := HV.out
      rw [if_pos hz] at J
      have HJ := Lib.hid J
      clear J
      go_wp2
      go_ret
      exact ⟨ret_v (congrArg (Value.int .i64) HJ.out.symm), BB.out⟩
    · have J := HV.out
      rw [if_neg hz] at J
      have HJ := Lib.hid J
      clear J
      go_wp2
      go_ret
      exact ⟨ret_v (congrArg (Value.int .i64) HJ.out.symm), BB.out⟩
end Go.Proofs.Ytmlokapbholeoab
