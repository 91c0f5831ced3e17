/- DryAt, both sides. -/
import Derived.Test.YtmlokapbholeoaaTy
import Derived.Test.YtmlokapbholeoaaBy
namespace Go.Proofs.Ytmlokapbholeoaa
set_option linter.unusedVariables false
open Go.RowKit

/-- the signs of the first k places at an hour -/
def drySg (h t : ByteArray) (x k : Nat) : UInt8 := if dry h t (k + 1) x then 111 else 46
def dryS (h t : ByteArray) (x : Nat) : Nat → List UInt8
  | 0 => []
  | k + 1 => dryS h t x k ++ [drySg h t x k]
theorem dryS_len (h t : ByteArray) (x : Nat) : ∀ k, (dryS h t x k).length = k
  | 0 => rfl
  | k + 1 => by simp [dryS, dryS_len h t x k]
def datB (h t : ByteArray) (X : Int) : Bool := good h t && inB X 0 1000
def datV (h t : ByteArray) (X : Int) : Value := if datB h t X then .tuple #[.string ⟨(dryS h t X.toNat h.size).toArray⟩, .bool true] else .tuple #[.string ⟨#[]⟩, .bool false]
theorem datV_no {h t : ByteArray} {X : Int} (g : datB h t X = false) : datV h t X = .tuple #[.string ⟨#[]⟩, .bool false] := by simp [datV, g]
theorem datV_yes {h t : ByteArray} {X : Int} (g : datB h t X = true) : datV h t X = .tuple #[.string ⟨(dryS h t X.toNat h.size).toArray⟩, .bool true] := by simp [datV, g]
theorem datV_form (h t : ByteArray) (X : Int) : ∃ s b, datV h t X = .tuple #[.string s, .bool b] := by
  unfold datV; split <;> exact ⟨_, _, rfl⟩
theorem lst_size {o : ByteArray} {l : List UInt8} (h : o.data.toList = l) : o.size = l.length := by
  subst h; simp
theorem lst_snoc {o : ByteArray} {l : List UInt8} (c : UInt8) (h : o.data.toList = l) : (o ++ ⟨#[c]⟩).data.toList = l ++ [c] := by
  rw [ByteArray.data_append, Array.toList_append, h]
theorem lst_end {o : ByteArray} {l : List UInt8} (h : o.data.toList = l) : o = ⟨l.toArray⟩ := by
  apply ByteArray.ext
  apply Array.toList_inj.1
  rw [h]
set_option maxHeartbeats 2000000 in
theorem specDat (h t : ByteArray) (X : Int) (w : World) (hs : h.size ≤ 1048576 ∧ t.size ≤ 1048576) :
    Calls Try.prog 14 #[.string h, .string t, .int .i64 X] w fun e w' => e = .returned (datV h t X) ∧ Below w.heap.size w w' := by
  have G := fun wx => tdGood h t wx (by unfold maxLen; omega) (by unfold maxLen; omega)
  cases hg : good h t
  · have J := Lib.hid (datV_no (h := h) (t := t) (X := X) (by simp [datB, hg]))
    rw [hg] at G
    have HG := Lib.hid G
    clear G hg
    go_enter Try.func14, Try.ntmps14
    go_wp2_with (go_at_call 29; refine (HG.out _).mono ?_; rintro e w' ⟨rfl, rfl⟩)
    go_ret2
    exact ⟨ret_v J.out.symm, Below.refl _ _⟩
  cases hi : inB X 0 1000
  · have J := Lib.hid (datV_no (h := h) (t := t) (X := X) (by simp [datB, hi]))
    rw [hg] at G
    have HG := Lib.hid G
    have I := Lib.hid (fun wx => tdHour X wx)
    rw [hi] at I
    clear G hg hi
    go_enter Try.func14, Try.ntmps14
    go_wp2_with (first
      | (go_at_call 29; refine (HG.out _).mono ?_; rintro e w' ⟨rfl, rfl⟩)
      | (go_at_call 30; refine (I.out _).mono ?_; rintro e w' ⟨rfl, rfl⟩))
    go_ret2
    exact ⟨ret_v J.out.symm, Below.refl _ _⟩
  · have J := Lib.hid (datV_yes (h := h) (t := t) (X := X) (by simp [datB, hi, hg]))
    have hp : 0 ≤ X ∧ X ≤ 1000 := by simpa [inB] using hi
    obtain ⟨⟨z1, z2, _⟩, ⟨z3, z4, _⟩⟩ := good_in hg
    obtain ⟨x, hx⟩ : ∃ x : Nat, x = X.toNat := ⟨_, rfl⟩
    have hxX : X = x := by omega
    rw [← hx] at J
    have HX := Lib.hid hxX
    have D := Lib.hid (fun k (hk : k < h.size) wx => tdDry h t (k + 1) x ((k : Int) + 1) X wx (by omega) HX.out hg (by omega) (by omega))
    rw [hg] at G
    have HG := Lib.hid G
    have I := Lib.hid (fun wx => tdHour X wx)
    rw [hi] at I
    clear G hg hi hx hxX
    go_enter Try.func14, Try.ntmps14
    go_wp2_with (first
      | (go_at_call 29; refine (HG.out _).mono ?_; rintro e w' ⟨rfl, rfl⟩)
      | (go_at_call 30; refine (I.out _).mono ?_; rintro e w' ⟨rfl, rfl⟩))
    go_loopw [8, 9] (fun o i wr => ∃ (k : Nat) (b : ByteArray), k ≤ h.size ∧ i = .int .i64 ((k : Int) + 1) ∧ o = .string b ∧ Hid (b.data.toList = dryS h t x k) ∧ Below w.heap.size w wr) (fun _ i _ => h.size + 1 - (intOf i).toNat)
    case atStart => exact ⟨0, ⟨#[]⟩, Nat.zero_le _, rfl, rfl, Lib.hid rfl, Below.refl _ _⟩
    case round =>
      obtain ⟨k, b, hk, rfl, rfl, HO, hbw⟩ := hrel
      have hsz := lst_size HO.out
      rw [dryS_len] at hsz
      have b1 : b.size + 1 ≤ 100 := by omega
      by_cases hlt : k < h.size
      · have hlt' : (k : Int) + 1 ≤ h.size := by omega
        have C := Lib.hid (D.out k hlt)
        have HB := Lib.hid hbw
        clear hbw hsz
        cases hd : dry h t (k + 1) x
        · have S := Lib.hid (show (b ++ ⟨#[46]⟩).data.toList = dryS h t x (k + 1) by rw [lst_snoc 46 HO.out]; simp [dryS, drySg, hd])
          rw [hd] at C
          clear hd
          go_wp2_with (go_at_call 31; refine (C.out _).mono ?_; rintro e w2 ⟨rfl, n, rfl⟩)
          go_roundw
          case rel => exact ⟨k + 1, _, by omega, by go_num, rfl, S, below_drewN HB.out _⟩
          case measure => simp [intOf]; omega
        · have S := Lib.hid (show (b ++ ⟨#[111]⟩).data.toList = dryS h t x (k + 1) by rw [lst_snoc 111 HO.out]; simp [dryS, drySg, hd])
          rw [hd] at C
          clear hd
          go_wp2_with (go_at_call 31; refine (C.out _).mono ?_; rintro e w2 ⟨rfl, n, rfl⟩)
          go_roundw
          case rel => exact ⟨k + 1, _, by omega, by go_num, rfl, S, below_drewN HB.out _⟩
          case measure => simp [intOf]; omega
      · obtain rfl : k = h.size := by omega
        have J2 := J.out
        rw [← lst_end HO.out] at J2
        have J3 := Lib.hid J2
        clear hsz J2
        go_wp2
        go_ret2
        exact ⟨ret_v J3.out.symm, hbw⟩
/-- the first k bytes turned by f, which knows the index -/
def mapI (f : Nat → UInt8) (l : List UInt8) : Nat → List UInt8
  | 0 => l
  | k + 1 => (mapI f l k).set k (f k)
theorem mapI_len (f : Nat → UInt8) (l : List UInt8) : ∀ k, (mapI f l k).length = l.length
  | 0 => rfl
  | k + 1 => by simp [mapI, mapI_len f l k]
theorem mapI_eq (h t : ByteArray) (x : Nat) (l : List UInt8) : ∀ k, k ≤ l.length → mapI (drySg h t x) l k = dryS h t x k ++ l.drop k
  | 0, _ => by simp [mapI, dryS]
  | k + 1, hk => by
    show (mapI _ l k).set k _ = _
    rw [mapI_eq h t x l k (by omega), List.set_append_right _ _ (by rw [dryS_len]; exact Nat.le_refl _), dryS_len, Nat.sub_self, List.drop_eq_getElem_cons (by omega), List.set_cons_zero]
    simp [dryS, List.append_assoc]
set_option maxHeartbeats 4000000 in
theorem implDat (h t : ByteArray) (X : Int) (w : World) (hs : h.size ≤ 1048576 ∧ t.size ≤ 1048576) :
    Calls Try.prog 15 #[.string h, .string t, .int .i64 X] w fun e w' => e = .returned (datV h t X) ∧ Below w.heap.size w w' := by
  have G := fun wx => isValid h t wx (by unfold maxLen; omega) (by unfold maxLen; omega)
  have HX0 := Lib.hid (Blk.new w #[.string h, .string t] 40)
  have B0 := Lib.hid ((Below.refl w.heap.size w).alloc (Nat.le_refl _) (.cells #[.string h, .string t] 40))
  cases hg : good h t
  · have J := Lib.hid (datV_no (h := h) (t := t) (X := X) (by simp [datB, hg]))
    rw [hg] at G
    have HG := Lib.hid G
    clear G hg
    go_enter Try.func15, Try.ntmps15
    go_wp2_with fail
    refine (HG.out _).mono ?_
    rintro e w1 ⟨rfl, hb1⟩
    go_wp2
    go_ret2
    exact ⟨ret_v J.out.symm, B0.out.trans (hb1.mono (by simp))⟩
  cases hi : inB X 0 1000
  · have J := Lib.hid (datV_no (h := h) (t := t) (X := X) (by simp [datB, hi]))
    rw [hg] at G
    have HG := Lib.hid G
    have I := Lib.hid (fun wx => isHour X wx)
    rw [hi] at I
    clear G hg hi
    go_enter Try.func15, Try.ntmps15
    go_wp2_with fail
    refine (HG.out _).mono ?_
    rintro e w1 ⟨rfl, hb1⟩
    go_wp2_with (go_at_call 33; refine (I.out _).mono ?_; rintro e w' ⟨rfl, rfl⟩)
    go_ret2
    exact ⟨ret_v J.out.symm, B0.out.trans (hb1.mono (by simp))⟩
  · have J := Lib.hid (datV_yes (h := h) (t := t) (X := X) (by simp [datB, hi, hg]))
    have hp : 0 ≤ X ∧ X ≤ 1000 := by simpa [inB] using hi
    obtain ⟨⟨z1, z2, _⟩, ⟨z3, z4, _⟩⟩ := good_in hg
    obtain ⟨x, hx⟩ : ∃ x : Nat, x = X.toNat := ⟨_, rfl⟩
    have hxX : X = x := by omega
    rw [← hx] at J
    have HX := Lib.hid hxX
    have D := Lib.hid (fun k (hk : k < h.size) wx => isDry h t (k + 1) x ((k : Int) + 1) X wx (by omega) HX.out hg (by omega) (by omega))
    unfold cst at D
    rw [hg] at G
    have HG := Lib.hid G
    have I := Lib.hid (fun wx => isHour X wx)
    rw [hi] at I
    clear G hg hi hx hxX
    go_enter Try.func15, Try.ntmps15
    go_wp2_with fail
    refine (HG.out _).mono ?_
    rintro e w1 ⟨rfl, hb1⟩
    have X1 := Lib.hid (HX0.out.below hb1 (by simp))
    have s1 : w.heap.size + 1 ≤ w1.heap.size := by have := hb1.size; simpa using this
    have B1 := Lib.hid (B0.out.trans (hb1.mono (by simp)))
    clear hb1
    have hcv := run_bytes_of_string (P := Try.prog) w1 9 42 5 h Try.underlying9 Try.underlying42 Try.underlying5
    have hcap := grownCap_ge w1 h.size 0 5
    generalize grownCap w1 h.size 0 5 = cap at hcv hcap
    obtain ⟨C, hC⟩ : ∃ C, C = bytesRow h cap := ⟨_, rfl⟩
    rw [← hC] at hcv
    have hCs : h.size ≤ C.size := by rw [hC]; simp [bytesRow]
    have HB0 := Lib.hid (Byts.new w1 hC hCs)
    have HBA := Lib.hid (((Below.refl w1.heap.size w1).alloc (Nat.le_refl _) _).drew : Below w1.heap.size w1 (w1.alloc (.cells C 5 (C.size, C.size + 1))).drew)
    obtain ⟨l, hl⟩ : ∃ l, l = h.data.toList := ⟨_, rfl⟩
    have HL0 := Lib.hid (show l.length = h.size by rw [hl]; simp)
    rw [← hl] at HB0
    clear hC hl
    go_wp2_with (go_at_call 33; refine (I.out _).mono ?_; rintro e w' ⟨rfl, rfl⟩)
    go_loopw [26] (fun i wr => ∃ k : Nat, k ≤ h.size ∧ i = .int .i64 k ∧ Hid (Byts wr w1.heap.size (mapI (drySg h t x) l k)) ∧ Hid (Below w1.heap.size w1 wr) ∧ w1.heap.size < wr.heap.size) (fun i _ => h.size - (intOf i).toNat)
    case atStart => exact ⟨0, Nat.zero_le _, rfl, HB0, HBA, by simp⟩
    case round =>
      obtain ⟨k, hk, rfl, HB, HBW, hw1⟩ := hrel
      by_cases hlt : k < h.size
      · have hkr : k < (mapI (drySg h t x) l k).length := by rw [mapI_len, HL0.out]; exact hlt
        obtain ⟨c1, f1⟩ := HB.out k hkr
        have S1 := Lib.hid (HB.out.set' hkr 46 46 rfl)
        have hl2 : k < ((mapI (drySg h t x) l k).set k 46).length := by rw [List.length_set]; exact hkr
        have X2 := Lib.hid ((X1.out.below HBW.out (by omega)).far (p := ⟨w1.heap.size, k, none⟩) (by show w.heap.size ≠ w1.heap.size; omega) (.int .u8 46))
        obtain ⟨d0, d1, dl⟩ := X2.out.two
        have B2 := Lib.hid (HBW.out.setCell (p := ⟨w1.heap.size, k, none⟩) (Nat.le_refl _) (.int .u8 46))
        have cc := Lib.hid (D.out k hlt)
        have hki : (k : Int) < h.size := by omega
        have hw2 : w1.heap.size < (wr.setCell ⟨w1.heap.size, k, none⟩ (.int .u8 46)).heap.size := by rw [World.size_setCell]; exact hw1
        clear HBW HB
        generalize (mapI (drySg h t x) l k).getD k 0 = y at *
        cases hd : dry h t (k + 1) x
        · have E := Lib.hid (show (mapI (drySg h t x) l k).set k 46 = mapI (drySg h t x) l (k + 1) by simp [mapI, drySg, hd])
          rw [hd] at cc
          go_wp2_with fail
          refine (cc.out _).mono ?_
          rintro e w3 ⟨rfl, hb3⟩
          have S3 := Lib.hid (fun j (hj : j < ((mapI (drySg h t x) l k).set k 46).length) => S1.out j hj)
          have T3 : Byts w3 w1.heap.size ((mapI (drySg h t x) l k).set k 46) := fun j hj => ⟨(hb3.cell (p := ⟨w1.heap.size, j, none⟩) hw2).trans (S1.out j hj).1, (hb3.frozen (p := ⟨w1.heap.size, j, none⟩) hw2).trans (S1.out j hj).2⟩
          have T4 := Lib.hid T3
          have B3 := Lib.hid (B2.out.trans (hb3.mono (Nat.le_of_lt hw2)))
          have hw3 : w1.heap.size < w3.heap.size := Nat.lt_of_lt_of_le hw2 hb3.size
          clear hb3 T3
          go_wp2
          go_roundw
          case rel => exact ⟨k + 1, by omega, by go_num, by rw [← E.out]; exact T4, B3, hw3⟩
          case measure => (simp [intOf]; try omega)
        · have E := Lib.hid (show ((mapI (drySg h t x) l k).set k 46).set k 111 = mapI (drySg h t x) l (k + 1) by simp [mapI, drySg, hd])
          rw [hd] at cc
          go_wp2_with fail
          refine (cc.out _).mono ?_
          rintro e w3 ⟨rfl, hb3⟩
          have T3 : Byts w3 w1.heap.size ((mapI (drySg h t x) l k).set k 46) := fun j hj => ⟨(hb3.cell (p := ⟨w1.heap.size, j, none⟩) hw2).trans (S1.out j hj).1, (hb3.frozen (p := ⟨w1.heap.size, j, none⟩) hw2).trans (S1.out j hj).2⟩
          obtain ⟨e1, e2⟩ := T3 k hl2
          have T4 := Lib.hid (T3.set' hl2 111 111 rfl)
          have B3 := Lib.hid (B2.out.trans (hb3.mono (Nat.le_of_lt hw2)))
          have hw3 : w1.heap.size < w3.heap.size := Nat.lt_of_lt_of_le hw2 hb3.size
          clear hb3 T3
          generalize ((mapI (drySg h t x) l k).set k 46).getD k 0 = y2 at *
          go_wp2
          go_roundw
          case rel => exact ⟨k + 1, by omega, by go_num, by rw [← E.out]; exact T4, Lib.hid (B3.out.setCell (Nat.le_refl _) _), by simpa using hw3⟩
          case measure => (simp [intOf]; try omega)
      · obtain rfl : k = h.size := by omega
        have e0 := mapI_eq h t x l h.size (by have := HL0.out; omega)
        rw [List.drop_eq_nil_of_le (by have := HL0.out; omega), List.append_nil] at e0
        rw [e0] at HB
        have hb := fun y => HB.out.back y
        rw [dryS_len] at hb
        have BB := Lib.hid (B1.out.trans (HBW.out.mono (by omega)))
        clear HB HBW e0
        go_wp2
        go_ret2
        exact ⟨ret_v J.out.symm, BB.out⟩
end Go.Proofs.Ytmlokapbholeoaa
