/- spec.cnCount, CountSpots, SpotsFor, LeastPlank, BestSpot. -/
import Derived.Test.YtfkdkhoihlkgcacScs
import Derived.Test.YtfkdkhoihlkgcacRwa
namespace Go.Proofs.Ytfkdkhoihlkgcac
set_option linter.unusedVariables false
open Go.RowKit

def prL (s : Int × Int) : List Int := [s.1, s.2]
/-- how many of these are spots for both, and the first of them -/
def cntOf (x y p : Int) (pre : List (Int × Int)) : Nat := (pre.filter (okS x y p)).length
def rowsOf (x y p : Int) (most : Nat) (pre : List (Int × Int)) : List (List Int) := ((pre.filter (okS x y p)).take most).map prL
theorem cntOf_no {x y p : Int} {s : Int × Int} (pre : List (Int × Int)) (h : okS x y p s = false) : cntOf x y p (pre ++ [s]) = cntOf x y p pre := by rw [cntOf, okS_not pre h]; rfl
theorem cntOf_yes {x y p : Int} {s : Int × Int} (pre : List (Int × Int)) (h : okS x y p s = true) : cntOf x y p (pre ++ [s]) = cntOf x y p pre + 1 := by rw [cntOf, okS_app pre h]; simp [cntOf]
theorem rowsOf_no {x y p : Int} {m : Nat} {s : Int × Int} (pre : List (Int × Int)) (h : okS x y p s = false) : rowsOf x y p m (pre ++ [s]) = rowsOf x y p m pre := by rw [rowsOf, okS_not pre h]; rfl
theorem rowsOf_in {x y p : Int} {m : Nat} {s : Int × Int} (pre : List (Int × Int)) (h : okS x y p s = true) (hm : cntOf x y p pre < m) : rowsOf x y p m (pre ++ [s]) = rowsOf x y p m pre ++ [[s.1, s.2]] := by
  unfold cntOf at hm
  rw [rowsOf, okS_app pre h, List.take_of_length_le (by simp; omega), rowsOf, List.take_of_length_le (by omega)]
  simp [prL]
theorem rowsOf_out {x y p : Int} {m : Nat} {s : Int × Int} (pre : List (Int × Int)) (h : okS x y p s = true) (hm : ¬ cntOf x y p pre < m) : rowsOf x y p m (pre ++ [s]) = rowsOf x y p m pre := by
  unfold cntOf at hm
  rw [rowsOf, okS_app pre h, List.take_append_of_le_length (by omega)]
  rfl
theorem rowsOf_len (x y p : Int) (m : Nat) (pre : List (Int × Int)) : (rowsOf x y p m pre).length ≤ m := by simp [rowsOf]; omega
theorem cntOf_all (x y p : Int) : cntOf x y p (spots p) = (spotsL x y p).length := rfl
theorem cntOf_le (x y p : Int) (pre : List (Int × Int)) : cntOf x y p pre ≤ pre.length := List.length_filter_le _ _
set_option maxHeartbeats 4000000 in
theorem cnCount (x y p : Int) (most : Nat) (w : World) (hc : isCn x y = true) (hp : 1 ≤ p ∧ p ≤ 200) (hm : most ≤ 1000) :
    Calls Try.prog 21 #[.agg #[.int .i64 x, .int .i64 y], .int .i64 p, .int .i64 (most : Int)] w fun e w' =>
      ∃ v, e = .returned (.tuple #[.int .i64 ((spotsL x y p).length : Int), v]) ∧ (∃ us, Lst w' w.heap.size v (rowsOf x y p most (spots p)) us) ∧ Below w.heap.size w w' := by
  have hpp := isPl_in (n := p) (by simp [isPl]; omega)
  have X1 := Lib.hid (Blk.new w #[.int .i64 x, .int .i64 y] 27)
  have D1 := Lib.hid ((Below.refl w.heap.size w).alloc (Nat.le_refl _) (.cells #[.int .i64 x, .int .i64 y] 27))
  have hs1 : (w.alloc (.cells #[.int .i64 x, .int .i64 y] 27)).heap.size = w.heap.size + 1 := by simp
  have HC := Lib.hid hc
  have s3 := mul_bd (a := p) (b := p) (m := 200) (n := 200) (by omega) (by omega) (by omega) (by omega)
  have s4 := mul_bd (a := 4 * p) (b := p) (m := 800) (n := 200) (by omega) (by omega) (by omega) (by omega)
  clear hc
  go_enter Try.func21, Try.ntmps21
  go_wp2
  generalize w.alloc (.cells #[.int .i64 x, .int .i64 y] 27) = w1 at *
  have N0 := Lib.hid (show Lst w1 w1.heap.size (.slice none 0 0) (rowsOf x y p most []) [] by rw [show rowsOf x y p most [] = [] by simp [rowsOf]]; exact Lst.nil w1 w1.heap.size)
  go_loopw [8, 9, 10] (fun nv ov av wr => ∃ (a : Int) (pre : List (Int × Int)) (us : List Value), (1 ≤ a ∧ a ≤ 201) ∧ av = .int .i64 a ∧ nv = .int .i64 (cntOf x y p pre : Int) ∧
    Hid (pre ++ rowF p (202 - a).toNat a = spots p) ∧ Hid (Lst wr w1.heap.size ov (rowsOf x y p most pre) us) ∧ Hid (Below w1.heap.size w1 wr)) (fun _ _ av _ => 300 - (intOf av).toNat)
  case atStart => exact ⟨1, [], [], by omega, rfl, rfl, Lib.hid rfl, N0, Lib.hid (Below.refl _ _)⟩
  case round =>
    clear N0
    obtain ⟨a, pre, us, ha, rfl, rfl, HD, HL, HB⟩ := hrel
    by_cases hlt : a < p
    · have HR := Lib.hid (show pre ++ (colF p a (202 - 1 : Int).toNat 1 ++ rowF p (201 - a).toNat (a + 1)) = spots p by
        rw [← HD.out]
        obtain ⟨q, hq⟩ : ∃ q, (202 - a).toNat = q + 1 := ⟨(201 - a).toNat, by omega⟩
        have hq' : q = (201 - a).toNat := by omega
        rw [hq, rowF_yes hlt, hq']; rfl)
      go_wp2
      go_loopw [8, 9, 11] (fun nv ov bv wr => ∃ (b : Int) (pre : List (Int × Int)) (us : List Value), (1 ≤ b ∧ b ≤ 201) ∧ bv = .int .i64 b ∧ nv = .int .i64 (cntOf x y p pre : Int) ∧
        Hid (pre ++ (colF p a (202 - b).toNat b ++ rowF p (201 - a).toNat (a + 1)) = spots p) ∧ Hid (Lst wr w1.heap.size ov (rowsOf x y p most pre) us) ∧ Hid (Below w1.heap.size w1 wr)) (fun _ _ bv _ => 300 - (intOf bv).toNat)
      case atStart => exact ⟨1, pre, us, by omega, rfl, rfl, HR, HL, HB⟩
      case round =>
        clear HR HL HB HD
        obtain ⟨b, pre, us, hb, rfl, rfl, HD, HL, HB⟩ := hrel
        have s1 := mul_bd (a := a) (b := a) (m := 201) (n := 201) (by omega) (by omega) (by omega) (by omega)
        have s2 := mul_bd (a := b) (b := b) (m := 201) (n := 201) (by omega) (by omega) (by omega) (by omega)
        by_cases hcc : a * a + b * b ≤ p * p
        · have hb2 := sq_lt hp.1 (show b * b ≤ p * p by omega)
          have HN := Lib.hid (show colF p a (202 - b).toNat b = (a, b) :: colF p a (202 - (b + 1)).toNat (b + 1) by
            obtain ⟨q, hq⟩ : ∃ q, (202 - b).toNat = q + 1 := ⟨(201 - b).toNat, by omega⟩
            have hq' : q = (202 - (b + 1)).toNat := by omega
            rw [hq, colF_yes hcc, hq'])
          have HD' := Lib.hid (show pre ++ [(a, b)] ++ (colF p a (202 - (b + 1)).toNat (b + 1) ++ rowF p (201 - a).toNat (a + 1)) = spots p by
            rw [← HD.out, HN.out]; simp)
          have hpl : pre.length < 40401 := by
            have := spots_len p
            rw [← HD'.out] at this
            simp at this; omega
          have hcl := cntOf_le x y p pre
          have hrl := rowsOf_len x y p most pre
          have CN := Lib.hid (fun wx => cnNeeds x y a b wx HC.out (by simp [isPl]; omega) (by simp [isPl]; omega))
          have hcn := isCn_in HC.out
          have v1 := sq_bd (d := 2 * x - a) (m := 200) (by omega) (by omega)
          have v2 := sq_bd (d := 2 * y - b) (m := 200) (by omega) (by omega)
          have hnd : 0 ≤ nd x y a b ∧ nd x y a b ≤ 80000 := by unfold nd; omega
          have HOK : Hid (okS x y p (a, b) = decide (nd x y a b ≤ 4 * p * p)) := Lib.hid rfl
          obtain ⟨c0, c1, c2⟩ := (X1.out.below HB.out (by omega)).two
          have hsz := HB.out.size
          clear HN HD v1 v2 hcn
          generalize nd x y a b = q at *
          by_cases hk : q ≤ 4 * p * p
          · have hok : okS x y p (a, b) = true := by rw [HOK.out, decide_eq_true hk]
            have C1 := Lib.hid (cntOf_yes pre hok)
            have RI := Lib.hid (fun h => rowsOf_in (m := most) pre hok h)
            have RO := Lib.hid (fun h => rowsOf_out (m := most) pre hok h)
            clear hok HOK
            generalize hcnt : cntOf x y p pre = c at *
            clear hcnt
            by_cases hcm : c < most
            · have R := Lib.hid (RI.out hcm)
              have hcm' : (c : Int) + 1 ≤ most := by omega
              clear RI RO
              go_wp2_with fail
              refine (CN.out _).mono ?_
              rintro e w2 ⟨rfl, hb2'⟩
              have HLw := Lib.hid (HL.out.below hb2')
              have HBw := Lib.hid (HB.out.trans (hb2'.mono hsz))
              have hsz2 := HBw.out.size
              clear hb2' HL
              go_wp2_with (at_builtin; refine wpList_appS (w2.alloc (.cells #[.int .i64 a, .int .i64 b] 3)) w2 rfl _ _ rfl w1.heap.size _ _ us rfl HLw.out ((Below.refl _ _).alloc (Nat.le_refl _) _) _ [a, b] (ints_two w2 w1.heap.size a b hsz2) (fun k e => by (have e2 : w2.heap.size = k := by simpa [Value.ownBlock] using e); omega) _ rfl (by simp) (by omega) (by simp; omega) rfl ?_; intro v' w3 hL3 hb3 hg3)
              have HL3 := Lib.hid (show Lst w3 w1.heap.size v' (rowsOf x y p most (pre ++ [(a, b)])) _ by rw [R.out]; exact hL3)
              have HB3 := Lib.hid ((HBw.out.alloc hsz2 _).trans hb3)
              clear hL3 hb3 hg3
              go_wp2
              go_roundw
              case rel => exact ⟨b + 1, pre ++ [(a, b)], _, by omega, by go_num, by rw [C1.out]; rfl, HD', HL3, HB3⟩
              case measure => (simp [intOf]; try omega)
            · have R := Lib.hid (RO.out hcm)
              have hcm' : ¬ (c : Int) + 1 ≤ most := by omega
              clear RI RO
              go_wp2_with (go_at_call 28; refine (CN.out _).mono ?_; rintro e w2 ⟨rfl, hb2'⟩)
              go_roundw
              case rel => exact ⟨b + 1, pre ++ [(a, b)], us, by omega, by go_num, by rw [C1.out]; rfl, HD', Lib.hid (by rw [R.out]; exact HL.out.below hb2'), Lib.hid (HB.out.trans (hb2'.mono hsz))⟩
              case measure => (simp [intOf]; try omega)
          · have hok : okS x y p (a, b) = false := by rw [HOK.out, decide_eq_false hk]
            have C1 := Lib.hid (cntOf_no pre hok)
            have R := Lib.hid (rowsOf_no (m := most) pre hok)
            clear hok HOK
            go_wp2_with (go_at_call 28; refine (CN.out _).mono ?_; rintro e w2 ⟨rfl, hb2'⟩)
            go_roundw
            case rel => exact ⟨b + 1, pre ++ [(a, b)], us, by omega, by go_num, by rw [C1.out], HD', Lib.hid (by rw [R.out]; exact HL.out.below hb2'), Lib.hid (HB.out.trans (hb2'.mono hsz))⟩
            case measure => (simp [intOf]; try omega)
        · have HN := Lib.hid (show pre ++ rowF p (202 - (a + 1)).toNat (a + 1) = spots p by
            rw [← HD.out, colF_no hcc, show (202 - (a + 1)).toNat = (201 - a).toNat by omega]; rfl)
          clear HD
          go_wp2
          go_roundw
          case rel => exact ⟨a + 1, pre, us, by omega, by go_num, rfl, HN, HL, HB⟩
          case measure => (simp [intOf]; try omega)
    · have R := Lib.hid (show pre = spots p by rw [← HD.out, rowF_no hlt, List.append_nil])
      have R2 := Lib.hid (show cntOf x y p pre = (spotsL x y p).length by rw [R.out]; rfl)
      have HL2 := Lib.hid (show Lst wr w.heap.size u9 (rowsOf x y p most (spots p)) us by have := HL.out.mono (B := w.heap.size) (by omega); rwa [R.out] at this)
      clear HL
      go_wp2
      go_ret2
      exact ⟨_, ret_v (by rw [← R2.out]; rfl), ⟨us, HL2.out⟩, D1.out.trans (HB.out.mono (by omega))⟩
set_option maxHeartbeats 1000000 in
theorem specCount (x y p : Int) (w : World) :
    Calls Try.prog 13 #[.agg #[.int .i64 x, .int .i64 y], .int .i64 p] w fun e w' => e = .returned (cntV x y p) ∧ Below w.heap.size w w' := by
  have HG := Lib.hid (fun wx => cnGood x y wx)
  have HA := Lib.hid (fun wx => cnPlank p wx)
  have X1 := Lib.hid (Blk.new w #[.int .i64 x, .int .i64 y] 27)
  cases h : (isCn x y && isPl p)
  · have J := Lib.hid (cntV_no h)
    have H := Lib.hid h
    clear h
    generalize isCn x y = c at *
    generalize isPl p = q at *
    go_enter Try.func13, Try.ntmps13
    cases c <;> cases q
    all_goals
      first
      | exact absurd H.out (by decide)
      | (go_wp2_with (first
          | (go_at_call 19; (with_reducible refine (HG.out _).mono ?_); rintro e w1 ⟨rfl, hb⟩)
          | (go_at_call 20; (with_reducible refine (HA.out _).mono ?_); rintro e w' ⟨rfl, rfl⟩))
         go_ret2
         exact ⟨ret_v J.out.symm, Below.trans (by (repeat (first | exact Below.refl _ _ | (refine Below.alloc ?_ (by first | omega | (simp; try omega)) _) | apply Below.drew | apply below_drewN))) (hb.mono (by simp; try omega))⟩)
  have J := Lib.hid (cntV_yes h)
  simp only [Bool.and_eq_true] at h
  have CC := Lib.hid (fun wx => cnCount x y p 0 wx h.1 (isPl_in h.2) (by omega))
  rw [h.1] at HG
  rw [h.2] at HA
  clear h
  go_enter Try.func13, Try.ntmps13
  go_wp2_with fail
  refine (HG.out _).mono ?_
  rintro e w1 ⟨rfl, hb1⟩
  obtain ⟨c0, c1, l0⟩ := (X1.out.below hb1 (by simp)).two
  have HB1 := Lib.hid (Below.trans (by (repeat (first | exact Below.refl _ _ | (refine Below.alloc ?_ (by first | omega | (simp; try omega)) _) | apply Below.drew | apply below_drewN))) (hb1.mono (by simp; try omega)) : Below w.heap.size w w1)
  clear hb1
  go_wp2_with (first
    | (go_at_call 20; (with_reducible refine (HA.out _).mono ?_); rintro e w' ⟨rfl, rfl⟩)
    | (go_at_call 21; refine (CC.out _).mono ?_; rintro e w2 ⟨v, rfl, _, hb2⟩))
  go_ret2
  exact ⟨ret_v J.out.symm, HB1.out.trans (hb2.mono HB1.out.size)⟩
def spF (x y p : Int) : Bool := isCn x y && isPl p && decide ((spotsL x y p).length ≤ 1000)
def spL (x y p : Int) : List (List Int) := if spF x y p then (spotsL x y p).map prL else []
theorem spL_no {x y p : Int} (h : spF x y p = false) : spL x y p = [] := by simp [spL, h]
theorem spL_yes {x y p : Int} (h : spF x y p = true) : spL x y p = (spotsL x y p).map prL := by simp [spL, h]
theorem spF_rows {x y p : Int} (h : (spotsL x y p).length ≤ 1000) : rowsOf x y p 1000 (spots p) = (spotsL x y p).map prL := by
  unfold rowsOf
  rw [List.take_of_length_le (by exact h)]; rfl
theorem spL_len (x y p : Int) : (spL x y p).length ≤ 1000 := by
  cases h : spF x y p
  · rw [spL_no h]; simp
  · rw [spL_yes h]
    simp only [spF, Bool.and_eq_true, decide_eq_true_eq] at h
    simpa using h.2
theorem prL_row (l : List (Int × Int)) (j : Nat) : (gl (l.map prL) j).length ≤ 2 := by
  by_cases h : j < l.length
  · simp [gl, prL, h]
  · simp [gl, h]
theorem prL_tot (l : List (Int × Int)) : totS (l.map prL) = 2 * l.length := by
  induction l with
  | nil => rfl
  | cons a l ih => simp [totS, prL, ih]; omega
theorem spL_row (x y p : Int) (j : Nat) : (gl (spL x y p) j).length ≤ 1000 := by
  cases h : spF x y p
  · rw [spL_no h]; simp [gl]
  · rw [spL_yes h]; have := prL_row (spotsL x y p) j; omega
theorem spL_tot (x y p : Int) : totS (spL x y p) ≤ 1000000 := by
  cases h : spF x y p
  · rw [spL_no h]; simp [totS]
  · rw [spL_yes h, prL_tot]
    simp only [spF, Bool.and_eq_true, decide_eq_true_eq] at h
    omega
/-- what a call of a function over lists of lists hands back -/
def LstC (B : Nat) (zss : List (List Int)) (ok : Bool) (w : World) (e : Ending) (w' : World) : Prop := ∃ v, e = .returned (.tuple #[v, .bool ok]) ∧ (∃ us, Lst w' B v zss us) ∧ Below w.heap.size w w'
set_option maxHeartbeats 1000000 in
theorem specSpots (x y p : Int) (w : World) :
    Calls Try.prog 7 #[.agg #[.int .i64 x, .int .i64 y], .int .i64 p] w (LstC w.heap.size (spL x y p) (spF x y p) w) := by
  have HG := Lib.hid (fun wx => cnGood x y wx)
  have HA := Lib.hid (fun wx => cnPlank p wx)
  have X1 := Lib.hid (Blk.new w #[.int .i64 x, .int .i64 y] 27)
  cases h : (isCn x y && isPl p)
  · have hF : spF x y p = false := by simp only [spF, h]; rfl
    have JL := Lib.hid (spL_no hF)
    have JF := Lib.hid hF
    have H := Lib.hid h
    clear h hF
    generalize isCn x y = c at *
    generalize isPl p = q at *
    go_enter Try.func7, Try.ntmps7
    cases c <;> cases q
    all_goals
      first
      | exact absurd H.out (by decide)
      | (go_wp2_with (first
          | (go_at_call 19; (with_reducible refine (HG.out _).mono ?_); rintro e w1 ⟨rfl, hb⟩)
          | (go_at_call 20; (with_reducible refine (HA.out _).mono ?_); rintro e w' ⟨rfl, rfl⟩))
         go_ret2
         exact ⟨_, by rw [JF.out]; rfl, ⟨[], by rw [JL.out]; exact Lst.nil _ _⟩, Below.trans (by (repeat (first | exact Below.refl _ _ | (refine Below.alloc ?_ (by first | omega | (simp; try omega)) _) | apply Below.drew | apply below_drewN))) (hb.mono (by simp; try omega))⟩)
  have HH := Lib.hid h
  simp only [Bool.and_eq_true] at h
  have CC := Lib.hid (fun wx => cnCount x y p 1000 wx h.1 (isPl_in h.2) (by omega))
  have hlen := spotsL_len x y p
  rw [h.1] at HG
  rw [h.2] at HA
  clear h
  by_cases hcn : (spotsL x y p).length ≤ 1000
  · have hF : spF x y p = true := by simp only [spF, HH.out, decide_eq_true hcn]; rfl
    have JL := Lib.hid ((spF_rows hcn).trans (spL_yes hF).symm)
    have JF := Lib.hid hF
    clear hF
    generalize (spotsL x y p).length = n at *
    go_enter Try.func7, Try.ntmps7
    go_wp2_with fail
    refine (HG.out _).mono ?_
    rintro e w1 ⟨rfl, hb1⟩
    obtain ⟨c0, c1, l0⟩ := (X1.out.below hb1 (by simp)).two
    have HB1 := Lib.hid (Below.trans (by (repeat (first | exact Below.refl _ _ | (refine Below.alloc ?_ (by first | omega | (simp; try omega)) _) | apply Below.drew | apply below_drewN))) (hb1.mono (by simp; try omega)) : Below w.heap.size w w1)
    have hs1 := HB1.out.size
    clear hb1
    go_wp2_with (first
      | (go_at_call 20; (with_reducible refine (HA.out _).mono ?_); rintro e w' ⟨rfl, rfl⟩)
      | (go_at_call 21; refine (CC.out _).mono ?_; rintro e w2 ⟨v, rfl, hL, hb2⟩; have HL := Lib.hid hL; clear hL))
    go_ret2
    obtain ⟨us, hL⟩ := HL.out
    exact ⟨_, by rw [JF.out]; rfl, ⟨us, by rw [← JL.out]; exact hL.mono hs1⟩, HB1.out.trans (hb2.mono hs1)⟩
  · have hF : spF x y p = false := by simp only [spF, HH.out, decide_eq_false hcn]; rfl
    have JL := Lib.hid (spL_no hF)
    have JF := Lib.hid hF
    clear hF
    have hcn' : (1000 : Int) < ((spotsL x y p).length : Int) := by omega
    generalize (spotsL x y p).length = n at *
    go_enter Try.func7, Try.ntmps7
    go_wp2_with fail
    refine (HG.out _).mono ?_
    rintro e w1 ⟨rfl, hb1⟩
    obtain ⟨c0, c1, l0⟩ := (X1.out.below hb1 (by simp)).two
    have HB1 := Lib.hid (Below.trans (by (repeat (first | exact Below.refl _ _ | (refine Below.alloc ?_ (by first | omega | (simp; try omega)) _) | apply Below.drew | apply below_drewN))) (hb1.mono (by simp; try omega)) : Below w.heap.size w w1)
    have hs1 := HB1.out.size
    clear hb1
    go_wp2_with (first
      | (go_at_call 20; (with_reducible refine (HA.out _).mono ?_); rintro e w' ⟨rfl, rfl⟩)
      | (go_at_call 21; refine (CC.out _).mono ?_; rintro e w2 ⟨v, rfl, hL, hb2⟩; have HL := Lib.hid hL; clear hL))
    go_ret2
    exact ⟨_, by rw [JF.out]; rfl, ⟨[], by rw [JL.out]; exact Lst.nil _ _⟩, HB1.out.trans (hb2.mono hs1)⟩
theorem len_pos {l : List (Int × Int)} (h : l.isEmpty = false) : 0 < l.length := by cases l with
  | nil => cases h
  | cons a l => simp
theorem len_zero {l : List (Int × Int)} (h : l.isEmpty = true) : l.length = 0 := by cases l with
  | nil => rfl
  | cons a l => cases h
set_option maxHeartbeats 1000000 in
theorem specLeast (x y : Int) (w : World) :
    Calls Try.prog 17 #[.agg #[.int .i64 x, .int .i64 y]] w fun e w' => e = .returned (lpV x y) ∧ Below w.heap.size w w' := by
  have HG := Lib.hid (fun wx => cnGood x y wx)
  have X1 := Lib.hid (Blk.new w #[.int .i64 x, .int .i64 y] 27)
  cases h : isCn x y
  · have J := Lib.hid (lpV_no h)
    rw [h] at HG
    clear h
    go_enter Try.func17, Try.ntmps17
    go_wp2_with (go_at_call 19; (with_reducible refine (HG.out _).mono ?_); rintro e w1 ⟨rfl, hb⟩)
    go_ret2
    exact ⟨ret_v J.out.symm, Below.trans (by (repeat (first | exact Below.refl _ _ | (refine Below.alloc ?_ (by first | omega | (simp; try omega)) _) | apply Below.drew | apply below_drewN))) (hb.mono (by simp; try omega))⟩
  have J := Lib.hid (lpV_yes h)
  rw [h] at HG
  have A0 := Lib.hid (show lpA x y = lpF x y 200 1 from rfl)
  have HH := Lib.hid h
  clear h
  go_enter Try.func17, Try.ntmps17
  go_wp2_with fail
  refine (HG.out _).mono ?_
  rintro e w1 ⟨rfl, hb1⟩
  have X2 := Lib.hid (X1.out.below hb1 (by simp))
  have D1 := Lib.hid (Below.trans (by (repeat (first | exact Below.refl _ _ | (refine Below.alloc ?_ (by first | omega | (simp; try omega)) _) | apply Below.drew | apply below_drewN))) (hb1.mono (by simp; try omega)) : Below w.heap.size w w1)
  have hlw : w.heap.size < w1.heap.size := X2.out.lt
  clear hb1 X1
  go_wp2
  go_loopw [4] (fun v wr => ∃ p : Int, (1 ≤ p ∧ p ≤ 150) ∧ v = .int .i64 p ∧ Hid (lpA x y = lpF x y (201 - p.toNat) p) ∧ Hid (Below w1.heap.size w1 wr)) (fun v _ => 400 - (intOf v).toNat)
  case atStart => exact ⟨1, by omega, rfl, A0, Lib.hid (Below.refl _ _)⟩
  case round =>
    obtain ⟨p, hp, rfl, hL, HB⟩ := hrel
    obtain ⟨c0, c1, l0⟩ := (X2.out.below HB.out hlw).two
    have CC := Lib.hid (fun wx => cnCount x y p 0 wx HH.out (by omega) (by omega))
    obtain ⟨q, hq⟩ : ∃ q, 201 - p.toNat = q + 1 := ⟨200 - p.toNat, by omega⟩
    have hq' : q = 201 - (p + 1).toNat := by omega
    have hlen := spotsL_len x y p
    cases he : (spotsL x y p).isEmpty
    · have R := Lib.hid (show lpA x y = p by rw [hL.out, hq, lpF_yes he])
      have hz := len_pos he
      have hz' : (0 : Int) < ((spotsL x y p).length : Int) := by omega
      clear hq hq' he
      generalize (spotsL x y p).length = n at *
      go_wp2_with (go_at_call 21; refine (CC.out _).mono ?_; rintro e w2 ⟨v, rfl, hL, hb2⟩; have HL := Lib.hid hL; clear hL)
      go_ret2
      have h12 := D1.out.trans (HB.out.mono D1.out.size)
      exact ⟨ret_v (by rw [J.out, R.out]; rfl), h12.trans (hb2.mono h12.size)⟩
    · have hp150 : p < 150 := by
        by_cases hp2 : p < 150
        · exact hp2
        · rw [spot150 HH.out (by omega) (by omega)] at he; cases he
      have R := Lib.hid (show lpA x y = lpF x y (201 - (p + 1).toNat) (p + 1) by rw [hL.out, hq, lpF_no he, hq'])
      have hz := len_zero he
      have hz' : ¬ (0 : Int) < ((spotsL x y p).length : Int) := by omega
      clear hq hq' he hz
      generalize (spotsL x y p).length = n at *
      go_wp2_with (go_at_call 21; refine (CC.out _).mono ?_; rintro e w2 ⟨v, rfl, hL, hb2⟩; have HL := Lib.hid hL; clear hL)
      go_roundw
      case rel => exact ⟨p + 1, by omega, by go_num, R, Lib.hid (HB.out.trans (hb2.mono HB.out.size))⟩
      case measure => (simp [intOf]; try omega)
end Go.Proofs.Ytfkdkhoihlkgcac
