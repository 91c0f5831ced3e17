/- MakePuzzle, impl (written by gen_kml.py). -/
import Derived.Test.YtnmeomcoeknjoabKml
namespace Go.Proofs.Ytnmeomcoeknjoab
set_option linter.unusedVariables false
set_option maxRecDepth 100000
open Go.RowKit
set_option maxHeartbeats 4000000 in
theorem implMake (s : ByteArray) (c z : Int) (w : World) (hs : s.size ≤ 1048576) :
    Calls Try.prog 31 #[.string s, .int .i64 c, .int .i64 z] w fun e w' => ∃ u, e = .returned (.tuple #[.agg #[.int .i64 (mpN s c z), u], .bool (mpOK s c z)]) ∧ Brs w' w.heap.size u (mpL s c z) ∧ Below w.heap.size w w' := by
  cases h1 : hidB s
  · have G1 := Lib.hid h1
    have OKF := Lib.hid (show mpOK s c z = false by simp [mpOK, h1])
    clear h1
    go_enter Try.func31, Try.ntmps31
    go_wp2_with (go_at_call 36; refine (isHidden s _ hs).mono ?_; rintro e w' ⟨rfl, rfl⟩; rw [G1.out])
    refine bodyPost_ret (v := .tuple #[.agg #[.int .i64 0, .slice none 0 0], .bool false]) (by simp [results, Try.results31, go_sem]) rfl ?_
    exact ⟨.slice none 0 0, by rw [show mpN s c z = 0 by simp [mpN, OKF.out], OKF.out], by rw [show mpL s c z = [] by simp [mpL, OKF.out]]; exact Brs.nil _ _, by (repeat (first | exact Below.refl _ _ | (refine Below.alloc ?_ (by first | omega | (simp; try omega)) _) | apply Below.drew | apply below_drewN))⟩
  cases h2 : inB c 0 6
  · have G1 := Lib.hid h1
    have OKF := Lib.hid (show mpOK s c z = false by simp [mpOK, h2])
    have hout : c < 0 ∨ 6 < c := by by_cases ho : c < 0; exact .inl ho; exact .inr (by by_cases hp : 6 < c; exact hp; exact absurd (inB_yes (n := c) (lo := 0) (hi := 6) (by omega) (by omega)) (by rw [h2]; decide))
    clear h1 h2
    rcases hout with hout | hout
    all_goals
      go_enter Try.func31, Try.ntmps31
      go_wp2_with (go_at_call 36; refine (isHidden s _ hs).mono ?_; rintro e w' ⟨rfl, rfl⟩; rw [G1.out])
      refine bodyPost_ret (v := .tuple #[.agg #[.int .i64 0, .slice none 0 0], .bool false]) (by simp [results, Try.results31, go_sem]) rfl ?_
      exact ⟨.slice none 0 0, by rw [show mpN s c z = 0 by simp [mpN, OKF.out], OKF.out], by rw [show mpL s c z = [] by simp [mpL, OKF.out]]; exact Brs.nil _ _, by (repeat (first | exact Below.refl _ _ | (refine Below.alloc ?_ (by first | omega | (simp; try omega)) _) | apply Below.drew | apply below_drewN))⟩
  cases h3 : inB z 0 9999
  · have G1 := Lib.hid h1
    have G2 := Lib.hid h2
    have OKF := Lib.hid (show mpOK s c z = false by simp [mpOK, h3])
    have hc2 : 0 ≤ c ∧ c ≤ 6 := inB_iff.1 h2
    have hout : z < 0 ∨ 9999 < z := by by_cases ho : z < 0; exact .inl ho; exact .inr (by by_cases hp : 9999 < z; exact hp; exact absurd (inB_yes (n := z) (lo := 0) (hi := 9999) (by omega) (by omega)) (by rw [h3]; decide))
    clear h1 h2 h3
    rcases hout with hout | hout
    all_goals
      go_enter Try.func31, Try.ntmps31
      go_wp2_with (go_at_call 36; refine (isHidden s _ hs).mono ?_; rintro e w' ⟨rfl, rfl⟩; rw [G1.out])
      refine bodyPost_ret (v := .tuple #[.agg #[.int .i64 0, .slice none 0 0], .bool false]) (by simp [results, Try.results31, go_sem]) rfl ?_
      exact ⟨.slice none 0 0, by rw [show mpN s c z = 0 by simp [mpN, OKF.out], OKF.out], by rw [show mpL s c z = [] by simp [mpL, OKF.out]]; exact Brs.nil _ _, by (repeat (first | exact Below.refl _ _ | (refine Below.alloc ?_ (by first | omega | (simp; try omega)) _) | apply Below.drew | apply below_drewN))⟩
  have G1 := Lib.hid h1
  have G2 := Lib.hid h2
  have G3 := Lib.hid h3
  have OKT := Lib.hid (show mpOK s c z = true by simp [mpOK, h1, h2, h3])
  obtain ⟨hv, hs1, hs8⟩ := hidB_in h1
  obtain ⟨hc0, hc6⟩ := inB_iff.1 h2
  obtain ⟨hz0, hz9⟩ := inB_iff.1 h3
  obtain ⟨C, rfl⟩ := Int.eq_ofNat_of_zero_le hc0
  obtain ⟨Z, rfl⟩ := Int.eq_ofNat_of_zero_le hz0
  clear h1 h2 h3
  go_enter Try.func31, Try.ntmps31
  go_wp2_with (go_at_call 36; refine (isHidden s _ hs).mono ?_; rintro e w' ⟨rfl, rfl⟩; rw [G1.out])
  obtain ⟨w3, hw3⟩ : ∃ w3, w3 = (w.alloc (.cells #[.int .i64 0, .slice none 0 0] 38)).alloc (.cells #[.int .i64 (s.size : Int), .slice none 0 0] 38) := ⟨_, rfl⟩
  have R3 := Lib.hid (show Blk w3 w.heap.size #[.int .i64 0, .slice none 0 0] by rw [hw3]; exact (Blk.new w _ _).alloc _)
  have H3 := Lib.hid (show Blk w3 (w.heap.size + 1) #[.int .i64 (s.size : Int), .slice none 0 0] by rw [hw3]; exact (Blk.new (w.alloc (.cells #[.int .i64 0, .slice none 0 0] 38)) _ _).at_ (by simp))
  have Q3 := Lib.hid (show Below w.heap.size w w3 by rw [hw3]; (repeat (first | exact Below.refl _ _ | (refine Below.alloc ?_ (by first | omega | (simp; try omega)) _) | apply Below.drew | apply below_drewN)))
  have s3 : w.heap.size + 2 ≤ w3.heap.size := by rw [hw3]; simp
  rw [← hw3]
  clear hw3
  go_loopw [9, 36] (fun t9 t1 wr => ∃ (i : Nat) (hvv : Value), i ≤ C ∧ t1 = .int .i64 (i : Int) ∧ t9 = .int .i64 (mkZ Z i : Int) ∧ Hid (Blk wr w.heap.size #[.int .i64 0, .slice none 0 0]) ∧ Hid (Blk wr (w.heap.size + 1) #[.int .i64 (s.size : Int), hvv]) ∧ Hid (Brs wr (w.heap.size + 2) hvv (mkL s Z i)) ∧ Hid (Below w.heap.size w wr) ∧ Hid (w.heap.size + 2 ≤ wr.heap.size)) (fun _ t1 _ => C - (intOf t1).toNat)
  case atStart => exact ⟨0, _, Nat.zero_le _, rfl, rfl, R3, H3, Lib.hid (Brs.nil _ _), Q3, Lib.hid s3⟩
  case round =>
    obtain ⟨i, hvv, hi, rfl, rfl, HRb, HH, HO, HQ, HS⟩ := hrel
    obtain ⟨oa, on, oc, rfl⟩ := HO.out.form
    have hs2 := HS.out
    by_cases hlt : i < C
    · have hlt' : (i : Int) < (C : Int) := by omega
      have hz := mkZ_le (z := Z) (by omega) i
      have hza := nx_le (mkZ Z i)
      have hzb := nx_le (nx (mkZ Z i))
      have EL := Lib.hid (show mkL s Z (i + 1) = mkL s Z i ++ [mkC (nx (mkZ Z i) % 6) (nx (nx (mkZ Z i))) s] from rfl)
      have EZ := Lib.hid (show mkZ Z (i + 1) = nx (nx (mkZ Z i)) from rfl)
      have hll := mkL_len s Z i
      have hll2 : (mkL s Z i).length ≤ 1000 := by omega
      clear hll
      generalize mkZ Z i = z0 at *
      have N1 := Lib.hid (fun wx => nextNumber z0 wx hz)
      generalize nx z0 = za at *
      have N2 := Lib.hid (fun wx => nextNumber za wx hza)
      generalize nx za = zb at *
      obtain ⟨kd, hkde⟩ : ∃ kd, kd = za % 6 := ⟨_, rfl⟩
      rw [← hkde] at EL
      have hkd : kd ≤ 5 := by omega
      have hkz : (za : Int) % 6 = (kd : Int) := by omega
      have PO := Lib.hid (fun wx => madeClue kd zb s wx hkd hv hs1 hs8 hzb)
      clear hkde
      generalize mkC kd zb s = q at *
      obtain ⟨x, y, t⟩ := q
      dsimp only at PO
      generalize mkL s Z i = L at *
      obtain ⟨h0, h1, h2⟩ := HH.out.two
      go_wp2_with (go_at_call 54; first | (refine (N1.out _).mono ?_; rintro e w' ⟨rfl, rfl⟩) | (refine (N2.out _).mono ?_; rintro e w' ⟨rfl, rfl⟩))
      go_region_law (first
        | (go_simp; go_at_call 55; refine (PO.out _).mono ?_; rintro e w5 ⟨rfl, hb5⟩; have D5 := Lib.hid ((Below.trans (by (repeat (first | exact Below.refl _ _ | (refine Below.alloc ?_ (by first | omega | (simp; try omega)) _) | apply Below.drew | apply below_drewN))) (hb5.mono (by first | exact Nat.le_refl _ | (simp; try omega)))) : Below wr.heap.size wr w5); have H5 := Lib.hid (HH.out.below D5.out HH.out.lt); obtain ⟨z0_, z1_, z2_⟩ := H5.out.two; have O5 := Lib.hid (HO.out.below D5.out); have s5 : w.heap.size + 2 ≤ w5.heap.size := Nat.le_trans hs2 D5.out.size; clear hb5)
        | (refine step_appB1 rfl (.tmp 45) (.tmp 50) rfl (w.heap.size + 2) (.slice oa on oc) L (by simp [Act.eval]) (O5.out.below (by (repeat (first | exact Below.refl _ _ | (refine Below.alloc ?_ (by first | omega | (simp; try omega)) _) | apply Below.drew | apply below_drewN)))) w5.heap.size x y t (by simp [Act.eval]) (by first | exact Blk.new _ _ _ | exact (Blk.new _ _ _).drew) hll2 (by simp; omega) ?_; intro g6 c6 w6 hI6 hg6; have O6 := Lib.hid hI6; have B6 := Lib.hid (((D5.out.alloc D5.out.size _).mono hs2).grown hg6 (by simp; omega) (fun q hq => (HO.out.lt q hq).1)); have H6 := Lib.hid (HH.out.below B6.out (by omega)); obtain ⟨e0, e1, e2⟩ := H6.out.two; have e3 := H6.out.fr 1; clear hI6 hg6)
        | fail)
      all_goals
        go_wp2
        go_roundw
        case rel =>
          refine ⟨i + 1, _, by omega, by go_num, by rw [EZ.out], Lib.hid ((HRb.out.below B6.out (by omega)).far (p := ⟨w.heap.size + 1, 1, none⟩) (by show w.heap.size ≠ w.heap.size + 1; omega) _), Lib.hid (H6.out.set 1 _), ?_, Lib.hid ((HQ.out.trans (B6.out.mono (by omega))).setCell (by simp) _), Lib.hid (by have := B6.out.size; simp; omega)⟩
          rw [EL.out]
          exact Lib.hid (O6.out.far (p := ⟨w.heap.size + 1, 1, none⟩) (by show w.heap.size + 1 < w.heap.size + 2; omega) _)
        case measure => (simp [intOf]; try omega)
    · obtain rfl : i = C := by omega
      have EL := Lib.hid (show mpL s (i : Int) (Z : Int) = mkL s Z i by simp [mpL, OKT.out])
      have Y2 := HRb
      obtain ⟨y0, y1, y2⟩ := Y2.out.two
      have f0 := Y2.out.fr 0
      have f1 := Y2.out.fr 1
      obtain ⟨h0, h1, hl2⟩ := HH.out.two
      go_wp2
      have q0 : (World.setCell _ ⟨w.heap.size, 0, none⟩ (.int .i64 (s.size : Int))).cell? ⟨w.heap.size, 0, none⟩ = some (.int .i64 (s.size : Int)) := ((Y2.out.set 0 (.int .i64 (s.size : Int))).cell 0).trans (by simp)
      have p0 : ((World.setCell _ ⟨w.heap.size, 0, none⟩ (.int .i64 (s.size : Int))).setCell ⟨w.heap.size, 1, none⟩ (.slice oa on oc)).cell? ⟨w.heap.size, 0, none⟩ = some (.int .i64 (s.size : Int)) := (((Y2.out.set 0 (.int .i64 (s.size : Int))).set 1 (.slice oa on oc)).cell 0).trans (by simp)
      have p1 : ((World.setCell _ ⟨w.heap.size, 0, none⟩ (.int .i64 (s.size : Int))).setCell ⟨w.heap.size, 1, none⟩ (.slice oa on oc)).cell? ⟨w.heap.size, 1, none⟩ = some (.slice oa on oc) := (((Y2.out.set 0 (.int .i64 (s.size : Int))).set 1 (.slice oa on oc)).cell 1).trans (by simp)
      refine bodyPost_ret (v := .tuple #[.agg #[.int .i64 (s.size : Int), .slice oa on oc], .bool true]) (by simp [results, Try.results31, go_sem, p0, p1]) rfl ?_
      refine ⟨_, by rw [show mpN s (i : Int) (Z : Int) = s.size by simp [mpN, OKT.out], OKT.out], ?_, (HQ.out.setCell (Nat.le_refl _) _).setCell (Nat.le_refl _) _⟩
      rw [EL.out]
      exact ((HO.out.far (p := ⟨w.heap.size, 0, none⟩) (by show w.heap.size < w.heap.size + 2; omega) _).far (p := ⟨w.heap.size, 1, none⟩) (by show w.heap.size < w.heap.size + 2; omega) _).mono (by omega)
end Go.Proofs.Ytnmeomcoeknjoab
