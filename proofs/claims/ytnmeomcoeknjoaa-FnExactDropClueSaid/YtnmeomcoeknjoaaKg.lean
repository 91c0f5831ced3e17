/- DropClue: impl (written by gen_kf.py). -/
import Derived.Test.YtnmeomcoeknjoaaKf
namespace Go.Proofs.Ytnmeomcoeknjoaa
set_option linter.unusedVariables false
set_option maxRecDepth 100000
open Go.RowKit

theorem RdB.take {w : World} {a : Option Addr} {l c j : Nat} {bs : List Br} (h : RdB w (.slice a l c) bs) (hj : j ≤ l) : RdB w (.slice a j c) (bs.take j) := by
  obtain ⟨_, _, _, e, hn, ⟨hc1, hc2⟩, hm, hcell⟩ := h
  injection e with e1 e2 e3
  subst e1 e2 e3
  refine ⟨_, _, _, rfl, by simp; omega, ⟨by omega, hc2⟩, hm, fun q hq => ?_⟩
  obtain ⟨b, off, e, h1, h2⟩ := hcell q (by omega)
  refine ⟨b, off, e, h1, ?_⟩
  have : gb (bs.take j) q = gb bs q := by simp [gb, List.getD_eq_getElem?_getD, hq]
  rw [this]; exact h2
theorem RdB.drop {w : World} {b off l c j : Nat} {bs : List Br} (h : RdB w (.slice (some ⟨b, off, none⟩) l c) bs) (hj : j ≤ l) : RdB w (.slice (if c = j then (some ⟨b, off, none⟩ : Option Addr) else some ⟨b, off + j * 3, none⟩) (l - j) (c - j)) (bs.drop j) := by
  obtain ⟨_, _, _, e, hn, ⟨hc1, hc2⟩, hm, hcell⟩ := h
  injection e with e1 e2 e3
  subst e1 e2 e3
  refine ⟨_, _, _, rfl, by simp; omega, ⟨by omega, fun h => ?_⟩, by omega, fun q hq => ?_⟩
  · split at h <;> cases h
  · obtain ⟨b', off', e, h1, h2⟩ := hcell (j + q) (by omega)
    injection e with e
    injection e with e1 e2
    subst e1 e2
    rw [if_neg (by omega)]
    refine ⟨b, off + j * 3, rfl, h1, ?_⟩
    have : gb (bs.drop j) q = gb bs (j + q) := by simp [gb, List.getD_eq_getElem?_getD, List.getElem?_drop]
    rw [this, show off + j * 3 + q * 3 = off + (j + q) * 3 by omega]; exact h2
set_option maxRecDepth 100000 in
set_option maxHeartbeats 4000000 in
theorem implDrop (n : Int) (v : Value) (bs : List Br) (k : Int) (w : World) (h : RdB w v bs) (hl : bs.length ≤ 1048576) :
    Calls Try.prog 17 #[.agg #[.int .i64 n, v], .int .i64 k] w fun e w' => ∃ u, e = .returned (.tuple #[.agg #[.int .i64 (dropN n bs k), u], .bool (dropOK n bs k)]) ∧ Brs w' w.heap.size u (dropL n bs k) ∧ Below w.heap.size w w' := by
  have H := Lib.hid h
  obtain ⟨a, l, c, rfl, hnz, ⟨hlc, _⟩, _, hcell⟩ := h
  have HN := Lib.hid hnz
  have HLC := Lib.hid hlc
  have HA := Lib.hid (fun (h1 : 0 < l) => by obtain ⟨b, off, e, _⟩ := hcell 0 h1; exact ⟨b, off, e⟩ : 0 < l → ∃ b off, a = some ⟨b, off, none⟩)
  clear hnz hcell hlc
  obtain ⟨W0, hW0⟩ : ∃ W, W = (w.alloc (.cells #[.int .i64 n, .slice a l c] 35)).alloc (.cells #[.int .i64 0, .slice none 0 0] 35) := ⟨_, rfl⟩
  have X1 := Lib.hid (show Blk W0 w.heap.size #[.int .i64 n, .slice a l c] by rw [hW0]; exact (Blk.new w _ _).alloc _)
  have X2 := Lib.hid (show Blk W0 (w.heap.size + 1) #[.int .i64 0, .slice none 0 0] by rw [hW0]; exact (Blk.new (w.alloc (.cells #[.int .i64 n, .slice a l c] 35)) _ _).at_ (by simp))
  have B0 := Lib.hid (show Below w.heap.size w W0 by rw [hW0]; (repeat (first | exact Below.refl _ _ | (refine Below.alloc ?_ (by first | omega | (simp; try omega)) _) | apply Below.drew | apply below_drewN)))
  have HW0 := Lib.hid hW0
  clear hW0
  have s0 := B0.out.size
  have FAIL : Hid (∀ w1 : World, Below w.heap.size w w1 → Blk w1 (w.heap.size + 1) #[.int .i64 0, .slice none 0 0] → dropOK n bs k = false → ∃ u, (Ending.returned (.tuple #[.agg #[.int .i64 0, .slice none 0 0], .bool false]) : Ending) = .returned (.tuple #[.agg #[.int .i64 (dropN n bs k), u], .bool (dropOK n bs k)]) ∧ Brs ((w1.setCell ⟨w.heap.size + 1, 0, none⟩ (.int .i64 0)).setCell ⟨w.heap.size + 1, 1, none⟩ (.slice none 0 0)) w.heap.size u (dropL n bs k) ∧ Below w.heap.size w ((w1.setCell ⟨w.heap.size + 1, 0, none⟩ (.int .i64 0)).setCell ⟨w.heap.size + 1, 1, none⟩ (.slice none 0 0))) := Lib.hid (fun w1 hb hX hf => by
    refine ⟨.slice none 0 0, by rw [show dropN n bs k = 0 by simp [dropN, hf], hf], ?_, (hb.setCell (by simp) _).setCell (by simp) _⟩
    rw [show dropL n bs k = [] by simp [dropL, hf]]
    exact Brs.nil _ _)
  cases hg : isPz n bs
  · have OKF := Lib.hid (show dropOK n bs k = false by unfold dropOK; rw [hg]; rfl)
    have G := Lib.hid hg
    clear hg
    go_enter Try.func17, Try.ntmps17
    go_wp2_with fail
    rw [← HW0.out]
    clear HW0
    refine (implIsPz n _ bs _ (H.out.below B0.out) hl).mono ?_
    rw [G.out]
    rintro e w1 ⟨rfl, hb⟩
    have HB := Lib.hid (B0.out.trans (hb.mono s0))
    have Y2 := Lib.hid (X2.out.below hb X2.out.lt)
    obtain ⟨y0, y1, y2⟩ := Y2.out.two
    have f0 := Y2.out.fr 0
    have f1 := Y2.out.fr 1
    clear hb
    go_wp2
    have q0 : (World.setCell _ ⟨w.heap.size + 1, 0, none⟩ (.int .i64 0)).cell? ⟨w.heap.size + 1, 0, none⟩ = some (.int .i64 0) := ((Y2.out.set 0 (.int .i64 0)).cell 0).trans (by simp)
    have p0 : ((World.setCell _ ⟨w.heap.size + 1, 0, none⟩ (.int .i64 0)).setCell ⟨w.heap.size + 1, 1, none⟩ (.slice none 0 0)).cell? ⟨w.heap.size + 1, 0, none⟩ = some (.int .i64 0) := (((Y2.out.set 0 (.int .i64 0)).set 1 (.slice none 0 0)).cell 0).trans (by simp)
    have p1 : ((World.setCell _ ⟨w.heap.size + 1, 0, none⟩ (.int .i64 0)).setCell ⟨w.heap.size + 1, 1, none⟩ (.slice none 0 0)).cell? ⟨w.heap.size + 1, 1, none⟩ = some (.slice none 0 0) := (((Y2.out.set 0 (.int .i64 0)).set 1 (.slice none 0 0)).cell 1).trans (by simp)
    refine bodyPost_ret (v := .tuple #[.agg #[.int .i64 0, .slice none 0 0], .bool false]) (by simp [results, Try.results17, go_sem, p0, p1, q0]) rfl ?_
    exact FAIL.out _ HB.out Y2.out OKF.out
  obtain ⟨m, rfl, hm1, hm7, hl14, hgd⟩ := isPz_in hg
  have G := Lib.hid hg
  have hll : l ≤ 6 := by have := HN.out; omega
  have DO : Hid (dropOK m bs k = inB k 0 ((bs.length : Int) - 1)) := Lib.hid (by unfold dropOK; rw [hg]; rfl)
  clear hg hgd
  by_cases h0 : k < 0
  · have OKF := Lib.hid (show dropOK m bs k = false by rw [DO.out]; simp [inB]; omega)
    go_enter Try.func17, Try.ntmps17
    go_wp2_with fail
    rw [← HW0.out]
    clear HW0
    refine (implIsPz _ _ bs _ (H.out.below B0.out) hl).mono ?_
    rw [G.out]
    rintro e w1 ⟨rfl, hb⟩
    have HB := Lib.hid (B0.out.trans (hb.mono s0))
    have Y1 := Lib.hid (X1.out.below hb X1.out.lt)
    obtain ⟨z0, z1, z2⟩ := Y1.out.two
    have Y2 := Lib.hid (X2.out.below hb X2.out.lt)
    obtain ⟨y0, y1, y2⟩ := Y2.out.two
    have f0 := Y2.out.fr 0
    have f1 := Y2.out.fr 1
    clear hb
    go_wp2
    have q0 : (World.setCell _ ⟨w.heap.size + 1, 0, none⟩ (.int .i64 0)).cell? ⟨w.heap.size + 1, 0, none⟩ = some (.int .i64 0) := ((Y2.out.set 0 (.int .i64 0)).cell 0).trans (by simp)
    have p0 : ((World.setCell _ ⟨w.heap.size + 1, 0, none⟩ (.int .i64 0)).setCell ⟨w.heap.size + 1, 1, none⟩ (.slice none 0 0)).cell? ⟨w.heap.size + 1, 0, none⟩ = some (.int .i64 0) := (((Y2.out.set 0 (.int .i64 0)).set 1 (.slice none 0 0)).cell 0).trans (by simp)
    have p1 : ((World.setCell _ ⟨w.heap.size + 1, 0, none⟩ (.int .i64 0)).setCell ⟨w.heap.size + 1, 1, none⟩ (.slice none 0 0)).cell? ⟨w.heap.size + 1, 1, none⟩ = some (.slice none 0 0) := (((Y2.out.set 0 (.int .i64 0)).set 1 (.slice none 0 0)).cell 1).trans (by simp)
    refine bodyPost_ret (v := .tuple #[.agg #[.int .i64 0, .slice none 0 0], .bool false]) (by simp [results, Try.results17, go_sem, p0, p1, q0]) rfl ?_
    exact FAIL.out _ HB.out Y2.out OKF.out
  · obtain ⟨j, rfl⟩ := Int.eq_ofNat_of_zero_le (show 0 ≤ k by omega)
    by_cases h1 : j < l
    · have OKT := Lib.hid (show dropOK m bs j = true by rw [DO.out]; have := HN.out; simp [inB]; omega)
      have h1I : ¬ (l : Int) ≤ j := by omega
      go_enter Try.func17, Try.ntmps17
      go_wp2_with fail
      rw [← HW0.out]
      clear HW0
      refine (implIsPz _ _ bs _ (H.out.below B0.out) hl).mono ?_
      rw [G.out]
      rintro e w1 ⟨rfl, hb⟩
      have HB := Lib.hid (B0.out.trans (hb.mono s0))
      have Y1 := Lib.hid (X1.out.below hb X1.out.lt)
      obtain ⟨z0, z1, z2⟩ := Y1.out.two
      have Y2 := Lib.hid (X2.out.below hb X2.out.lt)
      have sb := HB.out.size
      clear hb
      have hj := h1
      have hlc := HLC.out
      obtain ⟨bb, off, rfl⟩ := HA.out (by omega)
      have hwr : IntKind.i64.wrap ((j : Int) + 1) = (j : Int) + 1 := by rw [IntKind.wrap_i64]; omega
      have hk2 : (j : Int) + 1 ≤ (l : Int) := by omega
      have hk3 : ((j : Int) + 1).toNat = j + 1 := by omega
      have hk4 : (0 : Int) ≤ (j : Int) + 1 := by omega
      have hkc : j ≤ c := by omega
      have hkc1 : j + 1 ≤ c := by omega
      have RT := Lib.hid (RdB.take (H.out.below HB.out) (j := j) (by omega))
      have RD := Lib.hid (RdB.drop (H.out.below HB.out) (j := j + 1) (by omega))
      have hbl := Lib.hid (show (bs.take j).length + (bs.drop (j + 1)).length ≤ 100 by have := HN.out; simp; omega)
      have HE := Lib.hid (show bs.take j ++ bs.drop (j + 1) = bs.eraseIdx j from (List.eraseIdx_eq_take_drop_succ bs j).symm)
      obtain ⟨A, hA⟩ : ∃ A : Addr, (if c = j + 1 then (some ⟨bb, off, none⟩ : Option Addr) else some ⟨bb, off + (j + 1) * 3, none⟩) = some A := by split <;> exact ⟨_, rfl⟩
      rw [hA] at RD
      have Y1d := Lib.hid Y1.out.drew
      have Y2d := Lib.hid Y2.out.drew
      have HBd := Lib.hid HB.out.drew
      have sbd : w.heap.size ≤ w1.drew.heap.size := sb
      obtain ⟨y0, y1, y2⟩ := Y2.out.two
      have PA := Lib.hid (show Blk ((w1.alloc (.cells #[.slice (some ⟨bb, off, none⟩) j c, .slice (some A) (l - (j + 1)) (c - (j + 1))] 33)).drew) w1.heap.size #[.slice (some ⟨bb, off, none⟩) j c, .slice (some A) (l - (j + 1)) (c - (j + 1))] from (Blk.new w1 _ _).drew)
      have PT := Lib.hid PA.out.two
      have PB := Lib.hid (show Below w1.heap.size w1 (w1.alloc (.cells #[.slice (some ⟨bb, off, none⟩) j c, .slice (some A) (l - (j + 1)) (c - (j + 1))] 33)).drew by (repeat (first | exact Below.refl _ _ | (refine Below.alloc ?_ (by first | omega | (simp; try omega)) _) | apply Below.drew | apply below_drewN)))
      have PC := Lib.hid (show Below w1.heap.size w1 (w1.alloc (.cells #[.slice (some ⟨bb, off, none⟩) j c, .slice (some A) (l - (j + 1)) (c - (j + 1))] 33)) by (repeat (first | exact Below.refl _ _ | (refine Below.alloc ?_ (by first | omega | (simp; try omega)) _) | apply Below.drew | apply below_drewN)))
      go_wp2_with fail
      go_region_held3 (fun w' => w'.cell? ⟨w.heap.size, 0, none⟩ = some (.int .i64 (m : Int)) ∧ w'.cell? ⟨w.heap.size, 1, none⟩ = some (.slice (some ⟨bb, off, none⟩) l c)) (first | exact kp Y1d.out | exact kp (Y1.out.below PB.out Y1.out.lt) | exact kp (Y1.out.below PC.out Y1.out.lt) | exact kp Y3a.out | exact kp ((Y3a.out.far (p := ⟨w.heap.size + 1, 0, none⟩) (by simp) _).far (p := ⟨w.heap.size + 1, 1, none⟩) (by simp) _)) (first
        | (go_at_call 36; (with_reducible refine (concat2 w1.heap.size _ _ (bs.take j) (bs.drop (j + 1)) _ PT.out.2.2 PT.out.1 PT.out.2.1 (RT.out.below PB.out) (RD.out.below PB.out) hbl.out).mono ?_); rintro e w2 ⟨u, rfl, hU, hb⟩; have D2 := Lib.hid (PB.out.trans (hb.mono PB.out.size)); have HB2 := Lib.hid (HB.out.trans (D2.out.mono sb)); have Y3a := Lib.hid (Y1.out.below D2.out Y1.out.lt); have Y3 := Lib.hid (Y2.out.below D2.out Y2.out.lt); have HU := Lib.hid (hU.mono PB.out.size); rw [HE.out] at HU; obtain ⟨ua, uc, rfl⟩ := HU.out.len; obtain ⟨y0, y1, y2⟩ := Y3.out.two; have f0 := Y3.out.fr 0; have f1 := Y3.out.fr 1; clear hb hU; skip)
        | fail)
      have hlt2 := Y2d.out.lt
      go_wp2
      have q0 : (World.setCell _ ⟨w.heap.size + 1, 0, none⟩ (.int .i64 (m : Int))).cell? ⟨w.heap.size + 1, 0, none⟩ = some (.int .i64 (m : Int)) := ((Y3.out.set 0 (.int .i64 (m : Int))).cell 0).trans (by simp)
      have p0 : ((World.setCell _ ⟨w.heap.size + 1, 0, none⟩ (.int .i64 (m : Int))).setCell ⟨w.heap.size + 1, 1, none⟩ (.slice ua (bs.eraseIdx j).length uc)).cell? ⟨w.heap.size + 1, 0, none⟩ = some (.int .i64 (m : Int)) := (((Y3.out.set 0 (.int .i64 (m : Int))).set 1 (.slice ua (bs.eraseIdx j).length uc)).cell 0).trans (by simp)
      have p1 : ((World.setCell _ ⟨w.heap.size + 1, 0, none⟩ (.int .i64 (m : Int))).setCell ⟨w.heap.size + 1, 1, none⟩ (.slice ua (bs.eraseIdx j).length uc)).cell? ⟨w.heap.size + 1, 1, none⟩ = some (.slice ua (bs.eraseIdx j).length uc) := (((Y3.out.set 0 (.int .i64 (m : Int))).set 1 (.slice ua (bs.eraseIdx j).length uc)).cell 1).trans (by simp)
      refine bodyPost_ret (v := .tuple #[.agg #[.int .i64 m, .slice ua (bs.eraseIdx j).length uc], .bool true]) (by simp [results, Try.results17, go_sem, p0, p1, q0]) rfl ?_
      refine ⟨_, by rw [show dropN m bs j = m by simp [dropN, OKT.out], OKT.out], ?_, (HB2.out.setCell (by simp) _).setCell (by simp) _⟩
      rw [show dropL m bs j = bs.eraseIdx j by simp [dropL, OKT.out]]
      exact ((HU.out.far (by simpa using hlt2) _).far (by simpa using hlt2) _).mono sb
    · have OKF := Lib.hid (show dropOK m bs j = false by rw [DO.out]; have := HN.out; simp [inB]; omega)
      have h1I : (l : Int) ≤ j := by omega
      go_enter Try.func17, Try.ntmps17
      go_wp2_with fail
      rw [← HW0.out]
      clear HW0
      refine (implIsPz _ _ bs _ (H.out.below B0.out) hl).mono ?_
      rw [G.out]
      rintro e w1 ⟨rfl, hb⟩
      have HB := Lib.hid (B0.out.trans (hb.mono s0))
      have Y1 := Lib.hid (X1.out.below hb X1.out.lt)
      obtain ⟨z0, z1, z2⟩ := Y1.out.two
      have Y2 := Lib.hid (X2.out.below hb X2.out.lt)
      obtain ⟨y0, y1, y2⟩ := Y2.out.two
      have f0 := Y2.out.fr 0
      have f1 := Y2.out.fr 1
      clear hb
      go_wp2
      have q0 : (World.setCell _ ⟨w.heap.size + 1, 0, none⟩ (.int .i64 0)).cell? ⟨w.heap.size + 1, 0, none⟩ = some (.int .i64 0) := ((Y2.out.set 0 (.int .i64 0)).cell 0).trans (by simp)
      have p0 : ((World.setCell _ ⟨w.heap.size + 1, 0, none⟩ (.int .i64 0)).setCell ⟨w.heap.size + 1, 1, none⟩ (.slice none 0 0)).cell? ⟨w.heap.size + 1, 0, none⟩ = some (.int .i64 0) := (((Y2.out.set 0 (.int .i64 0)).set 1 (.slice none 0 0)).cell 0).trans (by simp)
      have p1 : ((World.setCell _ ⟨w.heap.size + 1, 0, none⟩ (.int .i64 0)).setCell ⟨w.heap.size + 1, 1, none⟩ (.slice none 0 0)).cell? ⟨w.heap.size + 1, 1, none⟩ = some (.slice none 0 0) := (((Y2.out.set 0 (.int .i64 0)).set 1 (.slice none 0 0)).cell 1).trans (by simp)
      refine bodyPost_ret (v := .tuple #[.agg #[.int .i64 0, .slice none 0 0], .bool false]) (by simp [results, Try.results17, go_sem, p0, p1, q0]) rfl ?_
      exact FAIL.out _ HB.out Y2.out OKF.out
end Go.Proofs.Ytnmeomcoeknjoaa
