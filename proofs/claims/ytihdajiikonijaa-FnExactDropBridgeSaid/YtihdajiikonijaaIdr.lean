/- DropBridge: impl. -/
import Derived.Test.YtihdajiikonijaaIcs
namespace Go.Proofs.Ytihdajiikonijaa
set_option linter.unusedVariables false
open Go.RowKit

def dropOK (n : Int) (bs : List Br) (k : Int) : Bool := areIs n bs && inB k 0 ((bs.length : Int) - 1)
def dropN (n : Int) (bs : List Br) (k : Int) : Int := if dropOK n bs k then n else 0
def dropL (n : Int) (bs : List Br) (k : Int) : List Br := if dropOK n bs k then bs.eraseIdx k.toNat else []
theorem dropL_len (n : Int) (bs : List Br) (k : Int) : (dropL n bs k).length ≤ 14 := by
  unfold dropL
  split
  · rename_i h
    unfold dropOK at h
    rw [Bool.and_eq_true] at h
    have := (areIs_iff.1 h.1).2.2.1
    have := List.length_eraseIdx_le bs k.toNat
    omega
  · simp
set_option maxRecDepth 100000 in
set_option maxHeartbeats 4000000 in
theorem implDrop (n : Int) (v : Value) (bs : List Br) (k : Int) (w : World) (h : RdB w v bs) (hl : bs.length ≤ 1048576) :
    Calls Try.prog 41 #[.agg #[.int .i64 n, v], .int .i64 k] w fun e w' => ∃ u, e = .returned (.tuple #[.agg #[.int .i64 (dropN n bs k), u], .bool (dropOK n bs k)]) ∧ Brs w' w.heap.size u (dropL n bs k) ∧ Below w.heap.size w w' := by
  have H := Lib.hid h
  obtain ⟨a, l, c, rfl, hnz, t⟩ := h
  have HN := Lib.hid hnz
  clear t hnz
  obtain ⟨W0, hW0⟩ : ∃ W, W = (w.alloc (.cells #[.int .i64 n, .slice a l c] 29)).alloc (.cells #[.int .i64 0, .slice none 0 0] 29) := ⟨_, rfl⟩
  have X1 := Lib.hid (show Blk W0 w.heap.size #[.int .i64 n, .slice a l c] by rw [hW0]; exact (Blk.new w _ _).alloc _)
  have X2 := Lib.hid (show Blk W0 (w.heap.size + 1) #[.int .i64 0, .slice none 0 0] by rw [hW0]; exact (Blk.new (w.alloc (.cells #[.int .i64 n, .slice a l c] 29)) _ _).at_ (by simp))
  have B0 := Lib.hid (show Below w.heap.size w W0 by rw [hW0]; (repeat (first | exact Below.refl _ _ | (refine Below.alloc ?_ (by first | omega | (simp; try omega)) _) | apply Below.drew | apply below_drewN)))
  have HW0 := Lib.hid hW0
  clear hW0
  have s0 := B0.out.size
  have FAIL : Hid (∀ w1 : World, Below w.heap.size w w1 → Blk w1 (w.heap.size + 1) #[.int .i64 0, .slice none 0 0] → dropOK n bs k = false → ∃ u, (Ending.returned (.tuple #[.agg #[.int .i64 0, .slice none 0 0], .bool false]) : Ending) = .returned (.tuple #[.agg #[.int .i64 (dropN n bs k), u], .bool (dropOK n bs k)]) ∧ Brs ((w1.setCell ⟨w.heap.size + 1, 0, none⟩ (.int .i64 0)).setCell ⟨w.heap.size + 1, 1, none⟩ (.slice none 0 0)) w.heap.size u (dropL n bs k) ∧ Below w.heap.size w ((w1.setCell ⟨w.heap.size + 1, 0, none⟩ (.int .i64 0)).setCell ⟨w.heap.size + 1, 1, none⟩ (.slice none 0 0))) := Lib.hid (fun w1 hb hX hf => by
    refine ⟨.slice none 0 0, by rw [show dropN n bs k = 0 by simp [dropN, hf], hf], ?_, (hb.setCell (by simp) _).setCell (by simp) _⟩
    rw [show dropL n bs k = [] by simp [dropL, hf]]
    exact Brs.nil _ _)
  cases hg : areIs n bs
  · have OKF := Lib.hid (show dropOK n bs k = false by unfold dropOK; rw [hg]; rfl)
    have G := Lib.hid hg
    clear hg
    go_enter Try.func41, Try.ntmps41
    go_wp2_with fail
    rw [← HW0.out]
    clear HW0
    refine (implAreIs n _ bs _ (H.out.below B0.out) hl).mono ?_
    rw [G.out]
    rintro e w1 ⟨rfl, hb⟩
    have HB := Lib.hid (B0.out.trans (hb.mono s0))
    have Y2 := Lib.hid (X2.out.below hb X2.out.lt)
    obtain ⟨y0, y1, y2⟩ := Y2.out.two
    have f0 := Y2.out.fr 0
    have f1 := Y2.out.fr 1
    clear hb
    go_wp2
    have q0 : (World.setCell _ ⟨w.heap.size + 1, 0, none⟩ (.int .i64 0)).cell? ⟨w.heap.size + 1, 0, none⟩ = some (.int .i64 0) := ((Y2.out.set 0 (.int .i64 0)).cell 0).trans (by simp)
    have p0 : ((World.setCell _ ⟨w.heap.size + 1, 0, none⟩ (.int .i64 0)).setCell ⟨w.heap.size + 1, 1, none⟩ (.slice none 0 0)).cell? ⟨w.heap.size + 1, 0, none⟩ = some (.int .i64 0) := (((Y2.out.set 0 (.int .i64 0)).set 1 (.slice none 0 0)).cell 0).trans (by simp)
    have p1 : ((World.setCell _ ⟨w.heap.size + 1, 0, none⟩ (.int .i64 0)).setCell ⟨w.heap.size + 1, 1, none⟩ (.slice none 0 0)).cell? ⟨w.heap.size + 1, 1, none⟩ = some (.slice none 0 0) := (((Y2.out.set 0 (.int .i64 0)).set 1 (.slice none 0 0)).cell 1).trans (by simp)
    refine bodyPost_ret (v := .tuple #[.agg #[.int .i64 0, .slice none 0 0], .bool false]) (by simp [results, Try.results41, go_sem, p0, p1, q0]) rfl ?_
    exact FAIL.out _ HB.out Y2.out OKF.out
  obtain ⟨m, rfl, hm1, hm7, hl14, hgd⟩ := areIs_in hg
  have G := Lib.hid hg
  have hll : l ≤ 14 := by have := HN.out; omega
  have DO : Hid (dropOK m bs k = inB k 0 ((bs.length : Int) - 1)) := Lib.hid (by unfold dropOK; rw [hg]; rfl)
  clear hg hgd
  by_cases h0 : k < 0
  · have OKF := Lib.hid (show dropOK m bs k = false by rw [DO.out]; simp [inB]; omega)
    go_enter Try.func41, Try.ntmps41
    go_wp2_with fail
    rw [← HW0.out]
    clear HW0
    refine (implAreIs _ _ bs _ (H.out.below B0.out) hl).mono ?_
    rw [G.out]
    rintro e w1 ⟨rfl, hb⟩
    have HB := Lib.hid (B0.out.trans (hb.mono s0))
    have Y1 := Lib.hid (X1.out.below hb X1.out.lt)
    obtain ⟨z0, z1, z2⟩ := Y1.out.two
    have Y2 := Lib.hid (X2.out.below hb X2.out.lt)
    obtain ⟨y0, y1, y2⟩ := Y2.out.two
    have f0 := Y2.out.fr 0
    have f1 := Y2.out.fr 1
    clear hb
    go_wp2
    have q0 : (World.setCell _ ⟨w.heap.size + 1, 0, none⟩ (.int .i64 0)).cell? ⟨w.heap.size + 1, 0, none⟩ = some (.int .i64 0) := ((Y2.out.set 0 (.int .i64 0)).cell 0).trans (by simp)
    have p0 : ((World.setCell _ ⟨w.heap.size + 1, 0, none⟩ (.int .i64 0)).setCell ⟨w.heap.size + 1, 1, none⟩ (.slice none 0 0)).cell? ⟨w.heap.size + 1, 0, none⟩ = some (.int .i64 0) := (((Y2.out.set 0 (.int .i64 0)).set 1 (.slice none 0 0)).cell 0).trans (by simp)
    have p1 : ((World.setCell _ ⟨w.heap.size + 1, 0, none⟩ (.int .i64 0)).setCell ⟨w.heap.size + 1, 1, none⟩ (.slice none 0 0)).cell? ⟨w.heap.size + 1, 1, none⟩ = some (.slice none 0 0) := (((Y2.out.set 0 (.int .i64 0)).set 1 (.slice none 0 0)).cell 1).trans (by simp)
    refine bodyPost_ret (v := .tuple #[.agg #[.int .i64 0, .slice none 0 0], .bool false]) (by simp [results, Try.results41, go_sem, p0, p1, q0]) rfl ?_
    exact FAIL.out _ HB.out Y2.out OKF.out
  · obtain ⟨j, rfl⟩ := Int.eq_ofNat_of_zero_le (show 0 ≤ k by omega)
    by_cases h1 : j < l
    · have OKT := Lib.hid (show dropOK m bs j = true by rw [DO.out]; have := HN.out; simp [inB]; omega)
      have h1I : ¬ (l : Int) ≤ j := by omega
      go_enter Try.func41, Try.ntmps41
      go_wp2_with fail
      rw [← HW0.out]
      clear HW0
      refine (implAreIs _ _ bs _ (H.out.below B0.out) hl).mono ?_
      rw [G.out]
      rintro e w1 ⟨rfl, hb⟩
      have HB := Lib.hid (B0.out.trans (hb.mono s0))
      have Y1 := Lib.hid (X1.out.below hb X1.out.lt)
      obtain ⟨z0, z1, z2⟩ := Y1.out.two
      have Y2 := Lib.hid (X2.out.below hb X2.out.lt)
      have sb := HB.out.size
      clear hb
      go_wp2_with fail
      refine (withoutBridge m _ bs j _ (H.out.below HB.out) (by have := HN.out; omega) hl14).mono ?_
      rintro e w2 ⟨u, rfl, hU, hb⟩
      have HB2 := Lib.hid (HB.out.trans (hb.mono sb))
      have Y3 := Lib.hid (Y2.out.below hb Y2.out.lt)
      have hlt2 := Y2.out.lt
      have HU := Lib.hid hU
      obtain ⟨ua, uc, rfl⟩ := hU.len
      obtain ⟨y0, y1, y2⟩ := Y3.out.two
      have f0 := Y3.out.fr 0
      have f1 := Y3.out.fr 1
      clear hb hU z0 z1 z2
      go_wp2
      have q0 : (World.setCell _ ⟨w.heap.size + 1, 0, none⟩ (.int .i64 (m : Int))).cell? ⟨w.heap.size + 1, 0, none⟩ = some (.int .i64 (m : Int)) := ((Y3.out.set 0 (.int .i64 (m : Int))).cell 0).trans (by simp)
      have p0 : ((World.setCell _ ⟨w.heap.size + 1, 0, none⟩ (.int .i64 (m : Int))).setCell ⟨w.heap.size + 1, 1, none⟩ (.slice ua (bs.eraseIdx j).length uc)).cell? ⟨w.heap.size + 1, 0, none⟩ = some (.int .i64 (m : Int)) := (((Y3.out.set 0 (.int .i64 (m : Int))).set 1 (.slice ua (bs.eraseIdx j).length uc)).cell 0).trans (by simp)
      have p1 : ((World.setCell _ ⟨w.heap.size + 1, 0, none⟩ (.int .i64 (m : Int))).setCell ⟨w.heap.size + 1, 1, none⟩ (.slice ua (bs.eraseIdx j).length uc)).cell? ⟨w.heap.size + 1, 1, none⟩ = some (.slice ua (bs.eraseIdx j).length uc) := (((Y3.out.set 0 (.int .i64 (m : Int))).set 1 (.slice ua (bs.eraseIdx j).length uc)).cell 1).trans (by simp)
      refine bodyPost_ret (v := .tuple #[.agg #[.int .i64 m, .slice ua (bs.eraseIdx j).length uc], .bool true]) (by simp [results, Try.results41, go_sem, p0, p1, q0]) rfl ?_
      refine ⟨_, by rw [show dropN m bs j = m by simp [dropN, OKT.out], OKT.out], ?_, (HB2.out.setCell (by simp) _).setCell (by simp) _⟩
      rw [show dropL m bs j = bs.eraseIdx j by simp [dropL, OKT.out]]
      exact ((HU.out.far (by simpa using hlt2) _).far (by simpa using hlt2) _).mono sb
    · have OKF := Lib.hid (show dropOK m bs j = false by rw [DO.out]; have := HN.out; simp [inB]; omega)
      have h1I : (l : Int) ≤ j := by omega
      go_enter Try.func41, Try.ntmps41
      go_wp2_with fail
      rw [← HW0.out]
      clear HW0
      refine (implAreIs _ _ bs _ (H.out.below B0.out) hl).mono ?_
      rw [G.out]
      rintro e w1 ⟨rfl, hb⟩
      have HB := Lib.hid (B0.out.trans (hb.mono s0))
      have Y1 := Lib.hid (X1.out.below hb X1.out.lt)
      obtain ⟨z0, z1, z2⟩ := Y1.out.two
      have Y2 := Lib.hid (X2.out.below hb X2.out.lt)
      obtain ⟨y0, y1, y2⟩ := Y2.out.two
      have f0 := Y2.out.fr 0
      have f1 := Y2.out.fr 1
      clear hb
      go_wp2
      have q0 : (World.setCell _ ⟨w.heap.size + 1, 0, none⟩ (.int .i64 0)).cell? ⟨w.heap.size + 1, 0, none⟩ = some (.int .i64 0) := ((Y2.out.set 0 (.int .i64 0)).cell 0).trans (by simp)
      have p0 : ((World.setCell _ ⟨w.heap.size + 1, 0, none⟩ (.int .i64 0)).setCell ⟨w.heap.size + 1, 1, none⟩ (.slice none 0 0)).cell? ⟨w.heap.size + 1, 0, none⟩ = some (.int .i64 0) := (((Y2.out.set 0 (.int .i64 0)).set 1 (.slice none 0 0)).cell 0).trans (by simp)
      have p1 : ((World.setCell _ ⟨w.heap.size + 1, 0, none⟩ (.int .i64 0)).setCell ⟨w.heap.size + 1, 1, none⟩ (.slice none 0 0)).cell? ⟨w.heap.size + 1, 1, none⟩ = some (.slice none 0 0) := (((Y2.out.set 0 (.int .i64 0)).set 1 (.slice none 0 0)).cell 1).trans (by simp)
      refine bodyPost_ret (v := .tuple #[.agg #[.int .i64 0, .slice none 0 0], .bool false]) (by simp [results, Try.results41, go_sem, p0, p1, q0]) rfl ?_
      exact FAIL.out _ HB.out Y2.out OKF.out
end Go.Proofs.Ytihdajiikonijaa
