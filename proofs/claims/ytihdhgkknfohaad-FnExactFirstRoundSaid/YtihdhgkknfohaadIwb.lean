/- impl.withBridges. -/
import Derived.Test.YtihdhgkknfohaadIjp
import Derived.Test.YtihdhgkknfohaadIap
import Derived.Test.YtihdhgkknfohaadIx
import Derived.Deep.RegionLaw
namespace Go.Proofs.Ytihdhgkknfohaad
set_option linter.unusedVariables false
open Go.RowKit

theorem pickB_takeW {bs : List Br} {l : List Nat} {k : Nat} (h : k < l.length) : pickB bs (l.take (k + 1)) = pickB bs (l.take k) ++ [gb bs (l.getD k 0)] := by
  rw [List.take_succ_eq_append_getElem h, pickB_app]
  simp [pickB, h]
set_option maxRecDepth 100000 in
set_option maxHeartbeats 2000000 in
theorem withBridges (m : Nat) (v vl : Value) (bs : List Br) (l : List Nat) (w : World) (h : RdB w v bs) (hI : Rd w vl (idx l)) (hlt : ∀ x ∈ l, x < bs.length) (hl : l.length ≤ 14) :
    Calls Try.prog 25 #[.agg #[.int .i64 m, v], vl] w fun e w' => ∃ u, e = .returned (.agg #[.int .i64 m, u]) ∧ Brs w' w.heap.size u (pickB bs l) ∧ Below w.heap.size w w' := by
  have HV := Lib.hid h
  obtain ⟨av, lv, c, rfl, hnz, _, _, hvc⟩ := h
  have HVC := Lib.hid hvc
  have HVN := Lib.hid hnz
  have HLT := Lib.hid hlt
  obtain ⟨ab, n, cb, rfl, hn, hcell⟩ := hI.cells
  rw [idx_len] at hn
  have HN := Lib.hid hn
  have HC := Lib.hid hcell
  rw [← hn] at hl
  clear hvc hnz hlt hI hn hcell
  obtain ⟨W0, hW0⟩ : ∃ W, W = ((w.alloc (.cells #[.int .i64 m, .slice av lv c] 31)).alloc (.cells #[.int .i64 0, .slice none 0 0] 31)).alloc (.cells #[.int .i64 m, .slice none 0 0] 31) := ⟨_, rfl⟩
  have X1 := Lib.hid (show Blk W0 w.heap.size #[.int .i64 m, .slice av lv c] by rw [hW0]; exact ((Blk.new w _ _).alloc _).alloc _)
  have X2 := Lib.hid (show Blk W0 (w.heap.size + 1) #[.int .i64 0, .slice none 0 0] by rw [hW0]; exact ((Blk.new (w.alloc (.cells #[.int .i64 m, .slice av lv c] 31)) _ _).at_ (by simp)).alloc _)
  have X3 := Lib.hid (show Blk W0 (w.heap.size + 1 + 1) #[.int .i64 m, .slice none 0 0] by rw [hW0]; exact (Blk.new ((w.alloc (.cells #[.int .i64 m, .slice av lv c] 31)).alloc (.cells #[.int .i64 0, .slice none 0 0] 31)) _ _).at_ (by simp))
  have B0 := Lib.hid (show Below w.heap.size w W0 by rw [hW0]; (repeat (first | exact Below.refl _ _ | (refine Below.alloc ?_ (by first | omega | (simp; try omega)) _) | apply Below.drew | apply below_drewN)))
  have HW0 := Lib.hid hW0
  have s1 : w.heap.size + 1 + 1 < W0.heap.size := X3.out.lt
  clear hW0
  go_enter Try.func25, Try.ntmps25
  go_wp2_with fail
  rw [← HW0.out]
  clear HW0
  go_loopw [13] (fun q wr => ∃ k : Nat, k ≤ n ∧ q = .int .i64 k ∧ Hid (∃ u, Brs wr (w.heap.size + 1 + 1 + 1) u (pickB bs (l.take k)) ∧ Blk wr (w.heap.size + 1 + 1) #[.int .i64 m, u]) ∧ Hid (Blk wr w.heap.size #[.int .i64 m, .slice av lv c]) ∧ Hid (Blk wr (w.heap.size + 1) #[.int .i64 0, .slice none 0 0]) ∧ Hid (Below w.heap.size w wr)) (fun q _ => n - (intOf q).toNat)
  case atStart => exact ⟨0, Nat.zero_le _, rfl, Lib.hid ⟨_, Brs.nil _ _, X3.out⟩, X1, X2, B0⟩
  case round =>
    obtain ⟨k, hk, rfl, HP, HS, HR, HB⟩ := hrel
    obtain ⟨u, hu, hP⟩ := HP.out
    have HU := Lib.hid hu
    have P0 := Lib.hid hP
    obtain ⟨ua, uc, rfl⟩ := hu.len
    have hsz : w.heap.size + 1 + 1 + 1 ≤ wr.heap.size := hP.lt
    obtain ⟨c0, c1, c2⟩ := HS.out.two
    obtain ⟨p0, p1, p2⟩ := hP.two
    clear hu hP HP
    by_cases hlt : k < n
    · obtain ⟨b, off, rfl, hbw, hcx⟩ := HC.out k hlt
      have hcx2 := (HB.out.cell (p := ⟨b, off + k, none⟩) hbw).trans hcx
      rw [idx_gt] at hcx2
      have hkb : k < l.length := by have := HN.out; omega
      have PT := Lib.hid (pickB_takeW (bs := bs) hkb)
      have PL : (pickB bs (l.take k)).length ≤ 1000 := by rw [pickB_len, List.length_take]; omega
      have hxl : l.getD k 0 < lv := by
        rw [HVN.out, List.getD_eq_getElem?_getD, List.getElem?_eq_getElem hkb]; exact HLT.out _ (List.getElem_mem _)
      generalize l.getD k 0 = x at *
      obtain ⟨b2, off2, rfl, hbw2, hA⟩ := HVC.out x hxl
      obtain ⟨x0, x1, x2⟩ := hA.below hbw2 HB.out
      have hxI : (x : Int) < lv := by omega
      generalize gb bs x = q at *
      obtain ⟨y0, y1, y2⟩ := q
      simp only at PT x0 x1 x2
      have hltI : (k : Int) < n := by omega
      clear hcx hA
      have hdA : Below wr.heap.size wr (wr.alloc (.cells #[.int .i64 y0, .int .i64 y1, .int .i64 y2] 45)).drew := by (repeat (first | exact Below.refl _ _ | (refine Below.alloc ?_ (by first | omega | (simp; try omega)) _) | apply Below.drew | apply below_drewN))
      have NB := Lib.hid (Blk.new wr #[.int .i64 y0, .int .i64 y1, .int .i64 y2] 45).drew
      have DA := Lib.hid hdA
      clear hdA
      go_wp2_with fail
      go_region_law (first
        | (refine step_appB1 rfl (.tmp 18) (.tmp 24) rfl (w.heap.size + 1 + 1 + 1) (.slice ua (pickB bs (l.take k)).length uc) (pickB bs (l.take k)) ?_ (HU.out.below DA.out) wr.heap.size y0 y1 y2 ?_ NB.out PL (Nat.le_trans hsz DA.out.size) ?_; (· simp [Act.eval, Act.put]); (· simp [Act.eval, Act.put]); intro g cap2 w2 hI2 hg2; have U2 := Lib.hid hI2; have LT := Lib.hid (fun b hb => (HU.out.lt b hb).1); have P2 := Lib.hid ((P0.out.below DA.out P0.out.lt).kept hg2 (fun e => by have := LT.out _ e.symm; omega)); have S2 := Lib.hid ((HS.out.below DA.out HS.out.lt).kept hg2 (fun e => by have := LT.out _ e.symm; omega)); have R2 := Lib.hid ((HR.out.below DA.out HR.out.lt).kept hg2 (fun e => by have := LT.out _ e.symm; omega)); have B2 := Lib.hid ((HB.out.trans (DA.out.mono (by omega))).grown hg2 (by have := DA.out.size; omega) (fun b hb => by have := LT.out b hb; omega)); obtain ⟨r0, r1, r2⟩ := P2.out.two; have f1 := P2.out.fr 1; clear hI2 hg2)
        | fail)
      all_goals
        have PF := Lib.hid (show Blk (w2.setCell ⟨w.heap.size + 1 + 1, 1, none⟩ (.slice (some ⟨g, 0, none⟩) ((pickB bs (l.take k)).length + 1) cap2)) (w.heap.size + 1 + 1) #[.int .i64 m, .slice (some ⟨g, 0, none⟩) ((pickB bs (l.take k)).length + 1) cap2] from P2.out.set 1 _)
        have UF := Lib.hid (U2.out.far (p := ⟨w.heap.size + 1 + 1, 1, none⟩) (Nat.lt_succ_self _) (.slice (some ⟨g, 0, none⟩) ((pickB bs (l.take k)).length + 1) cap2))
        have SF := Lib.hid (S2.out.far (p := ⟨w.heap.size + 1 + 1, 1, none⟩) (by show w.heap.size ≠ w.heap.size + 1 + 1; omega) (.slice (some ⟨g, 0, none⟩) ((pickB bs (l.take k)).length + 1) cap2))
        have RF := Lib.hid (R2.out.far (p := ⟨w.heap.size + 1 + 1, 1, none⟩) (by show w.heap.size + 1 ≠ w.heap.size + 1 + 1; omega) (.slice (some ⟨g, 0, none⟩) ((pickB bs (l.take k)).length + 1) cap2))
        have BF := Lib.hid (B2.out.setCell (p := ⟨w.heap.size + 1 + 1, 1, none⟩) (by show w.heap.size ≤ w.heap.size + 1 + 1; omega) (.slice (some ⟨g, 0, none⟩) ((pickB bs (l.take k)).length + 1) cap2))
        generalize World.setCell _ _ _ = wf at *
        clear P2 U2 S2 R2 B2
        go_wp2
        go_roundw
        case rel => exact ⟨k + 1, by omega, by go_num, Lib.hid ⟨_, by rw [PT.out]; exact UF.out, PF.out⟩, SF, RF, BF⟩
        case measure => (simp [intOf]; try omega)
    · obtain rfl : k = n := by omega
      have TK : l.take k = l := List.take_of_length_le (by have := HN.out; omega)
      rw [TK] at HU P0 p1
      clear TK
      obtain ⟨r0, r1, r2⟩ := HR.out.two
      have f0 := HR.out.fr 0
      have f1 := HR.out.fr 1
      have HF := Lib.hid ((HR.out.set 0 (.int .i64 m)).set 1 (.slice ua (pickB bs l).length uc))
      have HRr := Lib.hid (((HU.out.far (p := ⟨w.heap.size + 1, 0, none⟩) (by show w.heap.size + 1 < _; omega) (.int .i64 m)).far (p := ⟨w.heap.size + 1, 1, none⟩) (by show w.heap.size + 1 < _; omega) (.slice ua (pickB bs l).length uc)).mono (B := w.heap.size) (by omega))
      have HBf := Lib.hid ((HB.out.setCell (p := ⟨w.heap.size + 1, 0, none⟩) (by show w.heap.size ≤ w.heap.size + 1; omega) (.int .i64 m)).setCell (p := ⟨w.heap.size + 1, 1, none⟩) (by show w.heap.size ≤ w.heap.size + 1; omega) (.slice ua (pickB bs l).length uc))
      have q0 : (World.setCell wr ⟨w.heap.size + 1, 0, none⟩ (.int .i64 (m : Int))).cell? ⟨w.heap.size + 1, 0, none⟩ = some (.int .i64 (m : Int)) := ((HR.out.set 0 (.int .i64 (m : Int))).cell 0).trans (by simp)
      have z0 : ((World.setCell wr ⟨w.heap.size + 1, 0, none⟩ (.int .i64 (m : Int))).setCell ⟨w.heap.size + 1, 1, none⟩ (.slice ua (pickB bs l).length uc)).cell? ⟨w.heap.size + 1, 0, none⟩ = some (.int .i64 (m : Int)) := (HF.out.cell 0).trans (by simp)
      have z1 : ((World.setCell wr ⟨w.heap.size + 1, 0, none⟩ (.int .i64 (m : Int))).setCell ⟨w.heap.size + 1, 1, none⟩ (.slice ua (pickB bs l).length uc)).cell? ⟨w.heap.size + 1, 1, none⟩ = some (.slice ua (pickB bs l).length uc) := (HF.out.cell 1).trans (by simp)
      go_wp2
      refine bodyPost_ret (v := .agg #[.int .i64 m, .slice ua (pickB bs l).length uc]) (by simp [results, Try.results25, go_sem, z0, z1]) rfl ⟨_, rfl, HRr.out, HBf.out⟩
end Go.Proofs.Ytihdhgkknfohaad
