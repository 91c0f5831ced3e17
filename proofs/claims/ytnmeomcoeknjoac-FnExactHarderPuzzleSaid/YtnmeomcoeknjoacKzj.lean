/- NeedlessClues: impl (written by gen_kzj.py). -/
import Derived.Test.YtnmeomcoeknjoacKzi
namespace Go.Proofs.Ytnmeomcoeknjoac
set_option linter.unusedVariables false
set_option maxRecDepth 100000
open Go.RowKit

theorem bel1 {P C w : World} (d : Below P.heap.size P C) (hb : Below C.heap.size C w) : Below P.heap.size P w := d.trans (hb.mono d.size)
theorem bel2 {W P C : World} (h : Below W.heap.size W P) (d : Below P.heap.size P C) : Below W.heap.size W C := h.trans (d.mono h.size)
theorem bel3 {W P C w : World} (h : Below W.heap.size W P) (d : Below P.heap.size P C) (hb : Below C.heap.size C w) : Below W.heap.size W w := bel2 h (bel1 d hb)
/-- the rivers and the set of all clues, each in memory of the call's own -/
def CutN (w1 wx : World) (g gc P b n : Nat) (cs : List Br) (N : Nat) : Prop :=
  (∃ B, HRs wx B (.slice (some ⟨g, 0, none⟩) P gc) P (rvN n) (fun i => fitK cs (rvN n i))) ∧ Blk wx b (a6 (first N)) ∧ w1.heap.size ≤ b ∧ g ≠ b ∧ Below w1.heap.size w1 wx
theorem cutN_new {w1 W : World} {g gc P n B N : Nat} {cs : List Br} {T : TypeId} (hB : Below w1.heap.size w1 W) (hI : HRs W B (.slice (some ⟨g, 0, none⟩) P gc) P (rvN n) (fun i => fitK cs (rvN n i))) : CutN w1 (W.alloc (.cells #[.bool (first N 0), .bool (first N 1), .bool (first N 2), .bool (first N 3), .bool (first N 4), .bool (first N 5)] T)) g gc P W.heap.size n cs N :=
  ⟨⟨B, hI.below ((Below.refl _ _).alloc (Nat.le_refl _) _)⟩, Blk.new _ _ _, hB.size, by have := hI.blk.2; omega, hB.alloc hB.size _⟩
theorem HRs.cellOther {w : World} {B g N cap b k : Nat} {R : Nat → ByteArray} {F : Nat → Nat → Bool} {v : Value} (h : HRs w B (.slice (some ⟨g, 0, none⟩) N cap) N R F) (hne : g ≠ b) : HRs (w.setCell ⟨b, k, none⟩ v) B (.slice (some ⟨g, 0, none⟩) N cap) N R F := by
  refine ⟨h.1, ?_⟩
  rcases h.2 with h2 | ⟨g', cap', cur, e, h1, hg, h3, h4, h5, h6⟩
  · exact .inl h2
  · injection e with e1 e2 e3
    injection e1 with e1
    injection e1 with e1
    subst e1 e3
    exact .inr ⟨g, cap, cur, rfl, h1, (Below.heap_setCell w ⟨b, k, none⟩ v g hne).trans hg, h3, h4, h5, h6⟩
theorem far6 {W : World} {na b : Nat} {cs : Array Value} {u0 u1 u2 u3 u4 u5 : Value} (h : Blk W na cs) (hne : na ≠ b) : Blk ((((((W.setCell ⟨b, 0, none⟩ u0).setCell ⟨b, 1, none⟩ u1).setCell ⟨b, 2, none⟩ u2).setCell ⟨b, 3, none⟩ u3).setCell ⟨b, 4, none⟩ u4).setCell ⟨b, 5, none⟩ u5) na cs :=
  (((((h.far (p := ⟨b, 0, none⟩) hne _).far (p := ⟨b, 1, none⟩) hne _).far (p := ⟨b, 2, none⟩) hne _).far (p := ⟨b, 3, none⟩) hne _).far (p := ⟨b, 4, none⟩) hne _).far (p := ⟨b, 5, none⟩) hne _
theorem cutN_old {w1 W : World} {g gc P n B N b : Nat} {cs : List Br} (hB : Below w1.heap.size w1 W) (hI : HRs W B (.slice (some ⟨g, 0, none⟩) P gc) P (rvN n) (fun i => fitK cs (rvN n i))) (hX : Blk W b #[.bool false, .bool false, .bool false, .bool false, .bool false, .bool false]) (hb : w1.heap.size ≤ b) (hne : g ≠ b) :
    CutN w1 ((((((W.setCell ⟨b, 0, none⟩ (.bool (first N 0))).setCell ⟨b, 1, none⟩ (.bool (first N 1))).setCell ⟨b, 2, none⟩ (.bool (first N 2))).setCell ⟨b, 3, none⟩ (.bool (first N 3))).setCell ⟨b, 4, none⟩ (.bool (first N 4))).setCell ⟨b, 5, none⟩ (.bool (first N 5))) g gc P b n cs N :=
  ⟨⟨B, (((((hI.cellOther hne).cellOther hne).cellOther hne).cellOther hne).cellOther hne).cellOther hne⟩, (((((hX.set 0 _).set 1 _).set 2 _).set 3 _).set 4 _).set 5 _, hb, hne, (((((hB.setCell hb _).setCell hb _).setCell hb _).setCell hb _).setCell hb _).setCell hb _⟩
set_option maxHeartbeats 8000000 in
theorem implNdl (m : Int) (v : Value) (cs : List Br) (w : World) (h : RdB w v cs) (hl : cs.length ≤ 1048576) :
    Calls Try.prog 10 #[.agg #[.int .i64 m, v]] w (IntP w.heap.size (ndlL m cs) (isPz m cs) w) := by
  have HR := Lib.hid h
  obtain ⟨a, N, c, rfl, hN, _, _, hcell⟩ := h
  have HN := Lib.hid hN
  clear hN hcell
  cases hp : isPz m cs
  · have G := Lib.hid hp
    have E := Lib.hid (ndlL_no hp)
    clear hp
    go_enter Try.func10, Try.ntmps10
    go_wp2_with (go_at_call 28; refine (implIsPz m _ cs _ (HR.out.below (by (repeat (first | exact Below.refl _ _ | (refine Below.alloc ?_ (by first | omega | (simp; try omega)) _) | apply Below.drew | apply below_drewN)))) hl).mono ?_; rw [G.out]; rintro e w1 ⟨rfl, hb⟩)
    go_ret2
    exact ⟨_, rfl, by rw [E.out]; exact ints_nil_ _ _, Below.trans (by (repeat (first | exact Below.refl _ _ | (refine Below.alloc ?_ (by first | omega | (simp; try omega)) _) | apply Below.drew | apply below_drewN))) (hb.mono (by simp; try omega))⟩
  · obtain ⟨n, rfl, hn, h6, hc⟩ := isPz_nat hp
    have G := Lib.hid hp
    have E := Lib.hid (ndlL_yes hp)
    have X0 := Lib.hid (Blk.new w #[.int .i64 (n : Int), .slice a N c] 31)
    have C := Lib.hid (fun wx hr => riversOf n (.slice a N c) cs wx hr hn h6 hc)
    have hNb : N ≤ 6 := by have := HN.out; omega
    have hfc := fun wx => firstClues N wx hNb
    unfold a6 at hfc
    have HFC := Lib.hid hfc
    clear hfc
    have H6 := Lib.hid h6
    obtain ⟨P, hP⟩ : ∃ P, P = 2 ^ n := ⟨_, rfl⟩
    have hP8 : P ≤ 256 := by rw [hP]; exact pow_8 hn.2
    have HP := Lib.hid hP
    clear hp hc h6 hP
    go_enter Try.func10, Try.ntmps10
    go_wp2_with fail
    refine (implIsPz (n : Int) _ cs _ (HR.out.below (by (repeat (first | exact Below.refl _ _ | (refine Below.alloc ?_ (by first | omega | (simp; try omega)) _) | apply Below.drew | apply below_drewN)))) hl).mono ?_
    rw [G.out]
    rintro e w1 ⟨rfl, hb⟩
    have HX1 := Lib.hid (X0.out.below hb (by simp))
    have HB := Lib.hid (Below.trans (by (repeat (first | exact Below.refl _ _ | (refine Below.alloc ?_ (by first | omega | (simp; try omega)) _) | apply Below.drew | apply below_drewN))) (hb.mono (by simp; try omega)) : Below w.heap.size w w1)
    have hle := HB.out.size
    obtain ⟨x0, x1, xl⟩ := HX1.out.two
    clear hb
    go_wp2_with fail
    go_cut [4, 5] (fun sr sp wx => ∃ g gc b, sr = .slice (some ⟨g, 0, none⟩) P gc ∧ sp = .pointer (some ⟨b, 0, none⟩) ∧ Hid (CutN w1 wx g gc P b n cs N))
    case first =>
      have KA := Lib.hid HX1.out
      have KL := Lib.hid HX1.out.lt
      have BB := Lib.hid (Below.refl w1.heap.size w1)
      go_region_held3 (fun W => W.cell? ⟨w.heap.size, 0, none⟩ = some (.int .i64 (n : Int)) ∧ W.cell? ⟨w.heap.size, 1, none⟩ = some (.slice a N c)) (first | with_reducible exact kp KA.out | with_reducible exact kp KA.out.drew | with_reducible exact kp (KA.out.alloc _) | with_reducible exact kp (KA.out.alloc _).drew | (with_reducible refine kp (far6 KA.out ?_); have := BB.out.size; have := XW.out; have := KL.out; omega)) (first
        | (go_at_call 29; refine (C.out _ (HR.out.below (HB.out.trans ((bel2 BB.out (by (repeat (first | exact Below.refl _ _ | (refine Below.alloc ?_ (by first | omega | (simp; try omega)) _) | apply Below.drew | apply below_drewN)))).mono hle)))).mono ?_; rintro e wr1 ⟨u, rfl, hI, ⟨g, gc, rfl⟩, hb⟩; rw [← HP.out] at hI ⊢; have GL := Lib.hid hI.blk; have HI := Lib.hid hI; clear hI; have BBn := Lib.hid (bel3 BB.out (by (repeat (first | exact Below.refl _ _ | (refine Below.alloc ?_ (by first | omega | (simp; try omega)) _) | apply Below.drew | apply below_drewN))) hb); have KAn := Lib.hid (KA.out.below (bel1 (by (repeat (first | exact Below.refl _ _ | (refine Below.alloc ?_ (by first | omega | (simp; try omega)) _) | apply Below.drew | apply below_drewN))) hb) KA.out.lt); have BO := Lib.hid BB.out.size; clear BB KA; have BB := BBn; have KA := KAn; clear BBn KAn; (try (with_reducible have X := Lib.hid (X.out.below (bel1 (by (repeat (first | exact Below.refl _ _ | (refine Below.alloc ?_ (by first | omega | (simp; try omega)) _) | apply Below.drew | apply below_drewN))) hb) X.out.lt))); (try (with_reducible have X := Lib.hid ((Blk.drew (Blk.new _ #[.bool false, .bool false, .bool false, .bool false, .bool false, .bool false] 51)).below hb (by simp)); have XW := BO)); (try (with_reducible have X := Lib.hid ((Blk.new _ #[.bool false, .bool false, .bool false, .bool false, .bool false, .bool false] 51).below hb (by simp)); have XW := BO)); clear BO; (try (have xf := X.out.fr; have x00 := xf 0; have x01 := xf 1; have x02 := xf 2; have x03 := xf 3; have x04 := xf 4; have x05 := xf 5; clear xf; obtain ⟨y0, y1, y2, y3, y4, y5⟩ := a6_blk (f := fun _ => false) X.out)); have ZR := Lib.hid hb.size; clear hb; skip)
        | (go_at_call 30; refine (HFC.out _).mono ?_; rintro e wf ⟨rfl, hb⟩; (try (have HI := Lib.hid (HI.out.below (bel1 (by (repeat (first | exact Below.refl _ _ | (refine Below.alloc ?_ (by first | omega | (simp; try omega)) _) | apply Below.drew | apply below_drewN))) hb)))); have BBn := Lib.hid (bel3 BB.out (by (repeat (first | exact Below.refl _ _ | (refine Below.alloc ?_ (by first | omega | (simp; try omega)) _) | apply Below.drew | apply below_drewN))) hb); have KAn := Lib.hid (KA.out.below (bel1 (by (repeat (first | exact Below.refl _ _ | (refine Below.alloc ?_ (by first | omega | (simp; try omega)) _) | apply Below.drew | apply below_drewN))) hb) KA.out.lt); have BO := Lib.hid BB.out.size; clear BB KA; have BB := BBn; have KA := KAn; clear BBn KAn; (try (with_reducible have X := Lib.hid (X.out.below (bel1 (by (repeat (first | exact Below.refl _ _ | (refine Below.alloc ?_ (by first | omega | (simp; try omega)) _) | apply Below.drew | apply below_drewN))) hb) X.out.lt))); (try (with_reducible have X := Lib.hid ((Blk.drew (Blk.new _ #[.bool false, .bool false, .bool false, .bool false, .bool false, .bool false] 51)).below hb (by simp)); have XW := BO)); (try (with_reducible have X := Lib.hid ((Blk.new _ #[.bool false, .bool false, .bool false, .bool false, .bool false, .bool false] 51).below hb (by simp)); have XW := BO)); clear BO; (try (have xf := X.out.fr; have x00 := xf 0; have x01 := xf 1; have x02 := xf 2; have x03 := xf 3; have x04 := xf 4; have x05 := xf 5; clear xf; obtain ⟨y0, y1, y2, y3, y4, y5⟩ := a6_blk (f := fun _ => false) X.out)); have ZF := Lib.hid hb.size; clear hb; skip)
        | fail)
      all_goals
        go_wp2_with fail
        go_meet
        first
          | (refine ⟨_, _, _, rfl, rfl, Lib.hid ?_⟩; with_reducible exact cutN_new BB.out HI.out)
          | (refine ⟨_, _, _, rfl, rfl, Lib.hid ?_⟩; with_reducible refine cutN_old BB.out HI.out X.out ?_ ?_; (· ( have := XW.out; have := BB.out.size; first | exact XW.out | (simp at *; omega))); (· (have := GL.out; have := ZR.out; have := ZF.out; simp at *; omega)))
    case rest =>
      obtain ⟨g, gc, bx, rfl, rfl, HC⟩ := hcut
      obtain ⟨⟨B, hI⟩, hX, hbx, hgb, hQ⟩ := HC.out
      have HI := Lib.hid hI
      have HXB := Lib.hid hX
      have HB2 := Lib.hid (HB.out.trans (hQ.mono hle))
      have HXP := Lib.hid (HX1.out.below hQ HX1.out.lt)
      obtain ⟨w2, hw2⟩ : ∃ w2, w2 = wc := ⟨_, rfl⟩
      rw [← hw2] at HI HXB HB2 HXP hX hI ⊢
      clear hw2 HC hQ
      have hbl := hX.lt
      obtain ⟨q0, q1, q2, q3, q4, q5⟩ := a6_blk hX
      have CF := Lib.hid (fun ask wx hI => countFit n P g gc B cs ask wx hP8 hI)
      have ea := cntA_all (n := n) H6.out HN.out
      rw [← HP.out] at ea
      have hca := CF.out (first N) w2 hI
      rw [ea] at hca
      obtain ⟨all, hall⟩ : ∃ all, all = cntS n cs := ⟨_, rfl⟩
      rw [← hall] at hca
      have hc0 := cntS_pow n cs
      rw [← HP.out, ← hall] at hc0
      have hal : all ≤ 256 := by omega
      have HA := Lib.hid hall
      have HCA := Lib.hid hca
      clear hca ea hall hX hI hc0
      go_wp2_with fail
      refine HCA.out.mono ?_
      rintro e w3 ⟨rfl, hb3⟩
      have HI3 := Lib.hid (HI.out.below hb3)
      have HXB3 := Lib.hid (HXB.out.below hb3 HXB.out.lt)
      have HB3 := Lib.hid (HB2.out.trans (hb3.mono HB2.out.size))
      have HXP3 := Lib.hid (HXP.out.below hb3 HXP.out.lt)
      clear hb3 q0 q1 q2 q3 q4 q5 x0 x1
      obtain ⟨x0, x1, xl2⟩ := HXP3.out.two
      go_wp2_with fail
      clear x0 x1
      go_loopw [7, 8, 24] (fun o _ i wr => ∃ j : Nat, j ≤ N ∧ i = .int .i64 (j : Int) ∧ Hid (Ints wr w3.heap.size o (ndlTo n cs j)) ∧ Hid (Below w3.heap.size w3 wr)) (fun _ _ i _ => N - (intOf i).toNat)
      case atStart => exact ⟨0, Nat.zero_le _, rfl, Lib.hid (ints_nil_ _ _), Lib.hid (Below.refl _ _)⟩
      case round =>
        obtain ⟨j, hj, rfl, HO, HQ⟩ := hrel
        have hqle := HQ.out.size
        have HBQ := Lib.hid (HB3.out.trans (HQ.out.mono HB3.out.size))
        by_cases hlt : j < N
        · have hjN : (j : Int) < (N : Int) := by omega
          have HXQ := Lib.hid (HXB3.out.below HQ.out HXB3.out.lt)
          have hxl := HXQ.out.lt
          obtain ⟨q0, q1, q2, q3, q4, q5⟩ := a6_blk HXQ.out
          have WO := Lib.hid (fun wx => without6 (first N) j wx (by omega))
          have hcf := CF.out (wo (first N) j)
          have e := cntA_wo (n := n) (k := j) H6.out (by have := HN.out; omega)
          rw [← HP.out, ← HN.out] at e
          rw [e] at hcf
          have CFJ := Lib.hid hcf
          have ESY := Lib.hid (ndlTo_yes (n := n) (cs := cs) (j := j))
          have ESN := Lib.hid (ndlTo_no (n := n) (cs := cs) (j := j))
          rw [← HA.out] at ESY ESN
          have hc1 := cntS_pow n (cs.eraseIdx j)
          rw [← HP.out] at hc1
          have hll := ndlTo_len n cs j
          clear e hcf
          generalize cntS n (cs.eraseIdx j) = cnt at *
          generalize ndlTo n cs j = zs at *
          go_wp2_with fail
          refine (WO.out _).mono ?_
          rintro e w4 ⟨rfl, hb4⟩
          have HQ4 := Lib.hid (HQ.out.trans (hb4.mono hqle))
          have D4 := Lib.hid hb4
          clear hb4 q0 q1 q2 q3 q4 q5
          go_wp2_with fail
          refine (CFJ.out _ (HI3.out.below HQ4.out)).mono ?_
          rintro e w5 ⟨rfl, hb5⟩
          have HQ5 := Lib.hid (HQ4.out.trans (hb5.mono HQ4.out.size))
          have HO5 := Lib.hid ((HO.out.below D4.out).below hb5)
          have hle5 := HQ5.out.size
          clear hb5
          by_cases hx : cnt = all
          · have ES := Lib.hid (ESY.out hx)
            have hxi : ((cnt : Int) == (all : Int)) = true := by simp [hx]
            have hxH := Lib.hid hx
            clear ESY ESN hx
            go_wp2_with (at_builtin; refine wpList_app w5 rfl _ _ rfl w3.heap.size _ zs rfl HO5.out (j : Int) rfl (by omega) hle5 rfl ?_; intro v' w6 hI6 hb6 hg6; have HO6 := Lib.hid hI6; have HQ6 := Lib.hid (HQ5.out.trans hb6); clear hI6 hb6 hg6)
            go_roundw
            case rel => exact ⟨j + 1, by omega, by go_num, Lib.hid (by rw [ES.out]; exact HO6.out), HQ6⟩
            case measure => (simp [intOf]; try omega)
          · have ES := Lib.hid (ESN.out hx)
            have hxi : ((cnt : Int) == (all : Int)) = false := by simp; omega
            have hxj : ¬ ((cnt : Int) = (all : Int)) := by omega
            clear ESY ESN hx
            go_wp2
            go_roundw
            case rel => exact ⟨j + 1, by omega, by go_num, Lib.hid (by rw [ES.out]; exact HO5.out), HQ5⟩
            case measure => (simp [intOf]; try omega)
        · obtain rfl : j = N := by omega
          have HE := Lib.hid (show ndlL (n : Int) cs = ndlTo n cs j by rw [E.out, HN.out])
          go_wp2
          go_ret2
          exact ⟨_, rfl, by rw [HE.out]; exact ints_mono_ HO.out HB3.out.size, HBQ.out⟩
end Go.Proofs.Ytnmeomcoeknjoac
