/- LeastToJoin, FirstToJoin, CountToJoin: impl. -/
import Derived.Test.YtdmgpbhbgeknfaaIjc
import Derived.Test.YtdmgpbhbgeknfaaIjt
namespace Go.Proofs.Ytdmgpbhbgeknfaa
set_option linter.unusedVariables false
open Go.RowKit

set_option maxRecDepth 100000 in
set_option maxHeartbeats 1000000 in
theorem implJl (n : Int) (v : Value) (bs : List Br) (w : World) (h : RdB w v bs) (hl : bs.length ≤ 1048576) :
    Calls Try.prog 22 #[.agg #[.int .i64 n, v]] w fun e w' => e = .returned (jlV n bs) ∧ Below w.heap.size w w' := by
  have H := Lib.hid h
  obtain ⟨a, l, c, rfl, hnz, t⟩ := h
  clear t hnz
  cases hg : areIs n bs
  · have hj := joinOK_no hg
    rw [jlV_no hj]
    have G := Lib.hid hg
    clear hg hj
    go_enter Try.func22, Try.ntmps22
    go_wp2_with fail
    refine (implAreIs n _ bs _ (H.out.below (by (repeat (first | exact Below.refl _ _ | (refine Below.alloc ?_ (by first | omega | (simp; try omega)) _) | apply Below.drew | apply below_drewN)))) hl).mono ?_
    rw [G.out]
    rintro e w1 ⟨rfl, hb⟩
    have HB := Lib.hid (Below.trans (by (repeat (first | exact Below.refl _ _ | (refine Below.alloc ?_ (by first | omega | (simp; try omega)) _) | apply Below.drew | apply below_drewN))) (hb.mono (by simp; try omega)) : Below w.heap.size w w1)
    clear hb
    go_wp2
    go_ret2
    exact ⟨rfl, HB.out⟩
  · obtain ⟨m, rfl, hm1, hm7, hl14, hgd⟩ := areIs_in hg
    have JO := joinOK_of hg
    have G := Lib.hid hg
    have HGd := Lib.hid hgd
    by_cases h1 : groupsN m bs ≤ 1
    · have hj : joinOK m bs = true := by rw [JO]; simp [h1]
      rw [jlV_yes hj]
      have hgr : groupsN m bs = 1 := by have := groups_pos hgd hm1; omega
      obtain ⟨hx, ⟨l1, r1, hl1, _⟩, hc⟩ := jst_in hgd hm1 hm7 hl14 hgr
      have CH := Lib.hid (cheapestToJoin m (.slice a l c) bs)
      rw [if_pos h1] at CH
      clear hg hgd hgr JO h1 hj
      go_enter Try.func22, Try.ntmps22
      go_wp2_with fail
      refine (implAreIs _ _ bs _ (H.out.below (by (repeat (first | exact Below.refl _ _ | (refine Below.alloc ?_ (by first | omega | (simp; try omega)) _) | apply Below.drew | apply below_drewN)))) hl).mono ?_
      rw [G.out]
      rintro e w1 ⟨rfl, hb⟩
      have HB := Lib.hid (Below.trans (by (repeat (first | exact Below.refl _ _ | (refine Below.alloc ?_ (by first | omega | (simp; try omega)) _) | apply Below.drew | apply below_drewN))) (hb.mono (by simp; try omega)) : Below w.heap.size w w1)
      have XB := Lib.hid ((Blk.new w #[.int .i64 m, .slice a l c] 30).below hb (by simp))
      obtain ⟨c0, c1, l0⟩ := XB.out.two
      clear hb
      go_wp2_with fail
      refine (CH.out _ (H.out.below HB.out) HGd.out hm1 hm7 hl14).mono ?_
      rw [show jstI m bs = jst m bs from rfl]
      rintro e w2 ⟨P, u, rfl, hL, hb⟩
      obtain ⟨ua, uc, rfl⟩ := hL.len
      have HB2 := Lib.hid (HB.out.trans (hb.mono HB.out.size))
      have L2 := Lib.hid hL
      have HL1 := Lib.hid hl1
      obtain ⟨nl, hnl⟩ : ∃ nl, (jst m bs).2.length = nl := ⟨_, rfl⟩
      have hnl0 : 0 < nl := by rw [← hnl, hl1]; simp
      rw [hnl] at L2 hc ⊢
      have HNL := Lib.hid hnl
      have hnlI : (0 : Int) < nl := by omega
      have hnlB : ((nl : Int) == 0) = false := by simp; omega
      have hnlC : ¬ (nl : Int) = 0 := by omega
      clear hb hL c0 c1 l0 hl1 hnl CH
      go_wp2
      go_ret2
      exact ⟨rfl, HB2.out⟩
    · have hj : joinOK m bs = false := by rw [JO]; simp; omega
      rw [jlV_no hj]
      have CH := Lib.hid (cheapestToJoin m (.slice a l c) bs)
      rw [if_neg h1] at CH
      clear hg hgd JO h1 hj
      go_enter Try.func22, Try.ntmps22
      go_wp2_with fail
      refine (implAreIs _ _ bs _ (H.out.below (by (repeat (first | exact Below.refl _ _ | (refine Below.alloc ?_ (by first | omega | (simp; try omega)) _) | apply Below.drew | apply below_drewN)))) hl).mono ?_
      rw [G.out]
      rintro e w1 ⟨rfl, hb⟩
      have HB := Lib.hid (Below.trans (by (repeat (first | exact Below.refl _ _ | (refine Below.alloc ?_ (by first | omega | (simp; try omega)) _) | apply Below.drew | apply below_drewN))) (hb.mono (by simp; try omega)) : Below w.heap.size w w1)
      have XB := Lib.hid ((Blk.new w #[.int .i64 m, .slice a l c] 30).below hb (by simp))
      obtain ⟨c0, c1, l0⟩ := XB.out.two
      clear hb
      go_wp2_with fail
      refine (CH.out _ (H.out.below HB.out) HGd.out hm1 hm7 hl14).mono ?_
      rintro e w2 ⟨P, u, rfl, hL, hb⟩
      obtain ⟨ua, uc, rfl⟩ := hL.len
      have HB2 := Lib.hid (HB.out.trans (hb.mono HB.out.size))
      clear hb hL c0 c1 l0 CH
      simp only [List.length_nil]
      go_wp2
      go_ret2
      exact ⟨rfl, HB2.out⟩
set_option maxRecDepth 100000 in
set_option maxHeartbeats 1000000 in
theorem implJc (n : Int) (v : Value) (bs : List Br) (w : World) (h : RdB w v bs) (hl : bs.length ≤ 1048576) :
    Calls Try.prog 26 #[.agg #[.int .i64 n, v]] w fun e w' => e = .returned (jcV n bs) ∧ Below w.heap.size w w' := by
  have H := Lib.hid h
  obtain ⟨a, l, c, rfl, hnz, t⟩ := h
  clear t hnz
  cases hg : areIs n bs
  · have hj := joinOK_no hg
    rw [jcV_no hj]
    have G := Lib.hid hg
    clear hg hj
    go_enter Try.func26, Try.ntmps26
    go_wp2_with fail
    refine (implAreIs n _ bs _ (H.out.below (by (repeat (first | exact Below.refl _ _ | (refine Below.alloc ?_ (by first | omega | (simp; try omega)) _) | apply Below.drew | apply below_drewN)))) hl).mono ?_
    rw [G.out]
    rintro e w1 ⟨rfl, hb⟩
    have HB := Lib.hid (Below.trans (by (repeat (first | exact Below.refl _ _ | (refine Below.alloc ?_ (by first | omega | (simp; try omega)) _) | apply Below.drew | apply below_drewN))) (hb.mono (by simp; try omega)) : Below w.heap.size w w1)
    clear hb
    go_wp2
    go_ret2
    exact ⟨rfl, HB.out⟩
  · obtain ⟨m, rfl, hm1, hm7, hl14, hgd⟩ := areIs_in hg
    have JO := joinOK_of hg
    have G := Lib.hid hg
    have HGd := Lib.hid hgd
    by_cases h1 : groupsN m bs ≤ 1
    · have hj : joinOK m bs = true := by rw [JO]; simp [h1]
      rw [jcV_yes hj]
      have hgr : groupsN m bs = 1 := by have := groups_pos hgd hm1; omega
      obtain ⟨hx, ⟨l1, r1, hl1, _⟩, hc⟩ := jst_in hgd hm1 hm7 hl14 hgr
      have CH := Lib.hid (cheapestToJoin m (.slice a l c) bs)
      rw [if_pos h1] at CH
      clear hg hgd hgr JO h1 hj
      go_enter Try.func26, Try.ntmps26
      go_wp2_with fail
      refine (implAreIs _ _ bs _ (H.out.below (by (repeat (first | exact Below.refl _ _ | (refine Below.alloc ?_ (by first | omega | (simp; try omega)) _) | apply Below.drew | apply below_drewN)))) hl).mono ?_
      rw [G.out]
      rintro e w1 ⟨rfl, hb⟩
      have HB := Lib.hid (Below.trans (by (repeat (first | exact Below.refl _ _ | (refine Below.alloc ?_ (by first | omega | (simp; try omega)) _) | apply Below.drew | apply below_drewN))) (hb.mono (by simp; try omega)) : Below w.heap.size w w1)
      have XB := Lib.hid ((Blk.new w #[.int .i64 m, .slice a l c] 30).below hb (by simp))
      obtain ⟨c0, c1, l0⟩ := XB.out.two
      clear hb
      go_wp2_with fail
      refine (CH.out _ (H.out.below HB.out) HGd.out hm1 hm7 hl14).mono ?_
      rw [show jstI m bs = jst m bs from rfl]
      rintro e w2 ⟨P, u, rfl, hL, hb⟩
      obtain ⟨ua, uc, rfl⟩ := hL.len
      have HB2 := Lib.hid (HB.out.trans (hb.mono HB.out.size))
      have L2 := Lib.hid hL
      have HL1 := Lib.hid hl1
      obtain ⟨nl, hnl⟩ : ∃ nl, (jst m bs).2.length = nl := ⟨_, rfl⟩
      have hnl0 : 0 < nl := by rw [← hnl, hl1]; simp
      rw [hnl] at L2 hc ⊢
      have HNL := Lib.hid hnl
      have hnlI : (0 : Int) < nl := by omega
      have hnlB : ((nl : Int) == 0) = false := by simp; omega
      have hnlC : ¬ (nl : Int) = 0 := by omega
      clear hb hL c0 c1 l0 hl1 hnl CH
      go_wp2
      go_ret2
      rw [HNL.out]
      exact ⟨rfl, HB2.out⟩
    · have hj : joinOK m bs = false := by rw [JO]; simp; omega
      rw [jcV_no hj]
      have CH := Lib.hid (cheapestToJoin m (.slice a l c) bs)
      rw [if_neg h1] at CH
      clear hg hgd JO h1 hj
      go_enter Try.func26, Try.ntmps26
      go_wp2_with fail
      refine (implAreIs _ _ bs _ (H.out.below (by (repeat (first | exact Below.refl _ _ | (refine Below.alloc ?_ (by first | omega | (simp; try omega)) _) | apply Below.drew | apply below_drewN)))) hl).mono ?_
      rw [G.out]
      rintro e w1 ⟨rfl, hb⟩
      have HB := Lib.hid (Below.trans (by (repeat (first | exact Below.refl _ _ | (refine Below.alloc ?_ (by first | omega | (simp; try omega)) _) | apply Below.drew | apply below_drewN))) (hb.mono (by simp; try omega)) : Below w.heap.size w w1)
      have XB := Lib.hid ((Blk.new w #[.int .i64 m, .slice a l c] 30).below hb (by simp))
      obtain ⟨c0, c1, l0⟩ := XB.out.two
      clear hb
      go_wp2_with fail
      refine (CH.out _ (H.out.below HB.out) HGd.out hm1 hm7 hl14).mono ?_
      rintro e w2 ⟨P, u, rfl, hL, hb⟩
      obtain ⟨ua, uc, rfl⟩ := hL.len
      have HB2 := Lib.hid (HB.out.trans (hb.mono HB.out.size))
      clear hb hL c0 c1 l0 CH
      simp only [List.length_nil]
      go_wp2
      go_ret2
      exact ⟨rfl, HB2.out⟩
set_option maxRecDepth 100000 in
set_option maxHeartbeats 1000000 in
theorem implJf (n : Int) (v : Value) (bs : List Br) (w : World) (h : RdB w v bs) (hl : bs.length ≤ 1048576) :
    Calls Try.prog 24 #[.agg #[.int .i64 n, v]] w fun e w' => ∃ u, e = .returned (.tuple #[u, .bool (joinOK n bs)]) ∧ Ints w' w.heap.size u (idx (jfZ n bs)) ∧ Below w.heap.size w w' := by
  have H := Lib.hid h
  obtain ⟨a, l, c, rfl, hnz, t⟩ := h
  clear t hnz
  cases hg : areIs n bs
  · have hj := joinOK_no hg
    have Z := Lib.hid (jfZ_no hj)
    have JN := Lib.hid hj
    have G := Lib.hid hg
    clear hg hj
    go_enter Try.func24, Try.ntmps24
    go_wp2_with fail
    refine (implAreIs n _ bs _ (H.out.below (by (repeat (first | exact Below.refl _ _ | (refine Below.alloc ?_ (by first | omega | (simp; try omega)) _) | apply Below.drew | apply below_drewN)))) hl).mono ?_
    rw [G.out]
    rintro e w1 ⟨rfl, hb⟩
    have HB := Lib.hid (Below.trans (by (repeat (first | exact Below.refl _ _ | (refine Below.alloc ?_ (by first | omega | (simp; try omega)) _) | apply Below.drew | apply below_drewN))) (hb.mono (by simp; try omega)) : Below w.heap.size w w1)
    clear hb
    go_wp2
    go_ret2
    rw [JN.out]
    exact ⟨_, rfl, by rw [Z.out]; exact World.ownsRow_nil _ _ _ _, HB.out⟩
  · obtain ⟨m, rfl, hm1, hm7, hl14, hgd⟩ := areIs_in hg
    have JO := joinOK_of hg
    have G := Lib.hid hg
    have HGd := Lib.hid hgd
    by_cases h1 : groupsN m bs ≤ 1
    · have hj : joinOK m bs = true := by rw [JO]; simp [h1]
      have Z := Lib.hid (jfZ_yes hj)
      have JY := Lib.hid hj
      have hgr : groupsN m bs = 1 := by have := groups_pos hgd hm1; omega
      obtain ⟨hx, ⟨l1, r1, hl1, _⟩, hc⟩ := jst_in hgd hm1 hm7 hl14 hgr
      have CH := Lib.hid (cheapestToJoin m (.slice a l c) bs)
      rw [if_pos h1] at CH
      clear hg hgd hgr JO h1 hj
      go_enter Try.func24, Try.ntmps24
      go_wp2_with fail
      refine (implAreIs _ _ bs _ (H.out.below (by (repeat (first | exact Below.refl _ _ | (refine Below.alloc ?_ (by first | omega | (simp; try omega)) _) | apply Below.drew | apply below_drewN)))) hl).mono ?_
      rw [G.out]
      rintro e w1 ⟨rfl, hb⟩
      have HB := Lib.hid (Below.trans (by (repeat (first | exact Below.refl _ _ | (refine Below.alloc ?_ (by first | omega | (simp; try omega)) _) | apply Below.drew | apply below_drewN))) (hb.mono (by simp; try omega)) : Below w.heap.size w w1)
      have XB := Lib.hid ((Blk.new w #[.int .i64 m, .slice a l c] 30).below hb (by simp))
      obtain ⟨c0, c1, l0⟩ := XB.out.two
      clear hb
      go_wp2_with fail
      refine (CH.out _ (H.out.below HB.out) HGd.out hm1 hm7 hl14).mono ?_
      rw [show jstI m bs = jst m bs from rfl]
      rintro e w2 ⟨P, u, rfl, hL, hb⟩
      obtain ⟨ua, uc, rfl⟩ := hL.len
      have HB2 := Lib.hid (HB.out.trans (hb.mono HB.out.size))
      have L2 := Lib.hid hL
      have HL1 := Lib.hid hl1
      obtain ⟨nl, hnl⟩ : ∃ nl, (jst m bs).2.length = nl := ⟨_, rfl⟩
      have hnl0 : 0 < nl := by rw [← hnl, hl1]; simp
      rw [hnl] at L2 hc ⊢
      have HNL := Lib.hid hnl
      have hnlI : (0 : Int) < nl := by omega
      have hnlB : ((nl : Int) == 0) = false := by simp; omega
      have hnlC : ¬ (nl : Int) = 0 := by omega
      clear hb hL c0 c1 l0 hl1 hnl CH
      obtain ⟨us, h3, h4, h5⟩ := L2.out
      rw [HNL.out] at h3
      obtain ⟨u0, ur, rfl, hI0, _⟩ := h5 l1 r1 HL1.out
      obtain ⟨a0, n0, c0', rfl⟩ := ints_any hI0
      have I0 := Lib.hid (ints_mono' hI0 HB.out.size)
      obtain ⟨g, rfl⟩ : ∃ g, ua = some ⟨g, 0, none⟩ := by
        rcases h3.2 with ⟨e, h0⟩ | ⟨g, cap, cur, e, _⟩
        · omega
        · injection e with e1; exact ⟨g, e1⟩
      have cl : w2.cell? ⟨g, 0, none⟩ = some (.slice a0 n0 c0') := World.ownsRow.cellAt h3 0 (by omega)
      clear h3 h4 h5 hI0
      go_wp2
      go_ret2
      rw [JY.out]
      exact ⟨_, rfl, by rw [Z.out, HL1.out]; exact I0.out, HB2.out⟩
    · have hj : joinOK m bs = false := by rw [JO]; simp; omega
      have Z := Lib.hid (jfZ_no hj)
      have JN := Lib.hid hj
      have CH := Lib.hid (cheapestToJoin m (.slice a l c) bs)
      rw [if_neg h1] at CH
      clear hg hgd JO h1 hj
      go_enter Try.func24, Try.ntmps24
      go_wp2_with fail
      refine (implAreIs _ _ bs _ (H.out.below (by (repeat (first | exact Below.refl _ _ | (refine Below.alloc ?_ (by first | omega | (simp; try omega)) _) | apply Below.drew | apply below_drewN)))) hl).mono ?_
      rw [G.out]
      rintro e w1 ⟨rfl, hb⟩
      have HB := Lib.hid (Below.trans (by (repeat (first | exact Below.refl _ _ | (refine Below.alloc ?_ (by first | omega | (simp; try omega)) _) | apply Below.drew | apply below_drewN))) (hb.mono (by simp; try omega)) : Below w.heap.size w w1)
      have XB := Lib.hid ((Blk.new w #[.int .i64 m, .slice a l c] 30).below hb (by simp))
      obtain ⟨c0, c1, l0⟩ := XB.out.two
      clear hb
      go_wp2_with fail
      refine (CH.out _ (H.out.below HB.out) HGd.out hm1 hm7 hl14).mono ?_
      rintro e w2 ⟨P, u, rfl, hL, hb⟩
      obtain ⟨ua, uc, rfl⟩ := hL.len
      have HB2 := Lib.hid (HB.out.trans (hb.mono HB.out.size))
      clear hb hL c0 c1 l0 CH
      simp only [List.length_nil]
      go_wp2
      go_ret2
      rw [JN.out]
      exact ⟨_, rfl, by rw [Z.out]; exact World.ownsRow_nil _ _ _ _, HB2.out⟩
end Go.Proofs.Ytdmgpbhbgeknfaa
