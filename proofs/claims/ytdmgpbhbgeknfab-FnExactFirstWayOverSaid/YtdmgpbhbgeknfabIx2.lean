/- TollBetween: impl. Farthest and center islands, both sides. -/
import Derived.Test.YtdmgpbhbgeknfabIk
namespace Go.Proofs.Ytdmgpbhbgeknfab
set_option linter.unusedVariables false
open Go.RowKit

set_option maxHeartbeats 2000000 in
theorem implToll (n : Int) (v : Value) (bs : List Br) (f t : Int) (w : World) (h : RdB w v bs) (hl : bs.length ≤ 1048576) :
    Calls Try.prog 21 #[.agg #[.int .i64 n, v], .int .i64 f, .int .i64 t] w fun e w' => e = .returned (tollV n bs false f t) ∧ Below w.heap.size w w' := by
  have H := Lib.hid h
  obtain ⟨a, l, c, rfl, tt⟩ := h
  clear tt
  have E := Lib.hid (show bothB n bs f t = (askI n bs f && inB t 0 (n - 1) && same n.toNat bs f.toNat t.toNat) from rfl)
  cases hg : askI n bs f
  · rw [tollV_no (E.out.trans (by rw [hg]; rfl))]
    have G := Lib.hid hg
    clear hg
    go_enter Try.func21, Try.ntmps21
    go_wp2_with fail
    refine (areIslesWith n _ bs f _ (H.out.below (by (repeat (first | exact Below.refl _ _ | (refine Below.alloc ?_ (by first | omega | (simp; try omega)) _) | apply Below.drew | apply below_drewN)))) hl).mono ?_
    rw [G.out]
    rintro e w1 ⟨rfl, hb⟩
    have HB := Lib.hid (Below.trans (by (repeat (first | exact Below.refl _ _ | (refine Below.alloc ?_ (by first | omega | (simp; try omega)) _) | apply Below.drew | apply below_drewN))) (hb.mono (by simp; try omega)) : Below w.heap.size w w1)
    clear hb
    go_wp2
    go_ret2
    exact ⟨rfl, HB.out⟩
  obtain ⟨m, i, rfl, rfl, hm1, hm7, hl14, hgd, him⟩ := askI_in hg
  have G := Lib.hid hg
  have HGd := Lib.hid hgd
  cases hi : inB t 0 ((m : Int) - 1)
  · rw [tollV_no (E.out.trans (by rw [hg, hi]; rfl))]
    have GI := Lib.hid hi
    clear hi hg hgd
    go_enter Try.func21, Try.ntmps21
    go_wp2_with fail
    refine (areIslesWith _ _ bs _ _ (H.out.below (by (repeat (first | exact Below.refl _ _ | (refine Below.alloc ?_ (by first | omega | (simp; try omega)) _) | apply Below.drew | apply below_drewN)))) hl).mono ?_
    rw [G.out]
    rintro e w1 ⟨rfl, hb⟩
    have HB := Lib.hid (Below.trans (by (repeat (first | exact Below.refl _ _ | (refine Below.alloc ?_ (by first | omega | (simp; try omega)) _) | apply Below.drew | apply below_drewN))) (hb.mono (by simp; try omega)) : Below w.heap.size w w1)
    obtain ⟨c0, c1, l0⟩ := ((Blk.new w #[.int .i64 m, .slice a l c] 31).below hb (by simp)).two
    clear hb
    go_wp2_with fail
    refine (isIslandOf m a l c t _ (by omega)).mono ?_
    rw [GI.out]
    rintro e w2 ⟨rfl, hb2⟩
    have HB2 := Lib.hid (HB.out.trans (hb2.mono HB.out.size))
    clear hb2
    go_wp2
    go_ret2
    exact ⟨rfl, HB2.out⟩
  · obtain ⟨j, rfl⟩ := Int.eq_ofNat_of_zero_le (inB_iff.1 hi).1
    have hjm : j < m := by have := (inB_iff.1 hi).2; omega
    have GI := Lib.hid hi
    have hj9 : j < 1000 := by omega
    have V : Hid (tollV m bs false i j = .tuple #[.int .i64 ((tlO m bs i j).getD 0), .bool (tlO m bs i j).isSome]) := Lib.hid (by
      cases hs : same m bs i j
      · rw [tollV_no (E.out.trans (by rw [hg, hi]; simp [hs]))]
        have : same m bs j i = false := by
          cases hc : same m bs j i
          · rfl
          · rw [same_symm hc] at hs; cases hs
        unfold tlO; rw [this]; rfl
      · rw [tollV_yes (E.out.trans (by rw [hg, hi]; simp [hs])), tl_symm HGd.out hm7 false hjm him hs]; unfold tlO; rw [same_symm hs]; rfl)
    rw [V.out]
    clear hi hg hgd
    go_enter Try.func21, Try.ntmps21
    go_wp2_with fail
    refine (areIslesWith _ _ bs _ _ (H.out.below (by (repeat (first | exact Below.refl _ _ | (refine Below.alloc ?_ (by first | omega | (simp; try omega)) _) | apply Below.drew | apply below_drewN)))) hl).mono ?_
    rw [G.out]
    rintro e w1 ⟨rfl, hb⟩
    have HB := Lib.hid (Below.trans (by (repeat (first | exact Below.refl _ _ | (refine Below.alloc ?_ (by first | omega | (simp; try omega)) _) | apply Below.drew | apply below_drewN))) (hb.mono (by simp; try omega)) : Below w.heap.size w w1)
    have XB := Lib.hid ((Blk.new w #[.int .i64 m, .slice a l c] 31).below hb (by simp))
    obtain ⟨c0, c1, l0⟩ := XB.out.two
    clear hb
    go_wp2_with fail
    refine (isIslandOf m a l c j _ (by omega)).mono ?_
    rw [GI.out]
    rintro e w2 ⟨rfl, hb2⟩
    have HB2 := Lib.hid (HB.out.trans (hb2.mono HB.out.size))
    have XB2 := Lib.hid (XB.out.below hb2 XB.out.lt)
    clear hb2 c0 c1 l0
    obtain ⟨c0, c1, l0⟩ := XB2.out.two
    go_wp2_with fail
    refine (tollsFrom m _ bs i _ (H.out.below HB2.out) HGd.out hm7 hl14 him).mono ?_
    rintro e w3 ⟨b, f, rfl, hT, hf, hb⟩
    have HB3 := Lib.hid (HB2.out.trans (hb.mono HB2.out.size))
    have HF := Lib.hid (hf j hjm)
    clear hb hf c0 c1 l0
    go_wp2_with (at_lookup; refine wpList_lookT rfl hT j hj9 _ _ rfl rfl rfl ?_)
    go_ret2
    rw [← HF.out]
    exact ⟨rfl, HB3.out⟩
end Go.Proofs.Ytdmgpbhbgeknfab
