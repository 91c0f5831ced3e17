/- CutIslands: spec. -/
import Derived.Test.YtdmgpbhbgeknfaaIcf
namespace Go.Proofs.Ytdmgpbhbgeknfaa
set_option linter.unusedVariables false
open Go.RowKit

set_option maxRecDepth 100000 in
set_option maxHeartbeats 4000000 in
theorem specCti (n : Int) (v : Value) (bs : List Br) (w : World) (h : RdB w v bs) (hl : bs.length ≤ 1048576) :
    Calls Try.prog 16 #[.agg #[.int .i64 n, v]] w fun e w' => ∃ u, e = .returned (.tuple #[u, .bool (areIs n bs)]) ∧ Ints w' w.heap.size u (idx (ctiZ n bs)) ∧ Below w.heap.size w w' := by
  have H := Lib.hid h
  obtain ⟨a, l, c, rfl, hnz, t⟩ := h
  have HN := Lib.hid hnz
  clear t hnz
  cases hg : areIs n bs
  · have Z := Lib.hid (ctiZ_no hg)
    have G := Lib.hid hg
    clear hg
    go_enter Try.func16, Try.ntmps16
    go_wp2_with fail
    refine (isGood n _ bs _ (H.out.below (by (repeat (first | exact Below.refl _ _ | (refine Below.alloc ?_ (by first | omega | (simp; try omega)) _) | apply Below.drew | apply below_drewN)))) hl).mono ?_
    rw [G.out]
    rintro e w1 ⟨rfl, hb⟩
    have HB := Lib.hid (Below.trans (by (repeat (first | exact Below.refl _ _ | (refine Below.alloc ?_ (by first | omega | (simp; try omega)) _) | apply Below.drew | apply below_drewN))) (hb.mono (by simp; try omega)) : Below w.heap.size w w1)
    clear hb
    go_wp2
    go_ret2
    exact ⟨_, rfl, by rw [Z.out]; exact ints_nil, HB.out⟩
  · obtain ⟨m, rfl, hm1, hm7, hl14, hgd⟩ := areIs_in hg
    have Z := Lib.hid (ctiZ_yes hg)
    have G := Lib.hid hg
    have HGd := Lib.hid hgd
    clear hg hgd
    have hl14' : l ≤ 14 := by have := HN.out; omega
    go_enter Try.func16, Try.ntmps16
    go_wp2_with fail
    refine (isGood _ _ bs _ (H.out.below (by (repeat (first | exact Below.refl _ _ | (refine Below.alloc ?_ (by first | omega | (simp; try omega)) _) | apply Below.drew | apply below_drewN)))) hl).mono ?_
    rw [G.out]
    rintro e w1 ⟨rfl, hb⟩
    have HB := Lib.hid (Below.trans (by (repeat (first | exact Below.refl _ _ | (refine Below.alloc ?_ (by first | omega | (simp; try omega)) _) | apply Below.drew | apply below_drewN))) (hb.mono (by simp; try omega)) : Below w.heap.size w w1)
    have XB := Lib.hid ((Blk.new w #[.int .i64 m, .slice a l c] 30).below hb (by simp))
    obtain ⟨c0, c1, l0⟩ := XB.out.two
    clear hb
    go_wp2_with fail
    refine (isGroups m _ bs (-1) _ (H.out.below HB.out) HGd.out hm1 hm7 hl14).mono ?_
    rw [offB_none HGd.out]
    rintro e w2 ⟨u0, rfl, hI, hb⟩
    have HI0 := Lib.hid hI
    have HB2 := Lib.hid (HB.out.trans (hb.mono HB.out.size))
    have XB2 := Lib.hid (XB.out.below hb XB.out.lt)
    have hsz := HB2.out.size
    clear hI hb c0 c1 l0 XB
    go_wp2_with fail
    refine (isCount _ (lab m bs) (-1) _ HI0.out.rd (by rw [lab_len]; omega)).mono ?_
    rw [lab_len, cntW_none]
    rintro e w2' ⟨rfl, rfl⟩
    obtain ⟨c0, c1, l0⟩ := XB2.out.two
    have CS := Lib.hid (fun k => ctiTo_s m bs k)
    have hq7 := groups_le m bs
    obtain ⟨q, hq⟩ : ∃ q, q = groupsN m bs := ⟨_, rfl⟩
    rw [← hq] at CS hq7 ⊢
    have HQ := Lib.hid hq
    clear hq HI0
    go_wp2
    clear c0 c1
    go_loopw [5, 6] (fun v i wr => ∃ k : Nat, k ≤ m ∧ i = .int .i64 k ∧ Ints wr w2.heap.size v (idx (ctiTo m bs k)) ∧ Below w2.heap.size w2 wr) (fun _ i _ => m - (intOf i).toNat)
    case atStart => exact ⟨0, Nat.zero_le _, rfl, ints_nil, Below.refl _ _⟩
    case round =>
      obtain ⟨k, hk, rfl, hI, hb⟩ := hrel
      have hle := hb.size
      obtain ⟨c0, c1, l1⟩ := (XB2.out.below hb XB2.out.lt).two
      by_cases hlt : k < m
      · have hlt' : (k : Int) < m := by omega
        have HI := Lib.hid hI
        have HBr := Lib.hid hb
        clear hI hb
        go_wp2_with fail
        refine (isGroups m _ bs (k : Int) _ (H.out.below (HB2.out.trans (HBr.out.mono hsz))) HGd.out hm1 hm7 (by have := HN.out; omega)).mono ?_
        rintro e w4 ⟨u4, rfl, hU4, hb4⟩
        have B4 := Lib.hid (HBr.out.trans (hb4.mono hle))
        have HI4 := Lib.hid (HI.out.below hb4)
        have HU4 := Lib.hid hU4.rd
        have le4 := B4.out.size
        clear hb4 hU4 c0 c1 l1
        go_wp2_with fail
        refine (isCount u4 (lab m (offB (k : Int) bs)) (k : Int) w4 HU4.out (by rw [lab_len]; omega)).mono ?_
        rintro e w5 ⟨rfl, rfl⟩
        rw [lab_len, show cntW (lab m (offB (k : Int) bs)) k m = gwI m bs k from rfl]
        have hI4 := HI4.out
        have hp7 : gwI m bs k ≤ m := cntW_le _ _ _
        have S := CS.out k
        have hcl := ctiTo_len m bs k
        have hil : (idx (ctiTo m bs k)).length < 16777216 := by rw [idx_len]; omega
        clear HU4 HI
        generalize gwI m bs k = p at *
        by_cases hx : q < p
        · have R := Lib.hid (show ctiTo m bs (k + 1) = ctiTo m bs k ++ [k] by rw [S]; simp [hx])
          have hxI : (q : Int) < p := by omega
          clear S
          go_wp2_with (at_builtin; refine wpList_app w4 rfl _ _ rfl w2.heap.size _ (idx (ctiTo m bs k)) rfl hI4 (k : Int) rfl hil le4 rfl ?_; intro v' w5 hI2 hb2 hg2)
          go_roundw
          case rel => exact ⟨k + 1, by omega, by go_num, by rw [R.out, ← idx_app]; exact hI2, B4.out.trans hb2⟩
          case measure => (simp [intOf]; try omega)
        · have R := Lib.hid (show ctiTo m bs (k + 1) = ctiTo m bs k by rw [S]; simp [hx])
          have hxI : ¬ (q : Int) < p := by omega
          clear S
          go_wp2
          go_roundw
          case rel => exact ⟨k + 1, by omega, by go_num, by rw [R.out]; exact hI4, B4.out⟩
          case measure => (simp [intOf]; try omega)
      · obtain rfl : k = m := by omega
        have Z2 := Lib.hid (show ctiZ k bs = ctiTo k bs k by rw [Z.out])
        go_wp2
        go_ret2
        exact ⟨_, rfl, by rw [Z2.out]; exact ints_mono' hI hsz, HB2.out.trans (hb.mono hsz)⟩
end Go.Proofs.Ytdmgpbhbgeknfaa
