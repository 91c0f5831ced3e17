/- CutIslands: impl. -/
import Derived.Test.YtdmgpbhbgeknfaaIce
namespace Go.Proofs.Ytdmgpbhbgeknfaa
set_option linter.unusedVariables false
open Go.RowKit

def ctiTo (m : Nat) (bs : List Br) (k : Nat) : List Nat := (List.range k).filter fun j => decide (groupsN m bs < gwI m bs j)
theorem ctiTo_s (m : Nat) (bs : List Br) (k : Nat) : ctiTo m bs (k + 1) = ctiTo m bs k ++ if groupsN m bs < gwI m bs k then [k] else [] := by
  unfold ctiTo
  rw [List.range_succ, List.filter_append]
  by_cases h : groupsN m bs < gwI m bs k <;> simp [h]
theorem ctiTo_len (m : Nat) (bs : List Br) (k : Nat) : (ctiTo m bs k).length ≤ k := by
  unfold ctiTo; exact Nat.le_trans (List.length_filter_le _ _) (by simp)
def ctiZ (n : Int) (bs : List Br) : List Nat := if areIs n bs then ctiTo n.toNat bs n.toNat else []
theorem ctiZ_no {n : Int} {bs : List Br} (h : areIs n bs = false) : ctiZ n bs = [] := by simp [ctiZ, h]
theorem ctiZ_yes {m : Nat} {bs : List Br} (h : areIs m bs = true) : ctiZ m bs = ctiTo m bs m := by simp [ctiZ, h]
theorem ctiZ_len (n : Int) (bs : List Br) : (ctiZ n bs).length ≤ 14 := by
  cases h : areIs n bs
  · rw [ctiZ_no h]; simp
  · obtain ⟨m, rfl, _, h7, h3, _⟩ := areIs_in h
    rw [ctiZ_yes h]
    exact Nat.le_trans (ctiTo_len _ _ _) (by omega)
set_option maxHeartbeats 4000000 in
theorem implCti (n : Int) (v : Value) (bs : List Br) (w : World) (h : RdB w v bs) (hl : bs.length ≤ 1048576) :
    Calls Try.prog 17 #[.agg #[.int .i64 n, v]] w fun e w' => ∃ u, e = .returned (.tuple #[u, .bool (areIs n bs)]) ∧ Ints w' w.heap.size u (idx (ctiZ n bs)) ∧ Below w.heap.size w w' := by
  have H := Lib.hid h
  obtain ⟨a, l, c, rfl, hnz, t⟩ := h
  have HN := Lib.hid hnz
  clear t hnz
  cases hg : areIs n bs
  · have Z := Lib.hid (ctiZ_no hg)
    have G := Lib.hid hg
    clear hg
    go_enter Try.func17, Try.ntmps17
    go_wp2_with fail
    refine (implAreIs n _ bs _ (H.out.below (by (repeat (first | exact Below.refl _ _ | (refine Below.alloc ?_ (by first | omega | (simp; try omega)) _) | apply Below.drew | apply below_drewN)))) hl).mono ?_
    rw [G.out]
    rintro e w1 ⟨rfl, hb⟩
    have HB := Lib.hid (Below.trans (by (repeat (first | exact Below.refl _ _ | (refine Below.alloc ?_ (by first | omega | (simp; try omega)) _) | apply Below.drew | apply below_drewN))) (hb.mono (by simp; try omega)) : Below w.heap.size w w1)
    clear hb
    go_wp2
    go_ret2
    exact ⟨_, rfl, by rw [Z.out]; exact ints_nil, HB.out⟩
  · obtain ⟨m, rfl, hm1, hm7, hl14, hgd⟩ := areIs_in hg
    have Z := Lib.hid (ctiZ_yes hg)
    have G := Lib.hid hg
    have HGd := Lib.hid hgd
    clear hg hgd
    have hl14' : l ≤ 14 := by have := HN.out; omega
    go_enter Try.func17, Try.ntmps17
    go_wp2_with fail
    refine (implAreIs _ _ bs _ (H.out.below (by (repeat (first | exact Below.refl _ _ | (refine Below.alloc ?_ (by first | omega | (simp; try omega)) _) | apply Below.drew | apply below_drewN)))) hl).mono ?_
    rw [G.out]
    rintro e w1 ⟨rfl, hb⟩
    have HB := Lib.hid (Below.trans (by (repeat (first | exact Below.refl _ _ | (refine Below.alloc ?_ (by first | omega | (simp; try omega)) _) | apply Below.drew | apply below_drewN))) (hb.mono (by simp; try omega)) : Below w.heap.size w w1)
    have XB := Lib.hid ((Blk.new w #[.int .i64 m, .slice a l c] 30).below hb (by simp))
    obtain ⟨c0, c1, l0⟩ := XB.out.two
    clear hb
    go_wp2_with fail
    refine (countGroups m _ bs _ (H.out.below HB.out) HGd.out hm7 hl14).mono ?_
    rintro e w2 ⟨rfl, hb⟩
    have HB2 := Lib.hid (HB.out.trans (hb.mono HB.out.size))
    have XB2 := Lib.hid (XB.out.below hb XB.out.lt)
    have hsz := HB2.out.size
    clear hb c0 c1 l0 XB
    obtain ⟨c0, c1, l0⟩ := XB2.out.two
    have CS := Lib.hid (fun k => ctiTo_s m bs k)
    have hq7 := groups_le m bs
    obtain ⟨q, hq⟩ : ∃ q, q = groupsN m bs := ⟨_, rfl⟩
    rw [← hq] at CS hq7 ⊢
    have HQ := Lib.hid hq
    clear hq
    go_wp2
    clear c0 c1
    go_loopw [5, 14] (fun v i wr => ∃ k : Nat, k ≤ m ∧ i = .int .i64 k ∧ Ints wr w2.heap.size v (idx (ctiTo m bs k)) ∧ Below w2.heap.size w2 wr) (fun _ i _ => m - (intOf i).toNat)
    case atStart => exact ⟨0, Nat.zero_le _, rfl, ints_nil, Below.refl _ _⟩
    case round =>
      obtain ⟨k, hk, rfl, hI, hb⟩ := hrel
      have hle := hb.size
      obtain ⟨c0, c1, l1⟩ := (XB2.out.below hb XB2.out.lt).two
      by_cases hlt : k < m
      · have hlt' : (k : Int) < m := by omega
        have HI := Lib.hid hI
        have HBr := Lib.hid hb
        clear hI hb
        go_wp2_with fail
        refine (groupsWithout m _ bs k _ (H.out.below (HB2.out.trans (HBr.out.mono hsz))) HGd.out hm7 hl14 hlt).mono ?_
        rintro e w4 ⟨rfl, hb4⟩
        have HB4 := Lib.hid (HBr.out.trans (hb4.mono hle))
        have HI3 := HI
        clear c0 c1 l1
        have hI4 := HI3.out.below hb4
        have hle4 := HB4.out.size
        have hp7 : gwI m bs k ≤ m := cntW_le _ _ _
        have S := CS.out k
        have hcl := ctiTo_len m bs k
        have hil : (idx (ctiTo m bs k)).length < 16777216 := by rw [idx_len]; omega
        generalize gwI m bs k = p at *
        clear hb4
        by_cases hx : q < p
        · have R := Lib.hid (show ctiTo m bs (k + 1) = ctiTo m bs k ++ [k] by rw [S]; simp [hx])
          have hxI : (q : Int) < p := by omega
          clear S hx
          go_wp2_with (at_builtin; refine wpList_app w4 rfl _ _ rfl w2.heap.size _ (idx (ctiTo m bs k)) rfl hI4 (k : Int) rfl hil hle4 rfl ?_; intro v' w5 hI2 hb2 hg2)
          go_roundw
          case rel => exact ⟨k + 1, by omega, by go_num, by rw [R.out, ← idx_app]; exact hI2, HB4.out.trans hb2⟩
          case measure => (simp [intOf]; try omega)
        · have R := Lib.hid (show ctiTo m bs (k + 1) = ctiTo m bs k by rw [S]; simp [hx])
          have hxI : ¬ (q : Int) < p := by omega
          clear S hx
          go_wp2
          go_roundw
          case rel => exact ⟨k + 1, by omega, by go_num, by rw [R.out]; exact hI4, HB4.out⟩
          case measure => (simp [intOf]; try omega)
      · obtain rfl : k = m := by omega
        have Z2 := Lib.hid (show ctiZ k bs = ctiTo k bs k by rw [Z.out])
        go_wp2
        go_ret2
        exact ⟨_, rfl, by rw [Z2.out]; exact ints_mono' hI hsz, HB2.out.trans (hb.mono hsz)⟩
end Go.Proofs.Ytdmgpbhbgeknfaa
