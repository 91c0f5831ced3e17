/- CutBridges: spec.isWithout, impl. -/
import Derived.Test.YtihdajiikonijaaId
import Derived.Test.YtihdajiikonijaaIy
import Derived.Deep.AppendLies
namespace Go.Proofs.Ytihdajiikonijaa
set_option linter.unusedVariables false
open Go.RowKit

def cutTo (m : Nat) (bs : List Br) (k : Nat) : List Nat := (List.range k).filter fun j => decide (groupsN m bs < groupsN m (bs.eraseIdx j))
theorem cutTo_s (m : Nat) (bs : List Br) (k : Nat) : cutTo m bs (k + 1) = cutTo m bs k ++ if groupsN m bs < groupsN m (bs.eraseIdx k) then [k] else [] := by
  unfold cutTo
  rw [List.range_succ, List.filter_append]
  by_cases h : groupsN m bs < groupsN m (bs.eraseIdx k) <;> simp [h]
theorem cutTo_len (m : Nat) (bs : List Br) (k : Nat) : (cutTo m bs k).length ≤ k := by
  unfold cutTo; exact Nat.le_trans (List.length_filter_le _ _) (by simp)
def cutZ (n : Int) (bs : List Br) : List Nat := if areIs n bs then cutTo n.toNat bs bs.length else []
theorem cutZ_no {n : Int} {bs : List Br} (h : areIs n bs = false) : cutZ n bs = [] := by simp [cutZ, h]
theorem cutZ_yes {m : Nat} {bs : List Br} (h : areIs m bs = true) : cutZ m bs = cutTo m bs bs.length := by simp [cutZ, h]
theorem cutZ_len (n : Int) (bs : List Br) : (cutZ n bs).length ≤ 14 := by
  cases h : areIs n bs
  · rw [cutZ_no h]; simp
  · obtain ⟨m, rfl, _, _, h3, _⟩ := areIs_in h
    rw [cutZ_yes h]
    exact Nat.le_trans (cutTo_len _ _ _) h3
set_option maxHeartbeats 4000000 in
theorem implCut (n : Int) (v : Value) (bs : List Br) (w : World) (h : RdB w v bs) (hl : bs.length ≤ 1048576) :
    Calls Try.prog 27 #[.agg #[.int .i64 n, v]] w fun e w' => ∃ u, e = .returned (.tuple #[u, .bool (areIs n bs)]) ∧ Ints w' w.heap.size u (idx (cutZ n bs)) ∧ Below w.heap.size w w' := by
  have H := Lib.hid h
  obtain ⟨a, l, c, rfl, hnz, t⟩ := h
  have HN := Lib.hid hnz
  clear t hnz
  cases hg : areIs n bs
  · have Z := Lib.hid (cutZ_no hg)
    have G := Lib.hid hg
    clear hg
    go_enter Try.func27, Try.ntmps27
    go_wp2_with fail
    refine (implAreIs n _ bs _ (H.out.below (by (repeat (first | exact Below.refl _ _ | (refine Below.alloc ?_ (by first | omega | (simp; try omega)) _) | apply Below.drew | apply below_drewN)))) hl).mono ?_
    rw [G.out]
    rintro e w1 ⟨rfl, hb⟩
    have HB := Lib.hid (Below.trans (by (repeat (first | exact Below.refl _ _ | (refine Below.alloc ?_ (by first | omega | (simp; try omega)) _) | apply Below.drew | apply below_drewN))) (hb.mono (by simp; try omega)) : Below w.heap.size w w1)
    clear hb
    go_wp2
    go_ret2
    exact ⟨_, rfl, by rw [Z.out]; exact ints_nil, HB.out⟩
  · obtain ⟨m, rfl, hm1, hm7, hl14, hgd⟩ := areIs_in hg
    have Z := Lib.hid (cutZ_yes hg)
    have G := Lib.hid hg
    have HGd := Lib.hid hgd
    clear hg hgd
    have hl14' : l ≤ 14 := by have := HN.out; omega
    go_enter Try.func27, Try.ntmps27
    go_wp2_with fail
    refine (implAreIs _ _ bs _ (H.out.below (by (repeat (first | exact Below.refl _ _ | (refine Below.alloc ?_ (by first | omega | (simp; try omega)) _) | apply Below.drew | apply below_drewN)))) hl).mono ?_
    rw [G.out]
    rintro e w1 ⟨rfl, hb⟩
    have HB := Lib.hid (Below.trans (by (repeat (first | exact Below.refl _ _ | (refine Below.alloc ?_ (by first | omega | (simp; try omega)) _) | apply Below.drew | apply below_drewN))) (hb.mono (by simp; try omega)) : Below w.heap.size w w1)
    have XB := Lib.hid ((Blk.new w #[.int .i64 m, .slice a l c] 29).below hb (by simp))
    obtain ⟨c0, c1, l0⟩ := XB.out.two
    clear hb
    go_wp2_with fail
    refine (countGroups m _ bs _ (H.out.below HB.out) HGd.out hm7 hl14).mono ?_
    rintro e w2 ⟨rfl, hb⟩
    have HB2 := Lib.hid (HB.out.trans (hb.mono HB.out.size))
    have XB2 := Lib.hid (XB.out.below hb XB.out.lt)
    have hsz := HB2.out.size
    clear hb c0 c1 l0 XB
    obtain ⟨c0, c1, l0⟩ := XB2.out.two
    have CS := Lib.hid (fun k => cutTo_s m bs k)
    have hq7 := groups_le m bs
    obtain ⟨q, hq⟩ : ∃ q, q = groupsN m bs := ⟨_, rfl⟩
    rw [← hq] at CS hq7 ⊢
    have HQ := Lib.hid hq
    clear hq
    go_wp2
    clear c0 c1
    go_loopw [5, 15] (fun v i wr => ∃ k : Nat, k ≤ l ∧ i = .int .i64 k ∧ Ints wr w2.heap.size v (idx (cutTo m bs k)) ∧ Below w2.heap.size w2 wr) (fun _ i _ => l - (intOf i).toNat)
    case atStart => exact ⟨0, Nat.zero_le _, rfl, ints_nil, Below.refl _ _⟩
    case round =>
      obtain ⟨k, hk, rfl, hI, hb⟩ := hrel
      have hle := hb.size
      obtain ⟨c0, c1, l1⟩ := (XB2.out.below hb XB2.out.lt).two
      by_cases hlt : k < l
      · have hlt' : (k : Int) < l := by omega
        have HI := Lib.hid hI
        have HBr := Lib.hid hb
        clear hI hb
        go_wp2_with fail
        refine (withoutBridge m _ bs k _ (H.out.below (HB2.out.trans (HBr.out.mono hsz))) (by have := HN.out; omega) hl14).mono ?_
        rintro e w3 ⟨u, rfl, hU, hb3⟩
        have HB3 := Lib.hid (HBr.out.trans (hb3.mono hle))
        have HI3 := Lib.hid (HI.out.below hb3)
        have HU := Lib.hid hU.rd
        have hle3 := HB3.out.size
        clear hb3 hU c0 c1 l1
        go_wp2_with fail
        refine (countGroups m u (bs.eraseIdx k) _ HU.out (HGd.out.erase k) hm7 (by have := List.length_eraseIdx_le bs k; omega)).mono ?_
        rintro e w4 ⟨rfl, hb4⟩
        have HB4 := Lib.hid (HB3.out.trans (hb4.mono hle3))
        have hI4 := HI3.out.below hb4
        have hle4 := HB4.out.size
        have hp7 := groups_le m (bs.eraseIdx k)
        have S := CS.out k
        have hcl := cutTo_len m bs k
        have hil : (idx (cutTo m bs k)).length < 16777216 := by rw [idx_len]; omega
        generalize groupsN m (bs.eraseIdx k) = p at *
        clear hb4
        by_cases hx : q < p
        · have R := Lib.hid (show cutTo m bs (k + 1) = cutTo m bs k ++ [k] by rw [S]; simp [hx])
          have hxI : (q : Int) < p := by omega
          clear S hx
          go_wp2_with (at_builtin; refine wpList_app w4 rfl _ _ rfl w2.heap.size _ (idx (cutTo m bs k)) rfl hI4 (k : Int) rfl hil hle4 rfl ?_; intro v' w5 hI2 hb2 hg2)
          go_roundw
          case rel => exact ⟨k + 1, by omega, by go_num, by rw [R.out, ← idx_app]; exact hI2, HB4.out.trans hb2⟩
          case measure => (simp [intOf]; try omega)
        · have R := Lib.hid (show cutTo m bs (k + 1) = cutTo m bs k by rw [S]; simp [hx])
          have hxI : ¬ (q : Int) < p := by omega
          clear S hx
          go_wp2
          go_roundw
          case rel => exact ⟨k + 1, by omega, by go_num, by rw [R.out]; exact hI4, HB4.out⟩
          case measure => (simp [intOf]; try omega)
      · obtain rfl : k = l := by omega
        have Z2 := Lib.hid (show cutZ m bs = cutTo m bs k by rw [Z.out, HN.out])
        go_wp2
        go_ret2
        exact ⟨_, rfl, by rw [Z2.out]; exact ints_mono' hI hsz, HB2.out.trans (hb.mono hsz)⟩
end Go.Proofs.Ytihdajiikonijaa
