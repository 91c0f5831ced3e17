/- GroupOf, CountGroups: spec. -/
import Derived.Test.YtihdajiikonijaaIg
namespace Go.Proofs.Ytihdajiikonijaa
set_option linter.unusedVariables false
open Go.RowKit

theorem ints_nil {w : World} {B : Nat} : Ints w B (.slice none 0 0) (idx []) := World.ownsRow_nil _ _ _ _
def grpZ (n : Int) (bs : List Br) (i : Int) : List Nat := if askI n bs i then groupL n.toNat bs i.toNat else []
theorem grpZ_no {n : Int} {bs : List Br} {i : Int} (h : askI n bs i = false) : grpZ n bs i = [] := by simp [grpZ, h]
theorem grpZ_yes {m k : Nat} {bs : List Br} (h : askI m bs k = true) : grpZ m bs k = groupL m bs k := by simp [grpZ, h]
theorem grpZ_len (n : Int) (bs : List Br) (i : Int) : (grpZ n bs i).length ≤ 7 := by
  cases h : askI n bs i
  · rw [grpZ_no h]; simp
  · obtain ⟨m, k, rfl, rfl, _, h2, _⟩ := askI_in h
    rw [grpZ_yes h]
    unfold groupL
    exact Nat.le_trans (List.length_filter_le _ _) (by simpa using h2)
/-- the first k islands' part of a group -/
def grpTo (m : Nat) (bs : List Br) (i k : Nat) : List Nat := (List.range k).filter fun j => same m bs j i
theorem grpTo_s (m : Nat) (bs : List Br) (i k : Nat) : grpTo m bs i (k + 1) = grpTo m bs i k ++ if same m bs k i then [k] else [] := by
  unfold grpTo
  rw [List.range_succ, List.filter_append]
  cases h : same m bs k i <;> simp [h]
theorem grpTo_len (m : Nat) (bs : List Br) (i k : Nat) : (grpTo m bs i k).length ≤ k := by
  unfold grpTo; exact Nat.le_trans (List.length_filter_le _ _) (by simp)
theorem idx_app (l : List Nat) (x : Nat) : idx l ++ [(x : Int)] = idx (l ++ [x]) := by simp [idx]
set_option maxHeartbeats 4000000 in
theorem specGroupOf (n : Int) (v : Value) (bs : List Br) (i : Int) (w : World) (h : RdB w v bs) (hl : bs.length ≤ 1048576) :
    Calls Try.prog 18 #[.agg #[.int .i64 n, v], .int .i64 i] w fun e w' => ∃ u, e = .returned (.tuple #[u, .bool (askI n bs i)]) ∧ Ints w' w.heap.size u (idx (grpZ n bs i)) ∧ Below w.heap.size w w' := by
  have H := Lib.hid h
  obtain ⟨a, l, c, rfl, t⟩ := h
  clear t
  cases hg : askI n bs i
  · have Z := Lib.hid (grpZ_no hg)
    have G := Lib.hid hg
    clear hg
    go_enter Try.func18, Try.ntmps18
    go_wp2_with fail
    refine (isAsked n _ bs i _ (H.out.below (by (repeat (first | exact Below.refl _ _ | (refine Below.alloc ?_ (by first | omega | (simp; try omega)) _) | apply Below.drew | apply below_drewN)))) hl).mono ?_
    rw [G.out]
    rintro e w1 ⟨rfl, hb⟩
    have HB := Lib.hid (Below.trans (by (repeat (first | exact Below.refl _ _ | (refine Below.alloc ?_ (by first | omega | (simp; try omega)) _) | apply Below.drew | apply below_drewN))) (hb.mono (by simp; try omega)) : Below w.heap.size w w1)
    clear hb
    go_wp2
    go_ret2
    exact ⟨_, rfl, by rw [Z.out]; exact ints_nil, HB.out⟩
  · obtain ⟨m, k, rfl, rfl, hm1, hm7, hl14, hgd, hkm⟩ := askI_in hg
    have Z := Lib.hid (grpZ_yes hg)
    have G := Lib.hid hg
    have HGd := Lib.hid hgd
    clear hg hgd
    go_enter Try.func18, Try.ntmps18
    go_wp2_with fail
    refine (isAsked _ _ bs _ _ (H.out.below (by (repeat (first | exact Below.refl _ _ | (refine Below.alloc ?_ (by first | omega | (simp; try omega)) _) | apply Below.drew | apply below_drewN)))) hl).mono ?_
    rw [G.out]
    rintro e w1 ⟨rfl, hb⟩
    have HB := Lib.hid (Below.trans (by (repeat (first | exact Below.refl _ _ | (refine Below.alloc ?_ (by first | omega | (simp; try omega)) _) | apply Below.drew | apply below_drewN))) (hb.mono (by simp; try omega)) : Below w.heap.size w w1)
    obtain ⟨c0, c1, l0⟩ := ((Blk.new w #[.int .i64 m, .slice a l c] 29).below hb (by simp)).two
    clear hb
    go_wp2_with fail
    refine (isGroups m _ bs (-1) _ (H.out.below HB.out) HGd.out hm1 hm7 hl14).mono ?_
    rw [offB_none HGd.out]
    rintro e w2 ⟨u, rfl, hI, hb⟩
    have hll := lab_len m bs
    obtain ⟨g, n1, cap, rfl, hn1, _, _, hgB, hgw, hcell⟩ := hI.form (by omega)
    obtain rfl : n1 = m := by omega
    have HB2 := Lib.hid (HB.out.trans (hb.mono HB.out.size))
    have hsz := HB2.out.size
    have HC := Lib.hid hcell
    clear hI hb hcell hn1 c0 c1 l0 hll
    go_wp2
    go_loopw [7, 21] (fun v i wr => ∃ j : Nat, j ≤ n1 ∧ i = .int .i64 j ∧ Ints wr w2.heap.size v (idx (grpTo n1 bs k j)) ∧ Below w2.heap.size w2 wr) (fun _ i _ => n1 - (intOf i).toNat)
    case atStart => exact ⟨0, Nat.zero_le _, rfl, ints_nil, Below.refl _ _⟩
    case round =>
      obtain ⟨j, hj, rfl, hI, hb⟩ := hrel
      by_cases hlt : j < n1
      · have hlt' : (j : Int) < n1 := by omega
        have hkm' : (k : Int) < n1 := by omega
        have d1 := (hb.cell (p := ⟨g, j, none⟩) hgw).trans (HC.out j hlt)
        have d2 := (hb.cell (p := ⟨g, k, none⟩) hgw).trans (HC.out k hkm)
        have hle := hb.size
        have S := grpTo_s n1 bs k j
        have hs : same n1 bs j k = decide (gt (lab n1 bs) j = gt (lab n1 bs) k) := rfl
        rw [hs] at S
        generalize gt (lab n1 bs) j = x at *
        generalize gt (lab n1 bs) k = y at *
        have hgl := grpTo_len n1 bs k j
        by_cases hx : x = y
        · have R := Lib.hid (show grpTo n1 bs k (j + 1) = grpTo n1 bs k j ++ [j] by rw [S]; simp [hx])
          have hil : (idx (grpTo n1 bs k j)).length < 16777216 := by rw [idx_len]; omega
          have D : (x == y) = true := by simpa using hx
          clear S hs hx
          go_wp2_with (at_builtin; refine wpList_app wr rfl _ _ rfl w2.heap.size _ (idx (grpTo n1 bs k j)) rfl hI (j : Int) rfl hil hle rfl ?_; intro v' w3 hI2 hb2 hg2)
          go_roundw
          case rel => exact ⟨j + 1, by omega, by go_num, by rw [R.out, ← idx_app]; exact hI2, hb.trans hb2⟩
          case measure => (simp [intOf]; try omega)
        · have R := Lib.hid (show grpTo n1 bs k (j + 1) = grpTo n1 bs k j by rw [S]; simp [hx])
          have D : (x == y) = false := by simpa using hx
          clear S hs hx
          go_wp2
          go_roundw
          case rel => exact ⟨j + 1, by omega, by go_num, by rw [R.out]; exact hI, hb⟩
          case measure => (simp [intOf]; try omega)
      · obtain rfl : j = n1 := by omega
        go_wp2
        go_ret2
        exact ⟨_, rfl, by rw [Z.out]; exact ints_mono' hI hsz, HB2.out.trans (hb.mono hsz)⟩

def cgV (n : Int) (bs : List Br) : Value := if areIs n bs then .tuple #[.int .i64 (groupsN n.toNat bs), .bool true] else .tuple #[.int .i64 0, .bool false]
theorem cgV_no {n : Int} {bs : List Br} (h : areIs n bs = false) : cgV n bs = .tuple #[.int .i64 0, .bool false] := by simp [cgV, h]
theorem cgV_yes {m : Nat} {bs : List Br} (h : areIs m bs = true) : cgV m bs = .tuple #[.int .i64 (groupsN m bs), .bool true] := by simp [cgV, h]
theorem cgV_form (n : Int) (bs : List Br) : ∃ x y, cgV n bs = .tuple #[.int .i64 x, .bool y] := by
  unfold cgV; split <;> exact ⟨_, _, rfl⟩
set_option maxHeartbeats 1000000 in
theorem specCountGroups (n : Int) (v : Value) (bs : List Br) (w : World) (h : RdB w v bs) (hl : bs.length ≤ 1048576) :
    Calls Try.prog 24 #[.agg #[.int .i64 n, v]] w fun e w' => e = .returned (cgV n bs) ∧ Below w.heap.size w w' := by
  have H := Lib.hid h
  obtain ⟨a, l, c, rfl, t⟩ := h
  clear t
  cases hg : areIs n bs
  · rw [cgV_no hg]
    have G := Lib.hid hg
    clear hg
    go_enter Try.func24, Try.ntmps24
    go_wp2_with fail
    refine (isGood n _ bs _ (H.out.below (by (repeat (first | exact Below.refl _ _ | (refine Below.alloc ?_ (by first | omega | (simp; try omega)) _) | apply Below.drew | apply below_drewN)))) hl).mono ?_
    rw [G.out]
    rintro e w1 ⟨rfl, hb⟩
    have HB := Lib.hid (Below.trans (by (repeat (first | exact Below.refl _ _ | (refine Below.alloc ?_ (by first | omega | (simp; try omega)) _) | apply Below.drew | apply below_drewN))) (hb.mono (by simp; try omega)) : Below w.heap.size w w1)
    clear hb
    go_wp2
    go_ret2
    exact ⟨rfl, HB.out⟩
  · obtain ⟨m, rfl, hm1, hm7, hl14, hgd⟩ := areIs_in hg
    rw [cgV_yes hg]
    have G := Lib.hid hg
    have HGd := Lib.hid hgd
    clear hg hgd
    go_enter Try.func24, Try.ntmps24
    go_wp2_with fail
    refine (isGood _ _ bs _ (H.out.below (by (repeat (first | exact Below.refl _ _ | (refine Below.alloc ?_ (by first | omega | (simp; try omega)) _) | apply Below.drew | apply below_drewN)))) hl).mono ?_
    rw [G.out]
    rintro e w1 ⟨rfl, hb⟩
    have HB := Lib.hid (Below.trans (by (repeat (first | exact Below.refl _ _ | (refine Below.alloc ?_ (by first | omega | (simp; try omega)) _) | apply Below.drew | apply below_drewN))) (hb.mono (by simp; try omega)) : Below w.heap.size w w1)
    obtain ⟨c0, c1, l0⟩ := ((Blk.new w #[.int .i64 m, .slice a l c] 29).below hb (by simp)).two
    clear hb
    go_wp2_with fail
    refine (isGroups m _ bs (-1) _ (H.out.below HB.out) HGd.out hm1 hm7 hl14).mono ?_
    rw [offB_none HGd.out]
    rintro e w2 ⟨u, rfl, hI, hb⟩
    have HI := Lib.hid hI
    have HB2 := Lib.hid (HB.out.trans (hb.mono HB.out.size))
    clear hI hb c0 c1 l0
    go_wp2_with fail
    refine (isCount _ (lab m bs) (-1) _ HI.out.rd (by rw [lab_len]; omega)).mono ?_
    rw [lab_len, cntW_none]
    rintro e w3 ⟨rfl, rfl⟩
    go_wp2
    go_ret2
    exact ⟨rfl, HB2.out⟩
end Go.Proofs.Ytihdajiikonijaa
