/- FarthestIsland, CenterIsland, both sides. -/
import Derived.Test.YtihdajiikonijabIf
import Derived.Test.YtihdajiikonijabIy
namespace Go.Proofs.Ytihdajiikonijab
set_option linter.unusedVariables false
open Go.RowKit

def farV (n : Int) (bs : List Br) (i : Int) : Value := if askI n bs i then .tuple #[.int .i64 (far n.toNat bs i.toNat).1, .int .i64 (far n.toNat bs i.toNat).2, .bool true] else .tuple #[.int .i64 0, .int .i64 0, .bool false]
theorem farV_no {n : Int} {bs : List Br} {i : Int} (h : askI n bs i = false) : farV n bs i = .tuple #[.int .i64 0, .int .i64 0, .bool false] := by simp [farV, h]
theorem farV_yes {m i : Nat} {bs : List Br} (h : askI m bs i = true) : farV m bs i = .tuple #[.int .i64 (far m bs i).1, .int .i64 (far m bs i).2, .bool true] := by simp [farV, h]
theorem farV_form (n : Int) (bs : List Br) (i : Int) : ∃ x y z, farV n bs i = .tuple #[.int .i64 x, .int .i64 y, .bool z] := by
  unfold farV; split <;> exact ⟨_, _, _, rfl⟩
set_option maxHeartbeats 1000000 in
theorem specFar (n : Int) (v : Value) (bs : List Br) (i : Int) (w : World) (h : RdB w v bs) (hl : bs.length ≤ 1048576) :
    Calls Try.prog 23 #[.agg #[.int .i64 n, v], .int .i64 i] w fun e w' => e = .returned (farV n bs i) ∧ Below w.heap.size w w' := by
  have H := Lib.hid h
  obtain ⟨a, l, c, rfl, tt⟩ := h
  clear tt
  cases hg : askI n bs i
  · rw [farV_no hg]
    have G := Lib.hid hg
    clear hg
    go_enter Try.func23, Try.ntmps23
    go_wp2_with fail
    refine (isAsked n _ bs i _ (H.out.below (by (repeat (first | exact Below.refl _ _ | (refine Below.alloc ?_ (by first | omega | (simp; try omega)) _) | apply Below.drew | apply below_drewN)))) hl).mono ?_
    rw [G.out]
    rintro e w1 ⟨rfl, hb⟩
    have HB := Lib.hid (Below.trans (by (repeat (first | exact Below.refl _ _ | (refine Below.alloc ?_ (by first | omega | (simp; try omega)) _) | apply Below.drew | apply below_drewN))) (hb.mono (by simp; try omega)) : Below w.heap.size w w1)
    clear hb
    go_wp2
    go_ret3
    exact ⟨rfl, HB.out⟩
  · obtain ⟨m, k, rfl, rfl, hm1, hm7, hl14, hgd, hkm⟩ := askI_in hg
    rw [farV_yes hg]
    have G := Lib.hid hg
    have HGd := Lib.hid hgd
    clear hg hgd
    go_enter Try.func23, Try.ntmps23
    go_wp2_with fail
    refine (isAsked _ _ bs _ _ (H.out.below (by (repeat (first | exact Below.refl _ _ | (refine Below.alloc ?_ (by first | omega | (simp; try omega)) _) | apply Below.drew | apply below_drewN)))) hl).mono ?_
    rw [G.out]
    rintro e w1 ⟨rfl, hb⟩
    have HB := Lib.hid (Below.trans (by (repeat (first | exact Below.refl _ _ | (refine Below.alloc ?_ (by first | omega | (simp; try omega)) _) | apply Below.drew | apply below_drewN))) (hb.mono (by simp; try omega)) : Below w.heap.size w w1)
    obtain ⟨c0, c1, l0⟩ := ((Blk.new w #[.int .i64 m, .slice a l c] 30).below hb (by simp)).two
    clear hb
    go_wp2_with fail
    refine (isFarthest m _ bs k _ (H.out.below HB.out) HGd.out hm7 hl14 hkm).mono ?_
    rintro e w2 ⟨rfl, hb⟩
    have HB2 := Lib.hid (HB.out.trans (hb.mono HB.out.size))
    clear hb c0 c1 l0
    go_wp2
    go_ret3
    exact ⟨rfl, HB2.out⟩
set_option maxHeartbeats 1000000 in
theorem implFar (n : Int) (v : Value) (bs : List Br) (i : Int) (w : World) (h : RdB w v bs) (hl : bs.length ≤ 1048576) :
    Calls Try.prog 24 #[.agg #[.int .i64 n, v], .int .i64 i] w fun e w' => e = .returned (farV n bs i) ∧ Below w.heap.size w w' := by
  have H := Lib.hid h
  obtain ⟨a, l, c, rfl, tt⟩ := h
  clear tt
  cases hg : askI n bs i
  · rw [farV_no hg]
    have G := Lib.hid hg
    clear hg
    go_enter Try.func24, Try.ntmps24
    go_wp2_with fail
    refine (areIslesWith n _ bs i _ (H.out.below (by (repeat (first | exact Below.refl _ _ | (refine Below.alloc ?_ (by first | omega | (simp; try omega)) _) | apply Below.drew | apply below_drewN)))) hl).mono ?_
    rw [G.out]
    rintro e w1 ⟨rfl, hb⟩
    have HB := Lib.hid (Below.trans (by (repeat (first | exact Below.refl _ _ | (refine Below.alloc ?_ (by first | omega | (simp; try omega)) _) | apply Below.drew | apply below_drewN))) (hb.mono (by simp; try omega)) : Below w.heap.size w w1)
    clear hb
    go_wp2
    go_ret3
    exact ⟨rfl, HB.out⟩
  · obtain ⟨m, k, rfl, rfl, hm1, hm7, hl14, hgd, hkm⟩ := askI_in hg
    rw [farV_yes hg]
    have G := Lib.hid hg
    have HGd := Lib.hid hgd
    clear hg hgd
    go_enter Try.func24, Try.ntmps24
    go_wp2_with fail
    refine (areIslesWith _ _ bs _ _ (H.out.below (by (repeat (first | exact Below.refl _ _ | (refine Below.alloc ?_ (by first | omega | (simp; try omega)) _) | apply Below.drew | apply below_drewN)))) hl).mono ?_
    rw [G.out]
    rintro e w1 ⟨rfl, hb⟩
    have HB := Lib.hid (Below.trans (by (repeat (first | exact Below.refl _ _ | (refine Below.alloc ?_ (by first | omega | (simp; try omega)) _) | apply Below.drew | apply below_drewN))) (hb.mono (by simp; try omega)) : Below w.heap.size w w1)
    obtain ⟨c0, c1, l0⟩ := ((Blk.new w #[.int .i64 m, .slice a l c] 30).below hb (by simp)).two
    clear hb
    go_wp2_with fail
    refine (farthestFrom m _ bs k _ (H.out.below HB.out) HGd.out hm7 hl14 hkm).mono ?_
    rintro e w2 ⟨rfl, hb⟩
    have HB2 := Lib.hid (HB.out.trans (hb.mono HB.out.size))
    clear hb c0 c1 l0
    go_wp2
    go_ret3
    exact ⟨rfl, HB2.out⟩

/-- there are isles, all of one group -/
def oneB (n : Int) (bs : List Br) : Bool := areIs n bs && decide (groupsN n.toNat bs = 1)
theorem oneB_in {n : Int} {bs : List Br} (h : oneB n bs = true) : ∃ m : Nat, n = m ∧ 1 ≤ m ∧ m ≤ 7 ∧ bs.length ≤ 14 ∧ Good m bs ∧ groupsN m bs = 1 := by
  unfold oneB at h
  rw [Bool.and_eq_true] at h
  obtain ⟨m, rfl, h1, h2, h3, h4⟩ := areIs_in h.1
  exact ⟨m, rfl, h1, h2, h3, h4, by simpa using h.2⟩
set_option maxHeartbeats 1000000 in
theorem isOne (n : Int) (v : Value) (bs : List Br) (w : World) (h : RdB w v bs) (hl : bs.length ≤ 1048576) :
    Calls Try.prog 47 #[.agg #[.int .i64 n, v]] w fun e w' => e = .returned (.bool (oneB n bs)) ∧ Below w.heap.size w w' := by
  have H := Lib.hid h
  obtain ⟨a, l, c, rfl, tt⟩ := h
  clear tt
  have E := Lib.hid (show oneB n bs = (areIs n bs && decide (groupsN n.toNat bs = 1)) from rfl)
  cases hg : areIs n bs
  · rw [hg] at E
    have G := Lib.hid hg
    clear hg
    go_enter Try.func47, Try.ntmps47
    go_wp2_with fail
    refine (isGood n _ bs _ (H.out.below (by (repeat (first | exact Below.refl _ _ | (refine Below.alloc ?_ (by first | omega | (simp; try omega)) _) | apply Below.drew | apply below_drewN)))) hl).mono ?_
    rw [G.out]
    rintro e w1 ⟨rfl, hb⟩
    have HB := Lib.hid (Below.trans (by (repeat (first | exact Below.refl _ _ | (refine Below.alloc ?_ (by first | omega | (simp; try omega)) _) | apply Below.drew | apply below_drewN))) (hb.mono (by simp; try omega)) : Below w.heap.size w w1)
    clear hb
    go_wp2
    go_ret
    exact ⟨ret_bool (by rw [E.out]; rfl), HB.out⟩
  · obtain ⟨m, rfl, hm1, hm7, hl14, hgd⟩ := areIs_in hg
    rw [hg] at E
    have G := Lib.hid hg
    have HGd := Lib.hid hgd
    have E2 : Hid (oneB m bs = ((groupsN m bs : Int) == 1)) := Lib.hid (by
      rw [E.out, Bool.eq_iff_iff]; simp; omega)
    have hgle := groups_le m bs
    clear hg hgd E
    go_enter Try.func47, Try.ntmps47
    go_wp2_with fail
    refine (isGood _ _ bs _ (H.out.below (by (repeat (first | exact Below.refl _ _ | (refine Below.alloc ?_ (by first | omega | (simp; try omega)) _) | apply Below.drew | apply below_drewN)))) hl).mono ?_
    rw [G.out]
    rintro e w1 ⟨rfl, hb⟩
    have HB := Lib.hid (Below.trans (by (repeat (first | exact Below.refl _ _ | (refine Below.alloc ?_ (by first | omega | (simp; try omega)) _) | apply Below.drew | apply below_drewN))) (hb.mono (by simp; try omega)) : Below w.heap.size w w1)
    obtain ⟨c0, c1, l0⟩ := ((Blk.new w #[.int .i64 m, .slice a l c] 30).below hb (by simp)).two
    clear hb
    go_wp2_with fail
    refine (isGroups m _ bs (-1) _ (H.out.below HB.out) HGd.out hm1 hm7 hl14).mono ?_
    rw [offB_none HGd.out]
    rintro e w2 ⟨u, rfl, hI, hb⟩
    have HI := Lib.hid hI
    have HB2 := Lib.hid (HB.out.trans (hb.mono HB.out.size))
    clear hI hb c0 c1 l0
    go_wp2_with fail
    refine (isCount _ (lab m bs) (-1) _ HI.out.rd (by rw [lab_len]; omega)).mono ?_
    rw [lab_len, cntW_none]
    rintro e w3 ⟨rfl, rfl⟩
    generalize groupsN m bs = q at *
    go_wp2
    go_ret
    exact ⟨ret_bool (by rw [E2.out]), HB2.out⟩
/-- the center of the first k islands, and its toll -/
def cenTo (m : Nat) (bs : List Br) : Nat → Int × Int
  | 0 => (0, big)
  | k + 1 => if (far m bs k).2 < (cenTo m bs k).2 then ((k : Int), (far m bs k).2) else cenTo m bs k
theorem cenTo_yes {m k : Nat} {bs : List Br} (h : (far m bs k).2 < (cenTo m bs k).2) : cenTo m bs (k + 1) = ((k : Int), (far m bs k).2) := by rw [cenTo, if_pos h]
theorem cenTo_no {m k : Nat} {bs : List Br} (h : ¬ (far m bs k).2 < (cenTo m bs k).2) : cenTo m bs (k + 1) = cenTo m bs k := by rw [cenTo, if_neg h]
theorem far_in {m : Nat} {bs : List Br} (hg : Good m bs) {s : Nat} (hs : s < m) : 0 ≤ (far m bs s).1 ∧ (far m bs s).1 < m ∧ 0 ≤ (far m bs s).2 ∧ (far m bs s).2 ≤ big := farL_in hg hs _ (grpTo_lt (Nat.le_refl _))
/-- its toll is that of a way -/
theorem far_small {m : Nat} {bs : List Br} (hg : Good m bs) (hm : m ≤ 7) {s : Nat} (hs : s < m) : (far m bs s).2 < big := by
  have key : ∀ (l : List Nat) (q : Int × Int), (∀ x ∈ l, x < m ∧ same m bs x s = true) → q.2 < big → (l.foldl (farS m bs s) q).2 < big := by
    intro l
    induction l with
    | nil => intro q _ h; exact h
    | cons x l ih =>
      intro q hx hq
      rw [List.foldl_cons]
      refine ih _ (fun y hy => hx y (List.mem_cons_of_mem _ hy)) ?_
      have hxm := hx x (by simp)
      have := (tl_reach hg hm false hs hxm.1).2 hxm.2
      unfold farS
      split
      · exact this
      · exact hq
  exact key _ _ (fun x hx => groupL_mem.1 hx) (by show (0 : Int) < 1000000; omega)
theorem cenTo_in {m : Nat} {bs : List Br} (hg : Good m bs) : ∀ k, k ≤ m → 0 ≤ (cenTo m bs k).2 ∧ (cenTo m bs k).2 ≤ big
  | 0, _ => by show (0 : Int) ≤ 1000000 ∧ (1000000 : Int) ≤ 1000000; omega
  | k + 1, h => by
    have := cenTo_in hg k (by omega)
    have h2 := far_in hg (s := k) (by omega)
    unfold cenTo
    split
    · exact ⟨h2.2.2.1, h2.2.2.2⟩
    · exact this
theorem cenTo_1 {m : Nat} {bs : List Br} (hg : Good m bs) (h1 : 1 ≤ m) (hm : m ≤ 7) : cenTo m bs 1 = (0, (far m bs 0).2) := cenTo_yes (far_small hg hm (by omega))
/-- beginning with the first island it comes to the same -/
def cenI (m : Nat) (bs : List Br) (k : Nat) : Int × Int := cenTo m bs (max k 1)
theorem cenI_0 {m : Nat} {bs : List Br} (hg : Good m bs) (h1 : 1 ≤ m) (hm : m ≤ 7) : cenI m bs 0 = (0, (far m bs 0).2) := cenTo_1 hg h1 hm
theorem cenI_yes {m k : Nat} {bs : List Br} (hg : Good m bs) (h1 : 1 ≤ m) (hm : m ≤ 7) (h : (far m bs k).2 < (cenI m bs k).2) : cenI m bs (k + 1) = ((k : Int), (far m bs k).2) := by
  unfold cenI at *
  cases k with
  | zero => rw [show max 0 1 = 1 from rfl, cenTo_1 hg h1 hm] at h; simp at h
  | succ k =>
    have e1 : max (k + 1) 1 = k + 1 := by omega
    have e2 : max (k + 1 + 1) 1 = k + 1 + 1 := by omega
    rw [e1] at h; rw [e2]; exact cenTo_yes h
theorem cenI_no {m k : Nat} {bs : List Br} (h : ¬ (far m bs k).2 < (cenI m bs k).2) : cenI m bs (k + 1) = cenI m bs k := by
  unfold cenI at *
  cases k with
  | zero => rfl
  | succ k =>
    have e1 : max (k + 1) 1 = k + 1 := by omega
    have e2 : max (k + 1 + 1) 1 = k + 1 + 1 := by omega
    rw [e1] at h; rw [e1, e2]; exact cenTo_no h
def cenV (n : Int) (bs : List Br) : Value := if oneB n bs then .tuple #[.int .i64 (cenTo n.toNat bs n.toNat).1, .int .i64 (cenTo n.toNat bs n.toNat).2, .bool true] else .tuple #[.int .i64 0, .int .i64 0, .bool false]
theorem cenV_no {n : Int} {bs : List Br} (h : oneB n bs = false) : cenV n bs = .tuple #[.int .i64 0, .int .i64 0, .bool false] := by simp [cenV, h]
theorem cenV_yes {m : Nat} {bs : List Br} (h : oneB m bs = true) : cenV m bs = .tuple #[.int .i64 (cenTo m bs m).1, .int .i64 (cenTo m bs m).2, .bool true] := by simp [cenV, h]
theorem cenV_form (n : Int) (bs : List Br) : ∃ x y z, cenV n bs = .tuple #[.int .i64 x, .int .i64 y, .bool z] := by
  unfold cenV; split <;> exact ⟨_, _, _, rfl⟩
set_option maxHeartbeats 2000000 in
theorem specCenter (n : Int) (v : Value) (bs : List Br) (w : World) (h : RdB w v bs) (hl : bs.length ≤ 1048576) :
    Calls Try.prog 25 #[.agg #[.int .i64 n, v]] w fun e w' => e = .returned (cenV n bs) ∧ Below w.heap.size w w' := by
  have H := Lib.hid h
  obtain ⟨a, l, c, rfl, tt⟩ := h
  clear tt
  cases hg : oneB n bs
  · rw [cenV_no hg]
    have G := Lib.hid hg
    clear hg
    go_enter Try.func25, Try.ntmps25
    go_wp2_with fail
    refine (isOne n _ bs _ (H.out.below (by (repeat (first | exact Below.refl _ _ | (refine Below.alloc ?_ (by first | omega | (simp; try omega)) _) | apply Below.drew | apply below_drewN)))) hl).mono ?_
    rw [G.out]
    rintro e w1 ⟨rfl, hb⟩
    have HB := Lib.hid (Below.trans (by (repeat (first | exact Below.refl _ _ | (refine Below.alloc ?_ (by first | omega | (simp; try omega)) _) | apply Below.drew | apply below_drewN))) (hb.mono (by simp; try omega)) : Below w.heap.size w w1)
    clear hb
    go_wp2
    go_ret3
    exact ⟨rfl, HB.out⟩
  · obtain ⟨m, rfl, hm1, hm7, hl14, hgd, hone⟩ := oneB_in hg
    rw [cenV_yes hg]
    have G := Lib.hid hg
    have HGd := Lib.hid hgd
    have X0 := Lib.hid (Blk.new w #[.int .i64 m, .slice a l c] 30)
    clear hg hgd hone
    go_enter Try.func25, Try.ntmps25
    go_wp2_with fail
    refine (isOne _ _ bs _ (H.out.below (by (repeat (first | exact Below.refl _ _ | (refine Below.alloc ?_ (by first | omega | (simp; try omega)) _) | apply Below.drew | apply below_drewN)))) hl).mono ?_
    rw [G.out]
    rintro e w1 ⟨rfl, hb⟩
    have HB := Lib.hid (Below.trans (by (repeat (first | exact Below.refl _ _ | (refine Below.alloc ?_ (by first | omega | (simp; try omega)) _) | apply Below.drew | apply below_drewN))) (hb.mono (by simp; try omega)) : Below w.heap.size w w1)
    have XB := Lib.hid (X0.out.below hb (by simp))
    have hlt1 : w.heap.size < w1.heap.size := XB.out.lt
    clear hb X0
    go_wp2
    go_loopw [5, 6, 7] (fun b f i wr => ∃ k : Nat, k ≤ m ∧ i = .int .i64 k ∧ b = .int .i64 (cenTo m bs k).1 ∧ f = .int .i64 (cenTo m bs k).2 ∧ Below w1.heap.size w1 wr) (fun _ _ i _ => m - (intOf i).toNat)
    case atStart => exact ⟨0, Nat.zero_le _, rfl, rfl, rfl, Below.refl _ _⟩
    case round =>
      obtain ⟨k, hk, rfl, rfl, rfl, hb⟩ := hrel
      obtain ⟨c0, c1, l0⟩ := (XB.out.below hb hlt1).two
      have hsz := hb.size
      have HBr := Lib.hid hb
      clear hb
      by_cases hlt : k < m
      · have hlt' : (k : Int) < m := by omega
        have hq := cenTo_in HGd.out k hk
        have hf := far_in HGd.out hlt
        have FY := Lib.hid (fun h => cenTo_yes (m := m) (bs := bs) (k := k) h)
        have FN := Lib.hid (fun h => cenTo_no (m := m) (bs := bs) (k := k) h)
        generalize hq0 : cenTo m bs k = q at *
        have HQ := Lib.hid hq0
        clear hq0
        obtain ⟨q1, q2⟩ := q
        unfold big at hq hf
        go_wp2_with fail
        refine (isFarthest m _ bs k _ (H.out.below (HB.out.trans (HBr.out.mono (by omega)))) HGd.out hm7 hl14 hlt).mono ?_
        rintro e w2 ⟨rfl, hb2⟩
        have HB2 := Lib.hid (HBr.out.trans (hb2.mono hsz))
        clear hb2 c0 c1 l0
        generalize far m bs k = g at *
        obtain ⟨g1, g2⟩ := g
        simp only at FY FN hq hf
        by_cases h1 : g2 < q2
        · have F := Lib.hid (FY.out h1)
          clear FY FN
          go_wp2
          go_roundw
          case rel => exact ⟨k + 1, by omega, by go_num, by rw [F.out], by rw [F.out], HB2.out⟩
          case measure => (simp [intOf]; try omega)
        · have F := Lib.hid (FN.out (by omega))
          clear FY FN
          go_wp2
          go_roundw
          case rel => exact ⟨k + 1, by omega, by go_num, by rw [F.out], by rw [F.out], HB2.out⟩
          case measure => (simp [intOf]; try omega)
      · obtain rfl : k = m := by omega
        go_wp2
        go_ret3
        exact ⟨rfl, HB.out.trans (HBr.out.mono (by omega))⟩
set_option maxHeartbeats 2000000 in
theorem implCenter (n : Int) (v : Value) (bs : List Br) (w : World) (h : RdB w v bs) (hl : bs.length ≤ 1048576) :
    Calls Try.prog 26 #[.agg #[.int .i64 n, v]] w fun e w' => e = .returned (cenV n bs) ∧ Below w.heap.size w w' := by
  have H := Lib.hid h
  obtain ⟨a, l, c, rfl, tt⟩ := h
  clear tt
  have E := Lib.hid (show oneB n bs = (areIs n bs && decide (groupsN n.toNat bs = 1)) from rfl)
  cases hg : areIs n bs
  · rw [cenV_no (E.out.trans (by rw [hg]; rfl))]
    have G := Lib.hid hg
    clear hg
    go_enter Try.func26, Try.ntmps26
    go_wp2_with fail
    refine (implAreIs n _ bs _ (H.out.below (by (repeat (first | exact Below.refl _ _ | (refine Below.alloc ?_ (by first | omega | (simp; try omega)) _) | apply Below.drew | apply below_drewN)))) hl).mono ?_
    rw [G.out]
    rintro e w1 ⟨rfl, hb⟩
    have HB := Lib.hid (Below.trans (by (repeat (first | exact Below.refl _ _ | (refine Below.alloc ?_ (by first | omega | (simp; try omega)) _) | apply Below.drew | apply below_drewN))) (hb.mono (by simp; try omega)) : Below w.heap.size w w1)
    clear hb
    go_wp2
    go_ret3
    exact ⟨rfl, HB.out⟩
  obtain ⟨m, rfl, hm1, hm7, hl14, hgd⟩ := areIs_in hg
  have G := Lib.hid hg
  have HGd := Lib.hid hgd
  have X0 := Lib.hid (Blk.new w #[.int .i64 m, .slice a l c] 30)
  have hg1 := groups_pos hgd hm1
  have hg7 := groups_le m bs
  clear hgd
  by_cases hone : groupsN m bs = 1
  · rw [cenV_yes (E.out.trans (by rw [hg]; simp [hone]))]
    have h1i : ¬ (1 : Int) < (groupsN m bs : Nat) := by omega
    have C0 := Lib.hid (cenI_0 HGd.out hm1 hm7)
    clear hg hone E
    go_enter Try.func26, Try.ntmps26
    go_wp2_with fail
    refine (implAreIs _ _ bs _ (H.out.below (by (repeat (first | exact Below.refl _ _ | (refine Below.alloc ?_ (by first | omega | (simp; try omega)) _) | apply Below.drew | apply below_drewN)))) hl).mono ?_
    rw [G.out]
    rintro e w1 ⟨rfl, hb⟩
    have HB := Lib.hid (Below.trans (by (repeat (first | exact Below.refl _ _ | (refine Below.alloc ?_ (by first | omega | (simp; try omega)) _) | apply Below.drew | apply below_drewN))) (hb.mono (by simp; try omega)) : Below w.heap.size w w1)
    have XB := Lib.hid (X0.out.below hb (by simp))
    obtain ⟨c0, c1, l0⟩ := XB.out.two
    clear hb X0
    go_wp2_with fail
    refine (countGroups m _ bs _ (H.out.below HB.out) HGd.out hm7 hl14).mono ?_
    rintro e w2 ⟨rfl, hb⟩
    have HB2 := Lib.hid (HB.out.trans (hb.mono HB.out.size))
    have XB2 := Lib.hid (XB.out.below hb XB.out.lt)
    generalize groupsN m bs = q at *
    clear hb c0 c1 l0 XB
    obtain ⟨c0, c1, l0⟩ := XB2.out.two
    go_wp2_with fail
    refine (farthestFrom m _ bs 0 _ (H.out.below HB2.out) HGd.out hm7 hl14 (by omega)).mono ?_
    rintro e w3 ⟨rfl, hb⟩
    have HB3 := Lib.hid (HB2.out.trans (hb.mono HB2.out.size))
    have XB3 := Lib.hid (XB2.out.below hb XB2.out.lt)
    have hlt1 : w.heap.size < w3.heap.size := XB3.out.lt
    clear hb c0 c1 l0 XB2
    obtain ⟨c0, c1, l0⟩ := XB3.out.two
    have hsf : (far m bs 0).2 = (cenI m bs 0).2 := by rw [C0.out]
    rw [hsf]
    have HZ := Lib.hid (show (0 : Int) = (cenI m bs 0).1 by rw [C0.out])
    clear hsf
    go_wp2
    clear c0 c1 l0
    go_loopw [5, 7, 27] (fun b f i wr => ∃ k : Nat, k ≤ m ∧ i = .int .i64 k ∧ b = .int .i64 (cenI m bs k).1 ∧ f = .int .i64 (cenI m bs k).2 ∧ Below w3.heap.size w3 wr) (fun _ _ i _ => m - (intOf i).toNat)
    case atStart => exact ⟨0, Nat.zero_le _, rfl, by rw [← HZ.out], rfl, Below.refl _ _⟩
    case round =>
      obtain ⟨k, hk, rfl, rfl, rfl, hb⟩ := hrel
      obtain ⟨c0, c1, l0⟩ := (XB3.out.below hb hlt1).two
      have hsz := hb.size
      have HBr := Lib.hid hb
      clear hb
      by_cases hlt : k < m
      · have hlt' : (k : Int) < m := by omega
        have hq : 0 ≤ (cenI m bs k).2 ∧ (cenI m bs k).2 ≤ big := cenTo_in HGd.out _ (by omega)
        have hf := far_in HGd.out hlt
        have FY := Lib.hid (fun h => cenI_yes (m := m) (bs := bs) (k := k) HGd.out hm1 hm7 h)
        have FN := Lib.hid (fun h => cenI_no (m := m) (bs := bs) (k := k) h)
        generalize hq0 : cenI m bs k = q at *
        have HQ := Lib.hid hq0
        clear hq0
        obtain ⟨q1, q2⟩ := q
        unfold big at hq hf
        go_wp2_with fail
        refine (farthestFrom m _ bs k _ (H.out.below (HB3.out.trans (HBr.out.mono (by omega)))) HGd.out hm7 hl14 hlt).mono ?_
        rintro e w4 ⟨rfl, hb2⟩
        have HB4 := Lib.hid (HBr.out.trans (hb2.mono hsz))
        clear hb2 c0 c1 l0
        generalize far m bs k = g at *
        obtain ⟨g1, g2⟩ := g
        simp only at FY FN hq hf
        by_cases h1 : g2 < q2
        · have F := Lib.hid (FY.out h1)
          clear FY FN
          go_wp2
          go_roundw
          case rel => exact ⟨k + 1, by omega, by go_num, by rw [F.out], by rw [F.out], HB4.out⟩
          case measure => (simp [intOf]; try omega)
        · have F := Lib.hid (FN.out (by omega))
          clear FY FN
          go_wp2
          go_roundw
          case rel => exact ⟨k + 1, by omega, by go_num, by rw [F.out], by rw [F.out], HB4.out⟩
          case measure => (simp [intOf]; try omega)
      · obtain rfl : k = m := by omega
        have HM := Lib.hid (show cenI k bs k = cenTo k bs k from by unfold cenI; rw [show max k 1 = k by omega])
        rw [HM.out]
        go_wp2
        go_ret3
        exact ⟨rfl, HB3.out.trans (HBr.out.mono (by omega))⟩
  · rw [cenV_no (E.out.trans (by rw [hg]; simp [hone]))]
    have h1i : (1 : Int) < (groupsN m bs : Nat) := by omega
    clear hg hone E
    go_enter Try.func26, Try.ntmps26
    go_wp2_with fail
    refine (implAreIs _ _ bs _ (H.out.below (by (repeat (first | exact Below.refl _ _ | (refine Below.alloc ?_ (by first | omega | (simp; try omega)) _) | apply Below.drew | apply below_drewN)))) hl).mono ?_
    rw [G.out]
    rintro e w1 ⟨rfl, hb⟩
    have HB := Lib.hid (Below.trans (by (repeat (first | exact Below.refl _ _ | (refine Below.alloc ?_ (by first | omega | (simp; try omega)) _) | apply Below.drew | apply below_drewN))) (hb.mono (by simp; try omega)) : Below w.heap.size w w1)
    obtain ⟨c0, c1, l0⟩ := (X0.out.below hb (by simp)).two
    clear hb X0
    go_wp2_with fail
    refine (countGroups m _ bs _ (H.out.below HB.out) HGd.out hm7 hl14).mono ?_
    rintro e w2 ⟨rfl, hb⟩
    have HB2 := Lib.hid (HB.out.trans (hb.mono HB.out.size))
    generalize groupsN m bs = q at *
    clear hb c0 c1 l0
    go_wp2
    go_ret3
    exact ⟨rfl, HB2.out⟩
end Go.Proofs.Ytihdajiikonijab
