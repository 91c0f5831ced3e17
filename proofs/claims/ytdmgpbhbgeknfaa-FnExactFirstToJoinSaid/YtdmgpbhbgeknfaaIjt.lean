/- LeastToJoin, FirstToJoin, CountToJoin: spec. -/
import Derived.Test.YtdmgpbhbgeknfaaIjs
import Derived.Test.YtdmgpbhbgeknfaaIc
namespace Go.Proofs.Ytdmgpbhbgeknfaa
set_option linter.unusedVariables false
open Go.RowKit

theorem comps_nil (n r a : Nat) : comps n [] r a = ext n r a := by simp [comps]
theorem joins (m : Nat) (v : Value) (bs : List Br) (hg : Good m bs) (hm1 : 1 ≤ m) (hm : m ≤ 7) (hl : bs.length ≤ 14) (r : Nat) :
    ∀ (begin : List Nat) (a : Nat) (vb : Value) (w : World), RdB w v bs → begin.length + r = m - 1 → (∀ x ∈ begin, x < bs.length) → a ≤ bs.length → ((begin = [] ∧ a = 0) ∨ ∃ x, begin.getLast? = some x ∧ a = x + 1) → Rd w vb (idx begin) → (∀ c, vb = .slice none 0 c → c = 0) →
      Calls Try.prog 42 #[.agg #[.int .i64 m, v], vb] w (JoinS (bestJ m bs (comps bs.length begin r a)) w) := by
  induction r with
  | zero =>
    intro begin a vb w h hb hlt ha hla hI hnil
    exact joinsStep m v bs hg hm1 hm hl begin 0 a vb w h hb hlt ha hla hI hnil (fun r' hr => by omega)
  | succ r ih =>
    intro begin a vb w h hb hlt ha hla hI hnil
    refine joinsStep m v bs hg hm1 hm hl begin (r + 1) a vb w h hb hlt ha hla hI hnil (fun r' hr k hk1 hk2 u w1 hB hI1 hn1 => ?_)
    obtain rfl : r = r' := by omega
    refine ih (begin ++ [k]) (k + 1) u w1 (h.below hB) (by simp; omega) (fun x hx => ?_) (by omega) (.inr ⟨k, by simp, rfl⟩) hI1 hn1
    rcases List.mem_append.1 hx with hx | hx
    · exact hlt x hx
    · simp at hx; omega
/-- all are one group -/
def joinOK (n : Int) (bs : List Br) : Bool := areIs n bs && decide (groupsN n.toNat bs ≤ 1)
theorem joinOK_in {n : Int} {bs : List Br} (h : joinOK n bs = true) : ∃ m : Nat, n = m ∧ 1 ≤ m ∧ m ≤ 7 ∧ bs.length ≤ 14 ∧ Good m bs ∧ groupsN m bs = 1 ∧ areIs n bs = true := by
  unfold joinOK at h
  rw [Bool.and_eq_true] at h
  obtain ⟨m, rfl, h1, h7, h14, hg⟩ := areIs_in h.1
  have h2 : groupsN m bs ≤ 1 := by simpa using h.2
  have h3 := groups_pos hg h1
  exact ⟨m, rfl, h1, h7, h14, hg, by omega, h.1⟩
theorem joinOK_no {n : Int} {bs : List Br} (h : areIs n bs = false) : joinOK n bs = false := by simp [joinOK, h]
theorem joinOK_of {m : Nat} {bs : List Br} (h : areIs m bs = true) : joinOK m bs = decide (groupsN m bs ≤ 1) := by simp [joinOK, h]
def jst (m : Nat) (bs : List Br) : Int × List (List Nat) := bestJ m bs (ext bs.length (m - 1) 0)
theorem jst_in {m : Nat} {bs : List Br} (hg : Good m bs) (hm1 : 1 ≤ m) (hm : m ≤ 7) (hl : bs.length ≤ 14) (h1 : groupsN m bs = 1) : (0 ≤ (jst m bs).1 ∧ (jst m bs).1 ≤ 6000) ∧ (∃ l r, (jst m bs).2 = l :: r ∧ l.length ≤ 6) ∧ (jst m bs).2.length ≤ 10000000 := by
  have hin : ∀ z ∈ ext bs.length (m - 1) 0, z.length ≤ 6 ∧ ∀ x ∈ z, x < bs.length := fun z hz => by
    have := ext_len hz
    exact ⟨by omega, fun x hx => (this.2 x hx).2⟩
  have hA := best_low hg (q := 6) (Ls := ext bs.length (m - 1) 0) hin (0, []) (by simp)
  have hC := best_cnt (m := m) (bs := bs) (Ls := ext bs.length (m - 1) 0) (0, [])
  have hC2 := ext_cnt bs.length (m - 1) 0
  have hS := best_some (m := m) (bs := bs) (Ls := ext bs.length (m - 1) 0) (0, []) (.inr (join_some hg hm1 (by omega)))
  have hP := best_in (m := m) (bs := bs) (P := fun z => z.length ≤ 6) (Ls := ext bs.length (m - 1) 0) (fun z hz => (hin z hz).1) (0, []) (by simp)
  have h1 : bs.length ^ (m - 1) ≤ 14 ^ (m - 1) := Nat.pow_le_pow_left hl _
  have h2 : (14 : Nat) ^ (m - 1) ≤ 14 ^ 6 := Nat.pow_le_pow_right (by omega) (by omega)
  have h3 : (14 : Nat) ^ 6 = 7529536 := by decide
  refine ⟨⟨hA.1, by have := hA.2; unfold jst bestJ; simpa using this⟩, ?_, by unfold jst bestJ; simp at hC; omega⟩
  unfold jst bestJ
  cases hl2 : (List.foldl (stepJ m bs) (0, []) (ext bs.length (m - 1) 0)).2 with
  | nil => exact absurd hl2 hS
  | cons l r => exact ⟨l, r, rfl, hP l (by rw [hl2]; exact List.mem_cons_self ..)⟩
def jlV (n : Int) (bs : List Br) : Value := if joinOK n bs then .tuple #[.int .i64 (jst n.toNat bs).1, .bool true] else .tuple #[.int .i64 0, .bool false]
def jcV (n : Int) (bs : List Br) : Value := if joinOK n bs then .tuple #[.int .i64 (jst n.toNat bs).2.length, .bool true] else .tuple #[.int .i64 0, .bool false]
def jfZ (n : Int) (bs : List Br) : List Nat := if joinOK n bs then (jst n.toNat bs).2.headD [] else []
theorem jlV_no {n : Int} {bs : List Br} (h : joinOK n bs = false) : jlV n bs = .tuple #[.int .i64 0, .bool false] := by simp [jlV, h]
theorem jlV_yes {m : Nat} {bs : List Br} (h : joinOK m bs = true) : jlV m bs = .tuple #[.int .i64 (jst m bs).1, .bool true] := by simp [jlV, h]
theorem jcV_no {n : Int} {bs : List Br} (h : joinOK n bs = false) : jcV n bs = .tuple #[.int .i64 0, .bool false] := by simp [jcV, h]
theorem jcV_yes {m : Nat} {bs : List Br} (h : joinOK m bs = true) : jcV m bs = .tuple #[.int .i64 (jst m bs).2.length, .bool true] := by simp [jcV, h]
theorem jfZ_no {n : Int} {bs : List Br} (h : joinOK n bs = false) : jfZ n bs = [] := by simp [jfZ, h]
theorem jfZ_yes {m : Nat} {bs : List Br} (h : joinOK m bs = true) : jfZ m bs = (jst m bs).2.headD [] := by simp [jfZ, h]
theorem jlV_form (n : Int) (bs : List Br) : ∃ x y, jlV n bs = .tuple #[.int .i64 x, .bool y] := by
  unfold jlV; split <;> exact ⟨_, _, rfl⟩
theorem jcV_form (n : Int) (bs : List Br) : ∃ x y, jcV n bs = .tuple #[.int .i64 x, .bool y] := by
  unfold jcV; split <;> exact ⟨_, _, rfl⟩
theorem jfZ_len (n : Int) (bs : List Br) : (jfZ n bs).length ≤ 6 := by
  cases h : joinOK n bs
  · rw [jfZ_no h]; simp
  · obtain ⟨m, rfl, h1, h7, h14, hg, hgr, _⟩ := joinOK_in h
    rw [jfZ_yes h]
    obtain ⟨_, ⟨l, r, e, hl⟩, _⟩ := jst_in hg h1 h7 h14 hgr
    rw [e]; exact hl
set_option maxHeartbeats 1000000 in
theorem isOne (n : Int) (v : Value) (bs : List Br) (w : World) (h : RdB w v bs) (hl : bs.length ≤ 1048576) :
    Calls Try.prog 41 #[.agg #[.int .i64 n, v]] w fun e w' => e = .returned (.bool (joinOK n bs)) ∧ Below w.heap.size w w' := by
  have H := Lib.hid h
  obtain ⟨a, l, c, rfl, hnz, t⟩ := h
  clear t
  cases hg : areIs n bs
  · have J := Lib.hid (joinOK_no hg)
    have G := Lib.hid hg
    clear hg hnz
    go_enter Try.func41, Try.ntmps41
    go_wp2_with fail
    refine (isGood n _ bs _ (H.out.below (by (repeat (first | exact Below.refl _ _ | (refine Below.alloc ?_ (by first | omega | (simp; try omega)) _) | apply Below.drew | apply below_drewN)))) hl).mono ?_
    rw [G.out]
    rintro e w1 ⟨rfl, hb⟩
    have HB := Lib.hid (Below.trans (by (repeat (first | exact Below.refl _ _ | (refine Below.alloc ?_ (by first | omega | (simp; try omega)) _) | apply Below.drew | apply below_drewN))) (hb.mono (by simp; try omega)) : Below w.heap.size w w1)
    clear hb
    go_wp2
    go_ret
    exact ⟨ret_bool J.out.symm, HB.out⟩
  · obtain ⟨m, rfl, hm1, hm7, hl14, hgd⟩ := areIs_in hg
    have J := Lib.hid (joinOK_of hg)
    have G := Lib.hid hg
    have HGd := Lib.hid hgd
    have hp := groups_pos hgd hm1
    clear hg hgd hnz
    go_enter Try.func41, Try.ntmps41
    go_wp2_with fail
    refine (isGood _ _ bs _ (H.out.below (by (repeat (first | exact Below.refl _ _ | (refine Below.alloc ?_ (by first | omega | (simp; try omega)) _) | apply Below.drew | apply below_drewN)))) hl).mono ?_
    rw [G.out]
    rintro e w1 ⟨rfl, hb⟩
    have HB := Lib.hid (Below.trans (by (repeat (first | exact Below.refl _ _ | (refine Below.alloc ?_ (by first | omega | (simp; try omega)) _) | apply Below.drew | apply below_drewN))) (hb.mono (by simp; try omega)) : Below w.heap.size w w1)
    have XB := Lib.hid ((Blk.new w #[.int .i64 m, .slice a l c] 30).below hb (by simp))
    obtain ⟨c0, c1, l0⟩ := XB.out.two
    clear hb
    go_wp2_with fail
    refine (isGroups m _ bs (-1) _ (H.out.below HB.out) HGd.out hm1 hm7 hl14).mono ?_
    rw [offB_none HGd.out]
    rintro e w2 ⟨u, rfl, hI, hb⟩
    have HB2 := Lib.hid (HB.out.trans (hb.mono HB.out.size))
    have HI := Lib.hid hI.rd
    clear hb hI c0 c1 l0
    go_wp2_with fail
    refine (isCount _ (lab m bs) (-1) _ HI.out (by rw [lab_len]; omega)).mono ?_
    rw [lab_len, cntW_none]
    rintro e w' ⟨rfl, rfl⟩
    obtain ⟨q, hq⟩ : ∃ q, groupsN m bs = q := ⟨_, rfl⟩
    rw [hq] at hp J ⊢
    clear hq
    by_cases h1 : q = 1
    · subst h1
      go_wp2
      go_ret
      exact ⟨ret_bool (by rw [J.out]; rfl), HB2.out⟩
    · have h2 : ((q : Int) == 1) = false := by simp; omega
      have h3 : ¬ (q : Int) = 1 := by omega
      go_wp2
      go_ret
      refine ⟨ret_bool (by rw [J.out]; simp; omega), HB2.out⟩
set_option maxRecDepth 100000 in
set_option maxHeartbeats 1000000 in
theorem specJl (n : Int) (v : Value) (bs : List Br) (w : World) (h : RdB w v bs) (hl : bs.length ≤ 1048576) :
    Calls Try.prog 21 #[.agg #[.int .i64 n, v]] w fun e w' => e = .returned (jlV n bs) ∧ Below w.heap.size w w' := by
  have H := Lib.hid h
  obtain ⟨a, l, c, rfl, hnz, t⟩ := h
  clear t hnz
  cases hg : joinOK n bs
  · rw [jlV_no hg]
    have G := Lib.hid hg
    clear hg
    go_enter Try.func21, Try.ntmps21
    go_wp2_with fail
    refine (isOne n _ bs _ (H.out.below (by (repeat (first | exact Below.refl _ _ | (refine Below.alloc ?_ (by first | omega | (simp; try omega)) _) | apply Below.drew | apply below_drewN)))) hl).mono ?_
    rw [G.out]
    rintro e w1 ⟨rfl, hb⟩
    have HB := Lib.hid (Below.trans (by (repeat (first | exact Below.refl _ _ | (refine Below.alloc ?_ (by first | omega | (simp; try omega)) _) | apply Below.drew | apply below_drewN))) (hb.mono (by simp; try omega)) : Below w.heap.size w w1)
    clear hb
    go_wp2
    go_ret2
    exact ⟨rfl, HB.out⟩
  · obtain ⟨m, rfl, hm1, hm7, hl14, hgd, hgr, _⟩ := joinOK_in hg
    rw [jlV_yes hg]
    have G := Lib.hid hg
    have HGd := Lib.hid hgd
    obtain ⟨hx, ⟨l1, r1, hl1, _⟩, hc⟩ := jst_in hgd hm1 hm7 hl14 hgr
    clear hg hgd hgr
    go_enter Try.func21, Try.ntmps21
    go_wp2_with fail
    refine (isOne _ _ bs _ (H.out.below (by (repeat (first | exact Below.refl _ _ | (refine Below.alloc ?_ (by first | omega | (simp; try omega)) _) | apply Below.drew | apply below_drewN)))) hl).mono ?_
    rw [G.out]
    rintro e w1 ⟨rfl, hb⟩
    have HB := Lib.hid (Below.trans (by (repeat (first | exact Below.refl _ _ | (refine Below.alloc ?_ (by first | omega | (simp; try omega)) _) | apply Below.drew | apply below_drewN))) (hb.mono (by simp; try omega)) : Below w.heap.size w w1)
    have XB := Lib.hid ((Blk.new w #[.int .i64 m, .slice a l c] 30).below hb (by simp))
    obtain ⟨c0, c1, l0⟩ := XB.out.two
    clear hb
    go_wp2_with fail
    refine (joins m _ bs HGd.out hm1 hm7 hl14 (m - 1) [] 0 (.slice none 0 0) _ (H.out.below HB.out) (by simp) (by simp) (Nat.zero_le _) (.inl ⟨rfl, rfl⟩) (.inl ⟨⟨_, _, rfl⟩, rfl⟩) (by intro c e; injection e with _ _ e; exact e.symm)).mono ?_
    rw [comps_nil, show bestJ m bs (ext bs.length (m - 1) 0) = jst m bs from rfl]
    rintro e w2 ⟨u, rfl, hI, hb⟩
    have HB2 := Lib.hid (HB.out.trans (hb.mono HB.out.size))
    have I1 := Lib.hid (ints_mono' (hI l1 r1 hl1) HB.out.size)
    have LJ := Lib.hid (show leastJ (jst m bs) = (jst m bs).1 by unfold leastJ; rw [hl1]; simp)
    rw [LJ.out]
    have HL1 := Lib.hid hl1
    clear hb hI c0 c1 l0 hl1
    go_wp2
    go_ret2
    exact ⟨rfl, HB2.out⟩
set_option maxRecDepth 100000 in
set_option maxHeartbeats 1000000 in
theorem specJc (n : Int) (v : Value) (bs : List Br) (w : World) (h : RdB w v bs) (hl : bs.length ≤ 1048576) :
    Calls Try.prog 25 #[.agg #[.int .i64 n, v]] w fun e w' => e = .returned (jcV n bs) ∧ Below w.heap.size w w' := by
  have H := Lib.hid h
  obtain ⟨a, l, c, rfl, hnz, t⟩ := h
  clear t hnz
  cases hg : joinOK n bs
  · rw [jcV_no hg]
    have G := Lib.hid hg
    clear hg
    go_enter Try.func25, Try.ntmps25
    go_wp2_with fail
    refine (isOne n _ bs _ (H.out.below (by (repeat (first | exact Below.refl _ _ | (refine Below.alloc ?_ (by first | omega | (simp; try omega)) _) | apply Below.drew | apply below_drewN)))) hl).mono ?_
    rw [G.out]
    rintro e w1 ⟨rfl, hb⟩
    have HB := Lib.hid (Below.trans (by (repeat (first | exact Below.refl _ _ | (refine Below.alloc ?_ (by first | omega | (simp; try omega)) _) | apply Below.drew | apply below_drewN))) (hb.mono (by simp; try omega)) : Below w.heap.size w w1)
    clear hb
    go_wp2
    go_ret2
    exact ⟨rfl, HB.out⟩
  · obtain ⟨m, rfl, hm1, hm7, hl14, hgd, hgr, _⟩ := joinOK_in hg
    rw [jcV_yes hg]
    have G := Lib.hid hg
    have HGd := Lib.hid hgd
    obtain ⟨hx, ⟨l1, r1, hl1, _⟩, hc⟩ := jst_in hgd hm1 hm7 hl14 hgr
    clear hg hgd hgr
    go_enter Try.func25, Try.ntmps25
    go_wp2_with fail
    refine (isOne _ _ bs _ (H.out.below (by (repeat (first | exact Below.refl _ _ | (refine Below.alloc ?_ (by first | omega | (simp; try omega)) _) | apply Below.drew | apply below_drewN)))) hl).mono ?_
    rw [G.out]
    rintro e w1 ⟨rfl, hb⟩
    have HB := Lib.hid (Below.trans (by (repeat (first | exact Below.refl _ _ | (refine Below.alloc ?_ (by first | omega | (simp; try omega)) _) | apply Below.drew | apply below_drewN))) (hb.mono (by simp; try omega)) : Below w.heap.size w w1)
    have XB := Lib.hid ((Blk.new w #[.int .i64 m, .slice a l c] 30).below hb (by simp))
    obtain ⟨c0, c1, l0⟩ := XB.out.two
    clear hb
    go_wp2_with fail
    refine (joins m _ bs HGd.out hm1 hm7 hl14 (m - 1) [] 0 (.slice none 0 0) _ (H.out.below HB.out) (by simp) (by simp) (Nat.zero_le _) (.inl ⟨rfl, rfl⟩) (.inl ⟨⟨_, _, rfl⟩, rfl⟩) (by intro c e; injection e with _ _ e; exact e.symm)).mono ?_
    rw [comps_nil, show bestJ m bs (ext bs.length (m - 1) 0) = jst m bs from rfl]
    rintro e w2 ⟨u, rfl, hI, hb⟩
    have HB2 := Lib.hid (HB.out.trans (hb.mono HB.out.size))
    have I1 := Lib.hid (ints_mono' (hI l1 r1 hl1) HB.out.size)
    have LJ := Lib.hid (show leastJ (jst m bs) = (jst m bs).1 by unfold leastJ; rw [hl1]; simp)
    rw [LJ.out]
    have HL1 := Lib.hid hl1
    clear hb hI c0 c1 l0 hl1
    go_wp2
    go_ret2
    exact ⟨rfl, HB2.out⟩
set_option maxRecDepth 100000 in
set_option maxHeartbeats 1000000 in
theorem specJf (n : Int) (v : Value) (bs : List Br) (w : World) (h : RdB w v bs) (hl : bs.length ≤ 1048576) :
    Calls Try.prog 23 #[.agg #[.int .i64 n, v]] w fun e w' => ∃ u, e = .returned (.tuple #[u, .bool (joinOK n bs)]) ∧ Ints w' w.heap.size u (idx (jfZ n bs)) ∧ Below w.heap.size w w' := by
  have H := Lib.hid h
  obtain ⟨a, l, c, rfl, hnz, t⟩ := h
  clear t hnz
  cases hg : joinOK n bs
  · have Z := Lib.hid (jfZ_no hg)
    have G := Lib.hid hg
    clear hg
    go_enter Try.func23, Try.ntmps23
    go_wp2_with fail
    refine (isOne n _ bs _ (H.out.below (by (repeat (first | exact Below.refl _ _ | (refine Below.alloc ?_ (by first | omega | (simp; try omega)) _) | apply Below.drew | apply below_drewN)))) hl).mono ?_
    rw [G.out]
    rintro e w1 ⟨rfl, hb⟩
    have HB := Lib.hid (Below.trans (by (repeat (first | exact Below.refl _ _ | (refine Below.alloc ?_ (by first | omega | (simp; try omega)) _) | apply Below.drew | apply below_drewN))) (hb.mono (by simp; try omega)) : Below w.heap.size w w1)
    clear hb
    go_wp2
    go_ret2
    exact ⟨_, rfl, by rw [Z.out]; exact World.ownsRow_nil _ _ _ _, HB.out⟩
  · obtain ⟨m, rfl, hm1, hm7, hl14, hgd, hgr, _⟩ := joinOK_in hg
    have Z := Lib.hid (jfZ_yes hg)
    have G := Lib.hid hg
    have HGd := Lib.hid hgd
    obtain ⟨hx, ⟨l1, r1, hl1, _⟩, hc⟩ := jst_in hgd hm1 hm7 hl14 hgr
    clear hg hgd hgr
    go_enter Try.func23, Try.ntmps23
    go_wp2_with fail
    refine (isOne _ _ bs _ (H.out.below (by (repeat (first | exact Below.refl _ _ | (refine Below.alloc ?_ (by first | omega | (simp; try omega)) _) | apply Below.drew | apply below_drewN)))) hl).mono ?_
    rw [G.out]
    rintro e w1 ⟨rfl, hb⟩
    have HB := Lib.hid (Below.trans (by (repeat (first | exact Below.refl _ _ | (refine Below.alloc ?_ (by first | omega | (simp; try omega)) _) | apply Below.drew | apply below_drewN))) (hb.mono (by simp; try omega)) : Below w.heap.size w w1)
    have XB := Lib.hid ((Blk.new w #[.int .i64 m, .slice a l c] 30).below hb (by simp))
    obtain ⟨c0, c1, l0⟩ := XB.out.two
    clear hb
    go_wp2_with fail
    refine (joins m _ bs HGd.out hm1 hm7 hl14 (m - 1) [] 0 (.slice none 0 0) _ (H.out.below HB.out) (by simp) (by simp) (Nat.zero_le _) (.inl ⟨rfl, rfl⟩) (.inl ⟨⟨_, _, rfl⟩, rfl⟩) (by intro c e; injection e with _ _ e; exact e.symm)).mono ?_
    rw [comps_nil, show bestJ m bs (ext bs.length (m - 1) 0) = jst m bs from rfl]
    rintro e w2 ⟨u, rfl, hI, hb⟩
    have HB2 := Lib.hid (HB.out.trans (hb.mono HB.out.size))
    have I1 := Lib.hid (ints_mono' (hI l1 r1 hl1) HB.out.size)
    have LJ := Lib.hid (show leastJ (jst m bs) = (jst m bs).1 by unfold leastJ; rw [hl1]; simp)
    rw [LJ.out]
    have HL1 := Lib.hid hl1
    clear hb hI c0 c1 l0 hl1
    go_wp2
    go_ret2
    exact ⟨_, rfl, by rw [Z.out, HL1.out]; exact I1.out, HB2.out⟩
end Go.Proofs.Ytdmgpbhbgeknfaa
