/- CutBridges: spec. -/
import Derived.Test.YtihdajiikonijaaIcb
import Derived.Test.YtihdajiikonijaaIh
namespace Go.Proofs.Ytihdajiikonijaa
set_option linter.unusedVariables false
open Go.RowKit

theorem rd_all {w : World} {b off l c : Nat} {bs : List Br} (h : RdB w (.slice (some ⟨b, off, none⟩) l c) bs) (hl : 0 < l) : b < w.heap.size ∧ ∀ j u, (bcs bs)[j]? = some u → w.cell? ⟨b, off + j, none⟩ = some u := by
  obtain ⟨a', n, c', e, hn, _, _, hcell⟩ := h
  injection e with e1 e2 e3
  subst e1 e2 e3
  have h0 := hcell 0 hl
  obtain ⟨b0, o0, e0, hb0, _⟩ := h0
  injection e0 with e0
  injection e0 with e0 e00
  subst e0 e00
  refine ⟨hb0, fun j u hj => ?_⟩
  have hjl : j < bs.length * 3 := by have := (List.getElem?_eq_some_iff.1 hj).1; rwa [bcs_len] at this
  have hd : j / 3 < l := by omega
  obtain ⟨b1, o1, e1, _, hA⟩ := hcell (j / 3) hd
  injection e1 with e1
  injection e1 with e1 e11
  subst e1 e11
  have hb := bcs_at bs (j / 3) (by omega)
  have h3 : j % 3 = 0 ∨ j % 3 = 1 ∨ j % 3 = 2 := by omega
  rcases h3 with h3 | h3 | h3
  · have ej : j = j / 3 * 3 := by omega
    have A := hA.1
    rw [← ej] at A
    have Bt := hb.1
    rw [← ej, hj] at Bt
    injection Bt with Bt
    rw [A, Bt]
  · have ej : j = j / 3 * 3 + 1 := by omega
    have A := hA.2.1
    have Bt := hb.2.1
    rw [Nat.add_assoc] at A
    rw [← ej] at A Bt
    rw [hj] at Bt
    injection Bt with Bt
    rw [A, Bt]
  · have ej : j = j / 3 * 3 + 2 := by omega
    have A := hA.2.2
    have Bt := hb.2.2
    rw [Nat.add_assoc] at A
    rw [← ej] at A Bt
    rw [hj] at Bt
    injection Bt with Bt
    rw [A, Bt]
theorem bcs_one {bs : List Br} : ∀ u ∈ bcs bs, u.oneCell' = true := by
  intro u hu
  simp only [bcs, List.mem_flatMap] at hu
  obtain ⟨y, _, hy⟩ := hu
  simp at hy
  rcases hy with rfl | rfl | rfl <;> rfl
/-- append of bridges at a row of the call's own, none or some, as a step of a region that draws -/
theorem step_appB {ops : Array Oper} {o : Oper} {a : Act} {w : World} {K : Act → World → Prop} {Q : Exit → Act → World → Prop} {E : Prop} (hgd : o.guard = none) (s x : Operand)
    (ho : o.op = .call { callee := .builtin .append, args := #[s, x], argTypes := #[27, 27] })
    (B g0 n cap : Nat) (xs : List Value) (hs : a.eval s = .slice (some ⟨g0, 0, none⟩) n cap) (hown : w.ownsRow B 47 3 (.slice (some ⟨g0, 0, none⟩) n cap) n xs)
    (ad : Addr) (m c : Nat) (news : List Value) (hx : a.eval x = .slice (some ad) m c) (hl : news.length = m * 3) (hnews : ∀ j u, news[j]? = some u → w.cell? (ad.add j) = some u) (h1 : ∀ u ∈ news, u.oneCell' = true)
    (h63 : n + m ≤ 1000) (hbase : B ≤ w.heap.size)
    (h : ∀ g cap' w', w'.ownsRow B 47 3 (.slice (some ⟨g, 0, none⟩) (n + m) cap') (n + m) (xs ++ news) → w.grownBy w' (some g0) → K (a.put o.dst (.slice (some ⟨g, 0, none⟩) (n + m) cap')) w') :
    if Region.wanted o (yielded ops a.tmps) = true then Oper.wp Try.prog o a w K Q else E := by
  obtain ⟨i0, hi, hz0, hz1, hz2⟩ := info_parts Try.infoBr
  rcases Nat.eq_zero_or_pos m with rfl | hm
  · obtain rfl : news = [] := List.length_eq_zero_iff.1 (by omega)
    have hroom : n + 0 ≤ cap := by
      rcases hown.2 with ⟨e1, _⟩ | ⟨g', cap', cur, e1, _, _, hnc, _⟩
      · cases e1
      · injection e1 with _ _ e2; subst e2; omega
    refine step_append_room hgd s x 27 ho 47 i0 3 Try.underlying27 hi hz1 g0 0 n cap hs ad 0 c [] hx rfl (by simp) (by simp) hroom (by simp) ?_
    exact h g0 cap w (by simpa using hown) (World.grownBy.refl _ _)
  · refine step_append_lies _ hgd s x 27 ho B 47 i0 (.agg #[.int .i64 0, .int .i64 0, .int .i64 0]) 3 24 Try.underlying27 hi hz0 hz1 hz2 rfl (by decide) _ n xs hs hown ad m c news hx hl hnews h1 hm (by unfold maxLen; omega) (by omega) hbase _ rfl ?_
    intro g cap' w' h2 h3 _ _
    exact h g cap' w' h2 h3
set_option maxRecDepth 100000 in
set_option maxHeartbeats 4000000 in
theorem isWithout (v : Value) (bs : List Br) (k : Nat) (w : World) (h : RdB w v bs) (hk : k < bs.length) (hl : bs.length ≤ 14) :
    Calls Try.prog 54 #[v, .int .i64 k] w fun e w' => ∃ u, e = .returned u ∧ Brs w' w.heap.size u (bs.eraseIdx k) ∧ Below w.heap.size w w' := by
  obtain ⟨i0, hi, hz0, hz1, hz2⟩ := info_parts Try.infoBr
  obtain ⟨a, l, c, rfl, hnz, ⟨hlc, _⟩, hcm, hcell⟩ := id h
  rw [← hnz] at hk hl
  obtain ⟨b, off, rfl, hbw, _⟩ := hcell 0 (by omega)
  clear hcell
  have hall := (rd_all h (by omega)).2
  clear h
  unfold maxLen at hcm
  obtain ⟨n1, hn1⟩ : ∃ n1, n1 = bcs (bs.take k) := ⟨_, rfl⟩
  obtain ⟨n2, hn2⟩ : ∃ n2, n2 = bcs (bs.drop (k + 1)) := ⟨_, rfl⟩
  have l1 : n1.length = k * 3 := by rw [hn1, bcs_len, List.length_take]; congr 1; omega
  have l2 : n2.length = (l - (k + 1)) * 3 := by rw [hn2, bcs_len, List.length_drop, ← hnz]
  have hb1 : ∀ j u, n1[j]? = some u → w.cell? ⟨b, off + j, none⟩ = some u := fun j u hu => by
    refine hall j u ?_
    have hj := (List.getElem?_eq_some_iff.1 hu).1
    have e := bcs_app (bs.take k) (bs.drop k)
    rw [List.take_append_drop] at e
    rw [e, List.getElem?_append_left (by rw [← hn1]; exact hj), ← hn1]; exact hu
  have hb2 : ∀ j u, n2[j]? = some u → w.cell? ⟨b, off + ((k + 1) * 3 + j), none⟩ = some u := fun j u hu => by
    refine hall _ u ?_
    have e := bcs_app (bs.take (k + 1)) (bs.drop (k + 1))
    rw [List.take_append_drop] at e
    have hlk : (bcs (bs.take (k + 1))).length = (k + 1) * 3 := by rw [bcs_len, List.length_take]; congr 1; omega
    rw [e, List.getElem?_append_right (by omega), hlk, Nat.add_sub_cancel_left, ← hn2]; exact hu
  obtain ⟨A, hA, hsrc⟩ : ∃ A : Addr, (if c = k + 1 then some (⟨b, off, none⟩ : Addr) else some ⟨b, off + (k + 1) * 3, none⟩) = some A ∧ Hid (∀ W, Below w.heap.size w W → ∀ t u, n2[t]? = some u → W.cell? (A.add t) = some u) := by
    by_cases h : c = k + 1
    · refine ⟨⟨b, off, none⟩, by simp [h], Lib.hid fun W hW t u hu => ?_⟩
      have h0 : n2.length = 0 := by rw [l2]; omega
      rw [List.length_eq_zero_iff.1 h0] at hu
      simp at hu
    · refine ⟨⟨b, off + (k + 1) * 3, none⟩, by simp [h], Lib.hid fun W hW t u hu => ?_⟩
      rw [Addr.add_lit, Nat.add_assoc]
      exact (hW.cell (p := ⟨b, off + ((k + 1) * 3 + t), none⟩) hbw).trans (hb2 t u hu)
  have E : Hid (n1 ++ n2 = bcs (bs.eraseIdx k) ∧ (bs.eraseIdx k).length = k + (l - (k + 1))) := Lib.hid ⟨by rw [hn1, hn2, ← bcs_app, List.eraseIdx_eq_take_drop_succ], by rw [List.length_eraseIdx]; simp [← hnz, hk]; omega⟩
  have o1 : Hid (∀ u ∈ n1, u.oneCell' = true) := Lib.hid (by rw [hn1]; exact bcs_one)
  have o2 : Hid (∀ u ∈ n2, u.oneCell' = true) := Lib.hid (by rw [hn2]; exact bcs_one)
  have L1 := Lib.hid l1
  have L2 := Lib.hid l2
  have HB1 := Lib.hid hb1
  have B1 := Lib.hid (show Below w.heap.size w (w.alloc (.cells #[] 47)).drew by (repeat (first | exact Below.refl _ _ | (refine Below.alloc ?_ (by first | omega | (simp; try omega)) _) | apply Below.drew | apply below_drewN)))
  have R1 := Lib.hid (show Brs (w.alloc (.cells #[] 47)).drew w.heap.size (.slice (some ⟨w.heap.size, 0, none⟩) 0 0) [] from (Brs.empty w _ (Nat.le_refl _)).below (by apply Below.drew; exact Below.refl _ _))
  have hwr : IntKind.i64.wrap ((k : Int) + 1) = (k : Int) + 1 := by rw [IntKind.wrap_i64]; omega
  have hk2 : (k : Int) + 1 ≤ (l : Int) := by omega
  have hk3 : ((k : Int) + 1).toNat = k + 1 := by omega
  have hk4 : (0 : Int) ≤ (k : Int) + 1 := by omega
  have hkc : k ≤ c := by omega
  have hkc1 : k + 1 ≤ c := by omega
  clear hnz hall hn1 hn2 l1 l2 hb1 hb2
  go_enter Try.func54, Try.ntmps54
  go_wp2_with fail
  go_region_law (first
    | (refine step_appB rfl (.tmp 5) (.tmp 8) rfl w.heap.size w.heap.size 0 0 (bcs []) (by simp [Act.eval, Act.put]) R1.out ⟨b, off, none⟩ k c n1 (by simp [Act.eval, Act.put]) L1.out (fun j u hu => by rw [Addr.add_lit]; exact (B1.out.cell (p := ⟨b, off + j, none⟩) hbw).trans (HB1.out j u hu)) o1.out (by omega) B1.out.size ?_; intro g cap w2 hI2 hg2; rw [Nat.zero_add] at hI2 ⊢; have HI2 := Lib.hid hI2; have B2 := Lib.hid (B1.out.grown hg2 B1.out.size (by intro q hq; cases hq; exact Nat.le_refl _)); have gg := World.ownsRow.lt hI2 g rfl; clear hI2 hg2)
    | (refine step_appB rfl (.tmp 9) (.tmp 13) rfl w.heap.size g k cap (bcs [] ++ n1) (by simp [Act.eval, Act.put]) HI2.out A (l - (k + 1)) (c - (k + 1)) n2 (by simp [Act.eval, Act.put]) L2.out (hsrc.out _ B2.out) o2.out (by omega) B2.out.size ?_; intro g' cap' w3 hI3 hg3; have HI3 := Lib.hid hI3; have B3 := Lib.hid (B2.out.grown hg3 B2.out.size (by intro q hq; cases hq; exact gg.1)); clear hI3 hg3))
  go_wp2
  go_ret
  refine ⟨_, rfl, ?_, B3.out⟩
  have h3 := HI3.out
  unfold Brs
  rw [E.out.2, ← E.out.1]
  exact h3
set_option maxRecDepth 100000 in
set_option maxHeartbeats 4000000 in
theorem specCut (n : Int) (v : Value) (bs : List Br) (w : World) (h : RdB w v bs) (hl : bs.length ≤ 1048576) :
    Calls Try.prog 26 #[.agg #[.int .i64 n, v]] w fun e w' => ∃ u, e = .returned (.tuple #[u, .bool (areIs n bs)]) ∧ Ints w' w.heap.size u (idx (cutZ n bs)) ∧ Below w.heap.size w w' := by
  have H := Lib.hid h
  obtain ⟨a, l, c, rfl, hnz, t⟩ := h
  have HN := Lib.hid hnz
  clear t hnz
  cases hg : areIs n bs
  · have Z := Lib.hid (cutZ_no hg)
    have G := Lib.hid hg
    clear hg
    go_enter Try.func26, Try.ntmps26
    go_wp2_with fail
    refine (isGood n _ bs _ (H.out.below (by (repeat (first | exact Below.refl _ _ | (refine Below.alloc ?_ (by first | omega | (simp; try omega)) _) | apply Below.drew | apply below_drewN)))) hl).mono ?_
    rw [G.out]
    rintro e w1 ⟨rfl, hb⟩
    have HB := Lib.hid (Below.trans (by (repeat (first | exact Below.refl _ _ | (refine Below.alloc ?_ (by first | omega | (simp; try omega)) _) | apply Below.drew | apply below_drewN))) (hb.mono (by simp; try omega)) : Below w.heap.size w w1)
    clear hb
    go_wp2
    go_ret2
    exact ⟨_, rfl, by rw [Z.out]; exact ints_nil, HB.out⟩
  · obtain ⟨m, rfl, hm1, hm7, hl14, hgd⟩ := areIs_in hg
    have Z := Lib.hid (cutZ_yes hg)
    have G := Lib.hid hg
    have HGd := Lib.hid hgd
    clear hg hgd
    have hl14' : l ≤ 14 := by have := HN.out; omega
    go_enter Try.func26, Try.ntmps26
    go_wp2_with fail
    refine (isGood _ _ bs _ (H.out.below (by (repeat (first | exact Below.refl _ _ | (refine Below.alloc ?_ (by first | omega | (simp; try omega)) _) | apply Below.drew | apply below_drewN)))) hl).mono ?_
    rw [G.out]
    rintro e w1 ⟨rfl, hb⟩
    have HB := Lib.hid (Below.trans (by (repeat (first | exact Below.refl _ _ | (refine Below.alloc ?_ (by first | omega | (simp; try omega)) _) | apply Below.drew | apply below_drewN))) (hb.mono (by simp; try omega)) : Below w.heap.size w w1)
    have XB := Lib.hid ((Blk.new w #[.int .i64 m, .slice a l c] 29).below hb (by simp))
    obtain ⟨c0, c1, l0⟩ := XB.out.two
    clear hb
    go_wp2_with fail
    refine (isGroups m _ bs (-1) _ (H.out.below HB.out) HGd.out hm1 hm7 hl14).mono ?_
    rw [offB_none HGd.out]
    rintro e w2 ⟨u0, rfl, hI, hb⟩
    have HI0 := Lib.hid hI
    have HB2 := Lib.hid (HB.out.trans (hb.mono HB.out.size))
    have XB2 := Lib.hid (XB.out.below hb XB.out.lt)
    have hsz := HB2.out.size
    clear hI hb c0 c1 l0 XB
    go_wp2_with fail
    refine (isCount _ (lab m bs) (-1) _ HI0.out.rd (by rw [lab_len]; omega)).mono ?_
    rw [lab_len, cntW_none]
    rintro e w2' ⟨rfl, rfl⟩
    obtain ⟨c0, c1, l0⟩ := XB2.out.two
    have CS := Lib.hid (fun k => cutTo_s m bs k)
    have hq7 := groups_le m bs
    obtain ⟨q, hq⟩ : ∃ q, q = groupsN m bs := ⟨_, rfl⟩
    rw [← hq] at CS hq7 ⊢
    have HQ := Lib.hid hq
    clear hq HI0
    go_wp2
    clear c0 c1
    go_loopw [5, 19] (fun v i wr => ∃ k : Nat, k ≤ l ∧ i = .int .i64 k ∧ Ints wr w2.heap.size v (idx (cutTo m bs k)) ∧ Below w2.heap.size w2 wr) (fun _ i _ => l - (intOf i).toNat)
    case atStart => exact ⟨0, Nat.zero_le _, rfl, ints_nil, Below.refl _ _⟩
    case round =>
      obtain ⟨k, hk, rfl, hI, hb⟩ := hrel
      have hle := hb.size
      by_cases hlt : k < l
      · have hlt' : (k : Int) < l := by omega
        have XBr := Lib.hid (XB2.out.below hb XB2.out.lt).drew
        have HI := Lib.hid (hI.below (by apply Below.drew; exact Below.refl _ _) : Ints wr.drew _ _ _)
        have HBr := Lib.hid hb.drew
        have hle : w2.heap.size ≤ wr.drew.heap.size := hle
        obtain ⟨c0, c1, l1⟩ := (XB2.out.below hb XB2.out.lt).two
        clear hI hb
        go_wp2_with fail
        go_region_held3 (fun w' => w'.cell? ⟨w.heap.size, 0, none⟩ = some (.int .i64 m) ∧ w'.cell? ⟨w.heap.size, 1, none⟩ = some (.slice a l c)) (first | exact kp XBr.out | exact kp Y3.out | exact kp Y4.out) (first
          | (go_at_call 54; (with_reducible refine (isWithout _ bs k wr.drew (H.out.below (HB2.out.trans (HBr.out.mono hsz))) (by have := HN.out; omega) (by have := HN.out; omega)).mono ?_); rintro e w3 ⟨u, rfl, hU, hb3⟩; have B3 := Lib.hid (HBr.out.trans (hb3.mono hle)); have HI3 := Lib.hid (HI.out.below hb3); have HU := Lib.hid hU.rd; have Y3 := Lib.hid (XBr.out.below hb3 XBr.out.lt); have le3 := B3.out.size; clear hb3 hU; skip)
          | (go_at_call 48; (with_reducible refine (isGroups m u (bs.eraseIdx k) (-1) w3 HU.out (HGd.out.erase k) hm1 hm7 (by have := List.length_eraseIdx_le bs k; omega)).mono ?_); rintro e w4 ⟨u4, rfl, hU4, hb4⟩; have B4 := Lib.hid (B3.out.trans (hb4.mono le3)); have HI4 := Lib.hid (HI3.out.below hb4); have HU4 := Lib.hid hU4.rd; have Y4 := Lib.hid (Y3.out.below hb4 Y3.out.lt); have le4 := B4.out.size; clear hb4 hU4; skip)
          | (go_at_call 52; (with_reducible refine (isCount u4 (lab m (offB (-1) (bs.eraseIdx k))) (-1) w4 HU4.out (by rw [lab_len]; omega)).mono ?_); rintro e w5 ⟨rfl, rfl⟩; skip))
        rw [offB_none (HGd.out.erase k), lab_len, cntW_none]
        have hI4 := HI4.out
        have hp7 := groups_le m (bs.eraseIdx k)
        have S := CS.out k
        have hcl := cutTo_len m bs k
        have hil : (idx (cutTo m bs k)).length < 16777216 := by rw [idx_len]; omega
        clear HU4 HU HI HI3
        generalize groupsN m (bs.eraseIdx k) = p at *
        by_cases hx : q < p
        · have R := Lib.hid (show cutTo m bs (k + 1) = cutTo m bs k ++ [k] by rw [S]; simp [hx])
          have hxI : (q : Int) < p := by omega
          clear S
          go_wp2_with (at_builtin; refine wpList_app w4 rfl _ _ rfl w2.heap.size _ (idx (cutTo m bs k)) rfl hI4 (k : Int) rfl hil le4 rfl ?_; intro v' w5 hI2 hb2 hg2)
          go_roundw
          case rel => exact ⟨k + 1, by omega, by go_num, by rw [R.out, ← idx_app]; exact hI2, B4.out.trans hb2⟩
          case measure => (simp [intOf]; try omega)
        · have R := Lib.hid (show cutTo m bs (k + 1) = cutTo m bs k by rw [S]; simp [hx])
          have hxI : ¬ (q : Int) < p := by omega
          clear S
          go_wp2
          go_roundw
          case rel => exact ⟨k + 1, by omega, by go_num, by rw [R.out]; exact hI4, B4.out⟩
          case measure => (simp [intOf]; try omega)
      · obtain rfl : k = l := by omega
        have Z2 := Lib.hid (show cutZ m bs = cutTo m bs k by rw [Z.out, HN.out])
        go_wp2
        go_ret2
        exact ⟨_, rfl, by rw [Z2.out]; exact ints_mono' hI hsz, HB2.out.trans (hb.mono hsz)⟩
end Go.Proofs.Ytihdajiikonijaa
