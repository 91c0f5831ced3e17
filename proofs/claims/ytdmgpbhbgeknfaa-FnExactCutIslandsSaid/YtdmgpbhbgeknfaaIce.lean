/- CutIslands: slices.DeleteFunc, groupsWithout, impl. -/
import Derived.Test.YtdmgpbhbgeknfaaIcd
import Derived.Test.YtdmgpbhbgeknfaaIh
namespace Go.Proofs.Ytdmgpbhbgeknfaa
set_option linter.unusedVariables false
open Go.RowKit

theorem Blk.three' {w : World} {g : Nat} {x y z : Value} (h : Blk w g #[x, y, z]) : w.cell? ⟨g, 0, none⟩ = some x ∧ w.cell? ⟨g, 1, none⟩ = some y ∧ w.cell? ⟨g, 2, none⟩ = some z ∧ g < w.heap.size := ⟨h.cell 0, h.cell 1, h.cell 2, h.lt⟩
set_option maxRecDepth 100000 in
set_option maxHeartbeats 4000000 in
theorem delB (B g L cap : Nat) (bs : List Br) (i S : Nat) (w : World) (hI : Brs w B (.slice (some ⟨g, 0, none⟩) L cap) bs) (hL : L = bs.length) (hl : L ≤ 14) (hS : S < w.heap.size) (hSg : S ≠ g) (hc : w.cell? ⟨S, 0, none⟩ = some (.int .i64 i)) :
    Calls Try.prog 50 #[.slice (some ⟨g, 0, none⟩) L cap, .func (.func 51) #[] #[.pointer (some ⟨S, 0, none⟩)]] w fun e w' => e = .returned (.slice (some ⟨g, 0, none⟩) (offB i bs).length cap) ∧ Brs w' B (.slice (some ⟨g, 0, none⟩) (offB i bs).length cap) (offB i bs) ∧ w.grownBy w' (some g) := by
  have HI := Lib.hid hI
  have HL := Lib.hid hL
  have HC := Lib.hid hc
  have hgw := hI.blk.2
  have hLc : L ≤ cap := by
    rcases hI.2 with ⟨e1, _⟩ | ⟨g', cap', cur, e1, _, _, hnc, _⟩
    · cases e1
    · injection e1 with _ _ e2; subst e2; omega
  have HNG := Lib.hid (show some S ≠ some g by intro e; cases e; exact hSg rfl)
  clear hI hL hc
  go_enter Try.func50, Try.ntmps50
  go_wp2_with fail
  refine (indexD _ bs i S w HI.out.rd (by have := HL.out; omega) hS HC.out).mono ?_
  rintro e w1 ⟨r, rfl, hr, hb⟩
  have hsz1 := hb.size
  have I1 := Lib.hid (HI.out.below hb)
  have C1 := Lib.hid ((hb.cell (p := ⟨S, 0, none⟩) hS).trans HC.out)
  have G1 := Lib.hid (show w.grownBy w1 (some g) from ⟨hb.os, hb.tape, hb.output, hb.size, fun k hk _ => hb.block k hk⟩)
  clear hb
  rcases hr with ⟨rfl, hno⟩ | ⟨k, rfl, hk, hat, hpre⟩
  · have R := Lib.hid (show offB (i : Int) bs = bs by have := offB_all (bs := bs) (i := i) (k := bs.length) (Nat.le_refl _) hno; rwa [List.take_length] at this)
    clear hno
    go_wp2
    go_ret
    rw [R.out, ← HL.out]
    exact ⟨rfl, I1.out, G1.out⟩
  · have hkL : k < L := by have := HL.out; omega
    have OA := Lib.hid (offB_all (bs := bs) (i := i) (k := k) (by omega) hpre)
    have ON := Lib.hid (show offB (i : Int) (bs.take (k + 1)) = bs.take k by rw [offB_no hk (by simpa [atB] using hat)]; exact OA.out)
    have LESS := Lib.hid (offB_less hk hat)
    have M0 := Lib.hid (show mixL (offB (i : Int) (bs.take (k + 1))) bs = bs by rw [ON.out]; exact mixL_take k (by omega))
    have N0 := Lib.hid (show (offB (i : Int) (bs.take (k + 1))).length = k by rw [ON.out]; simp; try omega)
    clear hat hpre hk
    have hkI : ((k : Int) == -1) = false := by simp; try omega
    have hkI2 : ¬ (k : Int) = -1 := by omega
    go_wp2
    go_loopw [5, 6] (fun t q wr => ∃ j : Nat, j ≤ L ∧ q = .int .i64 j ∧ t = .int .i64 (offB (i : Int) (bs.take j)).length ∧ Hid ((offB (i : Int) (bs.take j)).length < j) ∧ Hid (Brs wr B (.slice (some ⟨g, 0, none⟩) L cap) (mixL (offB (i : Int) (bs.take j)) bs)) ∧ Hid (w.grownBy wr (some g))) (fun _ q _ => L - (intOf q).toNat)
    case atStart => exact ⟨k + 1, by omega, by go_num, by rw [N0.out], Lib.hid (by rw [N0.out]; omega), Lib.hid (by rw [M0.out]; exact I1.out), G1⟩
    case round =>
      obtain ⟨j, hj, rfl, rfl, hlt0, HR, HG⟩ := hrel
      have hszr := HG.out.size
      have hltk := hlt0.out
      by_cases hlt : j < L
      · have hlt' : (j : Int) < L := by omega
        have hjb : j < bs.length := by have := HL.out; omega
        have hml : L = (mixL (offB (i : Int) (bs.take j)) bs).length := by rw [mixL_len (by omega)]; exact HL.out
        have A0 := HR.out.at0 hml j hlt
        rw [mixL_get (by omega)] at A0
        obtain ⟨c0, c1, c2⟩ := A0
        have OY := Lib.hid (fun h1 h2 => offB_yes (bs := bs) (k := j) (wo := (i : Int)) hjb h1 h2)
        have OO := Lib.hid (fun h => offB_no (bs := bs) (k := j) (wo := (i : Int)) hjb h)
        have MS := Lib.hid (fun b => mixL_set (ks := offB (i : Int) (bs.take j)) (bs := bs) (by omega) b)
        have HML := Lib.hid hml
        clear hml
        generalize hq : gb bs j = q at *
        obtain ⟨x, y, z⟩ := q
        simp only at c0 c1 c2 OY OO
        clear hq
        obtain ⟨o1, ho1⟩ : ∃ o1, offB (i : Int) (bs.take (j + 1)) = o1 := ⟨_, rfl⟩
        rw [ho1] at OY OO
        have HO1 := Lib.hid ho1
        clear ho1
        generalize offB (i : Int) (bs.take j) = ks at *
        have CS := Lib.hid (HG.out.cell HC.out HNG.out)
        have AL := Lib.hid ((Below.refl wr.heap.size wr).alloc (Nat.le_refl _) (.cells #[.int .i64 x, .int .i64 y, .int .i64 z] 34))
        have hSr : S < wr.heap.size := by omega
        go_wp2_with fail
        refine (delF x y z i S _ (by simp; omega) ((AL.out.cell (p := ⟨S, 0, none⟩) hSr).trans CS.out)).mono ?_
        rintro e w2 ⟨rfl, hb2⟩
        have B2 := Lib.hid (AL.out.trans (hb2.mono AL.out.size))
        have X2 := Lib.hid ((Blk.new wr #[.int .i64 x, .int .i64 y, .int .i64 z] 34).below hb2 (by simp))
        have R2 := Lib.hid (HR.out.below B2.out)
        have G2 := Lib.hid (HG.out.trans (show wr.grownBy w2 (some g) from ⟨B2.out.os, B2.out.tape, B2.out.output, B2.out.size, fun k hk _ => B2.out.block k hk⟩))
        clear hb2 c0 c1 c2
        cases hx : atB x y i
        · have hxy : x ≠ i ∧ y ≠ i := by simpa [atB] using hx
          have RO := Lib.hid (show o1 = ks ++ [(x, y, z)] from OY.out hxy.1 hxy.2)
          have hml2 := HML.out
          obtain ⟨c0, c1, c2⟩ := R2.out.at0 hml2 ks.length (by omega)
          have f0 := R2.out.frz hml2 (ks.length * 3)
          have f1 := R2.out.frz hml2 (ks.length * 3 + 1)
          have f2 := R2.out.frz hml2 (ks.length * 3 + 2)
          have S2 := R2.out.set hml2 ks.length x y z
          rw [MS.out, ← RO.out] at S2
          have SS := Lib.hid S2
          have LE := Lib.hid (show o1.length = ks.length + 1 by rw [RO.out]; simp)
          obtain ⟨d0, d1, d2, d3⟩ := X2.out.three'
          have hks : (ks.length : Int) < L := by omega
          clear hml2 S2 hx hxy
          generalize gb (mixL ks bs) ks.length = q at *
          go_wp2
          go_roundw
          case rel => exact ⟨j + 1, by omega, by go_num, by rw [HO1.out, LE.out]; go_num, Lib.hid (by rw [HO1.out, LE.out]; omega), Lib.hid (by rw [HO1.out]; exact SS.out.1), Lib.hid (G2.out.trans SS.out.2)⟩
          case measure => (simp [intOf]; try omega)
        · have RO := Lib.hid (show o1 = ks from OO.out (by simpa [atB] using hx))
          clear hx
          go_wp2
          go_roundw
          case rel => exact ⟨j + 1, by omega, by go_num, by rw [HO1.out, RO.out], Lib.hid (by rw [HO1.out, RO.out]; omega), Lib.hid (by rw [HO1.out, RO.out]; exact R2.out), G2⟩
          case measure => (simp [intOf]; try omega)
      · obtain rfl : j = L := by omega
        have TK : offB (i : Int) (bs.take j) = offB (i : Int) bs := by rw [List.take_of_length_le (by have := HL.out; omega)]
        rw [TK] at HR hlt0 hltk ⊢
        clear TK
        obtain ⟨zs, hzs⟩ : ∃ zs, offB (i : Int) bs = zs := ⟨_, rfl⟩
        rw [hzs] at HR hlt0 hltk
        have HZ := Lib.hid hzs
        clear hzs
        have hml : j = (mixL zs bs).length := by rw [mixL_len (by have := HL.out; omega)]; exact HL.out
        obtain ⟨n, hn⟩ : ∃ n, n = zs.length := ⟨_, rfl⟩
        rw [← hn] at hltk
        rw [HZ.out, ← hn]
        have hrow : wr.ownsRow B 34 3 (.slice (some ⟨g, 0, none⟩) j cap) j (bcs (mixL zs bs)) := by have h := HR.out; unfold Brs at h; rw [← hml] at h; exact h
        have hcl : ∀ q, q < j * 3 → (wr.cell? ⟨g, q, none⟩).isSome = true := fun q hq => by
          rw [World.ownsRow.cellAt hrow q hq, List.getElem?_eq_getElem (by rw [bcs_len, ← hml]; exact hq)]; rfl
        have hfz : ∀ q, wr.frozen? ⟨g, q, none⟩ = false := fun q => World.ownsRow.frozenAt hrow q
        have hclr : ∀ ty, (Builtin.clear_ #[28] ty #[.slice (some ⟨g, n * 3, none⟩) (j - n) (cap - n)]).run Try.prog wr = .ok (.tuple #[]) (wr.setCells g (n * 3) (zeros (j - n))) :=
          fun ty => clear_many wr ty g (n * 3) (j - n) (cap - n) (by omega) (fun q hq => hcl _ (by omega)) (fun q _ => hfz _)
        have R1 := row_cells (zeros (j - n)) (n * 3) hrow
        have R3 := row_shrink (n' := n) R1.1 (by omega)
        rw [putL_eq _ _ _ (by rw [bcs_len, ← hml, zeros_len]; omega), List.append_assoc, List.take_append_of_le_length (by rw [List.length_take, bcs_len, ← hml]; omega), List.take_take, Nat.min_self, bcs_take _ _ (by rw [← hml]; omega)] at R3
        have hmt : (mixL zs bs).take n = zs := by unfold mixL; rw [hn, List.take_append_of_le_length (Nat.le_refl _), List.take_of_length_le (Nat.le_refl _)]
        rw [hmt] at R3
        have RF := Lib.hid (show Brs (wr.setCells g (n * 3) (zeros (j - n))) B (.slice (some ⟨g, 0, none⟩) n cap) zs by unfold Brs; rw [← hn]; exact R3)
        have GF := Lib.hid (HG.out.trans R1.2)
        clear R1 R3 hcl hfz hrow hml hmt
        have HNn := Lib.hid hn
        clear hn hlt0 HR
        have e1 : ¬ cap = n := by omega
        have e2 : n ≤ j := by omega
        have e3 : n ≤ cap := by omega
        have e4 : (n : Int) ≤ j := by omega
        have e5 : (n : Int) ≤ cap := by omega
        go_wp2
        go_ret
        rw [HZ.out, ← HNn.out]
        exact ⟨rfl, RF.out, GF.out⟩
theorem delNil (a : Option Addr) (c i S : Nat) (w : World) (hR : RdB w (.slice a ([] : List Br).length c) []) (hS : S < w.heap.size) (hc : w.cell? ⟨S, 0, none⟩ = some (.int .i64 i)) :
    Calls Try.prog 50 #[.slice a ([] : List Br).length c, .func (.func 51) #[] #[.pointer (some ⟨S, 0, none⟩)]] w fun e w' => e = .returned (.slice a ([] : List Br).length c) ∧ Below w.heap.size w w' := by
  have C := Lib.hid (indexD _ [] i S w hR (by simp) hS hc)
  clear hR hc
  go_enter Try.func50, Try.ntmps50
  go_wp2_with fail
  refine C.out.mono ?_
  rintro e w1 ⟨r, rfl, hr, hb⟩
  have HB := Lib.hid hb
  clear hb
  obtain rfl : r = -1 := by
    rcases hr with ⟨h, _⟩ | ⟨k, _, h, _⟩
    · exact h
    · simp at h
  clear hr
  go_wp2
  go_ret
  exact ⟨rfl, HB.out⟩
set_option maxRecDepth 100000 in
set_option maxHeartbeats 2000000 in
theorem groupsWithout (m : Nat) (v : Value) (bs : List Br) (i : Nat) (w : World) (h : RdB w v bs) (hg : Good m bs) (hm : m ≤ 7) (hl : bs.length ≤ 14) (hi : i < m) :
    Calls Try.prog 40 #[.agg #[.int .i64 m, v], .int .i64 i] w fun e w' => e = .returned (.int .i64 (gwI m bs i)) ∧ Below w.heap.size w w' := by
  have H := Lib.hid h
  obtain ⟨a, l, c, rfl, rfl, t⟩ := h
  have HG := Lib.hid hg
  have GE := Lib.hid (gw_eq hg hi)
  have hgl : groupsN m (offB (i : Int) bs) ≤ m := groups_le _ _
  clear t hg
  obtain ⟨W0, hW0⟩ : ∃ W, W = (w.alloc (.cells #[.int .i64 m, .slice a bs.length c] 30)).alloc (.cells #[.int .i64 i] 3) := ⟨_, rfl⟩
  have X1 := Lib.hid (show Blk W0 w.heap.size #[.int .i64 m, .slice a bs.length c] by rw [hW0]; exact (Blk.new w _ _).alloc _)
  have X2 := Lib.hid (show Blk W0 (w.heap.size + 1) #[.int .i64 i] by rw [hW0]; exact (Blk.new (w.alloc (.cells #[.int .i64 m, .slice a bs.length c] 30)) _ _).at_ (by simp))
  have B0 := Lib.hid (show Below w.heap.size w W0 by rw [hW0]; (repeat (first | exact Below.refl _ _ | (refine Below.alloc ?_ (by first | omega | (simp; try omega)) _) | apply Below.drew | apply below_drewN)))
  have HW0 := Lib.hid hW0
  have s0 : w.heap.size ≤ W0.heap.size := B0.out.size
  have s1 : w.heap.size + 1 < W0.heap.size := X2.out.lt
  clear hW0
  go_enter Try.func40, Try.ntmps40
  go_wp2_with fail
  rw [← HW0.out]
  clear HW0
  refine (cloneB _ bs _ (H.out.below B0.out) (by omega)).mono ?_
  rintro e w1 ⟨u, rfl, hI, hb⟩
  have HB := Lib.hid (B0.out.trans (hb.mono s0))
  have Y1 := Lib.hid (X1.out.below hb X1.out.lt)
  have Y2 := Lib.hid (X2.out.below hb X2.out.lt)
  have HU := Lib.hid hI
  clear hb hI
  obtain ⟨c0, c1, l0⟩ := Y1.out.two
  have e0 : w1.cell? ⟨w.heap.size + 1, 0, none⟩ = some (.int .i64 i) := Y2.out.cell 0
  have l1 := Y2.out.lt
  have hz1 := HB.out.size
  have REST : Hid (∀ (u2 : Value) (w2 : World), RdB w2 u2 (offB (i : Int) bs) → Below w.heap.size w w2 → Calls Try.prog 39 #[.agg #[.int .i64 m, u2]] w2 fun e w' => e = .returned (.int .i64 (groupsN m (offB (i : Int) bs))) ∧ Below w2.heap.size w2 w') := Lib.hid (fun u2 w2 hR hB => countGroups m u2 _ w2 hR (offB_good HG.out _) hm (by unfold offB; have := List.length_filter_le (fun b : Br => !(decide (b.1 = (i : Int)) || decide (b.2.1 = (i : Int)))) bs; omega))
  by_cases h0 : bs = []
  · subst h0
    obtain ⟨ua, uc, rfl⟩ := HU.out.len
    have D0 : Hid (∀ W, Below w1.heap.size w1 W → Calls Try.prog 50 #[.slice ua ([] : List Br).length uc, .func (.func 51) #[] #[.pointer (some ⟨w.heap.size + 1, 0, none⟩)]] W fun e w' => e = .returned (.slice ua ([] : List Br).length uc) ∧ Below W.heap.size W w') := Lib.hid (fun W hW => delNil ua uc i (w.heap.size + 1) W (HU.out.rd.below hW) (Nat.lt_of_lt_of_le l1 hW.size) ((hW.cell (p := ⟨w.heap.size + 1, 0, none⟩) l1).trans e0))
    go_wp2_with fail
    refine (D0.out _ (by (repeat (first | exact Below.refl _ _ | (refine Below.alloc ?_ (by first | omega | (simp; try omega)) _) | apply Below.drew | apply below_drewN)))).mono ?_
    rintro e w2 ⟨rfl, hb2⟩
    have HB2 := Lib.hid (HB.out.trans (hb2.mono hz1))
    have Z1 := Lib.hid (Y1.out.below hb2 Y1.out.lt)
    have U2 := Lib.hid (HU.out.rd.below hb2)
    clear hb2 c0 c1 l0 e0
    obtain ⟨c0, c1, l0⟩ := Z1.out.two
    go_wp2_with fail
    refine (REST.out _ _ U2.out HB2.out).mono ?_
    rw [GE.out] at hgl ⊢
    rintro e w3 ⟨rfl, hb3⟩
    have HB3 := Lib.hid (HB2.out.trans (hb3.mono HB2.out.size))
    clear hb3 c0 c1 l0
    obtain ⟨q, hq⟩ : ∃ q, gwI m [] i = q := ⟨_, rfl⟩
    rw [hq] at hgl ⊢
    have HQ := Lib.hid hq
    clear hq
    have e9 : ((q + 1 : Nat) : Int) - 1 = (q : Int) := by omega
    go_wp2
    go_ret
    rw [HQ.out]
    exact ⟨by go_num, HB3.out⟩
  · obtain ⟨g, cap, rfl⟩ := HU.out.some_ (List.length_pos_iff.2 h0)
    have hgb := HU.out.blk.1
    go_wp2_with fail
    refine (delB _ g bs.length cap bs i (w.heap.size + 1) w1 HU.out rfl hl l1 (by omega) e0).mono ?_
    rintro e w2 ⟨rfl, hI2, hg2⟩
    have HB2 := Lib.hid (HB.out.grown hg2 hz1 (by intro k hk; cases hk; omega))
    have Z1 := Lib.hid (Y1.out.kept hg2 (by intro e; cases e; omega))
    have U2 := Lib.hid hI2.rd
    clear hI2 hg2 c0 c1 l0 e0
    obtain ⟨c0, c1, l0⟩ := Z1.out.two
    go_wp2_with fail
    refine (REST.out _ _ U2.out HB2.out).mono ?_
    rw [GE.out] at hgl ⊢
    rintro e w3 ⟨rfl, hb3⟩
    have HB3 := Lib.hid (HB2.out.trans (hb3.mono HB2.out.size))
    clear hb3 c0 c1 l0
    obtain ⟨q, hq⟩ : ∃ q, gwI m bs i = q := ⟨_, rfl⟩
    rw [hq] at hgl ⊢
    have HQ := Lib.hid hq
    clear hq
    have e9 : ((q + 1 : Nat) : Int) - 1 = (q : Int) := by omega
    go_wp2
    go_ret
    rw [HQ.out]
    exact ⟨by go_num, HB3.out⟩
end Go.Proofs.Ytdmgpbhbgeknfaa
