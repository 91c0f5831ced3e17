/- spec.pzParse, spec.ParsePuzzle. -/
import Derived.Test.YtcpipacombnhdaaDoorKph
import Derived.Test.YtcpipacombnhdaaDoorKtx
namespace Go.Proofs.YtcpipacombnhdaaDoor
set_option linter.unusedVariables false
open Go.RowKit

theorem pB_n {w : List UInt8} (h : (spc 46 w).length ≠ 3) : pB w = none := by
  unfold pB; split
  · rename_i x y z e; rw [e] at h; exact absurd rfl h
  · rfl
theorem pB_ok {w x y z : List UInt8} (h1 : spc 46 w = [x, y, z]) : pB w = some (rdW x, rdW y, rdW z) := by
  unfold pB; rw [h1]
set_option maxRecDepth 100000 in
set_option maxHeartbeats 8000000 in
theorem pzParse (t : ByteArray) (w : World) (hs : t.size ≤ 1048576) :
    Calls Tryd.prog 23 #[.string t] w fun e w' => ∃ n u, e = .returned (.tuple #[.agg #[.int .i64 n, u], .bool (pOK t)]) ∧ (∃ cs, Brs w' w.heap.size u cs ∧ (pOK t = true → n = pN t ∧ cs = pL t)) ∧ Below w.heap.size w w' := by
  have SP := Lib.hid (fun wx => l1Split t 58 58 rfl wx hs)
  obtain ⟨W0, hW0⟩ : ∃ W, W = w.alloc (.cells #[.int .i64 0, .slice none 0 0] 30) := ⟨_, rfl⟩
  have X3 := Lib.hid (show Blk W0 w.heap.size #[.int .i64 0, .slice none 0 0] by rw [hW0]; exact Blk.new w _ _)
  have B0 := Lib.hid (show Below w.heap.size w W0 by rw [hW0]; (repeat (first | exact Below.refl _ _ | (refine Below.alloc ?_ (by first | omega | (simp; try omega)) _) | apply Below.drew | apply below_drewN)))
  have HW0 := Lib.hid hW0
  clear hW0
  have s0 := B0.out.size
  have FAIL : Hid (∀ w1 : World, Below w.heap.size w w1 → Blk w1 w.heap.size #[.int .i64 0, .slice none 0 0] → ansI t = none → ∃ n u, (Ending.returned (.tuple #[.agg #[.int .i64 0, .slice none 0 0], .bool false]) : Ending) = .returned (.tuple #[.agg #[.int .i64 n, u], .bool (pOK t)]) ∧ (∃ cs, Brs ((w1.setCell ⟨w.heap.size, 0, none⟩ (.int .i64 0)).setCell ⟨w.heap.size, 1, none⟩ (.slice none 0 0)) w.heap.size u cs ∧ (pOK t = true → n = pN t ∧ cs = pL t)) ∧ Below w.heap.size w ((w1.setCell ⟨w.heap.size, 0, none⟩ (.int .i64 0)).setCell ⟨w.heap.size, 1, none⟩ (.slice none 0 0))) := Lib.hid (fun w1 hb hy hf => by
    obtain ⟨e1, e2, e3⟩ := p_none hf
    refine ⟨0, .slice none 0 0, by rw [e1], ⟨[], Brs.nil _ _, fun h => by rw [e1] at h; cases h⟩, (hb.setCell (by simp; try omega) _).setCell (by simp; try omega) _⟩)
  go_enter Tryd.func23, Tryd.ntmps23
  go_wp2_with fail
  rw [← HW0.out]
  clear HW0
  refine (SP.out _).mono ?_
  rintro e w1 ⟨v0, L, rfl, hS, hL, hb⟩
  have hp := spc_pos hL
  obtain ⟨g, n, cap, rfl, hn, hnc, hcm, hB1, hg, hc⟩ := hS.form hp
  have HB1 := Lib.hid (B0.out.trans (hb.mono s0))
  have Y1 := Lib.hid (X3.out.below hb X3.out.lt)
  have lt1 : w.heap.size < w1.heap.size := Y1.out.lt
  have HL := Lib.hid hL
  have HC := Lib.hid hc
  have HN := Lib.hid hn
  clear hb hS hL hc hn hp hnc hcm hB1
  by_cases h100 : 100 < t.size
  · have h1 : (100 : Int) < (t.size : Int) := by omega
    have AN := Lib.hid (ans_far h100)
    clear h100
    obtain ⟨y0, y1, y2⟩ := Y1.out.two
    have f0 := Y1.out.fr 0
    have f1 := Y1.out.fr 1
    go_wp2
    have p0 : ((World.setCell _ ⟨w.heap.size, 0, none⟩ (.int .i64 0)).setCell ⟨w.heap.size, 1, none⟩ (.slice none 0 0)).cell? ⟨w.heap.size, 0, none⟩ = some (.int .i64 0) := (((Y1.out.set 0 (.int .i64 0)).set 1 (.slice none 0 0)).cell 0).trans (by simp)
    have p1 : ((World.setCell _ ⟨w.heap.size, 0, none⟩ (.int .i64 0)).setCell ⟨w.heap.size, 1, none⟩ (.slice none 0 0)).cell? ⟨w.heap.size, 1, none⟩ = some (.slice none 0 0) := (((Y1.out.set 0 (.int .i64 0)).set 1 (.slice none 0 0)).cell 1).trans (by simp)
    refine bodyPost_ret (v := .tuple #[.agg #[.int .i64 0, .slice none 0 0], .bool false]) (by simp [results, Tryd.results23, go_sem, p0, p1]) rfl ?_
    exact FAIL.out _ HB1.out Y1.out AN.out
  have h1 : ¬ (100 : Int) < (t.size : Int) := by omega
  by_cases hl2 : L.length = 2
  case neg =>
    have hn2 : ¬ (n : Int) = 2 := by have := HN.out; omega
    have hn2J : ((n : Int) == 2) = false := by simp; omega
    have hn2K : ((n : Int) != 2) = true := by simp; omega
    have AN := Lib.hid (ans_two (t := t) (by rw [← HL.out, List.length_map]; exact hl2))
    clear hl2 h100
    obtain ⟨y0, y1, y2⟩ := Y1.out.two
    have f0 := Y1.out.fr 0
    have f1 := Y1.out.fr 1
    go_wp2
    have p0 : ((World.setCell _ ⟨w.heap.size, 0, none⟩ (.int .i64 0)).setCell ⟨w.heap.size, 1, none⟩ (.slice none 0 0)).cell? ⟨w.heap.size, 0, none⟩ = some (.int .i64 0) := (((Y1.out.set 0 (.int .i64 0)).set 1 (.slice none 0 0)).cell 0).trans (by simp)
    have p1 : ((World.setCell _ ⟨w.heap.size, 0, none⟩ (.int .i64 0)).setCell ⟨w.heap.size, 1, none⟩ (.slice none 0 0)).cell? ⟨w.heap.size, 1, none⟩ = some (.slice none 0 0) := (((Y1.out.set 0 (.int .i64 0)).set 1 (.slice none 0 0)).cell 1).trans (by simp)
    refine bodyPost_ret (v := .tuple #[.agg #[.int .i64 0, .slice none 0 0], .bool false]) (by simp [results, Tryd.results23, go_sem, p0, p1]) rfl ?_
    exact FAIL.out _ HB1.out Y1.out AN.out
  obtain ⟨x, y, rfl⟩ : ∃ x y, L = [x, y] := by
    match L, hl2 with
    | [x, y], _ => exact ⟨x, y, rfl⟩
  obtain rfl : n = 2 := HN.out
  have hx : x.size ≤ 100 := Nat.le_trans (spc_sz HL.out (List.mem_cons_self ..)) (by omega)
  have hy : y.size ≤ 100 := Nat.le_trans (spc_sz HL.out (List.mem_cons_of_mem _ (List.mem_cons_self ..))) (by omega)
  have HXY := Lib.hid (show spc 58 t.data.toList = [x.data.toList, y.data.toList] from HL.out.symm)
  have c0 : w1.cell? ⟨g, 0, none⟩ = some (.string x) := HC.out 0 (by decide)
  have c1 : w1.cell? ⟨g, 1, none⟩ = some (.string y) := HC.out 1 (by decide)
  have R := Lib.hid (fun wx => l1Read x wx (by omega))
  have HT := Lib.hid (show t.size ≤ 100 by omega)
  have hwg := hg
  clear hl2 h100 HC HN HL
  go_wp2_with fail
  refine (R.out _).mono ?_
  rintro e w' ⟨rfl, rfl⟩
  obtain ⟨nn, hnn⟩ : ∃ nn, nn = rdW x.data.toList := ⟨_, rfl⟩
  rw [← hnn]
  have HNN := Lib.hid hnn
  clear hnn R
  have XS := Lib.hid (Blk.new w1 #[.int .i64 nn, .slice none 0 0] 30)
  have BW := Lib.hid ((Below.refl w1.heap.size w1).alloc (Nat.le_refl _) (.cells #[.int .i64 nn, .slice none 0 0] 30))
  have Y2 := Lib.hid (Y1.out.alloc (.cells #[.int .i64 nn, .slice none 0 0] 30))
  have B2 := Lib.hid (HB1.out.alloc HB1.out.size (.cells #[.int .i64 nn, .slice none 0 0] 30))
  by_cases hye : y = ⟨#[]⟩
  · have hyt : ¬ 0 < y.size := by rw [hye]; decide
    have hy0 : y.data.toList = [] := by rw [hye]
    clear hye
    have ANS := Lib.hid (show ansI t = if isPz nn [] = true then some (nn, []) else none by rw [HNN.out]; exact ans_got HXY.out HT.out (.inl ⟨hy0, rfl⟩))
    clear hy0
    have BS0 := Lib.hid (Brs.nil (w1.alloc (.cells #[.int .i64 nn, .slice none 0 0] 30)) w1.heap.size)
    clear c0
    cases ha : isPz nn [] with
    | false =>
      have AN := show ansI t = none by rw [ANS.out, if_neg (by rw [ha]; decide)]
      have P := Lib.hid (p_none AN)
      have G := Lib.hid (fun wx hx => (by have := pzGood nn (.slice none 0 0) [] wx hx; rwa [ha] at this : Calls Tryd.prog 15 #[.agg #[.int .i64 nn, (.slice none 0 0)]] wx fun e w' => e = .returned (.bool false) ∧ Below wx.heap.size wx w'))
      clear ha AN
      go_wp2_with fail
      generalize w1.alloc (.cells #[.int .i64 nn, .slice none 0 0] 30) = W2 at *
      obtain ⟨s0_, s1_, s2_⟩ := XS.out.two
      obtain ⟨y0_, y1_, y2_⟩ := Y2.out.two
      first
        | (go_region_with (first
          | (go_at_call 15; (with_reducible refine (G.out _ (BS0.out.below (by (repeat (first | exact Below.refl _ _ | (refine Below.alloc ?_ (by first | omega | (simp; try omega)) _) | apply Below.drew | apply below_drewN)))).rd).mono ?_); rintro e w5 ⟨rfl, hb5⟩; have D5 := Lib.hid (Below.trans (by (repeat (first | exact Below.refl _ _ | (refine Below.alloc ?_ (by first | omega | (simp; try omega)) _) | apply Below.drew | apply below_drewN))) (hb5.mono (by first | exact Nat.le_refl _ | (simp; try omega))) : Below W2.heap.size W2 w5); have S5 := Lib.hid (XS.out.below D5.out XS.out.lt); have Y5 := Lib.hid (Y2.out.below D5.out Y2.out.lt); have I5 := Lib.hid (BS0.out.below D5.out); have HB5 := Lib.hid (B2.out.trans (D5.out.mono B2.out.size)); obtain ⟨s50, s51, s52⟩ := S5.out.two; obtain ⟨y50, y51, y52⟩ := Y5.out.two; have f0 := Y5.out.fr 0; have f1 := Y5.out.fr 1; clear hb5; skip)
          | fail))
        | fail
      all_goals
        go_wp2
        have p0 : ((World.setCell _ ⟨w.heap.size, 0, none⟩ (.int .i64 nn)).setCell ⟨w.heap.size, 1, none⟩ (.slice none 0 0)).cell? ⟨w.heap.size, 0, none⟩ = some (.int .i64 nn) := (((Y5.out.set 0 (.int .i64 nn)).set 1 (.slice none 0 0)).cell 0).trans (by simp)
        have p1 : ((World.setCell _ ⟨w.heap.size, 0, none⟩ (.int .i64 nn)).setCell ⟨w.heap.size, 1, none⟩ (.slice none 0 0)).cell? ⟨w.heap.size, 1, none⟩ = some (.slice none 0 0) := (((Y5.out.set 0 (.int .i64 nn)).set 1 (.slice none 0 0)).cell 1).trans (by simp)
        refine bodyPost_ret (v := .tuple #[.agg #[.int .i64 nn, (.slice none 0 0)], .bool false]) (by simp [results, Tryd.results23, go_sem, p0, p1]) rfl ⟨_, _, by rw [P.out.1], ⟨[], ?_, ?_⟩, (HB5.out.setCell (by simp) _).setCell (by simp) _⟩
        · exact ((I5.out.far (p := ⟨w.heap.size, 0, none⟩) lt1 _).far (p := ⟨w.heap.size, 1, none⟩) lt1 _).mono (Nat.le_of_lt lt1)
        · intro h; rw [P.out.1] at h; cases h
    | true =>
      have AN := show ansI t = some (nn, []) by rw [ANS.out, if_pos ha]
      have P := Lib.hid (p_some AN)
      obtain ⟨m, hm, hm1, hm8, hm6, hmg⟩ := isPz_got ha
      have HT := (ans_in AN).2.1
      have G := Lib.hid (fun wx hx => (by have := pzGood nn (.slice none 0 0) [] wx hx; rwa [ha] at this : Calls Tryd.prog 15 #[.agg #[.int .i64 nn, (.slice none 0 0)]] wx fun e w' => e = .returned (.bool true) ∧ Below wx.heap.size wx w'))
      have TX := Lib.hid (fun wx hx => (by have := pzText m (.slice none 0 0) [] wx hx hmg hm8 hm6; rwa [← hm, HT] at this : Calls Tryd.prog 16 #[.agg #[.int .i64 nn, (.slice none 0 0)]] wx fun e w' => e = .returned (.string t) ∧ Below wx.heap.size wx w'))
      clear ha AN hm hm1 hm8 hm6 hmg HT
      go_wp2_with fail
      generalize w1.alloc (.cells #[.int .i64 nn, .slice none 0 0] 30) = W2 at *
      obtain ⟨s0_, s1_, s2_⟩ := XS.out.two
      obtain ⟨y0_, y1_, y2_⟩ := Y2.out.two
      first
        | (go_region_with (first
          | (go_at_call 15; (with_reducible refine (G.out _ (BS0.out.below (by (repeat (first | exact Below.refl _ _ | (refine Below.alloc ?_ (by first | omega | (simp; try omega)) _) | apply Below.drew | apply below_drewN)))).rd).mono ?_); rintro e w5 ⟨rfl, hb5⟩; have D5 := Lib.hid (Below.trans (by (repeat (first | exact Below.refl _ _ | (refine Below.alloc ?_ (by first | omega | (simp; try omega)) _) | apply Below.drew | apply below_drewN))) (hb5.mono (by first | exact Nat.le_refl _ | (simp; try omega))) : Below W2.heap.size W2 w5); have S5 := Lib.hid (XS.out.below D5.out XS.out.lt); have Y5 := Lib.hid (Y2.out.below D5.out Y2.out.lt); have I5 := Lib.hid (BS0.out.below D5.out); have HB5 := Lib.hid (B2.out.trans (D5.out.mono B2.out.size)); obtain ⟨s50, s51, s52⟩ := S5.out.two; obtain ⟨y50, y51, y52⟩ := Y5.out.two; have f0 := Y5.out.fr 0; have f1 := Y5.out.fr 1; clear hb5; skip)
          | (go_at_call 16; (with_reducible refine (TX.out _ (I5.out.below (by (repeat (first | exact Below.refl _ _ | (refine Below.alloc ?_ (by first | omega | (simp; try omega)) _) | apply Below.drew | apply below_drewN)))).rd).mono ?_); rintro e w6 ⟨rfl, hb6⟩; have D6 := Lib.hid (Below.trans (by (repeat (first | exact Below.refl _ _ | (refine Below.alloc ?_ (by first | omega | (simp; try omega)) _) | apply Below.drew | apply below_drewN))) (hb6.mono (by first | exact Nat.le_refl _ | (simp; try omega))) : Below w5.heap.size w5 w6); have S6 := Lib.hid (S5.out.below D6.out S5.out.lt); have Y6 := Lib.hid (Y5.out.below D6.out Y5.out.lt); have I6 := Lib.hid (I5.out.below D6.out); have HB6 := Lib.hid (HB5.out.trans (D6.out.mono HB5.out.size)); obtain ⟨s60, s61, s62⟩ := S6.out.two; obtain ⟨y60, y61, y62⟩ := Y6.out.two; have f0 := Y6.out.fr 0; have f1 := Y6.out.fr 1; clear hb6; skip)
          | fail))
        | fail
      all_goals
        go_wp2
        have p0 : ((World.setCell _ ⟨w.heap.size, 0, none⟩ (.int .i64 nn)).setCell ⟨w.heap.size, 1, none⟩ (.slice none 0 0)).cell? ⟨w.heap.size, 0, none⟩ = some (.int .i64 nn) := (((Y6.out.set 0 (.int .i64 nn)).set 1 (.slice none 0 0)).cell 0).trans (by simp)
        have p1 : ((World.setCell _ ⟨w.heap.size, 0, none⟩ (.int .i64 nn)).setCell ⟨w.heap.size, 1, none⟩ (.slice none 0 0)).cell? ⟨w.heap.size, 1, none⟩ = some (.slice none 0 0) := (((Y6.out.set 0 (.int .i64 nn)).set 1 (.slice none 0 0)).cell 1).trans (by simp)
        refine bodyPost_ret (v := .tuple #[.agg #[.int .i64 nn, (.slice none 0 0)], .bool true]) (by simp [results, Tryd.results23, go_sem, p0, p1]) rfl ⟨_, _, by rw [P.out.1], ⟨[], ?_, ?_⟩, (HB6.out.setCell (by simp) _).setCell (by simp) _⟩
        · exact ((I6.out.far (p := ⟨w.heap.size, 0, none⟩) lt1 _).far (p := ⟨w.heap.size, 1, none⟩) lt1 _).mono (Nat.le_of_lt lt1)
        · intro _; exact ⟨P.out.2.1.symm, P.out.2.2.symm⟩
  · have hyn : 0 < y.size := Nat.pos_of_ne_zero (fun e => hye (ByteArray.ext (Array.size_eq_zero_iff.1 e)))
    have SY := Lib.hid (fun wx => l1Split y 44 44 rfl wx (by omega))
    have hyd : y.data.toList ≠ [] := fun e => hye (ByteArray.ext (Array.toList_inj.1 (by simpa using e)))
    have HYD := Lib.hid hyd
    clear hye c0 hyd
    go_wp2_with fail
    generalize w1.alloc (.cells #[.int .i64 nn, .slice none 0 0] 30) = W2 at *
    refine (SY.out _).mono ?_
    rintro e w3 ⟨v3, V, rfl, hS3, hV, hb3⟩
    have hp3 := spc_pos hV
    have hz3 := spc_cnt hV
    obtain ⟨gv, nv, capv, rfl, hnv, _, _, hgB, hgv, hcv⟩ := hS3.form hp3
    obtain ⟨_, _, C, hC, hCC⟩ := strB hS3 hp3
    have HC := Lib.hid hC
    have HCC := Lib.hid hCC
    have HV := Lib.hid hV
    have HNV := Lib.hid hnv
    have HZV := Lib.hid (fun x hx => spc_sz hV (x := x) hx)
    have XS3 := Lib.hid (XS.out.below hb3 XS.out.lt)
    have hsg : w1.heap.size < W2.heap.size := XS.out.lt
    have B13 := Lib.hid (BW.out.trans (hb3.mono (Nat.le_of_lt hsg)))
    have hle3 : W2.heap.size ≤ w3.heap.size := hb3.size
    have hnv2 : nv ≤ 101 := by omega
    clear hS3 hV hb3 hcv hC hCC hnv hz3 c1
    go_wp2_with fail
    go_loopw [7, 8, 35] (fun _ _ i wr => ∃ (k : Nat) (u : Value) (cs : List Br), k ≤ nv ∧ i = .int .i64 k ∧ Hid (allB pB ((spc 44 y.data.toList).take k) = some cs) ∧ Hid (Blk wr w1.heap.size #[.int .i64 nn, u]) ∧ Hid (Blk wr gv C) ∧ Hid (Brs wr w3.heap.size u cs) ∧ Hid (Below w1.heap.size w1 wr) ∧ Hid (w3.heap.size ≤ wr.heap.size)) (fun _ _ i _ => nv - (intOf i).toNat)
    case atStart => exact ⟨0, .slice none 0 0, [], Nat.zero_le _, rfl, Lib.hid rfl, XS3, HC, Lib.hid (Brs.nil _ _), B13, Lib.hid (Nat.le_refl _)⟩
    case round =>
      obtain ⟨k, u, cs, hk, rfl, HA, HS, HR, HU, HB, HZ⟩ := hrel
      have hzz := HZ.out
      by_cases hlt : k < nv
      · have hlt' : (k : Int) < nv := by omega
        have cq : wr.cell? ⟨gv, k, none⟩ = some (.string (gs V k)) := (HR.out.cell k).trans (HCC.out k (by have := HNV.out; omega))
        obtain ⟨q, hq⟩ : ∃ q, q = gs V k := ⟨_, rfl⟩
        rw [← hq] at cq
        have HQ := Lib.hid hq
        clear hq
        go_wp2_with fail
        have hkV : k < V.length := by have := HNV.out; omega
        have hqz : q.size ≤ 100 := by rw [HQ.out]; exact Nat.le_trans (HZV.out _ (gs_mem hkV)) hy
        obtain ⟨hkw, hwk⟩ := gs_map HV.out hkV
        rw [← HQ.out] at hwk
        have HWK := Lib.hid hwk
        clear hwk cq
        refine (l1Split q 46 46 rfl wr (by omega)).mono ?_
        rintro e w4 ⟨v4, N, rfl, hS4, hN, hb4⟩
        have hp4 := spc_pos hN
        obtain ⟨gn, ln, cn, rfl, hln, _, _, hgn, hgn2, hcn⟩ := hS4.form hp4
        obtain ⟨_, _, CN, hCN, hCCN⟩ := strB hS4 hp4
        have XS4 := Lib.hid (HS.out.below hb4 HS.out.lt)
        have R4 := Lib.hid (HR.out.below hb4 HR.out.lt)
        have U4 := Lib.hid (HU.out.below hb4)
        have B4 := Lib.hid (HB.out.trans (hb4.mono HB.out.size))
        have HN4 := Lib.hid hN
        have HLN := Lib.hid hln
        have hz4 : w3.heap.size ≤ w4.heap.size := Nat.le_trans hzz hb4.size
        have hzz4 : wr.heap.size ≤ w4.heap.size := hb4.size
        clear hS4 hb4 hN hcn hln hp4
        by_cases hn2 : N.length = 3
        case neg =>
          have i2 : ¬ (ln : Int) = 3 := by have := HLN.out; omega
          have i2J : ((ln : Int) == 3) = false := by simp; omega
          have i2K : ((ln : Int) != 3) = true := by simp; omega
          have AN := Lib.hid (ans_no HXY.out HYD.out (allB_none _ k hkw (by rw [HWK.out]; exact pB_n (by rw [← HN4.out, List.length_map]; exact hn2))))
          have Y4 := Lib.hid (Y1.out.below B4.out lt1)
          have HB4 := Lib.hid (HB1.out.trans (B4.out.mono HB1.out.size))
          clear hn2 hCN hCCN
          obtain ⟨y0, y1, y2⟩ := Y4.out.two
          have f0 := Y4.out.fr 0
          have f1 := Y4.out.fr 1
          go_wp2
          have p0 : ((World.setCell _ ⟨w.heap.size, 0, none⟩ (.int .i64 0)).setCell ⟨w.heap.size, 1, none⟩ (.slice none 0 0)).cell? ⟨w.heap.size, 0, none⟩ = some (.int .i64 0) := (((Y4.out.set 0 (.int .i64 0)).set 1 (.slice none 0 0)).cell 0).trans (by simp)
          have p1 : ((World.setCell _ ⟨w.heap.size, 0, none⟩ (.int .i64 0)).setCell ⟨w.heap.size, 1, none⟩ (.slice none 0 0)).cell? ⟨w.heap.size, 1, none⟩ = some (.slice none 0 0) := (((Y4.out.set 0 (.int .i64 0)).set 1 (.slice none 0 0)).cell 1).trans (by simp)
          refine bodyPost_ret (v := .tuple #[.agg #[.int .i64 0, .slice none 0 0], .bool false]) (by simp [results, Tryd.results23, go_sem, p0, p1]) rfl ?_
          exact FAIL.out _ HB4.out Y4.out AN.out
        obtain ⟨a, b, z, rfl⟩ : ∃ x y z, N = [x, y, z] := by
          match N, hn2 with
          | [x, y, z], _ => exact ⟨x, y, z, rfl⟩
        obtain rfl : ln = 3 := HLN.out
        have HPZ := Lib.hid (show spc 46 q.data.toList = [a.data.toList, b.data.toList, z.data.toList] from HN4.out.symm)
        have ha9 : a.size ≤ 100 := Nat.le_trans (spc_sz HN4.out (List.mem_cons_self ..)) hqz
        have hb9 : b.size ≤ 100 := Nat.le_trans (spc_sz HN4.out (List.mem_cons_of_mem _ (List.mem_cons_self ..))) hqz
        have hz9 : z.size ≤ 100 := Nat.le_trans (spc_sz HN4.out (List.mem_cons_of_mem _ (List.mem_cons_of_mem _ (List.mem_cons_self ..)))) hqz
        have HN0 := Lib.hid (show CN[0]? = some (.string a) from hCCN 0 (by simp))
        have HN1 := Lib.hid (show CN[1]? = some (.string b) from hCCN 1 (by simp))
        have HN2 := Lib.hid (show CN[2]? = some (.string z) from hCCN 2 (by simp))
        have HCN := Lib.hid hCN
        have RA := Lib.hid (fun wx => l1Read a wx (by omega))
        have RB := Lib.hid (fun wx => l1Read b wx (by omega))
        have RZ := Lib.hid (fun wx => l1Read z wx (by omega))
        have HA2 := Lib.hid (show allB pB ((spc 44 y.data.toList).take (k + 1)) = some (cs ++ [(rdW a.data.toList, rdW b.data.toList, rdW z.data.toList)]) by
          rw [List.take_succ_eq_append_getElem hkw, HWK.out]
          exact allB_snoc _ _ _ _ HA.out (pB_ok HPZ.out))
        have hcl : cs.length ≤ 1000 := by
          have := allB_len _ _ HA.out
          rw [List.length_take] at this
          omega
        generalize rdW a.data.toList = va at *
        generalize rdW b.data.toList = vb at *
        generalize rdW z.data.toList = vz at *
        clear hn2 hCN hCCN HN4 HLN ha9 hb9 hz9 hqz HPZ
        go_wp2_with fail
        obtain ⟨k0, k1, kl⟩ := XS4.out.two
        have lS := XS4.out.lt
        have lN := HCN.out.lt
        have UL := Lib.hid (fun kk h => HU.out.lt kk h)
        have hlu : ∀ kk, u.ownBlock = some kk → w3.heap.size ≤ kk ∧ kk < wr.heap.size := UL.out
        have NS := Lib.hid (lt_ne (s := w1.heap.size) hlu (by omega))
        have NV := Lib.hid (lt_ne (s := gv) hlu hgv)
        clear hlu
        have h4 : wr.heap.size ≤ w4.heap.size := hzz4
        have NN : Hid (some gn ≠ u.ownBlock) := Lib.hid (fun e => by have := (UL.out gn e.symm).2; omega)
        have gns : gn ≠ w1.heap.size := by omega
        have K3 := Lib.hid (fun W (h3 : Blk W gn CN) => (⟨(h3.cell 0).trans HN0.out, (h3.cell 1).trans HN1.out, (h3.cell 2).trans HN2.out⟩ : W.cell? ⟨gn, 0, none⟩ = some (.string a) ∧ W.cell? ⟨gn, 1, none⟩ = some (.string b) ∧ W.cell? ⟨gn, 2, none⟩ = some (.string z)))
        refine wp_region_held_drew (S := (fun W => W.cell? ⟨gn, 0, none⟩ = some (.string a) ∧ W.cell? ⟨gn, 1, none⟩ = some (.string b) ∧ W.cell? ⟨gn, 2, none⟩ = some (.string z))) (by kernel_rfl) ?_ (fun hHeld => ?_)
        · (try dsimp only)
          (first | with_reducible exact K3.out _ EN.out | with_reducible exact K3.out _ (EN.out.far (p := ⟨w1.heap.size, 1, none⟩) gns _) | with_reducible exact K3.out _ HCN.out | with_reducible exact K3.out _ HCN.out.drew | with_reducible exact K3.out _ (HCN.out.alloc _) | with_reducible exact K3.out _ (HCN.out.alloc _).drew)
        refine wpAnyH_take (i := 0) (v := ?v0_1) rfl (by kernel_rfl) (by kernel_rfl) (by kernel_rfl) (fun _ _ _ h => h) (Or.inl ⟨by rfl, ?hy0_1⟩) (by assumption) ?rest0_1
        case hy0_1 =>
          intro w hSw
          (try dsimp only at hSw)
          go_simp
          try with_reducible rfl
        refine wpAnyH_take (i := 2) (v := ?v2_2) rfl (by kernel_rfl) (by kernel_rfl) (by kernel_rfl) (fun _ _ _ h => h) (Or.inl ⟨by rfl, ?hy2_2⟩) (by assumption) ?rest2_2
        case hy2_2 =>
          intro w hSw
          (try dsimp only at hSw)
          go_simp
          try with_reducible rfl
        refine wpAnyH_take (i := 3) (v := ?v3_3) rfl (by kernel_rfl) (by kernel_rfl) (by kernel_rfl) (fun _ _ _ h => h) (Or.inl ⟨by rfl, ?hy3_3⟩) (by assumption) ?rest3_3
        case hy3_3 =>
          intro w hSw
          (try dsimp only at hSw)
          go_simp
          try with_reducible rfl
        refine wpAnyH_take (i := 4) (v := ?v4_4) rfl (by kernel_rfl) (by kernel_rfl) (by kernel_rfl) (fun _ _ _ h => h) (Or.inl ⟨by rfl, ?hy4_4⟩) (by assumption) ?rest4_4
        case hy4_4 =>
          intro w hSw
          (try dsimp only at hSw)
          go_simp
          try with_reducible rfl
        refine wpAnyH_take (i := 6) (v := ?v6_5) rfl (by kernel_rfl) (by kernel_rfl) (by kernel_rfl) (fun _ _ _ h => h) (Or.inl ⟨by rfl, ?hy6_5⟩) (by assumption) ?rest6_5
        case hy6_5 =>
          intro w hSw
          (try dsimp only at hSw)
          go_simp
          try with_reducible rfl
        refine wpAnyH_take (i := 7) (v := ?v7_6) rfl (by kernel_rfl) (by kernel_rfl) (by kernel_rfl) (fun _ _ _ h => h) (Or.inl ⟨by rfl, ?hy7_6⟩) (by assumption) ?rest7_6
        case hy7_6 =>
          intro w hSw
          (try dsimp only at hSw)
          go_simp
          try with_reducible rfl
        refine wpAnyH_take (i := 8) (v := ?v8_7) rfl (by kernel_rfl) (by kernel_rfl) (by kernel_rfl) (fun _ _ _ h => h) (Or.inl ⟨by rfl, ?hy8_7⟩) (by assumption) ?rest8_7
        case hy8_7 =>
          intro w hSw
          (try dsimp only at hSw)
          go_simp
          try with_reducible rfl
        refine wpAnyH_take (i := 10) (v := ?v10_8) rfl (by kernel_rfl) (by kernel_rfl) (by kernel_rfl) (fun _ _ _ h => h) (Or.inl ⟨by rfl, ?hy10_8⟩) (by assumption) ?rest10_8
        case hy10_8 =>
          intro w hSw
          (try dsimp only at hSw)
          go_simp
          try with_reducible rfl
        refine wpAnyH_take (i := 11) (v := ?v11_9) rfl (by kernel_rfl) (by kernel_rfl) (by kernel_rfl) (fun _ _ _ h => h) (Or.inl ⟨by rfl, ?hy11_9⟩) (by assumption) ?rest11_9
        case hy11_9 =>
          intro w hSw
          (try dsimp only at hSw)
          go_simp
          try with_reducible rfl
        refine wpAnyH_take (i := 12) (v := ?v12_10) rfl (by kernel_rfl) (by kernel_rfl) (by kernel_rfl) (fun _ _ _ h => h) (Or.inl ⟨by rfl, ?hy12_10⟩) (by assumption) ?rest12_10
        case hy12_10 =>
          intro w hSw
          (try dsimp only at hSw)
          go_simp
          try with_reducible rfl
        refine wpAnyH_ready (rs := [1, 5]) (by kernel_rfl) (by simp) ?_
        refine AllReadyH.cons rfl (fun K hK => ?_) ?_
        ·
          go_simp
          refine hK.out _ _ ?_ (fun hHeld => ?_)
          · (try dsimp only)
            (first | with_reducible exact K3.out _ EN.out | with_reducible exact K3.out _ (EN.out.far (p := ⟨w1.heap.size, 1, none⟩) gns _) | with_reducible exact K3.out _ HCN.out | with_reducible exact K3.out _ HCN.out.drew | with_reducible exact K3.out _ (HCN.out.alloc _) | with_reducible exact K3.out _ (HCN.out.alloc _).drew)
          clear hK K
          refine wpAnyH_ready (rs := [5]) (by kernel_rfl) (by simp) ?_
          refine AllReadyH.cons rfl (fun K hK => ?_) ?_
          ·
            go_simp
            go_at_call 42
            refine (RA.out _).mono ?_
            rintro e w' ⟨rfl, rfl⟩
            try go_wp2_with fail
            refine hK.out _ _ ?_ (fun hHeld => ?_)
            · (try dsimp only)
              (first | with_reducible exact K3.out _ EN.out | with_reducible exact K3.out _ (EN.out.far (p := ⟨w1.heap.size, 1, none⟩) gns _) | with_reducible exact K3.out _ HCN.out | with_reducible exact K3.out _ HCN.out.drew | with_reducible exact K3.out _ (HCN.out.alloc _) | with_reducible exact K3.out _ (HCN.out.alloc _).drew)
            clear hK K
            refine wpAnyH_ready (rs := [9]) (by kernel_rfl) (by simp) ?_
            refine AllReadyH.cons rfl (fun K hK => ?_) ?_
            ·
              go_simp
              go_at_call 42
              refine (RB.out _).mono ?_
              rintro e w' ⟨rfl, rfl⟩
              try go_wp2_with fail
              refine hK.out _ _ ?_ (fun hHeld => ?_)
              · (try dsimp only)
                (first | with_reducible exact K3.out _ EN.out | with_reducible exact K3.out _ (EN.out.far (p := ⟨w1.heap.size, 1, none⟩) gns _) | with_reducible exact K3.out _ HCN.out | with_reducible exact K3.out _ HCN.out.drew | with_reducible exact K3.out _ (HCN.out.alloc _) | with_reducible exact K3.out _ (HCN.out.alloc _).drew)
              clear hK K
              refine wpAnyH_ready (rs := [13]) (by kernel_rfl) (by simp) ?_
              refine AllReadyH.cons rfl (fun K hK => ?_) ?_
              ·
                go_simp
                go_at_call 42
                refine (RZ.out _).mono ?_
                rintro e w' ⟨rfl, rfl⟩
                try go_wp2_with fail
                refine hK.out _ _ ?_ (fun hHeld => ?_)
                · (try dsimp only)
                  (first | with_reducible exact K3.out _ EN.out | with_reducible exact K3.out _ (EN.out.far (p := ⟨w1.heap.size, 1, none⟩) gns _) | with_reducible exact K3.out _ HCN.out | with_reducible exact K3.out _ HCN.out.drew | with_reducible exact K3.out _ (HCN.out.alloc _) | with_reducible exact K3.out _ (HCN.out.alloc _).drew)
                clear hK K
                refine wpAnyH_take (i := 14) (v := ?v14_11) rfl (by kernel_rfl) (by kernel_rfl) (by kernel_rfl) (fun _ _ _ h => h) (Or.inl ⟨by rfl, ?hy14_11⟩) (by assumption) ?rest14_11
                case hy14_11 =>
                  intro w hSw
                  (try dsimp only at hSw)
                  go_simp
                  try with_reducible rfl
                refine wpAnyH_ready (rs := [15]) (by kernel_rfl) (by simp) ?_
                refine AllReadyH.cons rfl (fun K hK => ?_) ?_
                ·
                  go_simp
                  refine hK.out _ _ ?_ (fun hHeld => ?_)
                  · (try dsimp only)
                    (first | with_reducible exact K3.out _ EN.out | with_reducible exact K3.out _ (EN.out.far (p := ⟨w1.heap.size, 1, none⟩) gns _) | with_reducible exact K3.out _ HCN.out | with_reducible exact K3.out _ HCN.out.drew | with_reducible exact K3.out _ (HCN.out.alloc _) | with_reducible exact K3.out _ (HCN.out.alloc _).drew)
                  clear hK K
                  refine wpAnyH_ready (rs := [16]) (by kernel_rfl) (by simp) ?_
                  refine AllReadyH.cons rfl (fun K hK => ?_) ?_
                  ·
                    (refine step_appB1 rfl (.tmp 46) (.tmp 60) rfl w3.heap.size u cs ?_ (U4.out.below (by (repeat (first | exact Below.refl _ _ | (refine Below.alloc ?_ (by first | omega | (simp; try omega)) _) | apply Below.drew)))) w4.heap.size va vb vz ?_ (by first | exact Blk.new _ _ _ | exact (Blk.new _ _ _).drew) hcl ?_ ?_; (· simp [Act.eval]); (· simp [Act.eval]); (· (simp; omega)); intro g6 c6 w6 hI6 hg6; have I6 := Lib.hid hI6; have E1 := Lib.hid ((XS4.out.below (B := w4.heap.size) (by (repeat (first | exact Below.refl _ _ | (refine Below.alloc ?_ (by first | omega | (simp; try omega)) _) | apply Below.drew))) lS).kept hg6 NS.out); have EV := Lib.hid ((R4.out.below (B := w4.heap.size) (by (repeat (first | exact Below.refl _ _ | (refine Below.alloc ?_ (by first | omega | (simp; try omega)) _) | apply Below.drew))) R4.out.lt).kept hg6 NV.out); have EN := Lib.hid ((HCN.out.below (B := w4.heap.size) (by (repeat (first | exact Below.refl _ _ | (refine Below.alloc ?_ (by first | omega | (simp; try omega)) _) | apply Below.drew))) lN).kept hg6 NN.out); have B6 := Lib.hid ((B4.out.trans (Below.mono (B := w4.heap.size) (by (repeat (first | exact Below.refl _ _ | (refine Below.alloc ?_ (by first | omega | (simp; try omega)) _) | apply Below.drew))) B4.out.size)).grown hg6 (by have := B4.out.size; simp; omega) (fun b hb => by have := (UL.out b hb).1; omega)); have hz6 := hg6.size; clear hg6 hI6; obtain ⟨e0, e1, e2⟩ := E1.out.two; have ef := E1.out.fr 1; skip)
                    refine hK.out _ _ ?_ (fun hHeld => ?_)
                    · (try dsimp only)
                      (first | with_reducible exact K3.out _ EN.out | with_reducible exact K3.out _ (EN.out.far (p := ⟨w1.heap.size, 1, none⟩) gns _) | with_reducible exact K3.out _ HCN.out | with_reducible exact K3.out _ HCN.out.drew | with_reducible exact K3.out _ (HCN.out.alloc _) | with_reducible exact K3.out _ (HCN.out.alloc _).drew)
                    clear hK K
                    refine wpAnyH_take (i := 17) (v := ?v17_12) rfl (by kernel_rfl) (by kernel_rfl) (by kernel_rfl) (fun _ _ _ h => h) (Or.inl ⟨by rfl, ?hy17_12⟩) (by assumption) ?rest17_12
                    case hy17_12 =>
                      intro w hSw
                      (try dsimp only at hSw)
                      go_simp
                      try with_reducible rfl
                    refine wpAnyH_ready (rs := [18]) (by kernel_rfl) (by simp) ?_
                    refine AllReadyH.cons rfl (fun K hK => ?_) AllReadyH.nil
                    go_simp
                    refine hK.out _ _ ?_ (fun hHeld => ?_)
                    · (try dsimp only)
                      (first | with_reducible exact K3.out _ EN.out | with_reducible exact K3.out _ (EN.out.far (p := ⟨w1.heap.size, 1, none⟩) gns _) | with_reducible exact K3.out _ HCN.out | with_reducible exact K3.out _ HCN.out.drew | with_reducible exact K3.out _ (HCN.out.alloc _) | with_reducible exact K3.out _ (HCN.out.alloc _).drew)
                    clear hK K
                    refine wpAnyH_done (by kernel_rfl) ?_ _
                    go_wp2_with fail
                    have hz6' : w4.heap.size + 1 ≤ w6.heap.size := by simpa using hz6
                    have hzR : w3.heap.size ≤ w6.heap.size := by omega
                    clear hz6
                    refine ⟨⟨k + 1, .slice (some ⟨g6, 0, none⟩) (cs.length + 1) c6, _, by omega, by go_num, HA2, Lib.hid (E1.out.set 1 (.slice (some ⟨g6, 0, none⟩) (cs.length + 1) c6)), Lib.hid (EV.out.far (p := ⟨w1.heap.size, 1, none⟩) (show gv ≠ w1.heap.size by omega) _), Lib.hid (I6.out.far (p := ⟨w1.heap.size, 1, none⟩) (show w1.heap.size < w3.heap.size by omega) _), Lib.hid (B6.out.setCell (p := ⟨w1.heap.size, 1, none⟩) (Nat.le_refl _) _), Lib.hid (by simpa [World.setCell] using hzR)⟩, ?_⟩
                    simp [intOf]; omega
                  exact AllReadyH.nil
                exact AllReadyH.nil
              exact AllReadyH.nil
            exact AllReadyH.nil
          exact AllReadyH.nil
        refine AllReadyH.cons rfl (fun K hK => ?_) ?_
        ·
          go_simp
          go_at_call 42
          refine (RA.out _).mono ?_
          rintro e w' ⟨rfl, rfl⟩
          try go_wp2_with fail
          refine hK.out _ _ ?_ (fun hHeld => ?_)
          · (try dsimp only)
            (first | with_reducible exact K3.out _ EN.out | with_reducible exact K3.out _ (EN.out.far (p := ⟨w1.heap.size, 1, none⟩) gns _) | with_reducible exact K3.out _ HCN.out | with_reducible exact K3.out _ HCN.out.drew | with_reducible exact K3.out _ (HCN.out.alloc _) | with_reducible exact K3.out _ (HCN.out.alloc _).drew)
          clear hK K
          refine wpAnyH_ready (rs := [1, 9]) (by kernel_rfl) (by simp) ?_
          refine AllReadyH.cons rfl (fun K hK => ?_) ?_
          ·
            go_simp
            refine hK.out _ _ ?_ (fun hHeld => ?_)
            · (try dsimp only)
              (first | with_reducible exact K3.out _ EN.out | with_reducible exact K3.out _ (EN.out.far (p := ⟨w1.heap.size, 1, none⟩) gns _) | with_reducible exact K3.out _ HCN.out | with_reducible exact K3.out _ HCN.out.drew | with_reducible exact K3.out _ (HCN.out.alloc _) | with_reducible exact K3.out _ (HCN.out.alloc _).drew)
            clear hK K
            refine wpAnyH_ready (rs := [9]) (by kernel_rfl) (by simp) ?_
            refine AllReadyH.cons rfl (fun K hK => ?_) ?_
            ·
              go_simp
              go_at_call 42
              refine (RB.out _).mono ?_
              rintro e w' ⟨rfl, rfl⟩
              try go_wp2_with fail
              refine hK.out _ _ ?_ (fun hHeld => ?_)
              · (try dsimp only)
                (first | with_reducible exact K3.out _ EN.out | with_reducible exact K3.out _ (EN.out.far (p := ⟨w1.heap.size, 1, none⟩) gns _) | with_reducible exact K3.out _ HCN.out | with_reducible exact K3.out _ HCN.out.drew | with_reducible exact K3.out _ (HCN.out.alloc _) | with_reducible exact K3.out _ (HCN.out.alloc _).drew)
              clear hK K
              refine wpAnyH_ready (rs := [13]) (by kernel_rfl) (by simp) ?_
              refine AllReadyH.cons rfl (fun K hK => ?_) ?_
              ·
                go_simp
                go_at_call 42
                refine (RZ.out _).mono ?_
                rintro e w' ⟨rfl, rfl⟩
                try go_wp2_with fail
                refine hK.out _ _ ?_ (fun hHeld => ?_)
                · (try dsimp only)
                  (first | with_reducible exact K3.out _ EN.out | with_reducible exact K3.out _ (EN.out.far (p := ⟨w1.heap.size, 1, none⟩) gns _) | with_reducible exact K3.out _ HCN.out | with_reducible exact K3.out _ HCN.out.drew | with_reducible exact K3.out _ (HCN.out.alloc _) | with_reducible exact K3.out _ (HCN.out.alloc _).drew)
                clear hK K
                refine wpAnyH_take (i := 14) (v := ?v14_13) rfl (by kernel_rfl) (by kernel_rfl) (by kernel_rfl) (fun _ _ _ h => h) (Or.inl ⟨by rfl, ?hy14_13⟩) (by assumption) ?rest14_13
                case hy14_13 =>
                  intro w hSw
                  (try dsimp only at hSw)
                  go_simp
                  try with_reducible rfl
                refine wpAnyH_ready (rs := [15]) (by kernel_rfl) (by simp) ?_
                refine AllReadyH.cons rfl (fun K hK => ?_) ?_
                ·
                  go_simp
                  refine hK.out _ _ ?_ (fun hHeld => ?_)
                  · (try dsimp only)
                    (first | with_reducible exact K3.out _ EN.out | with_reducible exact K3.out _ (EN.out.far (p := ⟨w1.heap.size, 1, none⟩) gns _) | with_reducible exact K3.out _ HCN.out | with_reducible exact K3.out _ HCN.out.drew | with_reducible exact K3.out _ (HCN.out.alloc _) | with_reducible exact K3.out _ (HCN.out.alloc _).drew)
                  clear hK K
                  refine wpAnyH_ready (rs := [16]) (by kernel_rfl) (by simp) ?_
                  refine AllReadyH.cons rfl (fun K hK => ?_) ?_
                  ·
                    (refine step_appB1 rfl (.tmp 46) (.tmp 60) rfl w3.heap.size u cs ?_ (U4.out.below (by (repeat (first | exact Below.refl _ _ | (refine Below.alloc ?_ (by first | omega | (simp; try omega)) _) | apply Below.drew)))) w4.heap.size va vb vz ?_ (by first | exact Blk.new _ _ _ | exact (Blk.new _ _ _).drew) hcl ?_ ?_; (· simp [Act.eval]); (· simp [Act.eval]); (· (simp; omega)); intro g6 c6 w6 hI6 hg6; have I6 := Lib.hid hI6; have E1 := Lib.hid ((XS4.out.below (B := w4.heap.size) (by (repeat (first | exact Below.refl _ _ | (refine Below.alloc ?_ (by first | omega | (simp; try omega)) _) | apply Below.drew))) lS).kept hg6 NS.out); have EV := Lib.hid ((R4.out.below (B := w4.heap.size) (by (repeat (first | exact Below.refl _ _ | (refine Below.alloc ?_ (by first | omega | (simp; try omega)) _) | apply Below.drew))) R4.out.lt).kept hg6 NV.out); have EN := Lib.hid ((HCN.out.below (B := w4.heap.size) (by (repeat (first | exact Below.refl _ _ | (refine Below.alloc ?_ (by first | omega | (simp; try omega)) _) | apply Below.drew))) lN).kept hg6 NN.out); have B6 := Lib.hid ((B4.out.trans (Below.mono (B := w4.heap.size) (by (repeat (first | exact Below.refl _ _ | (refine Below.alloc ?_ (by first | omega | (simp; try omega)) _) | apply Below.drew))) B4.out.size)).grown hg6 (by have := B4.out.size; simp; omega) (fun b hb => by have := (UL.out b hb).1; omega)); have hz6 := hg6.size; clear hg6 hI6; obtain ⟨e0, e1, e2⟩ := E1.out.two; have ef := E1.out.fr 1; skip)
                    refine hK.out _ _ ?_ (fun hHeld => ?_)
                    · (try dsimp only)
                      (first | with_reducible exact K3.out _ EN.out | with_reducible exact K3.out _ (EN.out.far (p := ⟨w1.heap.size, 1, none⟩) gns _) | with_reducible exact K3.out _ HCN.out | with_reducible exact K3.out _ HCN.out.drew | with_reducible exact K3.out _ (HCN.out.alloc _) | with_reducible exact K3.out _ (HCN.out.alloc _).drew)
                    clear hK K
                    refine wpAnyH_take (i := 17) (v := ?v17_14) rfl (by kernel_rfl) (by kernel_rfl) (by kernel_rfl) (fun _ _ _ h => h) (Or.inl ⟨by rfl, ?hy17_14⟩) (by assumption) ?rest17_14
                    case hy17_14 =>
                      intro w hSw
                      (try dsimp only at hSw)
                      go_simp
                      try with_reducible rfl
                    refine wpAnyH_ready (rs := [18]) (by kernel_rfl) (by simp) ?_
                    refine AllReadyH.cons rfl (fun K hK => ?_) AllReadyH.nil
                    go_simp
                    refine hK.out _ _ ?_ (fun hHeld => ?_)
                    · (try dsimp only)
                      (first | with_reducible exact K3.out _ EN.out | with_reducible exact K3.out _ (EN.out.far (p := ⟨w1.heap.size, 1, none⟩) gns _) | with_reducible exact K3.out _ HCN.out | with_reducible exact K3.out _ HCN.out.drew | with_reducible exact K3.out _ (HCN.out.alloc _) | with_reducible exact K3.out _ (HCN.out.alloc _).drew)
                    clear hK K
                    refine wpAnyH_done (by kernel_rfl) ?_ _
                    go_wp2_with fail
                    have hz6' : w4.heap.size + 1 ≤ w6.heap.size := by simpa using hz6
                    have hzR : w3.heap.size ≤ w6.heap.size := by omega
                    clear hz6
                    refine ⟨⟨k + 1, .slice (some ⟨g6, 0, none⟩) (cs.length + 1) c6, _, by omega, by go_num, HA2, Lib.hid (E1.out.set 1 (.slice (some ⟨g6, 0, none⟩) (cs.length + 1) c6)), Lib.hid (EV.out.far (p := ⟨w1.heap.size, 1, none⟩) (show gv ≠ w1.heap.size by omega) _), Lib.hid (I6.out.far (p := ⟨w1.heap.size, 1, none⟩) (show w1.heap.size < w3.heap.size by omega) _), Lib.hid (B6.out.setCell (p := ⟨w1.heap.size, 1, none⟩) (Nat.le_refl _) _), Lib.hid (by simpa [World.setCell] using hzR)⟩, ?_⟩
                    simp [intOf]; omega
                  exact AllReadyH.nil
                exact AllReadyH.nil
              exact AllReadyH.nil
            exact AllReadyH.nil
          refine AllReadyH.cons rfl (fun K hK => ?_) ?_
          ·
            go_simp
            go_at_call 42
            refine (RB.out _).mono ?_
            rintro e w' ⟨rfl, rfl⟩
            try go_wp2_with fail
            refine hK.out _ _ ?_ (fun hHeld => ?_)
            · (try dsimp only)
              (first | with_reducible exact K3.out _ EN.out | with_reducible exact K3.out _ (EN.out.far (p := ⟨w1.heap.size, 1, none⟩) gns _) | with_reducible exact K3.out _ HCN.out | with_reducible exact K3.out _ HCN.out.drew | with_reducible exact K3.out _ (HCN.out.alloc _) | with_reducible exact K3.out _ (HCN.out.alloc _).drew)
            clear hK K
            refine wpAnyH_ready (rs := [1, 13]) (by kernel_rfl) (by simp) ?_
            refine AllReadyH.cons rfl (fun K hK => ?_) ?_
            ·
              go_simp
              refine hK.out _ _ ?_ (fun hHeld => ?_)
              · (try dsimp only)
                (first | with_reducible exact K3.out _ EN.out | with_reducible exact K3.out _ (EN.out.far (p := ⟨w1.heap.size, 1, none⟩) gns _) | with_reducible exact K3.out _ HCN.out | with_reducible exact K3.out _ HCN.out.drew | with_reducible exact K3.out _ (HCN.out.alloc _) | with_reducible exact K3.out _ (HCN.out.alloc _).drew)
              clear hK K
              refine wpAnyH_ready (rs := [13]) (by kernel_rfl) (by simp) ?_
              refine AllReadyH.cons rfl (fun K hK => ?_) ?_
              ·
                go_simp
                go_at_call 42
                refine (RZ.out _).mono ?_
                rintro e w' ⟨rfl, rfl⟩
                try go_wp2_with fail
                refine hK.out _ _ ?_ (fun hHeld => ?_)
                · (try dsimp only)
                  (first | with_reducible exact K3.out _ EN.out | with_reducible exact K3.out _ (EN.out.far (p := ⟨w1.heap.size, 1, none⟩) gns _) | with_reducible exact K3.out _ HCN.out | with_reducible exact K3.out _ HCN.out.drew | with_reducible exact K3.out _ (HCN.out.alloc _) | with_reducible exact K3.out _ (HCN.out.alloc _).drew)
                clear hK K
                refine wpAnyH_take (i := 14) (v := ?v14_15) rfl (by kernel_rfl) (by kernel_rfl) (by kernel_rfl) (fun _ _ _ h => h) (Or.inl ⟨by rfl, ?hy14_15⟩) (by assumption) ?rest14_15
                case hy14_15 =>
                  intro w hSw
                  (try dsimp only at hSw)
                  go_simp
                  try with_reducible rfl
                refine wpAnyH_ready (rs := [15]) (by kernel_rfl) (by simp) ?_
                refine AllReadyH.cons rfl (fun K hK => ?_) ?_
                ·
                  go_simp
                  refine hK.out _ _ ?_ (fun hHeld => ?_)
                  · (try dsimp only)
                    (first | with_reducible exact K3.out _ EN.out | with_reducible exact K3.out _ (EN.out.far (p := ⟨w1.heap.size, 1, none⟩) gns _) | with_reducible exact K3.out _ HCN.out | with_reducible exact K3.out _ HCN.out.drew | with_reducible exact K3.out _ (HCN.out.alloc _) | with_reducible exact K3.out _ (HCN.out.alloc _).drew)
                  clear hK K
                  refine wpAnyH_ready (rs := [16]) (by kernel_rfl) (by simp) ?_
                  refine AllReadyH.cons rfl (fun K hK => ?_) ?_
                  ·
                    (refine step_appB1 rfl (.tmp 46) (.tmp 60) rfl w3.heap.size u cs ?_ (U4.out.below (by (repeat (first | exact Below.refl _ _ | (refine Below.alloc ?_ (by first | omega | (simp; try omega)) _) | apply Below.drew)))) w4.heap.size va vb vz ?_ (by first | exact Blk.new _ _ _ | exact (Blk.new _ _ _).drew) hcl ?_ ?_; (· simp [Act.eval]); (· simp [Act.eval]); (· (simp; omega)); intro g6 c6 w6 hI6 hg6; have I6 := Lib.hid hI6; have E1 := Lib.hid ((XS4.out.below (B := w4.heap.size) (by (repeat (first | exact Below.refl _ _ | (refine Below.alloc ?_ (by first | omega | (simp; try omega)) _) | apply Below.drew))) lS).kept hg6 NS.out); have EV := Lib.hid ((R4.out.below (B := w4.heap.size) (by (repeat (first | exact Below.refl _ _ | (refine Below.alloc ?_ (by first | omega | (simp; try omega)) _) | apply Below.drew))) R4.out.lt).kept hg6 NV.out); have EN := Lib.hid ((HCN.out.below (B := w4.heap.size) (by (repeat (first | exact Below.refl _ _ | (refine Below.alloc ?_ (by first | omega | (simp; try omega)) _) | apply Below.drew))) lN).kept hg6 NN.out); have B6 := Lib.hid ((B4.out.trans (Below.mono (B := w4.heap.size) (by (repeat (first | exact Below.refl _ _ | (refine Below.alloc ?_ (by first | omega | (simp; try omega)) _) | apply Below.drew))) B4.out.size)).grown hg6 (by have := B4.out.size; simp; omega) (fun b hb => by have := (UL.out b hb).1; omega)); have hz6 := hg6.size; clear hg6 hI6; obtain ⟨e0, e1, e2⟩ := E1.out.two; have ef := E1.out.fr 1; skip)
                    refine hK.out _ _ ?_ (fun hHeld => ?_)
                    · (try dsimp only)
                      (first | with_reducible exact K3.out _ EN.out | with_reducible exact K3.out _ (EN.out.far (p := ⟨w1.heap.size, 1, none⟩) gns _) | with_reducible exact K3.out _ HCN.out | with_reducible exact K3.out _ HCN.out.drew | with_reducible exact K3.out _ (HCN.out.alloc _) | with_reducible exact K3.out _ (HCN.out.alloc _).drew)
                    clear hK K
                    refine wpAnyH_take (i := 17) (v := ?v17_16) rfl (by kernel_rfl) (by kernel_rfl) (by kernel_rfl) (fun _ _ _ h => h) (Or.inl ⟨by rfl, ?hy17_16⟩) (by assumption) ?rest17_16
                    case hy17_16 =>
                      intro w hSw
                      (try dsimp only at hSw)
                      go_simp
                      try with_reducible rfl
                    refine wpAnyH_ready (rs := [18]) (by kernel_rfl) (by simp) ?_
                    refine AllReadyH.cons rfl (fun K hK => ?_) AllReadyH.nil
                    go_simp
                    refine hK.out _ _ ?_ (fun hHeld => ?_)
                    · (try dsimp only)
                      (first | with_reducible exact K3.out _ EN.out | with_reducible exact K3.out _ (EN.out.far (p := ⟨w1.heap.size, 1, none⟩) gns _) | with_reducible exact K3.out _ HCN.out | with_reducible exact K3.out _ HCN.out.drew | with_reducible exact K3.out _ (HCN.out.alloc _) | with_reducible exact K3.out _ (HCN.out.alloc _).drew)
                    clear hK K
                    refine wpAnyH_done (by kernel_rfl) ?_ _
                    go_wp2_with fail
                    have hz6' : w4.heap.size + 1 ≤ w6.heap.size := by simpa using hz6
                    have hzR : w3.heap.size ≤ w6.heap.size := by omega
                    clear hz6
                    refine ⟨⟨k + 1, .slice (some ⟨g6, 0, none⟩) (cs.length + 1) c6, _, by omega, by go_num, HA2, Lib.hid (E1.out.set 1 (.slice (some ⟨g6, 0, none⟩) (cs.length + 1) c6)), Lib.hid (EV.out.far (p := ⟨w1.heap.size, 1, none⟩) (show gv ≠ w1.heap.size by omega) _), Lib.hid (I6.out.far (p := ⟨w1.heap.size, 1, none⟩) (show w1.heap.size < w3.heap.size by omega) _), Lib.hid (B6.out.setCell (p := ⟨w1.heap.size, 1, none⟩) (Nat.le_refl _) _), Lib.hid (by simpa [World.setCell] using hzR)⟩, ?_⟩
                    simp [intOf]; omega
                  exact AllReadyH.nil
                exact AllReadyH.nil
              exact AllReadyH.nil
            refine AllReadyH.cons rfl (fun K hK => ?_) ?_
            ·
              go_simp
              go_at_call 42
              refine (RZ.out _).mono ?_
              rintro e w' ⟨rfl, rfl⟩
              try go_wp2_with fail
              refine hK.out _ _ ?_ (fun hHeld => ?_)
              · (try dsimp only)
                (first | with_reducible exact K3.out _ EN.out | with_reducible exact K3.out _ (EN.out.far (p := ⟨w1.heap.size, 1, none⟩) gns _) | with_reducible exact K3.out _ HCN.out | with_reducible exact K3.out _ HCN.out.drew | with_reducible exact K3.out _ (HCN.out.alloc _) | with_reducible exact K3.out _ (HCN.out.alloc _).drew)
              clear hK K
              refine wpAnyH_take (i := 14) (v := ?v14_17) rfl (by kernel_rfl) (by kernel_rfl) (by kernel_rfl) (fun _ _ _ h => h) (Or.inl ⟨by rfl, ?hy14_17⟩) (by assumption) ?rest14_17
              case hy14_17 =>
                intro w hSw
                (try dsimp only at hSw)
                go_simp
                try with_reducible rfl
              refine wpAnyH_ready (rs := [1, 15]) (by kernel_rfl) (by simp) ?_
              refine AllReadyH.cons rfl (fun K hK => ?_) ?_
              ·
                go_simp
                refine hK.out _ _ ?_ (fun hHeld => ?_)
                · (try dsimp only)
                  (first | with_reducible exact K3.out _ EN.out | with_reducible exact K3.out _ (EN.out.far (p := ⟨w1.heap.size, 1, none⟩) gns _) | with_reducible exact K3.out _ HCN.out | with_reducible exact K3.out _ HCN.out.drew | with_reducible exact K3.out _ (HCN.out.alloc _) | with_reducible exact K3.out _ (HCN.out.alloc _).drew)
                clear hK K
                refine wpAnyH_ready (rs := [15]) (by kernel_rfl) (by simp) ?_
                refine AllReadyH.cons rfl (fun K hK => ?_) ?_
                ·
                  go_simp
                  refine hK.out _ _ ?_ (fun hHeld => ?_)
                  · (try dsimp only)
                    (first | with_reducible exact K3.out _ EN.out | with_reducible exact K3.out _ (EN.out.far (p := ⟨w1.heap.size, 1, none⟩) gns _) | with_reducible exact K3.out _ HCN.out | with_reducible exact K3.out _ HCN.out.drew | with_reducible exact K3.out _ (HCN.out.alloc _) | with_reducible exact K3.out _ (HCN.out.alloc _).drew)
                  clear hK K
                  refine wpAnyH_ready (rs := [16]) (by kernel_rfl) (by simp) ?_
                  refine AllReadyH.cons rfl (fun K hK => ?_) ?_
                  ·
                    (refine step_appB1 rfl (.tmp 46) (.tmp 60) rfl w3.heap.size u cs ?_ (U4.out.below (by (repeat (first | exact Below.refl _ _ | (refine Below.alloc ?_ (by first | omega | (simp; try omega)) _) | apply Below.drew)))) w4.heap.size va vb vz ?_ (by first | exact Blk.new _ _ _ | exact (Blk.new _ _ _).drew) hcl ?_ ?_; (· simp [Act.eval]); (· simp [Act.eval]); (· (simp; omega)); intro g6 c6 w6 hI6 hg6; have I6 := Lib.hid hI6; have E1 := Lib.hid ((XS4.out.below (B := w4.heap.size) (by (repeat (first | exact Below.refl _ _ | (refine Below.alloc ?_ (by first | omega | (simp; try omega)) _) | apply Below.drew))) lS).kept hg6 NS.out); have EV := Lib.hid ((R4.out.below (B := w4.heap.size) (by (repeat (first | exact Below.refl _ _ | (refine Below.alloc ?_ (by first | omega | (simp; try omega)) _) | apply Below.drew))) R4.out.lt).kept hg6 NV.out); have EN := Lib.hid ((HCN.out.below (B := w4.heap.size) (by (repeat (first | exact Below.refl _ _ | (refine Below.alloc ?_ (by first | omega | (simp; try omega)) _) | apply Below.drew))) lN).kept hg6 NN.out); have B6 := Lib.hid ((B4.out.trans (Below.mono (B := w4.heap.size) (by (repeat (first | exact Below.refl _ _ | (refine Below.alloc ?_ (by first | omega | (simp; try omega)) _) | apply Below.drew))) B4.out.size)).grown hg6 (by have := B4.out.size; simp; omega) (fun b hb => by have := (UL.out b hb).1; omega)); have hz6 := hg6.size; clear hg6 hI6; obtain ⟨e0, e1, e2⟩ := E1.out.two; have ef := E1.out.fr 1; skip)
                    refine hK.out _ _ ?_ (fun hHeld => ?_)
                    · (try dsimp only)
                      (first | with_reducible exact K3.out _ EN.out | with_reducible exact K3.out _ (EN.out.far (p := ⟨w1.heap.size, 1, none⟩) gns _) | with_reducible exact K3.out _ HCN.out | with_reducible exact K3.out _ HCN.out.drew | with_reducible exact K3.out _ (HCN.out.alloc _) | with_reducible exact K3.out _ (HCN.out.alloc _).drew)
                    clear hK K
                    refine wpAnyH_take (i := 17) (v := ?v17_18) rfl (by kernel_rfl) (by kernel_rfl) (by kernel_rfl) (fun _ _ _ h => h) (Or.inl ⟨by rfl, ?hy17_18⟩) (by assumption) ?rest17_18
                    case hy17_18 =>
                      intro w hSw
                      (try dsimp only at hSw)
                      go_simp
                      try with_reducible rfl
                    refine wpAnyH_ready (rs := [18]) (by kernel_rfl) (by simp) ?_
                    refine AllReadyH.cons rfl (fun K hK => ?_) AllReadyH.nil
                    go_simp
                    refine hK.out _ _ ?_ (fun hHeld => ?_)
                    · (try dsimp only)
                      (first | with_reducible exact K3.out _ EN.out | with_reducible exact K3.out _ (EN.out.far (p := ⟨w1.heap.size, 1, none⟩) gns _) | with_reducible exact K3.out _ HCN.out | with_reducible exact K3.out _ HCN.out.drew | with_reducible exact K3.out _ (HCN.out.alloc _) | with_reducible exact K3.out _ (HCN.out.alloc _).drew)
                    clear hK K
                    refine wpAnyH_done (by kernel_rfl) ?_ _
                    go_wp2_with fail
                    have hz6' : w4.heap.size + 1 ≤ w6.heap.size := by simpa using hz6
                    have hzR : w3.heap.size ≤ w6.heap.size := by omega
                    clear hz6
                    refine ⟨⟨k + 1, .slice (some ⟨g6, 0, none⟩) (cs.length + 1) c6, _, by omega, by go_num, HA2, Lib.hid (E1.out.set 1 (.slice (some ⟨g6, 0, none⟩) (cs.length + 1) c6)), Lib.hid (EV.out.far (p := ⟨w1.heap.size, 1, none⟩) (show gv ≠ w1.heap.size by omega) _), Lib.hid (I6.out.far (p := ⟨w1.heap.size, 1, none⟩) (show w1.heap.size < w3.heap.size by omega) _), Lib.hid (B6.out.setCell (p := ⟨w1.heap.size, 1, none⟩) (Nat.le_refl _) _), Lib.hid (by simpa [World.setCell] using hzR)⟩, ?_⟩
                    simp [intOf]; omega
                  exact AllReadyH.nil
                exact AllReadyH.nil
              refine AllReadyH.cons rfl (fun K hK => ?_) ?_
              ·
                go_simp
                refine hK.out _ _ ?_ (fun hHeld => ?_)
                · (try dsimp only)
                  (first | with_reducible exact K3.out _ EN.out | with_reducible exact K3.out _ (EN.out.far (p := ⟨w1.heap.size, 1, none⟩) gns _) | with_reducible exact K3.out _ HCN.out | with_reducible exact K3.out _ HCN.out.drew | with_reducible exact K3.out _ (HCN.out.alloc _) | with_reducible exact K3.out _ (HCN.out.alloc _).drew)
                clear hK K
                refine wpAnyH_ready (rs := [1]) (by kernel_rfl) (by simp) ?_
                refine AllReadyH.cons rfl (fun K hK => ?_) ?_
                ·
                  go_simp
                  refine hK.out _ _ ?_ (fun hHeld => ?_)
                  · (try dsimp only)
                    (first | with_reducible exact K3.out _ EN.out | with_reducible exact K3.out _ (EN.out.far (p := ⟨w1.heap.size, 1, none⟩) gns _) | with_reducible exact K3.out _ HCN.out | with_reducible exact K3.out _ HCN.out.drew | with_reducible exact K3.out _ (HCN.out.alloc _) | with_reducible exact K3.out _ (HCN.out.alloc _).drew)
                  clear hK K
                  refine wpAnyH_ready (rs := [16]) (by kernel_rfl) (by simp) ?_
                  refine AllReadyH.cons rfl (fun K hK => ?_) ?_
                  ·
                    (refine step_appB1 rfl (.tmp 46) (.tmp 60) rfl w3.heap.size u cs ?_ (U4.out.below (by (repeat (first | exact Below.refl _ _ | (refine Below.alloc ?_ (by first | omega | (simp; try omega)) _) | apply Below.drew)))) w4.heap.size va vb vz ?_ (by first | exact Blk.new _ _ _ | exact (Blk.new _ _ _).drew) hcl ?_ ?_; (· simp [Act.eval]); (· simp [Act.eval]); (· (simp; omega)); intro g6 c6 w6 hI6 hg6; have I6 := Lib.hid hI6; have E1 := Lib.hid ((XS4.out.below (B := w4.heap.size) (by (repeat (first | exact Below.refl _ _ | (refine Below.alloc ?_ (by first | omega | (simp; try omega)) _) | apply Below.drew))) lS).kept hg6 NS.out); have EV := Lib.hid ((R4.out.below (B := w4.heap.size) (by (repeat (first | exact Below.refl _ _ | (refine Below.alloc ?_ (by first | omega | (simp; try omega)) _) | apply Below.drew))) R4.out.lt).kept hg6 NV.out); have EN := Lib.hid ((HCN.out.below (B := w4.heap.size) (by (repeat (first | exact Below.refl _ _ | (refine Below.alloc ?_ (by first | omega | (simp; try omega)) _) | apply Below.drew))) lN).kept hg6 NN.out); have B6 := Lib.hid ((B4.out.trans (Below.mono (B := w4.heap.size) (by (repeat (first | exact Below.refl _ _ | (refine Below.alloc ?_ (by first | omega | (simp; try omega)) _) | apply Below.drew))) B4.out.size)).grown hg6 (by have := B4.out.size; simp; omega) (fun b hb => by have := (UL.out b hb).1; omega)); have hz6 := hg6.size; clear hg6 hI6; obtain ⟨e0, e1, e2⟩ := E1.out.two; have ef := E1.out.fr 1; skip)
                    refine hK.out _ _ ?_ (fun hHeld => ?_)
                    · (try dsimp only)
                      (first | with_reducible exact K3.out _ EN.out | with_reducible exact K3.out _ (EN.out.far (p := ⟨w1.heap.size, 1, none⟩) gns _) | with_reducible exact K3.out _ HCN.out | with_reducible exact K3.out _ HCN.out.drew | with_reducible exact K3.out _ (HCN.out.alloc _) | with_reducible exact K3.out _ (HCN.out.alloc _).drew)
                    clear hK K
                    refine wpAnyH_take (i := 17) (v := ?v17_19) rfl (by kernel_rfl) (by kernel_rfl) (by kernel_rfl) (fun _ _ _ h => h) (Or.inl ⟨by rfl, ?hy17_19⟩) (by assumption) ?rest17_19
                    case hy17_19 =>
                      intro w hSw
                      (try dsimp only at hSw)
                      go_simp
                      try with_reducible rfl
                    refine wpAnyH_ready (rs := [18]) (by kernel_rfl) (by simp) ?_
                    refine AllReadyH.cons rfl (fun K hK => ?_) AllReadyH.nil
                    go_simp
                    refine hK.out _ _ ?_ (fun hHeld => ?_)
                    · (try dsimp only)
                      (first | with_reducible exact K3.out _ EN.out | with_reducible exact K3.out _ (EN.out.far (p := ⟨w1.heap.size, 1, none⟩) gns _) | with_reducible exact K3.out _ HCN.out | with_reducible exact K3.out _ HCN.out.drew | with_reducible exact K3.out _ (HCN.out.alloc _) | with_reducible exact K3.out _ (HCN.out.alloc _).drew)
                    clear hK K
                    refine wpAnyH_done (by kernel_rfl) ?_ _
                    go_wp2_with fail
                    have hz6' : w4.heap.size + 1 ≤ w6.heap.size := by simpa using hz6
                    have hzR : w3.heap.size ≤ w6.heap.size := by omega
                    clear hz6
                    refine ⟨⟨k + 1, .slice (some ⟨g6, 0, none⟩) (cs.length + 1) c6, _, by omega, by go_num, HA2, Lib.hid (E1.out.set 1 (.slice (some ⟨g6, 0, none⟩) (cs.length + 1) c6)), Lib.hid (EV.out.far (p := ⟨w1.heap.size, 1, none⟩) (show gv ≠ w1.heap.size by omega) _), Lib.hid (I6.out.far (p := ⟨w1.heap.size, 1, none⟩) (show w1.heap.size < w3.heap.size by omega) _), Lib.hid (B6.out.setCell (p := ⟨w1.heap.size, 1, none⟩) (Nat.le_refl _) _), Lib.hid (by simpa [World.setCell] using hzR)⟩, ?_⟩
                    simp [intOf]; omega
                  exact AllReadyH.nil
                exact AllReadyH.nil
              exact AllReadyH.nil
            exact AllReadyH.nil
          exact AllReadyH.nil
        exact AllReadyH.nil
      · have hkn : k = nv := by omega
        have hlw : (spc 44 y.data.toList).length = nv := by rw [← HV.out, List.length_map]; exact HNV.out.symm
        have ANS := Lib.hid (show ansI t = if isPz nn cs = true then some (nn, cs) else none by
          rw [HNN.out]
          refine ans_got HXY.out HT.out (.inr ⟨HYD.out, ?_⟩)
          have h := HA.out
          rwa [List.take_of_length_le (by omega)] at h)
        have hcl : cs.length ≤ 1000 := by
          have := allB_len _ _ HA.out
          rw [List.length_take] at this
          omega
        have hw1 : w1.heap.size ≤ wr.heap.size := HB.out.size
        have YR := Lib.hid (Y1.out.below HB.out lt1)
        have HBR := Lib.hid (HB1.out.trans (HB.out.mono HB1.out.size))
        have BSR := Lib.hid (HU.out.mono (B := w1.heap.size) (by omega))
        have hkn2 : ¬ (k : Int) < nv := by omega
        obtain ⟨ua, ul, uc, rfl, hul⟩ := BSR.out.rd
        clear hul
        obtain ⟨us0, us1, us2⟩ := HS.out.two
        clear HA
        cases ha : isPz nn cs with
        | false =>
          have AN := show ansI t = none by rw [ANS.out, if_neg (by rw [ha]; decide)]
          have P := Lib.hid (p_none AN)
          have G := Lib.hid (fun wx hx => (by have := pzGood nn (.slice ua ul uc) cs wx hx; rwa [ha] at this : Calls Tryd.prog 15 #[.agg #[.int .i64 nn, (.slice ua ul uc)]] wx fun e w' => e = .returned (.bool false) ∧ Below wx.heap.size wx w'))
          clear ha AN
          go_wp2_with fail
          obtain ⟨s0_, s1_, s2_⟩ := HS.out.two
          obtain ⟨y0_, y1_, y2_⟩ := YR.out.two
          first
            | (go_region_with (first
              | (go_at_call 15; (with_reducible refine (G.out _ (BSR.out.below (by (repeat (first | exact Below.refl _ _ | (refine Below.alloc ?_ (by first | omega | (simp; try omega)) _) | apply Below.drew | apply below_drewN)))).rd).mono ?_); rintro e w5 ⟨rfl, hb5⟩; have D5 := Lib.hid (Below.trans (by (repeat (first | exact Below.refl _ _ | (refine Below.alloc ?_ (by first | omega | (simp; try omega)) _) | apply Below.drew | apply below_drewN))) (hb5.mono (by first | exact Nat.le_refl _ | (simp; try omega))) : Below wr.heap.size wr w5); have S5 := Lib.hid (HS.out.below D5.out HS.out.lt); have Y5 := Lib.hid (YR.out.below D5.out YR.out.lt); have I5 := Lib.hid (BSR.out.below D5.out); have HB5 := Lib.hid (HBR.out.trans (D5.out.mono HBR.out.size)); obtain ⟨s50, s51, s52⟩ := S5.out.two; obtain ⟨y50, y51, y52⟩ := Y5.out.two; have f0 := Y5.out.fr 0; have f1 := Y5.out.fr 1; clear hb5; skip)
              | fail))
            | fail
          all_goals
            go_wp2
            have p0 : ((World.setCell _ ⟨w.heap.size, 0, none⟩ (.int .i64 nn)).setCell ⟨w.heap.size, 1, none⟩ (.slice ua ul uc)).cell? ⟨w.heap.size, 0, none⟩ = some (.int .i64 nn) := (((Y5.out.set 0 (.int .i64 nn)).set 1 (.slice ua ul uc)).cell 0).trans (by simp)
            have p1 : ((World.setCell _ ⟨w.heap.size, 0, none⟩ (.int .i64 nn)).setCell ⟨w.heap.size, 1, none⟩ (.slice ua ul uc)).cell? ⟨w.heap.size, 1, none⟩ = some (.slice ua ul uc) := (((Y5.out.set 0 (.int .i64 nn)).set 1 (.slice ua ul uc)).cell 1).trans (by simp)
            refine bodyPost_ret (v := .tuple #[.agg #[.int .i64 nn, (.slice ua ul uc)], .bool false]) (by simp [results, Tryd.results23, go_sem, p0, p1]) rfl ⟨_, _, by rw [P.out.1], ⟨cs, ?_, ?_⟩, (HB5.out.setCell (by simp) _).setCell (by simp) _⟩
            · exact ((I5.out.far (p := ⟨w.heap.size, 0, none⟩) lt1 _).far (p := ⟨w.heap.size, 1, none⟩) lt1 _).mono (Nat.le_of_lt lt1)
            · intro h; rw [P.out.1] at h; cases h
        | true =>
          have AN := show ansI t = some (nn, cs) by rw [ANS.out, if_pos ha]
          have P := Lib.hid (p_some AN)
          obtain ⟨m, hm, hm1, hm8, hm6, hmg⟩ := isPz_got ha
          have HT := (ans_in AN).2.1
          have G := Lib.hid (fun wx hx => (by have := pzGood nn (.slice ua ul uc) cs wx hx; rwa [ha] at this : Calls Tryd.prog 15 #[.agg #[.int .i64 nn, (.slice ua ul uc)]] wx fun e w' => e = .returned (.bool true) ∧ Below wx.heap.size wx w'))
          have TX := Lib.hid (fun wx hx => (by have := pzText m (.slice ua ul uc) cs wx hx hmg hm8 hm6; rwa [← hm, HT] at this : Calls Tryd.prog 16 #[.agg #[.int .i64 nn, (.slice ua ul uc)]] wx fun e w' => e = .returned (.string t) ∧ Below wx.heap.size wx w'))
          clear ha AN hm hm1 hm8 hm6 hmg HT
          go_wp2_with fail
          obtain ⟨s0_, s1_, s2_⟩ := HS.out.two
          obtain ⟨y0_, y1_, y2_⟩ := YR.out.two
          first
            | (go_region_with (first
              | (go_at_call 15; (with_reducible refine (G.out _ (BSR.out.below (by (repeat (first | exact Below.refl _ _ | (refine Below.alloc ?_ (by first | omega | (simp; try omega)) _) | apply Below.drew | apply below_drewN)))).rd).mono ?_); rintro e w5 ⟨rfl, hb5⟩; have D5 := Lib.hid (Below.trans (by (repeat (first | exact Below.refl _ _ | (refine Below.alloc ?_ (by first | omega | (simp; try omega)) _) | apply Below.drew | apply below_drewN))) (hb5.mono (by first | exact Nat.le_refl _ | (simp; try omega))) : Below wr.heap.size wr w5); have S5 := Lib.hid (HS.out.below D5.out HS.out.lt); have Y5 := Lib.hid (YR.out.below D5.out YR.out.lt); have I5 := Lib.hid (BSR.out.below D5.out); have HB5 := Lib.hid (HBR.out.trans (D5.out.mono HBR.out.size)); obtain ⟨s50, s51, s52⟩ := S5.out.two; obtain ⟨y50, y51, y52⟩ := Y5.out.two; have f0 := Y5.out.fr 0; have f1 := Y5.out.fr 1; clear hb5; skip)
              | (go_at_call 16; (with_reducible refine (TX.out _ (I5.out.below (by (repeat (first | exact Below.refl _ _ | (refine Below.alloc ?_ (by first | omega | (simp; try omega)) _) | apply Below.drew | apply below_drewN)))).rd).mono ?_); rintro e w6 ⟨rfl, hb6⟩; have D6 := Lib.hid (Below.trans (by (repeat (first | exact Below.refl _ _ | (refine Below.alloc ?_ (by first | omega | (simp; try omega)) _) | apply Below.drew | apply below_drewN))) (hb6.mono (by first | exact Nat.le_refl _ | (simp; try omega))) : Below w5.heap.size w5 w6); have S6 := Lib.hid (S5.out.below D6.out S5.out.lt); have Y6 := Lib.hid (Y5.out.below D6.out Y5.out.lt); have I6 := Lib.hid (I5.out.below D6.out); have HB6 := Lib.hid (HB5.out.trans (D6.out.mono HB5.out.size)); obtain ⟨s60, s61, s62⟩ := S6.out.two; obtain ⟨y60, y61, y62⟩ := Y6.out.two; have f0 := Y6.out.fr 0; have f1 := Y6.out.fr 1; clear hb6; skip)
              | fail))
            | fail
          all_goals
            go_wp2
            have p0 : ((World.setCell _ ⟨w.heap.size, 0, none⟩ (.int .i64 nn)).setCell ⟨w.heap.size, 1, none⟩ (.slice ua ul uc)).cell? ⟨w.heap.size, 0, none⟩ = some (.int .i64 nn) := (((Y6.out.set 0 (.int .i64 nn)).set 1 (.slice ua ul uc)).cell 0).trans (by simp)
            have p1 : ((World.setCell _ ⟨w.heap.size, 0, none⟩ (.int .i64 nn)).setCell ⟨w.heap.size, 1, none⟩ (.slice ua ul uc)).cell? ⟨w.heap.size, 1, none⟩ = some (.slice ua ul uc) := (((Y6.out.set 0 (.int .i64 nn)).set 1 (.slice ua ul uc)).cell 1).trans (by simp)
            refine bodyPost_ret (v := .tuple #[.agg #[.int .i64 nn, (.slice ua ul uc)], .bool true]) (by simp [results, Tryd.results23, go_sem, p0, p1]) rfl ⟨_, _, by rw [P.out.1], ⟨cs, ?_, ?_⟩, (HB6.out.setCell (by simp) _).setCell (by simp) _⟩
            · exact ((I6.out.far (p := ⟨w.heap.size, 0, none⟩) lt1 _).far (p := ⟨w.heap.size, 1, none⟩) lt1 _).mono (Nat.le_of_lt lt1)
            · intro _; exact ⟨P.out.2.1.symm, P.out.2.2.symm⟩
end Go.Proofs.YtcpipacombnhdaaDoor
