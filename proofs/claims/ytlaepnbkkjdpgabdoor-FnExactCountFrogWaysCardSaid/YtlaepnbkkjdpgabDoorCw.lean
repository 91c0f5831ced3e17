/- CountFrogWays, impl and spec. -/
import Derived.Test.YtlaepnbkkjdpgabDoorWm
import Derived.Test.YtlaepnbkkjdpgabDoorPr
namespace Go.Proofs.YtlaepnbkkjdpgabDoor
set_option linter.unusedVariables false
open Go.RowKit Go.Maps

def cwV (s g : ByteArray) : Value := if bothP s g then .tuple #[.int .i64 (valL (reach s) (reachT s).2.2 g), .bool (memB (reach s) g)] else .tuple #[.int .i64 0, .bool false]
theorem cwV_no {s g : ByteArray} (h : bothP s g = false) : cwV s g = .tuple #[.int .i64 0, .bool false] := by simp [cwV, h]
theorem cwV_yes {s g : ByteArray} (h : bothP s g = true) : cwV s g = .tuple #[.int .i64 (valL (reach s) (reachT s).2.2 g), .bool (memB (reach s) g)] := by simp [cwV, h]
theorem cwV_form (s g : ByteArray) : ∃ x y, cwV s g = .tuple #[.int .i64 x, .bool y] := by unfold cwV; split <;> exact ⟨_, _, rfl⟩
theorem both_in {s g : ByteArray} (h : bothP s g = true) : isPd s = true ∧ isPd g = true := by
  unfold bothP at h
  simp only [Bool.and_eq_true] at h
  exact h.1

theorem specReachE (s : ByteArray) (w : World) (L : List ByteArray) (T : T3) (hp : isPd s = true) (hL : reach s = L) (hT : reachT s = T) :
    Calls Tryd.prog 34 #[.string s] w fun e w' => ∃ v6 v7 v8 v9, e = .returned (.tuple #[v6, v7, v8, v9]) ∧ Strg w' w.heap.size v6 L ∧ Ints w' w.heap.size v9 T.2.2 ∧ Below w.heap.size w w' := by
  subst hL
  subst hT
  exact (specReach s w hp).mono fun e w' ⟨v6, v7, v8, v9, he, h1, _, _, h4, h5⟩ => ⟨v6, v7, v8, v9, he, h1, h4, h5⟩

set_option maxHeartbeats 2000000 in
set_option maxRecDepth 100000 in
theorem specCw (s g : ByteArray) (w : World) (hs : s.size ≤ 1048576 ∧ g.size ≤ 1048576) :
    Calls Tryd.prog 18 #[.string s, .string g] w fun e w' => e = .returned (cwV s g) ∧ Below w.heap.size w w' := by
  have hm : s.size ≤ maxLen := by unfold maxLen; omega
  have hm2 : g.size ≤ maxLen := by unfold maxLen; omega
  cases h1 : bothP s g
  · have J := Lib.hid (cwV_no h1)
    have G := Lib.hid h1
    clear h1
    go_enter Tryd.func18, Tryd.ntmps18
    go_wp2_with (go_at_call 33; refine (specBoth _ _ _ hm hm2).mono ?_; rintro e w' ⟨rfl, rfl⟩; rw [G.out])
    go_ret2
    exact ⟨ret_v J.out.symm, Below.refl _ _⟩
  · have J0 := cwV_yes h1
    have G := Lib.hid h1
    have hps := (both_in h1).1
    have hp := reach_pos s
    have hl := reach_len hps
    have hln : (reachT s).2.2.length = (reach s).length := (reachT_lens s).2.2
    obtain ⟨L, hL⟩ : ∃ L, reach s = L := ⟨_, rfl⟩
    obtain ⟨T, hT⟩ : ∃ T, reachT s = T := ⟨_, rfl⟩
    rw [hL] at hp hl hln J0
    rw [hT] at hln J0
    have HP := Lib.hid (fun wx => specReachE s wx L T hps hL hT)
    have HA := Lib.hid (fun B v w h => specAt B v L g w h hp (by omega))
    clear h1 hps hL hT
    by_cases hmem : g ∈ L
    · have hi := idxL_mem.2 hmem
      rw [valL_in hmem, memB_iff.2 hmem] at J0
      have J := Lib.hid J0
      have AT := Lib.hid (atI_in hmem)
      clear J0 hmem
      generalize idxL L g = ix at *
      go_enter Tryd.func18, Tryd.ntmps18
      go_wp2_with (first
        | (go_at_call 33; refine (specBoth _ _ _ hm hm2).mono ?_; rintro e w' ⟨rfl, rfl⟩; rw [G.out])
        | (go_at_call 34; refine (HP.out _).mono ?_; rintro e w1 ⟨v6, v7, v8, v9, rfl, hS, hI, hb1⟩; (obtain ⟨g9, n9, cap9, rfl, hn9, _, _, _, _, hc9⟩ := hI.form (by omega)); have c9 := hc9 ix (by omega); have hi9 : (ix : Int) < n9 := (by omega); have HS := Lib.hid hS; have HB := Lib.hid hb1; clear hb1 hS hI hc9 hn9)
        | (go_at_call 35; (with_reducible refine (HA.out _ _ _ HS.out).mono ?_); rintro e w' ⟨rfl, rfl⟩; rw [AT.out]))
      go_ret2
      exact ⟨ret_v (by rw [J.out]; rfl), HB.out⟩
    · rw [valL_out hmem, memB_no hmem] at J0
      have J := Lib.hid J0
      have AT := Lib.hid (atI_out hmem)
      clear J0 hmem
      go_enter Tryd.func18, Tryd.ntmps18
      go_wp2_with (first
        | (go_at_call 33; refine (specBoth _ _ _ hm hm2).mono ?_; rintro e w' ⟨rfl, rfl⟩; rw [G.out])
        | (go_at_call 34; refine (HP.out _).mono ?_; rintro e w1 ⟨v6, v7, v8, v9, rfl, hS, _, hb1⟩; have HS := Lib.hid hS; have HB := Lib.hid hb1; clear hb1 hS)
        | (go_at_call 35; (with_reducible refine (HA.out _ _ _ HS.out).mono ?_); rintro e w' ⟨rfl, rfl⟩; rw [AT.out]))
      go_ret2
      exact ⟨ret_v (by rw [J.out]; rfl), HB.out⟩

set_option maxHeartbeats 4000000 in
set_option maxRecDepth 100000 in
theorem implCw (s g : ByteArray) (p : Addr) (w : World) (hs : s.size ≤ 1048576 ∧ g.size ≤ 1048576) (hL : Laid w p) :
    Calls Tryd.prog 19 #[.string s, .string g] w fun e w' => e = .returned (cwV s g) ∧ Below w.heap.size w w' := by
  have hm : s.size ≤ maxLen := by unfold maxLen; omega
  have hm2 : g.size ≤ maxLen := by unfold maxLen; omega
  cases h1 : bothP s g
  · have J := Lib.hid (cwV_no h1)
    have G := Lib.hid h1
    clear h1
    go_enter Tryd.func19, Tryd.ntmps19
    go_wp2_with (go_at_call 37; refine (implBoth _ _ _ hm hm2).mono ?_; rintro e w' ⟨rfl, rfl⟩; rw [G.out])
    go_ret2
    exact ⟨ret_v J.out.symm, Below.refl _ _⟩
  · have J := Lib.hid (cwV_yes h1)
    have G := Lib.hid h1
    have hps := (both_in h1).1
    have hp := reach_pos s
    have hl := reach_len hps
    have HPS := Lib.hid hps
    have HL := Lib.hid hL
    have hmm := @run_makeMap Tryd.prog
    have HP := Lib.hid (fun wx (h : Laid wx p) => pondsFrom s p wx hps h)
    have RIN := Lib.hid (fun j hj h => reach_in (s := s) (j := j) hps hj h)
    have RGS := Lib.hid (fun j hj h => reach_gs (s := s) (j := j) hps hj h)
    have ROUT := Lib.hid (fun j hj h => reach_out (s := s) (j := j) hj h)
    have RAT := Lib.hid (fun j h hj => reach_at (s := s) (j := j) hps h hj)
    have TAT := Lib.hid (fun j h hj => reachT_at (s := s) (j := j) h hj)
    have z2 := (isPd_in hps).2.1
    clear h1 hps hL
    generalize reach s = R at *
    generalize reachT s = T at *
    go_enter Tryd.func19, Tryd.ntmps19
    go_wp2_with (go_at_call 37; refine (implBoth _ _ _ hm hm2).mono ?_; rintro e w' ⟨rfl, rfl⟩; rw [G.out])
    have m0 := IMap.made w
    refine upon_putI m0 (by unfold maxLen; omega) hm (by decide) ?_
    intro w2 hM2 hg2
    go_simp
    have hM2' := (hM2.congr (f' := valL (bfs s 0) (bT s 0).2.2) (g' := memB (bfs s 0)) (fun c => valL_start s c) (fun c => by simp [memB, bfs, eq_comm])).mono (N' := 9 * 0 + 1) (by omega)
    have hBm : Below w.heap.size w w2 := ((Below.refl _ _).alloc (Nat.le_refl _) _).grown hg2 (by simp) (by intro k hk; cases hk; exact Nat.le_refl _)
    have hle2 := hBm.size
    have HM2 := Lib.hid hM2'
    have HB2 := Lib.hid hBm
    have L2 := Lib.hid (HL.out.below hBm)
    clear m0 hM2 hg2 hM2' hBm
    go_wp2_with (go_at_call 40; refine (HP.out _ L2.out).mono ?_; rintro e w3 ⟨v, rfl, hS, hb3⟩; (obtain ⟨gP, nP, capP, rfl, hnP, _, _, _, _, _⟩ := hS.form hp); have HS3 := Lib.hid (strg_mono hS hle2); have HM3 := Lib.hid (HM2.out.below hb3); have HB3 := Lib.hid (HB2.out.trans (hb3.mono hle2)); have HNP := Lib.hid hnP; have hnl : nP ≤ 262144 := (by omega); clear hS hb3 hnP)
    go_loopw [23] (fun i wr => ∃ j : Nat, j ≤ nP ∧ i = .int .i64 j ∧ Hid (Strg wr w.heap.size (.slice (some ⟨gP, 0, none⟩) nP capP) R) ∧ Hid (IMap wr w.heap.size (9 * j + 1) (valL (bfs s j) (bT s j).2.2) (memB (bfs s j))) ∧ Hid (Below w.heap.size w wr)) (fun i _ => nP - (intOf i).toNat)
    case atStart => exact ⟨0, Nat.zero_le _, rfl, HS3, HM3, HB3⟩
    case round =>
      clear HS3 HM3 HB3 HM2 HB2 L2
      obtain ⟨j, hj, rfl, hS, hM, hB⟩ := hrel
      by_cases hlt : j < nP
      · have hjb := RIN.out j (by omega) (by rw [← HNP.out]; exact hlt)
        have hgsj := RGS.out j (by omega) (by rw [← HNP.out]; exact hlt)
        obtain ⟨g', n', cap', e', hn', _, _, hg1, hg2, hcell⟩ := hS.out.form hp
        injection e' with e1 e2 e3
        injection e1 with e1
        injection e1 with e1 _ _
        subst e1 e2 e3
        have hcj := hcell j hlt
        rw [hgsj] at hcj
        have hpds := bfs_pds HPS.out j
        have hlen := hpds.len z2
        have hq := hpds.2 _ (gs_mem hjb)
        have SU := Lib.hid (bfs_succ hjb)
        have TU := Lib.hid (bT_succ hjb)
        have TL := Lib.hid (bT_lens s j)
        have hjn' : (j : Int) < nP := by omega
        have LR := Lib.hid (HL.out.below hB.out)
        have hleB := hB.out.size
        have hq1 := Lib.hid hq.1
        have hq2 := hq.2
        have PD := Lib.hid hpds
        generalize hqq : gs (bfs s j) j = q at *
        have HQQ := Lib.hid hqq
        unfold gs at hqq
        rw [hqq] at SU TU
        generalize hLL : bfs s j = L at *
        have HLL := Lib.hid hLL
        generalize htt : bT s j = t at *
        have HTT := Lib.hid htt
        clear hq hqq hLL htt hcell hpds hn' hgsj
        have hz := (isPd_in hq1.out).2.1
        have hml : (moves q).length ≤ 9 := by have := mvTo_len q q.size; unfold moves; omega
        have hqm : q.size ≤ maxLen := by unfold maxLen; omega
        go_wp2_with (go_at_call 41; refine (movesOf q p _ hq1.out LR.out).mono ?_; rintro e w4 ⟨vm, rfl, hMv, hb3⟩; obtain ⟨a', n', cap', rfl, hn', _⟩ := hMv.form; have HMv := Lib.hid hMv; have HN' := Lib.hid hn'; have S3 := Lib.hid (hS.out.below hb3); have M3 := Lib.hid (hM.out.below hb3); have B3 := Lib.hid (hB.out.trans (hb3.mono hleB)); clear hMv hb3 hn')
        have hn9 : n' ≤ 9 := by have := HN'.out; omega
        obtain ⟨wo, rfl⟩ : ∃ wo : World, wo = wr := ⟨_, rfl⟩
        go_loopw [30] (fun i wi => ∃ k : Nat, k ≤ n' ∧ i = .int .i64 k ∧ Hid (Strg wi w.heap.size (.slice (some ⟨gP, 0, none⟩) nP capP) R) ∧ Hid (IMap wi w.heap.size (9 * j + 1 + k) (valL (exTo L q k) (inT L q j t k).2.2) (memB (exTo L q k))) ∧ Hid (Moves wi wo.heap.size (.slice a' n' cap') q (moves q)) ∧ Hid (Below w.heap.size w wi)) (fun i _ => n' - (intOf i).toNat)
        case atStart => exact ⟨0, Nat.zero_le _, rfl, S3, M3, HMv, B3⟩
        case round =>
          clear HMv S3 M3 B3 hS hM hB
          obtain ⟨k, hk, rfl, hS, hM, hMv, hB⟩ := hrel
          have hleB2 := hB.out.size
          by_cases hlt2 : k < n'
          · have hkm : k < (moves q).length := by rw [← HN'.out]; exact hlt2
            obtain ⟨g', rfl, hg', hc0, hc1⟩ := hMv.out.cells (j := k) hkm
            obtain ⟨R0, hR0⟩ := exTo_pre L q k (by omega)
            have hpe := exTo_pds PD.out hq1.out hq2 k (by omega)
            have hgsq : gs (exTo L q k) j = q := by
              have h := HQQ.out
              unfold gs at h ⊢
              rw [hR0, pre_at hjb]; exact h
            have hLe : j < (exTo L q k).length := by rw [hR0, List.length_append]; omega
            have LN := inT_lens (q := q) (a := j) TL.out k (by omega)
            have hxm : (moves q).getD k 0 ∈ moves q := by
              rw [List.getD_eq_getElem?_getD, List.getElem?_eq_getElem hkm]; exact List.getElem_mem _
            have hgz := (isPd_goes hq1.out hxm).2
            have V0 := fun c => (valL_step (i := (moves q).getD k 0) (r := goes q ((moves q).getD k 0)) LN hpe.1 hLe hgsq c).trans (show valL (addN (exTo L q k) (goes q ((moves q).getD k 0))) (stepT (exTo L q k) j ((moves q).getD k 0) (goes q ((moves q).getD k 0)) (inT L q j t k)).2.2 c = valL (exTo L q (k + 1)) (inT L q j t (k + 1)).2.2 c by rw [exTo_succ hkm]; rfl)
            have V1 := fun c => (memB_addN (exTo L q k) (goes q ((moves q).getD k 0)) c).trans (show memB (addN (exTo L q k) (goes q ((moves q).getD k 0))) c = memB (exTo L q (k + 1)) c by rw [exTo_succ hkm])
            clear hxm hR0 hpe hgsq hLe LN
            generalize (moves q).getD k 0 = x at *
            have hsz : (goes q x).size ≤ maxLen := by unfold maxLen; omega
            generalize goes q x = r at *
            have hbA := (Below.refl wr.heap.size wr).alloc (Nat.le_refl _) (.cells #[.int .i64 (x : Int), .string r] 51)
            have SA := Lib.hid (hS.out.below hbA)
            have MA := Lib.hid (hM.out.below hbA)
            have VA := Lib.hid (hMv.out.below hbA)
            have BA := Lib.hid (hB.out.trans (hbA.mono hleB2))
            have hlk := MA.out.get (c := r) hsz
            have hlk2 := MA.out.get (c := q) hqm
            clear hbA hgz
            have hwf := wf_wrap (valL (exTo L q k) (inT L q j t k).2.2 r + valL (exTo L q k) (inT L q j t k).2.2 q)
            have V0' := Lib.hid V0
            have V1' := Lib.hid V1
            clear V0 V1
            generalize valL (exTo L q k) (inT L q j t k).2.2 r = y1 at *
            generalize valL (exTo L q k) (inT L q j t k).2.2 q = y2 at *
            have hNm : 9 * j + 1 + k < maxLen := by unfold maxLen; omega
            have d0 : (wr.alloc (.cells #[.int .i64 (x : Int), .string r] 51)).cell? ⟨wr.heap.size, 1, none⟩ = some (.string r) := by simp
            have D0 := Lib.hid d0
            clear d0
            go_wp2_with (at_mapUpdate; refine wpList_putI rfl MA.out hNm r hsz _ hwf _ _ _ rfl rfl rfl rfl ?_; intro w5 hM5 hg5; have S5 := Lib.hid (SA.out.kept hg5 (MA.out.neS SA.out)); have V5 := Lib.hid (VA.out.kept hg5 (MA.out.neM VA.out)); have B5 := Lib.hid (BA.out.grown hg5 BA.out.size (by intro b hb; cases hb; exact Nat.le_refl _)); have HM5 := Lib.hid (hM5.congr V0'.out V1'.out); clear hM5 hg5)
            go_roundw
            case rel => exact ⟨k + 1, by omega, by go_num, S5, HM5, V5, B5⟩
            case measure => (simp [intOf]; try omega)
          · obtain rfl : k = n' := by omega
            have EX := Lib.hid (show exTo L q k = bfs s (j + 1) by rw [SU.out]; unfold exAll; rw [← HN'.out])
            have TX := Lib.hid (show inT L q j t k = bT s (j + 1) by rw [TU.out, HN'.out])
            rw [EX.out, TX.out] at hM
            have HM6 := Lib.hid (hM.out.mono (N' := 9 * (j + 1) + 1) (by omega))
            clear hM
            go_wp2
            go_roundw
            case rel => exact ⟨j + 1, by omega, by go_num, hS, HM6, hB⟩
            case measure => (simp [intOf]; try omega)
      · have hnot := ROUT.out j (by omega) (by rw [← HNP.out]; exact hlt)
        have e1 := RAT.out j hnot (by omega)
        have e2 := TAT.out j hnot (by omega)
        rw [e1, e2] at hM
        have hlk := hM.out.getok (c := g) hm2
        clear hnot e1 e2
        generalize valL R T.2.2 g = y1 at *
        generalize memB R g = y2 at *
        go_wp2
        go_ret2
        exact ⟨ret_v (by rw [J.out]; rfl), hB.out⟩
end Go.Proofs.YtlaepnbkkjdpgabDoor
