/- impl's coast.arrivals. -/
import Derived.Test.YtmlokapbholeoabTu
import Derived.Test.YtmlokapbholeoabTs
import Derived.Test.YtmlokapbholeoabMu
import Derived.Conc.SmallLaws
namespace Go.Proofs.Ytmlokapbholeoab
set_option linter.unusedVariables false
open Go.RowKit Go.Maps Go.Conc

theorem infoMom : (Try.prog.info? 56).map (fun i => i.bytes) = some 16 := by kernel_rfl
theorem mkChan (w : World) (n : Nat) (hn : n ≤ 1000) : (Instr.makeChan 53 (.int .i64 (n : Int))).run Try.prog w = .ok (.chan (some w.heap.size)) (w.alloc (.chan n #[] false 0 0 false)) := by
  obtain ⟨i, hi, hb⟩ : ∃ i, Try.prog.info? 56 = some i ∧ i.bytes = 16 := by
    have := infoMom
    cases e : Try.prog.info? 56 with
    | none => rw [e] at this; simp at this
    | some i => rw [e] at this; exact ⟨i, rfl, by simpa using this⟩
  exact run_makeChan (P := Try.prog) (w := w) Try.underlying53 hi .i64 n (by omega) (by rw [hb]; omega)
theorem ints_same {w w' : World} {B g n cap : Nat} {zs : List Int} (h : Ints w B (.slice (some ⟨g, 0, none⟩) n cap) zs) (e : w'.heap[g]? = w.heap[g]?) : Ints w' B (.slice (some ⟨g, 0, none⟩) n cap) zs := by
  refine ⟨h.1, ?_⟩
  rcases h.2 with h2 | ⟨g', cap, cur, e2, h1, hg, h3, h4, h5, h6⟩
  · exact .inl h2
  · injection e2 with e3 e4 e5
    injection e3 with e3
    injection e3 with e3
    subst e3
    exact .inr ⟨g, cap, cur, by rw [e4, ← e5], h1, e.trans hg, h3, h4, h5, h6⟩
set_option maxHeartbeats 8000000 in
theorem arrivals (sh ti : ByteArray) (l s : Nat) (w : World) (hg : good sh ti = true) (hl : l ≤ 100) (hs : s ≤ 2000) :
    Calls Try.prog 30 #[cst sh ti, .int .i64 (l : Int), .int .i64 (s : Int)] w fun e w' => ∃ d, e = .returned (.slice (some ⟨d, 0, none⟩) (sh.size + 2) (sh.size + 2)) ∧
      Ints w' w.heap.size (.slice (some ⟨d, 0, none⟩) (sh.size + 2) (sh.size + 2)) (fl (sh.size + 2) (arV sh ti l s)) ∧ Below w.heap.size w w' := by
  obtain ⟨⟨z1, z2, _⟩, ⟨z3, z4, _⟩⟩ := good_in hg
  have HG := Lib.hid hg
  obtain ⟨N, hN⟩ : ∃ N, N = sh.size + 2 := ⟨_, rfl⟩
  have hN1 : 3 ≤ N ∧ N ≤ 16 := by omega
  have HN := Lib.hid hN
  rw [← hN]
  obtain ⟨C, hC⟩ : ∃ C, C = N * ti.size := ⟨_, rfl⟩
  have hC1 : C ≤ 192 := by rw [hC]; exact Nat.le_trans (Nat.mul_le_mul (show N ≤ 16 by omega) (show ti.size ≤ 12 by omega)) (by omega)
  have CI := Lib.hid (show (N : Int) * (ti.size : Int) = (C : Int) by rw [hC]; push_cast; rfl)
  have HC := Lib.hid hC
  have hC0 : 0 < C := by rw [hC]; exact Nat.mul_pos (by omega) (by omega)
  have X0 := Lib.hid (Blk.new w #[.string sh, .string ti] 37)
  have X1 := Lib.hid ((Blk.new w #[.string sh, .string ti] 37).alloc (.cells #[.int .i64 (-1)] 3))
  have Y1 := Lib.hid ((Blk.new (w.alloc (.cells #[.string sh, .string ti] 37)) #[.int .i64 (-1)] 3))
  have B1 := Lib.hid (((Below.refl w.heap.size w).alloc (Nat.le_refl _) (.cells #[.string sh, .string ti] 37)).alloc (by simp) (.cells #[.int .i64 (-1)] 3))
  have FB := fun wx => farBankC sh ti wx (by omega)
  have FB2 : ∀ wx, Calls Try.prog 46 #[cst sh ti] wx fun e w' => e = .returned (.int .i64 ((N : Int) - 1)) ∧ Below wx.heap.size wx w' := by
    intro wx
    have := FB wx
    rwa [show ((sh.size : Int) + 1) = (N : Int) - 1 by omega] at this
  have HFB := Lib.hid FB2
  have hN2 : (N : Int) - 1 + 1 = (N : Int) := by omega
  have hs1 : (w.alloc (.cells #[.string sh, .string ti] 37)).heap.size = w.heap.size + 1 := by simp
  rw [hs1] at Y1
  unfold cst at *
  obtain ⟨c0, c1, cl⟩ := X1.out.two
  obtain ⟨w1, hw1⟩ : ∃ w1, w1 = (w.alloc (.cells #[.string sh, .string ti] 37)).alloc (.cells #[.int .i64 (-1)] 3) := ⟨_, rfl⟩
  have hsw : w1.heap.size = w.heap.size + 2 := by rw [hw1]; simp
  rw [← hw1] at X1 Y1 B1 c0 c1 cl
  have HW1 := Lib.hid hw1
  clear hg hN hC FB FB2 hs1 hw1
  go_enter Try.func30, Try.ntmps30
  go_wp2_with fail
  rw [← HW1.out]
  refine (HFB.out _).mono ?_
  rintro e w2 ⟨rfl, hb2⟩
  have X2 := Lib.hid (X1.out.below hb2 cl)
  have Y2 := Lib.hid (Y1.out.below hb2 Y1.out.lt)
  have B2 := Lib.hid (B1.out.trans (hb2.mono (by omega)))
  have hs2 := hb2.size
  have RP := Lib.hid (repeat1 N (w.heap.size + 1) w2 hN1 Y2.out.lt (Y2.out.cell 0))
  clear hb2 c0 c1 cl X1 Y1 B1
  go_wp2_with fail
  refine RP.out.mono ?_
  rintro e w3 ⟨d, rfl, hI3, hb3⟩
  have hdb := hI3.blk
  have I3 := Lib.hid (show Ints w3 w2.heap.size (.slice (some ⟨d, 0, none⟩) N N) (fl N (fh ((bf sh ti l s 0).take 0))) by
    rw [fl_ext (g := fun _ => (-1 : Int)) fun j _ => by simp [fh]]; exact hI3)
  have X3 := Lib.hid (X2.out.below hb3 X2.out.lt)
  have B3 := Lib.hid (B2.out.trans (hb3.mono (by omega)))
  have hs3 := hb3.size
  clear hb3 hI3 X2 Y2 B2 RP
  obtain ⟨e0, e1, el⟩ := X3.out.two
  have hmc := mkChan w3 C (by omega)
  have hmm := @run_makeMap Try.prog
  have hci := CI.out
  have W9 : IntKind.i64.wrap (C : Int) = (C : Int) := IntWalk.i64_in _ (by omega)
  go_upto_region 4 with fail
  obtain ⟨w4, hw4⟩ : ∃ w4, w4 = (w3.alloc (.chan C #[] false 0 0 false)).alloc (.map #[] 0) := ⟨_, rfl⟩
  have hs4 : w4.heap.size = w3.heap.size + 2 := by rw [hw4]; simp
  have hs4a : (w3.alloc (.chan C #[] false 0 0 false)).heap.size = w3.heap.size + 1 := by simp
  have A4 : Below w3.heap.size w3 w4 := by rw [hw4]; exact ((Below.refl _ _).alloc (Nat.le_refl _) _).alloc (by simp) _
  have I4 := Lib.hid (I3.out.below A4)
  have X4 := Lib.hid (X3.out.below A4 X3.out.lt)
  have B4 := Lib.hid (B3.out.trans (A4.mono (by omega)))
  have M4 := Lib.hid (show MMap w4 (w3.heap.size + 1) ti (bf sh ti l s 0) by
    have := MMap.made (w3.alloc (.chan C #[] false 0 0 false)) ti (0, s)
    rw [hs4a] at this
    rw [hw4]; exact this)
  have C4 := Lib.hid (show Chn w4 w3.heap.size C [] 0 by
    refine ⟨0, ?_⟩
    rw [hw4, Below.heap_alloc _ _ _ (by simp)]
    exact heap_alloc_new w3 _)
  have HW4 := Lib.hid hw4
  obtain ⟨sn, hch, hC5⟩ := C4.out.send (0, s)
  have G5 := grown_setChan w4 w3.heap.size C (([].map mv).toArray.push (mv (0, s))) false (sn + 1) 0 false
  obtain ⟨w5, hw5⟩ : ∃ w5, w5 = w4.setChan w3.heap.size C (([].map mv).toArray.push (mv (0, s))) false (sn + 1) 0 false := ⟨_, rfl⟩
  rw [← hw5] at hC5 G5
  have HW5 := Lib.hid hw5
  have C5 := Lib.hid (show Chn w5 w3.heap.size C ((bf sh ti l s 0).drop 0) 0 from hC5)
  have I5 := Lib.hid (I4.out.kept G5 (by right; simp [Value.ownBlock]; omega))
  have X5 := Lib.hid (X4.out.kept G5 (by intro c; injection c with c; omega))
  have M5 := Lib.hid (M4.out.kept G5 (by intro c; injection c with c; omega))
  have B5 := Lib.hid (B4.out.grown G5 (by omega) (by intro j hj; injection hj with hj; omega))
  have hs5 := G5.size
  clear hw4 hw5 A4 I3 X3 B3 I4 X4 M4 B4 hC5 G5 e0 e1 el
  rw [← HW4.out]
  have hmv : mv (0, s) = .agg #[.int .i64 0, .int .i64 (s : Int)] := by simp [mv]
  rw [hmv] at HW5
  refine OpsTo.region ?_
  show OpsTo _ _ _ [0, 1, 2, 3] _ _
  refine OpsTo.val 24 (.chan (some w3.heap.size)) w4 rfl rfl rfl (by simp [execOp]; rfl) ?_
  simp only [List.setIfInBounds_toArray, List.set_cons_succ, List.set_cons_zero]
  refine OpsTo.val 25 (.int .i64 (s : Int)) w4 rfl rfl rfl (by simp [execOp]; rfl) ?_
  simp only [List.setIfInBounds_toArray, List.set_cons_succ, List.set_cons_zero]
  refine OpsTo.val 26 (.agg #[.int .i64 0, .int .i64 (s : Int)]) w4 rfl rfl rfl (by go_simp) ?_
  simp only [List.setIfInBounds_toArray, List.set_cons_succ, List.set_cons_zero]
  refine OpsTo.snd (c := w3.heap.size) (cap := C) (s := sn) (r := 0) (tm := false) (v := .agg #[.int .i64 0, .int .i64 (s : Int)]) (z := .tuple #[]) rfl rfl rfl (by simp [go_sem, execOp, scase, Act.eval]) hch (by simpa using hC0) ?_
  refine OpsTo.nil ?_
  rw [← HW5.out]
  clear hch hmc hci hmm
  go_wp2_with fail
  go_loopw [] (fun wr => ∃ i : Nat, i ≤ (bf sh ti l s i).length ∧ Hid (MMap wr (w3.heap.size + 1) ti (bf sh ti l s i)) ∧ Hid (Chn wr w3.heap.size C ((bf sh ti l s i).drop i) i) ∧ Hid (Ints wr w2.heap.size (.slice (some ⟨d, 0, none⟩) N N) (fl N (fh ((bf sh ti l s i).take i)))) ∧ Hid (Blk wr w.heap.size #[.string sh, .string ti]) ∧ Hid (Below w.heap.size w wr)) (fun wr => C + 2 - chR wr w3.heap.size)
  case atStart => exact ⟨0, Nat.zero_le _, M5, C5, I5, X5, B5⟩
  case round =>
    clear M5 C5 I5 X5 B5
    obtain ⟨i, hi, M1, C1, I1, X1, B1⟩ := hrel
    have BI := bf_all sh ti l s i
    have hlen := BI.len (by omega)
    rw [← HN.out, ← HC.out] at hlen
    have hcr := C1.out.r
    have hdb1 := I1.out.blk
    by_cases hlt : i < (bf sh ti l s i).length
    · obtain ⟨m, hm⟩ : ∃ m, (bf sh ti l s i)[i]? = some m := ⟨_, List.getElem?_eq_getElem hlt⟩
      obtain ⟨m1, m2, _⟩ := BI.ok m (List.mem_of_getElem? hm)
      have m3 := BI.hrs i m hm
      have hnx := bf_some hm
      have BN := bf_all sh ti l s (i + 1)
      have hlen2 := BN.len (by omega)
      have hne := BI.ne
      rw [← HN.out, ← HC.out] at hlen2
      have hdr : (bf sh ti l s i).drop i = m :: (bf sh ti l s i).drop (i + 1) := by
        rw [List.drop_eq_getElem_cons hlt]
        congr 1
        rw [List.getElem?_eq_getElem hlt] at hm
        exact Option.some.inj hm
      have htk : (bf sh ti l s (i + 1)).take (i + 1) = (bf sh ti l s i).take i ++ [m] := by
        obtain ⟨A, eA, _⟩ := goE_app sh ti (bf sh ti l s i) (m.1 - l) (m.2 + 1) (cnt sh l m.1)
        rw [hnx, eA, List.take_append_of_le_length hlt, List.take_succ_eq_append_getElem hlt]
        rw [List.getElem?_eq_getElem hlt] at hm
        rw [Option.some.inj hm]
      obtain ⟨p, x⟩ := m
      dsimp only at m1 m2 m3 hnx htk
      have C1b := C1.out
      rw [hdr] at C1b
      obtain ⟨sn, hch, hC6⟩ := C1b.recv
      have G6 := grown_setChan wr w3.heap.size C ((((p, x) :: (bf sh ti l s i).drop (i + 1)).map mv).toArray.extract 1 (((p, x) :: (bf sh ti l s i).drop (i + 1)).map mv).toArray.size) false sn (i + 1) false
      obtain ⟨w6, hw6⟩ : ∃ w6, w6 = wr.setChan w3.heap.size C ((((p, x) :: (bf sh ti l s i).drop (i + 1)).map mv).toArray.extract 1 (((p, x) :: (bf sh ti l s i).drop (i + 1)).map mv).toArray.size) false sn (i + 1) false := ⟨_, rfl⟩
      rw [← hw6] at hC6 G6
      have HW6 := Lib.hid hw6
      have hmw := M1.out.lt
      have hcw := C1.out.lt
      have C6 := Lib.hid hC6
      have M6 := Lib.hid (M1.out.kept G6 (by intro c; injection c with c; omega))
      have I6 := Lib.hid (I1.out.kept G6 (by right; simp [Value.ownBlock]; omega))
      have X6 := Lib.hid (X1.out.kept G6 (by intro c; injection c with c; omega))
      have B6 := Lib.hid (B1.out.grown G6 (by have := B1.out.size; omega) (by intro j hj; injection hj with hj; omega))
      have hs6 := G6.size
      obtain ⟨w7, hw7⟩ : ∃ w7, w7 = w6.alloc (.cells #[.int .i64 (p : Int), .int .i64 (x : Int)] 56) := ⟨_, rfl⟩
      have hs7 : w7.heap.size = w6.heap.size + 1 := by rw [hw7]; simp
      have A7 : Below w6.heap.size w6 w7 := by rw [hw7]; exact (Below.refl _ _).alloc (Nat.le_refl _) _
      have Z7 := Lib.hid (show Blk w7 w6.heap.size #[.int .i64 (p : Int), .int .i64 (x : Int)] by rw [hw7]; exact Blk.new _ _ _)
      have C7 := Lib.hid (C6.out.below A7)
      have M7 := Lib.hid (M6.out.below A7)
      have I7 := Lib.hid (I6.out.below A7)
      have X7 := Lib.hid (X6.out.below A7 X6.out.lt)
      have B7 := Lib.hid (B6.out.trans (A7.mono (by have := B6.out.size; omega)))
      have HW7 := Lib.hid hw7
      have hpN : p < N := by have := HN.out; omega
      have hNX := Lib.hid hnx
      have HTK := Lib.hid htk
      have HNE := Lib.hid hne
      clear hw6 hw7 A7 M6 I6 X6 B6 C6 hC6 G6 C1b M1 C1 I1 X1 B1 hdr hnx htk hm hne
      go_upto_region 6 with fail
      refine OpsTo.region ?_
      show OpsTo _ _ _ [0, 1, 2] _ _
      refine OpsTo.rcv 28 (c := w3.heap.size) (cap := C) (s := sn) (r := i) (tm := false) (closed := false) (z := .agg #[.int .i64 0, .int .i64 0]) (.agg #[.int .i64 (p : Int), .int .i64 (x : Int)]) (by simp [mv]) rfl rfl rfl (by simp [go_sem, execOp, rcase, Act.eval]) hch (by simp) ?_
      simp only [List.setIfInBounds_toArray, List.set_cons_succ, List.set_cons_zero]
      rw [← HW6.out]
      refine OpsTo.val 29 (goInt 0) w6 rfl rfl rfl (by simp [execOp]; first | rfl | exact ⟨rfl, rfl⟩) ?_
      simp only [List.setIfInBounds_toArray, List.set_cons_succ, List.set_cons_zero]
      refine OpsTo.val 30 (.bool true) w6 rfl rfl rfl (by go_simp) ?_
      simp only [List.setIfInBounds_toArray, List.set_cons_succ, List.set_cons_zero]
      refine OpsTo.nil ?_
      go_upto_region 9 with fail
      rw [← HW7.out]
      obtain ⟨z0, z1', zl⟩ := Z7.out.two
      have cf := I7.out.at_ hpN
      have ff := I7.out.fr_ p
      have hpn : (p : Int) < N := by omega
      have hp0 : (0 : Int) ≤ p := by omega
      have hdw := I7.out.blk
      have hmw7 := M7.out.lt
      have hcw7 := C7.out.lt
      have HFH := Lib.hid (fun q => fh_snoc ((bf sh ti l s i).take i) (p, x) q)
      dsimp only at HFH
      have GOON := Lib.hid (fun wx (a1 : MMap wx (w3.heap.size + 1) ti (bf sh ti l s i)) (a2 : Chn wx w3.heap.size C ((bf sh ti l s i).drop (i + 1)) (i + 1)) => goOn sh ti l p x (w3.heap.size + 1) w3.heap.size C (i + 1) (i + 1) (bf sh ti l s i) wx HG.out hl m1 (by omega) a1 a2 (by omega) HNE.out hlt (by rw [← hNX.out]; omega) (by rw [← hNX.out]; omega))
      unfold cst mv at GOON
      by_cases hneg : fh ((bf sh ti l s i).take i) p < 0
      · have S := I7.out.put p (x : Int)
        rw [fl_ext (g := fh ((bf sh ti l s (i + 1)).take (i + 1))) fun j _ => by
          rw [HTK.out, HFH.out j]
          by_cases e : j = p
          · subst e; simp [hneg]
          · simp [e]] at S
        have S1 := Lib.hid S.1
        have M8 := Lib.hid (M7.out.kept S.2 (by intro c; injection c with c; omega))
        have C8 := Lib.hid (C7.out.kept S.2 (by intro c; injection c with c; omega))
        have X8 := Lib.hid (X7.out.kept S.2 (by intro c; injection c with c; omega))
        have Z8 := Lib.hid (Z7.out.kept S.2 (by intro c; injection c with c; omega))
        have B8 := Lib.hid (B7.out.grown S.2 (by have := B7.out.size; omega) (by intro j hj; injection hj with hj; omega))
        obtain ⟨e0, e1, el⟩ := X8.out.two
        obtain ⟨y0, y1, yl⟩ := Z8.out.two
        have GO := Lib.hid (GOON.out _ M8.out C8.out)
        have hs8 : (w7.setCell ⟨d, p, none⟩ (.int .i64 (x : Int))).heap.size = w7.heap.size := World.size_setCell _ _ _
        clear S I7 M7 C7 X7 Z7 B7 GOON
        generalize fh ((bf sh ti l s i).take i) p = y at *
        go_wp2_with fail
        refine GO.out.mono ?_
        rintro e w9 ⟨rfl, hM9, hC9, hK9⟩
        rw [← hNX.out] at hM9 hC9
        have M9 := Lib.hid hM9
        have C9 := Lib.hid hC9
        have I9 := Lib.hid (show Ints w9 w2.heap.size (.slice (some ⟨d, 0, none⟩) N N) _ from ints_same S1.out (hK9.block d (by omega) (by omega) (by omega)))
        have X9 := Lib.hid (hK9.blk X8.out (by omega) (by omega))
        have B9 := Lib.hid (B8.out.trans (hK9.below (by omega) (by omega) (by rw [hs8]; have := B8.out.size; rw [hs8] at this; omega)))
        have hl9 : i + 1 ≤ (bf sh ti l s (i + 1)).length := by
          have := congrArg List.length HTK.out
          simp at this; omega
        have hr9 := hC9.r
        clear hM9 hC9 hK9 GO
        go_wp2
        go_roundw
        case rel => exact ⟨i + 1, hl9, M9, C9, I9, X9, B9⟩
        case measure => (rw [hr9, hcr]; omega)
      · have I8 := Lib.hid (show Ints w7 w2.heap.size (.slice (some ⟨d, 0, none⟩) N N) (fl N (fh ((bf sh ti l s (i + 1)).take (i + 1)))) by
          rw [fl_ext (g := fh ((bf sh ti l s i).take i)) fun j _ => by
            rw [HTK.out, HFH.out j]
            by_cases e : j = p
            · subst e; simp [hneg]
            · simp [e]]
          exact I7.out)
        obtain ⟨e0, e1, el⟩ := X7.out.two
        have GO := Lib.hid (GOON.out _ M7.out C7.out)
        clear I7 GOON
        generalize fh ((bf sh ti l s i).take i) p = y at *
        go_wp2_with fail
        refine GO.out.mono ?_
        rintro e w9 ⟨rfl, hM9, hC9, hK9⟩
        rw [← hNX.out] at hM9 hC9
        have M9 := Lib.hid hM9
        have C9 := Lib.hid hC9
        have I9 := Lib.hid (show Ints w9 w2.heap.size (.slice (some ⟨d, 0, none⟩) N N) _ from ints_same I8.out (hK9.block d (by omega) (by omega) (by omega)))
        have X9 := Lib.hid (hK9.blk X7.out (by omega) (by omega))
        have B9 := Lib.hid (B7.out.trans (hK9.below (by omega) (by omega) B7.out.size))
        have hl9 : i + 1 ≤ (bf sh ti l s (i + 1)).length := by
          have := congrArg List.length HTK.out
          simp at this; omega
        have hr9 := hC9.r
        clear hM9 hC9 hK9 GO
        go_wp2
        go_roundw
        case rel => exact ⟨i + 1, hl9, M9, C9, I9, X9, B9⟩
        case measure => (rw [hr9, hcr]; omega)
    · have hdr : (bf sh ti l s i).drop i = [] := List.drop_eq_nil_of_le (by omega)
      have C1b := C1.out
      rw [hdr] at C1b
      obtain ⟨sn, hch⟩ := C1b
      have I2 := Lib.hid (show Ints wr w.heap.size (.slice (some ⟨d, 0, none⟩) N N) (fl N (arV sh ti l s)) from ints_mono' (by
        rw [fl_ext (g := fh ((bf sh ti l s i).take i)) fun j hj => by
          rw [List.take_of_length_le (by omega)]
          exact (BI.fh_arr (by omega) (by omega) (kHrs_ge sh ti) (by have := HN.out; omega)).symm]
        exact I1.out) (by omega))
      clear M1 C1 I1 X1 hdr
      go_upto_region 6 with fail
      refine OpsTo.region ?_
      show OpsTo _ _ _ [0, 1, 2] _ _
      refine OpsTo.dfl 28 (c := w3.heap.size) (cap := C) (s := sn) (r := i) (tm := false) (z := .agg #[.int .i64 0, .int .i64 0]) rfl rfl rfl (by simp [go_sem, execOp, rcase, Act.eval]) hch ?_
      simp only [List.setIfInBounds_toArray, List.set_cons_succ, List.set_cons_zero]
      refine OpsTo.val 29 (goInt (-1)) wr rfl rfl rfl (by simp [execOp]; first | rfl | exact ⟨rfl, rfl⟩) ?_
      simp only [List.setIfInBounds_toArray, List.set_cons_succ, List.set_cons_zero]
      refine OpsTo.val 30 (.bool false) wr rfl rfl rfl (by go_simp) ?_
      simp only [List.setIfInBounds_toArray, List.set_cons_succ, List.set_cons_zero]
      refine OpsTo.nil ?_
      go_wp2
      go_ret
      exact ⟨d, rfl, I2.out, B1.out⟩
end Go.Proofs.Ytmlokapbholeoab
