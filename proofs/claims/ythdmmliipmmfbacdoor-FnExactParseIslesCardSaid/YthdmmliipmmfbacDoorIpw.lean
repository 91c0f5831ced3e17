/- spec.isParse, spec.ParseIsles. -/
import Derived.Test.YthdmmliipmmfbacDoorIpp
import Derived.Test.YthdmmliipmmfbacDoorRdd
import Derived.Test.YthdmmliipmmfbacDoorIap
import Derived.Deep.RegionHeld3
import Derived.Deep.RegionWith
namespace Go.Proofs.YthdmmliipmmfbacDoor
set_option linter.unusedVariables false
open Go.RowKit

theorem neq_walk {a b : ByteArray} (h : ¬ a = b) : (a.toList == b.toList) = false := by
  rw [ByteArray.toList_eq, ByteArray.toList_eq]
  apply Bool.eq_false_iff.2
  intro e
  exact h (ByteArray.ext (Array.toList_inj.1 (by simpa using e)))
theorem spc_sz {d : UInt8} {s : ByteArray} {W : List ByteArray} (h : W.map (·.data.toList) = spc d s.data.toList) {x : ByteArray} (hx : x ∈ W) : x.size ≤ s.size := by
  have h1 : x.data.toList ∈ spc d s.data.toList := by rw [← h]; exact List.mem_map_of_mem hx
  have h2 := spc_mem d _ _ h1
  have e1 : x.data.toList.length = x.size := by rw [Array.length_toList]; rfl
  have e2 : s.data.toList.length = s.size := by rw [Array.length_toList]; rfl
  omega
theorem spc_pos {d : UInt8} {l : List UInt8} {W : List ByteArray} (h : W.map (·.data.toList) = spc d l) : 0 < W.length := by
  have h1 := congrArg List.length h
  rw [List.length_map] at h1
  have h2 : (spc d l).length ≠ 0 := fun e => spc_ne _ _ (List.length_eq_zero_iff.1 e)
  omega
theorem spc_cnt {d : UInt8} {s : ByteArray} {W : List ByteArray} (h : W.map (·.data.toList) = spc d s.data.toList) : W.length ≤ s.size + 1 := by
  have h1 := congrArg List.length h
  rw [List.length_map] at h1
  have h2 := spc_len d s.data.toList
  have e2 : s.data.toList.length = s.size := by rw [Array.length_toList]; rfl
  omega
theorem strB {w : World} {B g n cap : Nat} {L : List ByteArray} (h : Strg w B (.slice (some ⟨g, 0, none⟩) n cap) L) (hp : 0 < L.length) : B ≤ g ∧ g < w.heap.size ∧ ∃ C, Blk w g C ∧ ∀ j, j < L.length → C[j]? = some (.string (gs L j)) := by
  have hf := h.form hp
  obtain ⟨g', n', cap', e, hn, _, _, hB, hg, hc⟩ := hf
  injection e with e1 e2 e3
  injection e1 with e1
  injection e1 with e1
  subst e1 e2
  rcases h.2 with ⟨_, h0⟩ | ⟨g', cap', cur, e, hb, hg', _, _, hcs, ht⟩
  · omega
  · injection e with e1 e2 e3
    injection e1 with e1
    injection e1 with e1
    rw [← e1] at hg'
    have K := Blk.cell (w := w) ⟨_, hg'⟩
    exact ⟨hB, hg, cur, ⟨_, hg'⟩, fun j hj => (K j).symm.trans (hc j (by omega))⟩
theorem pB_n1 {w : List UInt8} (h : (spc 58 w).length ≠ 2) : pB w = none := by
  unfold pB; split
  · rename_i x y e; rw [e] at h; exact absurd rfl h
  · rfl
theorem pB_n2 {w x y : List UInt8} (h1 : spc 58 w = [x, y]) (h : (spc 45 x).length ≠ 2) : pB w = none := by
  unfold pB; rw [h1]; simp only; split
  · rename_i a b e; rw [e] at h; exact absurd rfl h
  · rfl
theorem pB_ok {w x y a b : List UInt8} (h1 : spc 58 w = [x, y]) (h2 : spc 45 x = [a, b]) : pB w = some (rdW a, rdW b, rdW y) := by
  unfold pB; rw [h1]; simp only; rw [h2]
theorem gs_mem {V : List ByteArray} {k : Nat} (h : k < V.length) : gs V k ∈ V := by
  have : gs V k = V[k] := by simp [gs, h]
  rw [this]; exact List.getElem_mem _
theorem gs_map {V : List ByteArray} {ws : List (List UInt8)} (h : V.map (·.data.toList) = ws) {k : Nat} (hk : k < V.length) : ∃ h2 : k < ws.length, ws[k] = (gs V k).data.toList := by
  subst h
  refine ⟨by simpa using hk, ?_⟩
  have : gs V k = V[k] := by simp [gs, hk]
  rw [this]; simp
theorem kp5s {W : World} {s ga gn : Nat} {p q a b z : Value} {CA CN : Array Value} (h : Blk W s #[p, q]) (hA : Blk W ga CA) (hN : Blk W gn CN) (a0 : CA[0]? = some a) (a1 : CA[1]? = some b) (n1 : CN[1]? = some z) : W.cell? ⟨s, 0, none⟩ = some p ∧ W.cell? ⟨s, 1, none⟩ = some q ∧ W.cell? ⟨ga, 0, none⟩ = some a ∧ W.cell? ⟨ga, 1, none⟩ = some b ∧ W.cell? ⟨gn, 1, none⟩ = some z := ⟨h.cell 0, h.cell 1, (hA.cell 0).trans a0, (hA.cell 1).trans a1, (hN.cell 1).trans n1⟩
theorem lt_ne {v : Value} {B B' s : Nat} (h : ∀ k, v.ownBlock = some k → B ≤ k ∧ k < B') (hs : s < B) : some s ≠ v.ownBlock := fun e => by have := (h s e.symm).1; omega
set_option maxRecDepth 100000 in
set_option maxHeartbeats 8000000 in
theorem isParse (t : ByteArray) (w : World) (hs : t.size ≤ 1048576) :
    Calls Tryd.prog 9 #[.string t] w fun e w' => ∃ u, e = .returned (.tuple #[.agg #[.int .i64 (pN t), u], .bool (pOK t)]) ∧ Brs w' w.heap.size u (pL t) ∧ Below w.heap.size w w' := by
  have SP := Lib.hid (fun wx => l1Split t 105 105 rfl wx hs)
  obtain ⟨W0, hW0⟩ : ∃ W, W = w.alloc (.cells #[.int .i64 0, .slice none 0 0] 24) := ⟨_, rfl⟩
  have X3 := Lib.hid (show Blk W0 w.heap.size #[.int .i64 0, .slice none 0 0] by rw [hW0]; exact Blk.new w _ _)
  have B0 := Lib.hid (show Below w.heap.size w W0 by rw [hW0]; (repeat (first | exact Below.refl _ _ | (refine Below.alloc ?_ (by first | omega | (simp; try omega)) _) | apply Below.drew | apply below_drewN)))
  have HW0 := Lib.hid hW0
  clear hW0
  have s0 := B0.out.size
  have FAIL : Hid (∀ w1 : World, Below w.heap.size w w1 → Blk w1 w.heap.size #[.int .i64 0, .slice none 0 0] → ansI t = none → ∃ u, (Ending.returned (.tuple #[.agg #[.int .i64 0, .slice none 0 0], .bool false]) : Ending) = .returned (.tuple #[.agg #[.int .i64 (pN t), u], .bool (pOK t)]) ∧ Brs ((w1.setCell ⟨w.heap.size, 0, none⟩ (.int .i64 0)).setCell ⟨w.heap.size, 1, none⟩ (.slice none 0 0)) w.heap.size u (pL t) ∧ Below w.heap.size w ((w1.setCell ⟨w.heap.size, 0, none⟩ (.int .i64 0)).setCell ⟨w.heap.size, 1, none⟩ (.slice none 0 0))) := Lib.hid (fun w1 hb hX hf => by
    obtain ⟨e1, e2, e3⟩ := p_none hf
    refine ⟨.slice none 0 0, by rw [e1, e2], ?_, (hb.setCell (by simp; try omega) _).setCell (by simp; try omega) _⟩
    rw [e3]
    exact Brs.nil _ _)
  go_enter Tryd.func9, Tryd.ntmps9
  go_wp2_with fail
  rw [← HW0.out]
  clear HW0
  refine (SP.out _).mono ?_
  rintro e w1 ⟨v0, L, rfl, hS, hL, hb⟩
  have hp := spc_pos hL
  obtain ⟨g, n, cap, rfl, hn, hnc, hcm, hB1, hg, hc⟩ := hS.form hp
  have HB1 := Lib.hid (B0.out.trans (hb.mono s0))
  have Y1 := Lib.hid (X3.out.below hb X3.out.lt)
  have lt1 : w.heap.size < w1.heap.size := Y1.out.lt
  have HL := Lib.hid hL
  have HC := Lib.hid hc
  have HN := Lib.hid hn
  clear hb hS hL hc hn hp hnc hcm hB1
  by_cases h130 : 130 < t.size
  · have h1 : (130 : Int) < (t.size : Int) := by omega
    have AN := Lib.hid (ans_far h130)
    clear h130
    obtain ⟨y0, y1, y2⟩ := Y1.out.two
    have f0 := Y1.out.fr 0
    have f1 := Y1.out.fr 1
    go_wp2
    have p0 : ((World.setCell _ ⟨w.heap.size, 0, none⟩ (.int .i64 0)).setCell ⟨w.heap.size, 1, none⟩ (.slice none 0 0)).cell? ⟨w.heap.size, 0, none⟩ = some (.int .i64 0) := (((Y1.out.set 0 (.int .i64 0)).set 1 (.slice none 0 0)).cell 0).trans (by simp)
    have p1 : ((World.setCell _ ⟨w.heap.size, 0, none⟩ (.int .i64 0)).setCell ⟨w.heap.size, 1, none⟩ (.slice none 0 0)).cell? ⟨w.heap.size, 1, none⟩ = some (.slice none 0 0) := (((Y1.out.set 0 (.int .i64 0)).set 1 (.slice none 0 0)).cell 1).trans (by simp)
    refine bodyPost_ret (v := .tuple #[.agg #[.int .i64 0, .slice none 0 0], .bool false]) (by simp [results, Tryd.results9, go_sem, p0, p1]) rfl ?_
    exact FAIL.out _ HB1.out Y1.out AN.out
  have h1 : ¬ (130 : Int) < (t.size : Int) := by omega
  by_cases hl2 : L.length = 2
  case neg =>
    have hn2 : ¬ (n : Int) = 2 := by have := HN.out; omega
    have hn2J : ((n : Int) == 2) = false := by simp; omega
    have hn2K : ((n : Int) != 2) = true := by simp; omega
    have AN := Lib.hid (ans_two (t := t) (by rw [← HL.out, List.length_map]; exact hl2))
    clear hl2 h130
    obtain ⟨y0, y1, y2⟩ := Y1.out.two
    have f0 := Y1.out.fr 0
    have f1 := Y1.out.fr 1
    go_wp2
    have p0 : ((World.setCell _ ⟨w.heap.size, 0, none⟩ (.int .i64 0)).setCell ⟨w.heap.size, 1, none⟩ (.slice none 0 0)).cell? ⟨w.heap.size, 0, none⟩ = some (.int .i64 0) := (((Y1.out.set 0 (.int .i64 0)).set 1 (.slice none 0 0)).cell 0).trans (by simp)
    have p1 : ((World.setCell _ ⟨w.heap.size, 0, none⟩ (.int .i64 0)).setCell ⟨w.heap.size, 1, none⟩ (.slice none 0 0)).cell? ⟨w.heap.size, 1, none⟩ = some (.slice none 0 0) := (((Y1.out.set 0 (.int .i64 0)).set 1 (.slice none 0 0)).cell 1).trans (by simp)
    refine bodyPost_ret (v := .tuple #[.agg #[.int .i64 0, .slice none 0 0], .bool false]) (by simp [results, Tryd.results9, go_sem, p0, p1]) rfl ?_
    exact FAIL.out _ HB1.out Y1.out AN.out
  obtain ⟨x, y, rfl⟩ : ∃ x y, L = [x, y] := by
    match L, hl2 with
    | [x, y], _ => exact ⟨x, y, rfl⟩
  obtain rfl : n = 2 := HN.out
  have hx : x.size ≤ 130 := Nat.le_trans (spc_sz HL.out (List.mem_cons_self ..)) (by omega)
  have hy : y.size ≤ 130 := Nat.le_trans (spc_sz HL.out (List.mem_cons_of_mem _ (List.mem_cons_self ..))) (by omega)
  have HXY := Lib.hid (show spc 105 t.data.toList = [x.data.toList, y.data.toList] from HL.out.symm)
  have c0 : w1.cell? ⟨g, 0, none⟩ = some (.string x) := HC.out 0 (by decide)
  have c1 : w1.cell? ⟨g, 1, none⟩ = some (.string y) := HC.out 1 (by decide)
  have R := Lib.hid (fun wx => l1Read x wx (by omega))
  have HT := Lib.hid (show t.size ≤ 130 by omega)
  have hwg := hg
  clear hl2 h130 HC HN HL
  go_wp2_with fail
  refine (R.out _).mono ?_
  rintro e w' ⟨rfl, rfl⟩
  obtain ⟨nn, hnn⟩ : ∃ nn, nn = rdW x.data.toList := ⟨_, rfl⟩
  rw [← hnn]
  have HNN := Lib.hid hnn
  clear hnn R
  have XS := Lib.hid (Blk.new w1 #[.int .i64 nn, .slice none 0 0] 24)
  have BW := Lib.hid ((Below.refl w1.heap.size w1).alloc (Nat.le_refl _) (.cells #[.int .i64 nn, .slice none 0 0] 24))
  have Y2 := Lib.hid (Y1.out.alloc (.cells #[.int .i64 nn, .slice none 0 0] 24))
  have B2 := Lib.hid (HB1.out.alloc HB1.out.size (.cells #[.int .i64 nn, .slice none 0 0] 24))
  by_cases hye : y = ⟨#[]⟩
  · have hyt : y.toList.isEmpty = true := by rw [ByteArray.toList_eq, hye]; rfl
    have hy0 : y.data.toList = [] := by rw [hye]
    clear hye
    have ANS := Lib.hid (show ansI t = if areIs nn [] = true then some (nn, []) else none by rw [HNN.out]; exact ans_got HXY.out HT.out (.inl ⟨hy0, rfl⟩))
    clear hy0
    cases ha : areIs nn [] with
    | false =>
      have AN := Lib.hid (show ansI t = none by rw [ANS.out, if_neg (by rw [ha]; decide)])
      have G := Lib.hid ha
      clear ha
      go_wp2_with fail
      generalize w1.alloc (.cells #[.int .i64 nn, .slice none 0 0] 24) = W2 at *
      refine (isGood nn (.slice none 0 0) [] _ (Lib.hid (Brs.nil W2 w1.heap.size)).out.rd (by simp)).mono ?_
      rw [G.out]
      rintro e w5 ⟨rfl, hb5⟩
      have Y5 := Lib.hid (Y2.out.below hb5 Y2.out.lt)
      have HB5 := Lib.hid (B2.out.trans (hb5.mono B2.out.size))
      clear hb5
      obtain ⟨y0, y1, y2⟩ := Y5.out.two
      have f0 := Y5.out.fr 0
      have f1 := Y5.out.fr 1
      go_wp2
      have p0 : ((World.setCell _ ⟨w.heap.size, 0, none⟩ (.int .i64 0)).setCell ⟨w.heap.size, 1, none⟩ (.slice none 0 0)).cell? ⟨w.heap.size, 0, none⟩ = some (.int .i64 0) := (((Y5.out.set 0 (.int .i64 0)).set 1 (.slice none 0 0)).cell 0).trans (by simp)
      have p1 : ((World.setCell _ ⟨w.heap.size, 0, none⟩ (.int .i64 0)).setCell ⟨w.heap.size, 1, none⟩ (.slice none 0 0)).cell? ⟨w.heap.size, 1, none⟩ = some (.slice none 0 0) := (((Y5.out.set 0 (.int .i64 0)).set 1 (.slice none 0 0)).cell 1).trans (by simp)
      refine bodyPost_ret (v := .tuple #[.agg #[.int .i64 0, .slice none 0 0], .bool false]) (by simp [results, Tryd.results9, go_sem, p0, p1]) rfl ?_
      exact FAIL.out _ HB5.out Y5.out AN.out
    | true =>
      have AN := Lib.hid (show ansI t = some (nn, []) by rw [ANS.out, if_pos ha])
      have G := Lib.hid ha
      clear ha
      go_wp2_with fail
      generalize w1.alloc (.cells #[.int .i64 nn, .slice none 0 0] 24) = W2 at *
      refine (isGood nn (.slice none 0 0) [] _ (Lib.hid (Brs.nil W2 w1.heap.size)).out.rd (by simp)).mono ?_
      rw [G.out]
      rintro e w5 ⟨rfl, hb5⟩
      have Y5 := Lib.hid (Y2.out.below hb5 Y2.out.lt)
      have S5 := Lib.hid (XS.out.below hb5 XS.out.lt)
      have I5 := Lib.hid ((Lib.hid (Brs.nil W2 w1.heap.size)).out.below hb5)
      have HB5 := Lib.hid (B2.out.trans (hb5.mono B2.out.size))
      clear hb5
      obtain ⟨s0, s1, s2⟩ := S5.out.two
      obtain ⟨y0, y1, y2⟩ := Y5.out.two
      have f0 := Y5.out.fr 0
      have f1 := Y5.out.fr 1
      go_wp2
      have p0 : ((World.setCell _ ⟨w.heap.size, 0, none⟩ (.int .i64 nn)).setCell ⟨w.heap.size, 1, none⟩ (.slice none 0 0)).cell? ⟨w.heap.size, 0, none⟩ = some (.int .i64 nn) := (((Y5.out.set 0 (.int .i64 nn)).set 1 (.slice none 0 0)).cell 0).trans (by simp)
      have p1 : ((World.setCell _ ⟨w.heap.size, 0, none⟩ (.int .i64 nn)).setCell ⟨w.heap.size, 1, none⟩ (.slice none 0 0)).cell? ⟨w.heap.size, 1, none⟩ = some (.slice none 0 0) := (((Y5.out.set 0 (.int .i64 nn)).set 1 (.slice none 0 0)).cell 1).trans (by simp)
      have P := Lib.hid (p_some AN.out)
      refine bodyPost_ret (v := .tuple #[.agg #[.int .i64 nn, (.slice none 0 0)], .bool true]) (by simp [results, Tryd.results9, go_sem, p0, p1]) rfl ⟨_, by rw [P.out.1, P.out.2.1], ?_, (HB5.out.setCell (by simp) _).setCell (by simp) _⟩
      rw [P.out.2.2]
      exact ((I5.out.far (p := ⟨w.heap.size, 0, none⟩) lt1 _).far (p := ⟨w.heap.size, 1, none⟩) lt1 _).mono (Nat.le_of_lt lt1)
  · have hyn : y.toList.isEmpty = false := by
      rw [ByteArray.toList_eq, Bool.eq_false_iff]
      intro e
      exact hye (ByteArray.ext (Array.toList_inj.1 (by simpa using e)))
    have SY := Lib.hid (fun wx => l1Split y 44 44 rfl wx (by omega))
    have hyd : y.data.toList ≠ [] := fun e => hye (ByteArray.ext (Array.toList_inj.1 (by simpa using e)))
    have HYD := Lib.hid hyd
    clear hye c0 hyd
    go_wp2_with fail
    generalize w1.alloc (.cells #[.int .i64 nn, .slice none 0 0] 24) = W2 at *
    refine (SY.out _).mono ?_
    rintro e w3 ⟨v3, V, rfl, hS3, hV, hb3⟩
    have hp3 := spc_pos hV
    have hz3 := spc_cnt hV
    obtain ⟨gv, nv, capv, rfl, hnv, _, _, hgB, hgv, hcv⟩ := hS3.form hp3
    obtain ⟨_, _, C, hC, hCC⟩ := strB hS3 hp3
    have HC := Lib.hid hC
    have HCC := Lib.hid hCC
    have HV := Lib.hid hV
    have HNV := Lib.hid hnv
    have HZV := Lib.hid (fun x hx => spc_sz hV (x := x) hx)
    have XS3 := Lib.hid (XS.out.below hb3 XS.out.lt)
    have hsg : w1.heap.size < W2.heap.size := XS.out.lt
    have B13 := Lib.hid (BW.out.trans (hb3.mono (Nat.le_of_lt hsg)))
    have hle3 : W2.heap.size ≤ w3.heap.size := hb3.size
    have hnv2 : nv ≤ 131 := by omega
    clear hS3 hV hb3 hcv hC hCC hnv hz3 c1
    go_wp2_with fail
    go_loopw [7, 8, 9, 35] (fun _ _ _ i wr => ∃ (k : Nat) (u : Value) (cs : List Br), k ≤ nv ∧ i = .int .i64 k ∧ Hid (allB pB ((spc 44 y.data.toList).take k) = some cs) ∧ Hid (Blk wr w1.heap.size #[.int .i64 nn, u]) ∧ Hid (Blk wr gv C) ∧ Hid (Brs wr w3.heap.size u cs) ∧ Hid (Below w1.heap.size w1 wr) ∧ Hid (w3.heap.size ≤ wr.heap.size)) (fun _ _ _ i _ => nv - (intOf i).toNat)
    case atStart => exact ⟨0, .slice none 0 0, [], Nat.zero_le _, rfl, Lib.hid rfl, XS3, HC, Lib.hid (Brs.nil _ _), B13, Lib.hid (Nat.le_refl _)⟩
    case round =>
      obtain ⟨k, u, cs, hk, rfl, HA, HS, HR, HU, HB, HZ⟩ := hrel
      have hzz := HZ.out
      by_cases hlt : k < nv
      · have hlt' : (k : Int) < nv := by omega
        have cq : wr.cell? ⟨gv, k, none⟩ = some (.string (gs V k)) := (HR.out.cell k).trans (HCC.out k (by have := HNV.out; omega))
        obtain ⟨q, hq⟩ : ∃ q, q = gs V k := ⟨_, rfl⟩
        rw [← hq] at cq
        have HQ := Lib.hid hq
        clear hq
        go_wp2_with fail
        have hkV : k < V.length := by have := HNV.out; omega
        have hqz : q.size ≤ 130 := by rw [HQ.out]; exact Nat.le_trans (HZV.out _ (gs_mem hkV)) hy
        obtain ⟨hkw, hwk⟩ := gs_map HV.out hkV
        rw [← HQ.out] at hwk
        have HWK := Lib.hid hwk
        clear hwk cq
        refine (l1Split q 58 58 rfl wr (by omega)).mono ?_
        rintro e w4 ⟨v4, N, rfl, hS4, hN, hb4⟩
        have hp4 := spc_pos hN
        obtain ⟨gn, ln, cn, rfl, hln, _, _, hgn, hgn2, hcn⟩ := hS4.form hp4
        obtain ⟨_, _, CN, hCN, hCCN⟩ := strB hS4 hp4
        have XS4 := Lib.hid (HS.out.below hb4 HS.out.lt)
        have R4 := Lib.hid (HR.out.below hb4 HR.out.lt)
        have U4 := Lib.hid (HU.out.below hb4)
        have B4 := Lib.hid (HB.out.trans (hb4.mono HB.out.size))
        have HN4 := Lib.hid hN
        have HLN := Lib.hid hln
        have hz4 : w3.heap.size ≤ w4.heap.size := Nat.le_trans hzz hb4.size
        have hzz4 : wr.heap.size ≤ w4.heap.size := hb4.size
        clear hS4 hb4 hN hcn hln hp4
        by_cases hn2 : N.length = 2
        case neg =>
          have i2 : ¬ (ln : Int) = 2 := by have := HLN.out; omega
          have i2J : ((ln : Int) == 2) = false := by simp; omega
          have i2K : ((ln : Int) != 2) = true := by simp; omega
          have AN := Lib.hid (ans_no HXY.out HYD.out (allB_none _ k hkw (by rw [HWK.out]; exact pB_n1 (by rw [← HN4.out, List.length_map]; exact hn2))))
          have Y4 := Lib.hid (Y1.out.below B4.out lt1)
          have HB4 := Lib.hid (HB1.out.trans (B4.out.mono HB1.out.size))
          clear hn2 hCN hCCN
          obtain ⟨y0, y1, y2⟩ := Y4.out.two
          have f0 := Y4.out.fr 0
          have f1 := Y4.out.fr 1
          go_wp2
          have p0 : ((World.setCell _ ⟨w.heap.size, 0, none⟩ (.int .i64 0)).setCell ⟨w.heap.size, 1, none⟩ (.slice none 0 0)).cell? ⟨w.heap.size, 0, none⟩ = some (.int .i64 0) := (((Y4.out.set 0 (.int .i64 0)).set 1 (.slice none 0 0)).cell 0).trans (by simp)
          have p1 : ((World.setCell _ ⟨w.heap.size, 0, none⟩ (.int .i64 0)).setCell ⟨w.heap.size, 1, none⟩ (.slice none 0 0)).cell? ⟨w.heap.size, 1, none⟩ = some (.slice none 0 0) := (((Y4.out.set 0 (.int .i64 0)).set 1 (.slice none 0 0)).cell 1).trans (by simp)
          refine bodyPost_ret (v := .tuple #[.agg #[.int .i64 0, .slice none 0 0], .bool false]) (by simp [results, Tryd.results9, go_sem, p0, p1]) rfl ?_
          exact FAIL.out _ HB4.out Y4.out AN.out
        obtain ⟨p, z, rfl⟩ : ∃ x y, N = [x, y] := by
          match N, hn2 with
          | [x, y], _ => exact ⟨x, y, rfl⟩
        obtain rfl : ln = 2 := HLN.out
        have HPZ := Lib.hid (show spc 58 q.data.toList = [p.data.toList, z.data.toList] from HN4.out.symm)
        have hpz : p.size ≤ 130 := Nat.le_trans (spc_sz HN4.out (List.mem_cons_self ..)) hqz
        have hzz2 : z.size ≤ 130 := Nat.le_trans (spc_sz HN4.out (List.mem_cons_of_mem _ (List.mem_cons_self ..))) hqz
        have n0 : w4.cell? ⟨gn, 0, none⟩ = some (.string p) := (hCN.cell 0).trans (hCCN 0 (by simp))
        have HN1 := Lib.hid (show CN[1]? = some (.string z) from hCCN 1 (by simp))
        have HCN := Lib.hid hCN
        clear hn2 hCN hCCN HN4 HLN
        go_wp2_with fail
        refine (l1Split p 45 45 rfl w4 (by omega)).mono ?_
        rintro e w5 ⟨v5, M, rfl, hS5, hM, hb5⟩
        have hp5 := spc_pos hM
        obtain ⟨ga, la, ca, rfl, hla, _, _, hga, hga2, hcm⟩ := hS5.form hp5
        obtain ⟨_, _, CA, hCA, hCCA⟩ := strB hS5 hp5
        have XS5 := Lib.hid (XS4.out.below hb5 XS4.out.lt)
        have R5 := Lib.hid (R4.out.below hb5 R4.out.lt)
        have N5 := Lib.hid (HCN.out.below hb5 HCN.out.lt)
        have U5 := Lib.hid (U4.out.below hb5)
        have B5 := Lib.hid (B4.out.trans (hb5.mono B4.out.size))
        have HM5 := Lib.hid hM
        have HLA := Lib.hid hla
        have hz5 : w3.heap.size ≤ w5.heap.size := Nat.le_trans hz4 hb5.size
        clear hS5 hb5 hM hcm hla hp5 n0
        by_cases hm2 : M.length = 2
        case neg =>
          have i2 : ¬ (la : Int) = 2 := by have := HLA.out; omega
          have i2J : ((la : Int) == 2) = false := by simp; omega
          have i2K : ((la : Int) != 2) = true := by simp; omega
          have AN := Lib.hid (ans_no HXY.out HYD.out (allB_none _ k hkw (by rw [HWK.out]; exact pB_n2 HPZ.out (by rw [← HM5.out, List.length_map]; exact hm2))))
          have Y5 := Lib.hid (Y1.out.below B5.out lt1)
          have HB5 := Lib.hid (HB1.out.trans (B5.out.mono HB1.out.size))
          clear hm2 hCA hCCA
          obtain ⟨y0, y1, y2⟩ := Y5.out.two
          have f0 := Y5.out.fr 0
          have f1 := Y5.out.fr 1
          go_wp2
          have p0 : ((World.setCell _ ⟨w.heap.size, 0, none⟩ (.int .i64 0)).setCell ⟨w.heap.size, 1, none⟩ (.slice none 0 0)).cell? ⟨w.heap.size, 0, none⟩ = some (.int .i64 0) := (((Y5.out.set 0 (.int .i64 0)).set 1 (.slice none 0 0)).cell 0).trans (by simp)
          have p1 : ((World.setCell _ ⟨w.heap.size, 0, none⟩ (.int .i64 0)).setCell ⟨w.heap.size, 1, none⟩ (.slice none 0 0)).cell? ⟨w.heap.size, 1, none⟩ = some (.slice none 0 0) := (((Y5.out.set 0 (.int .i64 0)).set 1 (.slice none 0 0)).cell 1).trans (by simp)
          refine bodyPost_ret (v := .tuple #[.agg #[.int .i64 0, .slice none 0 0], .bool false]) (by simp [results, Tryd.results9, go_sem, p0, p1]) rfl ?_
          exact FAIL.out _ HB5.out Y5.out AN.out
        obtain ⟨a, b, rfl⟩ : ∃ x y, M = [x, y] := by
          match M, hm2 with
          | [x, y], _ => exact ⟨x, y, rfl⟩
        obtain rfl : la = 2 := HLA.out
        have HAB := Lib.hid (show spc 45 p.data.toList = [a.data.toList, b.data.toList] from HM5.out.symm)
        have ha9 : a.size ≤ 130 := Nat.le_trans (spc_sz HM5.out (List.mem_cons_self ..)) hpz
        have hb9 : b.size ≤ 130 := Nat.le_trans (spc_sz HM5.out (List.mem_cons_of_mem _ (List.mem_cons_self ..))) hpz
        have HA0 := Lib.hid (show CA[0]? = some (.string a) from hCCA 0 (by simp))
        have HA1 := Lib.hid (show CA[1]? = some (.string b) from hCCA 1 (by simp))
        have HCA := Lib.hid hCA
        have RA := Lib.hid (fun wx => l1Read a wx (by omega))
        have RB := Lib.hid (fun wx => l1Read b wx (by omega))
        have RZ := Lib.hid (fun wx => l1Read z wx (by omega))
        have HA2 := Lib.hid (show allB pB ((spc 44 y.data.toList).take (k + 1)) = some (cs ++ [(rdW a.data.toList, rdW b.data.toList, rdW z.data.toList)]) by
          rw [List.take_succ_eq_append_getElem hkw, HWK.out]
          exact allB_snoc _ _ _ _ HA.out (pB_ok HPZ.out HAB.out))
        have hcl : cs.length ≤ 1000 := by
          have := allB_len _ _ HA.out
          rw [List.length_take] at this
          omega
        generalize rdW a.data.toList = va at *
        generalize rdW b.data.toList = vb at *
        generalize rdW z.data.toList = vz at *
        have KP := Lib.hid (fun W (h1 : Blk W w1.heap.size #[.int .i64 nn, u]) (h2 : Blk W ga CA) (h3 : Blk W gn CN) => kp5s h1 h2 h3 HA0.out HA1.out HN1.out)
        clear hm2 hCA hCCA HM5 HLA ha9 hb9 hpz hzz2 hqz
        go_wp2_with fail
        obtain ⟨k0, k1, k2, k3, k4⟩ := KP.out w5 XS5.out HCA.out N5.out
        have lS := XS5.out.lt
        have lA := HCA.out.lt
        have lN := N5.out.lt
        have DQ := Lib.hid ((Below.refl w5.heap.size w5).alloc (Nat.le_refl _) (.cells #[.int .i64 va, .int .i64 vb, .int .i64 vz] 39))
        have UL := Lib.hid (fun kk h => HU.out.lt kk h)
        have hlu : ∀ kk, u.ownBlock = some kk → w3.heap.size ≤ kk ∧ kk < wr.heap.size := UL.out
        have NS := Lib.hid (lt_ne (s := w1.heap.size) hlu (by omega))
        have NV := Lib.hid (lt_ne (s := gv) hlu hgv)
        clear hlu
        have h4 : wr.heap.size ≤ w4.heap.size := hzz4
        have NA : Hid (some ga ≠ u.ownBlock) := Lib.hid (fun e => by have := (UL.out ga e.symm).2; omega)
        have NN : Hid (some gn ≠ u.ownBlock) := Lib.hid (fun e => by have := (UL.out gn e.symm).2; omega)
        have gas : ga ≠ w1.heap.size := by omega
        have gns : gn ≠ w1.heap.size := by omega
        have K3 := Lib.hid (fun W (h2 : Blk W ga CA) (h3 : Blk W gn CN) => (⟨(h2.cell 0).trans HA0.out, (h2.cell 1).trans HA1.out, (h3.cell 1).trans HN1.out⟩ : W.cell? ⟨ga, 0, none⟩ = some (.string a) ∧ W.cell? ⟨ga, 1, none⟩ = some (.string b) ∧ W.cell? ⟨gn, 1, none⟩ = some (.string z)))
        refine wp_region_held_drew (S := (fun W => W.cell? ⟨ga, 0, none⟩ = some (.string a) ∧ W.cell? ⟨ga, 1, none⟩ = some (.string b) ∧ W.cell? ⟨gn, 1, none⟩ = some (.string z))) (by kernel_rfl) ?_ (fun hHeld => ?_)
        · (try dsimp only)
          (first | exact K3.out _ EA.out EN.out | exact K3.out _ (EA.out.far (p := ⟨w1.heap.size, 1, none⟩) gas _) (EN.out.far (p := ⟨w1.heap.size, 1, none⟩) gns _) | exact K3.out _ HCA.out N5.out | exact K3.out _ HCA.out.drew N5.out.drew | exact K3.out _ (HCA.out.alloc _) (N5.out.alloc _) | exact K3.out _ (HCA.out.alloc _).drew (N5.out.alloc _).drew)
        refine wpAnyH_take (i := 0) (v := ?v0_1) rfl (by kernel_rfl) (by kernel_rfl) (by kernel_rfl) (fun _ _ _ h => h) (Or.inl ⟨by rfl, ?hy0_1⟩) (by assumption) ?rest0_1
        case hy0_1 =>
          intro w hSw
          (try dsimp only at hSw)
          go_simp
          try with_reducible rfl
        refine wpAnyH_take (i := 2) (v := ?v2_2) rfl (by kernel_rfl) (by kernel_rfl) (by kernel_rfl) (fun _ _ _ h => h) (Or.inl ⟨by rfl, ?hy2_2⟩) (by assumption) ?rest2_2
        case hy2_2 =>
          intro w hSw
          (try dsimp only at hSw)
          go_simp
          try with_reducible rfl
        refine wpAnyH_take (i := 3) (v := ?v3_3) rfl (by kernel_rfl) (by kernel_rfl) (by kernel_rfl) (fun _ _ _ h => h) (Or.inl ⟨by rfl, ?hy3_3⟩) (by assumption) ?rest3_3
        case hy3_3 =>
          intro w hSw
          (try dsimp only at hSw)
          go_simp
          try with_reducible rfl
        refine wpAnyH_take (i := 4) (v := ?v4_4) rfl (by kernel_rfl) (by kernel_rfl) (by kernel_rfl) (fun _ _ _ h => h) (Or.inl ⟨by rfl, ?hy4_4⟩) (by assumption) ?rest4_4
        case hy4_4 =>
          intro w hSw
          (try dsimp only at hSw)
          go_simp
          try with_reducible rfl
        refine wpAnyH_take (i := 6) (v := ?v6_5) rfl (by kernel_rfl) (by kernel_rfl) (by kernel_rfl) (fun _ _ _ h => h) (Or.inl ⟨by rfl, ?hy6_5⟩) (by assumption) ?rest6_5
        case hy6_5 =>
          intro w hSw
          (try dsimp only at hSw)
          go_simp
          try with_reducible rfl
        refine wpAnyH_take (i := 7) (v := ?v7_6) rfl (by kernel_rfl) (by kernel_rfl) (by kernel_rfl) (fun _ _ _ h => h) (Or.inl ⟨by rfl, ?hy7_6⟩) (by assumption) ?rest7_6
        case hy7_6 =>
          intro w hSw
          (try dsimp only at hSw)
          go_simp
          try with_reducible rfl
        refine wpAnyH_take (i := 8) (v := ?v8_7) rfl (by kernel_rfl) (by kernel_rfl) (by kernel_rfl) (fun _ _ _ h => h) (Or.inl ⟨by rfl, ?hy8_7⟩) (by assumption) ?rest8_7
        case hy8_7 =>
          intro w hSw
          (try dsimp only at hSw)
          go_simp
          try with_reducible rfl
        refine wpAnyH_take (i := 10) (v := ?v10_8) rfl (by kernel_rfl) (by kernel_rfl) (by kernel_rfl) (fun _ _ _ h => h) (Or.inl ⟨by rfl, ?hy10_8⟩) (by assumption) ?rest10_8
        case hy10_8 =>
          intro w hSw
          (try dsimp only at hSw)
          go_simp
          try with_reducible rfl
        refine wpAnyH_take (i := 11) (v := ?v11_9) rfl (by kernel_rfl) (by kernel_rfl) (by kernel_rfl) (fun _ _ _ h => h) (Or.inl ⟨by rfl, ?hy11_9⟩) (by assumption) ?rest11_9
        case hy11_9 =>
          intro w hSw
          (try dsimp only at hSw)
          go_simp
          try with_reducible rfl
        refine wpAnyH_take (i := 12) (v := ?v12_10) rfl (by kernel_rfl) (by kernel_rfl) (by kernel_rfl) (fun _ _ _ h => h) (Or.inl ⟨by rfl, ?hy12_10⟩) (by assumption) ?rest12_10
        case hy12_10 =>
          intro w hSw
          (try dsimp only at hSw)
          go_simp
          try with_reducible rfl
        refine wpAnyH_ready (rs := [1, 5]) (by kernel_rfl) (by simp) ?_
        refine AllReadyH.cons rfl (fun K hK => ?_) ?_
        ·
          go_simp
          refine hK.out _ _ ?_ (fun hHeld => ?_)
          · (try dsimp only)
            (first | exact K3.out _ EA.out EN.out | exact K3.out _ (EA.out.far (p := ⟨w1.heap.size, 1, none⟩) gas _) (EN.out.far (p := ⟨w1.heap.size, 1, none⟩) gns _) | exact K3.out _ HCA.out N5.out | exact K3.out _ HCA.out.drew N5.out.drew | exact K3.out _ (HCA.out.alloc _) (N5.out.alloc _) | exact K3.out _ (HCA.out.alloc _).drew (N5.out.alloc _).drew)
          clear hK K
          refine wpAnyH_ready (rs := [5]) (by kernel_rfl) (by simp) ?_
          refine AllReadyH.cons rfl (fun K hK => ?_) ?_
          ·
            go_simp
            go_at_call 19
            refine (RA.out _).mono ?_
            rintro e w' ⟨rfl, rfl⟩
            try go_wp2_with fail
            refine hK.out _ _ ?_ (fun hHeld => ?_)
            · (try dsimp only)
              (first | exact K3.out _ EA.out EN.out | exact K3.out _ (EA.out.far (p := ⟨w1.heap.size, 1, none⟩) gas _) (EN.out.far (p := ⟨w1.heap.size, 1, none⟩) gns _) | exact K3.out _ HCA.out N5.out | exact K3.out _ HCA.out.drew N5.out.drew | exact K3.out _ (HCA.out.alloc _) (N5.out.alloc _) | exact K3.out _ (HCA.out.alloc _).drew (N5.out.alloc _).drew)
            clear hK K
            refine wpAnyH_ready (rs := [9]) (by kernel_rfl) (by simp) ?_
            refine AllReadyH.cons rfl (fun K hK => ?_) ?_
            ·
              go_simp
              go_at_call 19
              refine (RB.out _).mono ?_
              rintro e w' ⟨rfl, rfl⟩
              try go_wp2_with fail
              refine hK.out _ _ ?_ (fun hHeld => ?_)
              · (try dsimp only)
                (first | exact K3.out _ EA.out EN.out | exact K3.out _ (EA.out.far (p := ⟨w1.heap.size, 1, none⟩) gas _) (EN.out.far (p := ⟨w1.heap.size, 1, none⟩) gns _) | exact K3.out _ HCA.out N5.out | exact K3.out _ HCA.out.drew N5.out.drew | exact K3.out _ (HCA.out.alloc _) (N5.out.alloc _) | exact K3.out _ (HCA.out.alloc _).drew (N5.out.alloc _).drew)
              clear hK K
              refine wpAnyH_ready (rs := [13]) (by kernel_rfl) (by simp) ?_
              refine AllReadyH.cons rfl (fun K hK => ?_) ?_
              ·
                go_simp
                go_at_call 19
                refine (RZ.out _).mono ?_
                rintro e w' ⟨rfl, rfl⟩
                try go_wp2_with fail
                refine hK.out _ _ ?_ (fun hHeld => ?_)
                · (try dsimp only)
                  (first | exact K3.out _ EA.out EN.out | exact K3.out _ (EA.out.far (p := ⟨w1.heap.size, 1, none⟩) gas _) (EN.out.far (p := ⟨w1.heap.size, 1, none⟩) gns _) | exact K3.out _ HCA.out N5.out | exact K3.out _ HCA.out.drew N5.out.drew | exact K3.out _ (HCA.out.alloc _) (N5.out.alloc _) | exact K3.out _ (HCA.out.alloc _).drew (N5.out.alloc _).drew)
                clear hK K
                refine wpAnyH_take (i := 14) (v := ?v14_11) rfl (by kernel_rfl) (by kernel_rfl) (by kernel_rfl) (fun _ _ _ h => h) (Or.inl ⟨by rfl, ?hy14_11⟩) (by assumption) ?rest14_11
                case hy14_11 =>
                  intro w hSw
                  (try dsimp only at hSw)
                  go_simp
                  try with_reducible rfl
                refine wpAnyH_ready (rs := [15]) (by kernel_rfl) (by simp) ?_
                refine AllReadyH.cons rfl (fun K hK => ?_) ?_
                ·
                  go_simp
                  refine hK.out _ _ ?_ (fun hHeld => ?_)
                  · (try dsimp only)
                    (first | exact K3.out _ EA.out EN.out | exact K3.out _ (EA.out.far (p := ⟨w1.heap.size, 1, none⟩) gas _) (EN.out.far (p := ⟨w1.heap.size, 1, none⟩) gns _) | exact K3.out _ HCA.out N5.out | exact K3.out _ HCA.out.drew N5.out.drew | exact K3.out _ (HCA.out.alloc _) (N5.out.alloc _) | exact K3.out _ (HCA.out.alloc _).drew (N5.out.alloc _).drew)
                  clear hK K
                  refine wpAnyH_ready (rs := [16]) (by kernel_rfl) (by simp) ?_
                  refine AllReadyH.cons rfl (fun K hK => ?_) ?_
                  ·
                    (refine step_appB1 rfl (.tmp 54) (.tmp 68) rfl w3.heap.size u cs ?_ (U5.out.below (by (repeat (first | exact Below.refl _ _ | (refine Below.alloc ?_ (by first | omega | (simp; try omega)) _) | apply Below.drew)))) w5.heap.size va vb vz ?_ (by first | exact Blk.new _ _ _ | exact (Blk.new _ _ _).drew) hcl ?_ ?_; (· simp [Act.eval]); (· simp [Act.eval]); (· (simp; omega)); intro g6 c6 w6 hI6 hg6; have I6 := Lib.hid hI6; have E1 := Lib.hid ((XS5.out.below (B := w5.heap.size) (by (repeat (first | exact Below.refl _ _ | (refine Below.alloc ?_ (by first | omega | (simp; try omega)) _) | apply Below.drew))) lS).kept hg6 NS.out); have EV := Lib.hid ((R5.out.below (B := w5.heap.size) (by (repeat (first | exact Below.refl _ _ | (refine Below.alloc ?_ (by first | omega | (simp; try omega)) _) | apply Below.drew))) R5.out.lt).kept hg6 NV.out); have EA := Lib.hid ((HCA.out.below (B := w5.heap.size) (by (repeat (first | exact Below.refl _ _ | (refine Below.alloc ?_ (by first | omega | (simp; try omega)) _) | apply Below.drew))) lA).kept hg6 NA.out); have EN := Lib.hid ((N5.out.below (B := w5.heap.size) (by (repeat (first | exact Below.refl _ _ | (refine Below.alloc ?_ (by first | omega | (simp; try omega)) _) | apply Below.drew))) lN).kept hg6 NN.out); have B6 := Lib.hid ((B5.out.trans (Below.mono (B := w5.heap.size) (by (repeat (first | exact Below.refl _ _ | (refine Below.alloc ?_ (by first | omega | (simp; try omega)) _) | apply Below.drew))) B5.out.size)).grown hg6 (by have := B5.out.size; simp; omega) (fun b hb => by have := (UL.out b hb).1; omega)); have hz6 := hg6.size; clear hg6 hI6; obtain ⟨e0, e1, e2⟩ := E1.out.two; have ef := E1.out.fr 1; skip)
                    refine hK.out _ _ ?_ (fun hHeld => ?_)
                    · (try dsimp only)
                      (first | exact K3.out _ EA.out EN.out | exact K3.out _ (EA.out.far (p := ⟨w1.heap.size, 1, none⟩) gas _) (EN.out.far (p := ⟨w1.heap.size, 1, none⟩) gns _) | exact K3.out _ HCA.out N5.out | exact K3.out _ HCA.out.drew N5.out.drew | exact K3.out _ (HCA.out.alloc _) (N5.out.alloc _) | exact K3.out _ (HCA.out.alloc _).drew (N5.out.alloc _).drew)
                    clear hK K
                    refine wpAnyH_take (i := 17) (v := ?v17_12) rfl (by kernel_rfl) (by kernel_rfl) (by kernel_rfl) (fun _ _ _ h => h) (Or.inl ⟨by rfl, ?hy17_12⟩) (by assumption) ?rest17_12
                    case hy17_12 =>
                      intro w hSw
                      (try dsimp only at hSw)
                      go_simp
                      try with_reducible rfl
                    refine wpAnyH_ready (rs := [18]) (by kernel_rfl) (by simp) ?_
                    refine AllReadyH.cons rfl (fun K hK => ?_) AllReadyH.nil
                    go_simp
                    refine hK.out _ _ ?_ (fun hHeld => ?_)
                    · (try dsimp only)
                      (first | exact K3.out _ EA.out EN.out | exact K3.out _ (EA.out.far (p := ⟨w1.heap.size, 1, none⟩) gas _) (EN.out.far (p := ⟨w1.heap.size, 1, none⟩) gns _) | exact K3.out _ HCA.out N5.out | exact K3.out _ HCA.out.drew N5.out.drew | exact K3.out _ (HCA.out.alloc _) (N5.out.alloc _) | exact K3.out _ (HCA.out.alloc _).drew (N5.out.alloc _).drew)
                    clear hK K
                    refine wpAnyH_done (by kernel_rfl) ?_ _
                    go_wp2_with fail
                    have hz6' : w5.heap.size + 1 ≤ w6.heap.size := by simpa using hz6
                    have hzR : w3.heap.size ≤ w6.heap.size := by omega
                    clear hz6
                    refine ⟨⟨k + 1, .slice (some ⟨g6, 0, none⟩) (cs.length + 1) c6, _, by omega, by go_num, HA2, Lib.hid (E1.out.set 1 (.slice (some ⟨g6, 0, none⟩) (cs.length + 1) c6)), Lib.hid (EV.out.far (p := ⟨w1.heap.size, 1, none⟩) (show gv ≠ w1.heap.size by omega) _), Lib.hid (I6.out.far (p := ⟨w1.heap.size, 1, none⟩) (show w1.heap.size < w3.heap.size by omega) _), Lib.hid (B6.out.setCell (p := ⟨w1.heap.size, 1, none⟩) (Nat.le_refl _) _), Lib.hid (by simpa [World.setCell] using hzR)⟩, ?_⟩
                    simp [intOf]; omega
                  exact AllReadyH.nil
                exact AllReadyH.nil
              exact AllReadyH.nil
            exact AllReadyH.nil
          exact AllReadyH.nil
        refine AllReadyH.cons rfl (fun K hK => ?_) ?_
        ·
          go_simp
          go_at_call 19
          refine (RA.out _).mono ?_
          rintro e w' ⟨rfl, rfl⟩
          try go_wp2_with fail
          refine hK.out _ _ ?_ (fun hHeld => ?_)
          · (try dsimp only)
            (first | exact K3.out _ EA.out EN.out | exact K3.out _ (EA.out.far (p := ⟨w1.heap.size, 1, none⟩) gas _) (EN.out.far (p := ⟨w1.heap.size, 1, none⟩) gns _) | exact K3.out _ HCA.out N5.out | exact K3.out _ HCA.out.drew N5.out.drew | exact K3.out _ (HCA.out.alloc _) (N5.out.alloc _) | exact K3.out _ (HCA.out.alloc _).drew (N5.out.alloc _).drew)
          clear hK K
          refine wpAnyH_ready (rs := [1, 9]) (by kernel_rfl) (by simp) ?_
          refine AllReadyH.cons rfl (fun K hK => ?_) ?_
          ·
            go_simp
            refine hK.out _ _ ?_ (fun hHeld => ?_)
            · (try dsimp only)
              (first | exact K3.out _ EA.out EN.out | exact K3.out _ (EA.out.far (p := ⟨w1.heap.size, 1, none⟩) gas _) (EN.out.far (p := ⟨w1.heap.size, 1, none⟩) gns _) | exact K3.out _ HCA.out N5.out | exact K3.out _ HCA.out.drew N5.out.drew | exact K3.out _ (HCA.out.alloc _) (N5.out.alloc _) | exact K3.out _ (HCA.out.alloc _).drew (N5.out.alloc _).drew)
            clear hK K
            refine wpAnyH_ready (rs := [9]) (by kernel_rfl) (by simp) ?_
            refine AllReadyH.cons rfl (fun K hK => ?_) ?_
            ·
              go_simp
              go_at_call 19
              refine (RB.out _).mono ?_
              rintro e w' ⟨rfl, rfl⟩
              try go_wp2_with fail
              refine hK.out _ _ ?_ (fun hHeld => ?_)
              · (try dsimp only)
                (first | exact K3.out _ EA.out EN.out | exact K3.out _ (EA.out.far (p := ⟨w1.heap.size, 1, none⟩) gas _) (EN.out.far (p := ⟨w1.heap.size, 1, none⟩) gns _) | exact K3.out _ HCA.out N5.out | exact K3.out _ HCA.out.drew N5.out.drew | exact K3.out _ (HCA.out.alloc _) (N5.out.alloc _) | exact K3.out _ (HCA.out.alloc _).drew (N5.out.alloc _).drew)
              clear hK K
              refine wpAnyH_ready (rs := [13]) (by kernel_rfl) (by simp) ?_
              refine AllReadyH.cons rfl (fun K hK => ?_) ?_
              ·
                go_simp
                go_at_call 19
                refine (RZ.out _).mono ?_
                rintro e w' ⟨rfl, rfl⟩
                try go_wp2_with fail
                refine hK.out _ _ ?_ (fun hHeld => ?_)
                · (try dsimp only)
                  (first | exact K3.out _ EA.out EN.out | exact K3.out _ (EA.out.far (p := ⟨w1.heap.size, 1, none⟩) gas _) (EN.out.far (p := ⟨w1.heap.size, 1, none⟩) gns _) | exact K3.out _ HCA.out N5.out | exact K3.out _ HCA.out.drew N5.out.drew | exact K3.out _ (HCA.out.alloc _) (N5.out.alloc _) | exact K3.out _ (HCA.out.alloc _).drew (N5.out.alloc _).drew)
                clear hK K
                refine wpAnyH_take (i := 14) (v := ?v14_13) rfl (by kernel_rfl) (by kernel_rfl) (by kernel_rfl) (fun _ _ _ h => h) (Or.inl ⟨by rfl, ?hy14_13⟩) (by assumption) ?rest14_13
                case hy14_13 =>
                  intro w hSw
                  (try dsimp only at hSw)
                  go_simp
                  try with_reducible rfl
                refine wpAnyH_ready (rs := [15]) (by kernel_rfl) (by simp) ?_
                refine AllReadyH.cons rfl (fun K hK => ?_) ?_
                ·
                  go_simp
                  refine hK.out _ _ ?_ (fun hHeld => ?_)
                  · (try dsimp only)
                    (first | exact K3.out _ EA.out EN.out | exact K3.out _ (EA.out.far (p := ⟨w1.heap.size, 1, none⟩) gas _) (EN.out.far (p := ⟨w1.heap.size, 1, none⟩) gns _) | exact K3.out _ HCA.out N5.out | exact K3.out _ HCA.out.drew N5.out.drew | exact K3.out _ (HCA.out.alloc _) (N5.out.alloc _) | exact K3.out _ (HCA.out.alloc _).drew (N5.out.alloc _).drew)
                  clear hK K
                  refine wpAnyH_ready (rs := [16]) (by kernel_rfl) (by simp) ?_
                  refine AllReadyH.cons rfl (fun K hK => ?_) ?_
                  ·
                    (refine step_appB1 rfl (.tmp 54) (.tmp 68) rfl w3.heap.size u cs ?_ (U5.out.below (by (repeat (first | exact Below.refl _ _ | (refine Below.alloc ?_ (by first | omega | (simp; try omega)) _) | apply Below.drew)))) w5.heap.size va vb vz ?_ (by first | exact Blk.new _ _ _ | exact (Blk.new _ _ _).drew) hcl ?_ ?_; (· simp [Act.eval]); (· simp [Act.eval]); (· (simp; omega)); intro g6 c6 w6 hI6 hg6; have I6 := Lib.hid hI6; have E1 := Lib.hid ((XS5.out.below (B := w5.heap.size) (by (repeat (first | exact Below.refl _ _ | (refine Below.alloc ?_ (by first | omega | (simp; try omega)) _) | apply Below.drew))) lS).kept hg6 NS.out); have EV := Lib.hid ((R5.out.below (B := w5.heap.size) (by (repeat (first | exact Below.refl _ _ | (refine Below.alloc ?_ (by first | omega | (simp; try omega)) _) | apply Below.drew))) R5.out.lt).kept hg6 NV.out); have EA := Lib.hid ((HCA.out.below (B := w5.heap.size) (by (repeat (first | exact Below.refl _ _ | (refine Below.alloc ?_ (by first | omega | (simp; try omega)) _) | apply Below.drew))) lA).kept hg6 NA.out); have EN := Lib.hid ((N5.out.below (B := w5.heap.size) (by (repeat (first | exact Below.refl _ _ | (refine Below.alloc ?_ (by first | omega | (simp; try omega)) _) | apply Below.drew))) lN).kept hg6 NN.out); have B6 := Lib.hid ((B5.out.trans (Below.mono (B := w5.heap.size) (by (repeat (first | exact Below.refl _ _ | (refine Below.alloc ?_ (by first | omega | (simp; try omega)) _) | apply Below.drew))) B5.out.size)).grown hg6 (by have := B5.out.size; simp; omega) (fun b hb => by have := (UL.out b hb).1; omega)); have hz6 := hg6.size; clear hg6 hI6; obtain ⟨e0, e1, e2⟩ := E1.out.two; have ef := E1.out.fr 1; skip)
                    refine hK.out _ _ ?_ (fun hHeld => ?_)
                    · (try dsimp only)
                      (first | exact K3.out _ EA.out EN.out | exact K3.out _ (EA.out.far (p := ⟨w1.heap.size, 1, none⟩) gas _) (EN.out.far (p := ⟨w1.heap.size, 1, none⟩) gns _) | exact K3.out _ HCA.out N5.out | exact K3.out _ HCA.out.drew N5.out.drew | exact K3.out _ (HCA.out.alloc _) (N5.out.alloc _) | exact K3.out _ (HCA.out.alloc _).drew (N5.out.alloc _).drew)
                    clear hK K
                    refine wpAnyH_take (i := 17) (v := ?v17_14) rfl (by kernel_rfl) (by kernel_rfl) (by kernel_rfl) (fun _ _ _ h => h) (Or.inl ⟨by rfl, ?hy17_14⟩) (by assumption) ?rest17_14
                    case hy17_14 =>
                      intro w hSw
                      (try dsimp only at hSw)
                      go_simp
                      try with_reducible rfl
                    refine wpAnyH_ready (rs := [18]) (by kernel_rfl) (by simp) ?_
                    refine AllReadyH.cons rfl (fun K hK => ?_) AllReadyH.nil
                    go_simp
                    refine hK.out _ _ ?_ (fun hHeld => ?_)
                    · (try dsimp only)
                      (first | exact K3.out _ EA.out EN.out | exact K3.out _ (EA.out.far (p := ⟨w1.heap.size, 1, none⟩) gas _) (EN.out.far (p := ⟨w1.heap.size, 1, none⟩) gns _) | exact K3.out _ HCA.out N5.out | exact K3.out _ HCA.out.drew N5.out.drew | exact K3.out _ (HCA.out.alloc _) (N5.out.alloc _) | exact K3.out _ (HCA.out.alloc _).drew (N5.out.alloc _).drew)
                    clear hK K
                    refine wpAnyH_done (by kernel_rfl) ?_ _
                    go_wp2_with fail
                    have hz6' : w5.heap.size + 1 ≤ w6.heap.size := by simpa using hz6
                    have hzR : w3.heap.size ≤ w6.heap.size := by omega
                    clear hz6
                    refine ⟨⟨k + 1, .slice (some ⟨g6, 0, none⟩) (cs.length + 1) c6, _, by omega, by go_num, HA2, Lib.hid (E1.out.set 1 (.slice (some ⟨g6, 0, none⟩) (cs.length + 1) c6)), Lib.hid (EV.out.far (p := ⟨w1.heap.size, 1, none⟩) (show gv ≠ w1.heap.size by omega) _), Lib.hid (I6.out.far (p := ⟨w1.heap.size, 1, none⟩) (show w1.heap.size < w3.heap.size by omega) _), Lib.hid (B6.out.setCell (p := ⟨w1.heap.size, 1, none⟩) (Nat.le_refl _) _), Lib.hid (by simpa [World.setCell] using hzR)⟩, ?_⟩
                    simp [intOf]; omega
                  exact AllReadyH.nil
                exact AllReadyH.nil
              exact AllReadyH.nil
            exact AllReadyH.nil
          refine AllReadyH.cons rfl (fun K hK => ?_) ?_
          ·
            go_simp
            go_at_call 19
            refine (RB.out _).mono ?_
            rintro e w' ⟨rfl, rfl⟩
            try go_wp2_with fail
            refine hK.out _ _ ?_ (fun hHeld => ?_)
            · (try dsimp only)
              (first | exact K3.out _ EA.out EN.out | exact K3.out _ (EA.out.far (p := ⟨w1.heap.size, 1, none⟩) gas _) (EN.out.far (p := ⟨w1.heap.size, 1, none⟩) gns _) | exact K3.out _ HCA.out N5.out | exact K3.out _ HCA.out.drew N5.out.drew | exact K3.out _ (HCA.out.alloc _) (N5.out.alloc _) | exact K3.out _ (HCA.out.alloc _).drew (N5.out.alloc _).drew)
            clear hK K
            refine wpAnyH_ready (rs := [1, 13]) (by kernel_rfl) (by simp) ?_
            refine AllReadyH.cons rfl (fun K hK => ?_) ?_
            ·
              go_simp
              refine hK.out _ _ ?_ (fun hHeld => ?_)
              · (try dsimp only)
                (first | exact K3.out _ EA.out EN.out | exact K3.out _ (EA.out.far (p := ⟨w1.heap.size, 1, none⟩) gas _) (EN.out.far (p := ⟨w1.heap.size, 1, none⟩) gns _) | exact K3.out _ HCA.out N5.out | exact K3.out _ HCA.out.drew N5.out.drew | exact K3.out _ (HCA.out.alloc _) (N5.out.alloc _) | exact K3.out _ (HCA.out.alloc _).drew (N5.out.alloc _).drew)
              clear hK K
              refine wpAnyH_ready (rs := [13]) (by kernel_rfl) (by simp) ?_
              refine AllReadyH.cons rfl (fun K hK => ?_) ?_
              ·
                go_simp
                go_at_call 19
                refine (RZ.out _).mono ?_
                rintro e w' ⟨rfl, rfl⟩
                try go_wp2_with fail
                refine hK.out _ _ ?_ (fun hHeld => ?_)
                · (try dsimp only)
                  (first | exact K3.out _ EA.out EN.out | exact K3.out _ (EA.out.far (p := ⟨w1.heap.size, 1, none⟩) gas _) (EN.out.far (p := ⟨w1.heap.size, 1, none⟩) gns _) | exact K3.out _ HCA.out N5.out | exact K3.out _ HCA.out.drew N5.out.drew | exact K3.out _ (HCA.out.alloc _) (N5.out.alloc _) | exact K3.out _ (HCA.out.alloc _).drew (N5.out.alloc _).drew)
                clear hK K
                refine wpAnyH_take (i := 14) (v := ?v14_15) rfl (by kernel_rfl) (by kernel_rfl) (by kernel_rfl) (fun _ _ _ h => h) (Or.inl ⟨by rfl, ?hy14_15⟩) (by assumption) ?rest14_15
                case hy14_15 =>
                  intro w hSw
                  (try dsimp only at hSw)
                  go_simp
                  try with_reducible rfl
                refine wpAnyH_ready (rs := [15]) (by kernel_rfl) (by simp) ?_
                refine AllReadyH.cons rfl (fun K hK => ?_) ?_
                ·
                  go_simp
                  refine hK.out _ _ ?_ (fun hHeld => ?_)
                  · (try dsimp only)
                    (first | exact K3.out _ EA.out EN.out | exact K3.out _ (EA.out.far (p := ⟨w1.heap.size, 1, none⟩) gas _) (EN.out.far (p := ⟨w1.heap.size, 1, none⟩) gns _) | exact K3.out _ HCA.out N5.out | exact K3.out _ HCA.out.drew N5.out.drew | exact K3.out _ (HCA.out.alloc _) (N5.out.alloc _) | exact K3.out _ (HCA.out.alloc _).drew (N5.out.alloc _).drew)
                  clear hK K
                  refine wpAnyH_ready (rs := [16]) (by kernel_rfl) (by simp) ?_
                  refine AllReadyH.cons rfl (fun K hK => ?_) ?_
                  ·
                    (refine step_appB1 rfl (.tmp 54) (.tmp 68) rfl w3.heap.size u cs ?_ (U5.out.below (by (repeat (first | exact Below.refl _ _ | (refine Below.alloc ?_ (by first | omega | (simp; try omega)) _) | apply Below.drew)))) w5.heap.size va vb vz ?_ (by first | exact Blk.new _ _ _ | exact (Blk.new _ _ _).drew) hcl ?_ ?_; (· simp [Act.eval]); (· simp [Act.eval]); (· (simp; omega)); intro g6 c6 w6 hI6 hg6; have I6 := Lib.hid hI6; have E1 := Lib.hid ((XS5.out.below (B := w5.heap.size) (by (repeat (first | exact Below.refl _ _ | (refine Below.alloc ?_ (by first | omega | (simp; try omega)) _) | apply Below.drew))) lS).kept hg6 NS.out); have EV := Lib.hid ((R5.out.below (B := w5.heap.size) (by (repeat (first | exact Below.refl _ _ | (refine Below.alloc ?_ (by first | omega | (simp; try omega)) _) | apply Below.drew))) R5.out.lt).kept hg6 NV.out); have EA := Lib.hid ((HCA.out.below (B := w5.heap.size) (by (repeat (first | exact Below.refl _ _ | (refine Below.alloc ?_ (by first | omega | (simp; try omega)) _) | apply Below.drew))) lA).kept hg6 NA.out); have EN := Lib.hid ((N5.out.below (B := w5.heap.size) (by (repeat (first | exact Below.refl _ _ | (refine Below.alloc ?_ (by first | omega | (simp; try omega)) _) | apply Below.drew))) lN).kept hg6 NN.out); have B6 := Lib.hid ((B5.out.trans (Below.mono (B := w5.heap.size) (by (repeat (first | exact Below.refl _ _ | (refine Below.alloc ?_ (by first | omega | (simp; try omega)) _) | apply Below.drew))) B5.out.size)).grown hg6 (by have := B5.out.size; simp; omega) (fun b hb => by have := (UL.out b hb).1; omega)); have hz6 := hg6.size; clear hg6 hI6; obtain ⟨e0, e1, e2⟩ := E1.out.two; have ef := E1.out.fr 1; skip)
                    refine hK.out _ _ ?_ (fun hHeld => ?_)
                    · (try dsimp only)
                      (first | exact K3.out _ EA.out EN.out | exact K3.out _ (EA.out.far (p := ⟨w1.heap.size, 1, none⟩) gas _) (EN.out.far (p := ⟨w1.heap.size, 1, none⟩) gns _) | exact K3.out _ HCA.out N5.out | exact K3.out _ HCA.out.drew N5.out.drew | exact K3.out _ (HCA.out.alloc _) (N5.out.alloc _) | exact K3.out _ (HCA.out.alloc _).drew (N5.out.alloc _).drew)
                    clear hK K
                    refine wpAnyH_take (i := 17) (v := ?v17_16) rfl (by kernel_rfl) (by kernel_rfl) (by kernel_rfl) (fun _ _ _ h => h) (Or.inl ⟨by rfl, ?hy17_16⟩) (by assumption) ?rest17_16
                    case hy17_16 =>
                      intro w hSw
                      (try dsimp only at hSw)
                      go_simp
                      try with_reducible rfl
                    refine wpAnyH_ready (rs := [18]) (by kernel_rfl) (by simp) ?_
                    refine AllReadyH.cons rfl (fun K hK => ?_) AllReadyH.nil
                    go_simp
                    refine hK.out _ _ ?_ (fun hHeld => ?_)
                    · (try dsimp only)
                      (first | exact K3.out _ EA.out EN.out | exact K3.out _ (EA.out.far (p := ⟨w1.heap.size, 1, none⟩) gas _) (EN.out.far (p := ⟨w1.heap.size, 1, none⟩) gns _) | exact K3.out _ HCA.out N5.out | exact K3.out _ HCA.out.drew N5.out.drew | exact K3.out _ (HCA.out.alloc _) (N5.out.alloc _) | exact K3.out _ (HCA.out.alloc _).drew (N5.out.alloc _).drew)
                    clear hK K
                    refine wpAnyH_done (by kernel_rfl) ?_ _
                    go_wp2_with fail
                    have hz6' : w5.heap.size + 1 ≤ w6.heap.size := by simpa using hz6
                    have hzR : w3.heap.size ≤ w6.heap.size := by omega
                    clear hz6
                    refine ⟨⟨k + 1, .slice (some ⟨g6, 0, none⟩) (cs.length + 1) c6, _, by omega, by go_num, HA2, Lib.hid (E1.out.set 1 (.slice (some ⟨g6, 0, none⟩) (cs.length + 1) c6)), Lib.hid (EV.out.far (p := ⟨w1.heap.size, 1, none⟩) (show gv ≠ w1.heap.size by omega) _), Lib.hid (I6.out.far (p := ⟨w1.heap.size, 1, none⟩) (show w1.heap.size < w3.heap.size by omega) _), Lib.hid (B6.out.setCell (p := ⟨w1.heap.size, 1, none⟩) (Nat.le_refl _) _), Lib.hid (by simpa [World.setCell] using hzR)⟩, ?_⟩
                    simp [intOf]; omega
                  exact AllReadyH.nil
                exact AllReadyH.nil
              exact AllReadyH.nil
            refine AllReadyH.cons rfl (fun K hK => ?_) ?_
            ·
              go_simp
              go_at_call 19
              refine (RZ.out _).mono ?_
              rintro e w' ⟨rfl, rfl⟩
              try go_wp2_with fail
              refine hK.out _ _ ?_ (fun hHeld => ?_)
              · (try dsimp only)
                (first | exact K3.out _ EA.out EN.out | exact K3.out _ (EA.out.far (p := ⟨w1.heap.size, 1, none⟩) gas _) (EN.out.far (p := ⟨w1.heap.size, 1, none⟩) gns _) | exact K3.out _ HCA.out N5.out | exact K3.out _ HCA.out.drew N5.out.drew | exact K3.out _ (HCA.out.alloc _) (N5.out.alloc _) | exact K3.out _ (HCA.out.alloc _).drew (N5.out.alloc _).drew)
              clear hK K
              refine wpAnyH_take (i := 14) (v := ?v14_17) rfl (by kernel_rfl) (by kernel_rfl) (by kernel_rfl) (fun _ _ _ h => h) (Or.inl ⟨by rfl, ?hy14_17⟩) (by assumption) ?rest14_17
              case hy14_17 =>
                intro w hSw
                (try dsimp only at hSw)
                go_simp
                try with_reducible rfl
              refine wpAnyH_ready (rs := [1, 15]) (by kernel_rfl) (by simp) ?_
              refine AllReadyH.cons rfl (fun K hK => ?_) ?_
              ·
                go_simp
                refine hK.out _ _ ?_ (fun hHeld => ?_)
                · (try dsimp only)
                  (first | exact K3.out _ EA.out EN.out | exact K3.out _ (EA.out.far (p := ⟨w1.heap.size, 1, none⟩) gas _) (EN.out.far (p := ⟨w1.heap.size, 1, none⟩) gns _) | exact K3.out _ HCA.out N5.out | exact K3.out _ HCA.out.drew N5.out.drew | exact K3.out _ (HCA.out.alloc _) (N5.out.alloc _) | exact K3.out _ (HCA.out.alloc _).drew (N5.out.alloc _).drew)
                clear hK K
                refine wpAnyH_ready (rs := [15]) (by kernel_rfl) (by simp) ?_
                refine AllReadyH.cons rfl (fun K hK => ?_) ?_
                ·
                  go_simp
                  refine hK.out _ _ ?_ (fun hHeld => ?_)
                  · (try dsimp only)
                    (first | exact K3.out _ EA.out EN.out | exact K3.out _ (EA.out.far (p := ⟨w1.heap.size, 1, none⟩) gas _) (EN.out.far (p := ⟨w1.heap.size, 1, none⟩) gns _) | exact K3.out _ HCA.out N5.out | exact K3.out _ HCA.out.drew N5.out.drew | exact K3.out _ (HCA.out.alloc _) (N5.out.alloc _) | exact K3.out _ (HCA.out.alloc _).drew (N5.out.alloc _).drew)
                  clear hK K
                  refine wpAnyH_ready (rs := [16]) (by kernel_rfl) (by simp) ?_
                  refine AllReadyH.cons rfl (fun K hK => ?_) ?_
                  ·
                    (refine step_appB1 rfl (.tmp 54) (.tmp 68) rfl w3.heap.size u cs ?_ (U5.out.below (by (repeat (first | exact Below.refl _ _ | (refine Below.alloc ?_ (by first | omega | (simp; try omega)) _) | apply Below.drew)))) w5.heap.size va vb vz ?_ (by first | exact Blk.new _ _ _ | exact (Blk.new _ _ _).drew) hcl ?_ ?_; (· simp [Act.eval]); (· simp [Act.eval]); (· (simp; omega)); intro g6 c6 w6 hI6 hg6; have I6 := Lib.hid hI6; have E1 := Lib.hid ((XS5.out.below (B := w5.heap.size) (by (repeat (first | exact Below.refl _ _ | (refine Below.alloc ?_ (by first | omega | (simp; try omega)) _) | apply Below.drew))) lS).kept hg6 NS.out); have EV := Lib.hid ((R5.out.below (B := w5.heap.size) (by (repeat (first | exact Below.refl _ _ | (refine Below.alloc ?_ (by first | omega | (simp; try omega)) _) | apply Below.drew))) R5.out.lt).kept hg6 NV.out); have EA := Lib.hid ((HCA.out.below (B := w5.heap.size) (by (repeat (first | exact Below.refl _ _ | (refine Below.alloc ?_ (by first | omega | (simp; try omega)) _) | apply Below.drew))) lA).kept hg6 NA.out); have EN := Lib.hid ((N5.out.below (B := w5.heap.size) (by (repeat (first | exact Below.refl _ _ | (refine Below.alloc ?_ (by first | omega | (simp; try omega)) _) | apply Below.drew))) lN).kept hg6 NN.out); have B6 := Lib.hid ((B5.out.trans (Below.mono (B := w5.heap.size) (by (repeat (first | exact Below.refl _ _ | (refine Below.alloc ?_ (by first | omega | (simp; try omega)) _) | apply Below.drew))) B5.out.size)).grown hg6 (by have := B5.out.size; simp; omega) (fun b hb => by have := (UL.out b hb).1; omega)); have hz6 := hg6.size; clear hg6 hI6; obtain ⟨e0, e1, e2⟩ := E1.out.two; have ef := E1.out.fr 1; skip)
                    refine hK.out _ _ ?_ (fun hHeld => ?_)
                    · (try dsimp only)
                      (first | exact K3.out _ EA.out EN.out | exact K3.out _ (EA.out.far (p := ⟨w1.heap.size, 1, none⟩) gas _) (EN.out.far (p := ⟨w1.heap.size, 1, none⟩) gns _) | exact K3.out _ HCA.out N5.out | exact K3.out _ HCA.out.drew N5.out.drew | exact K3.out _ (HCA.out.alloc _) (N5.out.alloc _) | exact K3.out _ (HCA.out.alloc _).drew (N5.out.alloc _).drew)
                    clear hK K
                    refine wpAnyH_take (i := 17) (v := ?v17_18) rfl (by kernel_rfl) (by kernel_rfl) (by kernel_rfl) (fun _ _ _ h => h) (Or.inl ⟨by rfl, ?hy17_18⟩) (by assumption) ?rest17_18
                    case hy17_18 =>
                      intro w hSw
                      (try dsimp only at hSw)
                      go_simp
                      try with_reducible rfl
                    refine wpAnyH_ready (rs := [18]) (by kernel_rfl) (by simp) ?_
                    refine AllReadyH.cons rfl (fun K hK => ?_) AllReadyH.nil
                    go_simp
                    refine hK.out _ _ ?_ (fun hHeld => ?_)
                    · (try dsimp only)
                      (first | exact K3.out _ EA.out EN.out | exact K3.out _ (EA.out.far (p := ⟨w1.heap.size, 1, none⟩) gas _) (EN.out.far (p := ⟨w1.heap.size, 1, none⟩) gns _) | exact K3.out _ HCA.out N5.out | exact K3.out _ HCA.out.drew N5.out.drew | exact K3.out _ (HCA.out.alloc _) (N5.out.alloc _) | exact K3.out _ (HCA.out.alloc _).drew (N5.out.alloc _).drew)
                    clear hK K
                    refine wpAnyH_done (by kernel_rfl) ?_ _
                    go_wp2_with fail
                    have hz6' : w5.heap.size + 1 ≤ w6.heap.size := by simpa using hz6
                    have hzR : w3.heap.size ≤ w6.heap.size := by omega
                    clear hz6
                    refine ⟨⟨k + 1, .slice (some ⟨g6, 0, none⟩) (cs.length + 1) c6, _, by omega, by go_num, HA2, Lib.hid (E1.out.set 1 (.slice (some ⟨g6, 0, none⟩) (cs.length + 1) c6)), Lib.hid (EV.out.far (p := ⟨w1.heap.size, 1, none⟩) (show gv ≠ w1.heap.size by omega) _), Lib.hid (I6.out.far (p := ⟨w1.heap.size, 1, none⟩) (show w1.heap.size < w3.heap.size by omega) _), Lib.hid (B6.out.setCell (p := ⟨w1.heap.size, 1, none⟩) (Nat.le_refl _) _), Lib.hid (by simpa [World.setCell] using hzR)⟩, ?_⟩
                    simp [intOf]; omega
                  exact AllReadyH.nil
                exact AllReadyH.nil
              refine AllReadyH.cons rfl (fun K hK => ?_) ?_
              ·
                go_simp
                refine hK.out _ _ ?_ (fun hHeld => ?_)
                · (try dsimp only)
                  (first | exact K3.out _ EA.out EN.out | exact K3.out _ (EA.out.far (p := ⟨w1.heap.size, 1, none⟩) gas _) (EN.out.far (p := ⟨w1.heap.size, 1, none⟩) gns _) | exact K3.out _ HCA.out N5.out | exact K3.out _ HCA.out.drew N5.out.drew | exact K3.out _ (HCA.out.alloc _) (N5.out.alloc _) | exact K3.out _ (HCA.out.alloc _).drew (N5.out.alloc _).drew)
                clear hK K
                refine wpAnyH_ready (rs := [1]) (by kernel_rfl) (by simp) ?_
                refine AllReadyH.cons rfl (fun K hK => ?_) ?_
                ·
                  go_simp
                  refine hK.out _ _ ?_ (fun hHeld => ?_)
                  · (try dsimp only)
                    (first | exact K3.out _ EA.out EN.out | exact K3.out _ (EA.out.far (p := ⟨w1.heap.size, 1, none⟩) gas _) (EN.out.far (p := ⟨w1.heap.size, 1, none⟩) gns _) | exact K3.out _ HCA.out N5.out | exact K3.out _ HCA.out.drew N5.out.drew | exact K3.out _ (HCA.out.alloc _) (N5.out.alloc _) | exact K3.out _ (HCA.out.alloc _).drew (N5.out.alloc _).drew)
                  clear hK K
                  refine wpAnyH_ready (rs := [16]) (by kernel_rfl) (by simp) ?_
                  refine AllReadyH.cons rfl (fun K hK => ?_) ?_
                  ·
                    (refine step_appB1 rfl (.tmp 54) (.tmp 68) rfl w3.heap.size u cs ?_ (U5.out.below (by (repeat (first | exact Below.refl _ _ | (refine Below.alloc ?_ (by first | omega | (simp; try omega)) _) | apply Below.drew)))) w5.heap.size va vb vz ?_ (by first | exact Blk.new _ _ _ | exact (Blk.new _ _ _).drew) hcl ?_ ?_; (· simp [Act.eval]); (· simp [Act.eval]); (· (simp; omega)); intro g6 c6 w6 hI6 hg6; have I6 := Lib.hid hI6; have E1 := Lib.hid ((XS5.out.below (B := w5.heap.size) (by (repeat (first | exact Below.refl _ _ | (refine Below.alloc ?_ (by first | omega | (simp; try omega)) _) | apply Below.drew))) lS).kept hg6 NS.out); have EV := Lib.hid ((R5.out.below (B := w5.heap.size) (by (repeat (first | exact Below.refl _ _ | (refine Below.alloc ?_ (by first | omega | (simp; try omega)) _) | apply Below.drew))) R5.out.lt).kept hg6 NV.out); have EA := Lib.hid ((HCA.out.below (B := w5.heap.size) (by (repeat (first | exact Below.refl _ _ | (refine Below.alloc ?_ (by first | omega | (simp; try omega)) _) | apply Below.drew))) lA).kept hg6 NA.out); have EN := Lib.hid ((N5.out.below (B := w5.heap.size) (by (repeat (first | exact Below.refl _ _ | (refine Below.alloc ?_ (by first | omega | (simp; try omega)) _) | apply Below.drew))) lN).kept hg6 NN.out); have B6 := Lib.hid ((B5.out.trans (Below.mono (B := w5.heap.size) (by (repeat (first | exact Below.refl _ _ | (refine Below.alloc ?_ (by first | omega | (simp; try omega)) _) | apply Below.drew))) B5.out.size)).grown hg6 (by have := B5.out.size; simp; omega) (fun b hb => by have := (UL.out b hb).1; omega)); have hz6 := hg6.size; clear hg6 hI6; obtain ⟨e0, e1, e2⟩ := E1.out.two; have ef := E1.out.fr 1; skip)
                    refine hK.out _ _ ?_ (fun hHeld => ?_)
                    · (try dsimp only)
                      (first | exact K3.out _ EA.out EN.out | exact K3.out _ (EA.out.far (p := ⟨w1.heap.size, 1, none⟩) gas _) (EN.out.far (p := ⟨w1.heap.size, 1, none⟩) gns _) | exact K3.out _ HCA.out N5.out | exact K3.out _ HCA.out.drew N5.out.drew | exact K3.out _ (HCA.out.alloc _) (N5.out.alloc _) | exact K3.out _ (HCA.out.alloc _).drew (N5.out.alloc _).drew)
                    clear hK K
                    refine wpAnyH_take (i := 17) (v := ?v17_19) rfl (by kernel_rfl) (by kernel_rfl) (by kernel_rfl) (fun _ _ _ h => h) (Or.inl ⟨by rfl, ?hy17_19⟩) (by assumption) ?rest17_19
                    case hy17_19 =>
                      intro w hSw
                      (try dsimp only at hSw)
                      go_simp
                      try with_reducible rfl
                    refine wpAnyH_ready (rs := [18]) (by kernel_rfl) (by simp) ?_
                    refine AllReadyH.cons rfl (fun K hK => ?_) AllReadyH.nil
                    go_simp
                    refine hK.out _ _ ?_ (fun hHeld => ?_)
                    · (try dsimp only)
                      (first | exact K3.out _ EA.out EN.out | exact K3.out _ (EA.out.far (p := ⟨w1.heap.size, 1, none⟩) gas _) (EN.out.far (p := ⟨w1.heap.size, 1, none⟩) gns _) | exact K3.out _ HCA.out N5.out | exact K3.out _ HCA.out.drew N5.out.drew | exact K3.out _ (HCA.out.alloc _) (N5.out.alloc _) | exact K3.out _ (HCA.out.alloc _).drew (N5.out.alloc _).drew)
                    clear hK K
                    refine wpAnyH_done (by kernel_rfl) ?_ _
                    go_wp2_with fail
                    have hz6' : w5.heap.size + 1 ≤ w6.heap.size := by simpa using hz6
                    have hzR : w3.heap.size ≤ w6.heap.size := by omega
                    clear hz6
                    refine ⟨⟨k + 1, .slice (some ⟨g6, 0, none⟩) (cs.length + 1) c6, _, by omega, by go_num, HA2, Lib.hid (E1.out.set 1 (.slice (some ⟨g6, 0, none⟩) (cs.length + 1) c6)), Lib.hid (EV.out.far (p := ⟨w1.heap.size, 1, none⟩) (show gv ≠ w1.heap.size by omega) _), Lib.hid (I6.out.far (p := ⟨w1.heap.size, 1, none⟩) (show w1.heap.size < w3.heap.size by omega) _), Lib.hid (B6.out.setCell (p := ⟨w1.heap.size, 1, none⟩) (Nat.le_refl _) _), Lib.hid (by simpa [World.setCell] using hzR)⟩, ?_⟩
                    simp [intOf]; omega
                  exact AllReadyH.nil
                exact AllReadyH.nil
              exact AllReadyH.nil
            exact AllReadyH.nil
          exact AllReadyH.nil
        exact AllReadyH.nil
      · have hkn : k = nv := by omega
        have hlw : (spc 44 y.data.toList).length = nv := by rw [← HV.out, List.length_map]; exact HNV.out.symm
        have ANS := Lib.hid (show ansI t = if areIs nn cs = true then some (nn, cs) else none by
          rw [HNN.out]
          refine ans_got HXY.out HT.out (.inr ⟨HYD.out, ?_⟩)
          have h := HA.out
          rwa [List.take_of_length_le (by omega)] at h)
        have hcl : cs.length ≤ 1000 := by
          have := allB_len _ _ HA.out
          rw [List.length_take] at this
          omega
        have hw1 : w1.heap.size ≤ wr.heap.size := HB.out.size
        have YR := Lib.hid (Y1.out.below HB.out lt1)
        have HBR := Lib.hid (HB1.out.trans (HB.out.mono HB1.out.size))
        have BSR := Lib.hid (HU.out.mono (B := w1.heap.size) (by omega))
        have hkn2 : ¬ (k : Int) < nv := by omega
        obtain ⟨ua, ul, uc, rfl, hul⟩ := BSR.out.rd
        clear hul
        obtain ⟨us0, us1, us2⟩ := HS.out.two
        clear HA
        cases ha : areIs nn cs with
        | false =>
          have AN := Lib.hid (show ansI t = none by rw [ANS.out, if_neg (by rw [ha]; decide)])
          have G := Lib.hid ha
          clear ha
          go_wp2_with fail
          refine (isGood nn (.slice ua ul uc) cs _ BSR.out.rd (by omega)).mono ?_
          rw [G.out]
          rintro e w5 ⟨rfl, hb5⟩
          have Y5 := Lib.hid (YR.out.below hb5 YR.out.lt)
          have HB5 := Lib.hid (HBR.out.trans (hb5.mono HBR.out.size))
          clear hb5
          obtain ⟨y0, y1, y2⟩ := Y5.out.two
          have f0 := Y5.out.fr 0
          have f1 := Y5.out.fr 1
          go_wp2
          have p0 : ((World.setCell _ ⟨w.heap.size, 0, none⟩ (.int .i64 0)).setCell ⟨w.heap.size, 1, none⟩ (.slice none 0 0)).cell? ⟨w.heap.size, 0, none⟩ = some (.int .i64 0) := (((Y5.out.set 0 (.int .i64 0)).set 1 (.slice none 0 0)).cell 0).trans (by simp)
          have p1 : ((World.setCell _ ⟨w.heap.size, 0, none⟩ (.int .i64 0)).setCell ⟨w.heap.size, 1, none⟩ (.slice none 0 0)).cell? ⟨w.heap.size, 1, none⟩ = some (.slice none 0 0) := (((Y5.out.set 0 (.int .i64 0)).set 1 (.slice none 0 0)).cell 1).trans (by simp)
          refine bodyPost_ret (v := .tuple #[.agg #[.int .i64 0, .slice none 0 0], .bool false]) (by simp [results, Tryd.results9, go_sem, p0, p1]) rfl ?_
          exact FAIL.out _ HB5.out Y5.out AN.out
        | true =>
          have AN := Lib.hid (show ansI t = some (nn, cs) by rw [ANS.out, if_pos ha])
          have G := Lib.hid ha
          clear ha
          go_wp2_with fail
          refine (isGood nn (.slice ua ul uc) cs _ BSR.out.rd (by omega)).mono ?_
          rw [G.out]
          rintro e w5 ⟨rfl, hb5⟩
          have Y5 := Lib.hid (YR.out.below hb5 YR.out.lt)
          have S5 := Lib.hid (HS.out.below hb5 HS.out.lt)
          have I5 := Lib.hid (BSR.out.below hb5)
          have HB5 := Lib.hid (HBR.out.trans (hb5.mono HBR.out.size))
          clear hb5
          obtain ⟨s0, s1, s2⟩ := S5.out.two
          obtain ⟨y0, y1, y2⟩ := Y5.out.two
          have f0 := Y5.out.fr 0
          have f1 := Y5.out.fr 1
          go_wp2
          have p0 : ((World.setCell _ ⟨w.heap.size, 0, none⟩ (.int .i64 nn)).setCell ⟨w.heap.size, 1, none⟩ (.slice ua ul uc)).cell? ⟨w.heap.size, 0, none⟩ = some (.int .i64 nn) := (((Y5.out.set 0 (.int .i64 nn)).set 1 (.slice ua ul uc)).cell 0).trans (by simp)
          have p1 : ((World.setCell _ ⟨w.heap.size, 0, none⟩ (.int .i64 nn)).setCell ⟨w.heap.size, 1, none⟩ (.slice ua ul uc)).cell? ⟨w.heap.size, 1, none⟩ = some (.slice ua ul uc) := (((Y5.out.set 0 (.int .i64 nn)).set 1 (.slice ua ul uc)).cell 1).trans (by simp)
          have P := Lib.hid (p_some AN.out)
          refine bodyPost_ret (v := .tuple #[.agg #[.int .i64 nn, (.slice ua ul uc)], .bool true]) (by simp [results, Tryd.results9, go_sem, p0, p1]) rfl ⟨_, by rw [P.out.1, P.out.2.1], ?_, (HB5.out.setCell (by simp) _).setCell (by simp) _⟩
          rw [P.out.2.2]
          exact ((I5.out.far (p := ⟨w.heap.size, 0, none⟩) lt1 _).far (p := ⟨w.heap.size, 1, none⟩) lt1 _).mono (Nat.le_of_lt lt1)
end Go.Proofs.YthdmmliipmmfbacDoor
