/- CountSolutions, FirstSolution, IsSolved, both sides (written by gen_kzd.py). -/
import Derived.Test.YtnmeomcoeknjoabKzc
namespace Go.Proofs.Ytnmeomcoeknjoab
set_option linter.unusedVariables false
set_option maxRecDepth 100000
open Go.RowKit

theorem Strg.len_ {w : World} {B : Nat} {v : Value} {l : List ByteArray} (h : Strg w B v l) : ∃ a c, v = .slice a l.length c := by
  rcases h.2 with ⟨rfl, h0⟩ | ⟨g, cap, cur, rfl, _⟩
  · exact ⟨_, _, by rw [h0]⟩
  · exact ⟨_, _, rfl⟩
theorem Strg.cell0_ {w : World} {B : Nat} {a : Option Addr} {k c : Nat} {l : List ByteArray} (h : Strg w B (.slice a k c) l) (h0 : 0 < l.length) : ∃ g, a = some ⟨g, 0, none⟩ ∧ w.cell? ⟨g, 0, none⟩ = some (.string (gs l 0)) := by
  rcases h.2 with ⟨h1, h2⟩ | ⟨g, cap, cur, e, hb, hg, h3, h4, h5, h6⟩
  · omega
  · injection e with e1 e2 e3
    refine ⟨g, e1, ?_⟩
    have := World.ownsRow.cellAt (g := g) (cap := cap) (by unfold Strg at h; rw [e1, e2, e3] at h; exact h) 0 (by omega)
    rw [this]
    simp [strs, gs, h0]
def ctsV (m : Int) (cs : List Br) : Value := .tuple #[.int .i64 ((solL m cs).length : Int), .bool (isPz m cs)]
theorem ctsV_no {m : Int} {cs : List Br} (h : isPz m cs = false) : ctsV m cs = .tuple #[.int .i64 0, .bool false] := by simp [ctsV, solL, h]
theorem ctsV_yes {n : Nat} {cs : List Br} (h : isPz (n : Int) cs = true) : ctsV (n : Int) cs = .tuple #[.int .i64 ((sols n cs).length : Int), .bool true] := by simp [ctsV, solL, h]
def sldV (m : Int) (cs : List Br) : Value := .tuple #[.bool (((solL m cs).length : Int) == 1), .bool (isPz m cs)]
theorem sldV_no {m : Int} {cs : List Br} (h : isPz m cs = false) : sldV m cs = .tuple #[.bool false, .bool false] := by simp [sldV, solL, h]
theorem sldV_yes {n : Nat} {cs : List Br} (h : isPz (n : Int) cs = true) : sldV (n : Int) cs = .tuple #[.bool (((sols n cs).length : Int) == 1), .bool true] := by simp [sldV, solL, h]
def fsV (m : Int) (cs : List Br) : Value := if 0 < (solL m cs).length then .tuple #[.string (gs (solL m cs) 0), .bool true] else .tuple #[.string ⟨#[]⟩, .bool false]
theorem fsV_no {m : Int} {cs : List Br} (h : isPz m cs = false) : fsV m cs = .tuple #[.string ⟨#[]⟩, .bool false] := by simp [fsV, solL, h]
theorem fsV_0 {n : Nat} {cs : List Br} (h : isPz (n : Int) cs = true) (h0 : (sols n cs).length = 0) : fsV (n : Int) cs = .tuple #[.string ⟨#[]⟩, .bool false] := by
  unfold fsV; rw [solL_yes h, if_neg (by omega)]
theorem fsV_1 {n : Nat} {cs : List Br} (h : isPz (n : Int) cs = true) (h0 : 0 < (sols n cs).length) : fsV (n : Int) cs = .tuple #[.string (gs (sols n cs) 0), .bool true] := by
  unfold fsV; rw [solL_yes h, if_pos h0]
theorem fsV_form (m : Int) (cs : List Br) : ∃ x y, fsV m cs = .tuple #[.string x, .bool y] := by unfold fsV; split <;> exact ⟨_, _, rfl⟩
theorem pzSolved (n : Nat) (v : Value) (cs : List Br) (w : World) (h : RdB w v cs) (hn : 1 ≤ n ∧ n ≤ 8) (hl : cs.length ≤ 1000) (hc : ∀ c ∈ cs, isCl (n : Int) c = true) :
    Calls Try.prog 50 #[.int .i64 (n : Int), v] w fun e w' => e = .returned (.bool (((sols n cs).length : Int) == 1)) ∧ Below w.heap.size w w' := by
  have C := Lib.hid (fun wx hr => pzAll n v cs wx hr hn hl hc)
  have hlen := sols_len cs hn.2
  have HR := Lib.hid h
  obtain ⟨a, N, c, rfl, hN, _, _, hcell⟩ := h
  clear hN hcell hc
  generalize sols n cs = l at *
  go_enter Try.func50, Try.ntmps50
  go_wp2_with fail
  refine (C.out _ HR.out).mono ?_
  rintro e w1 ⟨u, rfl, hI, hb⟩
  obtain ⟨ua, uc, rfl⟩ := hI.len_
  go_wp2
  go_ret
  exact ⟨rfl, hb⟩
set_option maxHeartbeats 1000000 in
theorem specCnt (m : Int) (v : Value) (cs : List Br) (w : World) (h : RdB w v cs) (hl : cs.length ≤ 1048576) :
    Calls Try.prog 22 #[.agg #[.int .i64 m, v]] w fun e w' => e = .returned (ctsV m cs) ∧ Below w.heap.size w w' := by
  have HR := Lib.hid h
  obtain ⟨a, N, c, rfl, hN, _, _, hcell⟩ := h
  clear hN hcell
  cases hp : isPz m cs
  · have G := Lib.hid hp
    have E := Lib.hid (show ctsV m cs = .tuple #[.int .i64 0, .bool false] by exact ctsV_no hp)
    clear hp
    rw [E.out]
    go_enter Try.func22, Try.ntmps22
    go_wp2_with (go_at_call 40; refine (pzGood m _ cs _ (HR.out.below (by (repeat (first | exact Below.refl _ _ | (refine Below.alloc ?_ (by first | omega | (simp; try omega)) _) | apply Below.drew | apply below_drewN))))).mono ?_; rw [G.out]; rintro e w1 ⟨rfl, hb⟩)
    go_ret2
    exact ⟨rfl, Below.trans (by (repeat (first | exact Below.refl _ _ | (refine Below.alloc ?_ (by first | omega | (simp; try omega)) _) | apply Below.drew | apply below_drewN))) (hb.mono (by simp; try omega))⟩
  · obtain ⟨n, rfl, hn, h6, hc⟩ := isPz_nat hp
    have G := Lib.hid hp
    have E := Lib.hid (solL_yes hp)
    have C := Lib.hid (fun wx hr => pzAll n (.slice a N c) cs wx hr hn (by omega) hc)
    have hlen := sols_len cs hn.2
    rw [ctsV_yes hp]
    clear hp hc h6
    generalize sols n cs = l at *
    go_enter Try.func22, Try.ntmps22
    go_wp2_with fail
    refine (pzGood (n : Int) _ cs _ (HR.out.below (by (repeat (first | exact Below.refl _ _ | (refine Below.alloc ?_ (by first | omega | (simp; try omega)) _) | apply Below.drew | apply below_drewN))))).mono ?_
    rw [G.out]
    rintro e w1 ⟨rfl, hb⟩
    have HX := Lib.hid ((Blk.new w #[.int .i64 (n : Int), .slice a N c] 38).below hb (by simp))
    have HB := Lib.hid (Below.trans (by (repeat (first | exact Below.refl _ _ | (refine Below.alloc ?_ (by first | omega | (simp; try omega)) _) | apply Below.drew | apply below_drewN))) (hb.mono (by simp; try omega)) : Below w.heap.size w w1)
    obtain ⟨x0, x1, xl⟩ := HX.out.two
    have hle := HB.out.size
    clear hb
    go_wp2_with fail
    refine (C.out _ (HR.out.below HB.out)).mono ?_
    rintro e w2 ⟨u, rfl, hI, hb2⟩
    have HI := Lib.hid hI
    have HB2 := Lib.hid (HB.out.trans (hb2.mono hle))
    obtain ⟨ua, uc, rfl⟩ := hI.len_
    clear hI hb2
    go_wp2
    go_ret2
    exact ⟨rfl, HB2.out⟩
set_option maxHeartbeats 1000000 in
theorem specSld (m : Int) (v : Value) (cs : List Br) (w : World) (h : RdB w v cs) (hl : cs.length ≤ 1048576) :
    Calls Try.prog 28 #[.agg #[.int .i64 m, v]] w fun e w' => e = .returned (sldV m cs) ∧ Below w.heap.size w w' := by
  have HR := Lib.hid h
  obtain ⟨a, N, c, rfl, hN, _, _, hcell⟩ := h
  clear hN hcell
  cases hp : isPz m cs
  · have G := Lib.hid hp
    have E := Lib.hid (show sldV m cs = .tuple #[.bool false, .bool false] by exact sldV_no hp)
    clear hp
    rw [E.out]
    go_enter Try.func28, Try.ntmps28
    go_wp2_with (go_at_call 40; refine (pzGood m _ cs _ (HR.out.below (by (repeat (first | exact Below.refl _ _ | (refine Below.alloc ?_ (by first | omega | (simp; try omega)) _) | apply Below.drew | apply below_drewN))))).mono ?_; rw [G.out]; rintro e w1 ⟨rfl, hb⟩)
    go_ret2
    exact ⟨rfl, Below.trans (by (repeat (first | exact Below.refl _ _ | (refine Below.alloc ?_ (by first | omega | (simp; try omega)) _) | apply Below.drew | apply below_drewN))) (hb.mono (by simp; try omega))⟩
  · obtain ⟨n, rfl, hn, h6, hc⟩ := isPz_nat hp
    have G := Lib.hid hp
    have E := Lib.hid (solL_yes hp)
    have C := Lib.hid (fun wx hr => pzAll n (.slice a N c) cs wx hr hn (by omega) hc)
    have hlen := sols_len cs hn.2
    rw [sldV_yes hp]
    have C := Lib.hid (fun wx hr => pzSolved n (.slice a N c) cs wx hr hn (by omega) hc)
    clear hp hc h6
    generalize sols n cs = l at *
    go_enter Try.func28, Try.ntmps28
    go_wp2_with fail
    refine (pzGood (n : Int) _ cs _ (HR.out.below (by (repeat (first | exact Below.refl _ _ | (refine Below.alloc ?_ (by first | omega | (simp; try omega)) _) | apply Below.drew | apply below_drewN))))).mono ?_
    rw [G.out]
    rintro e w1 ⟨rfl, hb⟩
    have HX := Lib.hid ((Blk.new w #[.int .i64 (n : Int), .slice a N c] 38).below hb (by simp))
    have HB := Lib.hid (Below.trans (by (repeat (first | exact Below.refl _ _ | (refine Below.alloc ?_ (by first | omega | (simp; try omega)) _) | apply Below.drew | apply below_drewN))) (hb.mono (by simp; try omega)) : Below w.heap.size w w1)
    obtain ⟨x0, x1, xl⟩ := HX.out.two
    have hle := HB.out.size
    clear hb
    go_wp2_with fail
    refine (C.out _ (HR.out.below HB.out)).mono ?_
    rintro e w2 ⟨rfl, hb2⟩
    have HB2 := Lib.hid (HB.out.trans (hb2.mono hle))
    clear hb2
    go_wp2
    go_ret2
    exact ⟨rfl, HB2.out⟩
set_option maxHeartbeats 1000000 in
theorem specFst (m : Int) (v : Value) (cs : List Br) (w : World) (h : RdB w v cs) (hl : cs.length ≤ 1048576) :
    Calls Try.prog 24 #[.agg #[.int .i64 m, v]] w fun e w' => e = .returned (fsV m cs) ∧ Below w.heap.size w w' := by
  have HR := Lib.hid h
  obtain ⟨a, N, c, rfl, hN, _, _, hcell⟩ := h
  clear hN hcell
  cases hp : isPz m cs
  · have G := Lib.hid hp
    have E := Lib.hid (show fsV m cs = .tuple #[.string ⟨#[]⟩, .bool false] by exact fsV_no hp)
    clear hp
    rw [E.out]
    go_enter Try.func24, Try.ntmps24
    go_wp2_with (go_at_call 40; refine (pzGood m _ cs _ (HR.out.below (by (repeat (first | exact Below.refl _ _ | (refine Below.alloc ?_ (by first | omega | (simp; try omega)) _) | apply Below.drew | apply below_drewN))))).mono ?_; rw [G.out]; rintro e w1 ⟨rfl, hb⟩)
    go_ret2
    exact ⟨rfl, Below.trans (by (repeat (first | exact Below.refl _ _ | (refine Below.alloc ?_ (by first | omega | (simp; try omega)) _) | apply Below.drew | apply below_drewN))) (hb.mono (by simp; try omega))⟩
  · obtain ⟨n, rfl, hn, h6, hc⟩ := isPz_nat hp
    have G := Lib.hid hp
    have E := Lib.hid (solL_yes hp)
    have C := Lib.hid (fun wx hr => pzAll n (.slice a N c) cs wx hr hn (by omega) hc)
    have hlen := sols_len cs hn.2
    by_cases h0 : 0 < (sols n cs).length
    · rw [fsV_1 hp h0]
      clear hp hc h6
      generalize sols n cs = l at *
      generalize hgs : gs l 0 = r
      have HGS := Lib.hid hgs
      clear hgs
      go_enter Try.func24, Try.ntmps24
      go_wp2_with fail
      refine (pzGood (n : Int) _ cs _ (HR.out.below (by (repeat (first | exact Below.refl _ _ | (refine Below.alloc ?_ (by first | omega | (simp; try omega)) _) | apply Below.drew | apply below_drewN))))).mono ?_
      rw [G.out]
      rintro e w1 ⟨rfl, hb⟩
      have HX := Lib.hid ((Blk.new w #[.int .i64 (n : Int), .slice a N c] 38).below hb (by simp))
      have HB := Lib.hid (Below.trans (by (repeat (first | exact Below.refl _ _ | (refine Below.alloc ?_ (by first | omega | (simp; try omega)) _) | apply Below.drew | apply below_drewN))) (hb.mono (by simp; try omega)) : Below w.heap.size w w1)
      obtain ⟨x0, x1, xl⟩ := HX.out.two
      have hle := HB.out.size
      clear hb
      go_wp2_with fail
      refine (C.out _ (HR.out.below HB.out)).mono ?_
      rintro e w2 ⟨u, rfl, hI, hb2⟩
      have HI := Lib.hid hI
      have HB2 := Lib.hid (HB.out.trans (hb2.mono hle))
      obtain ⟨ua, uc, rfl⟩ := hI.len_
      clear hI hb2
      have hcell0 := HI.out.cell0_ h0
      obtain ⟨g, rfl, hc0⟩ := hcell0
      rw [HGS.out] at hc0
      have h0' : ¬ (l.length : Int) = 0 := by omega
      have h0'' : (0 : Int) < l.length := by omega
      go_wp2
      go_ret2
      exact ⟨rfl, HB2.out⟩
    · rw [fsV_0 hp (by omega)]
      have hz : (sols n cs).length = 0 := by omega
      clear hp hc h6
      generalize sols n cs = l at *
      go_enter Try.func24, Try.ntmps24
      go_wp2_with fail
      refine (pzGood (n : Int) _ cs _ (HR.out.below (by (repeat (first | exact Below.refl _ _ | (refine Below.alloc ?_ (by first | omega | (simp; try omega)) _) | apply Below.drew | apply below_drewN))))).mono ?_
      rw [G.out]
      rintro e w1 ⟨rfl, hb⟩
      have HX := Lib.hid ((Blk.new w #[.int .i64 (n : Int), .slice a N c] 38).below hb (by simp))
      have HB := Lib.hid (Below.trans (by (repeat (first | exact Below.refl _ _ | (refine Below.alloc ?_ (by first | omega | (simp; try omega)) _) | apply Below.drew | apply below_drewN))) (hb.mono (by simp; try omega)) : Below w.heap.size w w1)
      obtain ⟨x0, x1, xl⟩ := HX.out.two
      have hle := HB.out.size
      clear hb
      go_wp2_with fail
      refine (C.out _ (HR.out.below HB.out)).mono ?_
      rintro e w2 ⟨u, rfl, hI, hb2⟩
      have HI := Lib.hid hI
      have HB2 := Lib.hid (HB.out.trans (hb2.mono hle))
      obtain ⟨ua, uc, rfl⟩ := hI.len_
      clear hI hb2
      have HZ := Lib.hid hz
      rw [hz]
      clear hz h0 HI
      go_wp2
      go_ret2
      exact ⟨rfl, HB2.out⟩
set_option maxHeartbeats 1000000 in
theorem implCnt (m : Int) (v : Value) (cs : List Br) (w : World) (h : RdB w v cs) (hl : cs.length ≤ 1048576) :
    Calls Try.prog 23 #[.agg #[.int .i64 m, v]] w fun e w' => e = .returned (ctsV m cs) ∧ Below w.heap.size w w' := by
  have HR := Lib.hid h
  obtain ⟨a, N, c, rfl, hN, _, _, hcell⟩ := h
  clear hN hcell
  have hlen := solL_len m cs
  have C := Lib.hid (fun wx hr => implSols m (.slice a N c) cs wx hr hl)
  unfold ctsV
  generalize solL m cs = l at *
  generalize isPz m cs = ok at *
  go_enter Try.func23, Try.ntmps23
  go_wp2_with fail
  refine (C.out _ (HR.out.below (by (repeat (first | exact Below.refl _ _ | (refine Below.alloc ?_ (by first | omega | (simp; try omega)) _) | apply Below.drew | apply below_drewN))))).mono ?_
  rintro e w1 ⟨u, rfl, hI, hb⟩
  have HB := Lib.hid (Below.trans (by (repeat (first | exact Below.refl _ _ | (refine Below.alloc ?_ (by first | omega | (simp; try omega)) _) | apply Below.drew | apply below_drewN))) (hb.mono (by simp; try omega)) : Below w.heap.size w w1)
  have HI := Lib.hid hI
  obtain ⟨ua, uc, rfl⟩ := hI.len_
  clear hI hb
  go_wp2
  go_ret2
  exact ⟨rfl, HB.out⟩
set_option maxHeartbeats 1000000 in
theorem implSld (m : Int) (v : Value) (cs : List Br) (w : World) (h : RdB w v cs) (hl : cs.length ≤ 1048576) :
    Calls Try.prog 29 #[.agg #[.int .i64 m, v]] w fun e w' => e = .returned (sldV m cs) ∧ Below w.heap.size w w' := by
  have HR := Lib.hid h
  obtain ⟨a, N, c, rfl, hN, _, _, hcell⟩ := h
  clear hN hcell
  have C := Lib.hid (fun wx hr => implCnt m (.slice a N c) cs wx hr hl)
  unfold sldV
  unfold ctsV at C
  generalize solL m cs = l at *
  generalize isPz m cs = ok at *
  go_enter Try.func29, Try.ntmps29
  go_wp2_with fail
  refine (C.out _ (HR.out.below (by (repeat (first | exact Below.refl _ _ | (refine Below.alloc ?_ (by first | omega | (simp; try omega)) _) | apply Below.drew | apply below_drewN))))).mono ?_
  rintro e w1 ⟨rfl, hb⟩
  have HB := Lib.hid (Below.trans (by (repeat (first | exact Below.refl _ _ | (refine Below.alloc ?_ (by first | omega | (simp; try omega)) _) | apply Below.drew | apply below_drewN))) (hb.mono (by simp; try omega)) : Below w.heap.size w w1)
  clear hb
  go_wp2
  go_ret2
  exact ⟨rfl, HB.out⟩
set_option maxHeartbeats 1000000 in
theorem implFst (m : Int) (v : Value) (cs : List Br) (w : World) (h : RdB w v cs) (hl : cs.length ≤ 1048576) :
    Calls Try.prog 25 #[.agg #[.int .i64 m, v]] w fun e w' => e = .returned (fsV m cs) ∧ Below w.heap.size w w' := by
  have HR := Lib.hid h
  obtain ⟨a, N, c, rfl, hN, _, _, hcell⟩ := h
  clear hN hcell
  cases hp : isPz m cs
  · rw [fsV_no hp]
    have C := Lib.hid (fun wx hr => implSols m (.slice a N c) cs wx hr hl)
    rw [solL_no hp, hp] at C
    clear hp
    go_enter Try.func25, Try.ntmps25
    go_wp2_with fail
    refine (C.out _ (HR.out.below (by (repeat (first | exact Below.refl _ _ | (refine Below.alloc ?_ (by first | omega | (simp; try omega)) _) | apply Below.drew | apply below_drewN))))).mono ?_
    rintro e w1 ⟨u, rfl, hI, hb⟩
    have HB := Lib.hid (Below.trans (by (repeat (first | exact Below.refl _ _ | (refine Below.alloc ?_ (by first | omega | (simp; try omega)) _) | apply Below.drew | apply below_drewN))) (hb.mono (by simp; try omega)) : Below w.heap.size w w1)
    have HI := Lib.hid hI
    obtain ⟨ua, uc, rfl⟩ := hI.len_
    clear hI hb
    go_wp2
    go_ret2
    exact ⟨rfl, HB.out⟩
  · have hlen := solL_len m cs
    by_cases h0 : 0 < (solL m cs).length
    · have E : fsV m cs = .tuple #[.string (gs (solL m cs) 0), .bool true] := by unfold fsV; rw [if_pos h0]
      rw [E]
      have C := Lib.hid (fun wx hr => implSols m (.slice a N c) cs wx hr hl)
      rw [hp] at C
      clear hp E
      generalize solL m cs = l at *
      generalize hgs : gs l 0 = r
      have HGS := Lib.hid hgs
      clear hgs
      go_enter Try.func25, Try.ntmps25
      go_wp2_with fail
      refine (C.out _ (HR.out.below (by (repeat (first | exact Below.refl _ _ | (refine Below.alloc ?_ (by first | omega | (simp; try omega)) _) | apply Below.drew | apply below_drewN))))).mono ?_
      rintro e w1 ⟨u, rfl, hI, hb⟩
      have HB := Lib.hid (Below.trans (by (repeat (first | exact Below.refl _ _ | (refine Below.alloc ?_ (by first | omega | (simp; try omega)) _) | apply Below.drew | apply below_drewN))) (hb.mono (by simp; try omega)) : Below w.heap.size w w1)
      have HI := Lib.hid hI
      obtain ⟨ua, uc, rfl⟩ := hI.len_
      clear hI hb
      obtain ⟨g, rfl, hc0⟩ := HI.out.cell0_ h0
      rw [HGS.out] at hc0
      have h0' : ¬ (l.length : Int) = 0 := by omega
      have h0'' : (0 : Int) < l.length := by omega
      go_wp2
      go_ret2
      exact ⟨rfl, HB.out⟩
    · have E : fsV m cs = .tuple #[.string ⟨#[]⟩, .bool false] := by unfold fsV; rw [if_neg h0]
      rw [E]
      have C := Lib.hid (fun wx hr => implSols m (.slice a N c) cs wx hr hl)
      rw [hp] at C
      clear hp E
      generalize solL m cs = l at *
      have hz : l.length = 0 := by omega
      obtain rfl : l = [] := List.length_eq_zero_iff.1 hz
      clear hz h0 hlen
      go_enter Try.func25, Try.ntmps25
      go_wp2_with fail
      refine (C.out _ (HR.out.below (by (repeat (first | exact Below.refl _ _ | (refine Below.alloc ?_ (by first | omega | (simp; try omega)) _) | apply Below.drew | apply below_drewN))))).mono ?_
      rintro e w1 ⟨u, rfl, hI, hb⟩
      have HB := Lib.hid (Below.trans (by (repeat (first | exact Below.refl _ _ | (refine Below.alloc ?_ (by first | omega | (simp; try omega)) _) | apply Below.drew | apply below_drewN))) (hb.mono (by simp; try omega)) : Below w.heap.size w w1)
      have HI := Lib.hid hI
      obtain ⟨ua, uc, rfl⟩ := hI.len_
      clear hI hb
      clear HI
      go_wp2
      go_ret2
      exact ⟨rfl, HB.out⟩
end Go.Proofs.Ytnmeomcoeknjoab
