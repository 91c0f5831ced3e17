/- Solutions, CountSolutions, IsSolved (impl) and pzSolved beside NeedlessClues (written by gen_kzk.py). -/
import Derived.Test.YtnmeomcoeknjoacKzj
namespace Go.Proofs.Ytnmeomcoeknjoac
set_option linter.unusedVariables false
set_option maxRecDepth 100000
open Go.RowKit

theorem ask_all {cs : List Br} {N : Nat} {s : ByteArray} (hN : N = cs.length) (h6 : cs.length ≤ 6) : askOK (first N) (fitK cs s) = fitAll cs s := by
  refine ask_list h6 (fun q hq => ?_) (fun d hd => ?_) s
  · have : q < N := by simpa [first] using hq
    exact ⟨by omega, gb_mem (by omega)⟩
  · obtain ⟨q, hq, e⟩ := mem_gb hd
    exact ⟨q, by simp [first]; omega, e⟩
def solL (m : Int) (cs : List Br) : List ByteArray := if isPz m cs then sols m.toNat cs else []
theorem solL_no {m : Int} {cs : List Br} (h : isPz m cs = false) : solL m cs = [] := by simp [solL, h]
theorem solL_yes {n : Nat} {cs : List Br} (h : isPz (n : Int) cs = true) : solL (n : Int) cs = sols n cs := by simp [solL, h]
theorem solL_len (m : Int) (cs : List Br) : (solL m cs).length ≤ 256 := by
  unfold solL
  split
  · rename_i h
    have := (isPz_iff.1 h)
    exact sols_len _ (by omega)
  · simp
def StrP (B : Nat) (l : List ByteArray) (ok : Bool) (w : World) (e : Ending) (w' : World) : Prop := ∃ u, e = .returned (.tuple #[u, .bool ok]) ∧ Strg w' B u l ∧ Below w.heap.size w w'
theorem HRs.some_ {w : World} {B g c N : Nat} {v : Value} {R : Nat → ByteArray} {F : Nat → Nat → Bool} (h : HRs w B v N R F) (e : v = .slice (some ⟨g, 0, none⟩) N c) : HRs w B (.slice (some ⟨g, 0, none⟩) N c) N R F := e ▸ h
set_option maxHeartbeats 4000000 in
theorem implSols (m : Int) (v : Value) (cs : List Br) (w : World) (h : RdB w v cs) (hl : cs.length ≤ 1048576) :
    Calls Try.prog 56 #[.agg #[.int .i64 m, v]] w (StrP w.heap.size (solL m cs) (isPz m cs) w) := by
  have HR := Lib.hid h
  obtain ⟨a, N, c, rfl, hN, _, _, hcell⟩ := h
  have HN := Lib.hid hN
  clear hN hcell
  cases hp : isPz m cs
  · have G := Lib.hid hp
    have E := Lib.hid (solL_no hp)
    clear hp
    go_enter Try.func56, Try.ntmps56
    go_wp2_with (go_at_call 28; refine (implIsPz m _ cs _ (HR.out.below (by (repeat (first | exact Below.refl _ _ | (refine Below.alloc ?_ (by first | omega | (simp; try omega)) _) | apply Below.drew | apply below_drewN)))) hl).mono ?_; rw [G.out]; rintro e w1 ⟨rfl, hb⟩)
    go_ret2
    exact ⟨_, rfl, by rw [E.out]; exact World.ownsRow_nil _ _ _ _, Below.trans (by (repeat (first | exact Below.refl _ _ | (refine Below.alloc ?_ (by first | omega | (simp; try omega)) _) | apply Below.drew | apply below_drewN))) (hb.mono (by simp; try omega))⟩
  · obtain ⟨n, rfl, hn, h6, hc⟩ := isPz_nat hp
    have G := Lib.hid hp
    have E := Lib.hid (solL_yes hp)
    have C := Lib.hid (fun wx hr => riversOf n (.slice a N c) cs wx hr hn h6 hc)
    have hNb : N ≤ 6 := by have := HN.out; omega
    have HFC := Lib.hid (fun wx => firstClues N wx hNb)
    have H6 := Lib.hid h6
    clear hp hc h6
    go_enter Try.func56, Try.ntmps56
    go_wp2_with fail
    refine (implIsPz (n : Int) _ cs _ (HR.out.below (by (repeat (first | exact Below.refl _ _ | (refine Below.alloc ?_ (by first | omega | (simp; try omega)) _) | apply Below.drew | apply below_drewN)))) hl).mono ?_
    rw [G.out]
    rintro e w1 ⟨rfl, hb⟩
    have HX := Lib.hid ((Blk.new w #[.int .i64 (n : Int), .slice a N c] 31).below hb (by simp))
    have HB := Lib.hid (Below.trans (by (repeat (first | exact Below.refl _ _ | (refine Below.alloc ?_ (by first | omega | (simp; try omega)) _) | apply Below.drew | apply below_drewN))) (hb.mono (by simp; try omega)) : Below w.heap.size w w1)
    obtain ⟨x0, x1, xl⟩ := HX.out.two
    have hle := HB.out.size
    clear hb
    go_wp2_with fail
    refine (C.out _ (HR.out.below HB.out)).mono ?_
    rintro e w2 ⟨u, rfl, hI, ⟨g, gc, rfl⟩, hb2⟩
    obtain ⟨P, hP⟩ : ∃ P, P = 2 ^ n := ⟨_, rfl⟩
    have hP8 : P ≤ 256 := by rw [hP]; exact pow_8 hn.2
    rw [← hP] at hI ⊢
    have HP := Lib.hid hP
    have HI := Lib.hid hI
    have HX2 := Lib.hid (HX.out.below hb2 HX.out.lt)
    have HB2 := Lib.hid (HB.out.trans (hb2.mono hle))
    have hgl := hI.blk.2
    clear hI hb2 hP x0 x1 xl hle
    go_wp2_with fail
    go_loopw [4, 13] (fun o i wr => ∃ k : Nat, k ≤ P ∧ i = .int .i64 (k : Int) ∧ Hid (Strg wr w2.heap.size o (solN n cs k)) ∧ Hid (Below w2.heap.size w2 wr)) (fun _ i _ => P - (intOf i).toNat)
    case atStart => exact ⟨0, Nat.zero_le _, rfl, Lib.hid (World.ownsRow_nil _ _ _ _), Lib.hid (Below.refl _ _)⟩
    case round =>
      obtain ⟨k, hk, rfl, HS, HQ⟩ := hrel
      have hqle := HQ.out.size
      have HBQ := Lib.hid (HB2.out.trans (HQ.out.mono HB2.out.size))
      by_cases hlt : k < P
      · have hlt' : (k : Int) < P := by omega
        obtain ⟨c0, c1, c2, c3, c4, c5, c6⟩ := (HI.out.below HQ.out).seven hlt
        obtain ⟨x0, x1, xl⟩ := (HX2.out.below HQ.out HX2.out.lt).two
        have HPX := Lib.hid (HX2.out.below HQ.out HX2.out.lt)
        have HY := Lib.hid (solN_yes (n := n) (m := k) (cs := cs))
        have HNO := Lib.hid (solN_no (n := n) (m := k) (cs := cs))
        have hll := solN_len n cs k
        have HA := Lib.hid (ask_all (s := rvN n k) HN.out H6.out)
        generalize hf : fitK cs (rvN n k) = f at *
        clear hf
        generalize rvN n k = r at *
        have HFA := Lib.hid (fun wx => fitsAll r f (first N) wx)
        rw [HA.out] at HFA
        clear HA
        have BX := Lib.hid (Blk.new wr #[.string r, .bool (f 0), .bool (f 1), .bool (f 2), .bool (f 3), .bool (f 4), .bool (f 5)] 71)
        cases hfa : fitAll cs r
        · have E2 := Lib.hid (HNO.out hfa)
          rw [hfa] at HFA
          clear HY HNO hfa
          go_wp2_with fail
          go_region_with (first
            | (go_at_call 30; refine (HFC.out _).mono ?_; rintro e w5 ⟨rfl, hb5⟩; have BX5 := Lib.hid (BX.out.drew.below hb5 (by simp)); have D5 := Lib.hid (Below.trans (by (repeat (first | exact Below.refl _ _ | (refine Below.alloc ?_ (by first | omega | (simp; try omega)) _) | apply Below.drew | apply below_drewN))) (hb5.mono (by simp; try omega)) : Below wr.heap.size wr w5); obtain ⟨q0, q1, q2, q3, q4, q5, q6⟩ := BX5.out.seven_; clear hb5)
            | (go_at_call 47; refine (HFA.out _).mono ?_; rintro e w6 ⟨rfl, hb6⟩; have D6 := Lib.hid (D5.out.trans (hb6.mono D5.out.size)); have BX6 := Lib.hid (BX5.out.below hb6 BX5.out.lt); clear hb6))
          all_goals
            have HQ6 := Lib.hid (HQ.out.trans (D6.out.mono hqle))
            have HS6 := Lib.hid (HS.out.below D6.out)
            clear q0 q1 q2 q3 q4 q5 q6 c0 c1 c2 c3 c4 c5 c6 x0 x1
            go_wp2
            go_roundw
            case rel => exact ⟨k + 1, by omega, by go_num, Lib.hid (by rw [E2.out]; exact HS6.out), HQ6⟩
            case measure => (simp [intOf]; try omega)
        · have E2 := Lib.hid (HY.out hfa)
          rw [hfa] at HFA
          clear HY HNO hfa
          go_wp2_with fail
          go_region_with (first
            | (go_at_call 30; refine (HFC.out _).mono ?_; rintro e w5 ⟨rfl, hb5⟩; have BX5 := Lib.hid (BX.out.drew.below hb5 (by simp)); have D5 := Lib.hid (Below.trans (by (repeat (first | exact Below.refl _ _ | (refine Below.alloc ?_ (by first | omega | (simp; try omega)) _) | apply Below.drew | apply below_drewN))) (hb5.mono (by simp; try omega)) : Below wr.heap.size wr w5); obtain ⟨q0, q1, q2, q3, q4, q5, q6⟩ := BX5.out.seven_; clear hb5)
            | (go_at_call 47; refine (HFA.out _).mono ?_; rintro e w6 ⟨rfl, hb6⟩; have D6 := Lib.hid (D5.out.trans (hb6.mono D5.out.size)); have BX6 := Lib.hid (BX5.out.below hb6 BX5.out.lt); clear hb6))
          all_goals
            have HQ6 := Lib.hid (HQ.out.trans (D6.out.mono hqle))
            have HS6 := Lib.hid (HS.out.below D6.out)
            clear q0 q1 q2 q3 q4 q5 q6 c0 c1 c2 c3 c4 c5 c6 x0 x1
            obtain ⟨q0, q1, q2, q3, q4, q5, q6⟩ := BX6.out.seven_
            have hle6 := D6.out.size
            go_wp2_with (at_builtin; refine wpList_appS w6 rfl _ _ rfl w2.heap.size _ (solN n cs k) rfl HS6.out r _ rfl rfl (by omega) (by have := HQ6.out.size; omega) rfl ?_; intro v' w7 hI7 hb7 hg7; have HQ7 := Lib.hid (HQ6.out.trans hb7); have HS7 := Lib.hid hI7; clear hI7 hb7 hg7)
            go_roundw
            case rel => exact ⟨k + 1, by omega, by go_num, Lib.hid (by rw [E2.out]; exact HS7.out), HQ7⟩
            case measure => (simp [intOf]; try omega)
      · obtain rfl : k = P := by omega
        have E3 : solN n cs k = sols n cs := by unfold sols; rw [← HP.out]
        have HE3 := Lib.hid E3
        clear E3
        go_wp2
        go_ret2
        exact ⟨_, rfl, by rw [E.out, ← HE3.out]; exact strg_mono HS.out HB2.out.size, HBQ.out⟩

theorem Strg.cell0_ {w : World} {B : Nat} {a : Option Addr} {k c : Nat} {l : List ByteArray} (h : Strg w B (.slice a k c) l) (h0 : 0 < l.length) : ∃ g, a = some ⟨g, 0, none⟩ ∧ w.cell? ⟨g, 0, none⟩ = some (.string (gs l 0)) := by
  rcases h.2 with ⟨h1, h2⟩ | ⟨g, cap, cur, e, hb, hg, h3, h4, h5, h6⟩
  · omega
  · injection e with e1 e2 e3
    refine ⟨g, e1, ?_⟩
    have := World.ownsRow.cellAt (g := g) (cap := cap) (by unfold Strg at h; rw [e1, e2, e3] at h; exact h) 0 (by omega)
    rw [this]
    simp [strs, gs, h0]
def ctsV (m : Int) (cs : List Br) : Value := .tuple #[.int .i64 ((solL m cs).length : Int), .bool (isPz m cs)]
theorem ctsV_no {m : Int} {cs : List Br} (h : isPz m cs = false) : ctsV m cs = .tuple #[.int .i64 0, .bool false] := by simp [ctsV, solL, h]
theorem ctsV_yes {n : Nat} {cs : List Br} (h : isPz (n : Int) cs = true) : ctsV (n : Int) cs = .tuple #[.int .i64 ((sols n cs).length : Int), .bool true] := by simp [ctsV, solL, h]
def sldV (m : Int) (cs : List Br) : Value := .tuple #[.bool (((solL m cs).length : Int) == 1), .bool (isPz m cs)]
theorem sldV_no {m : Int} {cs : List Br} (h : isPz m cs = false) : sldV m cs = .tuple #[.bool false, .bool false] := by simp [sldV, solL, h]
theorem sldV_yes {n : Nat} {cs : List Br} (h : isPz (n : Int) cs = true) : sldV (n : Int) cs = .tuple #[.bool (((sols n cs).length : Int) == 1), .bool true] := by simp [sldV, solL, h]
def fsV (m : Int) (cs : List Br) : Value := if 0 < (solL m cs).length then .tuple #[.string (gs (solL m cs) 0), .bool true] else .tuple #[.string ⟨#[]⟩, .bool false]
theorem fsV_no {m : Int} {cs : List Br} (h : isPz m cs = false) : fsV m cs = .tuple #[.string ⟨#[]⟩, .bool false] := by simp [fsV, solL, h]
theorem fsV_0 {n : Nat} {cs : List Br} (h : isPz (n : Int) cs = true) (h0 : (sols n cs).length = 0) : fsV (n : Int) cs = .tuple #[.string ⟨#[]⟩, .bool false] := by
  unfold fsV; rw [solL_yes h, if_neg (by omega)]
theorem fsV_1 {n : Nat} {cs : List Br} (h : isPz (n : Int) cs = true) (h0 : 0 < (sols n cs).length) : fsV (n : Int) cs = .tuple #[.string (gs (sols n cs) 0), .bool true] := by
  unfold fsV; rw [solL_yes h, if_pos h0]
theorem fsV_form (m : Int) (cs : List Br) : ∃ x y, fsV m cs = .tuple #[.string x, .bool y] := by unfold fsV; split <;> exact ⟨_, _, rfl⟩
theorem pzSolved (n : Nat) (v : Value) (cs : List Br) (w : World) (h : RdB w v cs) (hn : 1 ≤ n ∧ n ≤ 8) (hl : cs.length ≤ 1000) (hc : ∀ c ∈ cs, isCl (n : Int) c = true) :
    Calls Try.prog 35 #[.int .i64 (n : Int), v] w fun e w' => e = .returned (.bool (((sols n cs).length : Int) == 1)) ∧ Below w.heap.size w w' := by
  have C := Lib.hid (fun wx hr => pzAll n v cs wx hr hn hl hc)
  have hlen := sols_len cs hn.2
  have HR := Lib.hid h
  obtain ⟨a, N, c, rfl, hN, _, _, hcell⟩ := h
  clear hN hcell hc
  generalize sols n cs = l at *
  go_enter Try.func35, Try.ntmps35
  go_wp2_with fail
  refine (C.out _ HR.out).mono ?_
  rintro e w1 ⟨u, rfl, hI, hb⟩
  obtain ⟨ua, uc, rfl⟩ := hI.len_
  go_wp2
  go_ret
  exact ⟨rfl, hb⟩
set_option maxHeartbeats 1000000 in
theorem implCnt (m : Int) (v : Value) (cs : List Br) (w : World) (h : RdB w v cs) (hl : cs.length ≤ 1048576) :
    Calls Try.prog 49 #[.agg #[.int .i64 m, v]] w fun e w' => e = .returned (ctsV m cs) ∧ Below w.heap.size w w' := by
  have HR := Lib.hid h
  obtain ⟨a, N, c, rfl, hN, _, _, hcell⟩ := h
  clear hN hcell
  have hlen := solL_len m cs
  have C := Lib.hid (fun wx hr => implSols m (.slice a N c) cs wx hr hl)
  unfold ctsV
  generalize solL m cs = l at *
  generalize isPz m cs = ok at *
  go_enter Try.func49, Try.ntmps49
  go_wp2_with fail
  refine (C.out _ (HR.out.below (by (repeat (first | exact Below.refl _ _ | (refine Below.alloc ?_ (by first | omega | (simp; try omega)) _) | apply Below.drew | apply below_drewN))))).mono ?_
  rintro e w1 ⟨u, rfl, hI, hb⟩
  have HB := Lib.hid (Below.trans (by (repeat (first | exact Below.refl _ _ | (refine Below.alloc ?_ (by first | omega | (simp; try omega)) _) | apply Below.drew | apply below_drewN))) (hb.mono (by simp; try omega)) : Below w.heap.size w w1)
  have HI := Lib.hid hI
  obtain ⟨ua, uc, rfl⟩ := hI.len_
  clear hI hb
  go_wp2
  go_ret2
  exact ⟨rfl, HB.out⟩
set_option maxHeartbeats 1000000 in
theorem implSld (m : Int) (v : Value) (cs : List Br) (w : World) (h : RdB w v cs) (hl : cs.length ≤ 1048576) :
    Calls Try.prog 36 #[.agg #[.int .i64 m, v]] w fun e w' => e = .returned (sldV m cs) ∧ Below w.heap.size w w' := by
  have HR := Lib.hid h
  obtain ⟨a, N, c, rfl, hN, _, _, hcell⟩ := h
  clear hN hcell
  have C := Lib.hid (fun wx hr => implCnt m (.slice a N c) cs wx hr hl)
  unfold sldV
  unfold ctsV at C
  generalize solL m cs = l at *
  generalize isPz m cs = ok at *
  go_enter Try.func36, Try.ntmps36
  go_wp2_with fail
  refine (C.out _ (HR.out.below (by (repeat (first | exact Below.refl _ _ | (refine Below.alloc ?_ (by first | omega | (simp; try omega)) _) | apply Below.drew | apply below_drewN))))).mono ?_
  rintro e w1 ⟨rfl, hb⟩
  have HB := Lib.hid (Below.trans (by (repeat (first | exact Below.refl _ _ | (refine Below.alloc ?_ (by first | omega | (simp; try omega)) _) | apply Below.drew | apply below_drewN))) (hb.mono (by simp; try omega)) : Below w.heap.size w w1)
  clear hb
  go_wp2
  go_ret2
  exact ⟨rfl, HB.out⟩
end Go.Proofs.Ytnmeomcoeknjoac
