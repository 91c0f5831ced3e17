/- BestClue, both sides. -/
import Derived.Test.YtnmeomcoeknjoacKze
namespace Go.Proofs.Ytnmeomcoeknjoac
set_option linter.unusedVariables false
set_option maxRecDepth 100000
open Go.RowKit

/-- the best one of the first so many clues, and how many rivers fit it -/
def bst (n : Nat) (cs : List Br) : Nat → Nat × Nat
  | 0 => (0, 2 ^ n)
  | j + 1 => if cntS n [gb cs j] < (bst n cs j).2 then (j, cntS n [gb cs j]) else bst n cs j
theorem bst_less {n j : Nat} {cs : List Br} (h : cntS n [gb cs j] < (bst n cs j).2) : bst n cs (j + 1) = (j, cntS n [gb cs j]) := by
  show (if cntS n [gb cs j] < (bst n cs j).2 then (j, cntS n [gb cs j]) else bst n cs j) = _
  rw [if_pos h]
theorem bst_same {n j : Nat} {cs : List Br} (h : ¬ cntS n [gb cs j] < (bst n cs j).2) : bst n cs (j + 1) = bst n cs j := by
  show (if cntS n [gb cs j] < (bst n cs j).2 then (j, cntS n [gb cs j]) else bst n cs j) = _
  rw [if_neg h]
theorem cntS_pow (n : Nat) (cs : List Br) : cntS n cs ≤ 2 ^ n := solN_len n cs (2 ^ n)
theorem bst_1 (n : Nat) (cs : List Br) : bst n cs 1 = (0, cntS n [gb cs 0]) := by
  have h := cntS_pow n [gb cs 0]
  show (if cntS n [gb cs 0] < 2 ^ n then (0, cntS n [gb cs 0]) else (0, 2 ^ n)) = _
  split
  · rfl
  · congr 1; omega
theorem bst_le (n : Nat) (cs : List Br) : ∀ j, (bst n cs j).1 ≤ j ∧ (bst n cs j).2 ≤ 2 ^ n
  | 0 => ⟨Nat.le_refl _, Nat.le_refl _⟩
  | j + 1 => by
    have h := bst_le n cs j
    have h2 := cntS_pow n [gb cs j]
    by_cases e : cntS n [gb cs j] < (bst n cs j).2
    · rw [bst_less e]; exact ⟨by show j ≤ j + 1; omega, h2⟩
    · rw [bst_same e]; exact ⟨by omega, h.2⟩
def bstV (m : Int) (cs : List Br) : Value := if isPz m cs && decide (0 < cs.length) then .tuple #[.int .i64 ((bst m.toNat cs cs.length).1 : Int), .bool true] else .tuple #[.int .i64 0, .bool false]
theorem bstV_no {m : Int} {cs : List Br} (h : isPz m cs = false) : bstV m cs = .tuple #[.int .i64 0, .bool false] := by simp [bstV, h]
theorem bstV_0 {m : Int} {cs : List Br} (h : cs.length = 0) : bstV m cs = .tuple #[.int .i64 0, .bool false] := by simp [bstV, h]
theorem bstV_yes {n : Nat} {cs : List Br} (h : isPz (n : Int) cs = true) (h0 : 0 < cs.length) : bstV (n : Int) cs = .tuple #[.int .i64 ((bst n cs cs.length).1 : Int), .bool true] := by simp [bstV, h, h0]
theorem bstV_form (m : Int) (cs : List Br) : ∃ x y, bstV m cs = .tuple #[.int .i64 x, .bool y] := by unfold bstV; split <;> exact ⟨_, _, rfl⟩
/-- a lone flag, stored into a new set -/
theorem lone_blk (W : World) (T : TypeId) {k : Nat} (hk : k < 6) : Blk ((W.alloc (.cells #[.bool false, .bool false, .bool false, .bool false, .bool false, .bool false] T)).setCell ⟨W.heap.size, k, none⟩ (.bool true)) W.heap.size (a6 (lone k)) := by
  have h := (Blk.new W (a6 fun _ => false) T).set k (.bool true)
  rw [a6_set _ hk] at h
  exact h
set_option maxHeartbeats 4000000 in
theorem implBest (m : Int) (v : Value) (cs : List Br) (w : World) (h : RdB w v cs) (hl : cs.length ≤ 1048576) :
    Calls Try.prog 19 #[.agg #[.int .i64 m, v]] w fun e w' => e = .returned (bstV m cs) ∧ Below w.heap.size w w' := by
  have HR := Lib.hid h
  obtain ⟨a, N, c, rfl, hN, _, _, hcell⟩ := h
  have HN := Lib.hid hN
  clear hN hcell
  cases hp : isPz m cs
  · rw [bstV_no hp]
    have G := Lib.hid hp
    clear hp
    go_enter Try.func19, Try.ntmps19
    go_wp2_with (go_at_call 28; refine (implIsPz m _ cs _ (HR.out.below (by (repeat (first | exact Below.refl _ _ | (refine Below.alloc ?_ (by first | omega | (simp; try omega)) _) | apply Below.drew | apply below_drewN)))) hl).mono ?_; rw [G.out]; rintro e w1 ⟨rfl, hb⟩)
    go_ret2
    exact ⟨rfl, Below.trans (by (repeat (first | exact Below.refl _ _ | (refine Below.alloc ?_ (by first | omega | (simp; try omega)) _) | apply Below.drew | apply below_drewN))) (hb.mono (by simp; try omega))⟩
  · obtain ⟨n, rfl, hn, h6, hc⟩ := isPz_nat hp
    have G := Lib.hid hp
    have X0 := Lib.hid (Blk.new w #[.int .i64 (n : Int), .slice a N c] 31)
    by_cases h0 : N = 0
    · rw [bstV_0 (by have := HN.out; omega)]
      have h0' : ((N : Int) == 0) = true := by simp [h0]
      have hz := Lib.hid h0
      clear hp hc h6 h0
      go_enter Try.func19, Try.ntmps19
      go_wp2_with fail
      refine (implIsPz (n : Int) _ cs _ (HR.out.below (by (repeat (first | exact Below.refl _ _ | (refine Below.alloc ?_ (by first | omega | (simp; try omega)) _) | apply Below.drew | apply below_drewN)))) hl).mono ?_
      rw [G.out]
      rintro e w1 ⟨rfl, hb⟩
      have HX := Lib.hid (X0.out.below hb (by simp))
      have HB := Lib.hid (Below.trans (by (repeat (first | exact Below.refl _ _ | (refine Below.alloc ?_ (by first | omega | (simp; try omega)) _) | apply Below.drew | apply below_drewN))) (hb.mono (by simp; try omega)) : Below w.heap.size w w1)
      obtain ⟨x0, x1, xl⟩ := HX.out.two
      clear hb
      rw [hz.out] at x1
      go_wp2
      go_ret2
      exact ⟨rfl, HB.out⟩
    · rw [bstV_yes hp (by have := HN.out; omega)]
      have h0' : ((N : Int) == 0) = false := by simp; omega
      have h0i : ¬ ((N : Int) = 0) := by omega
      have C := Lib.hid (fun wx hr => riversOf n (.slice a N c) cs wx hr hn h6 hc)
      have hNb : N ≤ 6 := by have := HN.out; omega
      have H6 := Lib.hid h6
      rw [← HN.out]
      clear hp hc h6 h0
      go_enter Try.func19, Try.ntmps19
      go_wp2_with fail
      refine (implIsPz (n : Int) _ cs _ (HR.out.below (by (repeat (first | exact Below.refl _ _ | (refine Below.alloc ?_ (by first | omega | (simp; try omega)) _) | apply Below.drew | apply below_drewN)))) hl).mono ?_
      rw [G.out]
      rintro e w1 ⟨rfl, hb⟩
      have HX := Lib.hid (X0.out.below hb (by simp))
      have HB := Lib.hid (Below.trans (by (repeat (first | exact Below.refl _ _ | (refine Below.alloc ?_ (by first | omega | (simp; try omega)) _) | apply Below.drew | apply below_drewN))) (hb.mono (by simp; try omega)) : Below w.heap.size w w1)
      obtain ⟨x0, x1, xl⟩ := HX.out.two
      have hle := HB.out.size
      clear hb
      go_wp2_with fail
      refine (C.out _ (HR.out.below HB.out)).mono ?_
      rintro e w2 ⟨u, rfl, hI, ⟨g, gc, rfl⟩, hb2⟩
      obtain ⟨P, hP⟩ : ∃ P, P = 2 ^ n := ⟨_, rfl⟩
      have hP8 : P ≤ 256 := by rw [hP]; exact pow_8 hn.2
      rw [← hP] at hI ⊢
      have HP := Lib.hid hP
      have HI := Lib.hid hI
      have HX2 := Lib.hid (HX.out.below hb2 HX.out.lt)
      have HB2 := Lib.hid (HB.out.trans (hb2.mono hle))
      clear hI hb2 x0 x1 xl hle
      obtain ⟨x0, x1, xl⟩ := HX2.out.two
      have b0 : Hid (bst n cs 0 = (0, P)) := Lib.hid (by rw [hP]; rfl)
      clear hP
      go_wp2_with fail
      clear x0 x1 xl
      go_loopw [5, 6, 7, 9, 26] (fun b f _ _ i wr => ∃ j : Nat, j ≤ N ∧ i = .int .i64 (j : Int) ∧ b = .int .i64 ((bst n cs j).1 : Int) ∧ f = .int .i64 ((bst n cs j).2 : Int) ∧ Hid (Below w2.heap.size w2 wr)) (fun _ _ _ _ i _ => N - (intOf i).toNat)
      case atStart => exact ⟨0, Nat.zero_le _, rfl, by rw [b0.out]; rfl, by rw [b0.out], Lib.hid (Below.refl _ _)⟩
      case round =>
        obtain ⟨j, hj, rfl, rfl, rfl, HQ⟩ := hrel
        have hqle := HQ.out.size
        have HBQ := Lib.hid (HB2.out.trans (HQ.out.mono HB2.out.size))
        by_cases hlt : j < N
        · have hlt' : (j : Int) < N := by omega
          have hj6 : (j : Int) < 6 := by omega
          have LB := Lib.hid (lone_blk wr 51 (k := j) (by omega))
          obtain ⟨q0, q1, q2, q3, q4, q5⟩ := a6_blk (f := lone j) LB.out
          have cj := (Blk.new wr #[.bool false, .bool false, .bool false, .bool false, .bool false, .bool false] 51).cell j
          rw [show (#[Value.bool false, .bool false, .bool false, .bool false, .bool false, .bool false])[j]? = some (.bool false) from a6_at (fun _ => false) (by omega)] at cj
          have LA := Lib.hid (Blk.new wr #[.bool false, .bool false, .bool false, .bool false, .bool false, .bool false] 51)
          have DL := Lib.hid (show Below wr.heap.size wr ((wr.alloc (.cells #[.bool false, .bool false, .bool false, .bool false, .bool false, .bool false] 51)).setCell ⟨wr.heap.size, j, none⟩ (.bool true)) from ((Below.refl _ _).alloc (Nat.le_refl _) _).setCell (Nat.le_refl _) _)
          have CF := Lib.hid (fun wx hI => countFit n P g gc w1.heap.size cs (lone j) wx hP8 hI)
          have e := cntA_lone (n := n) (k := j) H6.out (by have := HN.out; omega)
          rw [← HP.out] at e
          rw [e] at CF
          have HL := Lib.hid (bst_less (n := n) (cs := cs) (j := j))
          have HS := Lib.hid (bst_same (n := n) (cs := cs) (j := j))
          have hc1 := cntS_pow n [gb cs j]
          rw [← HP.out] at hc1
          have hbl := bst_le n cs j
          rw [← HP.out] at hbl
          clear e
          generalize cntS n [gb cs j] = cnt at *
          generalize bst n cs j = bb at *
          obtain ⟨bi, bc⟩ := bb
          dsimp only at hbl HL HS
          go_upto_region 9 with fail
          generalize wr.alloc (.cells #[.bool false, .bool false, .bool false, .bool false, .bool false, .bool false] 51) = W3 at *
          have f0 := (show Blk W3 wr.heap.size _ from LA.out).fr j
          go_wp2_with fail
          refine (CF.out _ (HI.out.below (HQ.out.trans (DL.out.mono hqle)))).mono ?_
          rintro e w3 ⟨rfl, hb3⟩
          have HQ3 := Lib.hid (HQ.out.trans ((DL.out.trans (hb3.mono DL.out.size)).mono hqle))
          clear hb3 q0 q1 q2 q3 q4 q5 cj
          by_cases hx : cnt < bc
          · have E := Lib.hid (HL.out hx)
            have hx' : (cnt : Int) < bc := by omega
            clear HL HS
            go_wp2
            go_roundw
            case rel => exact ⟨j + 1, by omega, by go_num, by rw [E.out], by rw [E.out], HQ3⟩
            case measure => (simp [intOf]; try omega)
          · have E := Lib.hid (HS.out hx)
            have hx' : ¬ (cnt : Int) < bc := by omega
            clear HL HS
            go_wp2
            go_roundw
            case rel => exact ⟨j + 1, by omega, by go_num, by rw [E.out], by rw [E.out], HQ3⟩
            case measure => (simp [intOf]; try omega)
        · obtain rfl : j = N := by omega
          go_wp2
          go_ret2
          exact ⟨rfl, HBQ.out⟩
end Go.Proofs.Ytnmeomcoeknjoac
