/- BestClue, spec; parts of a slice of clues. -/
import Derived.Test.YtnmeomcoeknjoacKzf
namespace Go.Proofs.Ytnmeomcoeknjoac
set_option linter.unusedVariables false
set_option maxRecDepth 100000
open Go.RowKit

theorem RdB.take {w : World} {a : Option Addr} {l c j : Nat} {bs : List Br} (h : RdB w (.slice a l c) bs) (hj : j ≤ l) : RdB w (.slice a j c) (bs.take j) := by
  obtain ⟨_, _, _, e, hn, ⟨hc1, hc2⟩, hm, hcell⟩ := h
  injection e with e1 e2 e3
  subst e1 e2 e3
  refine ⟨_, _, _, rfl, by simp; omega, ⟨by omega, hc2⟩, hm, fun q hq => ?_⟩
  obtain ⟨b, off, e, h1, h2⟩ := hcell q (by omega)
  refine ⟨b, off, e, h1, ?_⟩
  have : gb (bs.take j) q = gb bs q := by simp [gb, List.getD_eq_getElem?_getD, hq]
  rw [this]; exact h2
/-- one alone -/
theorem RdB.one {w : World} {b off l c j : Nat} {bs : List Br} (h : RdB w (.slice (some ⟨b, off, none⟩) l c) bs) (hj : j < l) : RdB w (.slice (some ⟨b, off + j * 3, none⟩) 1 (c - j)) [gb bs j] := by
  obtain ⟨_, _, _, e, hn, ⟨hc1, hc2⟩, hm, hcell⟩ := h
  injection e with e1 e2 e3
  subst e1 e2 e3
  refine ⟨_, _, _, rfl, rfl, ⟨by omega, fun h => by cases h⟩, by omega, fun q hq => ?_⟩
  obtain rfl : q = 0 := by omega
  obtain ⟨b', off', e, h1, h2⟩ := hcell j hj
  injection e with e
  injection e with e1 e2
  subst e1 e2
  exact ⟨b, off + j * 3, rfl, h1, h2⟩
set_option maxHeartbeats 4000000 in
theorem specBest (m : Int) (v : Value) (cs : List Br) (w : World) (h : RdB w v cs) (hl : cs.length ≤ 1048576) :
    Calls Try.prog 18 #[.agg #[.int .i64 m, v]] w fun e w' => e = .returned (bstV m cs) ∧ Below w.heap.size w w' := by
  have HR := Lib.hid h
  obtain ⟨a, N, c, rfl, hN, ⟨hNc, _⟩, hcm, hcell⟩ := h
  have HN := Lib.hid hN
  have HC := Lib.hid (fun (h1 : 0 < N) => by obtain ⟨b, off, e, _⟩ := hcell 0 h1; exact ⟨b, off, e⟩ : 0 < N → ∃ b off, a = some ⟨b, off, none⟩)
  unfold maxLen at hcm
  clear hN hcell
  cases hp : isPz m cs
  · rw [bstV_no hp]
    have G := Lib.hid hp
    clear hp
    go_enter Try.func18, Try.ntmps18
    go_wp2_with (go_at_call 24; refine (pzGood m _ cs _ (HR.out.below (by (repeat (first | exact Below.refl _ _ | (refine Below.alloc ?_ (by first | omega | (simp; try omega)) _) | apply Below.drew | apply below_drewN))))).mono ?_; rw [G.out]; rintro e w1 ⟨rfl, hb⟩)
    go_ret2
    exact ⟨rfl, Below.trans (by (repeat (first | exact Below.refl _ _ | (refine Below.alloc ?_ (by first | omega | (simp; try omega)) _) | apply Below.drew | apply below_drewN))) (hb.mono (by simp; try omega))⟩
  · obtain ⟨n, rfl, hn, h6, hc⟩ := isPz_nat hp
    have G := Lib.hid hp
    have X0 := Lib.hid (Blk.new w #[.int .i64 (n : Int), .slice a N c] 31)
    by_cases h0 : N = 0
    · rw [bstV_0 (by have := HN.out; omega)]
      have h0' : ((N : Int) == 0) = true := by simp [h0]
      have hz := Lib.hid h0
      clear hp hc h6 h0
      go_enter Try.func18, Try.ntmps18
      go_wp2_with fail
      refine (pzGood (n : Int) _ cs _ (HR.out.below (by (repeat (first | exact Below.refl _ _ | (refine Below.alloc ?_ (by first | omega | (simp; try omega)) _) | apply Below.drew | apply below_drewN))))).mono ?_
      rw [G.out]
      rintro e w1 ⟨rfl, hb⟩
      have HX := Lib.hid (X0.out.below hb (by simp))
      have HB := Lib.hid (Below.trans (by (repeat (first | exact Below.refl _ _ | (refine Below.alloc ?_ (by first | omega | (simp; try omega)) _) | apply Below.drew | apply below_drewN))) (hb.mono (by simp; try omega)) : Below w.heap.size w w1)
      obtain ⟨x0, x1, xl⟩ := HX.out.two
      clear hb
      rw [hz.out] at x1
      go_wp2
      go_ret2
      exact ⟨rfl, HB.out⟩
    · rw [bstV_yes hp (by have := HN.out; omega)]
      obtain ⟨bb, off, rfl⟩ := HC.out (by omega)
      have h0' : ((N : Int) == 0) = false := by simp; omega
      have h0i : ¬ ((N : Int) = 0) := by omega
      have hNb : N ≤ 6 := by have := HN.out; omega
      have C := Lib.hid (fun (k : Nat) (hk : k < N) wx hr => pzAll n (.slice (some ⟨bb, off + k * 3, none⟩) 1 (c - k)) [gb cs k] wx hr hn (by simp) (fun d hd => by
        simp at hd; subst hd; exact hc _ (gb_mem (by have := HN.out; omega))))
      rw [← HN.out]
      clear hp hc h6 h0
      go_enter Try.func18, Try.ntmps18
      go_wp2_with fail
      refine (pzGood (n : Int) _ cs _ (HR.out.below (by (repeat (first | exact Below.refl _ _ | (refine Below.alloc ?_ (by first | omega | (simp; try omega)) _) | apply Below.drew | apply below_drewN))))).mono ?_
      rw [G.out]
      rintro e w1 ⟨rfl, hb⟩
      have HX := Lib.hid (X0.out.below hb (by simp))
      have HB := Lib.hid (Below.trans (by (repeat (first | exact Below.refl _ _ | (refine Below.alloc ?_ (by first | omega | (simp; try omega)) _) | apply Below.drew | apply below_drewN))) (hb.mono (by simp; try omega)) : Below w.heap.size w w1)
      obtain ⟨x0, x1, xl⟩ := HX.out.two
      have hle := HB.out.size
      clear hb
      have hp8 := pow_8 hn.2
      go_wp2_with fail
      clear x0 x1 xl
      go_loopw [4, 5, 6, 7, 20] (fun b f _ _ i wr => ∃ j : Nat, j ≤ N ∧ i = .int .i64 (j : Int) ∧ b = .int .i64 ((bst n cs j).1 : Int) ∧ Hid (0 < j → f = .int .i64 ((bst n cs j).2 : Int)) ∧ Hid (∃ z, f = .int .i64 z) ∧ Hid (Below w1.heap.size w1 wr)) (fun _ _ _ _ i _ => N - (intOf i).toNat)
      case atStart => exact ⟨0, Nat.zero_le _, rfl, rfl, Lib.hid (fun h => absurd h (Nat.lt_irrefl _)), Lib.hid ⟨_, rfl⟩, Lib.hid (Below.refl _ _)⟩
      case round =>
        obtain ⟨j, hj, rfl, rfl, HF, HZ, HQ⟩ := hrel
        have hqle := HQ.out.size
        have HBQ := Lib.hid (HB.out.trans (HQ.out.mono hle))
        by_cases hlt : j < N
        · have hlt' : (j : Int) < N := by omega
          have HXQ := Lib.hid (HX.out.below HQ.out HX.out.lt)
          have hxl := HXQ.out.lt
          obtain ⟨x0, x1, xl⟩ := HXQ.out.two
          have hjc : ¬ (c = j) := by omega
          have hw1 : IntKind.i64.wrap ((j : Int) + 1) = (j : Int) + 1 := by rw [IntKind.wrap_i64]; omega
          have hk2 : (j : Int) + 1 ≤ (c : Int) := by omega
          have hk3 : ((j : Int) + 1).toNat = j + 1 := by omega
          have hk4 : j ≤ j + 1 := by omega
          have hk5 : j + 1 ≤ c := by omega
          have hk6 : j + 1 - j = 1 := by omega
          have hk7 : (j : Int) ≤ (j : Int) + 1 := by omega
          have hk8 : (0 : Int) ≤ (j : Int) + 1 := by omega
          have CJ := Lib.hid (C.out j hlt)
          have RJ := Lib.hid (RdB.one (HR.out.below HBQ.out) hlt)
          have hc1 := cntS_pow n [gb cs j]
          have e1 : (sols n [gb cs j]).length = cntS n [gb cs j] := rfl
          have HL := Lib.hid (bst_less (n := n) (cs := cs) (j := j))
          have HS := Lib.hid (bst_same (n := n) (cs := cs) (j := j))
          have H1 := Lib.hid (bst_1 n cs)
          have hbl := (bst_le n cs j)
          have hcn : cntS n [gb cs j] ≤ 256 := by omega
          have hbn : (bst n cs j).2 ≤ 256 := by omega
          have HE := Lib.hid e1
          clear e1 hc1 hbl
          generalize hcnt : cntS n [gb cs j] = cnt at *
          have HCN := Lib.hid hcnt
          clear hcnt
          by_cases hj0 : j = 0
          · obtain ⟨z, rfl⟩ := HZ.out
            have E := Lib.hid (show bst n cs (j + 1) = (j, cnt) by rw [← HCN.out, hj0]; exact H1.out)
            have hj0i : ((j : Int) == 0) = true := by simp; omega
            have HJ0 := Lib.hid hj0
            clear hj0
            clear HL HS hbn
            go_wp2_with fail
            go_region_with (go_at_call 25; refine (CJ.out _ (RJ.out.below (by (repeat (first | exact Below.refl _ _ | (refine Below.alloc ?_ (by first | omega | (simp; try omega)) _) | apply Below.drew | apply below_drewN))))).mono ?_; rintro e w2 ⟨u, rfl, hI, hb2⟩; obtain ⟨ua, uc, rfl⟩ := hI.len_; rw [HE.out]; have HQ2 := Lib.hid (HQ.out.trans ((Below.trans (by (repeat (first | exact Below.refl _ _ | (refine Below.alloc ?_ (by first | omega | (simp; try omega)) _) | apply Below.drew | apply below_drewN))) (hb2.mono (by first | exact Nat.le_refl _ | (simp; try omega))) : Below wr.heap.size wr w2).mono hqle)); clear hI hb2)
            all_goals
              clear x0 x1
              go_wp2
              go_roundw
              case rel => exact ⟨j + 1, by omega, by go_num, by rw [E.out], Lib.hid (fun _ => by rw [E.out]), Lib.hid ⟨_, rfl⟩, HQ2⟩
              case measure => (simp [intOf]; try omega)
          · obtain rfl := HF.out (by omega)
            have hj0i : ((j : Int) == 0) = false := by simp; omega
            have hj0j : ¬ (j : Int) = 0 := by omega
            generalize bst n cs j = bb2 at *
            obtain ⟨bi, bc⟩ := bb2
            dsimp only at HL HS hbn
            by_cases hx : cnt < bc
            · have E := Lib.hid (HL.out hx)
              have hx' : (cnt : Int) < bc := by omega
              clear HL HS
              go_wp2_with fail
              go_region_with (go_at_call 25; refine (CJ.out _ (RJ.out.below (by (repeat (first | exact Below.refl _ _ | (refine Below.alloc ?_ (by first | omega | (simp; try omega)) _) | apply Below.drew | apply below_drewN))))).mono ?_; rintro e w2 ⟨u, rfl, hI, hb2⟩; obtain ⟨ua, uc, rfl⟩ := hI.len_; rw [HE.out]; have HQ2 := Lib.hid (HQ.out.trans ((Below.trans (by (repeat (first | exact Below.refl _ _ | (refine Below.alloc ?_ (by first | omega | (simp; try omega)) _) | apply Below.drew | apply below_drewN))) (hb2.mono (by first | exact Nat.le_refl _ | (simp; try omega))) : Below wr.heap.size wr w2).mono hqle)); clear hI hb2)
              all_goals
                clear x0 x1
                go_wp2
                go_roundw
                case rel => exact ⟨j + 1, by omega, by go_num, by rw [E.out], Lib.hid (fun _ => by rw [E.out]), Lib.hid ⟨_, rfl⟩, HQ2⟩
                case measure => (simp [intOf]; try omega)
            · have E := Lib.hid (HS.out hx)
              have hx' : ¬ (cnt : Int) < bc := by omega
              clear HL HS
              go_wp2_with fail
              go_region_with (go_at_call 25; refine (CJ.out _ (RJ.out.below (by (repeat (first | exact Below.refl _ _ | (refine Below.alloc ?_ (by first | omega | (simp; try omega)) _) | apply Below.drew | apply below_drewN))))).mono ?_; rintro e w2 ⟨u, rfl, hI, hb2⟩; obtain ⟨ua, uc, rfl⟩ := hI.len_; rw [HE.out]; have HQ2 := Lib.hid (HQ.out.trans ((Below.trans (by (repeat (first | exact Below.refl _ _ | (refine Below.alloc ?_ (by first | omega | (simp; try omega)) _) | apply Below.drew | apply below_drewN))) (hb2.mono (by first | exact Nat.le_refl _ | (simp; try omega))) : Below wr.heap.size wr w2).mono hqle)); clear hI hb2)
              all_goals
                clear x0 x1
                go_wp2
                go_roundw
                case rel => exact ⟨j + 1, by omega, by go_num, by rw [E.out], Lib.hid (fun _ => by rw [E.out]), Lib.hid ⟨_, rfl⟩, HQ2⟩
                case measure => (simp [intOf]; try omega)
        · obtain rfl : j = N := by omega
          go_wp2
          go_ret2
          exact ⟨rfl, HBQ.out⟩
end Go.Proofs.Ytnmeomcoeknjoac
