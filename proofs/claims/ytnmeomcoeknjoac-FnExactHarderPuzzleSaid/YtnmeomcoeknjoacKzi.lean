/- LeftByClues, spec; NeedlessClues, both sides. -/
import Derived.Test.YtnmeomcoeknjoacKzh
import Derived.Test.YtnmeomcoeknjoacKe
namespace Go.Proofs.Ytnmeomcoeknjoac
set_option linter.unusedVariables false
set_option maxRecDepth 100000
open Go.RowKit

theorem Ints.lt9 {w : World} {B : Nat} {v : Value} {zs : List Int} (h : Ints w B v zs) : ∀ b, v.ownBlock = some b → B ≤ b ∧ b < w.heap.size := fun b hb => World.ownsRow.lt h b hb
/-- 'append(s, z)' at ints as a step of a region that draws -/
theorem step_appI9 {ops : Array Oper} {o : Oper} {a : Act} {w : World} {K : Act → World → Prop} {Q : Exit → Act → World → Prop} {E : Prop} (hgd : o.guard = none) (s x : Operand)
    (ho : o.op = .call { callee := .builtin .append, args := #[s, x], argTypes := #[26, 26] })
    (B : Nat) (v : Value) (zs : List Int) (hs : a.eval s = v) (hI : Ints w B v zs) (nb : Nat) (z : Int) (hx : a.eval x = .slice (some ⟨nb, 0, none⟩) 1 1) (hnb : w.cell? ⟨nb, 0, none⟩ = some (.int .i64 z))
    (hl : zs.length ≤ 1000) (hbase : B ≤ w.heap.size)
    (h : ∀ g cap' w', Ints w' B (.slice (some ⟨g, 0, none⟩) (zs.length + 1) cap') (zs ++ [z]) → Below B w w' → w.grownBy w' v.ownBlock → K (a.put o.dst (.slice (some ⟨g, 0, none⟩) (zs.length + 1) cap')) w') :
    if Region.wanted o (yielded ops a.tmps) = true then Oper.wp Try.prog o a w K Q else E := by
  obtain ⟨i0, hi, hz0, hz1, hz2⟩ := info_parts Try.infoInt
  refine step_append_lies _ hgd s x 26 ho B 3 i0 (.int .i64 0) 1 8 Try.underlying26 hi hz0 hz1 hz2 rfl (by decide) v zs.length (i64s zs) hs hI ⟨nb, 0, none⟩ 1 1 [.int .i64 z] hx rfl
    (fun j u hj => by
      cases j with
      | zero => simp at hj; subst hj; exact hnb
      | succ j => simp at hj) (by intro u hu; simp at hu; subst hu; rfl) (by omega) (by unfold maxLen; omega) (by omega) hbase _ rfl ?_
  intro g cap' w' h2 h3 _ _
  rw [i64s_snoc] at h2
  exact h g cap' w' (by unfold Ints; rw [List.length_append]; exact h2) ((Below.refl B w).grown h3 hbase (fun b hb => (World.ownsRow.lt hI b hb).1)) h3
theorem Ints.form9 {w : World} {B : Nat} {v : Value} {zs : List Int} (h : Ints w B v zs) : ∃ a n c, v = .slice a n c := by
  rcases h.2 with ⟨rfl, h0⟩ | ⟨g, cap, cur, rfl, _⟩
  · exact ⟨_, _, _, rfl⟩
  · exact ⟨_, _, _, rfl⟩
set_option maxHeartbeats 4000000 in
theorem specLft (m : Int) (v : Value) (cs : List Br) (w : World) (h : RdB w v cs) (hl : cs.length ≤ 1048576) :
    Calls Try.prog 16 #[.agg #[.int .i64 m, v]] w (IntP w.heap.size (lftL m cs) (isPz m cs) w) := by
  have HR := Lib.hid h
  obtain ⟨a, N, c, rfl, hN, ⟨hNc, _⟩, hcm, hcell⟩ := h
  have HN := Lib.hid hN
  clear hN hcell
  cases hp : isPz m cs
  · have G := Lib.hid hp
    have E := Lib.hid (lftL_no hp)
    clear hp
    go_enter Try.func16, Try.ntmps16
    go_wp2_with (go_at_call 24; refine (pzGood m _ cs _ (HR.out.below (by (repeat (first | exact Below.refl _ _ | (refine Below.alloc ?_ (by first | omega | (simp; try omega)) _) | apply Below.drew | apply below_drewN))))).mono ?_; rw [G.out]; rintro e w1 ⟨rfl, hb⟩)
    go_ret2
    exact ⟨_, rfl, by rw [E.out]; exact ints_nil_ _ _, Below.trans (by (repeat (first | exact Below.refl _ _ | (refine Below.alloc ?_ (by first | omega | (simp; try omega)) _) | apply Below.drew | apply below_drewN))) (hb.mono (by simp; try omega))⟩
  · obtain ⟨n, rfl, hn, h6, hc⟩ := isPz_nat hp
    have G := Lib.hid hp
    have E := Lib.hid (lftL_yes hp)
    have X0 := Lib.hid (Blk.new w #[.int .i64 (n : Int), .slice a N c] 31)
    have hNb : N ≤ 6 := by have := HN.out; omega
    have C := Lib.hid (fun (k : Nat) wx hr => pzAll n (.slice a k c) (cs.take k) wx hr hn (by simp; omega) (fun d hd => hc d (List.mem_of_mem_take hd)))
    clear hp hc h6
    go_enter Try.func16, Try.ntmps16
    go_wp2_with fail
    refine (pzGood (n : Int) _ cs _ (HR.out.below (by (repeat (first | exact Below.refl _ _ | (refine Below.alloc ?_ (by first | omega | (simp; try omega)) _) | apply Below.drew | apply below_drewN))))).mono ?_
    rw [G.out]
    rintro e w1 ⟨rfl, hb⟩
    have HX := Lib.hid (X0.out.below hb (by simp))
    have HB := Lib.hid (Below.trans (by (repeat (first | exact Below.refl _ _ | (refine Below.alloc ?_ (by first | omega | (simp; try omega)) _) | apply Below.drew | apply below_drewN))) (hb.mono (by simp; try omega)) : Below w.heap.size w w1)
    have hle := HB.out.size
    have hp8 := pow_8 hn.2
    clear hb
    go_wp2_with fail
    go_loopw [4, 5] (fun o i wr => ∃ j : Nat, j ≤ N + 1 ∧ i = .int .i64 (j : Int) ∧ Hid (Ints wr w1.heap.size o (lftTo n cs j)) ∧ Hid (Below w1.heap.size w1 wr)) (fun _ i _ => N + 1 - (intOf i).toNat)
    case atStart => exact ⟨0, Nat.zero_le _, rfl, Lib.hid (ints_nil_ _ _), Lib.hid (Below.refl _ _)⟩
    case round =>
      obtain ⟨j, hj, rfl, HO, HQ⟩ := hrel
      have hqle := HQ.out.size
      have HBQ := Lib.hid (HB.out.trans (HQ.out.mono hle))
      have HXQ := Lib.hid (HX.out.below HQ.out HX.out.lt)
      obtain ⟨x0, x1, xl⟩ := HXQ.out.two
      by_cases hlt : j < N + 1
      · have hjN : (j : Int) ≤ (N : Int) := by omega
        have hjc : j ≤ c := by omega
        have CJ := Lib.hid (C.out j)
        have RJ := Lib.hid (RdB.take (HR.out.below HBQ.out) (j := j) (by omega))
        have ES := Lib.hid (lftTo_s n cs j)
        have hc1 := cntS_pow n (cs.take j)
        have HE := Lib.hid (show (sols n (cs.take j)).length = cntS n (cs.take j) from rfl)
        have hll := lftTo_len n cs j
        have hl1000 : (lftTo n cs j).length ≤ 1000 := by omega
        generalize cntS n (cs.take j) = cnt at *
        have hcn : cnt ≤ 256 := by omega
        clear hc1 hll
        generalize lftTo n cs j = zs at *
        have HXd := Lib.hid HXQ.out.drew
        obtain ⟨oa, on, oc, rfl⟩ := HO.out.form9
        go_wp2_with fail
        go_region_held3 (fun W => W.cell? ⟨w.heap.size, 0, none⟩ = some (.int .i64 (n : Int)) ∧ W.cell? ⟨w.heap.size, 1, none⟩ = some (.slice a N c)) (first | exact kp HXd.out | exact kp HX5.out | exact kp HX4.out | exact kp (HX4.out.alloc _)) (first
          | (go_at_call 25; refine (CJ.out _ (RJ.out.below (by (repeat (first | exact Below.refl _ _ | (refine Below.alloc ?_ (by first | omega | (simp; try omega)) _) | apply Below.drew | apply below_drewN))))).mono ?_; rintro e w4 ⟨u, rfl, hI, hb4⟩; obtain ⟨ua, uc, rfl⟩ := hI.len_; rw [HE.out]; have D4 := Lib.hid ((Below.trans (by (repeat (first | exact Below.refl _ _ | (refine Below.alloc ?_ (by first | omega | (simp; try omega)) _) | apply Below.drew | apply below_drewN))) (hb4.mono (by first | exact Nat.le_refl _ | (simp; try omega)))) : Below wr.heap.size wr w4); have HX4 := Lib.hid (HXQ.out.below D4.out HXQ.out.lt); have HQ4 := Lib.hid (HQ.out.trans (D4.out.mono hqle)); have HO4 := Lib.hid (HO.out.below D4.out); clear hI hb4)
          | (refine step_appI9 rfl (.tmp 16) (.tmp 25) rfl w1.heap.size (.slice oa on oc) zs ?_ (HO4.out.below ((Below.refl _ _).alloc (Nat.le_refl _) _)) w4.heap.size (cnt : Int) ?_ (cell_one_new _ _ _ 0 _ rfl) hl1000 (Nat.le_trans HQ4.out.size (by simp)) ?_; (· simp [Act.eval]); (· simp [Act.eval]); intro g5 c5 w5 hI5 hb5 hg5; have HO5 := Lib.hid hI5; have HQ5 := Lib.hid ((HQ4.out.alloc HQ4.out.size _).trans hb5); have HX5 := Lib.hid (HX.out.below HQ5.out HX.out.lt); clear hI5 hb5 hg5)
          | fail)
        all_goals
          go_wp2
          go_roundw
          case rel => exact ⟨j + 1, by omega, by go_num, Lib.hid (by rw [ES.out]; exact HO5.out), HQ5⟩
          case measure => (simp [intOf]; try omega)
      · obtain rfl : j = N + 1 := by omega
        have hgt : ¬ ((N : Int) + 1 ≤ (N : Int)) := by omega
        have HE := Lib.hid (show lftL (n : Int) cs = lftTo n cs (N + 1) by rw [E.out, HN.out])
        go_wp2
        go_ret2
        exact ⟨_, rfl, by rw [HE.out]; exact ints_mono_ HO.out HB.out.size, HBQ.out⟩

set_option maxHeartbeats 4000000 in
theorem specNdl (m : Int) (v : Value) (cs : List Br) (w : World) (h : RdB w v cs) (hl : cs.length ≤ 1048576) :
    Calls Try.prog 8 #[.agg #[.int .i64 m, v]] w (IntP w.heap.size (ndlL m cs) (isPz m cs) w) := by
  have HR := Lib.hid h
  obtain ⟨a, N, c, rfl, hN, ⟨hNc, _⟩, hcm, hcell⟩ := h
  have HN := Lib.hid hN
  clear hN hcell
  cases hp : isPz m cs
  · have G := Lib.hid hp
    have E := Lib.hid (ndlL_no hp)
    clear hp
    go_enter Try.func8, Try.ntmps8
    go_wp2_with (go_at_call 24; refine (pzGood m _ cs _ (HR.out.below (by (repeat (first | exact Below.refl _ _ | (refine Below.alloc ?_ (by first | omega | (simp; try omega)) _) | apply Below.drew | apply below_drewN))))).mono ?_; rw [G.out]; rintro e w1 ⟨rfl, hb⟩)
    go_ret2
    exact ⟨_, rfl, by rw [E.out]; exact ints_nil_ _ _, Below.trans (by (repeat (first | exact Below.refl _ _ | (refine Below.alloc ?_ (by first | omega | (simp; try omega)) _) | apply Below.drew | apply below_drewN))) (hb.mono (by simp; try omega))⟩
  · obtain ⟨n, rfl, hn, h6, hc⟩ := isPz_nat hp
    have G := Lib.hid hp
    have E := Lib.hid (ndlL_yes hp)
    have X0 := Lib.hid (Blk.new w #[.int .i64 (n : Int), .slice a N c] 31)
    have hNb : N ≤ 6 := by have := HN.out; omega
    have H6 := Lib.hid h6
    have C0 := Lib.hid (fun wx hr => pzAll n (.slice a N c) cs wx hr hn (by omega) hc)
    have C := Lib.hid (fun (k : Nat) u wx hr => pzAll n u (cs.eraseIdx k) wx hr hn (by have := List.length_eraseIdx_le cs k; omega) (fun d hd => hc d (List.mem_of_mem_eraseIdx hd)))
    clear hp hc h6
    go_enter Try.func8, Try.ntmps8
    go_wp2_with fail
    refine (pzGood (n : Int) _ cs _ (HR.out.below (by (repeat (first | exact Below.refl _ _ | (refine Below.alloc ?_ (by first | omega | (simp; try omega)) _) | apply Below.drew | apply below_drewN))))).mono ?_
    rw [G.out]
    rintro e w0 ⟨rfl, hb⟩
    have HX0 := Lib.hid (X0.out.below hb (by simp))
    have HB0 := Lib.hid (Below.trans (by (repeat (first | exact Below.refl _ _ | (refine Below.alloc ?_ (by first | omega | (simp; try omega)) _) | apply Below.drew | apply below_drewN))) (hb.mono (by simp; try omega)) : Below w.heap.size w w0)
    obtain ⟨x0, x1, xl⟩ := HX0.out.two
    clear hb
    go_wp2_with fail
    refine (C0.out _ (HR.out.below HB0.out)).mono ?_
    rintro e w1 ⟨u0, rfl, hI0, hb⟩
    obtain ⟨ua0, uc0, rfl⟩ := hI0.len_
    have HX := Lib.hid (HX0.out.below hb HX0.out.lt)
    have HB := Lib.hid (HB0.out.trans (hb.mono HB0.out.size))
    have hle := HB.out.size
    have hp8 := pow_8 hn.2
    have hc0 := cntS_pow n cs
    obtain ⟨all, hall⟩ : ∃ all, all = cntS n cs := ⟨_, rfl⟩
    rw [show (sols n cs).length = all from hall.symm]
    rw [← hall] at hc0
    have hal : all ≤ 256 := by omega
    have HA := Lib.hid hall
    clear hb hI0 x0 x1 xl hc0 hall
    obtain ⟨x0, x1, xl⟩ := HX.out.two
    go_wp2_with fail
    clear x0 x1 xl
    go_loopw [4, 6, 19] (fun o _ i wr => ∃ j : Nat, j ≤ N ∧ i = .int .i64 (j : Int) ∧ Hid (Ints wr w1.heap.size o (ndlTo n cs j)) ∧ Hid (Below w1.heap.size w1 wr)) (fun _ _ i _ => N - (intOf i).toNat)
    case atStart => exact ⟨0, Nat.zero_le _, rfl, Lib.hid (ints_nil_ _ _), Lib.hid (Below.refl _ _)⟩
    case round =>
      obtain ⟨j, hj, rfl, HO, HQ⟩ := hrel
      have hqle := HQ.out.size
      have HBQ := Lib.hid (HB.out.trans (HQ.out.mono hle))
      have HXQ := Lib.hid (HX.out.below HQ.out HX.out.lt)
      obtain ⟨x0, x1, xl⟩ := HXQ.out.two
      by_cases hlt : j < N
      · have hjN : (j : Int) < (N : Int) := by omega
        have CJ := Lib.hid (C.out j)
        have PW := Lib.hid (fun wx hr => pzWithout (.slice a N c) cs j wx hr (by have := HN.out; omega) H6.out)
        have ESY := Lib.hid (ndlTo_yes (n := n) (cs := cs) (j := j))
        have ESN := Lib.hid (ndlTo_no (n := n) (cs := cs) (j := j))
        rw [← HA.out] at ESY ESN
        have hc1 := cntS_pow n (cs.eraseIdx j)
        have HE := Lib.hid (show (sols n (cs.eraseIdx j)).length = cntS n (cs.eraseIdx j) from rfl)
        have hll := ndlTo_len n cs j
        have hl1000 : (ndlTo n cs j).length < 1000 := by omega
        generalize cntS n (cs.eraseIdx j) = cnt at *
        have hcn : cnt ≤ 256 := by omega
        clear hc1 hll
        generalize ndlTo n cs j = zs at *
        have HXd := Lib.hid HXQ.out.drew
        obtain ⟨oa, on, oc, rfl⟩ := HO.out.form9
        by_cases hx : cnt = all
        all_goals
          first
            | (have ES := Lib.hid (ESY.out hx); have hxi : ((cnt : Int) == (all : Int)) = true := by simp [hx])
            | (have ES := Lib.hid (ESN.out hx); have hxi : ((cnt : Int) == (all : Int)) = false := by simp; omega)
          have hxH := Lib.hid hx
          clear ESY ESN hx
          go_wp2_with fail
          go_region_with (first
            | (go_at_call 26; refine (PW.out _ (HR.out.below (HBQ.out.trans (by (repeat (first | exact Below.refl _ _ | (refine Below.alloc ?_ (by first | omega | (simp; try omega)) _) | apply Below.drew | apply below_drewN)))))).mono ?_; rintro e w3 ⟨u3, rfl, hI3, hb3⟩; have D3 := Lib.hid ((Below.trans (by (repeat (first | exact Below.refl _ _ | (refine Below.alloc ?_ (by first | omega | (simp; try omega)) _) | apply Below.drew | apply below_drewN))) (hb3.mono (by first | exact Nat.le_refl _ | (simp; try omega)))) : Below wr.heap.size wr w3); have HI3 := Lib.hid hI3.rd; have HX3 := Lib.hid (HXQ.out.below D3.out HXQ.out.lt); obtain ⟨z0, z1, z2⟩ := HX3.out.two; clear hI3 hb3)
            | (go_at_call 25; refine (CJ.out _ _ HI3.out).mono ?_; rintro e w4 ⟨u4, rfl, hI4, hb4⟩; obtain ⟨ua4, uc4, rfl⟩ := hI4.len_; rw [HE.out]; have D4 := Lib.hid (D3.out.trans (hb4.mono D3.out.size)); clear hI4 hb4))
          all_goals
            have HQ4 := Lib.hid (HQ.out.trans (D4.out.mono hqle))
            have HO4 := Lib.hid (HO.out.below D4.out)
            have hle4 := HQ4.out.size
            clear x0 x1 z0 z1
            first
              | (go_wp2_with (at_builtin; refine wpList_app w4 rfl _ _ rfl w1.heap.size _ zs rfl HO4.out (j : Int) rfl (by omega) hle4 rfl ?_; intro v' w5 hI5 hb5 hg5; have HO5 := Lib.hid hI5; have HQ5 := Lib.hid (HQ4.out.trans hb5); clear hI5 hb5 hg5)
                 go_roundw
                 case rel => exact ⟨j + 1, by omega, by go_num, Lib.hid (by rw [ES.out]; exact HO5.out), HQ5⟩
                 case measure => (simp [intOf]; try omega))
              | (go_wp2
                 go_roundw
                 case rel => exact ⟨j + 1, by omega, by go_num, Lib.hid (by rw [ES.out]; exact HO4.out), HQ4⟩
                 case measure => (simp [intOf]; try omega))
      · obtain rfl : j = N := by omega
        have HE := Lib.hid (show ndlL (n : Int) cs = ndlTo n cs j by rw [E.out, HN.out])
        go_wp2
        go_ret2
        exact ⟨_, rfl, by rw [HE.out]; exact ints_mono_ HO.out HB.out.size, HBQ.out⟩
end Go.Proofs.Ytnmeomcoeknjoac
