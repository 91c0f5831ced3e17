/- First arrivals, spec's side: spec.tdArrive, spec.tdEnd. -/
import Derived.Test.YtmlokapbholeoabTr
namespace Go.Proofs.Ytmlokapbholeoab
set_option linter.unusedVariables false
open Go.RowKit

/-- as many hours as are looked at -/
def kHrs (h t : ByteArray) : Nat := t.size * (h.size + 3)
theorem kHrs_le {h t : ByteArray} (hg : good h t = true) : kHrs h t ≤ 204 := by
  obtain ⟨⟨z1, z2, _⟩, ⟨z3, z4, _⟩⟩ := good_in hg
  unfold kHrs
  exact Nat.le_trans (Nat.mul_le_mul (show t.size ≤ 12 by omega) (show h.size + 3 ≤ 17 by omega)) (by omega)
theorem kHrs_ge (h t : ByteArray) : (h.size + 2) * t.size ≤ kHrs h t := by
  unfold kHrs; rw [Nat.mul_comm]; exact Nat.mul_le_mul_left _ (by omega)
theorem arr_bd (h t : ByteArray) (L s p k : Nat) : -1 ≤ arr h t L s p k ∧ arr h t L s p k ≤ s + k := by
  rcases arr_cases h t L s p k with ⟨e, _⟩ | ⟨j, hj, e, _⟩
  · rw [e]; omega
  · rw [e]; omega
/-- first arrivals -/
def arV (h t : ByteArray) (L s p : Nat) : Int := arr h t L s p (kHrs h t)
set_option maxHeartbeats 4000000 in
theorem tdArrive (h t : ByteArray) (l s : Nat) (w : World) (hg : good h t = true) (hl : l ≤ 100) (hs : s ≤ 2000) :
    Calls Try.prog 28 #[.string h, .string t, .int .i64 (l : Int), .int .i64 (s : Int)] w fun e w' => ∃ d, e = .returned (.slice (some ⟨d, 0, none⟩) (h.size + 2) (h.size + 2)) ∧
      Ints w' w.heap.size (.slice (some ⟨d, 0, none⟩) (h.size + 2) (h.size + 2)) (fl (h.size + 2) (arV h t l s)) ∧ Below w.heap.size w w' := by
  obtain ⟨⟨z1, z2, _⟩, ⟨z3, z4, _⟩⟩ := good_in hg
  have HG := Lib.hid hg
  obtain ⟨fr, hfr⟩ : ∃ fr, fr = h.size + 1 := ⟨_, rfl⟩
  have hf1 : 2 ≤ fr ∧ fr ≤ 15 := by omega
  have HF := Lib.hid hfr
  have hfi : (h.size : Int) + 2 = (fr : Int) + 1 := by omega
  rw [show h.size + 2 = fr + 1 by omega]
  obtain ⟨K, hK⟩ : ∃ K, K = kHrs h t := ⟨_, rfl⟩
  have hKb : K ≤ 204 := by rw [hK]; exact kHrs_le hg
  have HK := Lib.hid hK
  have KI : Hid (((t.size : Int)) * ((fr : Int) + 1 + 1) = (K : Int)) := Lib.hid (by rw [hK, hfr]; unfold kHrs; push_cast; rw [show ((h.size : Int) + 1 + 1 + 1) = (h.size : Int) + 3 by omega])
  obtain ⟨g, hg0⟩ : ∃ g, g = w.heap.size := ⟨_, rfl⟩
  have HG0 := Lib.hid hg0
  clear hfr hK hg
  go_enter Try.func28, Try.ntmps28
  go_upto_region 2 with fail
  try simp only [hfi]
  clear hfi
  go_upto_region 3 with (at_make; refine wpList_mk rfl _ _ rfl w.heap.size (fr + 1) _ rfl rfl (by simp) (by omega) (Nat.le_refl _) ?_; intro w2 hI hb2 hg2)
  rw [← hg0] at hI hb2 ⊢
  rw [fl_rep] at hI
  have HI := Lib.hid (show Ints w2 g _ (fl (fr + 1) (fun j => if j < 0 then (-1 : Int) else 0)) by rw [fl_ext (g := fun _ => (0 : Int)) fun j _ => if_neg (Nat.not_lt_zero j)]; exact hI)
  have HB := Lib.hid hb2
  clear hI hb2 hg2 hg0
  go_wp2_with fail
  go_loopw [23] (fun i wr => ∃ p : Nat, p ≤ fr + 1 ∧ i = .int .i64 p ∧ Hid (Ints wr g (.slice (some ⟨g, 0, none⟩) (fr + 1) (fr + 1)) (fl (fr + 1) (fun j => if j < p then (-1 : Int) else 0))) ∧ Hid (Below g w wr)) (fun i _ => fr + 1 - (intOf i).toNat)
  case atStart => exact ⟨0, by omega, rfl, HI, HB⟩
  case round =>
    clear HI HB
    obtain ⟨p, hp, rfl, HI, HB⟩ := hrel
    by_cases hlp : p < fr + 1
    · have hlp' : (p : Int) < fr + 1 := by omega
      have cp := HI.out.at_ hlp
      have fp := HI.out.fr_ p
      have S := HI.out.put p (-1)
      rw [fl_ext (g := fun j => if j < p + 1 then (-1 : Int) else 0) fun j _ => by
        by_cases e : j = p
        · simp [e]
        · simp only [e, if_false]; by_cases c : j < p
          · simp [c, show j < p + 1 by omega]
          · simp [c, show ¬ j < p + 1 by omega]] at S
      have S1 := Lib.hid S.1
      have S3 := Lib.hid (HB.out.grown S.2 (by have := HB.out.size; have := HG0.out; omega) (by intro j hj; cases hj; exact Nat.le_refl _))
      have hpi : (0 : Int) ≤ p := by omega
      clear S HI HB
      generalize (if p < p then (-1 : Int) else 0) = y at cp
      go_wp2
      go_roundw
      case rel => exact ⟨p + 1, by omega, by go_num, S1, S3⟩
      case measure => (simp [intOf]; try omega)
    · obtain rfl : p = fr + 1 := by omega
      have hlp' : ¬ ((fr : Int) + 1 < (fr : Int) + 1) := by omega
      have I1 := HI.out
      rw [fl_ext (g := fun _ => (-1 : Int)) fun j hj => if_pos hj] at I1
      have c0 := I1.at_ (j := 0) (by omega)
      have f0 := I1.fr_ 0
      have S := I1.put 0 (s : Int)
      rw [fl_ext (g := fun j => arr h t l s j 0) fun j _ => by simp [arr]] at S
      have S1 := Lib.hid S.1
      have hgw := I1.blk
      have S3 := Lib.hid (HB.out.grown S.2 (by omega) (by intro j hj; cases hj; exact Nat.le_refl _))
      clear S I1 HI HB
      go_upto_region 10 with (at_make; refine wpList_mkB rfl _ _ rfl (wr.setCell ⟨g, 0, none⟩ (.int .i64 (s : Int))).heap.size (fr + 1) _ rfl rfl (by simp) (by omega) (Nat.le_refl _) ?_; intro w5 hI5 hb5 hg5)
      rw [fl_rep] at hI5
      obtain ⟨c, hcd⟩ : ∃ c, c = wr.heap.size := ⟨_, rfl⟩
      have hcg : g < c := by rw [hcd]; exact hgw.2
      have J5 := Lib.hid (S1.out.below hb5)
      have B5 := S3.out.trans (hb5.mono (by rw [World.size_setCell]; omega))
      rw [World.size_setCell, ← hcd] at hI5
      rw [← hcd]
      have c1 := hI5.at_ (j := 0) (by omega)
      have f1 := hI5.fr_ 0
      have T := hI5.put 0 true
      rw [fl_ext (g := fun j => rc h t l s 0 j) fun j _ => by by_cases e : j = 0 <;> simp [rc, e]] at T
      have hcw := hI5.blk
      have T1 := Lib.hid (bools_mono T.1 (show g + 1 ≤ c by omega))
      have T2 := Lib.hid (J5.out.kept T.2 (by right; simp [Value.ownBlock]; omega))
      have T3 := Lib.hid (B5.grown T.2 (by omega) (by intro j hj; cases hj; omega))
      clear T J5 B5 hI5 hb5 hg5 S1 S3 c0 f0 hcd
      go_wp2_with fail
      obtain ⟨wo, rfl⟩ : ∃ wo : World, wo = wr := ⟨_, rfl⟩
      clear hgw hcw
      go_loopw [12, 13] (fun v x wr => ∃ k c : Nat, k ≤ K ∧ x = .int .i64 ((s : Int) + k) ∧ v = .slice (some ⟨c, 0, none⟩) (fr + 1) (fr + 1) ∧ Hid (Bools wr (g + 1) (.slice (some ⟨c, 0, none⟩) (fr + 1) (fr + 1)) (fl (fr + 1) (rc h t l s k))) ∧ Hid (Ints wr g (.slice (some ⟨g, 0, none⟩) (fr + 1) (fr + 1)) (fl (fr + 1) (fun j => arr h t l s j k))) ∧ Hid (Below g w wr)) (fun _ x _ => s + K - (intOf x).toNat)
      case atStart => exact ⟨0, c, Nat.zero_le _, by simp, rfl, T1, T2, T3⟩
      case round =>
        clear T1 T2 T3
        obtain ⟨k, c, hk, rfl, rfl, T1, T2, T3⟩ := hrel
        have hki := KI.out
        by_cases hlt : k < K
        · have hlt' : (s : Int) + k < (s : Int) + K := by omega
          have hcb := T1.out.blk
          have hgb := T2.out.blk
          have ST := Lib.hid (tdStep h t (rc h t l s k) l (s + k) c fr ((s : Int) + k) wr (by omega) HG.out HF.out hl (by omega) hcb.2 (fun j hj => T1.out.at_ hj))
          clear T1
          go_wp2_with fail
          refine ST.out.mono ?_
          rintro e w4 ⟨d, rfl, hI4, hb4⟩
          have U1 := Lib.hid (show Bools w4 (g + 1) (.slice (some ⟨d, 0, none⟩) (fr + 1) (fr + 1)) (fl (fr + 1) (rc h t l s (k + 1))) from bools_mono (by
            rw [fl_ext (g := stF h t (rc h t l s k) l (s + k + 1)) fun j _ => (stF_rc h t l s k j).symm]; exact hI4) (by omega))
          have hdb := hI4.blk
          have U2 := Lib.hid (show Ints w4 g _ (fl (fr + 1) (fun j => if j < 0 then arr h t l s j (k + 1) else arr h t l s j k)) by
            rw [fl_ext (g := fun j => arr h t l s j k) fun j _ => if_neg (Nat.not_lt_zero j)]; exact T2.out.below hb4)
          have U3 := Lib.hid (T3.out.trans (hb4.mono (by omega)))
          have hdg : g < d := by omega
          clear hI4 hb4 T2 T3 hcb hgb hdb ST
          obtain ⟨wp, rfl⟩ : ∃ wp : World, wp = wr := ⟨_, rfl⟩
          go_wp2_with fail
          go_loopw [57] (fun i wr => ∃ p : Nat, p ≤ fr + 1 ∧ i = .int .i64 p ∧ Hid (Bools wr (g + 1) (.slice (some ⟨d, 0, none⟩) (fr + 1) (fr + 1)) (fl (fr + 1) (rc h t l s (k + 1)))) ∧ Hid (Ints wr g (.slice (some ⟨g, 0, none⟩) (fr + 1) (fr + 1)) (fl (fr + 1) (fun j => if j < p then arr h t l s j (k + 1) else arr h t l s j k))) ∧ Hid (Below g w wr)) (fun i _ => fr + 1 - (intOf i).toNat)
          case atStart => exact ⟨0, by omega, rfl, U1, U2, U3⟩
          case round =>
            clear U1 U2 U3
            obtain ⟨p, hp, rfl, U1, U2, U3⟩ := hrel
            by_cases hlp2 : p < fr + 1
            · have hlp3 : (p : Int) < fr + 1 := by omega
              have cb := U1.out.at_ hlp2
              have ci := U2.out.at_ hlp2
              have fi := U2.out.fr_ p
              simp only [Nat.lt_irrefl, if_false] at ci
              have hpi : (0 : Int) ≤ p := by omega
              have hgw := U2.out.blk
              have hex : ∀ z : Int, arr h t l s p (k + 1) = z → fl (fr + 1) (fun i => if i = p then z else if i < p then arr h t l s i (k + 1) else arr h t l s i k) = fl (fr + 1) (fun j => if j < p + 1 then arr h t l s j (k + 1) else arr h t l s j k) := by
                intro z hz
                refine fl_ext fun j _ => ?_
                by_cases e : j = p
                · subst e; simp [hz]
                · simp only [e, if_false]
                  by_cases c : j < p
                  · simp [c, show j < p + 1 by omega]
                  · simp [c, show ¬ j < p + 1 by omega]
              have hab := arr_bd h t l s p k
              by_cases hyes : rc h t l s (k + 1) p = true ∧ arr h t l s p k < 0
              · have hz := arr_yes hyes.1 hyes.2
                have S := U2.out.put p ((s : Int) + k + 1)
                rw [hex ((s : Int) + k + 1) (by rw [hz]; push_cast; rfl)] at S
                have S1 := Lib.hid S.1
                have S2 := Lib.hid (U1.out.kept S.2 (by right; simp [Value.ownBlock]; omega))
                have S3 := Lib.hid (U3.out.grown S.2 (by omega) (by intro j hj; cases hj; exact Nat.le_refl _))
                have hneg := hyes.2
                rw [hyes.1] at cb
                clear S U1 U2 U3 hex hz hyes
                generalize arr h t l s p k = y at *
                go_wp2
                go_roundw
                case rel => exact ⟨p + 1, by omega, by go_num, S2, S1, S3⟩
                case measure => (simp [intOf]; try omega)
              · have hz := arr_no hyes
                have E := Lib.hid (show Ints wr g _ (fl (fr + 1) (fun j => if j < p + 1 then arr h t l s j (k + 1) else arr h t l s j k)) by
                  rw [← hex _ hz, fl_ext (g := fun j => if j < p then arr h t l s j (k + 1) else arr h t l s j k) fun j _ => by
                    by_cases e : j = p
                    · subst e; simp
                    · simp only [e, if_false]]
                  exact U2.out)
                cases hb1 : rc h t l s (k + 1) p
                · rw [hb1] at cb
                  clear U2 hex hz hyes hb1 ci
                  go_wp2
                  go_roundw
                  case rel => exact ⟨p + 1, by omega, by go_num, U1, E, U3⟩
                  case measure => (simp [intOf]; try omega)
                · have hneg : ¬ arr h t l s p k < 0 := fun c => hyes ⟨hb1, c⟩
                  rw [hb1] at cb
                  clear U2 hex hz hyes hb1
                  generalize arr h t l s p k = y at *
                  go_wp2
                  go_roundw
                  case rel => exact ⟨p + 1, by omega, by go_num, U1, E, U3⟩
                  case measure => (simp [intOf]; try omega)
            · obtain rfl : p = fr + 1 := by omega
              have hlp3 : ¬ ((fr : Int) + 1 < (fr : Int) + 1) := by omega
              have E := Lib.hid (show Ints wr g _ (fl (fr + 1) (fun j => arr h t l s j (k + 1))) by
                rw [← fl_ext (f := fun j => if j < fr + 1 then arr h t l s j (k + 1) else arr h t l s j k) fun j hj => if_pos hj]; exact U2.out)
              clear U2
              go_wp2
              go_roundw
              case rel => exact ⟨k + 1, d, by omega, by go_num, rfl, U1, E, U3⟩
              case measure => (simp [intOf]; try omega)
        · obtain rfl : k = K := by omega
          have hlt' : ¬ ((s : Int) + k < (s : Int) + k) := by omega
          have E := Lib.hid (show Ints wr g _ (fl (fr + 1) (arV h t l s)) by
            rw [fl_ext (g := fun j => arr h t l s j k) fun j _ => by unfold arV; rw [HK.out]]; exact T2.out)
          clear T1 T2
          go_wp2
          go_ret
          exact ⟨_, rfl, by rw [← HG0.out]; exact E.out, by rw [← HG0.out]; exact T3.out⟩
set_option maxHeartbeats 1000000 in
theorem tdEnd (h t : ByteArray) (l s : Nat) (w : World) (hg : good h t = true) (hl : l ≤ 100) (hs : s ≤ 2000) :
    Calls Try.prog 31 #[.string h, .string t, .int .i64 (l : Int), .int .i64 (s : Int)] w fun e w' => e = .returned (.int .i64 (arV h t l s (h.size + 1))) ∧ Below w.heap.size w w' := by
  obtain ⟨⟨z1, z2, _⟩, _⟩ := good_in hg
  have AR := Lib.hid (tdArrive h t l s w hg hl hs)
  clear hg
  go_enter Try.func31, Try.ntmps31
  go_wp2_with fail
  refine AR.out.mono ?_
  rintro e w1 ⟨d, rfl, hI, hb⟩
  have c := hI.at_ (j := h.size + 1) (by omega)
  have HB := Lib.hid hb
  have h1 : (h.size : Int) + 1 < h.size + 2 := by omega
  have h2 : (0 : Int) ≤ (h.size : Int) + 1 := by omega
  have h3 : ((h.size : Int) + 1).toNat = h.size + 1 := by omega
  obtain ⟨y, hy⟩ : ∃ y, y = arV h t l s (h.size + 1) := ⟨_, rfl⟩
  rw [← hy] at c
  have HY := Lib.hid hy
  clear hI hb hy
  go_wp2
  go_ret
  exact ⟨ret_v (congrArg (Value.int .i64) HY.out), HB.out⟩
end Go.Proofs.Ytmlokapbholeoab
