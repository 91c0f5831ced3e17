/- CountTideWays, spec's side. -/
import Derived.Test.YtmlokapbholeoacTc
import Derived.Test.YtmlokapbholeoacTl
import Derived.Test.YtmlokapbholeoacTv
import Derived.Deep.CutRange
import Derived.Deep.DeepCutAuto
import Derived.RegionTactic
import Derived.BigRegion
namespace Go.Proofs.Ytmlokapbholeoac
set_option linter.unusedVariables false
open Go.RowKit

def ctwB (h t : ByteArray) (L X H : Int) : Bool := askd h t L X && inB H 0 10
def ctwV (h t : ByteArray) (L X H : Int) : Value :=
  if ctwB h t L X H then .tuple #[.int .i64 (cw h t L.toNat X.toNat H.toNat (h.size + 1) : Int), .bool true] else .tuple #[.int .i64 0, .bool false]
theorem ctwV_no {h t : ByteArray} {L X H : Int} (g : ctwB h t L X H = false) : ctwV h t L X H = .tuple #[.int .i64 0, .bool false] := by simp [ctwV, g]
theorem ctwV_yes {h t : ByteArray} {L X H : Int} (g : ctwB h t L X H = true) : ctwV h t L X H = .tuple #[.int .i64 (cw h t L.toNat X.toNat H.toNat (h.size + 1) : Int), .bool true] := by simp [ctwV, g]
theorem ctwV_form (h t : ByteArray) (L X H : Int) : ∃ x y, ctwV h t L X H = .tuple #[.int .i64 x, .bool y] := by
  unfold ctwV; split <;> exact ⟨_, _, rfl⟩
theorem l1MostT (y : Int) (lo : Nat) (w : World) (h : (y < 0 ∧ lo = 0) ∨ (0 ≤ y ∧ y = lo)) :
    Calls Try.prog 34 #[.int .i64 0, .int .i64 y] w fun e w' => e = .returned (.int .i64 lo) ∧ w = w' := by
  rcases h with ⟨h, rfl⟩ | ⟨h, rfl⟩
  · go_enter Try.func34, Try.ntmps34
    go_wp2
    go_ret
    exact ⟨rfl, rfl⟩
  · have h2 : ¬ ((lo : Int) < 0) := by omega
    go_enter Try.func34, Try.ntmps34
    go_wp2
    go_ret
    exact ⟨rfl, rfl⟩
/-- the next numbers: the first p places are done, the place p has m of its sums -/
def nxF (h t : ByteArray) (L s k p m : Nat) (j : Nat) : Int := if j < p then (cw h t L s (k + 1) j : Int) else if j = p then (sumF (cw h t L s k) (p - L) m : Int) else 0
theorem nxF_put {h t : ByteArray} {L s k p m : Nat} (i : Nat) : (if i = p then (sumF (cw h t L s k) (p - L) m : Int) + (cw h t L s k (p - L + m) : Int) else nxF h t L s k p m i) = nxF h t L s k p (m + 1) i := by
  unfold nxF
  by_cases e : i = p
  · rw [if_pos e, if_neg (by omega), if_pos e]; simp [sumF]
  · rw [if_neg e, if_neg e]; simp only [e, if_false]
theorem nxF_end {h t : ByteArray} {L s k p m : Nat} (e : (cw h t L s (k + 1) p : Int) = (sumF (cw h t L s k) (p - L) m : Int)) (i : Nat) : nxF h t L s k p m i = nxF h t L s k (p + 1) 0 i := by
  unfold nxF
  by_cases c : i < p
  · rw [if_pos c, if_pos (by omega)]
  · by_cases c2 : i = p
    · rw [if_neg c, if_pos c2, if_pos (by omega), c2, e]
    · rw [if_neg c, if_neg c2, if_neg (by omega)]; simp [sumF]
set_option maxHeartbeats 4000000 in
theorem specCtw (h t : ByteArray) (L X H : Int) (w : World) (hs : h.size ≤ 1048576 ∧ t.size ≤ 1048576) :
    Calls Try.prog 18 #[.string h, .string t, .int .i64 L, .int .i64 X, .int .i64 H] w fun e w' => e = .returned (ctwV h t L X H) ∧ Below w.heap.size w w' := by
  have A := fun wx => tdAsked h t L X wx hs.1 hs.2
  cases ha : askd h t L X
  · have J := Lib.hid (ctwV_no (h := h) (t := t) (L := L) (X := X) (H := H) (by simp [ctwB, ha]))
    rw [ha] at A
    have HA := Lib.hid A
    clear A ha
    go_enter Try.func18, Try.ntmps18
    go_wp2_with (go_at_call 27; refine (HA.out _).mono ?_; rintro e w' ⟨rfl, rfl⟩)
    go_ret2
    exact ⟨ret_v J.out.symm, Below.refl _ _⟩
  have I := fun wx => l1In H 0 10 wx
  cases hi : inB H 0 10
  · have J := Lib.hid (ctwV_no (h := h) (t := t) (L := L) (X := X) (H := H) (by simp [ctwB, hi]))
    rw [ha] at A
    rw [hi] at I
    have HA := Lib.hid A
    have HI := Lib.hid I
    clear A ha I hi
    go_enter Try.func18, Try.ntmps18
    go_wp2_with (first
      | (go_at_call 27; refine (HA.out _).mono ?_; rintro e w' ⟨rfl, rfl⟩)
      | (go_at_call 21; refine (HI.out _).mono ?_; rintro e w' ⟨rfl, rfl⟩))
    go_ret2
    exact ⟨ret_v J.out.symm, Below.refl _ _⟩
  have J := ctwV_yes (h := h) (t := t) (L := L) (X := X) (H := H) (by simp [ctwB, ha, hi])
  obtain ⟨hl, x0, x1⟩ := askd_in ha
  obtain ⟨hg, l0, l1⟩ := lpd_in hl
  have hH : 0 ≤ H ∧ H ≤ 10 := by simpa [inB] using hi
  obtain ⟨⟨z1, z2, _⟩, ⟨z3, z4, _⟩⟩ := good_in hg
  obtain ⟨s, rfl⟩ : ∃ s : Nat, X = s := ⟨X.toNat, by omega⟩
  obtain ⟨l, rfl⟩ : ∃ l : Nat, L = l := ⟨L.toNat, by omega⟩
  obtain ⟨q, rfl⟩ : ∃ q : Nat, H = q := ⟨H.toNat, by omega⟩
  simp only [Int.toNat_natCast] at J
  rw [ha] at A
  rw [hi] at I
  have HA := Lib.hid A
  have HI := Lib.hid I
  have HG := Lib.hid hg
  have HJ := Lib.hid J
  obtain ⟨fr, hfr⟩ : ∃ fr, fr = h.size + 1 := ⟨_, rfl⟩
  have HF := Lib.hid hfr
  have hf1 : 2 ≤ fr ∧ fr ≤ 15 := by omega
  have hfi : (h.size : Int) + 1 = fr := by omega
  have sq : s + q ≤ 1010 := by omega
  have s1 : s ≤ 1000 := by omega
  have hl1 : 1 ≤ l ∧ l ≤ 15 := by omega
  have hq : q ≤ 10 := by omega
  have CB := Lib.hid (fun k (hk : k ≤ q) p => Nat.le_trans (cw_le (h := h) (t := t) (L := l) (s := s) z2 k p) (pow_le10 (show k ≤ 10 by omega)))
  obtain ⟨g, hg0⟩ : ∃ g, g = w.heap.size := ⟨_, rfl⟩
  have HG0 := Lib.hid hg0
  clear A I ha hi hl hg J hH l0 l1 x0 x1 hfr
  go_enter Try.func18, Try.ntmps18
  go_upto_region 4 with (first
      | (go_at_call 27; refine (HA.out _).mono ?_; rintro e w' ⟨rfl, rfl⟩)
      | (go_at_call 21; refine (HI.out _).mono ?_; rintro e w' ⟨rfl, rfl⟩))
  try simp only [hfi]
  clear hfi
  go_upto_region 5 with (at_make; refine wpList_mk rfl _ _ rfl w.heap.size (fr + 1) _ rfl rfl (by simp) (by omega) (Nat.le_refl _) ?_; intro w2 hI hb2 hg2)
  rw [← hg0] at hI hb2 ⊢
  rw [fl_rep] at hI
  have c0 := hI.at_ (j := 0) (by omega)
  have f0 := hI.fr_ 0
  have S := hI.put 0 1
  rw [show fl (fr + 1) (fun i => if i = 0 then (1 : Int) else 0) = fl (fr + 1) (fun i => (cw h t l s 0 i : Int)) from fl_ext fun j _ => by unfold cw; split <;> simp_all] at S
  have SS := Lib.hid (And.intro S.1 (hb2.grown S.2 (by have := hI.blk; omega) (by intro j hj; cases hj; exact Nat.le_refl _)))
  clear S hI hb2 hg2 hg0
  go_wp2_with fail
  go_loopw [13, 14] (fun v x wr => ∃ k c : Nat, k ≤ q ∧ x = .int .i64 ((s : Int) + k) ∧ v = .slice (some ⟨c, 0, none⟩) (fr + 1) (fr + 1) ∧ Ints wr g (.slice (some ⟨c, 0, none⟩) (fr + 1) (fr + 1)) (fl (fr + 1) (fun i => (cw h t l s k i : Int))) ∧ Below g w wr) (fun _ x _ => s + q - (intOf x).toNat)
  case atStart => exact ⟨0, g, Nat.zero_le _, by simp, rfl, SS.out.1, SS.out.2⟩
  case round =>
    obtain ⟨k, c, hk, rfl, rfl, hI, hb⟩ := hrel
    have hle : g ≤ wr.heap.size := by have := hb.size; have := HG0.out; omega
    by_cases hlt : k < q
    · have hlt' : (s : Int) + k < (s : Int) + q := by omega
      have hcg := hI.blk
      have HI0 := Lib.hid hI
      have HB0 := Lib.hid hb
      clear hI hb
      go_wp2_with (at_make; refine wpList_mk rfl _ _ rfl wr.heap.size (fr + 1) _ rfl rfl (by simp) (by omega) (Nat.le_refl _) ?_; intro w3 hI3 hb3 hg3)
      obtain ⟨d, hd⟩ : ∃ d, d = wr.heap.size := ⟨_, rfl⟩
      rw [← hd] at hI3 hb3 ⊢
      rw [fl_rep] at hI3
      have I0 : Ints w3 d (.slice (some ⟨d, 0, none⟩) (fr + 1) (fr + 1)) (fl (fr + 1) (nxF h t l s k 0 0)) := by
        rw [show fl (fr + 1) (nxF h t l s k 0 0) = fl (fr + 1) (fun _ => 0) from fl_ext fun j _ => by unfold nxF; simp [sumF]]; exact hI3
      have HI1 := Lib.hid I0
      have HI2 := Lib.hid (HI0.out.below (by rw [← hd]; exact hb3))
      have HB3 := Lib.hid (HB0.out.trans (hb3.mono (by omega)))
      have hcd : c < d := by omega
      have HD := Lib.hid hd
      have hgd : g ≤ d := by omega
      clear hI3 hb3 hg3 I0 hd hcg
      obtain ⟨wo, rfl⟩ : ∃ wo : World, wo = wr := ⟨_, rfl⟩
      go_loopw [50] (fun i wr => ∃ p : Nat, p ≤ fr + 1 ∧ i = .int .i64 p ∧ Hid (Ints wr d (.slice (some ⟨d, 0, none⟩) (fr + 1) (fr + 1)) (fl (fr + 1) (nxF h t l s k p 0))) ∧ Hid (Ints wr g (.slice (some ⟨c, 0, none⟩) (fr + 1) (fr + 1)) (fl (fr + 1) (fun i => (cw h t l s k i : Int)))) ∧ Hid (Below g w wr)) (fun i _ => fr + 1 - (intOf i).toNat)
      case atStart => exact ⟨0, by omega, rfl, HI1, HI2, HB3⟩
      case round =>
        clear HI1 HI2 HB3
        obtain ⟨p, hp, rfl, HI1, HI2, HB3⟩ := hrel
        by_cases hlp : p < fr + 1
        · obtain ⟨lo, hlo⟩ : ∃ lo, lo = p - l := ⟨_, rfl⟩
          have HLO2 := Lib.hid (show ((p : Int) - l < 0 ∧ lo = 0) ∨ (0 ≤ (p : Int) - l ∧ (p : Int) - l = lo) by omega)
          have HLO := Lib.hid hlo
          have hlp' : (p : Int) < fr + 1 := by omega
          have hlo3 : lo ≤ p := by omega
          clear hlo
          go_wp2_with (go_at_call 34; refine (l1MostT _ lo _ HLO2.out).mono ?_; rintro e w' ⟨rfl, rfl⟩)
          obtain ⟨wp, rfl⟩ : ∃ wp : World, wp = wr := ⟨_, rfl⟩
          go_loopw [17] (fun b wr => ∃ m : Nat, lo + m ≤ ub h l p ∧ b = .int .i64 ((lo : Int) + m) ∧ (dry h t p (s + k + 1) = true ∨ m = 0) ∧ Hid (Ints wr d (.slice (some ⟨d, 0, none⟩) (fr + 1) (fr + 1)) (fl (fr + 1) (nxF h t l s k p m))) ∧ Hid (Ints wr g (.slice (some ⟨c, 0, none⟩) (fr + 1) (fr + 1)) (fl (fr + 1) (fun i => (cw h t l s k i : Int)))) ∧ Hid (Below g w wr)) (fun b _ => fr - (intOf b).toNat)
          case atStart => exact ⟨0, by unfold ub; have := HF.out; omega, by simp, .inr rfl, HI1, HI2, HB3⟩
          case round =>
            clear HI1 HI2 HB3
            obtain ⟨m, hm, rfl, hdm, HI1, HI2, HB3⟩ := hrel
            have hubv : ub h l p = min (p + l) (fr - 1) + 1 := by unfold ub; have := HF.out; omega
            by_cases hgo : lo + m < fr ∧ lo + m ≤ p + l
            · have hg1 : (lo : Int) + m < fr := by omega
              have hg2 : (lo : Int) + m ≤ (p : Int) + l := by omega
              have DR := Lib.hid (fun wx => tdDry h t p (s + k + 1) (p : Int) ((s : Int) + k + 1) wx rfl (by omega) HG.out (by have := HF.out; omega) (by omega))
              cases hdr : dry h t p (s + k + 1)
              · have hm0 : m = 0 := by rcases hdm with h1 | h1; rw [hdr] at h1; exact Bool.noConfusion h1; exact h1
                subst hm0
                rw [hdr] at DR
                have E := Lib.hid (fun i => nxF_end (h := h) (t := t) (L := l) (s := s) (k := k) (p := p) (m := 0) (by rw [cw_no hdr]; simp [sumF]) i)
                have I2 := Lib.hid (show Ints wr d _ (fl (fr + 1) (nxF h t l s k (p + 1) 0)) by rw [← fl_ext fun i _ => E.out i]; exact HI1.out)
                clear hdm hubv hdr
                go_wp2_with (go_at_call 29; refine (DR.out _).mono ?_; rintro e w4 ⟨rfl, r, rfl⟩)
                go_roundw
                case rel => exact ⟨p + 1, by omega, by go_num, Lib.hid (I2.out.below (below_drewN (Below.refl _ _) _)), Lib.hid (HI2.out.below (below_drewN (Below.refl _ _) _)), Lib.hid (below_drewN HB3.out _)⟩
                case measure => (simp [intOf]; try omega)
              · rw [hdr] at DR
                have E := Lib.hid (fun i => nxF_put (h := h) (t := t) (L := l) (s := s) (k := k) (p := p) (m := m) i)
                have hn1 : nxF h t l s k p m p = (sumF (cw h t l s k) (p - l) m : Int) := by unfold nxF; rw [if_neg (by omega), if_pos rfl]
                have hlo0 := HLO.out
                have b1 := CB.out k (by omega) (lo + m)
                have b2 : sumF (cw h t l s k) (p - l) m ≤ 16 * 1099511627776 := Nat.le_trans (sumF_le (fun j => CB.out k (by omega) j) m) (Nat.mul_le_mul_right _ (by omega))
                rw [← hlo0] at hn1 b2
                have N1 := Lib.hid hn1
                have hlq : lo + m < fr + 1 := by omega
                have hpi : (0 : Int) ≤ p := by omega
                have hmi : (0 : Int) ≤ (lo : Int) + m := by omega
                have hmn : ((lo : Int) + m).toNat = lo + m := by omega
                have hmf : (lo : Int) + m < fr + 1 := by omega
                have HDR := Lib.hid hdr
                clear hdm hdr hubv hn1 hlo0
                go_wp2_with (go_at_call 29; refine (DR.out _).mono ?_; rintro e w4 ⟨rfl, r, hw4⟩; have B4 := Lib.hid (by rw [hw4]; exact below_drewN HB3.out _ : Below g w w4); have BW := Lib.hid (by rw [hw4]; exact below_drewN (Below.refl _ _) _ : Below wr.heap.size wr w4); clear hw4)
                have HI4 := HI1.out.below BW.out
                have HI5 := HI2.out.below BW.out
                have cp := HI4.at_ hlp
                have fp := HI4.fr_ p
                have cq := HI5.at_ hlq
                rw [N1.out] at cp
                have S := HI4.put p ((sumF (cw h t l s k) lo m : Int) + (cw h t l s k (lo + m) : Int))
                rw [show fl (fr + 1) (fun i => if i = p then (sumF (cw h t l s k) lo m : Int) + (cw h t l s k (lo + m) : Int) else nxF h t l s k p m i) = fl (fr + 1) (nxF h t l s k p (m + 1)) from fl_ext fun i _ => by have := E.out i; rw [← HLO.out] at this; exact this] at S
                have S1 := Lib.hid S.1
                have hdw := HI4.blk
                have S2 := Lib.hid (HI5.kept S.2 (by right; simp [Value.ownBlock]; omega))
                have S3 := Lib.hid (B4.out.grown S.2 (by omega) (by intro j hj; cases hj; exact hgd))
                clear HI4 HI5 S HI1 HI2 HB3
                have hxy : 0 ≤ (sumF (cw h t l s k) lo m : Int) + (cw h t l s k (lo + m) : Int) ∧ (sumF (cw h t l s k) lo m : Int) + (cw h t l s k (lo + m) : Int) ≤ 1000000000000000 := by omega
                generalize (cw h t l s k (lo + m) : Int) = y at *
                generalize (sumF (cw h t l s k) lo m : Int) = x at *
                have hwr : wrap64 (x + y) = x + y := by unfold wrap64; omega
                have hwr2 : IntKind.i64.wrap (x + y) = x + y := IntWalk.i64_in _ (by omega)
                go_region
                all_goals
                  go_wp2
                  go_roundw
                  case rel => exact ⟨m + 1, by unfold ub; have := HF.out; omega, by go_num, .inl (by first | exact HDR.out | trivial), Lib.hid S1.out, Lib.hid S2.out, Lib.hid S3.out.drew⟩
                  case measure => (simp [intOf]; try omega)
            · have E := Lib.hid (fun i => nxF_end (h := h) (t := t) (L := l) (s := s) (k := k) (p := p) (m := m) (by
                have hlo0 := HLO.out
                cases hdr : dry h t p (s + k + 1)
                · rcases hdm with h1 | h1
                  · rw [hdr] at h1; exact Bool.noConfusion h1
                  · rw [h1, cw_no hdr]; simp [sumF]
                · rw [cw_ub hdr (by have := HF.out; omega) hl1.1, show ub h l p - (p - l) = m by omega]) i)
              have I2 := Lib.hid (show Ints wr d _ (fl (fr + 1) (nxF h t l s k (p + 1) 0)) by rw [← fl_ext fun i _ => E.out i]; exact HI1.out)
              have hg1 : ¬ ((lo : Int) + m < fr) ∨ ¬ ((lo : Int) + m ≤ (p : Int) + l) := by omega
              clear hdm hubv hgo
              by_cases hg2 : (lo : Int) + m < fr
              · have hg3 : ¬ ((lo : Int) + m ≤ (p : Int) + l) := by omega
                go_wp2
                go_roundw
                case rel => exact ⟨p + 1, by omega, by go_num, I2, HI2, HB3⟩
                case measure => (simp [intOf]; try omega)
              · go_wp2
                go_roundw
                case rel => exact ⟨p + 1, by omega, by go_num, I2, HI2, HB3⟩
                case measure => (simp [intOf]; try omega)
        · obtain rfl : p = fr + 1 := by omega
          have I2 := Lib.hid (show Ints wr g _ (fl (fr + 1) (fun i => (cw h t l s (k + 1) i : Int))) from ints_mono' (by
            rw [← fl_ext (f := nxF h t l s k (fr + 1) 0) fun i hi => by unfold nxF; rw [if_pos hi]]; exact HI1.out) hgd)
          have hlp' : ¬ ((fr : Int) + 1 < (fr : Int) + 1) := by omega
          go_wp2
          go_roundw
          case rel => exact ⟨k + 1, d, by omega, by go_num, rfl, I2.out, HB3.out⟩
          case measure => (simp [intOf]; try omega)
    · obtain rfl : k = q := by omega
      have cf := hI.at_ (j := fr) (by omega)
      have HB0 := Lib.hid hb
      have J2 := HJ.out
      rw [← HF.out] at J2
      have J3 := Lib.hid J2
      have hlt' : ¬ ((s : Int) + k < (s : Int) + k) := by omega
      clear hI hb J2
      generalize (cw h t l s k fr : Int) = y at *
      go_wp2
      go_ret2
      exact ⟨ret_v J3.out.symm, by rw [← HG0.out]; exact HB0.out⟩
end Go.Proofs.Ytmlokapbholeoac
