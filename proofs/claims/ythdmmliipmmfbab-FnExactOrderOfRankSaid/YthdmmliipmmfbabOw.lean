/- OrderOfRank, spec. (gen_ow.py writes it.) -/
import Derived.Test.YthdmmliipmmfbabOv
import Derived.Deep.RegionHeld3
import Derived.Deep.RegionWith
import Derived.Deep.CutRange
import Derived.Deep.DeepCutAuto
namespace Go.Proofs.Ythdmmliipmmfbab
set_option linter.unusedVariables false
open Go.RowKit

theorem rng_snoc (k : Nat) : rng k ++ [(k : Int) + 1] = rng (k + 1) := fl_snoc k (fun j => (j : Int) + 1)
set_option maxHeartbeats 8000000 in
theorem specOr (b r : Int) (w : World) (hr : r ≤ 9223372036854775807) :
    Calls Try.prog 18 #[.int .i64 b, .int .i64 r] w (IntsQ w.heap.size (orL b r) (orB b r) w) := by
  have E := Lib.hid (show orB b r = (inB b 1 8 && decide (0 ≤ r) && decide (r < (fac b.toNat : Int))) from rfl)
  have JN := Lib.hid (fun hx => orL_no (b := b) (r := r) hx)
  have JY := Lib.hid (fun hx => orL_yes (b := b) (r := r) hx)
  generalize orB b r = t at *
  generalize orL b r = z at *
  have HB := Lib.hid (ptBoats b w)
  cases hb : inB b 1 8
  · have J := Lib.hid (show t = false from E.out.trans (by simp [hb]))
    have J2 := Lib.hid (JN.out J.out)
    rw [hb] at HB
    clear hb E JN JY
    go_enter Try.func18, Try.ntmps18
    go_wp2_with (go_at_call 33; refine HB.out.mono ?_; rintro e w' ⟨rfl, rfl⟩)
    go_ret2
    exact ⟨_, by rw [J.out] <;> rfl, by rw [J2.out]; exact World.ownsRow_nil _ _ _ _, Below.refl _ _⟩
  rw [hb] at HB
  have hb' := inB_iff.1 hb
  by_cases h0 : r < 0
  · have J := Lib.hid (show t = false from E.out.trans (by simp [hb]; omega))
    have J2 := Lib.hid (JN.out J.out)
    clear hb E JN JY
    go_enter Try.func18, Try.ntmps18
    go_wp2_with (go_at_call 33; refine HB.out.mono ?_; rintro e w' ⟨rfl, rfl⟩)
    go_ret2
    exact ⟨_, by rw [J.out] <;> rfl, by rw [J2.out]; exact World.ownsRow_nil _ _ _ _, Below.refl _ _⟩
  obtain ⟨n, rfl⟩ : ∃ n : Nat, b = n := ⟨b.toNat, by omega⟩
  obtain ⟨r, rfl⟩ : ∃ q : Nat, r = q := ⟨r.toNat, by omega⟩
  simp only [Int.toNat_natCast] at E JY
  have h0' : ¬ (r : Int) < 0 := by omega
  obtain ⟨d, hd⟩ : ∃ d, d = w.heap.size := ⟨_, rfl⟩
  have HD := Lib.hid hd
  have hnn : 1 ≤ n ∧ n ≤ 8 := by omega
  have HBB := Lib.hid hb
  clear h0 hd hb hb'
  go_enter Try.func18, Try.ntmps18
  go_wp2_with (go_at_call 33; refine HB.out.mono ?_; rintro e w' ⟨rfl, rfl⟩)
  go_loopw [6, 7, 8] (fun f o i wr => ∃ k : Nat, k ≤ n ∧ i = .int .i64 ((k : Int) + 1) ∧ f = .int .i64 (fac k : Int) ∧ Hid (Ints wr d o (rng k)) ∧ Hid (Below d w wr)) (fun _ _ i _ => n + 1 - (intOf i).toNat)
  case atStart => exact ⟨0, by omega, rfl, rfl, Lib.hid (World.ownsRow_nil _ _ _ _), Lib.hid (Below.refl _ _)⟩
  case round =>
    obtain ⟨k, hk, rfl, rfl, HO, HBW⟩ := hrel
    by_cases hlt : k < n
    · have hlt' : (k : Int) + 1 ≤ n := by omega
      have f1 := fac_8 (k := k) (by omega)
      obtain ⟨P, hP⟩ : ∃ P, P = fac k * (k + 1) := ⟨_, rfl⟩
      have hPP : (fac k : Int) * ((k : Int) + 1) = (P : Int) := by rw [hP]; push_cast; rfl
      have EP := Lib.hid (show fac (k + 1) = P by rw [hP, fac, Nat.mul_comm])
      have hPb : P ≤ 40320 * 8 := by rw [hP]; exact Nat.mul_le_mul f1 (by omega)
      have T := Lib.hid (rng_snoc k)
      have hfl : (rng k).length < 16777216 := by rw [rng_len]; omega
      have hle2 : d ≤ wr.heap.size := by have := HBW.out.size; have := HD.out; omega
      clear hP
      generalize fac k = F at *
      go_wp2_with (at_builtin; refine wpList_app wr rfl _ _ rfl d _ (rng k) rfl HO.out ((k : Int) + 1) rfl hfl hle2 rfl ?_; intro v' w2 hI2 hb2 hg2)
      go_roundw
      case rel => exact ⟨k + 1, by omega, by go_num, by rw [EP.out], Lib.hid (by rw [← T.out]; exact hI2), Lib.hid (HBW.out.trans hb2)⟩
      case measure => (simp [intOf]; try omega)
    · obtain rfl : k = n := by omega
      have hkk : ¬ ((k : Int) + 1 ≤ k) := by omega
      have f1 := fac_8 (k := k) (by omega)
      by_cases hrf : r < fac k
      · have hrf' : ¬ ((fac k : Int) ≤ (r : Int)) := by omega
        have J := Lib.hid (show t = true from E.out.trans (by rw [HBB.out]; simp; omega))
        have J2 := Lib.hid (JY.out J.out)
        have HRF := Lib.hid hrf
        obtain ⟨gr, m0, cr, hgr, hm0, _, _, hgd, hgw, _⟩ := HO.out.form (by rw [rng_len]; omega)
        rw [rng_len] at hm0
        subst hm0
        subst hgr
        obtain ⟨n, hn⟩ : ∃ n, n = m0 := ⟨_, rfl⟩
        subst hn
        have M0 := Lib.hid (Nat.mod_eq_of_lt hrf)
        have A0 : Hid (some gr ≠ (Value.slice none 0 0).ownBlock) := Lib.hid (by intro e; cases e)
        clear E JN JY hrf hgd hgw hkk f1
        go_wp2
        go_loopw [1, 6, 7, 9, 10] (fun rk f l o i wr => ∃ p gr cr : Nat, p ≤ n ∧ i = .int .i64 ((n - p : Nat) : Int) ∧ rk = .int .i64 ((r % fac (n - p) : Nat) : Int) ∧ f = .int .i64 (fac (n - p) : Int) ∧ l = .slice (some ⟨gr, 0, none⟩) (n - p) cr ∧ Hid (Ints wr d (.slice (some ⟨gr, 0, none⟩) (n - p) cr) (lfR n r p)) ∧ Hid (Ints wr d o (fl p (orF n r))) ∧ Hid (some gr ≠ o.ownBlock) ∧ Hid (Below d w wr)) (fun _ _ _ _ i _ => (intOf i).toNat)
        case atStart => exact ⟨0, gr, cr, Nat.zero_le _, by simp, by simp [M0.out], by simp, by simp, HO, Lib.hid (World.ownsRow_nil _ _ _ _), A0, HBW⟩
        case round =>
          clear HO HBW A0
          obtain ⟨p, gr, cr, hp, rfl, rfl, rfl, rfl, HL, HO, HA, HBW⟩ := hrel
          by_cases hlp : p < n
          · obtain ⟨m, hm⟩ : ∃ m, m = n - p := ⟨_, rfl⟩
            rw [← hm] at HL ⊢
            have hll := lfR_len (n := n) (r := r) p (by omega)
            rw [← hm] at hll
            have hdl := dgR_lt (r := r) hlp
            have hda := dgR_alt (r := r) hlp
            have hm1 : n - 1 - p = m - 1 := by omega
            rw [← hm] at hdl hda
            rw [hm1] at hda
            have EL := Lib.hid (show lfR n r (p + 1) = wo1 (lfR n r p) (dgR n r p) from rfl)
            have EO := Lib.hid (show gt (lfR n r p) (dgR n r p) = orF n r p from rfl)
            have T := Lib.hid (fl_snoc p (orF n r))
            have EM := Lib.hid (show ((n - (p + 1) : Nat) : Int) = (m : Int) - 1 by omega)
            have EM4 := Lib.hid (show n - (p + 1) = m - 1 by omega)
            obtain ⟨F, hF⟩ : ∃ F : Int, F = (fac m : Int) := ⟨_, rfl⟩
            obtain ⟨G, hG⟩ : ∃ G : Int, G = (fac (m - 1) : Int) := ⟨_, rfl⟩
            obtain ⟨D, hD⟩ : ∃ D : Int, D = (m : Int) := ⟨_, rfl⟩
            obtain ⟨R, hR⟩ : ∃ R : Int, R = ((r % fac m : Nat) : Int) := ⟨_, rfl⟩
            have hfm : fac m = m * fac (m - 1) := by obtain ⟨k, rfl⟩ : ∃ k, m = k + 1 := ⟨m - 1, by omega⟩; rfl
            have hfp := fac_pos (m - 1)
            have f8 := fac_8 (k := m) (by omega)
            have f9 := fac_8 (k := m - 1) (by omega)
            have hrl : r % fac m < fac m := Nat.mod_lt _ (fac_pos _)
            have m1 : Int.tdiv F D = G := by rw [hF, hD, hG, quo_nat, hfm, Nat.mul_div_cancel_left _ (by omega)]
            have m2 : Int.tdiv R G = ((dgR n r p : Nat) : Int) := by rw [hR, hG, quo_nat, hda]
            have hmm : r % fac m % fac (m - 1) = r % fac (m - 1) := Nat.mod_mod_of_dvd _ (by rw [hfm]; exact Nat.dvd_mul_left _ _)
            have m3 : Int.tmod R G = ((r % fac (m - 1) : Nat) : Int) := by rw [hR, hG, rem_nat, hmm]
            have EM2 := Lib.hid (show ((r % fac (n - (p + 1)) : Nat) : Int) = ((r % fac (m - 1) : Nat) : Int) by rw [EM4.out])
            have EM3 := Lib.hid (show (fac (n - (p + 1)) : Int) = G by rw [EM4.out, hG])
            have hD0 : ¬ D = 0 := by omega
            have hG0 : ¬ G = 0 := by omega
            have hGb : 0 < G ∧ G ≤ 40320 := by omega
            have hRb : 0 ≤ R ∧ R ≤ 40320 := by omega
            have hFb : 0 < F ∧ F ≤ 40320 := by omega
            have hmp : 0 < (m : Int) := by omega
            rw [← hD, ← hR, ← hF]
            have hDp : 0 < D := by omega
            have hDb : D ≤ 8 := by omega
            have EMD := Lib.hid (show ((n - (p + 1) : Nat) : Int) = D - 1 by omega)
            have HP1 := Lib.hid (show p + 1 ≤ n by omega)
            have HDm := Lib.hid hD
            obtain ⟨y, hy⟩ : ∃ y : Nat, y = r % fac (m - 1) := ⟨_, rfl⟩
            rw [← hy] at m3 EM2
            have hyb : y ≤ 40320 := by rw [hy]; have := Nat.mod_lt r hfp; omega
            have cl := HL.out.cell hll.symm (dgR n r p) hdl
            have HLL := Lib.hid hll
            have hlm := hdl
            have hfl : (fl p (orF n r)).length < 16777216 := by rw [fl_len]; omega
            have hle2 : d ≤ wr.heap.size := by have := HBW.out.size; have := HD.out; omega
            have HLT := Lib.hid (show ((lfR n r p).take (dgR n r p)).length = dgR n r p by rw [List.length_take, hll]; omega)
            have HLD := Lib.hid (show ((lfR n r p).drop (dgR n r p + 1)).length = m - (dgR n r p + 1) by rw [List.length_drop, hll])
            have HEN := Lib.hid (show dgR n r p + 1 = m → (lfR n r p).drop (dgR n r p + 1) = [] from fun e => List.drop_eq_nil_of_le (by rw [hll]; omega))
            have hmn : m ≤ 8 := by omega
            have HM := Lib.hid hm
            have hpn := Lib.hid hp
            clear hF hG hD hR hfm hfp f8 f9 hrl hmm hy hda hm1 hll hm hp hdl hlp
            generalize lfR n r p = L at *
            generalize dgR n r p = x at *
            have hxm : (x : Int) < m := by omega
            have w1' : IntKind.i64.wrap (x : Int) = (x : Int) := IntWalk.i64_in _ (by omega)
            have w2' : IntKind.i64.wrap G = G := IntWalk.i64_in _ (by omega)
            have w3' : IntKind.i64.wrap (y : Int) = (y : Int) := IntWalk.i64_in _ (by omega)
            generalize gt L x = xv at *
            go_upto_region 20 with (at_builtin; refine wpList_app wr rfl _ _ rfl d _ (fl p (orF n r)) rfl HO.out xv rfl hfl hle2 rfl ?_; intro v4 w4 hO4 hb4 hg4)
            have hcap := HL.out.capZ
            have O4 := HO
            have HL4 := Lib.hid (HL.out.kept hg4 (by
              rcases hq : (Value.slice (some ⟨gr, 0, none⟩) m cr).ownBlock with _ | k
              · exact .inl rfl
              · exact .inr (by rw [← hq]; exact HA.out)))
            have HO4 := Lib.hid hO4
            have HB4 := Lib.hid (HBW.out.trans hb4)
            have hs4 := hb4.size
            have hd4 : d ≤ w4.heap.size := by omega
            clear hO4 hb4 hg4 O4 HO HA HBW HL cl
            obtain ⟨q, hq⟩ : ∃ q, q = x + 1 := ⟨_, rfl⟩
            have HRT := Lib.hid (HL4.out.take HLL.out.symm hcap.1 hcap.2.1 x (by omega))
            have HR2 := Lib.hid (HL4.out.drop HLL.out.symm hcap.1 hcap.2.1 q (by omega))
            have HT := HLT
            rw [← hq] at HLD HEN
            have HDr := HLD
            have HQ := Lib.hid hq
            have hqi : (x : Int) + 1 = q := by omega
            have hwq2 : IntKind.i64.wrap (q : Int) = (q : Int) := IntWalk.i64_in _ (by omega)
            have hq0 : (0 : Int) ≤ q := by omega
            have hqn : (q : Int) ≤ m := by omega
            have hqn' : q ≤ m := by omega
            have hx0 : (0 : Int) ≤ x := by omega
            have hxc : (x : Int) ≤ cr := by omega
            have hxc' : x ≤ cr := by omega
            have HLD2 := Lib.hid (And.intro hlm hcap.1)
            have hmc := hcap.1
            clear hq hcap
            by_cases hc : q = cr
            · have hqm : q = m := by omega
              have HR20 := Lib.hid (show Rd w4 (.slice (some ⟨gr, 0, none⟩) 0 0) (L.drop q) by rw [HEN.out hqm]; exact .inl ⟨⟨_, _, rfl⟩, rfl⟩)
              subst hc
              subst hqm
              go_region_held3 (fun _ => True) (exact trivial) (first
                | (go_at_call 34; refine (l1OwnN _ (L.take x) x HT.out w4 _ (by (repeat (first | exact Below.refl _ _ | (refine Below.alloc ?_ (by first | omega | (simp; try omega)) _) | apply Below.drew | apply below_drewN))) HRT.out (by intro c e; cases e) (by omega)).mono ?_; rintro e w5 ⟨g5, c5, rfl, hI5, hb5, hle5⟩; have HB5 := Lib.hid hb5; clear hb5)
                | (refine step_catI rfl (.tmp 58) (.tmp 62) rfl w4.heap.size g5 x c5 (L.take x) ?_ hI5 HT.out.symm (.slice (some ⟨gr, 0, none⟩) 0 0) (L.drop q) ?_ (HR20.out.below HB5.out) (by intro c e; cases e) (by rw [HT.out, HDr.out]; omega) hle5 (q - 1) (by rw [HT.out, HDr.out]; omega) (lfR n r (p + 1)) (by rw [EL.out, HQ.out]; rfl) ?_; (· simp [Act.eval]); (· simp [Act.eval]); intro g6 c6 w6 hI6 hb6 hg6; have HI6 := Lib.hid hI6; have HB6 := Lib.hid (HB5.out.trans hb6); clear hI6 hb6 hg6 hI5)
                | fail)
              have hg6 := HI6.out.blk
              have hs6 := HB6.out.size
              have O6 := Lib.hid (HO4.out.below HB6.out)
              have A6 := Lib.hid (show some g6 ≠ v4.ownBlock from fun e => by have := HO4.out.lt_ g6 e.symm; omega)
              have P6 := Lib.hid (show Ints w6 d (.slice (some ⟨g6, 0, none⟩) (q - 1) c6) (lfR n r (p + 1)) from ints_mono' HI6.out (by omega))
              have B6 := Lib.hid (HB4.out.trans (HB6.out.mono (by omega)))
              clear HI6 HB6 HO4 HB4 hg6 HRT HR2 HB5
              go_wp2
              go_roundw
              case rel => exact ⟨p + 1, g6, c6, HP1.out, by rw [EMD.out], by rw [EM2.out], by rw [EM3.out], by rw [EM4.out], Lib.hid (by rw [EM4.out]; exact P6.out), Lib.hid (by rw [← T.out, ← EO.out]; exact O6.out), A6, B6⟩
              case measure => (simp [intOf]; try omega)
            · have hxc4 : ¬ (cr = q) := by omega
              have hxc5 : (q : Int) < cr := by omega
              have hxc6 : q < cr := by omega
              go_region_held3 (fun _ => True) (exact trivial) (first
                | (go_at_call 34; refine (l1OwnN _ (L.take x) x HT.out w4 _ (by (repeat (first | exact Below.refl _ _ | (refine Below.alloc ?_ (by first | omega | (simp; try omega)) _) | apply Below.drew | apply below_drewN))) HRT.out (by intro c e; cases e) (by omega)).mono ?_; rintro e w5 ⟨g5, c5, rfl, hI5, hb5, hle5⟩; have HB5 := Lib.hid hb5; clear hb5)
                | (refine step_catI rfl (.tmp 58) (.tmp 62) rfl w4.heap.size g5 x c5 (L.take x) ?_ hI5 HT.out.symm (.slice (some ⟨gr, q, none⟩) (m - q) (cr - q)) (L.drop q) ?_ (HR2.out.below HB5.out) (by intro c e; cases e) (by rw [HT.out, HDr.out]; omega) hle5 (m - 1) (by rw [HT.out, HDr.out]; omega) (lfR n r (p + 1)) (by rw [EL.out, HQ.out]; rfl) ?_; (· simp [Act.eval]); (· simp [Act.eval]); intro g6 c6 w6 hI6 hb6 hg6; have HI6 := Lib.hid hI6; have HB6 := Lib.hid (HB5.out.trans hb6); clear hI6 hb6 hg6 hI5)
                | fail)
              have hg6 := HI6.out.blk
              have hs6 := HB6.out.size
              have O6 := Lib.hid (HO4.out.below HB6.out)
              have A6 := Lib.hid (show some g6 ≠ v4.ownBlock from fun e => by have := HO4.out.lt_ g6 e.symm; omega)
              have P6 := Lib.hid (show Ints w6 d (.slice (some ⟨g6, 0, none⟩) (m - 1) c6) (lfR n r (p + 1)) from ints_mono' HI6.out (by omega))
              have B6 := Lib.hid (HB4.out.trans (HB6.out.mono (by omega)))
              clear HI6 HB6 HO4 HB4 hg6 HRT HR2 HB5
              go_wp2
              go_roundw
              case rel => exact ⟨p + 1, g6, c6, HP1.out, by rw [EMD.out], by rw [EM2.out], by rw [EM3.out], by rw [EM4.out], Lib.hid (by rw [EM4.out]; exact P6.out), Lib.hid (by rw [← T.out, ← EO.out]; exact O6.out), A6, B6⟩
              case measure => (simp [intOf]; try omega)
          · obtain rfl : p = n := by omega
            have hz : p - p = 0 := by omega
            have hs := HBW.out.size
            rw [hz]
            clear hz
            go_wp2
            go_ret2
            exact ⟨_, by rw [J.out] <;> rfl, by rw [J2.out, ← HD.out]; exact HO.out, by rw [← HD.out]; exact HBW.out⟩
      · have hrf' : (fac k : Int) ≤ (r : Int) := by omega
        have J := Lib.hid (show t = false from E.out.trans (by rw [HBB.out]; simp; omega))
        have J2 := Lib.hid (JN.out J.out)
        clear E JN JY
        go_wp2
        go_ret2
        exact ⟨_, by rw [J.out] <;> rfl, by rw [J2.out]; exact World.ownsRow_nil _ _ _ _, by rw [← HD.out]; exact HBW.out⟩
end Go.Proofs.Ythdmmliipmmfbab
