/- spec.fgPlays, spec.fgStuck, made by gen_bs.py. -/
import Derived.Test.YteoggpollgkfiaaDoorLr
import Derived.Test.YteoggpollgkfiaaDoorWin
import Derived.Test.YteoggpollgkfiaaDoorPre
namespace Go.Proofs.YteoggpollgkfiaaDoor
set_option linter.unusedVariables false
open Go.RowKit

set_option maxHeartbeats 4000000 in
set_option maxRecDepth 100000 in
theorem specPlays : ∀ (n : Nat) (s : ByteArray) (w : World), isPd s = true → room s ≤ n →
    Calls Tryd.prog 32 #[.string s] w fun e w' => ∃ v, e = .returned v ∧ Ints w' w.heap.size v (asI (bL moreI s)) ∧ Below w.heap.size w w'
  | 0, s, w, hp, hn => by have := room_s hp; omega
  | n + 1, s, w, hp, hn => by
    have ih := specPlays n
    have HW := Lib.hid (fun x (hx : x ∈ moves s) wx => ih (goes s x) wx (goesP hp hx).1 (by have := room_goes hp hx; omega))
    have HE := Lib.hid (bTo_end moreI hp)
    have HS := Lib.hid (fun k h => bTo_s moreI (q := s) (k := k) h)
    have HLN := Lib.hid (fun k h => bTo_len moreI hp k h)
    have HSM := Lib.hid (fun k h => bTo_some moreI (q := s) (k := k) h)
    have HLG := Lib.hid (fun x (hx : x ∈ moves s) => bL_len moreI (goesP hp hx).1)
    have HP := Lib.hid hp
    obtain ⟨z1, z2, hal⟩ := isPd_in hp
    have hml : (moves s).length ≤ s.size := mvTo_len s s.size
    clear ih hp hn hal
    go_enter Tryd.func32, Tryd.ntmps32
    go_wp2_with (go_at_call 39; refine (specMoves s _ HP.out).mono ?_; rintro e w1 ⟨v, rfl, hI, hb1⟩; obtain ⟨a, nn, cap, rfl, hnn, hc⟩ := hI.formA; have HNN := Lib.hid (hnn.trans (asI_len _)); have HC := Lib.hid hc; have HB1 := Lib.hid hb1; have hle := hb1.size; have hn9 : nn ≤ 9 := (by have h1 := hnn.trans (asI_len _); omega); clear hI hb1 hnn hc)
    go_loopw [3, 10] (fun best i wr => ∃ k : Nat, k ≤ nn ∧ i = .int .i64 k ∧ Hid (Ints wr w.heap.size best (asI ((bTo moreI s k).getD []))) ∧ Hid (Below w1.heap.size w1 wr)) (fun _ i _ => nn - (intOf i).toNat)
    case atStart => exact ⟨0, Nat.zero_le _, rfl, Lib.hid (World.ownsRow_nil _ _ _ _), Lib.hid (Below.refl _ _)⟩
    case round =>
      obtain ⟨k, hk, rfl, hI, hB⟩ := hrel
      have hleB := hB.out.size
      by_cases hlt : k < nn
      · have hkm : k < (moves s).length := by rw [← HNN.out]; exact hlt
        obtain ⟨g, rfl, hcell⟩ := HC.out _ hB.out k hlt
        rw [gt_asI hkm] at hcell
        have hxm : (moves s).getD k 0 ∈ moves s := by
          rw [List.getD_eq_getElem?_getD, List.getElem?_eq_getElem hkm]; exact List.getElem_mem _
        have HX := Lib.hid (fun wx => HW.out _ hxm wx)
        have hlg := HLG.out _ hxm
        obtain ⟨t, hto, hmv⟩ := movesT hxm
        have HTO := Lib.hid hto
        have HMV := Lib.hid hmv
        have HST := Lib.hid (HS.out k hkm)
        have hbl := HLN.out k (by omega)
        have HK0 := Lib.hid (show k = 0 ∨ bTo moreI s k ≠ none from by
          cases k with
          | zero => exact .inl rfl
          | succ k' => exact .inr (HSM.out k' (by omega)))
        have HKZ := Lib.hid (show k = 0 → bTo moreI s k = none from fun e => by subst e; rfl)
        clear hxm hto hmv
        have hki : (k : Int) < nn := by omega
        obtain ⟨ba, bm, bc, rfl, hbm, _⟩ := hI.out.rd.cells
        rw [asI_len] at hbm
        generalize (moves s).getD k 0 = x at *
        have HR : Hid (∀ o, bStep moreI (bL moreI) s o x = match o with | none => some (x :: bL moreI (goes s x)) | some b => if moreI (((bL moreI (goes s x)).length : Int) + 1) (b.length : Int) = true then some (x :: bL moreI (goes s x)) else some b) := Lib.hid (fun o => rfl)
        generalize bL moreI (goes s x) = rl at *
        have hbm2 : bm ≤ 200 := by omega
        have HBM := Lib.hid hbm
        clear hbm hbl
        have YES : Hid ((k = 0 ∨ moreI ((rl.length : Int) + 1) (bm : Int) = true) → asI ((bTo moreI s (k + 1)).getD []) = (x : Int) :: asI rl) := Lib.hid (by
          intro h
          rw [HST.out, HR.out]
          cases ho : bTo moreI s k with
          | none => rfl
          | some b =>
            have hb2 : bm = b.length := by rw [HBM.out, ho]; rfl
            rcases h with h | h
            · rw [HKZ.out h] at ho; cases ho
            · dsimp only
              rw [← hb2, if_pos h]; rfl)
        have NO : Hid (¬ k = 0 → ¬ moreI ((rl.length : Int) + 1) (bm : Int) = true → asI ((bTo moreI s (k + 1)).getD []) = asI ((bTo moreI s k).getD [])) := Lib.hid (by
          intro h0 h
          rw [HST.out, HR.out]
          cases ho : bTo moreI s k with
          | none => rcases HK0.out with h1 | h1
                    · exact absurd h1 h0
                    · exact absurd ho h1
          | some b =>
            have hb2 : bm = b.length := by rw [HBM.out, ho]; rfl
            dsimp only
            rw [← hb2, if_neg h])
        have HZ : Hid (k = 0 → bm = 0) := Lib.hid (fun e => by rw [HBM.out, HKZ.out e]; rfl)
        have hlen200 : rl.length ≤ 200 := by omega
        clear HST HR HK0 HKZ
        generalize asI ((bTo moreI s k).getD []) = old at *
        by_cases hc : (bm : Int) < (rl.length : Int) + 1
        · have R1 := Lib.hid (YES.out (.inr (by unfold moreI; simpa using hc)))
          clear YES NO HZ
          go_wp2_with (first
            | (go_at_call 43; refine (specMove s x t _ HP.out HTO.out).mono ?_; rintro e w2 ⟨rfl, hb2⟩; rw [HMV.out]; have HB2 := Lib.hid (hB.out.trans (hb2.mono hleB)); have hle2 := hb2.size; have I2 := Lib.hid (hI.out.below hb2); clear hb2)
            | (go_at_call 32; refine (HX.out _).mono ?_; rintro e w3 ⟨vr, rfl, hI3, hb3⟩; (obtain ⟨ra, rm, rc, rfl, hrm, _⟩ := hI3.rd.cells; rw [asI_len] at hrm; subst hrm); have HB3 := Lib.hid (HB2.out.trans (hb3.mono (Nat.le_trans hleB hle2))); have I3 := Lib.hid (ints_mono' hI3 (Nat.le_trans hle (Nat.le_trans hleB hle2))); have J3 := Lib.hid (I2.out.below hb3); have hle3 := hb3.size; clear hI3 hb3)
            | (at_builtin; refine wpList_preI w3 rfl _ _ rfl w.heap.size _ (asI rl) rfl I3.out (x : Int) rfl (by rw [asI_len]; omega) (Nat.le_trans hle (Nat.le_trans hleB (Nat.le_trans hle2 hle3))) rfl ?_; intro v' w4 hI4 hb4; have HI4 := Lib.hid hI4; have HB4 := Lib.hid (HB3.out.trans (hb4.mono (Nat.le_trans hleB (Nat.le_trans hle2 hle3)))); (obtain ⟨na, nm, nc, rfl, hnm, _⟩ := hI4.rd.cells); clear hI4 hb4 hnm))
          go_roundw
          case rel => exact ⟨k + 1, by omega, by go_num, Lib.hid (by rw [R1.out]; exact HI4.out), HB4⟩
          case measure => (simp [intOf]; try omega)
        · have R1 := Lib.hid (NO.out (fun e => by have := HZ.out e; omega) (by unfold moreI; simpa using hc))
          clear YES NO HZ
          go_wp2_with (first
            | (go_at_call 43; refine (specMove s x t _ HP.out HTO.out).mono ?_; rintro e w2 ⟨rfl, hb2⟩; rw [HMV.out]; have HB2 := Lib.hid (hB.out.trans (hb2.mono hleB)); have hle2 := hb2.size; have I2 := Lib.hid (hI.out.below hb2); clear hb2)
            | (go_at_call 32; refine (HX.out _).mono ?_; rintro e w3 ⟨vr, rfl, hI3, hb3⟩; (obtain ⟨ra, rm, rc, rfl, hrm, _⟩ := hI3.rd.cells; rw [asI_len] at hrm; subst hrm); have HB3 := Lib.hid (HB2.out.trans (hb3.mono (Nat.le_trans hleB hle2))); have I3 := Lib.hid (ints_mono' hI3 (Nat.le_trans hle (Nat.le_trans hleB hle2))); have J3 := Lib.hid (I2.out.below hb3); have hle3 := hb3.size; clear hI3 hb3))
          go_roundw
          case rel => exact ⟨k + 1, by omega, by go_num, Lib.hid (by rw [R1.out]; exact J3.out), HB3⟩
          case measure => (simp [intOf]; try omega)
      · obtain rfl : k = nn := by omega
        have E := HE.out
        rw [← HNN.out] at E
        rw [E] at hI
        have HI := Lib.hid hI.out
        have HBx := Lib.hid (HB1.out.trans (hB.out.mono hle))
        clear hI E
        go_wp2
        go_ret
        exact ⟨_, rfl, (by exact HI.out), HBx.out⟩

set_option maxHeartbeats 4000000 in
set_option maxRecDepth 100000 in
theorem specStuck : ∀ (n : Nat) (s : ByteArray) (w : World), isPd s = true → room s ≤ n →
    Calls Tryd.prog 37 #[.string s] w fun e w' => ∃ v, e = .returned v ∧ Ints w' w.heap.size v (asI (bL lessI s)) ∧ Below w.heap.size w w'
  | 0, s, w, hp, hn => by have := room_s hp; omega
  | n + 1, s, w, hp, hn => by
    have ih := specStuck n
    have HW := Lib.hid (fun x (hx : x ∈ moves s) wx => ih (goes s x) wx (goesP hp hx).1 (by have := room_goes hp hx; omega))
    have HE := Lib.hid (bTo_end lessI hp)
    have HS := Lib.hid (fun k h => bTo_s lessI (q := s) (k := k) h)
    have HLN := Lib.hid (fun k h => bTo_len lessI hp k h)
    have HSM := Lib.hid (fun k h => bTo_some lessI (q := s) (k := k) h)
    have HLG := Lib.hid (fun x (hx : x ∈ moves s) => bL_len lessI (goesP hp hx).1)
    have HP := Lib.hid hp
    obtain ⟨z1, z2, hal⟩ := isPd_in hp
    have hml : (moves s).length ≤ s.size := mvTo_len s s.size
    clear ih hp hn hal
    go_enter Tryd.func37, Tryd.ntmps37
    go_wp2_with (go_at_call 39; refine (specMoves s _ HP.out).mono ?_; rintro e w1 ⟨v, rfl, hI, hb1⟩; obtain ⟨a, nn, cap, rfl, hnn, hc⟩ := hI.formA; have HNN := Lib.hid (hnn.trans (asI_len _)); have HC := Lib.hid hc; have HB1 := Lib.hid hb1; have hle := hb1.size; have hn9 : nn ≤ 9 := (by have h1 := hnn.trans (asI_len _); omega); clear hI hb1 hnn hc)
    go_loopw [4, 12] (fun best i wr => ∃ k : Nat, k ≤ nn ∧ i = .int .i64 k ∧ Hid (Ints wr w.heap.size best (asI ((bTo lessI s k).getD []))) ∧ Hid (Below w1.heap.size w1 wr)) (fun _ i _ => nn - (intOf i).toNat)
    case atStart => exact ⟨0, Nat.zero_le _, rfl, Lib.hid (World.ownsRow_nil _ _ _ _), Lib.hid (Below.refl _ _)⟩
    case round =>
      obtain ⟨k, hk, rfl, hI, hB⟩ := hrel
      have hleB := hB.out.size
      by_cases hlt : k < nn
      · have hkm : k < (moves s).length := by rw [← HNN.out]; exact hlt
        obtain ⟨g, rfl, hcell⟩ := HC.out _ hB.out k hlt
        rw [gt_asI hkm] at hcell
        have hxm : (moves s).getD k 0 ∈ moves s := by
          rw [List.getD_eq_getElem?_getD, List.getElem?_eq_getElem hkm]; exact List.getElem_mem _
        have HX := Lib.hid (fun wx => HW.out _ hxm wx)
        have hlg := HLG.out _ hxm
        obtain ⟨t, hto, hmv⟩ := movesT hxm
        have HTO := Lib.hid hto
        have HMV := Lib.hid hmv
        have HST := Lib.hid (HS.out k hkm)
        have hbl := HLN.out k (by omega)
        have HK0 := Lib.hid (show k = 0 ∨ bTo lessI s k ≠ none from by
          cases k with
          | zero => exact .inl rfl
          | succ k' => exact .inr (HSM.out k' (by omega)))
        have HKZ := Lib.hid (show k = 0 → bTo lessI s k = none from fun e => by subst e; rfl)
        clear hxm hto hmv
        have hki : (k : Int) < nn := by omega
        obtain ⟨ba, bm, bc, rfl, hbm, _⟩ := hI.out.rd.cells
        rw [asI_len] at hbm
        generalize (moves s).getD k 0 = x at *
        have HR : Hid (∀ o, bStep lessI (bL lessI) s o x = match o with | none => some (x :: bL lessI (goes s x)) | some b => if lessI (((bL lessI (goes s x)).length : Int) + 1) (b.length : Int) = true then some (x :: bL lessI (goes s x)) else some b) := Lib.hid (fun o => rfl)
        generalize bL lessI (goes s x) = rl at *
        have hbm2 : bm ≤ 200 := by omega
        have HBM := Lib.hid hbm
        clear hbm hbl
        have YES : Hid ((k = 0 ∨ lessI ((rl.length : Int) + 1) (bm : Int) = true) → asI ((bTo lessI s (k + 1)).getD []) = (x : Int) :: asI rl) := Lib.hid (by
          intro h
          rw [HST.out, HR.out]
          cases ho : bTo lessI s k with
          | none => rfl
          | some b =>
            have hb2 : bm = b.length := by rw [HBM.out, ho]; rfl
            rcases h with h | h
            · rw [HKZ.out h] at ho; cases ho
            · dsimp only
              rw [← hb2, if_pos h]; rfl)
        have NO : Hid (¬ k = 0 → ¬ lessI ((rl.length : Int) + 1) (bm : Int) = true → asI ((bTo lessI s (k + 1)).getD []) = asI ((bTo lessI s k).getD [])) := Lib.hid (by
          intro h0 h
          rw [HST.out, HR.out]
          cases ho : bTo lessI s k with
          | none => rcases HK0.out with h1 | h1
                    · exact absurd h1 h0
                    · exact absurd ho h1
          | some b =>
            have hb2 : bm = b.length := by rw [HBM.out, ho]; rfl
            dsimp only
            rw [← hb2, if_neg h])
        have HZ : Hid (k = 0 → bm = 0) := Lib.hid (fun e => by rw [HBM.out, HKZ.out e]; rfl)
        have hlen200 : rl.length ≤ 200 := by omega
        clear HST HR HK0 HKZ
        generalize asI ((bTo lessI s k).getD []) = old at *
        by_cases h0 : k = 0
        · have R1 := Lib.hid (YES.out (.inl h0))
          have h0b : ((k : Int) == 0) = true := by simp [h0]
          clear YES NO HZ h0
          go_wp2_with (first
            | (go_at_call 43; refine (specMove s x t _ HP.out HTO.out).mono ?_; rintro e w2 ⟨rfl, hb2⟩; rw [HMV.out]; have HB2 := Lib.hid (hB.out.trans (hb2.mono hleB)); have hle2 := hb2.size; have I2 := Lib.hid (hI.out.below hb2); clear hb2)
            | (go_at_call 37; refine (HX.out _).mono ?_; rintro e w3 ⟨vr, rfl, hI3, hb3⟩; (obtain ⟨ra, rm, rc, rfl, hrm, _⟩ := hI3.rd.cells; rw [asI_len] at hrm; subst hrm); have HB3 := Lib.hid (HB2.out.trans (hb3.mono (Nat.le_trans hleB hle2))); have I3 := Lib.hid (ints_mono' hI3 (Nat.le_trans hle (Nat.le_trans hleB hle2))); have J3 := Lib.hid (I2.out.below hb3); have hle3 := hb3.size; clear hI3 hb3)
            | (at_builtin; refine wpList_preI w3 rfl _ _ rfl w.heap.size _ (asI rl) rfl I3.out (x : Int) rfl (by rw [asI_len]; omega) (Nat.le_trans hle (Nat.le_trans hleB (Nat.le_trans hle2 hle3))) rfl ?_; intro v' w4 hI4 hb4; have HI4 := Lib.hid hI4; have HB4 := Lib.hid (HB3.out.trans (hb4.mono (Nat.le_trans hleB (Nat.le_trans hle2 hle3)))); (obtain ⟨na, nm, nc, rfl, hnm, _⟩ := hI4.rd.cells); clear hI4 hb4 hnm))
          go_roundw
          case rel => exact ⟨k + 1, by omega, by go_num, Lib.hid (by rw [R1.out]; exact HI4.out), HB4⟩
          case measure => (simp [intOf]; try omega)
        by_cases hc : (rl.length : Int) + 1 < (bm : Int)
        · have R1 := Lib.hid (YES.out (.inr (by unfold lessI; simpa using hc)))
          have h0b : ((k : Int) == 0) = false := by simpa using h0
          clear YES NO HZ h0
          go_wp2_with (first
            | (go_at_call 43; refine (specMove s x t _ HP.out HTO.out).mono ?_; rintro e w2 ⟨rfl, hb2⟩; rw [HMV.out]; have HB2 := Lib.hid (hB.out.trans (hb2.mono hleB)); have hle2 := hb2.size; have I2 := Lib.hid (hI.out.below hb2); clear hb2)
            | (go_at_call 37; refine (HX.out _).mono ?_; rintro e w3 ⟨vr, rfl, hI3, hb3⟩; (obtain ⟨ra, rm, rc, rfl, hrm, _⟩ := hI3.rd.cells; rw [asI_len] at hrm; subst hrm); have HB3 := Lib.hid (HB2.out.trans (hb3.mono (Nat.le_trans hleB hle2))); have I3 := Lib.hid (ints_mono' hI3 (Nat.le_trans hle (Nat.le_trans hleB hle2))); have J3 := Lib.hid (I2.out.below hb3); have hle3 := hb3.size; clear hI3 hb3)
            | (at_builtin; refine wpList_preI w3 rfl _ _ rfl w.heap.size _ (asI rl) rfl I3.out (x : Int) rfl (by rw [asI_len]; omega) (Nat.le_trans hle (Nat.le_trans hleB (Nat.le_trans hle2 hle3))) rfl ?_; intro v' w4 hI4 hb4; have HI4 := Lib.hid hI4; have HB4 := Lib.hid (HB3.out.trans (hb4.mono (Nat.le_trans hleB (Nat.le_trans hle2 hle3)))); (obtain ⟨na, nm, nc, rfl, hnm, _⟩ := hI4.rd.cells); clear hI4 hb4 hnm))
          go_roundw
          case rel => exact ⟨k + 1, by omega, by go_num, Lib.hid (by rw [R1.out]; exact HI4.out), HB4⟩
          case measure => (simp [intOf]; try omega)
        · have R1 := Lib.hid (NO.out h0 (by unfold lessI; simpa using hc))
          have h0b : ((k : Int) == 0) = false := by simpa using h0
          clear YES NO HZ h0
          go_wp2_with (first
            | (go_at_call 43; refine (specMove s x t _ HP.out HTO.out).mono ?_; rintro e w2 ⟨rfl, hb2⟩; rw [HMV.out]; have HB2 := Lib.hid (hB.out.trans (hb2.mono hleB)); have hle2 := hb2.size; have I2 := Lib.hid (hI.out.below hb2); clear hb2)
            | (go_at_call 37; refine (HX.out _).mono ?_; rintro e w3 ⟨vr, rfl, hI3, hb3⟩; (obtain ⟨ra, rm, rc, rfl, hrm, _⟩ := hI3.rd.cells; rw [asI_len] at hrm; subst hrm); have HB3 := Lib.hid (HB2.out.trans (hb3.mono (Nat.le_trans hleB hle2))); have I3 := Lib.hid (ints_mono' hI3 (Nat.le_trans hle (Nat.le_trans hleB hle2))); have J3 := Lib.hid (I2.out.below hb3); have hle3 := hb3.size; clear hI3 hb3))
          go_roundw
          case rel => exact ⟨k + 1, by omega, by go_num, Lib.hid (by rw [R1.out]; exact J3.out), HB3⟩
          case measure => (simp [intOf]; try omega)
      · obtain rfl : k = nn := by omega
        have E := HE.out
        rw [← HNN.out] at E
        rw [E] at hI
        have HI := Lib.hid hI.out
        have HBx := Lib.hid (HB1.out.trans (hB.out.mono hle))
        clear hI E
        go_wp2
        go_ret
        exact ⟨_, rfl, (by exact HI.out), HBx.out⟩
end Go.Proofs.YteoggpollgkfiaaDoor
