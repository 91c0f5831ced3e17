/- spec.StuckPonds. -/
import Derived.Test.YteoggpollgkfiaaDoorSk
namespace Go.Proofs.YteoggpollgkfiaaDoor
set_option linter.unusedVariables false
open Go.RowKit

theorem ltB_walk {x y : ByteArray} {b : Bool} (h : ltB x y = b) : Op.bytesLess x.toList y.toList = b := h
theorem specReachS (s : ByteArray) (w : World) (L : List ByteArray) (hp : isPd s = true) (hL : reach s = L) :
    Calls Tryd.prog 25 #[.string s] w fun e w' => ∃ v6 v7 v8 v9, e = .returned (.tuple #[v6, v7, v8, v9]) ∧ Strg w' w.heap.size v6 L ∧ Below w.heap.size w w' := by
  subst hL
  exact (specReach s w hp).mono fun e w' ⟨v6, v7, v8, v9, he, h1, _, _, _, h5⟩ => ⟨v6, v7, v8, v9, he, h1, h5⟩
set_option maxRecDepth 20000 in
set_option maxHeartbeats 8000000 in
theorem specStk (s : ByteArray) (w : World) (hs : s.size ≤ 1048576) :
    Calls Tryd.prog 19 #[.string s] w fun e w' => ∃ v, e = .returned (.tuple #[v, .bool (isPd s)]) ∧ Strg w' w.heap.size v (skL s) ∧ Below w.heap.size w w' := by
  have hm : s.size ≤ maxLen := by unfold maxLen; omega
  cases h1 : isPd s
  · have J := Lib.hid (skL_no h1)
    have G := Lib.hid h1
    clear h1
    go_enter Tryd.func19, Tryd.ntmps19
    go_wp2_with (go_at_call 31; refine (specFgGood _ _ hm).mono ?_; rintro e w' ⟨rfl, rfl⟩; rw [G.out])
    go_ret2
    exact ⟨_, rfl, by rw [J.out]; exact World.ownsRow_nil _ _ _ _, Below.refl _ _⟩
  · have G := Lib.hid h1
    obtain ⟨L, hLr⟩ : ∃ L, reach s = L := ⟨_, rfl⟩
    have J := Lib.hid (skL_yes h1 hLr)
    have hp := reach_pos s
    have hl := reach_len h1
    have PD := Lib.hid (reach_pd h1)
    have HP := Lib.hid (fun wx => specReachS s wx L G.out hLr)
    rw [hLr] at hp hl PD
    clear h1 hLr
    go_enter Tryd.func19, Tryd.ntmps19
    go_wp2_with (first
      | (go_at_call 31; refine (specFgGood _ _ hm).mono ?_; rintro e w' ⟨rfl, rfl⟩; rw [G.out])
      | (go_at_call 25; refine (HP.out _).mono ?_; rintro e w1 ⟨v6, v7, v8, v9, rfl, hS, hb⟩; obtain ⟨g, n, cap, rfl, hn, hnc, hcm, hB0, hg, hc⟩ := hS.form hp; have HN := Lib.hid hn; have HC := Lib.hid hc; have HB1 := Lib.hid hb; clear hS hn hnc hcm hc hb))
    have hn2 : n ≤ 262144 := by have := HN.out; omega
    clear hp hl
    go_loopw [8, 25] (fun o i wr => ∃ j : Nat, j ≤ n ∧ i = .int .i64 j ∧ Hid (Strg wr w1.heap.size o (srt (stkTo L j))) ∧ Hid ((srt (stkTo L j)).length = 0 → o = .slice none 0 0) ∧ Hid (Below w1.heap.size w1 wr)) (fun _ i _ => n - (intOf i).toNat)
    case atStart => exact ⟨0, Nat.zero_le _, rfl, Lib.hid (World.ownsRow_nil _ _ _ _), Lib.hid (fun _ => rfl), Lib.hid (Below.refl _ _)⟩
    case round =>
      obtain ⟨j, hj, rfl, hS, hZ, hB⟩ := hrel
      have hle := hB.out.size
      by_cases hlt : j < n
      · have hlt' : (j : Int) < n := by omega
        have hjL : j < L.length := by have := HN.out; omega
        have c := (hB.out.cell (p := ⟨g, j, none⟩) hg).trans (HC.out j hlt)
        have hq : isPd (gs L j) = true := PD.out _ (by have e : gs L j = L[j] := by simp [gs, hjL]
                                                       rw [e]; exact List.getElem_mem _)
        have M := Lib.hid (fun W => specMoves (gs L j) W hq)
        have ML := Lib.hid (show (asI (moves (gs L j))).length = (moves (gs L j)).length by simp [asI])
        have hlen : (srt (stkTo L j)).length ≤ 262144 := by rw [srt_len]; have := stkTo_len L j; have := HN.out; omega
        have HLE := Lib.hid hle
        by_cases hmv : (moves (gs L j)).length = 0
        · have T := Lib.hid (show srt (stkTo L (j + 1)) = ins (srt (stkTo L j)) (gs L j) by rw [stkTo_yes hjL (stk_yes hmv), srt_snoc])
          rw [hmv] at ML
          clear hq hjL hmv
          generalize gs L j = q at *
          generalize asI (moves q) = mv at *
          generalize srt (stkTo L j) = R at *
          by_cases hR0 : R.length = 0
          · have hz := hZ.out hR0
            subst hz
            obtain rfl := List.length_eq_zero_iff.1 hR0
            have T2 := Lib.hid (show ins [] q = (([] : List ByteArray) ++ [q]) ++ [] from rfl)
            clear hR0 hZ hlen
            go_wp2_with (go_at_call 39; refine (M.out _).mono ?_; rintro e w2 ⟨vm, rfl, hI, hb2⟩; obtain ⟨a3, n3, c3, rfl, hn3, _⟩ := hI.rd.cells; rw [ML.out] at hn3; subst hn3; have B2 := Lib.hid (hB.out.trans (hb2.mono HLE.out)); have S2 := Lib.hid (hS.out.below hb2); clear hb2 hI)
            go_loop [11] (fun k => k = .int .i64 0) (fun _ => 0)
            case atStart => rfl
            case round =>
              obtain rfl := hrel
              have SE := Lib.hid (Strg.empty w2 w2.heap.size (Nat.le_refl _))
              have BA := Lib.hid ((Below.refl w2.heap.size w2).alloc (Nat.le_refl _) (.cells #[] 9))
              have BW := B2.out.size
              go_wp2_with (first
                | (at_builtin; refine wpList_catS (w2.alloc (.cells #[] 9)) rfl _ _ rfl w2.heap.size _ [] rfl SE.out _ [] rfl (.inl ⟨⟨_, _, rfl⟩, rfl⟩) (fun _ e => by cases e; rfl) (by simp) (by simp) ?_; intro v3 w3 hS3 hb3 hg3; have S3 := Lib.hid hS3; have B3 := Lib.hid (BA.out.trans hb3); clear hS3 hb3 hg3)
                | (at_builtin; refine wpList_appS w3 rfl _ _ rfl w2.heap.size _ ([] ++ []) rfl S3.out q w3.heap.size rfl rfl (by simp) B3.out.size rfl ?_; intro v4 w4 hS4 hb4 hg4; have S4 := Lib.hid hS4; have B4 := Lib.hid (B3.out.trans hb4); clear hS4 hb4 hg4)
                | (at_builtin; refine wpList_catS w4 rfl _ _ rfl w2.heap.size _ ([] ++ [] ++ [q]) rfl S4.out _ [] rfl (.inl ⟨⟨_, _, rfl⟩, rfl⟩) (fun _ e => by cases e; rfl) (by simp) B4.out.size ?_; intro v5 w5 hS5 hb5 hg5; have S5 := Lib.hid hS5; have B5 := Lib.hid (B4.out.trans hb5); clear hS5 hb5 hg5))
              go_roundw
              case rel => exact ⟨j + 1, by omega, by go_num, by rw [T.out, T2.out]; exact Lib.hid (strg_mono S5.out BW), by rw [T.out, T2.out]; exact Lib.hid (fun h => by simp at h), Lib.hid (B2.out.trans (B5.out.mono BW))⟩
              case measure => (simp [intOf]; try omega)
          · obtain ⟨g5, m5, cap5, rfl, hm5, hmc5, hcm5, hBg5, hg5, hc5⟩ := hS.out.form (by omega)
            have HM := Lib.hid hm5
            have hm262 : m5 ≤ 262144 := by omega
            have hm0 : 0 < m5 := by omega
            unfold maxLen at hcm5
            have HC5 := Lib.hid hc5
            have HG5 := Lib.hid hg5
            clear hR0 hZ hlen hm5 hc5 hg5 hBg5
            go_wp2_with (go_at_call 39; refine (M.out _).mono ?_; rintro e w2 ⟨vm, rfl, hI, hb2⟩; obtain ⟨a3, n3, c3, rfl, hn3, _⟩ := hI.rd.cells; rw [ML.out] at hn3; subst hn3; have B2 := Lib.hid (hB.out.trans (hb2.mono HLE.out)); have HC6 := Lib.hid (fun i hi => (hb2.cell (p := ⟨g5, i, none⟩) HG5.out).trans (HC5.out i hi)); have S2 := Lib.hid (hS.out.below hb2); clear hb2 hI)
            go_loop [11] (fun k => ∃ k' : Nat, k' ≤ m5 ∧ k = .int .i64 k' ∧ Hid (∀ i, i < k' → ltB (gs R i) q = true)) (fun k => m5 - (intOf k).toNat)
            case atStart => exact ⟨0, Nat.zero_le _, rfl, Lib.hid (fun i hi => absurd hi (Nat.not_lt_zero _))⟩
            case round =>
              obtain ⟨k, hk, rfl, HK⟩ := hrel
              by_cases hkm : k < m5
              · have hkmi : (k : Int) < m5 := by omega
                have c5 := HC6.out k hkm
                cases hlb : ltB (gs R k) q
                · have HE := Lib.hid (show k < R.length → ltB (gs R k) q = false from fun _ => hlb)
                  have hw := ltB_walk hlb
                  clear hlb
                  generalize hgk : gs R k = x at *
                  rw [← hgk] at HE
                  clear hgk
                  have T2 := Lib.hid (show ins R q = (R.take k ++ [q]) ++ R.drop k by rw [← ins_at q R k (by have := HM.out; omega) HK.out HE.out]; simp)
                  have R1 := Lib.hid (RdS.part S2.out HM.out (by have := HM.out; omega) 0 k cap5 (by omega) (by omega) (by unfold maxLen; omega))
                  have R2 := Lib.hid (RdS.part S2.out HM.out (by have := HM.out; omega) k (m5 - k) (cap5 - k) (by omega) (by omega) (by unfold maxLen; omega))
                  rw [show (R.drop k).take (m5 - k) = R.drop k from List.take_of_length_le (by simp; have := HM.out; omega)] at R2
                  rw [List.drop_zero] at R1
                  have l1 : (R.take k).length ≤ 262144 := by rw [List.length_take]; have := HM.out; omega
                  have l2 : (R.drop k).length ≤ 262144 := by rw [List.length_drop]; have := HM.out; omega
                  have BW := B2.out.size
                  have hbA := (Below.refl w2.heap.size w2).alloc (Nat.le_refl _) (.cells #[] 9)
                  have RA := Lib.hid (R1.out.below hbA)
                  have BA := Lib.hid hbA
                  have SE := Lib.hid (Strg.empty w2 w2.heap.size (Nat.le_refl _))
                  clear hbA R1
                  generalize R.take k = L1 at *
                  generalize R.drop k = L2 at *
                  go_wp2_with (first
                    | (at_builtin; refine wpList_catS (w2.alloc (.cells #[] 9)) rfl _ _ rfl w2.heap.size _ [] rfl SE.out _ L1 rfl RA.out (fun _ e => by cases e) (by simp; omega) (by simp) ?_; intro v3 w3 hS3 hb3 hg3; have S3 := Lib.hid hS3; have B3 := Lib.hid (BA.out.trans hb3); clear hS3 hb3 hg3)
                    | (at_builtin; refine wpList_appS w3 rfl _ _ rfl w2.heap.size _ ([] ++ L1) rfl S3.out q w3.heap.size rfl rfl (by simp; omega) B3.out.size rfl ?_; intro v4 w4 hS4 hb4 hg4; have S4 := Lib.hid hS4; have B4 := Lib.hid (B3.out.trans hb4); clear hS4 hb4 hg4)
                    | (at_builtin; refine wpList_catS w4 rfl _ _ rfl w2.heap.size _ ([] ++ L1 ++ [q]) rfl S4.out _ L2 rfl (R2.out.below B4.out) (fun _ e => by cases e) (by simp; omega) B4.out.size ?_; intro v5 w5 hS5 hb5 hg5; have S5 := Lib.hid hS5; have B5 := Lib.hid (B4.out.trans hb5); clear hS5 hb5 hg5))
                  go_roundw
                  case rel => exact ⟨j + 1, by omega, by go_num, by rw [T.out, T2.out]; exact Lib.hid (strg_mono S5.out BW), by rw [T.out, T2.out]; exact Lib.hid (fun h => by simp at h), Lib.hid (B2.out.trans (B5.out.mono BW))⟩
                  case measure => (simp [intOf]; try omega)
                · have HK2 := Lib.hid (show ∀ i, i < k + 1 → ltB (gs R i) q = true from fun i hi => by
                    by_cases e : i = k
                    · subst e; exact hlb
                    · exact HK.out i (by omega))
                  have hw := ltB_walk hlb
                  clear hlb
                  generalize gs R k = x at *
                  go_wp2
                  go_round
                  case rel => exact ⟨k + 1, by omega, by go_num, HK2⟩
                  case measure => (simp [intOf]; try omega)
              · have hkm5 : k = m5 := by omega
                subst hkm5
                clear hk hkm
                have HE := Lib.hid (show k < R.length → ltB (gs R k) q = false from fun h => by have := HM.out; omega)
                by_cases hce : k = cap5
                · subst hce
                  have T2 := Lib.hid (show ins R q = (R.take k ++ [q]) ++ R.drop k by rw [← ins_at q R k (by have := HM.out; omega) HK.out HE.out]; simp)
                  have R1 := Lib.hid (RdS.part S2.out HM.out (by have := HM.out; omega) 0 k k (by omega) (by omega) (by unfold maxLen; omega))
                  rw [List.drop_zero] at R1
                  have l1 : (R.take k).length ≤ 262144 := by rw [List.length_take]; have := HM.out; omega
                  have l2 : (R.drop k).length ≤ 262144 := by rw [List.length_drop]; have := HM.out; omega
                  have BW := B2.out.size
                  have hbA := (Below.refl w2.heap.size w2).alloc (Nat.le_refl _) (.cells #[] 9)
                  have RA := Lib.hid (R1.out.below hbA)
                  have BA := Lib.hid hbA
                  have SE := Lib.hid (Strg.empty w2 w2.heap.size (Nat.le_refl _))
                  clear hbA R1
                  have HL2 := Lib.hid (show R.drop k = [] from List.drop_eq_nil_of_le (by have := HM.out; omega))
                  generalize R.take k = L1 at *
                  generalize R.drop k = L2 at *
                  go_wp2_with (first
                    | (at_builtin; refine wpList_catS (w2.alloc (.cells #[] 9)) rfl _ _ rfl w2.heap.size _ [] rfl SE.out _ L1 rfl RA.out (fun _ e => by cases e) (by simp; omega) (by simp) ?_; intro v3 w3 hS3 hb3 hg3; have S3 := Lib.hid hS3; have B3 := Lib.hid (BA.out.trans hb3); clear hS3 hb3 hg3)
                    | (at_builtin; refine wpList_appS w3 rfl _ _ rfl w2.heap.size _ ([] ++ L1) rfl S3.out q w3.heap.size rfl rfl (by simp; omega) B3.out.size rfl ?_; intro v4 w4 hS4 hb4 hg4; have S4 := Lib.hid hS4; have B4 := Lib.hid (B3.out.trans hb4); clear hS4 hb4 hg4)
                    | (at_builtin; refine wpList_catS w4 rfl _ _ rfl w2.heap.size _ ([] ++ L1 ++ [q]) rfl S4.out _ L2 rfl (.inl ⟨⟨_, _, rfl⟩, HL2.out⟩) (fun _ e => by cases e) (by simp; omega) B4.out.size ?_; intro v5 w5 hS5 hb5 hg5; have S5 := Lib.hid hS5; have B5 := Lib.hid (B4.out.trans hb5); clear hS5 hb5 hg5))
                  go_roundw
                  case rel => exact ⟨j + 1, by omega, by go_num, by rw [T.out, T2.out]; exact Lib.hid (strg_mono S5.out BW), by rw [T.out, T2.out]; exact Lib.hid (fun h => by simp at h), Lib.hid (B2.out.trans (B5.out.mono BW))⟩
                  case measure => (simp [intOf]; try omega)
                · have hce2 : ¬ cap5 = k := fun e => hce e.symm
                  have T2 := Lib.hid (show ins R q = (R.take k ++ [q]) ++ R.drop k by rw [← ins_at q R k (by have := HM.out; omega) HK.out HE.out]; simp)
                  have R1 := Lib.hid (RdS.part S2.out HM.out (by have := HM.out; omega) 0 k cap5 (by omega) (by omega) (by unfold maxLen; omega))
                  rw [List.drop_zero] at R1
                  have l1 : (R.take k).length ≤ 262144 := by rw [List.length_take]; have := HM.out; omega
                  have l2 : (R.drop k).length ≤ 262144 := by rw [List.length_drop]; have := HM.out; omega
                  have BW := B2.out.size
                  have hbA := (Below.refl w2.heap.size w2).alloc (Nat.le_refl _) (.cells #[] 9)
                  have RA := Lib.hid (R1.out.below hbA)
                  have BA := Lib.hid hbA
                  have SE := Lib.hid (Strg.empty w2 w2.heap.size (Nat.le_refl _))
                  clear hbA R1
                  have HL2 := Lib.hid (show R.drop k = [] from List.drop_eq_nil_of_le (by have := HM.out; omega))
                  generalize R.take k = L1 at *
                  generalize R.drop k = L2 at *
                  go_wp2_with (first
                    | (at_builtin; refine wpList_catS (w2.alloc (.cells #[] 9)) rfl _ _ rfl w2.heap.size _ [] rfl SE.out _ L1 rfl RA.out (fun _ e => by cases e) (by simp; omega) (by simp) ?_; intro v3 w3 hS3 hb3 hg3; have S3 := Lib.hid hS3; have B3 := Lib.hid (BA.out.trans hb3); clear hS3 hb3 hg3)
                    | (at_builtin; refine wpList_appS w3 rfl _ _ rfl w2.heap.size _ ([] ++ L1) rfl S3.out q w3.heap.size rfl rfl (by simp; omega) B3.out.size rfl ?_; intro v4 w4 hS4 hb4 hg4; have S4 := Lib.hid hS4; have B4 := Lib.hid (B3.out.trans hb4); clear hS4 hb4 hg4)
                    | (at_builtin; refine wpList_catS w4 rfl _ _ rfl w2.heap.size _ ([] ++ L1 ++ [q]) rfl S4.out _ L2 rfl (.inl ⟨⟨_, _, rfl⟩, HL2.out⟩) (fun _ e => by cases e) (by simp; omega) B4.out.size ?_; intro v5 w5 hS5 hb5 hg5; have S5 := Lib.hid hS5; have B5 := Lib.hid (B4.out.trans hb5); clear hS5 hb5 hg5))
                  go_roundw
                  case rel => exact ⟨j + 1, by omega, by go_num, by rw [T.out, T2.out]; exact Lib.hid (strg_mono S5.out BW), by rw [T.out, T2.out]; exact Lib.hid (fun h => by simp at h), Lib.hid (B2.out.trans (B5.out.mono BW))⟩
                  case measure => (simp [intOf]; try omega)
        · have T := Lib.hid (show srt (stkTo L (j + 1)) = srt (stkTo L j) by rw [stkTo_no hjL (stk_no hmv)])
          have hmv2 : (0 : Int) < ((moves (gs L j)).length : Int) := by omega
          clear hq hjL hmv
          generalize hmm : (moves (gs L j)).length = mm at *
          clear hmm
          generalize gs L j = q at *
          generalize asI (moves q) = mv at *
          generalize srt (stkTo L j) = R at *
          go_wp2_with (go_at_call 39; refine (M.out _).mono ?_; rintro e w2 ⟨vm, rfl, hI, hb2⟩; obtain ⟨a3, n3, c3, rfl, hn3, _⟩ := hI.rd.cells; rw [ML.out] at hn3; subst hn3; have B2 := Lib.hid (hB.out.trans (hb2.mono HLE.out)); have S2 := Lib.hid (hS.out.below hb2); clear hb2 hI)
          go_roundw
          case rel => exact ⟨j + 1, by omega, by go_num, by rw [T.out]; exact S2, by rw [T.out]; exact hZ, B2⟩
          case measure => (simp [intOf]; try omega)
      · obtain rfl : j = n := by omega
        have JJ := Lib.hid (show skL s = srt (stkTo L j) by rw [J.out, HN.out])
        go_wp2
        go_ret2
        exact ⟨_, rfl, by rw [JJ.out]; exact strg_mono hS.out HB1.out.size, HB1.out.trans (hB.out.mono HB1.out.size)⟩
end Go.Proofs.YteoggpollgkfiaaDoor
