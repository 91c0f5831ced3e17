/- LongestRising and FewestInserts, impl and spec. -/
import Derived.Test.YthdmmliipmmfbabRi2
import Derived.Test.YthdmmliipmmfbabRi3
namespace Go.Proofs.Ythdmmliipmmfbab
set_option linter.unusedVariables false
open Go.RowKit

def lrL (zs : List Int) : List Int := if isOrd zs then idx (RS zs 0 0) else []
theorem lrL_no {zs : List Int} (h : isOrd zs = false) : lrL zs = [] := by simp [lrL, h]
theorem lrL_yes {zs : List Int} (h : isOrd zs = true) : lrL zs = idx (RS zs 0 0) := by simp [lrL, h]
theorem lrL_len (zs : List Int) : (lrL zs).length ≤ 9 := by
  cases h : isOrd zs
  · rw [lrL_no h]; simp
  · rw [lrL_yes h, idx_len]; exact RS_le (isOrd_len h).2 0 0
theorem specLr (v : Value) (zs : List Int) (w : World) (h : Rd w v zs) (hn : zs.length ≤ 1048576) :
    Calls Try.prog 24 #[v] w (IntsQ w.heap.size (lrL zs) (isOrd zs) w) := by
  have HA := Lib.hid (ptGood v zs w h hn)
  cases hp : isOrd zs
  · have J := Lib.hid (lrL_no hp)
    rw [hp] at HA
    clear h hp
    go_enter Try.func24, Try.ntmps24
    go_wp2_with (go_at_call 28; refine HA.out.mono ?_; rintro e w' ⟨rfl, rfl⟩)
    go_ret2
    exact ⟨_, rfl, by rw [J.out]; exact World.ownsRow_nil _ _ _ _, Below.refl _ _⟩
  · have J := Lib.hid (lrL_yes hp)
    have hl := isOrd_len hp
    have C := Lib.hid (ptRising hp _ 0 0 [] v (.slice none 0 0) w (Nat.le_refl _) h (.inl ⟨⟨_, _, rfl⟩, rfl⟩) (by intro c e; cases e; rfl) (.inl ⟨rfl, rfl, rfl⟩) (by simp; omega) (by omega))
    rw [hp] at HA
    clear h hp
    go_enter Try.func24, Try.ntmps24
    go_wp2_with (first
      | (go_at_call 28; refine HA.out.mono ?_; rintro e w' ⟨rfl, rfl⟩)
      | (go_at_call 40; refine C.out.mono ?_; rintro e w1 ⟨g, c, rfl, hI, hb⟩))
    go_ret2
    exact ⟨_, rfl, by rw [J.out]; simpa using hI, hb⟩
theorem specFi (v : Value) (zs : List Int) (w : World) (h : Rd w v zs) (hn : zs.length ≤ 1048576) :
    Calls Try.prog 26 #[v] w fun e w' => e = .returned (ansV (isOrd zs) ((zs.length : Int) - ((RS zs 0 0).length : Int))) ∧ Below w.heap.size w w' := by
  have HA := Lib.hid (ptGood v zs w h hn)
  cases hp : isOrd zs
  · have J := Lib.hid (ansV_no (x := ((zs.length : Int) - ((RS zs 0 0).length : Int))) (rfl : false = false))
    rw [hp] at HA
    clear h hp
    go_enter Try.func26, Try.ntmps26
    go_wp2_with (go_at_call 28; refine HA.out.mono ?_; rintro e w' ⟨rfl, rfl⟩)
    go_ret2
    exact ⟨ret_v J.out.symm, Below.refl _ _⟩
  · have J := Lib.hid (ansV_yes (x := ((zs.length : Int) - ((RS zs 0 0).length : Int))) (rfl : true = true))
    have hl := isOrd_len hp
    have hR := RS_le hl.2 0 0
    have C := Lib.hid (ptRising hp _ 0 0 [] v (.slice none 0 0) w (Nat.le_refl _) h (.inl ⟨⟨_, _, rfl⟩, rfl⟩) (by intro c e; cases e; rfl) (.inl ⟨rfl, rfl, rfl⟩) (by simp; omega) (by omega))
    rw [List.nil_append] at C
    obtain ⟨a, n, c, rfl, hnz, _⟩ := h.cells
    rw [← hnz] at J hl ⊢
    rw [hp] at HA
    clear h hp hnz hn
    generalize (RS zs 0 0).length = R at *
    go_enter Try.func26, Try.ntmps26
    go_wp2_with (first
      | (go_at_call 28; refine HA.out.mono ?_; rintro e w' ⟨rfl, rfl⟩)
      | (go_at_call 40; refine C.out.mono ?_; rintro e w1 ⟨g, c, rfl, hI, hb⟩))
    go_ret2
    exact ⟨ret_v J.out.symm, hb⟩
set_option maxHeartbeats 1000000 in
theorem maxZ (g n c : Nat) (f : Nat → Nat) (B : Nat) (w : World) (h : Ints w B (.slice (some ⟨g, 0, none⟩) n c) (fl n (fun j => (f j : Int)))) (hn : 1 ≤ n ∧ n ≤ 1000) (hf : ∀ j, f j ≤ 9) :
    Calls Try.prog 42 #[.slice (some ⟨g, 0, none⟩) n c] w fun e w' => e = .returned (.int .i64 (topF f n : Int)) ∧ w = w' := by
  have HI := Lib.hid h
  have c0 := h.at_ (j := 0) (by omega)
  have h0 := hf 0
  have E1 := Lib.hid (show f 0 = topF f 1 by simp [topF])
  have HF := Lib.hid hf
  have HT := Lib.hid (fun k => topF_le hf k)
  have hn1 : ¬ ((n : Int) < 1) := by omega
  have hn0 : (0 : Int) < n := by omega
  clear h hf
  generalize hf0 : f 0 = f0 at *
  clear hf0
  go_enter Try.func42, Try.ntmps42
  go_wp2
  go_loop [3, 4] (fun m i => ∃ k : Nat, 1 ≤ k ∧ k ≤ n ∧ i = .int .i64 k ∧ m = .int .i64 (topF f k : Int)) (fun _ i => n - (intOf i).toNat)
  case atStart => exact ⟨1, Nat.le_refl _, hn.1, rfl, by rw [E1.out]⟩
  case round =>
    obtain ⟨k, hk1, hk, rfl, rfl⟩ := hrel
    by_cases hlt : k < n
    · have hlt' : (k : Int) < n := by omega
      have ck := HI.out.at_ hlt
      have E := Lib.hid (show topF f (k + 1) = max (topF f k) (f k) from rfl)
      have b1 := HF.out k
      have b2 := HT.out k
      generalize topF f k = t at *
      generalize f k = x at *
      go_wp2
      have hif : (if t < x then (x : Int) else (t : Int)) = ((max t x : Nat) : Int) := by split <;> omega
      try rw [hif]
      go_round
      case rel => exact ⟨k + 1, by omega, by omega, by go_num, by rw [E.out] <;> (first | rfl | (congr 1; omega))⟩
      case measure => (simp [intOf]; try omega)
    · obtain rfl : k = n := by omega
      go_wp2
      go_ret
      exact ⟨rfl, rfl⟩
set_option maxHeartbeats 4000000 in
theorem implLr (v : Value) (zs : List Int) (w : World) (h : Rd w v zs) (hn : zs.length ≤ 1048576) :
    Calls Try.prog 25 #[v] w (IntsQ w.heap.size (lrL zs) (isOrd zs) w) := by
  have HA := Lib.hid (implIsOrder v zs w h hn)
  cases hp : isOrd zs
  · have J := Lib.hid (lrL_no hp)
    rw [hp] at HA
    clear h hp
    go_enter Try.func25, Try.ntmps25
    go_wp2_with (go_at_call 30; refine HA.out.mono ?_; rintro e w' ⟨rfl, rfl⟩)
    go_ret2
    exact ⟨_, rfl, by rw [J.out]; exact World.ownsRow_nil _ _ _ _, Below.refl _ _⟩
  · have J := Lib.hid (lrL_yes hp)
    have hl := isOrd_len hp
    have hz8 := Lib.hid hl.2
    have MR := Lib.hid (mostRising v zs w h hl)
    have HAT := Lib.hid (fun j (hj : j < zs.length) => isOrd_at hp hj)
    obtain ⟨b, off, n, cap, rfl, hnz, hnc, hc9, hbw, hcell⟩ := h.openP (by omega)
    rw [hp] at HA
    have HN := Lib.hid hnz
    have HC := Lib.hid hcell
    rw [← hnz] at hl MR
    have TM := Lib.hid (show topF (ms zs) n = mxG zs (ms zs) 0 0 (n - 0) by rw [hnz, Nat.sub_zero]; exact topF_mx (fun j hj => by have := isOrd_at hp hj; omega) _ (Nat.le_refl _))
    obtain ⟨d, hd⟩ : ∃ d, d = w.heap.size := ⟨_, rfl⟩
    have HD := Lib.hid hd
    have hbd : b < d := by omega
    clear h hp hn hnz hcell hd
    go_enter Try.func25, Try.ntmps25
    go_upto_region 4 with (first
      | (go_at_call 30; refine HA.out.mono ?_; rintro e w' ⟨rfl, rfl⟩)
      | (go_at_call 41; refine MR.out.mono ?_; rintro e w1 ⟨g, rfl, hI, hb⟩))
    rw [← HD.out] at hI hb
    have HI := Lib.hid hI
    have HB := Lib.hid hb
    have MX := Lib.hid (maxZ g n n (ms zs) d w1 hI ⟨hl.1, by omega⟩ ms_le)
    rw [TM.out] at MX
    clear hI hb
    go_wp2_with (go_at_call 42; refine MX.out.mono ?_; rintro e w' ⟨rfl, rfl⟩)
    go_loopw [5, 6, 7, 19] (fun lf la o i wr => ∃ (k : Nat) (x : Int) (pre : List Nat), k ≤ n ∧ i = .int .i64 k ∧ la = .int .i64 x ∧ lf = .int .i64 (mxG zs (ms zs) k x (n - k) : Int) ∧ Hid (pre ++ RS zs k x = RS zs 0 0) ∧ Hid (Ints wr w1.heap.size o (idx pre)) ∧ Hid (Below w1.heap.size w1 wr)) (fun _ _ _ i _ => n - (intOf i).toNat)
    case atStart => exact ⟨0, 0, [], Nat.zero_le _, rfl, rfl, rfl, Lib.hid rfl, Lib.hid (World.ownsRow_nil _ _ _ _), Lib.hid (Below.refl _ _)⟩
    case round =>
      obtain ⟨k, x, pre, hk, rfl, rfl, rfl, HF, HO, HBW⟩ := hrel
      by_cases hlt : k < n
      · have hlt' : (k : Int) < n := by omega
        have hb1 : b < w1.heap.size := by have := HB.out.size; have := HD.out; omega
        have ck := (HBW.out.cell (p := ⟨b, off + k, none⟩) hb1).trans ((HB.out.cell (p := ⟨b, off + k, none⟩) hbd).trans (HC.out k hlt))
        have ek := (HI.out.below HBW.out).at_ hlt
        have RF := Lib.hid (RS_front hz8.out (p := k) (by have := HN.out; omega) x)
        have MF := Lib.hid (mx_front hz8.out (p := k) (by have := HN.out; omega) x)
        rw [← HN.out] at RF MF
        have m1 := ms_le (zs := zs) k
        have m2 := mxG_le (zs := zs) (fun j => ms_le (zs := zs) j) (n - k) k x
        have hpl : (idx pre).length < 16777216 := by
          have h1 := congrArg List.length HF.out
          rw [List.length_append] at h1
          have := RS_le hz8.out 0 0
          rw [idx_len]; omega
        have hws := HBW.out.size
        by_cases hc : x < gt zs k ∧ ms zs k = mxG zs (ms zs) k x (n - k)
        · have R1 := Lib.hid (RF.out.trans (if_pos hc))
          have M1 := Lib.hid (MF.out.1 hc)
          have h1 := hc.1
          have h2 : ((ms zs k : Int) == (mxG zs (ms zs) k x (n - k) : Int)) = true := by rw [hc.2]; simp
          have h3 : ms zs k = mxG zs (ms zs) k x (n - k) := hc.2
          rw [h3] at ek
          have F2 := Lib.hid (show (pre ++ [k]) ++ RS zs (k + 1) (gt zs k) = RS zs 0 0 by have := HF.out; rw [R1.out] at this; rw [← this]; simp)
          clear RF MF hc h2 h3 m1 HF R1
          generalize mxG zs (ms zs) k x (n - k) = L at *
          have M2 := Lib.hid (show ((mxG zs (ms zs) (k + 1) (gt zs k) (n - (k + 1)) : Nat) : Int) = (L : Int) - 1 by have := M1.out; omega)
          clear M1
          generalize hy : gt zs k = y at *
          go_wp2_with (at_builtin; refine wpList_app wr rfl _ _ rfl w1.heap.size _ (idx pre) rfl HO.out (k : Int) rfl hpl hws rfl ?_; intro v' w2 hI2 hb2 hg2)
          rw [idx_snoc] at hI2
          go_roundw
          case rel => exact ⟨k + 1, y, pre ++ [k], by omega, by go_num, rfl, by rw [M2.out], F2, Lib.hid hI2, Lib.hid (HBW.out.trans hb2)⟩
          case measure => (simp [intOf]; try omega)
        · have R1 := Lib.hid (RF.out.trans (if_neg hc))
          have M1 := Lib.hid (MF.out.2 hc)
          have F2 := Lib.hid (show pre ++ RS zs (k + 1) x = RS zs 0 0 by have := HF.out; rw [R1.out] at this; exact this)
          clear RF MF HF R1
          by_cases hc1 : x < gt zs k
          · have hne : ¬ (ms zs k = mxG zs (ms zs) k x (n - k)) := fun e => hc ⟨hc1, e⟩
            clear hc
            generalize mxG zs (ms zs) k x (n - k) = L at *
            have hne2 : ((ms zs k : Int) == (L : Int)) = false := beq_eq_false_iff_ne.2 (by omega)
            have hne3 : ¬ ((ms zs k : Int) = (L : Int)) := by omega
            generalize ms zs k = m at *
            generalize gt zs k = y at *
            go_wp2
            go_roundw
            case rel => exact ⟨k + 1, x, pre, by omega, by go_num, rfl, by rw [M1.out], F2, HO, HBW⟩
            case measure => (simp [intOf]; try omega)
          · clear hc
            generalize mxG zs (ms zs) k x (n - k) = L at *
            generalize ms zs k = m at *
            generalize gt zs k = y at *
            go_wp2
            go_roundw
            case rel => exact ⟨k + 1, x, pre, by omega, by go_num, rfl, by rw [M1.out], F2, HO, HBW⟩
            case measure => (simp [intOf]; try omega)
      · obtain rfl : k = n := by omega
        have E := Lib.hid (show pre = RS zs 0 0 by have := HF.out; rw [RS_at hz8.out, show zs.length - k = 0 by have := HN.out; omega, rsF] at this; simpa using this)
        have hs := HB.out.size
        have HB2 := Lib.hid (HB.out.trans (HBW.out.mono (by have := HD.out; omega)))
        generalize mxG zs (ms zs) k x (k - k) = L at *
        go_wp2
        go_ret2
        exact ⟨_, rfl, by rw [J.out, ← E.out]; exact ints_mono' HO.out hs, by rw [← HD.out]; exact HB2.out⟩
theorem implFi (v : Value) (zs : List Int) (w : World) (h : Rd w v zs) (hn : zs.length ≤ 1048576) :
    Calls Try.prog 27 #[v] w fun e w' => e = .returned (ansV (isOrd zs) ((zs.length : Int) - ((RS zs 0 0).length : Int))) ∧ Below w.heap.size w w' := by
  have C := Lib.hid (implLr v zs w h hn)
  cases hp : isOrd zs
  · have J := Lib.hid (ansV_no (x := ((zs.length : Int) - ((RS zs 0 0).length : Int))) (rfl : false = false))
    rw [hp] at C
    clear h hp
    go_enter Try.func27, Try.ntmps27
    go_wp2_with (go_at_call 25; refine C.out.mono ?_; rintro e w1 ⟨u, rfl, hI, hb⟩)
    go_ret2
    exact ⟨ret_v J.out.symm, hb⟩
  · have J := Lib.hid (ansV_yes (x := ((zs.length : Int) - ((RS zs 0 0).length : Int))) (rfl : true = true))
    have hl := isOrd_len hp
    have hR := RS_le hl.2 0 0
    have EL := Lib.hid (show (lrL zs).length = (RS zs 0 0).length by rw [lrL_yes hp, idx_len])
    obtain ⟨a, n, c, rfl, hnz, _⟩ := h.cells
    rw [← hnz] at J hl ⊢
    rw [hp] at C
    clear h hp hnz hn
    go_enter Try.func27, Try.ntmps27
    go_wp2_with fail
    refine C.out.mono ?_
    rintro e w1 ⟨u, rfl, hI, hb⟩
    obtain ⟨ua, uc, rfl⟩ : ∃ a c, u = .slice a (RS zs 0 0).length c := by
      rcases hI.2 with ⟨rfl, h0⟩ | ⟨g, cap, cur, rfl, _⟩
      · rw [EL.out] at h0; rw [h0]; exact ⟨_, _, rfl⟩
      · rw [EL.out]; exact ⟨_, _, rfl⟩
    clear hI
    obtain ⟨R, hR0⟩ : ∃ R, R = (RS zs 0 0).length := ⟨_, rfl⟩
    rw [← hR0] at hR ⊢
    have J3 := Lib.hid (show ansV true ((n : Int) - ((RS zs 0 0).length : Int)) = .tuple #[.int .i64 ((n : Int) - (R : Int)), .bool true] by rw [J.out, hR0])
    clear hR0 J
    go_wp2
    go_ret2
    exact ⟨by rw [J3.out] <;> rfl, hb⟩
end Go.Proofs.Ythdmmliipmmfbab
