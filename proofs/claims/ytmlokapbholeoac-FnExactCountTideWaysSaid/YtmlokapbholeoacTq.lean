/- CountTideWays, impl's side: coast.waysOn. -/
import Derived.Test.YtmlokapbholeoacTp
namespace Go.Proofs.Ytmlokapbholeoac
set_option linter.unusedVariables false
open Go.RowKit

theorem slice_eq {b o o' n n' c c' : Nat} (h1 : o = o') (h2 : n = n') (h3 : c = c') : Value.slice (some ⟨b, o, none⟩) n c = .slice (some ⟨b, o', none⟩) n' c' := by
  subst h1; subst h2; subst h3; rfl
set_option maxHeartbeats 1000000 in
theorem inReachI (b N p l : Nat) (w : World) (hN : 1 ≤ N ∧ N ≤ 1000) (hp : p < N) (hl : l ≤ 100) :
    Calls Try.prog 47 #[.slice (some ⟨b, 0, none⟩) N N, .int .i64 (p : Int), .int .i64 (l : Int)] w fun e w' => e = .returned (.slice (some ⟨b, p - l, none⟩) (min (p + l) (N - 1) + 1 - (p - l)) (N - (p - l))) ∧ w = w' := by
  obtain ⟨lo, hlo⟩ : ∃ lo, lo = p - l := ⟨_, rfl⟩
  obtain ⟨hi, hhi⟩ : ∃ hi, hi = min (p + l) (N - 1) := ⟨_, rfl⟩
  have hmax : max (0 : Int) ((p : Int) - l) = (lo : Int) := by omega
  have hmin : min ((p : Int) + l) ((N : Int) - 1) = (hi : Int) := by omega
  have k1 : lo ≤ hi + 1 := by omega
  have k2 : hi + 1 ≤ N := by omega
  have k3 : (lo : Int) ≤ (hi : Int) + 1 := by omega
  have k4 : (hi : Int) + 1 ≤ N := by omega
  have k5 : (0 : Int) ≤ lo := by omega
  have k6 : hi ≤ 2000 := by omega
  have k7 : (0 : Int) ≤ (hi : Int) + 1 := by omega
  have k8 : ((hi : Int) + 1).toNat = hi + 1 := by omega
  rw [← hlo, ← hhi]
  have E := Lib.hid hlo
  have E2 := Lib.hid hhi
  clear hlo hhi
  go_enter Try.func47, Try.ntmps47
  go_wp2
  all_goals
    go_ret
    exact ⟨ret_v (slice_eq (by have := E.out; omega) (by have := E.out; have := E2.out; omega) (by have := E.out; omega)), rfl⟩
/-- the next numbers: the first p places are done, the place p has m of its sums -/
def wnF (h t : ByteArray) (f : Nat → Nat) (l x p m : Nat) (j : Nat) : Int :=
  if j < p then ((if dry h t j x = true then sumF f (j - l) (cnt h l j) else 0 : Nat) : Int) else if j = p then (sumF f (p - l) m : Int) else 0
theorem wnF_put {h t : ByteArray} {f : Nat → Nat} {l x p m : Nat} (i : Nat) : (if i = p then (sumF f (p - l) m : Int) + (f (p - l + m) : Int) else wnF h t f l x p m i) = wnF h t f l x p (m + 1) i := by
  unfold wnF
  by_cases e : i = p
  · rw [if_pos e, if_neg (by omega), if_pos e]; simp [sumF]
  · rw [if_neg e, if_neg e]; simp only [e, if_false]
theorem wnF_end {h t : ByteArray} {f : Nat → Nat} {l x p m : Nat} (e : (if dry h t p x = true then sumF f (p - l) (cnt h l p) else 0) = sumF f (p - l) m) (i : Nat) : wnF h t f l x p m i = wnF h t f l x (p + 1) 0 i := by
  unfold wnF
  by_cases c : i < p
  · simp only [c, show i < p + 1 by omega, if_true]
  · by_cases c2 : i = p
    · subst c2; rw [if_neg c, if_pos rfl, if_pos (by omega), e]
    · rw [if_neg c, if_neg c2, if_neg (by omega)]; simp [sumF]
set_option maxHeartbeats 4000000 in
theorem waysOn (h t : ByteArray) (f : Nat → Nat) (l x b fr : Nat) (X : Int) (w : World) (hX : X = x) (hg : good h t = true) (hfr : fr = h.size + 1) (hl : l ≤ 100) (hx : x ≤ 1000000) (hf : ∀ j, f j ≤ 1099511627776)
    (hbl : b < w.heap.size) (hc : ∀ j, j < fr + 1 → w.cell? ⟨b, j, none⟩ = some (.int .i64 (f j : Int))) :
    Calls Try.prog 35 #[cst h t, .slice (some ⟨b, 0, none⟩) (fr + 1) (fr + 1), .int .i64 (l : Int), .int .i64 X] w fun e w' => ∃ d, e = .returned (.slice (some ⟨d, 0, none⟩) (fr + 1) (fr + 1)) ∧
      Ints w' w.heap.size (.slice (some ⟨d, 0, none⟩) (fr + 1) (fr + 1)) (fl (fr + 1) fun p => ((if dry h t p x = true then sumF f (p - l) (cnt h l p) else 0 : Nat) : Int)) ∧ Below w.heap.size w w' := by
  obtain ⟨⟨z1, z2, _⟩, ⟨z3, z4, _⟩⟩ := good_in hg
  have hf1 : 2 ≤ fr ∧ fr ≤ 15 := by omega
  have HG := Lib.hid hg
  have HX := Lib.hid hX
  have HC := Lib.hid hc
  have HF := Lib.hid hf
  have HFR := Lib.hid hfr
  obtain ⟨c0, c1, cl⟩ := (Blk.new w #[.string h, .string t] 45).two
  have X0 := Lib.hid (Blk.new w #[.string h, .string t] 45)
  have B0 := Lib.hid ((Below.refl w.heap.size w).alloc (Nat.le_refl _) (.cells #[.string h, .string t] 45))
  have DR := Lib.hid (fun p (hp : p ≤ h.size + 1) wx => isDry h t p x (p : Int) X wx rfl HX.out HG.out hp hx)
  have IR := Lib.hid (fun p (hp : p < fr + 1) wx => inReachI b (fr + 1) p l wx (by omega) hp (by omega))
  unfold cst at *
  clear hg hX hc hf hfr
  have hsz : (w.alloc (.cells #[.string h, .string t] 45)).heap.size = w.heap.size + 1 := by simp
  go_enter Try.func35, Try.ntmps35
  go_wp2_with (at_make; refine wpList_mk rfl _ _ rfl (w.alloc (.cells #[.string h, .string t] 45)).heap.size (fr + 1) _ rfl rfl (by simp) (by omega) (Nat.le_refl _) ?_; intro w3 hI3 hb3 hg3)
  rw [hsz] at hI3 hb3
  rw [fl_rep] at hI3
  have I0 : Ints w3 (w.heap.size + 1) (.slice (some ⟨w.heap.size + 1, 0, none⟩) (fr + 1) (fr + 1)) (fl (fr + 1) (wnF h t f l x 0 0)) := by
    rw [show fl (fr + 1) (wnF h t f l x 0 0) = fl (fr + 1) (fun _ => 0) from fl_ext fun j _ => by unfold wnF; simp [sumF]]; exact hI3
  have HI1 := Lib.hid I0
  have HX1 := Lib.hid (X0.out.below hb3 (by omega))
  have HB3 := Lib.hid (B0.out.trans (hb3.mono (by omega)))
  clear hI3 hb3 hg3 I0 c0 c1 cl hsz
  go_loopw [18] (fun i wr => ∃ p : Nat, p ≤ fr + 1 ∧ i = .int .i64 p ∧ Hid (Ints wr (w.heap.size + 1) (.slice (some ⟨w.heap.size + 1, 0, none⟩) (fr + 1) (fr + 1)) (fl (fr + 1) (wnF h t f l x p 0))) ∧ Hid (Blk wr w.heap.size #[.string h, .string t]) ∧ Hid (Below w.heap.size w wr)) (fun i _ => fr + 1 - (intOf i).toNat)
  case atStart => exact ⟨0, by omega, rfl, HI1, HX1, HB3⟩
  case round =>
    clear HI1 HX1 HB3
    obtain ⟨p, hp, rfl, HI1, HX1, HB3⟩ := hrel
    by_cases hlp : p < fr + 1
    · have hlp' : (p : Int) < fr + 1 := by omega
      obtain ⟨d0, d1, dl⟩ := HX1.out.two
      have DP := Lib.hid (DR.out p (by have := HFR.out; omega))
      have hgw := HI1.out.blk
      cases hdr : dry h t p x
      · rw [hdr] at DP
        have E := Lib.hid (fun i => wnF_end (h := h) (t := t) (f := f) (l := l) (x := x) (p := p) (m := 0) (by rw [hdr]; simp [sumF]) i)
        have I2 := Lib.hid (show Ints wr (w.heap.size + 1) _ (fl (fr + 1) (wnF h t f l x (p + 1) 0)) by rw [← fl_ext fun i _ => E.out i]; exact HI1.out)
        go_wp2_with fail
        refine (DP.out _).mono ?_
        rintro e w4 ⟨rfl, hb4⟩
        have I4 := Lib.hid (I2.out.below hb4)
        have X4 := Lib.hid (HX1.out.below hb4 dl)
        have B4 := Lib.hid (HB3.out.trans (hb4.mono (by omega)))
        clear hb4
        go_wp2
        go_roundw
        case rel => exact ⟨p + 1, by omega, by go_num, I4, X4, B4⟩
        case measure => (simp [intOf]; try omega)
      · rw [hdr] at DP
        have IP := Lib.hid (IR.out p hlp)
        obtain ⟨lo, hlo⟩ : ∃ lo, lo = p - l := ⟨_, rfl⟩
        obtain ⟨n, hn⟩ : ∃ n, n = cnt h l p := ⟨_, rfl⟩
        have hn2 : min (p + l) (fr + 1 - 1) + 1 - (p - l) = n := by rw [hn]; unfold cnt; have := HFR.out; omega
        rw [hn2, ← hlo] at IP
        have HLO := Lib.hid hlo
        have hln : lo + n ≤ fr + 1 := by rw [hlo, hn]; unfold cnt; have := HFR.out; omega
        have HN := Lib.hid hn
        have HDR := Lib.hid hdr
        clear hn2 hlo hn hdr
        go_wp2_with fail
        refine (DP.out _).mono ?_
        rintro e w4 ⟨rfl, hb4⟩
        have I4 := Lib.hid (HI1.out.below hb4)
        have X4 := Lib.hid (HX1.out.below hb4 dl)
        have B4 := Lib.hid (HB3.out.trans (hb4.mono (by omega)))
        clear hb4 HI1 HX1 HB3 d0 d1 dl hgw
        go_wp2_with (go_at_call 47; refine (IP.out _).mono ?_; rintro e w' ⟨rfl, rfl⟩)
        obtain ⟨wo, rfl⟩ : ∃ wo : World, wo = wr := ⟨_, rfl⟩
        go_loopw [31] (fun i wr => ∃ m : Nat, m ≤ n ∧ i = .int .i64 m ∧ Hid (Ints wr (w.heap.size + 1) (.slice (some ⟨w.heap.size + 1, 0, none⟩) (fr + 1) (fr + 1)) (fl (fr + 1) (wnF h t f l x p m))) ∧ Hid (Blk wr w.heap.size #[.string h, .string t]) ∧ Hid (Below w.heap.size w wr)) (fun i _ => n - (intOf i).toNat)
        case atStart => exact ⟨0, Nat.zero_le _, rfl, I4, X4, B4⟩
        case round =>
          clear I4 X4 B4
          obtain ⟨m, hm, rfl, I4, X4, B4⟩ := hrel
          by_cases hlm : m < n
          · have hlm' : (m : Int) < n := by omega
            have cq : wr.cell? ⟨b, lo + m, none⟩ = some (.int .i64 (f (lo + m) : Int)) := (B4.out.cell (p := ⟨b, lo + m, none⟩) hbl).trans (HC.out (lo + m) (by omega))
            have cp := I4.out.at_ hlp
            have fp := I4.out.fr_ p
            have e1 : wnF h t f l x p m p = (sumF f lo m : Int) := by unfold wnF; rw [if_neg (by omega), if_pos rfl, HLO.out]
            rw [e1] at cp
            have S := I4.out.put p ((sumF f lo m : Int) + (f (lo + m) : Int))
            rw [show fl (fr + 1) (fun i => if i = p then (sumF f lo m : Int) + (f (lo + m) : Int) else wnF h t f l x p m i) = fl (fr + 1) (wnF h t f l x p (m + 1)) from fl_ext fun i _ => by have := wnF_put (h := h) (t := t) (f := f) (l := l) (x := x) (p := p) (m := m) i; rw [← HLO.out] at this; exact this] at S
            have S1 := Lib.hid S.1
            have S2 := Lib.hid (X4.out.kept S.2 (by simp))
            have S3 := Lib.hid (B4.out.grown S.2 (by have := B4.out.size; omega) (by intro j hj; cases hj; omega))
            have b1 := HF.out (lo + m)
            have b2 : sumF f lo m ≤ m * 1099511627776 := sumF_le HF.out m
            have b3 : m * 1099511627776 ≤ 20 * 1099511627776 := Nat.mul_le_mul_right _ (by omega)
            have hxy : 0 ≤ (sumF f lo m : Int) + (f (lo + m) : Int) ∧ (sumF f lo m : Int) + (f (lo + m) : Int) ≤ 1000000000000000 := by omega
            have hpi : (0 : Int) ≤ p := by omega
            clear S I4 X4 B4 e1 b1 b2 b3
            generalize (f (lo + m) : Int) = y at *
            generalize (sumF f lo m : Int) = x2 at *
            have hwr : wrap64 (x2 + y) = x2 + y := by unfold wrap64; omega
            have hwr2 : IntKind.i64.wrap (x2 + y) = x2 + y := IntWalk.i64_in _ (by omega)
            go_wp2
            go_roundw
            case rel => exact ⟨m + 1, by omega, by go_num, S1, S2, S3⟩
            case measure => (simp [intOf]; try omega)
          · obtain rfl : m = n := by omega
            have E := Lib.hid (fun i => wnF_end (h := h) (t := t) (f := f) (l := l) (x := x) (p := p) (m := m) (by rw [HDR.out, HN.out]; simp) i)
            have I2 := Lib.hid (show Ints wr (w.heap.size + 1) _ (fl (fr + 1) (wnF h t f l x (p + 1) 0)) by rw [← fl_ext fun i _ => E.out i]; exact I4.out)
            clear I4
            go_wp2
            go_roundw
            case rel => exact ⟨p + 1, by omega, by go_num, I2, X4, B4⟩
            case measure => (simp [intOf]; try omega)
    · obtain rfl : p = fr + 1 := by omega
      have I2 := Lib.hid (show Ints wr w.heap.size _ (fl (fr + 1) (fun p => ((if dry h t p x = true then sumF f (p - l) (cnt h l p) else 0 : Nat) : Int))) from ints_mono' (by
            rw [← fl_ext (f := wnF h t f l x (fr + 1) 0) fun i hi => by unfold wnF; rw [if_pos hi]]; exact HI1.out) (by omega))
      have hlp' : ¬ ((fr : Int) + 1 < (fr : Int) + 1) := by omega
      clear HI1
      go_wp2
      go_ret
      exact ⟨_, rfl, I2.out, HB3.out⟩
set_option maxHeartbeats 4000000 in
theorem implCtw (h t : ByteArray) (L X H : Int) (w : World) (hs : h.size ≤ 1048576 ∧ t.size ≤ 1048576) :
    Calls Try.prog 19 #[.string h, .string t, .int .i64 L, .int .i64 X, .int .i64 H] w fun e w' => e = .returned (ctwV h t L X H) ∧ Below w.heap.size w w' := by
  have A := fun wx => isVAt h t L X wx hs.1 hs.2
  have X0 := Lib.hid (Blk.new w #[.string h, .string t] 45)
  have B0 := Lib.hid ((Below.refl w.heap.size w).alloc (Nat.le_refl _) (.cells #[.string h, .string t] 45))
  cases ha : askd h t L X
  · have J := Lib.hid (ctwV_no (h := h) (t := t) (L := L) (X := X) (H := H) (by simp [ctwB, ha]))
    rw [ha] at A
    have HA := Lib.hid A
    clear A ha
    go_enter Try.func19, Try.ntmps19
    go_wp2_with fail
    refine (HA.out _).mono ?_
    rintro e w1 ⟨rfl, hb1⟩
    go_wp2
    go_ret2
    exact ⟨ret_v J.out.symm, B0.out.trans (hb1.mono (by simp))⟩
  by_cases h1 : H < 0
  · have J := Lib.hid (ctwV_no (h := h) (t := t) (L := L) (X := X) (H := H) (by simp [ctwB, inB_no (.inl h1)]))
    rw [ha] at A
    have HA := Lib.hid A
    clear A ha
    go_enter Try.func19, Try.ntmps19
    go_wp2_with fail
    refine (HA.out _).mono ?_
    rintro e w1 ⟨rfl, hb1⟩
    go_wp2
    go_ret2
    exact ⟨ret_v J.out.symm, B0.out.trans (hb1.mono (by simp))⟩
  by_cases h2 : 10 < H
  · have J := Lib.hid (ctwV_no (h := h) (t := t) (L := L) (X := X) (H := H) (by simp [ctwB, inB_no (lo := 0) (.inr h2)]))
    rw [ha] at A
    have HA := Lib.hid A
    clear A ha
    go_enter Try.func19, Try.ntmps19
    go_wp2_with fail
    refine (HA.out _).mono ?_
    rintro e w1 ⟨rfl, hb1⟩
    go_wp2
    go_ret2
    exact ⟨ret_v J.out.symm, B0.out.trans (hb1.mono (by simp))⟩
  have J := ctwV_yes (h := h) (t := t) (L := L) (X := X) (H := H) (by simp [ctwB, ha, inB_yes (show 0 ≤ H by omega) (show H ≤ 10 by omega)])
  obtain ⟨hl, x0, x1⟩ := askd_in ha
  obtain ⟨hg, l0, l1⟩ := lpd_in hl
  obtain ⟨⟨z1, z2, _⟩, ⟨z3, z4, _⟩⟩ := good_in hg
  obtain ⟨s, rfl⟩ : ∃ s : Nat, X = s := ⟨X.toNat, by omega⟩
  obtain ⟨l, rfl⟩ : ∃ l : Nat, L = l := ⟨L.toNat, by omega⟩
  obtain ⟨q, rfl⟩ : ∃ q : Nat, H = q := ⟨H.toNat, by omega⟩
  simp only [Int.toNat_natCast] at J
  rw [ha] at A
  have HA := Lib.hid A
  have HG := Lib.hid hg
  have HJ := Lib.hid J
  obtain ⟨fr, hfr⟩ : ∃ fr, fr = h.size + 1 := ⟨_, rfl⟩
  have HF := Lib.hid hfr
  have hf1 : 2 ≤ fr ∧ fr ≤ 15 := by omega
  have FB := fun wx => farBankC h t wx hs.1
  rw [show ((h.size : Int) + 1) = (fr : Int) by omega] at FB
  have HFB := Lib.hid FB
  have sq : s + q ≤ 1010 := by omega
  have s1 : s ≤ 1000 := by omega
  have hl1 : 1 ≤ l ∧ l ≤ 15 := by omega
  have hq : q ≤ 10 := by omega
  have CB := Lib.hid (fun k (hk : k ≤ q) p => Nat.le_trans (cw_le (h := h) (t := t) (L := l) (s := s) z2 k p) (pow_le10 (show k ≤ 10 by omega)))
  unfold cst at *
  clear A ha hl hg J l0 l1 x0 x1 hfr FB h1 h2
  go_enter Try.func19, Try.ntmps19
  go_wp2_with fail
  refine (HA.out _).mono ?_
  rintro e w1 ⟨rfl, hb1⟩
  have X1 := Lib.hid (X0.out.below hb1 (by simp))
  obtain ⟨d0, d1, dl⟩ := X1.out.two
  have sz1 : w.heap.size + 1 ≤ w1.heap.size := by have := hb1.size; simpa using this
  have B1 := Lib.hid (B0.out.trans (hb1.mono (by simp)))
  clear hb1
  go_wp2_with fail
  refine (HFB.out _).mono ?_
  rintro e w2 ⟨rfl, hb2⟩
  have X2 := Lib.hid (X1.out.below hb2 dl)
  have sz2 := hb2.size
  have B2 := Lib.hid (B1.out.trans (hb2.mono (by omega)))
  clear hb2 d0 d1 dl
  obtain ⟨g, hg0⟩ : ∃ g, g = w2.heap.size := ⟨_, rfl⟩
  have HG0 := Lib.hid hg0
  have hgw : w.heap.size < g := by omega
  clear hg0
  go_upto_region 6 with (at_make; refine wpList_mk rfl _ _ rfl w2.heap.size (fr + 1) _ rfl rfl (by simp) (by omega) (Nat.le_refl _) ?_; intro w3 hI hb3 hg3)
  rw [← HG0.out] at hI hb3 ⊢
  rw [fl_rep] at hI
  have c0 := hI.at_ (j := 0) (by omega)
  have f0 := hI.fr_ 0
  have S := hI.put 0 1
  rw [show fl (fr + 1) (fun i => if i = 0 then (1 : Int) else 0) = fl (fr + 1) (fun i => (cw h t l s 0 i : Int)) from fl_ext fun j _ => by unfold cw; split <;> simp_all] at S
  have SS := Lib.hid S.1
  have SB := Lib.hid ((B2.out.trans (hb3.mono (by omega))).grown S.2 (by have := hI.blk; omega) (by intro j hj; cases hj; omega))
  have SX := Lib.hid (((X2.out.below hb3 hgw).kept S.2 (by simp; omega)))
  have hgs : g < (w3.setCell ⟨g, 0, none⟩ (.int .i64 1)).heap.size := by rw [World.size_setCell]; exact hI.blk.2
  clear S hI hb3 hg3
  go_wp2_with fail
  go_loopw [14, 15] (fun v x wr => ∃ k c : Nat, k ≤ q ∧ x = .int .i64 ((s : Int) + 1 + k) ∧ v = .slice (some ⟨c, 0, none⟩) (fr + 1) (fr + 1) ∧ Hid (Ints wr g (.slice (some ⟨c, 0, none⟩) (fr + 1) (fr + 1)) (fl (fr + 1) (fun i => (cw h t l s k i : Int)))) ∧ Hid (Blk wr w.heap.size #[.string h, .string t]) ∧ Hid (Below w.heap.size w wr) ∧ g < wr.heap.size) (fun _ x _ => s + q + 1 - (intOf x).toNat)
  case atStart => exact ⟨0, g, Nat.zero_le _, by simp, rfl, SS, SX, SB, hgs⟩
  case round =>
    obtain ⟨k, c, hk, rfl, rfl, HI0, HX, HB, hgr⟩ := hrel
    by_cases hlt : k < q
    · have hlt' : (s : Int) + 1 + k ≤ (s : Int) + q := by omega
      obtain ⟨hcg, hcw⟩ := HI0.out.blk
      have cf := HI0.out.at_ (j := fr) (by omega)
      have ff := HI0.out.fr_ fr
      have S := HI0.out.put fr 0
      rw [show fl (fr + 1) (fun i => if i = fr then (0 : Int) else (cw h t l s k i : Int)) = fl (fr + 1) (fun i => ((if i = h.size + 1 then 0 else cw h t l s k i : Nat) : Int)) from fl_ext fun j _ => by rw [HF.out]; split <;> simp_all] at S
      have S1 := Lib.hid S.1
      have X3 := Lib.hid (HX.out.kept S.2 (by simp; omega))
      obtain ⟨d0, d1, dl⟩ := X3.out.two
      have B3 := Lib.hid (HB.out.grown S.2 (by have := HB.out.size; omega) (by intro j hj; cases hj; omega))
      have hfi : (0 : Int) ≤ fr := by omega
      have hfl : (fr : Int) < fr + 1 := by omega
      have hcs : c < (wr.setCell ⟨c, fr, none⟩ (.int .i64 0)).heap.size := by rw [World.size_setCell]; exact hcw
      have WO := Lib.hid (waysOn h t (fun i => if i = h.size + 1 then 0 else cw h t l s k i) l (s + k + 1) c fr ((s : Int) + 1 + k) (wr.setCell ⟨c, fr, none⟩ (.int .i64 0)) (by omega) HG.out HF.out (by omega) (by omega) (fun j => by split; omega; exact CB.out k (by omega) j) hcs (fun j hj => S1.out.at_ hj))
      unfold cst at WO
      clear S HI0 HX HB
      generalize (cw h t l s k fr : Int) = y at cf
      go_wp2_with fail
      refine WO.out.mono ?_
      rintro e w4 ⟨d, rfl, hI4, hb4⟩
      have X4 := Lib.hid (X3.out.below hb4 dl)
      have B4 := Lib.hid (B3.out.trans (hb4.mono (by omega)))
      have I4 : Ints w4 g (.slice (some ⟨d, 0, none⟩) (fr + 1) (fr + 1)) (fl (fr + 1) (fun i => (cw h t l s (k + 1) i : Int))) := ints_mono' (by
        rw [show fl (fr + 1) (fun i => (cw h t l s (k + 1) i : Int)) = fl (fr + 1) (fun p => ((if dry h t p (s + k + 1) = true then sumF (fun i => if i = h.size + 1 then 0 else cw h t l s k i) (p - l) (cnt h l p) else 0 : Nat) : Int)) from fl_ext fun j _ => by simp only [cw]]
        exact hI4) (by rw [World.size_setCell]; omega)
      have HI4 := Lib.hid I4
      have hg4 : g < w4.heap.size := by have := hI4.blk; rw [World.size_setCell] at this; omega
      clear I4 hI4 hb4
      go_wp2
      go_roundw
      case rel => exact ⟨k + 1, d, by omega, by go_num, rfl, HI4, X4, B4, hg4⟩
      case measure => (simp [intOf]; try omega)
    · obtain rfl : k = q := by omega
      have cf := HI0.out.at_ (j := fr) (by omega)
      have J2 := HJ.out
      rw [← HF.out] at J2
      have J3 := Lib.hid J2
      have hlt' : ¬ ((s : Int) + 1 + k ≤ (s : Int) + k) := by omega
      clear HI0 J2
      generalize (cw h t l s k fr : Int) = y at *
      go_wp2
      go_ret2
      exact ⟨ret_v J3.out.symm, HB.out⟩
end Go.Proofs.Ytmlokapbholeoac
