/- LatestStart, both sides; impl's goals, leadsTo; slices.Index and Contains of bools. -/
import Derived.Test.YtmlokapbholeoabUc
import Derived.Test.YtmlokapbholeoabUf
namespace Go.Proofs.Ytmlokapbholeoab
set_option linter.unusedVariables false
open Go.RowKit

theorem sliceU_eq {b o o' n n' c c' : Nat} (h1 : o = o') (h2 : n = n') (h3 : c = c') : Value.slice (some ⟨b, o, none⟩) n c = .slice (some ⟨b, o', none⟩) n' c' := by
  subst h1; subst h2; subst h3; rfl
set_option maxHeartbeats 2000000 in
theorem specLs (h t : ByteArray) (L X : Int) (w : World) (hs : h.size ≤ 1048576 ∧ t.size ≤ 1048576) :
    Calls Try.prog 23 #[.string h, .string t, .int .i64 L, .int .i64 X] w fun e w' => e = .returned (lsV h t L X) ∧ Below w.heap.size w w' := by
  have A := fun wx => tdAsked h t L X wx hs.1 hs.2
  cases ha : askd h t L X
  · have J := Lib.hid (lsV_ask ha)
    rw [ha] at A
    have HA := Lib.hid A
    clear A ha
    go_enter Try.func23, Try.ntmps23
    go_wp2_with (go_at_call 27; refine (HA.out _).mono ?_; rintro e w' ⟨rfl, rfl⟩)
    go_ret2
    exact ⟨ret_v J.out.symm, Below.refl _ _⟩
  · obtain ⟨hl, x0, x1⟩ := askd_in ha
    obtain ⟨hg, l0, l1⟩ := lpd_in hl
    obtain ⟨e, rfl⟩ : ∃ e : Nat, X = e := ⟨X.toNat, by omega⟩
    obtain ⟨l, rfl⟩ : ∃ l : Nat, L = l := ⟨L.toNat, by omega⟩
    obtain ⟨⟨z1, z2, _⟩, ⟨z3, z4, _⟩⟩ := good_in hg
    have D := Lib.hid (fun k (hk : k ≤ 2000) wx => tdEnd h t l k wx hg (by omega) hk)
    have JN := Lib.hid (fun hn => lsV_none (h := h) (t := t) (l := l) (e := e) ha hn)
    have JS := Lib.hid (fun k hk hke hn => lsV_some (h := h) (t := t) (l := l) (e := e) (k := k) ha hk hke hn)
    have OK := Lib.hid (fun k (hk : k ≤ e) => okS_arV (h := h) (t := t) (l := l) (e := e) (s := k) (by omega) hk)
    have LOW := Lib.hid (fun i => ls_low (h := h) (t := t) (l := l) (e := e) (i := i) (by omega))
    obtain ⟨M, hM⟩ : ∃ M, M = t.size * (h.size + 4) := ⟨_, rfl⟩
    have hMb : M ≤ 216 := by rw [hM]; exact Nat.le_trans (Nat.mul_le_mul (show t.size ≤ 12 by omega) (show h.size + 4 ≤ 18 by omega)) (by omega)
    have KI : Hid ((t.size : Int) * ((h.size : Int) + 4) = (M : Int)) := Lib.hid (by rw [hM]; push_cast; rfl)
    rw [← hM] at LOW
    rw [ha] at A
    have HA := Lib.hid A
    clear A ha hg hl hM
    go_enter Try.func23, Try.ntmps23
    go_wp2_with (go_at_call 27; refine (HA.out _).mono ?_; rintro e w' ⟨rfl, rfl⟩)
    go_loopw [10] (fun v wr => ∃ i : Int, -1 ≤ i ∧ i ≤ e ∧ v = .int .i64 i ∧ Hid (∀ m : Nat, i < m → m ≤ e → okS h t l e m = false) ∧ Below w.heap.size w wr) (fun v _ => (intOf v + 1).toNat)
    case atStart => exact ⟨e, by omega, by omega, rfl, Lib.hid (fun m h1 h2 => by omega), Below.refl _ _⟩
    case round =>
      obtain ⟨i, hi1, hi2, rfl, HN, hbw⟩ := hrel
      have hsz := hbw.size
      have HB := Lib.hid hbw
      have hki := KI.out
      clear hbw
      by_cases hi : 0 ≤ i
      · obtain ⟨k, rfl⟩ : ∃ k : Nat, i = k := ⟨i.toNat, by omega⟩
        have hke : k ≤ e := by omega
        by_cases hb : (e : Int) - M < k
        · have DK := Lib.hid (D.out k (by omega))
          cases ho : okS h t l e k
          · have no : ¬ (0 ≤ arV h t l k (h.size + 1) ∧ arV h t l k (h.size + 1) ≤ e) := fun c => by
              have := (OK.out k hke).2 c
              rw [ho] at this; exact Bool.noConfusion this
            have no' : arV h t l k (h.size + 1) < 0 ∨ (0 ≤ arV h t l k (h.size + 1) ∧ ¬ arV h t l k (h.size + 1) ≤ e) := by omega
            have HN2 := Lib.hid (show ∀ m : Nat, (k : Int) - 1 < m → m ≤ e → okS h t l e m = false from fun m h1 h2 => by
              by_cases c : m = k
              · rw [c]; exact ho
              · exact HN.out m (by omega) h2)
            clear no ho
            generalize arV h t l k (h.size + 1) = y at *
            rcases no' with c' | ⟨c1, c2⟩
            all_goals
              go_wp2_with (go_at_call 31; refine (DK.out _).mono ?_; rintro e w2 ⟨rfl, hb2⟩)
              go_roundw
              case rel => exact ⟨(k : Int) - 1, by omega, by omega, by go_num, HN2, HB.out.trans (hb2.mono hsz)⟩
              case measure => (simp [intOf]; try omega)
          · have yes := (OK.out k hke).1 ho
            obtain ⟨y1, y2⟩ := yes
            have J := Lib.hid (JS.out k ho hke (fun m h1 h2 => HN.out m (by omega) h2))
            clear ho
            generalize arV h t l k (h.size + 1) = y at *
            go_wp2_with (go_at_call 31; refine (DK.out _).mono ?_; rintro e w2 ⟨rfl, hb2⟩)
            go_ret2
            exact ⟨ret_v J.out.symm, HB.out.trans (hb2.mono hsz)⟩
        · have J := Lib.hid (JN.out fun m hm => by
            by_cases c : m ≤ k
            · exact LOW.out k (by omega) (fun m h1 h2 => HN.out m (by omega) h2) m c
            · exact HN.out m (by omega) hm)
          go_wp2
          go_ret2
          exact ⟨ret_v J.out.symm, HB.out⟩
      · have J := Lib.hid (JN.out fun m hm => HN.out m (by omega) hm)
        go_wp2
        go_ret2
        exact ⟨ret_v J.out.symm, HB.out⟩
set_option maxHeartbeats 1000000 in
theorem inReachU (b N p l : Nat) (w : World) (hN : 1 ≤ N ∧ N ≤ 1000) (hp : p < N) (hl : l ≤ 100) :
    Calls Try.prog 51 #[.slice (some ⟨b, 0, none⟩) N N, .int .i64 (p : Int), .int .i64 (l : Int)] w fun e w' => e = .returned (.slice (some ⟨b, p - l, none⟩) (min (p + l) (N - 1) + 1 - (p - l)) (N - (p - l))) ∧ w = w' := by
  obtain ⟨lo, hlo⟩ : ∃ lo, lo = p - l := ⟨_, rfl⟩
  obtain ⟨hi, hhi⟩ : ∃ hi, hi = min (p + l) (N - 1) := ⟨_, rfl⟩
  have hmax : max (0 : Int) ((p : Int) - l) = (lo : Int) := by omega
  have hmin : min ((p : Int) + l) ((N : Int) - 1) = (hi : Int) := by omega
  have k1 : lo ≤ hi + 1 := by omega
  have k2 : hi + 1 ≤ N := by omega
  have k3 : (lo : Int) ≤ (hi : Int) + 1 := by omega
  have k4 : (hi : Int) + 1 ≤ N := by omega
  have k5 : (0 : Int) ≤ lo := by omega
  have k6 : hi ≤ 2000 := by omega
  have k7 : (0 : Int) ≤ (hi : Int) + 1 := by omega
  have k8 : ((hi : Int) + 1).toNat = hi + 1 := by omega
  rw [← hlo, ← hhi]
  have E := Lib.hid hlo
  have E2 := Lib.hid hhi
  clear hlo hhi
  go_enter Try.func51, Try.ntmps51
  go_wp2
  all_goals
    go_ret
    exact ⟨ret_v (sliceU_eq (by have := E.out; omega) (by have := E.out; have := E2.out; omega) (by have := E.out; omega)), rfl⟩
set_option maxHeartbeats 1000000 in
theorem indexU (b lo n cap : Nat) (f : Nat → Bool) (w : World) (hn : n ≤ 1000) (hlo : lo ≤ 1000) (hc : ∀ j, j < n → w.cell? ⟨b, lo + j, none⟩ = some (.bool (f (lo + j)))) :
    Calls Try.prog 36 #[.slice (some ⟨b, lo, none⟩) n cap, .bool true] w fun e w' => (∃ r : Int, e = .returned (.int .i64 r) ∧ ((0 ≤ r ∧ orF f lo n = true) ∨ (r < 0 ∧ orF f lo n = false))) ∧ w = w' := by
  have HC := Lib.hid hc
  clear hc
  go_enter Try.func36, Try.ntmps36
  go_wp2
  go_loopw [8] (fun i wr => ∃ k : Nat, k ≤ n ∧ i = .int .i64 k ∧ Hid (orF f lo k = false) ∧ w = wr) (fun i _ => n - (intOf i).toNat)
  case atStart => exact ⟨0, Nat.zero_le _, rfl, Lib.hid rfl, rfl⟩
  case round =>
    obtain ⟨k, hk, rfl, HN, rfl⟩ := hrel
    by_cases hlt : k < n
    · have hlt' : (k : Int) < n := by omega
      have hki : (0 : Int) ≤ k := by omega
      have ck := HC.out k hlt
      cases hf : f (lo + k)
      · rw [hf] at ck
        have HN2 := Lib.hid (show orF f lo (k + 1) = false by simp [orF, HN.out, hf])
        clear hf
        go_wp2
        go_roundw
        case rel => exact ⟨k + 1, by omega, by go_num, HN2, by first | rfl | trivial⟩
        case measure => (simp [intOf]; try omega)
      · rw [hf] at ck
        have HY := Lib.hid (show orF f lo n = true from orF_iff.2 ⟨k, hlt, hf⟩)
        clear hf
        go_wp2
        go_ret
        exact ⟨⟨_, rfl, .inl ⟨by omega, HY.out⟩⟩, rfl⟩
    · obtain rfl : k = n := by omega
      go_wp2
      go_ret
      exact ⟨⟨_, rfl, .inr ⟨by omega, HN.out⟩⟩, rfl⟩
theorem containsU (b lo n cap : Nat) (f : Nat → Bool) (w : World) (hn : n ≤ 1000) (hlo : lo ≤ 1000) (hc : ∀ j, j < n → w.cell? ⟨b, lo + j, none⟩ = some (.bool (f (lo + j)))) :
    Calls Try.prog 50 #[.slice (some ⟨b, lo, none⟩) n cap, .bool true] w fun e w' => e = .returned (.bool (orF f lo n)) ∧ w = w' := by
  have IX := Lib.hid (indexU b lo n cap f w hn hlo hc)
  clear hc
  go_enter Try.func50, Try.ntmps50
  go_wp2_with fail
  refine IX.out.mono ?_
  rintro e w' ⟨⟨r, rfl, hr⟩, rfl⟩
  rcases hr with ⟨h1, h2⟩ | ⟨h1, h2⟩
  all_goals
    have HR := Lib.hid h2
    clear h2
    go_wp2
    go_ret
    exact ⟨ret_bool (by simp only [HR.out]; try (simp; try omega)), rfl⟩
set_option maxHeartbeats 2000000 in
theorem goals (h t : ByteArray) (fr : Nat) (w : World) (hg : good h t = true) (hfr : fr = h.size + 1) :
    Calls Try.prog 34 #[cst h t] w fun e w' => ∃ d, e = .returned (.slice (some ⟨d, 0, none⟩) (fr + 1) (fr + 1)) ∧ Bools w' w.heap.size (.slice (some ⟨d, 0, none⟩) (fr + 1) (fr + 1)) (fl (fr + 1) (fun p => p == fr)) ∧ Below w.heap.size w w' := by
  obtain ⟨⟨z1, z2, _⟩, _⟩ := good_in hg
  have hf1 : 2 ≤ fr ∧ fr ≤ 15 := by omega
  have hfi : (h.size : Int) + 1 = (fr : Int) := by omega
  have FB := Lib.hid (fun wx => farBankC h t wx (by omega))
  rw [hfi] at FB
  have X0 := Lib.hid (Blk.new w #[.string h, .string t] 37)
  have B0 := Lib.hid ((Below.refl w.heap.size w).alloc (Nat.le_refl _) (.cells #[.string h, .string t] 37))
  obtain ⟨c0, c1, cl⟩ := X0.out.two
  have hf2 : (0 : Int) ≤ fr := by omega
  have hf3 : (fr : Int) < (fr : Int) + 1 := by omega
  have hf4 : fr < fr + 1 := by omega
  unfold cst at *
  clear hg hfr hfi
  go_enter Try.func34, Try.ntmps34
  go_wp2_with fail
  refine (FB.out _).mono ?_
  rintro e w1 ⟨rfl, hb1⟩
  have X1 := Lib.hid (X0.out.below hb1 (by simp))
  have s1 : w.heap.size + 1 ≤ w1.heap.size := by have := hb1.size; simpa using this
  have B1 := Lib.hid (B0.out.trans (hb1.mono (by simp)))
  clear hb1 c0 c1 cl
  go_wp2_with (at_make; refine wpList_mkB rfl _ _ rfl w1.heap.size (fr + 1) _ rfl rfl (by simp) (by omega) (Nat.le_refl _) ?_; intro w3 hI3 hb3 hg3; rw [fl_rep] at hI3; have I3 := Lib.hid hI3; obtain ⟨d0, d1, dl⟩ := (X1.out.below hb3 (by omega)).two; have B3 := Lib.hid (B1.out.trans (hb3.mono (by omega))); clear hI3 hb3 hg3)
  refine (FB.out _).mono ?_
  rintro e w4 ⟨rfl, hb4⟩
  have I4 := I3.out.below hb4
  have B4 := B3.out.trans (hb4.mono (by have := B3.out.size; omega))
  have cp := I4.at_ hf4
  have fp := I4.fr_ fr
  have hgw := I4.blk
  have S := I4.put fr true
  rw [fl_ext (g := fun p => p == fr) fun j _ => by by_cases e : j = fr <;> simp [e]] at S
  have S1 := Lib.hid S.1
  have S3 := Lib.hid (B4.grown S.2 (by omega) (by intro j hj; cases hj; omega))
  clear S I4 B4 hb4
  go_wp2
  go_ret
  exact ⟨_, rfl, bools_mono S1.out (by omega), S3.out⟩
def ldF (h t : ByteArray) (f : Nat → Bool) (l x p j : Nat) : Bool := if j < p then stF h t f l x j else false
theorem ldF_put {h t : ByteArray} {f : Nat → Bool} {l x p : Nat} {u : Bool} (e : u = stF h t f l x p) (i : Nat) : (if i = p then u else ldF h t f l x p i) = ldF h t f l x (p + 1) i := by
  unfold ldF
  by_cases c : i = p
  · rw [if_pos c, if_pos (by omega), c]; exact e
  · rw [if_neg c]
    by_cases c2 : i < p
    · rw [if_pos c2, if_pos (by omega)]
    · rw [if_neg c2, if_neg (by omega)]
set_option maxHeartbeats 4000000 in
theorem leadsTo (h t : ByteArray) (f : Nat → Bool) (l x b fr : Nat) (w : World) (hg : good h t = true) (hfr : fr = h.size + 1) (hl : l ≤ 100) (hx : x ≤ 1000000)
    (hbl : b < w.heap.size) (hc : ∀ j, j < fr + 1 → w.cell? ⟨b, j, none⟩ = some (.bool (f j))) :
    Calls Try.prog 35 #[cst h t, .slice (some ⟨b, 0, none⟩) (fr + 1) (fr + 1), .int .i64 (l : Int), .int .i64 (x : Int)] w fun e w' => ∃ d, e = .returned (.slice (some ⟨d, 0, none⟩) (fr + 1) (fr + 1)) ∧
      Bools w' w.heap.size (.slice (some ⟨d, 0, none⟩) (fr + 1) (fr + 1)) (fl (fr + 1) (stF h t f l x)) ∧ Below w.heap.size w w' := by
  obtain ⟨⟨z1, z2, _⟩, ⟨z3, z4, _⟩⟩ := good_in hg
  have hf1 : 2 ≤ fr ∧ fr ≤ 15 := by omega
  have HG := Lib.hid hg
  have HC := Lib.hid hc
  have HFR := Lib.hid hfr
  obtain ⟨c0, c1, cl⟩ := (Blk.new w #[.string h, .string t] 37).two
  have X0 := Lib.hid (Blk.new w #[.string h, .string t] 37)
  have B0 := Lib.hid ((Below.refl w.heap.size w).alloc (Nat.le_refl _) (.cells #[.string h, .string t] 37))
  have DR := Lib.hid (fun p (hp : p ≤ h.size + 1) wx => isDry h t p x (p : Int) (x : Int) wx rfl rfl HG.out hp hx)
  have IR := Lib.hid (fun p (hp : p < fr + 1) wx => inReachU b (fr + 1) p l wx (by omega) hp (by omega))
  unfold cst at *
  clear hg hc hfr
  have hsz : (w.alloc (.cells #[.string h, .string t] 37)).heap.size = w.heap.size + 1 := by simp
  go_enter Try.func35, Try.ntmps35
  go_wp2_with (at_make; refine wpList_mkB rfl _ _ rfl (w.alloc (.cells #[.string h, .string t] 37)).heap.size (fr + 1) _ rfl rfl (by simp) (by omega) (Nat.le_refl _) ?_; intro w3 hI3 hb3 hg3)
  rw [hsz] at hI3 hb3
  rw [fl_rep] at hI3
  have I0 : Bools w3 (w.heap.size + 1) (.slice (some ⟨w.heap.size + 1, 0, none⟩) (fr + 1) (fr + 1)) (fl (fr + 1) (ldF h t f l x 0)) := by
    rw [show fl (fr + 1) (ldF h t f l x 0) = fl (fr + 1) (fun _ => false) from fl_ext fun j _ => by unfold ldF; simp]; exact hI3
  have HI1 := Lib.hid I0
  have HX1 := Lib.hid (X0.out.below hb3 (by omega))
  have HB3 := Lib.hid (B0.out.trans (hb3.mono (by omega)))
  clear hI3 hb3 hg3 I0 c0 c1 cl hsz
  go_loopw [16] (fun i wr => ∃ p : Nat, p ≤ fr + 1 ∧ i = .int .i64 p ∧ Hid (Bools wr (w.heap.size + 1) (.slice (some ⟨w.heap.size + 1, 0, none⟩) (fr + 1) (fr + 1)) (fl (fr + 1) (ldF h t f l x p))) ∧ Hid (Blk wr w.heap.size #[.string h, .string t]) ∧ Hid (Below w.heap.size w wr)) (fun i _ => fr + 1 - (intOf i).toNat)
  case atStart => exact ⟨0, by omega, rfl, HI1, HX1, HB3⟩
  case round =>
    clear HI1 HX1 HB3
    obtain ⟨p, hp, rfl, HI1, HX1, HB3⟩ := hrel
    by_cases hlp : p < fr + 1
    · have hlp' : (p : Int) < fr + 1 := by omega
      have hpi : (0 : Int) ≤ p := by omega
      obtain ⟨d0, d1, dl⟩ := HX1.out.two
      have DP := Lib.hid (DR.out p (by have := HFR.out; omega))
      cases hdr : dry h t p x
      · rw [hdr] at DP
        have E := Lib.hid (fun i => ldF_put (h := h) (t := t) (f := f) (l := l) (x := x) (p := p) (u := false) (by simp [stF, hdr]) i)
        clear hdr
        go_wp2_with fail
        refine (DP.out _).mono ?_
        rintro e w4 ⟨rfl, hb4⟩
        have I4 := HI1.out.below hb4
        have X4 := HX1.out.below hb4 dl
        have B4 := HB3.out.trans (hb4.mono (by have := HB3.out.size; omega))
        have cp := I4.at_ hlp
        have fp := I4.fr_ p
        have hgw := I4.blk
        have S := I4.put p false
        rw [fl_ext fun i _ => E.out i] at S
        have S1 := Lib.hid S.1
        have S2 := Lib.hid (X4.kept S.2 (by simp))
        have S3 := Lib.hid (B4.grown S.2 (by omega) (by intro j hj; cases hj; omega))
        clear S I4 X4 B4 hb4 d0 d1 dl
        generalize ldF h t f l x p p = y at cp
        go_wp2
        go_roundw
        case rel => exact ⟨p + 1, by omega, by go_num, S1, S2, S3⟩
        case measure => (simp [intOf]; try omega)
      · rw [hdr] at DP
        have IP := Lib.hid (IR.out p hlp)
        obtain ⟨lo, hlo⟩ : ∃ lo, lo = p - l := ⟨_, rfl⟩
        obtain ⟨n, hn⟩ : ∃ n, n = cnt h l p := ⟨_, rfl⟩
        have hn2 : min (p + l) (fr + 1 - 1) + 1 - (p - l) = n := by rw [hn]; unfold cnt; have := HFR.out; omega
        rw [hn2, ← hlo] at IP
        have hln : lo + n ≤ fr + 1 := by rw [hlo, hn]; unfold cnt; have := HFR.out; omega
        have E := Lib.hid (fun i => ldF_put (h := h) (t := t) (f := f) (l := l) (x := x) (p := p) (u := orF f lo n) (by simp [stF, hdr, hlo, hn]) i)
        clear hn2 hlo hn hdr
        go_wp2_with fail
        refine (DP.out _).mono ?_
        rintro e w4 ⟨rfl, hb4⟩
        have I4 := HI1.out.below hb4
        have X4 := HX1.out.below hb4 dl
        have B4 := HB3.out.trans (hb4.mono (by have := HB3.out.size; omega))
        have cp := I4.at_ hlp
        have fp := I4.fr_ p
        have hgw := I4.blk
        have S := I4.put p (orF f lo n)
        rw [fl_ext fun i _ => E.out i] at S
        have S1 := Lib.hid S.1
        have S2 := Lib.hid (X4.kept S.2 (by simp))
        have S3 := Lib.hid (B4.grown S.2 (by omega) (by intro j hj; cases hj; omega))
        have CO := Lib.hid (containsU b lo n (fr + 1 - lo) f w4 (by omega) (by omega) (fun j hj => (B4.cell (p := ⟨b, lo + j, none⟩) hbl).trans (HC.out (lo + j) (by omega))))
        clear S I4 X4 B4 hb4 d0 d1 dl E
        generalize ldF h t f l x p p = y at cp
        generalize orF f lo n = u at *
        go_wp2_with (first
          | (go_at_call 51; refine (IP.out _).mono ?_; rintro e w' ⟨rfl, rfl⟩)
          | (go_at_call 50; refine CO.out.mono ?_; rintro e w' ⟨rfl, rfl⟩))
        go_roundw
        case rel => exact ⟨p + 1, by omega, by go_num, S1, S2, S3⟩
        case measure => (simp [intOf]; try omega)
    · obtain rfl : p = fr + 1 := by omega
      have I2 := Lib.hid (show Bools wr w.heap.size _ (fl (fr + 1) (stF h t f l x)) from bools_mono (by
            rw [← fl_ext (f := ldF h t f l x (fr + 1)) fun i hi => by unfold ldF; rw [if_pos hi]]; exact HI1.out) (by omega))
      have hlp' : ¬ ((fr : Int) + 1 < (fr : Int) + 1) := by omega
      clear HI1
      go_wp2
      go_ret
      exact ⟨_, rfl, I2.out, HB3.out⟩
set_option maxHeartbeats 4000000 in
theorem implLs (h t : ByteArray) (L X : Int) (w : World) (hs : h.size ≤ 1048576 ∧ t.size ≤ 1048576) :
    Calls Try.prog 24 #[.string h, .string t, .int .i64 L, .int .i64 X] w fun e w' => e = .returned (lsV h t L X) ∧ Below w.heap.size w w' := by
  have A := fun wx => isVAt h t L X wx hs.1 hs.2
  have X0 := Lib.hid (Blk.new w #[.string h, .string t] 37)
  have B0 := Lib.hid ((Below.refl w.heap.size w).alloc (Nat.le_refl _) (.cells #[.string h, .string t] 37))
  cases ha : askd h t L X
  · have J := Lib.hid (lsV_ask ha)
    rw [ha] at A
    have HA := Lib.hid A
    clear A ha
    go_enter Try.func24, Try.ntmps24
    go_wp2_with fail
    refine (HA.out _).mono ?_
    rintro e w1 ⟨rfl, hb1⟩
    go_wp2
    go_ret2
    exact ⟨ret_v J.out.symm, B0.out.trans (hb1.mono (by simp))⟩
  · obtain ⟨hl, x0, x1⟩ := askd_in ha
    obtain ⟨hg, l0, l1⟩ := lpd_in hl
    obtain ⟨e, rfl⟩ : ∃ e : Nat, X = e := ⟨X.toNat, by omega⟩
    obtain ⟨l, rfl⟩ : ∃ l : Nat, L = l := ⟨L.toNat, by omega⟩
    obtain ⟨⟨z1, z2, _⟩, ⟨z3, z4, _⟩⟩ := good_in hg
    obtain ⟨fr, hfr⟩ : ∃ fr, fr = h.size + 1 := ⟨_, rfl⟩
    have hf1 : 2 ≤ fr ∧ fr ≤ 15 := by omega
    have HFR := Lib.hid hfr
    have GO := Lib.hid (fun wx => goals h t fr wx hg hfr)
    have LT := Lib.hid (fun f x b wx (hx : x ≤ 1000000) => leadsTo h t f l x b fr wx hg hfr (by omega) hx)
    have JN := Lib.hid (fun hn => lsV_none (h := h) (t := t) (l := l) (e := e) ha hn)
    have JS := Lib.hid (fun k hk hke hn => lsV_some (h := h) (t := t) (l := l) (e := e) (k := k) ha hk hke hn)
    unfold cst at GO LT
    rw [ha] at A
    have HA := Lib.hid A
    clear A ha hg hl hfr
    go_enter Try.func24, Try.ntmps24
    go_wp2_with fail
    refine (HA.out _).mono ?_
    rintro e1 w1 ⟨rfl, hb1⟩
    have X1 := Lib.hid (X0.out.below hb1 (by simp))
    have s1 : w.heap.size + 1 ≤ w1.heap.size := by have := hb1.size; simpa using this
    have B1 := Lib.hid (B0.out.trans (hb1.mono (by simp)))
    obtain ⟨c0, c1, cl⟩ := X1.out.two
    clear hb1
    go_wp2_with fail
    refine (GO.out _).mono ?_
    rintro e2 w2 ⟨d, rfl, hI, hb2⟩
    have I2 := Lib.hid (show Bools w2 w1.heap.size _ (fl (fr + 1) (bk h t l e (e - e))) by
      rw [Nat.sub_self, fl_ext (g := fun p => p == fr) fun j _ => by rw [HFR.out]; rfl]; exact hI)
    have X2 := Lib.hid (X1.out.below hb2 cl)
    have B2 := Lib.hid hb2
    clear hI hb2 c0 c1 cl
    go_wp2
    go_loopw [11, 12] (fun v i wr => ∃ (k c : Nat), k ≤ e ∧ i = .int .i64 ((k : Int) - 1) ∧ v = .slice (some ⟨c, 0, none⟩) (fr + 1) (fr + 1) ∧ Hid (Bools wr w1.heap.size (.slice (some ⟨c, 0, none⟩) (fr + 1) (fr + 1)) (fl (fr + 1) (bk h t l e (e - k)))) ∧ Hid (Blk wr w.heap.size #[.string h, .string t]) ∧ Hid (Below w1.heap.size w1 wr) ∧ Hid (∀ m : Nat, k ≤ m → m ≤ e → okS h t l e m = false)) (fun _ i _ => (intOf i + 1).toNat)
    case atStart => exact ⟨e, d, Nat.le_refl _, rfl, rfl, I2, X2, B2, Lib.hid (fun m h1 h2 => by rw [show m = e by omega]; exact okS_end _ _ _ _)⟩
    case round =>
      clear I2 X2 B2
      obtain ⟨k, c, hk, rfl, rfl, I2, X2, B2, HN⟩ := hrel
      rcases k with _ | k
      · have J := Lib.hid (JN.out fun m hm => HN.out m (by omega) hm)
        have hneg : ¬ (0 : Int) ≤ ((0 : Nat) : Int) - 1 := by omega
        clear I2
        go_wp2
        go_ret2
        exact ⟨ret_v J.out.symm, B1.out.trans (B2.out.mono (by omega))⟩
      · have ek : ((k + 1 : Nat) : Int) - 1 = (k : Int) := by omega
        simp only [ek]
        have hk0 : (0 : Int) ≤ k := by omega
        obtain ⟨d0, d1, dl⟩ := X2.out.two
        have hcb := I2.out.blk
        have LK := Lib.hid (LT.out (bk h t l e (e - (k + 1))) k c wr (by omega) hcb.2 (fun j hj => I2.out.at_ hj))
        have eb : ∀ p, stF h t (bk h t l e (e - (k + 1))) l k p = bk h t l e (e - k) p := fun p => by
          rw [show e - k = (e - (k + 1)) + 1 by omega]
          show _ = stF h t (bk h t l e (e - (k + 1))) l (e - (e - (k + 1)) - 1) p
          rw [show e - (e - (k + 1)) - 1 = k by omega]
        have EB := Lib.hid (fl_ext (N := fr + 1) fun p _ => eb p)
        have E0 := Lib.hid (bk_ok (h := h) (t := t) (l := l) (e := e) (s := k) (by omega))
        clear eb I2 ek
        go_wp2_with fail
        refine LK.out.mono ?_
        rintro e3 w3 ⟨c', rfl, hI3, hb3⟩
        rw [EB.out] at hI3
        have hI4 : Bools w3 w1.heap.size _ _ := bools_mono hI3 (by omega)
        have cz := hI4.at_ (j := 0) (by omega)
        rw [E0.out] at cz
        have I3 := Lib.hid hI4
        have X3 := Lib.hid (X2.out.below hb3 dl)
        have B3 := Lib.hid (B2.out.trans (hb3.mono (by omega)))
        clear hI3 hI4 hb3
        cases ho : okS h t l e k
        · rw [ho] at cz
          have HN2 := Lib.hid (show ∀ m : Nat, k ≤ m → m ≤ e → okS h t l e m = false from fun m h1 h2 => by
            by_cases c : m = k
            · rw [c]; exact ho
            · exact HN.out m (by omega) h2)
          clear ho
          go_wp2
          go_roundw
          case rel => exact ⟨k, c', by omega, by go_num, rfl, I3, X3, B3, HN2⟩
          case measure => (simp [intOf]; try omega)
        · rw [ho] at cz
          have J := Lib.hid (JS.out k ho (by omega) (fun m h1 h2 => HN.out m (by omega) h2))
          clear ho
          go_wp2
          go_ret2
          exact ⟨ret_v J.out.symm, B1.out.trans (B3.out.mono (by omega))⟩
end Go.Proofs.Ytmlokapbholeoab
