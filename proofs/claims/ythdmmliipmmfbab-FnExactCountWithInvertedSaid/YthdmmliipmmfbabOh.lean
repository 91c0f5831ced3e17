/- CountWithInverted, impl and spec. -/
import Derived.Test.YthdmmliipmmfbabOg
namespace Go.Proofs.Ythdmmliipmmfbab
set_option linter.unusedVariables false
open Go.RowKit

def smN (f : Nat → Nat) (j : Nat) : Nat → Nat
  | 0 => 0
  | m + 1 => smN f j m + f (j - m)
theorem smN_le {f : Nat → Nat} {M : Nat} (h : ∀ i, f i ≤ M) (j : Nat) : ∀ m, smN f j m ≤ M * m
  | 0 => Nat.zero_le _
  | m + 1 => by
    have := smN_le h j m; have := h (j - m)
    rw [smN, Nat.mul_succ]; omega
theorem smN_zero {f : Nat → Nat} {j L : Nat} (h : ∀ i, L ≤ i → f i = 0) : ∀ m, L + m ≤ j + 1 → smN f j m = 0
  | 0, _ => rfl
  | m + 1, hm => by rw [smN, smN_zero h m (by omega), h _ (by omega)]
/-- how many orders of b boats have i inverted two -/
def cin : Nat → Nat → Nat
  | 0, i => if i = 0 then 1 else 0
  | b + 1, i => smN (cin b) i (min (b + 1) (i + 1))
theorem cin_le : ∀ (b i : Nat), b ≤ 8 → cin b i ≤ 8 ^ b
  | 0, i, _ => by unfold cin; split <;> simp
  | b + 1, i, h => by
    have h1 := smN_le (fun i => cin_le b i (by omega)) i (min (b + 1) (i + 1))
    rw [cin, Nat.pow_succ]
    exact Nat.le_trans h1 (Nat.mul_le_mul_left _ (by omega))
theorem cin_le8 {b : Nat} (h : b ≤ 8) (i : Nat) : cin b i ≤ 16777216 :=
  Nat.le_trans (cin_le b i h) (Nat.le_trans (Nat.pow_le_pow_right (by omega) h) (by decide))
/-- how many numbers of inverted two there can be -/
def lnI : Nat → Nat
  | 0 => 1
  | k + 1 => lnI k + k
theorem lnI_le : ∀ k, k ≤ 8 → lnI k ≤ 1 + 8 * k
  | 0, _ => by simp [lnI]
  | k + 1, h => by have := lnI_le k (by omega); rw [lnI]; omega
theorem lnI_pos : ∀ k, 1 ≤ lnI k
  | 0 => by simp [lnI]
  | k + 1 => by have := lnI_pos k; rw [lnI]; omega
theorem cin_far : ∀ (k j : Nat), lnI k ≤ j → cin k j = 0
  | 0, j, h => by rw [lnI] at h; unfold cin; rw [if_neg (by omega)]
  | k + 1, j, h => by
    rw [lnI] at h
    rw [cin]
    exact smN_zero (L := lnI k) (fun i hi => cin_far k i hi) _ (by omega)
/-- the sums by spec's order -/
def gG (f : Nat → Nat) (k : Nat) : Nat → Nat → Nat
  | 0, _ => 0
  | i + 1, j => gG f k i j + (if i ≤ j ∧ j < i + k then f i else 0)
theorem gG_le {f : Nat → Nat} {M k : Nat} (h : ∀ i, f i ≤ M) (j : Nat) : ∀ i, gG f k i j ≤ M * i
  | 0 => Nat.zero_le _
  | i + 1 => by
    have := gG_le (k := k) h j i; have := h i
    rw [gG, Nat.mul_succ]; split <;> omega
theorem gG_more {f : Nat → Nat} {k j : Nat} : ∀ t, gG f k (j + 1 + t) j = gG f k (j + 1) j
  | 0 => rfl
  | t + 1 => by
    rw [show j + 1 + (t + 1) = (j + 1 + t) + 1 by omega, gG, if_neg (by omega), gG_more t]; rfl
theorem gG_zero {f : Nat → Nat} {k j L : Nat} (h : ∀ i, L ≤ i → f i = 0) : ∀ t, gG f k (L + t) j = gG f k L j
  | 0 => rfl
  | t + 1 => by
    rw [show L + (t + 1) = (L + t) + 1 by omega, gG, h _ (by omega), gG_zero h t]; simp
theorem gG_back {f : Nat → Nat} {k j : Nat} : ∀ t, t ≤ j + 1 → gG f k (j + 1) j = gG f k (j + 1 - t) j + smN f j (min k t)
  | 0, _ => by simp [smN]
  | t + 1, h => by
    rw [gG_back t (by omega)]
    obtain ⟨q, hq⟩ : ∃ q, q = j - t := ⟨_, rfl⟩
    rw [show j + 1 - t = q + 1 by omega, show j + 1 - (t + 1) = q by omega, gG]
    by_cases c : t < k
    · rw [if_pos (by omega), show min k (t + 1) = t + 1 by omega, show min k t = t by omega, smN, show j - t = q by omega]
      omega
    · rw [if_neg (by omega), show min k (t + 1) = k by omega, show min k t = k by omega]
      simp
theorem gG_cin (k j : Nat) : gG (cin k) (k + 1) (lnI k) j = cin (k + 1) j := by
  have h0 : gG (cin k) (k + 1) (lnI k) j = gG (cin k) (k + 1) (j + 1) j := by
    by_cases c : lnI k ≤ j + 1
    · obtain ⟨t, ht⟩ : ∃ t, j + 1 = lnI k + t := ⟨j + 1 - lnI k, by omega⟩
      rw [ht, gG_zero (fun i hi => cin_far k i hi)]
    · obtain ⟨t, ht⟩ : ∃ t, lnI k = j + 1 + t := ⟨lnI k - (j + 1), by omega⟩
      rw [ht, gG_more]
  rw [h0, gG_back (j + 1) (by omega), cin, Nat.sub_self, gG]
  simp
def ciB (b c : Int) : Bool := inB b 1 8 && decide (0 ≤ c)
set_option maxHeartbeats 2000000 in
theorem countInv : ∀ (b i : Nat) (w : World), b ≤ 8 → (i : Int) ≤ 9223372036854775807 →
    Calls Try.prog 38 #[.int .i64 b, .int .i64 i] w fun e w' => e = .returned (.int .i64 (cin b i : Int)) ∧ w = w'
  | 0, i, w, hb, hc => by
    by_cases h0 : i = 0
    · subst h0
      go_enter Try.func38, Try.ntmps38
      go_wp2
      go_ret
      exact ⟨rfl, rfl⟩
    · have R := Lib.hid (show cin 0 i = 0 by unfold cin; rw [if_neg h0])
      have g : ((i : Int) == 0) = false := by simpa using h0
      go_enter Try.func38, Try.ntmps38
      go_wp2
      go_loop [5, 6] (fun s m => s = .int .i64 0 ∧ m = .int .i64 0) (fun _ _ => 0)
      case atStart => exact ⟨rfl, rfl⟩
      case round =>
        obtain ⟨rfl, rfl⟩ := hrel
        go_wp2
        go_ret
        exact ⟨ret_w (by rw [R.out]; rfl), rfl⟩
  | b + 1, i, w, hb, hc => by
    have IH := Lib.hid (fun q (hq : q ≤ i) wx => countInv b q wx (by omega) (by omega))
    have CB := Lib.hid (fun q => cin_le8 (b := b) (by omega) q)
    have R := Lib.hid (show cin (b + 1) i = smN (cin b) i (min (b + 1) (i + 1)) from rfl)
    have SB := Lib.hid (fun m => smN_le CB.out i m)
    have hb0 : ((b : Int) + 1 == 0) = false := by simp; omega
    generalize cin (b + 1) i = z at *
    rw [show ((b + 1 : Nat) : Int) = (b : Int) + 1 by simp]
    go_enter Try.func38, Try.ntmps38
    go_wp2
    go_loop [5, 6] (fun s m => ∃ k : Nat, k ≤ b + 1 ∧ k ≤ i + 1 ∧ m = .int .i64 k ∧ s = .int .i64 (smN (cin b) i k : Int)) (fun _ m => b + 1 - (intOf m).toNat)
    case atStart => exact ⟨0, by omega, by omega, rfl, rfl⟩
    case round =>
      obtain ⟨k, hk, hki, rfl, rfl⟩ := hrel
      by_cases hlt : k < b + 1
      · by_cases hle : k ≤ i
        · have hlt' : (k : Int) < (b : Int) + 1 := by omega
          have hle' : (k : Int) ≤ (i : Int) := by omega
          obtain ⟨q, hq⟩ : ∃ q, q = i - k := ⟨_, rfl⟩
          have hqi : (i : Int) - (k : Int) = (q : Int) := by omega
          have E := Lib.hid (show smN (cin b) i (k + 1) = smN (cin b) i k + cin b q by rw [hq]; rfl)
          have b1 := CB.out q
          have b2 := SB.out k
          have I1 := Lib.hid (IH.out q (by omega) w)
          clear hq
          generalize smN (cin b) i k = s at *
          generalize cin b q = x at *
          go_wp2_with (go_at_call 38; (with_reducible refine I1.out.mono ?_); rintro e w' ⟨rfl, rfl⟩)
          go_round
          case rel => exact ⟨k + 1, by omega, by omega, by go_num, by rw [E.out]; simp⟩
          case measure => (simp [intOf]; try omega)
        · have hlt' : (k : Int) < (b : Int) + 1 := by omega
          have hle' : ¬ (k : Int) ≤ (i : Int) := by omega
          have R2 := Lib.hid (show z = smN (cin b) i k by rw [R.out, show min (b + 1) (i + 1) = k by omega])
          go_wp2
          go_ret
          exact ⟨ret_w (by rw [R2.out]; rfl), rfl⟩
      · have hlt' : ¬ (k : Int) < (b : Int) + 1 := by omega
        have R2 := Lib.hid (show z = smN (cin b) i k by rw [R.out, show min (b + 1) (i + 1) = k by omega])
        go_wp2
        go_ret
        exact ⟨ret_w (by rw [R2.out]; rfl), rfl⟩
set_option maxHeartbeats 2000000 in
theorem implCin (b c : Int) (w : World) (hc : c ≤ 9223372036854775807) :
    Calls Try.prog 21 #[.int .i64 b, .int .i64 c] w fun e w' => e = .returned (ansV (ccB b c) (cin b.toNat c.toNat)) ∧ Below w.heap.size w w' := by
  have E := Lib.hid (show ccB b c = (inB b 1 8 && decide (0 ≤ c)) from rfl)
  have HB := Lib.hid (isBoatCount b w)
  cases hb : inB b 1 8
  · have J := Lib.hid (ansV_no (x := (cin b.toNat c.toNat : Int)) (show ccB b c = false from E.out.trans (by simp [hb])))
    rw [hb] at HB
    clear hb E
    go_enter Try.func21, Try.ntmps21
    go_wp2_with (go_at_call 35; refine HB.out.mono ?_; rintro e w' ⟨rfl, rfl⟩)
    go_ret2
    exact ⟨ret_v J.out.symm, Below.refl _ _⟩
  · have hb' := inB_iff.1 hb
    rw [hb] at HB
    by_cases h0 : 0 ≤ c
    · have J := Lib.hid (ansV_yes (x := (cin b.toNat c.toNat : Int)) (show ccB b c = true from E.out.trans (by simp [hb, h0])))
      obtain ⟨n, rfl⟩ : ∃ n : Nat, b = n := ⟨b.toNat, by omega⟩
      obtain ⟨i, rfl⟩ : ∃ i : Nat, c = i := ⟨c.toNat, by omega⟩
      have C := Lib.hid (countInv n i w (by omega) hc)
      simp only [Int.toNat_natCast] at J ⊢
      have hc0 : ¬ (i : Int) < 0 := by omega
      clear hb E
      go_enter Try.func21, Try.ntmps21
      go_wp2_with (first
        | (go_at_call 35; refine HB.out.mono ?_; rintro e w' ⟨rfl, rfl⟩)
        | (go_at_call 38; refine C.out.mono ?_; rintro e w' ⟨rfl, rfl⟩))
      go_ret2
      exact ⟨ret_v J.out.symm, Below.refl _ _⟩
    · have J := Lib.hid (ansV_no (x := (cin b.toNat c.toNat : Int)) (show ccB b c = false from E.out.trans (by simp [hb, h0])))
      have hc0 : c < 0 := by omega
      clear hb E h0
      go_enter Try.func21, Try.ntmps21
      go_wp2_with (go_at_call 35; refine HB.out.mono ?_; rintro e w' ⟨rfl, rfl⟩)
      go_ret2
      exact ⟨ret_v J.out.symm, Below.refl _ _⟩
/-- the next row: the first i numbers are laid out, and m times the next one -/
def giF (k i m j : Nat) : Int := (gG (cin k) (k + 1) i j : Int) + (if i ≤ j ∧ j < i + m then (cin k i : Int) else 0)
theorem giF_put {k i m : Nat} (q : Nat) : (if q = i + m then giF k i m q + (cin k i : Int) else giF k i m q) = giF k i (m + 1) q := by
  unfold giF
  by_cases e : q = i + m
  · rw [if_pos e, if_neg (by omega), if_pos (by omega)]; omega
  · rw [if_neg e]
    by_cases c : i ≤ q ∧ q < i + m
    · rw [if_pos c, if_pos (by omega)]
    · rw [if_neg c, if_neg (by omega)]
theorem giF_next {k i : Nat} (q : Nat) : giF k i (k + 1) q = giF k (i + 1) 0 q := by
  unfold giF
  rw [gG, if_neg (by omega : ¬ (i + 1 ≤ q ∧ q < i + 1 + 0))]
  by_cases c : i ≤ q ∧ q < i + (k + 1)
  · rw [if_pos c, if_pos c]; simp
  · rw [if_neg c, if_neg c]; simp
theorem giF_end (k q : Nat) : giF k (lnI k) 0 q = (cin (k + 1) q : Int) := by
  unfold giF
  rw [if_neg (by omega : ¬ (lnI k ≤ q ∧ q < lnI k + 0)), gG_cin]; simp
theorem giF_start (k q : Nat) : giF k 0 0 q = 0 := by
  unfold giF
  rw [if_neg (by omega : ¬ (0 ≤ q ∧ q < 0 + 0))]; rfl
theorem giF_in {k : Nat} (h : k ≤ 8) {i : Nat} (hi : i ≤ 100) (m q : Nat) : 0 ≤ giF k i m q ∧ giF k i m q ≤ 2000000000 := by
  have h1 := gG_le (k := k + 1) (fun i => cin_le8 h i) q i
  have h2 := cin_le8 h i
  unfold giF
  split <;> omega
set_option maxHeartbeats 4000000 in
theorem specCin (b c : Int) (w : World) (hc : c ≤ 9223372036854775807) :
    Calls Try.prog 20 #[.int .i64 b, .int .i64 c] w fun e w' => e = .returned (ansV (ccB b c) (cin b.toNat c.toNat)) ∧ Below w.heap.size w w' := by
  have E := Lib.hid (show ccB b c = (inB b 1 8 && decide (0 ≤ c)) from rfl)
  have HB := Lib.hid (ptBoats b w)
  cases hb : inB b 1 8
  · have J := Lib.hid (ansV_no (x := (cin b.toNat c.toNat : Int)) (show ccB b c = false from E.out.trans (by simp [hb])))
    rw [hb] at HB
    clear hb E
    go_enter Try.func20, Try.ntmps20
    go_wp2_with (go_at_call 33; refine HB.out.mono ?_; rintro e w' ⟨rfl, rfl⟩)
    go_ret2
    exact ⟨ret_v J.out.symm, Below.refl _ _⟩
  have hb' := inB_iff.1 hb
  rw [hb] at HB
  by_cases h0 : ¬ 0 ≤ c
  · have J := Lib.hid (ansV_no (x := (cin b.toNat c.toNat : Int)) (show ccB b c = false from E.out.trans (by simp [hb, h0])))
    have hc0 : c < 0 := by omega
    clear hb E h0
    go_enter Try.func20, Try.ntmps20
    go_wp2_with (go_at_call 33; refine HB.out.mono ?_; rintro e w' ⟨rfl, rfl⟩)
    go_ret2
    exact ⟨ret_v J.out.symm, Below.refl _ _⟩
  have h0 : 0 ≤ c := by omega
  have J := Lib.hid (ansV_yes (x := (cin b.toNat c.toNat : Int)) (show ccB b c = true from E.out.trans (by simp [hb, h0])))
  obtain ⟨n, rfl⟩ : ∃ n : Nat, b = n := ⟨b.toNat, by omega⟩
  obtain ⟨i0, rfl⟩ : ∃ i : Nat, c = i := ⟨c.toNat, by omega⟩
  simp only [Int.toNat_natCast] at J ⊢
  have hc0 : ¬ (i0 : Int) < 0 := by omega
  obtain ⟨d, hd⟩ : ∃ d, d = w.heap.size := ⟨_, rfl⟩
  have HD := Lib.hid hd
  have hn8 : 1 ≤ n ∧ n ≤ 8 := by omega
  have I0 : Ints (w.alloc (.cells #[.int .i64 1] 3)) d (.slice (some ⟨w.heap.size, 0, none⟩) 1 1) (fl (lnI 1) (fun j => (cin 1 j : Int))) := by
    have := World.ownsRow_lit (base := d) (e := 3) (size := 1) w #[.int .i64 1] 1 (by omega) (by decide) rfl
    have e : fl (lnI 1) (fun j => (cin 1 j : Int)) = [1] := by decide
    rw [e]
    exact this
  have B0 : Below d w (w.alloc (.cells #[.int .i64 1] 3)) := (Below.refl _ _).alloc (by omega) _
  have HI0 := Lib.hid I0
  have HB0 := Lib.hid B0
  clear hb E hb' h0 I0 B0
  go_enter Try.func20, Try.ntmps20
  go_wp2_with (go_at_call 33; refine HB.out.mono ?_; rintro e w' ⟨rfl, rfl⟩)
  rw [← hd] at HI0
  clear hd
  go_loopw [6, 7] (fun v x wr => ∃ k c : Nat, 1 ≤ k ∧ k ≤ n ∧ x = .int .i64 ((k : Int) + 1) ∧ v = .slice (some ⟨c, 0, none⟩) (lnI k) (lnI k) ∧ Hid (Ints wr d (.slice (some ⟨c, 0, none⟩) (lnI k) (lnI k)) (fl (lnI k) (fun j => (cin k j : Int)))) ∧ Hid (Below d w wr)) (fun _ i _ => n + 1 - (intOf i).toNat)
  case atStart => exact ⟨1, d, by omega, by omega, rfl, (by rw [HD.out]; rfl), HI0, HB0⟩
  case round =>
    clear HI0 HB0
    obtain ⟨k, c, hk1, hk, rfl, rfl, HI, HBW⟩ := hrel
    obtain ⟨wo, rfl⟩ : ∃ wo : World, wo = wr := ⟨_, rfl⟩
    by_cases hlt : k < n
    · have hlt' : (k : Int) + 1 ≤ n := by omega
      have hL1 := lnI_pos k
      have hL2 := lnI_le k (by omega)
      have CE := Lib.hid (fun q => giF_end k q)
      have hL := Lib.hid (show lnI (k + 1) = lnI k + k from rfl)
      have CP := Lib.hid (fun i m q => giF_put (k := k) (i := i) (m := m) q)
      have CN := Lib.hid (fun i q => giF_next (k := k) (i := i) q)
      have CI := Lib.hid (fun i (hi : i ≤ 100) m q => giF_in (k := k) (by omega) hi m q)
      have CB := Lib.hid (fun q => cin_le8 (b := k) (by omega) q)
      have hcb := HI.out.blk
      generalize lnI k = L at *
      obtain ⟨M, hM⟩ : ∃ M, M = L + k := ⟨_, rfl⟩
      have hMi : (L : Int) + ((k : Int) + 1) - 1 = M := by omega
      have HM := Lib.hid hM
      have hM1 : M ≤ 100 := by omega
      have hLM : L + k ≤ M := by omega
      clear hM
      have hle := HBW.out.size
      have HDo := HD.out
      go_wp2_with (at_make; refine wpList_mk rfl _ _ rfl wo.heap.size M _ rfl rfl (by omega) (by omega) (Nat.le_refl _) ?_; intro w3 hI3 hb3 hg3)
      obtain ⟨e, he⟩ : ∃ e, e = wo.heap.size := ⟨_, rfl⟩
      rw [← he] at hI3 hb3 ⊢
      rw [fl_rep] at hI3
      have HI1 : Hid (Ints w3 e (.slice (some ⟨e, 0, none⟩) M M) (fl M (giF k 0 0))) := Lib.hid (by
        rw [show fl M (giF k 0 0) = fl M (fun _ => 0) from fl_ext fun j _ => giF_start k j]; exact hI3)
      have HI2 := Lib.hid (HI.out.below (by rw [← he]; exact hb3))
      have HB3 := Lib.hid (HBW.out.trans (hb3.mono (by omega)))
      have hce : c < e := by omega
      have hde : d ≤ e := by omega
      have HE := Lib.hid he
      have HW := Lib.hid HDo
      clear hI3 hb3 hg3 he HI HBW hcb hle HDo hMi
      go_loopw [33] (fun i wr => ∃ p : Nat, p ≤ L ∧ i = .int .i64 p ∧ Hid (Ints wr e (.slice (some ⟨e, 0, none⟩) M M) (fl M (giF k p 0))) ∧ Hid (Ints wr d (.slice (some ⟨c, 0, none⟩) L L) (fl L (fun j => (cin k j : Int)))) ∧ Hid (Below d w wr)) (fun i _ => L - (intOf i).toNat)
      case atStart => exact ⟨0, by omega, rfl, HI1, HI2, HB3⟩
      case round =>
        clear HI1 HI2 HB3
        obtain ⟨p, hp, rfl, HI1, HI2, HB3⟩ := hrel
        obtain ⟨wp, rfl⟩ : ∃ wp : World, wp = wr := ⟨_, rfl⟩
        by_cases hlp : p < L
        · have hlp' : (p : Int) < L := by omega
          have cp := HI2.out.at_ hlp
          go_wp2
          go_loopw [11] (fun b wr => ∃ m : Nat, m ≤ k + 1 ∧ b = .int .i64 m ∧ Hid (Ints wr e (.slice (some ⟨e, 0, none⟩) M M) (fl M (giF k p m))) ∧ Hid (Ints wr d (.slice (some ⟨c, 0, none⟩) L L) (fl L (fun j => (cin k j : Int)))) ∧ Hid (Below d w wr)) (fun b _ => k + 1 - (intOf b).toNat)
          case atStart => exact ⟨0, by omega, rfl, HI1, HI2, HB3⟩
          case round =>
            clear HI1 HI2 HB3 cp
            obtain ⟨m, hm, rfl, HI1, HI2, HB3⟩ := hrel
            by_cases hlm : m < k + 1
            · have hlm' : (m : Int) < (k : Int) + 1 := by omega
              have hpm : p + m < M := by omega
              have hpm' : (p : Int) + m < M := by omega
              have hpm0 : (0 : Int) ≤ (p : Int) + m := by omega
              have hpmt : ((p : Int) + m).toNat = p + m := by omega
              have ce := HI1.out.at_ hpm
              have cf := HI1.out.fr_ (p + m)
              have S := HI1.out.put (p + m) (giF k p m (p + m) + (cin k p : Int))
              have E := CP.out p m
              have hE : ∀ i, (if i = p + m then giF k p m (p + m) + (cin k p : Int) else giF k p m i) = giF k p (m + 1) i := fun i => by
                rw [← E i]; by_cases e : i = p + m
                · rw [if_pos e, if_pos e, e]
                · rw [if_neg e, if_neg e]
              rw [fl_ext fun i _ => hE i] at S
              have b1 := CI.out p (by omega) m (p + m)
              have b2 := CB.out p
              have hle := HB3.out.size
              have hgr := HI1.out.blk
              have SB := Lib.hid (HB3.out.grown S.2 (by have := HW.out; omega) (by intro j hj; cases hj; exact hde))
              have S2 := Lib.hid (HI2.out.kept S.2 (.inr (by intro h; have : c = e := Option.some.inj h; omega)))
              have SS := Lib.hid S.1
              clear S E hE hle
              generalize giF k p m (p + m) = x at *
              generalize cin k p = y at *
              go_wp2
              go_roundw
              case rel => exact ⟨m + 1, by omega, by go_num, SS, S2, SB⟩
              case measure => (simp [intOf]; try omega)
            · obtain rfl : m = k + 1 := by omega
              have E := Lib.hid (fun i => CN.out p i)
              have hkk : ¬ (((k + 1 : Nat) : Int) < (k : Int) + 1) := by omega
              go_wp2
              go_roundw
              case rel => exact ⟨p + 1, by omega, by go_num, Lib.hid (by rw [← fl_ext fun i _ => E.out i]; exact HI1.out), HI2, HB3⟩
              case measure => (simp [intOf]; try omega)
        · obtain rfl : p = L := by omega
          go_wp2
          go_roundw
          case rel => exact ⟨k + 1, e, by omega, by omega, by go_num, by rw [hL.out, HM.out], Lib.hid (by rw [hL.out, ← HM.out, ← fl_ext fun i _ => CE.out i]; exact ints_mono' HI1.out hde), HB3⟩
          case measure => (simp [intOf]; try omega)
    · obtain rfl : k = n := by omega
      have R := Lib.hid (fun q (h : lnI k ≤ q) => cin_far k q h)
      generalize lnI k = L at *
      by_cases hck : L ≤ i0
      · have R2 := Lib.hid (R.out i0 hck)
        have hck' : (L : Int) ≤ i0 := by omega
        go_wp2
        go_ret2
        exact ⟨ret_v (by rw [J.out, R2.out]; rfl), by rw [← HD.out]; exact HBW.out⟩
      · have e1 := HI.out.at_ (j := i0) (by omega)
        have hck' : ¬ (L : Int) ≤ i0 := by omega
        have hqN : (i0 : Int) < L := by omega
        go_wp2
        go_ret2
        exact ⟨ret_v J.out.symm, by rw [← HD.out]; exact HBW.out⟩
end Go.Proofs.Ythdmmliipmmfbab
