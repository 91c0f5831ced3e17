/- CountWithCycles, impl and spec. -/
import Derived.Test.YthdmmliipmmfbabOc
import Derived.Deep.CutRange
import Derived.Deep.DeepCutAuto
import Derived.RegionTactic
import Derived.BigRegion
import Derived.StillTailTactics
namespace Go.Proofs.Ythdmmliipmmfbab
set_option linter.unusedVariables false
open Go.RowKit

/-- how many orders of b boats have c cycles -/
def cyc : Nat → Int → Nat
  | 0, c => if c = 0 then 1 else 0
  | b + 1, c => cyc b (c - 1) + b * cyc b c
theorem cyc_le : ∀ (b : Nat) (c : Int), b ≤ 8 → cyc b c ≤ 8 ^ b
  | 0, c, _ => by unfold cyc; split <;> simp
  | b + 1, c, h => by
    have h1 := cyc_le b (c - 1) (by omega)
    have h2 : b * cyc b c ≤ 7 * 8 ^ b := Nat.mul_le_mul (by omega) (cyc_le b c (by omega))
    rw [cyc, Nat.pow_succ]; omega
theorem cyc_le8 {b : Nat} (h : b ≤ 8) (c : Int) : cyc b c ≤ 16777216 :=
  Nat.le_trans (cyc_le b c h) (Nat.le_trans (Nat.pow_le_pow_right (by omega) h) (by decide))
theorem cyc_far : ∀ (b : Nat) (c : Int), (b : Int) < c → cyc b c = 0
  | 0, c, h => by unfold cyc; rw [if_neg (by omega)]
  | b + 1, c, h => by
    rw [cyc, cyc_far b (c - 1) (by omega), cyc_far b c (by omega)]; simp
theorem cyc_low : ∀ (b : Nat) (c : Int), 1 ≤ b → c ≤ 0 → cyc b c = 0
  | 0, c, h, _ => absurd h (by decide)
  | b + 1, c, h, hc => by
    by_cases e : b = 0
    · subst e
      rw [cyc, cyc, if_neg (by omega)]; simp
    · rw [cyc, cyc_low b (c - 1) (by omega) (by omega), cyc_low b c (by omega) hc]; simp
def ccB (b c : Int) : Bool := inB b 1 8 && decide (0 ≤ c)
set_option maxHeartbeats 2000000 in
theorem countCyc : ∀ (b : Nat) (c : Int) (w : World), b ≤ 8 → (b : Int) - 8 ≤ c → c ≤ 9223372036854775807 →
    Calls Try.prog 39 #[.int .i64 b, .int .i64 c] w fun e w' => e = .returned (.int .i64 (cyc b c : Int)) ∧ w = w'
  | 0, c, w, hb, hc, hc2 => by
    by_cases h0 : c = 0
    · subst h0
      go_enter Try.func39, Try.ntmps39
      go_wp2
      go_ret
      exact ⟨rfl, rfl⟩
    · have R := Lib.hid (show cyc 0 c = 0 by unfold cyc; rw [if_neg h0])
      have g : (c == 0) = false := by simpa using h0
      go_enter Try.func39, Try.ntmps39
      go_wp2
      go_ret
      exact ⟨ret_w (by rw [R.out]; rfl), rfl⟩
  | b + 1, c, w, hb, hc, hc2 => by
    have I1 := Lib.hid (countCyc b (c - 1) w (by omega) (by omega) (by omega))
    have I2 := Lib.hid (countCyc b c w (by omega) (by omega) (by omega))
    have b1 := cyc_le8 (b := b) (by omega) (c - 1)
    have b2 := cyc_le8 (b := b) (by omega) c
    have R := Lib.hid (show cyc (b + 1) c = cyc b (c - 1) + b * cyc b c from rfl)
    generalize cyc (b + 1) c = z at *
    generalize cyc b (c - 1) = x at *
    generalize cyc b c = y at *
    have b3 : b * y ≤ 8 * 16777216 := Nat.mul_le_mul (by omega) b2
    obtain ⟨p, hp⟩ : ∃ p, p = b * y := ⟨_, rfl⟩
    have hpp : (b : Int) * (y : Int) = (p : Int) := by rw [hp]; simp
    rw [← hp] at b3
    have HP := Lib.hid hp
    have hb0 : ((b : Int) + 1 == 0) = false := by simp; omega
    clear hp
    rw [show ((b + 1 : Nat) : Int) = (b : Int) + 1 by simp]
    go_enter Try.func39, Try.ntmps39
    go_wp2_with (first
      | (go_at_call 39; (with_reducible refine I1.out.mono ?_); clear I1; rintro e w' ⟨rfl, rfl⟩)
      | (go_at_call 39; (with_reducible refine I2.out.mono ?_); rintro e w' ⟨rfl, rfl⟩))
    go_ret
    exact ⟨ret_w (by rw [R.out, ← HP.out]; simp), rfl⟩
set_option maxHeartbeats 2000000 in
theorem implCyc (b c : Int) (w : World) (hc : c ≤ 9223372036854775807) :
    Calls Try.prog 23 #[.int .i64 b, .int .i64 c] w fun e w' => e = .returned (ansV (ccB b c) (cyc b.toNat c)) ∧ Below w.heap.size w w' := by
  have E := Lib.hid (show ccB b c = (inB b 1 8 && decide (0 ≤ c)) from rfl)
  have HB := Lib.hid (isBoatCount b w)
  cases hb : inB b 1 8
  · have J := Lib.hid (ansV_no (x := (cyc b.toNat c : Int)) (show ccB b c = false from E.out.trans (by simp [hb])))
    rw [hb] at HB
    clear hb E
    go_enter Try.func23, Try.ntmps23
    go_wp2_with (go_at_call 35; refine HB.out.mono ?_; rintro e w' ⟨rfl, rfl⟩)
    go_ret2
    exact ⟨ret_v J.out.symm, Below.refl _ _⟩
  · have hb' := inB_iff.1 hb
    rw [hb] at HB
    by_cases h0 : 0 ≤ c
    · have J := Lib.hid (ansV_yes (x := (cyc b.toNat c : Int)) (show ccB b c = true from E.out.trans (by simp [hb, h0])))
      obtain ⟨n, rfl⟩ : ∃ n : Nat, b = n := ⟨b.toNat, by omega⟩
      have C := Lib.hid (countCyc n c w (by omega) (by omega) hc)
      have e : ((n : Int)).toNat = n := by simp
      rw [e] at J
      rw [e]
      have hc0 : ¬ c < 0 := by omega
      clear hb E e
      go_enter Try.func23, Try.ntmps23
      go_wp2_with (first
        | (go_at_call 35; refine HB.out.mono ?_; rintro e w' ⟨rfl, rfl⟩)
        | (go_at_call 39; refine C.out.mono ?_; rintro e w' ⟨rfl, rfl⟩))
      go_ret2
      exact ⟨ret_v J.out.symm, Below.refl _ _⟩
    · have J := Lib.hid (ansV_no (x := (cyc b.toNat c : Int)) (show ccB b c = false from E.out.trans (by simp [hb, h0])))
      have hc0 : c < 0 := by omega
      clear hb E h0
      go_enter Try.func23, Try.ntmps23
      go_wp2_with (go_at_call 35; refine HB.out.mono ?_; rintro e w' ⟨rfl, rfl⟩)
      go_ret2
      exact ⟨ret_v J.out.symm, Below.refl _ _⟩
theorem ptBoats (n : Int) (w : World) :
    Calls Try.prog 33 #[.int .i64 n] w fun e w' => e = .returned (.bool (inB n 1 8)) ∧ w = w' := by
  go_enter Try.func33, Try.ntmps33
  go_wp2_with (go_at_call 43; refine (l1In _ _ _ _).mono ?_; rintro e w' ⟨rfl, rfl⟩)
  go_ret
  exact ⟨rfl, rfl⟩
/-- the row behind: from c on downwards still the row of one boat less -/
def cyF (k c j : Nat) : Int := if c < j then (cyc k (j : Int) : Int) else (cyc (k - 1) (j : Int) : Int)
theorem cyF_put {k c : Nat} (h : 1 ≤ c) (hk : 2 ≤ k) (i : Nat) : (if i = c then (cyc (k - 1) (c : Int) : Int) * ((k : Int) - 1) + (cyc (k - 1) ((c : Int) - 1) : Int) else cyF k c i) = cyF k (c - 1) i := by
  unfold cyF
  by_cases e : i = c
  · subst e
    rw [if_pos rfl, if_pos (by omega)]
    obtain ⟨m, rfl⟩ : ∃ m, k = m + 1 := ⟨k - 1, by omega⟩
    rw [cyc]; simp
    rw [Int.mul_comm, Int.add_comm]
  · rw [if_neg e]
    by_cases g : c < i
    · rw [if_pos g, if_pos (by omega)]
    · rw [if_neg g, if_neg (by omega)]
theorem cyF_start {k : Nat} (hk : 2 ≤ k) (i : Nat) : (cyc (k - 1) (i : Int) : Int) = cyF k k i := by
  unfold cyF
  by_cases g : k < i
  · rw [if_pos g, cyc_far k i (by omega), cyc_far (k - 1) i (by omega)]
  · rw [if_neg g]
theorem cyF_end {k : Nat} (hk : 2 ≤ k) (i : Nat) : cyF k 0 i = (cyc k (i : Int) : Int) := by
  unfold cyF
  by_cases g : 0 < i
  · rw [if_pos g]
  · obtain rfl : i = 0 := by omega
    rw [if_neg (by omega), cyc_low (k - 1) _ (by omega) (by simp), cyc_low k _ (by omega) (by simp)]
set_option maxHeartbeats 4000000 in
theorem specCyc (b c : Int) (w : World) (hc : c ≤ 9223372036854775807) :
    Calls Try.prog 22 #[.int .i64 b, .int .i64 c] w fun e w' => e = .returned (ansV (ccB b c) (cyc b.toNat c)) ∧ Below w.heap.size w w' := by
  have E := Lib.hid (show ccB b c = (inB b 1 8 && decide (0 ≤ c)) from rfl)
  have HB := Lib.hid (ptBoats b w)
  cases hb : inB b 1 8
  · have J := Lib.hid (ansV_no (x := (cyc b.toNat c : Int)) (show ccB b c = false from E.out.trans (by simp [hb])))
    rw [hb] at HB
    clear hb E
    go_enter Try.func22, Try.ntmps22
    go_wp2_with (go_at_call 33; refine HB.out.mono ?_; rintro e w' ⟨rfl, rfl⟩)
    go_ret2
    exact ⟨ret_v J.out.symm, Below.refl _ _⟩
  have hb' := inB_iff.1 hb
  rw [hb] at HB
  by_cases h0 : ¬ 0 ≤ c
  · have J := Lib.hid (ansV_no (x := (cyc b.toNat c : Int)) (show ccB b c = false from E.out.trans (by simp [hb, h0])))
    have hc0 : c < 0 := by omega
    clear hb E h0
    go_enter Try.func22, Try.ntmps22
    go_wp2_with (go_at_call 33; refine HB.out.mono ?_; rintro e w' ⟨rfl, rfl⟩)
    go_ret2
    exact ⟨ret_v J.out.symm, Below.refl _ _⟩
  have h0 : 0 ≤ c := by omega
  have J := Lib.hid (ansV_yes (x := (cyc b.toNat c : Int)) (show ccB b c = true from E.out.trans (by simp [hb, h0])))
  obtain ⟨n, rfl⟩ : ∃ n : Nat, b = n := ⟨b.toNat, by omega⟩
  have e : ((n : Int)).toNat = n := by simp
  rw [e] at J
  rw [e]
  have hc0 : ¬ c < 0 := by omega
  obtain ⟨N, hN⟩ : ∃ N, N = n + 1 := ⟨_, rfl⟩
  have hNi : (n : Int) + 1 = N := by omega
  have HN := Lib.hid hN
  have hN2 : 2 ≤ N ∧ N ≤ 9 := by omega
  have hn8 : 1 ≤ n ∧ n ≤ 8 := by omega
  obtain ⟨d, hd⟩ : ∃ d, d = w.heap.size := ⟨_, rfl⟩
  have HD := Lib.hid hd
  clear hb E e hN hb'
  go_enter Try.func22, Try.ntmps22
  go_upto_region 4 with (first
    | (go_at_call 33; refine HB.out.mono ?_; rintro e w' ⟨rfl, rfl⟩)
    | (at_make; refine wpList_mk rfl _ _ rfl w.heap.size N _ rfl rfl (by omega) (by omega) (Nat.le_refl _) ?_; intro w1 hI hb1 hg1))
  rw [← hd] at hI hb1 ⊢
  rw [fl_rep] at hI
  have c1 := hI.at_ (j := 1) (by omega)
  have f1 := hI.fr_ 1
  have S := hI.put 1 1
  rw [show fl N (fun i => if i = 1 then (1 : Int) else 0) = fl N (fun j => (cyc 1 (j : Int) : Int)) from fl_ext fun j _ => by
    by_cases e : j = 1
    · subst e; rfl
    · rw [if_neg e, cyc, cyc, if_neg (by omega)]; simp] at S
  have SS := Lib.hid (And.intro S.1 (hb1.grown S.2 (by have := hI.blk; omega) (by intro j hj; cases hj; exact Nat.le_refl _)))
  clear S hI hb1 hg1 hd
  go_wp2
  go_loopw [7] (fun i wr => ∃ k : Nat, 1 ≤ k ∧ k ≤ n ∧ i = .int .i64 ((k : Int) + 1) ∧ Hid (Ints wr d (.slice (some ⟨d, 0, none⟩) N N) (fl N (fun j => (cyc k (j : Int) : Int)))) ∧ Hid (Below d w wr)) (fun i _ => n + 1 - (intOf i).toNat)
  case atStart => exact ⟨1, by omega, by omega, rfl, Lib.hid SS.out.1, Lib.hid SS.out.2⟩
  case round =>
    clear SS c1 f1
    obtain ⟨k, hk1, hk, rfl, HI, HBW⟩ := hrel
    obtain ⟨wo, rfl⟩ : ∃ wo : World, wo = wr := ⟨_, rfl⟩
    by_cases hlt : k < n
    · have hlt' : (k : Int) + 1 ≤ n := by omega
      have HI2 : Hid (Ints wo d (.slice (some ⟨d, 0, none⟩) N N) (fl N (cyF (k + 1) (k + 1)))) := Lib.hid (by
        rw [fl_ext fun j _ => (cyF_start (k := k + 1) (by omega) j).symm]; exact HI.out)
      clear HI
      go_wp2
      go_loopw [8] (fun i wr => ∃ q : Nat, q ≤ k + 1 ∧ i = .int .i64 (q : Int) ∧ Hid (Ints wr d (.slice (some ⟨d, 0, none⟩) N N) (fl N (cyF (k + 1) q))) ∧ Hid (Below d w wr)) (fun i _ => (intOf i).toNat)
      case atStart => exact ⟨k + 1, by omega, by simp, HI2, HBW⟩
      case round =>
        clear HI2 HBW
        obtain ⟨q, hq, rfl, HI, HBW⟩ := hrel
        by_cases hq0 : 0 < q
        · obtain ⟨p, rfl⟩ : ∃ p, q = p + 1 := ⟨q - 1, by omega⟩
          have P := Lib.hid (fun i => cyF_put (k := k + 1) (c := p + 1) (by omega) (by omega) i)
          have e1 := HI.out.at_ (j := p + 1) (by omega)
          have e2 := HI.out.at_ (j := p) (by omega)
          have f1 := HI.out.fr_ (p + 1)
          have v1 : cyF (k + 1) (p + 1) (p + 1) = (cyc k ((p + 1 : Nat) : Int) : Int) := by unfold cyF; rw [if_neg (by omega)]; simp
          have v2 : cyF (k + 1) (p + 1) p = (cyc k ((p : Nat) : Int) : Int) := by unfold cyF; rw [if_neg (by omega)]; simp
          rw [v1] at e1
          rw [v2] at e2
          have b1 := cyc_le8 (b := k) (by omega) ((p + 1 : Nat) : Int)
          have b2 := cyc_le8 (b := k) (by omega) ((p : Nat) : Int)
          have PP : Hid (∀ i, (if i = p + 1 then (cyc k ((p + 1 : Nat) : Int) : Int) * (k : Int) + (cyc k ((p : Nat) : Int) : Int) else cyF (k + 1) (p + 1) i) = cyF (k + 1) p i) := Lib.hid (fun i => by
            have := P.out i
            simp only [Nat.add_sub_cancel] at this
            rw [← this]
            simp)
          clear v1 v2 P
          generalize cyc k ((p + 1 : Nat) : Int) = x at *
          generalize cyc k ((p : Nat) : Int) = y at *
          have b3 : x * k ≤ 16777216 * 8 := Nat.mul_le_mul b1 (by omega)
          obtain ⟨z, hz⟩ : ∃ z, z = x * k := ⟨_, rfl⟩
          have hzz : (x : Int) * (k : Int) = (z : Int) := by rw [hz]; simp
          rw [← hz] at b3
          rw [hzz] at PP
          have S := HI.out.put (p + 1) ((z : Int) + (y : Int))
          rw [fl_ext fun i _ => PP.out i] at S
          have hle := HBW.out.size
          have SS := Lib.hid (And.intro S.1 (HBW.out.grown S.2 (by have := HD.out; omega) (by intro j hj; cases hj; exact Nat.le_refl _)))
          have hpn : p + 1 < N := by omega
          have hpi : ((p + 1 : Nat) : Int) = (p : Int) + 1 := by simp
          rw [hpi]
          have hpi2 : (p : Int) + 1 < N := by omega
          have hpi3 : (p : Int) < N := by omega
          clear S hle hz PP hpi
          go_wp2
          go_region
          go_wp2
          go_roundw
          case rel => exact ⟨p, by omega, by go_num, Lib.hid (SS.out.1.below (below_drewN (Below.refl _ _) 1)), Lib.hid (below_drewN SS.out.2 1)⟩
          case measure => (simp [intOf]; try omega)
        · obtain rfl : q = 0 := by omega
          have E := Lib.hid (fun i => cyF_end (k := k + 1) (by omega) i)
          go_wp2
          go_roundw
          case rel => exact ⟨k + 1, by omega, by omega, by go_num, Lib.hid (by rw [← fl_ext fun i _ => E.out i]; exact HI.out), HBW⟩
          case measure => (simp [intOf]; try omega)
    · obtain rfl : k = n := by omega
      by_cases hck : (k : Int) < c
      · have R := Lib.hid (cyc_far k c hck)
        go_wp2
        go_ret2
        exact ⟨ret_v (by rw [J.out, R.out]; rfl), by rw [← HD.out]; exact HBW.out⟩
      · obtain ⟨q, rfl⟩ : ∃ q : Nat, c = q := ⟨c.toNat, by omega⟩
        have e1 := HI.out.at_ (j := q) (by have := HN.out; omega)
        have hqk : ¬ ((k : Int) < (q : Int)) := hck
        have hqN : (q : Int) < N := by have := HN.out; omega
        clear hck
        go_wp2
        go_ret2
        exact ⟨ret_v J.out.symm, by rw [← HD.out]; exact HBW.out⟩
end Go.Proofs.Ythdmmliipmmfbab
