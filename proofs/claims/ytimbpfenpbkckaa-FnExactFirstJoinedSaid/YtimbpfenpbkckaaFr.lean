/- Fractions in lowest terms: impl.greatestDivisor, impl.lowestTerms, spec.plLow. -/
import Derived.Test.YtimbpfenpbkckaaPk
import Derived.RegionTactic
import Derived.ChangeAlike
import Derived.WalkSmall
namespace Go.Proofs.Ytimbpfenpbkckaa
set_option linter.unusedVariables false
open Go.RowKit

theorem gcd_step (x y : Nat) : Nat.gcd y (x % y) = Nat.gcd x y := by
  rw [Nat.gcd_comm x y, Nat.gcd_rec y x, Nat.gcd_comm]
def lowP (n d : Nat) : Nat × Nat := (n / Nat.gcd n d, d / Nat.gcd n d)

set_option maxHeartbeats 1000000 in
theorem greatestDivisor (n d : Nat) (w : World) (hn : n ≤ 1000000000000000000) (hd : d ≤ 1000000000000000000) :
    Calls Try.prog 69 #[.int .i64 n, .int .i64 d] w fun e w' => e = .returned (.int .i64 (Nat.gcd n d)) ∧ Below w.heap.size w w' := by
  go_enter Try.func69, Try.ntmps69
  go_wp2
  go_loopw [0, 1] (fun a b wr => ∃ x y : Nat, a = .int .i64 x ∧ b = .int .i64 y ∧ x ≤ 1000000000000000000 ∧ y ≤ 1000000000000000000 ∧ Hid (Nat.gcd x y = Nat.gcd n d) ∧ Below w.heap.size w wr) (fun _ b _ => (intOf b).toNat)
  case atStart => exact ⟨n, d, rfl, rfl, hn, hd, Lib.hid rfl, Below.refl _ _⟩
  case round =>
    obtain ⟨x, y, rfl, rfl, hx, hy, HG, hB⟩ := hrel
    by_cases h0 : y = 0
    · subst h0
      have R := Lib.hid (show x = Nat.gcd n d from (Nat.gcd_zero_right x).symm.trans HG.out)
      go_wp2
      go_ret
      exact ⟨ret_w (by rw [← R.out]; rfl), hB⟩
    · have hy0 : 0 < y := by omega
      have hm : x % y < y := Nat.mod_lt _ hy0
      have hi : ((y : Int) != 0) = true := by simp; omega
      have hi2 : (y : Int) ≠ 0 := by omega
      have R := Lib.hid ((gcd_step x y).trans HG.out)
      go_wp2
      go_region
      all_goals go_wp2
      go_roundw
      case rel => exact ⟨y, x % y, rfl, by push_cast; rfl, hy, by omega, R, below_drewN hB 1⟩
      case measure => (rw [show (x : Int) % (y : Int) = ((x % y : Nat) : Int) from by push_cast; rfl]; simp [intOf]; omega)

def lowA (n d : Int) : Int := ((n.toNat / Nat.gcd n.toNat d.toNat : Nat) : Int)
def lowB (n d : Int) : Int := ((d.toNat / Nat.gcd n.toNat d.toNat : Nat) : Int)
theorem low_le (n d : Int) (hn : 0 ≤ n) (hd : 0 ≤ d) : 0 ≤ lowA n d ∧ lowA n d ≤ n ∧ 0 ≤ lowB n d ∧ lowB n d ≤ d := by
  have h1 := Nat.div_le_self n.toNat (Nat.gcd n.toNat d.toNat)
  have h2 := Nat.div_le_self d.toNat (Nat.gcd n.toNat d.toNat)
  unfold lowA lowB
  generalize n.toNat / Nat.gcd n.toNat d.toNat = a at *
  generalize d.toNat / Nat.gcd n.toNat d.toNat = b at *
  omega
theorem low_whole (o h : Int) (ho : 0 ≤ o) (hh : 0 < h) : lowA (o * h) h = o ∧ lowB (o * h) h = 1 := by
  obtain ⟨a, rfl⟩ := Int.eq_ofNat_of_zero_le ho
  obtain ⟨b, rfl⟩ := Int.eq_ofNat_of_zero_le (show 0 ≤ h by omega)
  have hb : 0 < b := by omega
  have e : ((a : Int) * b).toNat = a * b := by rw [← Int.natCast_mul, Int.toNat_natCast]
  unfold lowA lowB
  rw [e, Int.toNat_natCast, Nat.gcd_mul_left_left, Nat.mul_div_cancel _ hb, Nat.div_self hb]
  exact ⟨rfl, rfl⟩
theorem quo_nat (a g : Nat) : (a : Int) / (g : Int) = ((a / g : Nat) : Int) := by push_cast; rfl

theorem quo_wrap {a g : Nat} (h : a / g ≤ 1000000000000000000) : wrap64 ((a : Int) / (g : Int)) = ((a / g : Nat) : Int) := by
  rw [quo_nat]; generalize a / g = q at *; unfold wrap64; omega

set_option maxHeartbeats 1000000 in
theorem lowestTerms (n d : Int) (w : World) (hn : 0 ≤ n ∧ n ≤ 1000000000000000000) (hd : 0 < d ∧ d ≤ 1000000000000000000) :
    Calls Try.prog 55 #[.int .i64 n, .int .i64 d] w fun e w' => e = .returned (.tuple #[.int .i64 (lowA n d), .int .i64 (lowB n d)]) ∧ Below w.heap.size w w' := by
  obtain ⟨a, rfl⟩ := Int.eq_ofNat_of_zero_le hn.1
  obtain ⟨b, rfl⟩ := Int.eq_ofNat_of_zero_le (show 0 ≤ d by omega)
  have hg : 0 < Nat.gcd a b := Nat.gcd_pos_of_pos_right _ (by omega)
  have hgb : Nat.gcd a b ≤ b := Nat.le_of_dvd (by omega) (Nat.gcd_dvd_right a b)
  have RA := Lib.hid (show lowA (a : Int) (b : Int) = ((a / Nat.gcd a b : Nat) : Int) by simp [lowA])
  have RB := Lib.hid (show lowB (a : Int) (b : Int) = ((b / Nat.gcd a b : Nat) : Int) by simp [lowB])
  have HC := Lib.hid (fun wx => greatestDivisor a b wx (by omega) (by omega))
  generalize Nat.gcd a b = g at *
  have h1 := Nat.div_le_self a g
  have h2 := Nat.div_le_self b g
  have E1 := Lib.hid (quo_wrap (a := a) (g := g) (by omega))
  have E2 := Lib.hid (quo_wrap (a := b) (g := g) (by omega))
  have h3 : ((g : Int) != 0) = true := by simp; omega
  have h4 : (g : Int) ≠ 0 := by omega
  go_enter Try.func55, Try.ntmps55
  go_wp2_with (go_at_call 69; refine (HC.out _).mono ?_; rintro e w1 ⟨rfl, hb1⟩)
  go_region
  all_goals go_wp2
  go_ret2
  exact ⟨ret_w (by rw [RA.out, RB.out, ← E1.out, ← E2.out]; rfl), below_drewN hb1 1⟩

set_option maxHeartbeats 1000000 in
theorem plLow (n d : Int) (w : World) (hn : 0 ≤ n ∧ n ≤ 1000000000000000000) (hd : 0 < d ∧ d ≤ 1000000000000000000) :
    Calls Try.prog 54 #[.int .i64 n, .int .i64 d] w fun e w' => e = .returned (.tuple #[.int .i64 (lowA n d), .int .i64 (lowB n d)]) ∧ Below w.heap.size w w' := by
  obtain ⟨a, rfl⟩ := Int.eq_ofNat_of_zero_le hn.1
  obtain ⟨b, rfl⟩ := Int.eq_ofNat_of_zero_le (show 0 ≤ d by omega)
  have hg : 0 < Nat.gcd a b := Nat.gcd_pos_of_pos_right _ (by omega)
  have hgb : Nat.gcd a b ≤ b := Nat.le_of_dvd (by omega) (Nat.gcd_dvd_right a b)
  have RA := Lib.hid (show lowA (a : Int) (b : Int) = ((a / Nat.gcd a b : Nat) : Int) by simp [lowA])
  have RB := Lib.hid (show lowB (a : Int) (b : Int) = ((b / Nat.gcd a b : Nat) : Int) by simp [lowB])
  go_enter Try.func54, Try.ntmps54
  go_wp2
  go_loopw [6, 7] (fun u v wr => ∃ x y : Nat, u = .int .i64 x ∧ v = .int .i64 y ∧ x ≤ 1000000000000000000 ∧ y ≤ 1000000000000000000 ∧ Hid (Nat.gcd x y = Nat.gcd a b) ∧ Below w.heap.size w wr) (fun _ v _ => (intOf v).toNat)
  case atStart => exact ⟨a, b, rfl, rfl, by omega, by omega, Lib.hid rfl, Below.refl _ _⟩
  case round =>
    obtain ⟨x, y, rfl, rfl, hx, hy, HG, hB⟩ := hrel
    by_cases h0 : y = 0
    · subst h0
      have R := Lib.hid (show Nat.gcd a b = x from HG.out.symm.trans (Nat.gcd_zero_right x))
      rw [R.out] at RA RB hg
      have h1 := Nat.div_le_self a x
      have h2 := Nat.div_le_self b x
      have E1 := Lib.hid (quo_wrap (a := a) (g := x) (by omega))
      have E2 := Lib.hid (quo_wrap (a := b) (g := x) (by omega))
      have h3 : ((x : Int) != 0) = true := by simp; omega
      have h4 : (x : Int) ≠ 0 := by omega
      go_wp2
      go_region
      all_goals go_wp2
      go_ret2
      exact ⟨ret_w (by rw [RA.out, RB.out, ← E1.out, ← E2.out]; rfl), below_drewN hB 1⟩
    · have hy0 : 0 < y := by omega
      have hm : x % y < y := Nat.mod_lt _ hy0
      have hi : ((y : Int) != 0) = true := by simp; omega
      have hi2 : (y : Int) ≠ 0 := by omega
      have hi3 : 0 < (y : Int) := by omega
      have R := Lib.hid ((gcd_step x y).trans HG.out)
      go_wp2
      go_region
      all_goals go_wp2
      go_roundw
      case rel => exact ⟨y, x % y, rfl, by push_cast; rfl, hy, by omega, R, below_drewN hB 1⟩
      case measure => (rw [show (x : Int) % (y : Int) = ((x % y : Nat) : Int) from by push_cast; rfl]; simp [intOf]; omega)

theorem mulB {a b A B : Int} (h1 : 0 ≤ a) (h2 : a ≤ A) (h3 : 0 ≤ b) (h4 : b ≤ B) : 0 ≤ a * b ∧ a * b ≤ A * B :=
  ⟨Int.mul_nonneg h1 h3, Int.mul_le_mul h2 h4 h3 (Int.le_trans h1 h2)⟩

/-- how far k planks reach -/
def reachP : Nat → Int × Int
  | 0 => (0, 1)
  | k + 1 => (lowA ((reachP k).1 * (2 * (k : Int) + 2) + (reachP k).2) ((reachP k).2 * (2 * (k : Int) + 2)), lowB ((reachP k).1 * (2 * (k : Int) + 2) + (reachP k).2) ((reachP k).2 * (2 * (k : Int) + 2)))
theorem reachP_in : ∀ k : Nat, k ≤ 12 → 0 ≤ (reachP k).1 ∧ (reachP k).1 ≤ 1000000000 ∧ 1 ≤ (reachP k).2 ∧ (reachP k).2 ≤ 1000000000 := by
  have h : ∀ k : Fin 13, 0 ≤ (reachP k.val).1 ∧ (reachP k.val).1 ≤ 1000000000 ∧ 1 ≤ (reachP k.val).2 ∧ (reachP k.val).2 ≤ 1000000000 := by decide +kernel
  intro k hk
  exact h ⟨k, by omega⟩
def stackV (n : Int) : Value := if inB n 1 12 then .tuple #[.int .i64 (reachP n.toNat).1, .int .i64 (reachP n.toNat).2, .bool true] else .tuple #[.int .i64 0, .int .i64 0, .bool false]
theorem stackV_no {n : Int} (h : inB n 1 12 = false) : stackV n = .tuple #[.int .i64 0, .int .i64 0, .bool false] := by simp [stackV, h]
theorem stackV_yes {n : Nat} (h : inB (n : Int) 1 12 = true) : stackV (n : Int) = .tuple #[.int .i64 (reachP n).1, .int .i64 (reachP n).2, .bool true] := by simp [stackV, h]
theorem stackV_form (n : Int) : ∃ x y z, stackV n = .tuple #[.int .i64 x, .int .i64 y, .bool z] := by
  unfold stackV; split <;> exact ⟨_, _, _, rfl⟩
set_option maxHeartbeats 1000000 in
theorem implStack (n : Int) (w : World) :
    Calls Try.prog 30 #[.int .i64 n] w fun e w' => e = .returned (stackV n) ∧ Below w.heap.size w w' := by
  by_cases h1 : n < 1
  · have J := Lib.hid (stackV_no (inB_no (n := n) (lo := 1) (hi := 12) (by omega)))
    go_enter Try.func30, Try.ntmps30
    go_wp2
    go_ret3
    exact ⟨ret_v J.out.symm, Below.refl _ _⟩
  by_cases h2 : 12 < n
  · have J := Lib.hid (stackV_no (inB_no (n := n) (lo := 1) (hi := 12) (by omega)))
    go_enter Try.func30, Try.ntmps30
    go_wp2
    go_ret3
    exact ⟨ret_v J.out.symm, Below.refl _ _⟩
  obtain ⟨m, rfl⟩ := Int.eq_ofNat_of_zero_le (show 0 ≤ n by omega)
  have J := Lib.hid (stackV_yes (inB_yes (n := (m : Int)) (lo := 1) (hi := 12) (by omega) (by omega)))
  go_enter Try.func30, Try.ntmps30
  go_wp2
  go_loopw [5, 6, 7] (fun u v p wr => ∃ k : Nat, k ≤ m ∧ u = .int .i64 (reachP k).1 ∧ v = .int .i64 (reachP k).2 ∧ p = .int .i64 (2 * (k : Int) + 2) ∧ Below w.heap.size w wr) (fun _ _ p _ => 2 * m + 4 - (intOf p).toNat)
  case atStart => exact ⟨0, Nat.zero_le _, rfl, rfl, rfl, Below.refl _ _⟩
  case round =>
    obtain ⟨k, hk, rfl, rfl, rfl, hB⟩ := hrel
    have hle := hB.size
    have hr := reachP_in k (by omega)
    by_cases hlt : k < m
    · have R := Lib.hid (show reachP (k + 1) = (lowA ((reachP k).1 * (2 * (k : Int) + 2) + (reachP k).2) ((reachP k).2 * (2 * (k : Int) + 2)), lowB ((reachP k).1 * (2 * (k : Int) + 2) + (reachP k).2) ((reachP k).2 * (2 * (k : Int) + 2))) from rfl)
      generalize (reachP k).1 = x at *
      generalize (reachP k).2 = y at *
      have m1 := mulB hr.1 hr.2.1 (show 0 ≤ 2 * (k : Int) + 2 by omega) (show 2 * (k : Int) + 2 ≤ 26 by omega)
      have m2 := mulB (show 0 ≤ y by omega) hr.2.2.2 (show 0 ≤ 2 * (k : Int) + 2 by omega) (show 2 * (k : Int) + 2 ≤ 26 by omega)
      have m3 : 0 < y * (2 * (k : Int) + 2) := Int.mul_pos (by omega) (by omega)
      go_wp2_with (go_at_call 55; refine (lowestTerms _ _ _ (by omega) (by omega)).mono ?_; rintro e w1 ⟨rfl, hb1⟩)
      go_roundw
      case rel => exact ⟨k + 1, by omega, by rw [R.out], by rw [R.out], by go_num, hB.trans (hb1.mono hle)⟩
      case measure => (simp [intOf]; try omega)
    · obtain rfl : k = m := by omega
      go_wp2
      go_ret3
      exact ⟨ret_v J.out.symm, hB⟩
set_option maxHeartbeats 1000000 in
theorem specStack (n : Int) (w : World) :
    Calls Try.prog 29 #[.int .i64 n] w fun e w' => e = .returned (stackV n) ∧ Below w.heap.size w w' := by
  cases hin : inB n 1 12
  · have J := Lib.hid (stackV_no hin)
    have G := Lib.hid hin
    clear hin
    go_enter Try.func29, Try.ntmps29
    go_wp2_with (go_at_call 39; refine (l1In _ _ _ _).mono ?_; rintro e w' ⟨rfl, rfl⟩; rw [G.out])
    go_ret3
    exact ⟨ret_v J.out.symm, Below.refl _ _⟩
  have hin2 := inB_iff.1 hin
  obtain ⟨m, rfl⟩ := Int.eq_ofNat_of_zero_le (show 0 ≤ n by omega)
  have J := Lib.hid (stackV_yes hin)
  have G := Lib.hid hin
  clear hin
  go_enter Try.func29, Try.ntmps29
  go_wp2_with (go_at_call 39; refine (l1In _ _ _ _).mono ?_; rintro e w' ⟨rfl, rfl⟩; rw [G.out])
  go_loopw [5, 6, 7] (fun u v p wr => ∃ k : Nat, k ≤ m ∧ u = .int .i64 (reachP k).1 ∧ v = .int .i64 (reachP k).2 ∧ p = .int .i64 ((k : Int) + 1) ∧ Below w.heap.size w wr) (fun _ _ p _ => m + 3 - (intOf p).toNat)
  case atStart => exact ⟨0, Nat.zero_le _, rfl, rfl, rfl, Below.refl _ _⟩
  case round =>
    obtain ⟨k, hk, rfl, rfl, rfl, hB⟩ := hrel
    have hle := hB.size
    have hr := reachP_in k (by omega)
    by_cases hlt : k < m
    · have R := Lib.hid (show reachP (k + 1) = (lowA ((reachP k).1 * (2 * (k : Int) + 2) + (reachP k).2) ((reachP k).2 * (2 * (k : Int) + 2)), lowB ((reachP k).1 * (2 * (k : Int) + 2) + (reachP k).2) ((reachP k).2 * (2 * (k : Int) + 2))) from rfl)
      generalize (reachP k).1 = x at *
      generalize (reachP k).2 = y at *
      have e1 : x * 2 * ((k : Int) + 1) = x * (2 * (k : Int) + 2) := by rw [Int.mul_assoc]; congr 1
      have e2 : y * 2 * ((k : Int) + 1) = y * (2 * (k : Int) + 2) := by rw [Int.mul_assoc]; congr 1
      have m1 := mulB hr.1 hr.2.1 (show 0 ≤ 2 * (k : Int) + 2 by omega) (show 2 * (k : Int) + 2 ≤ 26 by omega)
      have m2 := mulB (show 0 ≤ y by omega) hr.2.2.2 (show 0 ≤ 2 * (k : Int) + 2 by omega) (show 2 * (k : Int) + 2 ≤ 26 by omega)
      have m3 : 0 < y * (2 * (k : Int) + 2) := Int.mul_pos (by omega) (by omega)
      go_wp2_with (go_at_call 54; refine (plLow _ _ _ (by omega) (by omega)).mono ?_; rintro e w1 ⟨rfl, hb1⟩)
      go_roundw
      case rel => exact ⟨k + 1, by omega, by rw [R.out, ← e1, ← e2], by rw [R.out, ← e1, ← e2], by go_num, hB.trans (hb1.mono hle)⟩
      case measure => (simp [intOf]; try omega)
    · obtain rfl : k = m := by omega
      go_wp2
      go_ret3
      exact ⟨ret_v J.out.symm, hB⟩
end Go.Proofs.Ytimbpfenpbkckaa
