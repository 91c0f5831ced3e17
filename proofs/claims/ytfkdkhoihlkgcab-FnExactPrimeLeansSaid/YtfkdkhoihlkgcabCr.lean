/- GreatestSquare, LeanHeight, StepOut, CanTurn: both sides. -/
import Derived.Test.YtfkdkhoihlkgcabCn
namespace Go.Proofs.Ytfkdkhoihlkgcab
set_option linter.unusedVariables false
open Go.RowKit

theorem mul_bd {a b m n : Int} (ha : 0 ≤ a) (hb : 0 ≤ b) (h1 : a ≤ m) (h2 : b ≤ n) : 0 ≤ a * b ∧ a * b ≤ m * n :=
  ⟨Int.mul_nonneg ha hb, Int.mul_le_mul h1 h2 hb (by omega)⟩
/-- the greatest width from a on, in so many tries -/
def gsF (p : Int) : Nat → Int → Int
  | 0, a => a
  | n + 1, a => if 8 * (a + 1) * (a + 1) ≤ 9 * p * p then gsF p n (a + 1) else a
theorem gsF_yes {a p : Int} {n : Nat} (h : 8 * (a + 1) * (a + 1) ≤ 9 * p * p) : gsF p (n + 1) a = gsF p n (a + 1) := by simp [gsF, h]
theorem gsF_no {a p : Int} {n : Nat} (h : ¬ 8 * (a + 1) * (a + 1) ≤ 9 * p * p) : gsF p (n + 1) a = a := by simp only [gsF]; rw [if_neg h]
def gsA (p : Int) : Int := gsF p 300 1
def gsV (a : Int) : Value := if isPl a then .tuple #[.int .i64 (gsA a), .bool true] else .tuple #[.int .i64 0, .bool false]
theorem gsV_no {a : Int} (h : isPl a = false) : gsV a = .tuple #[.int .i64 0, .bool false] := by simp [gsV, h]
theorem gsV_yes {a : Int} (h : isPl a = true) : gsV a = .tuple #[.int .i64 (gsA a), .bool true] := by simp [gsV, h]
theorem gsV_form (a : Int) : ∃ x y, gsV a = .tuple #[.int .i64 x, .bool y] := by unfold gsV; split <;> exact ⟨_, _, rfl⟩
theorem gs_bd {p a : Int} (hp : 1 ≤ p ∧ p ≤ 200) (ha : 0 ≤ a) (h : 8 * (a + 1) * (a + 1) ≤ 9 * p * p) : a + 1 ≤ 300 := by
  by_cases hk : a + 1 ≤ 300
  · exact hk
  · have h1 := mul_bd (a := 9 * p) (b := p) (m := 1800) (n := 200) (by omega) (by omega) (by omega) (by omega)
    have h2 : (8 * 301) * 301 ≤ 8 * (a + 1) * (a + 1) := Int.mul_le_mul (by omega) (by omega) (by omega) (by omega)
    omega
theorem enough (a p : Int) (w : World) (ha : 1 ≤ a ∧ a ≤ 1000) (hp : 1 ≤ p ∧ p ≤ 1000) :
    Calls Try.prog 29 #[.int .i64 a, .int .i64 p] w fun e w' => e = .returned (.bool (decide (8 * a * a ≤ 9 * p * p))) ∧ w = w' := by
  have s1 := mul_bd (a := 9 * p) (b := p) (m := 9000) (n := 1000) (by omega) (by omega) (by omega) (by omega)
  have s2 := mul_bd (a := 8 * a) (b := a) (m := 8000) (n := 1000) (by omega) (by omega) (by omega) (by omega)
  by_cases hc : 8 * a * a ≤ 9 * p * p
  all_goals
    go_enter Try.func29, Try.ntmps29
    go_wp2
    go_ret
    exact ⟨ret_bool (by first | rfl | (simp [hc]; try omega)), rfl⟩
set_option maxHeartbeats 1000000 in
theorem specGreatest (p : Int) (w : World) :
    Calls Try.prog 10 #[.int .i64 p] w fun e w' => e = .returned (gsV p) ∧ w = w' := by
  have HA := Lib.hid (fun wx => cnPlank p wx)
  cases h : isPl p
  · have J := Lib.hid (gsV_no h)
    rw [h] at HA
    clear h
    go_enter Try.func10, Try.ntmps10
    go_wp2_with (go_at_call 27; (with_reducible refine (HA.out _).mono ?_); rintro e w' ⟨rfl, rfl⟩)
    go_ret2
    exact ⟨ret_v J.out.symm, rfl⟩
  · have J := Lib.hid (gsV_yes h)
    have hp := isPl_in h
    rw [h] at HA
    clear h
    have s1 := mul_bd (a := 9 * p) (b := p) (m := 1800) (n := 200) (by omega) (by omega) (by omega) (by omega)
    go_enter Try.func10, Try.ntmps10
    go_wp2_with (go_at_call 27; (with_reducible refine (HA.out _).mono ?_); rintro e w' ⟨rfl, rfl⟩)
    go_loop [4] (fun v => ∃ a : Int, (1 ≤ a ∧ a ≤ 300) ∧ v = .int .i64 a ∧ Hid (gsF p 300 1 = gsF p (301 - a.toNat) a)) (fun a => 400 - (intOf a).toNat)
    case atStart => exact ⟨1, by omega, rfl, Lib.hid rfl⟩
    case round =>
      obtain ⟨a, hk, rfl, hL⟩ := hrel
      have s2 := mul_bd (a := 8 * (a + 1)) (b := a + 1) (m := 2408) (n := 301) (by omega) (by omega) (by omega) (by omega)
      obtain ⟨q, hq⟩ : ∃ q, 301 - a.toNat = q + 1 := ⟨300 - a.toNat, by omega⟩
      have hq' : q = 301 - (a + 1).toNat := by omega
      by_cases hc : 8 * (a + 1) * (a + 1) ≤ 9 * p * p
      · have R := Lib.hid (show gsF p 300 1 = gsF p (301 - (a + 1).toNat) (a + 1) by rw [hL.out, hq, gsF_yes hc, hq'])
        have hb := gs_bd hp (by omega) hc
        clear hq hq'
        go_wp2
        go_round
        case rel => exact ⟨a + 1, by omega, by go_num, R⟩
        case measure => (simp [intOf]; try omega)
      · have R := Lib.hid (show gsA p = a by rw [gsA, hL.out, hq, gsF_no hc])
        clear hq hq'
        go_wp2
        go_ret2
        exact ⟨ret_v (by rw [J.out, R.out]; rfl), rfl⟩
set_option maxHeartbeats 1000000 in
theorem implGreatest (p : Int) (w : World) :
    Calls Try.prog 11 #[.int .i64 p] w fun e w' => e = .returned (gsV p) ∧ w = w' := by
  have HA := Lib.hid (fun wx => isLong p wx)
  cases h : isPl p
  · have J := Lib.hid (gsV_no h)
    rw [h] at HA
    clear h
    go_enter Try.func11, Try.ntmps11
    go_wp2_with (go_at_call 28; (with_reducible refine (HA.out _).mono ?_); rintro e w' ⟨rfl, rfl⟩)
    go_ret2
    exact ⟨ret_v J.out.symm, rfl⟩
  · have J := Lib.hid (gsV_yes h)
    have hp := isPl_in h
    rw [h] at HA
    clear h
    have s1 := mul_bd (a := 9 * p) (b := p) (m := 1800) (n := 200) (by omega) (by omega) (by omega) (by omega)
    go_enter Try.func11, Try.ntmps11
    go_wp2_with (go_at_call 28; (with_reducible refine (HA.out _).mono ?_); rintro e w' ⟨rfl, rfl⟩)
    go_loop [4] (fun v => ∃ a : Int, (1 ≤ a ∧ a ≤ 300) ∧ v = .int .i64 a ∧ Hid (gsF p 300 1 = gsF p (301 - a.toNat) a)) (fun a => 400 - (intOf a).toNat)
    case atStart => exact ⟨1, by omega, rfl, Lib.hid rfl⟩
    case round =>
      obtain ⟨a, hk, rfl, hL⟩ := hrel
      have s2 := mul_bd (a := 8 * (a + 1)) (b := a + 1) (m := 2408) (n := 301) (by omega) (by omega) (by omega) (by omega)
      obtain ⟨q, hq⟩ : ∃ q, 301 - a.toNat = q + 1 := ⟨300 - a.toNat, by omega⟩
      have hq' : q = 301 - (a + 1).toNat := by omega
      by_cases hc : 8 * (a + 1) * (a + 1) ≤ 9 * p * p
      · have R := Lib.hid (show gsF p 300 1 = gsF p (301 - (a + 1).toNat) (a + 1) by rw [hL.out, hq, gsF_yes hc, hq'])
        have hb := gs_bd hp (by omega) hc
        have EN := fun wx => enough (a + 1) p wx (by omega) (by omega)
        rw [decide_eq_true hc] at EN
        have HEN := Lib.hid EN
        clear EN
        clear hq hq'
        go_wp2_with (go_at_call 29; refine (HEN.out _).mono ?_; rintro e w' ⟨rfl, rfl⟩)
        go_round
        case rel => exact ⟨a + 1, by omega, by go_num, R⟩
        case measure => (simp [intOf]; try omega)
      · have R := Lib.hid (show gsA p = a by rw [gsA, hL.out, hq, gsF_no hc])
        have EN := fun wx => enough (a + 1) p wx (by omega) (by omega)
        rw [decide_eq_false hc] at EN
        have HEN := Lib.hid EN
        clear EN
        clear hq hq'
        go_wp2_with (go_at_call 29; refine (HEN.out _).mono ?_; rintro e w' ⟨rfl, rfl⟩)
        go_ret2
        exact ⟨ret_v (by rw [J.out, R.out]; rfl), rfl⟩
/-- the greatest height from h on with a square of at most q, in so many tries -/
def hgF (q : Int) : Nat → Int → Int
  | 0, h => h
  | n + 1, h => if (h + 1) * (h + 1) ≤ q then hgF q n (h + 1) else h
theorem hgF_yes {h q : Int} {n : Nat} (c : (h + 1) * (h + 1) ≤ q) : hgF q (n + 1) h = hgF q n (h + 1) := by simp [hgF, c]
theorem hgF_no {h q : Int} {n : Nat} (c : ¬ (h + 1) * (h + 1) ≤ q) : hgF q (n + 1) h = h := by simp only [hgF]; rw [if_neg c]
/-- the height to which a plank reaches -/
def hgt (p f : Int) : Int := hgF (p * p - f * f) 201 0
theorem hg_bd {q : Int} {k : Nat} (hq : q ≤ 40000) (h : ((k : Int) + 1) * ((k : Int) + 1) ≤ q) : (k : Int) + 1 ≤ 200 := by
  by_cases hk : (k : Int) + 1 ≤ 200
  · exact hk
  · have h2 : 201 * 201 ≤ ((k : Int) + 1) * ((k : Int) + 1) := Int.mul_le_mul (by omega) (by omega) (by omega) (by omega)
    omega
set_option maxHeartbeats 1000000 in
theorem specHeight (p f : Int) (w : World) (hp : 1 ≤ p ∧ p ≤ 200) (hf : 0 ≤ f ∧ f ≤ p) :
    Calls Try.prog 31 #[.int .i64 p, .int .i64 f] w fun e w' => e = .returned (.tuple #[.int .i64 (hgt p f), .int .i64 (p * p - f * f - hgt p f * hgt p f)]) ∧ w = w' := by
  have s1 := mul_bd (a := p) (b := p) (m := 200) (n := 200) (by omega) (by omega) (by omega) (by omega)
  have s2 : 0 ≤ f * f ∧ f * f ≤ p * p := mul_bd (by omega) (by omega) (by omega) (by omega)
  have J := Lib.hid (show hgt p f = hgF (p * p - f * f) 201 0 from rfl)
  go_enter Try.func31, Try.ntmps31
  go_wp2
  have hq1 : 0 ≤ p * p - f * f ∧ p * p - f * f ≤ 40000 := by omega
  generalize hqe : p * p - f * f = q at *
  have HQ := Lib.hid hqe
  clear hqe
  go_loop [7] (fun h => ∃ k : Nat, (k : Int) ≤ 200 ∧ h = .int .i64 (k : Int) ∧ Hid (hgF q 201 0 = hgF q (201 - k) (k : Int)) ∧ Hid ((k : Int) * (k : Int) ≤ q)) (fun h => 400 - (intOf h).toNat)
  case atStart => exact ⟨0, by omega, by simp, Lib.hid (by simp), Lib.hid (by simpa using hq1.1)⟩
  case round =>
    obtain ⟨k, hk, rfl, hL, hkq⟩ := hrel
    have s3 := mul_bd (a := (k : Int) + 1) (b := (k : Int) + 1) (m := 201) (n := 201) (by omega) (by omega) (by omega) (by omega)
    have s4 := mul_bd (a := (k : Int)) (b := (k : Int)) (m := 200) (n := 200) (by omega) (by omega) (by omega) (by omega)
    have hkq' := hkq.out
    have E := Lib.hid hL.out
    obtain ⟨n, hn⟩ : ∃ n, 201 - k = n + 1 := ⟨200 - k, by omega⟩
    have hn' : n = 201 - (k + 1) := by omega
    by_cases hc : ((k : Int) + 1) * ((k : Int) + 1) ≤ q
    · have R := Lib.hid (show hgF q 201 0 = hgF q (201 - (k + 1)) ((k + 1 : Nat) : Int) by rw [E.out, hn, hgF_yes hc, hn']; congr 1)
      have hb := hg_bd hq1.2 hc
      have HC := Lib.hid (show ((k + 1 : Nat) : Int) * ((k + 1 : Nat) : Int) ≤ q from hc)
      clear hn hn'
      go_wp2
      go_round
      case rel => exact ⟨k + 1, by omega, by go_num, R, HC⟩
      case measure => (simp [intOf]; try omega)
    · have R := Lib.hid (show hgt p f = (k : Int) by rw [J.out, E.out, hn, hgF_no hc])
      clear hn hn'
      go_wp2
      go_ret2
      exact ⟨ret_v (by rw [R.out, HQ.out]; rfl), rfl⟩
set_option maxHeartbeats 1000000 in
theorem implHeight (p f : Int) (w : World) (hp : 1 ≤ p ∧ p ≤ 200) (hf : 0 ≤ f ∧ f ≤ p) :
    Calls Try.prog 33 #[.int .i64 p, .int .i64 f] w fun e w' => e = .returned (.tuple #[.int .i64 (hgt p f), .int .i64 (p * p - f * f - hgt p f * hgt p f)]) ∧ w = w' := by
  have s1 := mul_bd (a := p) (b := p) (m := 200) (n := 200) (by omega) (by omega) (by omega) (by omega)
  have s2 : 0 ≤ f * f ∧ f * f ≤ p * p := mul_bd (by omega) (by omega) (by omega) (by omega)
  have J := Lib.hid (show hgt p f = hgF (p * p - f * f) 201 0 from rfl)
  go_enter Try.func33, Try.ntmps33
  go_wp2
  have hq1 : 0 ≤ p * p - f * f ∧ p * p - f * f ≤ 40000 := by omega
  generalize hqe : p * p - f * f = q at *
  have HQ := Lib.hid hqe
  clear hqe
  go_loop [7] (fun h => ∃ k : Nat, (k : Int) ≤ 200 ∧ h = .int .i64 (k : Int) ∧ Hid (hgF q 201 0 = hgF q (201 - k) (k : Int)) ∧ Hid ((k : Int) * (k : Int) ≤ q)) (fun h => 400 - (intOf h).toNat)
  case atStart => exact ⟨0, by omega, by simp, Lib.hid (by simp), Lib.hid (by simpa using hq1.1)⟩
  case round =>
    obtain ⟨k, hk, rfl, hL, hkq⟩ := hrel
    have s3 := mul_bd (a := (k : Int) + 1) (b := (k : Int) + 1) (m := 201) (n := 201) (by omega) (by omega) (by omega) (by omega)
    have s4 := mul_bd (a := (k : Int)) (b := (k : Int)) (m := 200) (n := 200) (by omega) (by omega) (by omega) (by omega)
    have hkq' := hkq.out
    have E := Lib.hid hL.out
    obtain ⟨n, hn⟩ : ∃ n, 201 - k = n + 1 := ⟨200 - k, by omega⟩
    have hn' : n = 201 - (k + 1) := by omega
    by_cases hc : ((k : Int) + 1) * ((k : Int) + 1) ≤ q
    · have R := Lib.hid (show hgF q 201 0 = hgF q (201 - (k + 1)) ((k + 1 : Nat) : Int) by rw [E.out, hn, hgF_yes hc, hn']; congr 1)
      have hb := hg_bd hq1.2 hc
      have HC := Lib.hid (show ((k + 1 : Nat) : Int) * ((k + 1 : Nat) : Int) ≤ q from hc)
      clear hn hn'
      go_wp2
      go_round
      case rel => exact ⟨k + 1, by omega, by go_num, R, HC⟩
      case measure => (simp [intOf]; try omega)
    · have R := Lib.hid (show hgt p f = (k : Int) by rw [J.out, E.out, hn, hgF_no hc])
      clear hn hn'
      go_wp2
      go_ret2
      exact ⟨ret_v (by rw [R.out, HQ.out]; rfl), rfl⟩
end Go.Proofs.Ytfkdkhoihlkgcab
