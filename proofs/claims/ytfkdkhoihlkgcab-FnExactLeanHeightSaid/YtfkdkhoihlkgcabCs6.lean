/- LeanHeight, StepOut, CanTurn: both sides. -/
import Derived.Test.YtfkdkhoihlkgcabCr
import Derived.OwnWalk
namespace Go.Proofs.Ytfkdkhoihlkgcab
set_option linter.unusedVariables false
open Go.RowKit

def isFt (p f : Int) : Bool := isPl p && inB f 0 p
theorem isFt_in {p f : Int} (h : isFt p f = true) : (1 ≤ p ∧ p ≤ 200) ∧ 0 ≤ f ∧ f ≤ p := by
  simp only [isFt, Bool.and_eq_true] at h
  exact ⟨isPl_in h.1, by simpa [inB] using h.2⟩
def lhV (p f : Int) : Value := if isFt p f then .tuple #[.int .i64 (hgt p f), .int .i64 (p * p - f * f - hgt p f * hgt p f), .bool true] else .tuple #[.int .i64 0, .int .i64 0, .bool false]
theorem lhV_no {p f : Int} (h : isFt p f = false) : lhV p f = .tuple #[.int .i64 0, .int .i64 0, .bool false] := by simp only [lhV, h]; rfl
theorem lhV_yes {p f : Int} (h : isFt p f = true) : lhV p f = .tuple #[.int .i64 (hgt p f), .int .i64 (p * p - f * f - hgt p f * hgt p f), .bool true] := by simp only [lhV, h]; rfl
theorem lhV_form (p f : Int) : ∃ a b c, lhV p f = .tuple #[.int .i64 a, .int .i64 b, .bool c] := by unfold lhV; split <;> exact ⟨_, _, _, rfl⟩
def isSo (p f b : Int) : Bool := (isPl p && inB f 0 p) && (inB b 0 200 && decide (f + b ≤ p))
def soV (p f b : Int) : Value := if isSo p f b then lhV p (f + b) else .tuple #[.int .i64 0, .int .i64 0, .bool false]
theorem soV_no {p f b : Int} (h : isSo p f b = false) : soV p f b = .tuple #[.int .i64 0, .int .i64 0, .bool false] := by simp only [soV, h]; rfl
theorem soV_yes {p f b : Int} (h : isSo p f b = true) : soV p f b = lhV p (f + b) := by simp only [soV, h]; rfl
theorem soV_form (p f b : Int) : ∃ x y z, soV p f b = .tuple #[.int .i64 x, .int .i64 y, .bool z] := by
  unfold soV; split
  · exact lhV_form _ _
  · exact ⟨_, _, _, rfl⟩
theorem isSo_in {p f b : Int} (h : isSo p f b = true) : (1 ≤ p ∧ p ≤ 200) ∧ (0 ≤ f ∧ f ≤ p) ∧ (0 ≤ b ∧ b ≤ 200) ∧ f + b ≤ p := by
  simp only [isSo, Bool.and_eq_true, decide_eq_true_eq] at h
  exact ⟨isPl_in h.1.1, by simpa [inB] using h.1.2, by simpa [inB] using h.2.1, h.2.2⟩
theorem isSo_ft {p f b : Int} (h : isSo p f b = true) : isFt p (f + b) = true := by
  have h1 := isSo_in h
  simp only [isSo, Bool.and_eq_true] at h
  simp only [isFt, Bool.and_eq_true]
  exact ⟨h.1.1, inB_yes (by omega) (by omega)⟩
theorem canStand (p f : Int) (w : World) :
    Calls Try.prog 32 #[.int .i64 p, .int .i64 f] w fun e w' => e = .returned (.bool (isFt p f)) ∧ w = w' := by
  have HP := Lib.hid (fun wx => isLong p wx)
  unfold isFt
  generalize isPl p = c at *
  by_cases h1 : 0 ≤ f <;> by_cases h2 : f ≤ p <;> cases c
  all_goals
    go_enter Try.func32, Try.ntmps32
    go_wp2_with (go_at_call 28; (with_reducible refine (HP.out _).mono ?_); rintro e w' ⟨rfl, rfl⟩)
    go_ret
    exact ⟨ret_bool (by simp [inB, h1, h2]), rfl⟩
set_option maxHeartbeats 1000000 in
theorem implLean (p f : Int) (w : World) :
    Calls Try.prog 13 #[.int .i64 p, .int .i64 f] w fun e w' => e = .returned (lhV p f) ∧ w = w' := by
  have HC := Lib.hid (fun wx => canStand p f wx)
  cases h : isFt p f
  · have J := Lib.hid (lhV_no h)
    rw [h] at HC
    clear h
    go_enter Try.func13, Try.ntmps13
    go_wp2_with (go_at_call 32; (with_reducible refine (HC.out _).mono ?_); rintro e w' ⟨rfl, rfl⟩)
    go_ret3
    exact ⟨ret_v J.out.symm, rfl⟩
  · have J := Lib.hid (lhV_yes h)
    rw [h] at HC
    obtain ⟨hp, hf⟩ := isFt_in h
    have HH := Lib.hid (fun wx => implHeight p f wx hp hf)
    clear h
    generalize p * p - f * f - hgt p f * hgt p f = q at *
    generalize hgt p f = g at *
    go_enter Try.func13, Try.ntmps13
    go_wp2_with (first
      | (go_at_call 32; (with_reducible refine (HC.out _).mono ?_); rintro e w' ⟨rfl, rfl⟩)
      | (go_at_call 33; (with_reducible refine (HH.out _).mono ?_); rintro e w' ⟨rfl, rfl⟩))
    go_ret3
    exact ⟨ret_v J.out.symm, rfl⟩
set_option maxHeartbeats 1000000 in
theorem specLean (p f : Int) (w : World) :
    Calls Try.prog 12 #[.int .i64 p, .int .i64 f] w fun e w' => e = .returned (lhV p f) ∧ w = w' := by
  have HP := Lib.hid (fun wx => cnPlank p wx)
  have HF := Lib.hid (fun wx => l1In f 0 p wx)
  cases h : isFt p f
  · have J := Lib.hid (lhV_no h)
    have H := Lib.hid (show (isPl p && inB f 0 p) = false from h)
    clear h
    generalize isPl p = c at *
    generalize inB f 0 p = d at *
    go_enter Try.func12, Try.ntmps12
    cases c <;> cases d
    all_goals
      first
      | exact absurd H.out (by decide)
      | (go_wp2_with (first
          | (go_at_call 27; (with_reducible refine (HP.out _).mono ?_); rintro e w' ⟨rfl, rfl⟩)
          | (go_at_call 30; (with_reducible refine (HF.out _).mono ?_); rintro e w' ⟨rfl, rfl⟩))
         go_ret3
         exact ⟨ret_v J.out.symm, rfl⟩)
  · have J := Lib.hid (lhV_yes h)
    obtain ⟨hp, hf⟩ := isFt_in h
    have HH := Lib.hid (fun wx => specHeight p f wx hp hf)
    simp only [isFt, Bool.and_eq_true] at h
    rw [h.1] at HP
    rw [h.2] at HF
    clear h
    generalize p * p - f * f - hgt p f * hgt p f = q at *
    generalize hgt p f = g at *
    go_enter Try.func12, Try.ntmps12
    go_wp2_with (first
      | (go_at_call 27; (with_reducible refine (HP.out _).mono ?_); rintro e w' ⟨rfl, rfl⟩)
      | (go_at_call 30; (with_reducible refine (HF.out _).mono ?_); rintro e w' ⟨rfl, rfl⟩)
      | (go_at_call 31; (with_reducible refine (HH.out _).mono ?_); rintro e w' ⟨rfl, rfl⟩))
    go_ret3
    exact ⟨ret_v J.out.symm, rfl⟩
set_option maxHeartbeats 1000000 in
theorem specStep (p f b : Int) (w : World) :
    Calls Try.prog 14 #[.int .i64 p, .int .i64 f, .int .i64 b] w fun e w' => e = .returned (soV p f b) ∧ w = w' := by
  have HP := Lib.hid (fun wx => cnPlank p wx)
  have HF := Lib.hid (fun wx => l1In f 0 p wx)
  have HB := Lib.hid (fun wx => l1In b 0 200 wx)
  cases h : isSo p f b
  · have J := Lib.hid (soV_no h)
    have H := Lib.hid (show (isPl p && inB f 0 p && (inB b 0 200 && decide (f + b ≤ p))) = false from h)
    clear h
    cases hc : isPl p
    · rw [hc] at HP
      go_enter Try.func14, Try.ntmps14
      go_wp2_with (go_at_call 27; (with_reducible refine (HP.out _).mono ?_); rintro e w' ⟨rfl, rfl⟩)
      go_ret3
      exact ⟨ret_v J.out.symm, rfl⟩
    cases hd : inB f 0 p
    · rw [hc] at HP
      rw [hd] at HF
      go_enter Try.func14, Try.ntmps14
      go_wp2_with (first
          | (go_at_call 27; (with_reducible refine (HP.out _).mono ?_); rintro e w' ⟨rfl, rfl⟩)
          | (go_at_call 30; (with_reducible refine (HF.out _).mono ?_); rintro e w' ⟨rfl, rfl⟩))
      go_ret3
      exact ⟨ret_v J.out.symm, rfl⟩
    cases he : inB b 0 200
    · rw [hc] at HP
      rw [hd] at HF
      rw [he] at HB
      go_enter Try.func14, Try.ntmps14
      go_wp2_with (first
          | (go_at_call 27; (with_reducible refine (HP.out _).mono ?_); rintro e w' ⟨rfl, rfl⟩)
          | (go_at_call 30; (with_reducible refine (HF.out _).mono ?_); rintro e w' ⟨rfl, rfl⟩)
          | (go_at_call 30; (with_reducible refine (HB.out _).mono ?_); rintro e w' ⟨rfl, rfl⟩))
      go_ret3
      exact ⟨ret_v J.out.symm, rfl⟩
    have hp := isPl_in hc
    have hf : 0 ≤ f ∧ f ≤ p := by simpa [inB] using hd
    have hb : 0 ≤ b ∧ b ≤ 200 := by simpa [inB] using he
    have hn : ¬ f + b ≤ p := by
      have := H.out
      rw [hc, hd, he] at this
      simpa using this
    rw [hc] at HP
    rw [hd] at HF
    rw [he] at HB
    clear hc hd he
    go_enter Try.func14, Try.ntmps14
    go_wp2_with (first
        | (go_at_call 27; (with_reducible refine (HP.out _).mono ?_); rintro e w' ⟨rfl, rfl⟩)
        | (go_at_call 30; (with_reducible refine (HF.out _).mono ?_); rintro e w' ⟨rfl, rfl⟩)
        | (go_at_call 30; (with_reducible refine (HB.out _).mono ?_); rintro e w' ⟨rfl, rfl⟩))
    go_ret3
    exact ⟨ret_v J.out.symm, rfl⟩
  · have J := Lib.hid (soV_yes h)
    have J2 := Lib.hid (lhV_yes (isSo_ft h))
    obtain ⟨hp, hf, hb, hs⟩ := isSo_in h
    have HH := Lib.hid (fun wx => specHeight p (f + b) wx hp (by omega))
    simp only [isSo, Bool.and_eq_true] at h
    rw [h.1.1] at HP
    rw [h.1.2] at HF
    rw [h.2.1] at HB
    clear h
    generalize p * p - (f + b) * (f + b) - hgt p (f + b) * hgt p (f + b) = q at *
    generalize hgt p (f + b) = g at *
    go_enter Try.func14, Try.ntmps14
    go_wp2_with (first
      | (go_at_call 27; (with_reducible refine (HP.out _).mono ?_); rintro e w' ⟨rfl, rfl⟩)
      | (go_at_call 30; (with_reducible refine (HF.out _).mono ?_); rintro e w' ⟨rfl, rfl⟩)
      | (go_at_call 30; (with_reducible refine (HB.out _).mono ?_); rintro e w' ⟨rfl, rfl⟩)
      | (go_at_call 31; (with_reducible refine (HH.out _).mono ?_); rintro e w' ⟨rfl, rfl⟩))
    go_ret3
    exact ⟨ret_v (by rw [J.out, J2.out]; rfl), rfl⟩
set_option maxHeartbeats 1000000 in
theorem implStep (p f b : Int) (w : World) :
    Calls Try.prog 15 #[.int .i64 p, .int .i64 f, .int .i64 b] w fun e w' => e = .returned (soV p f b) ∧ w = w' := by
  have HC := Lib.hid (fun wx => canStand p f wx)
  cases h : isFt p f
  · have J := Lib.hid (soV_no (p := p) (f := f) (b := b) (by unfold isFt at h; simp only [isSo, h]; rfl))
    rw [h] at HC
    clear h
    go_enter Try.func15, Try.ntmps15
    go_wp2_with (go_at_call 32; (with_reducible refine (HC.out _).mono ?_); rintro e w' ⟨rfl, rfl⟩)
    go_ret3
    exact ⟨ret_v J.out.symm, rfl⟩
  rw [h] at HC
  obtain ⟨hp, hf⟩ := isFt_in h
  by_cases h1 : b < 0
  · have J := Lib.hid (soV_no (p := p) (f := f) (b := b) (by have : inB b 0 200 = false := inB_no (.inl h1); simp [isSo, this]))
    clear h
    go_enter Try.func15, Try.ntmps15
    go_wp2_with (go_at_call 32; (with_reducible refine (HC.out _).mono ?_); rintro e w' ⟨rfl, rfl⟩)
    go_ret3
    exact ⟨ret_v J.out.symm, rfl⟩
  by_cases h2 : 200 < b
  · have J := Lib.hid (soV_no (p := p) (f := f) (b := b) (by have : inB b 0 200 = false := inB_no (.inr h2); simp [isSo, this]))
    clear h
    go_enter Try.func15, Try.ntmps15
    go_wp2_with (go_at_call 32; (with_reducible refine (HC.out _).mono ?_); rintro e w' ⟨rfl, rfl⟩)
    go_ret3
    exact ⟨ret_v J.out.symm, rfl⟩
  have J := Lib.hid (show soV p f b = lhV p (f + b) by
    cases hs : isSo p f b
    · rw [soV_no hs, lhV_no]
      cases hc : isFt p (f + b)
      · rfl
      · exfalso
        obtain ⟨_, h3⟩ := isFt_in hc
        unfold isFt at h
        have h4 : isSo p f b = true := by simp only [isSo, Bool.and_eq_true, decide_eq_true_eq]; exact ⟨by simpa using h, inB_yes (by omega) (by omega), h3.2⟩
        rw [hs] at h4; cases h4
    · exact soV_yes hs)
  have HL := Lib.hid (fun wx => implLean p (f + b) wx)
  obtain ⟨x, y, z, hv⟩ := lhV_form p (f + b)
  rw [hv] at HL J
  clear h hv
  go_enter Try.func15, Try.ntmps15
  go_wp2_with (first
    | (go_at_call 32; (with_reducible refine (HC.out _).mono ?_); rintro e w' ⟨rfl, rfl⟩)
    | (go_at_call 13; (with_reducible refine (HL.out _).mono ?_); rintro e w' ⟨rfl, rfl⟩))
  go_ret3
  exact ⟨ret_v (by rw [J.out]; rfl), rfl⟩
/-- whether the line from a passes -/
def pas (x y p a : Int) : Bool := decide ((p * p - a * a) * (a - x) * (a - x) ≤ y * y * a * a)
/-- whether all lines from a on pass, in so many tries -/
def ctF (x y p : Int) : Nat → Int → Bool
  | 0, a => true
  | n + 1, a => if a < p then (if pas x y p a then ctF x y p n (a + 1) else false) else true
theorem ctF_end {x y p a : Int} {n : Nat} (h : ¬ a < p) : ctF x y p n a = true := by cases n with
  | zero => rfl
  | succ n => simp only [ctF]; rw [if_neg h]
theorem ctF_no {x y p a : Int} {n : Nat} (h : a < p) (h2 : pas x y p a = false) : ctF x y p (n + 1) a = false := by simp [ctF, h, h2]
theorem ctF_on {x y p a : Int} {n : Nat} (h : a < p) (h2 : pas x y p a = true) : ctF x y p (n + 1) a = ctF x y p n (a + 1) := by simp [ctF, h, h2]
theorem ctF_any {x y p : Int} (n m : Nat) {a : Int} (h1 : p ≤ a + n) (h2 : p ≤ a + m) : ctF x y p n a = ctF x y p m a := by
  induction n generalizing m a with
  | zero => rw [ctF_end (n := 0) (by omega), ctF_end (by omega)]
  | succ n ih =>
    cases m with
    | zero => rw [ctF_end (n := 0) (by omega), ctF_end (by omega)]
    | succ m =>
      by_cases ha : a < p
      · cases hp : pas x y p a
        · rw [ctF_no ha hp, ctF_no ha hp]
        · rw [ctF_on ha hp, ctF_on ha hp]
          exact ih m (by omega) (by omega)
      · rw [ctF_end ha, ctF_end ha]
def ctA (x y p : Int) : Bool := ctF x y p 300 (x + 1)
def isCt (x y p : Int) : Bool := isDt x && isDt y && isPl p
def ctV (x y p : Int) : Value := if isCt x y p then .tuple #[.bool (ctA x y p), .bool true] else .tuple #[.bool false, .bool false]
theorem ctV_no {x y p : Int} (h : isCt x y p = false) : ctV x y p = .tuple #[.bool false, .bool false] := by simp [ctV, h]
theorem ctV_yes {x y p : Int} (h : isCt x y p = true) : ctV x y p = .tuple #[.bool (ctA x y p), .bool true] := by simp [ctV, h]
theorem ctV_form (x y p : Int) : ∃ a b, ctV x y p = .tuple #[.bool a, .bool b] := by unfold ctV; split <;> exact ⟨_, _, rfl⟩
structure PasB (x y p a : Int) : Prop where
  pp : 0 ≤ p * p ∧ p * p ≤ 40000
  aa : 0 ≤ a * a ∧ a * a ≤ 40000
  s : 0 ≤ p * p - a * a ∧ p * p - a * a ≤ 40000
  t : 0 ≤ (p * p - a * a) * (a - x) ∧ (p * p - a * a) * (a - x) ≤ 8000000
  u : 0 ≤ (p * p - a * a) * (a - x) * (a - x) ∧ (p * p - a * a) * (a - x) * (a - x) ≤ 1600000000
  yy : 0 ≤ y * y ∧ y * y ≤ 10000
  v : 0 ≤ y * y * a ∧ y * y * a ≤ 2000000
  r : 0 ≤ y * y * a * a ∧ y * y * a * a ≤ 400000000
theorem pas_bd {x y p a : Int} (hx : 1 ≤ x ∧ x ≤ 100) (hy : 1 ≤ y ∧ y ≤ 100) (hp : 1 ≤ p ∧ p ≤ 200) (ha : x < a ∧ a < p) : PasB x y p a := by
  have pp := mul_bd (a := p) (b := p) (m := 200) (n := 200) (by omega) (by omega) (by omega) (by omega)
  have aa := mul_bd (a := a) (b := a) (m := p) (n := p) (by omega) (by omega) (by omega) (by omega)
  have t := mul_bd (a := p * p - a * a) (b := a - x) (m := 40000) (n := 200) (by omega) (by omega) (by omega) (by omega)
  have u := mul_bd (a := (p * p - a * a) * (a - x)) (b := a - x) (m := 8000000) (n := 200) (by omega) (by omega) (by omega) (by omega)
  have yy := mul_bd (a := y) (b := y) (m := 100) (n := 100) (by omega) (by omega) (by omega) (by omega)
  have v := mul_bd (a := y * y) (b := a) (m := 10000) (n := 200) (by omega) (by omega) (by omega) (by omega)
  have r := mul_bd (a := y * y * a) (b := a) (m := 2000000) (n := 200) (by omega) (by omega) (by omega) (by omega)
  exact ⟨by omega, by omega, by omega, by omega, by omega, by omega, by omega, by omega⟩
theorem doesPass (x y p a : Int) (w : World) (hx : 1 ≤ x ∧ x ≤ 100) (hy : 1 ≤ y ∧ y ≤ 100) (hp : 1 ≤ p ∧ p ≤ 200) (ha : x < a ∧ a < p) :
    Calls Try.prog 36 #[.int .i64 x, .int .i64 y, .int .i64 p, .int .i64 a] w fun e w' => e = .returned (.bool (pas x y p a)) ∧ w = w' := by
  obtain ⟨b1, b2, b3, b4, b5, b6, b7, b8⟩ := pas_bd hx hy hp ha
  have J := Lib.hid (show pas x y p a = decide ((p * p - a * a) * (a - x) * (a - x) ≤ y * y * a * a) from rfl)
  generalize pas x y p a = r at *
  go_enter Try.func36, Try.ntmps36
  go_wp2
  all_goals
    go_ret
    exact ⟨ret_bool (by rw [J.out]), rfl⟩
set_option maxHeartbeats 2000000 in
theorem specCan (x y p : Int) (w : World) :
    Calls Try.prog 16 #[.int .i64 x, .int .i64 y, .int .i64 p] w fun e w' => e = .returned (ctV x y p) ∧ w = w' := by
  have HX := Lib.hid (fun wx => cnDitch x wx)
  have HY := Lib.hid (fun wx => cnDitch y wx)
  have HP := Lib.hid (fun wx => cnPlank p wx)
  cases h : isCt x y p
  · have J := Lib.hid (ctV_no h)
    have H := Lib.hid (show (isDt x && isDt y && isPl p) = false from h)
    clear h
    generalize isDt x = c at *
    generalize isDt y = d at *
    generalize isPl p = q at *
    go_enter Try.func16, Try.ntmps16
    cases c <;> cases d <;> cases q
    all_goals
      first
      | exact absurd H.out (by decide)
      | (go_wp2_with (first
          | (go_at_call 34; (with_reducible refine (HX.out _).mono ?_); rintro e w' ⟨rfl, rfl⟩)
          | (go_at_call 34; (with_reducible refine (HY.out _).mono ?_); rintro e w' ⟨rfl, rfl⟩)
          | (go_at_call 27; (with_reducible refine (HP.out _).mono ?_); rintro e w' ⟨rfl, rfl⟩))
         go_ret2
         exact ⟨ret_v J.out.symm, rfl⟩)
  · have J := Lib.hid (ctV_yes h)
    simp only [isCt, Bool.and_eq_true] at h
    have hx := isDt_in h.1.1
    have hy := isDt_in h.1.2
    have hp := isPl_in h.2
    rw [h.1.1] at HX
    rw [h.1.2] at HY
    rw [h.2] at HP
    clear h
    have A0 := Lib.hid (show ctA x y p = ctF x y p 300 (x + 1) from rfl)
    go_enter Try.func16, Try.ntmps16
    go_wp2_with (first
          | (go_at_call 34; (with_reducible refine (HX.out _).mono ?_); rintro e w' ⟨rfl, rfl⟩)
          | (go_at_call 34; (with_reducible refine (HY.out _).mono ?_); rintro e w' ⟨rfl, rfl⟩)
          | (go_at_call 27; (with_reducible refine (HP.out _).mono ?_); rintro e w' ⟨rfl, rfl⟩))
    go_loop [8] (fun v => ∃ a : Int, (x < a ∧ a ≤ 201) ∧ v = .int .i64 a ∧ Hid (ctA x y p = ctF x y p (300 - a.toNat) a)) (fun a => 400 - (intOf a).toNat)
    case atStart => exact ⟨x + 1, by omega, rfl, Lib.hid (by rw [A0.out]; exact ctF_any _ _ (by omega) (by omega))⟩
    case round =>
      obtain ⟨a, hk, rfl, hL⟩ := hrel
      by_cases hlt : a < p
      · obtain ⟨q, hq⟩ : ∃ q, 300 - a.toNat = q + 1 := ⟨299 - a.toNat, by omega⟩
        have hq' : q = 300 - (a + 1).toNat := by omega
        cases hps : pas x y p a
        · have R := Lib.hid (show ctA x y p = false by rw [hL.out, hq, ctF_no hlt hps])
          obtain ⟨b1, b2, b3, b4, b5, b6, b7, b8⟩ := pas_bd hx hy hp (show x < a ∧ a < p by omega)
          have hps' : y * y * a * a < (p * p - a * a) * (a - x) * (a - x) := by simpa [pas] using hps
          clear hq hq' hps
          go_wp2
          go_ret2
          exact ⟨ret_v (by rw [J.out, R.out]; rfl), rfl⟩
        · have R := Lib.hid (show ctA x y p = ctF x y p (300 - (a + 1).toNat) (a + 1) by rw [hL.out, hq, ctF_on hlt hps, hq'])
          obtain ⟨b1, b2, b3, b4, b5, b6, b7, b8⟩ := pas_bd hx hy hp (show x < a ∧ a < p by omega)
          have hps' : ¬ y * y * a * a < (p * p - a * a) * (a - x) * (a - x) := by simpa [pas] using hps
          clear hq hq' hps
          go_wp2
          go_round
          case rel => exact ⟨a + 1, by omega, by go_num, R⟩
          case measure => (simp [intOf]; try omega)
      · have R := Lib.hid (show ctA x y p = true by rw [hL.out, ctF_end hlt])
        go_wp2
        go_ret2
        exact ⟨ret_v (by rw [J.out, R.out]; rfl), rfl⟩
set_option maxHeartbeats 2000000 in
theorem implCan (x y p : Int) (w : World) :
    Calls Try.prog 17 #[.int .i64 x, .int .i64 y, .int .i64 p] w fun e w' => e = .returned (ctV x y p) ∧ w = w' := by
  have HX := Lib.hid (fun wx => isDitch x wx)
  have HY := Lib.hid (fun wx => isDitch y wx)
  have HP := Lib.hid (fun wx => isLong p wx)
  cases h : isCt x y p
  · have J := Lib.hid (ctV_no h)
    have H := Lib.hid (show (isDt x && isDt y && isPl p) = false from h)
    clear h
    generalize isDt x = c at *
    generalize isDt y = d at *
    generalize isPl p = q at *
    go_enter Try.func17, Try.ntmps17
    cases c <;> cases d <;> cases q
    all_goals
      first
      | exact absurd H.out (by decide)
      | (go_wp2_with (first
          | (go_at_call 35; (with_reducible refine (HX.out _).mono ?_); rintro e w' ⟨rfl, rfl⟩)
          | (go_at_call 35; (with_reducible refine (HY.out _).mono ?_); rintro e w' ⟨rfl, rfl⟩)
          | (go_at_call 28; (with_reducible refine (HP.out _).mono ?_); rintro e w' ⟨rfl, rfl⟩))
         go_ret2
         exact ⟨ret_v J.out.symm, rfl⟩)
  · have J := Lib.hid (ctV_yes h)
    simp only [isCt, Bool.and_eq_true] at h
    have hx := isDt_in h.1.1
    have hy := isDt_in h.1.2
    have hp := isPl_in h.2
    rw [h.1.1] at HX
    rw [h.1.2] at HY
    rw [h.2] at HP
    clear h
    have A0 := Lib.hid (show ctA x y p = ctF x y p 300 (x + 1) from rfl)
    go_enter Try.func17, Try.ntmps17
    go_wp2_with (first
          | (go_at_call 35; (with_reducible refine (HX.out _).mono ?_); rintro e w' ⟨rfl, rfl⟩)
          | (go_at_call 35; (with_reducible refine (HY.out _).mono ?_); rintro e w' ⟨rfl, rfl⟩)
          | (go_at_call 28; (with_reducible refine (HP.out _).mono ?_); rintro e w' ⟨rfl, rfl⟩))
    go_loop [8] (fun v => ∃ a : Int, (x < a ∧ a ≤ 201) ∧ v = .int .i64 a ∧ Hid (ctA x y p = ctF x y p (300 - a.toNat) a)) (fun a => 400 - (intOf a).toNat)
    case atStart => exact ⟨x + 1, by omega, rfl, Lib.hid (by rw [A0.out]; exact ctF_any _ _ (by omega) (by omega))⟩
    case round =>
      obtain ⟨a, hk, rfl, hL⟩ := hrel
      by_cases hlt : a < p
      · obtain ⟨q, hq⟩ : ∃ q, 300 - a.toNat = q + 1 := ⟨299 - a.toNat, by omega⟩
        have hq' : q = 300 - (a + 1).toNat := by omega
        cases hps : pas x y p a
        · have R := Lib.hid (show ctA x y p = false by rw [hL.out, hq, ctF_no hlt hps])
          have DP := fun wx => doesPass x y p a wx hx hy hp (by omega)
          rw [hps] at DP
          have HDP := Lib.hid DP
          clear DP
          clear hq hq' hps
          go_wp2_with (go_at_call 36; (with_reducible refine (HDP.out _).mono ?_); rintro e w' ⟨rfl, rfl⟩)
          go_ret2
          exact ⟨ret_v (by rw [J.out, R.out]; rfl), rfl⟩
        · have R := Lib.hid (show ctA x y p = ctF x y p (300 - (a + 1).toNat) (a + 1) by rw [hL.out, hq, ctF_on hlt hps, hq'])
          have DP := fun wx => doesPass x y p a wx hx hy hp (by omega)
          rw [hps] at DP
          have HDP := Lib.hid DP
          clear DP
          clear hq hq' hps
          go_wp2_with (go_at_call 36; (with_reducible refine (HDP.out _).mono ?_); rintro e w' ⟨rfl, rfl⟩)
          go_round
          case rel => exact ⟨a + 1, by omega, by go_num, R⟩
          case measure => (simp [intOf]; try omega)
      · have R := Lib.hid (show ctA x y p = true by rw [hL.out, ctF_end hlt])
        go_wp2
        go_ret2
        exact ⟨ret_v (by rw [J.out, R.out]; rfl), rfl⟩
end Go.Proofs.Ytfkdkhoihlkgcab
