/- Whether a place is dry: spec.tdDry, impl's coast.isDry; a coast's checks. -/
import Derived.Test.YtmlokapbholeoabTt
import Derived.Test.YtmlokapbholeoabBk
import Derived.IntWalk
namespace Go.Proofs.Ytmlokapbholeoab
set_option linter.unusedVariables false
open Go.RowKit

theorem bel_dr (w : World) (n : Nat) : Below w.heap.size w (w.drewN n) := below_drewN (Below.refl _ _) n
theorem tmod_nat (x n : Nat) : ((x : Int)).tmod (n : Int) = ((x % n : Nat) : Int) := rfl
set_option maxHeartbeats 1000000 in
theorem tdDry (h t : ByteArray) (p x : Nat) (P X : Int) (w : World) (hP : P = p) (hX : X = x) (hg : good h t = true) (hp : p ≤ h.size + 1) (hx : x ≤ 1000000) :
    Calls Try.prog 48 #[.string h, .string t, .int .i64 P, .int .i64 X] w fun e w' => e = .returned (.bool (dry h t p x)) ∧ ∃ n, w' = w.drewN n := by
  obtain ⟨⟨h1, h2, _⟩, ⟨t1, t2, _⟩⟩ := good_in hg
  by_cases p0 : p = 0
  · have R := Lib.hid (show dry h t p x = true by rw [p0]; exact dry_0 _ _ _)
    have q0 : P = 0 := by omega
    clear hP hg
    subst q0
    go_enter Try.func48, Try.ntmps48
    go_wp2
    go_quiet (fail)
    go_wp2
    go_ret
    exact ⟨ret_bool R.out.symm, _, rfl⟩
  by_cases p1 : p = h.size + 1
  · have R := Lib.hid (show dry h t p x = true by rw [p1]; exact dry_far _ _ _)
    obtain ⟨n, hn⟩ : ∃ n : Int, n = h.size := ⟨_, rfl⟩
    have q0 : ¬ P = 0 := by omega
    have q1 : P = (h.size : Int) + 1 := by omega
    have q2 : ((h.size : Int) + 1 == 0) = false := by simp; omega
    have W1 := IntWalk.i64_in ((h.size : Int) + 1) (by omega)
    clear hP hg hn
    subst q1
    go_enter Try.func48, Try.ntmps48
    go_wp2
    go_quiet (fail)
    go_wp2
    go_ret
    exact ⟨ret_bool R.out.symm, _, rfl⟩
  · obtain ⟨k, rfl⟩ : ∃ k, p = k + 1 := ⟨p - 1, by omega⟩
    have hk : k < h.size := by omega
    obtain ⟨r, hr⟩ : ∃ r, r = x % t.size := ⟨_, rfl⟩
    have hrt : r < t.size := by rw [hr]; exact Nat.mod_lt _ (by omega)
    have R := dry_in (t := t) x hk
    rw [← hr, ← bt_at hk, ← bt_at hrt] at R
    have HR := Lib.hid R
    have q0 : (P == 0) = false := by simp; omega
    have q1 : (P == (h.size : Int) + 1) = false := by simp; omega
    have W1 := IntWalk.i64_in ((h.size : Int) + 1) (by omega)
    have q2 : P - 1 = (k : Int) := by omega
    have q3 : P + -1 = (k : Int) := by omega
    have q4 : IntKind.i64.wrap (P - 1) = (k : Int) := by rw [q2]; exact IntWalk.i64_in _ (by omega)
    have m1 : X.tmod (t.size : Int) = (r : Int) := by rw [hX, tmod_nat, hr]
    have m2 : IntKind.i64.wrap (X.tmod (t.size : Int)) = (r : Int) := by rw [m1]; exact IntWalk.i64_in _ (by omega)
    have m3 : ¬ (t.size : Int) = 0 := by omega
    have b1 : (k : Int) < h.size := by omega
    have b2 : (r : Int) < t.size := by omega
    have b3 : (0 : Int) ≤ k := by omega
    have b4 : (0 : Int) ≤ r := by omega
    clear hP hX hr R hg p0 p1
    go_enter Try.func48, Try.ntmps48
    go_wp2
    go_quiet (fail)
    go_wp2
    go_ret
    exact ⟨ret_bool (by rw [HR.out]), _, rfl⟩
/-- a coast -/
def cst (h t : ByteArray) : Value := .agg #[.string h, .string t]
theorem isInRiverT (s : ByteArray) (p : Int) (w : World) (hs : s.size ≤ 1048576) :
    Calls Try.prog 58 #[.string s, .int .i64 p] w fun e w' => e = .returned (.bool (inB p 1 s.size)) ∧ w = w' := by
  by_cases h1 : p < 1
  · go_enter Try.func58, Try.ntmps58
    go_wp2
    go_ret
    exact ⟨ret_bool (by simp [inB]; omega), rfl⟩
  · by_cases h2 : (s.size : Int) < p
    · go_enter Try.func58, Try.ntmps58
      go_wp2
      go_ret
      exact ⟨ret_bool (by simp [inB]; omega), rfl⟩
    · go_enter Try.func58, Try.ntmps58
      go_wp2
      go_ret
      exact ⟨ret_bool (by simp [inB]; omega), rfl⟩
theorem isInRiverQ {b : Bool} (s : ByteArray) (p : Int) (w : World) (hs : s.size ≤ 1048576) (G : Hid (inB p 1 s.size = b)) :
    Calls Try.prog 58 #[.string s, .int .i64 p] w fun e w' => e = .returned (.bool b) ∧ w' = w :=
  (isInRiverT s p w hs).mono (by rintro e w' ⟨rfl, rfl⟩; exact ⟨by rw [G.out], rfl⟩)
set_option maxHeartbeats 1000000 in
theorem isDry (h t : ByteArray) (p x : Nat) (P X : Int) (w : World) (hP : P = p) (hX : X = x) (hg : good h t = true) (hp : p ≤ h.size + 1) (hx : x ≤ 1000000) :
    Calls Try.prog 49 #[cst h t, .int .i64 P, .int .i64 X] w fun e w' => e = .returned (.bool (dry h t p x)) ∧ Below w.heap.size w w' := by
  obtain ⟨⟨h1, h2, _⟩, ⟨t1, t2, _⟩⟩ := good_in hg
  obtain ⟨c0, c1, cl⟩ := (Blk.new w #[.string h, .string t] 37).two
  have hs : h.size ≤ 1048576 := by omega
  have BEL := Lib.hid (fun n => below_drewN ((Below.refl w.heap.size w).alloc (Nat.le_refl _) (.cells #[.string h, .string t] 37)) n)
  unfold cst
  by_cases p0 : p = 0 ∨ p = h.size + 1
  · have R := Lib.hid (show dry h t p x = true by rcases p0 with rfl | rfl; exact dry_0 _ _ _; exact dry_far _ _ _)
    have G := Lib.hid (inB_no (n := P) (lo := 1) (hi := h.size) (by omega))
    clear hP hg p0
    go_enter Try.func49, Try.ntmps49
    go_wp2
    go_quiet ((go_at_call 58; exact Calls.quiet_of_same (isInRiverQ _ _ _ hs G)))
    go_wp2
    go_ret
    exact ⟨ret_bool R.out.symm, BEL.out _⟩
  · obtain ⟨k, rfl⟩ : ∃ k, p = k + 1 := ⟨p - 1, by omega⟩
    have hk : k < h.size := by omega
    obtain ⟨r, hr⟩ : ∃ r, r = x % t.size := ⟨_, rfl⟩
    have hrt : r < t.size := by rw [hr]; exact Nat.mod_lt _ (by omega)
    have R := dry_in (t := t) x hk
    rw [← hr, ← bt_at hk, ← bt_at hrt] at R
    have HR := Lib.hid R
    have G := Lib.hid (inB_yes (n := P) (lo := 1) (hi := h.size) (by omega) (by omega))
    have q2 : P - 1 = (k : Int) := by omega
    have q3 : P + -1 = (k : Int) := by omega
    have q4 : IntKind.i64.wrap (P - 1) = (k : Int) := by rw [q2]; exact IntWalk.i64_in _ (by omega)
    have m1 : X.tmod (t.size : Int) = (r : Int) := by rw [hX, tmod_nat, hr]
    have m2 : IntKind.i64.wrap (X.tmod (t.size : Int)) = (r : Int) := by rw [m1]; exact IntWalk.i64_in _ (by omega)
    have m3 : ¬ (t.size : Int) = 0 := by omega
    have b1 : (k : Int) < h.size := by omega
    have b2 : (r : Int) < t.size := by omega
    have b3 : (0 : Int) ≤ k := by omega
    have b4 : (0 : Int) ≤ r := by omega
    clear hP hX hr R hg p0
    go_enter Try.func49, Try.ntmps49
    go_wp2
    go_quiet ((go_at_call 58; exact Calls.quiet_of_same (isInRiverQ _ _ _ hs G)))
    go_wp2
    go_ret
    exact ⟨ret_bool (by rw [HR.out]), BEL.out _⟩
theorem isValid (h t : ByteArray) (w : World) (hh : h.size ≤ maxLen) (ht : t.size ≤ maxLen) :
    Calls Try.prog 42 #[cst h t] w fun e w' => e = .returned (.bool (good h t)) ∧ Below w.heap.size w w' := by
  obtain ⟨c0, c1, cl⟩ := (Blk.new w #[.string h, .string t] 37).two
  have X := Lib.hid (Blk.new w #[.string h, .string t] 37)
  have B0 := Lib.hid ((Below.refl w.heap.size w).alloc (Nat.le_refl _) (.cells #[.string h, .string t] 37))
  unfold cst
  cases h1 : isTx 14 h
  · have R := Lib.hid (show good h t = false by simp [good, h1])
    have G := Lib.hid h1
    clear h1
    go_enter Try.func42, Try.ntmps42
    go_wp2_with fail
    refine (implIsShore _ _ hh).mono ?_
    rw [G.out]
    rintro e w1 ⟨rfl, hb1⟩
    go_wp2
    go_ret
    exact ⟨ret_bool R.out.symm, B0.out.trans (hb1.mono (by simp))⟩
  · have R := Lib.hid (show good h t = isTx 12 t by simp [good, h1])
    have G := Lib.hid h1
    clear h1
    go_enter Try.func42, Try.ntmps42
    go_wp2_with fail
    refine (implIsShore _ _ hh).mono ?_
    rw [G.out]
    rintro e w1 ⟨rfl, hb1⟩
    obtain ⟨d0, d1, dl⟩ := (X.out.below hb1 (by simp)).two
    go_wp2_with fail
    refine (implIsTide _ _ ht).mono ?_
    rintro e w2 ⟨rfl, hb2⟩
    go_wp2
    go_ret
    exact ⟨ret_bool R.out.symm, (B0.out.trans (hb1.mono (by simp))).trans (hb2.mono (by have := hb1.size; simp at this; omega))⟩
theorem isHour (x : Int) (w : World) :
    Calls Try.prog 44 #[.int .i64 x] w fun e w' => e = .returned (.bool (inB x 0 1000)) ∧ w = w' := by
  by_cases h1 : x < 0
  · go_enter Try.func44, Try.ntmps44
    go_wp2
    go_ret
    exact ⟨ret_bool (by simp [inB]; omega), rfl⟩
  · by_cases h2 : 1000 < x
    · go_enter Try.func44, Try.ntmps44
      go_wp2
      go_ret
      exact ⟨ret_bool (by simp [inB]; omega), rfl⟩
    · go_enter Try.func44, Try.ntmps44
      go_wp2
      go_ret
      exact ⟨ret_bool (by simp [inB]; omega), rfl⟩
theorem tdHour (x : Int) (w : World) :
    Calls Try.prog 40 #[.int .i64 x] w fun e w' => e = .returned (.bool (inB x 0 1000)) ∧ w = w' := by
  go_enter Try.func40, Try.ntmps40
  go_wp2_with (go_at_call 52; refine (l1In _ _ _ _).mono ?_; rintro e w' ⟨rfl, rfl⟩)
  go_ret
  exact ⟨rfl, rfl⟩
theorem farBankC (h t : ByteArray) (w : World) (hh : h.size ≤ 1048576) :
    Calls Try.prog 46 #[cst h t] w fun e w' => e = .returned (.int .i64 ((h.size : Int) + 1)) ∧ Below w.heap.size w w' := by
  obtain ⟨c0, c1, cl⟩ := (Blk.new w #[.string h, .string t] 37).two
  have B0 := Lib.hid ((Below.refl w.heap.size w).alloc (Nat.le_refl _) (.cells #[.string h, .string t] 37))
  have C : ∀ wx, Calls Try.prog 57 #[.string h] wx fun e w' => e = .returned (.int .i64 ((h.size : Int) + 1)) ∧ wx = w' := by
    intro wx
    go_enter Try.func57, Try.ntmps57
    go_wp2
    go_ret
    exact ⟨rfl, rfl⟩
  unfold cst
  go_enter Try.func46, Try.ntmps46
  go_wp2_with (go_at_call 57; refine (C _).mono ?_; rintro e w' ⟨rfl, rfl⟩)
  go_ret
  exact ⟨rfl, B0.out⟩
end Go.Proofs.Ytmlokapbholeoab
