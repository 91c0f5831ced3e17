/- DryHours, AlwaysDry, NeverDry: the functions themselves. -/
import Derived.Test.YtmlokapbholeoaaTb
namespace Go.Proofs.Ytmlokapbholeoaa
set_option linter.unusedVariables false
open Go.RowKit

theorem Calls.intsNo {P : Program} {f : FuncId} {args : Array Value} {w : World} (h : Calls P f args w fun e w' => e = .returned (.tuple #[.slice none 0 0, .bool false]) ∧ Below w.heap.size w w') :
    Calls P f args w fun e w' => ∃ v, e = .returned (.tuple #[v, .bool false]) ∧ Ints w' w.heap.size v [] ∧ Below w.heap.size w w' :=
  h.mono (by rintro e w' ⟨rfl, hb⟩; exact ⟨_, rfl, World.ownsRow_nil _ _ _ _, hb⟩)
def alwL (h t : ByteArray) : List Int := if good h t then byH h t t.size h.size else []
theorem alwL_len (h t : ByteArray) : (alwL h t).length ≤ 1000 := by
  unfold alwL; split
  · rename_i g; have := byH_len h t t.size h.size; have := (good_in g).1.2.1; omega
  · simp
set_option maxHeartbeats 1000000 in
theorem specAlw (h t : ByteArray) (w : World) (hs : h.size ≤ 1048576 ∧ t.size ≤ 1048576) :
    Calls Try.prog 21 #[.string h, .string t] w fun e w' => ∃ v, e = .returned (.tuple #[v, .bool (good h t)]) ∧ Ints w' w.heap.size v (alwL h t) ∧ Below w.heap.size w w' := by
  have G := fun wx => tdGood h t wx (by unfold maxLen; omega) (by unfold maxLen; omega)
  unfold alwL
  cases hg : good h t
  · rw [hg] at G
    have HG := Lib.hid G
    clear G hg
    refine Calls.intsNo ?_
    go_enter Try.func21, Try.ntmps21
    go_wp2_with (go_at_call 29; refine (HG.out _).mono ?_; rintro e w' ⟨rfl, rfl⟩)
    go_ret2
    exact ⟨rfl, Below.refl _ _⟩
  · rw [hg] at G
    have HG := Lib.hid G
    have D := Lib.hid (fun wx => tdBy h t t.size (t.size : Int) wx rfl hg)
    simp only [if_true]
    clear G hg
    go_enter Try.func21, Try.ntmps21
    go_wp2_with (first
      | (go_at_call 29; refine (HG.out _).mono ?_; rintro e w' ⟨rfl, rfl⟩)
      | (go_at_call 39; refine (D.out _).mono ?_; rintro e w2 ⟨v, rfl, hv, hb2⟩))
    go_ret2
    exact ⟨v, rfl, hv, hb2⟩
set_option maxHeartbeats 1000000 in
theorem implAlw (h t : ByteArray) (w : World) (hs : h.size ≤ 1048576 ∧ t.size ≤ 1048576) :
    Calls Try.prog 22 #[.string h, .string t] w fun e w' => ∃ v, e = .returned (.tuple #[v, .bool (good h t)]) ∧ Ints w' w.heap.size v (alwL h t) ∧ Below w.heap.size w w' := by
  have G := fun wx => isValid h t wx (by unfold maxLen; omega) (by unfold maxLen; omega)
  have X := Lib.hid (Blk.new w #[.string h, .string t] 40)
  have B0 := Lib.hid ((Below.refl w.heap.size w).alloc (Nat.le_refl _) (.cells #[.string h, .string t] 40))
  unfold alwL
  cases hg : good h t
  · rw [hg] at G
    have HG := Lib.hid G
    clear G hg
    refine Calls.intsNo ?_
    go_enter Try.func22, Try.ntmps22
    go_wp2_with fail
    refine (HG.out _).mono ?_
    rintro e w1 ⟨rfl, hb1⟩
    go_wp2
    go_ret2
    exact ⟨rfl, B0.out.trans (hb1.mono (by simp))⟩
  · rw [hg] at G
    have HG := Lib.hid G
    have D := Lib.hid (fun wx => stonesDryFor h t t.size (t.size : Int) wx rfl hg)
    simp only [if_true]
    clear G hg
    go_enter Try.func22, Try.ntmps22
    go_wp2_with fail
    refine (HG.out _).mono ?_
    rintro e w1 ⟨rfl, hb1⟩
    obtain ⟨c0, c1, cl⟩ := (X.out.below hb1 (by simp)).two
    have s1 : w.heap.size + 1 ≤ w1.heap.size := by have := hb1.size; simpa using this
    have B1 := Lib.hid (B0.out.trans (hb1.mono (by simp)))
    clear hb1
    go_wp2_with fail
    refine (D.out _).mono ?_
    rintro e w2 ⟨v, rfl, hv, hb2⟩
    go_wp2
    go_ret2
    exact ⟨v, rfl, ints_mono' hv (by omega), B1.out.trans (hb2.mono (by omega))⟩
def nevL (h t : ByteArray) : List Int := if good h t then byH h t 0 h.size else []
theorem nevL_len (h t : ByteArray) : (nevL h t).length ≤ 1000 := by
  unfold nevL; split
  · rename_i g; have := byH_len h t 0 h.size; have := (good_in g).1.2.1; omega
  · simp
set_option maxHeartbeats 1000000 in
theorem specNev (h t : ByteArray) (w : World) (hs : h.size ≤ 1048576 ∧ t.size ≤ 1048576) :
    Calls Try.prog 23 #[.string h, .string t] w fun e w' => ∃ v, e = .returned (.tuple #[v, .bool (good h t)]) ∧ Ints w' w.heap.size v (nevL h t) ∧ Below w.heap.size w w' := by
  have G := fun wx => tdGood h t wx (by unfold maxLen; omega) (by unfold maxLen; omega)
  unfold nevL
  cases hg : good h t
  · rw [hg] at G
    have HG := Lib.hid G
    clear G hg
    refine Calls.intsNo ?_
    go_enter Try.func23, Try.ntmps23
    go_wp2_with (go_at_call 29; refine (HG.out _).mono ?_; rintro e w' ⟨rfl, rfl⟩)
    go_ret2
    exact ⟨rfl, Below.refl _ _⟩
  · rw [hg] at G
    have HG := Lib.hid G
    have D := Lib.hid (fun wx => tdBy h t 0 0 wx rfl hg)
    simp only [if_true]
    clear G hg
    go_enter Try.func23, Try.ntmps23
    go_wp2_with (first
      | (go_at_call 29; refine (HG.out _).mono ?_; rintro e w' ⟨rfl, rfl⟩)
      | (go_at_call 39; refine (D.out _).mono ?_; rintro e w2 ⟨v, rfl, hv, hb2⟩))
    go_ret2
    exact ⟨v, rfl, hv, hb2⟩
set_option maxHeartbeats 1000000 in
theorem implNev (h t : ByteArray) (w : World) (hs : h.size ≤ 1048576 ∧ t.size ≤ 1048576) :
    Calls Try.prog 24 #[.string h, .string t] w fun e w' => ∃ v, e = .returned (.tuple #[v, .bool (good h t)]) ∧ Ints w' w.heap.size v (nevL h t) ∧ Below w.heap.size w w' := by
  have G := fun wx => isValid h t wx (by unfold maxLen; omega) (by unfold maxLen; omega)
  have X := Lib.hid (Blk.new w #[.string h, .string t] 40)
  have B0 := Lib.hid ((Below.refl w.heap.size w).alloc (Nat.le_refl _) (.cells #[.string h, .string t] 40))
  unfold nevL
  cases hg : good h t
  · rw [hg] at G
    have HG := Lib.hid G
    clear G hg
    refine Calls.intsNo ?_
    go_enter Try.func24, Try.ntmps24
    go_wp2_with fail
    refine (HG.out _).mono ?_
    rintro e w1 ⟨rfl, hb1⟩
    go_wp2
    go_ret2
    exact ⟨rfl, B0.out.trans (hb1.mono (by simp))⟩
  · rw [hg] at G
    have HG := Lib.hid G
    have D := Lib.hid (fun wx => stonesDryFor h t 0 0 wx rfl hg)
    simp only [if_true]
    clear G hg
    go_enter Try.func24, Try.ntmps24
    go_wp2_with fail
    refine (HG.out _).mono ?_
    rintro e w1 ⟨rfl, hb1⟩
    obtain ⟨c0, c1, cl⟩ := (X.out.below hb1 (by simp)).two
    have s1 : w.heap.size + 1 ≤ w1.heap.size := by have := hb1.size; simpa using this
    have B1 := Lib.hid (B0.out.trans (hb1.mono (by simp)))
    clear hb1
    go_wp2_with fail
    refine (D.out _).mono ?_
    rintro e w2 ⟨v, rfl, hv, hb2⟩
    go_wp2
    go_ret2
    exact ⟨v, rfl, ints_mono' hv (by omega), B1.out.trans (hb2.mono (by omega))⟩
/-- DryHours -/
def dhB (h t : ByteArray) (P : Int) : Bool := good h t && inB P 1 h.size
def dhL (h t : ByteArray) (P : Int) : List Int := if dhB h t P then hrs h t P.toNat t.size else []
theorem dhL_len (h t : ByteArray) (P : Int) : (dhL h t P).length ≤ 1000 := by
  unfold dhL; split
  · rename_i g
    have := hrs_len h t P.toNat t.size
    have g2 : good h t = true := by simp only [dhB, Bool.and_eq_true] at g; exact g.1
    have := (good_in g2).2.2.1; omega
  · simp
set_option maxHeartbeats 1000000 in
theorem specDh (h t : ByteArray) (P : Int) (w : World) (hs : h.size ≤ 1048576 ∧ t.size ≤ 1048576) :
    Calls Try.prog 16 #[.string h, .string t, .int .i64 P] w fun e w' => ∃ v, e = .returned (.tuple #[v, .bool (dhB h t P)]) ∧ Ints w' w.heap.size v (dhL h t P) ∧ Below w.heap.size w w' := by
  have G := fun wx => tdGood h t wx (by unfold maxLen; omega) (by unfold maxLen; omega)
  unfold dhL
  cases hg : good h t
  · have e0 : dhB h t P = false := by simp [dhB, hg]
    rw [hg] at G
    rw [e0]
    have HG := Lib.hid G
    clear G hg e0
    refine Calls.intsNo ?_
    go_enter Try.func16, Try.ntmps16
    go_wp2_with (go_at_call 29; refine (HG.out _).mono ?_; rintro e w' ⟨rfl, rfl⟩)
    go_ret2
    exact ⟨rfl, Below.refl _ _⟩
  cases hi : inB P 1 h.size
  · have e0 : dhB h t P = false := by simp [dhB, hi]
    have I := Lib.hid (fun wx => l1In P 1 h.size wx)
    rw [hi] at I
    rw [hg] at G
    rw [e0]
    have HG := Lib.hid G
    clear G hg e0 hi
    refine Calls.intsNo ?_
    go_enter Try.func16, Try.ntmps16
    go_wp2_with (first
      | (go_at_call 29; refine (HG.out _).mono ?_; rintro e w' ⟨rfl, rfl⟩)
      | (go_at_call 35; refine (I.out _).mono ?_; rintro e w' ⟨rfl, rfl⟩))
    go_ret2
    exact ⟨rfl, Below.refl _ _⟩
  · have e0 : dhB h t P = true := by simp [dhB, hi, hg]
    have hp : 1 ≤ P ∧ P ≤ h.size := by simpa [inB] using hi
    have I := Lib.hid (fun wx => l1In P 1 h.size wx)
    rw [hi] at I
    have D := Lib.hid (fun wx => tdHours h t P.toNat P wx (by omega) hg (by omega))
    rw [hg] at G
    rw [e0]
    have HG := Lib.hid G
    simp only [if_true]
    clear G hg e0 hi
    go_enter Try.func16, Try.ntmps16
    go_wp2_with (first
      | (go_at_call 29; refine (HG.out _).mono ?_; rintro e w' ⟨rfl, rfl⟩)
      | (go_at_call 35; refine (I.out _).mono ?_; rintro e w' ⟨rfl, rfl⟩)
      | (go_at_call 36; refine (D.out _).mono ?_; rintro e w2 ⟨v, rfl, hv, hb2⟩))
    go_ret2
    exact ⟨v, rfl, hv, hb2⟩
set_option maxHeartbeats 1000000 in
theorem implDh (h t : ByteArray) (P : Int) (w : World) (hs : h.size ≤ 1048576 ∧ t.size ≤ 1048576) :
    Calls Try.prog 17 #[.string h, .string t, .int .i64 P] w fun e w' => ∃ v, e = .returned (.tuple #[v, .bool (dhB h t P)]) ∧ Ints w' w.heap.size v (dhL h t P) ∧ Below w.heap.size w w' := by
  have G := fun wx => isValid h t wx (by unfold maxLen; omega) (by unfold maxLen; omega)
  have X := Lib.hid (Blk.new w #[.string h, .string t] 40)
  have B0 := Lib.hid ((Below.refl w.heap.size w).alloc (Nat.le_refl _) (.cells #[.string h, .string t] 40))
  unfold dhL
  cases hg : good h t
  · have e0 : dhB h t P = false := by simp [dhB, hg]
    rw [hg] at G
    rw [e0]
    have HG := Lib.hid G
    clear G hg e0
    refine Calls.intsNo ?_
    go_enter Try.func17, Try.ntmps17
    go_wp2_with fail
    refine (HG.out _).mono ?_
    rintro e w1 ⟨rfl, hb1⟩
    go_wp2
    go_ret2
    exact ⟨rfl, B0.out.trans (hb1.mono (by simp))⟩
  cases hi : inB P 1 h.size
  · have e0 : dhB h t P = false := by simp [dhB, hi]
    have I := Lib.hid (fun wx => isInRiverT h P wx hs.1)
    rw [hi] at I
    rw [hg] at G
    rw [e0]
    have HG := Lib.hid G
    clear G hg e0 hi
    refine Calls.intsNo ?_
    go_enter Try.func17, Try.ntmps17
    go_wp2_with fail
    refine (HG.out _).mono ?_
    rintro e w1 ⟨rfl, hb1⟩
    go_wp2_with (go_at_call 37; refine (I.out _).mono ?_; rintro e w' ⟨rfl, rfl⟩)
    go_ret2
    exact ⟨rfl, B0.out.trans (hb1.mono (by simp))⟩
  · have e0 : dhB h t P = true := by simp [dhB, hi, hg]
    have hp : 1 ≤ P ∧ P ≤ h.size := by simpa [inB] using hi
    have I := Lib.hid (fun wx => isInRiverT h P wx hs.1)
    rw [hi] at I
    have D := Lib.hid (fun wx => dryHours h t P.toNat P wx (by omega) hg (by omega))
    rw [hg] at G
    rw [e0]
    have HG := Lib.hid G
    simp only [if_true]
    clear G hg e0 hi
    go_enter Try.func17, Try.ntmps17
    go_wp2_with fail
    refine (HG.out _).mono ?_
    rintro e w1 ⟨rfl, hb1⟩
    obtain ⟨c0, c1, cl⟩ := (X.out.below hb1 (by simp)).two
    have s1 : w.heap.size + 1 ≤ w1.heap.size := by have := hb1.size; simpa using this
    have B1 := Lib.hid (B0.out.trans (hb1.mono (by simp)))
    clear hb1
    go_wp2_with (go_at_call 37; refine (I.out _).mono ?_; rintro e w' ⟨rfl, rfl⟩)
    refine (D.out _).mono ?_
    rintro e w2 ⟨v, rfl, hv, hb2⟩
    go_wp2
    go_ret2
    exact ⟨v, rfl, ints_mono' hv (by omega), B1.out.trans (hb2.mono (by omega))⟩
end Go.Proofs.Ytmlokapbholeoaa
