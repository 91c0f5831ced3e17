/- LeastTideLeap, both sides. -/
import Derived.Test.YtmlokapbholeoabUc
namespace Go.Proofs.Ytmlokapbholeoab
set_option linter.unusedVariables false
open Go.RowKit

def llV (h t : ByteArray) : Value := if good h t then .tuple #[.int .i64 (llF h t h.size 1 : Int), .bool true] else .tuple #[.int .i64 0, .bool false]
theorem llV_form (h t : ByteArray) : ∃ x y, llV h t = .tuple #[.int .i64 x, .bool y] := by
  unfold llV; split <;> exact ⟨_, _, rfl⟩
theorem llF_end {h t : ByteArray} {l : Nat} (g : 0 ≤ arV h t l 0 (h.size + 1)) : ∀ f, llF h t f l = l
  | 0 => rfl
  | f + 1 => llF_yes g
theorem ll_on {h t : ByteArray} {l : Nat} (ht : 0 < t.size) (hl : l ≤ h.size + 1) (g : ¬ 0 ≤ arV h t l 0 (h.size + 1)) : l ≤ h.size ∧ llF h t (h.size + 1 - l) l = llF h t (h.size + 1 - (l + 1)) (l + 1) := by
  have h1 : l ≤ h.size := by
    by_cases c : l = h.size + 1
    · subst c; exact absurd (ll_far ht) g
    · omega
  refine ⟨h1, ?_⟩
  rw [show h.size + 1 - l = (h.size + 1 - (l + 1)) + 1 by omega, llF_no g]
set_option maxHeartbeats 2000000 in
theorem specLl (h t : ByteArray) (w : World) (hs : h.size ≤ 1048576 ∧ t.size ≤ 1048576) :
    Calls Try.prog 25 #[.string h, .string t] w fun e w' => e = .returned (llV h t) ∧ Below w.heap.size w w' := by
  have G := fun wx => tdGood h t wx (by unfold maxLen; omega) (by unfold maxLen; omega)
  cases hg : good h t
  · have J := Lib.hid (show llV h t = .tuple #[.int .i64 0, .bool false] by simp [llV, hg])
    rw [hg] at G
    have HG := Lib.hid G
    clear G hg
    go_enter Try.func25, Try.ntmps25
    go_wp2_with (go_at_call 41; refine (HG.out _).mono ?_; rintro e w' ⟨rfl, rfl⟩)
    go_ret2
    exact ⟨ret_v J.out.symm, Below.refl _ _⟩
  · have J := Lib.hid (show llV h t = .tuple #[.int .i64 (llF h t h.size 1 : Int), .bool true] by simp [llV, hg])
    obtain ⟨⟨z1, z2, _⟩, ⟨z3, z4, _⟩⟩ := good_in hg
    have D := Lib.hid (fun l (hl : l ≤ 100) wx => tdEnd h t l 0 wx hg hl (by omega))
    rw [hg] at G
    have HG := Lib.hid G
    have ON := Lib.hid (fun l => ll_on (h := h) (t := t) (l := l) (by omega))
    have EN := Lib.hid (fun l => llF_end (h := h) (t := t) (l := l))
    clear G hg
    go_enter Try.func25, Try.ntmps25
    go_wp2_with (go_at_call 41; refine (HG.out _).mono ?_; rintro e w' ⟨rfl, rfl⟩)
    go_loopw [6] (fun i wr => ∃ l : Nat, 1 ≤ l ∧ l ≤ h.size + 1 ∧ i = .int .i64 l ∧ Hid (llF h t h.size 1 = llF h t (h.size + 1 - l) l) ∧ Below w.heap.size w wr) (fun i _ => h.size + 1 - (intOf i).toNat)
    case atStart => exact ⟨1, Nat.le_refl _, by omega, rfl, Lib.hid rfl, Below.refl _ _⟩
    case round =>
      obtain ⟨l, h1, h2, rfl, HL, hbw⟩ := hrel
      have hsz := hbw.size
      have HB := Lib.hid hbw
      have DK := Lib.hid (D.out l (by omega))
      clear hbw
      by_cases hz : 0 ≤ arV h t l 0 (h.size + 1)
      · have E := Lib.hid (HL.out.trans (EN.out l hz _))
        have hz' : ¬ arV h t l 0 (h.size + 1) < 0 := by omega
        generalize arV h t l 0 (h.size + 1) = y at *
        go_wp2_with (go_at_call 31; refine (DK.out _).mono ?_; rintro e w2 ⟨rfl, hb2⟩)
        go_ret2
        exact ⟨ret_v (show llV h t = .tuple #[.int .i64 (l : Int), .bool true] by rw [J.out, E.out]).symm, HB.out.trans (hb2.mono hsz)⟩
      · have E := ON.out l h2 (by omega)
        have E1 := E.1
        have E2 := Lib.hid (HL.out.trans E.2)
        clear E
        have hz' : arV h t l 0 (h.size + 1) < 0 := by omega
        generalize arV h t l 0 (h.size + 1) = y at *
        go_wp2_with (go_at_call 31; refine (DK.out _).mono ?_; rintro e w2 ⟨rfl, hb2⟩)
        go_roundw
        case rel => exact ⟨l + 1, by omega, by omega, by go_num, E2, HB.out.trans (hb2.mono hsz)⟩
        case measure => (simp [intOf]; try omega)
set_option maxHeartbeats 4000000 in
theorem implLl (h t : ByteArray) (w : World) (hs : h.size ≤ 1048576 ∧ t.size ≤ 1048576) :
    Calls Try.prog 26 #[.string h, .string t] w fun e w' => e = .returned (llV h t) ∧ Below w.heap.size w w' := by
  have G := fun wx => isValid h t wx (by unfold maxLen; omega) (by unfold maxLen; omega)
  have X0 := Lib.hid (Blk.new w #[.string h, .string t] 37)
  have B0 := Lib.hid ((Below.refl w.heap.size w).alloc (Nat.le_refl _) (.cells #[.string h, .string t] 37))
  unfold cst at G
  cases hg : good h t
  · have J := Lib.hid (show llV h t = .tuple #[.int .i64 0, .bool false] by simp [llV, hg])
    rw [hg] at G
    have HG := Lib.hid G
    clear G hg
    go_enter Try.func26, Try.ntmps26
    go_wp2_with fail
    refine (HG.out _).mono ?_
    rintro e w1 ⟨rfl, hb1⟩
    go_wp2
    go_ret2
    exact ⟨ret_v J.out.symm, B0.out.trans (hb1.mono (by simp))⟩
  · have J := Lib.hid (show llV h t = .tuple #[.int .i64 (llF h t h.size 1 : Int), .bool true] by simp [llV, hg])
    obtain ⟨⟨z1, z2, _⟩, ⟨z3, z4, _⟩⟩ := good_in hg
    have D := Lib.hid (fun l (hl : l ≤ 100) wx => hoursNeeded h t l 0 wx hg hl (by omega))
    unfold cst at D
    rw [hg] at G
    have HG := Lib.hid G
    have ON := Lib.hid (fun l => ll_on (h := h) (t := t) (l := l) (by omega))
    have EN := Lib.hid (fun l => llF_end (h := h) (t := t) (l := l))
    have HV := Lib.hid (fun l => (show (0 ≤ arV h t l 0 (h.size + 1) → ¬ hnV h t l 0 < 0) ∧ (¬ 0 ≤ arV h t l 0 (h.size + 1) → hnV h t l 0 < 0) from ⟨fun g => by have := hnV_yes g; omega, fun g => by rw [hnV_no g]; omega⟩))
    clear G hg
    go_enter Try.func26, Try.ntmps26
    go_wp2_with fail
    refine (HG.out _).mono ?_
    rintro e w1 ⟨rfl, hb1⟩
    have X1 := Lib.hid (X0.out.below hb1 (by simp))
    have s1 : w.heap.size + 1 ≤ w1.heap.size := by have := hb1.size; simpa using this
    have B1 := Lib.hid (B0.out.trans (hb1.mono (by simp)))
    clear hb1
    go_wp2
    go_loopw [7] (fun i wr => ∃ l : Nat, 1 ≤ l ∧ l ≤ h.size + 1 ∧ i = .int .i64 l ∧ Hid (llF h t h.size 1 = llF h t (h.size + 1 - l) l) ∧ Hid (Blk wr w.heap.size #[.string h, .string t]) ∧ Below w1.heap.size w1 wr) (fun i _ => h.size + 1 - (intOf i).toNat)
    case atStart => exact ⟨1, Nat.le_refl _, by omega, rfl, Lib.hid rfl, X1, Below.refl _ _⟩
    case round =>
      obtain ⟨l, h1, h2, rfl, HL, HX, hbw⟩ := hrel
      have hsz := hbw.size
      have HB := Lib.hid hbw
      have DK := Lib.hid (D.out l (by omega))
      obtain ⟨d0, d1, dl⟩ := HX.out.two
      clear hbw
      by_cases hz : 0 ≤ arV h t l 0 (h.size + 1)
      · have E := Lib.hid (HL.out.trans (EN.out l hz _))
        have hz' := (HV.out l).1 hz
        clear hz
        generalize hnV h t l 0 = y at *
        go_wp2_with (go_at_call 39; refine (DK.out _).mono ?_; rintro e w2 ⟨rfl, hb2⟩)
        go_ret2
        exact ⟨ret_v (show llV h t = .tuple #[.int .i64 (l : Int), .bool true] by rw [J.out, E.out]).symm, B1.out.trans ((HB.out.trans (hb2.mono hsz)).mono (by omega))⟩
      · have E := ON.out l h2 (by omega)
        have E1 := E.1
        have E2 := Lib.hid (HL.out.trans E.2)
        clear E
        have hz' := (HV.out l).2 (by omega)
        clear hz
        generalize hnV h t l 0 = y at *
        go_wp2_with (go_at_call 39; refine (DK.out _).mono ?_; rintro e w2 ⟨rfl, hb2⟩; have HX3 := Lib.hid (HX.out.below hb2 dl); have HB2 := Lib.hid (HB.out.trans (hb2.mono hsz)); clear hb2)
        go_roundw
        case rel => exact ⟨l + 1, by omega, by omega, by go_num, E2, HX3, HB2.out⟩
        case measure => (simp [intOf]; try omega)
end Go.Proofs.Ytmlokapbholeoab
