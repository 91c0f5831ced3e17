/- What is asked of a shore, a tide, leaps and an hour: impl's coast.isValidWithLeap, coast.isValidAt; spec.tdLeap, spec.tdAsked. -/
import Derived.Test.YtmlokapbholeoabTy
namespace Go.Proofs.Ytmlokapbholeoab
set_option linter.unusedVariables false
open Go.RowKit

def lpd (h t : ByteArray) (L : Int) : Bool := good h t && inB L 1 15
def askd (h t : ByteArray) (L X : Int) : Bool := lpd h t L && inB X 0 1000
theorem lpd_in {h t : ByteArray} {L : Int} (g : lpd h t L = true) : good h t = true ∧ 1 ≤ L ∧ L ≤ 15 := by
  simp only [lpd, Bool.and_eq_true] at g
  exact ⟨g.1, by simpa [inB] using g.2⟩
theorem askd_in {h t : ByteArray} {L X : Int} (g : askd h t L X = true) : lpd h t L = true ∧ 0 ≤ X ∧ X ≤ 1000 := by
  simp only [askd, Bool.and_eq_true] at g
  exact ⟨g.1, by simpa [inB] using g.2⟩
theorem tdLeap (h t : ByteArray) (L : Int) (w : World) (hh : h.size ≤ 1048576) (ht : t.size ≤ 1048576) :
    Calls Try.prog 37 #[.string h, .string t, .int .i64 L] w fun e w' => e = .returned (.bool (lpd h t L)) ∧ w = w' := by
  have G := fun wx => tdGood h t wx (by unfold maxLen; omega) (by unfold maxLen; omega)
  cases hg : good h t
  · have R := Lib.hid (show lpd h t L = false by simp [lpd, hg])
    rw [hg] at G
    have HG := Lib.hid G
    clear G hg
    go_enter Try.func37, Try.ntmps37
    go_wp2_with (go_at_call 41; refine (HG.out _).mono ?_; rintro e w' ⟨rfl, rfl⟩)
    go_ret
    exact ⟨ret_bool R.out.symm, rfl⟩
  · have R := Lib.hid (show lpd h t L = inB L 1 15 by simp [lpd, hg])
    rw [hg] at G
    have HG := Lib.hid G
    clear G hg
    go_enter Try.func37, Try.ntmps37
    go_wp2_with (first
      | (go_at_call 41; refine (HG.out _).mono ?_; rintro e w' ⟨rfl, rfl⟩)
      | (go_at_call 52; refine (l1In _ _ _ _).mono ?_; rintro e w' ⟨rfl, rfl⟩))
    go_ret
    exact ⟨ret_bool R.out.symm, rfl⟩
theorem tdAsked (h t : ByteArray) (L X : Int) (w : World) (hh : h.size ≤ 1048576) (ht : t.size ≤ 1048576) :
    Calls Try.prog 27 #[.string h, .string t, .int .i64 L, .int .i64 X] w fun e w' => e = .returned (.bool (askd h t L X)) ∧ w = w' := by
  have G := fun wx => tdLeap h t L wx hh ht
  cases hg : lpd h t L
  · have R := Lib.hid (show askd h t L X = false by simp [askd, hg])
    rw [hg] at G
    have HG := Lib.hid G
    clear G hg
    go_enter Try.func27, Try.ntmps27
    go_wp2_with (go_at_call 37; refine (HG.out _).mono ?_; rintro e w' ⟨rfl, rfl⟩)
    go_ret
    exact ⟨ret_bool R.out.symm, rfl⟩
  · have R := Lib.hid (show askd h t L X = inB X 0 1000 by simp [askd, hg])
    rw [hg] at G
    have HG := Lib.hid G
    clear G hg
    go_enter Try.func27, Try.ntmps27
    go_wp2_with (first
      | (go_at_call 37; refine (HG.out _).mono ?_; rintro e w' ⟨rfl, rfl⟩)
      | (go_at_call 40; refine (tdHour _ _).mono ?_; rintro e w' ⟨rfl, rfl⟩))
    go_ret
    exact ⟨ret_bool R.out.symm, rfl⟩
theorem isVWL (h t : ByteArray) (L : Int) (w : World) (hh : h.size ≤ 1048576) (ht : t.size ≤ 1048576) :
    Calls Try.prog 38 #[cst h t, .int .i64 L] w fun e w' => e = .returned (.bool (lpd h t L)) ∧ Below w.heap.size w w' := by
  have G := fun wx => isValid h t wx (by unfold maxLen; omega) (by unfold maxLen; omega)
  obtain ⟨c0, c1, cl⟩ := (Blk.new w #[.string h, .string t] 37).two
  have B0 := Lib.hid ((Below.refl w.heap.size w).alloc (Nat.le_refl _) (.cells #[.string h, .string t] 37))
  unfold cst at *
  cases hg : good h t
  · have R := Lib.hid (show lpd h t L = false by simp [lpd, hg])
    rw [hg] at G
    have HG := Lib.hid G
    clear G hg
    go_enter Try.func38, Try.ntmps38
    go_wp2_with fail
    refine (HG.out _).mono ?_
    rintro e w1 ⟨rfl, hb1⟩
    go_wp2
    go_ret
    exact ⟨ret_bool R.out.symm, B0.out.trans (hb1.mono (by simp))⟩
  · have R := Lib.hid (show lpd h t L = inB L 1 15 by simp [lpd, hg])
    rw [hg] at G
    have HG := Lib.hid G
    clear G hg
    by_cases h1 : 1 ≤ L
    · by_cases h2 : L ≤ 15
      · have R2 := Lib.hid (R.out.trans (inB_yes h1 h2))
        go_enter Try.func38, Try.ntmps38
        go_wp2_with fail
        refine (HG.out _).mono ?_
        rintro e w1 ⟨rfl, hb1⟩
        go_wp2
        go_ret
        exact ⟨ret_bool R2.out.symm, B0.out.trans (hb1.mono (by simp))⟩
      · have R2 := Lib.hid (R.out.trans (inB_no (.inr (by omega))))
        go_enter Try.func38, Try.ntmps38
        go_wp2_with fail
        refine (HG.out _).mono ?_
        rintro e w1 ⟨rfl, hb1⟩
        go_wp2
        go_ret
        exact ⟨ret_bool (by rw [R2.out]; simp; omega), B0.out.trans (hb1.mono (by simp))⟩
    · have R2 := Lib.hid (R.out.trans (inB_no (.inl (by omega))))
      go_enter Try.func38, Try.ntmps38
      go_wp2_with fail
      refine (HG.out _).mono ?_
      rintro e w1 ⟨rfl, hb1⟩
      go_wp2
      go_ret
      exact ⟨ret_bool R2.out.symm, B0.out.trans (hb1.mono (by simp))⟩
theorem isVAt (h t : ByteArray) (L X : Int) (w : World) (hh : h.size ≤ 1048576) (ht : t.size ≤ 1048576) :
    Calls Try.prog 29 #[cst h t, .int .i64 L, .int .i64 X] w fun e w' => e = .returned (.bool (askd h t L X)) ∧ Below w.heap.size w w' := by
  have G := fun wx => isVWL h t L wx hh ht
  obtain ⟨c0, c1, cl⟩ := (Blk.new w #[.string h, .string t] 37).two
  have B0 := Lib.hid ((Below.refl w.heap.size w).alloc (Nat.le_refl _) (.cells #[.string h, .string t] 37))
  unfold cst at *
  cases hg : lpd h t L
  · have R := Lib.hid (show askd h t L X = false by simp [askd, hg])
    rw [hg] at G
    have HG := Lib.hid G
    clear G hg
    go_enter Try.func29, Try.ntmps29
    go_wp2_with fail
    refine (HG.out _).mono ?_
    rintro e w1 ⟨rfl, hb1⟩
    go_wp2
    go_ret
    exact ⟨ret_bool R.out.symm, B0.out.trans (hb1.mono (by simp))⟩
  · have R := Lib.hid (show askd h t L X = inB X 0 1000 by simp [askd, hg])
    rw [hg] at G
    have HG := Lib.hid G
    clear G hg
    go_enter Try.func29, Try.ntmps29
    go_wp2_with fail
    refine (HG.out _).mono ?_
    rintro e w1 ⟨rfl, hb1⟩
    go_wp2_with (go_at_call 44; refine (isHour _ _).mono ?_; rintro e w' ⟨rfl, rfl⟩)
    go_ret
    exact ⟨ret_bool R.out.symm, B0.out.trans (hb1.mono (by simp))⟩
end Go.Proofs.Ytmlokapbholeoab
