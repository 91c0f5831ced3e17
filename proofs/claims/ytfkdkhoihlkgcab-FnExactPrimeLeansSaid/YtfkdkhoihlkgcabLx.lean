/- LeansUpTo and PrimeLeans, spec's side. -/
import Derived.Test.YtfkdkhoihlkgcabLv
namespace Go.Proofs.Ytfkdkhoihlkgcab
set_option linter.unusedVariables false
open Go.RowKit

theorem specUpTo (m : Int) (w : World) : Calls Try.prog 23 #[.int .i64 m] w (LstC w.heap.size (upL false m) (isPl m) w) := by
  have HA := Lib.hid (fun wx => cnPlank m wx)
  cases h : isPl m
  · have JL := Lib.hid (upL_no (pr := false) h)
    rw [h] at HA
    clear h
    go_enter Try.func23, Try.ntmps23
    go_wp2_with (go_at_call 27; (with_reducible refine (HA.out _).mono ?_); rintro e w' ⟨rfl, rfl⟩)
    go_ret2
    exact ⟨_, rfl, ⟨[], by rw [JL.out]; exact Lst.nil _ _⟩, Below.refl _ _⟩
  · have JL := Lib.hid (upL_yes (pr := false) h)
    have LL := Lib.hid (fun wx => cnAll m false wx (isPl_in h))
    rw [h] at HA
    clear h
    go_enter Try.func23, Try.ntmps23
    go_wp2_with (first
      | (go_at_call 27; (with_reducible refine (HA.out _).mono ?_); rintro e w' ⟨rfl, rfl⟩)
      | (go_at_call 42; refine (LL.out _).mono ?_; rintro e w2 ⟨v, rfl, ⟨us, hl⟩, hb⟩))
    go_ret2
    exact ⟨_, rfl, ⟨us, by rw [JL.out]; exact hl⟩, hb⟩
theorem specPrime (m : Int) (w : World) : Calls Try.prog 25 #[.int .i64 m] w (LstC w.heap.size (upL true m) (isPl m) w) := by
  have HA := Lib.hid (fun wx => cnPlank m wx)
  cases h : isPl m
  · have JL := Lib.hid (upL_no (pr := true) h)
    rw [h] at HA
    clear h
    go_enter Try.func25, Try.ntmps25
    go_wp2_with (go_at_call 27; (with_reducible refine (HA.out _).mono ?_); rintro e w' ⟨rfl, rfl⟩)
    go_ret2
    exact ⟨_, rfl, ⟨[], by rw [JL.out]; exact Lst.nil _ _⟩, Below.refl _ _⟩
  · have JL := Lib.hid (upL_yes (pr := true) h)
    have LL := Lib.hid (fun wx => cnAll m true wx (isPl_in h))
    rw [h] at HA
    clear h
    go_enter Try.func25, Try.ntmps25
    go_wp2_with (first
      | (go_at_call 27; (with_reducible refine (HA.out _).mono ?_); rintro e w' ⟨rfl, rfl⟩)
      | (go_at_call 42; refine (LL.out _).mono ?_; rintro e w2 ⟨v, rfl, ⟨us, hl⟩, hb⟩))
    go_ret2
    exact ⟨_, rfl, ⟨us, by rw [JL.out]; exact hl⟩, hb⟩
end Go.Proofs.Ytfkdkhoihlkgcab
