/- SwapBoats, impl and spec. -/
import Derived.Test.YthdmmliipmmfbaaOi
import Derived.RegionTactic
import Derived.BigRegion
namespace Go.Proofs.Ythdmmliipmmfbaa
set_option linter.unusedVariables false
open Go.RowKit

def swB (zs : List Int) (a b : Int) : Bool := isOrd zs && isAtO zs a && isAtO zs b && !(a == b)
def swL (zs : List Int) (a b : Int) : List Int := if swB zs a b then swp zs a.toNat b.toNat else []
theorem swL_no {zs : List Int} {a b : Int} (h : swB zs a b = false) : swL zs a b = [] := by simp [swL, h]
theorem swL_yes {zs : List Int} {a b : Int} (h : swB zs a b = true) : swL zs a b = swp zs a.toNat b.toNat := by simp [swL, h]
theorem swL_len (zs : List Int) (a b : Int) : (swL zs a b).length ≤ 8 := by
  cases h : swB zs a b
  · rw [swL_no h]; simp
  · rw [swL_yes h, swp_len]
    simp only [swB, Bool.and_eq_true] at h
    exact (isOrd_len h.1.1.1).2
theorem isAtO_in {zs : List Int} {p : Int} (h : isAtO zs p = true) : 0 ≤ p ∧ p < (zs.length : Int) := by
  simpa [isAtO] using h
/-- the exchange 'row[a], row[b] = row[b], row[a]': two cells of one block, in that order of stores -/
theorem Ints.swap {w : World} {B g n c : Nat} {zs : List Int} (h : Ints w B (.slice (some ⟨g, 0, none⟩) n c) zs) (hn : n = zs.length) (a b : Nat) :
    Ints ((w.setCell ⟨g, a, none⟩ (.int .i64 (gt zs b))).setCell ⟨g, b, none⟩ (.int .i64 (gt zs a))) B (.slice (some ⟨g, 0, none⟩) n c) (swp zs a b) ∧ w.grownBy ((w.setCell ⟨g, a, none⟩ (.int .i64 (gt zs b))).setCell ⟨g, b, none⟩ (.int .i64 (gt zs a))) (some g) := by
  have S1 := h.set hn a (gt zs b)
  have S2 := S1.1.set (by rw [List.length_set]; exact hn) b (gt zs a)
  exact ⟨S2.1, S1.2.trans S2.2⟩
set_option maxHeartbeats 2000000 in
theorem implSwap (v : Value) (zs : List Int) (a b : Int) (w : World) (h : Rd w v zs) (hn : zs.length ≤ 1048576) :
    Calls Try.prog 21 #[v, .int .i64 a, .int .i64 b] w (IntsQ w.heap.size (swL zs a b) (swB zs a b) w) := by
  have HA := Lib.hid (implIsOrder v zs w h hn)
  have H1 := Lib.hid (isPlaceOf v zs a w h)
  have H2 := Lib.hid (isPlaceOf v zs b w h)
  have E := Lib.hid (show swB zs a b = (isOrd zs && isAtO zs a && isAtO zs b && !(a == b)) from rfl)
  have JN := Lib.hid (fun hx => swL_no (zs := zs) (a := a) (b := b) hx)
  have JY := Lib.hid (fun hx => swL_yes (zs := zs) (a := a) (b := b) hx)
  generalize swB zs a b = t at *
  generalize swL zs a b = z at *
  cases hp : isOrd zs
  · have J := Lib.hid (show t = false from E.out.trans (by simp [hp]))
    have J2 := Lib.hid (JN.out J.out)
    rw [hp] at HA
    clear h hp E JN JY
    go_enter Try.func21, Try.ntmps21
    go_wp2_with (go_at_call 12; refine HA.out.mono ?_; rintro e w' ⟨rfl, rfl⟩)
    go_ret2
    exact ⟨_, by rw [J.out] <;> rfl, by rw [J2.out]; exact World.ownsRow_nil _ _ _ _, Below.refl _ _⟩
  rw [hp] at HA
  cases h1 : isAtO zs a
  · have J := Lib.hid (show t = false from E.out.trans (by simp [h1]))
    have J2 := Lib.hid (JN.out J.out)
    rw [h1] at H1
    clear h hp E JN JY h1
    go_enter Try.func21, Try.ntmps21
    go_wp2_with (first
      | (go_at_call 12; refine HA.out.mono ?_; rintro e w' ⟨rfl, rfl⟩)
      | (go_at_call 36; (with_reducible refine H1.out.mono ?_); clear H1; rintro e w' ⟨rfl, rfl⟩))
    go_ret2
    exact ⟨_, by rw [J.out] <;> rfl, by rw [J2.out]; exact World.ownsRow_nil _ _ _ _, Below.refl _ _⟩
  rw [h1] at H1
  cases h2 : isAtO zs b
  · have J := Lib.hid (show t = false from E.out.trans (by simp [h2]))
    have J2 := Lib.hid (JN.out J.out)
    rw [h2] at H2
    clear h hp E JN JY h1 h2
    go_enter Try.func21, Try.ntmps21
    go_wp2_with (first
      | (go_at_call 12; refine HA.out.mono ?_; rintro e w' ⟨rfl, rfl⟩)
      | (go_at_call 36; (with_reducible refine H1.out.mono ?_); clear H1; rintro e w' ⟨rfl, rfl⟩)
      | (go_at_call 36; (with_reducible refine H2.out.mono ?_); clear H2; rintro e w' ⟨rfl, rfl⟩))
    go_ret2
    exact ⟨_, by rw [J.out] <;> rfl, by rw [J2.out]; exact World.ownsRow_nil _ _ _ _, Below.refl _ _⟩
  rw [h2] at H2
  by_cases hab : a = b
  · have J := Lib.hid (show t = false from E.out.trans (by simp [hab]))
    have J2 := Lib.hid (JN.out J.out)
    subst hab
    have g : (a == a) = true := by simp
    clear h hp E JN JY h1 h2 H2
    go_enter Try.func21, Try.ntmps21
    go_wp2_with (first
      | (go_at_call 12; refine HA.out.mono ?_; rintro e w' ⟨rfl, rfl⟩)
      | (go_at_call 36; (with_reducible refine H1.out.mono ?_); rintro e w' ⟨rfl, rfl⟩))
    go_ret2
    exact ⟨_, by rw [J.out] <;> rfl, by rw [J2.out]; exact World.ownsRow_nil _ _ _ _, Below.refl _ _⟩
  · have J := Lib.hid (show t = true from E.out.trans (by simp [hp, h1, h2, hab]))
    have J2 := Lib.hid (JY.out J.out)
    have g : (a == b) = false := by simpa using hab
    have i1 := isAtO_in h1
    have i2 := isAtO_in h2
    have hl := isOrd_len hp
    have CL := Lib.hid (cloneZ v zs w h (by omega) (by omega))
    obtain ⟨x, rfl⟩ : ∃ x : Nat, a = x := ⟨a.toNat, by omega⟩
    obtain ⟨y, rfl⟩ : ∃ y : Nat, b = y := ⟨b.toNat, by omega⟩
    simp only [Int.toNat_natCast] at J2
    have hxy : x ≠ y := by omega
    have hyx : y ≠ x := by omega
    obtain ⟨n, hnz⟩ : ∃ n, n = zs.length := ⟨_, rfl⟩
    rw [← hnz] at i1 i2 hl CL
    have HN := Lib.hid hnz
    have hxn : x < n := by omega
    have hyn : y < n := by omega
    clear h hp E JN JY h1 h2 hn hab hnz
    go_enter Try.func21, Try.ntmps21
    go_upto_region 4 with (first
      | (go_at_call 12; refine HA.out.mono ?_; rintro e w' ⟨rfl, rfl⟩)
      | (go_at_call 36; (with_reducible refine H1.out.mono ?_); clear H1; rintro e w' ⟨rfl, rfl⟩)
      | (go_at_call 36; (with_reducible refine H2.out.mono ?_); clear H2; rintro e w' ⟨rfl, rfl⟩)
      | (go_at_call 34; refine CL.out.mono ?_; rintro e w1 ⟨q, c, rfl, hI, hb1⟩))
    have cA := hI.cell HN.out x hxn
    have cB := hI.cell HN.out y hyn
    have fA := hI.frz HN.out x
    have fB := hI.frz HN.out y
    have S := hI.swap HN.out x y
    have hblk := hI.blk
    have hle := hb1.size
    have SI := Lib.hid S.1
    have SB := Lib.hid (hb1.grown S.2 (by omega) (by intro j hj; cases hj; exact hblk.1))
    clear S hI hb1 hblk hle
    generalize gt zs x = p at *
    generalize gt zs y = r at *
    go_region
    go_wp2
    go_ret2
    exact ⟨_, by rw [J.out] <;> rfl, by rw [J2.out]; exact SI.out.below (below_drewN (Below.refl _ _) 1), below_drewN SB.out 1⟩
set_option maxHeartbeats 2000000 in
theorem specSwap (v : Value) (zs : List Int) (a b : Int) (w : World) (h : Rd w v zs) (hn : zs.length ≤ 1048576) :
    Calls Try.prog 20 #[v, .int .i64 a, .int .i64 b] w (IntsQ w.heap.size (swL zs a b) (swB zs a b) w) := by
  have H1 := Lib.hid (ptPlace v zs a w h hn)
  have H2 := Lib.hid (ptPlace v zs b w h hn)
  have E := Lib.hid (show swB zs a b = (isOrd zs && isAtO zs a && isAtO zs b && !(a == b)) from rfl)
  have JN := Lib.hid (fun hx => swL_no (zs := zs) (a := a) (b := b) hx)
  have JY := Lib.hid (fun hx => swL_yes (zs := zs) (a := a) (b := b) hx)
  generalize swB zs a b = t at *
  generalize swL zs a b = z at *
  cases h1 : (isOrd zs && isAtO zs a)
  · have J := Lib.hid (show t = false from E.out.trans (by simp [h1]))
    have J2 := Lib.hid (JN.out J.out)
    rw [h1] at H1
    clear h E JN JY h1 H2
    go_enter Try.func20, Try.ntmps20
    go_wp2_with (go_at_call 35; (with_reducible refine H1.out.mono ?_); rintro e w' ⟨rfl, rfl⟩)
    go_ret2
    exact ⟨_, by rw [J.out] <;> rfl, by rw [J2.out]; exact World.ownsRow_nil _ _ _ _, Below.refl _ _⟩
  rw [h1] at H1
  have hp : isOrd zs = true := by simp at h1; exact h1.1
  have h1' : isAtO zs a = true := by simp at h1; exact h1.2
  rw [hp, Bool.true_and] at H2
  cases h2 : isAtO zs b
  · have J := Lib.hid (show t = false from E.out.trans (by simp [h2]))
    have J2 := Lib.hid (JN.out J.out)
    rw [h2] at H2
    clear h hp E JN JY h1 h2 h1'
    go_enter Try.func20, Try.ntmps20
    go_wp2_with (first
      | (go_at_call 35; (with_reducible refine H1.out.mono ?_); clear H1; rintro e w' ⟨rfl, rfl⟩)
      | (go_at_call 35; (with_reducible refine H2.out.mono ?_); clear H2; rintro e w' ⟨rfl, rfl⟩))
    go_ret2
    exact ⟨_, by rw [J.out] <;> rfl, by rw [J2.out]; exact World.ownsRow_nil _ _ _ _, Below.refl _ _⟩
  rw [h2] at H2
  by_cases hab : a = b
  · have J := Lib.hid (show t = false from E.out.trans (by simp [hab]))
    have J2 := Lib.hid (JN.out J.out)
    subst hab
    have g : (a == a) = true := by simp
    clear h hp E JN JY h1 h2 H2 h1'
    go_enter Try.func20, Try.ntmps20
    go_wp2_with (go_at_call 35; (with_reducible refine H1.out.mono ?_); rintro e w' ⟨rfl, rfl⟩)
    go_ret2
    exact ⟨_, by rw [J.out] <;> rfl, by rw [J2.out]; exact World.ownsRow_nil _ _ _ _, Below.refl _ _⟩
  · have J := Lib.hid (show t = true from E.out.trans (by simp [hp, h1', h2, hab]))
    have J2 := Lib.hid (JY.out J.out)
    have g : (a == b) = false := by simpa using hab
    have i1 := isAtO_in h1'
    have i2 := isAtO_in h2
    have hl := isOrd_len hp
    obtain ⟨x, rfl⟩ : ∃ x : Nat, a = x := ⟨a.toNat, by omega⟩
    obtain ⟨y, rfl⟩ : ∃ y : Nat, b = y := ⟨b.toNat, by omega⟩
    have C := Lib.hid (ptSwap v zs x y w h (by omega) (by omega) (by omega))
    simp only [Int.toNat_natCast] at J2
    clear h hp E JN JY h1 h2 hn hab h1'
    go_enter Try.func20, Try.ntmps20
    go_wp2_with (first
      | (go_at_call 35; (with_reducible refine H1.out.mono ?_); clear H1; rintro e w' ⟨rfl, rfl⟩)
      | (go_at_call 35; (with_reducible refine H2.out.mono ?_); clear H2; rintro e w' ⟨rfl, rfl⟩)
      | (go_at_call 33; refine C.out.mono ?_; rintro e w1 ⟨q, c, rfl, hI, hb1⟩))
    go_ret2
    exact ⟨_, by rw [J.out] <;> rfl, by rw [J2.out]; exact hI, hb1⟩
end Go.Proofs.Ythdmmliipmmfbaa
