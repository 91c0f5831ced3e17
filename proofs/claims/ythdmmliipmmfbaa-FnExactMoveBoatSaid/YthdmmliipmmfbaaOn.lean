/- MoveBoat, impl and spec. -/
import Derived.Test.YthdmmliipmmfbaaOst
import Derived.Test.YthdmmliipmmfbaaOj
import Derived.Test.YthdmmliipmmfbaaOk
import Derived.Deep.CutRange
import Derived.Deep.DeepCutAuto
import Derived.Deep.RegionHeld3
import Derived.Deep.RegionWith
namespace Go.Proofs.Ythdmmliipmmfbaa
set_option linter.unusedVariables false
open Go.RowKit

/-- all but the place i -/
def wout (zs : List Int) (i : Nat) : List Int := zs.take i ++ zs.drop (i + 1)
theorem wout_len {zs : List Int} {i : Nat} (h : i < zs.length) : (wout zs i).length = zs.length - 1 := by simp [wout]; omega
def mvd (zs : List Int) (a b : Nat) : List Int := (wout zs a).take b ++ [gt zs a] ++ (wout zs a).drop b
def mvB (zs : List Int) (a b : Int) : Bool := isOrd zs && isAtO zs a && isAtO zs b
def mvL (zs : List Int) (a b : Int) : List Int := if mvB zs a b then mvd zs a.toNat b.toNat else []
theorem mvL_no {zs : List Int} {a b : Int} (h : mvB zs a b = false) : mvL zs a b = [] := by simp [mvL, h]
theorem mvL_yes {zs : List Int} {a b : Int} (h : mvB zs a b = true) : mvL zs a b = mvd zs a.toNat b.toNat := by simp [mvL, h]
theorem mvd_len {zs : List Int} {a b : Nat} (h : a < zs.length) : (mvd zs a b).length = zs.length := by
  have := wout_len h
  simp [mvd]; omega
theorem mvL_len (zs : List Int) (a b : Int) : (mvL zs a b).length ≤ 8 := by
  cases h : mvB zs a b
  · rw [mvL_no h]; simp
  · rw [mvL_yes h]
    simp only [mvB, Bool.and_eq_true] at h
    have := isAtO_in h.1.2
    rw [mvd_len (by omega)]
    exact (isOrd_len h.1.1).2
set_option maxHeartbeats 2000000 in
theorem implMv (v : Value) (zs : List Int) (a b : Int) (w : World) (h : Rd w v zs) (hn : zs.length ≤ 1048576) :
    Calls Try.prog 23 #[v, .int .i64 a, .int .i64 b] w (IntsQ w.heap.size (mvL zs a b) (mvB zs a b) w) := by
  have HA := Lib.hid (implIsOrder v zs w h hn)
  have H1 := Lib.hid (isPlaceOf v zs a w h)
  have H2 := Lib.hid (isPlaceOf v zs b w h)
  have E := Lib.hid (show mvB zs a b = (isOrd zs && isAtO zs a && isAtO zs b) from rfl)
  have JN := Lib.hid (fun hx => mvL_no (zs := zs) (a := a) (b := b) hx)
  have JY := Lib.hid (fun hx => mvL_yes (zs := zs) (a := a) (b := b) hx)
  generalize mvB zs a b = t at *
  generalize mvL zs a b = z at *
  cases hp : isOrd zs
  · have J := Lib.hid (show t = false from E.out.trans (by simp [hp]))
    have J2 := Lib.hid (JN.out J.out)
    rw [hp] at HA
    clear h hp E JN JY
    go_enter Try.func23, Try.ntmps23
    go_wp2_with (go_at_call 12; refine HA.out.mono ?_; rintro e w' ⟨rfl, rfl⟩)
    go_ret2
    exact ⟨_, by rw [J.out] <;> rfl, by rw [J2.out]; exact World.ownsRow_nil _ _ _ _, Below.refl _ _⟩
  rw [hp] at HA
  cases h1 : isAtO zs a
  · have J := Lib.hid (show t = false from E.out.trans (by simp [h1]))
    have J2 := Lib.hid (JN.out J.out)
    rw [h1] at H1
    clear h hp E JN JY h1
    go_enter Try.func23, Try.ntmps23
    go_wp2_with (first
      | (go_at_call 12; refine HA.out.mono ?_; rintro e w' ⟨rfl, rfl⟩)
      | (go_at_call 36; (with_reducible refine H1.out.mono ?_); clear H1; rintro e w' ⟨rfl, rfl⟩))
    go_ret2
    exact ⟨_, by rw [J.out] <;> rfl, by rw [J2.out]; exact World.ownsRow_nil _ _ _ _, Below.refl _ _⟩
  rw [h1] at H1
  cases h2 : isAtO zs b
  · have J := Lib.hid (show t = false from E.out.trans (by simp [h2]))
    have J2 := Lib.hid (JN.out J.out)
    rw [h2] at H2
    clear h hp E JN JY h1 h2
    go_enter Try.func23, Try.ntmps23
    go_wp2_with (first
      | (go_at_call 12; refine HA.out.mono ?_; rintro e w' ⟨rfl, rfl⟩)
      | (go_at_call 36; (with_reducible refine H1.out.mono ?_); clear H1; rintro e w' ⟨rfl, rfl⟩)
      | (go_at_call 36; (with_reducible refine H2.out.mono ?_); clear H2; rintro e w' ⟨rfl, rfl⟩))
    go_ret2
    exact ⟨_, by rw [J.out] <;> rfl, by rw [J2.out]; exact World.ownsRow_nil _ _ _ _, Below.refl _ _⟩
  rw [h2] at H2
  have J := Lib.hid (show t = true from E.out.trans (by simp [hp, h1, h2]))
  have J2 := Lib.hid (JY.out J.out)
  have i1 := isAtO_in h1
  have i2 := isAtO_in h2
  have hl := isOrd_len hp
  have CL := Lib.hid (cloneZ v zs w h (by omega) (by omega))
  obtain ⟨x, rfl⟩ : ∃ x : Nat, a = x := ⟨a.toNat, by omega⟩
  obtain ⟨y, rfl⟩ : ∃ y : Nat, b = y := ⟨b.toNat, by omega⟩
  simp only [Int.toNat_natCast] at J2
  obtain ⟨b1, o1, n, c1, rfl, hnz, hnc, hc9, hbw, hcell⟩ := h.openP (by omega)
  rw [← hnz] at i1 i2 hl CL
  have cx := hcell x (by omega)
  have HN := Lib.hid hnz
  have HW := Lib.hid (wout_len (zs := zs) (i := x) (by omega))
  have hxn : (x : Int) < n := by omega
  have hyn : (y : Int) < n := by omega
  clear h hp E JN JY h1 h2 hn hnz hcell
  go_enter Try.func23, Try.ntmps23
  go_upto_region 3 with (first
    | (go_at_call 12; refine HA.out.mono ?_; rintro e w' ⟨rfl, rfl⟩)
    | (go_at_call 36; (with_reducible refine H1.out.mono ?_); rintro e w' ⟨rfl, rfl⟩)
    | (go_at_call 36; (with_reducible refine H2.out.mono ?_); rintro e w' ⟨rfl, rfl⟩))
  go_wp2_with fail
  refine CL.out.mono ?_
  rintro e w1 ⟨g, c, rfl, hI, hb1⟩
  have hblk := hI.blk
  have hle := hb1.size
  have DZ := Lib.hid (delZ g n c x (x : Int) ((x : Int) + 1) zs w.heap.size w1 hI HN.out (by omega) (by omega) rfl rfl)
  have HBG := Lib.hid (fun w2 (hg : w1.grownBy w2 (some g)) => hb1.grown hg hle (by intro j hj; cases hj; exact hblk.1))
  clear hI hb1
  go_wp2_with fail
  refine DZ.out.mono ?_
  rintro e w2 ⟨rfl, hI2, hg2⟩
  have HB2 := Lib.hid (HBG.out w2 hg2)
  obtain ⟨m, hm⟩ : ∃ m, n = m + 1 := ⟨n - 1, by omega⟩
  subst hm
  have HI2 := Lib.hid (show Ints w2 w.heap.size (.slice (some ⟨g, 0, none⟩) (m + 1) c) (wout zs x ++ [0]) from hI2)
  rw [show m + 1 - 1 = m by omega]
  have hs2 := hg2.size
  have cx2 := (HB2.out.cell (p := ⟨b1, o1 + x, none⟩) hbw).trans cx
  have HB3 : Below w2.heap.size w2 (w2.alloc (.cells #[.int .i64 (gt zs x)] 3)) := (Below.refl _ _).alloc (Nat.le_refl _) _
  have IZ := Lib.hid (insZ g m c y w2.heap.size (gt zs x) (wout zs x) 0 w.heap.size (w2.alloc (.cells #[.int .i64 (gt zs x)] 3)) (HI2.out.below HB3) (by rw [HW.out]; have := HN.out; omega) (by omega) (by omega) (by show (w2.heap.push _)[w2.heap.size]? = _; exact Array.getElem?_push_size) (by have := hblk.2; omega))
  have HB4 := Lib.hid (HB2.out.trans (HB3.mono HB2.out.size))
  have HJ2 := Lib.hid (show z = (wout zs x).take y ++ [gt zs x] ++ (wout zs x).drop y from J2.out)
  have hgb := hblk.1
  have hsz4 := HB4.out.size
  clear J2 hI2 hg2 HB3 cx DZ HBG
  generalize gt zs x = xv at *
  go_wp2_with fail
  refine IZ.out.mono ?_
  rintro e w5 ⟨rfl, hI5, hg5⟩
  have HB5 := Lib.hid (HB4.out.grown hg5 hsz4 (by intro j hj; cases hj; exact hgb))
  clear hg5
  go_wp2
  go_ret2
  exact ⟨_, by rw [J.out] <;> rfl, by rw [HJ2.out]; exact hI5, HB5.out⟩
set_option maxHeartbeats 2000000 in
theorem specMv (v : Value) (zs : List Int) (a b : Int) (w : World) (h : Rd w v zs) (hn : zs.length ≤ 1048576) :
    Calls Try.prog 22 #[v, .int .i64 a, .int .i64 b] w (IntsQ w.heap.size (mvL zs a b) (mvB zs a b) w) := by
  have H1 := Lib.hid (ptPlace v zs a w h hn)
  have H2 := Lib.hid (ptPlace v zs b w h hn)
  have E := Lib.hid (show mvB zs a b = (isOrd zs && isAtO zs a && isAtO zs b) from rfl)
  have JN := Lib.hid (fun hx => mvL_no (zs := zs) (a := a) (b := b) hx)
  have JY := Lib.hid (fun hx => mvL_yes (zs := zs) (a := a) (b := b) hx)
  generalize mvB zs a b = t at *
  generalize mvL zs a b = z at *
  cases h1 : (isOrd zs && isAtO zs a)
  · have J := Lib.hid (show t = false from E.out.trans (by simp [h1]))
    have J2 := Lib.hid (JN.out J.out)
    rw [h1] at H1
    clear h E JN JY h1 H2
    go_enter Try.func22, Try.ntmps22
    go_wp2_with (go_at_call 35; (with_reducible refine H1.out.mono ?_); rintro e w' ⟨rfl, rfl⟩)
    go_ret2
    exact ⟨_, by rw [J.out] <;> rfl, by rw [J2.out]; exact World.ownsRow_nil _ _ _ _, Below.refl _ _⟩
  rw [h1] at H1
  have hp : isOrd zs = true := by simp at h1; exact h1.1
  have h1' : isAtO zs a = true := by simp at h1; exact h1.2
  rw [hp, Bool.true_and] at H2
  cases h2 : isAtO zs b
  · have J := Lib.hid (show t = false from E.out.trans (by simp [h2]))
    have J2 := Lib.hid (JN.out J.out)
    rw [h2] at H2
    clear h hp E JN JY h1 h2 h1'
    go_enter Try.func22, Try.ntmps22
    go_wp2_with (first
      | (go_at_call 35; (with_reducible refine H1.out.mono ?_); clear H1; rintro e w' ⟨rfl, rfl⟩)
      | (go_at_call 35; (with_reducible refine H2.out.mono ?_); clear H2; rintro e w' ⟨rfl, rfl⟩))
    go_ret2
    exact ⟨_, by rw [J.out] <;> rfl, by rw [J2.out]; exact World.ownsRow_nil _ _ _ _, Below.refl _ _⟩
  rw [h2] at H2
  have J := Lib.hid (show t = true from E.out.trans (by simp [hp, h1', h2]))
  have J2 := Lib.hid (JY.out J.out)
  have i1 := isAtO_in h1'
  have i2 := isAtO_in h2
  have hl := isOrd_len hp
  obtain ⟨x, rfl⟩ : ∃ x : Nat, a = x := ⟨a.toNat, by omega⟩
  obtain ⟨y, rfl⟩ : ∃ y : Nat, b = y := ⟨b.toNat, by omega⟩
  simp only [Int.toNat_natCast] at J2
  obtain ⟨b1, o1, n, c1, rfl, hnz, hnc, hc9, hbw, hcell⟩ := h.openP (by omega)
  rw [← hnz] at i1 i2 hl
  have HR1 := Lib.hid (h.takeR x (by omega))
  have HRx := Lib.hid (show ∀ q, (x + 1 < c1 ∨ q = o1 + (x + 1)) → True from fun _ _ => trivial)
  have HR2 : Hid (∀ off, (x + 1 = c1 ∨ off = o1 + (x + 1)) → Rd w (.slice (some ⟨b1, off, none⟩) (n - (x + 1)) (c1 - (x + 1))) (zs.drop (x + 1))) := Lib.hid (fun off ho => by
    rcases ho with e | e
    · have hz : n - (x + 1) = 0 := by omega
      rw [hz, List.drop_eq_nil_of_le (by omega)]
      exact .inl ⟨⟨_, _, rfl⟩, rfl⟩
    · rw [e]; exact h.dropR (x + 1) (by omega))
  have HC := Lib.hid hcell
  have cx := hcell x (by omega)
  have HW := Lib.hid (wout_len (zs := zs) (i := x) (by omega))
  have HT := Lib.hid (show (zs.take x).length = x by simp; omega)
  have HDr := Lib.hid (show (zs.drop (x + 1)).length = n - (x + 1) by simp; omega)
  have HN := Lib.hid hnz
  clear h hp E JN JY h1 h2 hn h1' hcell hnz HRx
  have hxn : (x : Int) ≤ n := by omega
  have hxc : (x : Int) ≤ c1 := by omega
  have hx1 : (x : Int) + 1 ≤ n := by omega
  go_enter Try.func22, Try.ntmps22
  go_upto_region 3 with (first
      | (go_at_call 35; (with_reducible refine H1.out.mono ?_); clear H1; rintro e w' ⟨rfl, rfl⟩)
      | (go_at_call 35; (with_reducible refine H2.out.mono ?_); clear H2; rintro e w' ⟨rfl, rfl⟩))
  obtain ⟨q, hq⟩ : ∃ q, q = x + 1 := ⟨_, rfl⟩
  have hqi : (x : Int) + 1 = q := by omega
  have hwq : IntKind.i64.wrap ((x : Int) + 1) = (q : Int) := by rw [hqi]; exact IntWalk.i64_in _ (by omega)
  have hwq2 : IntKind.i64.wrap (q : Int) = (q : Int) := IntWalk.i64_in _ (by omega)
  have hq0 : (0 : Int) ≤ q := by omega
  have hqn : (q : Int) ≤ n := by omega
  have hqn' : q ≤ n := by omega
  have hx0 : (0 : Int) ≤ x := by omega
  rw [← hq] at HR2 HDr
  have HQ := Lib.hid hq
  clear hq
  by_cases hc : q = c1
  · have hqe : n = q := by omega
    have HR20 := Lib.hid (show Rd w (.slice (some ⟨b1, o1, none⟩) 0 0) (zs.drop q) by rw [List.drop_eq_nil_of_le (by have := HN.out; omega)]; exact .inl ⟨⟨_, _, rfl⟩, rfl⟩)
    subst hc
    subst hqe
    go_region_held3 (fun _ => True) (exact trivial) (first
      | (go_at_call 37; refine (l1OwnN _ (zs.take x) x HT.out w _ (by (repeat (first | exact Below.refl _ _ | (refine Below.alloc ?_ (by first | omega | (simp; try omega)) _) | apply Below.drew | apply below_drewN))) HR1.out (by intro c e; cases e) (by omega)).mono ?_; rintro e w1 ⟨g, cg, rfl, hI, hb, hle⟩; have HB := Lib.hid hb; clear hb)
      | (refine step_catI rfl (.tmp 23) (.tmp 27) rfl w.heap.size g x cg (zs.take x) ?_ hI HT.out.symm (.slice (some ⟨b1, o1, none⟩) 0 0) (zs.drop n) ?_ (HR20.out.below HB.out) (by intro c e; cases e) (by rw [HT.out, HDr.out]; omega) hle (n - 1) (by rw [HT.out, HDr.out]; omega) (wout zs x) (by rw [HQ.out]; rfl) ?_; (· simp [Act.eval]); (· simp [Act.eval]); intro g2 cg2 w2 hI2 hb2 hg2; have HI2 := Lib.hid hI2; have HB2 := Lib.hid (HB.out.trans hb2); clear hI2 hb2 hg2 hI)
      | fail)
    have hcm2 := HI2.out.capZ.1
    obtain ⟨m, hm⟩ : ∃ m, m = n - 1 := ⟨_, rfl⟩
    rw [← hm] at hcm2 ⊢
    have HI2' := Lib.hid (show Ints w2 w.heap.size (.slice (some ⟨g2, 0, none⟩) m cg2) (wout zs x) by rw [hm]; exact HI2.out)
    have hym : y ≤ m := by omega
    have hmn : m + 1 = n := by omega
    have hyc : y ≤ cg2 := by omega
    have hycI : (y : Int) ≤ cg2 := by omega
    have hymI : (y : Int) ≤ m := by omega
    have hy0 : (0 : Int) ≤ y := by omega
    have HWL := Lib.hid (show (wout zs x).length = m by rw [HW.out]; have := HN.out; omega)
    have hcmx : cg2 ≤ maxLen := HI2'.out.capZ.2.1
    have HRT := Lib.hid (HI2'.out.take HWL.out.symm hcm2 hcmx y hym)
    have HRD := Lib.hid (HI2'.out.drop HWL.out.symm hcm2 hcmx y hym)
    have HTL := Lib.hid (show ((wout zs x).take y).length = y by rw [List.length_take, HWL.out]; omega)
    have hsz2 := HB2.out.size
    have cx2 := (HB2.out.cell (p := ⟨b1, o1 + x, none⟩) hbw).trans cx
    have hb1w2 : b1 < w2.heap.size := by omega
    have hgm := HI2'.out.blk
    have HKC := Lib.hid (fun W (hW : Below w2.heap.size w2 W) => (hW.cell (p := ⟨b1, o1 + x, none⟩) hb1w2).trans cx2)
    have HM := Lib.hid hm
    have hxnI : (x : Int) < n := by omega
    clear hm HI2 hcmx
    have HJ2 := Lib.hid (show z = (wout zs x).take y ++ [gt zs x] ++ (wout zs x).drop y from J2.out)
    clear J2
    have J2 := HJ2
    clear HJ2
    generalize gt zs x = xv at *
    have HAL := Lib.hid (show Below w2.heap.size w2 (w2.alloc (.cells #[.int .i64 xv] 3)) from (Below.refl _ _).alloc (Nat.le_refl _) _)
    have HTL1 := Lib.hid (show ((wout zs x).take y).length + 1 = y + 1 by rw [HTL.out])
    have HTLe : ((wout zs x).take y).length ≤ 1000 := by rw [HTL.out]; omega
    go_upto_region 4 with fail
    go_region_held3 (fun W => W.cell? ⟨b1, o1 + x, none⟩ = some (.int .i64 xv)) (first | exact HKC.out _ HBQ.out | exact HKC.out _ (HBQ.out.alloc hle3 _) | exact HKC.out _ HB4.out | exact HKC.out _ (by (repeat (first | exact Below.refl _ _ | (refine Below.alloc ?_ (by first | omega | (simp; try omega)) _) | apply Below.drew | apply below_drewN)))) (first
      | (go_at_call 37; (refine (l1OwnN _ ((wout zs x).take y) y HTL.out (w2.alloc (.cells #[.int .i64 xv] 3)) _ ?_ (HRT.out.below HAL.out) (by intro c e; cases e) (by omega)).mono ?_); (· (repeat (first | exact Below.refl _ _ | (refine Below.alloc ?_ (by first | omega | (simp; try omega)) _) | apply Below.drew | apply below_drewN))); rintro e w3 ⟨g3, cg3, rfl, hI3, hb3, hle3⟩; have HNB := Lib.hid ((hb3.cell (p := ⟨w2.heap.size, 0, none⟩) (by simp)).trans (cell_one_new _ _ _ 0 _ rfl)); have HBQ := Lib.hid (HAL.out.trans (hb3.mono (by simp))); have HI3 := Lib.hid (ints_mono' (B := w2.heap.size) hI3 (by simp)); clear hI3 hb3)
      | (go_at_call 37; (refine (l1OwnN _ ((wout zs x).take y) y HTL.out w2 _ ?_ HRT.out (by intro c e; cases e) (by omega)).mono ?_); (· (repeat (first | exact Below.refl _ _ | (refine Below.alloc ?_ (by first | omega | (simp; try omega)) _) | apply Below.drew | apply below_drewN))); rintro e w3 ⟨g3, cg3, rfl, hI3, hb3, hle3⟩; have HBQ := Lib.hid hb3; have HI3 := Lib.hid hI3; clear hI3 hb3)
      | (refine step_appZ rfl (.tmp 32) (.tmp 37) rfl w2.heap.size (.slice (some ⟨g3, 0, none⟩) y cg3) ((wout zs x).take y) ?_ HI3.out w2.heap.size xv ?_ HNB.out HTLe HBQ.out.size (y + 1) HTL1.out _ rfl ?_; (· simp [Act.eval]); (· simp [Act.eval]); intro g4 cg4 w4 hI4 hb4 hg4; have HI4 := Lib.hid hI4; have HB4 := Lib.hid (HBQ.out.trans hb4); clear hI4 hb4 hg4)
      | (refine step_appZ rfl (.tmp 32) (.tmp 37) rfl w2.heap.size (.slice (some ⟨g3, 0, none⟩) y cg3) ((wout zs x).take y) ?_ (HI3.out.below ((Below.refl _ _).alloc (Nat.le_refl _) _)) w3.heap.size xv ?_ (cell_one_new _ _ _ 0 _ rfl) HTLe (Nat.le_trans HBQ.out.size (by simp)) (y + 1) HTL1.out _ rfl ?_; (· simp [Act.eval]); (· simp [Act.eval]); intro g4 cg4 w4 hI4 hb4 hg4; have HI4 := Lib.hid hI4; have HB4 := Lib.hid ((HBQ.out.alloc HBQ.out.size _).trans hb4); clear hI4 hb4 hg4)
      | fail)
    all_goals
      have HRD4 := Lib.hid (HRD.out.below HB4.out)
      have HB5 := Lib.hid (HB2.out.trans (HB4.out.mono hsz2))
      have HL4 := Lib.hid (show y + 1 = ((wout zs x).take y ++ [xv]).length by rw [List.length_append, HTL.out]; rfl)
      have HDL := Lib.hid (show ((wout zs x).drop y).length = m - y by rw [List.length_drop, HWL.out])
      have hsum : ((wout zs x).take y ++ [xv]).length + ((wout zs x).drop y).length < 16777216 := by rw [HDL.out, ← HL4.out]; omega
      have hle4 := HB4.out.size
      by_cases hyc2 : y = cg2
      · have hym2 : y = m := by omega
        have HRE := Lib.hid (fun a q => (show Rd w4 (.slice a 0 q) ((wout zs x).drop y) by rw [List.drop_eq_nil_of_le (by rw [HWL.out]; omega)]; exact .inl ⟨⟨_, _, rfl⟩, rfl⟩))
        have hyc3 : (y : Int) = cg2 := by omega
        have hz : m - y = 0 := by omega
        have hyc4 := Lib.hid (And.intro hyc2 hym2)
        clear hyc2 hym2
        go_wp2_with (at_builtin; refine wpList_catZ w4 rfl _ _ rfl w2.heap.size g4 (y + 1) cg4 _ rfl HI4.out HL4.out _ ((wout zs x).drop y) rfl (HRE.out _ _) (by intro c e; first | (cases e; done) | (cases e; rfl)) hsum hle4 ?_; intro g5 cg5 w5 hI5 hb5 hg5)
        rw [List.length_drop] at hI5
        go_ret2
        exact ⟨_, by rw [J.out] <;> rfl, by rw [J2.out]; exact ints_mono' hI5 hsz2, HB5.out.trans (hb5.mono hsz2)⟩
      · have hyc3 : (y : Int) < cg2 := by omega
        go_wp2_with (at_builtin; refine wpList_catZ w4 rfl _ _ rfl w2.heap.size g4 (y + 1) cg4 _ rfl HI4.out HL4.out _ ((wout zs x).drop y) rfl HRD4.out (by intro c e; cases e) hsum hle4 ?_; intro g5 cg5 w5 hI5 hb5 hg5)
        rw [List.length_drop] at hI5
        go_ret2
        exact ⟨_, by rw [J.out] <;> rfl, by rw [J2.out]; exact ints_mono' hI5 hsz2, HB5.out.trans (hb5.mono hsz2)⟩
  · have hxc2 : (q : Int) < c1 := by omega
    have hxc3 : q < c1 := by omega
    have hxc4 : ¬ (c1 = q) := by omega
    have hxc5 : c1 ≠ q := by omega
    have hqt : ((q : Int)).toNat = q := by simp
    go_region_held3 (fun _ => True) (exact trivial) (first
      | (go_at_call 37; refine (l1OwnN _ (zs.take x) x HT.out w _ (by (repeat (first | exact Below.refl _ _ | (refine Below.alloc ?_ (by first | omega | (simp; try omega)) _) | apply Below.drew | apply below_drewN))) HR1.out (by intro c e; cases e) (by omega)).mono ?_; rintro e w1 ⟨g, cg, rfl, hI, hb, hle⟩; have HB := Lib.hid hb; clear hb)
      | (refine step_catI rfl (.tmp 23) (.tmp 27) rfl w.heap.size g x cg (zs.take x) ?_ hI HT.out.symm (.slice (some ⟨b1, o1 + q, none⟩) (n - q) (c1 - q)) (zs.drop q) ?_ ((HR2.out _ (.inr (by rw [HQ.out]))).below HB.out) (by intro c e; cases e) (by rw [HT.out, HDr.out]; omega) hle (n - 1) (by rw [HT.out, HDr.out]; omega) (wout zs x) (by rw [HQ.out]; rfl) ?_; (· simp [Act.eval]); (· simp [Act.eval]); intro g2 cg2 w2 hI2 hb2 hg2; have HI2 := Lib.hid hI2; have HB2 := Lib.hid (HB.out.trans hb2); clear hI2 hb2 hg2 hI)
      | fail)
    have hcm2 := HI2.out.capZ.1
    obtain ⟨m, hm⟩ : ∃ m, m = n - 1 := ⟨_, rfl⟩
    rw [← hm] at hcm2 ⊢
    have HI2' := Lib.hid (show Ints w2 w.heap.size (.slice (some ⟨g2, 0, none⟩) m cg2) (wout zs x) by rw [hm]; exact HI2.out)
    have hym : y ≤ m := by omega
    have hmn : m + 1 = n := by omega
    have hyc : y ≤ cg2 := by omega
    have hycI : (y : Int) ≤ cg2 := by omega
    have hymI : (y : Int) ≤ m := by omega
    have hy0 : (0 : Int) ≤ y := by omega
    have HWL := Lib.hid (show (wout zs x).length = m by rw [HW.out]; have := HN.out; omega)
    have hcmx : cg2 ≤ maxLen := HI2'.out.capZ.2.1
    have HRT := Lib.hid (HI2'.out.take HWL.out.symm hcm2 hcmx y hym)
    have HRD := Lib.hid (HI2'.out.drop HWL.out.symm hcm2 hcmx y hym)
    have HTL := Lib.hid (show ((wout zs x).take y).length = y by rw [List.length_take, HWL.out]; omega)
    have hsz2 := HB2.out.size
    have cx2 := (HB2.out.cell (p := ⟨b1, o1 + x, none⟩) hbw).trans cx
    have hb1w2 : b1 < w2.heap.size := by omega
    have hgm := HI2'.out.blk
    have HKC := Lib.hid (fun W (hW : Below w2.heap.size w2 W) => (hW.cell (p := ⟨b1, o1 + x, none⟩) hb1w2).trans cx2)
    have HM := Lib.hid hm
    have hxnI : (x : Int) < n := by omega
    clear hm HI2 hcmx
    have HJ2 := Lib.hid (show z = (wout zs x).take y ++ [gt zs x] ++ (wout zs x).drop y from J2.out)
    clear J2
    have J2 := HJ2
    clear HJ2
    generalize gt zs x = xv at *
    have HAL := Lib.hid (show Below w2.heap.size w2 (w2.alloc (.cells #[.int .i64 xv] 3)) from (Below.refl _ _).alloc (Nat.le_refl _) _)
    have HTL1 := Lib.hid (show ((wout zs x).take y).length + 1 = y + 1 by rw [HTL.out])
    have HTLe : ((wout zs x).take y).length ≤ 1000 := by rw [HTL.out]; omega
    go_upto_region 4 with fail
    go_region_held3 (fun W => W.cell? ⟨b1, o1 + x, none⟩ = some (.int .i64 xv)) (first | exact HKC.out _ HBQ.out | exact HKC.out _ (HBQ.out.alloc hle3 _) | exact HKC.out _ HB4.out | exact HKC.out _ (by (repeat (first | exact Below.refl _ _ | (refine Below.alloc ?_ (by first | omega | (simp; try omega)) _) | apply Below.drew | apply below_drewN)))) (first
      | (go_at_call 37; (refine (l1OwnN _ ((wout zs x).take y) y HTL.out (w2.alloc (.cells #[.int .i64 xv] 3)) _ ?_ (HRT.out.below HAL.out) (by intro c e; cases e) (by omega)).mono ?_); (· (repeat (first | exact Below.refl _ _ | (refine Below.alloc ?_ (by first | omega | (simp; try omega)) _) | apply Below.drew | apply below_drewN))); rintro e w3 ⟨g3, cg3, rfl, hI3, hb3, hle3⟩; have HNB := Lib.hid ((hb3.cell (p := ⟨w2.heap.size, 0, none⟩) (by simp)).trans (cell_one_new _ _ _ 0 _ rfl)); have HBQ := Lib.hid (HAL.out.trans (hb3.mono (by simp))); have HI3 := Lib.hid (ints_mono' (B := w2.heap.size) hI3 (by simp)); clear hI3 hb3)
      | (go_at_call 37; (refine (l1OwnN _ ((wout zs x).take y) y HTL.out w2 _ ?_ HRT.out (by intro c e; cases e) (by omega)).mono ?_); (· (repeat (first | exact Below.refl _ _ | (refine Below.alloc ?_ (by first | omega | (simp; try omega)) _) | apply Below.drew | apply below_drewN))); rintro e w3 ⟨g3, cg3, rfl, hI3, hb3, hle3⟩; have HBQ := Lib.hid hb3; have HI3 := Lib.hid hI3; clear hI3 hb3)
      | (refine step_appZ rfl (.tmp 32) (.tmp 37) rfl w2.heap.size (.slice (some ⟨g3, 0, none⟩) y cg3) ((wout zs x).take y) ?_ HI3.out w2.heap.size xv ?_ HNB.out HTLe HBQ.out.size (y + 1) HTL1.out _ rfl ?_; (· simp [Act.eval]); (· simp [Act.eval]); intro g4 cg4 w4 hI4 hb4 hg4; have HI4 := Lib.hid hI4; have HB4 := Lib.hid (HBQ.out.trans hb4); clear hI4 hb4 hg4)
      | (refine step_appZ rfl (.tmp 32) (.tmp 37) rfl w2.heap.size (.slice (some ⟨g3, 0, none⟩) y cg3) ((wout zs x).take y) ?_ (HI3.out.below ((Below.refl _ _).alloc (Nat.le_refl _) _)) w3.heap.size xv ?_ (cell_one_new _ _ _ 0 _ rfl) HTLe (Nat.le_trans HBQ.out.size (by simp)) (y + 1) HTL1.out _ rfl ?_; (· simp [Act.eval]); (· simp [Act.eval]); intro g4 cg4 w4 hI4 hb4 hg4; have HI4 := Lib.hid hI4; have HB4 := Lib.hid ((HBQ.out.alloc HBQ.out.size _).trans hb4); clear hI4 hb4 hg4)
      | fail)
    all_goals
      have HRD4 := Lib.hid (HRD.out.below HB4.out)
      have HB5 := Lib.hid (HB2.out.trans (HB4.out.mono hsz2))
      have HL4 := Lib.hid (show y + 1 = ((wout zs x).take y ++ [xv]).length by rw [List.length_append, HTL.out]; rfl)
      have HDL := Lib.hid (show ((wout zs x).drop y).length = m - y by rw [List.length_drop, HWL.out])
      have hsum : ((wout zs x).take y ++ [xv]).length + ((wout zs x).drop y).length < 16777216 := by rw [HDL.out, ← HL4.out]; omega
      have hle4 := HB4.out.size
      by_cases hyc2 : y = cg2
      · have hym2 : y = m := by omega
        have HRE := Lib.hid (fun a q => (show Rd w4 (.slice a 0 q) ((wout zs x).drop y) by rw [List.drop_eq_nil_of_le (by rw [HWL.out]; omega)]; exact .inl ⟨⟨_, _, rfl⟩, rfl⟩))
        have hyc3 : (y : Int) = cg2 := by omega
        have hz : m - y = 0 := by omega
        have hyc4 := Lib.hid (And.intro hyc2 hym2)
        clear hyc2 hym2
        go_wp2_with (at_builtin; refine wpList_catZ w4 rfl _ _ rfl w2.heap.size g4 (y + 1) cg4 _ rfl HI4.out HL4.out _ ((wout zs x).drop y) rfl (HRE.out _ _) (by intro c e; first | (cases e; done) | (cases e; rfl)) hsum hle4 ?_; intro g5 cg5 w5 hI5 hb5 hg5)
        rw [List.length_drop] at hI5
        go_ret2
        exact ⟨_, by rw [J.out] <;> rfl, by rw [J2.out]; exact ints_mono' hI5 hsz2, HB5.out.trans (hb5.mono hsz2)⟩
      · have hyc3 : (y : Int) < cg2 := by omega
        go_wp2_with (at_builtin; refine wpList_catZ w4 rfl _ _ rfl w2.heap.size g4 (y + 1) cg4 _ rfl HI4.out HL4.out _ ((wout zs x).drop y) rfl HRD4.out (by intro c e; cases e) hsum hle4 ?_; intro g5 cg5 w5 hI5 hb5 hg5)
        rw [List.length_drop] at hI5
        go_ret2
        exact ⟨_, by rw [J.out] <;> rfl, by rw [J2.out]; exact ints_mono' hI5 hsz2, HB5.out.trans (hb5.mono hsz2)⟩
end Go.Proofs.Ythdmmliipmmfbaa
