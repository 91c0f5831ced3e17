/- BackOrder, impl and spec; slices.Clone at ints; places of an order; ptSwap, SwapBoats. (gen_oi.py writes it.) -/
import Derived.Test.YthdmmliipmmfbaaOe
import Derived.Test.YthdmmliipmmfbaaCat
namespace Go.Proofs.Ythdmmliipmmfbaa
set_option linter.unusedVariables false
open Go.RowKit

def bkF (zs : List Int) : Nat → Nat → Int
  | 0, _ => 0
  | k + 1, j => if j = (gt zs k).toNat - 1 then (k : Int) + 1 else bkF zs k j
def bkL (zs : List Int) : List Int := if isOrd zs then fl zs.length (bkF zs zs.length) else []
theorem bkL_no {zs : List Int} (h : isOrd zs = false) : bkL zs = [] := by simp [bkL, h]
theorem bkL_yes {zs : List Int} (h : isOrd zs = true) : bkL zs = fl zs.length (bkF zs zs.length) := by simp [bkL, h]
theorem bkL_len (zs : List Int) : (bkL zs).length ≤ 8 := by
  cases h : isOrd zs
  · rw [bkL_no h]; simp
  · rw [bkL_yes h, fl_len]; exact (isOrd_len h).2

set_option maxHeartbeats 2000000 in
theorem implBack (v : Value) (zs : List Int) (w : World) (h : Rd w v zs) (hn : zs.length ≤ 1048576) :
    Calls Try.prog 27 #[v] w (IntsQ w.heap.size (bkL zs) (isOrd zs) w) := by
  have HA := Lib.hid (implIsOrder v zs w h hn)
  cases hp : isOrd zs
  · have J := Lib.hid (bkL_no hp)
    rw [hp] at HA
    clear h hp
    go_enter Try.func27, Try.ntmps27
    go_wp2_with (go_at_call 12; refine HA.out.mono ?_; rintro e w' ⟨rfl, rfl⟩)
    go_ret2
    exact ⟨_, rfl, by rw [J.out]; exact World.ownsRow_nil _ _ _ _, Below.refl _ _⟩
  · have hl := isOrd_len hp
    have HAT := Lib.hid (fun j (hj : j < zs.length) => isOrd_at hp hj)
    have J := bkL_yes hp
    rw [hp] at HA
    obtain ⟨b1, o1, n, c1, rfl, hnz, hnc, hc9, hbw, hcell⟩ := h.openP (by omega)
    rw [← hnz] at HAT hl J
    have HC := Lib.hid hcell
    have HJ := Lib.hid J
    obtain ⟨d, hd⟩ : ∃ d, d = w.heap.size := ⟨_, rfl⟩
    have HD := Lib.hid hd
    have hb1d : b1 < d := by omega
    clear h hcell hnz hp hn J
    go_enter Try.func27, Try.ntmps27
    go_upto_region 4 with (first
      | (go_at_call 12; refine HA.out.mono ?_; rintro e w' ⟨rfl, rfl⟩)
      | (at_make; refine wpList_mk rfl _ _ rfl w.heap.size n _ rfl rfl rfl (by omega) (Nat.le_refl _) ?_; intro w1 hI hb1 hg1))
    rw [← hd] at hI hb1 ⊢
    rw [fl_rep] at hI
    have HI0 := Lib.hid (show Ints w1 d (.slice (some ⟨d, 0, none⟩) n n) (fl n (bkF zs 0)) from hI)
    have HB0 := Lib.hid hb1
    clear hI hb1 hg1 hd
    go_wp2
    go_loopw [15] (fun i wr => ∃ k : Nat, k ≤ n ∧ i = .int .i64 k ∧ Hid (Ints wr d (.slice (some ⟨d, 0, none⟩) n n) (fl n (bkF zs k))) ∧ Hid (Below d w wr)) (fun i _ => n - (intOf i).toNat)
    case atStart => exact ⟨0, Nat.zero_le _, rfl, HI0, HB0⟩
    case round =>
      clear HI0 HB0
      obtain ⟨k, hk, rfl, HI, HBW⟩ := hrel
      by_cases hlt : k < n
      · have hlt' : (k : Int) < n := by omega
        have ck := (HBW.out.cell (p := ⟨b1, o1 + k, none⟩) hb1d).trans (HC.out k hlt)
        have hx := HAT.out k hlt
        obtain ⟨y, hy⟩ : ∃ y : Nat, gt zs k = (y : Int) + 1 := ⟨(gt zs k).toNat - 1, by omega⟩
        have hyn : y < n := by omega
        have hyi : (y : Int) < n := by omega
        rw [hy] at ck
        have E : ∀ i, (if i = y then (k : Int) + 1 else bkF zs k i) = bkF zs (k + 1) i := fun i => by
          rw [bkF, hy, show ((y : Int) + 1).toNat - 1 = y by omega]
        have cf := HI.out.fr_ y
        have ce := HI.out.at_ hyn
        have S := HI.out.put y ((k : Int) + 1)
        rw [fl_ext fun i _ => E i] at S
        have hle := HBW.out.size
        have SS := Lib.hid (And.intro S.1 (HBW.out.grown S.2 (by have := HD.out; omega) (by intro j hj; cases hj; exact Nat.le_refl _)))
        clear S hle E hy hx
        generalize bkF zs k y = x at *
        go_wp2
        go_roundw
        case rel => exact ⟨k + 1, by omega, by go_num, Lib.hid SS.out.1, Lib.hid SS.out.2⟩
        case measure => (simp [intOf]; try omega)
      · obtain rfl : k = n := by omega
        go_wp2
        go_ret2
        exact ⟨_, rfl, by rw [← HD.out, HJ.out]; exact HI.out, by rw [← HD.out]; exact HBW.out⟩

set_option maxHeartbeats 2000000 in
theorem specBack (v : Value) (zs : List Int) (w : World) (h : Rd w v zs) (hn : zs.length ≤ 1048576) :
    Calls Try.prog 26 #[v] w (IntsQ w.heap.size (bkL zs) (isOrd zs) w) := by
  have HA := Lib.hid (ptGood v zs w h hn)
  cases hp : isOrd zs
  · have J := Lib.hid (bkL_no hp)
    rw [hp] at HA
    clear h hp
    go_enter Try.func26, Try.ntmps26
    go_wp2_with (go_at_call 28; refine HA.out.mono ?_; rintro e w' ⟨rfl, rfl⟩)
    go_ret2
    exact ⟨_, rfl, by rw [J.out]; exact World.ownsRow_nil _ _ _ _, Below.refl _ _⟩
  · have hl := isOrd_len hp
    have HAT := Lib.hid (fun j (hj : j < zs.length) => isOrd_at hp hj)
    have J := bkL_yes hp
    rw [hp] at HA
    obtain ⟨b1, o1, n, c1, rfl, hnz, hnc, hc9, hbw, hcell⟩ := h.openP (by omega)
    rw [← hnz] at HAT hl J
    have HC := Lib.hid hcell
    have HJ := Lib.hid J
    obtain ⟨d, hd⟩ : ∃ d, d = w.heap.size := ⟨_, rfl⟩
    have HD := Lib.hid hd
    have hb1d : b1 < d := by omega
    clear h hcell hnz hp hn J
    go_enter Try.func26, Try.ntmps26
    go_upto_region 4 with (first
      | (go_at_call 28; refine HA.out.mono ?_; rintro e w' ⟨rfl, rfl⟩)
      | (at_make; refine wpList_mk rfl _ _ rfl w.heap.size n _ rfl rfl rfl (by omega) (Nat.le_refl _) ?_; intro w1 hI hb1 hg1))
    rw [← hd] at hI hb1 ⊢
    rw [fl_rep] at hI
    have HI0 := Lib.hid (show Ints w1 d (.slice (some ⟨d, 0, none⟩) n n) (fl n (bkF zs 0)) from hI)
    have HB0 := Lib.hid hb1
    clear hI hb1 hg1 hd
    go_wp2
    go_loopw [15] (fun i wr => ∃ k : Nat, k ≤ n ∧ i = .int .i64 k ∧ Hid (Ints wr d (.slice (some ⟨d, 0, none⟩) n n) (fl n (bkF zs k))) ∧ Hid (Below d w wr)) (fun i _ => n - (intOf i).toNat)
    case atStart => exact ⟨0, Nat.zero_le _, rfl, HI0, HB0⟩
    case round =>
      clear HI0 HB0
      obtain ⟨k, hk, rfl, HI, HBW⟩ := hrel
      by_cases hlt : k < n
      · have hlt' : (k : Int) < n := by omega
        have ck := (HBW.out.cell (p := ⟨b1, o1 + k, none⟩) hb1d).trans (HC.out k hlt)
        have hx := HAT.out k hlt
        obtain ⟨y, hy⟩ : ∃ y : Nat, gt zs k = (y : Int) + 1 := ⟨(gt zs k).toNat - 1, by omega⟩
        have hyn : y < n := by omega
        have hyi : (y : Int) < n := by omega
        rw [hy] at ck
        have E : ∀ i, (if i = y then (k : Int) + 1 else bkF zs k i) = bkF zs (k + 1) i := fun i => by
          rw [bkF, hy, show ((y : Int) + 1).toNat - 1 = y by omega]
        have cf := HI.out.fr_ y
        have ce := HI.out.at_ hyn
        have S := HI.out.put y ((k : Int) + 1)
        rw [fl_ext fun i _ => E i] at S
        have hle := HBW.out.size
        have SS := Lib.hid (And.intro S.1 (HBW.out.grown S.2 (by have := HD.out; omega) (by intro j hj; cases hj; exact Nat.le_refl _)))
        clear S hle E hy hx
        generalize bkF zs k y = x at *
        go_wp2
        go_roundw
        case rel => exact ⟨k + 1, by omega, by go_num, Lib.hid SS.out.1, Lib.hid SS.out.2⟩
        case measure => (simp [intOf]; try omega)
      · obtain rfl : k = n := by omega
        go_wp2
        go_ret2
        exact ⟨_, rfl, by rw [← HD.out, HJ.out]; exact HI.out, by rw [← HD.out]; exact HBW.out⟩

set_option maxRecDepth 100000 in
theorem cloneZ (v : Value) (zs : List Int) (w : World) (h : Rd w v zs) (hp : 0 < zs.length) (hn : zs.length ≤ 1048576) :
    Calls Try.prog 34 #[v] w fun e w' => ∃ g c, e = .returned (.slice (some ⟨g, 0, none⟩) zs.length c) ∧ Ints w' w.heap.size (.slice (some ⟨g, 0, none⟩) zs.length c) zs ∧ Below w.heap.size w w' := by
  have hbA : Below w.heap.size w (w.alloc (.cells #[] 3)) := (Below.refl _ _).alloc (Nat.le_refl _) _
  have HR := Lib.hid (h.below hbA)
  have HB := Lib.hid hbA
  have E := Lib.run_eql_slice_nil (P := Try.prog) w
  obtain ⟨g0, o0, n, c0, rfl, hnz, _⟩ := h.openP hp
  have HNZ := Lib.hid hnz
  rw [← hnz] at hp
  clear h hbA hnz
  go_enter Try.func34, Try.ntmps34
  go_wp2_with (at_builtin; refine wpList_cat (w.alloc (.cells #[] 3)) rfl _ _ rfl w.heap.size _ [] rfl (Ints.empty w _ (Nat.le_refl _)) _ zs rfl HR.out (by intro c e; cases e) (by simp; omega) (by simp) ?_; intro v' w2 hI hb hg)
  go_ret
  simp only [List.nil_append] at hI
  obtain ⟨g, m, c, e, hm, _⟩ := hI.form (by have := HNZ.out; omega)
  subst e
  rw [hm] at hI
  exact ⟨g, c, by rw [← hm]; rfl, hI, HB.out.trans hb⟩
/-- a place of the order -/
def isAtO (zs : List Int) (p : Int) : Bool := decide (0 ≤ p) && decide (p < (zs.length : Int))
theorem isPlaceOf (v : Value) (zs : List Int) (p : Int) (w : World) (h : Rd w v zs) :
    Calls Try.prog 36 #[v, .int .i64 p] w fun e w' => e = .returned (.bool (isAtO zs p)) ∧ w = w' := by
  obtain ⟨a, n, c, rfl, hnz, _⟩ := h.cells
  have E := Lib.hid (show isAtO zs p = (decide (0 ≤ p) && decide (p < (n : Int))) by unfold isAtO; rw [hnz])
  clear h hnz
  by_cases h1 : 0 ≤ p
  · go_enter Try.func36, Try.ntmps36
    go_wp2
    go_ret
    exact ⟨ret_bool (by rw [E.out]; simp [h1]), rfl⟩
  · go_enter Try.func36, Try.ntmps36
    go_wp2
    go_ret
    exact ⟨ret_bool (by rw [E.out]; simp; omega), rfl⟩
theorem ptPlace (v : Value) (zs : List Int) (p : Int) (w : World) (h : Rd w v zs) (hn : zs.length ≤ 1048576) :
    Calls Try.prog 35 #[v, .int .i64 p] w fun e w' => e = .returned (.bool (isOrd zs && isAtO zs p)) ∧ w = w' := by
  have HA := Lib.hid (ptGood v zs w h hn)
  obtain ⟨a, n, c, rfl, hnz, _⟩ := h.cells
  have hn9 : n ≤ 1048576 := by omega
  have E := Lib.hid (show isAtO zs p = inB p 0 ((n : Int) - 1) by unfold isAtO inB; rw [← hnz]; congr 1; simp; omega)
  cases hp : isOrd zs
  · rw [hp] at HA
    clear h hp hnz
    go_enter Try.func35, Try.ntmps35
    go_wp2_with (go_at_call 28; refine HA.out.mono ?_; rintro e w' ⟨rfl, rfl⟩)
    go_ret
    exact ⟨rfl, rfl⟩
  · rw [hp] at HA
    clear h hp hnz
    go_enter Try.func35, Try.ntmps35
    go_wp2_with (first
      | (go_at_call 28; refine HA.out.mono ?_; rintro e w' ⟨rfl, rfl⟩)
      | (go_at_call 40; refine (l1In _ _ _ _).mono ?_; rintro e w' ⟨rfl, rfl⟩))
    go_ret
    exact ⟨ret_bool (by rw [E.out]; rfl), rfl⟩
/-- the order behind a swap -/
def swp (zs : List Int) (a b : Nat) : List Int := (zs.set a (gt zs b)).set b (gt zs a)
theorem swp_len (zs : List Int) (a b : Nat) : (swp zs a b).length = zs.length := by simp [swp]
set_option maxHeartbeats 2000000 in
theorem ptSwap (v : Value) (zs : List Int) (a b : Nat) (w : World) (h : Rd w v zs) (ha : a < zs.length) (hb : b < zs.length) (hn : zs.length ≤ 1000) :
    Calls Try.prog 33 #[v, .int .i64 a, .int .i64 b] w fun e w' => ∃ g c, e = .returned (.slice (some ⟨g, 0, none⟩) zs.length c) ∧ Ints w' w.heap.size (.slice (some ⟨g, 0, none⟩) zs.length c) (swp zs a b) ∧ Below w.heap.size w w' := by
  have HO := Lib.hid (fun hu => l1Own v zs w h hu (by omega))
  obtain ⟨b1, o1, n, c1, rfl, hnz, hnc, hc9, hbw, hcell⟩ := h.openP (by omega)
  have HC := Lib.hid hcell
  rw [← hnz] at ha hb hn ⊢
  have HN := Lib.hid hnz
  have HO2 := Lib.hid (HO.out (by intro c e; cases e))
  obtain ⟨d, hd⟩ : ∃ d, d = w.heap.size := ⟨_, rfl⟩
  have HD := Lib.hid hd
  have hb1d : b1 < d := by omega
  have hai : (a : Int) < n := by omega
  have hbi : (b : Int) < n := by omega
  clear h hcell hnz HO
  go_enter Try.func33, Try.ntmps33
  go_wp2_with fail
  refine HO2.out.mono ?_
  rintro e w1 ⟨u, rfl, hI, hb1⟩
  obtain ⟨g, m, c, rfl, hm, hmc, hcm, hgd, hgw, _⟩ := hI.form (by have := HN.out; omega)
  obtain rfl : m = n := hm.trans HN.out.symm
  rw [← hd] at hb1 hI hgd
  have cA := (hb1.cell (p := ⟨b1, o1 + a, none⟩) hb1d).trans (HC.out a ha)
  have cB := (hb1.cell (p := ⟨b1, o1 + b, none⟩) hb1d).trans (HC.out b hb)
  have S1 := hI.set hm a (gt zs b)
  have hl1 : m = (zs.set a (gt zs b)).length := by rw [List.length_set]; exact hm
  have S2 := S1.1.set hl1 b (gt zs a)
  have f1 := hI.frz hm a
  have f2 := S1.1.frz hl1 b
  have e1 := hI.cell hm a ha
  have e2 := S1.1.cell hl1 b hb
  have cA2 := (World.cell?_of_block (w := w1) (a := ⟨b1, o1 + a, none⟩) (S1.2.block b1 (by have := hb1.size; omega) (by intro e; have : b1 = g := Option.some.inj e; omega))).trans cA
  have SB := Lib.hid ((hb1.grown S1.2 (by omega) (by intro j hj; cases hj; exact hgd)).grown S2.2 (by have := S1.2.size; omega) (by intro j hj; cases hj; exact hgd))
  have SI := Lib.hid (show Ints _ d _ (swp zs a b) from S2.1)
  clear S1 S2 hI hb1 hm hl1 cA hd hgd
  go_wp2
  go_ret
  exact ⟨_, _, rfl, by rw [← HD.out]; exact SI.out, by rw [← HD.out]; exact SB.out⟩
end Go.Proofs.Ythdmmliipmmfbaa
