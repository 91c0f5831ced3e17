/- TurnFront, impl and spec. -/
import Derived.Test.YthdmmliipmmfbaaOj
import Derived.Test.YthdmmliipmmfbaaOk
import Derived.Deep.CutRange
import Derived.Deep.DeepCutAuto
namespace Go.Proofs.Ythdmmliipmmfbaa
set_option linter.unusedVariables false
open Go.RowKit

def trp (zs : List Int) (k : Nat) : List Int := (zs.take k).reverse
theorem trp_step {zs : List Int} {k j : Nat} (hk : k ≤ zs.length) (hj : j < k) : (trp zs k).take j ++ [gt zs (k - 1 - j)] = (trp zs k).take (j + 1) := by
  have hl : (trp zs k).length = k := by simp [trp]; omega
  rw [List.take_succ_eq_append_getElem (by omega)]
  congr 2
  simp only [trp, List.getElem_reverse, List.getElem_take, List.length_take]
  simp only [gt, show min k zs.length - 1 - j = k - 1 - j by omega]
  rw [List.getD_eq_getElem?_getD, List.getElem?_eq_getElem (by omega)]; rfl
set_option maxHeartbeats 2000000 in
theorem ptTurn (v : Value) (zs : List Int) (k : Nat) (w : World) (h : Rd w v zs) (hk1 : 1 ≤ k) (hk : k ≤ zs.length) (hn : zs.length ≤ 1000) :
    Calls Try.prog 41 #[v, .int .i64 k] w fun e w' => ∃ u, e = .returned u ∧ Ints w' w.heap.size u ((zs.take k).reverse ++ zs.drop k) ∧ Below w.heap.size w w' := by
  obtain ⟨b, off, n, c, rfl, hnz, hnc, hc9, hbw, hcell⟩ := h.openP (by omega)
  have HR := Lib.hid (h.dropR k (by omega))
  have HC := Lib.hid hcell
  have HT := Lib.hid (fun j (hj : j < k) => trp_step (zs := zs) hk hj)
  have HL := Lib.hid (show (trp zs k).length = k by simp [trp]; omega)
  have HD2 := Lib.hid (show k = n → zs.drop k = [] from fun e => List.drop_eq_nil_of_le (by omega))
  have hLD : (zs.drop k).length ≤ 1000 := by simp; omega
  rw [← hnz] at hk hn
  obtain ⟨d, hd⟩ : ∃ d, d = w.heap.size := ⟨_, rfl⟩
  have HD := Lib.hid hd
  have hbd : b < d := by omega
  clear h hcell hnz hd
  go_enter Try.func41, Try.ntmps41
  go_wp2
  go_loopw [5, 6] (fun o i wr => ∃ j : Nat, j ≤ k ∧ i = .int .i64 ((k : Int) - 1 - j) ∧ Hid (Ints wr d o ((trp zs k).take j)) ∧ Hid (Below d w wr)) (fun _ i _ => (intOf i + 1).toNat)
  case atStart => exact ⟨0, Nat.zero_le _, by simp, Lib.hid (World.ownsRow_nil _ _ _ _), Lib.hid (Below.refl _ _)⟩
  case round =>
    obtain ⟨j, hj, rfl, HI, HBW⟩ := hrel
    by_cases hlt : j < k
    · obtain ⟨i, hi⟩ : ∃ i, i = k - 1 - j := ⟨_, rfl⟩
      have hii : (k : Int) - 1 - j = (i : Int) := by omega
      have him : i < n := by omega
      have himi : (i : Int) < n := by omega
      have hc := (HBW.out.cell (p := ⟨b, off + i, none⟩) hbd).trans (HC.out i him)
      have T := Lib.hid (HT.out j hlt)
      rw [← hi] at T
      have hlt2 : ((trp zs k).take j).length < 16777216 := by rw [List.length_take]; omega
      have HII := Lib.hid hi
      have hler := HBW.out.size
      have hler2 : d ≤ wr.heap.size := by have := HD.out; omega
      rw [hii]
      clear hi hii hler
      generalize gt zs i = x at *
      go_wp2_with (at_builtin; refine wpList_app wr rfl _ _ rfl d _ ((trp zs k).take j) rfl HI.out x rfl hlt2 hler2 rfl ?_; intro v' w2 hI2 hb2 hg2)
      go_roundw
      case rel => exact ⟨j + 1, by omega, (by congr 1; have := HII.out; omega), Lib.hid (by rw [← T.out]; exact hI2), Lib.hid (HBW.out.trans hb2)⟩
      case measure => (simp [intOf]; try omega)
    · obtain rfl : j = k := by omega
      have e := Lib.hid (show (trp zs j).take j = (zs.take j).reverse from List.take_of_length_le (by rw [HL.out]; exact Nat.le_refl _))
      have hx : (j : Int) - 1 - j = -1 := by omega
      rw [hx]
      have hler := HBW.out.size
      have hler2 : d ≤ wr.heap.size := by have := HD.out; omega
      have HI2 := Lib.hid (show Ints wr d _ ((zs.take j).reverse) by rw [← e.out]; exact HI.out)
      have hl3 : ((zs.take j).reverse).length ≤ 1000 := by rw [List.length_reverse, List.length_take]; omega
      clear hx hler HI e
      by_cases hjc : j = c
      · have hjn : j = n := by omega
        have hd0 := HD2.out hjn
        have hjc' : (j : Int) = c := by omega
        have hjn' : (j : Int) ≤ n := by omega
        have hz : n - j = 0 := by omega
        have hz2 : c - j = 0 := by omega
        have HRE := Lib.hid (fun a q => (show Rd wr (.slice a 0 q) (zs.drop j) by rw [hd0]; exact .inl ⟨⟨_, _, rfl⟩, rfl⟩))
        have HHJ := Lib.hid (And.intro hjc hjn)
        clear hjc hjn hd0
        go_wp2_with (at_builtin; refine wpList_cat wr rfl _ _ rfl d _ ((zs.take j).reverse) rfl HI2.out _ (zs.drop j) rfl (HRE.out _ _) (by intro c e; first | (cases e; done) | (cases e; rfl)) (by omega) hler2 ?_; intro v' w2 hI hb hg)
        go_ret
        exact ⟨_, rfl, by rw [← HD.out]; exact hI, by rw [← HD.out]; exact HBW.out.trans hb⟩
      · have hjc' : (j : Int) < c := by omega
        have hjn' : (j : Int) ≤ n := by omega
        have HR2 := Lib.hid (HR.out.below (by have := HBW.out; rw [HD.out] at this; exact this))
        go_wp2_with (at_builtin; refine wpList_cat wr rfl _ _ rfl d _ ((zs.take j).reverse) rfl HI2.out _ (zs.drop j) rfl HR2.out (by intro c e; cases e) (by omega) hler2 ?_; intro v' w2 hI hb hg)
        go_ret
        exact ⟨_, rfl, by rw [← HD.out]; exact hI, by rw [← HD.out]; exact HBW.out.trans hb⟩
def tfB (zs : List Int) (k : Int) : Bool := isOrd zs && inB k 1 (zs.length : Int)
def tfL (zs : List Int) (k : Int) : List Int := if tfB zs k then (zs.take k.toNat).reverse ++ zs.drop k.toNat else []
theorem tfL_no {zs : List Int} {k : Int} (h : tfB zs k = false) : tfL zs k = [] := by simp [tfL, h]
theorem tfL_yes {zs : List Int} {k : Int} (h : tfB zs k = true) : tfL zs k = (zs.take k.toNat).reverse ++ zs.drop k.toNat := by simp [tfL, h]
theorem tfL_len (zs : List Int) (k : Int) : (tfL zs k).length ≤ 8 := by
  cases h : tfB zs k
  · rw [tfL_no h]; simp
  · rw [tfL_yes h]
    simp only [tfB, Bool.and_eq_true] at h
    have := (isOrd_len h.1).2
    simp; omega
set_option maxHeartbeats 2000000 in
theorem specTf (v : Value) (zs : List Int) (k : Int) (w : World) (h : Rd w v zs) (hn : zs.length ≤ 1048576) :
    Calls Try.prog 24 #[v, .int .i64 k] w (IntsQ w.heap.size (tfL zs k) (tfB zs k) w) := by
  have HA := Lib.hid (ptGood v zs w h hn)
  have E := Lib.hid (show tfB zs k = (isOrd zs && inB k 1 (zs.length : Int)) from rfl)
  have JN := Lib.hid (fun hx => tfL_no (zs := zs) (k := k) hx)
  have JY := Lib.hid (fun hx => tfL_yes (zs := zs) (k := k) hx)
  generalize tfB zs k = t at *
  generalize tfL zs k = z at *
  obtain ⟨a, n, c, rfl, hnz, _⟩ := h.cells
  have HI := Lib.hid (fun wx => l1In k 1 (n : Int) wx)
  rw [← hnz] at E
  cases hp : isOrd zs
  · have J := Lib.hid (show t = false from E.out.trans (by simp [hp]))
    have J2 := Lib.hid (JN.out J.out)
    rw [hp] at HA
    clear h hp E JN JY hnz
    go_enter Try.func24, Try.ntmps24
    go_wp2_with (go_at_call 28; refine HA.out.mono ?_; rintro e w' ⟨rfl, rfl⟩)
    go_ret2
    exact ⟨_, by rw [J.out] <;> rfl, by rw [J2.out]; exact World.ownsRow_nil _ _ _ _, Below.refl _ _⟩
  rw [hp] at HA
  cases h1 : inB k 1 (n : Int)
  · have J := Lib.hid (show t = false from E.out.trans (by simp [h1]))
    have J2 := Lib.hid (JN.out J.out)
    rw [h1] at HI
    clear h hp E JN JY hnz h1
    go_enter Try.func24, Try.ntmps24
    go_wp2_with (first
      | (go_at_call 28; refine HA.out.mono ?_; rintro e w' ⟨rfl, rfl⟩)
      | (go_at_call 40; refine (HI.out _).mono ?_; rintro e w' ⟨rfl, rfl⟩))
    go_ret2
    exact ⟨_, by rw [J.out] <;> rfl, by rw [J2.out]; exact World.ownsRow_nil _ _ _ _, Below.refl _ _⟩
  · have J := Lib.hid (show t = true from E.out.trans (by simp [h1, hp]))
    have J2 := Lib.hid (JY.out J.out)
    have i1 := inB_iff.1 h1
    have hl := isOrd_len hp
    obtain ⟨x, rfl⟩ : ∃ x : Nat, k = x := ⟨k.toNat, by omega⟩
    simp only [Int.toNat_natCast] at J2
    have C := Lib.hid (ptTurn _ zs x w h (by omega) (by omega) (by omega))
    rw [h1] at HI
    clear h hp E JN JY hnz h1
    go_enter Try.func24, Try.ntmps24
    go_wp2_with (first
      | (go_at_call 28; refine HA.out.mono ?_; rintro e w' ⟨rfl, rfl⟩)
      | (go_at_call 40; refine (HI.out _).mono ?_; rintro e w' ⟨rfl, rfl⟩)
      | (go_at_call 41; refine C.out.mono ?_; rintro e w1 ⟨u, rfl, hI, hb⟩))
    go_ret2
    exact ⟨_, by rw [J.out] <;> rfl, by rw [J2.out]; exact hI, hb⟩
set_option maxHeartbeats 2000000 in
theorem implTf (v : Value) (zs : List Int) (k : Int) (w : World) (h : Rd w v zs) (hn : zs.length ≤ 1048576) :
    Calls Try.prog 25 #[v, .int .i64 k] w (IntsQ w.heap.size (tfL zs k) (tfB zs k) w) := by
  have HA := Lib.hid (implIsOrder v zs w h hn)
  have E := Lib.hid (show tfB zs k = (isOrd zs && inB k 1 (zs.length : Int)) from rfl)
  have JN := Lib.hid (fun hx => tfL_no (zs := zs) (k := k) hx)
  have JY := Lib.hid (fun hx => tfL_yes (zs := zs) (k := k) hx)
  generalize tfB zs k = t at *
  generalize tfL zs k = z at *
  cases hp : isOrd zs
  · have J := Lib.hid (show t = false from E.out.trans (by simp [hp]))
    have J2 := Lib.hid (JN.out J.out)
    rw [hp] at HA
    clear h hp E JN JY
    go_enter Try.func25, Try.ntmps25
    go_wp2_with (go_at_call 12; refine HA.out.mono ?_; rintro e w' ⟨rfl, rfl⟩)
    go_ret2
    exact ⟨_, by rw [J.out] <;> rfl, by rw [J2.out]; exact World.ownsRow_nil _ _ _ _, Below.refl _ _⟩
  rw [hp] at HA
  have hl := isOrd_len hp
  have CL := Lib.hid (cloneZ v zs w h (by omega) (by omega))
  obtain ⟨a, n, c, rfl, hnz, _⟩ := h.cells
  rw [← hnz] at E hl CL
  by_cases k1 : k < 1
  · have J := Lib.hid (show t = false from E.out.trans (by rw [inB_no (by omega)]; simp))
    have J2 := Lib.hid (JN.out J.out)
    clear h hp E JN JY hnz CL
    go_enter Try.func25, Try.ntmps25
    go_wp2_with (go_at_call 12; refine HA.out.mono ?_; rintro e w' ⟨rfl, rfl⟩)
    go_ret2
    exact ⟨_, by rw [J.out] <;> rfl, by rw [J2.out]; exact World.ownsRow_nil _ _ _ _, Below.refl _ _⟩
  by_cases k2 : (n : Int) < k
  · have J := Lib.hid (show t = false from E.out.trans (by rw [inB_no (by omega)]; simp))
    have J2 := Lib.hid (JN.out J.out)
    clear h hp E JN JY hnz CL
    go_enter Try.func25, Try.ntmps25
    go_wp2_with (go_at_call 12; refine HA.out.mono ?_; rintro e w' ⟨rfl, rfl⟩)
    go_ret2
    exact ⟨_, by rw [J.out] <;> rfl, by rw [J2.out]; exact World.ownsRow_nil _ _ _ _, Below.refl _ _⟩
  · have J := Lib.hid (show t = true from E.out.trans (by rw [inB_yes (by omega) (by omega), hp]; rfl))
    have J2 := Lib.hid (JY.out J.out)
    obtain ⟨x, rfl⟩ : ∃ x : Nat, k = x := ⟨k.toNat, by omega⟩
    simp only [Int.toNat_natCast] at J2
    have HN := Lib.hid hnz
    clear h hp E JN JY hnz
    go_enter Try.func25, Try.ntmps25
    go_upto_region 4 with (first
      | (go_at_call 12; refine HA.out.mono ?_; rintro e w' ⟨rfl, rfl⟩)
      | (go_at_call 34; refine CL.out.mono ?_; rintro e w1 ⟨q, c1, rfl, hI, hb1⟩))
    have hblk := hI.blk
    have hle := hb1.size
    have RV := Lib.hid (revZ q n c1 x zs w.heap.size w1 hI HN.out (by omega) (by omega))
    have HB := Lib.hid (fun w2 (hg : w1.grownBy w2 (some q)) => hb1.grown hg hle (by intro j hj; cases hj; exact hblk.1))
    have hcm : n ≤ c1 := by
      rcases hI.2 with ⟨e, _⟩ | ⟨g', cap', cur, e, _, _, h3, h4, _⟩
      · cases e
      · injection e with _ _ e3; subst e3; omega
    have hxn : (x : Int) ≤ n := by omega
    have hxc : (x : Int) ≤ c1 := by omega
    clear hI hb1 hblk hle
    go_wp2_with (go_at_call 42; refine RV.out.mono ?_; rintro e w2 ⟨rfl, hI2, hg2⟩)
    go_ret2
    exact ⟨_, by rw [J.out] <;> rfl, by rw [J2.out]; exact hI2, HB.out _ hg2⟩
end Go.Proofs.Ythdmmliipmmfbaa
