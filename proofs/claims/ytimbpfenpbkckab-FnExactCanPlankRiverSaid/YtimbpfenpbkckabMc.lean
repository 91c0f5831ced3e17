/- SortPlanks, WidestGap, MostCovered; impl and spec. -/
import Derived.Test.YtimbpfenpbkckabGf
import Derived.RegionTactic
import Derived.ChangeAlike
import Derived.WalkSmall
import Derived.Deep.QuietTactic
import Derived.BigQuiet
namespace Go.Proofs.Ytimbpfenpbkckab
set_option linter.unusedVariables false
open Go.RowKit Go.Shelf

def IntsQ (B : Nat) (zs : List Int) (ok : Bool) (w : World) (e : Ending) (w' : World) : Prop := ∃ v, e = .returned (.tuple #[v, .bool ok]) ∧ Ints w' B v zs ∧ Below B w w'
def sortL (ps : List Int) : List Int := if arePl ps then dsc ps else []
theorem sortL_no {ps : List Int} (h : arePl ps = false) : sortL ps = [] := by simp [sortL, h]
theorem sortL_yes {ps : List Int} (h : arePl ps = true) : sortL ps = dsc ps := by simp [sortL, h]
theorem sortL_len (ps : List Int) : (sortL ps).length ≤ 7 := by
  cases h : arePl ps
  · rw [sortL_no h]; simp
  · rw [sortL_yes h, dsc_len]; exact (arePl_in h).2.1
set_option maxHeartbeats 1000000 in
theorem implSort (v : Value) (ps : List Int) (w : World) (h : Rd w v ps) (hn : ps.length ≤ 1048576) :
    Calls Try.prog 18 #[v] w (IntsQ w.heap.size (sortL ps) (arePl ps) w) := by
  have HA := Lib.hid (implArePl v ps w h hn)
  cases hp : arePl ps
  · have J := Lib.hid (sortL_no hp)
    rw [hp] at HA
    clear h hp
    go_enter Try.func18, Try.ntmps18
    go_wp2_with (go_at_call 41; refine HA.out.mono ?_; rintro e w' ⟨rfl, rfl⟩)
    go_ret2
    exact ⟨_, rfl, by rw [J.out]; exact World.ownsRow_nil _ _ _ _, Below.refl _ _⟩
  · have J := Lib.hid (sortL_yes hp)
    have hin := arePl_in hp
    have HG := Lib.hid (greatestFirst v ps w h (by omega) (by omega))
    rw [hp] at HA
    clear h hp hin
    go_enter Try.func18, Try.ntmps18
    go_wp2_with (first
      | (go_at_call 41; refine HA.out.mono ?_; rintro e w' ⟨rfl, rfl⟩)
      | (go_at_call 34; refine HG.out.mono ?_; rintro e w1 ⟨u, rfl, hI, hb⟩))
    go_ret2
    exact ⟨_, rfl, by rw [J.out]; exact hI, hb⟩
theorem take_snoc {l : List Int} {j : Nat} (h : j < l.length) : l.take (j + 1) = l.take j ++ [gt l j] := by
  rw [List.take_succ_eq_append_getElem h, gt_of]
set_option maxHeartbeats 2000000 in
theorem specSort (v : Value) (ps : List Int) (w : World) (h : Rd w v ps) (hn : ps.length ≤ 1048576) :
    Calls Try.prog 17 #[v] w (IntsQ w.heap.size (sortL ps) (arePl ps) w) := by
  have HA := Lib.hid (plGood v ps w h hn)
  cases hp : arePl ps
  · have J := Lib.hid (sortL_no hp)
    rw [hp] at HA
    clear h hp
    go_enter Try.func17, Try.ntmps17
    go_wp2_with (go_at_call 36; refine HA.out.mono ?_; rintro e w' ⟨rfl, rfl⟩)
    go_ret2
    exact ⟨_, rfl, by rw [J.out]; exact World.ownsRow_nil _ _ _ _, Below.refl _ _⟩
  · have J := Lib.hid (sortL_yes hp)
    have hin := arePl_in hp
    have HG := Lib.hid (plSorted v ps w h (by omega))
    obtain ⟨n, hnz⟩ : ∃ n, n = ps.length := ⟨_, rfl⟩
    have HN := Lib.hid hnz
    have n7 : 1 ≤ n ∧ n ≤ 7 := by omega
    rw [hp] at HA
    clear h hp hin hnz hn
    go_enter Try.func17, Try.ntmps17
    go_wp2_with (first
      | (go_at_call 36; refine HA.out.mono ?_; rintro e w' ⟨rfl, rfl⟩)
      | (go_at_call 39; refine HG.out.mono ?_; rintro e w1 ⟨u, rfl, hI, hb⟩; obtain ⟨g, m, cap, rfl, hm, _, _, _, hgw, hcl⟩ := hI.form (by rw [asc_len]; have := HN.out; omega); obtain rfl : m = n := hm.trans ((asc_len ps).trans HN.out.symm); have HCL := Lib.hid hcl; have HB := Lib.hid hb; clear hcl hI hb hm))
    have hle := HB.out.size
    go_loopw [4, 6] (fun o k wr => ∃ j : Nat, j ≤ m ∧ k = .int .i64 ((m : Int) - 1 - j) ∧ Hid (Ints wr w1.heap.size o ((dsc ps).take j)) ∧ Hid (Below w1.heap.size w1 wr)) (fun _ k _ => (intOf k + 1).toNat)
    case atStart => exact ⟨0, Nat.zero_le _, by simp, Lib.hid (World.ownsRow_nil _ _ _ _), Lib.hid (Below.refl _ _)⟩
    case round =>
      obtain ⟨j, hj, rfl, hI, hbr⟩ := hrel
      by_cases hlt : j < m
      · obtain ⟨i, hi⟩ : ∃ i, i = m - 1 - j := ⟨_, rfl⟩
        have hii : (m : Int) - 1 - j = (i : Int) := by omega
        have him : i < m := by omega
        have himi : (i : Int) < m := by omega
        have hc := (hbr.out.cell (p := ⟨g, i, none⟩) hgw).trans (HCL.out i him)
        have T := Lib.hid (take_snoc (l := dsc ps) (j := j) (by rw [dsc_len]; have := HN.out; omega))
        have E := Lib.hid (show gt (dsc ps) j = gt (asc ps) i by rw [dsc_gt (by have := HN.out; omega), ← HN.out, hi])
        have hlt2 : ((dsc ps).take j).length ≤ m := by simp; omega
        have HII := Lib.hid hi
        have hler := hbr.out.size
        rw [hii]
        clear hi hii
        generalize gt (asc ps) i = x at *
        go_wp2_with (at_builtin; refine wpList_app wr rfl _ _ rfl w1.heap.size _ ((dsc ps).take j) rfl hI.out x rfl (by omega) hler rfl ?_; intro v' w2 hI2 hb2 hg2)
        go_roundw
        case rel => exact ⟨j + 1, by omega, (by congr 1; have := HII.out; omega), Lib.hid (by rw [T.out, E.out]; exact hI2), Lib.hid (hbr.out.trans hb2)⟩
        case measure => (simp [intOf]; try omega)
      · obtain rfl : j = m := by omega
        have e := Lib.hid (show (dsc ps).take j = dsc ps from List.take_of_length_le (by rw [dsc_len]; have := HN.out; omega))
        go_wp2
        go_ret2
        exact ⟨_, rfl, by rw [J.out, ← e.out]; exact ints_mono' hI.out hle, HB.out.trans (hbr.out.mono hle)⟩

def wideA (ps : List Int) (g r : Int) : Bool := arePl ps && inB g 1 7 && inB r 0 10
def wideV (ps : List Int) (g r : Int) : Value := if wideA ps g r then (if (ps.length : Int) < g then .tuple #[.int .i64 0, .bool true] else .tuple #[.int .i64 (if gt (asc ps) (ps.length - g.toNat) - 2 * r < 0 then 0 else gt (asc ps) (ps.length - g.toNat) - 2 * r), .bool true]) else .tuple #[.int .i64 0, .bool false]
theorem wideV_no {ps : List Int} {g r : Int} (h : wideA ps g r = false) : wideV ps g r = .tuple #[.int .i64 0, .bool false] := by simp [wideV, h]
theorem wideV_far {ps : List Int} {g r : Int} (h : wideA ps g r = true) (h2 : (ps.length : Int) < g) : wideV ps g r = .tuple #[.int .i64 0, .bool true] := by simp [wideV, h, h2]
theorem wideV_yes {ps : List Int} {g r : Int} (h : wideA ps g r = true) (h2 : ¬ (ps.length : Int) < g) : wideV ps g r = .tuple #[.int .i64 (if gt (asc ps) (ps.length - g.toNat) - 2 * r < 0 then 0 else gt (asc ps) (ps.length - g.toNat) - 2 * r), .bool true] := by simp [wideV, h, h2]
theorem wideV_form (ps : List Int) (g r : Int) : ∃ x y, wideV ps g r = .tuple #[.int .i64 x, .bool y] := by
  unfold wideV; split
  · split <;> exact ⟨_, _, rfl⟩
  · exact ⟨_, _, rfl⟩
theorem asc_any' {ps : List Int} (hp : arePl ps = true) (j : Nat) : 0 ≤ gt (asc ps) j ∧ gt (asc ps) j ≤ 100 := by
  by_cases hj : j < (asc ps).length
  · have h := asc_any (zs := ps) (P := fun n => 0 ≤ n ∧ n ≤ 100) (fun n hn => by
      obtain ⟨i, hi, rfl⟩ := List.getElem_of_mem hn
      rw [gt_of hi]; exact arePl_any hp i) _ (gt_mem hj)
    exact h
  · have e : gt (asc ps) j = 0 := by simp [gt, hj]
    omega
theorem l1MostQ (a b : Int) (w : World) :
    Calls Try.prog 40 #[.int .i64 a, .int .i64 b] w fun e w' => e = .returned (.int .i64 (if b < a then a else b)) ∧ w = w' := by
  by_cases h : b < a
  · have R := Lib.hid (show (if b < a then a else b) = a from if_pos h)
    go_enter Try.func40, Try.ntmps40
    go_wp2
    go_ret
    exact ⟨ret_w (by first | rfl | (rw [R.out]; rfl)), rfl⟩
  · have R := Lib.hid (show (if b < a then a else b) = b from if_neg h)
    go_enter Try.func40, Try.ntmps40
    go_wp2
    go_ret
    exact ⟨ret_w (by first | rfl | (rw [R.out]; rfl)), rfl⟩
set_option maxHeartbeats 2000000 in
theorem implWide (v : Value) (ps : List Int) (g r : Int) (w : World) (h : Rd w v ps) (hn : ps.length ≤ 1048576) (hg : -9223372036854775808 ≤ g ∧ g ≤ 9223372036854775807) :
    Calls Try.prog 16 #[v, .int .i64 g, .int .i64 r] w fun e w' => e = .returned (wideV ps g r) ∧ Below w.heap.size w w' := by
  have HA := Lib.hid (implArePl v ps w h hn)
  have E := Lib.hid (show wideA ps g r = (arePl ps && inB g 1 7 && inB r 0 10) from rfl)
  cases h1 : arePl ps
  · have J := Lib.hid (wideV_no (E.out.trans (by simp [h1])))
    rw [h1] at HA
    clear h E h1
    go_enter Try.func16, Try.ntmps16
    go_wp2_with (first
      | (go_at_call 41; refine HA.out.mono ?_; rintro e w' ⟨rfl, rfl⟩))
    go_ret2
    exact ⟨ret_v J.out.symm, Below.refl _ _⟩
  cases h2 : inB g 1 7
  · have J := Lib.hid (wideV_no (E.out.trans (by simp [h1, h2])))
    rw [h1] at HA
    have b2 : ¬ (1 ≤ g ∧ g ≤ 7) := fun h => by rw [inB_iff.2 h] at h2; cases h2
    have G2 := Lib.hid h2
    clear h E h1 h2
    by_cases hg1 : g < 1
    · go_enter Try.func16, Try.ntmps16
      go_wp2_with (first
        | (go_at_call 41; refine HA.out.mono ?_; rintro e w' ⟨rfl, rfl⟩)
        | (go_at_call 42; refine (isRest _ _).mono ?_; rintro e w' ⟨rfl, rfl⟩; rw [G3.out]))
      go_ret2
      exact ⟨ret_v J.out.symm, Below.refl _ _⟩
    · go_enter Try.func16, Try.ntmps16
      go_wp2_with (first
        | (go_at_call 41; refine HA.out.mono ?_; rintro e w' ⟨rfl, rfl⟩)
        | (go_at_call 42; refine (isRest _ _).mono ?_; rintro e w' ⟨rfl, rfl⟩; rw [G3.out]))
      go_ret2
      exact ⟨ret_v J.out.symm, Below.refl _ _⟩
  cases h3 : inB r 0 10
  · have J := Lib.hid (wideV_no (E.out.trans (by simp [h1, h2, h3])))
    rw [h1] at HA
    have G2 := Lib.hid h2
    have G3 := Lib.hid h3
    have b2 := inB_iff.1 h2
    clear h E h1 h2 h3
    go_enter Try.func16, Try.ntmps16
    go_wp2_with (first
      | (go_at_call 41; refine HA.out.mono ?_; rintro e w' ⟨rfl, rfl⟩)
      | (go_at_call 42; refine (isRest _ _).mono ?_; rintro e w' ⟨rfl, rfl⟩; rw [G3.out])
      | (go_at_call 42; refine (isRest _ _).mono ?_; rintro e w' ⟨rfl, rfl⟩; rw [G3.out]))
    go_ret2
    exact ⟨ret_v J.out.symm, Below.refl _ _⟩
  have T := E.out.trans (by simp [h1, h2, h3] : _ = true)
  have b2 := inB_iff.1 h2
  have b3 := inB_iff.1 h3
  have hin := arePl_in h1
  have hany := asc_any' h1
  have HS := Lib.hid (greatestFirst v ps w h (by omega) (by omega))
  obtain ⟨b, off, n, c, rfl, hnz, _, _⟩ := h.cellsP (by omega)
  have G2 := Lib.hid h2
  have G3 := Lib.hid h3
  rw [h1] at HA
  have HN := Lib.hid hnz
  have n7 : 1 ≤ n ∧ n ≤ 7 := by omega
  by_cases hf : (n : Int) < g
  · have J := Lib.hid (wideV_far T (by omega))
    clear h E h1 h2 h3 hin hany hnz hn T
    go_enter Try.func16, Try.ntmps16
    go_wp2_with (first
      | (go_at_call 41; refine HA.out.mono ?_; rintro e w' ⟨rfl, rfl⟩)
      | (go_at_call 42; refine (isRest _ _).mono ?_; rintro e w' ⟨rfl, rfl⟩; rw [G3.out])
      | (go_at_call 42; refine (isRest _ _).mono ?_; rintro e w' ⟨rfl, rfl⟩; rw [G3.out])
      | (go_at_call 34; refine HS.out.mono ?_; rintro e w1 ⟨u, rfl, hI, hb⟩; obtain ⟨g1, m, cap, rfl, hm, _, _, _, hgw, hcl⟩ := hI.form (by rw [dsc_len]; have := HN.out; omega); obtain rfl : m = n := hm.trans ((dsc_len ps).trans HN.out.symm); have hc := hcl q (by omega); rw [E1.out] at hc; have HB := Lib.hid hb; clear hcl hI hb hm)
      | (go_at_call 35; refine (lengthFor _ _ _ (by omega) (by omega)).mono ?_; rintro e w' ⟨rfl, rfl⟩))
    go_ret2
    exact ⟨ret_v J.out.symm, Below.refl _ _⟩
  · obtain ⟨q, rfl⟩ := Int.eq_ofNat_of_zero_le (show 0 ≤ g by omega)
    have J := Lib.hid (wideV_yes T (by omega))
    have hx := hany (n - q)
    rw [Int.toNat_natCast, ← hnz] at J
    obtain ⟨q, rfl⟩ : ∃ p, q = p + 1 := ⟨q - 1, by omega⟩
    have E1 := Lib.hid (show gt (dsc ps) q = gt (asc ps) (n - (q + 1)) by rw [dsc_gt (by omega), ← hnz]; congr 1; omega)
    have e1 : ((q + 1 : Nat) : Int) = (q : Int) + 1 := by omega
    rw [e1] at hf b2 G2 J ⊢
    clear h E h1 h2 h3 hin hany hnz hn T
    generalize hx0 : gt (asc ps) (n - (q + 1)) = x at *
    have HX := Lib.hid hx0
    clear hx0
    by_cases hs : x - 2 * r < 0
    · rw [if_pos hs] at J
      have HMX := Lib.hid (show max 0 (x - 2 * r) = 0 by omega)
      go_enter Try.func16, Try.ntmps16
      go_wp2_with (first
        | (go_at_call 41; refine HA.out.mono ?_; rintro e w' ⟨rfl, rfl⟩)
        | (go_at_call 42; refine (isRest _ _).mono ?_; rintro e w' ⟨rfl, rfl⟩; rw [G3.out])
        | (go_at_call 42; refine (isRest _ _).mono ?_; rintro e w' ⟨rfl, rfl⟩; rw [G3.out])
        | (go_at_call 34; refine HS.out.mono ?_; rintro e w1 ⟨u, rfl, hI, hb⟩; obtain ⟨g1, m, cap, rfl, hm, _, _, _, hgw, hcl⟩ := hI.form (by rw [dsc_len]; have := HN.out; omega); obtain rfl : m = n := hm.trans ((dsc_len ps).trans HN.out.symm); have hc := hcl q (by omega); rw [E1.out] at hc; have HB := Lib.hid hb; clear hcl hI hb hm)
        | (go_at_call 35; refine (lengthFor _ _ _ (by omega) (by omega)).mono ?_; rintro e w' ⟨rfl, rfl⟩))
      go_ret2
      exact ⟨ret_v (show Value.tuple #[.int .i64 (max 0 (x - 2 * r)), .bool true] = _ by rw [HMX.out, J.out]), HB.out⟩
    · rw [if_neg hs] at J
      have HMX := Lib.hid (show max 0 (x - 2 * r) = x - 2 * r by omega)
      go_enter Try.func16, Try.ntmps16
      go_wp2_with (first
        | (go_at_call 41; refine HA.out.mono ?_; rintro e w' ⟨rfl, rfl⟩)
        | (go_at_call 42; refine (isRest _ _).mono ?_; rintro e w' ⟨rfl, rfl⟩; rw [G3.out])
        | (go_at_call 42; refine (isRest _ _).mono ?_; rintro e w' ⟨rfl, rfl⟩; rw [G3.out])
        | (go_at_call 34; refine HS.out.mono ?_; rintro e w1 ⟨u, rfl, hI, hb⟩; obtain ⟨g1, m, cap, rfl, hm, _, _, _, hgw, hcl⟩ := hI.form (by rw [dsc_len]; have := HN.out; omega); obtain rfl : m = n := hm.trans ((dsc_len ps).trans HN.out.symm); have hc := hcl q (by omega); rw [E1.out] at hc; have HB := Lib.hid hb; clear hcl hI hb hm)
        | (go_at_call 35; refine (lengthFor _ _ _ (by omega) (by omega)).mono ?_; rintro e w' ⟨rfl, rfl⟩))
      go_ret2
      exact ⟨ret_v (show Value.tuple #[.int .i64 (max 0 (x - 2 * r)), .bool true] = _ by rw [HMX.out, J.out]), HB.out⟩
set_option maxHeartbeats 2000000 in
theorem specWide (v : Value) (ps : List Int) (g r : Int) (w : World) (h : Rd w v ps) (hn : ps.length ≤ 1048576) (hg : -9223372036854775808 ≤ g ∧ g ≤ 9223372036854775807) :
    Calls Try.prog 15 #[v, .int .i64 g, .int .i64 r] w fun e w' => e = .returned (wideV ps g r) ∧ Below w.heap.size w w' := by
  have HA := Lib.hid (plGood v ps w h hn)
  have E := Lib.hid (show wideA ps g r = (arePl ps && inB g 1 7 && inB r 0 10) from rfl)
  cases h1 : arePl ps
  · have J := Lib.hid (wideV_no (E.out.trans (by simp [h1])))
    rw [h1] at HA
    clear h E h1
    go_enter Try.func15, Try.ntmps15
    go_wp2_with (first
      | (go_at_call 36; refine HA.out.mono ?_; rintro e w' ⟨rfl, rfl⟩))
    go_ret2
    exact ⟨ret_v J.out.symm, Below.refl _ _⟩
  cases h2 : inB g 1 7
  · have J := Lib.hid (wideV_no (E.out.trans (by simp [h1, h2])))
    rw [h1] at HA
    have G2 := Lib.hid h2
    clear h E h1 h2
    go_enter Try.func15, Try.ntmps15
    go_wp2_with (first
      | (go_at_call 36; refine HA.out.mono ?_; rintro e w' ⟨rfl, rfl⟩)
      | (go_at_call 37; refine (l1In _ _ _ _).mono ?_; rintro e w' ⟨rfl, rfl⟩; rw [G2.out]))
    go_ret2
    exact ⟨ret_v J.out.symm, Below.refl _ _⟩
  cases h3 : inB r 0 10
  · have J := Lib.hid (wideV_no (E.out.trans (by simp [h1, h2, h3])))
    rw [h1] at HA
    have G2 := Lib.hid h2
    have G3 := Lib.hid h3
    have b2 := inB_iff.1 h2
    clear h E h1 h2 h3
    go_enter Try.func15, Try.ntmps15
    go_wp2_with (first
      | (go_at_call 36; refine HA.out.mono ?_; rintro e w' ⟨rfl, rfl⟩)
      | (go_at_call 37; refine (l1In _ _ _ _).mono ?_; rintro e w' ⟨rfl, rfl⟩; rw [G2.out])
      | (go_at_call 38; refine (plRest _ _).mono ?_; rintro e w' ⟨rfl, rfl⟩; rw [G3.out]))
    go_ret2
    exact ⟨ret_v J.out.symm, Below.refl _ _⟩
  have T := E.out.trans (by simp [h1, h2, h3] : _ = true)
  have b2 := inB_iff.1 h2
  have b3 := inB_iff.1 h3
  have hin := arePl_in h1
  have hany := asc_any' h1
  have HS := Lib.hid (plSorted v ps w h (by omega))
  obtain ⟨b, off, n, c, rfl, hnz, _, _⟩ := h.cellsP (by omega)
  have G2 := Lib.hid h2
  have G3 := Lib.hid h3
  rw [h1] at HA
  have HN := Lib.hid hnz
  have n7 : 1 ≤ n ∧ n ≤ 7 := by omega
  by_cases hf : (n : Int) < g
  · have J := Lib.hid (wideV_far T (by omega))
    clear h E h1 h2 h3 hin hany hnz hn T
    go_enter Try.func15, Try.ntmps15
    go_wp2_with (first
      | (go_at_call 36; refine HA.out.mono ?_; rintro e w' ⟨rfl, rfl⟩)
      | (go_at_call 37; refine (l1In _ _ _ _).mono ?_; rintro e w' ⟨rfl, rfl⟩; rw [G2.out])
      | (go_at_call 38; refine (plRest _ _).mono ?_; rintro e w' ⟨rfl, rfl⟩; rw [G3.out])
      | (go_at_call 39; refine HS.out.mono ?_; rintro e w1 ⟨u, rfl, hI, hb⟩; obtain ⟨g1, m, cap, rfl, hm, _, _, _, hgw, hcl⟩ := hI.form (by rw [asc_len]; have := HN.out; omega); obtain rfl : m = n := hm.trans ((asc_len ps).trans HN.out.symm); (try (have hc := hcl (m - q) (by omega); rw [HX.out] at hc)); have HB := Lib.hid hb; clear hcl hI hb hm)
      | (go_at_call 40; refine (l1MostQ _ _ _).mono ?_; rintro e w' ⟨rfl, rfl⟩))
    go_ret2
    exact ⟨ret_v J.out.symm, HB.out⟩
  · obtain ⟨q, rfl⟩ := Int.eq_ofNat_of_zero_le (show 0 ≤ g by omega)
    have J := Lib.hid (wideV_yes T (by omega))
    have hx := hany (n - q)
    rw [Int.toNat_natCast, ← hnz] at J
    have e1 : (n : Int) - (q : Int) = ((n - q : Nat) : Int) := by omega
    have HE := Lib.hid e1
    clear e1
    clear h E h1 h2 h3 hin hany hnz hn T
    generalize hx0 : gt (asc ps) (n - q) = x at *
    have HX := Lib.hid hx0
    clear hx0
    by_cases hs : x - 2 * r < 0
    · rw [if_pos hs] at J
      go_enter Try.func15, Try.ntmps15
      go_wp2_with (first
        | (go_at_call 36; refine HA.out.mono ?_; rintro e w' ⟨rfl, rfl⟩)
        | (go_at_call 37; refine (l1In _ _ _ _).mono ?_; rintro e w' ⟨rfl, rfl⟩; rw [G2.out])
        | (go_at_call 38; refine (plRest _ _).mono ?_; rintro e w' ⟨rfl, rfl⟩; rw [G3.out])
        | (go_at_call 39; refine HS.out.mono ?_; rintro e w1 ⟨u, rfl, hI, hb⟩; obtain ⟨g1, m, cap, rfl, hm, _, _, _, hgw, hcl⟩ := hI.form (by rw [asc_len]; have := HN.out; omega); obtain rfl : m = n := hm.trans ((asc_len ps).trans HN.out.symm); (try (have hc := hcl (m - q) (by omega); rw [HX.out] at hc)); have HB := Lib.hid hb; clear hcl hI hb hm)
        | (go_at_call 40; refine (l1MostQ _ _ _).mono ?_; rintro e w' ⟨rfl, rfl⟩))
      go_ret2
      exact ⟨ret_v (by rw [J.out]; rfl), HB.out⟩
    · rw [if_neg hs] at J
      go_enter Try.func15, Try.ntmps15
      go_wp2_with (first
        | (go_at_call 36; refine HA.out.mono ?_; rintro e w' ⟨rfl, rfl⟩)
        | (go_at_call 37; refine (l1In _ _ _ _).mono ?_; rintro e w' ⟨rfl, rfl⟩; rw [G2.out])
        | (go_at_call 38; refine (plRest _ _).mono ?_; rintro e w' ⟨rfl, rfl⟩; rw [G3.out])
        | (go_at_call 39; refine HS.out.mono ?_; rintro e w1 ⟨u, rfl, hI, hb⟩; obtain ⟨g1, m, cap, rfl, hm, _, _, _, hgw, hcl⟩ := hI.form (by rw [asc_len]; have := HN.out; omega); obtain rfl : m = n := hm.trans ((asc_len ps).trans HN.out.symm); (try (have hc := hcl (m - q) (by omega); rw [HX.out] at hc)); have HB := Lib.hid hb; clear hcl hI hb hm)
        | (go_at_call 40; refine (l1MostQ _ _ _).mono ?_; rintro e w' ⟨rfl, rfl⟩))
      go_ret2
      exact ⟨ret_v (by rw [J.out]; rfl), HB.out⟩
end Go.Proofs.Ytimbpfenpbkckab
