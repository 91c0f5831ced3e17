/- spec.ParseCorner. -/
import Derived.Test.YtfkdkhoihlkgcacDoorPcp
import Derived.Deep.RegionHeld3
namespace Go.Proofs.YtfkdkhoihlkgcacDoor
set_option linter.unusedVariables false
open Go.RowKit

theorem two_set {w : World} {g : Nat} {a b c d : Value} (h : Blk w g #[a, b]) : Blk ((w.setCell ⟨g, 0, none⟩ c).setCell ⟨g, 1, none⟩ d) g #[c, d] := (h.set 0 c).set 1 d
theorem two_below {w w' : World} {B g : Nat} (h : Below B w w') (hB : B ≤ g) (c d : Value) : Below B w ((w'.setCell ⟨g, 0, none⟩ c).setCell ⟨g, 1, none⟩ d) :=
  (h.setCell (p := ⟨g, 0, none⟩) hB c).setCell (p := ⟨g, 1, none⟩) hB d
set_option maxRecDepth 20000 in
set_option maxHeartbeats 4000000 in
theorem cnParse (s : ByteArray) (w : World) (hs : s.size ≤ 1048576) :
    Calls Tryd.prog 21 #[.string s] w fun e w' => e = .returned (pcV s) ∧ Below w.heap.size w w' := by
  have X1 := Lib.hid (Blk.new w #[.int .i64 0, .int .i64 0] 26)
  have D1 := Lib.hid ((Below.refl w.heap.size w).alloc (Nat.le_refl _) (.cells #[.int .i64 0, .int .i64 0] 26))
  have SP := Lib.hid (fun wx => l1Split s 120 120 rfl wx hs)
  go_enter Tryd.func21, Tryd.ntmps21
  go_wp2_with fail
  refine (SP.out _).mono ?_
  rintro e w1 ⟨v, W, rfl, hS, hW, hb1⟩
  have hp : 0 < W.length := by
    have := spc_ne 120 s.data.toList
    rw [← hW] at this
    cases W with
    | nil => exact absurd rfl this
    | cons a r => simp
  obtain ⟨g, n, cap, rfl, hn, hnc, hcm, hBg, hg, hcell⟩ := hS.form hp
  have BX := Lib.hid (X1.out.below hb1 (by simp))
  have D2 := Lib.hid (D1.out.trans (hb1.mono (by simp)))
  have HW := Lib.hid hW
  have HN := Lib.hid hn
  obtain ⟨c0, c1, cl⟩ := BX.out.two
  have f0 := BX.out.fr 0
  have f1 := BX.out.fr 1
  have hs1 := D2.out.size
  clear hS hb1 X1 D1 SP hW hn
  by_cases h7 : 7 < s.size
  · have J := Lib.hid (pcV_no (s := s) (by
      unfold isC; split
      · rw [decide_eq_false (by omega)]; rfl
      · rfl))
    have h7' : (7 : Int) < (s.size : Int) := by omega
    go_wp2
    have t := two_set (c := .int .i64 0) (d := .int .i64 0) BX.out
    obtain ⟨e0, e1, _⟩ := t.two
    refine bodyPost_ret (v := .tuple #[.agg #[.int .i64 0, .int .i64 0], .bool false]) (by simp [results, Tryd.f21, go_sem, e0, e1]) rfl ?_
    exact ⟨ret_v J.out.symm, two_below D2.out (Nat.le_refl _) _ _⟩
  · have h7' : ¬ (7 : Int) < (s.size : Int) := by omega
    by_cases h2 : n = 2
    · subst h2
      obtain ⟨a, b, rfl⟩ : ∃ a b, W = [a, b] := by
        have h3 := HN.out
        match W, h3 with
        | [a, b], _ => exact ⟨a, b, rfl⟩
      have g0 := hcell 0 (by omega)
      have g1 := hcell 1 (by omega)
      rw [show gs [a, b] 0 = a from rfl] at g0
      rw [show gs [a, b] 1 = b from rfl] at g1
      have hWW := HW.out
      simp only [List.map_cons, List.map_nil] at hWW
      have hab : a.size ≤ 7 ∧ b.size ≤ 7 := by
        have hj := spc_join 120 s.data.toList
        rw [← hWW] at hj
        have h3 := congrArg List.length hj
        have z1 : a.data.toList.length = a.size := by rw [Array.length_toList]; rfl
        have z2 : b.data.toList.length = b.size := by rw [Array.length_toList]; rfl
        have z3 : s.data.toList.length = s.size := by rw [Array.length_toList]; rfl
        simp [Lib.join] at h3
        omega
      have RA := Lib.hid (fun wx => l1Read a wx (by omega))
      have RB := Lib.hid (fun wx => l1Read b wx (by omega))
      have HV : Hid (isC s = isCn (rdW a.data.toList) (rdW b.data.toList) ∧ cpr s = (rdW a.data.toList, rdW b.data.toList)) := Lib.hid (by
        unfold isC cpr
        rw [← hWW]
        simp only [decide_eq_true (show s.size ≤ 7 by omega), Bool.true_and, and_self])
      generalize rdW a.data.toList = x at *
      generalize rdW b.data.toList = y at *
      have HG := Lib.hid (fun wx => cnGood x y wx)
      have K := Lib.hid (fun W (h : Below w1.heap.size w1 W) => And.intro ((h.cell (p := ⟨g, 0, none⟩) hg).trans g0) ((h.cell (p := ⟨g, 1, none⟩) hg).trans g1))
      clear hWW hcell HW HN hab hp hnc
      go_wp2_with fail
      go_region_held3 (fun W => W.cell? ⟨g, 0, none⟩ = some (.string a) ∧ W.cell? ⟨g, 1, none⟩ = some (.string b)) (first | exact ⟨g0, g1⟩ | exact K.out _ (by (repeat (first | exact Below.refl _ _ | (refine Below.alloc ?_ (by first | exact Nat.le_refl _ | omega | (simp; try omega)) _) | apply Below.drew | (refine Below.setCell ?_ (by first | exact Nat.le_refl _ | (simp; try omega)) _))))) (first
        | (go_at_call 36; (with_reducible refine (RA.out _).mono ?_); rintro e w' ⟨rfl, rfl⟩)
        | (go_at_call 36; (with_reducible refine (RB.out _).mono ?_); rintro e w' ⟨rfl, rfl⟩)
        | fail)
      all_goals
        have BN := Lib.hid (Blk.new w1 #[.int .i64 x, .int .i64 y] 26).drew
        have bA : Below w1.heap.size w1 (w1.alloc (.cells #[.int .i64 x, .int .i64 y] 26)).drew := ((Below.refl _ w1).alloc (Nat.le_refl _) _).drew
        have hsA := bA.size
        go_wp2_with fail
        refine (HG.out _).mono ?_
        rintro e w3 ⟨rfl, hb3⟩
        have BN3 := Lib.hid (BN.out.below hb3 BN.out.lt)
        have b13 : Below w1.heap.size w1 w3 := bA.trans (hb3.mono hsA)
        have BX3 := Lib.hid (BX.out.below b13 cl)
        have D3 := Lib.hid (D2.out.trans (b13.mono hs1))
        have BN0 := BN3.out.two
        have BX0 := BX3.out.two
        have y0 := BX3.out.fr 0
        have y1 := BX3.out.fr 1
        obtain ⟨n0, n1, n2⟩ := BN0
        obtain ⟨m0, m1, m2⟩ := BX0
        clear hb3 b13 bA hsA BN BX f0 f1 c0 c1 K g0 g1
        cases hc : isCn x y
        · have J := Lib.hid (pcV_no (s := s) (by rw [HV.out.1]; exact hc))
          go_wp2
          have t := two_set (c := .int .i64 0) (d := .int .i64 0) BX3.out
          obtain ⟨e0, e1, _⟩ := t.two
          refine bodyPost_ret (v := .tuple #[.agg #[.int .i64 0, .int .i64 0], .bool false]) (by simp [results, Tryd.f21, go_sem, e0, e1]) rfl ?_
          exact ⟨ret_v J.out.symm, two_below D3.out (Nat.le_refl _) _ _⟩
        · have J := Lib.hid (pcV_yes (s := s) (by rw [HV.out.1]; exact hc))
          rw [HV.out.2] at J
          go_wp2
          have t := two_set (c := .int .i64 x) (d := .int .i64 y) BX3.out
          obtain ⟨e0, e1, _⟩ := t.two
          refine bodyPost_ret (v := .tuple #[.agg #[.int .i64 x, .int .i64 y], .bool true]) (by simp [results, Tryd.f21, go_sem, e0, e1]) rfl ?_
          exact ⟨ret_v J.out.symm, two_below D3.out (Nat.le_refl _) _ _⟩
    · have J := Lib.hid (pcV_no (s := s) (by
        unfold isC
        rw [← HW.out]
        have := HN.out
        split
        · rename_i u v e
          have h3 := congrArg List.length e
          simp at h3
          omega
        · rfl))
      have h2' : ((n : Int) == 2) = false := by simp; omega
      have h2'' : ((n : Int) != 2) = true := by simp; omega
      go_wp2
      have t := two_set (c := .int .i64 0) (d := .int .i64 0) BX.out
      obtain ⟨e0, e1, _⟩ := t.two
      refine bodyPost_ret (v := .tuple #[.agg #[.int .i64 0, .int .i64 0], .bool false]) (by simp [results, Tryd.f21, go_sem, e0, e1]) rfl ?_
      exact ⟨ret_v J.out.symm, two_below D2.out (Nat.le_refl _) _ _⟩
theorem specPCorner (s : ByteArray) (w : World) (hs : s.size ≤ 1048576) :
    Calls Tryd.prog 9 #[.string s] w fun e w' => e = .returned (pcV s) ∧ Below w.heap.size w w' := by
  have SP := Lib.hid (fun wx => cnParse s wx hs)
  obtain ⟨x, y, b, hv⟩ := pcV_form s
  rw [hv] at SP ⊢
  clear hv
  have X1 := Lib.hid (Blk.new w #[.int .i64 0, .int .i64 0] 26)
  have D1 := Lib.hid ((Below.refl w.heap.size w).alloc (Nat.le_refl _) (.cells #[.int .i64 0, .int .i64 0] 26))
  go_enter Tryd.func9, Tryd.ntmps9
  go_wp2_with fail
  refine (SP.out _).mono ?_
  rintro e w1 ⟨rfl, hb1⟩
  have BX := Lib.hid (X1.out.below hb1 (by simp))
  have D2 := Lib.hid (D1.out.trans (hb1.mono (by simp)))
  obtain ⟨c0, c1, cl⟩ := BX.out.two
  have f0 := BX.out.fr 0
  have f1 := BX.out.fr 1
  clear hb1
  go_wp2
  have t := two_set (c := .int .i64 x) (d := .int .i64 y) BX.out
  obtain ⟨e0, e1, _⟩ := t.two
  refine bodyPost_ret (v := .tuple #[.agg #[.int .i64 x, .int .i64 y], .bool b]) (by simp [results, Tryd.f9, go_sem, e0, e1]) rfl ?_
  exact ⟨rfl, two_below D2.out (Nat.le_refl _) _ _⟩
end Go.Proofs.YtfkdkhoihlkgcacDoor
