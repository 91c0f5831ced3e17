/- What a clue is: spec.pzPlaces, pzClue; impl.arePlaces, boundsOf, requireClue. -/
import Derived.Test.YtcpipacombnhdaaDoorKb
import Derived.Test.YtcpipacombnhdaaDoorKq
import Derived.Defers
import Derived.Recover
import Derived.Laws.Pointers
import Derived.RegionTactic
import Derived.Stop.Asserts
namespace Go.Proofs.YtcpipacombnhdaaDoor
set_option linter.unusedVariables false
open Go.RowKit Go.Stop

theorem pzPlaces (n : Int) (w : World) :
    Calls Tryd.prog 30 #[.int .i64 n] w fun e w' => e = .returned (.bool (inB n 1 8)) ∧ w = w' := by
  go_enter Tryd.func30, Tryd.ntmps30
  go_wp2_with (go_at_call 47; refine (l1In _ _ _ _).mono ?_; rintro e w' ⟨rfl, rfl⟩)
  go_ret
  exact ⟨rfl, rfl⟩
theorem arePlaces (n : Int) (w : World) :
    Calls Tryd.prog 34 #[.int .i64 n] w fun e w' => e = .returned (.bool (inB n 1 8)) ∧ w = w' := by
  by_cases h1 : n < 1
  · go_enter Tryd.func34, Tryd.ntmps34
    go_wp2
    go_ret
    exact ⟨ret_bool (by simp [inB]; omega), rfl⟩
  · by_cases h2 : 8 < n
    · go_enter Tryd.func34, Tryd.ntmps34
      go_wp2
      go_ret
      exact ⟨ret_bool (by simp [inB]; omega), rfl⟩
    · go_enter Tryd.func34, Tryd.ntmps34
      go_wp2
      go_ret
      exact ⟨ret_bool (by simp [inB]; omega), rfl⟩

theorem isCl_far {n k a b : Int} (h : k < 0 ∨ 5 < k) : isCl n (k, a, b) = false := by
  have : inB k 0 5 = false := inB_no h
  simp [isCl, this]
theorem isCl_of {n k a b : Int} (h : 0 ≤ k ∧ k ≤ 5) : isCl n (k, a, b) = (inB a (bds n k).1 (bds n k).2.1 && inB b (bds n k).2.2.1 (bds n k).2.2.2) := by
  have : inB k 0 5 = true := inB_yes h.1 h.2
  simp [isCl, this]
theorem inB_00 (a : Int) : inB a 0 0 = decide (a = 0) := by
  rw [Bool.eq_iff_iff]; simp [inB]; omega
theorem pzClue_0 (n k a b : Int) (w : World) (hk : k = 0 ∨ k = 5) :
    Calls Tryd.prog 31 #[.int .i64 n, .agg #[.int .i64 k, .int .i64 a, .int .i64 b]] w fun e w' => e = .returned (.bool (isCl n (k, a, b))) ∧ Below w.heap.size w w' := by
  rw [isCl_of (by omega)]
  have e : bds n k = (0, 0, 0, n) := by simp [bds, hk]
  rw [e]
  dsimp only
  rw [inB_00]
  rcases hk with rfl | rfl
  all_goals
    by_cases ha : a = 0
    · subst ha
      go_enter Tryd.func31, Tryd.ntmps31
      go_wp2_with (go_at_call 47; refine (l1In _ _ _ _).mono ?_; rintro e w' ⟨rfl, rfl⟩)
      go_ret
      exact ⟨ret_bool (by simp), by (repeat (first | exact Below.refl _ _ | (refine Below.alloc ?_ (by first | omega | (simp; try omega)) _) | apply Below.drew | apply below_drewN))⟩
    · go_enter Tryd.func31, Tryd.ntmps31
      go_wp2_with (go_at_call 47; refine (l1In _ _ _ _).mono ?_; rintro e w' ⟨rfl, rfl⟩)
      go_ret
      exact ⟨ret_bool (by simp [ha]), by (repeat (first | exact Below.refl _ _ | (refine Below.alloc ?_ (by first | omega | (simp; try omega)) _) | apply Below.drew | apply below_drewN))⟩
theorem pzClue_3 (n a b : Int) (w : World) :
    Calls Tryd.prog 31 #[.int .i64 n, .agg #[.int .i64 3, .int .i64 a, .int .i64 b]] w fun e w' => e = .returned (.bool (isCl n (3, a, b))) ∧ Below w.heap.size w w' := by
  rw [isCl_of (by omega)]
  have e : bds n 3 = (0, 0, 1, 9) := rfl
  rw [e]
  dsimp only
  rw [inB_00]
  by_cases ha : a = 0
  · subst ha
    go_enter Tryd.func31, Tryd.ntmps31
    go_wp2_with (go_at_call 47; refine (l1In _ _ _ _).mono ?_; rintro e w' ⟨rfl, rfl⟩)
    go_ret
    exact ⟨ret_bool (by simp), by (repeat (first | exact Below.refl _ _ | (refine Below.alloc ?_ (by first | omega | (simp; try omega)) _) | apply Below.drew | apply below_drewN))⟩
  · go_enter Tryd.func31, Tryd.ntmps31
    go_wp2_with (go_at_call 47; refine (l1In _ _ _ _).mono ?_; rintro e w' ⟨rfl, rfl⟩)
    go_ret
    exact ⟨ret_bool (by simp [ha]), by (repeat (first | exact Below.refl _ _ | (refine Below.alloc ?_ (by first | omega | (simp; try omega)) _) | apply Below.drew | apply below_drewN))⟩
theorem pzClue_1 (n k a b hi : Int) (w : World) (hk : (k = 1 ∧ hi = n) ∨ (k = 2 ∧ hi = 9) ∨ (k = 4 ∧ hi = 9)) :
    Calls Tryd.prog 31 #[.int .i64 n, .agg #[.int .i64 k, .int .i64 a, .int .i64 b]] w fun e w' => e = .returned (.bool (isCl n (k, a, b))) ∧ Below w.heap.size w w' := by
  rw [isCl_of (by omega)]
  cases ha : inB a 1 hi
  all_goals
    rcases hk with ⟨rfl, rfl⟩ | ⟨rfl, rfl⟩ | ⟨rfl, rfl⟩
    all_goals
      simp [bds]
      rw [ha]
      go_enter Tryd.func31, Tryd.ntmps31
      go_wp2_with (go_at_call 47; refine (l1In _ _ _ _).mono ?_; rintro e w' ⟨rfl, rfl⟩)
      go_ret
      exact ⟨ret_bool (by simp), by (repeat (first | exact Below.refl _ _ | (refine Below.alloc ?_ (by first | omega | (simp; try omega)) _) | apply Below.drew | apply below_drewN))⟩
theorem pzClue_no (n k a b : Int) (w : World) (hk : k < 0 ∨ 5 < k) :
    Calls Tryd.prog 31 #[.int .i64 n, .agg #[.int .i64 k, .int .i64 a, .int .i64 b]] w fun e w' => e = .returned (.bool (isCl n (k, a, b))) ∧ Below w.heap.size w w' := by
  rw [isCl_far hk]
  have k0 : ¬ k = 0 := by omega
  have k1 : ¬ k = 1 := by omega
  have k2 : ¬ k = 2 := by omega
  have k3 : ¬ k = 3 := by omega
  have k4 : ¬ k = 4 := by omega
  have k5 : ¬ k = 5 := by omega
  clear hk
  go_enter Tryd.func31, Tryd.ntmps31
  go_wp2
  go_ret
  refine ⟨rfl, by (repeat (first | exact Below.refl _ _ | (refine Below.alloc ?_ (by first | omega | (simp; try omega)) _) | apply Below.drew | apply below_drewN))⟩
theorem pzClue (n k a b : Int) (w : World) :
    Calls Tryd.prog 31 #[.int .i64 n, .agg #[.int .i64 k, .int .i64 a, .int .i64 b]] w fun e w' => e = .returned (.bool (isCl n (k, a, b))) ∧ Below w.heap.size w w' := by
  by_cases hk : k < 0 ∨ 5 < k
  · exact pzClue_no n k a b w hk
  · obtain h | h | h | h | h | h : k = 0 ∨ k = 1 ∨ k = 2 ∨ k = 3 ∨ k = 4 ∨ k = 5 := by omega
    · exact pzClue_0 n k a b w (.inl h)
    · exact pzClue_1 n k a b n w (.inl ⟨h, rfl⟩)
    · exact pzClue_1 n k a b 9 w (.inr (.inl ⟨h, rfl⟩))
    · subst h; exact pzClue_3 n a b w
    · exact pzClue_1 n k a b 9 w (.inr (.inr ⟨h, rfl⟩))
    · exact pzClue_0 n k a b w (.inr h)
/-- what is raised of a clue that is none -/
def noCl (k a b : Int) : Value := .iface 78 (.agg #[.int .i64 k, .int .i64 a, .int .i64 b])
theorem boundsOf_no (n k a b : Int) (w : World) (hk : k < 0 ∨ 5 < k) :
    Calls Tryd.prog 62 #[.int .i64 n, .agg #[.int .i64 k, .int .i64 a, .int .i64 b]] w fun e w' => e = .panicked [{ v := noCl k a b, recovered := false }] ∧ Below w.heap.size w w' := by
  have k0 : ¬ k = 0 := by omega
  have k1 : ¬ k = 1 := by omega
  have k2 : ¬ k = 2 := by omega
  have k3 : ¬ k = 3 := by omega
  have k4 : ¬ k = 4 := by omega
  have k5 : ¬ k = 5 := by omega
  clear hk
  go_enter Tryd.func62, Tryd.ntmps62
  go_wp2
  exact ⟨rfl, rfl, by (repeat (first | exact Below.refl _ _ | (refine Below.alloc ?_ (by first | omega | (simp; try omega)) _) | apply Below.drew | apply below_drewN))⟩
def bdV (n k : Int) : Value := .agg #[.int .i64 (bds n k).1, .int .i64 (bds n k).2.1, .int .i64 (bds n k).2.2.1, .int .i64 (bds n k).2.2.2]
theorem boundsOf (n k a b : Int) (w : World) (hk : 0 ≤ k ∧ k ≤ 5) :
    Calls Tryd.prog 62 #[.int .i64 n, .agg #[.int .i64 k, .int .i64 a, .int .i64 b]] w fun e w' => e = .returned (bdV n k) ∧ Below w.heap.size w w' := by
  obtain h | h | h | h | h | h : k = 0 ∨ k = 1 ∨ k = 2 ∨ k = 3 ∨ k = 4 ∨ k = 5 := by omega
  · subst h
    go_enter Tryd.func62, Tryd.ntmps62
    go_wp2
    exact bodyPost_ret (v := .agg #[.int .i64 0, .int .i64 0, .int .i64 0, .int .i64 n]) (by simp [results, Tryd.results62, go_sem]) rfl ⟨rfl, by (repeat (first | exact Below.refl _ _ | (refine Below.alloc ?_ (by first | omega | (simp; try omega)) _) | apply Below.drew | apply below_drewN))⟩
  · subst h
    go_enter Tryd.func62, Tryd.ntmps62
    go_wp2
    exact bodyPost_ret (v := .agg #[.int .i64 1, .int .i64 n, .int .i64 0, .int .i64 1]) (by simp [results, Tryd.results62, go_sem]) rfl ⟨rfl, by (repeat (first | exact Below.refl _ _ | (refine Below.alloc ?_ (by first | omega | (simp; try omega)) _) | apply Below.drew | apply below_drewN))⟩
  · subst h
    go_enter Tryd.func62, Tryd.ntmps62
    go_wp2
    exact bodyPost_ret (v := .agg #[.int .i64 1, .int .i64 9, .int .i64 0, .int .i64 9]) (by simp [results, Tryd.results62, go_sem]) rfl ⟨rfl, by (repeat (first | exact Below.refl _ _ | (refine Below.alloc ?_ (by first | omega | (simp; try omega)) _) | apply Below.drew | apply below_drewN))⟩
  · subst h
    go_enter Tryd.func62, Tryd.ntmps62
    go_wp2
    exact bodyPost_ret (v := .agg #[.int .i64 0, .int .i64 0, .int .i64 1, .int .i64 9]) (by simp [results, Tryd.results62, go_sem]) rfl ⟨rfl, by (repeat (first | exact Below.refl _ _ | (refine Below.alloc ?_ (by first | omega | (simp; try omega)) _) | apply Below.drew | apply below_drewN))⟩
  · subst h
    go_enter Tryd.func62, Tryd.ntmps62
    go_wp2
    exact bodyPost_ret (v := .agg #[.int .i64 1, .int .i64 9, .int .i64 0, .int .i64 256]) (by simp [results, Tryd.results62, go_sem]) rfl ⟨rfl, by (repeat (first | exact Below.refl _ _ | (refine Below.alloc ?_ (by first | omega | (simp; try omega)) _) | apply Below.drew | apply below_drewN))⟩
  · subst h
    go_enter Tryd.func62, Tryd.ntmps62
    go_wp2
    exact bodyPost_ret (v := .agg #[.int .i64 0, .int .i64 0, .int .i64 0, .int .i64 n]) (by simp [results, Tryd.results62, go_sem]) rfl ⟨rfl, by (repeat (first | exact Below.refl _ _ | (refine Below.alloc ?_ (by first | omega | (simp; try omega)) _) | apply Below.drew | apply below_drewN))⟩

theorem isCl_bds {n k a b : Int} (hk : 0 ≤ k ∧ k ≤ 5) {x0 x1 x2 x3 : Int} (h : bds n k = (x0, x1, x2, x3)) : isCl n (k, a, b) = (inB a x0 x1 && inB b x2 x3) := by rw [isCl_of hk, h]
theorem requireClue_yes (n k a b : Int) (w : World) (h : isCl n (k, a, b) = true) :
    Calls Tryd.prog 49 #[.int .i64 n, .agg #[.int .i64 k, .int .i64 a, .int .i64 b]] w fun e w' => e = .returned (.tuple #[]) ∧ Below w.heap.size w w' := by
  have hk : 0 ≤ k ∧ k ≤ 5 := by have := isCl_in h; exact ⟨this.1, this.2.1⟩
  have C := Lib.hid (fun wx => boundsOf n k a b wx hk)
  obtain ⟨x0, x1, x2, x3, hx⟩ : ∃ x0 x1 x2 x3, bds n k = (x0, x1, x2, x3) := ⟨_, _, _, _, rfl⟩
  rw [isCl_bds hk hx, Bool.and_eq_true, inB_iff, inB_iff] at h
  simp only [bdV, hx] at C
  obtain ⟨⟨h1, h2⟩, h3, h4⟩ := h
  clear hx hk
  go_enter Tryd.func49, Tryd.ntmps49
  go_wp2_with fail
  refine (C.out _).mono ?_
  rintro e w1 ⟨rfl, hb⟩
  have XB := Lib.hid ((Blk.new w #[.int .i64 k, .int .i64 a, .int .i64 b] 44).below hb (by simp))
  have HB := Lib.hid (Below.trans (by (repeat (first | exact Below.refl _ _ | (refine Below.alloc ?_ (by first | omega | (simp; try omega)) _) | apply Below.drew | apply below_drewN))) (hb.mono (by simp; try omega)) : Below w.heap.size w w1)
  have c0 := XB.out.cell 0
  have c1 := XB.out.cell 1
  have c2 := XB.out.cell 2
  have cl := XB.out.lt
  simp only [List.getElem?_toArray, List.getElem?_cons_zero, List.getElem?_cons_succ] at c0 c1 c2
  clear hb C XB
  go_wp2
  refine ⟨rfl, .tuple #[], by simp [results, Tryd.results49, go_sem], rfl, ?_⟩
  have HS := HB.out.size
  repeat (first | exact HB.out | (refine Below.setCell ?_ (by simp; try omega) _) | (refine Below.alloc ?_ (by first | omega | (simp; try omega)) _))
theorem requireClue_no (n k a b : Int) (w : World) (h : isCl n (k, a, b) = false) :
    Calls Tryd.prog 49 #[.int .i64 n, .agg #[.int .i64 k, .int .i64 a, .int .i64 b]] w fun e w' => e = .panicked [{ v := noCl k a b, recovered := false }] ∧ Below w.heap.size w w' := by
  by_cases hk : 0 ≤ k ∧ k ≤ 5
  · have C := Lib.hid (fun wx => boundsOf n k a b wx hk)
    obtain ⟨x0, x1, x2, x3, hx⟩ : ∃ x0 x1 x2 x3, bds n k = (x0, x1, x2, x3) := ⟨_, _, _, _, rfl⟩
    rw [isCl_bds hk hx, Bool.and_eq_false_iff] at h
    simp only [bdV, hx] at C
    have H : a < x0 ∨ (x0 ≤ a ∧ x1 < a) ∨ (x0 ≤ a ∧ a ≤ x1 ∧ b < x2) ∨ (x0 ≤ a ∧ a ≤ x1 ∧ x2 ≤ b ∧ x3 < b) := by
      simp only [inB, Bool.and_eq_false_iff, decide_eq_false_iff_not] at h
      omega
    clear h hx hk
    have walk : ∀ (H : Hid (a < x0 ∨ (x0 ≤ a ∧ x1 < a) ∨ (x0 ≤ a ∧ a ≤ x1 ∧ b < x2) ∨ (x0 ≤ a ∧ a ≤ x1 ∧ x2 ≤ b ∧ x3 < b))), Calls Tryd.prog 49 #[.int .i64 n, .agg #[.int .i64 k, .int .i64 a, .int .i64 b]] w fun e w' => e = .panicked [{ v := noCl k a b, recovered := false }] ∧ Below w.heap.size w w' := by
      intro H
      go_enter Tryd.func49, Tryd.ntmps49
      go_wp2_with fail
      refine (C.out _).mono ?_
      rintro e w1 ⟨rfl, hb⟩
      have XB := Lib.hid ((Blk.new w #[.int .i64 k, .int .i64 a, .int .i64 b] 44).below hb (by simp))
      have HB := Lib.hid (Below.trans (by (repeat (first | exact Below.refl _ _ | (refine Below.alloc ?_ (by first | omega | (simp; try omega)) _) | apply Below.drew | apply below_drewN))) (hb.mono (by simp; try omega)) : Below w.heap.size w w1)
      have c0 := XB.out.cell 0
      have c1 := XB.out.cell 1
      have c2 := XB.out.cell 2
      have cl := XB.out.lt
      simp only [List.getElem?_toArray, List.getElem?_cons_zero, List.getElem?_cons_succ] at c0 c1 c2
      clear hb C XB
      rcases H.out with h1 | ⟨h1, h2⟩ | ⟨h1, h2, h3⟩ | ⟨h1, h2, h3, h4⟩
      all_goals
        clear H
        go_wp2
        refine ⟨rfl, rfl, ?_⟩
        have HS := HB.out.size
        repeat (first | exact HB.out | (refine Below.setCell ?_ (by simp; try omega) _) | (refine Below.alloc ?_ (by first | omega | (simp; try omega)) _))
    exact walk (Lib.hid H)
  · have C := Lib.hid (fun wx => boundsOf_no n k a b wx (by omega))
    clear h hk
    go_enter Tryd.func49, Tryd.ntmps49
    go_wp2_with fail
    refine (C.out _).mono ?_
    rintro e w1 ⟨rfl, hb⟩
    have HB := Lib.hid (Below.trans (by (repeat (first | exact Below.refl _ _ | (refine Below.alloc ?_ (by first | omega | (simp; try omega)) _) | apply Below.drew | apply below_drewN))) (hb.mono (by simp; try omega)) : Below w.heap.size w w1)
    clear hb
    exact ⟨rfl, rfl, HB.out⟩
end Go.Proofs.YtcpipacombnhdaaDoor
