/- What is asked (siAsked, isStrongWithLeap, siShort, isGroup, siGroup), MostWhoCross, NarrowestPart, both sides. -/
import Derived.Test.YtihdhgkknfohaabSn
namespace Go.Proofs.Ytihdhgkknfohaab
set_option linter.unusedVariables false
open Go.RowKit

def stA (s : ByteArray) (L : Int) : Bool := isSt s && inB L 1 21
theorem stA_no1 {s : ByteArray} {L : Int} (h : isSt s = false) : stA s L = false := by simp [stA, h]
theorem stA_no2 {s : ByteArray} {L : Int} (h : L < 1 ∨ 21 < L) : stA s L = false := by simp [stA, inB_no h]
theorem stA_yes {s : ByteArray} {L : Int} (h : isSt s = true) (h1 : 1 ≤ L) (h2 : L ≤ 21) : stA s L = true := by simp [stA, h, inB_yes h1 h2]
theorem stA_in {s : ByteArray} {L : Int} (h : stA s L = true) : isSt s = true ∧ 1 ≤ L ∧ L ≤ 21 := by
  simp only [stA, inB, Bool.and_eq_true, decide_eq_true_eq] at h; exact h
def shA (s : ByteArray) (L : Int) : Bool := stA s L && decide (L ≤ (s.size : Int))
theorem shA_in {s : ByteArray} {L : Int} (h : shA s L = true) : isSt s = true ∧ 1 ≤ L ∧ L ≤ 21 ∧ L ≤ s.size := by
  simp only [shA, Bool.and_eq_true, decide_eq_true_eq] at h
  have := stA_in h.1
  exact ⟨this.1, this.2.1, this.2.2, h.2⟩
theorem siAsked (s : ByteArray) (L : Int) (w : World) (hs : s.size ≤ 1048576) :
    Calls Try.prog 34 #[.string s, .int .i64 L] w fun e w' => e = .returned (.bool (stA s L)) ∧ w = w' := by
  cases h : isSt s
  · have J := Lib.hid (stA_no1 (L := L) h)
    have G := Lib.hid h
    clear h
    go_enter Try.func34, Try.ntmps34
    go_wp2_with (go_at_call 39; refine (siGood _ _ (by unfold maxLen; omega)).mono ?_; rintro e w' ⟨rfl, rfl⟩; rw [G.out])
    go_ret
    exact ⟨ret_bool J.out.symm, rfl⟩
  · have J := Lib.hid (show stA s L = inB L 1 21 by simp [stA, h])
    have G := Lib.hid h
    clear h
    go_enter Try.func34, Try.ntmps34
    go_wp2_with (first
      | (go_at_call 39; refine (siGood _ _ (by unfold maxLen; omega)).mono ?_; rintro e w' ⟨rfl, rfl⟩; rw [G.out])
      | (go_at_call 51; refine (l1In _ _ _ _).mono ?_; rintro e w' ⟨rfl, rfl⟩))
    go_ret
    exact ⟨ret_bool J.out.symm, rfl⟩
theorem isStrongWithLeap (s : ByteArray) (L : Int) (w : World) (hs : s.size ≤ 1048576) :
    Calls Try.prog 29 #[.string s, .int .i64 L] w fun e w' => e = .returned (.bool (stA s L)) ∧ w = w' := by
  cases h : isSt s
  · have J := Lib.hid (stA_no1 (L := L) h)
    have G := Lib.hid h
    clear h
    go_enter Try.func29, Try.ntmps29
    go_wp2_with (go_at_call 40; refine (implIsStrong _ _ (by unfold maxLen; omega)).mono ?_; rintro e w' ⟨rfl, rfl⟩; rw [G.out])
    go_ret
    exact ⟨ret_bool J.out.symm, rfl⟩
  have G := Lib.hid h
  by_cases h1 : L < 1
  · have J := Lib.hid (stA_no2 (s := s) (.inl h1))
    clear h
    go_enter Try.func29, Try.ntmps29
    go_wp2_with (go_at_call 40; refine (implIsStrong _ _ (by unfold maxLen; omega)).mono ?_; rintro e w' ⟨rfl, rfl⟩; rw [G.out])
    go_ret
    exact ⟨ret_bool J.out.symm, rfl⟩
  by_cases h2 : 21 < L
  · have J := Lib.hid (stA_no2 (s := s) (.inr h2))
    clear h
    go_enter Try.func29, Try.ntmps29
    go_wp2_with (go_at_call 40; refine (implIsStrong _ _ (by unfold maxLen; omega)).mono ?_; rintro e w' ⟨rfl, rfl⟩; rw [G.out])
    go_ret
    exact ⟨ret_bool (by first | (rw [J.out]; done) | (rw [J.out]; simp; done) | (rw [J.out]; simp; omega)), rfl⟩
  · have J := Lib.hid (stA_yes h (by omega : 1 ≤ L) (by omega))
    clear h
    go_enter Try.func29, Try.ntmps29
    go_wp2_with (go_at_call 40; refine (implIsStrong _ _ (by unfold maxLen; omega)).mono ?_; rintro e w' ⟨rfl, rfl⟩; rw [G.out])
    go_ret
    exact ⟨ret_bool (by first | (rw [J.out]; done) | (rw [J.out]; simp; done) | (rw [J.out]; simp; omega)), rfl⟩
theorem siShort (s : ByteArray) (L : Int) (w : World) (hs : s.size ≤ 1048576) :
    Calls Try.prog 27 #[.string s, .int .i64 L] w fun e w' => e = .returned (.bool (shA s L)) ∧ w = w' := by
  cases h : stA s L
  · have J := Lib.hid (show shA s L = false by simp [shA, h])
    have G := Lib.hid h
    clear h
    go_enter Try.func27, Try.ntmps27
    go_wp2_with (go_at_call 34; refine (siAsked _ _ _ hs).mono ?_; rintro e w' ⟨rfl, rfl⟩; rw [G.out])
    go_ret
    exact ⟨ret_bool J.out.symm, rfl⟩
  · have J := Lib.hid (show shA s L = decide (L ≤ (s.size : Int)) by simp [shA, h])
    have G := Lib.hid h
    clear h
    go_enter Try.func27, Try.ntmps27
    go_wp2_with (go_at_call 34; refine (siAsked _ _ _ hs).mono ?_; rintro e w' ⟨rfl, rfl⟩; rw [G.out])
    go_ret
    exact ⟨ret_bool J.out.symm, rfl⟩
theorem siGroup (g : Int) (w : World) :
    Calls Try.prog 35 #[.int .i64 g] w fun e w' => e = .returned (.bool (inB g 1 100)) ∧ w = w' := by
  go_enter Try.func35, Try.ntmps35
  go_wp2_with (go_at_call 51; refine (l1In _ _ _ _).mono ?_; rintro e w' ⟨rfl, rfl⟩)
  go_ret
  exact ⟨rfl, rfl⟩
theorem isGroup (g : Int) (w : World) :
    Calls Try.prog 37 #[.int .i64 g] w fun e w' => e = .returned (.bool (inB g 1 100)) ∧ w = w' := by
  by_cases h1 : g < 1
  · go_enter Try.func37, Try.ntmps37
    go_wp2
    go_ret
    exact ⟨ret_bool (by simp [inB]; omega), rfl⟩
  · by_cases h2 : 100 < g
    · go_enter Try.func37, Try.ntmps37
      go_wp2
      go_ret
      exact ⟨ret_bool (by simp [inB]; omega), rfl⟩
    · go_enter Try.func37, Try.ntmps37
      go_wp2
      go_ret
      exact ⟨ret_bool (by simp [inB]; omega), rfl⟩
def mostV (s : ByteArray) (L : Int) : Value := if shA s L then .tuple #[.int .i64 (nar s L.toNat).1, .bool true] else .tuple #[.int .i64 0, .bool false]
def narV (s : ByteArray) (L : Int) : Value := if shA s L then .tuple #[.int .i64 (nar s L.toNat).1, .int .i64 ((nar s L.toNat).2 : Int), .bool true] else .tuple #[.int .i64 0, .int .i64 0, .bool false]
theorem mostV_form (s : ByteArray) (L : Int) : ∃ x z, mostV s L = .tuple #[.int .i64 x, .bool z] := by unfold mostV; split <;> exact ⟨_, _, rfl⟩
theorem narV_form (s : ByteArray) (L : Int) : ∃ x y z, narV s L = .tuple #[.int .i64 x, .int .i64 y, .bool z] := by unfold narV; split <;> exact ⟨_, _, _, rfl⟩
theorem mostV_no {s : ByteArray} {L : Int} (h : shA s L = false) : mostV s L = .tuple #[.int .i64 0, .bool false] := by simp [mostV, h]
theorem narV_no {s : ByteArray} {L : Int} (h : shA s L = false) : narV s L = .tuple #[.int .i64 0, .int .i64 0, .bool false] := by simp [narV, h]
theorem mostV_yes {s : ByteArray} {l : Nat} (h : shA s (l : Int) = true) : mostV s (l : Int) = .tuple #[.int .i64 (nar s l).1, .bool true] := by simp [mostV, h]
theorem narV_yes {s : ByteArray} {l : Nat} (h : shA s (l : Int) = true) : narV s (l : Int) = .tuple #[.int .i64 (nar s l).1, .int .i64 ((nar s l).2 : Int), .bool true] := by simp [narV, h]
theorem specMost (s : ByteArray) (L : Int) (w : World) (hs : s.size ≤ 1048576) :
    Calls Try.prog 10 #[.string s, .int .i64 L] w fun e w' => e = .returned (mostV s L) ∧ Below w.heap.size w w' := by
  cases h : shA s L
  · have J := Lib.hid (mostV_no h)
    have G := Lib.hid h
    clear h
    go_enter Try.func10, Try.ntmps10
    go_wp2_with (go_at_call 27; refine (siShort _ _ _ hs).mono ?_; rintro e w' ⟨rfl, rfl⟩; rw [G.out])
    go_ret2
    exact ⟨ret_v J.out.symm, Below.refl _ _⟩
  · obtain ⟨h1, h2, h3, h4⟩ := shA_in h
    obtain ⟨z1, z2, hd⟩ := isSt_in h1
    obtain ⟨l, rfl⟩ : ∃ l : Nat, L = (l : Int) := ⟨L.toNat, by omega⟩
    have J := Lib.hid (mostV_yes h)
    have C := Lib.hid (fun wx => siNarrow s l wx hd z2 (by omega) (by omega))
    have G := Lib.hid h
    clear h h1 hd
    go_enter Try.func10, Try.ntmps10
    go_wp2_with (first
      | (go_at_call 27; refine (siShort _ _ _ hs).mono ?_; rintro e w' ⟨rfl, rfl⟩; rw [G.out])
      | (go_at_call 28; refine (C.out _).mono ?_; rintro e w' ⟨rfl, rfl⟩))
    go_ret2
    exact ⟨ret_v J.out.symm, Below.refl _ _⟩
theorem specNar (s : ByteArray) (L : Int) (w : World) (hs : s.size ≤ 1048576) :
    Calls Try.prog 12 #[.string s, .int .i64 L] w fun e w' => e = .returned (narV s L) ∧ Below w.heap.size w w' := by
  cases h : shA s L
  · have J := Lib.hid (narV_no h)
    have G := Lib.hid h
    clear h
    go_enter Try.func12, Try.ntmps12
    go_wp2_with (go_at_call 27; refine (siShort _ _ _ hs).mono ?_; rintro e w' ⟨rfl, rfl⟩; rw [G.out])
    go_ret3
    exact ⟨ret_v J.out.symm, Below.refl _ _⟩
  · obtain ⟨h1, h2, h3, h4⟩ := shA_in h
    obtain ⟨z1, z2, hd⟩ := isSt_in h1
    obtain ⟨l, rfl⟩ : ∃ l : Nat, L = (l : Int) := ⟨L.toNat, by omega⟩
    have J := Lib.hid (narV_yes h)
    have C := Lib.hid (fun wx => siNarrow s l wx hd z2 (by omega) (by omega))
    have G := Lib.hid h
    clear h h1 hd
    go_enter Try.func12, Try.ntmps12
    go_wp2_with (first
      | (go_at_call 27; refine (siShort _ _ _ hs).mono ?_; rintro e w' ⟨rfl, rfl⟩; rw [G.out])
      | (go_at_call 28; refine (C.out _).mono ?_; rintro e w' ⟨rfl, rfl⟩))
    go_ret3
    exact ⟨ret_v J.out.symm, Below.refl _ _⟩
theorem two0 {W : World} {b : Nat} {q1 q2 : Value} (X : Box2 W b q1 q2) : W.cell? ⟨b, 0, none⟩ = some q1 ∧ W.cell? ⟨b, 1, none⟩ = some q2 := ⟨X.cell0, X.cell1⟩
set_option maxHeartbeats 1000000 in
theorem implNar (s : ByteArray) (L : Int) (w : World) (hs : s.size ≤ 1048576) :
    Calls Try.prog 13 #[.string s, .int .i64 L] w fun e w' => e = .returned (narV s L) ∧ Below w.heap.size w w' := by
  cases h : stA s L
  · have J := Lib.hid (narV_no (s := s) (L := L) (by simp [shA, h]))
    have G := Lib.hid h
    clear h
    go_enter Try.func13, Try.ntmps13
    go_wp2_with (go_at_call 29; refine (isStrongWithLeap _ _ _ hs).mono ?_; rintro e w' ⟨rfl, rfl⟩; rw [G.out])
    go_ret3
    exact ⟨ret_v J.out.symm, Below.refl _ _⟩
  · obtain ⟨h1, h2, h3⟩ := stA_in h
    obtain ⟨z1, z2, hd⟩ := isSt_in h1
    obtain ⟨l, rfl⟩ : ∃ l : Nat, L = (l : Int) := ⟨L.toNat, by omega⟩
    have G := Lib.hid h
    have C := fun wx => narrowest s l wx hd z2 (by omega) (by omega)
    unfold rp at C
    by_cases hl : l ≤ s.size
    · have hn := nar_in hd hl
      have J := Lib.hid (narV_yes (s := s) (l := l) (by simp [shA, h]; omega))
      generalize nar s l = b at *
      obtain ⟨x, y⟩ := b
      simp only at hn
      have e : nI (x, y) = x := by unfold nI; rw [if_neg]; simp only; omega
      rw [e] at C
      have hy : (y : Int) ≠ 0 := by omega
      have HC := Lib.hid C
      clear h h1 hd C e
      go_enter Try.func13, Try.ntmps13
      go_wp2_with (first
        | (go_at_call 29; refine (isStrongWithLeap _ _ _ hs).mono ?_; rintro e w' ⟨rfl, rfl⟩; rw [G.out])
        | (go_at_call 30; refine (HC.out _).mono ?_; rintro e w2 ⟨rfl, hb2⟩))
      have HB := Lib.hid hb2
      have hs2 := hb2.size
      clear hb2
      go_region_held3 (fun w' => w'.cell? ⟨w2.heap.size, 0, none⟩ = some (.int .i64 x) ∧ w'.cell? ⟨w2.heap.size, 1, none⟩ = some (.int .i64 (y : Int))) (exact two0 (by repeat (first | exact Box2.new _ _ _ _ | apply Box2.drew | apply Box2.alloc))) (first
        | (go_at_call 33; refine (isNone_no _ _ _ hy).mono ?_; rintro e w' ⟨rfl, rfl⟩)
        | (go_at_call 32; refine (partFirst _ _ _).mono ?_; rintro e w' ⟨rfl, rfl⟩)
        | (go_at_call 31; refine (partSumX _ _ _).mono ?_; rintro e w' ⟨rfl, rfl⟩))
      go_wp2_with fail
      go_ret3
      refine ⟨ret_v J.out.symm, HB.out.trans ?_⟩
      refine Below.mono (B := w2.heap.size) ?_ hs2
      (repeat (first | exact Below.refl _ _ | (refine Below.alloc ?_ (by first | omega | (simp; try omega)) _) | apply Below.drew | apply below_drewN))
    · have J := Lib.hid (narV_no (s := s) (L := (l : Int)) (by simp [shA]; omega))
      rw [nar_off (by omega)] at C
      have e : nI ((-1 : Int), 0) = 0 := rfl
      rw [e] at C
      have HC := Lib.hid C
      clear h h1 hd C e
      go_enter Try.func13, Try.ntmps13
      go_wp2_with (first
        | (go_at_call 29; refine (isStrongWithLeap _ _ _ hs).mono ?_; rintro e w' ⟨rfl, rfl⟩; rw [G.out])
        | (go_at_call 30; refine (HC.out _).mono ?_; rintro e w2 ⟨rfl, hb2⟩))
      have HB := Lib.hid hb2
      have hs2 := hb2.size
      clear hb2
      go_region_held3 (fun w' => w'.cell? ⟨w2.heap.size, 0, none⟩ = some (.int .i64 0) ∧ w'.cell? ⟨w2.heap.size, 1, none⟩ = some (.int .i64 0)) (exact two0 (by repeat (first | exact Box2.new _ _ _ _ | apply Box2.drew | apply Box2.alloc))) (first
        | (go_at_call 33; refine (isNone_yes _).mono ?_; rintro e w' ⟨rfl, rfl⟩)
        | (go_at_call 32; refine (partFirst _ _ _).mono ?_; rintro e w' ⟨rfl, rfl⟩)
        | (go_at_call 31; refine (partSumX _ _ _).mono ?_; rintro e w' ⟨rfl, rfl⟩))
      go_wp2_with fail
      go_ret3
      refine ⟨ret_v J.out.symm, HB.out.trans ?_⟩
      refine Below.mono (B := w2.heap.size) ?_ hs2
      (repeat (first | exact Below.refl _ _ | (refine Below.alloc ?_ (by first | omega | (simp; try omega)) _) | apply Below.drew | apply below_drewN))
theorem mostV_nar {s : ByteArray} {L : Int} {x y : Int} {z : Bool} (h : narV s L = .tuple #[.int .i64 x, .int .i64 y, .bool z]) : mostV s L = .tuple #[.int .i64 x, .bool z] := by
  unfold narV at h; unfold mostV
  split at h <;> (injection h with h; simp at h; obtain ⟨rfl, _, rfl⟩ := h; simp_all)
theorem implMost (s : ByteArray) (L : Int) (w : World) (hs : s.size ≤ 1048576) :
    Calls Try.prog 11 #[.string s, .int .i64 L] w fun e w' => e = .returned (mostV s L) ∧ Below w.heap.size w w' := by
  have C := implNar s L w hs
  obtain ⟨x, y, z, hv⟩ := narV_form s L
  have J := Lib.hid (mostV_nar hv)
  rw [hv] at C
  have HC := Lib.hid C
  clear hv C
  go_enter Try.func11, Try.ntmps11
  go_wp2_with (go_at_call 13; refine HC.out.mono ?_; rintro e w' ⟨rfl, hb⟩)
  go_ret2
  exact ⟨ret_v J.out.symm, hb⟩
end Go.Proofs.Ytihdhgkknfohaab
