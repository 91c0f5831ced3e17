/- Which isles there are: impl's and spec's words for it. -/
import Derived.Test.YtcpipacombnhdaaIb
namespace Go.Proofs.Ytcpipacombnhdaa
set_option linter.unusedVariables false
open Go.RowKit

theorem isBr_cases (n x y z : Int) : (x < 0 ∧ isBr n (x, y, z) = false) ∨ (0 ≤ x ∧ y ≤ x ∧ isBr n (x, y, z) = false) ∨ (0 ≤ x ∧ x < y ∧ n ≤ y ∧ isBr n (x, y, z) = false) ∨
    (0 ≤ x ∧ x < y ∧ y < n ∧ z < 0 ∧ isBr n (x, y, z) = false) ∨ (0 ≤ x ∧ x < y ∧ y < n ∧ 0 ≤ z ∧ 1000 < z ∧ isBr n (x, y, z) = false) ∨ (0 ≤ x ∧ x < y ∧ y < n ∧ 0 ≤ z ∧ z ≤ 1000 ∧ isBr n (x, y, z) = true) := by
  have h : isBr n (x, y, z) = decide (0 ≤ x ∧ x < y ∧ y < n ∧ 0 ≤ z ∧ z ≤ 1000) := by
    rw [Bool.eq_iff_iff, isBr_iff]; simp
  rw [h]
  simp only [decide_eq_true_eq, decide_eq_false_iff_not]
  omega
set_option maxHeartbeats 1000000 in
theorem implIsBr (n : Int) (a : Option Addr) (l c : Nat) (x y z : Int) (w : World) :
    Calls Try.prog 38 #[.agg #[.int .i64 n, .slice a l c], .agg #[.int .i64 x, .int .i64 y, .int .i64 z]] w fun e w' => e = .returned (.bool (isBr n (x, y, z))) ∧ Below w.heap.size w w' := by
  rcases isBr_cases n x y z with ⟨h1, h⟩ | ⟨h1, h2, h⟩ | ⟨h1, h2, h3, h⟩ | ⟨h1, h2, h3, h4, h⟩ | ⟨h1, h2, h3, h4, h5, h⟩ | ⟨h1, h2, h3, h4, h5, h⟩
  all_goals
    have R := Lib.hid h
    generalize isBr n (x, y, z) = r at *
    clear h
    go_enter Try.func38, Try.ntmps38
    go_wp2
    go_ret
    refine ⟨ret_bool (by rw [R.out]; first | done | rfl | (simp; omega)), ?_⟩
    (repeat (first | exact Below.refl _ _ | (refine Below.alloc ?_ (by first | omega | (simp; try omega)) _) | apply Below.drew | apply below_drewN))
set_option maxHeartbeats 1000000 in
theorem specIsBr (n : Int) (hn : 1 ≤ n ∧ n ≤ 1000) (x y z : Int) (w : World) :
    Calls Try.prog 43 #[.int .i64 n, .agg #[.int .i64 x, .int .i64 y, .int .i64 z]] w fun e w' => e = .returned (.bool (isBr n (x, y, z))) ∧ Below w.heap.size w w' := by
  have h : isBr n (x, y, z) = (inB x 0 (n - 1) && inB y 0 (n - 1) && decide (x < y) && inB z 0 1000) := by
    rw [Bool.eq_iff_iff, isBr_iff]; simp [inB]; omega
  have R := Lib.hid h
  generalize isBr n (x, y, z) = r at *
  clear h
  have HX := Lib.hid (fun wx => l1In x 0 (n - 1) wx)
  have HY := Lib.hid (fun wx => l1In y 0 (n - 1) wx)
  have HZ := Lib.hid (fun wx => l1In z 0 1000 wx)
  generalize inB x 0 (n - 1) = p at *
  generalize inB y 0 (n - 1) = q at *
  generalize inB z 0 1000 = s at *
  by_cases hxy : x < y
  all_goals
    cases p <;> cases q <;>
    · go_enter Try.func43, Try.ntmps43
      go_wp2_with (first
        | (go_at_call 42; (with_reducible refine (HX.out _).mono ?_); rintro e w' ⟨rfl, rfl⟩)
        | (go_at_call 42; (with_reducible refine (HY.out _).mono ?_); rintro e w' ⟨rfl, rfl⟩)
        | (go_at_call 42; (with_reducible refine (HZ.out _).mono ?_); rintro e w' ⟨rfl, rfl⟩))
      go_ret
      refine ⟨ret_bool (by rw [R.out]; first | (rw [decide_eq_true (show x < y by omega)]; simp) | (rw [decide_eq_false (show ¬ x < y by omega)]; simp)), ?_⟩
      (repeat (first | exact Below.refl _ _ | (refine Below.alloc ?_ (by first | omega | (simp; try omega)) _) | apply Below.drew | apply below_drewN))

theorem areIs_far {n : Int} {bs : List Br} (h : n < 1 ∨ 7 < n ∨ 14 < bs.length) : areIs n bs = false := by
  cases hc : areIs n bs
  · rfl
  · have := areIs_iff.1 hc; omega
theorem areIs_bad {n : Int} {bs : List Br} {k : Nat} (hk : k < bs.length) (h : isBr n (gb bs k) = false) : areIs n bs = false := by
  cases hc : areIs n bs
  · rfl
  · have := (areIs_iff.1 hc).2.2.2 _ (gb_mem hk)
    rw [h] at this; cases this
theorem areIs_good {n : Int} {bs : List Br} (h1 : 1 ≤ n) (h2 : n ≤ 7) (h3 : bs.length ≤ 14) (h : ∀ j, j < bs.length → isBr n (gb bs j) = true) : areIs n bs = true :=
  areIs_iff.2 ⟨h1, h2, h3, fun b hb => by obtain ⟨j, hj, rfl⟩ := mem_gb hb; exact h j hj⟩
theorem stepI {n : Int} {bs : List Br} {k : Nat} (h : ∀ j, j < k → isBr n (gb bs j) = true) (h2 : isBr n (gb bs k) = true) : ∀ j, j < k + 1 → isBr n (gb bs j) = true := by
  intro j hj
  by_cases e : j = k
  · subst e; exact h2
  · exact h j (by omega)
/-- a box that stands below what turns -/
theorem box_in {w wr : World} {s : Nat} {cs : Array Value} (h : Blk w s cs) (hb : Below (s + 1) w wr) : Blk wr s cs := h.below hb (by omega)

set_option maxHeartbeats 2000000 in
theorem implAreIs (n : Int) (v : Value) (bs : List Br) (w : World) (h : RdB w v bs) (hl : bs.length ≤ 1048576) :
    Calls Try.prog 27 #[.agg #[.int .i64 n, v]] w fun e w' => e = .returned (.bool (areIs n bs)) ∧ Below w.heap.size w w' := by
  obtain ⟨a, m, c, rfl, hnz, _, _, hcell⟩ := h
  rw [← hnz] at hl
  have HN := Lib.hid hnz
  have HC := Lib.hid hcell
  clear hcell hnz
  by_cases h0 : n < 1 ∨ 7 < n ∨ 14 < m
  · have R := Lib.hid (areIs_far (n := n) (bs := bs) (by have := HN.out; omega))
    by_cases h1 : n < 1
    · go_enter Try.func27, Try.ntmps27
      go_wp2
      go_ret
      refine ⟨ret_bool R.out.symm, ?_⟩
      (repeat (first | exact Below.refl _ _ | (refine Below.alloc ?_ (by first | omega | (simp; try omega)) _) | apply Below.drew | apply below_drewN))
    by_cases h2 : 7 < n
    · go_enter Try.func27, Try.ntmps27
      go_wp2
      go_ret
      refine ⟨ret_bool R.out.symm, ?_⟩
      (repeat (first | exact Below.refl _ _ | (refine Below.alloc ?_ (by first | omega | (simp; try omega)) _) | apply Below.drew | apply below_drewN))
    · have h3 : (14 : Int) < m := by omega
      clear h0
      go_enter Try.func27, Try.ntmps27
      go_wp2
      go_ret
      refine ⟨ret_bool R.out.symm, ?_⟩
      (repeat (first | exact Below.refl _ _ | (refine Below.alloc ?_ (by first | omega | (simp; try omega)) _) | apply Below.drew | apply below_drewN))
  · have h1 : ¬ n < 1 := by omega
    have h2 : ¬ 7 < n := by omega
    have h3 : ¬ (14 : Int) < m := by omega
    clear h0
    have hX := Lib.hid (Blk.new w #[.int .i64 n, .slice a m c] 24)
    have hB0 := Lib.hid ((Below.refl w.heap.size w).alloc (Nat.le_refl _) (.cells #[.int .i64 n, .slice a m c] 24))
    have hz : (w.alloc (.cells #[.int .i64 n, .slice a m c] 24)).heap.size = w.heap.size + 1 := by simp
    go_enter Try.func27, Try.ntmps27
    go_wp2
    generalize w.alloc (.cells #[.int .i64 n, .slice a m c] 24) = w0 at *
    have HZ := Lib.hid hz
    clear hz
    go_loopw [22] (fun i wr => ∃ k : Nat, k ≤ m ∧ i = .int .i64 k ∧ Hid (∀ j, j < k → isBr n (gb bs j) = true) ∧ Below w0.heap.size w0 wr) (fun i _ => m - (intOf i).toNat)
    case atStart => exact ⟨0, Nat.zero_le _, rfl, Lib.hid fun j h => absurd h (Nat.not_lt_zero _), Below.refl _ _⟩
    case round =>
      obtain ⟨k, hk, rfl, HA, hbel⟩ := hrel
      have HB := Lib.hid (hB0.out.trans (hbel.mono (by have := HZ.out; omega)))
      have X := hX.out.below hbel (by have := HZ.out; omega)
      have x0 := X.cell 0
      have x1 := X.cell 1
      simp only [List.getElem?_toArray, List.getElem?_cons_zero, List.getElem?_cons_succ] at x0 x1
      have hsw : w.heap.size < wr.heap.size := X.lt
      have hsz : w0.heap.size ≤ wr.heap.size := hbel.size
      have HL := Lib.hid hbel
      clear X hbel
      by_cases hlt : k < m
      · obtain ⟨b, off, rfl, hbw, hc⟩ := HC.out k hlt
        have hA := (hc.below hbw hB0.out).below (B := w0.heap.size) (by have := HZ.out; omega) HL.out
        obtain ⟨c0, c1, c2⟩ := hA
        have hlt' : (k : Int) < m := by omega
        have B1 := Lib.hid (fun g => areIs_bad (n := n) (bs := bs) (k := k) (by have := HN.out; omega) g)
        have B2 := Lib.hid (fun g => stepI HA.out g)
        generalize gb bs k = q at *
        obtain ⟨x, y, z⟩ := q
        clear hc
        go_wp2_with fail
        refine (implIsBr _ _ _ _ _ _ _ _).mono ?_
        rintro e w1 ⟨rfl, hb1⟩
        have HB1 := Lib.hid (HL.out.trans (Below.trans (by (repeat (first | exact Below.refl _ _ | (refine Below.alloc ?_ (by first | omega | (simp; try omega)) _) | apply Below.drew | apply below_drewN))) (hb1.mono (by simp; have := HL.out.size; omega))))
        clear hb1
        cases hb : isBr n (x, y, z)
        · have R := Lib.hid (B1.out hb)
          have G := Lib.hid hb
          clear hb B1 B2
          go_wp2
          go_ret
          exact ⟨ret_bool R.out.symm, hB0.out.trans (HB1.out.mono (by have := HZ.out; omega))⟩
        · have R := Lib.hid (B2.out hb)
          have G := Lib.hid hb
          clear hb B1 B2
          go_wp2
          go_roundw
          case rel => exact ⟨k + 1, by omega, by go_num, R, HB1.out⟩
          case measure => (simp [intOf]; try omega)
      · obtain rfl : k = m := by omega
        have R := Lib.hid (areIs_good (n := n) (bs := bs) (by omega) (by omega) (by have := HN.out; omega) (fun j hj => HA.out j (by have := HN.out; omega)))
        go_wp2
        go_ret
        exact ⟨ret_bool R.out.symm, HB.out⟩
set_option maxHeartbeats 2000000 in
theorem isGood (n : Int) (v : Value) (bs : List Br) (w : World) (h : RdB w v bs) (hl : bs.length ≤ 1048576) :
    Calls Try.prog 35 #[.agg #[.int .i64 n, v]] w fun e w' => e = .returned (.bool (areIs n bs)) ∧ Below w.heap.size w w' := by
  obtain ⟨a, m, c, rfl, hnz, _, _, hcell⟩ := h
  rw [← hnz] at hl
  have HN := Lib.hid hnz
  have HC := Lib.hid hcell
  clear hcell hnz
  by_cases h0 : n < 1 ∨ 7 < n ∨ 14 < m
  · have R := Lib.hid (areIs_far (n := n) (bs := bs) (by have := HN.out; omega))
    cases hi : inB n 1 7
    · have G := Lib.hid hi
      clear hi h0
      go_enter Try.func35, Try.ntmps35
      go_wp2_with (go_at_call 42; refine (l1In _ _ _ _).mono ?_; rintro e w' ⟨rfl, rfl⟩; rw [G.out])
      go_ret
      refine ⟨ret_bool R.out.symm, ?_⟩
      (repeat (first | exact Below.refl _ _ | (refine Below.alloc ?_ (by first | omega | (simp; try omega)) _) | apply Below.drew | apply below_drewN))
    · have G := Lib.hid hi
      have h3 : (14 : Int) < m := by simp [inB] at hi; omega
      clear hi h0
      go_enter Try.func35, Try.ntmps35
      go_wp2_with (go_at_call 42; refine (l1In _ _ _ _).mono ?_; rintro e w' ⟨rfl, rfl⟩; rw [G.out])
      go_ret
      refine ⟨ret_bool R.out.symm, ?_⟩
      (repeat (first | exact Below.refl _ _ | (refine Below.alloc ?_ (by first | omega | (simp; try omega)) _) | apply Below.drew | apply below_drewN))
  · have h1 : ¬ n < 1 := by omega
    have h2 : ¬ 7 < n := by omega
    have h3 : ¬ (14 : Int) < m := by omega
    clear h0
    have hX := Lib.hid (Blk.new w #[.int .i64 n, .slice a m c] 24)
    have hB0 := Lib.hid ((Below.refl w.heap.size w).alloc (Nat.le_refl _) (.cells #[.int .i64 n, .slice a m c] 24))
    have hz : (w.alloc (.cells #[.int .i64 n, .slice a m c] 24)).heap.size = w.heap.size + 1 := by simp
    have G := Lib.hid (inB_yes (n := n) (lo := 1) (hi := 7) (by omega) (by omega))
    go_enter Try.func35, Try.ntmps35
    go_wp2_with (go_at_call 42; refine (l1In _ _ _ _).mono ?_; rintro e w' ⟨rfl, rfl⟩; rw [G.out])
    generalize w.alloc (.cells #[.int .i64 n, .slice a m c] 24) = w0 at *
    have HZ := Lib.hid hz
    clear hz
    go_loopw [18] (fun i wr => ∃ k : Nat, k ≤ m ∧ i = .int .i64 k ∧ Hid (∀ j, j < k → isBr n (gb bs j) = true) ∧ Below w0.heap.size w0 wr) (fun i _ => m - (intOf i).toNat)
    case atStart => exact ⟨0, Nat.zero_le _, rfl, Lib.hid fun j h => absurd h (Nat.not_lt_zero _), Below.refl _ _⟩
    case round =>
      obtain ⟨k, hk, rfl, HA, hbel⟩ := hrel
      have HB := Lib.hid (hB0.out.trans (hbel.mono (by have := HZ.out; omega)))
      have X := hX.out.below hbel (by have := HZ.out; omega)
      have x0 := X.cell 0
      have x1 := X.cell 1
      simp only [List.getElem?_toArray, List.getElem?_cons_zero, List.getElem?_cons_succ] at x0 x1
      have hsw : w.heap.size < wr.heap.size := X.lt
      have hsz : w0.heap.size ≤ wr.heap.size := hbel.size
      have HL := Lib.hid hbel
      clear X hbel
      by_cases hlt : k < m
      · obtain ⟨b, off, rfl, hbw, hc⟩ := HC.out k hlt
        have hA := (hc.below hbw hB0.out).below (B := w0.heap.size) (by have := HZ.out; omega) HL.out
        obtain ⟨c0, c1, c2⟩ := hA
        have hlt' : (k : Int) < m := by omega
        have B1 := Lib.hid (fun g => areIs_bad (n := n) (bs := bs) (k := k) (by have := HN.out; omega) g)
        have B2 := Lib.hid (fun g => stepI HA.out g)
        generalize gb bs k = q at *
        obtain ⟨x, y, z⟩ := q
        clear hc
        go_wp2_with fail
        refine (specIsBr n (by omega) _ _ _ _).mono ?_
        rintro e w1 ⟨rfl, hb1⟩
        have HB1 := Lib.hid (HL.out.trans (Below.trans (by (repeat (first | exact Below.refl _ _ | (refine Below.alloc ?_ (by first | omega | (simp; try omega)) _) | apply Below.drew | apply below_drewN))) (hb1.mono (by simp; have := HL.out.size; omega))))
        clear hb1
        cases hb : isBr n (x, y, z)
        · have R := Lib.hid (B1.out hb)
          have G := Lib.hid hb
          clear hb B1 B2
          go_wp2
          go_ret
          exact ⟨ret_bool R.out.symm, hB0.out.trans (HB1.out.mono (by have := HZ.out; omega))⟩
        · have R := Lib.hid (B2.out hb)
          have G := Lib.hid hb
          clear hb B1 B2
          go_wp2
          go_roundw
          case rel => exact ⟨k + 1, by omega, by go_num, R, HB1.out⟩
          case measure => (simp [intOf]; try omega)
      · obtain rfl : k = m := by omega
        have R := Lib.hid (areIs_good (n := n) (bs := bs) (by omega) (by omega) (by have := HN.out; omega) (fun j hj => HA.out j (by have := HN.out; omega)))
        go_wp2
        go_ret
        exact ⟨ret_bool R.out.symm, HB.out⟩

end Go.Proofs.Ytcpipacombnhdaa
