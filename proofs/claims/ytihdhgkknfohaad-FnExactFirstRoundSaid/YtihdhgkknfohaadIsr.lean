/- HasRound, both sides. -/

import Derived.Test.YtihdhgkknfohaadIy
import Derived.StillTailTactics
import Derived.BigQuiet
namespace Go.Proofs.Ytihdhgkknfohaad
set_option linter.unusedVariables false
open Go.RowKit

/-- how many of the first k bridges are at an island -/
def degTo (bs : List Br) (i : Nat) : Nat → Nat
  | 0 => 0
  | k + 1 => degTo bs i k + if atB (gb bs k).1 (gb bs k).2.1 i then 1 else 0
theorem degTo_le (bs : List Br) (i : Nat) : ∀ k, degTo bs i k ≤ k
  | 0 => Nat.le_refl _
  | k + 1 => by have := degTo_le bs i k; unfold degTo; split <;> omega
def evenB (m : Nat) (bs : List Br) : Bool := (List.range m).all fun i => decide (degTo bs i bs.length % 2 = 0)
theorem evenB_yes {m : Nat} {bs : List Br} (h : ∀ i, i < m → degTo bs i bs.length % 2 = 0) : evenB m bs = true := by
  unfold evenB; rw [List.all_eq_true]; intro i hi; exact decide_eq_true (h i (List.mem_range.1 hi))
theorem evenB_no {m : Nat} {bs : List Br} {i : Nat} (hi : i < m) (h : degTo bs i bs.length % 2 = 1) : evenB m bs = false := by
  cases hc : evenB m bs
  · rfl
  · unfold evenB at hc
    rw [List.all_eq_true] at hc
    have := of_decide_eq_true (hc i (List.mem_range.2 hi))
    omega
/-- all bridges are in the group of s -/
def allS (m : Nat) (bs : List Br) (s : Nat) : Bool := bs.all fun b => same m bs b.1.toNat s
theorem allS_yes {m : Nat} {bs : List Br} {s : Nat} (h : ∀ j, j < bs.length → same m bs (gb bs j).1.toNat s = true) : allS m bs s = true := by
  unfold allS; rw [List.all_eq_true]; intro b hb; obtain ⟨j, hj, rfl⟩ := mem_gb hb; exact h j hj
theorem allS_no {m : Nat} {bs : List Br} {s j : Nat} (hj : j < bs.length) (h : same m bs (gb bs j).1.toNat s = false) : allS m bs s = false := by
  cases hc : allS m bs s
  · rfl
  · unfold allS at hc
    rw [List.all_eq_true] at hc
    have := hc _ (gb_mem hj)
    rw [h] at this; cases this
def roundV (n : Int) (bs : List Br) : Value := if areIs n bs then .tuple #[.bool (evenB n.toNat bs && allS n.toNat bs (gb bs 0).1.toNat), .bool true] else .tuple #[.bool false, .bool false]
theorem roundV_no {n : Int} {bs : List Br} (h : areIs n bs = false) : roundV n bs = .tuple #[.bool false, .bool false] := by simp [roundV, h]
theorem roundV_yes {m : Nat} {bs : List Br} (h : areIs m bs = true) : roundV m bs = .tuple #[.bool (evenB m bs && allS m bs (gb bs 0).1.toNat), .bool true] := by simp [roundV, h]
theorem roundV_form (n : Int) (bs : List Br) : ∃ x y, roundV n bs = .tuple #[.bool x, .bool y] := by
  unfold roundV; split <;> exact ⟨_, _, rfl⟩

set_option maxHeartbeats 1000000 in
theorem bridgesAt (m : Nat) (v : Value) (bs : List Br) (i : Nat) (w : World) (h : RdB w v bs) (hl : bs.length ≤ 14) :
    Calls Try.prog 37 #[.agg #[.int .i64 m, v], .int .i64 i] w fun e w' => e = .returned (.int .i64 (degTo bs i bs.length)) ∧ Below w.heap.size w w' := by
  obtain ⟨a, l, c, rfl, hnz, _, _, hcell⟩ := h
  rw [← hnz] at hl
  have HN := Lib.hid hnz
  have HC := Lib.hid hcell
  clear hcell hnz
  have hB0 := Lib.hid ((Below.refl w.heap.size w).alloc (Nat.le_refl _) (.cells #[.int .i64 m, .slice a l c] 31))
  go_enter Try.func37, Try.ntmps37
  go_wp2
  go_loopw [5, 11] (fun t q wr => ∃ k : Nat, k ≤ l ∧ q = .int .i64 k ∧ t = .int .i64 (degTo bs i k) ∧ Below w.heap.size w wr) (fun _ q _ => l - (intOf q).toNat)
  case atStart => exact ⟨0, Nat.zero_le _, rfl, rfl, hB0.out⟩
  case round =>
    obtain ⟨k, hk, rfl, rfl, hbel⟩ := hrel
    have hsz := hbel.size
    by_cases hlt : k < l
    · obtain ⟨b, off, rfl, hbw, hc⟩ := HC.out k hlt
      obtain ⟨c0, c1, c2⟩ := hc.below hbw hbel
      have hlt' : (k : Int) < l := by omega
      have hd := degTo_le bs i k
      have D := Lib.hid (show degTo bs i (k + 1) = degTo bs i k + if atB (gb bs k).1 (gb bs k).2.1 i then 1 else 0 from rfl)
      generalize gb bs k = q at *
      obtain ⟨x, y, z⟩ := q
      simp only at D c0 c1 c2
      have HB := Lib.hid hbel
      clear hc hbel
      generalize degTo bs i k = dk at *
      go_wp2_with fail
      refine (isAt x y z i _).mono ?_
      rintro e w1 ⟨rfl, hb1⟩
      have HB1 := Lib.hid (HB.out.trans (Below.trans (by (repeat (first | exact Below.refl _ _ | (refine Below.alloc ?_ (by first | omega | (simp; try omega)) _) | apply Below.drew | apply below_drewN))) (hb1.mono (by simp; omega))) : Below w.heap.size w w1)
      clear hb1 c0 c1 c2
      cases ha : atB x y i
      · have R := Lib.hid (show (degTo bs i (k + 1) : Int) = dk by rw [D.out, ha]; simp)
        clear ha
        go_wp2
        go_roundw
        case rel => exact ⟨k + 1, by omega, by go_num, by rw [R.out], HB1.out⟩
        case measure => (simp [intOf]; try omega)
      · have R := Lib.hid (show (degTo bs i (k + 1) : Int) = dk + 1 by rw [D.out, ha]; simp)
        clear ha
        go_wp2
        go_roundw
        case rel => exact ⟨k + 1, by omega, by go_num, by rw [R.out], HB1.out⟩
        case measure => (simp [intOf]; try omega)
    · obtain rfl : k = l := by omega
      have R := Lib.hid (show degTo bs i k = degTo bs i bs.length by rw [HN.out])
      go_wp2
      go_ret
      exact ⟨by rw [R.out]; rfl, hbel⟩
theorem comesF (x y z : Int) (B : Nat) (u : Value) (zs : List Int) (w : World) (hB : B < w.heap.size) (hc : w.cell? ⟨B, 0, none⟩ = some u) (h : Rd w u zs) (hn : zs.length ≤ 1048576) :
    Calls Try.prog 40 #[.agg #[.int .i64 x, .int .i64 y, .int .i64 z], .pointer (some ⟨B, 0, none⟩)] w fun e w' => e = .returned (.bool (!zs.contains x)) ∧ Below w.heap.size w w' := by
  have H := Lib.hid h
  obtain ⟨a, l, c, rfl, t⟩ := h.cells
  clear h t
  have hne : B ≠ w.heap.size := by omega
  have C := Lib.hid (fun (W : World) (hW : Below w.heap.size w W) => containsI _ zs x W (H.out.below hW) hn)
  generalize zs.contains x = r at *
  go_enter Try.func40, Try.ntmps40
  go_wp2_with fail
  refine (C.out _ (by (repeat (first | exact Below.refl _ _ | (refine Below.alloc ?_ (by first | omega | (simp; try omega)) _) | apply Below.drew | apply below_drewN)))).mono ?_
  rintro e w1 ⟨rfl, rfl⟩
  go_wp2
  go_ret
  refine ⟨rfl, ?_⟩
  (repeat (first | exact Below.refl _ _ | (refine Below.alloc ?_ (by first | omega | (simp; try omega)) _) | apply Below.drew | apply below_drewN))
theorem any_iff {bs : List Br} {zs : List Int} {l : Nat} (hl : l = bs.length) : (bs.any fun b => !zs.contains b.1) = true ↔ ∃ j, j < l ∧ zs.contains (gb bs j).1 = false := by
  subst hl
  rw [List.any_eq_true]
  constructor
  · rintro ⟨b, hb, h⟩
    obtain ⟨j, hj, rfl⟩ := mem_gb hb
    exact ⟨j, hj, by simpa using h⟩
  · rintro ⟨j, hj, h⟩
    exact ⟨_, gb_mem hj, by simpa using h⟩
set_option maxHeartbeats 1000000 in
theorem comesI (v : Value) (bs : List Br) (B : Nat) (u : Value) (zs : List Int) (w : World) (hR : RdB w v bs) (hl : bs.length ≤ 14) (hB : B < w.heap.size) (hc : w.cell? ⟨B, 0, none⟩ = some u) (h : Rd w u zs) (hn : zs.length ≤ 1048576) :
    Calls Try.prog 50 #[v, .func (.func 40) #[] #[.pointer (some ⟨B, 0, none⟩)]] w fun e w' => ∃ r : Int, e = .returned (.int .i64 r) ∧ (0 ≤ r ↔ (bs.any fun b => !zs.contains b.1) = true) ∧ Below w.heap.size w w' := by
  obtain ⟨a, l, c, rfl, hnz, _, _, hcell⟩ := hR
  rw [← hnz] at hl
  have A := Lib.hid (any_iff (zs := zs) hnz)
  generalize (bs.any fun b => !zs.contains b.1) = r at *
  have HN := Lib.hid hnz
  have HC := Lib.hid hcell
  have HU := Lib.hid hc
  have H := Lib.hid h
  clear hcell hnz hc h
  go_enter Try.func50, Try.ntmps50
  go_wp2
  go_loopw [5, 8] (fun _ i wr => ∃ j : Nat, j ≤ l ∧ i = .int .i64 j ∧ Hid (∀ q, q < j → zs.contains (gb bs q).1 = true) ∧ Below w.heap.size w wr) (fun _ i _ => l - (intOf i).toNat)
  case atStart => exact ⟨0, Nat.zero_le _, rfl, Lib.hid fun q hq => absurd hq (Nat.not_lt_zero _), Below.refl _ _⟩
  case round =>
    obtain ⟨j, hj, rfl, HA, hbel⟩ := hrel
    by_cases hlt : j < l
    · obtain ⟨b, off, rfl, hbw, hcl⟩ := HC.out j hlt
      obtain ⟨c0, c1, c2⟩ := hcl.below hbw hbel
      have hlt' : (j : Int) < l := by omega
      have HY := Lib.hid (fun g => A.out.2 ⟨j, hlt, g⟩)
      have HS := Lib.hid (fun (g : zs.contains (gb bs j).1 = true) => (fun q hq => by
        by_cases e : q = j
        · subst e; exact g
        · exact HA.out q (by omega) : ∀ q, q < j + 1 → zs.contains (gb bs q).1 = true))
      have HB := Lib.hid hbel
      generalize gb bs j = q at *
      obtain ⟨x, y, z⟩ := q
      simp only at c0 c1 c2 HY HS
      clear hcl hbel
      go_wp2_with fail
      refine (comesF x y z B u zs _ (Nat.lt_of_lt_of_le hB HB.out.size) ((HB.out.cell (p := ⟨B, 0, none⟩) hB).trans HU.out) (H.out.below HB.out) hn).mono ?_
      rintro e w1 ⟨rfl, hb1⟩
      have HB1 := Lib.hid (HB.out.trans (hb1.mono HB.out.size))
      clear hb1 c0 c1 c2
      cases hx : zs.contains x
      · have R := Lib.hid (HY.out hx)
        clear hx HY HS
        go_wp2
        go_ret
        exact ⟨_, rfl, by rw [R.out]; simp, HB1.out⟩
      · have R := Lib.hid (HS.out hx)
        clear hx HY HS
        go_wp2
        go_roundw
        case rel => exact ⟨j + 1, by omega, by go_num, R, HB1.out⟩
        case measure => (simp [intOf]; try omega)
    · obtain rfl : j = l := by omega
      have R : Hid (r = false) := Lib.hid (by
        cases hc : r with
        | false => rfl
        | true =>
          obtain ⟨q, hq, e⟩ := A.out.1 hc
          have := HA.out q hq
          rw [e] at this; cases this)
      go_wp2
      go_ret
      exact ⟨_, rfl, by rw [R.out]; simp, hbel⟩
theorem comesC (v : Value) (bs : List Br) (B : Nat) (u : Value) (zs : List Int) (w : World) (hR : RdB w v bs) (hl : bs.length ≤ 14) (hB : B < w.heap.size) (hc : w.cell? ⟨B, 0, none⟩ = some u) (h : Rd w u zs) (hn : zs.length ≤ 1048576) :
    Calls Try.prog 39 #[v, .func (.func 40) #[] #[.pointer (some ⟨B, 0, none⟩)]] w fun e w' => e = .returned (.bool (bs.any fun b => !zs.contains b.1)) ∧ Below w.heap.size w w' := by
  have C := Lib.hid (comesI v bs B u zs w hR hl hB hc h hn)
  generalize (bs.any fun b => !zs.contains b.1) = r at *
  clear hR hl hB hc h hn
  go_enter Try.func39, Try.ntmps39
  go_wp2_with fail
  refine C.out.mono ?_
  rintro e w' ⟨p, rfl, hp, hb⟩
  have HB := Lib.hid hb
  clear hb
  by_cases h0 : 0 ≤ p
  · have R := Lib.hid (hp.1 h0)
    clear hp
    go_wp2
    go_ret
    exact ⟨ret_bool R.out.symm, HB.out⟩
  · have R := Lib.hid (show r = false by cases r; rfl; exact absurd (hp.2 rfl) h0)
    clear hp
    go_wp2
    go_ret
    exact ⟨ret_bool (by rw [R.out]; simp; omega), HB.out⟩
theorem any_same {α : Type} {l : List α} {p q : α → Bool} (h : ∀ b ∈ l, p b = q b) : l.any p = l.any q := by
  induction l with
  | nil => rfl
  | cons x l ih => rw [List.any_cons, List.any_cons, h x (by simp), ih (fun b hb => h b (by simp [hb]))]
theorem comes_eq {m : Nat} {bs : List Br} (hg : Good m bs) (s : Nat) : (bs.any fun b => !(idx (groupL m bs s)).contains b.1) = !allS m bs s := by
  unfold allS
  rw [List.not_all_eq_any_not]
  apply any_same
  intro b hb
  have hv := hg b hb
  have e : (idx (groupL m bs s)).contains b.1 = same m bs b.1.toNat s := by
    rw [Bool.eq_iff_iff, List.contains_iff_mem]
    unfold idx
    rw [List.mem_map]
    constructor
    · rintro ⟨x, hx, e⟩
      rw [← e]
      exact (groupL_mem.1 hx).2
    · intro h
      exact ⟨b.1.toNat, groupL_mem.2 ⟨by omega, h⟩, by omega⟩
  rw [e]
theorem comesToAll (m : Nat) (v : Value) (bs : List Br) (s : Nat) (w : World) (h : RdB w v bs) (hg : Good m bs) (hm : m ≤ 7) (hl : bs.length ≤ 14) (hs : s < m) :
    Calls Try.prog 24 #[.agg #[.int .i64 m, v], .int .i64 s] w fun e w' => e = .returned (.bool (allS m bs s)) ∧ Below w.heap.size w w' := by
  have H := Lib.hid h
  obtain ⟨a, l, c, rfl, t⟩ := h
  have HG := Lib.hid hg
  have CE := Lib.hid (comes_eq hg s)
  clear t hg
  go_enter Try.func24, Try.ntmps24
  go_wp2_with fail
  refine (groupWith m _ bs s _ (H.out.below (by (repeat (first | exact Below.refl _ _ | (refine Below.alloc ?_ (by first | omega | (simp; try omega)) _) | apply Below.drew | apply below_drewN)))) HG.out hm hl hs).mono ?_
  rintro e w1 ⟨u, rfl, hI, hb⟩
  have HB := Lib.hid (Below.trans (by (repeat (first | exact Below.refl _ _ | (refine Below.alloc ?_ (by first | omega | (simp; try omega)) _) | apply Below.drew | apply below_drewN))) (hb.mono (by simp; try omega)) : Below w.heap.size w w1)
  have XB := Lib.hid ((Blk.new w #[.int .i64 m, .slice a l c] 31).below hb (by simp))
  obtain ⟨c0, c1, l0⟩ := XB.out.two
  have HI := Lib.hid hI.rd
  have gl : (idx (groupL m bs s)).length ≤ 1048576 := by rw [idx_len]; unfold groupL; have := List.length_filter_le (fun j => same m bs j s) (List.range m); simp at this ⊢; omega
  obtain ⟨ua, un, uc, rfl, t2⟩ := hI.rd.cells
  clear t2
  clear hb hI
  have h1 := HB.out.size
  have hne : w.heap.size ≠ w1.heap.size := by omega
  go_wp2_with fail
  refine (comesC _ bs w1.heap.size _ _ _ (H.out.below (HB.out.trans (by (repeat (first | exact Below.refl _ _ | (refine Below.alloc ?_ (by first | omega | (simp; try omega)) _) | apply Below.drew | apply below_drewN))))) hl (by simp) (by simp) (HI.out.below (by (repeat (first | exact Below.refl _ _ | (refine Below.alloc ?_ (by first | omega | (simp; try omega)) _) | apply Below.drew | apply below_drewN)))) gl).mono ?_
  rw [CE.out]
  rintro e w2 ⟨rfl, hb2⟩
  have HB2 := Lib.hid (HB.out.trans (Below.trans (by (repeat (first | exact Below.refl _ _ | (refine Below.alloc ?_ (by first | omega | (simp; try omega)) _) | apply Below.drew | apply below_drewN))) (hb2.mono (by simp; try omega))) : Below w.heap.size w w2)
  clear hb2 c0 c1 l0
  go_wp2
  go_ret
  exact ⟨rfl, HB2.out⟩
set_option maxHeartbeats 1000000 in
theorem hasRoundFrom (m : Nat) (v : Value) (bs : List Br) (s : Nat) (w : World) (h : RdB w v bs) (hg : Good m bs) (hm : m ≤ 7) (hl : bs.length ≤ 14) (hs : s < m) :
    Calls Try.prog 19 #[.agg #[.int .i64 m, v], .int .i64 s] w fun e w' => e = .returned (.bool (evenB m bs && allS m bs s)) ∧ Below w.heap.size w w' := by
  have H := Lib.hid h
  obtain ⟨a, l, c, rfl, t⟩ := h
  have HG := Lib.hid hg
  clear t hg
  have X0 := Lib.hid (Blk.new w #[.int .i64 m, .slice a l c] 31)
  have B0 := Lib.hid ((Below.refl w.heap.size w).alloc (Nat.le_refl _) (.cells #[.int .i64 m, .slice a l c] 31))
  go_enter Try.func19, Try.ntmps19
  go_wp2
  go_loopw [8] (fun q wr => ∃ k : Nat, k ≤ m ∧ q = .int .i64 k ∧ Hid (∀ j, j < k → degTo bs j bs.length % 2 = 0) ∧ Blk wr w.heap.size #[.int .i64 m, .slice a l c] ∧ Below w.heap.size w wr) (fun q _ => m - (intOf q).toNat)
  case atStart => exact ⟨0, Nat.zero_le _, rfl, Lib.hid fun j h => absurd h (Nat.not_lt_zero _), X0.out, B0.out⟩
  case round =>
    obtain ⟨k, hk, rfl, HA, hX, hbel⟩ := hrel
    have hsz := hbel.size
    have HX := Lib.hid hX
    have HB := Lib.hid hbel
    obtain ⟨c0, c1, l0⟩ := hX.two
    clear hX hbel
    by_cases hlt : k < m
    · have hlt' : (k : Int) < m := by omega
      go_wp2_with fail
      refine (bridgesAt m _ bs k _ (H.out.below HB.out) hl).mono ?_
      rintro e w1 ⟨rfl, hb1⟩
      have HB1 := Lib.hid (HB.out.trans (hb1.mono hsz))
      have HX1 := Lib.hid (HX.out.below hb1 l0)
      have hd := degTo_le bs k bs.length
      have N := Lib.hid (fun g => evenB_no (m := m) (bs := bs) (i := k) hlt g)
      have HS := Lib.hid (fun (g : degTo bs k bs.length % 2 = 0) => (fun j hj => by
        by_cases e : j = k
        · subst e; exact g
        · exact HA.out j (by omega) : ∀ j, j < k + 1 → degTo bs j bs.length % 2 = 0))
      clear hb1 c0 c1
      generalize degTo bs k bs.length = d at *
      have hd14 : d ≤ 14 := by omega
      clear hd
      have d2 : d % 2 = 0 ∨ d % 2 = 1 := by omega
      rcases d2 with d2 | d2
      · have R := Lib.hid (HS.out d2)
        have hi : ((d : Int) % 2) = 0 := by omega
        have hi2 : Int.tmod (d : Int) 2 = 0 := by rw [Int.tmod_eq_emod_of_nonneg (by omega)]; exact hi
        clear N HS d2
        go_wp2
        go_roundw
        case rel => exact ⟨k + 1, by omega, by go_num, R, HX1.out, HB1.out⟩
        case measure => (simp [intOf]; try omega)
      · have R := Lib.hid (N.out d2)
        have hi : ((d : Int) % 2) = 1 := by omega
        have hi2 : Int.tmod (d : Int) 2 = 1 := by rw [Int.tmod_eq_emod_of_nonneg (by omega)]; exact hi
        clear N HS d2
        go_wp2
        go_ret
        exact ⟨ret_bool (by rw [R.out]; rfl), HB1.out⟩
    · obtain rfl : k = m := by omega
      have R := Lib.hid (evenB_yes HA.out)
      go_wp2_with fail
      refine (comesToAll k _ bs s _ (H.out.below HB.out) HG.out hm hl hs).mono ?_
      rintro e w1 ⟨rfl, hb1⟩
      have HB1 := Lib.hid (HB.out.trans (hb1.mono hsz))
      clear hb1 c0 c1
      go_wp2
      go_ret
      exact ⟨ret_bool (by rw [R.out]; rfl), HB1.out⟩
end Go.Proofs.Ytihdhgkknfohaad
