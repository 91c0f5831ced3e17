/- The first indices; JoinedLength, impl and spec. -/
import Derived.Test.YtimbpfenpbkckaaJn
namespace Go.Proofs.Ytimbpfenpbkckaa
set_option linter.unusedVariables false
open Go.RowKit

theorem idx_snoc (l : List Nat) (x : Nat) : idx l ++ [(x : Int)] = idx (l ++ [x]) := by simp [idx]
theorem idx_tail (n j : Nat) (h : j < n) : (idx (List.range j) ++ List.replicate (n - j) (0 : Int)).set j (j : Int) = idx (List.range (j + 1)) ++ List.replicate (n - (j + 1)) 0 := by
  have hl : (idx (List.range j)).length = j := by simp [idx]
  have e : List.replicate (n - j) (0 : Int) = 0 :: List.replicate (n - (j + 1)) 0 := by
    rw [← List.replicate_succ]; congr 1; omega
  rw [e, List.set_append_right _ _ (by omega), hl, Nat.sub_self, List.set_cons_zero, List.range_succ, ← idx_snoc, List.append_assoc]
  rfl
set_option maxHeartbeats 1000000 in
theorem firstIndices (n : Nat) (w : World) (hn : n ≤ 1000) :
    Calls Try.prog 51 #[.int .i64 n] w fun e w' => ∃ u, e = .returned u ∧ Ints w' w.heap.size u (idx (List.range n)) ∧ Below w.heap.size w w' := by
  go_enter Try.func51, Try.ntmps51
  go_wp2_with (at_make; refine wpList_mk rfl _ _ rfl w.heap.size n _ rfl rfl rfl (by omega) (Nat.le_refl _) ?_; intro w1 hI hb1 hg1)
  have hB := hb1.size
  obtain ⟨g, hg⟩ : ∃ g, g = w.heap.size := ⟨_, rfl⟩
  have HG := Lib.hid hg
  have hgl : g < w1.heap.size := by have := hI.blk; omega
  have hI0 : Ints w1 g (.slice (some ⟨g, 0, none⟩) n n) (idx (List.range 0) ++ List.replicate (n - 0) 0) := by rw [hg]; simpa [idx] using hI
  have hb0 : Below g w w1 := by rw [hg]; exact hb1
  clear hI hb1 hg1
  rw [← hg]
  have HI0 := Lib.hid hI0
  clear hg hI0
  go_loopw [9] (fun i wr => ∃ j : Nat, j ≤ n ∧ i = .int .i64 j ∧ Ints wr g (.slice (some ⟨g, 0, none⟩) n n) (idx (List.range j) ++ List.replicate (n - j) 0) ∧ Below g w wr) (fun i _ => n - (intOf i).toNat)
  case atStart => exact ⟨0, Nat.zero_le _, rfl, HI0.out, hb0⟩
  case round =>
    obtain ⟨j, hj, rfl, hI, hb⟩ := hrel
    have hle : g ≤ wr.heap.size := by have := hb.size; have := HG.out; omega
    have hlen : n = (idx (List.range j) ++ List.replicate (n - j) (0 : Int)).length := by simp [idx]; omega
    by_cases hlt : j < n
    · have c2 := hI.cell hlen j hlt
      have c3 := hI.frz hlen j
      have S := hI.set hlen j (j : Int)
      rw [idx_tail n j hlt] at S
      have SS := Lib.hid S
      have HB := Lib.hid (hb.grown S.2 hle (by intro k hk; cases hk; exact Nat.le_refl _))
      clear S hlen hI hb
      generalize gt _ j = x at c2
      go_wp2
      go_roundw
      case rel => exact ⟨j + 1, by omega, by go_num, SS.out.1, HB.out⟩
      case measure => (simp [intOf]; try omega)
    · obtain rfl : j = n := by omega
      have e : idx (List.range j) ++ List.replicate (j - j) (0 : Int) = idx (List.range j) := by rw [Nat.sub_self]; simp
      rw [e] at hI
      clear hlen
      go_wp2
      go_ret
      exact ⟨_, rfl, by rw [← HG.out]; exact hI, by rw [← HG.out]; exact hb⟩

theorem range_get {n j : Nat} (h : j < n) : (List.range n).getD j 0 = j := by
  rw [List.getD_eq_getElem?_getD, List.getElem?_range h]; rfl
/-- the sum of the first k, each shorter by the lap -/
def sumLap (ps : List Int) (lap : Int) : Nat → Int
  | 0 => lap
  | k + 1 => sumLap ps lap k + (gt ps k - lap)
theorem sumLap_s (ps : List Int) (lap : Int) (k : Nat) : sumLap ps lap (k + 1) = sumLap ps lap k + (gt ps k - lap) := rfl
theorem sumLap_wood (ps : List Int) (lap : Int) (n : Nat) : ∀ k, k ≤ n → sumLap ps lap k = woodTo ps (List.range n) k - lap * ((k : Int) - 1)
  | 0, _ => by simp [sumLap, woodTo]
  | k + 1, h => by
    rw [sumLap_s, woodTo_s, sumLap_wood ps lap n k (by omega), range_get (by omega)]
    have e : lap * (((k + 1 : Nat) : Int) - 1) = lap * ((k : Int) - 1) + lap := by
      rw [show ((k + 1 : Nat) : Int) - 1 = ((k : Int) - 1) + 1 by omega, Int.mul_add, Int.mul_one]
    omega
theorem sumLap_in {ps : List Int} {lap : Int} (h : ∀ j, 0 ≤ gt ps j ∧ gt ps j ≤ 100) (hl : 0 ≤ lap ∧ lap ≤ 10) : ∀ k : Nat, -10 * (k : Int) ≤ sumLap ps lap k ∧ sumLap ps lap k ≤ 10 + 100 * k
  | 0 => by simp [sumLap]; omega
  | k + 1 => by
    have := sumLap_in h hl k; have := h k
    rw [sumLap_s]; omega
theorem sumLap_join (ps : List Int) (lap : Int) : sumLap ps lap ps.length = joinL ps (List.range ps.length) lap := by
  rw [sumLap_wood ps lap ps.length _ (Nat.le_refl _)]
  unfold joinL woodL
  rw [List.length_range]
def jlenV (ps : List Int) (lap : Int) : Value := if laps ps lap then .tuple #[.int .i64 (joinL ps (List.range ps.length) lap), .bool true] else .tuple #[.int .i64 0, .bool false]
theorem jlenV_no {ps : List Int} {lap : Int} (h : laps ps lap = false) : jlenV ps lap = .tuple #[.int .i64 0, .bool false] := by simp [jlenV, h]
theorem jlenV_yes {ps : List Int} {lap : Int} (h : laps ps lap = true) : jlenV ps lap = .tuple #[.int .i64 (joinL ps (List.range ps.length) lap), .bool true] := by simp [jlenV, h]
theorem jlenV_form (ps : List Int) (lap : Int) : ∃ x y, jlenV ps lap = .tuple #[.int .i64 x, .bool y] := by
  unfold jlenV; split <;> exact ⟨_, _, rfl⟩
set_option maxHeartbeats 1000000 in
theorem implJlen (v : Value) (ps : List Int) (lap : Int) (w : World) (h : Rd w v ps) (hn : ps.length ≤ 1048576) :
    Calls Try.prog 22 #[v, .int .i64 lap] w fun e w' => e = .returned (jlenV ps lap) ∧ Below w.heap.size w w' := by
  have HA := Lib.hid (canBeJoined v ps lap w h hn)
  cases hk : laps ps lap
  · have J := Lib.hid (jlenV_no hk)
    rw [hk] at HA
    clear h hk
    go_enter Try.func22, Try.ntmps22
    go_wp2_with (go_at_call 49; refine HA.out.mono ?_; rintro e w' ⟨rfl, rfl⟩)
    go_ret2
    exact ⟨ret_v J.out.symm, Below.refl _ _⟩
  have J := Lib.hid (jlenV_yes hk)
  rw [hk] at HA
  obtain ⟨hp, hl0, hl1, _⟩ := laps_in hk
  have hin := arePl_in hp
  have HR := Lib.hid h
  have HP := Lib.hid hp
  obtain ⟨b, off, n, c, rfl, hnz, hb, _⟩ := h.cellsP (by omega)
  rw [← hnz] at hin J
  have HN := Lib.hid hnz
  clear h hk hp hnz hn
  have n7 := hin.2.1
  go_enter Try.func22, Try.ntmps22
  go_wp2_with (first
    | (go_at_call 49; refine HA.out.mono ?_; rintro e w' ⟨rfl, rfl⟩)
    | (go_at_call 51; refine (firstIndices n _ (by omega)).mono ?_; rintro e w1 ⟨u, rfl, hI, hb1⟩)
    | (go_at_call 50; refine (joinedLengthOf _ _ ps (List.range n) lap _ (HR.out.below hb1) hI.rd HP.out (fun j hj => by have := HN.out; rw [List.length_range] at hj; rw [range_get hj]; omega) (by rw [List.length_range]; omega) (by omega)).mono ?_; rintro e w' ⟨rfl, rfl⟩))
  go_ret2
  exact ⟨ret_v J.out.symm, hb1⟩
set_option maxHeartbeats 1000000 in
theorem specJlen (v : Value) (ps : List Int) (lap : Int) (w : World) (h : Rd w v ps) (hn : ps.length ≤ 1048576) :
    Calls Try.prog 21 #[v, .int .i64 lap] w fun e w' => e = .returned (jlenV ps lap) ∧ Below w.heap.size w w' := by
  have HA := Lib.hid (plLap v ps lap w h hn)
  cases hk : laps ps lap
  · have J := Lib.hid (jlenV_no hk)
    rw [hk] at HA
    clear h hk
    go_enter Try.func21, Try.ntmps21
    go_wp2_with (go_at_call 48; refine HA.out.mono ?_; rintro e w' ⟨rfl, rfl⟩)
    go_ret2
    exact ⟨ret_v J.out.symm, Below.refl _ _⟩
  have J := Lib.hid (jlenV_yes hk)
  rw [← sumLap_join] at J
  rw [hk] at HA
  obtain ⟨hp, hl0, hl1, _⟩ := laps_in hk
  have hin := arePl_in hp
  have HX := Lib.hid (arePl_any hp)
  have HS := Lib.hid (sumLap_in HX.out (And.intro hl0 hl1))
  obtain ⟨b, off, n, c, rfl, hnz, hb, hcell⟩ := h.cellsP (by omega)
  rw [← hnz] at hin J
  have HC := Lib.hid hcell
  clear h hk hp hnz hn hcell
  have n7 := hin.2.1
  go_enter Try.func21, Try.ntmps21
  go_wp2_with (first
    | (go_at_call 48; refine HA.out.mono ?_; rintro e w' ⟨rfl, rfl⟩))
  clear HA
  go_loop [6, 16] (fun s i => ∃ k : Nat, k ≤ n ∧ i = .int .i64 k ∧ s = .int .i64 (sumLap ps lap k)) (fun _ i => n - (intOf i).toNat)
  case atStart => exact ⟨0, Nat.zero_le _, rfl, rfl⟩
  case round =>
    obtain ⟨k, hk, rfl, rfl⟩ := hrel
    by_cases hlt : k < n
    · have hlt' : (k : Int) < n := by omega
      have hc := HC.out k hlt
      have hx := HX.out k
      have hs := HS.out k
      have S := Lib.hid (sumLap_s ps lap k)
      generalize gt ps k = x at *
      generalize sumLap ps lap k = s at *
      go_wp2
      go_round
      case rel => exact ⟨k + 1, by omega, by go_num, by rw [S.out]⟩
      case measure => (simp [intOf]; try omega)
    · obtain rfl : k = n := by omega
      go_wp2
      go_ret2
      exact ⟨ret_v (by rw [J.out]; rfl), Below.refl _ _⟩
end Go.Proofs.Ytimbpfenpbkckaa
