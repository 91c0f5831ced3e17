/- Sets of clues: impl.firstClues, without; hiddenRiver.fitsAll. -/
import Derived.Test.YtnmeomcoeknjoacKza
namespace Go.Proofs.Ytnmeomcoeknjoac
set_option linter.unusedVariables false
set_option maxRecDepth 100000
open Go.RowKit

/-- a block with a set of clues -/
theorem a6_blk {w : World} {g : Nat} {f : Nat → Bool} (h : Blk w g (a6 f)) : w.cell? ⟨g, 0, none⟩ = some (.bool (f 0)) ∧ w.cell? ⟨g, 1, none⟩ = some (.bool (f 1)) ∧ w.cell? ⟨g, 2, none⟩ = some (.bool (f 2)) ∧ w.cell? ⟨g, 3, none⟩ = some (.bool (f 3)) ∧ w.cell? ⟨g, 4, none⟩ = some (.bool (f 4)) ∧ w.cell? ⟨g, 5, none⟩ = some (.bool (f 5)) :=
  ⟨h.cell 0, h.cell 1, h.cell 2, h.cell 3, h.cell 4, h.cell 5⟩
theorem first_set (j : Nat) : (fun i => if i = j then true else first j i) = first (j + 1) := by
  funext i
  unfold first
  by_cases e : i = j
  · subst e; simp
  · rw [if_neg e]; exact decide_eq_decide.2 (by omega)
theorem first_0 : first 0 = fun _ => false := by funext i; simp [first]
set_option maxHeartbeats 1000000 in
theorem firstClues (N : Nat) (w : World) (hN : N ≤ 6) :
    Calls Try.prog 30 #[.int .i64 (N : Int)] w fun e w' => e = .returned (.agg (a6 (first N))) ∧ Below w.heap.size w w' := by
  go_enter Try.func30, Try.ntmps30
  go_wp2
  have hX := (Blk.new (w.alloc (.cells #[.bool false, .bool false, .bool false, .bool false, .bool false, .bool false] 51)) #[.bool false, .bool false, .bool false, .bool false, .bool false, .bool false] 51).at_ (g' := w.heap.size + 1) (by simp)
  have hX0 := (Blk.new w #[.bool false, .bool false, .bool false, .bool false, .bool false, .bool false] 51).alloc (.cells #[.bool false, .bool false, .bool false, .bool false, .bool false, .bool false] 51)
  have HX := Lib.hid (show Blk ((w.alloc (.cells #[.bool false, .bool false, .bool false, .bool false, .bool false, .bool false] 51)).alloc (.cells #[.bool false, .bool false, .bool false, .bool false, .bool false, .bool false] 51)) (w.heap.size + 1) (a6 (first 0)) by rw [first_0]; exact hX)
  have HX0 := Lib.hid (show Blk ((w.alloc (.cells #[.bool false, .bool false, .bool false, .bool false, .bool false, .bool false] 51)).alloc (.cells #[.bool false, .bool false, .bool false, .bool false, .bool false, .bool false] 51)) w.heap.size (a6 (first 0)) by rw [first_0]; exact hX0)
  have HB := Lib.hid (show Below w.heap.size w ((w.alloc (.cells #[.bool false, .bool false, .bool false, .bool false, .bool false, .bool false] 51)).alloc (.cells #[.bool false, .bool false, .bool false, .bool false, .bool false, .bool false] 51)) by (repeat (first | exact Below.refl _ _ | (refine Below.alloc ?_ (by first | omega | (simp; try omega)) _) | apply Below.drew | apply below_drewN)))
  clear hX hX0
  go_loopw [4, 6] (fun _ i wr => ∃ j : Nat, j ≤ N ∧ i = .int .i64 (j : Int) ∧ Hid (Blk wr (w.heap.size + 1) (a6 (first j))) ∧ Hid (Blk wr w.heap.size (a6 (first 0))) ∧ Hid (Below w.heap.size w wr)) (fun _ i _ => N - (intOf i).toNat)
  case atStart => exact ⟨0, Nat.zero_le _, rfl, HX, HX0, HB⟩
  case round =>
    clear HX HX0 HB
    obtain ⟨j, hj, rfl, HX, HX0, HB⟩ := hrel
    by_cases hlt : j < N
    · have hlt' : (j : Int) < N := by omega
      have h6 : (j : Int) < 6 := by omega
      have c0 := HX.out.cell j
      rw [a6_at _ (by omega)] at c0
      have f0 := HX.out.fr j
      have hX := HX.out.set j (.bool true)
      rw [a6_set _ (by omega), first_set] at hX
      have HX2 := Lib.hid hX
      have HX02 := Lib.hid (HX0.out.far (p := ⟨w.heap.size + 1, j, none⟩) (by simp) (.bool true))
      have HB2 := Lib.hid (HB.out.setCell (p := ⟨w.heap.size + 1, j, none⟩) (by simp) (.bool true))
      clear hX
      generalize first j j = old at *
      go_wp2
      go_roundw
      case rel => exact ⟨j + 1, by omega, by go_num, HX2, HX02, HB2⟩
      case measure => (simp [intOf]; try omega)
    · obtain rfl : j = N := by omega
      obtain ⟨c0, c1, c2, c3, c4, c5⟩ := a6_blk HX.out
      obtain ⟨d0, d1, d2, d3, d4, d5⟩ := a6_blk HX0.out
      have f0 := HX0.out.fr 0
      have f1 := HX0.out.fr 1
      have f2 := HX0.out.fr 2
      have f3 := HX0.out.fr 3
      have f4 := HX0.out.fr 4
      have f5 := HX0.out.fr 5
      go_wp2
      refine bodyPost_ret (v := .agg #[.bool (first j 0), .bool (first j 1), .bool (first j 2), .bool (first j 3), .bool (first j 4), .bool (first j 5)]) (by simp [results, Try.results30, go_sem, d0, d1, d2, d3, d4, d5]) rfl ⟨rfl, ?_⟩
      exact (((((HB.out.setCell (Nat.le_refl _) _).setCell (Nat.le_refl _) _).setCell (Nat.le_refl _) _).setCell (Nat.le_refl _) _).setCell (Nat.le_refl _) _).setCell (Nat.le_refl _) _

theorem ask_step {ask f : Nat → Bool} {k : Nat} (h : ∀ q, q < k → (!ask q || f q) = true) (hk : (!ask k || f k) = true) : ∀ q, q < k + 1 → (!ask q || f q) = true := by
  intro q hq
  by_cases e : q = k
  · subst e; exact hk
  · exact h q (by omega)
theorem ask_end {ask f : Nat → Bool} (h : ∀ q, q < 6 → (!ask q || f q) = true) : askOK ask f = true := by
  simp only [askOK, List.all_eq_true, List.mem_range]; exact h
theorem ask_bad {ask f : Nat → Bool} {k : Nat} (hk : k < 6) (h1 : ask k = true) (h2 : f k = false) : askOK ask f = false := by
  simp only [askOK, List.all_eq_false, List.mem_range]
  exact ⟨k, hk, by simp [h1, h2]⟩
def hrV (s : ByteArray) (f : Nat → Bool) : Value := .agg #[.string s, .bool (f 0), .bool (f 1), .bool (f 2), .bool (f 3), .bool (f 4), .bool (f 5)]
theorem ix6 (f : Nat → Bool) {k : Nat} (hk : k < 6) (w : World) : (Instr.index 51 (.agg #[.bool (f 0), .bool (f 1), .bool (f 2), .bool (f 3), .bool (f 4), .bool (f 5)]) (.int .i64 (k : Int))).run Try.prog w = .ok (.bool (f k)) w := by
  rcases lt6 hk with rfl | rfl | rfl | rfl | rfl | rfl <;> kernel_rfl
theorem seven_at {w : World} {g : Nat} {s : ByteArray} {f : Nat → Bool} (h : Blk w g #[.string s, .bool (f 0), .bool (f 1), .bool (f 2), .bool (f 3), .bool (f 4), .bool (f 5)]) {k : Nat} (hk : k < 6) : w.cell? ⟨g, 1 + k, none⟩ = some (.bool (f k)) := by
  rw [h.cell]
  rcases lt6 hk with rfl | rfl | rfl | rfl | rfl | rfl <;> rfl
set_option maxHeartbeats 2000000 in
theorem fitsAll (s : ByteArray) (f ask : Nat → Bool) (w : World) :
    Calls Try.prog 47 #[hrV s f, .agg (a6 ask)] w fun e w' => e = .returned (.bool (askOK ask f)) ∧ Below w.heap.size w w' := by
  unfold hrV a6
  have HX := Lib.hid ((Blk.new w #[.string s, .bool (f 0), .bool (f 1), .bool (f 2), .bool (f 3), .bool (f 4), .bool (f 5)] 71).alloc (.cells #[.bool (ask 0), .bool (ask 1), .bool (ask 2), .bool (ask 3), .bool (ask 4), .bool (ask 5)] 51))
  have HB := Lib.hid (show Below w.heap.size w ((w.alloc (.cells #[.string s, .bool (f 0), .bool (f 1), .bool (f 2), .bool (f 3), .bool (f 4), .bool (f 5)] 71)).alloc (.cells #[.bool (ask 0), .bool (ask 1), .bool (ask 2), .bool (ask 3), .bool (ask 4), .bool (ask 5)] 51)) by (repeat (first | exact Below.refl _ _ | (refine Below.alloc ?_ (by first | omega | (simp; try omega)) _) | apply Below.drew | apply below_drewN)))
  go_enter Try.func47, Try.ntmps47
  go_wp2
  generalize (w.alloc (.cells #[.string s, .bool (f 0), .bool (f 1), .bool (f 2), .bool (f 3), .bool (f 4), .bool (f 5)] 71)).alloc (.cells #[.bool (ask 0), .bool (ask 1), .bool (ask 2), .bool (ask 3), .bool (ask 4), .bool (ask 5)] 51) = W1 at *
  go_loopw [5, 6, 8] (fun _ _ i wr => ∃ k : Nat, k ≤ 6 ∧ i = .int .i64 (k : Int) ∧ Hid (∀ q, q < k → (!ask q || f q) = true) ∧ wr = W1) (fun _ _ i _ => 6 - (intOf i).toNat)
  case atStart => exact ⟨0, Nat.zero_le _, rfl, Lib.hid (fun q h => absurd h (Nat.not_lt_zero _)), rfl⟩
  case round =>
    obtain ⟨k, hk, rfl, HA, rfl⟩ := hrel
    by_cases hlt : k < 6
    · have hlt' : (k : Int) < 6 := by omega
      have hix := ix6 ask hlt
      have c0 := seven_at HX.out hlt
      cases h1 : ask k
      · have HS := Lib.hid (ask_step HA.out (by simp [h1]))
        rw [h1] at hix
        clear h1 c0
        go_wp2
        go_roundw
        case rel => exact ⟨k + 1, by omega, by go_num, HS, by trivial⟩
        case measure => (simp [intOf]; try omega)
      · cases h2 : f k
        · have HNO := Lib.hid (ask_bad hlt h1 h2)
          rw [h1] at hix
          rw [h2] at c0
          clear h1 h2
          go_wp2
          go_ret
          exact ⟨ret_bool HNO.out.symm, HB.out⟩
        · have HS := Lib.hid (ask_step HA.out (by simp [h1, h2]))
          rw [h1] at hix
          rw [h2] at c0
          clear h1 h2
          go_wp2
          go_roundw
          case rel => exact ⟨k + 1, by omega, by go_num, HS, by trivial⟩
          case measure => (simp [intOf]; try omega)
    · obtain rfl : k = 6 := by omega
      have HY := Lib.hid (ask_end HA.out)
      go_wp2
      go_ret
      exact ⟨ret_bool HY.out.symm, HB.out⟩
end Go.Proofs.Ytnmeomcoeknjoac
