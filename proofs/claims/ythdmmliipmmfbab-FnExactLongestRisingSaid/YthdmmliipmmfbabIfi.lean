/- The first indices (taken out of XJl). -/
import Derived.Test.YthdmmliipmmfbabIx
namespace Go.Proofs.Ythdmmliipmmfbab
set_option linter.unusedVariables false
open Go.RowKit

theorem idx_snoc (l : List Nat) (x : Nat) : idx l ++ [(x : Int)] = idx (l ++ [x]) := by simp [idx]
theorem idx_tail (n j : Nat) (h : j < n) : (idx (List.range j) ++ List.replicate (n - j) (0 : Int)).set j (j : Int) = idx (List.range (j + 1)) ++ List.replicate (n - (j + 1)) 0 := by
  have hl : (idx (List.range j)).length = j := by simp [idx]
  have e : List.replicate (n - j) (0 : Int) = 0 :: List.replicate (n - (j + 1)) 0 := by
    rw [← List.replicate_succ]; congr 1; omega
  rw [e, List.set_append_right _ _ (by omega), hl, Nat.sub_self, List.set_cons_zero, List.range_succ, ← idx_snoc, List.append_assoc]
  rfl
set_option maxHeartbeats 1000000 in
theorem firstIndices (n : Nat) (w : World) (hn : n ≤ 1000) :
    Calls Try.prog 47 #[.int .i64 n] w fun e w' => ∃ g c, e = .returned (.slice (some ⟨g, 0, none⟩) n c) ∧ Ints w' w.heap.size (.slice (some ⟨g, 0, none⟩) n c) (idx (List.range n)) ∧ Below w.heap.size w w' := by
  go_enter Try.func47, Try.ntmps47
  go_wp2_with (at_make; refine wpList_mk rfl _ _ rfl w.heap.size n _ rfl rfl rfl (by omega) (Nat.le_refl _) ?_; intro w1 hI hb1 hg1)
  have hB := hb1.size
  obtain ⟨g, hg⟩ : ∃ g, g = w.heap.size := ⟨_, rfl⟩
  have HG := Lib.hid hg
  have hgl : g < w1.heap.size := by have := hI.blk; omega
  have hI0 : Ints w1 g (.slice (some ⟨g, 0, none⟩) n n) (idx (List.range 0) ++ List.replicate (n - 0) 0) := by rw [hg]; simpa [idx] using hI
  have hb0 : Below g w w1 := by rw [hg]; exact hb1
  clear hI hb1 hg1
  rw [← hg]
  have HI0 := Lib.hid hI0
  clear hg hI0
  go_loopw [9] (fun i wr => ∃ j : Nat, j ≤ n ∧ i = .int .i64 j ∧ Ints wr g (.slice (some ⟨g, 0, none⟩) n n) (idx (List.range j) ++ List.replicate (n - j) 0) ∧ Below g w wr) (fun i _ => n - (intOf i).toNat)
  case atStart => exact ⟨0, Nat.zero_le _, rfl, HI0.out, hb0⟩
  case round =>
    obtain ⟨j, hj, rfl, hI, hb⟩ := hrel
    have hle : g ≤ wr.heap.size := by have := hb.size; have := HG.out; omega
    have hlen : n = (idx (List.range j) ++ List.replicate (n - j) (0 : Int)).length := by simp [idx]; omega
    by_cases hlt : j < n
    · have c2 := hI.cell hlen j hlt
      have c3 := hI.frz hlen j
      have S := hI.set hlen j (j : Int)
      rw [idx_tail n j hlt] at S
      have SS := Lib.hid S
      have HB := Lib.hid (hb.grown S.2 hle (by intro k hk; cases hk; exact Nat.le_refl _))
      clear S hlen hI hb
      generalize gt _ j = x at c2
      go_wp2
      go_roundw
      case rel => exact ⟨j + 1, by omega, by go_num, SS.out.1, HB.out⟩
      case measure => (simp [intOf]; try omega)
    · obtain rfl : j = n := by omega
      have e : idx (List.range j) ++ List.replicate (j - j) (0 : Int) = idx (List.range j) := by rw [Nat.sub_self]; simp
      rw [e] at hI
      clear hlen
      go_wp2
      go_ret
      exact ⟨_, _, rfl, by rw [← HG.out]; exact hI, by rw [← HG.out]; exact hb⟩

end Go.Proofs.Ythdmmliipmmfbab
