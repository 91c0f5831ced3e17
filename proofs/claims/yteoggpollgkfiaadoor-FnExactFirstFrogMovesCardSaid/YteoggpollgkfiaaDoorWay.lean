/- spec.fgWay: the moves that lead to a place of the list of those that are reached. -/
import Derived.Test.YteoggpollgkfiaaDoorRch
import Derived.Test.YteoggpollgkfiaaDoorPre
namespace Go.Proofs.YteoggpollgkfiaaDoor
set_option linter.unusedVariables false
open Go.RowKit

/-- the moves on the way back from a place -/
def wayF (F M : List Int) : Nat → Nat → List Int
  | 0, _ => []
  | n + 1, k => if 0 ≤ gt F k then wayF F M n (gt F k).toNat ++ [gt M k] else []
theorem wayF_fuel {F M : List Int} (hF : ∀ j, j < F.length → gt F j < j) : ∀ (n m k : Nat), k < n → k < m → k < F.length → wayF F M n k = wayF F M m k
  | 0, _, _, h, _, _ => absurd h (Nat.not_lt_zero _)
  | n + 1, 0, _, _, h, _ => absurd h (Nat.not_lt_zero _)
  | n + 1, m + 1, k, h1, h2, h3 => by
    unfold wayF
    by_cases h : 0 ≤ gt F k
    · have := hF k h3
      rw [if_pos h, if_pos h, wayF_fuel hF n m (gt F k).toNat (by omega) (by omega) (by omega)]
    · rw [if_neg h, if_neg h]
def wayA (F M : List Int) (k : Nat) : List Int := wayF F M (k + 1) k
theorem wayA_back {F M : List Int} (hF : ∀ j, j < F.length → gt F j < j) {k j : Nat} (hk : k < F.length) (h : gt F k = (j : Int)) : wayA F M k = wayA F M j ++ [gt M k] := by
  have h1 := hF k hk
  unfold wayA
  conv => lhs; unfold wayF
  rw [if_pos (by omega), h, Int.toNat_natCast, wayF_fuel hF k (j + 1) j (by omega) (by omega) (by omega)]
theorem wayA_end {F M : List Int} {k : Nat} (h : ¬ 0 ≤ gt F k) : wayA F M k = [] := by
  unfold wayA wayF; rw [if_neg h]
theorem wayF_len {F M : List Int} : ∀ (n k : Nat), (wayF F M n k).length ≤ n
  | 0, _ => by simp [wayF]
  | n + 1, k => by
    unfold wayF
    split
    · have := wayF_len (F := F) (M := M) n (gt F k).toNat
      simp; omega
    · simp

set_option maxHeartbeats 2000000 in
theorem specWay (B : Nat) (v7 v8 : Value) (F M : List Int) (k : Nat) (w : World) (h7 : Ints w B v7 F) (h8 : Ints w B v8 M) (hk : k < F.length) (hlen : M.length = F.length) (hF : ∀ j, j < F.length → gt F j < j) (hl : F.length ≤ 262144) :
    Calls Tryd.prog 27 #[v7, v8, .int .i64 k] w fun e w' => ∃ v, e = .returned v ∧ Ints w' w.heap.size v (wayA F M k) ∧ Below w.heap.size w w' := by
  obtain ⟨g7, n7, cap7, rfl, hn7, _, _, _, hg7, hc7⟩ := h7.form (by omega)
  obtain ⟨g8, n8, cap8, rfl, hn8, _, _, _, hg8, hc8⟩ := h8.form (by omega)
  have HC7 := Lib.hid hc7
  have HC8 := Lib.hid hc8
  have HF := Lib.hid hF
  have HN7 := Lib.hid hn7
  have HN8 := Lib.hid (hn8.trans (hlen.trans hn7.symm))
  have hkn : k < n7 := by omega
  have hn : n7 ≤ 262144 := by omega
  clear h7 h8 hc7 hc8 hF hn7 hn8 hlen hk hl
  go_enter Tryd.func27, Tryd.ntmps27
  go_wp2
  go_loopw [2, 7] (fun at_ out wr => ∃ (j : Nat) (acc : List Int), j < n7 ∧ at_ = .int .i64 j ∧ Hid (wayA F M j ++ acc = wayA F M k) ∧ Hid (Ints wr w.heap.size out acc) ∧ Hid (Below w.heap.size w wr)) (fun at_ _ _ => (intOf at_).toNat)
  case atStart => exact ⟨k, [], hkn, rfl, Lib.hid (by simp), Lib.hid (World.ownsRow_nil _ _ _ _), Lib.hid (Below.refl _ _)⟩
  case round =>
    obtain ⟨j, acc, hj, rfl, HA, hI, hB⟩ := hrel
    have hle := hB.out.size
    have c7 := (hB.out.cell (p := ⟨g7, j, none⟩) hg7).trans (HC7.out j hj)
    have n8e := HN8.out
    have c8 := (hB.out.cell (p := ⟨g8, j, none⟩) hg8).trans (HC8.out j (by omega))
    have hj7 : (j : Int) < n7 := by omega
    have hj8 : (j : Int) < n8 := by omega
    clear n8e
    by_cases h0 : 0 ≤ gt F j
    · obtain ⟨i, hi⟩ := Int.eq_ofNat_of_zero_le h0
      have hij := HF.out j (by rw [← HN7.out]; exact hj)
      have hij' : i < j := by omega
      have A := Lib.hid (show wayA F M i ++ (gt M j :: acc) = wayA F M k by
        rw [← HA.out, wayA_back HF.out (by rw [← HN7.out]; exact hj) hi]; simp)
      have hal : acc.length ≤ 262145 := by
        have := congrArg List.length HA.out
        have h2 : (wayA F M k).length ≤ k + 1 := wayF_len _ _
        rw [List.length_append] at this; omega
      rw [hi] at c7
      clear h0 hi hij
      generalize gt M j = z at *
      go_wp2_with (at_builtin; refine wpList_preI wr rfl _ _ rfl w.heap.size _ acc rfl hI.out z rfl (by omega) hle rfl ?_; intro v' w3 hI3 hb3; have c7' := (hb3.cell (p := ⟨g7, j, none⟩) (Nat.lt_of_lt_of_le hg7 hle)).trans c7; have HI3 := Lib.hid hI3; have B3 := Lib.hid (hB.out.trans (hb3.mono hle)); clear hI3 hb3)
      go_roundw
      case rel => exact ⟨i, z :: acc, by omega, rfl, A, HI3, B3⟩
      case measure => (simp [intOf]; try omega)
    · have A := Lib.hid (show acc = wayA F M k by rw [← HA.out, wayA_end h0]; rfl)
      have h0' : gt F j < 0 := by omega
      clear h0
      generalize gt F j = y at *
      go_wp2
      go_ret
      exact ⟨_, rfl, by rw [← A.out]; exact hI.out, hB.out⟩
end Go.Proofs.YteoggpollgkfiaaDoor
