/- spec.l1Has at indices (taken out of XLs). -/
import Derived.Test.YtihdhgkknfohaadIx
namespace Go.Proofs.Ytihdhgkknfohaad
set_option linter.unusedVariables false
open Go.RowKit

theorem idx_has (l : List Nat) (k : Nat) : (l.contains k = true) ↔ ∃ j, j < l.length ∧ gt (idx l) j = (k : Int) := by
  rw [List.contains_iff_mem]
  constructor
  · intro h
    obtain ⟨j, hj, e⟩ := List.getElem_of_mem h
    refine ⟨j, hj, ?_⟩
    rw [idx_gt, List.getD_eq_getElem?_getD, List.getElem?_eq_getElem hj, e]; rfl
  · rintro ⟨j, hj, e⟩
    rw [idx_gt, List.getD_eq_getElem?_getD, List.getElem?_eq_getElem hj] at e
    have e' : ((l[j] : Nat) : Int) = (k : Int) := by simpa using e
    have : l[j] = k := by omega
    rw [← this]; exact List.getElem_mem _
set_option maxHeartbeats 1000000 in
theorem l1Has (v : Value) (l : List Nat) (k : Nat) (w : World) (h : Rd w v (idx l)) (hn : l.length ≤ 1000) :
    Calls Try.prog 33 #[v, .int .i64 k] w fun e w' => e = .returned (.bool (l.contains k)) ∧ w = w' := by
  obtain ⟨a, n, c, rfl, hnz, hcell⟩ := h.cells
  rw [idx_len] at hnz
  rw [← hnz] at hn
  have HC := Lib.hid hcell
  have HN := Lib.hid hnz
  have hh := idx_has l k
  generalize l.contains k = r at *
  have HI := Lib.hid hh
  clear h hcell hnz hh
  go_enter Try.func33, Try.ntmps33
  go_wp2
  go_loop [9] (fun i => ∃ j : Nat, j ≤ n ∧ i = .int .i64 j ∧ Hid (∀ q, q < j → gt (idx l) q ≠ (k : Int))) (fun i => n - (intOf i).toNat)
  case atStart => exact ⟨0, Nat.zero_le _, rfl, Lib.hid fun q hq => absurd hq (Nat.not_lt_zero _)⟩
  case round =>
    obtain ⟨j, hj, rfl, HA⟩ := hrel
    by_cases hlt : j < n
    · obtain ⟨b, off, rfl, hbw, hc⟩ := HC.out j hlt
      have hlt' : (j : Int) < n := by omega
      by_cases he : gt (idx l) j = (k : Int)
      · have R := Lib.hid (HI.out.2 ⟨j, by have := HN.out; omega, he⟩)
        rw [he] at hc
        go_wp2
        go_ret
        exact ⟨ret_bool R.out.symm, rfl⟩
      · have R : Hid (∀ q, q < j + 1 → gt (idx l) q ≠ (k : Int)) := Lib.hid (fun q hq => by
          by_cases e : q = j
          · subst e; exact he
          · exact HA.out q (by omega))
        generalize gt (idx l) j = x at *
        have he2 : (x == (k : Int)) = false := by simpa using he
        go_wp2
        go_round
        case rel => exact ⟨j + 1, by omega, by go_num, R⟩
        case measure => (simp [intOf]; try omega)
    · obtain rfl : j = n := by omega
      have R : Hid (r = false) := Lib.hid (by
        cases hc : r with
        | false => rfl
        | true =>
          obtain ⟨q, hq, e⟩ := HI.out.1 hc
          exact absurd e (HA.out q (by have := HN.out; omega)))
      go_wp2
      go_ret
      exact ⟨ret_bool R.out.symm, rfl⟩
end Go.Proofs.Ytihdhgkknfohaad
