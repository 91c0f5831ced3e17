/- Lists of indices; the wood of some planks: impl.woodOf. -/
import Derived.Test.YtimbpfenpbkckabPk
namespace Go.Proofs.Ytimbpfenpbkckab
set_option linter.unusedVariables false
open Go.RowKit

/-- indices as a slice has them -/
def idx (l : List Nat) : List Int := l.map fun (j : Nat) => (j : Int)
theorem idx_len (l : List Nat) : (idx l).length = l.length := by simp [idx]
theorem idx_gt (l : List Nat) (j : Nat) : gt (idx l) j = ((l.getD j 0 : Nat) : Int) := by
  unfold gt idx
  rw [List.getD_eq_getElem?_getD, List.getElem?_map, List.getD_eq_getElem?_getD]
  cases l[j]? <;> simp
/-- the wood of the first k of some planks -/
def woodTo (ps : List Int) (is : List Nat) : Nat → Int
  | 0 => 0
  | k + 1 => woodTo ps is k + gt ps (is.getD k 0)
theorem woodTo_s (ps : List Int) (is : List Nat) (k : Nat) : woodTo ps is (k + 1) = woodTo ps is k + gt ps (is.getD k 0) := rfl
theorem woodTo_in {ps : List Int} {is : List Nat} (h : ∀ j, 0 ≤ gt ps j ∧ gt ps j ≤ 100) : ∀ k : Nat, 0 ≤ woodTo ps is k ∧ woodTo ps is k ≤ 100 * k
  | 0 => ⟨Int.le_refl _, by simp [woodTo]⟩
  | k + 1 => by
    have := woodTo_in (is := is) h k; have := h (is.getD k 0)
    rw [woodTo_s]; omega
def woodL (ps : List Int) (is : List Nat) : Int := woodTo ps is is.length
set_option maxHeartbeats 1000000 in
theorem woodOf (v u : Value) (ps : List Int) (is : List Nat) (w : World) (h : Rd w v ps) (h2 : Rd w u (idx is)) (hp : arePl ps = true) (hi : ∀ j, j < is.length → is.getD j 0 < ps.length) (hl : is.length ≤ 1000) :
    Calls Try.prog 46 #[v, u] w fun e w' => e = .returned (.int .i64 (woodL ps is)) ∧ w = w' := by
  have hin := arePl_in hp
  obtain ⟨b, off, n, c, rfl, hnz, hb, hcell⟩ := h.cellsP (by omega)
  obtain ⟨a2, m, c2, rfl, hmz, hcell2⟩ := h2.cells
  rw [idx_len] at hmz
  have HX := Lib.hid (arePl_any hp)
  have HC := Lib.hid hcell
  have HC2 := Lib.hid hcell2
  have HI := Lib.hid hi
  have HW := Lib.hid (fun k => woodTo_in (is := is) HX.out k)
  have HMZ := Lib.hid hmz
  have n7 : n ≤ 7 := by omega
  rw [← hmz] at hl
  rw [← hnz] at HI
  have R := Lib.hid (show woodL ps is = woodTo ps is m by rw [hmz]; rfl)
  clear h h2 hp hin hcell hcell2 hi hnz hmz
  go_enter Try.func46, Try.ntmps46
  go_wp2
  go_loop [5, 10] (fun s i => ∃ k : Nat, k ≤ m ∧ i = .int .i64 k ∧ s = .int .i64 (woodTo ps is k)) (fun _ i => m - (intOf i).toNat)
  case atStart => exact ⟨0, Nat.zero_le _, rfl, rfl⟩
  case round =>
    obtain ⟨k, hk, rfl, rfl⟩ := hrel
    by_cases hlt : k < m
    · obtain ⟨b2, off2, rfl, _, hc2⟩ := HC2.out k hlt
      rw [idx_gt] at hc2
      have hi := HI.out k (by have := HMZ.out; omega)
      have hc := HC.out _ hi
      have hw := HW.out k
      have hx := HX.out (is.getD k 0)
      have S := Lib.hid (woodTo_s ps is k)
      generalize is.getD k 0 = i at *
      generalize woodTo ps is k = s at *
      generalize gt ps i = x at *
      have hi2 : (i : Int) < n := by omega
      have hlt' : (k : Int) < m := by omega
      go_wp2
      go_round
      case rel => exact ⟨k + 1, by omega, by go_num, by rw [S.out]⟩
      case measure => (simp [intOf]; try omega)
    · obtain rfl : k = m := by omega
      go_wp2
      go_ret
      exact ⟨ret_w (by rw [R.out]; rfl), rfl⟩
end Go.Proofs.Ytimbpfenpbkckab
