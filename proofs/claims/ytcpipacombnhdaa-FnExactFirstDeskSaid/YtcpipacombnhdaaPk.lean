/- Planks and gaps: which lists they are, which plank spans which gap; impl's and spec's words for it. -/
import Derived.Test.YtcpipacombnhdaaRv
import Derived.Test.YtcpipacombnhdaaSl
namespace Go.Proofs.Ytcpipacombnhdaa
set_option linter.unusedVariables false
open Go.RowKit

def arePl (zs : List Int) : Bool := inB (zs.length : Int) 1 7 && zs.all fun n => inB n 1 100
theorem inB_iff {n lo hi : Int} : inB n lo hi = true ↔ lo ≤ n ∧ n ≤ hi := by simp [inB]
theorem arePl_far {zs : List Int} (h : zs.length < 1 ∨ 7 < zs.length) : arePl zs = false := by
  unfold arePl; rw [inB_no (by omega)]; rfl
theorem all_bad {zs : List Int} {k : Nat} {lo hi : Int} (hk : k < zs.length) (h : inB (gt zs k) lo hi = false) : (zs.all fun n => inB n lo hi) = false := by
  rw [List.all_eq_false]
  exact ⟨_, gt_mem hk, by simp [h]⟩
theorem all_good {zs : List Int} {lo hi : Int} (h : ∀ j, j < zs.length → inB (gt zs j) lo hi = true) : (zs.all fun n => inB n lo hi) = true := by
  rw [List.all_eq_true]
  intro x hx
  obtain ⟨j, hj, rfl⟩ := List.getElem_of_mem hx
  have := h j hj
  have e : gt zs j = zs[j] := by simp [gt, hj]
  rw [e] at this; exact this
theorem arePl_bad {zs : List Int} {k : Nat} (hk : k < zs.length) (h : inB (gt zs k) 1 100 = false) : arePl zs = false := by
  unfold arePl; rw [all_bad hk h, Bool.and_false]
theorem arePl_good {zs : List Int} (h1 : 1 ≤ zs.length) (h2 : zs.length ≤ 7) (h : ∀ j, j < zs.length → inB (gt zs j) 1 100 = true) : arePl zs = true := by
  unfold arePl; rw [all_good h, inB_yes (by omega) (by omega)]; rfl
theorem arePl_in {zs : List Int} (h : arePl zs = true) : 1 ≤ zs.length ∧ zs.length ≤ 7 ∧ ∀ j, j < zs.length → 1 ≤ gt zs j ∧ gt zs j ≤ 100 := by
  unfold arePl at h
  rw [Bool.and_eq_true, inB_iff, List.all_eq_true] at h
  refine ⟨by omega, by omega, fun j hj => ?_⟩
  exact inB_iff.1 (h.2 _ (gt_mem hj))
theorem arePl_any {zs : List Int} (h : arePl zs = true) (j : Nat) : 0 ≤ gt zs j ∧ gt zs j ≤ 100 := by
  by_cases hj : j < zs.length
  · have := (arePl_in h).2.2 j hj; omega
  · have e : gt zs j = 0 := by simp [gt, hj]
    omega
theorem stepB {zs : List Int} {lo hi : Int} {k : Nat} (h : ∀ j, j < k → inB (gt zs j) lo hi = true) (h2 : inB (gt zs k) lo hi = true) : ∀ j, j < k + 1 → inB (gt zs j) lo hi = true := by
  intro j hj
  by_cases e : j = k
  · subst e; exact h2
  · exact h j (by omega)


set_option maxHeartbeats 1000000 in
theorem l1All (v : Value) (zs : List Int) (lo hi : Int) (w : World) (h : Rd w v zs) (hn : zs.length ≤ 1048576) :
    Calls Try.prog 44 #[v, .int .i64 lo, .int .i64 hi] w fun e w' => e = .returned (.bool (zs.all fun n => inB n lo hi)) ∧ w = w' := by
  obtain ⟨a, n, c, rfl, hnz, hcell⟩ := h.cells
  rw [← hnz] at hn
  have HN := Lib.hid hnz
  have HC := Lib.hid hcell
  clear h hcell hnz
  go_enter Try.func44, Try.ntmps44
  go_wp2
  go_loop [11] (fun i => ∃ k : Nat, k ≤ n ∧ i = .int .i64 k ∧ Hid (∀ j, j < k → inB (gt zs j) lo hi = true)) (fun i => n - (intOf i).toNat)
  case atStart => exact ⟨0, Nat.zero_le _, rfl, Lib.hid fun j h => absurd h (Nat.not_lt_zero _)⟩
  case round =>
    obtain ⟨k, hk, rfl, HA⟩ := hrel
    by_cases hlt : k < n
    · obtain ⟨b, off, rfl, hbw, hc⟩ := HC.out k hlt
      have hlt' : (k : Int) < n := by omega
      have B1 := Lib.hid (fun g => all_bad (zs := zs) (k := k) (lo := lo) (hi := hi) (by have := HN.out; omega) g)
      have B2 := Lib.hid (fun g => stepB HA.out g)
      generalize gt zs k = x at *
      cases hb : inB x lo hi
      · have R := Lib.hid (B1.out hb)
        have G := Lib.hid hb
        clear hb B1 B2
        go_wp2_with (go_at_call 42; refine (l1In _ _ _ _).mono ?_; rintro e w' ⟨rfl, rfl⟩; rw [G.out])
        go_ret
        exact ⟨ret_bool R.out.symm, rfl⟩
      · have R := Lib.hid (B2.out hb)
        have G := Lib.hid hb
        clear hb B1 B2
        go_wp2_with (go_at_call 42; refine (l1In _ _ _ _).mono ?_; rintro e w' ⟨rfl, rfl⟩; rw [G.out])
        go_round
        case rel => exact ⟨k + 1, by omega, by go_num, R⟩
        case measure => (simp [intOf]; try omega)
    · obtain rfl : k = n := by omega
      have R := Lib.hid (all_good (zs := zs) (lo := lo) (hi := hi) (fun j hj => HA.out j (by have := HN.out; omega)))
      go_wp2
      go_ret
      exact ⟨ret_bool R.out.symm, rfl⟩

/-- gaps, planks and a rest -/
def asks (gs ps : List Int) (r : Int) : Bool := arePl gs && arePl ps && inB r 0 10

def spanV (g p r : Int) : Value := if inB g 1 100 && inB p 1 100 && inB r 0 10 then .tuple #[.bool (decide (g + 2 * r ≤ p)), .bool true] else .tuple #[.bool false, .bool false]
theorem spanV_form (g p r : Int) : ∃ x y, spanV g p r = .tuple #[.bool x, .bool y] := by
  unfold spanV; split <;> exact ⟨_, _, rfl⟩
end Go.Proofs.Ytcpipacombnhdaa
