/- spec.fgAt: the place of a pond in a list. -/
import Derived.Test.YteoggpollgkfiaaDoorBfs
import Derived.Test.YteoggpollgkfiaaDoorStg
import Derived.Laws.Strings
namespace Go.Proofs.YteoggpollgkfiaaDoor
set_option linter.unusedVariables false
open Go.RowKit

def idxL (L : List ByteArray) (r : ByteArray) : Nat := L.findIdx fun x => decide (x = r)
theorem idxL_le (L : List ByteArray) (r : ByteArray) : idxL L r ≤ L.length := List.findIdx_le_length
theorem idxL_hit {L : List ByteArray} {r : ByteArray} {i : Nat} (h : i < L.length) (hi : i ≤ idxL L r) (e : gs L i = r) : idxL L r = i := by
  rcases Nat.lt_or_ge i (idxL L r) with h1 | h1
  · have := List.not_of_lt_findIdx (p := fun x => decide (x = r)) (xs := L) h1
    have e2 : L[i] = r := by
      unfold gs at e; rw [List.getD_eq_getElem?_getD, List.getElem?_eq_getElem h] at e; exact e
    simp [e2] at this
  · omega
theorem idxL_miss {L : List ByteArray} {r : ByteArray} {i : Nat} (h : i < L.length) (hi : i ≤ idxL L r) (e : ¬ gs L i = r) : i + 1 ≤ idxL L r := by
  rcases Nat.lt_or_ge i (idxL L r) with h1 | h1
  · exact h1
  · exfalso
    have e1 : idxL L r = i := by omega
    have h2 : idxL L r < L.length := by omega
    have := List.findIdx_getElem (p := fun x => decide (x = r)) (xs := L) (w := h2)
    have e3 : L[idxL L r] = r := of_decide_eq_true this
    apply e
    unfold gs
    rw [List.getD_eq_getElem?_getD, List.getElem?_eq_getElem h]
    show L[i] = r
    simpa only [e1] using e3
theorem idxL_mem {L : List ByteArray} {r : ByteArray} : idxL L r < L.length ↔ r ∈ L := by
  unfold idxL
  rw [List.findIdx_lt_length]
  exact ⟨fun ⟨x, h1, h2⟩ => by have := of_decide_eq_true h2; subst this; exact h1, fun h => ⟨r, h, by simp⟩⟩
theorem idxL_new {L : List ByteArray} {r : ByteArray} (h : ¬ r ∈ L) : idxL L r = L.length := by
  have h1 := idxL_le L r
  have h2 : ¬ idxL L r < L.length := fun e => h (idxL_mem.1 e)
  omega
def atI (L : List ByteArray) (r : ByteArray) : Int := if idxL L r < L.length then (idxL L r : Int) else -1
theorem atI_in {L : List ByteArray} {r : ByteArray} (h : r ∈ L) : atI L r = idxL L r := by simp [atI, idxL_mem.2 h]
theorem atI_out {L : List ByteArray} {r : ByteArray} (h : ¬ r ∈ L) : atI L r = -1 := by
  have : ¬ idxL L r < L.length := fun e => h (idxL_mem.1 e)
  simp [atI, this]

set_option maxHeartbeats 1000000 in
theorem specAt (B : Nat) (v : Value) (L : List ByteArray) (r : ByteArray) (w : World) (h : Strg w B v L) (hp : 0 < L.length) (hl : L.length ≤ 1048576) :
    Calls Tryd.prog 26 #[v, .string r] w fun e w' => e = .returned (.int .i64 (atI L r)) ∧ w = w' := by
  obtain ⟨g, n, cap, rfl, hn, _, _, hg1, hg2, hcell⟩ := h.form hp
  have HC := Lib.hid hcell
  have HN := Lib.hid hn
  rw [← hn] at hl hp
  clear hcell h hn
  go_enter Tryd.func26, Tryd.ntmps26
  go_wp2
  go_loop [9] (fun i => ∃ k : Nat, k ≤ n ∧ i = .int .i64 k ∧ Hid (k ≤ idxL L r)) (fun i => n - (intOf i).toNat)
  case atStart => exact ⟨0, Nat.zero_le _, rfl, Lib.hid (Nat.zero_le _)⟩
  case round =>
    obtain ⟨k, hk, rfl, HI⟩ := hrel
    by_cases hlt : k < n
    · have hc := HC.out k hlt
      have hki : (k : Int) < n := by omega
      by_cases e : gs L k = r
      · have R := Lib.hid (show atI L r = (k : Int) by
          have := idxL_hit (by rw [← HN.out]; exact hlt) HI.out e
          unfold atI; rw [this, if_pos (by rw [← HN.out]; exact hlt)])
        rw [e] at hc
        clear e
        go_wp2
        go_ret
        exact ⟨ret_w (by rw [R.out]; rfl), rfl⟩
      · have R := Lib.hid (idxL_miss (by rw [← HN.out]; exact hlt) HI.out e)
        have hne : ((gs L k).toList == r.toList) = false := by
          rw [beq_eq_false_iff_ne]
          intro h; rw [ByteArray.toList_eq, ByteArray.toList_eq] at h; exact e (bytes_eq h)
        clear e
        generalize gs L k = x at *
        go_wp2
        go_round
        case rel => exact ⟨k + 1, by omega, by go_num, R⟩
        case measure => simp [intOf]; omega
    · have R := Lib.hid (show atI L r = -1 by
        have := HI.out; have := idxL_le L r; have := HN.out; unfold atI; rw [if_neg (by omega)])
      go_wp2
      go_ret
      exact ⟨ret_w (by rw [R.out]; rfl), rfl⟩
end Go.Proofs.YteoggpollgkfiaaDoor
