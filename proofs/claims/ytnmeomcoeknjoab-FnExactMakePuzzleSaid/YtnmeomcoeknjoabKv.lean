/- What a clue tells of a river: spec.pzValue, pzFits. -/
import Derived.Test.YtnmeomcoeknjoabKr
import Derived.Test.YtnmeomcoeknjoabKd
import Derived.Test.YtnmeomcoeknjoabCsp
namespace Go.Proofs.Ytnmeomcoeknjoab
set_option linter.unusedVariables false
set_option maxRecDepth 100000
open Go.RowKit

theorem count_range (l : List UInt8) (x : UInt8) : l.count x = ((List.range l.length).filter fun j => l.getD j 0 == x).length := by
  have e : l = (List.range l.length).map (fun j => l.getD j 0) := by
    apply List.ext_getElem
    · simp
    · intro i h1 h2; simp [h1]
  conv => lhs; rw [e]
  rw [List.count, List.countP_map, List.countP_eq_length_filter]
  rfl
def stcTo (s : ByteArray) (k : Nat) : Nat := ((List.range k).filter fun j => stn s (j + 1)).length
theorem stcTo_0 (s : ByteArray) : stcTo s 0 = 0 := rfl
theorem stcTo_yes {s : ByteArray} {k : Nat} (h : stn s (k + 1) = true) : stcTo s (k + 1) = stcTo s k + 1 := by simp [stcTo, List.range_succ, List.filter_append, h]
theorem stcTo_no {s : ByteArray} {k : Nat} (h : stn s (k + 1) = false) : stcTo s (k + 1) = stcTo s k := by simp [stcTo, List.range_succ, List.filter_append, h]
theorem stcTo_le (s : ByteArray) (k : Nat) : stcTo s k ≤ k := by
  unfold stcTo; exact Nat.le_trans (List.length_filter_le _ _) (by simp)
theorem stcTo_end (s : ByteArray) : stcTo s s.size = stc s := by
  unfold stcTo stc
  rw [count_range]
  have e : s.data.toList.length = s.size := Array.length_toList
  rw [e]
  congr 1
  apply List.filter_congr
  intro j hj
  have : j < s.size := by simpa using hj
  simp [stn]; omega

theorem pzV_0 (a : Int) (s : ByteArray) (w : World) (hz : s.size ≤ 8) :
    Calls Try.prog 58 #[.int .i64 0, .int .i64 a, .string s] w fun e w' => e = .returned (.int .i64 (cval 0 a s)) ∧ Below w.heap.size w w' := by
  rw [cval_0, ← stcTo_end]
  go_enter Try.func58, Try.ntmps58
  go_wp2
  go_loopw [7, 8] (fun n i wr => ∃ k : Nat, k ≤ s.size ∧ i = .int .i64 ((k : Int) + 1) ∧ n = .int .i64 (stcTo s k : Int) ∧ wr = w) (fun _ i _ => s.size + 1 - (intOf i).toNat)
  case atStart => exact ⟨0, Nat.zero_le _, rfl, rfl, rfl⟩
  case round =>
    obtain ⟨k, hk, rfl, rfl, rfl⟩ := hrel
    by_cases hlt : k < s.size
    · have hlen := stcTo_le s k
      cases h2 : stn s (k + 1)
      · have R := Lib.hid (stcTo_no h2)
        have G2 := Lib.hid ((stand_in (by omega) (by omega)).trans h2)
        clear h2
        go_wp2_with (go_at_call 67; refine (rvStand s (k + 1) _ (by omega) (by omega)).mono ?_; rintro e w' ⟨rfl, rfl⟩; rw [G2.out])
        go_roundw
        case rel => exact ⟨k + 1, by omega, by go_num, by rw [R.out], by trivial⟩
        case measure => simp [intOf]; omega
      · have R := Lib.hid (stcTo_yes h2)
        have G2 := Lib.hid ((stand_in (by omega) (by omega)).trans h2)
        clear h2
        go_wp2_with (go_at_call 67; refine (rvStand s (k + 1) _ (by omega) (by omega)).mono ?_; rintro e w' ⟨rfl, rfl⟩; rw [G2.out])
        go_roundw
        case rel => exact ⟨k + 1, by omega, by go_num, by rw [R.out]; rfl, by trivial⟩
        case measure => simp [intOf]; omega
    · obtain rfl : k = s.size := by omega
      go_wp2
      go_ret
      exact ⟨rfl, Below.refl _ _⟩
theorem pzV_1 (p : Nat) (s : ByteArray) (w : World) (hz : s.size ≤ 8) (hp : 1 ≤ p ∧ p ≤ s.size) :
    Calls Try.prog 58 #[.int .i64 1, .int .i64 (p : Int), .string s] w fun e w' => e = .returned (.int .i64 (cval 1 p s)) ∧ Below w.heap.size w w' := by
  rw [cval_1, Int.toNat_natCast]
  cases h2 : stn s p
  all_goals
    have G2 := Lib.hid ((stand_in (by omega) (by omega)).trans h2)
    clear h2
    go_enter Try.func58, Try.ntmps58
    go_wp2_with (go_at_call 67; refine (rvStand s p _ (by omega) (by omega)).mono ?_; rintro e w' ⟨rfl, rfl⟩; rw [G2.out])
    go_ret
    exact ⟨by simp, Below.refl _ _⟩
theorem max0 (y : Int) : ((y < 0 ∧ (max 0 y).toNat = 0) ∨ (0 ≤ y ∧ y = (((max 0 y).toNat : Nat) : Int))) := by omega
theorem pzV_2 (l : Nat) (s : ByteArray) (w : World) (hv : isRv s = true) (hz : s.size ≤ 8) (hl : 1 ≤ l ∧ l ≤ 9) :
    Calls Try.prog 58 #[.int .i64 2, .int .i64 (l : Int), .string s] w fun e w' => e = .returned (.int .i64 (cval 2 l s)) ∧ Below w.heap.size w w' := by
  have h1 := asked_in hv (a := (l : Int)) (by omega)
  obtain ⟨_, hz1, hz2, hl1, hl2⟩ := asked_out h1
  have hp := leftL_pos h1
  have LL := Lib.hid (leftL_yes h1)
  have e0 : gt (leftL s l) 0 = gt (lefts s l) 0 := by rw [LL.out]; rfl
  have hp' : 0 < (lefts s l).length := by rw [LL.out] at hp; exact hp
  rw [cval_2, e0]
  clear hp e0 h1 hl1 hl2
  have hm : max 0 (gt (lefts s l) 0) = (((max 0 (gt (lefts s l) 0)).toNat : Nat) : Int) := by omega
  rw [hm]
  clear hm
  generalize hx : (max 0 (gt (lefts s l) 0)).toNat = x
  have HX := Lib.hid (max0 (gt (lefts s l) 0))
  rw [hx] at HX
  clear hx
  go_enter Try.func58, Try.ntmps58
  go_wp2_with (first
    | (go_at_call 69; refine (specRvLeft s l _ hz1 hz2 (by omega) (by omega)).mono ?_; rintro e w1 ⟨v, rfl, hI, hb⟩; obtain ⟨g, n, cap, rfl, hn, _, _, _, _, hcell⟩ := hI.form hp'; have hc := hcell 0 (by omega); clear hcell hI; have HN := Lib.hid hn; have hn0 : 0 < n := (by omega); clear hn)
    | (go_at_call 68; refine (most0 _ x _ HX.out).mono ?_; rintro e w' ⟨rfl, rfl⟩))
  go_ret
  exact ⟨rfl, hb⟩
theorem pzV_3 (a : Int) (s : ByteArray) (w : World) (hz : s.size ≤ 8) :
    Calls Try.prog 58 #[.int .i64 3, .int .i64 a, .string s] w fun e w' => e = .returned (.int .i64 (cval 3 a s)) ∧ Below w.heap.size w w' := by
  rw [cval_3]
  go_enter Try.func58, Try.ntmps58
  go_wp2_with (go_at_call 70; refine (specGap s _ (by omega)).mono ?_; rintro e w' ⟨rfl, rfl⟩)
  go_ret
  exact ⟨rfl, Below.refl _ _⟩
theorem pzV_5 (a : Int) (s : ByteArray) (w : World) (hz : s.size ≤ 8) :
    Calls Try.prog 58 #[.int .i64 5, .int .i64 a, .string s] w fun e w' => e = .returned (.int .i64 (cval 5 a s)) ∧ Below w.heap.size w w' := by
  rw [cval_5]
  go_enter Try.func58, Try.ntmps58
  go_wp2_with (go_at_call 70; refine (specGap s _ (by omega)).mono ?_; rintro e w' ⟨rfl, rfl⟩)
  go_ret
  exact ⟨rfl, Below.refl _ _⟩
set_option maxHeartbeats 2000000 in
theorem pzV_4 (l : Nat) (s : ByteArray) (w : World) (hz : s.size ≤ 8) (hl : 1 ≤ l ∧ l ≤ 9) :
    Calls Try.prog 58 #[.int .i64 4, .int .i64 (l : Int), .string s] w fun e w' => e = .returned (.int .i64 (cval 4 l s)) ∧ Below w.heap.size w w' := by
  rw [cval_4, Int.toNat_natCast]
  have LIM := Lib.hid (fun k hk => sumK_lim (s := s) (L := l) (p := s.size + 1) (k := k) (by omega) hk)
  have BIG := Lib.hid (fun k => waysK_big (s := s) (L := l) (k := k) (p := s.size + 1) (by omega))
  have ST := Lib.hid (sumK_s s l (s.size + 1))
  have HT := Lib.hid (show total s l = sumK s l (s.size + 1) (s.size + 2) from rfl)
  have FG := Lib.hid (fun j hj => fnL_gt (n := s.size + 2) (h := fun k => waysK s l k (s.size + 1)) (j := j) hj)
  have FL := Lib.hid (fnL_len (s.size + 2) (fun k => waysK s l k (s.size + 1)))
  obtain ⟨n, hn⟩ : ∃ n, n = s.size + 2 := ⟨_, rfl⟩
  have hn42 : n ≤ 42 := by omega
  have hn0 : 0 < n := by omega
  have HN := Lib.hid hn
  clear hn
  go_enter Try.func58, Try.ntmps58
  go_wp2_with (go_at_call 71; refine (specCount s l _ (by omega) (by omega)).mono ?_; rintro e w1 ⟨v, rfl, hI, hB⟩; rw [← HN.out] at hI FG FL HT; obtain ⟨g, n', cap, rfl, hn', hnc, hcm, hgb, hg2, hcell⟩ := hI.form (by rw [FL.out]; exact hn0); rw [FL.out] at hn'; rw [hn'] at hcell ⊢; clear hn'; have HC := Lib.hid hcell; clear hcell hI hnc hcm)
  go_loopw [7, 10, 56] (fun x _ i wr => ∃ j : Nat, j ≤ n ∧ i = .int .i64 j ∧ x = .int .i64 ((sumK s l (s.size + 1) j : Nat) : Int) ∧ wr = w1) (fun _ _ i _ => n - (intOf i).toNat)
  case atStart => exact ⟨0, by omega, rfl, rfl, rfl⟩
  case round =>
    obtain ⟨j, hj, rfl, rfl, rfl⟩ := hrel
    by_cases hlt : j < n
    · have hji : (j : Int) < n := by omega
      have c := HC.out j hlt
      rw [FG.out j hlt] at c
      have hb1 := LIM.out j (by omega)
      have hb2 := BIG.out j
      have hb3 := LIM.out (j + 1) (by omega)
      have HS := Lib.hid (show ((sumK s l (s.size + 1) j : Nat) : Int) + ((waysK s l j (s.size + 1) : Nat) : Int) = ((sumK s l (s.size + 1) (j + 1) : Nat) : Int) by
        rw [ST.out]; omega)
      go_wp2
      go_roundw
      case rel => exact ⟨j + 1, by omega, by go_num, by rw [← HS.out], by trivial⟩
      case measure => (simp [intOf]; try omega)
    · obtain rfl : j = n := by omega
      go_wp2
      go_ret
      exact ⟨by rw [HT.out]; rfl, hB⟩
/-- what is asked of a kind and an A -/
def okA (k a : Int) (s : ByteArray) : Prop := 0 ≤ k ∧ k ≤ 5 ∧ (k = 1 → 1 ≤ a ∧ a ≤ s.size) ∧ (k = 2 ∨ k = 4 → 1 ≤ a ∧ a ≤ 9)
theorem pzValue (k a : Int) (s : ByteArray) (w : World) (hv : isRv s = true) (hz : s.size ≤ 8) (h : okA k a s) :
    Calls Try.prog 58 #[.int .i64 k, .int .i64 a, .string s] w fun e w' => e = .returned (.int .i64 (cval k a s)) ∧ Below w.heap.size w w' := by
  obtain ⟨h0, h5, h1, h24⟩ := h
  obtain e | e | e | e | e | e : k = 0 ∨ k = 1 ∨ k = 2 ∨ k = 3 ∨ k = 4 ∨ k = 5 := by omega
  · subst e; exact pzV_0 a s w hz
  · have ha := h1 e
    obtain ⟨p, rfl⟩ : ∃ p : Nat, a = (p : Int) := ⟨a.toNat, by omega⟩
    subst e; exact pzV_1 p s w hz (by omega)
  · have ha := h24 (.inl e)
    obtain ⟨p, rfl⟩ : ∃ p : Nat, a = (p : Int) := ⟨a.toNat, by omega⟩
    subst e; exact pzV_2 p s w hv hz (by omega)
  · subst e; exact pzV_3 a s w hz
  · have ha := h24 (.inr e)
    obtain ⟨p, rfl⟩ : ∃ p : Nat, a = (p : Int) := ⟨a.toNat, by omega⟩
    subst e; exact pzV_4 p s w hz (by omega)
  · subst e; exact pzV_5 a s w hz

set_option maxHeartbeats 1000000 in
theorem pzFits (k a b : Int) (s : ByteArray) (w : World) (hv : isRv s = true) (hz : s.size ≤ 8) (h : okA k a s) :
    Calls Try.prog 35 #[.agg #[.int .i64 k, .int .i64 a, .int .i64 b], .string s] w fun e w' => e = .returned (.bool (cfit (k, a, b) s)) ∧ Below w.heap.size w w' := by
  have C := Lib.hid (fun wx => pzValue k a s wx hv hz h)
  have e : cfit (k, a, b) s = (cval k a s == b) := by rw [Bool.eq_iff_iff]; simp [cfit]
  rw [e]
  clear e h
  generalize cval k a s = x at *
  have X := Blk.new w #[.int .i64 k, .int .i64 a, .int .i64 b] 26
  have HX := Lib.hid X
  have c0 := X.cell 0
  have c1 := X.cell 1
  have c2 := X.cell 2
  have cl := X.lt
  simp only [List.getElem?_toArray, List.getElem?_cons_zero, List.getElem?_cons_succ] at c0 c1 c2
  clear X
  go_enter Try.func35, Try.ntmps35
  go_wp2
  go_region_with (first | (go_at_call 58; with_reducible refine (C.out _).mono ?_; rintro e w1 ⟨rfl, hb⟩; have HX1 := HX.out.drew.below hb (by have := HX.out.lt; simp; try omega); have d2 := HX1.cell 2; simp only [List.getElem?_toArray, List.getElem?_cons_zero, List.getElem?_cons_succ] at d2) | fail)
  all_goals
    have HB := Lib.hid (Below.trans (by (repeat (first | exact Below.refl _ _ | (refine Below.alloc ?_ (by first | omega | (simp; try omega)) _) | apply Below.drew | apply below_drewN))) (hb.mono (by simp; try omega)) : Below w.heap.size w w1)
    clear hb
    go_wp2
    go_ret
    exact ⟨rfl, HB.out⟩
end Go.Proofs.Ytnmeomcoeknjoab
