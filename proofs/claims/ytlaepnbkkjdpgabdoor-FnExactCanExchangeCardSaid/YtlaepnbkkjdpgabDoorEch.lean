/- CanExchange, impl and spec; slices.Index and Contains at strings. -/
import Derived.Test.YtlaepnbkkjdpgabDoorPr
import Derived.Test.YtlaepnbkkjdpgabDoorEx2
namespace Go.Proofs.YtlaepnbkkjdpgabDoor
set_option linter.unusedVariables false
open Go.RowKit

set_option maxHeartbeats 1000000 in
theorem idxS (B : Nat) (v : Value) (L : List ByteArray) (r : ByteArray) (w : World) (h : Strg w B v L) (hp : 0 < L.length) (hl : L.length ≤ 1048576) :
    Calls Tryd.prog 66 #[v, .string r] w fun e w' => e = .returned (.int .i64 (atI L r)) ∧ w = w' := by
  obtain ⟨g, n, cap, rfl, hn, _, _, hg1, hg2, hcell⟩ := h.form hp
  have HC := Lib.hid hcell
  have HN := Lib.hid hn
  rw [← hn] at hl hp
  clear hcell h hn
  go_enter Tryd.func66, Tryd.ntmps66
  go_wp2
  go_loop [8] (fun i => ∃ k : Nat, k ≤ n ∧ i = .int .i64 k ∧ Hid (k ≤ idxL L r)) (fun i => n - (intOf i).toNat)
  case atStart => exact ⟨0, Nat.zero_le _, rfl, Lib.hid (Nat.zero_le _)⟩
  case round =>
    obtain ⟨k, hk, rfl, HI⟩ := hrel
    by_cases hlt : k < n
    · have hc := HC.out k hlt
      have hki : (k : Int) < n := by omega
      by_cases e : gs L k = r
      · have R := Lib.hid (show atI L r = (k : Int) by
          have := idxL_hit (by rw [← HN.out]; exact hlt) HI.out e
          unfold atI; rw [this, if_pos (by rw [← HN.out]; exact hlt)])
        rw [e] at hc
        clear e
        go_wp2
        go_ret
        exact ⟨ret_w (by rw [R.out]; rfl), rfl⟩
      · have R := Lib.hid (idxL_miss (by rw [← HN.out]; exact hlt) HI.out e)
        have hne : (r.toList == (gs L k).toList) = false := by
          rw [beq_eq_false_iff_ne]
          intro h; rw [ByteArray.toList_eq, ByteArray.toList_eq] at h; exact e (bytes_eq h.symm)
        clear e
        generalize gs L k = x at *
        go_wp2
        go_round
        case rel => exact ⟨k + 1, by omega, by go_num, R⟩
        case measure => simp [intOf]; omega
    · have R := Lib.hid (show atI L r = -1 by
        have := HI.out; have := idxL_le L r; have := HN.out; unfold atI; rw [if_neg (by omega)])
      go_wp2
      go_ret
      exact ⟨ret_w (by rw [R.out]; rfl), rfl⟩
theorem hasS (B : Nat) (v : Value) (L : List ByteArray) (r : ByteArray) (w : World) (h : Strg w B v L) (hp : 0 < L.length) (hl : L.length ≤ 1048576) :
    Calls Tryd.prog 45 #[v, .string r] w fun e w' => e = .returned (.bool (decide (0 ≤ atI L r))) ∧ w = w' := by
  have H := Lib.hid (idxS B v L r w h hp hl)
  clear h hp hl
  generalize atI L r = a at *
  go_enter Tryd.func45, Tryd.ntmps45
  go_wp2_with (go_at_call 66; refine H.out.mono ?_; rintro e w' ⟨rfl, rfl⟩)
  go_ret
  exact ⟨rfl, rfl⟩

def ceV (s : ByteArray) : Value := if isPd s then .tuple #[.bool (decide (0 ≤ atI (reach s) (exB s))), .bool true] else .tuple #[.bool false, .bool false]
theorem ceV_no {s : ByteArray} (h : isPd s = false) : ceV s = .tuple #[.bool false, .bool false] := by simp [ceV, h]
theorem ceV_yes {s : ByteArray} (h : isPd s = true) : ceV s = .tuple #[.bool (decide (0 ≤ atI (reach s) (exB s))), .bool true] := by simp [ceV, h]
theorem ceV_form (s : ByteArray) : ∃ x y, ceV s = .tuple #[.bool x, .bool y] := by unfold ceV; split <;> exact ⟨_, _, rfl⟩

theorem implCan (s : ByteArray) (p : Addr) (w : World) (hs : s.size ≤ 1048576) (hL : Laid w p) :
    Calls Tryd.prog 21 #[.string s] w fun e w' => e = .returned (ceV s) ∧ Below w.heap.size w w' := by
  cases h1 : isPd s
  · have J := Lib.hid (ceV_no h1)
    have E := Lib.hid (exV_no h1)
    clear h1
    go_enter Tryd.func21, Tryd.ntmps21
    go_wp2_with (go_at_call 44; refine (implEx s _ hs).mono ?_; rintro e w1 ⟨rfl, hb1⟩; rw [E.out]; have HB1 := Lib.hid hb1; clear hb1)
    go_ret2
    exact ⟨ret_v J.out.symm, HB1.out⟩
  · have J := Lib.hid (ceV_yes h1)
    have E := Lib.hid (exV_yes h1)
    have G := Lib.hid h1
    have HL := Lib.hid hL
    have hp := reach_pos s
    have hl := reach_len h1
    clear h1 hL
    have HP := Lib.hid (fun wx (h : Laid wx p) => pondsFrom s p wx G.out h)
    generalize exB s = x at *
    generalize reach s = L at *
    go_enter Tryd.func21, Tryd.ntmps21
    go_wp2_with (first
      | (go_at_call 44; refine (implEx s _ hs).mono ?_; rintro e w1 ⟨rfl, hb1⟩; rw [E.out]; have HB1 := Lib.hid hb1; have hle1 := hb1.size; have L1 := Lib.hid (HL.out.below hb1); clear hb1)
      | (go_at_call 40; refine (HP.out _ L1.out).mono ?_; rintro e w2 ⟨v, rfl, hS, hb2⟩; have HB2 := Lib.hid (HB1.out.trans (hb2.mono hle1)); have HS := Lib.hid hS; clear hS hb2)
      | (go_at_call 45; refine (hasS _ _ L x _ HS.out hp (by omega)).mono ?_; rintro e w' ⟨rfl, rfl⟩))
    go_ret2
    exact ⟨ret_v (by rw [J.out]; rfl), HB2.out⟩
theorem specCan (s : ByteArray) (w : World) (hs : s.size ≤ 1048576) :
    Calls Tryd.prog 20 #[.string s] w fun e w' => e = .returned (ceV s) ∧ Below w.heap.size w w' := by
  have hm : s.size ≤ maxLen := by unfold maxLen; omega
  cases h1 : isPd s
  · have J := Lib.hid (ceV_no h1)
    have G := Lib.hid h1
    clear h1
    go_enter Tryd.func20, Tryd.ntmps20
    go_wp2_with (go_at_call 42; refine (specFgGood _ _ hm).mono ?_; rintro e w' ⟨rfl, rfl⟩; rw [G.out])
    go_ret2
    exact ⟨ret_v J.out.symm, Below.refl _ _⟩
  · have J := Lib.hid (ceV_yes h1)
    have G := Lib.hid h1
    have hp := reach_pos s
    have hl := reach_len h1
    have HP := Lib.hid (fun wx => specReach s wx G.out)
    have HX := Lib.hid (fun wx => specFgEx s wx G.out)
    clear h1
    generalize exB s = x at *
    have HA := Lib.hid (fun B v w h => specAt B v (reach s) x w h hp (by omega))
    generalize atI (reach s) x = k at *
    go_enter Tryd.func20, Tryd.ntmps20
    go_wp2_with (first
      | (go_at_call 42; refine (specFgGood _ _ hm).mono ?_; rintro e w' ⟨rfl, rfl⟩; rw [G.out])
      | (go_at_call 34; (with_reducible refine (HP.out _).mono ?_); rintro e w1 ⟨v6, v7, v8, v9, rfl, hS, _, _, _, hb1⟩; have HB1 := Lib.hid hb1; have hle1 := hb1.size; have HS := Lib.hid hS; clear hb1 hS)
      | (go_at_call 43; (with_reducible refine (HX.out _).mono ?_); intro e w2 h; obtain ⟨he, hb2⟩ := h; subst he; have HB2 := Lib.hid (HB1.out.trans (hb2.mono hle1)); have HS2 := Lib.hid (HS.out.below hb2); clear hb2)
      | (go_at_call 35; (with_reducible refine (HA.out _ _ _ HS2.out).mono ?_); rintro e w' ⟨rfl, rfl⟩))
    go_ret2
    exact ⟨ret_v (by rw [J.out]; rfl), HB2.out⟩
end Go.Proofs.YtlaepnbkkjdpgabDoor
