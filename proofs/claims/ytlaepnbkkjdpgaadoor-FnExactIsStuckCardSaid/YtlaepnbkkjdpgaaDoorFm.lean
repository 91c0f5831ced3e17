/- FrogMoves and IsStuck, impl and spec. -/
import Derived.Test.YtlaepnbkkjdpgaaDoorMo
import Derived.Test.YtlaepnbkkjdpgaaDoorSl
namespace Go.Proofs.YtlaepnbkkjdpgaaDoor
set_option linter.unusedVariables false
open Go.RowKit

def movesL (s : ByteArray) : List Int := if isPd s then asI (moves s) else []
theorem movesL_no {s : ByteArray} (h : isPd s = false) : movesL s = [] := by simp [movesL, h]
theorem movesL_yes {s : ByteArray} (h : isPd s = true) : movesL s = asI (moves s) := by simp [movesL, h]
theorem moves_len (s : ByteArray) : (moves s).length ≤ s.size := mvTo_len s _
theorem movesL_len (s : ByteArray) : (movesL s).length ≤ 9 := by
  cases h : isPd s
  · rw [movesL_no h]; simp
  · rw [movesL_yes h, asI_len]; have := moves_len s; have := (isPd_in h).2.1; omega
def IntsPost (B : Nat) (zs : List Int) (ok : Bool) (w : World) (e : Ending) (w' : World) : Prop :=
  ∃ v, e = .returned (.tuple #[v, .bool ok]) ∧ Ints w' B v zs ∧ Below B w w'

theorem specFrogMoves (s : ByteArray) (w : World) (hs : s.size ≤ 1048576) :
    Calls Tryd.prog 10 #[.string s] w (IntsPost w.heap.size (movesL s) (isPd s) w) := by
  have hm : s.size ≤ maxLen := by unfold maxLen; omega
  cases h1 : isPd s
  · have J := Lib.hid (movesL_no h1)
    have G := Lib.hid h1
    clear h1
    go_enter Tryd.func10, Tryd.ntmps10
    go_wp2_with (go_at_call 28; refine (specFgGood _ _ hm).mono ?_; rintro e w' ⟨rfl, rfl⟩; rw [G.out])
    go_ret2
    exact ⟨_, rfl, by rw [J.out]; exact World.ownsRow_nil _ _ _ _, Below.refl _ _⟩
  · have J := Lib.hid (movesL_yes h1)
    have G := Lib.hid h1
    clear h1
    go_enter Tryd.func10, Tryd.ntmps10
    go_wp2_with (first
      | (go_at_call 28; refine (specFgGood _ _ hm).mono ?_; rintro e w' ⟨rfl, rfl⟩; rw [G.out])
      | (go_at_call 29; refine (specMoves s _ G.out).mono ?_; rintro e w1 ⟨v, rfl, hI, hb⟩))
    go_ret2
    exact ⟨_, rfl, by rw [J.out]; exact hI, hb⟩

theorem asI_take {l : List Nat} {j : Nat} (h : j < l.length) : asI (l.take (j + 1)) = asI (l.take j) ++ [((l.getD j 0 : Nat) : Int)] := by
  rw [List.take_succ_eq_append_getElem h, asI_snoc]; simp [h]
set_option maxHeartbeats 2000000 in
theorem implFrogMoves (s : ByteArray) (p : Addr) (w : World) (hs : s.size ≤ 1048576) (hL : Laid w p) :
    Calls Tryd.prog 11 #[.string s] w (IntsPost w.heap.size (movesL s) (isPd s) w) := by
  have hm : s.size ≤ maxLen := by unfold maxLen; omega
  cases h1 : isPd s
  · have J := Lib.hid (movesL_no h1)
    have G := Lib.hid h1
    clear h1
    go_enter Tryd.func11, Tryd.ntmps11
    go_wp2_with (go_at_call 30; refine (implIsPond _ _ hm).mono ?_; rintro e w' ⟨rfl, rfl⟩; rw [G.out])
    go_ret2
    exact ⟨_, rfl, by rw [J.out]; exact World.ownsRow_nil _ _ _ _, Below.refl _ _⟩
  · have J := Lib.hid (movesL_yes h1)
    have hlen := moves_len s
    have hz := (isPd_in h1).2.1
    have G := Lib.hid h1
    have HL := Lib.hid hL
    clear h1 hL
    go_enter Tryd.func11, Tryd.ntmps11
    go_wp2_with (first
      | (go_at_call 30; refine (implIsPond _ _ hm).mono ?_; rintro e w' ⟨rfl, rfl⟩; rw [G.out])
      | (go_at_call 31; refine (movesOf s p _ G.out HL.out).mono ?_; rintro e w1 ⟨v, rfl, hI, hb⟩; obtain ⟨a, n, cap, rfl, hn0, hcell0⟩ := hI.form; have HN := Lib.hid hn0; have HC := Lib.hid hcell0; have HB1 := Lib.hid hb; have hle1 := hb.size; clear hn0 hcell0 hI hb))
    have hn9 : n ≤ 9 := by have := HN.out; omega
    generalize hmv : moves s = l at *
    have HMV := Lib.hid hmv
    clear hmv
    go_loopw [4, 13] (fun v i wr => ∃ j : Nat, j ≤ n ∧ i = .int .i64 j ∧ Ints wr w1.heap.size v (asI (l.take j)) ∧ Below w1.heap.size w1 wr) (fun _ i _ => n - (intOf i).toNat)
    case atStart => exact ⟨0, Nat.zero_le _, rfl, World.ownsRow_nil _ _ _ _, Below.refl _ _⟩
    case round =>
      obtain ⟨j, hj, rfl, hI, hbw⟩ := hrel
      have hle := hbw.size
      have HI := Lib.hid hI
      have HB := Lib.hid hbw
      by_cases hlt : j < n
      · have R := Lib.hid (asI_take (l := l) (j := j) (by have := HN.out; omega))
        obtain ⟨g, rfl, hg1, hg2, hc0, hc1⟩ := HC.out j hlt
        have hc0 := (hbw.cell (p := ⟨g, j * 2, none⟩) hg2).trans hc0
        have hc1 := (hbw.cell (p := ⟨g, j * 2 + 1, none⟩) hg2).trans hc1
        have hgw : g < wr.heap.size := Nat.lt_of_lt_of_le hg2 hle
        generalize l.getD j 0 = x at *
        have hIA := hI.below ((Below.refl _ wr).alloc (Nat.le_refl _) (.cells #[.int .i64 (x : Int), .string (goes s x)] 45))
        have hBA := hbw.alloc hle (.cells #[.int .i64 (x : Int), .string (goes s x)] 45)
        have HIA := Lib.hid hIA
        have HBA := Lib.hid hBA
        clear hI hbw hIA hBA HC
        go_wp2_with (at_builtin; refine wpList_app' (wr.alloc (.cells #[.int .i64 (x : Int), .string (goes s x)] 45)) rfl _ _ rfl w1.heap.size _ (asI (l.take j)) rfl HIA.out (x : Int) (wr.heap.size + 1) rfl (by simp) (by rw [asI_len, List.length_take]; omega) (by simp; omega) rfl ?_; intro v' w3 hI3 hb3 hg3; have HB3 := Lib.hid (HBA.out.trans hb3); clear hb3 hg3)
        go_roundw
        case rel => exact ⟨j + 1, by omega, by go_num, by rw [R.out]; exact hI3, HB3.out⟩
        case measure => (simp [intOf]; try omega)
      · obtain rfl : j = n := by omega
        have e : l.take j = l := List.take_of_length_le (by have := HN.out; omega)
        rw [e] at hI
        go_wp2
        go_ret2
        exact ⟨_, rfl, by rw [J.out]; exact ints_mono' hI hle1, HB1.out.trans (hbw.mono hle1)⟩

def stuckB (s : ByteArray) : Bool := (moves s).isEmpty
theorem stuckB_yes {s : ByteArray} (h : (moves s).length = 0) : stuckB s = true := by unfold stuckB; rw [List.isEmpty_iff]; exact List.length_eq_zero_iff.1 h
theorem stuckB_no {s : ByteArray} (h : ¬ (moves s).length = 0) : stuckB s = false := by
  unfold stuckB; rw [Bool.eq_false_iff]; intro e; rw [List.isEmpty_iff] at e; rw [e] at h; exact h rfl
def stuckV (s : ByteArray) : Value := if isPd s then .tuple #[.bool (stuckB s), .bool true] else .tuple #[.bool false, .bool false]
theorem stuckV_no {s : ByteArray} (h : isPd s = false) : stuckV s = .tuple #[.bool false, .bool false] := by simp [stuckV, h]
theorem stuckV_yes {s : ByteArray} (h : isPd s = true) : stuckV s = .tuple #[.bool (stuckB s), .bool true] := by simp [stuckV, h]
theorem stuckV_form (s : ByteArray) : ∃ x y, stuckV s = .tuple #[.bool x, .bool y] := by unfold stuckV; split <;> exact ⟨_, _, rfl⟩

theorem isStuckPond (s : ByteArray) (p : Addr) (w : World) (hp : isPd s = true) (hL : Laid w p) :
    Calls Tryd.prog 36 #[.string s] w fun e w' => e = .returned (.bool (stuckB s)) ∧ Below w.heap.size w w' := by
  have HP := Lib.hid hp
  have HL := Lib.hid hL
  have hl := moves_len s
  have hz := (isPd_in hp).2.1
  clear hp hL
  by_cases h0 : (moves s).length = 0
  · have J := Lib.hid (stuckB_yes h0)
    have H0 := Lib.hid h0
    clear h0
    go_enter Tryd.func36, Tryd.ntmps36
    go_wp2_with (go_at_call 31; refine (movesOf s p _ HP.out HL.out).mono ?_; rintro e w1 ⟨v, rfl, hI, hb⟩; obtain ⟨a, n, cap, rfl, hn0, hcell0⟩ := hI.form; obtain rfl : n = 0 := (hn0.trans H0.out); clear hcell0 hI hn0)
    go_ret
    exact ⟨ret_bool J.out.symm, hb⟩
  · have J := Lib.hid (stuckB_no h0)
    have H0 := Lib.hid h0
    clear h0
    go_enter Tryd.func36, Tryd.ntmps36
    go_wp2_with (go_at_call 31; refine (movesOf s p _ HP.out HL.out).mono ?_; rintro e w1 ⟨v, rfl, hI, hb⟩; obtain ⟨a, n, cap, rfl, hn0, hcell0⟩ := hI.form; have h0 : ¬ n = 0 := (fun e => H0.out (hn0.symm.trans e)); have hq : ((n : Int) == 0) = false := (by simpa using h0); clear hcell0 hI hn0)
    go_ret
    exact ⟨ret_bool J.out.symm, hb⟩
theorem implIsStuck (s : ByteArray) (p : Addr) (w : World) (hs : s.size ≤ 1048576) (hL : Laid w p) :
    Calls Tryd.prog 21 #[.string s] w fun e w' => e = .returned (stuckV s) ∧ Below w.heap.size w w' := by
  have hm : s.size ≤ maxLen := by unfold maxLen; omega
  cases h1 : isPd s
  · have J := Lib.hid (stuckV_no h1)
    have G := Lib.hid h1
    clear h1
    go_enter Tryd.func21, Tryd.ntmps21
    go_wp2_with (go_at_call 30; refine (implIsPond _ _ hm).mono ?_; rintro e w' ⟨rfl, rfl⟩; rw [G.out])
    go_ret2
    exact ⟨ret_v J.out.symm, Below.refl _ _⟩
  · have J := Lib.hid (stuckV_yes h1)
    have G := Lib.hid h1
    have HL := Lib.hid hL
    clear h1 hL
    go_enter Tryd.func21, Tryd.ntmps21
    go_wp2_with (first
      | (go_at_call 30; refine (implIsPond _ _ hm).mono ?_; rintro e w' ⟨rfl, rfl⟩; rw [G.out])
      | (go_at_call 36; refine (isStuckPond s p _ G.out HL.out).mono ?_; rintro e w1 ⟨rfl, hb⟩))
    go_ret2
    exact ⟨ret_v J.out.symm, hb⟩
theorem specIsStuck (s : ByteArray) (w : World) (hs : s.size ≤ 1048576) :
    Calls Tryd.prog 20 #[.string s] w fun e w' => e = .returned (stuckV s) ∧ Below w.heap.size w w' := by
  have hm : s.size ≤ maxLen := by unfold maxLen; omega
  cases h1 : isPd s
  · have J := Lib.hid (stuckV_no h1)
    have G := Lib.hid h1
    clear h1
    go_enter Tryd.func20, Tryd.ntmps20
    go_wp2_with (go_at_call 28; refine (specFgGood _ _ hm).mono ?_; rintro e w' ⟨rfl, rfl⟩; rw [G.out])
    go_ret2
    exact ⟨ret_v J.out.symm, Below.refl _ _⟩
  · have J := Lib.hid (stuckV_yes h1)
    have G := Lib.hid h1
    have hl := moves_len s
    have hz := (isPd_in h1).2.1
    clear h1
    by_cases h0 : (moves s).length = 0
    · have J2 := Lib.hid (stuckB_yes h0)
      have H0 := Lib.hid h0
      clear h0
      go_enter Tryd.func20, Tryd.ntmps20
      go_wp2_with (first
        | (go_at_call 28; refine (specFgGood _ _ hm).mono ?_; rintro e w' ⟨rfl, rfl⟩; rw [G.out])
        | (go_at_call 29; refine (specMoves s _ G.out).mono ?_; rintro e w1 ⟨v, rfl, hI, hb⟩; obtain ⟨a, cap, rfl⟩ := hI.shut (by rw [asI_len]; exact H0.out); clear hI))
      go_ret2
      exact ⟨ret_v (by rw [J.out, J2.out]; rfl), hb⟩
    · have J2 := Lib.hid (stuckB_no h0)
      have H0 := Lib.hid h0
      have hpos : 0 < (asI (moves s)).length := by rw [asI_len]; omega
      clear h0
      go_enter Tryd.func20, Tryd.ntmps20
      go_wp2_with (first
        | (go_at_call 28; refine (specFgGood _ _ hm).mono ?_; rintro e w' ⟨rfl, rfl⟩; rw [G.out])
        | (go_at_call 29; refine (specMoves s _ G.out).mono ?_; rintro e w1 ⟨v, rfl, hI, hb⟩; obtain ⟨g, n, cap, rfl, hn, _, _, _, _, hcell⟩ := hI.form hpos; have hq : ((n : Int) == 0) = false := (by simp; omega); clear hcell hI hn))
      go_ret2
      exact ⟨ret_v (by rw [J.out, J2.out]; rfl), hb⟩
end Go.Proofs.YtlaepnbkkjdpgaaDoor
