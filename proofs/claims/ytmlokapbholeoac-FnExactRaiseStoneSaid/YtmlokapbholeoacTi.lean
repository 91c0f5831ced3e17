/- RaiseStone, both sides. -/
import Derived.Test.YtmlokapbholeoacTj
import Derived.Test.YtmlokapbholeoacSmk
namespace Go.Proofs.Ytmlokapbholeoac
set_option linter.unusedVariables false
open Go.RowKit

def raiV (s : ByteArray) (p b : Int) : Value := if isTx 14 s then strV s p b else .tuple #[.string ⟨#[]⟩, .bool false]
theorem raiV_no {s : ByteArray} {p b : Int} (h : isTx 14 s = false) : raiV s p b = .tuple #[.string ⟨#[]⟩, .bool false] := by simp [raiV, h]
theorem raiV_yes {s : ByteArray} {p b : Int} (h : isTx 14 s = true) : raiV s p b = strV s p b := by simp [raiV, h]
theorem raiV_form (s : ByteArray) (p b : Int) : ∃ x z, raiV s p b = .tuple #[.string x, .bool z] := by
  unfold raiV; split
  · exact strV_form _ _ _
  · exact ⟨_, _, rfl⟩
theorem implRai (s : ByteArray) (p b : Int) (w : World) (hs : s.size ≤ 1048576) (hbw : -9223372036854775808 ≤ b ∧ b ≤ 9223372036854775807) :
    Calls Try.prog 9 #[.string s, .int .i64 p, .int .i64 b] w fun e w' => e = .returned (raiV s p b) ∧ Below w.heap.size w w' := by
  have T := fun wx => implIsShore s wx (by unfold maxLen; omega)
  cases h1 : isTx 14 s
  · have J := Lib.hid (raiV_no (p := p) (b := b) h1)
    rw [h1] at T
    have G := Lib.hid T
    clear h1 T
    go_enter Try.func9, Try.ntmps9
    go_wp2_with fail
    refine (G.out _).mono ?_
    rintro e w1 ⟨rfl, hb1⟩
    go_wp2
    go_ret2
    exact ⟨ret_v J.out.symm, hb1⟩
  · have M := fun wx => implStr s p b wx hs hbw
    rw [← raiV_yes h1] at M
    obtain ⟨x, z, hv⟩ := raiV_form s p b
    rw [hv] at M ⊢
    have HM := Lib.hid M
    rw [h1] at T
    have G := Lib.hid T
    clear h1 T M hv
    go_enter Try.func9, Try.ntmps9
    go_wp2_with fail
    refine (G.out _).mono ?_
    rintro e w1 ⟨rfl, hb1⟩
    go_wp2_with fail
    refine (HM.out _).mono ?_
    rintro e w2 ⟨rfl, hb2⟩
    go_wp2
    go_ret2
    exact ⟨rfl, hb1.trans (hb2.mono hb1.size)⟩
set_option maxHeartbeats 2000000 in
theorem specRai (s : ByteArray) (p b : Int) (w : World) (hs : s.size ≤ 1048576) :
    Calls Try.prog 8 #[.string s, .int .i64 p, .int .i64 b] w fun e w' => e = .returned (raiV s p b) ∧ Below w.heap.size w w' := by
  have T := fun wx => tdText14 s wx (by unfold maxLen; omega)
  cases h : isTx 14 s
  · have J := Lib.hid (raiV_no (p := p) (b := b) h)
    rw [h] at T
    have G := Lib.hid T
    clear h T
    go_enter Try.func8, Try.ntmps8
    go_wp2_with (go_at_call 20; refine (G.out _).mono ?_; rintro e w' ⟨rfl, rfl⟩)
    go_ret2
    exact ⟨ret_v J.out.symm, Below.refl _ _⟩
  have R0 := raiV_yes (p := p) (b := b) h
  rw [h] at T
  have G := Lib.hid T
  have hst := tx_st (by omega) h
  cases h2 : inB p 1 s.size
  · have J := Lib.hid (R0.trans (strV_2 (s := s) (b := b) h2))
    have G2 := Lib.hid h2
    clear h h2 T R0
    go_enter Try.func8, Try.ntmps8
    go_wp2_with (first
      | (go_at_call 20; refine (G.out _).mono ?_; rintro e w' ⟨rfl, rfl⟩)
      | (go_at_call 21; refine (l1In _ _ _ _).mono ?_; rintro e w' ⟨rfl, rfl⟩; rw [G2.out]))
    go_ret2
    exact ⟨ret_v J.out.symm, Below.refl _ _⟩
  have G2 := Lib.hid h2
  cases h3 : inB b 1 9
  · have J := Lib.hid (R0.trans (strV_3 (s := s) (p := p) h3))
    have G3 := Lib.hid h3
    clear h h2 h3 T R0
    go_enter Try.func8, Try.ntmps8
    go_wp2_with (first
      | (go_at_call 20; refine (G.out _).mono ?_; rintro e w' ⟨rfl, rfl⟩)
      | (go_at_call 21; refine (l1In _ _ _ _).mono ?_; rintro e w' ⟨rfl, rfl⟩; first | rw [G2.out] | rw [G3.out]))
    go_ret2
    exact ⟨ret_v J.out.symm, Below.refl _ _⟩
  have G3 := Lib.hid h3
  obtain ⟨z1, z2, hd⟩ := isSt_in hst
  have hp : 1 ≤ p ∧ p ≤ s.size := by simpa [inB] using h2
  have hb : 1 ≤ b ∧ b ≤ 9 := by simpa [inB] using h3
  obtain ⟨k, rfl⟩ : ∃ k : Nat, p = (k : Int) + 1 := ⟨(p - 1).toNat, by omega⟩
  obtain ⟨m, rfl⟩ : ∃ m : Nat, b = (m : Int) := ⟨b.toNat, by omega⟩
  have hk : k < s.size := by omega
  have J0 := R0.trans (strV_4 (s := s) (k := k) (b := m) hst hk (by omega) (by omega))
  have hx := dD_byte hd hk
  have hl := dD_le hd k
  have hk' : (k : Int) < s.size := by omega
  have e1 : (k : Int) + 1 - 1 = k := by omega
  have k1 : (k : Int) ≤ s.size := by omega
  have k2 : (k : Int) + 1 ≤ s.size := by omega
  have k3 : k ≤ s.size := by omega
  have k4 : k + 1 ≤ s.size := by omega
  clear h h2 h3 T R0 hst hp
  by_cases h : 9 < dD s k + m
  · have J := Lib.hid (J0.trans (moreV_no (s := s) (k := k) h))
    have h' : 9 < 48 + (dD s k : Int) - 48 + m := by omega
    have h6 : m ≤ 9 := by omega
    generalize dD s k = c at *
    clear hd J0 hb
    go_enter Try.func8, Try.ntmps8
    go_wp2_with (first
      | (go_at_call 20; refine (G.out _).mono ?_; rintro e w' ⟨rfl, rfl⟩)
      | (go_at_call 21; refine (l1In _ _ _ _).mono ?_; rintro e w' ⟨rfl, rfl⟩; first | rw [G2.out] | rw [G3.out]))
    go_ret2
    exact ⟨ret_v J.out.symm, Below.refl _ _⟩
  · have J := J0.trans (moreV_yes (s := s) (k := k) (n := dD s k + m) (by omega))
    have E := setB_cat (s := s) (k := k + 1) (c := dg (dD s k + m)) (by omega) (by omega)
    have h' : ¬ 9 < 48 + (dD s k : Int) - 48 + m := by omega
    have h6 : m ≤ 9 := by omega
    have N := fun wx => l1Num (dD s k + m) wx (by omega)
    rw [show Lib.decDigits (dD s k + m) = [dg (dD s k + m)] from Lib.decDigits_one (by omega)] at N
    have HN := Lib.hid (show ((dD s k + m : Nat) : Int) = 48 + (dD s k : Int) - 48 + m by omega)
    rw [HN.out] at N
    unfold moreB at J
    have hz : (bs [dg (dD s k + m)]).size = 1 := rfl
    rw [show (⟨#[dg (dD s k + m)]⟩ : ByteArray) = bs [dg (dD s k + m)] from rfl, Nat.add_sub_cancel] at E
    rw [← E] at J
    generalize bs [dg (dD s k + m)] = z at *
    have HJ := Lib.hid J
    have NN := Lib.hid N
    generalize raiV s ((k : Int) + 1) (m : Int) = res at *
    generalize dD s k = c at *
    clear hd E J N HN J0 hb
    have hw : IntKind.i64.wrap ((k : Int) + 1 - 1) = (k : Int) := by rw [e1]; exact IntWalk.i64_in _ (by omega)
    have hw2 : IntKind.i64.wrap (k : Int) = (k : Int) := IntWalk.i64_in _ (by omega)
    have k0 : (0 : Int) ≤ k := by omega
    have k00 : (0 : Int) ≤ (k : Int) + 1 := by omega
    go_enter Try.func8, Try.ntmps8
    go_wp2_with (first
      | (go_at_call 20; refine (G.out _).mono ?_; rintro e w' ⟨rfl, rfl⟩)
      | (go_at_call 21; refine (l1In _ _ _ _).mono ?_; rintro e w' ⟨rfl, rfl⟩; first | rw [G2.out] | rw [G3.out]))
    go_region_with (go_at_call 22; refine (NN.out _).mono ?_; rintro e w2 ⟨rfl, hb2⟩)
    all_goals
      go_wp2
      go_ret2
      exact ⟨ret_v HJ.out.symm, Below.trans (by (repeat (first | exact Below.refl _ _ | (refine Below.alloc ?_ (by first | omega | (simp; try omega)) _) | apply Below.drew | apply below_drewN))) hb2⟩
end Go.Proofs.Ytmlokapbholeoac
