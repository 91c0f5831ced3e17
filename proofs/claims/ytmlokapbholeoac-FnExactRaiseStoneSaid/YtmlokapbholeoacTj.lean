/- MirrorShore, both sides. -/
import Derived.Test.YtmlokapbholeoacTt
import Derived.Test.YtmlokapbholeoacSm
namespace Go.Proofs.Ytmlokapbholeoac
set_option linter.unusedVariables false
open Go.RowKit

theorem tx_st {s : ByteArray} {m : Nat} (hm : m ≤ 20) (h : isTx m s = true) : isSt s = true := by
  obtain ⟨h1, h2, h3⟩ := isTx_in h
  exact isSt_all h1 (by omega) h3
def mshV (s : ByteArray) : Value := if isTx 14 s then .tuple #[.string (mir s), .bool true] else .tuple #[.string ⟨#[]⟩, .bool false]
theorem mshV_no {s : ByteArray} (h : isTx 14 s = false) : mshV s = .tuple #[.string ⟨#[]⟩, .bool false] := by simp [mshV, h]
theorem mshV_yes {s : ByteArray} (h : isTx 14 s = true) : mshV s = .tuple #[.string (mir s), .bool true] := by simp [mshV, h]
theorem mshV_form (a : ByteArray) : ∃ s x, mshV a = .tuple #[.string s, .bool x] := by
  unfold mshV; split <;> exact ⟨_, _, rfl⟩
theorem specMsh (s : ByteArray) (w : World) (hs : s.size ≤ 1048576) :
    Calls Try.prog 12 #[.string s] w fun e w' => e = .returned (mshV s) ∧ Below w.heap.size w w' := by
  have T := fun wx => tdText14 s wx (by unfold maxLen; omega)
  cases h1 : isTx 14 s
  · have J := Lib.hid (mshV_no h1)
    rw [h1] at T
    have G := Lib.hid T
    clear h1 T
    go_enter Try.func12, Try.ntmps12
    go_wp2_with (go_at_call 20; refine (G.out _).mono ?_; rintro e w' ⟨rfl, rfl⟩)
    go_ret2
    exact ⟨ret_v J.out.symm, Below.refl _ _⟩
  · have J := Lib.hid (mshV_yes h1)
    obtain ⟨z1, z2, _⟩ := isTx_in h1
    rw [h1] at T
    have G := Lib.hid T
    clear h1 T
    refine Calls.mono (R := fun e w' => e = .returned (mshV s) ∧ w = w') ?_ (by rintro e w' ⟨rfl, rfl⟩; exact ⟨rfl, Below.refl _ _⟩)
    go_enter Try.func12, Try.ntmps12
    go_wp2_with (go_at_call 20; refine (G.out _).mono ?_; rintro e w' ⟨rfl, rfl⟩)
    go_loop [4, 5] (fun out i => ∃ (k : Nat) (o : ByteArray), k ≤ s.size ∧ i = .int .i64 (k - 1) ∧ out = .string o ∧ o.data.toList = (s.data.toList.drop k).reverse) (fun _ i => (intOf i + 1).toNat)
    case atStart => exact ⟨s.size, ⟨#[]⟩, Nat.le_refl _, rfl, rfl, by simp⟩
    case round =>
      obtain ⟨k, o, hk, rfl, rfl, ho0⟩ := hrel
      have hsz := mir_size hk ho0
      have ho := Lib.hid ho0
      clear ho0
      by_cases hlt : 0 < k
      · have hk1 : ¬ (9223372036854775807 < o.size + (k - (k - 1))) := by omega
        go_wp2
        go_round
        case rel => exact ⟨k - 1, o ++ s.extract (k - 1) k, by omega, by go_num, rfl, mir_step hlt hk ho.out⟩
        case measure => simp [intOf]; omega
      · obtain rfl : k = 0 := by omega
        go_wp2
        go_ret2
        exact ⟨ret_v (by rw [J.out]; simp [mir_end ho.out]), rfl⟩
theorem implMsh (s : ByteArray) (w : World) (hs : s.size ≤ 1048576) :
    Calls Try.prog 13 #[.string s] w fun e w' => e = .returned (mshV s) ∧ Below w.heap.size w w' := by
  have T := fun wx => implIsShore s wx (by unfold maxLen; omega)
  cases h1 : isTx 14 s
  · have J := Lib.hid (mshV_no h1)
    rw [h1] at T
    have G := Lib.hid T
    clear h1 T
    go_enter Try.func13, Try.ntmps13
    go_wp2_with fail
    refine (G.out _).mono ?_
    rintro e w1 ⟨rfl, hb1⟩
    go_wp2
    go_ret2
    exact ⟨ret_v J.out.symm, hb1⟩
  · have M := fun wx => implMirrorS s wx hs
    rw [mirSV_yes (tx_st (by omega) h1)] at M
    have HM := Lib.hid M
    have J := Lib.hid (mshV_yes h1)
    rw [h1] at T
    have G := Lib.hid T
    clear h1 T M
    go_enter Try.func13, Try.ntmps13
    go_wp2_with fail
    refine (G.out _).mono ?_
    rintro e w1 ⟨rfl, hb1⟩
    go_wp2_with fail
    refine (HM.out _).mono ?_
    rintro e w2 ⟨rfl, hb2⟩
    go_wp2
    go_ret2
    exact ⟨ret_v J.out.symm, hb1.trans (hb2.mono hb1.size)⟩
end Go.Proofs.Ytmlokapbholeoac
