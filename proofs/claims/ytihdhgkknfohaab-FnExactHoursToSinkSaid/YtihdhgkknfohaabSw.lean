/- WearAll, both sides; spec.siWear. -/
import Derived.Test.YtihdhgkknfohaabBy
import Derived.Test.YtihdhgkknfohaabSd
import Derived.Test.YtihdhgkknfohaabSv
import Derived.Test.YtihdhgkknfohaabSp
import Derived.Test.YtihdhgkknfohaabNu
namespace Go.Proofs.Ytihdhgkknfohaab
set_option linter.unusedVariables false
open Go.RowKit

/-- the digit of a stone that bears one step less -/
def wrC (c : UInt8) : UInt8 := if c = 48 then 48 else c - 1
theorem wrC_0 {c : UInt8} (h : (c.toNat : Int) = 48) : wrC c = c := by rw [(toNat_eq_iff c 48 (by omega)).1 h]; rfl
theorem wrC_n {c : UInt8} (h : 48 ≤ c.toNat) (h2 : c.toNat ≤ 57) : (wrC c).toNat = 48 + (c.toNat - 48 - 1) := by
  by_cases e : c = 48
  · subst e; rfl
  · have h3 : c.toNat ≠ 48 := fun h => e (UInt8.toNat.inj (by rw [h]; rfl))
    unfold wrC; rw [if_neg e]
    rw [UInt8.toNat_sub_of_le _ _ (by rw [UInt8.le_iff_toNat_le]; simp; omega)]
    simp; omega
theorem wrC_1 {c : UInt8} (h : 48 ≤ c.toNat) (h2 : c.toNat ≤ 57) (h3 : ¬ (c.toNat : Int) = 48) : (c.toNat : Int) - 1 = ((wrC c).toNat : Int) := by
  rw [wrC_n h h2]; omega
theorem wrC_dg {c : UInt8} (h : 48 ≤ c.toNat) (h2 : c.toNat ≤ 57) : wrC c = dg (c.toNat - 48 - 1) := by
  apply UInt8.toNat.inj
  rw [wrC_n h h2]; unfold dg; simp; omega
def wearB (s : ByteArray) : ByteArray := mapB wrC s
def wearV (s : ByteArray) : Value := if isSt s then .tuple #[.string (wearB s), .bool true] else .tuple #[.string ⟨#[]⟩, .bool false]
theorem wearV_no {s : ByteArray} (h : isSt s = false) : wearV s = .tuple #[.string ⟨#[]⟩, .bool false] := by simp [wearV, h]
theorem wearV_yes {s : ByteArray} (h : isSt s = true) : wearV s = .tuple #[.string (wearB s), .bool true] := by simp [wearV, h]
theorem wearV_form (a : ByteArray) : ∃ s x, wearV a = .tuple #[.string s, .bool x] := by
  unfold wearV; split <;> exact ⟨_, _, rfl⟩
theorem l1MostW (a b : Int) (w : World) :
    Calls Try.prog 59 #[.int .i64 a, .int .i64 b] w fun e w' => e = .returned (.int .i64 (max a b)) ∧ w = w' := by
  by_cases h : b < a
  · have e : max a b = a := by omega
    rw [e]
    go_enter Try.func59, Try.ntmps59
    go_wp2
    go_ret
    exact ⟨rfl, rfl⟩
  · have e : max a b = b := by omega
    rw [e]
    go_enter Try.func59, Try.ntmps59
    go_wp2
    go_ret
    exact ⟨rfl, rfl⟩
set_option maxHeartbeats 1000000 in
theorem siWear (s : ByteArray) (w : World) (hd : AllD s) (hs : s.size ≤ 20) :
    Calls Try.prog 46 #[.string s] w fun e w' => e = .returned (.string (wearB s)) ∧ Below w.heap.size w w' := by
  have HD := Lib.hid hd
  clear hd
  go_enter Try.func46, Try.ntmps46
  go_wp2
  go_loopw [3, 4] (fun out i wr => ∃ (k : Nat) (o : ByteArray), k ≤ s.size ∧ i = .int .i64 k ∧ out = .string o ∧ o.data.toList = (s.data.toList.take k).map wrC ∧ Below w.heap.size w wr) (fun _ i _ => s.size - (intOf i).toNat)
  case atStart => exact ⟨0, ⟨#[]⟩, Nat.zero_le _, rfl, rfl, by simp, Below.refl _ _⟩
  case round =>
    obtain ⟨k, o, hk, rfl, rfl, ho0, hbw⟩ := hrel
    have hsz := mapB_len hk ho0
    have HBW := Lib.hid hbw
    clear hbw
    by_cases hlt : k < s.size
    · have b1 : o.size + 1 ≤ 100 := by omega
      have hlt' : (k : Int) < s.size := by omega
      obtain ⟨d1, d2⟩ := HD.out k hlt
      have S := mapB_step hlt ho0 (wrC_dg d1 d2)
      obtain ⟨c, hc⟩ : ∃ c, c = s[k].toNat - 48 := ⟨_, rfl⟩
      rw [← hc] at S
      replace S := Lib.hid S
      have hx : s[k].toNat = 48 + c := by omega
      have c9 : c ≤ 9 := by omega
      have HM := Lib.hid (show max 0 (48 + (c : Int) - 48 - 1) = ((c - 1 : Nat) : Int) by omega)
      have N := Lib.hid (fun wx => l1Num (c - 1) wx (by omega))
      have D := Lib.hid (show Lib.decDigits (c - 1) = [dg (c - 1)] from Lib.decDigits_one (by omega))
      rw [D.out] at N
      have hbz : (bs [dg (c - 1)]).size = 1 := rfl
      have HE := Lib.hid (show (⟨#[dg (c - 1)]⟩ : ByteArray) = bs [dg (c - 1)] from rfl)
      rw [HE.out] at S
      clear hc ho0 HE
      generalize bs [dg (c - 1)] = z at *
      go_wp2_with (first
        | (go_at_call 59; refine (l1MostW _ _ _).mono ?_; rintro e w' ⟨rfl, rfl⟩; rw [HM.out])
        | (go_at_call 55; refine (N.out _).mono ?_; rintro e w2 ⟨rfl, hb2⟩))
      go_roundw
      case rel => exact ⟨k + 1, _, by omega, by go_num, rfl, S.out, HBW.out.trans (hb2.mono HBW.out.size)⟩
      case measure => (simp [intOf]; try omega)
    · obtain rfl : k = s.size := by omega
      have E := Lib.hid (mapB_end ho0)
      clear ho0
      go_wp2
      go_ret
      exact ⟨ret_v (by rw [E.out]; rfl), HBW.out⟩
set_option maxHeartbeats 4000000 in
theorem implWear (s : ByteArray) (w : World) (hs : s.size ≤ 1048576) :
    Calls Try.prog 47 #[.string s] w fun e w' => e = .returned (wearV s) ∧ Below w.heap.size w w' := by
  cases h1 : isSt s
  · have J := Lib.hid (wearV_no h1)
    have G := Lib.hid h1
    clear h1
    go_enter Try.func47, Try.ntmps47
    go_wp2_with (go_at_call 40; refine (implIsStrong _ _ (by unfold maxLen; omega)).mono ?_; rintro e w' ⟨rfl, rfl⟩; rw [G.out])
    go_ret2
    exact ⟨ret_v J.out.symm, Below.refl _ _⟩
  · have J := Lib.hid (wearV_yes h1)
    obtain ⟨z1, z2, hal⟩ := isSt_in h1
    have hcv := run_bytes_of_string (P := Try.prog) w 9 52 5 s Try.underlying9 Try.underlying52 Try.underlying5
    have hcap := grownCap_ge w s.size 0 5
    generalize grownCap w s.size 0 5 = cap at hcv hcap
    obtain ⟨C, hC⟩ : ∃ C, C = bytesRow s cap := ⟨_, rfl⟩
    rw [← hC] at hcv
    have hCs : s.size ≤ C.size := by rw [hC]; simp [bytesRow]
    have HB0 := Lib.hid (Byts.new w hC hCs)
    have HBA := Lib.hid (((Below.refl _ _).alloc (Nat.le_refl _) _).drew : Below w.heap.size w (w.alloc (.cells C 5 (C.size, C.size + 1))).drew)
    obtain ⟨l, hl⟩ : ∃ l, l = s.data.toList := ⟨_, rfl⟩
    have HL0 := Lib.hid (show l.length = s.size by rw [hl]; simp)
    have HEND := Lib.hid (show (⟨(l.map wrC).toArray⟩ : ByteArray) = wearB s by rw [hl]; rfl)
    have HD := Lib.hid (show ∀ j (hj : j < l.length), 48 ≤ l[j].toNat ∧ l[j].toNat ≤ 57 by
      subst hl; intro j hj; exact hal j (by simpa using hj))
    rw [← hl] at HB0
    have G := Lib.hid h1
    clear h1 hC hal hl
    go_enter Try.func47, Try.ntmps47
    go_wp2_with (go_at_call 40; refine (implIsStrong _ _ (by unfold maxLen; omega)).mono ?_; rintro e w' ⟨rfl, rfl⟩; rw [G.out])
    go_loopw [14] (fun i wr => ∃ k : Nat, k ≤ s.size ∧ i = .int .i64 k ∧ Byts wr w.heap.size (mapTo wrC l k) ∧ Below w.heap.size w wr) (fun i _ => s.size - (intOf i).toNat)
    case atStart => exact ⟨0, Nat.zero_le _, rfl, by rw [mapTo_0]; exact HB0.out, HBA.out⟩
    case round =>
      obtain ⟨k, hk, rfl, hB, hbw⟩ := hrel
      by_cases hlt : k < s.size
      · have hkr : k < l.length := by rw [HL0.out]; exact hlt
        obtain ⟨c1, f1⟩ := hB k (by rw [mapTo_len]; exact hkr)
        rw [mapTo_at hkr] at c1
        obtain ⟨d1, d2⟩ := HD.out k hkr
        have E := Lib.hid (mapTo_succ (f := wrC) hkr)
        have E2 := Lib.hid (fun h => mapTo_same (f := wrC) hkr h)
        have hki : (k : Int) < s.size := by omega
        have S := Lib.hid (fun (z : Int) (hz : z = ((wrC l[k]).toNat : Int)) => hB.set' (j := k) (by rw [mapTo_len]; exact hkr) (wrC l[k]) z hz)
        have HB := Lib.hid hB
        have HBW := Lib.hid hbw
        clear hB hbw
        generalize l[k] = x at *
        by_cases hc : (x.toNat : Int) = 48
        · have T := Lib.hid (wrC_0 hc)
          rw [hc] at c1
          clear hc
          go_wp2
          go_roundw
          case rel => exact ⟨k + 1, by omega, by go_num, by rw [← E2.out T.out]; exact HB.out, HBW.out⟩
          case measure => (simp [intOf]; try omega)
        · have T := Lib.hid (S.out _ (wrC_1 d1 d2 hc))
          have hx1 : 1 ≤ (x.toNat : Int) := by omega
          go_wp2
          go_roundw
          case rel => exact ⟨k + 1, by omega, by go_num, by rw [← E.out]; exact T.out, HBW.out.setCell (Nat.le_refl _) _⟩
          case measure => (simp [intOf]; try omega)
      · obtain rfl : k = s.size := by omega
        rw [mapTo_end wrC (by rw [HL0.out]; exact Nat.le_refl _)] at hB
        have hb := fun x => hB.back x
        rw [List.length_map, HL0.out, HEND.out] at hb
        have HBW := Lib.hid hbw
        clear hB hbw
        go_wp2
        go_ret2
        exact ⟨ret_v J.out.symm, HBW.out⟩
end Go.Proofs.Ytihdhgkknfohaab
