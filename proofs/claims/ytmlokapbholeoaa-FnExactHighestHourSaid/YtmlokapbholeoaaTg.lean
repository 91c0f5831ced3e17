/- HighestHour, both sides. -/
import Derived.Test.YtmlokapbholeoaaTy
namespace Go.Proofs.Ytmlokapbholeoaa
set_option linter.unusedVariables false
open Go.RowKit

/-- the first of the first k hours at which water stands highest -/
def hiI (t : ByteArray) : Nat → Nat
  | 0 => 0
  | k + 1 => if bt t (hiI t k) < bt t k then k else hiI t k
theorem hiI_yes {t : ByteArray} {k : Nat} (h : bt t (hiI t k) < bt t k) : hiI t (k + 1) = k := by
  show (if _ then _ else _) = _; rw [if_pos h]
theorem hiI_no {t : ByteArray} {k : Nat} (h : ¬ bt t (hiI t k) < bt t k) : hiI t (k + 1) = hiI t k := by
  show (if _ then _ else _) = _; rw [if_neg h]
theorem hiI_lt (t : ByteArray) : ∀ k, 0 < k → hiI t k < k
  | 0, h => absurd h (Nat.lt_irrefl _)
  | k + 1, _ => by
    by_cases h : bt t (hiI t k) < bt t k
    · rw [hiI_yes h]; omega
    · rw [hiI_no h]
      by_cases h0 : 0 < k
      · have := hiI_lt t k h0; omega
      · obtain rfl : k = 0 := by omega
        simp [hiI]
def hiV (t : ByteArray) : Value := if isTx 12 t then .tuple #[.int .i64 ((bt t (hiI t t.size) : Int) - 48), .int .i64 (hiI t t.size : Int), .bool true] else .tuple #[.int .i64 0, .int .i64 0, .bool false]
theorem hiV_no {t : ByteArray} (g : isTx 12 t = false) : hiV t = .tuple #[.int .i64 0, .int .i64 0, .bool false] := by simp [hiV, g]
theorem hiV_yes {t : ByteArray} (g : isTx 12 t = true) : hiV t = .tuple #[.int .i64 ((bt t (hiI t t.size) : Int) - 48), .int .i64 (hiI t t.size : Int), .bool true] := by simp [hiV, g]
theorem hiV_form (t : ByteArray) : ∃ x y b, hiV t = .tuple #[.int .i64 x, .int .i64 y, .bool b] := by
  unfold hiV; split <;> exact ⟨_, _, _, rfl⟩
set_option maxHeartbeats 1000000 in
theorem specHi (t : ByteArray) (w : World) (hs : t.size ≤ 1048576) :
    Calls Try.prog 25 #[.string t] w fun e w' => e = .returned (hiV t) ∧ Below w.heap.size w w' := by
  have G := fun wx => tdText12 t wx (by unfold maxLen; omega)
  cases hg : isTx 12 t
  · have J := Lib.hid (hiV_no hg)
    rw [hg] at G
    have HG := Lib.hid G
    clear G hg
    go_enter Try.func25, Try.ntmps25
    go_wp2_with (go_at_call 27; refine (HG.out _).mono ?_; rintro e w' ⟨rfl, rfl⟩)
    go_ret3
    exact ⟨ret_v J.out.symm, Below.refl _ _⟩
  · have J := Lib.hid (hiV_yes hg)
    obtain ⟨z1, z2, hal⟩ := isTx_in hg
    have HAL := Lib.hid hal
    rw [hg] at G
    have HG := Lib.hid G
    clear G hg hal
    go_enter Try.func25, Try.ntmps25
    go_wp2_with (go_at_call 27; refine (HG.out _).mono ?_; rintro e w' ⟨rfl, rfl⟩)
    go_loopw [5, 6] (fun a i wr => ∃ k : Nat, k < t.size ∧ i = .int .i64 ((k : Int) + 1) ∧ a = .int .i64 (hiI t (k + 1) : Int) ∧ Below w.heap.size w wr) (fun _ i _ => t.size + 1 - (intOf i).toNat)
    case atStart => exact ⟨0, by omega, rfl, by simp [hiI], Below.refl _ _⟩
    case round =>
      obtain ⟨k, hk, rfl, rfl, hbw⟩ := hrel
      have hl := hiI_lt t (k + 1) (by omega)
      by_cases hlt : k + 1 < t.size
      · have hlt' : (k : Int) + 1 < t.size := by omega
        have hm : hiI t (k + 1) < t.size := by omega
        have HB := Lib.hid hbw
        have b1 := bt_at hlt
        have b2 := bt_at hm
        have e1 : ((k : Int) + 1).toNat = k + 1 := by omega
        have k0 : (0 : Int) ≤ (k : Int) + 1 := by omega
        have k1 : (0 : Int) ≤ (hiI t (k + 1) : Int) := by omega
        have k2 : (hiI t (k + 1) : Int) < t.size := by omega
        clear hbw
        by_cases hc : bt t (hiI t (k + 1)) < bt t (k + 1)
        · have R := Lib.hid (hiI_yes hc)
          have hc' : (t[hiI t (k + 1)].toNat : Int) < (t[k + 1].toNat : Int) := by omega
          generalize hiI t (k + 1) = m at *
          clear b1 b2 hc
          go_wp2
          go_quiet (fail)
          go_wp2
          go_roundw
          case rel => exact ⟨k + 1, by omega, by go_num, by rw [R.out]; rfl, below_drewN HB.out _⟩
          case measure => simp [intOf]; omega
        · have R := Lib.hid (hiI_no hc)
          have hc' : ¬ (t[hiI t (k + 1)].toNat : Int) < (t[k + 1].toNat : Int) := by omega
          generalize hiI t (k + 1) = m at *
          clear b1 b2 hc
          go_wp2
          go_quiet (fail)
          go_wp2
          go_roundw
          case rel => exact ⟨k + 1, by omega, by go_num, by rw [R.out], below_drewN HB.out _⟩
          case measure => simp [intOf]; omega
      · obtain ⟨n, hn⟩ : ∃ n, n = t.size := ⟨_, rfl⟩
        have hkn : k + 1 = t.size := by omega
        have hlt' : ¬ (k : Int) + 1 < t.size := by omega
        have hm : hiI t (k + 1) < t.size := by omega
        have J2 := J.out
        rw [← hkn, ← bt_at hm] at J2
        have hb := HAL.out _ hm
        have HB := Lib.hid hbw
        have J3 := Lib.hid J2
        clear hbw J J2 hn
        generalize hiI t (k + 1) = m at *
        have k1 : (0 : Int) ≤ (m : Int) := by omega
        have k2 : (m : Int) < t.size := by omega
        clear hkn
        go_wp2
        go_ret3
        exact ⟨ret_v J3.out.symm, HB.out⟩
set_option maxHeartbeats 1000000 in
theorem implHi (t : ByteArray) (w : World) (hs : t.size ≤ 1048576) :
    Calls Try.prog 26 #[.string t] w fun e w' => e = .returned (hiV t) ∧ Below w.heap.size w w' := by
  have G := fun wx => implIsTide t wx (by unfold maxLen; omega)
  cases hg : isTx 12 t
  · have J := Lib.hid (hiV_no hg)
    rw [hg] at G
    have HG := Lib.hid G
    clear G hg
    go_enter Try.func26, Try.ntmps26
    go_wp2_with fail
    refine (HG.out _).mono ?_
    rintro e w1 ⟨rfl, hb1⟩
    go_wp2
    go_ret3
    exact ⟨ret_v J.out.symm, hb1⟩
  · have J := Lib.hid (hiV_yes hg)
    obtain ⟨z1, z2, hal⟩ := isTx_in hg
    have HAL := Lib.hid hal
    rw [hg] at G
    have HG := Lib.hid G
    clear G hg hal
    go_enter Try.func26, Try.ntmps26
    go_wp2_with fail
    refine (HG.out _).mono ?_
    rintro e w1 ⟨rfl, hb1⟩
    have B1 := Lib.hid hb1
    clear hb1
    go_wp2
    go_loopw [5, 6] (fun a i wr => ∃ k m : Nat, k ≤ t.size ∧ i = .int .i64 (hiI t k : Int) ∧ a = .int .i32 (m : Int) ∧ Hid (m = if k = 0 then 48 else bt t (hiI t k)) ∧ wr.heap[w1.heap.size]? = some (.stringIter t k) ∧ Below w1.heap.size w1 wr) (fun _ _ wr => t.size - wr.iterPos w1.heap.size)
    case atStart =>
      refine ⟨0, 48, Nat.zero_le _, rfl, rfl, Lib.hid rfl, ?_, (Below.refl _ w1).alloc (Nat.le_refl _) _⟩
      have := World.iter_heap w1 t 0
      simpa using this
    case round =>
      obtain ⟨k, m, hk, rfl, rfl, HM, hit, hbw⟩ := hrel
      have HOLD := Lib.hid hit
      by_cases hlt : k < t.size
      · have hnx : ∀ ty, (Instr.next (.pointer (some ⟨w1.heap.size, 0, none⟩)) true ty).run Try.prog wr = _ := fun ty => Lib.run_next_ascii_at wr w1.heap.size t k ty hit hlt (by have := HAL.out k hlt; omega)
        have HIT := Lib.hid (Lib.iterAt_heap wr w1.heap.size t k (k + 1) hit)
        have HB := Lib.hid (Lib.below_iterAt hbw (k := w1.heap.size) (Nat.le_refl _) t (k + 1))
        clear hit hbw
        have b1 := bt_at hlt
        have b3 := bt_in HAL.out k
        by_cases hc : m < bt t k
        · have R : Hid (hiI t (k + 1) = k) := Lib.hid (by
            by_cases h0 : k = 0
            · subst h0; simp [hiI]
            · have := HM.out; rw [if_neg h0] at this; exact hiI_yes (by omega))
          have hc' : (m : Int) < (t[k].toNat : Int) := by omega
          clear hc b3
          go_wp2
          go_roundw
          case rel => exact ⟨k + 1, bt t k, by omega, by rw [R.out], rfl, Lib.hid (by rw [R.out, if_neg (by omega)]), HIT.out, HB.out⟩
          case measure => (simp only [World.iterPos, HIT.out, HOLD.out]; omega)
        · have R : Hid (hiI t (k + 1) = hiI t k) := Lib.hid (by
            by_cases h0 : k = 0
            · subst h0; simp [hiI]
            · have := HM.out; rw [if_neg h0] at this; exact hiI_no (by omega))
          have M2 : Hid (m = if k + 1 = 0 then 48 else bt t (hiI t (k + 1))) := Lib.hid (by
            rw [R.out, if_neg (by omega)]
            have := HM.out
            by_cases h0 : k = 0
            · subst h0; simp at this; simp [hiI]; omega
            · rw [if_neg h0] at this; exact this)
          have hc' : ¬ (m : Int) < (t[k].toNat : Int) := by omega
          clear hc b3
          go_wp2
          go_roundw
          case rel => exact ⟨k + 1, m, by omega, by rw [R.out], rfl, M2, HIT.out, HB.out⟩
          case measure => (simp only [World.iterPos, HIT.out, HOLD.out]; omega)
      · have hnx : ∀ ty, (Instr.next (.pointer (some ⟨w1.heap.size, 0, none⟩)) true ty).run Try.prog wr = _ := fun ty => Lib.run_next_end_at wr w1.heap.size t k ty hit hlt
        obtain rfl : k = t.size := by omega
        have hm := HM.out
        rw [if_neg (by omega)] at hm
        have hb := bt_in HAL.out (hiI t t.size)
        rw [← hm] at hb
        have J2 := J.out
        rw [← hm] at J2
        have J3 := Lib.hid J2
        have BB := Lib.hid (B1.out.trans (hbw.mono B1.out.size))
        clear J J2 hm HM hbw
        generalize hiI t t.size = q at *
        go_wp2
        go_ret3
        exact ⟨ret_v J3.out.symm, BB.out⟩
end Go.Proofs.Ytmlokapbholeoaa
