/- RankOfOrder, impl and spec. -/
import Derived.Test.YthdmmliipmmfbabOc
namespace Go.Proofs.Ythdmmliipmmfbab
set_option linter.unusedVariables false
open Go.RowKit

theorem rk_mul {zs : List Int} (h : zs.length ≤ 8) {k : Nat} (hk : k ≤ 8) : rkTo zs k * (zs.length - k) ≤ 34359738368 :=
  Nat.le_trans (Nat.mul_le_mul (rkTo_le8 h hk) (show zs.length - k ≤ 8 by omega)) (by decide)
set_option maxHeartbeats 2000000 in
theorem implRank (v : Value) (zs : List Int) (w : World) (h : Rd w v zs) (hn : zs.length ≤ 1048576) :
    Calls Try.prog 17 #[v] w fun e w' => e = .returned (ansV (isOrd zs) (rnk zs)) ∧ Below w.heap.size w w' := by
  have HA := Lib.hid (implIsOrder v zs w h hn)
  cases hp : isOrd zs
  · have J := Lib.hid (ansV_no (x := (rnk zs : Int)) (rfl : false = false))
    rw [hp] at HA
    clear h hp
    go_enter Try.func17, Try.ntmps17
    go_wp2_with (go_at_call 30; refine HA.out.mono ?_; rintro e w' ⟨rfl, rfl⟩)
    go_ret2
    exact ⟨ret_v J.out.symm, Below.refl _ _⟩
  · have hl := isOrd_len hp
    have HL := Lib.hid (lesserBehind v zs w h hl)
    have HB := Lib.hid (fun k (hk : k ≤ 8) => rkTo_le8 hl.2 hk)
    have HM := Lib.hid (fun k (hk : k ≤ 8) => rk_mul hl.2 hk)
    have HC := Lib.hid (fun k => lsr_le hl.2 k)
    have HS := Lib.hid (fun k => (show rkTo zs (k + 1) = rkTo zs k * (zs.length - k) + lsr zs k from rfl))
    have J := Lib.hid (ansV_yes (x := (rkTo zs zs.length : Int)) (rfl : true = true))
    unfold rnk
    rw [hp] at HA
    obtain ⟨a, n, c, rfl, hmz, _⟩ := h.cells
    simp only [← hmz] at HL HS HM J hl ⊢
    clear h hp hmz
    go_enter Try.func17, Try.ntmps17
    go_wp2_with (first
      | (go_at_call 30; refine HA.out.mono ?_; rintro e w' ⟨rfl, rfl⟩)
      | (go_at_call 32; refine HL.out.mono ?_; rintro e w1 ⟨g, rfl, hI, hb⟩; have HI := Lib.hid hI; have HBW := Lib.hid hb; clear hI hb))
    go_loop [4, 13] (fun s i => ∃ k : Nat, k ≤ n ∧ i = .int .i64 k ∧ s = .int .i64 (rkTo zs k : Int)) (fun _ i => n - (intOf i).toNat)
    case atStart => exact ⟨0, Nat.zero_le _, rfl, rfl⟩
    case round =>
      obtain ⟨k, hk, rfl, rfl⟩ := hrel
      by_cases hlt : k < n
      · have hlt' : (k : Int) < n := by omega
        have hc := HI.out.at_ hlt
        have b1 := HB.out k (by omega)
        have b2 := HC.out k
        have b3 := HM.out k (by omega)
        have E := Lib.hid (HS.out k)
        generalize rkTo zs k = s at *
        generalize lsr zs k = q at *
        obtain ⟨p, hp⟩ : ∃ p, p = s * (n - k) := ⟨_, rfl⟩
        have hpp : (s : Int) * ((n : Int) - k) = (p : Int) := by rw [hp, show (n : Int) - k = ((n - k : Nat) : Int) by omega]; simp
        rw [← hp] at b3
        have HP := Lib.hid hp
        clear hp
        go_wp2
        go_round
        case rel => exact ⟨k + 1, by omega, by go_num, by rw [E.out, ← HP.out]; simp⟩
        case measure => (simp [intOf]; try omega)
      · obtain rfl : k = n := by omega
        go_wp2
        go_ret2
        exact ⟨ret_v J.out.symm, HBW.out⟩
set_option maxHeartbeats 2000000 in
theorem ptRank (v : Value) (zs : List Int) (w : World) (h : Rd w v zs) (h1 : 1 ≤ zs.length ∧ zs.length ≤ 8) :
    Calls Try.prog 31 #[v] w fun e w' => e = .returned (.int .i64 (rnk zs : Int)) ∧ w = w' := by
  have HB := Lib.hid (fun k (hk : k ≤ 8) => rkTo_le8 h1.2 hk)
  have HM := Lib.hid (fun k (hk : k ≤ 8) => rk_mul h1.2 hk)
  unfold rnk
  obtain ⟨b, off, n, c, rfl, hnz, hnc, hc9, hbw, hcell⟩ := h.openP (by omega)
  rw [← hnz] at h1 HM ⊢
  have HC := Lib.hid hcell
  have HF := Lib.hid (fun k m (hm : m = n - (k + 1)) => (show rkTo zs (k + 1) = rkTo zs k * (n - k) + cnt zs k m by rw [hm, hnz]; rfl))
  clear h hcell hnz
  go_enter Try.func31, Try.ntmps31
  go_wp2
  go_loop [3, 11] (fun s i => ∃ k : Nat, k ≤ n ∧ i = .int .i64 k ∧ s = .int .i64 (rkTo zs k : Int)) (fun _ i => n - (intOf i).toNat)
  case atStart => exact ⟨0, Nat.zero_le _, rfl, rfl⟩
  case round =>
    obtain ⟨k, hk, rfl, rfl⟩ := hrel
    by_cases hlt : k < n
    · have hlt' : (k : Int) < n := by omega
      have ck := HC.out k hlt
      have b1 := HB.out k (by omega)
      have b3 := HM.out k (by omega)
      have HRow := Lib.hid (fun m (hm : m = n - (k + 1)) => HF.out k m hm)
      obtain ⟨p, hp⟩ : ∃ p, p = rkTo zs k * (n - k) := ⟨_, rfl⟩
      have hpp : (rkTo zs k : Int) * ((n : Int) - k) = (p : Int) := by rw [hp, show (n : Int) - k = ((n - k : Nat) : Int) by omega]; simp
      rw [← hp] at b3 HRow
      have HP := Lib.hid hpp
      clear hp hpp
      by_cases hk1 : k + 1 < n
      · have hk1' : (k : Int) + 1 < n := by omega
        have hk1c : (k : Int) + 1 < c := by omega
        have hk2 : (k : Int) + 1 ≤ n := by omega
        go_wp2
        generalize hm0 : n - (k + 1) = m0
        have HM0 := Lib.hid hm0
        have hm1 : k + 1 + m0 = n := by omega
        clear hm0
        go_loop [6, 21] (fun s i => ∃ m : Nat, m ≤ m0 ∧ i = .int .i64 m ∧ s = .int .i64 (cnt zs k m : Int)) (fun _ i => m0 - (intOf i).toNat)
        case atStart => exact ⟨0, Nat.zero_le _, rfl, by simp [cnt]⟩
        case round =>
          clear ck
          obtain ⟨m, hm, rfl, rfl⟩ := hrel
          by_cases hlm : m < m0
          · have hlm' : (m : Int) < m0 := by omega
            have cm := HC.out (k + 1 + m) (by omega)
            rw [show off + (k + 1 + m) = off + (k + 1) + m by omega] at cm
            have P1 := Lib.hid (fun hx => cnt_yes (zs := zs) (i := k) (m := m) hx)
            have P2 := Lib.hid (fun hx => cnt_no (zs := zs) (i := k) (m := m) hx)
            have cb := cnt_le zs k m
            generalize gt zs (k + 1 + m) = x at *
            generalize gt zs k = y at *
            generalize cnt zs k m = q at *
            by_cases hxy : x < y
            · have E := Lib.hid (P1.out hxy)
              clear P1 P2
              go_wp2
              go_round
              case rel => exact ⟨m + 1, by omega, by go_num, by rw [E.out]; simp⟩
              case measure => (simp [intOf]; try omega)
            · have E := Lib.hid (P2.out hxy)
              clear P1 P2
              go_wp2
              go_round
              case rel => exact ⟨m + 1, by omega, by go_num, by rw [E.out]⟩
              case measure => (simp [intOf]; try omega)
          · obtain rfl : m = m0 := by omega
            have E := Lib.hid (HRow.out m HM0.out.symm)
            have cb := cnt_le zs k m
            have hpp := HP.out
            generalize cnt zs k m = q at *
            generalize rkTo zs k = s at *
            go_wp2
            go_round
            case rel => exact ⟨k + 1, by omega, by go_num, by rw [E.out]; simp⟩
            case measure => (simp [intOf]; try omega)
      · have hz : n - (k + 1) = 0 := by omega
        have hk2 : (k : Int) + 1 ≤ n := by omega
        have E := Lib.hid (show rkTo zs (k + 1) = p by rw [HRow.out 0 hz.symm]; simp [cnt])
        have hkn : k + 1 = n := by omega
        have hpp := HP.out
        generalize rkTo zs k = s at *
        by_cases hcn : c = n
        · have hkc : (k : Int) + 1 = c := by omega
          have hHc := Lib.hid hcn
          clear hcn
          go_wp2
          try rw [hz]
          clear hz
          go_loop [6, 21] (fun s i => i = .int .i64 0 ∧ s = .int .i64 0) (fun _ _ => 0)
          case atStart => exact ⟨rfl, rfl⟩
          case round =>
            obtain ⟨rfl, rfl⟩ := hrel
            go_wp2
            go_round
            case rel => exact ⟨k + 1, by omega, by go_num, by rw [E.out]⟩
            case measure => (simp [intOf]; try omega)
        · have hkc : (k : Int) + 1 < c := by omega
          go_wp2
          try rw [hz]
          clear hz
          go_loop [6, 21] (fun s i => i = .int .i64 0 ∧ s = .int .i64 0) (fun _ _ => 0)
          case atStart => exact ⟨rfl, rfl⟩
          case round =>
            obtain ⟨rfl, rfl⟩ := hrel
            go_wp2
            go_round
            case rel => exact ⟨k + 1, by omega, by go_num, by rw [E.out]⟩
            case measure => (simp [intOf]; try omega)
    · obtain rfl : k = n := by omega
      go_wp2
      go_ret
      exact ⟨rfl, rfl⟩
theorem specRank (v : Value) (zs : List Int) (w : World) (h : Rd w v zs) (hn : zs.length ≤ 1048576) :
    Calls Try.prog 16 #[v] w fun e w' => e = .returned (ansV (isOrd zs) (rnk zs)) ∧ Below w.heap.size w w' := by
  have HA := Lib.hid (ptGood v zs w h hn)
  cases hp : isOrd zs
  · have J := Lib.hid (ansV_no (x := (rnk zs : Int)) (rfl : false = false))
    rw [hp] at HA
    clear h hp
    go_enter Try.func16, Try.ntmps16
    go_wp2_with (go_at_call 28; refine HA.out.mono ?_; rintro e w' ⟨rfl, rfl⟩)
    go_ret2
    exact ⟨ret_v J.out.symm, Below.refl _ _⟩
  · have HL := Lib.hid (ptRank v zs w h (isOrd_len hp))
    have J := Lib.hid (ansV_yes (x := (rnk zs : Int)) (rfl : true = true))
    rw [hp] at HA
    clear h hp
    go_enter Try.func16, Try.ntmps16
    go_wp2_with (first
      | (go_at_call 28; refine HA.out.mono ?_; rintro e w' ⟨rfl, rfl⟩)
      | (go_at_call 31; refine HL.out.mono ?_; rintro e w' ⟨rfl, rfl⟩))
    go_ret2
    exact ⟨ret_v J.out.symm, Below.refl _ _⟩
end Go.Proofs.Ythdmmliipmmfbab
