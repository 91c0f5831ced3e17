/- Inverted boats and ranks: CountInverted, RankOfOrder; impl and spec. -/
import Derived.Test.YthdmmliipmmfbaaOb
namespace Go.Proofs.Ythdmmliipmmfbaa
set_option linter.unusedVariables false
open Go.RowKit

/-- a number and whether there is one -/
def ansV (ok : Bool) (x : Int) : Value := .tuple #[.int .i64 (if ok then x else 0), .bool ok]
theorem ansV_no {ok : Bool} {x : Int} (h : ok = false) : ansV ok x = .tuple #[.int .i64 0, .bool false] := by subst h; rfl
theorem ansV_yes {ok : Bool} {x : Int} (h : ok = true) : ansV ok x = .tuple #[.int .i64 x, .bool true] := by subst h; rfl
theorem ansV_form (ok : Bool) (x : Int) : ∃ a b, ansV ok x = .tuple #[.int .i64 a, .bool b] := ⟨_, _, rfl⟩

/-- how many are inverted with one of the first k places -/
def invTo (zs : List Int) : Nat → Nat
  | 0 => 0
  | k + 1 => invTo zs k + lsr zs k
theorem invTo_le {zs : List Int} (h : zs.length ≤ 8) : ∀ k, invTo zs k ≤ 8 * k
  | 0 => Nat.le_refl _
  | k + 1 => by
    have := invTo_le h k; have := lsr_le h k
    unfold invTo; omega
def invs (zs : List Int) : Nat := invTo zs zs.length
/-- the rank by the first k places -/
def rkTo (zs : List Int) : Nat → Nat
  | 0 => 0
  | k + 1 => rkTo zs k * (zs.length - k) + lsr zs k
theorem rkTo_le {zs : List Int} (h : zs.length ≤ 8) : ∀ k, rkTo zs k ≤ 16 ^ k
  | 0 => by simp [rkTo]
  | k + 1 => by
    have h1 := rkTo_le h k; have := lsr_le h k
    have h2 : rkTo zs k * (zs.length - k) ≤ 16 ^ k * 8 := Nat.mul_le_mul h1 (by omega)
    have h3 : 1 ≤ 16 ^ k := Nat.one_le_pow _ _ (by omega)
    rw [rkTo, Nat.pow_succ]; omega
theorem rkTo_le8 {zs : List Int} (h : zs.length ≤ 8) {k : Nat} (hk : k ≤ 8) : rkTo zs k ≤ 4294967296 :=
  Nat.le_trans (rkTo_le h k) (Nat.le_trans (Nat.pow_le_pow_right (by omega) hk) (by decide))
def rnk (zs : List Int) : Nat := rkTo zs zs.length

set_option maxHeartbeats 2000000 in
theorem implInv (v : Value) (zs : List Int) (w : World) (h : Rd w v zs) (hn : zs.length ≤ 1048576) :
    Calls Try.prog 15 #[v] w fun e w' => e = .returned (ansV (isOrd zs) (invs zs)) ∧ Below w.heap.size w w' := by
  have HA := Lib.hid (implIsOrder v zs w h hn)
  cases hp : isOrd zs
  · have J := Lib.hid (ansV_no (x := (invs zs : Int)) (rfl : false = false))
    rw [hp] at HA
    clear h hp
    go_enter Try.func15, Try.ntmps15
    go_wp2_with (go_at_call 12; refine HA.out.mono ?_; rintro e w' ⟨rfl, rfl⟩)
    go_ret2
    exact ⟨ret_v J.out.symm, Below.refl _ _⟩
  · have hl := isOrd_len hp
    have HL := Lib.hid (lesserBehind v zs w h hl)
    have HB := Lib.hid (fun k => invTo_le hl.2 k)
    have HC := Lib.hid (fun k => lsr_le hl.2 k)
    have J := Lib.hid (ansV_yes (x := (invTo zs zs.length : Int)) (rfl : true = true))
    unfold invs
    rw [hp] at HA
    generalize zs.length = n at *
    clear h hp
    go_enter Try.func15, Try.ntmps15
    go_wp2_with (first
      | (go_at_call 12; refine HA.out.mono ?_; rintro e w' ⟨rfl, rfl⟩)
      | (go_at_call 32; refine HL.out.mono ?_; rintro e w1 ⟨g, rfl, hI, hb⟩; have HI := Lib.hid hI; have HBW := Lib.hid hb; clear hI hb))
    go_loop [4, 13] (fun s i => ∃ k : Nat, k ≤ n ∧ i = .int .i64 k ∧ s = .int .i64 (invTo zs k : Int)) (fun _ i => n - (intOf i).toNat)
    case atStart => exact ⟨0, Nat.zero_le _, rfl, rfl⟩
    case round =>
      obtain ⟨k, hk, rfl, rfl⟩ := hrel
      by_cases hlt : k < n
      · have hlt' : (k : Int) < n := by omega
        have hc := HI.out.at_ hlt
        have b1 := HB.out k
        have b2 := HC.out k
        have E := Lib.hid (show invTo zs (k + 1) = invTo zs k + lsr zs k from rfl)
        generalize invTo zs k = s at *
        generalize lsr zs k = q at *
        go_wp2
        go_round
        case rel => exact ⟨k + 1, by omega, by go_num, by rw [E.out]; simp⟩
        case measure => (simp [intOf]; try omega)
      · obtain rfl : k = n := by omega
        go_wp2
        go_ret2
        exact ⟨ret_v J.out.symm, HBW.out⟩
set_option maxHeartbeats 2000000 in
theorem ptInv (v : Value) (zs : List Int) (w : World) (h : Rd w v zs) (h1 : 1 ≤ zs.length ∧ zs.length ≤ 8) :
    Calls Try.prog 31 #[v] w fun e w' => e = .returned (.int .i64 (invs zs : Int)) ∧ w = w' := by
  have HB := Lib.hid (fun k => invTo_le h1.2 k)
  unfold invs
  obtain ⟨b, off, n, c, rfl, hnz, hnc, hc9, hbw, hcell⟩ := h.openP (by omega)
  rw [← hnz] at h1 ⊢
  have HC := Lib.hid hcell
  have HF := Lib.hid (fun k m (hm : m = n - (k + 1)) => (show invTo zs (k + 1) = invTo zs k + cnt zs k m by rw [hm, hnz]; rfl))
  clear h hcell hnz
  go_enter Try.func31, Try.ntmps31
  go_wp2
  go_loop [3, 10] (fun s i => ∃ k : Nat, k ≤ n ∧ i = .int .i64 k ∧ s = .int .i64 (invTo zs k : Int)) (fun _ i => n - (intOf i).toNat)
  case atStart => exact ⟨0, Nat.zero_le _, rfl, rfl⟩
  case round =>
    obtain ⟨k, hk, rfl, rfl⟩ := hrel
    by_cases hlt : k < n
    · have hlt' : (k : Int) < n := by omega
      have ck := HC.out k hlt
      have b1 := HB.out k
      have HRow := Lib.hid (fun m (hm : m = n - (k + 1)) => HF.out k m hm)
      by_cases hk1 : k + 1 < n
      · have hk1' : (k : Int) + 1 < n := by omega
        have hk1c : (k : Int) + 1 < c := by omega
        have hk2 : (k : Int) + 1 ≤ n := by omega
        go_wp2
        generalize hm0 : n - (k + 1) = m0
        have HM0 := Lib.hid hm0
        have hm1 : k + 1 + m0 = n := by omega
        clear hm0
        go_loop [3, 20] (fun s i => ∃ m : Nat, m ≤ m0 ∧ i = .int .i64 m ∧ s = .int .i64 ((invTo zs k : Int) + (cnt zs k m : Int))) (fun _ i => m0 - (intOf i).toNat)
        case atStart => exact ⟨0, Nat.zero_le _, rfl, by simp [cnt]⟩
        case round =>
          clear ck
          obtain ⟨m, hm, rfl, rfl⟩ := hrel
          by_cases hlm : m < m0
          · have hlm' : (m : Int) < m0 := by omega
            have cm := HC.out (k + 1 + m) (by omega)
            rw [show off + (k + 1 + m) = off + (k + 1) + m by omega] at cm
            have P1 := Lib.hid (fun hx => cnt_yes (zs := zs) (i := k) (m := m) hx)
            have P2 := Lib.hid (fun hx => cnt_no (zs := zs) (i := k) (m := m) hx)
            have cb := cnt_le zs k m
            generalize gt zs (k + 1 + m) = x at *
            generalize gt zs k = y at *
            generalize cnt zs k m = q at *
            generalize invTo zs k = s at *
            by_cases hxy : x < y
            · have E := Lib.hid (P1.out hxy)
              clear P1 P2
              go_wp2
              go_round
              case rel => exact ⟨m + 1, by omega, by go_num, by rw [E.out]; go_num⟩
              case measure => (simp [intOf]; try omega)
            · have E := Lib.hid (P2.out hxy)
              clear P1 P2
              go_wp2
              go_round
              case rel => exact ⟨m + 1, by omega, by go_num, by rw [E.out]⟩
              case measure => (simp [intOf]; try omega)
          · obtain rfl : m = m0 := by omega
            have E := Lib.hid (HRow.out m HM0.out.symm)
            go_wp2
            go_round
            case rel => exact ⟨k + 1, by omega, by go_num, by rw [E.out]; simp⟩
            case measure => (simp [intOf]; try omega)
      · have hz : n - (k + 1) = 0 := by omega
        have hk2 : (k : Int) + 1 ≤ n := by omega
        have E := Lib.hid (HF.out k 0 hz.symm)
        have hkn : k + 1 = n := by omega
        by_cases hcn : c = n
        · have hkc : (k : Int) + 1 = c := by omega
          have hHc := Lib.hid hcn
          clear hcn
          go_wp2
          try rw [hz]
          clear hz
          go_loop [3, 20] (fun s i => i = .int .i64 0 ∧ s = .int .i64 (invTo zs k : Int)) (fun _ _ => 0)
          case atStart => exact ⟨rfl, rfl⟩
          case round =>
            obtain ⟨rfl, rfl⟩ := hrel
            go_wp2
            go_round
            case rel => exact ⟨k + 1, by omega, by go_num, by rw [E.out]; simp [cnt]⟩
            case measure => (simp [intOf]; try omega)
        · have hkc : (k : Int) + 1 < c := by omega
          go_wp2
          try rw [hz]
          clear hz
          go_loop [3, 20] (fun s i => i = .int .i64 0 ∧ s = .int .i64 (invTo zs k : Int)) (fun _ _ => 0)
          case atStart => exact ⟨rfl, rfl⟩
          case round =>
            obtain ⟨rfl, rfl⟩ := hrel
            go_wp2
            go_round
            case rel => exact ⟨k + 1, by omega, by go_num, by rw [E.out]; simp [cnt]⟩
            case measure => (simp [intOf]; try omega)
    · obtain rfl : k = n := by omega
      go_wp2
      go_ret
      exact ⟨rfl, rfl⟩
theorem specInv (v : Value) (zs : List Int) (w : World) (h : Rd w v zs) (hn : zs.length ≤ 1048576) :
    Calls Try.prog 14 #[v] w fun e w' => e = .returned (ansV (isOrd zs) (invs zs)) ∧ Below w.heap.size w w' := by
  have HA := Lib.hid (ptGood v zs w h hn)
  cases hp : isOrd zs
  · have J := Lib.hid (ansV_no (x := (invs zs : Int)) (rfl : false = false))
    rw [hp] at HA
    clear h hp
    go_enter Try.func14, Try.ntmps14
    go_wp2_with (go_at_call 28; refine HA.out.mono ?_; rintro e w' ⟨rfl, rfl⟩)
    go_ret2
    exact ⟨ret_v J.out.symm, Below.refl _ _⟩
  · have HL := Lib.hid (ptInv v zs w h (isOrd_len hp))
    have J := Lib.hid (ansV_yes (x := (invs zs : Int)) (rfl : true = true))
    rw [hp] at HA
    clear h hp
    go_enter Try.func14, Try.ntmps14
    go_wp2_with (first
      | (go_at_call 28; refine HA.out.mono ?_; rintro e w' ⟨rfl, rfl⟩)
      | (go_at_call 31; refine HL.out.mono ?_; rintro e w' ⟨rfl, rfl⟩))
    go_ret2
    exact ⟨ret_v J.out.symm, Below.refl _ _⟩
end Go.Proofs.Ythdmmliipmmfbaa
