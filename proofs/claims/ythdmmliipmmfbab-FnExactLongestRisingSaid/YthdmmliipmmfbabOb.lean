/- How many lesser boats come behind a place: impl.lesserBehind. -/
import Derived.Test.YthdmmliipmmfbabOa
import Derived.Test.YthdmmliipmmfbabTl
import Derived.RegionTactic
import Derived.Deep.QuietTactic
import Derived.BigQuiet
namespace Go.Proofs.Ythdmmliipmmfbab
set_option linter.unusedVariables false
open Go.RowKit

/-- among the first m boats behind the place i, how many are lesser -/
def cnt (zs : List Int) (i : Nat) : Nat → Nat
  | 0 => 0
  | m + 1 => cnt zs i m + (if gt zs (i + 1 + m) < gt zs i then 1 else 0)
def lsr (zs : List Int) (i : Nat) : Nat := cnt zs i (zs.length - (i + 1))
theorem cnt_le (zs : List Int) (i : Nat) : ∀ m, cnt zs i m ≤ m
  | 0 => Nat.le_refl _
  | m + 1 => by
    have := cnt_le zs i m
    unfold cnt; split <;> omega
theorem lsr_le {zs : List Int} (h : zs.length ≤ 8) (i : Nat) : lsr zs i ≤ 8 := by
  have := cnt_le zs i (zs.length - (i + 1))
  unfold lsr; omega
theorem cnt_yes {zs : List Int} {i m : Nat} (h : gt zs (i + 1 + m) < gt zs i) : cnt zs i (m + 1) = cnt zs i m + 1 := by
  rw [cnt, if_pos h]
theorem cnt_no {zs : List Int} {i m : Nat} (h : ¬ gt zs (i + 1 + m) < gt zs i) : cnt zs i (m + 1) = cnt zs i m := by
  rw [cnt, if_neg h, Nat.add_zero]
def lsF (zs : List Int) (k m j : Nat) : Int := if j < k then (lsr zs j : Int) else if j = k then (cnt zs k m : Int) else 0
theorem lsF_put {zs : List Int} {k m : Nat} (h : gt zs (k + 1 + m) < gt zs k) (i : Nat) : (if i = k then (cnt zs k m : Int) + 1 else lsF zs k m i) = lsF zs k (m + 1) i := by
  unfold lsF
  by_cases e : i = k
  · rw [if_pos e, if_neg (by omega), if_pos e, cnt_yes h]; simp
  · rw [if_neg e, if_neg e]; simp only [e, if_false]
theorem lsF_same {zs : List Int} {k m : Nat} (h : ¬ gt zs (k + 1 + m) < gt zs k) (i : Nat) : lsF zs k m i = lsF zs k (m + 1) i := by
  unfold lsF; rw [cnt_no h]
theorem lsF_end {zs : List Int} {k m : Nat} (h : m = zs.length - (k + 1)) (i : Nat) : lsF zs k m i = lsF zs (k + 1) 0 i := by
  unfold lsF
  by_cases c : i < k
  · rw [if_pos c, if_pos (by omega)]
  · by_cases c2 : i = k
    · rw [if_neg c, if_pos c2, if_pos (by omega), c2, h]; rfl
    · rw [if_neg c, if_neg c2, if_neg (by omega)]; simp [cnt]
theorem lsF_at (zs : List Int) (k m : Nat) : lsF zs k m k = (cnt zs k m : Int) := by unfold lsF; rw [if_neg (by omega), if_pos rfl]
set_option maxHeartbeats 2000000 in
theorem lesserBehind (v : Value) (zs : List Int) (w : World) (h : Rd w v zs) (h1 : 1 ≤ zs.length ∧ zs.length ≤ 8) :
    Calls Try.prog 32 #[v] w fun e w' => ∃ g, e = .returned (.slice (some ⟨g, 0, none⟩) zs.length zs.length) ∧ Ints w' w.heap.size (.slice (some ⟨g, 0, none⟩) zs.length zs.length) (fl zs.length (fun j => (lsr zs j : Int))) ∧ Below w.heap.size w w' := by
  obtain ⟨b, off, n, c, rfl, hnz, hnc, hc9, hbw, hcell⟩ := h.openP (by omega)
  rw [← hnz] at h1 ⊢
  have HC := Lib.hid hcell
  have HF := Lib.hid (fun k m (hm : m = n - (k + 1)) i => lsF_end (zs := zs) (k := k) (m := m) (by rw [← hnz]; exact hm) i)
  clear h hcell hnz
  obtain ⟨d, hd⟩ : ∃ d, d = w.heap.size := ⟨_, rfl⟩
  have HD := Lib.hid hd
  have hbd : b < d := by omega
  go_enter Try.func32, Try.ntmps32
  go_wp2_with (at_make; refine wpList_mk rfl _ _ rfl w.heap.size n _ rfl rfl rfl (by omega) (Nat.le_refl _) ?_; intro w1 hI hb1 hg1)
  rw [← hd] at hI hb1 ⊢
  rw [fl_rep] at hI
  have I0 : Ints w1 d (.slice (some ⟨d, 0, none⟩) n n) (fl n (lsF zs 0 0)) := by
    rw [show fl n (lsF zs 0 0) = fl n (fun _ => 0) from fl_ext fun j _ => by unfold lsF; simp [cnt]]; exact hI
  have HI0 := Lib.hid I0
  have HB0 := Lib.hid hb1
  clear hI hb1 hg1 I0 hd
  go_loopw [13] (fun i wr => ∃ k : Nat, k ≤ n ∧ i = .int .i64 k ∧ Hid (Ints wr d (.slice (some ⟨d, 0, none⟩) n n) (fl n (lsF zs k 0))) ∧ Hid (Below d w wr)) (fun i _ => n - (intOf i).toNat)
  case atStart => exact ⟨0, Nat.zero_le _, rfl, HI0, HB0⟩
  case round =>
    clear HI0 HB0
    obtain ⟨k, hk, rfl, HI, HB⟩ := hrel
    obtain ⟨wo, rfl⟩ : ∃ wo : World, wo = wr := ⟨_, rfl⟩
    by_cases hlt : k < n
    · have hlt' : (k : Int) < n := by omega
      have ck := (HB.out.cell (p := ⟨b, off + k, none⟩) hbd).trans (HC.out k hlt)
      by_cases hk1 : k + 1 < n
      · have hk1' : (k : Int) + 1 < n := by omega
        have hk1c : (k : Int) + 1 < c := by omega
        have hk2 : (k : Int) + 1 ≤ n := by omega
        have HRow := Lib.hid (fun m (hm : m = n - (k + 1)) => HF.out k m hm)
        go_wp2
        generalize hm0 : n - (k + 1) = m0
        have HM0 := Lib.hid hm0
        have hm1 : k + 1 + m0 = n := by omega
        clear hm0
        go_loopw [23] (fun i wr => ∃ m : Nat, m ≤ m0 ∧ i = .int .i64 m ∧ Hid (Ints wr d (.slice (some ⟨d, 0, none⟩) n n) (fl n (lsF zs k m))) ∧ Hid (Below d w wr)) (fun i _ => m0 - (intOf i).toNat)
        case atStart => exact ⟨0, Nat.zero_le _, rfl, HI, HB⟩
        case round =>
          clear HI HB ck
          obtain ⟨m, hm, rfl, HI, HB⟩ := hrel
          by_cases hlm : m < m0
          · have hlm' : (m : Int) < m0 := by omega
            have cm := (HB.out.cell (p := ⟨b, off + (k + 1 + m), none⟩) hbd).trans (HC.out (k + 1 + m) (by omega))
            rw [show off + (k + 1 + m) = off + (k + 1) + m by omega] at cm
            have P1 := Lib.hid (fun hx i => lsF_put (zs := zs) (k := k) (m := m) hx i)
            have P2 := Lib.hid (fun hx i => lsF_same (zs := zs) (k := k) (m := m) hx i)
            have ce := HI.out.at_ hlt
            rw [lsF_at] at ce
            have cf := HI.out.fr_ k
            have cb := cnt_le zs k m
            have S := HI.out.put k ((cnt zs k m : Int) + 1)
            have hle := HB.out.size
            have HDS := HD.out
            have SS := Lib.hid (And.intro S.1 (HB.out.grown S.2 (by omega) (by intro j hj; cases hj; exact Nat.le_refl _)))
            clear S hle HDS
            generalize gt zs (k + 1 + m) = x at *
            generalize gt zs k = y at *
            generalize cnt zs k m = q at *
            by_cases hxy : x < y
            · have E := Lib.hid (P1.out hxy)
              clear P1 P2
              go_wp2
              go_roundw
              case rel => exact ⟨m + 1, by omega, by go_num, Lib.hid (by rw [← fl_ext fun i _ => E.out i]; exact SS.out.1), Lib.hid SS.out.2⟩
              case measure => (simp [intOf]; try omega)
            · have E := Lib.hid (P2.out hxy)
              clear P1 P2
              go_wp2
              go_roundw
              case rel => exact ⟨m + 1, by omega, by go_num, Lib.hid (by rw [← fl_ext fun i _ => E.out i]; exact HI.out), HB⟩
              case measure => (simp [intOf]; try omega)
          · obtain rfl : m = m0 := by omega
            have E := Lib.hid (fun i => HRow.out m HM0.out.symm i)
            go_wp2
            go_roundw
            case rel => exact ⟨k + 1, by omega, by go_num, Lib.hid (by rw [← fl_ext fun i _ => E.out i]; exact HI.out), HB⟩
            case measure => (simp [intOf]; try omega)
      · have hz : n - (k + 1) = 0 := by omega
        have hk2 : (k : Int) + 1 ≤ n := by omega
        have E := Lib.hid (fun i => HF.out k 0 hz.symm i)
        have hkn : k + 1 = n := by omega
        by_cases hcn : c = n
        · have hkc : (k : Int) + 1 = c := by omega
          go_wp2
          try rw [hz]
          clear hz
          go_loopw [23] (fun i wr => i = .int .i64 0 ∧ wr = wo) (fun _ _ => 0)
          case atStart => exact ⟨rfl, rfl⟩
          case round =>
            obtain ⟨rfl, rfl⟩ := hrel
            go_wp2
            go_roundw
            case rel => exact ⟨k + 1, by omega, by go_num, Lib.hid (by rw [← fl_ext fun i _ => E.out i]; exact HI.out), HB⟩
            case measure => (simp [intOf]; try omega)
        · have hkc : (k : Int) + 1 < c := by omega
          go_wp2
          try rw [hz]
          clear hz
          go_loopw [23] (fun i wr => i = .int .i64 0 ∧ wr = wo) (fun _ _ => 0)
          case atStart => exact ⟨rfl, rfl⟩
          case round =>
            obtain ⟨rfl, rfl⟩ := hrel
            go_wp2
            go_roundw
            case rel => exact ⟨k + 1, by omega, by go_num, Lib.hid (by rw [← fl_ext fun i _ => E.out i]; exact HI.out), HB⟩
            case measure => (simp [intOf]; try omega)
    · obtain rfl : k = n := by omega
      have E := Lib.hid (show fl k (lsF zs k 0) = fl k (fun j => (lsr zs j : Int)) from fl_ext fun j hj => by unfold lsF; rw [if_pos hj])
      go_wp2
      go_ret
      exact ⟨_, rfl, by rw [← HD.out, ← E.out]; exact HI.out, by rw [← HD.out]; exact HB.out⟩
end Go.Proofs.Ythdmmliipmmfbab
