/- Distances: impl's measuring closure. -/
import Derived.Test.YtfkdkhoihlkgcabCn
import Derived.Test.YtfkdkhoihlkgcabSl
import Derived.Deep.QuietTactic
namespace Go.Proofs.Ytfkdkhoihlkgcab
set_option linter.unusedVariables false
open Go.RowKit

theorem sq_bd {d m : Int} (h1 : -m ≤ d) (h2 : d ≤ m) : 0 ≤ d * d ∧ d * d ≤ m * m := by
  by_cases h : 0 ≤ d
  · exact ⟨Int.mul_nonneg h h, Int.mul_le_mul h2 h2 h (by omega)⟩
  · have e : d * d = (-d) * (-d) := by rw [Int.neg_mul_neg]
    rw [e]
    exact ⟨Int.mul_nonneg (by omega) (by omega), Int.mul_le_mul (by omega) (by omega) (by omega) (by omega)⟩
theorem w64 {n : Int} (h1 : -9223372036854775808 ≤ n) (h2 : n ≤ 9223372036854775807) : wrap64 n = n := by unfold wrap64; omega
/-- the square of the distance from x, y to the place that is told by so many numbers -/
def sqN (x y : Int) (zs : List Int) : Nat → Int
  | 0 => 0
  | 1 => (gt zs 0 - x) * (gt zs 0 - x)
  | _ => (gt zs 0 - x) * (gt zs 0 - x) + (gt zs 1 - y) * (gt zs 1 - y)
theorem sqN_one (x y a : Int) : sqN x y [a] 1 = (a - x) * (a - x) := rfl
theorem sqN_two (x y a b : Int) : sqN x y [a, b] 2 = (a - x) * (a - x) + (b - y) * (b - y) := rfl
theorem squareFrom (x y : Int) (w : World) :
    Calls Try.prog 48 #[.agg #[.int .i64 x, .int .i64 y]] w fun e w' => e = .returned (.func (.func 49) #[] #[.pointer (some ⟨w.heap.size, 0, none⟩)]) ∧ w.alloc (.cells #[.int .i64 x, .int .i64 y] 52) = w' := by
  go_enter Try.func48, Try.ntmps48
  go_wp2
  go_ret
  exact ⟨rfl, rfl⟩
set_option maxHeartbeats 1000000 in
theorem sqCall (g : Nat) (x y : Int) (v : Value) (zs : List Int) (w : World) (hX : Blk w g #[.int .i64 x, .int .i64 y]) (hR : Rd w v zs) (hz : zs.length ≤ 2) (hx : -1000 ≤ x ∧ x ≤ 1000) (hy : -1000 ≤ y ∧ y ≤ 1000) (hb : ∀ j, -1000 ≤ gt zs j ∧ gt zs j ≤ 1000) :
    Calls Try.prog 49 #[v, .pointer (some ⟨g, 0, none⟩)] w fun e w' => e = .returned (.int .i64 (sqN x y zs zs.length)) ∧ Below w.heap.size w w' := by
  obtain ⟨a, n, c, rfl, hn, hcell⟩ := hR.cells
  have HC := Lib.hid hcell
  have HN := Lib.hid hn
  have HB := Lib.hid hb
  have c0 := hX.cell 0
  have c1 := hX.cell 1
  simp only [List.getElem?_toArray, List.getElem?_cons_zero, List.getElem?_cons_succ] at c0 c1
  have hgl := hX.lt
  have hn2 : n ≤ 2 := by omega
  have C0 := Lib.hid c0
  have C1 := Lib.hid c1
  clear hcell hn hR hb hX hz c0 c1
  go_enter Try.func49, Try.ntmps49
  go_wp2
  go_loopw [4, 9] (fun t i wr => ∃ k : Nat, k ≤ n ∧ i = .int .i64 k ∧ t = .int .i64 (sqN x y zs k) ∧ Hid (Below w.heap.size w wr)) (fun _ i _ => n - (intOf i).toNat)
  case atStart => exact ⟨0, Nat.zero_le _, rfl, rfl, Lib.hid (Below.refl _ _)⟩
  case round =>
    obtain ⟨k, hk, rfl, rfl, HW⟩ := hrel
    by_cases hlt : k < n
    · obtain ⟨b, off, rfl, hbl, hc⟩ := HC.out k hlt
      have hcr := (HW.out.cell (p := ⟨b, off + k, none⟩) hbl).trans hc
      have hlt' : (k : Int) < n := by omega
      have hbk := HB.out k
      obtain ⟨p, hp, hcp, hs, hsb⟩ : ∃ p, (-1000 ≤ p ∧ p ≤ 1000) ∧ wr.cell? ⟨g, k, none⟩ = some (.int .i64 p) ∧ sqN x y zs (k + 1) = sqN x y zs k + (gt zs k - p) * (gt zs k - p) ∧ 0 ≤ sqN x y zs k ∧ sqN x y zs k ≤ 4000000 := by
        have h01 : k = 0 ∨ k = 1 := by omega
        rcases h01 with rfl | rfl
        · exact ⟨x, hx, (HW.out.cell (p := ⟨g, 0, none⟩) hgl).trans C0.out, by simp [sqN], by simp [sqN], by simp [sqN]⟩
        · have := HB.out 0
          have := sq_bd (d := gt zs 0 - x) (m := 2000) (by omega) (by omega)
          exact ⟨y, hy, (HW.out.cell (p := ⟨g, 1, none⟩) hgl).trans C1.out, rfl, this.1, this.2⟩
      have R := Lib.hid hs
      have S := sq_bd (d := gt zs k - p) (m := 2000) (by omega) (by omega)
      generalize gt zs k = z at *
      generalize sqN x y zs k = t at *
      generalize hq : (z - p) * (z - p) = q at *
      have HQ := Lib.hid hq
      have hk2 : (k : Int) < 2 := by omega
      clear hc hbl hq hs
      go_wp2
      go_quiet (fail)
      go_wp2
      go_roundw
      case rel => exact ⟨k + 1, by omega, by go_num, by rw [HQ.out, w64 (n := q) (by omega) (by omega), w64 (by omega) (by omega), R.out], Lib.hid (HW.out.trans (by (repeat (first | exact Below.refl _ _ | (refine Below.alloc ?_ (by first | omega | (simp; try omega)) _) | apply Below.drew | apply below_drewN))))⟩
      case measure => (simp [intOf]; try omega)
    · obtain rfl : k = n := by omega
      have R := Lib.hid (show sqN x y zs k = sqN x y zs zs.length by rw [HN.out])
      go_wp2
      go_ret
      exact ⟨by rw [← R.out]; rfl, HW.out⟩
set_option maxHeartbeats 1000000 in
theorem sqCallD (g : Nat) (x y : Int) (v : Value) (zs : List Int) (w : World) (hX : Blk w g #[.int .i64 x, .int .i64 y]) (hR : Rd w v zs) (hz : zs.length ≤ 2) (hx : -1000 ≤ x ∧ x ≤ 1000) (hy : -1000 ≤ y ∧ y ≤ 1000) (hb : ∀ j, -1000 ≤ gt zs j ∧ gt zs j ≤ 1000) :
    Calls Try.prog 49 #[v, .pointer (some ⟨g, 0, none⟩)] w fun e w' => e = .returned (.int .i64 (sqN x y zs zs.length)) ∧ ∃ m, w' = w.drewN m := by
  obtain ⟨a, n, c, rfl, hn, hcell⟩ := hR.cells
  have HC := Lib.hid hcell
  have HN := Lib.hid hn
  have HB := Lib.hid hb
  have c0 := hX.cell 0
  have c1 := hX.cell 1
  simp only [List.getElem?_toArray, List.getElem?_cons_zero, List.getElem?_cons_succ] at c0 c1
  have hgl := hX.lt
  have hn2 : n ≤ 2 := by omega
  have C0 := Lib.hid c0
  have C1 := Lib.hid c1
  clear hcell hn hR hb hX hz c0 c1
  go_enter Try.func49, Try.ntmps49
  go_wp2
  go_loopw [4, 9] (fun t i wr => ∃ k : Nat, k ≤ n ∧ i = .int .i64 k ∧ t = .int .i64 (sqN x y zs k) ∧ Hid (∃ m, wr = w.drewN m)) (fun _ i _ => n - (intOf i).toNat)
  case atStart => exact ⟨0, Nat.zero_le _, rfl, rfl, Lib.hid ⟨0, rfl⟩⟩
  case round =>
    obtain ⟨k, hk, rfl, rfl, HX⟩ := hrel
    have HW : Hid (Below w.heap.size w wr) := Lib.hid (by obtain ⟨m, hm⟩ := HX.out; rw [hm]; exact below_drewN (Below.refl _ _) m)
    by_cases hlt : k < n
    · obtain ⟨b, off, rfl, hbl, hc⟩ := HC.out k hlt
      have hcr := (HW.out.cell (p := ⟨b, off + k, none⟩) hbl).trans hc
      have hlt' : (k : Int) < n := by omega
      have hbk := HB.out k
      obtain ⟨p, hp, hcp, hs, hsb⟩ : ∃ p, (-1000 ≤ p ∧ p ≤ 1000) ∧ wr.cell? ⟨g, k, none⟩ = some (.int .i64 p) ∧ sqN x y zs (k + 1) = sqN x y zs k + (gt zs k - p) * (gt zs k - p) ∧ 0 ≤ sqN x y zs k ∧ sqN x y zs k ≤ 4000000 := by
        have h01 : k = 0 ∨ k = 1 := by omega
        rcases h01 with rfl | rfl
        · exact ⟨x, hx, (HW.out.cell (p := ⟨g, 0, none⟩) hgl).trans C0.out, by simp [sqN], by simp [sqN], by simp [sqN]⟩
        · have := HB.out 0
          have := sq_bd (d := gt zs 0 - x) (m := 2000) (by omega) (by omega)
          exact ⟨y, hy, (HW.out.cell (p := ⟨g, 1, none⟩) hgl).trans C1.out, rfl, this.1, this.2⟩
      have R := Lib.hid hs
      have S := sq_bd (d := gt zs k - p) (m := 2000) (by omega) (by omega)
      generalize gt zs k = z at *
      generalize sqN x y zs k = t at *
      generalize hq : (z - p) * (z - p) = q at *
      have HQ := Lib.hid hq
      have hk2 : (k : Int) < 2 := by omega
      clear hc hbl hq hs
      go_wp2
      go_quiet (fail)
      go_wp2
      go_roundw
      case rel => exact ⟨k + 1, by omega, by go_num, by rw [HQ.out, w64 (n := q) (by omega) (by omega), w64 (by omega) (by omega), R.out], Lib.hid (by obtain ⟨m, hm⟩ := HX.out; exact ⟨m + nq, by rw [hm, World.drewN_drewN]⟩)⟩
      case measure => (simp [intOf]; try omega)
    · obtain rfl : k = n := by omega
      have R := Lib.hid (show sqN x y zs k = sqN x y zs zs.length by rw [HN.out])
      go_wp2
      go_ret
      exact ⟨by rw [← R.out]; rfl, HX.out⟩
end Go.Proofs.Ytfkdkhoihlkgcab
