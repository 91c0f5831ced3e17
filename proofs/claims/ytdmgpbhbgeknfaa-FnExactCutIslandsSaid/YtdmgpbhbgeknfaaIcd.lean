/- CutIslands: slices.DeleteFunc at bridges (those at an island), groupsWithout. -/
import Derived.Test.YtdmgpbhbgeknfaaIdp
import Derived.Test.YtdmgpbhbgeknfaaIy
namespace Go.Proofs.Ytdmgpbhbgeknfaa
set_option linter.unusedVariables false
open Go.RowKit

/-- some at the front are written over -/
def mixL (ks bs : List Br) : List Br := ks ++ bs.drop ks.length
theorem mixL_len {ks bs : List Br} (h : ks.length ≤ bs.length) : (mixL ks bs).length = bs.length := by simp [mixL]; omega
theorem mixL_get {ks bs : List Br} {j : Nat} (h : ks.length ≤ j) : gb (mixL ks bs) j = gb bs j := by
  unfold gb mixL
  rw [List.getD_eq_getElem?_getD, List.getElem?_append_right h, List.getElem?_drop, List.getD_eq_getElem?_getD, show ks.length + (j - ks.length) = j by omega]
theorem mixL_set {ks bs : List Br} (h : ks.length < bs.length) (b : Br) : (mixL ks bs).set ks.length b = mixL (ks ++ [b]) bs := by
  unfold mixL
  rw [List.set_append_right _ _ (Nat.le_refl _), Nat.sub_self, List.drop_eq_getElem_cons h, List.set_cons_zero]
  simp
theorem mixL_take {bs : List Br} (k : Nat) (h : k ≤ bs.length) : mixL (bs.take k) bs = bs := by
  unfold mixL
  rw [List.length_take, show min k bs.length = k by omega, List.take_append_drop]
theorem offB_all {bs : List Br} {i : Nat} {k : Nat} (hk : k ≤ bs.length) (h : ∀ j, j < k → atB (gb bs j).1 (gb bs j).2.1 i = false) : offB (i : Int) (bs.take k) = bs.take k := by
  unfold offB
  rw [List.filter_eq_self]
  intro b hb
  obtain ⟨j, hj, rfl⟩ := List.getElem_of_mem hb
  have hj2 : j < k := by simp at hj; omega
  have e : (bs.take k)[j] = gb bs j := by rw [List.getElem_take]; simp [gb, show j < bs.length by omega]
  rw [e]
  have := h j hj2
  unfold atB at this
  rw [this]; rfl
theorem offB_len (bs : List Br) (wo : Int) (k : Nat) : (offB wo (bs.take k)).length ≤ k := by
  unfold offB
  exact Nat.le_trans (List.length_filter_le _ _) (by simp; omega)
theorem offB_less {bs : List Br} {i k : Nat} (hk : k < bs.length) (h : atB (gb bs k).1 (gb bs k).2.1 i = true) : (offB (i : Int) bs).length < bs.length := by
  unfold offB
  rw [List.length_filter_lt_length_iff_exists]
  refine ⟨gb bs k, gb_mem hk, ?_⟩
  unfold atB at h
  rw [h]; simp
/-- without an island: one group less, its own -/
def gwI (m : Nat) (bs : List Br) (i : Nat) : Nat := cntW (lab m (offB (i : Int) bs)) i m
theorem gw_eq {m : Nat} {bs : List Br} (hg : Good m bs) {i : Nat} (hi : i < m) : groupsN m (offB (i : Int) bs) = gwI m bs i + 1 := by
  have go := offB_good hg (i : Int)
  have hr : root (lab m (offB (i : Int) bs)) i = true := by
    have h1 := (labOK go).inv (fun x => x = i) (fun b hb => by
      have h2 := (List.mem_filter.1 hb).2
      have h3 := go b hb
      have h4 : ¬ b.1 = (i : Int) ∧ ¬ b.2.1 = (i : Int) := by simpa using h2
      constructor <;> (intro h; omega)) i hi
    have h5 := (labOK go).low i hi
    have h6 := h1.2 rfl
    simp [root]; omega
  unfold groupsN gwI cntW
  refine cnt_less hi hr (by simp) fun j _ hne => ?_
  have : ¬ (j : Int) = i := by omega
  simp [this]
theorem delF (x y z : Int) (i S : Nat) (w : World) (hS : S < w.heap.size) (hc : w.cell? ⟨S, 0, none⟩ = some (.int .i64 i)) :
    Calls Try.prog 51 #[.agg #[.int .i64 x, .int .i64 y, .int .i64 z], .pointer (some ⟨S, 0, none⟩)] w fun e w' => e = .returned (.bool (atB x y i)) ∧ Below w.heap.size w w' := by
  have hne : S ≠ w.heap.size := by omega
  have C := Lib.hid (fun W => isAt x y z i W)
  generalize atB x y i = r at *
  go_enter Try.func51, Try.ntmps51
  go_wp2_with fail
  refine (C.out _).mono ?_
  rintro e w1 ⟨rfl, hb⟩
  have HB := Lib.hid (Below.trans (by (repeat (first | exact Below.refl _ _ | (refine Below.alloc ?_ (by first | omega | (simp; try omega)) _) | apply Below.drew | apply below_drewN))) (hb.mono (by simp; try omega)) : Below w.heap.size w w1)
  clear hb
  go_wp2
  go_ret
  exact ⟨rfl, HB.out⟩
set_option maxHeartbeats 2000000 in
theorem indexD (v : Value) (bs : List Br) (i S : Nat) (w : World) (hR : RdB w v bs) (hl : bs.length ≤ 14) (hS : S < w.heap.size) (hc : w.cell? ⟨S, 0, none⟩ = some (.int .i64 i)) :
    Calls Try.prog 61 #[v, .func (.func 51) #[] #[.pointer (some ⟨S, 0, none⟩)]] w fun e w' => ∃ r : Int, e = .returned (.int .i64 r) ∧ ((r = -1 ∧ ∀ j, j < bs.length → atB (gb bs j).1 (gb bs j).2.1 i = false) ∨ (∃ k : Nat, r = k ∧ k < bs.length ∧ atB (gb bs k).1 (gb bs k).2.1 i = true ∧ ∀ j, j < k → atB (gb bs j).1 (gb bs j).2.1 i = false)) ∧ Below w.heap.size w w' := by
  obtain ⟨a, l, c, rfl, hnz, _, _, hcell⟩ := hR
  rw [← hnz] at hl
  have HN := Lib.hid hnz
  have HC := Lib.hid hcell
  have HU := Lib.hid hc
  clear hcell hnz hc
  go_enter Try.func61, Try.ntmps61
  go_wp2
  go_loopw [5, 8] (fun _ q wr => ∃ j : Nat, j ≤ l ∧ q = .int .i64 j ∧ Hid (∀ p, p < j → atB (gb bs p).1 (gb bs p).2.1 i = false) ∧ Below w.heap.size w wr) (fun _ q _ => l - (intOf q).toNat)
  case atStart => exact ⟨0, Nat.zero_le _, rfl, Lib.hid fun q hq => absurd hq (Nat.not_lt_zero _), Below.refl _ _⟩
  case round =>
    obtain ⟨j, hj, rfl, HA, hbel⟩ := hrel
    by_cases hlt : j < l
    · obtain ⟨b, off, rfl, hbw, hcl⟩ := HC.out j hlt
      obtain ⟨c0, c1, c2⟩ := hcl.below hbw hbel
      have hlt' : (j : Int) < l := by omega
      have HS := Lib.hid (fun (g : atB (gb bs j).1 (gb bs j).2.1 i = false) => (fun q hq => by
        by_cases e : q = j
        · subst e; exact g
        · exact HA.out q (by omega) : ∀ q, q < j + 1 → atB (gb bs q).1 (gb bs q).2.1 i = false))
      have HY := Lib.hid (fun (g : atB (gb bs j).1 (gb bs j).2.1 i = true) => g)
      have HB := Lib.hid hbel
      generalize hq : gb bs j = q at *
      have HQ := Lib.hid hq
      obtain ⟨x, y, z⟩ := q
      simp only at c0 c1 c2 HS
      clear hcl hbel hq HY
      go_wp2_with fail
      refine (delF x y z i S _ (Nat.lt_of_lt_of_le hS HB.out.size) ((HB.out.cell (p := ⟨S, 0, none⟩) hS).trans HU.out)).mono ?_
      rintro e w1 ⟨rfl, hb1⟩
      have HB1 := Lib.hid (HB.out.trans (hb1.mono HB.out.size))
      clear hb1 c0 c1 c2
      cases hx : atB x y i
      · have R := Lib.hid (HS.out hx)
        clear hx HS
        go_wp2
        go_roundw
        case rel => exact ⟨j + 1, by omega, by go_num, R, HB1.out⟩
        case measure => (simp [intOf]; try omega)
      · have R := Lib.hid hx
        clear hx HS
        go_wp2
        go_ret
        exact ⟨_, rfl, .inr ⟨j, rfl, by have := HN.out; omega, by rw [HQ.out]; exact R.out, HA.out⟩, HB1.out⟩
    · obtain rfl : j = l := by omega
      go_wp2
      go_ret
      exact ⟨_, rfl, .inl ⟨rfl, fun p hp => HA.out p (by have := HN.out; omega)⟩, hbel⟩
end Go.Proofs.Ytdmgpbhbgeknfaa
