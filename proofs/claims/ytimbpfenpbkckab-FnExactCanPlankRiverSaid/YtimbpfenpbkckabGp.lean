/- The gaps of a river: GapsOfRiver, impl and spec. -/
import Derived.Test.YtimbpfenpbkckabLong
import Derived.Test.YtimbpfenpbkckabAsk
namespace Go.Proofs.Ytimbpfenpbkckab
set_option linter.unusedVariables false
open Go.RowKit

/-- the leaps that are too long -/
def glP (L : Int) (l : List (Nat × Nat)) : List Int := (l.map fun p => (p.2 : Int) - p.1).filter fun n => decide (L < n)
theorem glP_yes {L : Int} {l : List (Nat × Nat)} {a b : Nat} (h : L < (b : Int) - a) : glP L (l ++ [(a, b)]) = glP L l ++ [(b : Int) - a] := by
  simp [glP, List.filter_append, h]
theorem glP_no {L : Int} {l : List (Nat × Nat)} {a b : Nat} (h : ¬ L < (b : Int) - a) : glP L (l ++ [(a, b)]) = glP L l := by
  have h2 : (b : Int) - a ≤ L := by omega
  simp [glP, List.filter_append, h2]
theorem glP_len (L : Int) (l : List (Nat × Nat)) : (glP L l).length ≤ l.length := by
  have := List.length_filter_le (fun n => decide (L < n)) (l.map fun p => (p.2 : Int) - p.1)
  simpa [glP] using this
def gapsL (s : ByteArray) (L : Int) : List Int := if asked s L then glP L (strides s) else []
theorem gapsL_no {s : ByteArray} {L : Int} (h : asked s L = false) : gapsL s L = [] := by simp [gapsL, h]
theorem gapsL_yes {s : ByteArray} {L : Int} (h : asked s L = true) : gapsL s L = glP L (prTo s (s.size + 1)) := by simp [gapsL, h, strides]
theorem gapsL_len (s : ByteArray) (L : Int) : (gapsL s L).length ≤ 41 := by
  cases h : asked s L
  · rw [gapsL_no h]; simp
  · rw [gapsL_yes h]
    have := glP_len L (prTo s (s.size + 1)); have := prTo_len s (s.size + 1); have := asked_out h; omega
theorem take_pair {l : List (Nat × Nat)} {j : Nat} (h : j < l.length) : l.take (j + 1) = l.take j ++ [((l.getD j (0, 0)).1, (l.getD j (0, 0)).2)] := by
  have e : l.getD j (0, 0) = l[j] := by simp [h]
  rw [e]
  exact List.take_succ_eq_append_getElem h

def GapPost (B : Nat) (zs : List Int) (w : World) (e : Ending) (w' : World) : Prop := ∃ v, e = .returned v ∧ Ints w' B v zs ∧ Below B w w'
def IntsP (B : Nat) (zs : List Int) (ok : Bool) (w : World) (e : Ending) (w' : World) : Prop :=
  ∃ v, e = .returned (.tuple #[v, .bool ok]) ∧ Ints w' B v zs ∧ Below B w w'
set_option maxHeartbeats 2000000 in
theorem implGaps (s : ByteArray) (L : Int) (w : World) (hs : s.size ≤ 1048576) :
    Calls Try.prog 49 #[.string s, .int .i64 L] w (IntsP w.heap.size (gapsL s L) (asked s L) w) := by
  cases h1 : asked s L
  · have J := Lib.hid (gapsL_no h1)
    have G := Lib.hid h1
    clear h1
    go_enter Try.func49, Try.ntmps49
    go_wp2_with (go_at_call 64; refine (implAsked _ _ _ hs).mono ?_; rintro e w' ⟨rfl, rfl⟩; rw [G.out])
    go_ret2
    exact ⟨_, rfl, by rw [J.out]; exact World.ownsRow_nil _ _ _ _, Below.refl _ _⟩
  have J := Lib.hid (gapsL_yes h1)
  obtain ⟨_, hz1, hz2, hl1, hl2⟩ := asked_out h1
  have G := Lib.hid h1
  clear h1
  go_enter Try.func49, Try.ntmps49
  go_wp2_with (first
    | (go_at_call 64; refine (implAsked _ _ _ hs).mono ?_; rintro e w' ⟨rfl, rfl⟩; rw [G.out])
    | (go_at_call 65; refine (stridesOf s _ hz2).mono ?_; rintro e w1 ⟨v, rfl, hI, hb1⟩; obtain ⟨a, n, cap, rfl, hn0, hcell0⟩ := hI.form; have HN := Lib.hid hn0; have HC := Lib.hid hcell0; clear hn0 hcell0 hI))
  have hB := hb1.size
  have hnb : n ≤ 41 := by have := strides_len s; have := HN.out; omega
  have HSL := Lib.hid (strides_lt s)
  rw [show prTo s (s.size + 1) = strides s from rfl] at J
  generalize strides s = l at *
  go_loopw [6, 16] (fun u i wr => ∃ j : Nat, j ≤ n ∧ i = .int .i64 j ∧ Ints wr w1.heap.size u (glP L (l.take j)) ∧ Below w1.heap.size w1 wr) (fun _ i _ => n - (intOf i).toNat)
  case atStart => exact ⟨0, Nat.zero_le _, rfl, World.ownsRow_nil _ _ _ _, Below.refl _ _⟩
  case round =>
    obtain ⟨j, hj, rfl, hI, hb⟩ := hrel
    have hle := hb.size
    have hgl : (glP L (l.take j)).length ≤ 41 := by have := glP_len L (l.take j); have := List.length_take_le j l; omega
    by_cases hlt : j < n
    · have hjl : j < l.length := by have := HN.out; omega
      have hpb := getD_lt HSL.out hjl
      have T := Lib.hid (take_pair hjl)
      obtain ⟨g, rfl, hg1, hg2, hc0, hc1⟩ := HC.out j hlt
      have hc0 := (hb.cell (p := ⟨g, j * 2, none⟩) hg2).trans hc0
      have hc1 := (hb.cell (p := ⟨g, j * 2 + 1, none⟩) hg2).trans hc1
      have hgw : g < wr.heap.size := by omega
      generalize l.getD j (0, 0) = p at *
      obtain ⟨x, y⟩ := p
      simp only at hc0 hc1 hpb T
      by_cases hf : L < (y : Int) - x
      · have R := Lib.hid (glP_yes (l := l.take j) hf)
        rw [← T.out] at R
        have hb2 : Below w1.heap.size w1 (((wr.alloc (.cells #[.int .i64 x, .int .i64 y] 60)).alloc (.cells #[.int .i64 x, .int .i64 y] 60)).alloc (.cells #[.int .i64 x, .int .i64 y] 60)) := ((hb.alloc hle _).alloc (by simp; omega) _).alloc (by simp; omega) _
        have hI2 := ((hI.below ((Below.refl wr.heap.size wr).alloc (Nat.le_refl _) (.cells #[.int .i64 x, .int .i64 y] 60))).below ((Below.refl _ _).alloc (Nat.le_refl _) (.cells #[.int .i64 x, .int .i64 y] 60))).below ((Below.refl _ _).alloc (Nat.le_refl _) (.cells #[.int .i64 x, .int .i64 y] 60))
        have HI2 := Lib.hid hI2
        have HB2 := Lib.hid hb2
        clear hI hb hI2 hb2 T HC
        go_wp2_with (first
          | (go_at_call 66; refine (length _ _ _ (by omega) (by omega)).mono ?_; rintro e w' ⟨rfl, rfl⟩)
          | (at_builtin; refine wpList_app' (((wr.alloc (.cells #[.int .i64 x, .int .i64 y] 60)).alloc (.cells #[.int .i64 x, .int .i64 y] 60)).alloc (.cells #[.int .i64 x, .int .i64 y] 60)) rfl _ _ rfl w1.heap.size _ (glP L (l.take j)) rfl HI2.out ((y : Int) - x) (wr.heap.size + 1 + 1 + 1) rfl (by simp) (by omega) (by simp; omega) rfl ?_; intro v' w2 hI3 hb3 hg3))
        go_roundw
        case rel => exact ⟨j + 1, by omega, by go_num, by rw [R.out]; exact hI3, HB2.out.trans hb3⟩
        case measure => (simp [intOf]; try omega)
      · have R := Lib.hid (glP_no (l := l.take j) hf)
        rw [← T.out] at R
        clear T HC
        go_wp2_with (go_at_call 66; refine (length _ _ _ (by omega) (by omega)).mono ?_; rintro e w' ⟨rfl, rfl⟩)
        go_roundw
        case rel => exact ⟨j + 1, by omega, by go_num, by rw [R.out]; exact (hI.below ((Below.refl wr.heap.size wr).alloc (Nat.le_refl _) _)).below ((Below.refl _ _).alloc (Nat.le_refl _) _), (hb.alloc hle _).alloc (by simp; omega) _⟩
        case measure => (simp [intOf]; try omega)
    · obtain rfl : j = n := by omega
      have e := Lib.hid (show l.take j = l from List.take_of_length_le (by have := HN.out; omega))
      rw [e.out] at hI
      go_wp2
      go_ret2
      exact ⟨_, rfl, by rw [J.out]; exact ints_mono' hI hB, hb1.trans (hb.mono hB)⟩
set_option maxHeartbeats 2000000 in
theorem plGaps (s : ByteArray) (L : Int) (w : World) (hz : s.size ≤ 40) (hL : 0 ≤ L ∧ L ≤ 1000) :
    Calls Try.prog 48 #[.string s, .int .i64 L] w (GapPost w.heap.size (glP L (prTo s (s.size + 1))) w) := by
  have hs : s.size ≤ 1048576 := by omega
  go_enter Try.func48, Try.ntmps48
  go_wp2_with fail
  go_loopw [5, 6, 7] (fun v l i wr => ∃ k : Nat, k ≤ s.size + 1 ∧ i = .int .i64 ((k : Int) + 1) ∧ l = .int .i64 (lastTo s k) ∧ Ints wr w.heap.size v (glP L (prTo s k)) ∧ Below w.heap.size w wr) (fun _ _ i _ => s.size + 3 - (intOf i).toNat)
  case atStart => exact ⟨0, Nat.zero_le _, rfl, rfl, World.ownsRow_nil _ _ _ _, Below.refl _ _⟩
  case round =>
    obtain ⟨k, hk, rfl, rfl, hI, hb⟩ := hrel
    have hle := hb.size
    have hl := lastTo_le s k
    have hgl : (glP L (prTo s k)).length ≤ 41 := by have := glP_len L (prTo s k); have := prTo_len s k; omega
    by_cases hlt : k < s.size + 1
    · cases hst : stand s (k + 1)
      · have R := Lib.hid (prTo_no hst)
        have R2 := Lib.hid (lastTo_no hst)
        have G := Lib.hid hst
        clear hst
        go_wp2_with (go_at_call 63; refine (rvStand s (k + 1) _ hs (by omega)).mono ?_; rintro e w' ⟨rfl, rfl⟩; rw [G.out])
        go_roundw
        case rel => exact ⟨k + 1, by omega, by go_num, by rw [R2.out], by rw [R.out]; exact hI, hb⟩
        case measure => (simp [intOf]; try omega)
      · have R := Lib.hid (prTo_yes hst)
        have R2 := Lib.hid (lastTo_yes hst)
        have G := Lib.hid hst
        clear hst
        by_cases hf : L < ((k + 1 : Nat) : Int) - (lastTo s k : Int)
        · have R3 := Lib.hid (R.out ▸ glP_yes (l := prTo s k) hf : glP L (prTo s (k + 1)) = glP L (prTo s k) ++ [((k + 1 : Nat) : Int) - (lastTo s k : Int)])
          have hf2 : L < (k : Int) + 1 - (lastTo s k : Int) := by omega
          generalize lastTo s k = z at *
          clear hf
          go_wp2_with (first
            | (go_at_call 63; refine (rvStand s (k + 1) _ hs (by omega)).mono ?_; rintro e w' ⟨rfl, rfl⟩; rw [G.out])
            | (at_builtin; refine wpList_app wr rfl _ _ rfl w.heap.size _ (glP L (prTo s k)) rfl hI ((k : Int) + 1 - z) rfl (by omega) hle rfl ?_; intro v' w2 hI2 hb2 hg2))
          go_roundw
          case rel => exact ⟨k + 1, by omega, by go_num, by rw [R2.out]; rfl, by rw [R3.out]; exact hI2, hb.trans hb2⟩
          case measure => (simp [intOf]; try omega)
        · have R3 := Lib.hid (R.out ▸ glP_no (l := prTo s k) hf : glP L (prTo s (k + 1)) = glP L (prTo s k))
          have hf2 : ¬ L < (k : Int) + 1 - (lastTo s k : Int) := by omega
          generalize lastTo s k = z at *
          clear hf
          go_wp2_with (first
            | (go_at_call 63; refine (rvStand s (k + 1) _ hs (by omega)).mono ?_; rintro e w' ⟨rfl, rfl⟩; rw [G.out]))
          go_roundw
          case rel => exact ⟨k + 1, by omega, by go_num, by rw [R2.out]; rfl, by rw [R3.out]; exact hI, hb⟩
          case measure => (simp [intOf]; try omega)
    · obtain rfl : k = s.size + 1 := by omega
      go_wp2
      go_ret
      exact ⟨_, rfl, hI, hb⟩
end Go.Proofs.Ytimbpfenpbkckab
