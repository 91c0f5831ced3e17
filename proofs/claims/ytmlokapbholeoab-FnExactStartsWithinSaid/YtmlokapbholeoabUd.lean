/- StartsWithin, both sides. -/
import Derived.Test.YtmlokapbholeoabUc
namespace Go.Proofs.Ytmlokapbholeoab
set_option linter.unusedVariables false
open Go.RowKit

def swL (h t : ByteArray) (L X : Int) : List Int := if askd h t L X then swS h t L.toNat X t.size else []
theorem swL_len (h t : ByteArray) (L X : Int) : (swL h t L X).length ≤ 1000 := by
  unfold swL; split
  · rename_i g
    have := (good_in (lpd_in (askd_in g).1).1).2.2.1
    have := swS_len h t L.toNat X t.size
    omega
  · simp
set_option maxHeartbeats 2000000 in
theorem specSw (h t : ByteArray) (L X : Int) (w : World) (hs : h.size ≤ 1048576 ∧ t.size ≤ 1048576) :
    Calls Try.prog 21 #[.string h, .string t, .int .i64 L, .int .i64 X] w fun e w' => ∃ v, e = .returned (.tuple #[v, .bool (askd h t L X)]) ∧ Ints w' w.heap.size v (swL h t L X) ∧ Below w.heap.size w w' := by
  have A := fun wx => tdLeap h t L wx hs.1 hs.2
  have TH := Lib.hid (fun wx => tdHour X wx)
  unfold swL
  cases ha : lpd h t L
  · have e0 : askd h t L X = false := by simp [askd, ha]
    rw [ha] at A
    rw [e0]
    have HA := Lib.hid A
    clear A ha e0
    refine Calls.intsNoU ?_
    go_enter Try.func21, Try.ntmps21
    go_wp2_with (go_at_call 37; refine (HA.out _).mono ?_; rintro e w' ⟨rfl, rfl⟩)
    go_ret2
    exact ⟨rfl, Below.refl _ _⟩
  cases hi : inB X 0 1000
  · have e0 : askd h t L X = false := by simp [askd, hi]
    rw [ha] at A
    rw [e0]
    rw [hi] at TH
    have HA := Lib.hid A
    clear A ha e0 hi
    refine Calls.intsNoU ?_
    go_enter Try.func21, Try.ntmps21
    go_wp2_with (first
      | (go_at_call 37; refine (HA.out _).mono ?_; rintro e w' ⟨rfl, rfl⟩)
      | (go_at_call 40; refine (TH.out _).mono ?_; rintro e w' ⟨rfl, rfl⟩))
    go_ret2
    exact ⟨rfl, Below.refl _ _⟩
  · have e0 : askd h t L X = true := by simp [askd, ha, hi]
    obtain ⟨hg, l0, l1⟩ := lpd_in ha
    have hX : 0 ≤ X ∧ X ≤ 1000 := by simpa [inB] using hi
    obtain ⟨hX0, hX1⟩ := hX
    obtain ⟨l, rfl⟩ : ∃ l : Nat, L = l := ⟨L.toNat, by omega⟩
    obtain ⟨⟨z1, z2, _⟩, ⟨z3, z4, _⟩⟩ := good_in hg
    have D := Lib.hid (fun k (hk : k ≤ 2000) wx => tdEnd h t l k wx hg (by omega) hk)
    have AB := Lib.hid (fun k => arV_bd h t l k (h.size + 1) hg)
    rw [ha] at A
    rw [e0]
    rw [hi] at TH
    simp only [if_true, Int.toNat_natCast]
    have HA := Lib.hid A
    clear A ha hg e0 hi
    go_enter Try.func21, Try.ntmps21
    go_wp2_with (first
      | (go_at_call 37; refine (HA.out _).mono ?_; rintro e w' ⟨rfl, rfl⟩)
      | (go_at_call 40; refine (TH.out _).mono ?_; rintro e w' ⟨rfl, rfl⟩))
    go_loopw [10, 11] (fun v i wr => ∃ k : Nat, k ≤ t.size ∧ i = .int .i64 k ∧ Ints wr w.heap.size v (swS h t l X k) ∧ Below w.heap.size w wr) (fun _ i _ => t.size - (intOf i).toNat)
    case atStart => exact ⟨0, Nat.zero_le _, rfl, World.ownsRow_nil _ _ _ _, Below.refl _ _⟩
    case round =>
      obtain ⟨k, hk, rfl, hI, hbw⟩ := hrel
      have hsz := hbw.size
      by_cases hlt : k < t.size
      · have hlt' : (k : Int) < t.size := by omega
        have hl := swS_len h t l X k
        have DK := Lib.hid (D.out k (by omega))
        have ab := AB.out k
        have HI := Lib.hid hI
        have HB := Lib.hid hbw
        clear hI hbw
        by_cases hz : 0 ≤ arV h t l k (h.size + 1)
        · have hv := hnV_yes hz
          by_cases c : arV h t l k (h.size + 1) - k ≤ X
          · have R := Lib.hid (swS_yes (h := h) (t := t) (l := l) (k := k) (H := X) ⟨hv.2, by rw [hv.1]; exact c⟩)
            clear hv
            generalize arV h t l k (h.size + 1) = y at *
            go_wp2_with (first
              | (go_at_call 31; refine (DK.out _).mono ?_; rintro e w2 ⟨rfl, hb2⟩; have HB2 := Lib.hid hb2; have HI2 := Lib.hid (HI.out.below hb2); have hle := hb2.size; clear hb2)
              | (at_builtin; refine wpList_app w2 rfl _ _ rfl w.heap.size _ (swS h t l X k) rfl HI2.out (k : Int) rfl (by omega) (by omega) rfl ?_; intro v' w3 hI3 hb3 hg3))
            go_roundw
            case rel => exact ⟨k + 1, by omega, by go_num, by rw [R.out]; exact hI3, (HB.out.trans (HB2.out.mono hsz)).trans hb3⟩
            case measure => (simp [intOf]; try omega)
          · have R := Lib.hid (swS_no (h := h) (t := t) (l := l) (k := k) (H := X) (fun g => by have := g.2; rw [hv.1] at this; exact c this))
            clear hv
            generalize arV h t l k (h.size + 1) = y at *
            go_wp2_with (go_at_call 31; refine (DK.out _).mono ?_; rintro e w2 ⟨rfl, hb2⟩; have HB2 := Lib.hid hb2; have HI2 := Lib.hid (HI.out.below hb2); have hle := hb2.size; clear hb2)
            go_roundw
            case rel => exact ⟨k + 1, by omega, by go_num, by rw [R.out]; exact HI2.out, HB.out.trans (HB2.out.mono hsz)⟩
            case measure => (simp [intOf]; try omega)
        · have hv := hnV_no hz
          have R := Lib.hid (swS_no (h := h) (t := t) (l := l) (k := k) (H := X) (fun g => by have := g.1; rw [hv] at this; omega))
          clear hv
          generalize arV h t l k (h.size + 1) = y at *
          go_wp2_with (go_at_call 31; refine (DK.out _).mono ?_; rintro e w2 ⟨rfl, hb2⟩; have HB2 := Lib.hid hb2; have HI2 := Lib.hid (HI.out.below hb2); have hle := hb2.size; clear hb2)
          go_roundw
          case rel => exact ⟨k + 1, by omega, by go_num, by rw [R.out]; exact HI2.out, HB.out.trans (HB2.out.mono hsz)⟩
          case measure => (simp [intOf]; try omega)
      · obtain rfl : k = t.size := by omega
        go_wp2
        go_ret2
        exact ⟨_, rfl, hI, hbw⟩
set_option maxHeartbeats 4000000 in
theorem implSw (h t : ByteArray) (L X : Int) (w : World) (hs : h.size ≤ 1048576 ∧ t.size ≤ 1048576) :
    Calls Try.prog 22 #[.string h, .string t, .int .i64 L, .int .i64 X] w fun e w' => ∃ v, e = .returned (.tuple #[v, .bool (askd h t L X)]) ∧ Ints w' w.heap.size v (swL h t L X) ∧ Below w.heap.size w w' := by
  have A := fun wx => isVAt h t L X wx hs.1 hs.2
  have X0 := Lib.hid (Blk.new w #[.string h, .string t] 37)
  have B0 := Lib.hid ((Below.refl w.heap.size w).alloc (Nat.le_refl _) (.cells #[.string h, .string t] 37))
  unfold swL
  cases ha : askd h t L X
  · rw [ha] at A
    have HA := Lib.hid A
    clear A ha
    refine Calls.intsNoU ?_
    go_enter Try.func22, Try.ntmps22
    go_wp2_with fail
    refine (HA.out _).mono ?_
    rintro e w1 ⟨rfl, hb1⟩
    go_wp2
    go_ret2
    exact ⟨rfl, B0.out.trans (hb1.mono (by simp))⟩
  · obtain ⟨hl, x0, x1⟩ := askd_in ha
    obtain ⟨hg, l0, l1⟩ := lpd_in hl
    obtain ⟨l, rfl⟩ : ∃ l : Nat, L = l := ⟨L.toNat, by omega⟩
    obtain ⟨⟨z1, z2, _⟩, ⟨z3, z4, hal⟩⟩ := good_in hg
    have HAL := Lib.hid hal
    have D := Lib.hid (fun k (hk : k ≤ 2000) wx => hoursNeeded h t l k wx hg (by omega) hk)
    unfold cst at D
    have BD := Lib.hid (fun k => hnV_bd (l := l) (s := k) hg)
    rw [ha] at A
    have HA := Lib.hid A
    simp only [if_true, Int.toNat_natCast]
    clear A ha hl hg hal
    go_enter Try.func22, Try.ntmps22
    go_wp2_with fail
    refine (HA.out _).mono ?_
    rintro e w1 ⟨rfl, hb1⟩
    have X1 := Lib.hid (X0.out.below hb1 (by simp))
    have s1 : w.heap.size + 1 ≤ w1.heap.size := by have := hb1.size; simpa using this
    have B1 := Lib.hid (B0.out.trans (hb1.mono (by simp)))
    clear hb1
    go_wp2
    go_loopw [11] (fun v wr => ∃ k : Nat, k ≤ t.size ∧ Ints wr (w1.heap.size + 1) v (swS h t l X k) ∧ wr.heap[w1.heap.size]? = some (.stringIter t k) ∧ Hid (Blk wr w.heap.size #[.string h, .string t]) ∧ Below w1.heap.size w1 wr) (fun _ wr => t.size - wr.iterPos w1.heap.size)
    case atStart =>
      refine ⟨0, Nat.zero_le _, World.ownsRow_nil _ _ _ _, ?_, Lib.hid (X1.out.alloc _), (Below.refl _ w1).alloc (Nat.le_refl _) _⟩
      have := World.iter_heap w1 t 0
      simpa using this
    case round =>
      obtain ⟨k, hk, hI, hit, HX, hbw⟩ := hrel
      have HOLD := Lib.hid hit
      have hsz : w1.heap.size < wr.heap.size := (Array.getElem?_eq_some_iff.1 hit).1
      by_cases hlt : k < t.size
      · have hnx : ∀ ty, (Instr.next (.pointer (some ⟨w1.heap.size, 0, none⟩)) true ty).run Try.prog wr = _ := fun ty => Lib.run_next_ascii_at wr w1.heap.size t k ty hit hlt (ascU HAL.out hlt)
        have HIT := Lib.hid (Lib.iterAt_heap wr w1.heap.size t k (k + 1) hit)
        have HB := Lib.hid (Lib.below_iterAt hbw (k := w1.heap.size) (Nat.le_refl _) t (k + 1))
        have HI := Lib.hid (hI.iterU (Nat.lt_succ_self _) t (k + 1))
        have HX2 := Lib.hid (HX.out.iterU (by omega) t (k + 1) : Blk (wr.iterAt w1.heap.size t (k + 1)) w.heap.size _)
        obtain ⟨d0, d1, dl⟩ := HX2.out.two
        have hl := swS_len h t l X k
        have hsz2 : w1.heap.size < (wr.iterAt w1.heap.size t (k + 1)).heap.size := by rw [Lib.iterAt_size]; exact hsz
        have DK := Lib.hid (D.out k (by omega))
        have bd := BD.out k
        clear hit hI hbw HX
        by_cases c : 0 ≤ hnV h t l k ∧ hnV h t l k ≤ X
        · have R := Lib.hid (swS_yes (h := h) (t := t) (l := l) (k := k) (H := X) c)
          obtain ⟨c1, c2⟩ := c
          generalize hnV h t l k = y at *
          go_wp2_with (first
            | (go_at_call 39; refine (DK.out _).mono ?_; rintro e w2 ⟨rfl, hb2⟩; have hle := hb2.size; have HI2 := Lib.hid (HI.out.below hb2); have HIT2 := Lib.hid ((hb2.block _ hsz2).trans HIT.out); have HX3 := Lib.hid (HX2.out.below hb2 dl); have HB2 := Lib.hid (HB.out.trans (hb2.mono (by omega))); clear hb2)
            | (at_builtin; refine wpList_app w2 rfl _ _ rfl (w1.heap.size + 1) _ (swS h t l X k) rfl HI2.out (k : Int) rfl (by omega) (by omega) rfl ?_; intro v' w3 hI3 hb3 hg3))
          go_roundw
          case rel => exact ⟨k + 1, by omega, by rw [R.out]; exact hI3, (hb3.block _ (by omega)).trans HIT2.out, Lib.hid (HX3.out.below hb3 (by omega)), HB2.out.trans (hb3.mono (by omega))⟩
          case measure => (simp only [World.iterPos, (hb3.block _ (Nat.lt_succ_self _)).trans HIT2.out, HOLD.out]; omega)
        · have R := Lib.hid (swS_no (h := h) (t := t) (l := l) (k := k) (H := X) c)
          have c' : hnV h t l k < 0 ∨ (0 ≤ hnV h t l k ∧ ¬ hnV h t l k ≤ X) := by omega
          clear c
          generalize hnV h t l k = y at *
          rcases c' with c' | ⟨c1, c2⟩
          all_goals
            go_wp2_with (go_at_call 39; refine (DK.out _).mono ?_; rintro e w2 ⟨rfl, hb2⟩; have HI2 := Lib.hid (HI.out.below hb2); have HIT2 := Lib.hid ((hb2.block _ hsz2).trans HIT.out); have HX3 := Lib.hid (HX2.out.below hb2 dl); have HB2 := Lib.hid (HB.out.trans (hb2.mono (by omega))); clear hb2)
            go_roundw
            case rel => exact ⟨k + 1, by omega, by rw [R.out]; exact HI2.out, HIT2.out, HX3, HB2.out⟩
            case measure => (simp only [World.iterPos, HIT2.out, HOLD.out]; omega)
      · have hnx : ∀ ty, (Instr.next (.pointer (some ⟨w1.heap.size, 0, none⟩)) true ty).run Try.prog wr = _ := fun ty => Lib.run_next_end_at wr w1.heap.size t k ty hit hlt
        obtain rfl : k = t.size := by omega
        have HBW := Lib.hid hbw
        clear hit hbw
        go_wp2
        go_ret2
        exact ⟨_, rfl, ints_mono' hI (by omega), B1.out.trans (HBW.out.mono (by omega))⟩
end Go.Proofs.Ytmlokapbholeoab
