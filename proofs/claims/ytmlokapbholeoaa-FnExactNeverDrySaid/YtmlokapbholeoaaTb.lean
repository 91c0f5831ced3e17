/- DryHours, AlwaysDry, NeverDry, both sides: spec.tdBy, impl's coast.stonesDryFor. -/
import Derived.Test.YtmlokapbholeoaaTz
namespace Go.Proofs.Ytmlokapbholeoaa
set_option linter.unusedVariables false
open Go.RowKit

set_option maxHeartbeats 2000000 in
theorem tdBy (h t : ByteArray) (n : Nat) (N : Int) (w : World) (hN : N = n) (hg : good h t = true) :
    Calls Try.prog 39 #[.string h, .string t, .int .i64 N] w fun e w' => ∃ v, e = .returned v ∧ Ints w' w.heap.size v (byH h t n h.size) ∧ Below w.heap.size w w' := by
  obtain ⟨⟨z1, z2, hal⟩, ⟨z3, z4, _⟩⟩ := good_in hg
  have HG := Lib.hid hg
  have HN := Lib.hid hN
  have HAL := Lib.hid hal
  clear hg hN hal
  go_enter Try.func39, Try.ntmps39
  go_wp2
  go_loopw [7, 8] (fun v i wr => ∃ k : Nat, k ≤ h.size ∧ i = .int .i64 ((k : Int) + 1) ∧ Ints wr w.heap.size v (byH h t n k) ∧ Below w.heap.size w wr) (fun _ i _ => h.size + 1 - (intOf i).toNat)
  case atStart => exact ⟨0, Nat.zero_le _, rfl, World.ownsRow_nil _ _ _ _, Below.refl _ _⟩
  case round =>
    obtain ⟨k, hk, rfl, hI, hbw⟩ := hrel
    have hsz := hbw.size
    by_cases hlt : k < h.size
    · have hlt' : (k : Int) + 1 ≤ h.size := by omega
      have hlt2 : (k : Int) < h.size := by omega
      have e1 : (k : Int) + 1 - 1 = (k : Int) := by omega
      have k0 : (0 : Int) ≤ k := by omega
      have hl := byH_len h t n k
      have HI := Lib.hid hI
      have HB := Lib.hid hbw
      have hbt := bt_at hlt
      have hbi := bt_in HAL.out k
      clear hI hbw
      by_cases h0 : bt h k = 48
      · have R := Lib.hid (byH_no (t := t) (n := n) (k := k) (h := h) (by omega))
        have g0 : ¬ (48 : Int) < (h[k].toNat : Int) := by omega
        clear hbt hbi h0
        go_wp2
        go_roundw
        case rel => exact ⟨k + 1, by omega, by go_num, by rw [R.out]; exact HI.out, HB.out⟩
        case measure => simp [intOf]; omega
      · have g0 : (48 : Int) < (h[k].toNat : Int) := by omega
        have D := Lib.hid (fun wx => tdHours h t (k + 1) ((k : Int) + 1) wx (by omega) HG.out (by omega))
        have hhl := hrs_len h t (k + 1) t.size
        have hb48 : 48 < bt h k := by omega
        by_cases he : (hrs h t (k + 1) t.size).length = n
        · have R := Lib.hid (byH_yes hb48 he)
          have q := HN.out
          rw [← he] at q
          generalize hrs h t (k + 1) t.size = zs at *
          clear hbt hbi h0 hb48 he HN
          subst q
          go_wp2_with (first
            | (go_at_call 36; refine (D.out _).mono ?_; rintro e w2 ⟨v, rfl, hv, hb2⟩; obtain ⟨va, vc, rfl⟩ := ints_sl hv; have HI2 := Lib.hid (HI.out.below hb2); have hle := hb2.size; have HB2 := Lib.hid hb2; clear hb2 hv)
            | (at_builtin; refine wpList_app w2 rfl _ _ rfl w.heap.size _ (byH h t n k) rfl HI2.out ((k : Int) + 1) rfl (by omega) (by omega) rfl ?_; intro v' w3 hI3 hb3 hg3))
          go_roundw
          case rel => exact ⟨k + 1, by omega, by go_num, by rw [R.out]; exact hI3, (HB.out.trans (HB2.out.mono hsz)).trans hb3⟩
          case measure => simp [intOf]; omega
        · have R := Lib.hid (byH_no (t := t) (n := n) (k := k) (h := h) (fun c => he c.2))
          have q : ¬ ((hrs h t (k + 1) t.size).length : Int) = N := by have := HN.out; omega
          generalize hrs h t (k + 1) t.size = zs at *
          clear hbt hbi h0 hb48 he HN
          go_wp2_with (first
            | (go_at_call 36; refine (D.out _).mono ?_; rintro e w2 ⟨v, rfl, hv, hb2⟩; obtain ⟨va, vc, rfl⟩ := ints_sl hv; have HI2 := Lib.hid (HI.out.below hb2); have hle := hb2.size; have HB2 := Lib.hid hb2; clear hb2 hv))
          go_roundw
          case rel => exact ⟨k + 1, by omega, by go_num, by rw [R.out]; exact HI2.out, HB.out.trans (HB2.out.mono hsz)⟩
          case measure => simp [intOf]; omega
    · obtain rfl : k = h.size := by omega
      go_wp2
      go_ret
      exact ⟨_, rfl, hI, hbw⟩
set_option maxHeartbeats 4000000 in
theorem stonesDryFor (h t : ByteArray) (n : Nat) (N : Int) (w : World) (hN : N = n) (hg : good h t = true) :
    Calls Try.prog 40 #[cst h t, .int .i64 N] w fun e w' => ∃ v, e = .returned v ∧ Ints w' w.heap.size v (byH h t n h.size) ∧ Below w.heap.size w w' := by
  obtain ⟨⟨z1, z2, hal⟩, ⟨z3, z4, _⟩⟩ := good_in hg
  have HG := Lib.hid hg
  have HN := Lib.hid hN
  have HAL := Lib.hid hal
  obtain ⟨c0, c1, cl⟩ := (Blk.new w #[.string h, .string t] 40).two
  have X := Lib.hid (Blk.new w #[.string h, .string t] 40)
  clear hg hN hal
  unfold cst
  go_enter Try.func40, Try.ntmps40
  go_wp2
  go_loopw [5] (fun v wr => ∃ k : Nat, k ≤ h.size ∧ Ints wr (w.heap.size + 2) v (byH h t n k) ∧ wr.heap[w.heap.size + 1]? = some (.stringIter h k) ∧ Hid (Blk wr w.heap.size #[.string h, .string t]) ∧ Below w.heap.size w wr) (fun _ wr => h.size - wr.iterPos (w.heap.size + 1))
  case atStart =>
    refine ⟨0, Nat.zero_le _, World.ownsRow_nil _ _ _ _, ?_, Lib.hid (X.out.alloc _), ((Below.refl _ w).alloc (Nat.le_refl _) _).alloc (by simp) _⟩
    have := World.iter_heap (w.alloc (.cells #[.string h, .string t] 40)) h 0
    simpa using this
  case round =>
    obtain ⟨k, hk, hI, hit, HX, hbw⟩ := hrel
    have HOLD := Lib.hid hit
    have hsz : w.heap.size + 1 < wr.heap.size := (Array.getElem?_eq_some_iff.1 hit).1
    by_cases hlt : k < h.size
    · have hnx : ∀ ty, (Instr.next (.pointer (some ⟨w.heap.size + 1, 0, none⟩)) true ty).run Try.prog wr = _ := fun ty => Lib.run_next_ascii_at wr (w.heap.size + 1) h k ty hit hlt (asc HAL.out hlt)
      have HIT := Lib.hid (Lib.iterAt_heap wr (w.heap.size + 1) h k (k + 1) hit)
      have HB := Lib.hid (Lib.below_iterAt hbw (k := w.heap.size + 1) (Nat.le_succ _) h (k + 1))
      have HI := Lib.hid (hI.iterT (Nat.lt_succ_self _) h (k + 1))
      have HX2 := Lib.hid (HX.out.iterT (by omega) h (k + 1) : Blk (wr.iterAt (w.heap.size + 1) h (k + 1)) w.heap.size _)
      obtain ⟨d0, d1, dl⟩ := HX2.out.two
      have hl := byH_len h t n k
      have hsz2 : w.heap.size + 1 < (wr.iterAt (w.heap.size + 1) h (k + 1)).heap.size := by rw [Lib.iterAt_size]; exact hsz
      have hbt := bt_at hlt
      have hbi := bt_in HAL.out k
      clear hit hI hbw HX
      by_cases h0 : bt h k = 48
      · have R := Lib.hid (byH_no (t := t) (n := n) (k := k) (h := h) (by omega))
        have g0 : ((h[k].toNat : Int) != 48) = false := by simp; omega
        clear hbt hbi h0
        go_wp2
        go_roundw
        case rel => exact ⟨k + 1, by omega, by rw [R.out]; exact HI.out, HIT.out, Lib.hid HX2.out, HB.out⟩
        case measure => (simp only [World.iterPos, HIT.out, HOLD.out]; omega)
      · have g0 : ((h[k].toNat : Int) != 48) = true := by simp; omega
        have D := Lib.hid (fun wx => dryHours h t (k + 1) ((k : Int) + 1) wx (by omega) HG.out (by omega))
        unfold cst at D
        have hhl := hrs_len h t (k + 1) t.size
        have hb48 : 48 < bt h k := by omega
        by_cases he : (hrs h t (k + 1) t.size).length = n
        · have R := Lib.hid (byH_yes hb48 he)
          have q := HN.out
          rw [← he] at q
          generalize hrs h t (k + 1) t.size = zs at *
          clear hbt hbi h0 hb48 he HN
          subst q
          go_wp2_with (first
            | (go_at_call 38; refine (D.out _).mono ?_; rintro e w2 ⟨v, rfl, hv, hb2⟩; obtain ⟨va, vc, rfl⟩ := ints_sl hv; have HI2 := Lib.hid (HI.out.below hb2); have HIT2 := Lib.hid ((hb2.block _ hsz2).trans HIT.out); have HX3 := Lib.hid (HX2.out.below hb2 (by omega)); have hle := hb2.size; have HB2 := Lib.hid (HB.out.trans (hb2.mono (by omega))); clear hb2 hv)
            | (at_builtin; refine wpList_app w2 rfl _ _ rfl (w.heap.size + 2) _ (byH h t n k) rfl HI2.out ((k : Int) + 1) rfl (by omega) (by omega) rfl ?_; intro v' w3 hI3 hb3 hg3))
          go_roundw
          case rel => exact ⟨k + 1, by omega, by rw [R.out]; exact hI3, (hb3.block _ (by omega)).trans HIT2.out, Lib.hid (HX3.out.below hb3 (by omega)), HB2.out.trans (hb3.mono (by omega))⟩
          case measure => (simp only [World.iterPos, (hb3.block _ (Nat.lt_succ_self _)).trans HIT2.out, HOLD.out]; omega)
        · have R := Lib.hid (byH_no (t := t) (n := n) (k := k) (h := h) (fun c => he c.2))
          have q : ¬ ((hrs h t (k + 1) t.size).length : Int) = N := by have := HN.out; omega
          generalize hrs h t (k + 1) t.size = zs at *
          clear hbt hbi h0 hb48 he HN
          go_wp2_with (first
            | (go_at_call 38; refine (D.out _).mono ?_; rintro e w2 ⟨v, rfl, hv, hb2⟩; obtain ⟨va, vc, rfl⟩ := ints_sl hv; have HI2 := Lib.hid (HI.out.below hb2); have HIT2 := Lib.hid ((hb2.block _ hsz2).trans HIT.out); have HX3 := Lib.hid (HX2.out.below hb2 (by omega)); have hle := hb2.size; have HB2 := Lib.hid (HB.out.trans (hb2.mono (by omega))); clear hb2 hv))
          go_roundw
          case rel => exact ⟨k + 1, by omega, by rw [R.out]; exact HI2.out, HIT2.out, Lib.hid HX3.out, HB2.out⟩
          case measure => (simp only [World.iterPos, HIT2.out, HOLD.out]; omega)
    · have hnx : ∀ ty, (Instr.next (.pointer (some ⟨w.heap.size + 1, 0, none⟩)) true ty).run Try.prog wr = _ := fun ty => Lib.run_next_end_at wr (w.heap.size + 1) h k ty hit hlt
      obtain rfl : k = h.size := by omega
      go_wp2
      go_ret
      exact ⟨_, rfl, ints_mono' hI (by omega), hbw⟩
end Go.Proofs.Ytmlokapbholeoaa
