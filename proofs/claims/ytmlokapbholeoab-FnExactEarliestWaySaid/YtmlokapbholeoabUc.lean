/- FewestHours, StartsWithin, LeastTideLeap, both sides. -/
import Derived.Test.YtmlokapbholeoabUa
import Derived.Test.YtmlokapbholeoabUb
import Derived.Lib.OthersKept
namespace Go.Proofs.Ytmlokapbholeoab
set_option linter.unusedVariables false
open Go.RowKit

theorem Ints.iterU {w : World} {B K : Nat} {v : Value} {zs : List Int} (h : Ints w B v zs) (hk : K < B) (s : ByteArray) (p : Nat) : Ints (w.iterAt K s p) B v zs := by
  refine ⟨h.1, ?_⟩
  rcases h.2 with h2 | ⟨g, cap, cur, e, h1, hg, h3, h4, h5, h6⟩
  · exact .inl h2
  · exact .inr ⟨g, cap, cur, e, h1, (Lib.iterAt_other w K g s p (by omega)).trans hg, h3, h4, h5, h6⟩
theorem ascU {s : ByteArray} (hd : AllT s) {k : Nat} (hk : k < s.size) : (s[k]'hk).toNat < 128 := by have := hd k hk; omega
theorem Blk.iterU {w : World} {g K : Nat} {cs : Array Value} (h : Blk w g cs) (hk : g ≠ K) (s : ByteArray) (p : Nat) : Blk (w.iterAt K s p) g cs := by
  obtain ⟨T, h⟩ := h; exact ⟨T, (Lib.iterAt_other w K g s p hk).trans h⟩
def fhV (h t : ByteArray) (L : Int) : Value := if lpd h t L = true ∧ 0 ≤ (feS h t L.toNat t.size).1 then .tuple #[.int .i64 (feS h t L.toNat t.size).1, .int .i64 ((feS h t L.toNat t.size).2 : Int), .bool true] else .tuple #[.int .i64 0, .int .i64 0, .bool false]
theorem fhV_no {h t : ByteArray} {L : Int} (g : ¬ (lpd h t L = true ∧ 0 ≤ (feS h t L.toNat t.size).1)) : fhV h t L = .tuple #[.int .i64 0, .int .i64 0, .bool false] := if_neg g
theorem fhV_yes {h t : ByteArray} {L : Int} (g : lpd h t L = true ∧ 0 ≤ (feS h t L.toNat t.size).1) : fhV h t L = .tuple #[.int .i64 (feS h t L.toNat t.size).1, .int .i64 ((feS h t L.toNat t.size).2 : Int), .bool true] := if_pos g
theorem fhV_form (h t : ByteArray) (L : Int) : ∃ x y z, fhV h t L = .tuple #[.int .i64 x, .int .i64 y, .bool z] := by
  unfold fhV; split <;> exact ⟨_, _, _, rfl⟩
set_option maxHeartbeats 2000000 in
theorem specFh (h t : ByteArray) (L : Int) (w : World) (hs : h.size ≤ 1048576 ∧ t.size ≤ 1048576) :
    Calls Try.prog 19 #[.string h, .string t, .int .i64 L] w fun e w' => e = .returned (fhV h t L) ∧ Below w.heap.size w w' := by
  have A := fun wx => tdLeap h t L wx hs.1 hs.2
  cases ha : lpd h t L
  · have J := Lib.hid (fhV_no (h := h) (t := t) (L := L) (by rw [ha]; simp))
    rw [ha] at A
    have HA := Lib.hid A
    clear A ha
    go_enter Try.func19, Try.ntmps19
    go_wp2_with (go_at_call 37; refine (HA.out _).mono ?_; rintro e w' ⟨rfl, rfl⟩)
    go_ret3
    exact ⟨ret_v J.out.symm, Below.refl _ _⟩
  · obtain ⟨hg, l0, l1⟩ := lpd_in ha
    obtain ⟨l, rfl⟩ : ∃ l : Nat, L = l := ⟨L.toNat, by omega⟩
    obtain ⟨⟨z1, z2, _⟩, ⟨z3, z4, _⟩⟩ := good_in hg
    have D := Lib.hid (fun k (hk : k ≤ 2000) wx => tdEnd h t l k wx hg (by omega) hk)
    have BD := Lib.hid (fun k => feS_bd (l := l) hg k)
    have AB := Lib.hid (fun k => arV_bd h t l k (h.size + 1) hg)
    have HLP := Lib.hid ha
    rw [ha] at A
    have HA := Lib.hid A
    clear A ha hg
    go_enter Try.func19, Try.ntmps19
    go_wp2_with (go_at_call 37; refine (HA.out _).mono ?_; rintro e w' ⟨rfl, rfl⟩)
    go_loopw [9, 10, 11] (fun b a i wr => ∃ k : Nat, k ≤ t.size ∧ i = .int .i64 k ∧ b = .int .i64 (feS h t l k).1 ∧ a = .int .i64 ((feS h t l k).2 : Int) ∧ Below w.heap.size w wr) (fun _ _ i _ => t.size - (intOf i).toNat)
    case atStart => exact ⟨0, Nat.zero_le _, rfl, rfl, rfl, Below.refl _ _⟩
    case round =>
      obtain ⟨k, hk, rfl, rfl, rfl, hbw⟩ := hrel
      have HB := Lib.hid hbw
      have hsz := hbw.size
      clear hbw
      by_cases hlt : k < t.size
      · have hlt' : (k : Int) < t.size := by omega
        have DK := Lib.hid (D.out k (by omega))
        have bd := BD.out k
        have ab := AB.out k
        by_cases hz : 0 ≤ arV h t l k (h.size + 1)
        · have hv := hnV_yes hz
          by_cases c1 : (feS h t l k).1 < 0
          · have R := Lib.hid (feS_yes (l := l) (k := k) ⟨hv.2, .inl c1⟩)
            rw [hv.1] at R
            clear hv bd
            generalize arV h t l k (h.size + 1) = y at *
            generalize (feS h t l k).1 = b at *
            generalize ((feS h t l k).2 : Int) = a at *
            go_wp2_with (go_at_call 31; refine (DK.out _).mono ?_; rintro e w2 ⟨rfl, hb2⟩)
            go_roundw
            case rel => exact ⟨k + 1, by omega, by go_num, by rw [R.out], by rw [R.out], HB.out.trans (hb2.mono hsz)⟩
            case measure => (simp [intOf]; try omega)
          · by_cases c2 : arV h t l k (h.size + 1) - k < (feS h t l k).1
            · have R := Lib.hid (feS_yes (l := l) (k := k) ⟨hv.2, .inr (by rw [hv.1]; exact c2)⟩)
              rw [hv.1] at R
              clear hv bd
              generalize arV h t l k (h.size + 1) = y at *
              generalize (feS h t l k).1 = b at *
              generalize ((feS h t l k).2 : Int) = a at *
              go_wp2_with (go_at_call 31; refine (DK.out _).mono ?_; rintro e w2 ⟨rfl, hb2⟩)
              go_roundw
              case rel => exact ⟨k + 1, by omega, by go_num, by rw [R.out], by rw [R.out], HB.out.trans (hb2.mono hsz)⟩
              case measure => (simp [intOf]; try omega)
            · have R := Lib.hid (feS_no (h := h) (t := t) (l := l) (k := k) (fun c => by rcases c.2 with c3 | c3; exact c1 c3; rw [hv.1] at c3; exact c2 c3))
              clear hv bd
              generalize arV h t l k (h.size + 1) = y at *
              generalize hb0 : (feS h t l k).1 = b at *
              generalize ha0 : ((feS h t l k).2 : Int) = a at *
              have HB0 := Lib.hid hb0
              have HA0 := Lib.hid ha0
              clear hb0 ha0
              go_wp2_with (go_at_call 31; refine (DK.out _).mono ?_; rintro e w2 ⟨rfl, hb2⟩)
              go_roundw
              case rel => exact ⟨k + 1, by omega, by go_num, by rw [R.out, HB0.out], by rw [R.out, HA0.out], HB.out.trans (hb2.mono hsz)⟩
              case measure => (simp [intOf]; try omega)
        · have hv := hnV_no hz
          have R := Lib.hid (feS_no (h := h) (t := t) (l := l) (k := k) (fun c => by have := c.1; rw [hv] at this; omega))
          clear hv bd
          generalize arV h t l k (h.size + 1) = y at *
          generalize hb0 : (feS h t l k).1 = b at *
          generalize ha0 : ((feS h t l k).2 : Int) = a at *
          have HB0 := Lib.hid hb0
          have HA0 := Lib.hid ha0
          clear hb0 ha0
          go_wp2_with (go_at_call 31; refine (DK.out _).mono ?_; rintro e w2 ⟨rfl, hb2⟩)
          go_roundw
          case rel => exact ⟨k + 1, by omega, by go_num, by rw [R.out, HB0.out], by rw [R.out, HA0.out], HB.out.trans (hb2.mono hsz)⟩
          case measure => (simp [intOf]; try omega)
      · obtain rfl : k = t.size := by omega
        by_cases hz : 0 ≤ (feS h t l t.size).1
        · have J := fhV_yes (h := h) (t := t) (L := (l : Int)) ⟨HLP.out, by simpa using hz⟩
          simp only [Int.toNat_natCast] at J
          have HJ := Lib.hid J
          have hz' : ¬ (feS h t l t.size).1 < 0 := by omega
          clear J
          generalize (feS h t l t.size).1 = b at *
          generalize ((feS h t l t.size).2 : Int) = a at *
          go_wp2
          go_ret3
          exact ⟨ret_v HJ.out.symm, HB.out⟩
        · have J := Lib.hid (fhV_no (h := h) (t := t) (L := (l : Int)) (fun c => hz (by simpa using c.2)))
          have hz' : (feS h t l t.size).1 < 0 := by omega
          generalize (feS h t l t.size).1 = b at *
          go_wp2
          go_ret3
          exact ⟨ret_v J.out.symm, HB.out⟩
set_option maxHeartbeats 4000000 in
theorem implFh (h t : ByteArray) (L : Int) (w : World) (hs : h.size ≤ 1048576 ∧ t.size ≤ 1048576) :
    Calls Try.prog 20 #[.string h, .string t, .int .i64 L] w fun e w' => e = .returned (fhV h t L) ∧ Below w.heap.size w w' := by
  have A := fun wx => isVWL h t L wx hs.1 hs.2
  have X0 := Lib.hid (Blk.new w #[.string h, .string t] 37)
  have B0 := Lib.hid ((Below.refl w.heap.size w).alloc (Nat.le_refl _) (.cells #[.string h, .string t] 37))
  cases ha : lpd h t L
  · have J := Lib.hid (fhV_no (h := h) (t := t) (L := L) (by rw [ha]; simp))
    rw [ha] at A
    have HA := Lib.hid A
    clear A ha
    go_enter Try.func20, Try.ntmps20
    go_wp2_with fail
    refine (HA.out _).mono ?_
    rintro e w1 ⟨rfl, hb1⟩
    go_wp2
    go_ret3
    exact ⟨ret_v J.out.symm, B0.out.trans (hb1.mono (by simp))⟩
  · obtain ⟨hg, l0, l1⟩ := lpd_in ha
    obtain ⟨l, rfl⟩ : ∃ l : Nat, L = l := ⟨L.toNat, by omega⟩
    obtain ⟨⟨z1, z2, _⟩, ⟨z3, z4, hal⟩⟩ := good_in hg
    have HAL := Lib.hid hal
    have D := Lib.hid (fun k (hk : k ≤ 2000) wx => hoursNeeded h t l k wx hg (by omega) hk)
    unfold cst at D
    have BD := Lib.hid (fun k => feS_bd (l := l) hg k)
    have HLP := Lib.hid ha
    rw [ha] at A
    have HA := Lib.hid A
    have SG := Lib.hid (fun k k' => hnV_sgn (h := h) (t := t) (l := l) (s := k) (s' := k') (by omega))
    clear A ha hg hal
    go_enter Try.func20, Try.ntmps20
    go_wp2_with fail
    refine (HA.out _).mono ?_
    rintro e w1 ⟨rfl, hb1⟩
    have X1 := Lib.hid (X0.out.below hb1 (by simp))
    have s1 : w.heap.size + 1 ≤ w1.heap.size := by have := hb1.size; simpa using this
    have B1 := Lib.hid (B0.out.trans (hb1.mono (by simp)))
    clear hb1
    go_wp2
    go_loopw [10, 11] (fun b a wr => ∃ k : Nat, k ≤ t.size ∧ b = .int .i64 (feS h t l k).1 ∧ a = .int .i64 ((feS h t l k).2 : Int) ∧ (0 < k → Hid (∀ j, 0 ≤ hnV h t l j)) ∧ wr.heap[w1.heap.size]? = some (.stringIter t k) ∧ Hid (Blk wr w.heap.size #[.string h, .string t]) ∧ Below w1.heap.size w1 wr) (fun _ _ wr => t.size - wr.iterPos w1.heap.size)
    case atStart =>
      refine ⟨0, Nat.zero_le _, rfl, rfl, fun c => absurd c (Nat.lt_irrefl _), ?_, Lib.hid (X1.out.alloc _), (Below.refl _ w1).alloc (Nat.le_refl _) _⟩
      have := World.iter_heap w1 t 0
      simpa using this
    case round =>
      obtain ⟨k, hk, rfl, rfl, hall, hit, HX, hbw⟩ := hrel
      have HOLD := Lib.hid hit
      have hsz : w1.heap.size < wr.heap.size := (Array.getElem?_eq_some_iff.1 hit).1
      by_cases hlt : k < t.size
      · have hnx : ∀ ty, (Instr.next (.pointer (some ⟨w1.heap.size, 0, none⟩)) true ty).run Try.prog wr = _ := fun ty => Lib.run_next_ascii_at wr w1.heap.size t k ty hit hlt (ascU HAL.out hlt)
        have HIT := Lib.hid (Lib.iterAt_heap wr w1.heap.size t k (k + 1) hit)
        have HB := Lib.hid (Lib.below_iterAt hbw (k := w1.heap.size) (Nat.le_refl _) t (k + 1))
        have HX2 := Lib.hid (HX.out.iterU (by omega) t (k + 1) : Blk (wr.iterAt w1.heap.size t (k + 1)) w.heap.size _)
        obtain ⟨d0, d1, dl⟩ := HX2.out.two
        have hsz2 : w1.heap.size < (wr.iterAt w1.heap.size t (k + 1)).heap.size := by rw [Lib.iterAt_size]; exact hsz
        have DK := Lib.hid (D.out k (by omega))
        have bd := BD.out k
        clear hit hbw HX hall
        by_cases hz : 0 ≤ hnV h t l k
        · have ALL := Lib.hid (fun j => SG.out j k hz)
          have hz' : ¬ hnV h t l k < 0 := by omega
          by_cases c : (feS h t l k).1 < 0 ∨ hnV h t l k < (feS h t l k).1
          · have R := Lib.hid (feS_yes (l := l) (k := k) ⟨hz, c⟩)
            have c' : (feS h t l k).1 < 0 ∨ (¬ (feS h t l k).1 < 0 ∧ hnV h t l k < (feS h t l k).1) := by omega
            clear c
            generalize hnV h t l k = y at *
            generalize (feS h t l k).1 = b at *
            generalize ((feS h t l k).2 : Int) = a at *
            rcases c' with c' | ⟨c2, c3⟩
            all_goals
              go_wp2_with (go_at_call 39; refine (DK.out _).mono ?_; rintro e w2 ⟨rfl, hb2⟩; have HIT2 := Lib.hid ((hb2.block _ hsz2).trans HIT.out); have HX3 := Lib.hid (HX2.out.below hb2 dl); have HB2 := Lib.hid (HB.out.trans (hb2.mono (by omega))); clear hb2)
              go_roundw
              case rel => exact ⟨k + 1, by omega, by rw [R.out], by rw [R.out], fun _ => ALL, HIT2.out, HX3, HB2.out⟩
              case measure => (simp only [World.iterPos, HIT2.out, HOLD.out]; omega)
          · have R := Lib.hid (feS_no (h := h) (t := t) (l := l) (k := k) (fun c2 => c c2.2))
            have c1 : ¬ (feS h t l k).1 < 0 := by omega
            have c2 : ¬ hnV h t l k < (feS h t l k).1 := by omega
            clear c
            generalize hnV h t l k = y at *
            generalize hb0 : (feS h t l k).1 = b at *
            generalize ha0 : ((feS h t l k).2 : Int) = a at *
            have HB0 := Lib.hid hb0
            have HA0 := Lib.hid ha0
            clear hb0 ha0
            go_wp2_with (go_at_call 39; refine (DK.out _).mono ?_; rintro e w2 ⟨rfl, hb2⟩; have HIT2 := Lib.hid ((hb2.block _ hsz2).trans HIT.out); have HX3 := Lib.hid (HX2.out.below hb2 dl); have HB2 := Lib.hid (HB.out.trans (hb2.mono (by omega))); clear hb2)
            go_roundw
            case rel => exact ⟨k + 1, by omega, by rw [R.out, HB0.out], by rw [R.out, HA0.out], fun _ => ALL, HIT2.out, HX3, HB2.out⟩
            case measure => (simp only [World.iterPos, HIT2.out, HOLD.out]; omega)
        · have J := Lib.hid (fhV_no (h := h) (t := t) (L := (l : Int)) (fun c => by
            have hn : ∀ j, hnV h t l j < 0 := fun j => by
              by_cases c2 : 0 ≤ hnV h t l j
              · exact absurd (SG.out k j c2) hz
              · omega
            have := c.2
            simp only [Int.toNat_natCast, feS_none hn] at this
            omega))
          have hz' : hnV h t l k < 0 := by omega
          clear hz
          generalize hnV h t l k = y at *
          go_wp2_with (go_at_call 39; refine (DK.out _).mono ?_; rintro e w2 ⟨rfl, hb2⟩; have HB2 := Lib.hid (HB.out.trans (hb2.mono (by omega))); clear hb2)
          go_ret3
          exact ⟨ret_v J.out.symm, B1.out.trans (HB2.out.mono (by omega))⟩
      · have hnx : ∀ ty, (Instr.next (.pointer (some ⟨w1.heap.size, 0, none⟩)) true ty).run Try.prog wr = _ := fun ty => Lib.run_next_end_at wr w1.heap.size t k ty hit hlt
        obtain rfl : k = t.size := by omega
        have hall2 := (hall (by omega)).out
        have hz : 0 ≤ (feS h t l t.size).1 := by
          have := feS_some hall2 (t.size - 1)
          rwa [show t.size - 1 + 1 = t.size by omega] at this
        have J := fhV_yes (h := h) (t := t) (L := (l : Int)) ⟨HLP.out, by simpa using hz⟩
        simp only [Int.toNat_natCast] at J
        have HJ := Lib.hid J
        have HBW := Lib.hid hbw
        clear J hall hall2 hit hbw
        generalize (feS h t l t.size).1 = b at *
        generalize ((feS h t l t.size).2 : Int) = a at *
        go_wp2
        go_ret3
        exact ⟨ret_v HJ.out.symm, B1.out.trans (HBW.out.mono (by omega))⟩
end Go.Proofs.Ytmlokapbholeoab
