/- impl.FirstRound, all cases. -/
import Derived.Test.YtihdhgkknfohaadIrr
namespace Go.Proofs.Ytihdhgkknfohaad
set_option linter.unusedVariables false
open Go.RowKit

set_option maxRecDepth 100000 in
set_option maxHeartbeats 4000000 in
theorem implRndNo1 (n : Int) (va : Option Addr) (l c : Nat) (bs : List Br) (f : Int) (w : World) (h : RdB w (.slice va l c) bs) (hl : bs.length ≤ 1048576) (ha : askI n bs f = false) :
    Calls Try.prog 7 #[.agg #[.int .i64 n, .slice va l c], .int .i64 f] w fun e w' => e = .returned (.tuple #[.slice none 0 0, .bool false]) ∧ Below w.heap.size w w' := by
  have H := Lib.hid h
  have HA := Lib.hid ha
  have X0 := Lib.hid (Blk.new w #[.int .i64 n, .slice va l c] 31)
  have BW := Lib.hid ((Below.refl w.heap.size w).alloc (Nat.le_refl _) (.cells #[.int .i64 n, .slice va l c] 31))
  have hsz0 : (w.alloc (.cells #[.int .i64 n, .slice va l c] 31)).heap.size = w.heap.size + 1 := by simp
  clear ha h
  go_enter Try.func7, Try.ntmps7
  go_wp2_with fail
  generalize hw0 : w.alloc (.cells #[.int .i64 n, .slice va l c] 31) = w0 at *
  have HSZ := Lib.hid hsz0
  clear hw0 hsz0
  refine wp_scope_labs (fun _ _ _ _ => False) (fun _ _ _ _ h => h.elim) ?first (fun _ _ _ _ _ h => h.elim)
  obtain ⟨c0, c1, l0⟩ := X0.out.two
  go_wp2_with fail
  refine (areIslesWith _ _ bs _ _ (H.out.below BW.out) hl).mono ?_
  rw [HA.out]
  rintro e w1 ⟨rfl, hb⟩
  have B1 := Lib.hid (BW.out.trans (hb.mono (by have := HSZ.out; omega)))
  clear hb c0 c1 l0
  go_wp2
  simp only [byLab]
  go_ret2
  exact ⟨rfl, B1.out⟩
set_option maxRecDepth 100000 in
set_option maxHeartbeats 4000000 in
theorem implRndNo2 (m : Nat) (va : Option Addr) (l c : Nat) (bs : List Br) (f : Nat) (w : World) (h : RdB w (.slice va l c) bs) (ha : askI m bs f = true) (hc : canR m bs f = false) :
    Calls Try.prog 7 #[.agg #[.int .i64 m, .slice va l c], .int .i64 f] w fun e w' => e = .returned (.tuple #[.slice none 0 0, .bool false]) ∧ Below w.heap.size w w' := by
  have H := Lib.hid h
  obtain ⟨m', k', e1, e2, hm1, hm7, hl14, hgd, hkm⟩ := askI_in ha
  obtain rfl : m = m' := by omega
  obtain rfl : f = k' := by omega
  have HG := Lib.hid hgd
  have HA := Lib.hid ha
  have HC := Lib.hid (show (evenB m bs && allS m bs f) = false from hc)
  clear hgd e1 e2
  have X0 := Lib.hid (Blk.new w #[.int .i64 m, .slice va l c] 31)
  have BW := Lib.hid ((Below.refl w.heap.size w).alloc (Nat.le_refl _) (.cells #[.int .i64 m, .slice va l c] 31))
  have hsz0 : (w.alloc (.cells #[.int .i64 m, .slice va l c] 31)).heap.size = w.heap.size + 1 := by simp
  clear ha h hc
  go_enter Try.func7, Try.ntmps7
  go_wp2_with fail
  generalize hw0 : w.alloc (.cells #[.int .i64 m, .slice va l c] 31) = w0 at *
  have HSZ := Lib.hid hsz0
  clear hw0 hsz0
  refine wp_scope_labs (fun _ _ _ _ => False) (fun _ _ _ _ h => h.elim) ?first (fun _ _ _ _ _ h => h.elim)
  obtain ⟨c0, c1, l0⟩ := X0.out.two
  go_wp2_with fail
  refine (areIslesWith _ _ bs _ _ (H.out.below BW.out) (by omega)).mono ?_
  rw [HA.out]
  rintro e w1 ⟨rfl, hb⟩
  have B1 := Lib.hid (BW.out.trans (hb.mono (by have := HSZ.out; omega)))
  have X1 := Lib.hid (X0.out.below hb X0.out.lt)
  clear hb c0 c1 l0
  obtain ⟨c0, c1, l0⟩ := X1.out.two
  go_wp2_with fail
  refine (hasRoundFrom m _ bs f _ (H.out.below B1.out) HG.out hm7 hl14 hkm).mono ?_
  rw [HC.out]
  rintro e w2 ⟨rfl, hb⟩
  have B2 := Lib.hid (B1.out.trans (hb.mono B1.out.size))
  clear hb c0 c1 l0
  go_wp2
  simp only [byLab]
  go_ret2
  exact ⟨rfl, B2.out⟩
theorem implRnd (n : Int) (v : Value) (bs : List Br) (f : Int) (w : World) (h : RdB w v bs) (hl : bs.length ≤ 1048576) :
    Calls Try.prog 7 #[.agg #[.int .i64 n, v], .int .i64 f] w fun e w' => ∃ u, e = .returned (.tuple #[u, .bool (rndB n bs f)]) ∧ Ints w' w.heap.size u (idx (rndZ n bs f)) ∧ Below w.heap.size w w' := by
  have h' := h
  obtain ⟨va, l, c, rfl, -, -, -, -⟩ := h'
  cases ha : askI n bs f with
  | false =>
    have Z := rnd_no1 ha
    refine (implRndNo1 n va l c bs f w h hl ha).mono ?_
    rintro e w' ⟨rfl, hb⟩
    exact ⟨_, by rw [Z.1], by rw [Z.2]; exact World.ownsRow_nil _ _ _ _, hb⟩
  | true =>
    obtain ⟨m, k, rfl, rfl, hm1, hm7, hl14, hgd, hkm⟩ := askI_in ha
    cases hc : canR m bs k with
    | false =>
      have Z := rnd_no2 hc
      refine (implRndNo2 m va l c bs k w h ha hc).mono ?_
      rintro e w' ⟨rfl, hb⟩
      exact ⟨_, by rw [Z.1], by rw [Z.2]; exact World.ownsRow_nil _ _ _ _, hb⟩
    | true =>
      have Z := rnd_yes ha hc
      refine (implRndYes m va l c bs k w h ha hc).mono ?_
      rintro e w' ⟨u, rfl, hI, hb⟩
      exact ⟨u, by rw [Z.1], by rw [Z.2]; exact hI, hb⟩
end Go.Proofs.Ytihdhgkknfohaad
