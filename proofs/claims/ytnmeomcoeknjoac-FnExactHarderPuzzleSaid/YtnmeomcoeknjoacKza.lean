/- impl.riversOf: all rivers of a puzzle's places, with the clues that they fit. -/
import Derived.Test.YtnmeomcoeknjoacKz
namespace Go.Proofs.Ytnmeomcoeknjoac
set_option linter.unusedVariables false
set_option maxRecDepth 100000
open Go.RowKit

theorem HRs.mono {w : World} {B B' N : Nat} {v : Value} {R : Nat → ByteArray} {F : Nat → Nat → Bool} (h : HRs w B v N R F) (hb : B' ≤ B) : HRs w B' v N R F := by
  refine ⟨h.1, ?_⟩
  rcases h.2 with h2 | ⟨g, cap, cur, e, h1, r⟩
  · exact .inl h2
  · exact .inr ⟨g, cap, cur, e, Nat.le_trans hb h1, r⟩
def RRv (n m : Nat) (i : Nat) : ByteArray := if i < m then rvN n i else ⟨#[]⟩
def FFv (n : Nat) (cs : List Br) (m j : Nat) (i k : Nat) : Bool := if i < m then fitK cs (rvN n i) k else (decide (i = m) && (decide (k < j) && cfit (gb cs k) (rvN n i)))
theorem RRv_0 (n : Nat) : RRv n 0 = fun _ => ⟨#[]⟩ := by funext i; simp [RRv]
theorem FFv_0 (n : Nat) (cs : List Br) : FFv n cs 0 0 = fun _ _ => false := by funext i k; simp [FFv]
theorem RRv_set (n m : Nat) : (fun i => if i = m then rvN n m else RRv n m i) = RRv n (m + 1) := by
  funext i
  unfold RRv
  by_cases e : i = m
  · subst e; simp
  · by_cases h : i < m
    · simp [e, h, show i < m + 1 by omega]
    · simp [e, h, show ¬ i < m + 1 by omega]
theorem RRv_at (n m : Nat) : RRv n (m + 1) m = rvN n m := by simp [RRv]
theorem FFv_set (n : Nat) (cs : List Br) (m j : Nat) : (fun i q => if i = m ∧ q = j then cfit (gb cs j) (rvN n m) else FFv n cs m j i q) = FFv n cs m (j + 1) := by
  funext i q
  unfold FFv
  by_cases h : i < m
  · rw [if_neg (by omega), if_pos h, if_pos h]
  · by_cases e : i = m
    · subst e
      by_cases eq : q = j
      · subst eq; simp
      · rw [if_neg (by simp [eq])]
        simp
        rw [show decide (q < j) = decide (q < j + 1) from decide_eq_decide.2 (by omega)]
    · simp [e, h]
theorem FFv_end {n : Nat} {cs : List Br} {m N : Nat} (hN : N = cs.length) : FFv n cs m N = FFv n cs (m + 1) 0 := by
  funext i q
  unfold FFv
  by_cases h : i < m
  · rw [if_pos h, if_pos (by omega)]
  · by_cases e : i = m
    · subst e; simp [fitK, hN]
    · rw [if_neg h, if_neg (by omega)]; simp [e]
theorem hrs_end (n : Nat) (cs : List Br) (P : Nat) : hrs P (RRv n P) (FFv n cs P 0) = hrs P (rvN n) (fun i => fitK cs (rvN n i)) :=
  hrs_congr (fun m hm => by simp [RRv, hm]) (fun m hm k _ => by simp [FFv, hm])
set_option maxHeartbeats 8000000 in
theorem riversOf (n : Nat) (v : Value) (cs : List Br) (w : World) (h : RdB w v cs) (hn : 1 ≤ n ∧ n ≤ 8) (hl : cs.length ≤ 6) (hc : ∀ c ∈ cs, isCl (n : Int) c = true) :
    Calls Try.prog 29 #[.agg #[.int .i64 (n : Int), v]] w fun e w' => ∃ u, e = .returned u ∧ HRs w' w.heap.size u (2 ^ n) (rvN n) (fun i => fitK cs (rvN n i)) ∧ (∃ g c, u = .slice (some ⟨g, 0, none⟩) (2 ^ n) c) ∧ Below w.heap.size w w' := by
  obtain ⟨a, N, c, rfl, hN, _, _, hcell⟩ := h
  have HC := Lib.hid hcell
  have HN := Lib.hid hN
  have HCL := Lib.hid hc
  obtain ⟨P, hP⟩ : ∃ P, P = 2 ^ n := ⟨_, rfl⟩
  have hP8 : P ≤ 256 := by rw [hP]; exact pow_8 hn.2
  have HP := Lib.hid hP
  have hsh := pow_wrap hP hP8
  have hNb : N ≤ 6 := by omega
  have X0 := Lib.hid (Blk.new w #[.int .i64 (n : Int), .slice a N c] 31)
  have B0 := Lib.hid (show Below w.heap.size w (w.alloc (.cells #[.int .i64 (n : Int), .slice a N c] 31)) from (Below.refl _ _).alloc (Nat.le_refl _) _)
  clear hcell hN hc hP
  go_enter Try.func29, Try.ntmps29
  go_wp2_with (at_make; refine wpList_mkH rfl _ _ rfl (w.heap.size + 1) P _ rfl rfl (by first | exact hsh | (simp; exact hsh) | skip) (by omega) (by simp) ?_; intro w1 hI hb)
  have e1 : (w.alloc (.cells #[.int .i64 (n : Int), .slice a N c] 31)).heap.size = w.heap.size + 1 := by simp
  rw [e1] at hI
  have hI0 : HRs w1 (w.heap.size + 1) (.slice (some ⟨w.heap.size + 1, 0, none⟩) P P) P (RRv n 0) (FFv n cs 0 0) := by rw [RRv_0, FFv_0]; exact hI
  have HI := Lib.hid hI0
  have HX := Lib.hid (X0.out.below hb (by omega))
  have HB := Lib.hid (B0.out.trans (hb.mono (by omega)))
  clear hI hI0 hb e1
  go_loopw [4, 13] (fun _ i wr => ∃ m : Nat, m ≤ P ∧ i = .int .i64 (m : Int) ∧ Hid (HRs wr (w.heap.size + 1) (.slice (some ⟨w.heap.size + 1, 0, none⟩) P P) P (RRv n m) (FFv n cs m 0)) ∧ Hid (Blk wr w.heap.size #[.int .i64 (n : Int), .slice a N c]) ∧ Hid (Below w.heap.size w wr)) (fun _ i _ => P - (intOf i).toNat)
  case atStart => exact ⟨0, Nat.zero_le _, rfl, HI, HX, HB⟩
  case round =>
    clear HI HX HB
    obtain ⟨m, hm, rfl, HI, HX, HB⟩ := hrel
    obtain ⟨wo, hwo⟩ : ∃ wo, wo = wr := ⟨_, rfl⟩
    subst hwo
    by_cases hlt : m < P
    · have hr := rvN_rv (n := n) (k := m) hn
      have hz := rvN_size n m
      have HF := Lib.hid (show ∀ k a b wx, isCl (n : Int) (k, a, b) = true → Calls Try.prog 46 #[.agg #[.int .i64 k, .int .i64 a, .int .i64 b], .string (rvN n m)] wx fun e w' => e = .returned (.bool (cfit (k, a, b) (rvN n m))) ∧ Below wx.heap.size wx w' from
        fun k a b wx hcl => fitsClue k a b (rvN n m) wx hr (by omega) (okA_of (by rw [hz]; exact hcl)))
      have hlt' : (m : Int) < P := by omega
      have R0 := Lib.hid (fun wx => riverOf n m wx hn (by omega))
      obtain ⟨x0, x1, xl⟩ := HX.out.two
      clear hr hz
      go_wp2_with fail
      refine (R0.out _).mono ?_
      rintro e w2 ⟨rfl, hb2⟩
      have HI2 := HI.out.below hb2
      have c0 := HI2.cell0 hlt
      have f0 := HI2.frz (m * 7)
      have hI3 := HI2.set0 m (rvN n m)
      rw [RRv_set] at hI3
      have HI3 := Lib.hid hI3
      have hX2 := HX.out.below hb2 HX.out.lt
      obtain ⟨y0, y1, yl⟩ := hX2.two
      have HX3 := Lib.hid (hX2.far (p := ⟨w.heap.size + 1, m * 7, none⟩) (by simp) (.string (rvN n m)))
      have hB2 := HB.out.trans (hb2.mono HB.out.size)
      have HB3 := Lib.hid (hB2.setCell (p := ⟨w.heap.size + 1, m * 7, none⟩) (by simp) (.string (rvN n m)))
      clear hI3 hX2 hB2 hb2 HI2 x0 x1 xl
      generalize RRv n m m = old at *
      go_wp2_with fail
      go_loopw [5, 27] (fun _ i wq => ∃ j : Nat, j ≤ N ∧ i = .int .i64 (j : Int) ∧ Hid (HRs wq (w.heap.size + 1) (.slice (some ⟨w.heap.size + 1, 0, none⟩) P P) P (RRv n (m + 1)) (FFv n cs m j)) ∧ Hid (Blk wq w.heap.size #[.int .i64 (n : Int), .slice a N c]) ∧ Hid (Below w.heap.size w wq)) (fun _ i _ => N - (intOf i).toNat)
      case atStart => exact ⟨0, Nat.zero_le _, rfl, HI3, HX3, HB3⟩
      case round =>
        clear HI3 HX3 HB3 HI HX HB c0 f0 y0 y1 yl
        obtain ⟨j, hj, rfl, HI, HX, HB⟩ := hrel
        by_cases hlj : j < N
        · obtain ⟨b, off, rfl, hbl, hA⟩ := HC.out j hlj
          obtain ⟨c1, c2, c3⟩ := hA.below hbl HB.out
          have hlj' : (j : Int) < N := by omega
          have hj6 : (j : Int) < 6 := by omega
          have hcl := HCL.out _ (gb_mem (bs := cs) (j := j) (by have := HN.out; omega))
          have hle := HB.out.size
          have d0 := HI.out.cell0 hlt
          rw [RRv_at] at d0
          have hgl := HI.out.blk.2
          have HSK := Lib.hid (fun (wx : World) (hI : HRs wx (w.heap.size + 1) (.slice (some ⟨w.heap.size + 1, 0, none⟩) P P) P (RRv n (m + 1)) (FFv n cs m j)) => FFv_set n cs m j ▸ hI.setk m (k := j) (by omega) (cfit (gb cs j) (rvN n m)))
          clear hA
          generalize gb cs j = q at *
          obtain ⟨x, y, z⟩ := q
          dsimp only at c1 c2 c3
          have HFF := Lib.hid (fun wx => HF.out x y z wx hcl)
          clear hcl
          generalize hB' : cfit (x, y, z) (rvN n m) = fb at *
          generalize rvN n m = r at *
          clear hB'
          go_wp2_with fail
          go_region_with (go_at_call 46; refine (HFF.out _).mono ?_; rintro e w5 ⟨rfl, hb⟩; have HB5 := Lib.hid (HB.out.trans (Below.trans (by (repeat (first | exact Below.refl _ _ | (refine Below.alloc ?_ (by first | omega | (simp; try omega)) _) | apply Below.drew | apply below_drewN))) (hb.mono (by simp; try omega))) : Below w.heap.size w w5); have hbo : Below wr.heap.size wr w5 := (Below.trans (by (repeat (first | exact Below.refl _ _ | (refine Below.alloc ?_ (by first | omega | (simp; try omega)) _) | apply Below.drew | apply below_drewN))) (hb.mono (by simp; try omega))); have HI5 := HI.out.below hbo; have HX5 := Lib.hid (HX.out.below hbo HX.out.lt); have g0 := HI5.cellk (k := j) hlt (by omega); have f0 := HI5.frz (m * 7 + 1 + j); have HI6 := Lib.hid (HSK.out _ HI5); clear hb hbo HI5)
          all_goals
            have HX6 := Lib.hid (HX5.out.far (p := ⟨w.heap.size + 1, m * 7 + 1 + j, none⟩) (by simp) (.bool fb))
            have HB6 := Lib.hid (HB5.out.setCell (p := ⟨w.heap.size + 1, m * 7 + 1 + j, none⟩) (by simp) (.bool fb))
            go_wp2
            go_roundw
            case rel => exact ⟨j + 1, by omega, by go_num, HI6, HX6, HB6⟩
            case measure => (simp [intOf]; try omega)
        · obtain rfl : j = N := by omega
          have hI := HI.out
          rw [FFv_end HN.out] at hI
          have HI2 := Lib.hid hI
          clear hI HI
          go_wp2
          go_roundw
          case rel => exact ⟨m + 1, by omega, by go_num, HI2, HX, HB⟩
          case measure => (simp [intOf]; try omega)
    · obtain rfl : m = P := by omega
      have hI := HI.out.mono (B' := w.heap.size) (by omega)
      unfold HRs at hI
      rw [hrs_end] at hI
      have HI2 := Lib.hid hI
      clear hI HI
      go_wp2
      go_ret
      exact ⟨_, rfl, by rw [← HP.out]; exact HI2.out, ⟨w.heap.size + 1, m, by rw [← HP.out]; rfl⟩, HB.out⟩
end Go.Proofs.Ytnmeomcoeknjoac
