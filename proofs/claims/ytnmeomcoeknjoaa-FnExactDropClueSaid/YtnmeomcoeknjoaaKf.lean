/- slices.Grow at nil, slices.Concat of two lists of clues. -/
import Derived.Test.YtnmeomcoeknjoaaKe
import Derived.Lib.AppendZerosOnto
import Derived.Lib.SliceRun
namespace Go.Proofs.Ytnmeomcoeknjoaa
set_option linter.unusedVariables false
set_option maxRecDepth 100000
open Go.RowKit

theorem growC0 (w : World) :
    Calls Try.prog 49 #[.slice none 0 0, .int .i64 0] w fun e w' => e = .returned (.slice none 0 0) ∧ w = w' := by
  go_enter Try.func49, Try.ntmps49
  go_wp2
  go_ret
  exact ⟨rfl, rfl⟩
set_option maxHeartbeats 2000000 in
theorem growC (n : Nat) (w : World) (hn : 1 ≤ n ∧ n ≤ 100) :
    Calls Try.prog 49 #[.slice none 0 0, .int .i64 (n : Int)] w fun e w' => ∃ u, e = .returned u ∧ Brs w' w.heap.size u [] ∧ Below w.heap.size w w' := by
  obtain ⟨i0, hi, hz0, hz1, hz2⟩ := info_parts Try.infoBr
  have hrz : ∀ ty, (Builtin.append_ #[33, 3] ty #[.slice none 0 0, .int .i64 (n : Int)]).run Try.prog w =
      .ok (.slice (some ⟨w.heap.size, 0, none⟩) n (grownCap w n 0 25)) (w.drew.alloc (.cells ((#[] : Array Value) ++ Builtin.zeroCells (Value.agg #[.int .i64 0, .int .i64 0, .int .i64 0]).cells n ++ Builtin.zeroCells (Value.agg #[.int .i64 0, .int .i64 0, .int .i64 0]).cells (grownCap w n 0 25 - n)) 25)) := fun ty => by
    have h := Lib.run_append_grow_zeros (P := Try.prog) w 33 3 ty 25 i0 _ .i64 .i64 Try.underlying33 Try.underlying3 hi hz0 none 0 0 [] (by rw [hz1]; exact run_firstCells_none w.drew 3 0 0 0) n (by omega) (by omega) (by omega) (by omega) (by rw [hz2]; omega) (by rw [hz2]; exact growslice_fits (by omega) (by omega))
    rw [Nat.zero_add] at h
    exact h
  have hGn : n ≤ grownCap w n 0 25 := grownCap_ge w _ _ _
  have hGm := grownCap_le_maxLen w n 0 25 (by unfold maxLen; omega)
  generalize grownCap w n 0 25 = G at *
  have hG63 : G ≤ 9223372036854775807 := by unfold maxLen at hGm; omega
  have hn0 : (0 : Int) < n := by omega
  have hn1 : ¬ ((n : Int) < 0) := by omega
  obtain ⟨cur, hcur⟩ : ∃ cur, cur = ((#[] : Array Value) ++ Builtin.zeroCells (Value.agg #[.int .i64 0, .int .i64 0, .int .i64 0]).cells n ++ Builtin.zeroCells (Value.agg #[.int .i64 0, .int .i64 0, .int .i64 0]).cells (G - n)) := ⟨_, rfl⟩
  rw [← hcur] at hrz
  have hsz : cur.size = G * 3 := by
    rw [hcur, Array.size_append, Array.size_append, size_zeroCells, size_zeroCells]
    simp [Value.cells]
    omega
  have HI := Lib.hid (show Brs (w.drew.alloc (.cells cur 25)) w.heap.size (.slice (some ⟨w.heap.size, 0, none⟩) 0 G) [] from
    ⟨rfl, .inr ⟨w.heap.size, G, cur, rfl, Nat.le_refl _, heap_alloc_new w.drew _, Nat.zero_le _, hGm, hsz, by simp [bcs]⟩⟩)
  have HB := Lib.hid (show Below w.heap.size w (w.drew.alloc (.cells cur 25)) from ((Below.refl _ _).drew).alloc (Nat.le_refl _) _)
  clear hcur hsz hGm
  go_enter Try.func49, Try.ntmps49
  go_wp2_with (at_builtin; refine Lib.wpList_append_run _ rfl _ _ _ _ rfl _ _ rfl rfl _ _ (hrz _) ?_)
  go_ret
  exact ⟨_, rfl, HI.out, HB.out⟩

/-- the slice that Grow hands out: none of the call's own, or an empty row -/
theorem growAny (n : Nat) (w : World) (hn : n ≤ 100) :
    Calls Try.prog 49 #[.slice none 0 0, .int .i64 (n : Int)] w fun e w' => ∃ u, e = .returned u ∧ Brs w' w.heap.size u [] ∧ Below w.heap.size w w' := by
  rcases Nat.eq_zero_or_pos n with rfl | h
  · refine (growC0 w).mono ?_
    rintro e w' ⟨rfl, rfl⟩
    exact ⟨_, rfl, Brs.nil _ _, Below.refl _ _⟩
  · exact growC n w ⟨h, hn⟩
set_option maxHeartbeats 4000000 in
theorem concat2 (b : Nat) (u1 u2 : Value) (cs1 cs2 : List Br) (w : World) (hb : b < w.heap.size) (c0 : w.cell? ⟨b, 0, none⟩ = some u1) (c1 : w.cell? ⟨b, 1, none⟩ = some u2) (h1 : RdB w u1 cs1) (h2 : RdB w u2 cs2) (hl : cs1.length + cs2.length ≤ 100) :
    Calls Try.prog 36 #[.slice (some ⟨b, 0, none⟩) 2 2] w fun e w' => ∃ u, e = .returned u ∧ Brs w' w.heap.size u (cs1 ++ cs2) ∧ Below w.heap.size w w' := by
  have H1 := Lib.hid h1
  have H2 := Lib.hid h2
  obtain ⟨a1, n1, d1, rfl, e1, t1⟩ := h1
  obtain ⟨a2, n2, d2, rfl, e2, t2⟩ := h2
  have E1 := Lib.hid e1
  have E2 := Lib.hid e2
  have hn : n1 + n2 ≤ 100 := by omega
  have C0 := Lib.hid c0
  have C1 := Lib.hid c1
  have GA := Lib.hid (fun wx => growAny (n1 + n2) wx hn)
  clear t1 t2 e1 e2
  go_enter Try.func36, Try.ntmps36
  go_wp2
  go_loopw [3, 5, 11] (fun s _ i wr => ((i = .int .i64 0 ∧ s = .int .i64 0) ∨ (i = .int .i64 1 ∧ s = .int .i64 (n1 : Int)) ∨ (i = .int .i64 2 ∧ s = .int .i64 ((n1 : Int) + (n2 : Int)))) ∧ wr = w) (fun _ _ i _ => 2 - (intOf i).toNat)
  case atStart => exact ⟨.inl ⟨rfl, rfl⟩, rfl⟩
  case round =>
    obtain ⟨⟨rfl, rfl⟩ | ⟨rfl, rfl⟩ | ⟨rfl, rfl⟩, rfl⟩ := hrel
    · go_wp2
      go_roundw
      case rel => exact ⟨.inr (.inl ⟨rfl, by simp⟩), by trivial⟩
      case measure => simp [intOf]
    · go_wp2
      go_roundw
      case rel => exact ⟨.inr (.inr ⟨rfl, by simp⟩), by trivial⟩
      case measure => simp [intOf]
    · obtain ⟨wo, hwo⟩ : ∃ wo, wo = wr := ⟨_, rfl⟩
      subst hwo
      go_wp2_with fail
      rw [show ((n1 : Int) + (n2 : Int)) = ((n1 + n2 : Nat) : Int) by push_cast; rfl]
      refine (GA.out _).mono ?_
      rintro e w1 ⟨v, rfl, hI, hB⟩
      have HI := Lib.hid hI
      have HB := Lib.hid hB
      clear hI hB c0 c1
      go_wp2_with fail
      go_loopw [6, 8, 27] (fun v _ i wq => ((i = .int .i64 0 ∧ Hid (Brs wq wo.heap.size v [])) ∨ (i = .int .i64 1 ∧ Hid (Brs wq wo.heap.size v ([] ++ cs1))) ∨ (i = .int .i64 2 ∧ Hid (Brs wq wo.heap.size v ([] ++ cs1 ++ cs2)))) ∧ Hid (Below wo.heap.size wo wq)) (fun _ _ i _ => 2 - (intOf i).toNat)
      case atStart => exact ⟨.inl ⟨rfl, HI⟩, HB⟩
      case round =>
        clear HI HB
        obtain ⟨⟨rfl, HI⟩ | ⟨rfl, HI⟩ | ⟨rfl, HI⟩, HQ⟩ := hrel
        all_goals have hle := HQ.out.size
        · have c0 := (HQ.out.cell (p := ⟨b, 0, none⟩) hb).trans C0.out
          go_wp2_with (at_builtin; refine wpList_catB wr rfl _ _ rfl wo.heap.size _ ([]) rfl HI.out _ cs1 rfl (H1.out.below HQ.out) (by have := E1.out; have := E2.out; simp; omega) hle ?_; intro v' w2 hI2 hb2 hg2; have HI2 := Lib.hid hI2; have HQ2 := Lib.hid (HQ.out.trans hb2); clear hI2 hb2 hg2)
          go_roundw
          case rel => exact ⟨.inr (.inl ⟨rfl, HI2⟩), HQ2⟩
          case measure => simp [intOf]
        · have c0 := (HQ.out.cell (p := ⟨b, 1, none⟩) hb).trans C1.out
          go_wp2_with (at_builtin; refine wpList_catB wr rfl _ _ rfl wo.heap.size _ ([] ++ cs1) rfl HI.out _ cs2 rfl (H2.out.below HQ.out) (by have := E1.out; have := E2.out; simp; omega) hle ?_; intro v' w2 hI2 hb2 hg2; have HI2 := Lib.hid hI2; have HQ2 := Lib.hid (HQ.out.trans hb2); clear hI2 hb2 hg2)
          go_roundw
          case rel => exact ⟨.inr (.inr ⟨rfl, HI2⟩), HQ2⟩
          case measure => simp [intOf]
        · go_wp2
          go_ret
          exact ⟨_, rfl, by simpa using HI.out, HQ.out⟩
end Go.Proofs.Ytnmeomcoeknjoaa
