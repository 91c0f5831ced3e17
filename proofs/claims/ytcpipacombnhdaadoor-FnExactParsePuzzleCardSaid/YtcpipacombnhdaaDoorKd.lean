/- The one recovered door: throughClueDoor; IsClue, IsPuzzle, both sides. -/
import Derived.Test.YtcpipacombnhdaaDoorKc
namespace Go.Proofs.YtcpipacombnhdaaDoor
set_option linter.unusedVariables false
open Go.RowKit Go.Stop

theorem Tryd.assertNilC (w : World) : (Instr.typeAssert .nilIface 20 78 true).run Tryd.prog w = .ok (.tuple #[.agg #[.int .i64 0, .int .i64 0, .int .i64 0], .bool false]) w := by kernel_rfl
theorem Tryd.assertC (k a b : Int) (xT : TypeId) (w : World) : (Instr.typeAssert (noCl k a b) xT 78 true).run Tryd.prog w = .ok (.tuple #[.agg #[.int .i64 k, .int .i64 a, .int .i64 b], .bool true]) w := by kernel_rfl

theorem catch_idleC (p : Addr) (w : World) :
    CallsD Tryd.prog 48 #[.pointer (some p)] .returning w fun e u' w' => e = .returned (.tuple #[]) ∧ u' = .returning ∧ w' = w.alloc (.cells #[.int .i64 0, .int .i64 0, .int .i64 0] 78) := by
  have hta := Tryd.assertNilC
  refine callsD_of_wpS Tryd.func48 rfl fun c₀ cs hu => ?_
  apply wpS_seq
  apply wpS_region
  simp [wpOpsS, go_sem, recoverD, hu, Tryd.ntmps48, Exit.thenS, hta]
  apply wpS_seq
  apply wpS_region
  simp [wpOpsS, go_sem, Exit.thenS]
  refine wpS_cond (t := false) (by simp [Act.eval, Array.replicate]) ?_
  simp only [Bool.false_eq_true, if_false]
  refine wpS_of_wp (wp_skip ?_)
  cases c₀
  simp_all [bodyPostS, results, Tryd.results48]

theorem catch_panickingC (g : Nat) (k a b : Int) (x : Value) (older : List PanicEntry) (w : World) (h1 : Blk w g #[x]) :
    CallsD Tryd.prog 48 #[.pointer (some ⟨g, 0, none⟩)] (.panicking ({ v := noCl k a b, recovered := false } :: older)) w fun e u' w' =>
      e = .returned (.tuple #[]) ∧ u' = .panicking ({ v := noCl k a b, recovered := true } :: older) ∧ w' = (w.alloc (.cells #[.int .i64 k, .int .i64 a, .int .i64 b] 78)).setCell ⟨g, 0, none⟩ (noCl k a b) := by
  have hta := Tryd.assertC k a b
  have X := h1.alloc (.cells #[.int .i64 k, .int .i64 a, .int .i64 b] 78)
  have k0 := X.cell 0
  have f0 := X.fr 0
  simp only [List.getElem?_toArray, List.getElem?_cons_zero] at k0
  have Y := Blk.new w #[.int .i64 k, .int .i64 a, .int .i64 b] 78
  have y0 := Y.cell 0
  have y1 := Y.cell 1
  have y2 := Y.cell 2
  simp only [List.getElem?_toArray, List.getElem?_cons_zero, List.getElem?_cons_succ] at y0 y1 y2
  clear X Y h1
  unfold noCl at *
  refine callsD_of_wpS Tryd.func48 rfl fun c₀ cs hu => ?_
  apply wpS_seq
  apply wpS_region
  simp [wpOpsS, go_sem, recoverD, hu, Tryd.ntmps48, Exit.thenS, hta]
  apply wpS_seq
  apply wpS_region
  simp [wpOpsS, go_sem, Exit.thenS]
  refine wpS_cond (t := true) (by simp [Act.eval, Array.replicate]) ?_
  simp only [if_true]
  apply wpS_region
  simp [wpOpsS, go_sem, k0, f0, y0, y1, y2, bodyPostS, results, Tryd.results48]

/-- the door's answer: no error if all are clues, else some error -/
def DoorPost (ok : Bool) (w : World) (e : Ending) (w' : World) : Prop :=
  ((ok = true ∧ e = .returned .nilIface) ∨ (ok = false ∧ ∃ k a b, e = .returned (noCl k a b))) ∧ Below w.heap.size w w'
theorem Ints_all_take {n : Int} {cs : List Br} {j : Nat} (h : (cs.take j).all (isCl n) = true) (hj : j < cs.length) (hc : isCl n (gb cs j) = true) : (cs.take (j + 1)).all (isCl n) = true := by
  rw [List.take_succ_eq_append_getElem hj, List.all_append, h]
  have e : gb cs j = cs[j] := by simp [gb, hj]
  rw [← e]; simp [hc]
theorem all_bad {n : Int} {cs : List Br} {j : Nat} (hj : j < cs.length) (hc : isCl n (gb cs j) = false) : cs.all (isCl n) = false := by
  rw [List.all_eq_false]
  exact ⟨_, gb_mem hj, by rw [hc]; simp⟩
theorem HA_next {n : Int} {cs : List Br} {j : Nat} (h : ∀ q, q < j → isCl n (gb cs q) = true) (hc : isCl n (gb cs j) = true) : ∀ q, q < j + 1 → isCl n (gb cs q) = true := by
  intro q hq
  by_cases e : q = j
  · subst e; exact hc
  · exact h q (by omega)
set_option maxHeartbeats 4000000 in
theorem throughDoor (n : Int) (v : Value) (cs : List Br) (w : World) (h : RdB w v cs) (hm : cs.length ≤ 1048576) :
    Calls Tryd.prog 35 #[.int .i64 n, v] w (DoorPost (cs.all (isCl n)) w) := by
  have hmf : ∀ (fn : Fn) (first cap : Array Value) (w : World), (Instr.makeFunc fn first cap).run Tryd.prog w = .ok (.func fn first cap) w := fun _ _ _ _ => rfl
  obtain ⟨a, N, c, rfl, hN, _, _, hcell⟩ := h
  have HC := Lib.hid hcell
  have HN := Lib.hid hN
  rw [← hN] at hm
  have X0 := Blk.new w #[.nilIface] 52
  have HX0 := Lib.hid X0
  have HB0 := Lib.hid (show Below w.heap.size w (w.alloc (.cells #[.nilIface] 52)) from (Below.refl _ _).alloc (Nat.le_refl _) _)
  clear hcell hN X0
  go_enter_defers Tryd.func35, Tryd.ntmps35
  go_wp2
  go_loopw [10] (fun i wr => ∃ j : Nat, j ≤ N ∧ i = .int .i64 j ∧ Hid ((cs.take j).all (isCl n) = true) ∧ Hid (Blk wr w.heap.size #[.nilIface]) ∧ Hid (Below w.heap.size w wr)) (fun i _ => N - (intOf i).toNat)
  case atStart => exact ⟨0, Nat.zero_le _, rfl, Lib.hid (by simp), HX0, HB0⟩
  case round =>
    obtain ⟨j, hj, rfl, HA, HX, HB⟩ := hrel
    have hle := HB.out.size
    by_cases hlt : j < N
    · obtain ⟨b, off, rfl, hbl, hA⟩ := HC.out j hlt
      obtain ⟨c1, c2, c3⟩ := hA.below hbl HB.out
      have hlt' : (j : Int) < N := by omega
      have HT := Lib.hid (fun hc => Ints_all_take HA.out (by have := HN.out; omega) hc)
      have HNO := Lib.hid (fun hc => all_bad (n := n) (cs := cs) (j := j) (by have := HN.out; omega) hc)
      clear hA
      generalize gb cs j = q at *
      obtain ⟨x, y, z⟩ := q
      dsimp only at c1 c2 c3
      cases hc : isCl n (x, y, z)
      · have HNO2 := Lib.hid (HNO.out hc)
        have C := Lib.hid (fun wx => requireClue_no n x y z wx hc)
        clear hc HNO HT
        go_wp2_with fail
        refine (C.out _).mono ?_
        rintro e w2 ⟨rfl, hb⟩
        have HX2 := (HX.out.alloc (.cells #[.int .i64 x, .int .i64 y, .int .i64 z] 44)).below hb (by simp; omega)
        have HB2 := Lib.hid (HB.out.trans (Below.trans (by (repeat (first | exact Below.refl _ _ | (refine Below.alloc ?_ (by first | omega | (simp; try omega)) _) | apply Below.drew | apply below_drewN))) (hb.mono (by simp; try omega))) : Below w.heap.size w w2)
        refine leaves_cons (f := 48) (args := #[.pointer (some ⟨w.heap.size, 0, none⟩)]) (by simp) (by simp [go_sem]) ?_
        refine (catch_panickingC w.heap.size x y z .nilIface [] _ HX2).mono ?_
        rintro e u' w'' ⟨rfl, rfl, rfl⟩
        have F0 := ((HX2.alloc (.cells #[.int .i64 x, .int .i64 y, .int .i64 z] 78)).set 0 (noCl x y z)).cell 0
        simp only [Array.setIfInBounds] at F0
        simp [Leaves, settle, results, Tryd.results35, go_sem, F0]
        exact ⟨.inr ⟨HNO2.out, _, _, _, rfl⟩, ((HB2.out.alloc HB2.out.size _).setCell (Nat.le_refl _) _)⟩
      · have HT2 := Lib.hid (HT.out hc)
        have C := Lib.hid (fun wx => requireClue_yes n x y z wx hc)
        clear hc HNO HT
        go_wp2_with fail
        refine (C.out _).mono ?_
        rintro e w2 ⟨rfl, hb⟩
        have HX2 := Lib.hid ((HX.out.alloc (.cells #[.int .i64 x, .int .i64 y, .int .i64 z] 44)).below hb (by simp; omega))
        have HB2 := Lib.hid (HB.out.trans (Below.trans (by (repeat (first | exact Below.refl _ _ | (refine Below.alloc ?_ (by first | omega | (simp; try omega)) _) | apply Below.drew | apply below_drewN))) (hb.mono (by simp; try omega))) : Below w.heap.size w w2)
        clear hb
        go_wp2
        go_roundw
        case rel => exact ⟨j + 1, by omega, by go_num, HT2, HX2, HB2⟩
        case measure => (simp [intOf]; try omega)
    · obtain rfl : j = N := by omega
      have R : cs.all (isCl n) = true := by
        have := HA.out
        rwa [List.take_of_length_le (by have := HN.out; omega)] at this
      have HR := Lib.hid R
      have k0 := HX.out.cell 0
      have f0 := HX.out.fr 0
      simp only [List.getElem?_toArray, List.getElem?_cons_zero] at k0
      clear R
      go_wp2
      refine leaves_cons (f := 48) (args := #[.pointer (some ⟨w.heap.size, 0, none⟩)]) (by simp) (by simp [go_sem]) ?_
      refine (catch_idleC ⟨w.heap.size, 0, none⟩ _).mono ?_
      rintro e u' w'' ⟨rfl, rfl, rfl⟩
      have F0 := (((HX.out.set 0 .nilIface).alloc (.cells #[.int .i64 0, .int .i64 0, .int .i64 0] 78))).cell 0
      simp only [Array.setIfInBounds] at F0
      simp [Leaves, settle, results, Tryd.results35, go_sem, F0]
      exact ⟨.inl ⟨HR.out, rfl⟩, ((HB.out.setCell (Nat.le_refl _) _).alloc (by simp; omega) _)⟩

theorem impl_one (k a b : Int) (w : World) (g : Nat) (hg : g = w.heap.size) : RdB (w.alloc (.cells #[.int .i64 k, .int .i64 a, .int .i64 b] 44)) (.slice (some ⟨g, 0, none⟩) 1 1) [(k, a, b)] := by
  subst hg
  have X := Blk.new w #[.int .i64 k, .int .i64 a, .int .i64 b] 44
  refine ⟨_, _, _, rfl, rfl, ⟨by omega, fun h => by cases h⟩, by unfold maxLen; omega, fun j hj => ?_⟩
  obtain rfl : j = 0 := by omega
  exact ⟨_, _, rfl, X.lt, X.cell 0, X.cell 1, X.cell 2⟩

set_option maxHeartbeats 1000000 in
theorem pzGood (n : Int) (v : Value) (cs : List Br) (w : World) (h : RdB w v cs) :
    Calls Tryd.prog 15 #[.agg #[.int .i64 n, v]] w fun e w' => e = .returned (.bool (isPz n cs)) ∧ Below w.heap.size w w' := by
  obtain ⟨a, N, c, rfl, hN, _, _, hcell⟩ := h
  have HN := Lib.hid hN
  have HC := Lib.hid hcell
  clear hcell hN
  cases h8 : inB n 1 8
  · have e : isPz n cs = false := by simp [isPz, h8]
    rw [e]
    clear e
    go_enter Tryd.func15, Tryd.ntmps15
    go_wp2_with (go_at_call 30; refine (pzPlaces _ _).mono ?_; rw [h8]; rintro e w' ⟨rfl, rfl⟩)
    go_ret
    exact ⟨rfl, by (repeat (first | exact Below.refl _ _ | (refine Below.alloc ?_ (by first | omega | (simp; try omega)) _) | apply Below.drew | apply below_drewN))⟩
  by_cases h6 : 6 < N
  · have e : isPz n cs = false := isPz_long (by have := HN.out; omega)
    rw [e]
    clear e
    have h6' : (6 : Int) < N := by omega
    go_enter Tryd.func15, Tryd.ntmps15
    go_wp2_with (go_at_call 30; refine (pzPlaces _ _).mono ?_; rw [h8]; rintro e w' ⟨rfl, rfl⟩)
    go_ret
    exact ⟨rfl, by (repeat (first | exact Below.refl _ _ | (refine Below.alloc ?_ (by first | omega | (simp; try omega)) _) | apply Below.drew | apply below_drewN))⟩
  have H8 := Lib.hid (inB_iff.1 h8)
  have h6d : decide ((6 : Int) < (N : Int)) = false := by simp; omega
  have h6' : (N : Int) ≤ 6 := by omega
  have X0 := Lib.hid (Blk.new w #[.int .i64 n, .slice a N c] 30)
  have B0 := Lib.hid (show Below w.heap.size w (w.alloc (.cells #[.int .i64 n, .slice a N c] 30)) from (Below.refl _ _).alloc (Nat.le_refl _) _)
  go_enter Tryd.func15, Tryd.ntmps15
  go_wp2_with (go_at_call 30; refine (pzPlaces _ _).mono ?_; rw [h8]; rintro e w' ⟨rfl, rfl⟩)
  go_loopw [18] (fun i wr => ∃ j : Nat, j ≤ N ∧ i = .int .i64 j ∧ Hid (∀ q, q < j → isCl n (gb cs q) = true) ∧ Hid (Blk wr w.heap.size #[.int .i64 n, .slice a N c]) ∧ Hid (Below w.heap.size w wr)) (fun i _ => N - (intOf i).toNat)
  case atStart => exact ⟨0, Nat.zero_le _, rfl, Lib.hid (fun q h => absurd h (Nat.not_lt_zero _)), X0, B0⟩
  case round =>
    obtain ⟨j, hj, rfl, HA, HX, HB⟩ := hrel
    have hle := HB.out.size
    by_cases hlt : j < N
    · obtain ⟨b, off, rfl, hbl, hA⟩ := HC.out j hlt
      obtain ⟨c1, c2, c3⟩ := hA.below hbl HB.out
      have hlt' : (j : Int) < N := by omega
      have HG := Lib.hid (fun h => HA_next (n := n) HA.out (j := j) h)
      have HNO := Lib.hid (fun h => isPz_bad (n := n) (cs := cs) (j := j) (by have := HN.out; omega) h)
      obtain ⟨x0, x1, xl⟩ := HX.out.two
      clear hA
      generalize gb cs j = q at *
      obtain ⟨x, y, z⟩ := q
      dsimp only at c1 c2 c3
      cases hc : isCl n (x, y, z)
      all_goals
        have HG2 := Lib.hid (HG.out)
        have HNO2 := Lib.hid (HNO.out)
        have hcH := Lib.hid hc
        clear HG HNO
        go_wp2_with (go_at_call 31; refine (pzClue n x y z _).mono ?_; rw [hcH.out]; rintro e w1 ⟨rfl, hb⟩; have HX2 := Lib.hid ((HX.out.alloc (.cells #[.int .i64 x, .int .i64 y, .int .i64 z] 44)).below hb (by simp; omega)); have HB2 := Lib.hid (HB.out.trans (Below.trans (by (repeat (first | exact Below.refl _ _ | (refine Below.alloc ?_ (by first | omega | (simp; try omega)) _) | apply Below.drew | apply below_drewN))) (hb.mono (by simp; try omega))) : Below w.heap.size w w1); clear hb)
        first
          | (go_ret; exact ⟨ret_bool (HNO2.out hcH.out).symm, HB2.out⟩)
          | (go_roundw
             case rel => (exact ⟨j + 1, by omega, by go_num, Lib.hid (HG2.out hcH.out), HX2, HB2⟩)
             case measure => (simp [intOf]; try omega))
    · obtain rfl : j = N := by omega
      have R : isPz n cs = true := isPz_all H8.out (by have := HN.out; omega) (fun q hq => HA.out q (by have := HN.out; omega))
      have HR2 := Lib.hid R
      clear R
      go_wp2
      go_ret
      exact ⟨ret_bool HR2.out.symm, HB.out⟩

set_option maxHeartbeats 1000000 in
theorem implIsPz (n : Int) (v : Value) (cs : List Br) (w : World) (h : RdB w v cs) (hm : cs.length ≤ 1048576) :
    Calls Tryd.prog 18 #[.agg #[.int .i64 n, v]] w fun e w' => e = .returned (.bool (isPz n cs)) ∧ Below w.heap.size w w' := by
  have HR := Lib.hid h
  obtain ⟨a, N, c, rfl, hN, _, _, hcell⟩ := h
  have HN := Lib.hid hN
  clear hN hcell
  cases h8 : inB n 1 8
  · have e : isPz n cs = false := by simp [isPz, h8]
    rw [e]
    clear e
    go_enter Tryd.func18, Tryd.ntmps18
    go_wp2_with (go_at_call 34; refine (arePlaces _ _).mono ?_; rw [h8]; rintro e w' ⟨rfl, rfl⟩)
    go_ret
    exact ⟨rfl, by (repeat (first | exact Below.refl _ _ | (refine Below.alloc ?_ (by first | omega | (simp; try omega)) _) | apply Below.drew | apply below_drewN))⟩
  by_cases h6 : 6 < N
  · have e : isPz n cs = false := isPz_long (by have := HN.out; omega)
    rw [e]
    clear e
    have h6' : ¬ ((N : Int) ≤ 6) := by omega
    go_enter Tryd.func18, Tryd.ntmps18
    go_wp2_with (go_at_call 34; refine (arePlaces _ _).mono ?_; rw [h8]; rintro e w' ⟨rfl, rfl⟩)
    go_ret
    exact ⟨rfl, by (repeat (first | exact Below.refl _ _ | (refine Below.alloc ?_ (by first | omega | (simp; try omega)) _) | apply Below.drew | apply below_drewN))⟩
  have h6' : (N : Int) ≤ 6 := by omega
  have e : isPz n cs = cs.all (isCl n) := by
    have : decide (cs.length ≤ 6) = true := by have := HN.out; simp; omega
    simp [isPz, h8, this]
  rw [e]
  clear e
  have C := Lib.hid (fun wx hr => throughDoor n (.slice a N c) cs wx hr hm)
  cases hok : cs.all (isCl n)
  all_goals
    rw [hok] at C
    clear hok
    go_enter Tryd.func18, Tryd.ntmps18
    go_wp2_with (go_at_call 34; refine (arePlaces _ _).mono ?_; rw [h8]; rintro e w' ⟨rfl, rfl⟩)
    refine (C.out _ (HR.out.below (by (repeat (first | exact Below.refl _ _ | (refine Below.alloc ?_ (by first | omega | (simp; try omega)) _) | apply Below.drew | apply below_drewN))))).mono ?_
    rintro e w1 ⟨hp, hb⟩
    have HB := Lib.hid (Below.trans (by (repeat (first | exact Below.refl _ _ | (refine Below.alloc ?_ (by first | omega | (simp; try omega)) _) | apply Below.drew | apply below_drewN))) (hb.mono (by simp; try omega)) : Below w.heap.size w w1)
    clear hb
    obtain ⟨h1, rfl⟩ | ⟨h1, k1, a1, b1, rfl⟩ := hp
    all_goals
      first
        | (cases h1; done)
        | (unfold noCl; go_wp2; go_ret; exact ⟨rfl, HB.out⟩)
        | (go_wp2; go_ret; exact ⟨rfl, HB.out⟩)
end Go.Proofs.YtcpipacombnhdaaDoor
