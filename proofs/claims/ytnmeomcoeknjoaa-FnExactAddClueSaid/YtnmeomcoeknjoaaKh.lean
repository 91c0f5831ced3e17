/- AddClue: impl (written by gen_kh.py). -/
import Derived.Test.YtnmeomcoeknjoaaKe
import Derived.Deep.RegionLawGrows
namespace Go.Proofs.Ytnmeomcoeknjoaa
set_option linter.unusedVariables false
set_option maxRecDepth 100000
open Go.RowKit

theorem implIsCl (m : Nat) (h1 : 1 ≤ m) (h8 : m ≤ 8) (x y z : Int) (w : World) :
    Calls Try.prog 10 #[.int .i64 (m : Int), .agg #[.int .i64 x, .int .i64 y, .int .i64 z]] w fun e w' => e = .returned (.bool (isCl (m : Int) (x, y, z))) ∧ Below w.heap.size w w' := by
  have e : clOK (m : Int) (x, y, z) = isCl (m : Int) (x, y, z) := by
    have : inB (m : Int) 1 8 = true := inB_yes (by omega) (by omega)
    simp [clOK, this]
  have := implIsClue (m : Int) x y z w
  rwa [e] at this
theorem RdB.full {w : World} {a : Option Addr} {l c : Nat} {bs : List Br} (h : RdB w (.slice a l c) bs) : RdB w (.slice a l l) bs := by
  obtain ⟨_, _, _, e, hn, ⟨hc1, hc2⟩, hm, hcell⟩ := h
  injection e with e1 e2 e3
  subst e1 e2 e3
  exact ⟨_, _, _, rfl, hn, ⟨Nat.le_refl _, fun h => by have := hc2 h; omega⟩, by omega, hcell⟩
/-- 'append(s, c)' where s, any that is read, has no room -/
theorem step_appFull {ops : Array Oper} {o : Oper} {a : Act} {w : World} {K : Act → World → Prop} {Q : Exit → Act → World → Prop} {E : Prop} (hgd : o.guard = none) (s x : Operand)
    (ho : o.op = .call { callee := .builtin .append, args := #[s, x], argTypes := #[33, 33] })
    (ad : Option Addr) (l : Nat) (bs : List Br) (hs : a.eval s = .slice ad l l) (hR : RdB w (.slice ad l l) bs) (nb : Nat) (p q r : Int) (hx : a.eval x = .slice (some ⟨nb, 0, none⟩) 1 1) (hnb : Blk w nb #[.int .i64 p, .int .i64 q, .int .i64 r])
    (hl : bs.length ≤ 1000)
    (h : ∀ g cap' w', Brs w' w.heap.size (.slice (some ⟨g, 0, none⟩) (bs.length + 1) cap') (bs ++ [(p, q, r)]) → w.grownBy w' none → K (a.put o.dst (.slice (some ⟨g, 0, none⟩) (bs.length + 1) cap')) w') :
    if Region.wanted o (yielded ops a.tmps) = true then Oper.wp Try.prog o a w K Q else E := by
  obtain ⟨i0, hi, hz0, hz1, hz2⟩ := info_parts Try.infoBr
  obtain ⟨_, _, _, e, hn, ⟨hc1, hc2⟩, hm, hcell⟩ := id hR
  injection e with e1 e2 e3
  subst e1 e2
  refine step_append_grows hgd s x 33 ho 25 i0 (.agg #[.int .i64 0, .int .i64 0, .int .i64 0]) 3 24 Try.underlying33 hi hz0 hz1 hz2 rfl (by decide) ad l l (bcs bs) hs (fun h => by have := hc2 h; omega) (by rw [bcs_len, hn])
    (fun b hb j u hj => by subst hb; exact rdB_cells hR j u hj) ⟨nb, 0, none⟩ 1 1 [.int .i64 p, .int .i64 q, .int .i64 r] hx rfl
    (fun j u hj => by
      have ad : (⟨nb, 0, none⟩ : Addr).add j = ⟨nb, j, none⟩ := by by_cases hj0 : j = 0 <;> simp [Addr.add, hj0]
      rw [ad, hnb.cell j]
      rw [← hj]; simp) (by intro u hu; simp at hu; rcases hu with rfl | rfl | rfl <;> rfl) (by omega) (by unfold maxLen; omega) (by omega) ?_
  intro v' w' h2 h3
  rw [bcs_snoc, hn] at h2
  have hB : Brs w' w.heap.size v' (bs ++ [(p, q, r)]) := by unfold Brs; rw [List.length_append]; exact h2
  obtain ⟨g, cap', rfl⟩ := hB.some_ (by simp)
  rw [List.length_append] at hB
  have := h g cap' w' hB h3
  simpa using this
set_option maxRecDepth 100000 in
set_option maxHeartbeats 4000000 in
theorem implAdd (n : Int) (v : Value) (bs : List Br) (x y z : Int) (w : World) (h : RdB w v bs) (hl : bs.length ≤ 1048576) :
    Calls Try.prog 21 #[.agg #[.int .i64 n, v], .agg #[.int .i64 x, .int .i64 y, .int .i64 z]] w fun e w' => ∃ u, e = .returned (.tuple #[.agg #[.int .i64 (addN n bs (x, y, z)), u], .bool (addOK n bs (x, y, z))]) ∧ Brs w' w.heap.size u (addL n bs (x, y, z)) ∧ Below w.heap.size w w' := by
  have H := Lib.hid h
  obtain ⟨a, l, c, rfl, hnz, t⟩ := h
  have HN := Lib.hid hnz
  have HLC := Lib.hid t.1.1
  clear t hnz
  obtain ⟨W0, hW0⟩ : ∃ W, W = ((w.alloc (.cells #[.int .i64 n, .slice a l c] 35)).alloc (.cells #[.int .i64 x, .int .i64 y, .int .i64 z] 25)).alloc (.cells #[.int .i64 0, .slice none 0 0] 35) := ⟨_, rfl⟩
  have X1 := Lib.hid (show Blk W0 w.heap.size #[.int .i64 n, .slice a l c] by rw [hW0]; exact ((Blk.new w _ _).alloc _).alloc _)
  have X2 := Lib.hid (show Blk W0 (w.heap.size + 1) #[.int .i64 x, .int .i64 y, .int .i64 z] by rw [hW0]; exact ((Blk.new (w.alloc (.cells #[.int .i64 n, .slice a l c] 35)) _ _).at_ (by simp)).alloc _)
  have X3 := Lib.hid (show Blk W0 (w.heap.size + 1 + 1) #[.int .i64 0, .slice none 0 0] by rw [hW0]; exact (Blk.new ((w.alloc (.cells #[.int .i64 n, .slice a l c] 35)).alloc (.cells #[.int .i64 x, .int .i64 y, .int .i64 z] 25)) _ _).at_ (by simp))
  have B0 := Lib.hid (show Below w.heap.size w W0 by rw [hW0]; (repeat (first | exact Below.refl _ _ | (refine Below.alloc ?_ (by first | omega | (simp; try omega)) _) | apply Below.drew | apply below_drewN)))
  have HW0 := Lib.hid hW0
  clear hW0
  have s0 := B0.out.size
  have FAIL : Hid (∀ w1 : World, Below w.heap.size w w1 → Blk w1 (w.heap.size + 1 + 1) #[.int .i64 0, .slice none 0 0] → addOK n bs (x, y, z) = false → ∃ u, (Ending.returned (.tuple #[.agg #[.int .i64 0, .slice none 0 0], .bool false]) : Ending) = .returned (.tuple #[.agg #[.int .i64 (addN n bs (x, y, z)), u], .bool (addOK n bs (x, y, z))]) ∧ Brs ((w1.setCell ⟨w.heap.size + 1 + 1, 0, none⟩ (.int .i64 0)).setCell ⟨w.heap.size + 1 + 1, 1, none⟩ (.slice none 0 0)) w.heap.size u (addL n bs (x, y, z)) ∧ Below w.heap.size w ((w1.setCell ⟨w.heap.size + 1 + 1, 0, none⟩ (.int .i64 0)).setCell ⟨w.heap.size + 1 + 1, 1, none⟩ (.slice none 0 0))) := Lib.hid (fun w1 hb hX hf => by
    refine ⟨.slice none 0 0, by rw [show addN n bs (x, y, z) = 0 by simp [addN, hf], hf], ?_, (hb.setCell (by simp; try omega) _).setCell (by simp; try omega) _⟩
    rw [show addL n bs (x, y, z) = [] by simp [addL, hf]]
    exact Brs.nil _ _)
  cases hg : isPz n bs
  · have OKF := Lib.hid (show addOK n bs (x, y, z) = false by unfold addOK; rw [hg]; rfl)
    have G := Lib.hid hg
    clear hg
    go_enter Try.func21, Try.ntmps21
    go_wp2_with fail
    rw [← HW0.out]
    clear HW0
    refine (implIsPz n _ bs _ (H.out.below B0.out) hl).mono ?_
    rw [G.out]
    rintro e w1 ⟨rfl, hb⟩
    have HB := Lib.hid (B0.out.trans (hb.mono s0))
    have Y3 := Lib.hid (X3.out.below hb X3.out.lt)
    obtain ⟨y0, y1, y2⟩ := Y3.out.two
    have f0 := Y3.out.fr 0
    have f1 := Y3.out.fr 1
    clear hb
    go_wp2
    have q0 : (World.setCell _ ⟨w.heap.size + 1 + 1, 0, none⟩ (.int .i64 0)).cell? ⟨w.heap.size + 1 + 1, 0, none⟩ = some (.int .i64 0) := ((Y3.out.set 0 (.int .i64 0)).cell 0).trans (by simp)
    have p0 : ((World.setCell _ ⟨w.heap.size + 1 + 1, 0, none⟩ (.int .i64 0)).setCell ⟨w.heap.size + 1 + 1, 1, none⟩ (.slice none 0 0)).cell? ⟨w.heap.size + 1 + 1, 0, none⟩ = some (.int .i64 0) := (((Y3.out.set 0 (.int .i64 0)).set 1 (.slice none 0 0)).cell 0).trans (by simp)
    have p1 : ((World.setCell _ ⟨w.heap.size + 1 + 1, 0, none⟩ (.int .i64 0)).setCell ⟨w.heap.size + 1 + 1, 1, none⟩ (.slice none 0 0)).cell? ⟨w.heap.size + 1 + 1, 1, none⟩ = some (.slice none 0 0) := (((Y3.out.set 0 (.int .i64 0)).set 1 (.slice none 0 0)).cell 1).trans (by simp)
    refine bodyPost_ret (v := .tuple #[.agg #[.int .i64 0, .slice none 0 0], .bool false]) (by simp [results, Try.results21, go_sem, p0, p1, q0]) rfl ?_
    exact FAIL.out _ HB.out Y3.out OKF.out
  obtain ⟨m, rfl, hm1, hm7, hl14, hgd⟩ := isPz_in hg
  have G := Lib.hid hg
  have hll : l ≤ 6 := by have := HN.out; omega
  have DO : Hid (addOK m bs (x, y, z) = (isCl m (x, y, z) && !decide (bs.length = 6))) := Lib.hid (by unfold addOK; rw [hg]; rfl)
  clear hg hgd
  rw [← HN.out] at DO
  cases hi : isCl m (x, y, z)
  · have OKF := Lib.hid (show addOK m bs (x, y, z) = false by rw [DO.out, hi]; rfl)
    have GI := Lib.hid hi
    clear hi DO
    go_enter Try.func21, Try.ntmps21
    go_wp2_with fail
    rw [← HW0.out]
    clear HW0
    refine (implIsPz _ _ bs _ (H.out.below B0.out) hl).mono ?_
    rw [G.out]
    rintro e w1 ⟨rfl, hb⟩
    have HB := Lib.hid (B0.out.trans (hb.mono s0))
    have Y1 := Lib.hid (X1.out.below hb X1.out.lt)
    have Y2 := Lib.hid (X2.out.below hb X2.out.lt)
    have Y3 := Lib.hid (X3.out.below hb X3.out.lt)
    obtain ⟨z0, z1, z2⟩ := Y1.out.two
    obtain ⟨b0, b1, b2, b3⟩ := Y2.out.three
    have sb := HB.out.size
    clear hb
    go_wp2_with fail
    refine (implIsCl m hm1 hm7 _ _ _ _).mono ?_
    rw [GI.out]
    rintro e w2 ⟨rfl, hb⟩
    have HB2 := Lib.hid (HB.out.trans (hb.mono sb))
    have U1 := Lib.hid (Y1.out.below hb Y1.out.lt)
    have U2 := Lib.hid (Y2.out.below hb Y2.out.lt)
    have U3 := Lib.hid (Y3.out.below hb Y3.out.lt)
    have sb2 := HB2.out.size
    clear hb z0 z1 z2 b0 b1 b2 b3
    obtain ⟨z0, z1, z2⟩ := U1.out.two
    obtain ⟨y0, y1, y2⟩ := U3.out.two
    have f0 := U3.out.fr 0
    have f1 := U3.out.fr 1
    go_wp2
    have q0 : (World.setCell _ ⟨w.heap.size + 1 + 1, 0, none⟩ (.int .i64 0)).cell? ⟨w.heap.size + 1 + 1, 0, none⟩ = some (.int .i64 0) := ((U3.out.set 0 (.int .i64 0)).cell 0).trans (by simp)
    have p0 : ((World.setCell _ ⟨w.heap.size + 1 + 1, 0, none⟩ (.int .i64 0)).setCell ⟨w.heap.size + 1 + 1, 1, none⟩ (.slice none 0 0)).cell? ⟨w.heap.size + 1 + 1, 0, none⟩ = some (.int .i64 0) := (((U3.out.set 0 (.int .i64 0)).set 1 (.slice none 0 0)).cell 0).trans (by simp)
    have p1 : ((World.setCell _ ⟨w.heap.size + 1 + 1, 0, none⟩ (.int .i64 0)).setCell ⟨w.heap.size + 1 + 1, 1, none⟩ (.slice none 0 0)).cell? ⟨w.heap.size + 1 + 1, 1, none⟩ = some (.slice none 0 0) := (((U3.out.set 0 (.int .i64 0)).set 1 (.slice none 0 0)).cell 1).trans (by simp)
    refine bodyPost_ret (v := .tuple #[.agg #[.int .i64 0, .slice none 0 0], .bool false]) (by simp [results, Try.results21, go_sem, p0, p1, q0]) rfl ?_
    exact FAIL.out _ HB2.out U3.out OKF.out
  by_cases h4 : l = 6
  · have OKF := Lib.hid (show addOK m bs (x, y, z) = false by rw [DO.out, h4]; simp)
    have GI := Lib.hid hi
    have h4I : (l : Int) = 6 := by omega
    have h4J : ((l : Int) == 6) = true := by simp; omega
    clear hi DO h4
    go_enter Try.func21, Try.ntmps21
    go_wp2_with fail
    rw [← HW0.out]
    clear HW0
    refine (implIsPz _ _ bs _ (H.out.below B0.out) hl).mono ?_
    rw [G.out]
    rintro e w1 ⟨rfl, hb⟩
    have HB := Lib.hid (B0.out.trans (hb.mono s0))
    have Y1 := Lib.hid (X1.out.below hb X1.out.lt)
    have Y2 := Lib.hid (X2.out.below hb X2.out.lt)
    have Y3 := Lib.hid (X3.out.below hb X3.out.lt)
    obtain ⟨z0, z1, z2⟩ := Y1.out.two
    obtain ⟨b0, b1, b2, b3⟩ := Y2.out.three
    have sb := HB.out.size
    clear hb
    go_wp2_with fail
    refine (implIsCl m hm1 hm7 _ _ _ _).mono ?_
    rw [GI.out]
    rintro e w2 ⟨rfl, hb⟩
    have HB2 := Lib.hid (HB.out.trans (hb.mono sb))
    have U1 := Lib.hid (Y1.out.below hb Y1.out.lt)
    have U2 := Lib.hid (Y2.out.below hb Y2.out.lt)
    have U3 := Lib.hid (Y3.out.below hb Y3.out.lt)
    have sb2 := HB2.out.size
    clear hb z0 z1 z2 b0 b1 b2 b3
    obtain ⟨z0, z1, z2⟩ := U1.out.two
    obtain ⟨y0, y1, y2⟩ := U3.out.two
    have f0 := U3.out.fr 0
    have f1 := U3.out.fr 1
    go_wp2
    have q0 : (World.setCell _ ⟨w.heap.size + 1 + 1, 0, none⟩ (.int .i64 0)).cell? ⟨w.heap.size + 1 + 1, 0, none⟩ = some (.int .i64 0) := ((U3.out.set 0 (.int .i64 0)).cell 0).trans (by simp)
    have p0 : ((World.setCell _ ⟨w.heap.size + 1 + 1, 0, none⟩ (.int .i64 0)).setCell ⟨w.heap.size + 1 + 1, 1, none⟩ (.slice none 0 0)).cell? ⟨w.heap.size + 1 + 1, 0, none⟩ = some (.int .i64 0) := (((U3.out.set 0 (.int .i64 0)).set 1 (.slice none 0 0)).cell 0).trans (by simp)
    have p1 : ((World.setCell _ ⟨w.heap.size + 1 + 1, 0, none⟩ (.int .i64 0)).setCell ⟨w.heap.size + 1 + 1, 1, none⟩ (.slice none 0 0)).cell? ⟨w.heap.size + 1 + 1, 1, none⟩ = some (.slice none 0 0) := (((U3.out.set 0 (.int .i64 0)).set 1 (.slice none 0 0)).cell 1).trans (by simp)
    refine bodyPost_ret (v := .tuple #[.agg #[.int .i64 0, .slice none 0 0], .bool false]) (by simp [results, Try.results21, go_sem, p0, p1, q0]) rfl ?_
    exact FAIL.out _ HB2.out U3.out OKF.out
  · have OKT := Lib.hid (show addOK m bs (x, y, z) = true by rw [DO.out, hi]; simp [h4])
    have GI := Lib.hid hi
    have h4I : ¬ (l : Int) = 6 := by omega
    have h4J : ((l : Int) == 6) = false := by simp; omega
    clear hi DO FAIL
    go_enter Try.func21, Try.ntmps21
    go_wp2_with fail
    rw [← HW0.out]
    clear HW0
    refine (implIsPz _ _ bs _ (H.out.below B0.out) hl).mono ?_
    rw [G.out]
    rintro e w1 ⟨rfl, hb⟩
    have HB := Lib.hid (B0.out.trans (hb.mono s0))
    have Y1 := Lib.hid (X1.out.below hb X1.out.lt)
    have Y2 := Lib.hid (X2.out.below hb X2.out.lt)
    have Y3 := Lib.hid (X3.out.below hb X3.out.lt)
    obtain ⟨z0, z1, z2⟩ := Y1.out.two
    obtain ⟨b0, b1, b2, b3⟩ := Y2.out.three
    have sb := HB.out.size
    clear hb
    go_wp2_with fail
    refine (implIsCl m hm1 hm7 _ _ _ _).mono ?_
    rw [GI.out]
    rintro e w2 ⟨rfl, hb⟩
    have HB2 := Lib.hid (HB.out.trans (hb.mono sb))
    have U1 := Lib.hid (Y1.out.below hb Y1.out.lt)
    have U2 := Lib.hid (Y2.out.below hb Y2.out.lt)
    have U3 := Lib.hid (Y3.out.below hb Y3.out.lt)
    have sb2 := HB2.out.size
    clear hb z0 z1 z2 b0 b1 b2 b3
    obtain ⟨z0, z1, z2⟩ := U1.out.two
    obtain ⟨y0, y1, y2⟩ := U3.out.two
    have f0 := U3.out.fr 0
    have f1 := U3.out.fr 1
    obtain ⟨b0, b1, b2, b3⟩ := U2.out.three
    go_wp2_with fail
    have hl15 : bs.length ≤ 1000 := by omega
    have z2s : w.heap.size + 1 + 1 < w2.heap.size := y2
    have hlc := HLC.out
    have V1 := Lib.hid U1.out.drew
    have V2 := Lib.hid U2.out.drew
    have D2 := Lib.hid (((Below.refl w2.heap.size w2).alloc (Nat.le_refl _) (.cells #[.int .i64 x, .int .i64 y, .int .i64 z] 25)).drew)
    have XA := Lib.hid ((Blk.new w2 #[.int .i64 x, .int .i64 y, .int .i64 z] 25).drew)
    have RF := Lib.hid (RdB.full (H.out.below (HB2.out.trans (D2.out.mono sb2))))
    have C1 := Lib.hid (U1.out.alloc (.cells #[.int .i64 x, .int .i64 y, .int .i64 z] 25)).drew
    have C2 := Lib.hid (U2.out.alloc (.cells #[.int .i64 x, .int .i64 y, .int .i64 z] 25)).drew
    have C3 := Lib.hid (U3.out.alloc (.cells #[.int .i64 x, .int .i64 y, .int .i64 z] 25)).drew
    go_region_held3 (fun w' => w'.cell? ⟨w.heap.size, 0, none⟩ = some (.int .i64 (m : Int)) ∧ w'.cell? ⟨w.heap.size, 1, none⟩ = some (.slice a l c) ∧ w'.cell? ⟨w.heap.size + 1, 0, none⟩ = some (.int .i64 x) ∧ w'.cell? ⟨w.heap.size + 1, 1, none⟩ = some (.int .i64 y) ∧ w'.cell? ⟨w.heap.size + 1, 2, none⟩ = some (.int .i64 z))
      (first | exact kp5 V1.out V2.out | exact kp5 (V1.out.alloc _) (V2.out.alloc _) | exact kp5 C1.out C2.out | exact kp5 E1.out E2.out | exact kp5 (((E1.out).far (p := ⟨w.heap.size + 1 + 1, 0, none⟩) (by simp; try omega) _).far (p := ⟨w.heap.size + 1 + 1, 1, none⟩) (by simp; try omega) _) (((E2.out).far (p := ⟨w.heap.size + 1 + 1, 0, none⟩) (by simp; try omega) _).far (p := ⟨w.heap.size + 1 + 1, 1, none⟩) (by simp; try omega) _)) (first
      | (refine step_appFull rfl (.tmp 35) (.tmp 37) rfl a l bs ?_ RF.out w2.heap.size x y z ?_ XA.out hl15 ?_; (· simp [Act.eval, Act.put]); (· simp [Act.eval, Act.put]); intro g cap' w4 hI4 hg4; have HB4 := Lib.hid (D2.out.grown hg4 D2.out.size (by intro q hq; cases hq)); have E1 := Lib.hid (C1.out.kept hg4 (by simp)); have E2 := Lib.hid (C2.out.kept hg4 (by simp)); have E3 := Lib.hid (C3.out.kept hg4 (by simp)); obtain ⟨g0, g1, g2⟩ := E3.out.two; have f0 := E3.out.fr 0; have f1 := E3.out.fr 1; have HI4 := Lib.hid (hI4.mono D2.out.size); clear hI4 hg4; skip)
      | fail)
    all_goals
      have HF := Lib.hid ((E3.out.set 0 (.int .i64 m)).set 1 (.slice (some ⟨g, 0, none⟩) (bs.length + 1) cap'))
      have HR := Lib.hid (((HI4.out.far (p := ⟨w.heap.size + 1 + 1, 0, none⟩) (by simp; omega) (.int .i64 m)).far (p := ⟨w.heap.size + 1 + 1, 1, none⟩) (by simp; omega) (.slice (some ⟨g, 0, none⟩) (bs.length + 1) cap')).mono (B := w.heap.size) sb2)
      have HBf := Lib.hid (((HB2.out.trans (HB4.out.mono sb2)).setCell (p := ⟨w.heap.size + 1 + 1, 0, none⟩) (by simp; omega) (.int .i64 m)).setCell (p := ⟨w.heap.size + 1 + 1, 1, none⟩) (by simp; omega) (.slice (some ⟨g, 0, none⟩) (bs.length + 1) cap'))
      generalize World.setCell _ _ _ = wf at *
      have f0 : wf.cell? ⟨w.heap.size + 1 + 1, 0, none⟩ = some (.int .i64 m) := (HF.out.cell 0).trans (by simp)
      have f1 : wf.cell? ⟨w.heap.size + 1 + 1, 1, none⟩ = some (.slice (some ⟨g, 0, none⟩) (bs.length + 1) cap') := (HF.out.cell 1).trans (by simp)
      go_wp2
      refine bodyPost_ret (v := .tuple #[.agg #[.int .i64 m, .slice (some ⟨g, 0, none⟩) (bs.length + 1) cap'], .bool true]) (by simp [results, Try.results21, go_sem, f0, f1]) rfl ⟨_, by rw [show addN m bs (x, y, z) = m by simp [addN, OKT.out], OKT.out], ?_, HBf.out⟩
      rw [show addL m bs (x, y, z) = bs ++ [(x, y, z)] by simp [addL, OKT.out]]
      exact HR.out
end Go.Proofs.Ytnmeomcoeknjoaa
