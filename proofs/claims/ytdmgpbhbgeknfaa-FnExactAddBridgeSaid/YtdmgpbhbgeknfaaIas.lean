/- AddBridge: spec. -/
import Derived.Test.YtdmgpbhbgeknfaaIar
namespace Go.Proofs.Ytdmgpbhbgeknfaa
set_option linter.unusedVariables false
open Go.RowKit

set_option maxRecDepth 100000 in
set_option maxHeartbeats 4000000 in
theorem specAdd (n : Int) (v : Value) (bs : List Br) (x y z : Int) (w : World) (h : RdB w v bs) (hl : bs.length ≤ 1048576) :
    Calls Try.prog 9 #[.agg #[.int .i64 n, v], .agg #[.int .i64 x, .int .i64 y, .int .i64 z]] w fun e w' => ∃ u, e = .returned (.tuple #[.agg #[.int .i64 (addN n bs (x, y, z)), u], .bool (addOK n bs (x, y, z))]) ∧ Brs w' w.heap.size u (addL n bs (x, y, z)) ∧ Below w.heap.size w w' := by
  have H := Lib.hid h
  obtain ⟨a, l, c, rfl, hnz, t⟩ := h
  have HN := Lib.hid hnz
  clear t hnz
  obtain ⟨W0, hW0⟩ : ∃ W, W = ((w.alloc (.cells #[.int .i64 n, .slice a l c] 30)).alloc (.cells #[.int .i64 x, .int .i64 y, .int .i64 z] 34)).alloc (.cells #[.int .i64 0, .slice none 0 0] 30) := ⟨_, rfl⟩
  have X1 := Lib.hid (show Blk W0 w.heap.size #[.int .i64 n, .slice a l c] by rw [hW0]; exact ((Blk.new w _ _).alloc _).alloc _)
  have X2 := Lib.hid (show Blk W0 (w.heap.size + 1) #[.int .i64 x, .int .i64 y, .int .i64 z] by rw [hW0]; exact ((Blk.new (w.alloc (.cells #[.int .i64 n, .slice a l c] 30)) _ _).at_ (by simp)).alloc _)
  have X3 := Lib.hid (show Blk W0 (w.heap.size + 1 + 1) #[.int .i64 0, .slice none 0 0] by rw [hW0]; exact (Blk.new ((w.alloc (.cells #[.int .i64 n, .slice a l c] 30)).alloc (.cells #[.int .i64 x, .int .i64 y, .int .i64 z] 34)) _ _).at_ (by simp))
  have B0 := Lib.hid (show Below w.heap.size w W0 by rw [hW0]; (repeat (first | exact Below.refl _ _ | (refine Below.alloc ?_ (by first | omega | (simp; try omega)) _) | apply Below.drew | apply below_drewN)))
  have HW0 := Lib.hid hW0
  clear hW0
  have s0 := B0.out.size
  have FAIL : Hid (∀ w1 : World, Below w.heap.size w w1 → Blk w1 (w.heap.size + 1 + 1) #[.int .i64 0, .slice none 0 0] → addOK n bs (x, y, z) = false → ∃ u, (Ending.returned (.tuple #[.agg #[.int .i64 0, .slice none 0 0], .bool false]) : Ending) = .returned (.tuple #[.agg #[.int .i64 (addN n bs (x, y, z)), u], .bool (addOK n bs (x, y, z))]) ∧ Brs ((w1.setCell ⟨w.heap.size + 1 + 1, 0, none⟩ (.int .i64 0)).setCell ⟨w.heap.size + 1 + 1, 1, none⟩ (.slice none 0 0)) w.heap.size u (addL n bs (x, y, z)) ∧ Below w.heap.size w ((w1.setCell ⟨w.heap.size + 1 + 1, 0, none⟩ (.int .i64 0)).setCell ⟨w.heap.size + 1 + 1, 1, none⟩ (.slice none 0 0))) := Lib.hid (fun w1 hb hX hf => by
    refine ⟨.slice none 0 0, by rw [show addN n bs (x, y, z) = 0 by simp [addN, hf], hf], ?_, (hb.setCell (by simp; try omega) _).setCell (by simp; try omega) _⟩
    rw [show addL n bs (x, y, z) = [] by simp [addL, hf]]
    exact Brs.nil _ _)
  cases hg : areIs n bs
  · have OKF := Lib.hid (show addOK n bs (x, y, z) = false by unfold addOK; rw [hg]; rfl)
    have G := Lib.hid hg
    clear hg
    go_enter Try.func9, Try.ntmps9
    go_wp2_with fail
    rw [← HW0.out]
    clear HW0
    refine (isGood n _ bs _ (H.out.below B0.out) hl).mono ?_
    rw [G.out]
    rintro e w1 ⟨rfl, hb⟩
    have HB := Lib.hid (B0.out.trans (hb.mono s0))
    have Y3 := Lib.hid (X3.out.below hb X3.out.lt)
    obtain ⟨y0, y1, y2⟩ := Y3.out.two
    have f0 := Y3.out.fr 0
    have f1 := Y3.out.fr 1
    clear hb
    go_wp2
    have q0 : (World.setCell _ ⟨w.heap.size + 1 + 1, 0, none⟩ (.int .i64 0)).cell? ⟨w.heap.size + 1 + 1, 0, none⟩ = some (.int .i64 0) := ((Y3.out.set 0 (.int .i64 0)).cell 0).trans (by simp)
    have p0 : ((World.setCell _ ⟨w.heap.size + 1 + 1, 0, none⟩ (.int .i64 0)).setCell ⟨w.heap.size + 1 + 1, 1, none⟩ (.slice none 0 0)).cell? ⟨w.heap.size + 1 + 1, 0, none⟩ = some (.int .i64 0) := (((Y3.out.set 0 (.int .i64 0)).set 1 (.slice none 0 0)).cell 0).trans (by simp)
    have p1 : ((World.setCell _ ⟨w.heap.size + 1 + 1, 0, none⟩ (.int .i64 0)).setCell ⟨w.heap.size + 1 + 1, 1, none⟩ (.slice none 0 0)).cell? ⟨w.heap.size + 1 + 1, 1, none⟩ = some (.slice none 0 0) := (((Y3.out.set 0 (.int .i64 0)).set 1 (.slice none 0 0)).cell 1).trans (by simp)
    refine bodyPost_ret (v := .tuple #[.agg #[.int .i64 0, .slice none 0 0], .bool false]) (by simp [results, Try.results9, go_sem, p0, p1, q0]) rfl ?_
    exact FAIL.out _ HB.out Y3.out OKF.out
  obtain ⟨m, rfl, hm1, hm7, hl14, hgd⟩ := areIs_in hg
  have G := Lib.hid hg
  have hll : l ≤ 14 := by have := HN.out; omega
  have DO : Hid (addOK m bs (x, y, z) = (isBr m (x, y, z) && !decide (bs.length = 14))) := Lib.hid (by unfold addOK; rw [hg]; rfl)
  clear hg hgd
  rw [← HN.out] at DO
  cases hi : isBr m (x, y, z)
  · have OKF := Lib.hid (show addOK m bs (x, y, z) = false by rw [DO.out, hi]; rfl)
    have GI := Lib.hid hi
    clear hi DO
    go_enter Try.func9, Try.ntmps9
    go_wp2_with fail
    rw [← HW0.out]
    clear HW0
    refine (isGood _ _ bs _ (H.out.below B0.out) hl).mono ?_
    rw [G.out]
    rintro e w1 ⟨rfl, hb⟩
    have HB := Lib.hid (B0.out.trans (hb.mono s0))
    have Y1 := Lib.hid (X1.out.below hb X1.out.lt)
    have Y2 := Lib.hid (X2.out.below hb X2.out.lt)
    have Y3 := Lib.hid (X3.out.below hb X3.out.lt)
    obtain ⟨z0, z1, z2⟩ := Y1.out.two
    obtain ⟨b0, b1, b2, b3⟩ := Y2.out.three
    have sb := HB.out.size
    clear hb
    go_wp2_with fail
    refine (specIsBr _ (by omega) _ _ _ _).mono ?_
    rw [GI.out]
    rintro e w2 ⟨rfl, hb⟩
    have HB2 := Lib.hid (HB.out.trans (hb.mono sb))
    have U1 := Lib.hid (Y1.out.below hb Y1.out.lt)
    have U2 := Lib.hid (Y2.out.below hb Y2.out.lt)
    have U3 := Lib.hid (Y3.out.below hb Y3.out.lt)
    have sb2 := HB2.out.size
    clear hb z0 z1 z2 b0 b1 b2 b3
    obtain ⟨z0, z1, z2⟩ := U1.out.two
    obtain ⟨y0, y1, y2⟩ := U3.out.two
    have f0 := U3.out.fr 0
    have f1 := U3.out.fr 1
    go_wp2
    have q0 : (World.setCell _ ⟨w.heap.size + 1 + 1, 0, none⟩ (.int .i64 0)).cell? ⟨w.heap.size + 1 + 1, 0, none⟩ = some (.int .i64 0) := ((U3.out.set 0 (.int .i64 0)).cell 0).trans (by simp)
    have p0 : ((World.setCell _ ⟨w.heap.size + 1 + 1, 0, none⟩ (.int .i64 0)).setCell ⟨w.heap.size + 1 + 1, 1, none⟩ (.slice none 0 0)).cell? ⟨w.heap.size + 1 + 1, 0, none⟩ = some (.int .i64 0) := (((U3.out.set 0 (.int .i64 0)).set 1 (.slice none 0 0)).cell 0).trans (by simp)
    have p1 : ((World.setCell _ ⟨w.heap.size + 1 + 1, 0, none⟩ (.int .i64 0)).setCell ⟨w.heap.size + 1 + 1, 1, none⟩ (.slice none 0 0)).cell? ⟨w.heap.size + 1 + 1, 1, none⟩ = some (.slice none 0 0) := (((U3.out.set 0 (.int .i64 0)).set 1 (.slice none 0 0)).cell 1).trans (by simp)
    refine bodyPost_ret (v := .tuple #[.agg #[.int .i64 0, .slice none 0 0], .bool false]) (by simp [results, Try.results9, go_sem, p0, p1, q0]) rfl ?_
    exact FAIL.out _ HB2.out U3.out OKF.out
  by_cases h4 : l = 14
  · have OKF := Lib.hid (show addOK m bs (x, y, z) = false by rw [DO.out, h4]; simp)
    have GI := Lib.hid hi
    have h4I : (l : Int) = 14 := by omega
    have h4J : ((l : Int) == 14) = true := by simp; omega
    clear hi DO h4
    go_enter Try.func9, Try.ntmps9
    go_wp2_with fail
    rw [← HW0.out]
    clear HW0
    refine (isGood _ _ bs _ (H.out.below B0.out) hl).mono ?_
    rw [G.out]
    rintro e w1 ⟨rfl, hb⟩
    have HB := Lib.hid (B0.out.trans (hb.mono s0))
    have Y1 := Lib.hid (X1.out.below hb X1.out.lt)
    have Y2 := Lib.hid (X2.out.below hb X2.out.lt)
    have Y3 := Lib.hid (X3.out.below hb X3.out.lt)
    obtain ⟨z0, z1, z2⟩ := Y1.out.two
    obtain ⟨b0, b1, b2, b3⟩ := Y2.out.three
    have sb := HB.out.size
    clear hb
    go_wp2_with fail
    refine (specIsBr _ (by omega) _ _ _ _).mono ?_
    rw [GI.out]
    rintro e w2 ⟨rfl, hb⟩
    have HB2 := Lib.hid (HB.out.trans (hb.mono sb))
    have U1 := Lib.hid (Y1.out.below hb Y1.out.lt)
    have U2 := Lib.hid (Y2.out.below hb Y2.out.lt)
    have U3 := Lib.hid (Y3.out.below hb Y3.out.lt)
    have sb2 := HB2.out.size
    clear hb z0 z1 z2 b0 b1 b2 b3
    obtain ⟨z0, z1, z2⟩ := U1.out.two
    obtain ⟨y0, y1, y2⟩ := U3.out.two
    have f0 := U3.out.fr 0
    have f1 := U3.out.fr 1
    go_wp2
    have q0 : (World.setCell _ ⟨w.heap.size + 1 + 1, 0, none⟩ (.int .i64 0)).cell? ⟨w.heap.size + 1 + 1, 0, none⟩ = some (.int .i64 0) := ((U3.out.set 0 (.int .i64 0)).cell 0).trans (by simp)
    have p0 : ((World.setCell _ ⟨w.heap.size + 1 + 1, 0, none⟩ (.int .i64 0)).setCell ⟨w.heap.size + 1 + 1, 1, none⟩ (.slice none 0 0)).cell? ⟨w.heap.size + 1 + 1, 0, none⟩ = some (.int .i64 0) := (((U3.out.set 0 (.int .i64 0)).set 1 (.slice none 0 0)).cell 0).trans (by simp)
    have p1 : ((World.setCell _ ⟨w.heap.size + 1 + 1, 0, none⟩ (.int .i64 0)).setCell ⟨w.heap.size + 1 + 1, 1, none⟩ (.slice none 0 0)).cell? ⟨w.heap.size + 1 + 1, 1, none⟩ = some (.slice none 0 0) := (((U3.out.set 0 (.int .i64 0)).set 1 (.slice none 0 0)).cell 1).trans (by simp)
    refine bodyPost_ret (v := .tuple #[.agg #[.int .i64 0, .slice none 0 0], .bool false]) (by simp [results, Try.results9, go_sem, p0, p1, q0]) rfl ?_
    exact FAIL.out _ HB2.out U3.out OKF.out
  · have OKT := Lib.hid (show addOK m bs (x, y, z) = true by rw [DO.out, hi]; simp [h4])
    have GI := Lib.hid hi
    have h4I : ¬ (l : Int) = 14 := by omega
    have h4J : ((l : Int) == 14) = false := by simp; omega
    clear hi DO FAIL
    go_enter Try.func9, Try.ntmps9
    go_wp2_with fail
    rw [← HW0.out]
    clear HW0
    refine (isGood _ _ bs _ (H.out.below B0.out) hl).mono ?_
    rw [G.out]
    rintro e w1 ⟨rfl, hb⟩
    have HB := Lib.hid (B0.out.trans (hb.mono s0))
    have Y1 := Lib.hid (X1.out.below hb X1.out.lt)
    have Y2 := Lib.hid (X2.out.below hb X2.out.lt)
    have Y3 := Lib.hid (X3.out.below hb X3.out.lt)
    obtain ⟨z0, z1, z2⟩ := Y1.out.two
    obtain ⟨b0, b1, b2, b3⟩ := Y2.out.three
    have sb := HB.out.size
    clear hb
    go_wp2_with fail
    refine (specIsBr _ (by omega) _ _ _ _).mono ?_
    rw [GI.out]
    rintro e w2 ⟨rfl, hb⟩
    have HB2 := Lib.hid (HB.out.trans (hb.mono sb))
    have U1 := Lib.hid (Y1.out.below hb Y1.out.lt)
    have U2 := Lib.hid (Y2.out.below hb Y2.out.lt)
    have U3 := Lib.hid (Y3.out.below hb Y3.out.lt)
    have sb2 := HB2.out.size
    clear hb z0 z1 z2 b0 b1 b2 b3
    obtain ⟨z0, z1, z2⟩ := U1.out.two
    obtain ⟨y0, y1, y2⟩ := U3.out.two
    have f0 := U3.out.fr 0
    have f1 := U3.out.fr 1
    obtain ⟨b0, b1, b2, b3⟩ := U2.out.three
    go_wp2_with fail
    have hl15 : bs.length ≤ 1000 := by omega
    have V1 := Lib.hid U1.out.drew
    have V2 := Lib.hid U2.out.drew
    have D1 := Lib.hid (show Below w2.heap.size w2 (w2.alloc (.cells #[] 34)).drew by (repeat (first | exact Below.refl _ _ | (refine Below.alloc ?_ (by first | omega | (simp; try omega)) _) | apply Below.drew | apply below_drewN)))
    have D2 := Lib.hid (show Below w2.heap.size w2 ((w2.alloc (.cells #[] 34)).alloc (.cells #[.int .i64 x, .int .i64 y, .int .i64 z] 34)).drew by (repeat (first | exact Below.refl _ _ | (refine Below.alloc ?_ (by first | omega | (simp; try omega)) _) | apply Below.drew | apply below_drewN)))
    have D3 := Lib.hid (show Below w2.heap.size w2 ((w2.alloc (.cells #[.int .i64 x, .int .i64 y, .int .i64 z] 34)).alloc (.cells #[] 34)).drew by (repeat (first | exact Below.refl _ _ | (refine Below.alloc ?_ (by first | omega | (simp; try omega)) _) | apply Below.drew | apply below_drewN)))
    have dr : ∀ W : World, Below W.heap.size W W.drew := fun W => Below.drew (Below.refl _ _)
    have Q1 := Lib.hid (show Brs (w2.alloc (.cells #[] 34)).drew w2.heap.size (.slice (some ⟨w2.heap.size, 0, none⟩) 0 0) [] from (Brs.empty w2 _ (Nat.le_refl _)).below (dr _))
    have Q2 := Lib.hid (show Brs ((w2.alloc (.cells #[] 34)).alloc (.cells #[.int .i64 x, .int .i64 y, .int .i64 z] 34)).drew w2.heap.size (.slice (some ⟨w2.heap.size, 0, none⟩) 0 0) [] from ((Brs.empty w2 _ (Nat.le_refl _)).below ((Below.refl _ _).alloc (Nat.le_refl _) _)).below (dr _))
    have Q3 := Lib.hid (show Brs ((w2.alloc (.cells #[.int .i64 x, .int .i64 y, .int .i64 z] 34)).alloc (.cells #[] 34)).drew w2.heap.size (.slice (some ⟨w2.heap.size + 1, 0, none⟩) 0 0) [] by have := (Brs.empty (w2.alloc (.cells #[.int .i64 x, .int .i64 y, .int .i64 z] 34)) w2.heap.size (by simp)).below (dr _); simpa using this)
    have XA2 := Lib.hid (show Blk ((w2.alloc (.cells #[] 34)).alloc (.cells #[.int .i64 x, .int .i64 y, .int .i64 z] 34)).drew (w2.heap.size + 1) #[.int .i64 x, .int .i64 y, .int .i64 z] from ((Blk.new (w2.alloc (.cells #[] 34)) _ _).at_ (by simp)).drew)
    have XA3 := Lib.hid (show Blk ((w2.alloc (.cells #[.int .i64 x, .int .i64 y, .int .i64 z] 34)).alloc (.cells #[] 34)).drew w2.heap.size #[.int .i64 x, .int .i64 y, .int .i64 z] from ((Blk.new w2 _ _).alloc _).drew)
    clear dr
    go_region_held3 (fun w' => w'.cell? ⟨w.heap.size, 0, none⟩ = some (.int .i64 (m : Int)) ∧ w'.cell? ⟨w.heap.size, 1, none⟩ = some (.slice a l c) ∧ w'.cell? ⟨w.heap.size + 1, 0, none⟩ = some (.int .i64 x) ∧ w'.cell? ⟨w.heap.size + 1, 1, none⟩ = some (.int .i64 y) ∧ w'.cell? ⟨w.heap.size + 1, 2, none⟩ = some (.int .i64 z))
      (first | exact kp5 V1.out V2.out | exact kp5 (V1.out.alloc _) (V2.out.alloc _) | exact kp5 ((V1.out.alloc _).alloc _) ((V2.out.alloc _).alloc _) | exact kp5 (U1.out.alloc _).drew (U2.out.alloc _).drew | exact kp5 ((U1.out.alloc _).alloc _).drew ((U2.out.alloc _).alloc _).drew | exact kp5 C1.out C2.out | exact kp5 (C1.out.alloc _) (C2.out.alloc _) | exact kp5 E1.out E2.out | exact kp5 ((E1.out.far (p := ⟨w.heap.size + 1 + 1, 0, none⟩) (by simp; try omega) _).far (p := ⟨w.heap.size + 1 + 1, 1, none⟩) (by simp; try omega) _) ((E2.out.far (p := ⟨w.heap.size + 1 + 1, 0, none⟩) (by simp; try omega) _).far (p := ⟨w.heap.size + 1 + 1, 1, none⟩) (by simp; try omega) _)) (first
      | (refine step_catB rfl (.tmp 25) (.tmp 27) rfl w2.heap.size (w2.heap.size) 0 [] ?_ Q1.out (.slice a l c) bs ?_ (H.out.below (HB2.out.trans (D1.out.mono sb2))) (by simp; omega) D1.out.size bs rfl ?_; (· simp [Act.eval, Act.put]); (· simp [Act.eval, Act.put]); intro g3 cap3 w3 hI3 hg3; have HBy := Lib.hid (D1.out.grown hg3 D1.out.size (by intro q hq; cases hq; omega)); have LT := Lib.hid (own_ge hI3 (Nat.le_refl _)); have HI := Lib.hid hI3; have S3 := HBy.out.size; have C1 := Lib.hid (U1.out.below HBy.out U1.out.lt); have C2 := Lib.hid (U2.out.below HBy.out U2.out.lt); have C3 := Lib.hid (U3.out.below HBy.out U3.out.lt); clear hI3 hg3; skip)
      | (refine step_catB rfl (.tmp 25) (.tmp 27) rfl w2.heap.size (w2.heap.size) 0 [] ?_ Q2.out (.slice a l c) bs ?_ (H.out.below (HB2.out.trans (D2.out.mono sb2))) (by simp; omega) D2.out.size bs rfl ?_; (· simp [Act.eval, Act.put]); (· simp [Act.eval, Act.put]); intro g3 cap3 w3 hI3 hg3; have HBy := Lib.hid (D2.out.grown hg3 D2.out.size (by intro q hq; cases hq; omega)); have LT := Lib.hid (own_ge hI3 (Nat.le_refl _)); have HI := Lib.hid hI3; have X := Lib.hid (XA2.out.kept hg3 (by simp)); have S3 := HBy.out.size; have C1 := Lib.hid (U1.out.below HBy.out U1.out.lt); have C2 := Lib.hid (U2.out.below HBy.out U2.out.lt); have C3 := Lib.hid (U3.out.below HBy.out U3.out.lt); clear hI3 hg3; skip)
      | (refine step_catB rfl (.tmp 25) (.tmp 27) rfl w2.heap.size (w2.heap.size + 1) 0 [] ?_ Q3.out (.slice a l c) bs ?_ (H.out.below (HB2.out.trans (D3.out.mono sb2))) (by simp; omega) D3.out.size bs rfl ?_; (· simp [Act.eval, Act.put]); (· simp [Act.eval, Act.put]); intro g3 cap3 w3 hI3 hg3; have HBy := Lib.hid (D3.out.grown hg3 D3.out.size (by intro q hq; cases hq; omega)); have LT := Lib.hid (own_ge hI3 (Nat.le_refl _)); have HI := Lib.hid hI3; have X := Lib.hid (XA3.out.kept hg3 (by simp)); have S3 := HBy.out.size; have C1 := Lib.hid (U1.out.below HBy.out U1.out.lt); have C2 := Lib.hid (U2.out.below HBy.out U2.out.lt); have C3 := Lib.hid (U3.out.below HBy.out U3.out.lt); clear hI3 hg3; skip)
      | (refine step_appB1 rfl (.tmp 28) (.tmp 30) rfl w2.heap.size (.slice (some ⟨g3, 0, none⟩) bs.length cap3) bs ?_ HI.out (w2.heap.size + 1) x y z ?_ X.out hl15 ?_ ?_; (· simp [Act.eval, Act.put]); (· simp [Act.eval, Act.put]); (· exact S3); intro g cap' w4 hI4 hg4; have HB4 := Lib.hid (HBy.out.grown hg4 S3 LT.out); have E1 := Lib.hid (C1.out.kept hg4 (lt_ne LT.out (by have := U1.out.lt; omega))); have E2 := Lib.hid (C2.out.kept hg4 (lt_ne LT.out (by have := U2.out.lt; omega))); have E3 := Lib.hid (C3.out.kept hg4 (lt_ne LT.out (by have := U3.out.lt; omega))); obtain ⟨g0, g1, g2⟩ := E3.out.two; have f0 := E3.out.fr 0; have f1 := E3.out.fr 1; have HI4 := Lib.hid hI4; clear hI4 hg4; skip)
      | (refine step_appB1 rfl (.tmp 28) (.tmp 30) rfl w2.heap.size (.slice (some ⟨g3, 0, none⟩) bs.length cap3) bs ?_ HI.out (w2.heap.size) x y z ?_ X.out hl15 ?_ ?_; (· simp [Act.eval, Act.put]); (· simp [Act.eval, Act.put]); (· exact S3); intro g cap' w4 hI4 hg4; have HB4 := Lib.hid (HBy.out.grown hg4 S3 LT.out); have E1 := Lib.hid (C1.out.kept hg4 (lt_ne LT.out (by have := U1.out.lt; omega))); have E2 := Lib.hid (C2.out.kept hg4 (lt_ne LT.out (by have := U2.out.lt; omega))); have E3 := Lib.hid (C3.out.kept hg4 (lt_ne LT.out (by have := U3.out.lt; omega))); obtain ⟨g0, g1, g2⟩ := E3.out.two; have f0 := E3.out.fr 0; have f1 := E3.out.fr 1; have HI4 := Lib.hid hI4; clear hI4 hg4; skip)
      | (refine step_appB1 rfl (.tmp 28) (.tmp 30) rfl w2.heap.size (.slice (some ⟨g3, 0, none⟩) bs.length cap3) bs ?_ (HI.out.below ((Below.refl _ _).alloc (Nat.le_refl _) _)) (w3.heap.size) x y z ?_ (Blk.new w3 _ _) hl15 ?_ ?_; (· simp [Act.eval, Act.put]); (· simp [Act.eval, Act.put]); (· (simp; omega)); intro g cap' w4 hI4 hg4; have HB4 := Lib.hid ((HBy.out.alloc S3 _).grown hg4 (Nat.le_trans S3 (by simp)) LT.out); have E1 := Lib.hid ((C1.out.alloc _).kept hg4 (lt_ne LT.out (by have := U1.out.lt; omega))); have E2 := Lib.hid ((C2.out.alloc _).kept hg4 (lt_ne LT.out (by have := U2.out.lt; omega))); have E3 := Lib.hid ((C3.out.alloc _).kept hg4 (lt_ne LT.out (by have := U3.out.lt; omega))); obtain ⟨g0, g1, g2⟩ := E3.out.two; have f0 := E3.out.fr 0; have f1 := E3.out.fr 1; have HI4 := Lib.hid hI4; clear hI4 hg4; skip))
    all_goals
      have HF := Lib.hid ((E3.out.set 0 (.int .i64 m)).set 1 (.slice (some ⟨g, 0, none⟩) (bs.length + 1) cap'))
      have HR := Lib.hid (((HI4.out.far (p := ⟨w.heap.size + 1 + 1, 0, none⟩) (by simp; omega) (.int .i64 m)).far (p := ⟨w.heap.size + 1 + 1, 1, none⟩) (by simp; omega) (.slice (some ⟨g, 0, none⟩) (bs.length + 1) cap')).mono (B := w.heap.size) sb2)
      have HBf := Lib.hid (((HB2.out.trans (HB4.out.mono sb2)).setCell (p := ⟨w.heap.size + 1 + 1, 0, none⟩) (by simp; omega) (.int .i64 m)).setCell (p := ⟨w.heap.size + 1 + 1, 1, none⟩) (by simp; omega) (.slice (some ⟨g, 0, none⟩) (bs.length + 1) cap'))
      generalize World.setCell _ _ _ = wf at *
      have f0 : wf.cell? ⟨w.heap.size + 1 + 1, 0, none⟩ = some (.int .i64 m) := (HF.out.cell 0).trans (by simp)
      have f1 : wf.cell? ⟨w.heap.size + 1 + 1, 1, none⟩ = some (.slice (some ⟨g, 0, none⟩) (bs.length + 1) cap') := (HF.out.cell 1).trans (by simp)
      go_wp2
      refine bodyPost_ret (v := .tuple #[.agg #[.int .i64 m, .slice (some ⟨g, 0, none⟩) (bs.length + 1) cap'], .bool true]) (by simp [results, Try.results9, go_sem, f0, f1]) rfl ⟨_, by rw [show addN m bs (x, y, z) = m by simp [addN, OKT.out], OKT.out], ?_, HBf.out⟩
      rw [show addL m bs (x, y, z) = bs ++ [(x, y, z)] by simp [addL, OKT.out]]
      exact HR.out
end Go.Proofs.Ytdmgpbhbgeknfaa
