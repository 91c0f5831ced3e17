/- AddBridge: impl. -/
import Derived.Test.YtdmgpbhbgeknfaaIap
namespace Go.Proofs.Ytdmgpbhbgeknfaa
set_option linter.unusedVariables false
open Go.RowKit

theorem kp5 {W : World} {s s' : Nat} {p q x y z : Value} (h : Blk W s #[p, q]) (h2 : Blk W s' #[x, y, z]) : W.cell? ⟨s, 0, none⟩ = some p ∧ W.cell? ⟨s, 1, none⟩ = some q ∧ W.cell? ⟨s', 0, none⟩ = some x ∧ W.cell? ⟨s', 1, none⟩ = some y ∧ W.cell? ⟨s', 2, none⟩ = some z := ⟨h.cell 0, h.cell 1, h2.cell 0, h2.cell 1, h2.cell 2⟩
theorem lt_ne {v : Value} {B s : Nat} (h : ∀ k, v.ownBlock = some k → B ≤ k) (hs : s < B) : some s ≠ v.ownBlock := fun e => by have := h s e.symm; omega
theorem own_ge {w : World} {B B' : Nat} {v : Value} {bs : List Br} (h : Brs w B' v bs) (hB : B ≤ B') : ∀ k, v.ownBlock = some k → B ≤ k := fun k hk => Nat.le_trans hB (h.lt k hk).1
def addOK (n : Int) (bs : List Br) (b : Br) : Bool := areIs n bs && isBr n b && !decide (bs.length = 14)
def addN (n : Int) (bs : List Br) (b : Br) : Int := if addOK n bs b then n else 0
def addL (n : Int) (bs : List Br) (b : Br) : List Br := if addOK n bs b then bs ++ [b] else []
theorem addL_len (n : Int) (bs : List Br) (b : Br) : (addL n bs b).length ≤ 15 := by
  unfold addL
  split
  · rename_i h
    unfold addOK at h
    rw [Bool.and_eq_true, Bool.and_eq_true] at h
    have := (areIs_iff.1 h.1.1).2.2.1
    simp; omega
  · simp
set_option maxRecDepth 100000 in
set_option maxHeartbeats 4000000 in
theorem implAdd (n : Int) (v : Value) (bs : List Br) (x y z : Int) (w : World) (h : RdB w v bs) (hl : bs.length ≤ 1048576) :
    Calls Try.prog 12 #[.agg #[.int .i64 n, v], .agg #[.int .i64 x, .int .i64 y, .int .i64 z]] w fun e w' => ∃ u, e = .returned (.tuple #[.agg #[.int .i64 (addN n bs (x, y, z)), u], .bool (addOK n bs (x, y, z))]) ∧ Brs w' w.heap.size u (addL n bs (x, y, z)) ∧ Below w.heap.size w w' := by
  have H := Lib.hid h
  obtain ⟨a, l, c, rfl, hnz, t⟩ := h
  have HN := Lib.hid hnz
  clear t hnz
  obtain ⟨W0, hW0⟩ : ∃ W, W = ((w.alloc (.cells #[.int .i64 n, .slice a l c] 30)).alloc (.cells #[.int .i64 x, .int .i64 y, .int .i64 z] 34)).alloc (.cells #[.int .i64 0, .slice none 0 0] 30) := ⟨_, rfl⟩
  have X1 := Lib.hid (show Blk W0 w.heap.size #[.int .i64 n, .slice a l c] by rw [hW0]; exact ((Blk.new w _ _).alloc _).alloc _)
  have X2 := Lib.hid (show Blk W0 (w.heap.size + 1) #[.int .i64 x, .int .i64 y, .int .i64 z] by rw [hW0]; exact ((Blk.new (w.alloc (.cells #[.int .i64 n, .slice a l c] 30)) _ _).at_ (by simp)).alloc _)
  have X3 := Lib.hid (show Blk W0 (w.heap.size + 1 + 1) #[.int .i64 0, .slice none 0 0] by rw [hW0]; exact (Blk.new ((w.alloc (.cells #[.int .i64 n, .slice a l c] 30)).alloc (.cells #[.int .i64 x, .int .i64 y, .int .i64 z] 34)) _ _).at_ (by simp))
  have B0 := Lib.hid (show Below w.heap.size w W0 by rw [hW0]; (repeat (first | exact Below.refl _ _ | (refine Below.alloc ?_ (by first | omega | (simp; try omega)) _) | apply Below.drew | apply below_drewN)))
  have HW0 := Lib.hid hW0
  clear hW0
  have s0 := B0.out.size
  have FAIL : Hid (∀ w1 : World, Below w.heap.size w w1 → Blk w1 (w.heap.size + 1 + 1) #[.int .i64 0, .slice none 0 0] → addOK n bs (x, y, z) = false → ∃ u, (Ending.returned (.tuple #[.agg #[.int .i64 0, .slice none 0 0], .bool false]) : Ending) = .returned (.tuple #[.agg #[.int .i64 (addN n bs (x, y, z)), u], .bool (addOK n bs (x, y, z))]) ∧ Brs ((w1.setCell ⟨w.heap.size + 1 + 1, 0, none⟩ (.int .i64 0)).setCell ⟨w.heap.size + 1 + 1, 1, none⟩ (.slice none 0 0)) w.heap.size u (addL n bs (x, y, z)) ∧ Below w.heap.size w ((w1.setCell ⟨w.heap.size + 1 + 1, 0, none⟩ (.int .i64 0)).setCell ⟨w.heap.size + 1 + 1, 1, none⟩ (.slice none 0 0))) := Lib.hid (fun w1 hb hX hf => by
    refine ⟨.slice none 0 0, by rw [show addN n bs (x, y, z) = 0 by simp [addN, hf], hf], ?_, (hb.setCell (by simp; try omega) _).setCell (by simp; try omega) _⟩
    rw [show addL n bs (x, y, z) = [] by simp [addL, hf]]
    exact Brs.nil _ _)
  cases hg : areIs n bs
  · have OKF := Lib.hid (show addOK n bs (x, y, z) = false by unfold addOK; rw [hg]; rfl)
    have G := Lib.hid hg
    clear hg
    go_enter Try.func12, Try.ntmps12
    go_wp2_with fail
    rw [← HW0.out]
    clear HW0
    refine (implAreIs n _ bs _ (H.out.below B0.out) hl).mono ?_
    rw [G.out]
    rintro e w1 ⟨rfl, hb⟩
    have HB := Lib.hid (B0.out.trans (hb.mono s0))
    have Y3 := Lib.hid (X3.out.below hb X3.out.lt)
    obtain ⟨y0, y1, y2⟩ := Y3.out.two
    have f0 := Y3.out.fr 0
    have f1 := Y3.out.fr 1
    clear hb
    go_wp2
    have q0 : (World.setCell _ ⟨w.heap.size + 1 + 1, 0, none⟩ (.int .i64 0)).cell? ⟨w.heap.size + 1 + 1, 0, none⟩ = some (.int .i64 0) := ((Y3.out.set 0 (.int .i64 0)).cell 0).trans (by simp)
    have p0 : ((World.setCell _ ⟨w.heap.size + 1 + 1, 0, none⟩ (.int .i64 0)).setCell ⟨w.heap.size + 1 + 1, 1, none⟩ (.slice none 0 0)).cell? ⟨w.heap.size + 1 + 1, 0, none⟩ = some (.int .i64 0) := (((Y3.out.set 0 (.int .i64 0)).set 1 (.slice none 0 0)).cell 0).trans (by simp)
    have p1 : ((World.setCell _ ⟨w.heap.size + 1 + 1, 0, none⟩ (.int .i64 0)).setCell ⟨w.heap.size + 1 + 1, 1, none⟩ (.slice none 0 0)).cell? ⟨w.heap.size + 1 + 1, 1, none⟩ = some (.slice none 0 0) := (((Y3.out.set 0 (.int .i64 0)).set 1 (.slice none 0 0)).cell 1).trans (by simp)
    refine bodyPost_ret (v := .tuple #[.agg #[.int .i64 0, .slice none 0 0], .bool false]) (by simp [results, Try.results12, go_sem, p0, p1, q0]) rfl ?_
    exact FAIL.out _ HB.out Y3.out OKF.out
  obtain ⟨m, rfl, hm1, hm7, hl14, hgd⟩ := areIs_in hg
  have G := Lib.hid hg
  have hll : l ≤ 14 := by have := HN.out; omega
  have DO : Hid (addOK m bs (x, y, z) = (isBr m (x, y, z) && !decide (bs.length = 14))) := Lib.hid (by unfold addOK; rw [hg]; rfl)
  clear hg hgd
  rw [← HN.out] at DO
  cases hi : isBr m (x, y, z)
  · have OKF := Lib.hid (show addOK m bs (x, y, z) = false by rw [DO.out, hi]; rfl)
    have GI := Lib.hid hi
    clear hi DO
    go_enter Try.func12, Try.ntmps12
    go_wp2_with fail
    rw [← HW0.out]
    clear HW0
    refine (implAreIs _ _ bs _ (H.out.below B0.out) hl).mono ?_
    rw [G.out]
    rintro e w1 ⟨rfl, hb⟩
    have HB := Lib.hid (B0.out.trans (hb.mono s0))
    have Y1 := Lib.hid (X1.out.below hb X1.out.lt)
    have Y2 := Lib.hid (X2.out.below hb X2.out.lt)
    have Y3 := Lib.hid (X3.out.below hb X3.out.lt)
    obtain ⟨z0, z1, z2⟩ := Y1.out.two
    obtain ⟨b0, b1, b2, b3⟩ := Y2.out.three
    have sb := HB.out.size
    clear hb
    go_wp2_with fail
    refine (implIsBr _ _ _ _ _ _ _ _).mono ?_
    rw [GI.out]
    rintro e w2 ⟨rfl, hb⟩
    have HB2 := Lib.hid (HB.out.trans (hb.mono sb))
    have U1 := Lib.hid (Y1.out.below hb Y1.out.lt)
    have U2 := Lib.hid (Y2.out.below hb Y2.out.lt)
    have U3 := Lib.hid (Y3.out.below hb Y3.out.lt)
    have sb2 := HB2.out.size
    clear hb z0 z1 z2 b0 b1 b2 b3
    obtain ⟨z0, z1, z2⟩ := U1.out.two
    obtain ⟨y0, y1, y2⟩ := U3.out.two
    have f0 := U3.out.fr 0
    have f1 := U3.out.fr 1
    go_wp2
    have q0 : (World.setCell _ ⟨w.heap.size + 1 + 1, 0, none⟩ (.int .i64 0)).cell? ⟨w.heap.size + 1 + 1, 0, none⟩ = some (.int .i64 0) := ((U3.out.set 0 (.int .i64 0)).cell 0).trans (by simp)
    have p0 : ((World.setCell _ ⟨w.heap.size + 1 + 1, 0, none⟩ (.int .i64 0)).setCell ⟨w.heap.size + 1 + 1, 1, none⟩ (.slice none 0 0)).cell? ⟨w.heap.size + 1 + 1, 0, none⟩ = some (.int .i64 0) := (((U3.out.set 0 (.int .i64 0)).set 1 (.slice none 0 0)).cell 0).trans (by simp)
    have p1 : ((World.setCell _ ⟨w.heap.size + 1 + 1, 0, none⟩ (.int .i64 0)).setCell ⟨w.heap.size + 1 + 1, 1, none⟩ (.slice none 0 0)).cell? ⟨w.heap.size + 1 + 1, 1, none⟩ = some (.slice none 0 0) := (((U3.out.set 0 (.int .i64 0)).set 1 (.slice none 0 0)).cell 1).trans (by simp)
    refine bodyPost_ret (v := .tuple #[.agg #[.int .i64 0, .slice none 0 0], .bool false]) (by simp [results, Try.results12, go_sem, p0, p1, q0]) rfl ?_
    exact FAIL.out _ HB2.out U3.out OKF.out
  by_cases h4 : l = 14
  · have OKF := Lib.hid (show addOK m bs (x, y, z) = false by rw [DO.out, h4]; simp)
    have GI := Lib.hid hi
    have h4I : (l : Int) = 14 := by omega
    have h4J : ((l : Int) == 14) = true := by simp; omega
    clear hi DO h4
    go_enter Try.func12, Try.ntmps12
    go_wp2_with fail
    rw [← HW0.out]
    clear HW0
    refine (implAreIs _ _ bs _ (H.out.below B0.out) hl).mono ?_
    rw [G.out]
    rintro e w1 ⟨rfl, hb⟩
    have HB := Lib.hid (B0.out.trans (hb.mono s0))
    have Y1 := Lib.hid (X1.out.below hb X1.out.lt)
    have Y2 := Lib.hid (X2.out.below hb X2.out.lt)
    have Y3 := Lib.hid (X3.out.below hb X3.out.lt)
    obtain ⟨z0, z1, z2⟩ := Y1.out.two
    obtain ⟨b0, b1, b2, b3⟩ := Y2.out.three
    have sb := HB.out.size
    clear hb
    go_wp2_with fail
    refine (implIsBr _ _ _ _ _ _ _ _).mono ?_
    rw [GI.out]
    rintro e w2 ⟨rfl, hb⟩
    have HB2 := Lib.hid (HB.out.trans (hb.mono sb))
    have U1 := Lib.hid (Y1.out.below hb Y1.out.lt)
    have U2 := Lib.hid (Y2.out.below hb Y2.out.lt)
    have U3 := Lib.hid (Y3.out.below hb Y3.out.lt)
    have sb2 := HB2.out.size
    clear hb z0 z1 z2 b0 b1 b2 b3
    obtain ⟨z0, z1, z2⟩ := U1.out.two
    obtain ⟨y0, y1, y2⟩ := U3.out.two
    have f0 := U3.out.fr 0
    have f1 := U3.out.fr 1
    go_wp2
    have q0 : (World.setCell _ ⟨w.heap.size + 1 + 1, 0, none⟩ (.int .i64 0)).cell? ⟨w.heap.size + 1 + 1, 0, none⟩ = some (.int .i64 0) := ((U3.out.set 0 (.int .i64 0)).cell 0).trans (by simp)
    have p0 : ((World.setCell _ ⟨w.heap.size + 1 + 1, 0, none⟩ (.int .i64 0)).setCell ⟨w.heap.size + 1 + 1, 1, none⟩ (.slice none 0 0)).cell? ⟨w.heap.size + 1 + 1, 0, none⟩ = some (.int .i64 0) := (((U3.out.set 0 (.int .i64 0)).set 1 (.slice none 0 0)).cell 0).trans (by simp)
    have p1 : ((World.setCell _ ⟨w.heap.size + 1 + 1, 0, none⟩ (.int .i64 0)).setCell ⟨w.heap.size + 1 + 1, 1, none⟩ (.slice none 0 0)).cell? ⟨w.heap.size + 1 + 1, 1, none⟩ = some (.slice none 0 0) := (((U3.out.set 0 (.int .i64 0)).set 1 (.slice none 0 0)).cell 1).trans (by simp)
    refine bodyPost_ret (v := .tuple #[.agg #[.int .i64 0, .slice none 0 0], .bool false]) (by simp [results, Try.results12, go_sem, p0, p1, q0]) rfl ?_
    exact FAIL.out _ HB2.out U3.out OKF.out
  · have OKT := Lib.hid (show addOK m bs (x, y, z) = true by rw [DO.out, hi]; simp [h4])
    have GI := Lib.hid hi
    have h4I : ¬ (l : Int) = 14 := by omega
    have h4J : ((l : Int) == 14) = false := by simp; omega
    clear hi DO FAIL
    go_enter Try.func12, Try.ntmps12
    go_wp2_with fail
    rw [← HW0.out]
    clear HW0
    refine (implAreIs _ _ bs _ (H.out.below B0.out) hl).mono ?_
    rw [G.out]
    rintro e w1 ⟨rfl, hb⟩
    have HB := Lib.hid (B0.out.trans (hb.mono s0))
    have Y1 := Lib.hid (X1.out.below hb X1.out.lt)
    have Y2 := Lib.hid (X2.out.below hb X2.out.lt)
    have Y3 := Lib.hid (X3.out.below hb X3.out.lt)
    obtain ⟨z0, z1, z2⟩ := Y1.out.two
    obtain ⟨b0, b1, b2, b3⟩ := Y2.out.three
    have sb := HB.out.size
    clear hb
    go_wp2_with fail
    refine (implIsBr _ _ _ _ _ _ _ _).mono ?_
    rw [GI.out]
    rintro e w2 ⟨rfl, hb⟩
    have HB2 := Lib.hid (HB.out.trans (hb.mono sb))
    have U1 := Lib.hid (Y1.out.below hb Y1.out.lt)
    have U2 := Lib.hid (Y2.out.below hb Y2.out.lt)
    have U3 := Lib.hid (Y3.out.below hb Y3.out.lt)
    have sb2 := HB2.out.size
    clear hb z0 z1 z2 b0 b1 b2 b3
    obtain ⟨z0, z1, z2⟩ := U1.out.two
    obtain ⟨y0, y1, y2⟩ := U3.out.two
    have f0 := U3.out.fr 0
    have f1 := U3.out.fr 1
    obtain ⟨b0, b1, b2, b3⟩ := U2.out.three
    go_wp2_with fail
    have hl15 : bs.length ≤ 1000 := by omega
    have z2s : w.heap.size + 1 + 1 < w2.heap.size := y2
    have V1 := Lib.hid U1.out.drew
    have V2 := Lib.hid U2.out.drew
    have V3 := Lib.hid U3.out.drew
    have HBd := Lib.hid HB2.out.drew
    have D1 := Lib.hid ((Below.refl w2.heap.size w2).drew)
    have D2 := Lib.hid (((Below.refl w2.heap.size w2).alloc (Nat.le_refl _) (.cells #[.int .i64 x, .int .i64 y, .int .i64 z] 34)).drew)
    have HBe := Lib.hid (HB2.out.trans (D2.out.mono sb2))
    have XA := Lib.hid ((Blk.new w2 #[.int .i64 x, .int .i64 y, .int .i64 z] 34).drew)
    go_region_held3 (fun w' => w'.cell? ⟨w.heap.size, 0, none⟩ = some (.int .i64 (m : Int)) ∧ w'.cell? ⟨w.heap.size, 1, none⟩ = some (.slice a l c) ∧ w'.cell? ⟨w.heap.size + 1, 0, none⟩ = some (.int .i64 x) ∧ w'.cell? ⟨w.heap.size + 1, 1, none⟩ = some (.int .i64 y) ∧ w'.cell? ⟨w.heap.size + 1, 2, none⟩ = some (.int .i64 z))
      (first | exact kp5 V1.out V2.out | exact kp5 (V1.out.alloc _) (V2.out.alloc _) | exact kp5 (U1.out.alloc _).drew (U2.out.alloc _).drew | exact kp5 C1.out C2.out | exact kp5 (C1.out.alloc _) (C2.out.alloc _) | exact kp5 E1.out E2.out | exact kp5 (((E1.out).far (p := ⟨w.heap.size + 1 + 1, 0, none⟩) (by simp; try omega) _).far (p := ⟨w.heap.size + 1 + 1, 1, none⟩) (by simp; try omega) _) (((E2.out).far (p := ⟨w.heap.size + 1 + 1, 0, none⟩) (by simp; try omega) _).far (p := ⟨w.heap.size + 1 + 1, 1, none⟩) (by simp; try omega) _)) (first
      | (go_at_call 33; (with_reducible refine (cloneB _ bs w2.drew (H.out.below HBd.out) hl).mono ?_); rintro e w3 ⟨u, rfl, hI, hb⟩; obtain ⟨ua, uc, rfl⟩ := hI.len; have HBy := Lib.hid (D1.out.trans (hb.mono D1.out.size) : Below w2.heap.size w2 w3); have LT := Lib.hid (own_ge hI D1.out.size); have HI := Lib.hid (hI.mono D1.out.size); have S3 := HBy.out.size; have C1 := Lib.hid (U1.out.below HBy.out U1.out.lt); have C2 := Lib.hid (U2.out.below HBy.out U2.out.lt); have C3 := Lib.hid (U3.out.below HBy.out U3.out.lt); clear hb hI; skip)
      | (go_at_call 33; (with_reducible refine (cloneB _ bs (w2.alloc (.cells #[.int .i64 x, .int .i64 y, .int .i64 z] 34)).drew (H.out.below HBe.out) hl).mono ?_); rintro e w3 ⟨u, rfl, hI, hb⟩; obtain ⟨ua, uc, rfl⟩ := hI.len; have HBy := Lib.hid (D2.out.trans (hb.mono D2.out.size) : Below w2.heap.size w2 w3); have LT := Lib.hid (own_ge hI D2.out.size); have HI := Lib.hid (hI.mono D2.out.size); have X := Lib.hid (XA.out.below hb XA.out.lt); have S3 := HBy.out.size; have C1 := Lib.hid (U1.out.below HBy.out U1.out.lt); have C2 := Lib.hid (U2.out.below HBy.out U2.out.lt); have C3 := Lib.hid (U3.out.below HBy.out U3.out.lt); clear hb hI; skip)
      | (refine step_appB1 rfl (.tmp 26) (.tmp 28) rfl w2.heap.size (.slice ua bs.length uc) bs ?_ HI.out w2.heap.size x y z ?_ X.out hl15 S3 ?_; (· simp [Act.eval, Act.put]); (· simp [Act.eval, Act.put]); intro g cap' w4 hI4 hg4; have HB4 := Lib.hid ((HBy.out.mono (Nat.le_refl _)).grown hg4 S3 LT.out); have E1 := Lib.hid (C1.out.kept hg4 (lt_ne LT.out (by have := U1.out.lt; omega))); have E2 := Lib.hid (C2.out.kept hg4 (lt_ne LT.out (by have := U2.out.lt; omega))); have E3 := Lib.hid (C3.out.kept hg4 (lt_ne LT.out (by have := U3.out.lt; omega))); obtain ⟨g0, g1, g2⟩ := E3.out.two; have f0 := E3.out.fr 0; have f1 := E3.out.fr 1; have HI4 := Lib.hid hI4; clear hI4 hg4; skip)
      | (refine step_appB1 rfl (.tmp 26) (.tmp 28) rfl w2.heap.size (.slice ua bs.length uc) bs ?_ (HI.out.below ((Below.refl _ _).alloc (Nat.le_refl _) _)) w3.heap.size x y z ?_ (Blk.new w3 _ _) hl15 ?_ ?_; (· simp [Act.eval, Act.put]); (· simp [Act.eval, Act.put]); (· (simp; omega)); intro g cap' w4 hI4 hg4; have HB4 := Lib.hid ((HBy.out.alloc S3 _).grown hg4 (Nat.le_trans S3 (by simp)) LT.out); have E1 := Lib.hid ((C1.out.alloc _).kept hg4 (lt_ne LT.out (by have := U1.out.lt; omega))); have E2 := Lib.hid ((C2.out.alloc _).kept hg4 (lt_ne LT.out (by have := U2.out.lt; omega))); have E3 := Lib.hid ((C3.out.alloc _).kept hg4 (lt_ne LT.out (by have := U3.out.lt; omega))); obtain ⟨g0, g1, g2⟩ := E3.out.two; have f0 := E3.out.fr 0; have f1 := E3.out.fr 1; have HI4 := Lib.hid hI4; clear hI4 hg4; skip))
    all_goals
      have HF := Lib.hid ((E3.out.set 0 (.int .i64 m)).set 1 (.slice (some ⟨g, 0, none⟩) (bs.length + 1) cap'))
      have HR := Lib.hid (((HI4.out.far (p := ⟨w.heap.size + 1 + 1, 0, none⟩) (by simp; omega) (.int .i64 m)).far (p := ⟨w.heap.size + 1 + 1, 1, none⟩) (by simp; omega) (.slice (some ⟨g, 0, none⟩) (bs.length + 1) cap')).mono (B := w.heap.size) sb2)
      have HBf := Lib.hid (((HB2.out.trans (HB4.out.mono sb2)).setCell (p := ⟨w.heap.size + 1 + 1, 0, none⟩) (by simp; omega) (.int .i64 m)).setCell (p := ⟨w.heap.size + 1 + 1, 1, none⟩) (by simp; omega) (.slice (some ⟨g, 0, none⟩) (bs.length + 1) cap'))
      generalize World.setCell _ _ _ = wf at *
      have f0 : wf.cell? ⟨w.heap.size + 1 + 1, 0, none⟩ = some (.int .i64 m) := (HF.out.cell 0).trans (by simp)
      have f1 : wf.cell? ⟨w.heap.size + 1 + 1, 1, none⟩ = some (.slice (some ⟨g, 0, none⟩) (bs.length + 1) cap') := (HF.out.cell 1).trans (by simp)
      go_wp2
      refine bodyPost_ret (v := .tuple #[.agg #[.int .i64 m, .slice (some ⟨g, 0, none⟩) (bs.length + 1) cap'], .bool true]) (by simp [results, Try.results12, go_sem, f0, f1]) rfl ⟨_, by rw [show addN m bs (x, y, z) = m by simp [addN, OKT.out], OKT.out], ?_, HBf.out⟩
      rw [show addL m bs (x, y, z) = bs ++ [(x, y, z)] by simp [addL, OKT.out]]
      exact HR.out
end Go.Proofs.Ytdmgpbhbgeknfaa
