/- HarderPuzzle, impl (written by gen_kzl.py). -/
import Derived.Test.YtnmeomcoeknjoacKzl
namespace Go.Proofs.Ytnmeomcoeknjoac
set_option linter.unusedVariables false
set_option maxRecDepth 100000
open Go.RowKit

/-- f asks for the clues that are kept behind the first j, and for all others -/
def KP (n : Nat) (cs : List Br) (j : Nat) (f : Nat → Bool) : Prop :=
  (∀ k, f k = true → k < cs.length ∧ (k < j → gb cs k ∈ hsel n cs j)) ∧ (∀ d ∈ hsel n cs j, ∃ k, k < j ∧ f k = true ∧ gb cs k = d) ∧ (∀ k, j ≤ k → k < cs.length → f k = true)
theorem HRs.lowB {w w' : World} {B g N cap K : Nat} {R : Nat → ByteArray} {F : Nat → Nat → Bool} (h : HRs w B (.slice (some ⟨g, 0, none⟩) N cap) N R F) (hb : Below K w w') (hgK : g < K) : HRs w' B (.slice (some ⟨g, 0, none⟩) N cap) N R F := by
  refine ⟨h.1, ?_⟩
  rcases h.2 with h2 | ⟨g', cap', cur, e, h1, hg, h3, h4, h5, h6⟩
  · exact .inl h2
  · injection e with e1 e2 e3
    injection e1 with e1
    injection e1 with e1
    subst e1 e3
    exact .inr ⟨g, cap, cur, rfl, h1, (hb.block g hgK).trans hg, h3, h4, h5, h6⟩
theorem KP.start (n : Nat) {cs : List Br} {N : Nat} (h : N = cs.length) : KP n cs 0 (first N) := by
  subst h
  refine ⟨fun k hk => ⟨by simpa [first] using hk, fun h => by omega⟩, fun d hd => by simp [hsel] at hd, fun k _ hk => by simpa [first] using hk⟩
theorem wo_in {f : Nat → Bool} {j k : Nat} (h : wo f j k = true) : k ≠ j ∧ f k = true := by
  unfold wo at h
  split at h
  · cases h
  · exact ⟨by assumption, h⟩
theorem wo_of {f : Nat → Bool} {j k : Nat} (h : k ≠ j) (hf : f k = true) : wo f j k = true := by unfold wo; rw [if_neg h]; exact hf
theorem KP.cnt {n j : Nat} {cs : List Br} {f : Nat → Bool} (h : KP n cs j f) (h6 : cs.length ≤ 6) (hj : j < cs.length) : cntA n cs (wo f j) (2 ^ n) = cntS n (hsel n cs j ++ cs.drop (j + 1)) := by
  refine cntA_list h6 (fun k hk => ?_) (fun d hd => ?_)
  · obtain ⟨hne, hf⟩ := wo_in hk
    obtain ⟨h1, h2⟩ := h.1 k hf
    refine ⟨h1, ?_⟩
    by_cases hkj : k < j
    · exact List.mem_append_left _ (h2 hkj)
    · refine List.mem_append_right _ ?_
      rw [show gb cs k = (cs.drop (j + 1))[k - (j + 1)]'(by simp; omega) from by simp [gb, h1, show j + 1 + (k - (j + 1)) = k from by omega]]
      exact List.getElem_mem _
  · rcases List.mem_append.1 hd with hs | hs
    · obtain ⟨k, hk, hf, e⟩ := h.2.1 d hs
      exact ⟨k, wo_of (by omega) hf, e⟩
    · obtain ⟨q, hq, rfl⟩ := List.getElem_of_mem hs
      have hq' : q < cs.length - (j + 1) := by simpa using hq
      exact ⟨j + 1 + q, wo_of (by omega) (h.2.2 _ (by omega) (by omega)), by simp [gb, show j + 1 + q < cs.length from by omega]⟩
theorem KP.yes {n j : Nat} {cs : List Br} {f : Nat → Bool} (h : KP n cs j f) (e : hsel n cs (j + 1) = hsel n cs j) : KP n cs (j + 1) (wo f j) := by
  refine ⟨fun k hk => ?_, fun d hd => ?_, fun k h1 h2 => wo_of (by omega) (h.2.2 k (by omega) h2)⟩
  · obtain ⟨hne, hf⟩ := wo_in hk
    rw [e]
    exact ⟨(h.1 k hf).1, fun hk => (h.1 k hf).2 (by omega)⟩
  · rw [e] at hd
    obtain ⟨k, hk, hf, e2⟩ := h.2.1 d hd
    exact ⟨k, by omega, wo_of (by omega) hf, e2⟩
theorem KP.no {n j : Nat} {cs : List Br} {f : Nat → Bool} (h : KP n cs j f) (hj : j < cs.length) (e : hsel n cs (j + 1) = hsel n cs j ++ [gb cs j]) : KP n cs (j + 1) f := by
  refine ⟨fun k hk => ⟨(h.1 k hk).1, fun hk2 => ?_⟩, fun d hd => ?_, fun k h1 h2 => h.2.2 k (by omega) h2⟩
  · rw [e]
    by_cases e2 : k = j
    · subst e2; exact List.mem_append_right _ (by simp)
    · exact List.mem_append_left _ ((h.1 k hk).2 (by omega))
  · rw [e] at hd
    rcases List.mem_append.1 hd with hs | hs
    · obtain ⟨k, hk, hf, e2⟩ := h.2.1 d hs
      exact ⟨k, by omega, hf, e2⟩
    · exact ⟨j, by omega, h.2.2 j (Nat.le_refl _) hj, (List.mem_singleton.1 hs).symm⟩
set_option maxHeartbeats 8000000 in
theorem implHar (m : Int) (v : Value) (cs : List Br) (w : World) (h : RdB w v cs) (hl : cs.length ≤ 1048576) :
    Calls Try.prog 21 #[.agg #[.int .i64 m, v]] w fun e w' => ∃ u, e = .returned (.tuple #[.agg #[.int .i64 (hpN m cs), u], .bool (hpOK m cs)]) ∧ Brs w' w.heap.size u (hpL m cs) ∧ Below w.heap.size w w' := by
  have H := Lib.hid h
  obtain ⟨a, N, c, rfl, hN, _, _, hcell⟩ := h
  have HN := Lib.hid hN
  have HCC := Lib.hid hcell
  clear hN hcell
  obtain ⟨W0, hW0⟩ : ∃ W, W = (w.alloc (.cells #[.int .i64 m, .slice a N c] 31)).alloc (.cells #[.int .i64 0, .slice none 0 0] 31) := ⟨_, rfl⟩
  have X1 := Lib.hid (show Blk W0 w.heap.size #[.int .i64 m, .slice a N c] by rw [hW0]; exact (Blk.new w _ _).alloc _)
  have X2 := Lib.hid (show Blk W0 (w.heap.size + 1) #[.int .i64 0, .slice none 0 0] by rw [hW0]; exact (Blk.new (w.alloc (.cells #[.int .i64 m, .slice a N c] 31)) _ _).at_ (by simp))
  have B0 := Lib.hid (show Below w.heap.size w W0 by rw [hW0]; (repeat (first | exact Below.refl _ _ | (refine Below.alloc ?_ (by first | omega | (simp; try omega)) _) | apply Below.drew | apply below_drewN)))
  have HW0 := Lib.hid hW0
  clear hW0
  have s0 := B0.out.size
  have FAIL : Hid (∀ w1 : World, Below w.heap.size w w1 → Blk w1 (w.heap.size + 1) #[.int .i64 0, .slice none 0 0] → hpOK m cs = false → ∃ u, (Ending.returned (.tuple #[.agg #[.int .i64 0, .slice none 0 0], .bool false]) : Ending) = .returned (.tuple #[.agg #[.int .i64 (hpN m cs), u], .bool (hpOK m cs)]) ∧ Brs ((w1.setCell ⟨w.heap.size + 1, 0, none⟩ (.int .i64 0)).setCell ⟨w.heap.size + 1, 1, none⟩ (.slice none 0 0)) w.heap.size u (hpL m cs) ∧ Below w.heap.size w ((w1.setCell ⟨w.heap.size + 1, 0, none⟩ (.int .i64 0)).setCell ⟨w.heap.size + 1, 1, none⟩ (.slice none 0 0))) := Lib.hid (fun w1 hb hx hf => by
    refine ⟨.slice none 0 0, by rw [show hpN m cs = 0 by simp [hpN, hf], hf], ?_, (hb.setCell (by simp) _).setCell (by simp) _⟩
    rw [show hpL m cs = [] by simp [hpL, hf]]
    exact Brs.nil _ _)
  have S := Lib.hid (fun wx hr => implSld m (.slice a N c) cs wx hr hl)
  cases ho : hpOK m cs
  · have OKF := Lib.hid ho
    cases hp : isPz m cs
    · rw [sldV_no hp] at S
      clear hp ho
      go_enter Try.func21, Try.ntmps21
      go_wp2_with fail
      rw [← HW0.out]
      clear HW0
      refine (S.out _ (H.out.below B0.out)).mono ?_
      rintro e w1 ⟨rfl, hb⟩
      have HB := Lib.hid (B0.out.trans (hb.mono s0))
      have Y2 := Lib.hid (X2.out.below hb X2.out.lt)
      clear hb
      obtain ⟨y0, y1, y2⟩ := Y2.out.two
      have f0 := Y2.out.fr 0
      have f1 := Y2.out.fr 1
      go_wp2
      have q0 : (World.setCell _ ⟨w.heap.size + 1, 0, none⟩ (.int .i64 0)).cell? ⟨w.heap.size + 1, 0, none⟩ = some (.int .i64 0) := ((Y2.out.set 0 (.int .i64 0)).cell 0).trans (by simp)
      have p0 : ((World.setCell _ ⟨w.heap.size + 1, 0, none⟩ (.int .i64 0)).setCell ⟨w.heap.size + 1, 1, none⟩ (.slice none 0 0)).cell? ⟨w.heap.size + 1, 0, none⟩ = some (.int .i64 0) := (((Y2.out.set 0 (.int .i64 0)).set 1 (.slice none 0 0)).cell 0).trans (by simp)
      have p1 : ((World.setCell _ ⟨w.heap.size + 1, 0, none⟩ (.int .i64 0)).setCell ⟨w.heap.size + 1, 1, none⟩ (.slice none 0 0)).cell? ⟨w.heap.size + 1, 1, none⟩ = some (.slice none 0 0) := (((Y2.out.set 0 (.int .i64 0)).set 1 (.slice none 0 0)).cell 1).trans (by simp)
      refine bodyPost_ret (v := .tuple #[.agg #[.int .i64 0, .slice none 0 0], .bool false]) (by simp [results, Try.results21, go_sem, p0, p1]) rfl ?_
      have FF := FAIL.out _ HB.out Y2.out OKF.out
      rw [OKF.out] at FF
      exact FF
    · obtain ⟨n, rfl, _⟩ := isPz_nat hp
      have hs : decide (cntS n cs = 1) = false := by
        unfold hpOK at ho
        rw [hp] at ho
        simpa using ho
      rw [sldV_yes hp, one_eq, hs] at S
      clear hp ho hs
      go_enter Try.func21, Try.ntmps21
      go_wp2_with fail
      rw [← HW0.out]
      clear HW0
      refine (S.out _ (H.out.below B0.out)).mono ?_
      rintro e w1 ⟨rfl, hb⟩
      have HB := Lib.hid (B0.out.trans (hb.mono s0))
      have Y2 := Lib.hid (X2.out.below hb X2.out.lt)
      clear hb
      obtain ⟨y0, y1, y2⟩ := Y2.out.two
      have f0 := Y2.out.fr 0
      have f1 := Y2.out.fr 1
      go_wp2
      have q0 : (World.setCell _ ⟨w.heap.size + 1, 0, none⟩ (.int .i64 0)).cell? ⟨w.heap.size + 1, 0, none⟩ = some (.int .i64 0) := ((Y2.out.set 0 (.int .i64 0)).cell 0).trans (by simp)
      have p0 : ((World.setCell _ ⟨w.heap.size + 1, 0, none⟩ (.int .i64 0)).setCell ⟨w.heap.size + 1, 1, none⟩ (.slice none 0 0)).cell? ⟨w.heap.size + 1, 0, none⟩ = some (.int .i64 0) := (((Y2.out.set 0 (.int .i64 0)).set 1 (.slice none 0 0)).cell 0).trans (by simp)
      have p1 : ((World.setCell _ ⟨w.heap.size + 1, 0, none⟩ (.int .i64 0)).setCell ⟨w.heap.size + 1, 1, none⟩ (.slice none 0 0)).cell? ⟨w.heap.size + 1, 1, none⟩ = some (.slice none 0 0) := (((Y2.out.set 0 (.int .i64 0)).set 1 (.slice none 0 0)).cell 1).trans (by simp)
      refine bodyPost_ret (v := .tuple #[.agg #[.int .i64 0, .slice none 0 0], .bool false]) (by simp [results, Try.results21, go_sem, p0, p1]) rfl ?_
      have FF := FAIL.out _ HB.out Y2.out OKF.out
      rw [OKF.out] at FF
      exact FF
  · obtain ⟨hp, h1⟩ := hpOK_in ho
    obtain ⟨n, rfl, hn, h6, hc⟩ := isPz_nat hp
    have h1' : cntS n cs = 1 := h1
    rw [sldV_yes hp, one_eq, h1'] at S
    have OKT := Lib.hid ho
    have HR := H
    have C := Lib.hid (fun wx hr => riversOf n (.slice a N c) cs wx hr hn h6 hc)
    have hNb : N ≤ 6 := by have := HN.out; omega
    have hfc := fun wx => firstClues N wx hNb
    unfold a6 at hfc
    have HFC := Lib.hid hfc
    clear hfc
    have H6 := Lib.hid h6
    obtain ⟨P, hP⟩ : ∃ P, P = 2 ^ n := ⟨_, rfl⟩
    have hP8 : P ≤ 256 := by rw [hP]; exact pow_8 hn.2
    have HP := Lib.hid hP
    clear hp hc h6 hP h1 h1' ho FAIL
    go_enter Try.func21, Try.ntmps21
    go_wp2_with fail
    rw [← HW0.out]
    clear HW0
    refine (S.out _ (H.out.below B0.out)).mono ?_
    rintro e w1 ⟨rfl, hb⟩
    have HB := Lib.hid (B0.out.trans (hb.mono s0))
    have HX1 := Lib.hid (X1.out.below hb X1.out.lt)
    have HX2 := Lib.hid (X2.out.below hb X2.out.lt)
    have hle := HB.out.size
    obtain ⟨x0, x1, xl⟩ := HX1.out.two
    clear hb
    go_wp2_with fail
    go_cut [6, 7] (fun sr sp wx => ∃ g gc b, sr = .slice (some ⟨g, 0, none⟩) P gc ∧ sp = .pointer (some ⟨b, 0, none⟩) ∧ Hid (CutN w1 wx g gc P b n cs N))
    case first =>
      have KA := Lib.hid HX1.out
      have KL := Lib.hid HX1.out.lt
      have BB := Lib.hid (Below.refl w1.heap.size w1)
      go_region_held3 (fun W => W.cell? ⟨w.heap.size, 0, none⟩ = some (.int .i64 (n : Int)) ∧ W.cell? ⟨w.heap.size, 1, none⟩ = some (.slice a N c)) (first | with_reducible exact kp KA.out | with_reducible exact kp KA.out.drew | with_reducible exact kp (KA.out.alloc _) | with_reducible exact kp (KA.out.alloc _).drew | (with_reducible refine kp (far6 KA.out ?_); have := BB.out.size; have := XW.out; have := KL.out; omega)) (first
        | (go_at_call 29; refine (C.out _ (HR.out.below (HB.out.trans ((bel2 BB.out (by (repeat (first | exact Below.refl _ _ | (refine Below.alloc ?_ (by first | omega | (simp; try omega)) _) | apply Below.drew | apply below_drewN)))).mono hle)))).mono ?_; rintro e wr1 ⟨u, rfl, hI, ⟨g, gc, rfl⟩, hb⟩; rw [← HP.out] at hI ⊢; have GL := Lib.hid hI.blk; have HI := Lib.hid hI; clear hI; have BBn := Lib.hid (bel3 BB.out (by (repeat (first | exact Below.refl _ _ | (refine Below.alloc ?_ (by first | omega | (simp; try omega)) _) | apply Below.drew | apply below_drewN))) hb); have KAn := Lib.hid (KA.out.below (bel1 (by (repeat (first | exact Below.refl _ _ | (refine Below.alloc ?_ (by first | omega | (simp; try omega)) _) | apply Below.drew | apply below_drewN))) hb) KA.out.lt); have BO := Lib.hid BB.out.size; clear BB KA; have BB := BBn; have KA := KAn; clear BBn KAn; (try (with_reducible have X := Lib.hid (X.out.below (bel1 (by (repeat (first | exact Below.refl _ _ | (refine Below.alloc ?_ (by first | omega | (simp; try omega)) _) | apply Below.drew | apply below_drewN))) hb) X.out.lt))); (try (with_reducible have X := Lib.hid ((Blk.drew (Blk.new _ #[.bool false, .bool false, .bool false, .bool false, .bool false, .bool false] 51)).below hb (by simp)); have XW := BO)); (try (with_reducible have X := Lib.hid ((Blk.new _ #[.bool false, .bool false, .bool false, .bool false, .bool false, .bool false] 51).below hb (by simp)); have XW := BO)); clear BO; (try (have xf := X.out.fr; have x00 := xf 0; have x01 := xf 1; have x02 := xf 2; have x03 := xf 3; have x04 := xf 4; have x05 := xf 5; clear xf; obtain ⟨y0, y1, y2, y3, y4, y5⟩ := a6_blk (f := fun _ => false) X.out)); have ZR := Lib.hid hb.size; clear hb; skip)
        | (go_at_call 30; refine (HFC.out _).mono ?_; rintro e wf ⟨rfl, hb⟩; (try (have HI := Lib.hid (HI.out.below (bel1 (by (repeat (first | exact Below.refl _ _ | (refine Below.alloc ?_ (by first | omega | (simp; try omega)) _) | apply Below.drew | apply below_drewN))) hb)))); have BBn := Lib.hid (bel3 BB.out (by (repeat (first | exact Below.refl _ _ | (refine Below.alloc ?_ (by first | omega | (simp; try omega)) _) | apply Below.drew | apply below_drewN))) hb); have KAn := Lib.hid (KA.out.below (bel1 (by (repeat (first | exact Below.refl _ _ | (refine Below.alloc ?_ (by first | omega | (simp; try omega)) _) | apply Below.drew | apply below_drewN))) hb) KA.out.lt); have BO := Lib.hid BB.out.size; clear BB KA; have BB := BBn; have KA := KAn; clear BBn KAn; (try (with_reducible have X := Lib.hid (X.out.below (bel1 (by (repeat (first | exact Below.refl _ _ | (refine Below.alloc ?_ (by first | omega | (simp; try omega)) _) | apply Below.drew | apply below_drewN))) hb) X.out.lt))); (try (with_reducible have X := Lib.hid ((Blk.drew (Blk.new _ #[.bool false, .bool false, .bool false, .bool false, .bool false, .bool false] 51)).below hb (by simp)); have XW := BO)); (try (with_reducible have X := Lib.hid ((Blk.new _ #[.bool false, .bool false, .bool false, .bool false, .bool false, .bool false] 51).below hb (by simp)); have XW := BO)); clear BO; (try (have xf := X.out.fr; have x00 := xf 0; have x01 := xf 1; have x02 := xf 2; have x03 := xf 3; have x04 := xf 4; have x05 := xf 5; clear xf; obtain ⟨y0, y1, y2, y3, y4, y5⟩ := a6_blk (f := fun _ => false) X.out)); have ZF := Lib.hid hb.size; clear hb; skip)
        | fail)
      all_goals
        go_wp2_with fail
        go_meet
        first
          | (refine ⟨_, _, _, rfl, rfl, Lib.hid ?_⟩; with_reducible exact cutN_new BB.out HI.out)
          | (refine ⟨_, _, _, rfl, rfl, Lib.hid ?_⟩; with_reducible refine cutN_old BB.out HI.out X.out ?_ ?_; (· ( have := XW.out; have := BB.out.size; first | exact XW.out | (simp at *; omega))); (· (have := GL.out; have := ZR.out; have := ZF.out; simp at *; omega)))
    case rest =>
      obtain ⟨g, gc, bx, rfl, rfl, HC9⟩ := hcut
      obtain ⟨⟨B, hI⟩, hX, hbx, hgb, hQ⟩ := HC9.out
      obtain ⟨w2, hw2⟩ : ∃ w2, w2 = wc := ⟨_, rfl⟩
      rw [← hw2] at hI hX hQ ⊢
      clear hw2 HC9
      have hbl := hX.lt
      have hgl := hI.blk.2
      have HI := Lib.hid hI
      have HXB := Lib.hid hX
      have HQ2 := Lib.hid hQ
      have XP := Lib.hid (HX1.out.below hQ HX1.out.lt)
      have XL := HX1.out.lt
      clear hI hX hQ x0 x1 xl
      obtain ⟨x0, x1, xl⟩ := XP.out.two
      have Z1 := XP.out.alloc (.cells #[.int .i64 (n : Int), .slice none 0 0] 31)
      obtain ⟨z0, z1, zl⟩ := Z1.two
      clear Z1
      go_wp2_with fail
      obtain ⟨w3, hw3⟩ : ∃ w3, w3 = w2.alloc (.cells #[.int .i64 (n : Int), .slice none 0 0] 31) := ⟨_, rfl⟩
      have I3 := Lib.hid (show HRs w3 B (.slice (some ⟨g, 0, none⟩) P gc) P (rvN n) (fun i => fitK cs (rvN n i)) by rw [hw3]; exact HI.out.below ((Below.refl _ _).alloc (Nat.le_refl _) _))
      have F3 := Lib.hid (show Blk w3 bx (a6 (first N)) by rw [hw3]; exact HXB.out.alloc _)
      have H3 := Lib.hid (show Blk w3 w2.heap.size #[.int .i64 (n : Int), .slice none 0 0] by rw [hw3]; exact Blk.new _ _ _)
      have Q3 := Lib.hid (show Below w1.heap.size w1 w3 by rw [hw3]; exact HQ2.out.alloc HQ2.out.size _)
      have s3 : w2.heap.size + 1 ≤ w3.heap.size := by rw [hw3]; simp
      have K3 := Lib.hid (KP.start n HN.out)
      have s12 := HQ2.out.size
      have s02 : w.heap.size + 1 < w1.heap.size := HX2.out.lt
      rw [← hw3]
      clear hw3 x0 x1 xl z0 z1 zl
      go_loopw [35] (fun i wr => ∃ (j : Nat) (f : Nat → Bool) (hv : Value), j ≤ N ∧ i = .int .i64 (j : Int) ∧ Hid (KP n cs j f) ∧ Hid (HRs wr B (.slice (some ⟨g, 0, none⟩) P gc) P (rvN n) (fun i => fitK cs (rvN n i))) ∧ Hid (Blk wr bx (a6 f)) ∧ Hid (Blk wr w2.heap.size #[.int .i64 (n : Int), hv]) ∧ Hid (Brs wr (w2.heap.size + 1) hv (hsel n cs j)) ∧ Hid (Below w1.heap.size w1 wr) ∧ Hid (w2.heap.size + 1 ≤ wr.heap.size)) (fun i _ => N - (intOf i).toNat)
      case atStart => exact ⟨0, first N, _, Nat.zero_le _, rfl, K3, I3, F3, H3, Lib.hid (Brs.nil _ _), Q3, Lib.hid s3⟩
      case round =>
        obtain ⟨j, f, hv, hj, rfl, HK, HIr, HF, HH, HO, HQ, HS⟩ := hrel
        obtain ⟨oa, on, oc, rfl⟩ := HO.out.form
        have HBQ := Lib.hid (HB.out.trans (HQ.out.mono hle))
        by_cases hlt : j < N
        · have hjl : j < cs.length := by have := HN.out; omega
          have hlt' : (j : Int) < N := by omega
          obtain ⟨b, off, rfl, hbw, hA⟩ := HCC.out j hlt
          obtain ⟨c1, c2, c3⟩ := hA.below hbw HBQ.out
          have ecn := HK.out.cnt H6.out hjl
          rw [← HP.out] at ecn
          have hcf := fun wx hI => countFit n P g gc B cs (wo f j) wx hP8 hI
          rw [ecn] at hcf
          unfold a6 at hcf
          have CF := Lib.hid hcf
          have hwo := fun wx => without6 f j wx (by omega)
          unfold a6 at hwo
          have WO := Lib.hid hwo
          have HYES := Lib.hid (fun (e : cntS n (hsel n cs j ++ cs.drop (j + 1)) = 1) => And.intro (hsel_yes e) (HK.out.yes (hsel_yes e)))
          have HNO := Lib.hid (fun (e : ¬ cntS n (hsel n cs j ++ cs.drop (j + 1)) = 1) => And.intro (hsel_no e) (HK.out.no hjl (hsel_no e)))
          have hsl := hsel_len n cs j
          clear ecn hcf hwo hA
          generalize cntS n (hsel n cs j ++ cs.drop (j + 1)) = cnt at *
          generalize gb cs j = q at *
          obtain ⟨x, y, z⟩ := q
          dsimp only at c1 c2 c3
          obtain ⟨q0, q1, q2, q3, q4, q5⟩ := a6_blk (HF.out.alloc (.cells #[.int .i64 x, .int .i64 y, .int .i64 z] 60))
          go_wp2_with fail
          refine (WO.out _).mono ?_
          rintro e w4 ⟨rfl, hb4⟩
          have D4 := Lib.hid (Below.trans (by (repeat (first | exact Below.refl _ _ | (refine Below.alloc ?_ (by first | omega | (simp; try omega)) _) | apply Below.drew | apply below_drewN))) (hb4.mono (by simp; try omega)) : Below wr.heap.size wr w4)
          have CB4 := Lib.hid ((Blk.new wr #[.int .i64 x, .int .i64 y, .int .i64 z] 60).below hb4 (by simp))
          clear hb4 q0 q1 q2 q3 q4 q5 c1 c2 c3
          go_wp2_with fail
          refine (CF.out _ (HIr.out.below D4.out)).mono ?_
          rintro e w5 ⟨rfl, hb5⟩
          have D5 := Lib.hid (D4.out.trans (hb5.mono D4.out.size))
          have CB5 := Lib.hid (CB4.out.below hb5 CB4.out.lt)
          have I5 := Lib.hid (HIr.out.below D5.out)
          have F5 := Lib.hid (HF.out.below D5.out HF.out.lt)
          have H5 := Lib.hid (HH.out.below D5.out HH.out.lt)
          have O5 := Lib.hid (HO.out.below D5.out)
          have Q5 := Lib.hid (HQ.out.trans (D5.out.mono HQ.out.size))
          have S5 := Lib.hid (Nat.le_trans HS.out D5.out.size)
          clear hb5
          by_cases hx : cnt = 1
          · have E := Lib.hid (HYES.out hx)
            have hxi : ((cnt : Int) == 1) = true := by simp; omega
            have hxj : (cnt : Int) = 1 := by omega
            clear HYES HNO hx
            obtain ⟨q0, q1, q2, q3, q4, q5⟩ := a6_blk F5.out
            go_wp2_with fail
            refine (WO.out _).mono ?_
            rintro e w6 ⟨rfl, hb6⟩
            have I6 := Lib.hid (I5.out.below hb6)
            have F6 := Lib.hid (F5.out.below hb6 F5.out.lt)
            have H6b := Lib.hid (H5.out.below hb6 H5.out.lt)
            have O6 := Lib.hid (O5.out.below hb6)
            have Q6 := Lib.hid (Q5.out.trans (hb6.mono Q5.out.size))
            have S6 := Lib.hid (Nat.le_trans S5.out hb6.size)
            clear hb6 q0 q1 q2 q3 q4 q5
            obtain ⟨q0, q1, q2, q3, q4, q5⟩ := a6_blk F6.out
            have xf := F6.out.fr
            have x00 := xf 0
            have x01 := xf 1
            have x02 := xf 2
            have x03 := xf 3
            have x04 := xf 4
            have x05 := xf 5
            clear xf
            go_wp2
            go_roundw
            case rel =>
              have hbo : bx < w2.heap.size + 1 := by omega
              have hbh : w2.heap.size ≠ bx := by omega
              refine ⟨j + 1, wo f j, _, by omega, by go_num, Lib.hid E.out.2, Lib.hid ((((((I6.out.cellOther hgb).cellOther hgb).cellOther hgb).cellOther hgb).cellOther hgb).cellOther hgb), Lib.hid ((((((F6.out.set 0 _).set 1 _).set 2 _).set 3 _).set 4 _).set 5 _), Lib.hid (far6 H6b.out hbh), ?_, Lib.hid ((((((Q6.out.setCell hbx _).setCell hbx _).setCell hbx _).setCell hbx _).setCell hbx _).setCell hbx _), Lib.hid (by have := S6.out; simp; exact this)⟩
              rw [E.out.1]
              exact Lib.hid ((((((O6.out.far (p := ⟨bx, 0, none⟩) hbo _).far (p := ⟨bx, 1, none⟩) hbo _).far (p := ⟨bx, 2, none⟩) hbo _).far (p := ⟨bx, 3, none⟩) hbo _).far (p := ⟨bx, 4, none⟩) hbo _).far (p := ⟨bx, 5, none⟩) hbo _)
            case measure => (simp [intOf]; try omega)
          · have E := Lib.hid (HNO.out hx)
            have hxi : ((cnt : Int) == 1) = false := by simp; omega
            have hxj : ¬ (cnt : Int) = 1 := by omega
            clear HYES HNO hx
            obtain ⟨h0, h1, hl2⟩ := H5.out.two
            obtain ⟨k0, k1, k2, k3⟩ := CB5.out.three
            have hs1 := S5.out
            go_wp2_with (at_builtin; refine wpList_appB w5 rfl _ _ rfl (w2.heap.size + 1) _ (hsel n cs j) rfl O5.out x y z _ rfl rfl (by omega) hs1 rfl ?_; intro v' w6 hI6 hb6 hg6; obtain ⟨va, vn, vc, rfl⟩ := hI6.form; have O6 := Lib.hid hI6; have H6b := Lib.hid (H5.out.below hb6 (by omega)); have I6 := Lib.hid (I5.out.lowB hb6 (by omega)); have F6 := Lib.hid (F5.out.below hb6 (by omega)); have Q6 := Lib.hid (Q5.out.trans (hb6.mono (by omega))); have S6 := Lib.hid (Nat.le_trans hs1 hb6.size); clear hI6 hb6 hg6; obtain ⟨e0, e1, e2⟩ := H6b.out.two; have e3 := H6b.out.fr 1)
            go_roundw
            case rel =>
              refine ⟨j + 1, f, _, by omega, by go_num, Lib.hid E.out.2, Lib.hid (I6.out.cellOther (by omega)), Lib.hid (F6.out.far (p := ⟨w2.heap.size, 1, none⟩) (by show bx ≠ w2.heap.size; omega) _), Lib.hid (H6b.out.set 1 _), ?_, Lib.hid (Q6.out.setCell s12 _), Lib.hid (by have := S6.out; simp; exact this)⟩
              rw [E.out.1]
              exact Lib.hid (O6.out.far (p := ⟨w2.heap.size, 1, none⟩) (by show w2.heap.size < w2.heap.size + 1; omega) _)
            case measure => (simp [intOf]; try omega)
        · obtain rfl : j = N := by omega
          have EL := Lib.hid (show hpL (n : Int) cs = hsel n cs j by rw [HN.out]; simp [hpL, OKT.out])
          have Y2 := Lib.hid (HX2.out.below HQ.out HX2.out.lt)
          obtain ⟨y0, y1, y2⟩ := Y2.out.two
          have f0 := Y2.out.fr 0
          have f1 := Y2.out.fr 1
          obtain ⟨h0, h1, hl2⟩ := HH.out.two
          go_wp2
          have q0 : (World.setCell _ ⟨w.heap.size + 1, 0, none⟩ (.int .i64 (n : Int))).cell? ⟨w.heap.size + 1, 0, none⟩ = some (.int .i64 (n : Int)) := ((Y2.out.set 0 (.int .i64 (n : Int))).cell 0).trans (by simp)
          have p0 : ((World.setCell _ ⟨w.heap.size + 1, 0, none⟩ (.int .i64 (n : Int))).setCell ⟨w.heap.size + 1, 1, none⟩ (.slice oa on oc)).cell? ⟨w.heap.size + 1, 0, none⟩ = some (.int .i64 (n : Int)) := (((Y2.out.set 0 (.int .i64 (n : Int))).set 1 (.slice oa on oc)).cell 0).trans (by simp)
          have p1 : ((World.setCell _ ⟨w.heap.size + 1, 0, none⟩ (.int .i64 (n : Int))).setCell ⟨w.heap.size + 1, 1, none⟩ (.slice oa on oc)).cell? ⟨w.heap.size + 1, 1, none⟩ = some (.slice oa on oc) := (((Y2.out.set 0 (.int .i64 (n : Int))).set 1 (.slice oa on oc)).cell 1).trans (by simp)
          refine bodyPost_ret (v := .tuple #[.agg #[.int .i64 n, .slice oa on oc], .bool true]) (by simp [results, Try.results21, go_sem, p0, p1]) rfl ?_
          refine ⟨_, by rw [show hpN (n : Int) cs = n by simp [hpN, OKT.out]], ?_, (HBQ.out.setCell (by simp) _).setCell (by simp) _⟩
          rw [EL.out]
          exact ((HO.out.far (p := ⟨w.heap.size + 1, 0, none⟩) (by show w.heap.size + 1 < w2.heap.size + 1; omega) _).far (p := ⟨w.heap.size + 1, 1, none⟩) (by show w.heap.size + 1 < w2.heap.size + 1; omega) _).mono (by omega)
end Go.Proofs.Ytnmeomcoeknjoac
