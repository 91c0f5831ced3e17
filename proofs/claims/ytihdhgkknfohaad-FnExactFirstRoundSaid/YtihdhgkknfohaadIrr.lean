/- impl.FirstRound. -/
import Derived.Test.YtihdhgkknfohaadIrd
import Derived.Deep.RegionHeld3
import Derived.Deep.RegionWith
import Derived.Deep.CutRange
import Derived.Deep.DeepCutAuto
namespace Go.Proofs.Ytihdhgkknfohaad
set_option linter.unusedVariables false
open Go.RowKit

theorem Ints.some3 {w : World} {B n : Nat} {v : Value} {zs : List Int} (h : Ints w B v zs) (hn : zs.length = n) (hp : 0 < n) : ∃ g c, v = .slice (some ⟨g, 0, none⟩) n c ∧ B ≤ g := by
  obtain ⟨g, n', c, rfl, hn', _, _, hB, _, _⟩ := h.form (by omega)
  obtain rfl : n' = n := by omega
  exact ⟨g, c, rfl, hB⟩
/-- what holds at the label: the round so far, where one is, what is left -/
structure RSt (m : Nat) (bs : List Br) (w wr : World) (va : Option Addr) (l c : Nat) (Z : List Nat) (rv : Value) (gl cl k here : Nat) (begin : List Nat) : Prop where
  ints : Ints wr (w.heap.size + 1) rv (idx begin)
  left : Ints wr (w.heap.size + 1) (.slice (some ⟨gl, 0, none⟩) k cl) (idx (rem bs.length begin))
  ap : rv.ownBlock ≠ some gl
  box : Blk wr w.heap.size #[.int .i64 m, .slice va l c]
  bel : Below w.heap.size w wr
  hm : here < m
  cnt : begin.length + k = bs.length
  res : trF m bs k begin here = Z
theorem RSt.klen {m : Nat} {bs : List Br} {w wr : World} {va : Option Addr} {l c : Nat} {Z : List Nat} {rv : Value} {gl cl k here : Nat} {begin : List Nat} (h : RSt m bs w wr va l c Z rv gl cl k here begin) : k = (rem bs.length begin).length := by
  have := h.left.sl
  obtain ⟨a, c2, e⟩ := this
  injection e with _ e2 _
  rw [e2, idx_len]
theorem RSt.cells {m : Nat} {bs : List Br} {w wr : World} {va : Option Addr} {l c : Nat} {Z : List Nat} {rv : Value} {gl cl k here : Nat} {begin : List Nat} (h : RSt m bs w wr va l c Z rv gl cl k here begin) : ∀ j, j < k → wr.cell? ⟨gl, j, none⟩ = some (.int .i64 (gt (idx (rem bs.length begin)) j)) :=
  fun j hj => h.left.cell (by rw [idx_len]; exact h.klen) j hj
theorem fin8 {wr w3 : World} {p g3 n c3 : Nat} {z0 z1 z2 y0 y1 y2 : Value} {zs : List Int} (D : Below wr.heap.size wr w3) (I : Ints w3 wr.heap.size (.slice (some ⟨g3, 0, none⟩) n c3) zs) (N : Blk w3 p #[z0, z1, z2]) (hp : wr.heap.size ≤ p) (hne : p ≠ g3) :
    Blk (((w3.setCell ⟨p, 0, none⟩ y0).setCell ⟨p, 1, none⟩ y1).setCell ⟨p, 2, none⟩ y2) p #[y0, y1, y2] ∧ Ints (((w3.setCell ⟨p, 0, none⟩ y0).setCell ⟨p, 1, none⟩ y1).setCell ⟨p, 2, none⟩ y2) wr.heap.size (.slice (some ⟨g3, 0, none⟩) n c3) zs ∧ Below wr.heap.size wr (((w3.setCell ⟨p, 0, none⟩ y0).setCell ⟨p, 1, none⟩ y1).setCell ⟨p, 2, none⟩ y2) ∧ wr.heap.size ≤ p ∧ p ≠ g3 := by
  refine ⟨((N.set 0 y0).set 1 y1).set 2 y2, ?_, ((D.setCell hp _).setCell hp _).setCell hp _, hp, hne⟩
  have hg : ∀ (W : World) (i : Nat) (u : Value), W.grownBy (W.setCell ⟨p, i, none⟩ u) (some p) := fun W i u => grown_set1 W ⟨p, i, none⟩ u
  have hx : (Value.slice (some ⟨g3, 0, none⟩) n c3).ownBlock ≠ some p := by simp [Value.ownBlock]; omega
  exact ((I.kept (hg _ _ _) (.inr hx)).kept (hg _ _ _) (.inr hx)).kept (hg _ _ _) (.inr hx)
theorem fin8n {wr w3 : World} {g3 n c3 : Nat} {y0 y1 y2 : Value} {zs : List Int} {T : TypeId} (D : Below wr.heap.size wr w3) (I : Ints w3 wr.heap.size (.slice (some ⟨g3, 0, none⟩) n c3) zs) :
    Blk (w3.alloc (.cells #[y0, y1, y2] T)) w3.heap.size #[y0, y1, y2] ∧ Ints (w3.alloc (.cells #[y0, y1, y2] T)) wr.heap.size (.slice (some ⟨g3, 0, none⟩) n c3) zs ∧ Below wr.heap.size wr (w3.alloc (.cells #[y0, y1, y2] T)) ∧ wr.heap.size ≤ w3.heap.size ∧ w3.heap.size ≠ g3 := by
  have := I.blk
  exact ⟨Blk.new w3 _ T, I.below ((Below.refl _ _).alloc (Nat.le_refl _) _), D.alloc D.size _, D.size, by omega⟩
theorem trF_stop {m : Nat} {bs : List Br} {k : Nat} {begin : List Nat} {a : Nat} (h : (rem bs.length begin).find? (okK m bs (rem bs.length begin) a) = none) : trF m bs k begin a = begin := by
  cases k with
  | zero => rfl
  | succ k => simp only [trF]; rw [h]
theorem trF_go {m : Nat} {bs : List Br} {k : Nat} {begin : List Nat} {a x : Nat} (hk : 0 < k) (h : (rem bs.length begin).find? (okK m bs (rem bs.length begin) a) = some x) : trF m bs k begin a = trF m bs (k - 1) (begin ++ [x]) (acr bs a x) := by
  obtain ⟨k', rfl⟩ : ∃ k', k = k' + 1 := ⟨k - 1, by omega⟩
  simp only [trF]; rw [h]; rfl
set_option maxRecDepth 100000 in
set_option maxHeartbeats 16000000 in
theorem implRndYes (m : Nat) (va : Option Addr) (l c : Nat) (bs : List Br) (f : Nat) (w : World) (h : RdB w (.slice va l c) bs) (ha : askI m bs f = true) (hc : canR m bs f = true) :
    Calls Try.prog 7 #[.agg #[.int .i64 m, .slice va l c], .int .i64 f] w fun e w' => ∃ u, e = .returned (.tuple #[u, .bool true]) ∧ Ints w' w.heap.size u (idx (trF m bs bs.length [] f)) ∧ Below w.heap.size w w' := by
  have H := Lib.hid h
  obtain ⟨va', l', c', e', hnz, _, _, hvc⟩ := h
  injection e' with e1 e2 e3
  subst e1 e2 e3
  obtain ⟨m', k', e1, e2, hm1, hm7, hl14, hgd, hkm⟩ := askI_in ha
  obtain rfl : m = m' := by omega
  obtain rfl : f = k' := by omega
  have HG := Lib.hid hgd
  have HVC := Lib.hid hvc
  have HVN := Lib.hid hnz
  have HA := Lib.hid ha
  have HC := Lib.hid hc
  clear hgd hvc hnz ha hc e1 e2
  have X0 := Lib.hid (Blk.new w #[.int .i64 m, .slice va l c] 31)
  have BW := Lib.hid ((Below.refl w.heap.size w).alloc (Nat.le_refl _) (.cells #[.int .i64 m, .slice va l c] 31))
  have hsz0 : (w.alloc (.cells #[.int .i64 m, .slice va l c] 31)).heap.size = w.heap.size + 1 := by simp
  obtain ⟨Z, hZ⟩ : ∃ Z, Z = trF m bs bs.length [] f := ⟨_, rfl⟩
  have HZ := Lib.hid hZ
  rw [← hZ]
  clear hZ
  go_enter Try.func7, Try.ntmps7
  go_wp2_with fail
  generalize hw0 : w.alloc (.cells #[.int .i64 m, .slice va l c] 31) = w0 at *
  have HSZ := Lib.hid hsz0
  clear hw0 hsz0
  refine wp_scope_labs (fun k l' a' wr => l' = 0 ∧ ∃ (u3 rv : Value) (gl cl here : Nat) (begin : List Nat) (u9 u10 u11 u12 u13 u14 u15 u16 u17 u18 u19 u20 u21 u22 u23 u24 u25 u26 u27 u28 u29 u30 u31 u32 u33 u34 u35 u36 u37 u38 u39 u40 u41 u42 u43 u44 u45 u46 u47 u48 u49 u50 u51 u52 u53 u54 u55 u56 u57 u58 u59 u60 u61 u62 u63 u64 u65 u66 u67 : Value), a' = { tmps := #[.agg #[.int .i64 m, .slice va l c], .int .i64 f, .pointer (some ⟨w.heap.size, 0, none⟩), u3, .slice none 0 0, .bool false, rv, .int .i64 here, .slice (some ⟨gl, 0, none⟩) k cl, u9, u10, u11, u12, u13, u14, u15, u16, u17, u18, u19, u20, u21, u22, u23, u24, u25, u26, u27, u28, u29, u30, u31, u32, u33, u34, u35, u36, u37, u38, u39, u40, u41, u42, u43, u44, u45, u46, u47, u48, u49, u50, u51, u52, u53, u54, u55, u56, u57, u58, u59, u60, u61, u62, u63, u64, u65, u66, u67], defers := [] } ∧ RSt m bs w wr va l c Z rv gl cl k here begin) ?hf ?first ?pass
  case hf =>
    rintro k l' a' w' ⟨rfl, _⟩
    exact ⟨_, rfl⟩
  case first =>
    obtain ⟨c0, c1, l0⟩ := X0.out.two
    go_wp2_with fail
    refine (areIslesWith _ _ bs _ _ (H.out.below BW.out) (by omega)).mono ?_
    rw [HA.out]
    rintro e w1 ⟨rfl, hb⟩
    have B1 := Lib.hid (BW.out.trans (hb.mono (by have := HSZ.out; omega)))
    have X1 := Lib.hid (X0.out.below hb X0.out.lt)
    clear hb c0 c1 l0
    obtain ⟨c0, c1, l0⟩ := X1.out.two
    go_wp2_with fail
    refine (hasRoundFrom m _ bs f _ (H.out.below B1.out) HG.out hm7 hl14 hkm).mono ?_
    rw [show (evenB m bs && allS m bs f) = true from HC.out]
    rintro e w2 ⟨rfl, hb⟩
    have B2 := Lib.hid (B1.out.trans (hb.mono B1.out.size))
    have X2 := Lib.hid (X1.out.below hb X1.out.lt)
    clear hb c0 c1 l0
    obtain ⟨c0, c1, l0⟩ := X2.out.two
    go_wp2_with fail
    refine (firstIndices l _ (by have := HVN.out; omega)).mono ?_
    rintro e w4 ⟨gl, cl, rfl, hI, hb⟩
    have RS0 : RSt m bs w w4 va l c Z (Value.slice none 0 0) gl cl l f [] := ⟨World.ownsRow_nil _ _ _ _, by rw [rem_nil, ← HVN.out]; exact ints_mono' hI (by have := X2.out.lt; omega), by simp [Value.ownBlock], X2.out.below hb X2.out.lt, B2.out.trans (hb.mono B2.out.size), hkm, by simp; exact HVN.out, by rw [HVN.out]; exact HZ.out.symm⟩
    clear hI hb c0 c1 l0
    go_wp2_with fail
    skip
    go_step3
    have HRS := Lib.hid RS0
    clear RS0
    have HLC := Lib.hid (HRS.out.cells)
    have KL := Lib.hid HRS.out.klen
    have hkn : l ≤ 14 := by have := HRS.out.cnt; omega
    go_wp2_with fail
    go_loopw [6, 7, 8, 30] (fun v6 v7 v8 i wr => ∃ j : Nat, j ≤ l ∧ i = .int .i64 j ∧ (Value.slice none 0 0) = v6 ∧ v7 = .int .i64 f ∧ v8 = .slice (some ⟨gl, 0, none⟩) l cl ∧ Hid (∀ q, q < j → okK m bs (rem bs.length ([] : List Nat)) f ((rem bs.length ([] : List Nat)).getD q 0) = false) ∧ Hid (Below w4.heap.size w4 wr)) (fun _ _ _ i _ => l - (intOf i).toNat)
    case atStart => exact ⟨0, Nat.zero_le _, rfl, rfl, rfl, rfl, Lib.hid (fun q h => absurd h (Nat.not_lt_zero _)), Lib.hid (Below.refl _ _)⟩
    case round =>
      obtain ⟨j, hj, rfl, rfl, rfl, rfl, HN, HB⟩ := hrel
      by_cases hlt : j < l
      · have hkp : 0 < l := by omega
        have hji : (j : Int) < l := by omega
        have hjr : j < (rem bs.length ([] : List Nat)).length := by have := KL.out; omega
        have cl0 := (HB.out.cell (p := ⟨gl, j, none⟩) HRS.out.left.blk.2).trans (HLC.out j hlt)
        rw [idx_gt] at cl0
        have HXM := Lib.hid (show (rem bs.length ([] : List Nat)).getD j 0 ∈ (rem bs.length ([] : List Nat)) by rw [List.getD_eq_getElem?_getD, List.getElem?_eq_getElem hjr]; exact List.getElem_mem _)
        have hxl : (rem bs.length ([] : List Nat)).getD j 0 < bs.length := (mem_rem.1 HXM.out).1
        have WO := Lib.hid (wo_at (rem_nodup bs.length ([] : List Nat)) hjr)
        have FA := Lib.hid (fun hp => find_at (p := okK m bs (rem bs.length ([] : List Nat)) f) hjr HN.out hp)
        have NX := Lib.hid (fun (hp : okK m bs (rem bs.length ([] : List Nat)) f ((rem bs.length ([] : List Nat)).getD j 0) = false) => (fun q hq => by
          by_cases e : q = j
          · subst e; exact hp
          · exact HN.out q (by omega) : ∀ q, q < j + 1 → okK m bs (rem bs.length ([] : List Nat)) f ((rem bs.length ([] : List Nat)).getD q 0) = false))
        generalize (rem bs.length ([] : List Nat)).getD j 0 = x at *
        obtain ⟨b, off, rfl, hbw, hcc⟩ := HVC.out x (by have := HVN.out; omega)
        have HWr := Lib.hid (HRS.out.bel.trans (HB.out.mono HRS.out.bel.size))
        obtain ⟨x0, x1, x2⟩ := hcc.below hbw HWr.out
        have hbr : b < wr.heap.size := Nat.lt_of_lt_of_le hbw HWr.out.size
        have hxi : (x : Int) < l := by have := HVN.out; omega
        have hv := HG.out.at hxl
        have ACR := Lib.hid (fun h => acr_at (a := f) HG.out hxl h)
        have ATK := Lib.hid (atK_at (a := f) HG.out hxl)
        have XB := Lib.hid (HRS.out.box.below HB.out HRS.out.box.lt)
        obtain ⟨c0, c1, l0⟩ := XB.out.two
        have szW := HB.out.size
        have hgl := HRS.out.left.blk
        have hhm := HRS.out.hm
        have EAT := Lib.hid (smE_at HG.out (l := (rem bs.length ([] : List Nat))) (fun y hy => (mem_rem.1 hy).1) HXM.out (i := f))
        have HWL := Lib.hid (fun y (hy : y ∈ wo (rem bs.length ([] : List Nat)) x) => (mem_rem.1 (mem_wo.1 hy).1).1)
        have HWN := Lib.hid (wo_len (rem_nodup bs.length ([] : List Nat)) HXM.out)
        clear HN hcc hjr
        generalize gb bs x = q at *
        obtain ⟨y0, y1, y2⟩ := q
        simp only at hv ACR ATK x0 x1 x2
        have hw1 : IntKind.i64.wrap ((j : Int) + 1) = ((j + 1 : Nat) : Int) := by rw [IntKind.wrap_i64]; omega
        go_wp2_with fail
        go_cut [11, 12] (fun s11 s12 wx => ∃ (p g2 c2 : Nat), s11 = .pointer (some ⟨p, 0, none⟩) ∧ s12 = .slice (some ⟨g2, 0, none⟩) (l - 1) c2 ∧ Hid (Blk wx p #[.int .i64 y0, .int .i64 y1, .int .i64 y2] ∧ Ints wx wr.heap.size (.slice (some ⟨g2, 0, none⟩) (l - 1) c2) (idx (wo (rem bs.length ([] : List Nat)) x)) ∧ Below wr.heap.size wr wx ∧ wr.heap.size ≤ p ∧ p ≠ g2))
        case first =>
          have KP := Lib.hid (fun (W : World) (hW : Below wr.heap.size wr W) => (⟨(hW.cell (p := ⟨w.heap.size, 1, none⟩) l0).trans c1, (hW.cell (p := ⟨b, off + x * 3, none⟩) hbr).trans x0, (hW.cell (p := ⟨b, off + x * 3 + 1, none⟩) hbr).trans x1, (hW.cell (p := ⟨b, off + x * 3 + 2, none⟩) hbr).trans x2⟩ : W.cell? ⟨w.heap.size, 1, none⟩ = some (.slice (some ⟨b, off, none⟩) l c) ∧ W.cell? ⟨b, off + x * 3, none⟩ = some (.int .i64 y0) ∧ W.cell? ⟨b, off + x * 3 + 1, none⟩ = some (.int .i64 y1) ∧ W.cell? ⟨b, off + x * 3 + 2, none⟩ = some (.int .i64 y2)))
          have RL := Lib.hid (show Rd wr (.slice (some ⟨gl, 0, none⟩) l cl) (idx (rem bs.length ([] : List Nat))) from HRS.out.left.rd.below HB.out)
          have hrl : (idx (rem bs.length ([] : List Nat))).length = l := by rw [idx_len, ← KL.out]
          have hrl2 : (idx (rem bs.length ([] : List Nat))).length ≤ 1000000 := by rw [hrl]; omega
          have hrl3 : (idx (rem bs.length ([] : List Nat))).length ≤ 1048576 := by rw [hrl]; omega
          have HRL := Lib.hid hrl
          have ZS := Lib.hid (show (idx (rem bs.length ([] : List Nat))).take j ++ (idx (rem bs.length ([] : List Nat))).drop (j + 1) = idx (wo (rem bs.length ([] : List Nat)) x) by rw [idx_take, idx_drop, WO.out])
          clear hrl
          go_region_held3 (fun W => W.cell? ⟨w.heap.size, 1, none⟩ = some (.slice (some ⟨b, off, none⟩) l c) ∧ W.cell? ⟨b, off + x * 3, none⟩ = some (.int .i64 y0) ∧ W.cell? ⟨b, off + x * 3 + 1, none⟩ = some (.int .i64 y1) ∧ W.cell? ⟨b, off + x * 3 + 2, none⟩ = some (.int .i64 y2)) (exact KP.out _ (by (repeat (first | exact Below.refl _ _ | exact D2.out | exact D3.out | (refine Below.alloc ?_ (by first | omega | (simp; try omega)) _) | apply Below.drew | (refine Below.setCell ?_ (by first | omega | (simp; try omega)) _))))) (first
            | (go_at_call 22; (with_reducible refine (cloneI gl l cl (idx (rem bs.length ([] : List Nat))) _ (RL.out.below (by (repeat (first | exact Below.refl _ _ | (refine Below.alloc ?_ (by first | omega | (simp; try omega)) _) | apply Below.drew)))) hrl3).mono ?_); rintro e w2 ⟨u, rfl, hI2, hb2⟩; obtain ⟨g3, c3, rfl, hg3⟩ := hI2.some3 HRL.out hkp; have D2 := Lib.hid (Below.trans (by (repeat (first | exact Below.refl _ _ | (refine Below.alloc ?_ (by first | omega | (simp; try omega)) _) | apply Below.drew))) (hb2.mono (by first | exact Nat.le_refl _ | (simp; try omega))) : Below wr.heap.size wr w2); have I2 := Lib.hid (ints_mono' (B := wr.heap.size) hI2 (by first | exact Nat.le_refl _ | (simp; try omega))); have L3 := I2.out.blk; (try (have N2 := Lib.hid ((Blk.drew (Blk.new wr #[.int .i64 0, .int .i64 0, .int .i64 0] 45)).below hb2 (by simp)); have hpg : wr.heap.size < g3 := Nat.lt_of_lt_of_le (by simp) hg3)); have s2 := D2.out.size; clear hI2 hb2; skip)
            | (go_at_call 21; (with_reducible refine (delI g3 l c3 j _ _ (idx (rem bs.length ([] : List Nat))) wr.heap.size _ (I2.out.below (by (repeat (first | exact Below.refl _ _ | (refine Below.alloc ?_ (by first | omega | (simp; try omega)) _) | apply Below.drew)))) HRL.out.symm hrl2 hlt rfl ?_ ?_).mono ?_); (· first | exact hw1 | exact rfl | omega); (· first | exact s2 | (simp; omega)); rintro e w3 ⟨rfl, hI3, hb3⟩; have I3 := Lib.hid (ZS.out ▸ hI3); have D3 := Lib.hid (Below.grown (by (repeat (first | exact Below.refl _ _ | exact D2.out | exact D3.out | (refine Below.alloc ?_ (by first | omega | (simp; try omega)) _) | apply Below.drew | (refine Below.setCell ?_ (by first | omega | (simp; try omega)) _))) : Below wr.heap.size wr _) hb3 (by first | exact s2 | (simp; omega)) (by intro q hq; cases hq; omega)); (first | (have N3 := Lib.hid (N2.out.kept hb3 (by intro e; injection e with e; omega)); have f0 := N3.out.fr 0; have f1 := N3.out.fr 1; have f2 := N3.out.fr 2; have d0 := N3.out.cell 0; have d1 := N3.out.cell 1; have d2 := N3.out.cell 2) | (have N3 := Lib.hid ((Blk.new w2 #[.int .i64 0, .int .i64 0, .int .i64 0] 45).kept hb3 (by intro e; injection e with e; omega)); have f0 := N3.out.fr 0; have f1 := N3.out.fr 1; have f2 := N3.out.fr 2; have d0 := N3.out.cell 0; have d1 := N3.out.cell 1; have d2 := N3.out.cell 2) | skip); have s3 := D3.out.size; clear hI3 hb3; skip)
            | fail)
          all_goals
            go_wp2_with fail
            go_meet
            first
              | exact ⟨_, _, _, rfl, rfl, Lib.hid (fin8 D3.out I3.out N3.out (Nat.le_refl _) (by omega))⟩
              | exact ⟨_, _, _, rfl, rfl, Lib.hid (fin8 D3.out I3.out N3.out (by omega) (by omega))⟩
              | exact ⟨_, _, _, rfl, rfl, Lib.hid (fin8n D3.out I3.out)⟩
        case rest =>
          obtain ⟨p, g2, c2, rfl, rfl, HQ⟩ := hcut
          clear c0 c1 x0 x1 x2 cl0
          have HD := Lib.hid HQ.out.2.2.1
          have HP := Lib.hid HQ.out.1
          have HO := Lib.hid HQ.out.2.1
          have hpr := HQ.out.2.2.2.1
          have HPG := Lib.hid HQ.out.2.2.2.2
          have XC := Lib.hid (XB.out.below HD.out XB.out.lt)
          have szC := HD.out.size
          have HBC := Lib.hid (HWr.out.trans (HD.out.mono HWr.out.size))
          clear HQ
          have p0 := HP.out.cell 0
          have p1 := HP.out.cell 1
          have p2 := HP.out.cell 2
          obtain ⟨c0, c1, l0⟩ := XC.out.two
          have plt := HP.out.lt
          go_wp2_with fail
          cases hab : atB y0 y1 (f : Int)
          case false =>
            have OK := Lib.hid (NX.out (by unfold okK; rw [show atK bs f x = false by cases h : atK bs f x; rfl; have := ATK.out.1 h; simp [atB] at hab; omega]; rfl))
            have IA := Lib.hid (fun wx => isAt y0 y1 y2 (f : Int) wx)
            rw [hab] at IA
            go_cut [57] (fun s57 wx => s57 = .bool false ∧ Hid (Below wc.heap.size wc wx))
            case first =>
              clear hab
              first | (go_region_with (first
                | (go_at_call 23; (with_reducible refine (IA.out _).mono ?_); rintro e w4 ⟨rfl, hb4⟩; have D4 := Lib.hid (Below.trans (by (repeat (first | exact Below.refl _ _ | (refine Below.alloc ?_ (by first | omega | (simp; try omega)) _) | apply Below.drew))) (hb4.mono (by first | exact Nat.le_refl _ | (simp; try omega))) : Below wc.heap.size wc w4); clear hb4; skip)
                | fail)) | fail
              all_goals
                go_wp2_with fail
                go_meet
                exact ⟨rfl, D4⟩
            case rest =>
              obtain ⟨rfl, D4⟩ := hcut
              clear c0 c1 p0 p1 p2 hab
              go_wp2
              go_roundw
              case rel => exact ⟨j + 1, by omega, by go_num, rfl, rfl, rfl, OK, Lib.hid (HB.out.trans ((HD.out.trans (D4.out.mono szC)).mono szW))⟩
              case measure => (simp [intOf]; try omega)
          case true =>
            have HAT := Lib.hid (show atK bs f x = true from ATK.out.2 (by simpa [atB] using hab))
            have AE := Lib.hid (ACR.out HAT.out)
            have AM := Lib.hid (EAT.out HAT.out).2.1
            have IA := Lib.hid (fun wx => isAt y0 y1 y2 (f : Int) wx)
            rw [hab] at IA
            have AX := Lib.hid (fun wx => across y0 y1 y2 (f : Int) wx (by omega) (by omega) (by omega))
            have WBc := Lib.hid (fun (wx : World) (h1 : Below wc.heap.size wc wx) => withBridges m (.slice (some ⟨b, off, none⟩) l c) (.slice (some ⟨g2, 0, none⟩) (l - 1) c2) bs (wo (rem bs.length ([] : List Nat)) x) wx (H.out.below (HBC.out.trans (h1.mono HBC.out.size))) (HO.out.rd.below h1) HWL.out (by have := HWN.out; have := KL.out; omega))
            have CT := Lib.hid (fun (v2 : Value) (wx : World) (h1 : RdB wx v2 (pickB bs (wo (rem bs.length ([] : List Nat)) x))) => comesToAll m v2 (pickB bs (wo (rem bs.length ([] : List Nat)) x)) (acr bs f x) wx h1 (pickB_good HG.out HWL.out) hm7 (by rw [pickB_len]; have := HWN.out; have := KL.out; omega) AM.out)
            rw [AE.out] at CT
            have OKV := Lib.hid (show okK m bs (rem bs.length ([] : List Nat)) f x = allS m (pickB bs (wo (rem bs.length ([] : List Nat)) x)) (acr bs f x) by unfold okK; rw [HAT.out, Bool.true_and]; rfl)
            go_cut [57] (fun s57 wx => s57 = .bool (allS m (pickB bs (wo (rem bs.length ([] : List Nat)) x)) (acr bs f x)) ∧ Hid (Below wc.heap.size wc wx))
            case first =>
              clear hab
              have KC := Lib.hid (fun (W : World) (hW : Below wc.heap.size wc W) => (⟨(hW.cell (p := ⟨w.heap.size, 0, none⟩) l0).trans c0, (hW.cell (p := ⟨w.heap.size, 1, none⟩) l0).trans c1, (hW.cell (p := ⟨p, 0, none⟩) plt).trans p0, (hW.cell (p := ⟨p, 1, none⟩) plt).trans p1, (hW.cell (p := ⟨p, 2, none⟩) plt).trans p2⟩ : W.cell? ⟨w.heap.size, 0, none⟩ = some (.int .i64 (m : Int)) ∧ W.cell? ⟨w.heap.size, 1, none⟩ = some (.slice (some ⟨b, off, none⟩) l c) ∧ W.cell? ⟨p, 0, none⟩ = some (.int .i64 y0) ∧ W.cell? ⟨p, 1, none⟩ = some (.int .i64 y1) ∧ W.cell? ⟨p, 2, none⟩ = some (.int .i64 y2)))
              go_region_held3 (fun W => W.cell? ⟨w.heap.size, 0, none⟩ = some (.int .i64 (m : Int)) ∧ W.cell? ⟨w.heap.size, 1, none⟩ = some (.slice (some ⟨b, off, none⟩) l c) ∧ W.cell? ⟨p, 0, none⟩ = some (.int .i64 y0) ∧ W.cell? ⟨p, 1, none⟩ = some (.int .i64 y1) ∧ W.cell? ⟨p, 2, none⟩ = some (.int .i64 y2)) (first | exact KC.out _ D7.out | exact KC.out _ D6.out | exact KC.out _ D5.out | exact KC.out _ D4.out | exact KC.out _ (by (repeat (first | exact Below.refl _ _ | (refine Below.alloc ?_ (by first | omega | (simp; try omega)) _) | apply Below.drew)))) (first
                | (go_at_call 23; (with_reducible refine (IA.out _).mono ?_); rintro e w4 ⟨rfl, hb4⟩; have D4 := Lib.hid (Below.trans (by (repeat (first | exact Below.refl _ _ | (refine Below.alloc ?_ (by first | omega | (simp; try omega)) _) | apply Below.drew))) (hb4.mono (by first | exact Nat.le_refl _ | (simp; try omega))) : Below wc.heap.size wc w4); have s4 := D4.out.size; clear hb4; skip)
                | (go_at_call 25; (with_reducible refine (WBc.out w4 D4.out).mono ?_); rintro e w5 ⟨u5, rfl, hI5, hb5⟩; obtain ⟨ua, uc, rfl⟩ := hI5.len; have D5 := Lib.hid (D4.out.trans (hb5.mono s4)); have I5 := Lib.hid hI5.rd; have s5 := hb5.size; clear hI5 hb5; skip)
                | (go_at_call 25; (with_reducible refine (WBc.out w6 D6.out).mono ?_); rintro e w5 ⟨u5, rfl, hI5, hb5⟩; obtain ⟨ua, uc, rfl⟩ := hI5.len; have D5 := Lib.hid (D6.out.trans (hb5.mono D6.out.size)); have I5 := Lib.hid hI5.rd; have s5 := hb5.size; clear hI5 hb5; skip)
                | (go_at_call 26; (with_reducible refine (AX.out w5).mono ?_); rintro e w6 ⟨rfl, hb6⟩; have D6 := Lib.hid (D5.out.trans (hb6.mono D5.out.size)); have I6 := Lib.hid (I5.out.below hb6); clear hb6; skip)
                | (go_at_call 26; (with_reducible refine (AX.out w4).mono ?_); rintro e w6 ⟨rfl, hb6⟩; have D6 := Lib.hid (D4.out.trans (hb6.mono D4.out.size)); clear hb6; skip)
                | (go_at_call 24; (with_reducible refine (CT.out _ w6 I6.out).mono ?_); rintro e w7 ⟨rfl, hb7⟩; have D7 := Lib.hid (D6.out.trans (hb7.mono D6.out.size)); clear hb7; skip)
                | (go_at_call 24; (with_reducible refine (CT.out _ w5 I5.out).mono ?_); rintro e w7 ⟨rfl, hb7⟩; have D7 := Lib.hid (D5.out.trans (hb7.mono D5.out.size)); clear hb7; skip)
                | fail)
              all_goals
                go_wp2_with fail
                go_meet
                exact ⟨rfl, D7⟩
            case rest =>
              obtain ⟨rfl, D7⟩ := hcut
              clear c0 c1 p0 p1 p2 hab IA WBc CT
              cases hok : allS m (pickB bs (wo (rem bs.length ([] : List Nat)) x)) (acr bs f x)
              case false =>
                have OK := Lib.hid (NX.out (OKV.out.trans hok))
                clear hok
                go_wp2
                go_roundw
                case rel => exact ⟨j + 1, by omega, by go_num, rfl, rfl, rfl, OK, Lib.hid (HB.out.trans ((HD.out.trans (D7.out.mono szC)).mono szW))⟩
                case measure => (simp [intOf]; try omega)
              case true =>
                have FND := Lib.hid (FA.out (OKV.out.trans hok))
                clear hok
                have OWN := Lib.hid (fun q (hq : (Value.slice none 0 0).ownBlock = some q) => (World.ownsRow.lt HRS.out.ints q hq))
                have D8 := Lib.hid (HD.out.trans (D7.out.mono szC))
                have szV := D8.out.size
                have HR9 := Lib.hid ((HRS.out.ints.below HB.out).below D8.out)
                have HO9 := Lib.hid (HO.out.below D7.out)
                have HP9 := Lib.hid (HP.out.below D7.out HP.out.lt)
                have HX9 := Lib.hid (XC.out.below D7.out XC.out.lt)
                have HB9 := Lib.hid (HBC.out.trans (D7.out.mono HBC.out.size))
                have RM := Lib.hid (rem_snoc bs.length ([] : List Nat) x)
                have CNT := Lib.hid HRS.out.cnt
                have TRF := Lib.hid ((trF_go hkp FND.out).symm.trans HRS.out.res)
                have hbl : (idx ([] : List Nat)).length ≤ 1000 := by rw [idx_len]; have := CNT.out; omega
                have hbn : (idx ([] : List Nat)).length + 1 = ([] : List Nat).length + 1 := by rw [idx_len]
                have hsV : w.heap.size + 1 ≤ wc.heap.size := by have := HX9.out.lt; omega
                have og := HO9.out.blk
                have p0 := HP9.out.cell 0
                have p1 := HP9.out.cell 1
                have p2 := HP9.out.cell 2
                have plt9 := HP9.out.lt
                clear HRS HLC KL HXM FA NX ATK XB EAT HWL HWN OKV
                have KE := Lib.hid (fun (W : World) (hW : Blk W p #[.int .i64 y0, .int .i64 y1, .int .i64 y2]) => (⟨hW.cell 0, hW.cell 1, hW.cell 2⟩ : W.cell? ⟨p, 0, none⟩ = some (.int .i64 y0) ∧ W.cell? ⟨p, 1, none⟩ = some (.int .i64 y1) ∧ W.cell? ⟨p, 2, none⟩ = some (.int .i64 y2)))
                go_wp2_with fail
                go_region_held3 (fun W => W.cell? ⟨p, 0, none⟩ = some (.int .i64 y0) ∧ W.cell? ⟨p, 1, none⟩ = some (.int .i64 y1) ∧ W.cell? ⟨p, 2, none⟩ = some (.int .i64 y2)) (first | exact KE.out _ P6b.out | exact KE.out _ P5.out | exact KE.out _ (P6.out.alloc _) | exact KE.out _ P6.out | exact KE.out _ (HP9.out.alloc _).drew | exact KE.out _ HP9.out.drew | exact KE.out _ HP9.out) (first
                  | (go_at_call 26; (with_reducible refine (AX.out w5).mono ?_); rintro e w6 ⟨rfl, hb6⟩; have P6b := Lib.hid (P5.out.below hb6 P5.out.lt); have I6b := Lib.hid (I5.out.below hb6); have O6b := Lib.hid (O5.out.below hb6); have X6b := Lib.hid (X5.out.below hb6 X5.out.lt); have B6b := Lib.hid (B5.out.trans (hb6.mono B5.out.size)); clear hb6; skip)
                  | (go_at_call 26; (with_reducible refine (AX.out _).mono ?_); rintro e w6 ⟨rfl, hb6⟩; have D6 := Lib.hid (Below.trans (by (repeat (first | exact Below.refl _ _ | (refine Below.alloc ?_ (by first | omega | (simp; try omega)) _) | apply Below.drew))) (hb6.mono (by first | exact Nat.le_refl _ | (simp; try omega))) : Below wc.heap.size wc w6); have P6 := Lib.hid (HP9.out.below D6.out plt9); have I6 := Lib.hid (HR9.out.below D6.out); have O6 := Lib.hid (HO9.out.below D6.out); have X6 := Lib.hid (HX9.out.below D6.out HX9.out.lt); have B6 := Lib.hid (HB9.out.trans (D6.out.mono HB9.out.size)); have s6 := D6.out.size; (try (have N6 := Lib.hid ((Blk.drew (Blk.new wc #[.int .i64 x] 3)).below hb6 (by simp)))); clear hb6; skip)
                  | (refine step_appG rfl (.tmp 58) (.tmp 60) rfl (w.heap.size + 1) (Value.slice none 0 0) (idx ([] : List Nat)) ?_ I6.out wc.heap.size (x : Int) ?_ (N6.out.cell 0) hbl (Nat.le_trans hsV s6) (([] : List Nat).length + 1) hbn (idx (([] : List Nat) ++ [x])) (idx_snocR ([] : List Nat) x) ?_; (· simp [Act.eval]); (· simp [Act.eval]); intro g5 c5 w5 hI5 hb5 hg5 hl5; have I5 := Lib.hid hI5; have O5 := Lib.hid (O6.out.kept hg5 (.inr (fun e => by have := OWN.out g2 e.symm; omega))); have X5 := Lib.hid (X6.out.below hb5 (Nat.lt_succ_self _)); have P5 := Lib.hid (P6.out.kept hg5 (fun e => by have := OWN.out p e.symm; omega)); have B5 := Lib.hid (B6.out.trans (hb5.mono (Nat.le_succ _))); have G5 : g5 ≠ g2 := (by rcases hl5 with h | h; (· have := OWN.out g5 h; omega); (· omega)); clear hI5 hb5 hg5 hl5; skip)
                  | (refine step_appG rfl (.tmp 58) (.tmp 60) rfl (w.heap.size + 1) (Value.slice none 0 0) (idx ([] : List Nat)) ?_ (I6.out.below ((Below.refl _ _).alloc (Nat.le_refl _) _)) w6.heap.size (x : Int) ?_ ((Blk.new w6 #[.int .i64 x] 3).cell 0) hbl (Nat.le_trans hsV (by simp; omega)) (([] : List Nat).length + 1) hbn (idx (([] : List Nat) ++ [x])) (idx_snocR ([] : List Nat) x) ?_; (· simp [Act.eval]); (· simp [Act.eval]); intro g5 c5 w5 hI5 hb5 hg5 hl5; have I5 := Lib.hid hI5; have O5 := Lib.hid ((O6.out.below ((Below.refl _ _).alloc (Nat.le_refl _) _)).kept hg5 (.inr (fun e => by have := OWN.out g2 e.symm; omega))); have X5 := Lib.hid ((X6.out.alloc _).below hb5 (Nat.lt_succ_self _)); have P5 := Lib.hid ((P6.out.alloc _).kept hg5 (fun e => by have := OWN.out p e.symm; omega)); have B5 := Lib.hid ((B6.out.alloc B6.out.size _).trans (hb5.mono (Nat.le_succ _))); have G5 : g5 ≠ g2 := (by rcases hl5 with h | h; (· have := OWN.out g5 h; omega); (· simp at h; omega)); clear hI5 hb5 hg5 hl5; skip)
                  | (refine step_appG rfl (.tmp 58) (.tmp 60) rfl (w.heap.size + 1) (Value.slice none 0 0) (idx ([] : List Nat)) ?_ (HR9.out.below (by (repeat (first | exact Below.refl _ _ | (refine Below.alloc ?_ (by first | omega | (simp; try omega)) _) | apply Below.drew)))) wc.heap.size (x : Int) ?_ ((Blk.drew (Blk.new wc #[.int .i64 x] 3)).cell 0) hbl (Nat.le_trans hsV (by simp)) (([] : List Nat).length + 1) hbn (idx (([] : List Nat) ++ [x])) (idx_snocR ([] : List Nat) x) ?_; (· simp [Act.eval]); (· simp [Act.eval]); intro g5 c5 w5 hI5 hb5 hg5 hl5; have I5 := Lib.hid hI5; have O5 := Lib.hid ((HO9.out.below (by (repeat (first | exact Below.refl _ _ | (refine Below.alloc ?_ (by first | omega | (simp; try omega)) _) | apply Below.drew)))).kept hg5 (.inr (fun e => by have := OWN.out g2 e.symm; omega))); have X5 := Lib.hid ((HX9.out.alloc _).drew.below hb5 (Nat.lt_succ_self _)); have P5 := Lib.hid ((HP9.out.alloc _).drew.kept hg5 (fun e => by have := OWN.out p e.symm; omega)); have B5 := Lib.hid ((HB9.out.alloc HB9.out.size _).drew.trans (hb5.mono (Nat.le_succ _))); have G5 : g5 ≠ g2 := (by rcases hl5 with h | h; (· have := OWN.out g5 h; omega); (· simp at h; omega)); clear hI5 hb5 hg5 hl5; skip)
                  | fail)
                all_goals
                  go_wp2_with fail
                  have RSN := Lib.hid (show RSt m bs w w6 (some ⟨b, off, none⟩) l c Z (.slice (some ⟨g5, 0, none⟩) (([] : List Nat).length + 1) c5) g2 c2 (l - 1) (acr bs f x) (([] : List Nat) ++ [x]) from ⟨I6b.out, by rw [RM.out]; exact ints_mono' O6b.out (by omega), by simp [Value.ownBlock]; exact G5, X6b.out, B6b.out, AM.out, by have := CNT.out; simp at this ⊢; omega, TRF.out⟩)
                  rw [← AE.out]
                  go_step3
                  exact ⟨l - 1, rfl, _, _, g2, c2, acr bs f x, ([] : List Nat) ++ [x], _, _, _, _, _, _, _, _, _, _, _, _, _, _, _, _, _, _, _, _, _, _, _, _, _, _, _, _, _, _, _, _, _, _, _, _, _, _, _, _, _, _, _, _, _, _, _, _, _, _, _, _, _, _, _, _, _, _, _, rfl, RSN.out⟩
      · obtain rfl : j = l := by omega
        have RES := Lib.hid (show Z = ([] : List Nat) from HRS.out.res.symm.trans (trF_stop (find_no (fun q hq => HN.out q (by have := KL.out; omega))) ))
        have HIF := Lib.hid (ints_mono' (B := w.heap.size) (HRS.out.ints.below HB.out) (by omega))
        have HBF := Lib.hid (HRS.out.bel.trans (HB.out.mono HRS.out.bel.size))
        go_wp2
        simp only [byLab]
        go_ret2
        exact ⟨_, rfl, by rw [RES.out]; exact HIF.out, HBF.out⟩
  case pass =>
    rintro k l' r a' wp ⟨rfl, u3, rv, gl, cl, here, begin, u9, u10, u11, u12, u13, u14, u15, u16, u17, u18, u19, u20, u21, u22, u23, u24, u25, u26, u27, u28, u29, u30, u31, u32, u33, u34, u35, u36, u37, u38, u39, u40, u41, u42, u43, u44, u45, u46, u47, u48, u49, u50, u51, u52, u53, u54, u55, u56, u57, u58, u59, u60, u61, u62, u63, u64, u65, u66, u67, rfl, RS0⟩ hr
    obtain rfl := Option.some.inj (hr.symm.trans rfl)
    clear hr
    have HRS := Lib.hid RS0
    clear RS0
    have HLC := Lib.hid (HRS.out.cells)
    have KL := Lib.hid HRS.out.klen
    have hkn : k ≤ 14 := by have := HRS.out.cnt; omega
    go_wp2_with fail
    go_loopw [6, 7, 8, 30] (fun v6 v7 v8 i wr => ∃ j : Nat, j ≤ k ∧ i = .int .i64 j ∧ rv = v6 ∧ v7 = .int .i64 here ∧ v8 = .slice (some ⟨gl, 0, none⟩) k cl ∧ Hid (∀ q, q < j → okK m bs (rem bs.length begin) here ((rem bs.length begin).getD q 0) = false) ∧ Hid (Below wp.heap.size wp wr)) (fun _ _ _ i _ => k - (intOf i).toNat)
    case atStart => exact ⟨0, Nat.zero_le _, rfl, rfl, rfl, rfl, Lib.hid (fun q h => absurd h (Nat.not_lt_zero _)), Lib.hid (Below.refl _ _)⟩
    case round =>
      obtain ⟨j, hj, rfl, rfl, rfl, rfl, HN, HB⟩ := hrel
      by_cases hlt : j < k
      · have hkp : 0 < k := by omega
        have hji : (j : Int) < k := by omega
        have hjr : j < (rem bs.length begin).length := by have := KL.out; omega
        have cl0 := (HB.out.cell (p := ⟨gl, j, none⟩) HRS.out.left.blk.2).trans (HLC.out j hlt)
        rw [idx_gt] at cl0
        have HXM := Lib.hid (show (rem bs.length begin).getD j 0 ∈ (rem bs.length begin) by rw [List.getD_eq_getElem?_getD, List.getElem?_eq_getElem hjr]; exact List.getElem_mem _)
        have hxl : (rem bs.length begin).getD j 0 < bs.length := (mem_rem.1 HXM.out).1
        have WO := Lib.hid (wo_at (rem_nodup bs.length begin) hjr)
        have FA := Lib.hid (fun hp => find_at (p := okK m bs (rem bs.length begin) here) hjr HN.out hp)
        have NX := Lib.hid (fun (hp : okK m bs (rem bs.length begin) here ((rem bs.length begin).getD j 0) = false) => (fun q hq => by
          by_cases e : q = j
          · subst e; exact hp
          · exact HN.out q (by omega) : ∀ q, q < j + 1 → okK m bs (rem bs.length begin) here ((rem bs.length begin).getD q 0) = false))
        generalize (rem bs.length begin).getD j 0 = x at *
        obtain ⟨b, off, rfl, hbw, hcc⟩ := HVC.out x (by have := HVN.out; omega)
        have HWr := Lib.hid (HRS.out.bel.trans (HB.out.mono HRS.out.bel.size))
        obtain ⟨x0, x1, x2⟩ := hcc.below hbw HWr.out
        have hbr : b < wr.heap.size := Nat.lt_of_lt_of_le hbw HWr.out.size
        have hxi : (x : Int) < l := by have := HVN.out; omega
        have hv := HG.out.at hxl
        have ACR := Lib.hid (fun h => acr_at (a := here) HG.out hxl h)
        have ATK := Lib.hid (atK_at (a := here) HG.out hxl)
        have XB := Lib.hid (HRS.out.box.below HB.out HRS.out.box.lt)
        obtain ⟨c0, c1, l0⟩ := XB.out.two
        have szW := HB.out.size
        have hgl := HRS.out.left.blk
        have hhm := HRS.out.hm
        have EAT := Lib.hid (smE_at HG.out (l := (rem bs.length begin)) (fun y hy => (mem_rem.1 hy).1) HXM.out (i := here))
        have HWL := Lib.hid (fun y (hy : y ∈ wo (rem bs.length begin) x) => (mem_rem.1 (mem_wo.1 hy).1).1)
        have HWN := Lib.hid (wo_len (rem_nodup bs.length begin) HXM.out)
        clear HN hcc hjr
        generalize gb bs x = q at *
        obtain ⟨y0, y1, y2⟩ := q
        simp only at hv ACR ATK x0 x1 x2
        have hw1 : IntKind.i64.wrap ((j : Int) + 1) = ((j + 1 : Nat) : Int) := by rw [IntKind.wrap_i64]; omega
        go_wp2_with fail
        go_cut [11, 12] (fun s11 s12 wx => ∃ (p g2 c2 : Nat), s11 = .pointer (some ⟨p, 0, none⟩) ∧ s12 = .slice (some ⟨g2, 0, none⟩) (k - 1) c2 ∧ Hid (Blk wx p #[.int .i64 y0, .int .i64 y1, .int .i64 y2] ∧ Ints wx wr.heap.size (.slice (some ⟨g2, 0, none⟩) (k - 1) c2) (idx (wo (rem bs.length begin) x)) ∧ Below wr.heap.size wr wx ∧ wr.heap.size ≤ p ∧ p ≠ g2))
        case first =>
          have KP := Lib.hid (fun (W : World) (hW : Below wr.heap.size wr W) => (⟨(hW.cell (p := ⟨w.heap.size, 1, none⟩) l0).trans c1, (hW.cell (p := ⟨b, off + x * 3, none⟩) hbr).trans x0, (hW.cell (p := ⟨b, off + x * 3 + 1, none⟩) hbr).trans x1, (hW.cell (p := ⟨b, off + x * 3 + 2, none⟩) hbr).trans x2⟩ : W.cell? ⟨w.heap.size, 1, none⟩ = some (.slice (some ⟨b, off, none⟩) l c) ∧ W.cell? ⟨b, off + x * 3, none⟩ = some (.int .i64 y0) ∧ W.cell? ⟨b, off + x * 3 + 1, none⟩ = some (.int .i64 y1) ∧ W.cell? ⟨b, off + x * 3 + 2, none⟩ = some (.int .i64 y2)))
          have RL := Lib.hid (show Rd wr (.slice (some ⟨gl, 0, none⟩) k cl) (idx (rem bs.length begin)) from HRS.out.left.rd.below HB.out)
          have hrl : (idx (rem bs.length begin)).length = k := by rw [idx_len, ← KL.out]
          have hrl2 : (idx (rem bs.length begin)).length ≤ 1000000 := by rw [hrl]; omega
          have hrl3 : (idx (rem bs.length begin)).length ≤ 1048576 := by rw [hrl]; omega
          have HRL := Lib.hid hrl
          have ZS := Lib.hid (show (idx (rem bs.length begin)).take j ++ (idx (rem bs.length begin)).drop (j + 1) = idx (wo (rem bs.length begin) x) by rw [idx_take, idx_drop, WO.out])
          clear hrl
          go_region_held3 (fun W => W.cell? ⟨w.heap.size, 1, none⟩ = some (.slice (some ⟨b, off, none⟩) l c) ∧ W.cell? ⟨b, off + x * 3, none⟩ = some (.int .i64 y0) ∧ W.cell? ⟨b, off + x * 3 + 1, none⟩ = some (.int .i64 y1) ∧ W.cell? ⟨b, off + x * 3 + 2, none⟩ = some (.int .i64 y2)) (exact KP.out _ (by (repeat (first | exact Below.refl _ _ | exact D2.out | exact D3.out | (refine Below.alloc ?_ (by first | omega | (simp; try omega)) _) | apply Below.drew | (refine Below.setCell ?_ (by first | omega | (simp; try omega)) _))))) (first
            | (go_at_call 22; (with_reducible refine (cloneI gl k cl (idx (rem bs.length begin)) _ (RL.out.below (by (repeat (first | exact Below.refl _ _ | (refine Below.alloc ?_ (by first | omega | (simp; try omega)) _) | apply Below.drew)))) hrl3).mono ?_); rintro e w2 ⟨u, rfl, hI2, hb2⟩; obtain ⟨g3, c3, rfl, hg3⟩ := hI2.some3 HRL.out hkp; have D2 := Lib.hid (Below.trans (by (repeat (first | exact Below.refl _ _ | (refine Below.alloc ?_ (by first | omega | (simp; try omega)) _) | apply Below.drew))) (hb2.mono (by first | exact Nat.le_refl _ | (simp; try omega))) : Below wr.heap.size wr w2); have I2 := Lib.hid (ints_mono' (B := wr.heap.size) hI2 (by first | exact Nat.le_refl _ | (simp; try omega))); have L3 := I2.out.blk; (try (have N2 := Lib.hid ((Blk.drew (Blk.new wr #[.int .i64 0, .int .i64 0, .int .i64 0] 45)).below hb2 (by simp)); have hpg : wr.heap.size < g3 := Nat.lt_of_lt_of_le (by simp) hg3)); have s2 := D2.out.size; clear hI2 hb2; skip)
            | (go_at_call 21; (with_reducible refine (delI g3 k c3 j _ _ (idx (rem bs.length begin)) wr.heap.size _ (I2.out.below (by (repeat (first | exact Below.refl _ _ | (refine Below.alloc ?_ (by first | omega | (simp; try omega)) _) | apply Below.drew)))) HRL.out.symm hrl2 hlt rfl ?_ ?_).mono ?_); (· first | exact hw1 | exact rfl | omega); (· first | exact s2 | (simp; omega)); rintro e w3 ⟨rfl, hI3, hb3⟩; have I3 := Lib.hid (ZS.out ▸ hI3); have D3 := Lib.hid (Below.grown (by (repeat (first | exact Below.refl _ _ | exact D2.out | exact D3.out | (refine Below.alloc ?_ (by first | omega | (simp; try omega)) _) | apply Below.drew | (refine Below.setCell ?_ (by first | omega | (simp; try omega)) _))) : Below wr.heap.size wr _) hb3 (by first | exact s2 | (simp; omega)) (by intro q hq; cases hq; omega)); (first | (have N3 := Lib.hid (N2.out.kept hb3 (by intro e; injection e with e; omega)); have f0 := N3.out.fr 0; have f1 := N3.out.fr 1; have f2 := N3.out.fr 2; have d0 := N3.out.cell 0; have d1 := N3.out.cell 1; have d2 := N3.out.cell 2) | (have N3 := Lib.hid ((Blk.new w2 #[.int .i64 0, .int .i64 0, .int .i64 0] 45).kept hb3 (by intro e; injection e with e; omega)); have f0 := N3.out.fr 0; have f1 := N3.out.fr 1; have f2 := N3.out.fr 2; have d0 := N3.out.cell 0; have d1 := N3.out.cell 1; have d2 := N3.out.cell 2) | skip); have s3 := D3.out.size; clear hI3 hb3; skip)
            | fail)
          all_goals
            go_wp2_with fail
            go_meet
            first
              | exact ⟨_, _, _, rfl, rfl, Lib.hid (fin8 D3.out I3.out N3.out (Nat.le_refl _) (by omega))⟩
              | exact ⟨_, _, _, rfl, rfl, Lib.hid (fin8 D3.out I3.out N3.out (by omega) (by omega))⟩
              | exact ⟨_, _, _, rfl, rfl, Lib.hid (fin8n D3.out I3.out)⟩
        case rest =>
          obtain ⟨p, g2, c2, rfl, rfl, HQ⟩ := hcut
          clear c0 c1 x0 x1 x2 cl0
          have HD := Lib.hid HQ.out.2.2.1
          have HP := Lib.hid HQ.out.1
          have HO := Lib.hid HQ.out.2.1
          have hpr := HQ.out.2.2.2.1
          have HPG := Lib.hid HQ.out.2.2.2.2
          have XC := Lib.hid (XB.out.below HD.out XB.out.lt)
          have szC := HD.out.size
          have HBC := Lib.hid (HWr.out.trans (HD.out.mono HWr.out.size))
          clear HQ
          have p0 := HP.out.cell 0
          have p1 := HP.out.cell 1
          have p2 := HP.out.cell 2
          obtain ⟨c0, c1, l0⟩ := XC.out.two
          have plt := HP.out.lt
          go_wp2_with fail
          cases hab : atB y0 y1 (here : Int)
          case false =>
            have OK := Lib.hid (NX.out (by unfold okK; rw [show atK bs here x = false by cases h : atK bs here x; rfl; have := ATK.out.1 h; simp [atB] at hab; omega]; rfl))
            have IA := Lib.hid (fun wx => isAt y0 y1 y2 (here : Int) wx)
            rw [hab] at IA
            go_cut [57] (fun s57 wx => s57 = .bool false ∧ Hid (Below wc.heap.size wc wx))
            case first =>
              clear hab
              first | (go_region_with (first
                | (go_at_call 23; (with_reducible refine (IA.out _).mono ?_); rintro e w4 ⟨rfl, hb4⟩; have D4 := Lib.hid (Below.trans (by (repeat (first | exact Below.refl _ _ | (refine Below.alloc ?_ (by first | omega | (simp; try omega)) _) | apply Below.drew))) (hb4.mono (by first | exact Nat.le_refl _ | (simp; try omega))) : Below wc.heap.size wc w4); clear hb4; skip)
                | fail)) | fail
              all_goals
                go_wp2_with fail
                go_meet
                exact ⟨rfl, D4⟩
            case rest =>
              obtain ⟨rfl, D4⟩ := hcut
              clear c0 c1 p0 p1 p2 hab
              go_wp2
              go_roundw
              case rel => exact ⟨j + 1, by omega, by go_num, rfl, rfl, rfl, OK, Lib.hid (HB.out.trans ((HD.out.trans (D4.out.mono szC)).mono szW))⟩
              case measure => (simp [intOf]; try omega)
          case true =>
            have HAT := Lib.hid (show atK bs here x = true from ATK.out.2 (by simpa [atB] using hab))
            have AE := Lib.hid (ACR.out HAT.out)
            have AM := Lib.hid (EAT.out HAT.out).2.1
            have IA := Lib.hid (fun wx => isAt y0 y1 y2 (here : Int) wx)
            rw [hab] at IA
            have AX := Lib.hid (fun wx => across y0 y1 y2 (here : Int) wx (by omega) (by omega) (by omega))
            have WBc := Lib.hid (fun (wx : World) (h1 : Below wc.heap.size wc wx) => withBridges m (.slice (some ⟨b, off, none⟩) l c) (.slice (some ⟨g2, 0, none⟩) (k - 1) c2) bs (wo (rem bs.length begin) x) wx (H.out.below (HBC.out.trans (h1.mono HBC.out.size))) (HO.out.rd.below h1) HWL.out (by have := HWN.out; have := KL.out; omega))
            have CT := Lib.hid (fun (v2 : Value) (wx : World) (h1 : RdB wx v2 (pickB bs (wo (rem bs.length begin) x))) => comesToAll m v2 (pickB bs (wo (rem bs.length begin) x)) (acr bs here x) wx h1 (pickB_good HG.out HWL.out) hm7 (by rw [pickB_len]; have := HWN.out; have := KL.out; omega) AM.out)
            rw [AE.out] at CT
            have OKV := Lib.hid (show okK m bs (rem bs.length begin) here x = allS m (pickB bs (wo (rem bs.length begin) x)) (acr bs here x) by unfold okK; rw [HAT.out, Bool.true_and]; rfl)
            go_cut [57] (fun s57 wx => s57 = .bool (allS m (pickB bs (wo (rem bs.length begin) x)) (acr bs here x)) ∧ Hid (Below wc.heap.size wc wx))
            case first =>
              clear hab
              have KC := Lib.hid (fun (W : World) (hW : Below wc.heap.size wc W) => (⟨(hW.cell (p := ⟨w.heap.size, 0, none⟩) l0).trans c0, (hW.cell (p := ⟨w.heap.size, 1, none⟩) l0).trans c1, (hW.cell (p := ⟨p, 0, none⟩) plt).trans p0, (hW.cell (p := ⟨p, 1, none⟩) plt).trans p1, (hW.cell (p := ⟨p, 2, none⟩) plt).trans p2⟩ : W.cell? ⟨w.heap.size, 0, none⟩ = some (.int .i64 (m : Int)) ∧ W.cell? ⟨w.heap.size, 1, none⟩ = some (.slice (some ⟨b, off, none⟩) l c) ∧ W.cell? ⟨p, 0, none⟩ = some (.int .i64 y0) ∧ W.cell? ⟨p, 1, none⟩ = some (.int .i64 y1) ∧ W.cell? ⟨p, 2, none⟩ = some (.int .i64 y2)))
              go_region_held3 (fun W => W.cell? ⟨w.heap.size, 0, none⟩ = some (.int .i64 (m : Int)) ∧ W.cell? ⟨w.heap.size, 1, none⟩ = some (.slice (some ⟨b, off, none⟩) l c) ∧ W.cell? ⟨p, 0, none⟩ = some (.int .i64 y0) ∧ W.cell? ⟨p, 1, none⟩ = some (.int .i64 y1) ∧ W.cell? ⟨p, 2, none⟩ = some (.int .i64 y2)) (first | exact KC.out _ D7.out | exact KC.out _ D6.out | exact KC.out _ D5.out | exact KC.out _ D4.out | exact KC.out _ (by (repeat (first | exact Below.refl _ _ | (refine Below.alloc ?_ (by first | omega | (simp; try omega)) _) | apply Below.drew)))) (first
                | (go_at_call 23; (with_reducible refine (IA.out _).mono ?_); rintro e w4 ⟨rfl, hb4⟩; have D4 := Lib.hid (Below.trans (by (repeat (first | exact Below.refl _ _ | (refine Below.alloc ?_ (by first | omega | (simp; try omega)) _) | apply Below.drew))) (hb4.mono (by first | exact Nat.le_refl _ | (simp; try omega))) : Below wc.heap.size wc w4); have s4 := D4.out.size; clear hb4; skip)
                | (go_at_call 25; (with_reducible refine (WBc.out w4 D4.out).mono ?_); rintro e w5 ⟨u5, rfl, hI5, hb5⟩; obtain ⟨ua, uc, rfl⟩ := hI5.len; have D5 := Lib.hid (D4.out.trans (hb5.mono s4)); have I5 := Lib.hid hI5.rd; have s5 := hb5.size; clear hI5 hb5; skip)
                | (go_at_call 25; (with_reducible refine (WBc.out w6 D6.out).mono ?_); rintro e w5 ⟨u5, rfl, hI5, hb5⟩; obtain ⟨ua, uc, rfl⟩ := hI5.len; have D5 := Lib.hid (D6.out.trans (hb5.mono D6.out.size)); have I5 := Lib.hid hI5.rd; have s5 := hb5.size; clear hI5 hb5; skip)
                | (go_at_call 26; (with_reducible refine (AX.out w5).mono ?_); rintro e w6 ⟨rfl, hb6⟩; have D6 := Lib.hid (D5.out.trans (hb6.mono D5.out.size)); have I6 := Lib.hid (I5.out.below hb6); clear hb6; skip)
                | (go_at_call 26; (with_reducible refine (AX.out w4).mono ?_); rintro e w6 ⟨rfl, hb6⟩; have D6 := Lib.hid (D4.out.trans (hb6.mono D4.out.size)); clear hb6; skip)
                | (go_at_call 24; (with_reducible refine (CT.out _ w6 I6.out).mono ?_); rintro e w7 ⟨rfl, hb7⟩; have D7 := Lib.hid (D6.out.trans (hb7.mono D6.out.size)); clear hb7; skip)
                | (go_at_call 24; (with_reducible refine (CT.out _ w5 I5.out).mono ?_); rintro e w7 ⟨rfl, hb7⟩; have D7 := Lib.hid (D5.out.trans (hb7.mono D5.out.size)); clear hb7; skip)
                | fail)
              all_goals
                go_wp2_with fail
                go_meet
                exact ⟨rfl, D7⟩
            case rest =>
              obtain ⟨rfl, D7⟩ := hcut
              clear c0 c1 p0 p1 p2 hab IA WBc CT
              cases hok : allS m (pickB bs (wo (rem bs.length begin) x)) (acr bs here x)
              case false =>
                have OK := Lib.hid (NX.out (OKV.out.trans hok))
                clear hok
                go_wp2
                go_roundw
                case rel => exact ⟨j + 1, by omega, by go_num, rfl, rfl, rfl, OK, Lib.hid (HB.out.trans ((HD.out.trans (D7.out.mono szC)).mono szW))⟩
                case measure => (simp [intOf]; try omega)
              case true =>
                have FND := Lib.hid (FA.out (OKV.out.trans hok))
                clear hok
                have OWN := Lib.hid (fun q (hq : rv.ownBlock = some q) => (World.ownsRow.lt HRS.out.ints q hq))
                have D8 := Lib.hid (HD.out.trans (D7.out.mono szC))
                have szV := D8.out.size
                have HR9 := Lib.hid ((HRS.out.ints.below HB.out).below D8.out)
                have HO9 := Lib.hid (HO.out.below D7.out)
                have HP9 := Lib.hid (HP.out.below D7.out HP.out.lt)
                have HX9 := Lib.hid (XC.out.below D7.out XC.out.lt)
                have HB9 := Lib.hid (HBC.out.trans (D7.out.mono HBC.out.size))
                have RM := Lib.hid (rem_snoc bs.length begin x)
                have CNT := Lib.hid HRS.out.cnt
                have TRF := Lib.hid ((trF_go hkp FND.out).symm.trans HRS.out.res)
                have hbl : (idx begin).length ≤ 1000 := by rw [idx_len]; have := CNT.out; omega
                have hbn : (idx begin).length + 1 = begin.length + 1 := by rw [idx_len]
                have hsV : w.heap.size + 1 ≤ wc.heap.size := by have := HX9.out.lt; omega
                have og := HO9.out.blk
                have p0 := HP9.out.cell 0
                have p1 := HP9.out.cell 1
                have p2 := HP9.out.cell 2
                have plt9 := HP9.out.lt
                clear HRS HLC KL HXM FA NX ATK XB EAT HWL HWN OKV
                have KE := Lib.hid (fun (W : World) (hW : Blk W p #[.int .i64 y0, .int .i64 y1, .int .i64 y2]) => (⟨hW.cell 0, hW.cell 1, hW.cell 2⟩ : W.cell? ⟨p, 0, none⟩ = some (.int .i64 y0) ∧ W.cell? ⟨p, 1, none⟩ = some (.int .i64 y1) ∧ W.cell? ⟨p, 2, none⟩ = some (.int .i64 y2)))
                go_wp2_with fail
                go_region_held3 (fun W => W.cell? ⟨p, 0, none⟩ = some (.int .i64 y0) ∧ W.cell? ⟨p, 1, none⟩ = some (.int .i64 y1) ∧ W.cell? ⟨p, 2, none⟩ = some (.int .i64 y2)) (first | exact KE.out _ P6b.out | exact KE.out _ P5.out | exact KE.out _ (P6.out.alloc _) | exact KE.out _ P6.out | exact KE.out _ (HP9.out.alloc _).drew | exact KE.out _ HP9.out.drew | exact KE.out _ HP9.out) (first
                  | (go_at_call 26; (with_reducible refine (AX.out w5).mono ?_); rintro e w6 ⟨rfl, hb6⟩; have P6b := Lib.hid (P5.out.below hb6 P5.out.lt); have I6b := Lib.hid (I5.out.below hb6); have O6b := Lib.hid (O5.out.below hb6); have X6b := Lib.hid (X5.out.below hb6 X5.out.lt); have B6b := Lib.hid (B5.out.trans (hb6.mono B5.out.size)); clear hb6; skip)
                  | (go_at_call 26; (with_reducible refine (AX.out _).mono ?_); rintro e w6 ⟨rfl, hb6⟩; have D6 := Lib.hid (Below.trans (by (repeat (first | exact Below.refl _ _ | (refine Below.alloc ?_ (by first | omega | (simp; try omega)) _) | apply Below.drew))) (hb6.mono (by first | exact Nat.le_refl _ | (simp; try omega))) : Below wc.heap.size wc w6); have P6 := Lib.hid (HP9.out.below D6.out plt9); have I6 := Lib.hid (HR9.out.below D6.out); have O6 := Lib.hid (HO9.out.below D6.out); have X6 := Lib.hid (HX9.out.below D6.out HX9.out.lt); have B6 := Lib.hid (HB9.out.trans (D6.out.mono HB9.out.size)); have s6 := D6.out.size; (try (have N6 := Lib.hid ((Blk.drew (Blk.new wc #[.int .i64 x] 3)).below hb6 (by simp)))); clear hb6; skip)
                  | (refine step_appG rfl (.tmp 58) (.tmp 60) rfl (w.heap.size + 1) rv (idx begin) ?_ I6.out wc.heap.size (x : Int) ?_ (N6.out.cell 0) hbl (Nat.le_trans hsV s6) (begin.length + 1) hbn (idx (begin ++ [x])) (idx_snocR begin x) ?_; (· simp [Act.eval]); (· simp [Act.eval]); intro g5 c5 w5 hI5 hb5 hg5 hl5; have I5 := Lib.hid hI5; have O5 := Lib.hid (O6.out.kept hg5 (.inr (fun e => by have := OWN.out g2 e.symm; omega))); have X5 := Lib.hid (X6.out.below hb5 (Nat.lt_succ_self _)); have P5 := Lib.hid (P6.out.kept hg5 (fun e => by have := OWN.out p e.symm; omega)); have B5 := Lib.hid (B6.out.trans (hb5.mono (Nat.le_succ _))); have G5 : g5 ≠ g2 := (by rcases hl5 with h | h; (· have := OWN.out g5 h; omega); (· omega)); clear hI5 hb5 hg5 hl5; skip)
                  | (refine step_appG rfl (.tmp 58) (.tmp 60) rfl (w.heap.size + 1) rv (idx begin) ?_ (I6.out.below ((Below.refl _ _).alloc (Nat.le_refl _) _)) w6.heap.size (x : Int) ?_ ((Blk.new w6 #[.int .i64 x] 3).cell 0) hbl (Nat.le_trans hsV (by simp; omega)) (begin.length + 1) hbn (idx (begin ++ [x])) (idx_snocR begin x) ?_; (· simp [Act.eval]); (· simp [Act.eval]); intro g5 c5 w5 hI5 hb5 hg5 hl5; have I5 := Lib.hid hI5; have O5 := Lib.hid ((O6.out.below ((Below.refl _ _).alloc (Nat.le_refl _) _)).kept hg5 (.inr (fun e => by have := OWN.out g2 e.symm; omega))); have X5 := Lib.hid ((X6.out.alloc _).below hb5 (Nat.lt_succ_self _)); have P5 := Lib.hid ((P6.out.alloc _).kept hg5 (fun e => by have := OWN.out p e.symm; omega)); have B5 := Lib.hid ((B6.out.alloc B6.out.size _).trans (hb5.mono (Nat.le_succ _))); have G5 : g5 ≠ g2 := (by rcases hl5 with h | h; (· have := OWN.out g5 h; omega); (· simp at h; omega)); clear hI5 hb5 hg5 hl5; skip)
                  | (refine step_appG rfl (.tmp 58) (.tmp 60) rfl (w.heap.size + 1) rv (idx begin) ?_ (HR9.out.below (by (repeat (first | exact Below.refl _ _ | (refine Below.alloc ?_ (by first | omega | (simp; try omega)) _) | apply Below.drew)))) wc.heap.size (x : Int) ?_ ((Blk.drew (Blk.new wc #[.int .i64 x] 3)).cell 0) hbl (Nat.le_trans hsV (by simp)) (begin.length + 1) hbn (idx (begin ++ [x])) (idx_snocR begin x) ?_; (· simp [Act.eval]); (· simp [Act.eval]); intro g5 c5 w5 hI5 hb5 hg5 hl5; have I5 := Lib.hid hI5; have O5 := Lib.hid ((HO9.out.below (by (repeat (first | exact Below.refl _ _ | (refine Below.alloc ?_ (by first | omega | (simp; try omega)) _) | apply Below.drew)))).kept hg5 (.inr (fun e => by have := OWN.out g2 e.symm; omega))); have X5 := Lib.hid ((HX9.out.alloc _).drew.below hb5 (Nat.lt_succ_self _)); have P5 := Lib.hid ((HP9.out.alloc _).drew.kept hg5 (fun e => by have := OWN.out p e.symm; omega)); have B5 := Lib.hid ((HB9.out.alloc HB9.out.size _).drew.trans (hb5.mono (Nat.le_succ _))); have G5 : g5 ≠ g2 := (by rcases hl5 with h | h; (· have := OWN.out g5 h; omega); (· simp at h; omega)); clear hI5 hb5 hg5 hl5; skip)
                  | fail)
                all_goals
                  go_wp2_with fail
                  have RSN := Lib.hid (show RSt m bs w w6 (some ⟨b, off, none⟩) l c Z (.slice (some ⟨g5, 0, none⟩) (begin.length + 1) c5) g2 c2 (k - 1) (acr bs here x) (begin ++ [x]) from ⟨I6b.out, by rw [RM.out]; exact ints_mono' O6b.out (by omega), by simp [Value.ownBlock]; exact G5, X6b.out, B6b.out, AM.out, by have := CNT.out; simp at this ⊢; omega, TRF.out⟩)
                  rw [← AE.out]
                  go_step3
                  exact ⟨k - 1, by omega, rfl, u3, _, g2, c2, acr bs here x, begin ++ [x], _, _, _, _, _, _, _, _, _, _, _, _, _, _, _, _, _, _, _, _, _, _, _, _, _, _, _, _, _, _, _, _, _, _, _, _, _, _, _, _, _, _, _, _, _, _, _, _, _, _, _, _, _, _, _, _, _, _, _, rfl, RSN.out⟩
      · obtain rfl : j = k := by omega
        have RES := Lib.hid (show Z = begin from HRS.out.res.symm.trans (trF_stop (find_no (fun q hq => HN.out q (by have := KL.out; omega))) ))
        have HIF := Lib.hid (ints_mono' (B := w.heap.size) (HRS.out.ints.below HB.out) (by omega))
        have HBF := Lib.hid (HRS.out.bel.trans (HB.out.mono HRS.out.bel.size))
        go_wp2
        simp only [byLab]
        go_ret2
        exact ⟨_, rfl, by rw [RES.out]; exact HIF.out, HBF.out⟩
end Go.Proofs.Ytihdhgkknfohaad
