/- FirstRound: spec (isRound). -/
import Derived.Test.YtihdhgkknfohaadIsr
import Derived.Test.YtihdhgkknfohaadIep
import Derived.Test.YtihdhgkknfohaadIwq
import Derived.Test.YtihdhgkknfohaadCat
import Derived.Test.YtihdhgkknfohaadHas
import Derived.Deep.RegionHeld3
namespace Go.Proofs.Ytihdhgkknfohaad
set_option linter.unusedVariables false
open Go.RowKit

/-- what isRound leaves behind; bb: no bridge was left -/
def RndS (bb : Prop) (r : Option (List Nat)) (w : World) (e : Ending) (w' : World) : Prop :=
  ∃ u, e = .returned (.tuple #[u, .bool r.isSome]) ∧ (∀ z, r = some z → Ints w' w.heap.size u (idx z)) ∧ (r = none → ¬ bb → u = .slice none 0 0) ∧ Below w.heap.size w w'
theorem rndS_some {bb : Prop} {z : List Nat} {w w' : World} {e : Ending} {u : Value} (he : e = .returned (.tuple #[u, .bool true])) (hI : Ints w' w.heap.size u (idx z)) (hB : Below w.heap.size w w') : RndS bb (some z) w e w' := ⟨u, he, (fun z' h => by cases h; exact hI), (fun h => by cases h), hB⟩
theorem rndS_none {bb : Prop} {w w' : World} {e : Ending} {u : Value} (he : e = .returned (.tuple #[u, .bool false])) (hu : ¬ bb → u = .slice none 0 0) (hB : Below w.heap.size w w') : RndS bb none w e w' := ⟨u, he, (fun z' h => by cases h), fun _ => hu, hB⟩
theorem rndS_none' {bb : Prop} {w w' : World} {e : Ending} (h : RndS bb none w e w') : ∃ u, e = .returned (.tuple #[u, .bool false]) ∧ Below w.heap.size w w' := by
  obtain ⟨u, h1, _, _, h3⟩ := h; exact ⟨u, h1, h3⟩
theorem rndS_some' {bb : Prop} {z : List Nat} {w w' : World} {e : Ending} (h : RndS bb (some z) w e w') : ∃ u, e = .returned (.tuple #[u, .bool true]) ∧ Ints w' w.heap.size u (idx z) ∧ Below w.heap.size w w' := by
  obtain ⟨u, h1, h2, _, h3⟩ := h; exact ⟨u, h1, h2 z rfl, h3⟩
theorem Ints.sl {w : World} {B : Nat} {v : Value} {zs : List Int} (h : Ints w B v zs) : ∃ a c, v = .slice a zs.length c := by
  rcases h.2 with ⟨rfl, h0⟩ | ⟨g, cap, cur, rfl, _⟩
  · exact ⟨none, 0, by rw [h0]⟩
  · exact ⟨_, _, rfl⟩
theorem Ints.slN {w : World} {B n : Nat} {v : Value} {zs : List Int} (h : Ints w B v zs) (hn : zs.length = n) : ∃ a c, v = .slice a n c := by subst hn; exact h.sl
theorem idx_snocR (l : List Nat) (x : Nat) : idx l ++ [(x : Int)] = idx (l ++ [x]) := by simp [idx]
theorem kp4 {W : World} {s g : Nat} {p q x y z : Value} (h : Blk W s #[p, q]) (h2 : Blk W g #[x, y, z]) : W.cell? ⟨s, 0, none⟩ = some p ∧ W.cell? ⟨s, 1, none⟩ = some q ∧ W.cell? ⟨g, 0, none⟩ = some x ∧ W.cell? ⟨g, 1, none⟩ = some y := ⟨h.cell 0, h.cell 1, h2.cell 0, h2.cell 1⟩
/-- one step of the search -/
def fE (bs : List Br) (a : Nat) (begin : List Nat) (R : Nat → Option (List Nat)) (k : Nat) : Option (List Nat) := if atK bs a k = true ∧ k ∉ begin then R k else none
theorem scanE_skip {F : Nat → Option (List Nat)} {k l : Nat} (hk : k < l) (h : F k = none) : scanE F k (l - k) = scanE F (k + 1) (l - (k + 1)) := by
  rw [show l - k = (l - (k + 1)) + 1 from by omega, scanE_no h]
theorem scanE_hit {F : Nat → Option (List Nat)} {k l : Nat} {r : List Nat} (hk : k < l) (h : F k = some r) : scanE F k (l - k) = some r := by
  rw [show l - k = (l - (k + 1)) + 1 from by omega, scanE_at h]
theorem atK_at {bs : List Br} {m a k : Nat} (hg : Good m bs) (hk : k < bs.length) : atK bs a k = true ↔ (gb bs k).1 = (a : Int) ∨ (gb bs k).2.1 = (a : Int) := by
  have := hg.at hk
  rw [atK_iff]; unfold eA eB; omega
theorem acr_at {bs : List Br} {m a k : Nat} (hg : Good m bs) (hk : k < bs.length) (ha : atK bs a k = true) : ((acr bs a k : Nat) : Int) = (gb bs k).1 + (gb bs k).2.1 - (a : Int) := by
  have h := hg.at hk
  have := (atK_at hg hk).1 ha
  unfold acr eA eB; omega
set_option maxRecDepth 100000 in
set_option maxHeartbeats 8000000 in
theorem isRoundStep (m : Nat) (v : Value) (bs : List Br) (home : Nat) (hg : Good m bs) (hm : m ≤ 7) (hl : bs.length ≤ 14)
    (begin : List Nat) (a : Nat) (vb : Value) (w : World) (h : RdB w v bs) (hn : begin.length ≤ bs.length) (ha : a < m) (hh : home < m) (hI : Rd w vb (idx begin)) (hnil : ∀ c, vb = .slice none 0 c → c = 0)
    (R : Nat → Option (List Nat)) (res : Option (List Nat)) (hend : begin.length = bs.length → a = home → res = some begin) (hend2 : begin.length = bs.length → ¬ a = home → res = none) (hres : ¬ begin.length = bs.length → res = scanE (fE bs a begin R) 0 bs.length)
    (REC : ∀ k, k < bs.length → k ∉ begin → atK bs a k = true → ∀ (g c : Nat) (w1 : World), Below w.heap.size w w1 → Rd w1 (.slice (some ⟨g, 0, none⟩) (begin.length + 1) c) (idx (begin ++ [k])) → Calls Try.prog 16 #[.agg #[.int .i64 m, v], .slice (some ⟨g, 0, none⟩) (begin.length + 1) c, .int .i64 ((acr bs a k : Nat) : Int), .int .i64 (home : Int)] w1 (RndS (begin.length + 1 = bs.length) (R k) w1)) :
    Calls Try.prog 16 #[.agg #[.int .i64 m, v], vb, .int .i64 (a : Int), .int .i64 (home : Int)] w (RndS (begin.length = bs.length) res w) := by
  have RC := Lib.hid REC
  have HV := Lib.hid h
  obtain ⟨va, l, c, rfl, hnz, _, _, hvc⟩ := h
  have HG := Lib.hid hg
  have HVC := Lib.hid hvc
  have HVN := Lib.hid hnz
  rw [← hnz] at hl hn hend hend2 hres
  clear hg REC hvc hnz
  have HI := Lib.hid hI
  have HNIL := Lib.hid hnil
  obtain ⟨ba, n, cap, rfl, hnl, _⟩ := hI.cells
  rw [idx_len] at hnl
  have HNL := Lib.hid hnl
  rw [← hnl] at hn hend hend2 hres
  clear hI hnil hnl
  have BX := Lib.hid (Blk.new w #[.int .i64 m, .slice va l c] 31)
  have BW := Lib.hid ((Below.refl w.heap.size w).alloc (Nat.le_refl _) (.cells #[.int .i64 m, .slice va l c] 31))
  by_cases hc : n = l
  · have RE1 := Lib.hid (hend hc)
    have RE2 := Lib.hid (hend2 hc)
    clear hend hend2 hres
    have hci : ((n : Int) == (l : Int)) = true := by subst hc; simp
    have hcI : (n : Int) = l := by omega
    have HC := Lib.hid hc
    clear hc
    by_cases hz : a = home
    · have RX := Lib.hid (RE1.out hz)
      have hE : ((a : Int) == (home : Int)) = true := by subst hz; simp
      clear RE1 RE2
      have HZ := Lib.hid hz
      clear hz
      go_enter Try.func16, Try.ntmps16
      go_wp2_with fail
      refine (l1Own _ (idx begin) _ (HI.out.below (by (repeat (first | exact Below.refl _ _ | (refine Below.alloc ?_ (by first | omega | (simp; try omega)) _) | apply Below.drew | apply below_drewN)))) HNIL.out (by rw [idx_len]; have := HNL.out; omega)).mono ?_
      rintro e w1 ⟨u, rfl, hI1, hb1⟩
      have I1 := Lib.hid (ints_mono' (B := w.heap.size) hI1 (by simp))
      have B1 := Lib.hid (Below.trans (by (repeat (first | exact Below.refl _ _ | (refine Below.alloc ?_ (by first | omega | (simp; try omega)) _) | apply Below.drew | apply below_drewN))) (hb1.mono (by simp; try omega)) : Below w.heap.size w w1)
      clear hI1 hb1
      go_wp2
      go_ret2
      rw [RX.out]
      exact rndS_some rfl I1.out B1.out
    · have RX := Lib.hid (RE2.out hz)
      have hE : ((a : Int) == (home : Int)) = false := by
        have : ¬ (a : Int) = home := by omega
        simpa using this
      clear RE1 RE2
      have HZ := Lib.hid hz
      clear hz
      go_enter Try.func16, Try.ntmps16
      go_wp2_with fail
      refine (l1Own _ (idx begin) _ (HI.out.below (by (repeat (first | exact Below.refl _ _ | (refine Below.alloc ?_ (by first | omega | (simp; try omega)) _) | apply Below.drew | apply below_drewN)))) HNIL.out (by rw [idx_len]; have := HNL.out; omega)).mono ?_
      rintro e w1 ⟨u, rfl, hI1, hb1⟩
      have B1 := Lib.hid (Below.trans (by (repeat (first | exact Below.refl _ _ | (refine Below.alloc ?_ (by first | omega | (simp; try omega)) _) | apply Below.drew | apply below_drewN))) (hb1.mono (by simp; try omega)) : Below w.heap.size w w1)
      clear hI1 hb1
      go_wp2
      go_ret2
      rw [RX.out]
      exact rndS_none rfl (fun h => absurd (by have := HC.out; have := HNL.out; have := HVN.out; omega) h) B1.out
  have RS := Lib.hid (hres hc)
  clear hend hend2 hres
  have hci : ((n : Int) == (l : Int)) = false := by
    have : ¬ (n : Int) = l := by omega
    simpa using this
  have hcI : ¬ (n : Int) = l := by omega
  have HC := Lib.hid hc
  clear hc
  go_enter Try.func16, Try.ntmps16
  go_wp2_with fail
  go_loopw [28] (fun q wr => ∃ k : Nat, k ≤ l ∧ q = .int .i64 k ∧ Hid (res = scanE (fE bs a begin R) k (l - k)) ∧ Hid (Below w.heap.size w wr) ∧ Hid (Blk wr w.heap.size #[.int .i64 m, .slice va l c])) (fun q _ => l - (intOf q).toNat)
  case atStart => exact ⟨0, Nat.zero_le _, rfl, RS, BW, BX⟩
  case round =>
    obtain ⟨k, hk, rfl, HS, HBr, HX⟩ := hrel
    have hsz := HBr.out.size
    obtain ⟨c0, c1, l0⟩ := HX.out.two
    by_cases hlt : k < l
    · obtain ⟨b, off, rfl, hbw, hcc⟩ := HVC.out k hlt
      obtain ⟨x0, x1, x2⟩ := hcc.below hbw HBr.out
      have hlt' : (k : Int) < l := by omega
      have hkb : k < bs.length := by have := HVN.out; omega
      have hv := HG.out.at hkb
      have AT := Lib.hid (atK_at (a := a) HG.out hkb)
      have AC := Lib.hid (fun h => acr_at (a := a) HG.out hkb h)
      have SK := Lib.hid (fun (hf : fE bs a begin R k = none) => HS.out.trans (scanE_skip hlt hf))
      have SH := Lib.hid (fun r (hf : fE bs a begin R k = some r) => HS.out.trans (scanE_hit hlt hf))
      have FN := Lib.hid (show ¬ (atK bs a k = true ∧ k ∉ begin) → fE bs a begin R k = none from fun h => if_neg h)
      have FG := Lib.hid (show (atK bs a k = true ∧ k ∉ begin) → fE bs a begin R k = R k from fun h => if_pos h)
      have RCk := Lib.hid (RC.out k hkb)
      clear HS RC hcc hkb
      generalize gb bs k = q at *
      obtain ⟨x, y, z⟩ := q
      simp only at hv AT AC x0 x1 x2
      by_cases hat : x = (a : Int) ∨ y = (a : Int)
      case neg =>
        have RX := Lib.hid (SK.out (FN.out (fun h => hat (AT.out.1 h.1))))
        have e1 : (x != (a : Int)) = true := by simp; exact fun e => hat (.inl e)
        have e2 : (y != (a : Int)) = true := by simp; exact fun e => hat (.inr e)
        have hx1 : ¬ x = (a : Int) := fun e => hat (.inl e)
        have hx2 : ¬ y = (a : Int) := fun e => hat (.inr e)
        clear SK SH FN FG RCk hat AT AC
        go_wp2
        go_roundw
        case rel => exact ⟨k + 1, by omega, by go_num, RX, Lib.hid (HBr.out.trans (by (repeat (first | exact Below.refl _ _ | (refine Below.alloc ?_ (by first | omega | (simp; try omega)) _) | apply Below.drew | apply below_drewN)))), Lib.hid (HX.out.below (B := wr.heap.size) (by (repeat (first | exact Below.refl _ _ | (refine Below.alloc ?_ (by first | omega | (simp; try omega)) _) | apply Below.drew | apply below_drewN))) l0)⟩
        case measure => (simp [intOf]; try omega)
      case pos =>
        have HK := Lib.hid (AT.out.2 hat)
        by_cases hxa : x = (a : Int)
        · have e1 : (x != (a : Int)) = false := by simpa using hxa
          have HXA := Lib.hid hxa
          clear hxa hat AT
          skip
          go_wp2_with fail
          have XW := Lib.hid (HX.out.alloc (.cells #[.int .i64 x, .int .i64 y, .int .i64 z] 45))
          have YW := Lib.hid (Blk.new wr #[.int .i64 x, .int .i64 y, .int .i64 z] 45)
          have BWW := Lib.hid (HBr.out.alloc hsz (.cells #[.int .i64 x, .int .i64 y, .int .i64 z] 45))
          generalize (wr.alloc (.cells #[.int .i64 x, .int .i64 y, .int .i64 z] 45)) = W at *
          have hszW := BWW.out.size
          refine (l1Has _ begin k _ (HI.out.below BWW.out) (by have := HNL.out; omega)).mono ?_
          rintro e w' ⟨rfl, rfl⟩
          obtain ⟨d0, d1, ll0⟩ := XW.out.two
          have y0 := YW.out.cell 0
          have y1 := YW.out.cell 1
          cases hk2 : begin.contains k
          case true =>
            have RX := Lib.hid (SK.out (FN.out (fun h => h.2 (List.contains_iff_mem.1 hk2))))
            clear SK SH FN FG RCk hk2
            go_wp2
            go_roundw
            case rel => exact ⟨k + 1, by omega, by go_num, RX, BWW, XW⟩
            case measure => (simp [intOf]; try omega)
          have hnot : k ∉ begin := fun hm => by rw [List.contains_iff_mem.2 hm] at hk2; cases hk2
          have FK := Lib.hid (FG.out ⟨HK.out, hnot⟩)
          have hwr1 : IntKind.i64.wrap (x + y) = x + y := by rw [IntKind.wrap_i64]; omega
          have hwr2 : IntKind.i64.wrap (x + y - (a : Int)) = x + y - (a : Int) := by rw [IntKind.wrap_i64]; omega
          have hil : (idx begin).length ≤ 1048576 := by rw [idx_len]; have := HNL.out; omega
          have hil2 : (idx begin).length ≤ 1000 := by rw [idx_len]; have := HNL.out; omega
          have hnn : (idx begin).length = n := by rw [idx_len, HNL.out]
          have R0 := RCk.out hnot HK.out
          rw [AC.out HK.out, ← HNL.out] at R0
          clear RCk
          have RCk := R0
          clear R0 hk2 FG FN
          cases hR : R k with
          | none =>
            have RX := Lib.hid (SK.out (FK.out.trans hR))
            rw [hR] at RCk
            replace RCk := Lib.hid RCk
            clear hR FK SK SH
            go_wp2_with fail
            have V1 := Lib.hid XW.out.drew
            have U1 := Lib.hid YW.out.drew
            have NB := Lib.hid (Blk.new W #[.int .i64 k] 3).drew
            have hdA : Below W.heap.size W (W.alloc (.cells #[.int .i64 k] 3)).drew := by (repeat (first | exact Below.refl _ _ | (refine Below.alloc ?_ (by first | omega | (simp; try omega)) _) | apply Below.drew | apply below_drewN))
            have BA := Lib.hid (BWW.out.trans (hdA.mono hszW))
            have BD := Lib.hid BWW.out.drew
            have XA := Lib.hid (XW.out.below hdA XW.out.lt)
            have YA := Lib.hid (YW.out.below hdA YW.out.lt)
            clear hdA
            go_region_held3 (fun w' => w'.cell? ⟨w.heap.size, 0, none⟩ = some (.int .i64 (m : Int)) ∧ w'.cell? ⟨w.heap.size, 1, none⟩ = some (.slice (some ⟨b, off, none⟩) l c) ∧ w'.cell? ⟨wr.heap.size, 0, none⟩ = some (.int .i64 x) ∧ w'.cell? ⟨wr.heap.size, 1, none⟩ = some (.int .i64 y)) (first | exact kp4 V1.out U1.out | exact kp4 XA.out YA.out | exact kp4 X2.out Y2.out | exact kp4 (X2.out.alloc _) (Y2.out.alloc _) | exact kp4 X3.out Y3.out | exact kp4 X4.out Y4.out) (first
              | (go_at_call 32; (with_reducible refine (l1Own _ (idx begin) W.drew (HI.out.below BD.out) HNIL.out hil).mono ?_); rintro e w2 ⟨u, rfl, hI2, hb2⟩; obtain ⟨a2, c2, rfl⟩ := hI2.slN (n := n) hnn; have B2 := Lib.hid (BD.out.trans (hb2.mono BD.out.size)); have X2 := Lib.hid (V1.out.below hb2 V1.out.lt); have Y2 := Lib.hid (U1.out.below hb2 U1.out.lt); have I2 := Lib.hid hI2; have S2 := Lib.hid (show W.heap.size ≤ w2.heap.size from hb2.size); clear hI2 hb2; skip)
              | (go_at_call 32; (with_reducible refine (l1Own _ (idx begin) (W.alloc (.cells #[.int .i64 k] 3)).drew (HI.out.below BA.out) HNIL.out hil).mono ?_); rintro e w2 ⟨u, rfl, hI2, hb2⟩; obtain ⟨a2, c2, rfl⟩ := hI2.slN (n := n) hnn; have B2 := Lib.hid (BA.out.trans (hb2.mono BA.out.size)); have X2 := Lib.hid (XA.out.below hb2 XA.out.lt); have Y2 := Lib.hid (YA.out.below hb2 YA.out.lt); have N2 := Lib.hid (NB.out.below hb2 NB.out.lt); have S2 := Lib.hid hb2.size; have I2 := Lib.hid hI2; clear hI2 hb2; skip)
              | (refine step_appI rfl (.tmp 51) (.tmp 53) rfl (W.alloc (.cells #[.int .i64 k] 3)).drew.heap.size (.slice a2 n c2) (idx begin) ?_ I2.out W.heap.size (k : Int) ?_ (N2.out.cell 0) hil2 S2.out (n + 1) ?_ (idx (begin ++ [k])) (idx_snocR begin k) ?_; (· simp [Act.eval]); (· simp [Act.eval]); (· (rw [hnn])); intro g3 cap3 w3 hI3 hb3; have B3 := Lib.hid (B2.out.trans (hb3.mono BA.out.size)); have I3 := Lib.hid hI3.rd; have X3 := Lib.hid (X2.out.below hb3 XA.out.lt); have Y3 := Lib.hid (Y2.out.below hb3 YA.out.lt); clear hI3 hb3; skip)
              | (refine step_appI rfl (.tmp 51) (.tmp 53) rfl W.heap.size (.slice a2 n c2) (idx begin) ?_ (I2.out.below ((Below.refl _ _).alloc (Nat.le_refl _) _)) w2.heap.size (k : Int) ?_ ((Blk.new w2 #[.int .i64 k] 3).cell 0) hil2 ?_ (n + 1) ?_ (idx (begin ++ [k])) (idx_snocR begin k) ?_; (· simp [Act.eval]); (· simp [Act.eval]); (· exact Nat.le_trans S2.out (by simp)); (· (rw [hnn])); intro g3 cap3 w3 hI3 hb3; have B3 := Lib.hid ((B2.out.alloc B2.out.size _).trans (hb3.mono hszW)); have I3 := Lib.hid hI3.rd; have X3 := Lib.hid ((X2.out.alloc _).below hb3 XW.out.lt); have Y3 := Lib.hid ((Y2.out.alloc _).below hb3 YW.out.lt); clear hI3 hb3; skip)
              | (go_at_call 16; (with_reducible refine (RCk.out _ _ w3 B3.out I3.out).mono ?_); rintro e w4 hW; obtain ⟨u4, rfl, hb4⟩ := rndS_none' hW; clear hW; have X4 := Lib.hid (X3.out.below hb4 X3.out.lt); have Y4 := Lib.hid (Y3.out.below hb4 Y3.out.lt); have B4 := Lib.hid (B3.out.trans (hb4.mono B3.out.size)); clear hb4; skip)
              | fail)
            all_goals
              go_wp2
              go_roundw
              case rel => exact ⟨k + 1, by omega, by go_num, RX, B4, X4⟩
              case measure => (simp [intOf]; try omega)
          | some zz =>
            have RX := Lib.hid (SH.out zz (FK.out.trans hR))
            rw [hR] at RCk
            replace RCk := Lib.hid RCk
            clear hR FK SK SH
            go_wp2_with fail
            have V1 := Lib.hid XW.out.drew
            have U1 := Lib.hid YW.out.drew
            have NB := Lib.hid (Blk.new W #[.int .i64 k] 3).drew
            have hdA : Below W.heap.size W (W.alloc (.cells #[.int .i64 k] 3)).drew := by (repeat (first | exact Below.refl _ _ | (refine Below.alloc ?_ (by first | omega | (simp; try omega)) _) | apply Below.drew | apply below_drewN))
            have BA := Lib.hid (BWW.out.trans (hdA.mono hszW))
            have BD := Lib.hid BWW.out.drew
            have XA := Lib.hid (XW.out.below hdA XW.out.lt)
            have YA := Lib.hid (YW.out.below hdA YW.out.lt)
            clear hdA
            go_region_held3 (fun w' => w'.cell? ⟨w.heap.size, 0, none⟩ = some (.int .i64 (m : Int)) ∧ w'.cell? ⟨w.heap.size, 1, none⟩ = some (.slice (some ⟨b, off, none⟩) l c) ∧ w'.cell? ⟨wr.heap.size, 0, none⟩ = some (.int .i64 x) ∧ w'.cell? ⟨wr.heap.size, 1, none⟩ = some (.int .i64 y)) (first | exact kp4 V1.out U1.out | exact kp4 XA.out YA.out | exact kp4 X2.out Y2.out | exact kp4 (X2.out.alloc _) (Y2.out.alloc _) | exact kp4 X3.out Y3.out | exact kp4 X4.out Y4.out) (first
              | (go_at_call 32; (with_reducible refine (l1Own _ (idx begin) W.drew (HI.out.below BD.out) HNIL.out hil).mono ?_); rintro e w2 ⟨u, rfl, hI2, hb2⟩; obtain ⟨a2, c2, rfl⟩ := hI2.slN (n := n) hnn; have B2 := Lib.hid (BD.out.trans (hb2.mono BD.out.size)); have X2 := Lib.hid (V1.out.below hb2 V1.out.lt); have Y2 := Lib.hid (U1.out.below hb2 U1.out.lt); have I2 := Lib.hid hI2; have S2 := Lib.hid (show W.heap.size ≤ w2.heap.size from hb2.size); clear hI2 hb2; skip)
              | (go_at_call 32; (with_reducible refine (l1Own _ (idx begin) (W.alloc (.cells #[.int .i64 k] 3)).drew (HI.out.below BA.out) HNIL.out hil).mono ?_); rintro e w2 ⟨u, rfl, hI2, hb2⟩; obtain ⟨a2, c2, rfl⟩ := hI2.slN (n := n) hnn; have B2 := Lib.hid (BA.out.trans (hb2.mono BA.out.size)); have X2 := Lib.hid (XA.out.below hb2 XA.out.lt); have Y2 := Lib.hid (YA.out.below hb2 YA.out.lt); have N2 := Lib.hid (NB.out.below hb2 NB.out.lt); have S2 := Lib.hid hb2.size; have I2 := Lib.hid hI2; clear hI2 hb2; skip)
              | (refine step_appI rfl (.tmp 51) (.tmp 53) rfl (W.alloc (.cells #[.int .i64 k] 3)).drew.heap.size (.slice a2 n c2) (idx begin) ?_ I2.out W.heap.size (k : Int) ?_ (N2.out.cell 0) hil2 S2.out (n + 1) ?_ (idx (begin ++ [k])) (idx_snocR begin k) ?_; (· simp [Act.eval]); (· simp [Act.eval]); (· (rw [hnn])); intro g3 cap3 w3 hI3 hb3; have B3 := Lib.hid (B2.out.trans (hb3.mono BA.out.size)); have I3 := Lib.hid hI3.rd; have X3 := Lib.hid (X2.out.below hb3 XA.out.lt); have Y3 := Lib.hid (Y2.out.below hb3 YA.out.lt); clear hI3 hb3; skip)
              | (refine step_appI rfl (.tmp 51) (.tmp 53) rfl W.heap.size (.slice a2 n c2) (idx begin) ?_ (I2.out.below ((Below.refl _ _).alloc (Nat.le_refl _) _)) w2.heap.size (k : Int) ?_ ((Blk.new w2 #[.int .i64 k] 3).cell 0) hil2 ?_ (n + 1) ?_ (idx (begin ++ [k])) (idx_snocR begin k) ?_; (· simp [Act.eval]); (· simp [Act.eval]); (· exact Nat.le_trans S2.out (by simp)); (· (rw [hnn])); intro g3 cap3 w3 hI3 hb3; have B3 := Lib.hid ((B2.out.alloc B2.out.size _).trans (hb3.mono hszW)); have I3 := Lib.hid hI3.rd; have X3 := Lib.hid ((X2.out.alloc _).below hb3 XW.out.lt); have Y3 := Lib.hid ((Y2.out.alloc _).below hb3 YW.out.lt); clear hI3 hb3; skip)
              | (go_at_call 16; (with_reducible refine (RCk.out _ _ w3 B3.out I3.out).mono ?_); rintro e w4 hW; obtain ⟨u4, rfl, hI4, hb4⟩ := rndS_some' hW; clear hW; have X4 := Lib.hid (X3.out.below hb4 X3.out.lt); have Y4 := Lib.hid (Y3.out.below hb4 Y3.out.lt); have B4 := Lib.hid (B3.out.trans (hb4.mono B3.out.size)); have I4 := Lib.hid (ints_mono' hI4 B3.out.size); clear hI4 hb4; skip)
              | fail)
            all_goals
              go_wp2
              go_ret2
              rw [RX.out]
              exact rndS_some rfl I4.out B4.out
        · have e1 : (x != (a : Int)) = true := by simpa using hxa
          have hya : y = (a : Int) := hat.resolve_left hxa
          have e2 : (y != (a : Int)) = false := by simpa using hya
          have HYA := Lib.hid hya
          clear hat hya AT
          skip
          go_wp2_with fail
          have XW := Lib.hid (HX.out.alloc (.cells #[.int .i64 x, .int .i64 y, .int .i64 z] 45))
          have YW := Lib.hid (Blk.new wr #[.int .i64 x, .int .i64 y, .int .i64 z] 45)
          have BWW := Lib.hid (HBr.out.alloc hsz (.cells #[.int .i64 x, .int .i64 y, .int .i64 z] 45))
          generalize (wr.alloc (.cells #[.int .i64 x, .int .i64 y, .int .i64 z] 45)) = W at *
          have hszW := BWW.out.size
          refine (l1Has _ begin k _ (HI.out.below BWW.out) (by have := HNL.out; omega)).mono ?_
          rintro e w' ⟨rfl, rfl⟩
          obtain ⟨d0, d1, ll0⟩ := XW.out.two
          have y0 := YW.out.cell 0
          have y1 := YW.out.cell 1
          cases hk2 : begin.contains k
          case true =>
            have RX := Lib.hid (SK.out (FN.out (fun h => h.2 (List.contains_iff_mem.1 hk2))))
            clear SK SH FN FG RCk hk2
            go_wp2
            go_roundw
            case rel => exact ⟨k + 1, by omega, by go_num, RX, BWW, XW⟩
            case measure => (simp [intOf]; try omega)
          have hnot : k ∉ begin := fun hm => by rw [List.contains_iff_mem.2 hm] at hk2; cases hk2
          have FK := Lib.hid (FG.out ⟨HK.out, hnot⟩)
          have hwr1 : IntKind.i64.wrap (x + y) = x + y := by rw [IntKind.wrap_i64]; omega
          have hwr2 : IntKind.i64.wrap (x + y - (a : Int)) = x + y - (a : Int) := by rw [IntKind.wrap_i64]; omega
          have hil : (idx begin).length ≤ 1048576 := by rw [idx_len]; have := HNL.out; omega
          have hil2 : (idx begin).length ≤ 1000 := by rw [idx_len]; have := HNL.out; omega
          have hnn : (idx begin).length = n := by rw [idx_len, HNL.out]
          have R0 := RCk.out hnot HK.out
          rw [AC.out HK.out, ← HNL.out] at R0
          clear RCk
          have RCk := R0
          clear R0 hk2 FG FN
          cases hR : R k with
          | none =>
            have RX := Lib.hid (SK.out (FK.out.trans hR))
            rw [hR] at RCk
            replace RCk := Lib.hid RCk
            clear hR FK SK SH
            go_wp2_with fail
            have V1 := Lib.hid XW.out.drew
            have U1 := Lib.hid YW.out.drew
            have NB := Lib.hid (Blk.new W #[.int .i64 k] 3).drew
            have hdA : Below W.heap.size W (W.alloc (.cells #[.int .i64 k] 3)).drew := by (repeat (first | exact Below.refl _ _ | (refine Below.alloc ?_ (by first | omega | (simp; try omega)) _) | apply Below.drew | apply below_drewN))
            have BA := Lib.hid (BWW.out.trans (hdA.mono hszW))
            have BD := Lib.hid BWW.out.drew
            have XA := Lib.hid (XW.out.below hdA XW.out.lt)
            have YA := Lib.hid (YW.out.below hdA YW.out.lt)
            clear hdA
            go_region_held3 (fun w' => w'.cell? ⟨w.heap.size, 0, none⟩ = some (.int .i64 (m : Int)) ∧ w'.cell? ⟨w.heap.size, 1, none⟩ = some (.slice (some ⟨b, off, none⟩) l c) ∧ w'.cell? ⟨wr.heap.size, 0, none⟩ = some (.int .i64 x) ∧ w'.cell? ⟨wr.heap.size, 1, none⟩ = some (.int .i64 y)) (first | exact kp4 V1.out U1.out | exact kp4 XA.out YA.out | exact kp4 X2.out Y2.out | exact kp4 (X2.out.alloc _) (Y2.out.alloc _) | exact kp4 X3.out Y3.out | exact kp4 X4.out Y4.out) (first
              | (go_at_call 32; (with_reducible refine (l1Own _ (idx begin) W.drew (HI.out.below BD.out) HNIL.out hil).mono ?_); rintro e w2 ⟨u, rfl, hI2, hb2⟩; obtain ⟨a2, c2, rfl⟩ := hI2.slN (n := n) hnn; have B2 := Lib.hid (BD.out.trans (hb2.mono BD.out.size)); have X2 := Lib.hid (V1.out.below hb2 V1.out.lt); have Y2 := Lib.hid (U1.out.below hb2 U1.out.lt); have I2 := Lib.hid hI2; have S2 := Lib.hid (show W.heap.size ≤ w2.heap.size from hb2.size); clear hI2 hb2; skip)
              | (go_at_call 32; (with_reducible refine (l1Own _ (idx begin) (W.alloc (.cells #[.int .i64 k] 3)).drew (HI.out.below BA.out) HNIL.out hil).mono ?_); rintro e w2 ⟨u, rfl, hI2, hb2⟩; obtain ⟨a2, c2, rfl⟩ := hI2.slN (n := n) hnn; have B2 := Lib.hid (BA.out.trans (hb2.mono BA.out.size)); have X2 := Lib.hid (XA.out.below hb2 XA.out.lt); have Y2 := Lib.hid (YA.out.below hb2 YA.out.lt); have N2 := Lib.hid (NB.out.below hb2 NB.out.lt); have S2 := Lib.hid hb2.size; have I2 := Lib.hid hI2; clear hI2 hb2; skip)
              | (refine step_appI rfl (.tmp 51) (.tmp 53) rfl (W.alloc (.cells #[.int .i64 k] 3)).drew.heap.size (.slice a2 n c2) (idx begin) ?_ I2.out W.heap.size (k : Int) ?_ (N2.out.cell 0) hil2 S2.out (n + 1) ?_ (idx (begin ++ [k])) (idx_snocR begin k) ?_; (· simp [Act.eval]); (· simp [Act.eval]); (· (rw [hnn])); intro g3 cap3 w3 hI3 hb3; have B3 := Lib.hid (B2.out.trans (hb3.mono BA.out.size)); have I3 := Lib.hid hI3.rd; have X3 := Lib.hid (X2.out.below hb3 XA.out.lt); have Y3 := Lib.hid (Y2.out.below hb3 YA.out.lt); clear hI3 hb3; skip)
              | (refine step_appI rfl (.tmp 51) (.tmp 53) rfl W.heap.size (.slice a2 n c2) (idx begin) ?_ (I2.out.below ((Below.refl _ _).alloc (Nat.le_refl _) _)) w2.heap.size (k : Int) ?_ ((Blk.new w2 #[.int .i64 k] 3).cell 0) hil2 ?_ (n + 1) ?_ (idx (begin ++ [k])) (idx_snocR begin k) ?_; (· simp [Act.eval]); (· simp [Act.eval]); (· exact Nat.le_trans S2.out (by simp)); (· (rw [hnn])); intro g3 cap3 w3 hI3 hb3; have B3 := Lib.hid ((B2.out.alloc B2.out.size _).trans (hb3.mono hszW)); have I3 := Lib.hid hI3.rd; have X3 := Lib.hid ((X2.out.alloc _).below hb3 XW.out.lt); have Y3 := Lib.hid ((Y2.out.alloc _).below hb3 YW.out.lt); clear hI3 hb3; skip)
              | (go_at_call 16; (with_reducible refine (RCk.out _ _ w3 B3.out I3.out).mono ?_); rintro e w4 hW; obtain ⟨u4, rfl, hb4⟩ := rndS_none' hW; clear hW; have X4 := Lib.hid (X3.out.below hb4 X3.out.lt); have Y4 := Lib.hid (Y3.out.below hb4 Y3.out.lt); have B4 := Lib.hid (B3.out.trans (hb4.mono B3.out.size)); clear hb4; skip)
              | fail)
            all_goals
              go_wp2
              go_roundw
              case rel => exact ⟨k + 1, by omega, by go_num, RX, B4, X4⟩
              case measure => (simp [intOf]; try omega)
          | some zz =>
            have RX := Lib.hid (SH.out zz (FK.out.trans hR))
            rw [hR] at RCk
            replace RCk := Lib.hid RCk
            clear hR FK SK SH
            go_wp2_with fail
            have V1 := Lib.hid XW.out.drew
            have U1 := Lib.hid YW.out.drew
            have NB := Lib.hid (Blk.new W #[.int .i64 k] 3).drew
            have hdA : Below W.heap.size W (W.alloc (.cells #[.int .i64 k] 3)).drew := by (repeat (first | exact Below.refl _ _ | (refine Below.alloc ?_ (by first | omega | (simp; try omega)) _) | apply Below.drew | apply below_drewN))
            have BA := Lib.hid (BWW.out.trans (hdA.mono hszW))
            have BD := Lib.hid BWW.out.drew
            have XA := Lib.hid (XW.out.below hdA XW.out.lt)
            have YA := Lib.hid (YW.out.below hdA YW.out.lt)
            clear hdA
            go_region_held3 (fun w' => w'.cell? ⟨w.heap.size, 0, none⟩ = some (.int .i64 (m : Int)) ∧ w'.cell? ⟨w.heap.size, 1, none⟩ = some (.slice (some ⟨b, off, none⟩) l c) ∧ w'.cell? ⟨wr.heap.size, 0, none⟩ = some (.int .i64 x) ∧ w'.cell? ⟨wr.heap.size, 1, none⟩ = some (.int .i64 y)) (first | exact kp4 V1.out U1.out | exact kp4 XA.out YA.out | exact kp4 X2.out Y2.out | exact kp4 (X2.out.alloc _) (Y2.out.alloc _) | exact kp4 X3.out Y3.out | exact kp4 X4.out Y4.out) (first
              | (go_at_call 32; (with_reducible refine (l1Own _ (idx begin) W.drew (HI.out.below BD.out) HNIL.out hil).mono ?_); rintro e w2 ⟨u, rfl, hI2, hb2⟩; obtain ⟨a2, c2, rfl⟩ := hI2.slN (n := n) hnn; have B2 := Lib.hid (BD.out.trans (hb2.mono BD.out.size)); have X2 := Lib.hid (V1.out.below hb2 V1.out.lt); have Y2 := Lib.hid (U1.out.below hb2 U1.out.lt); have I2 := Lib.hid hI2; have S2 := Lib.hid (show W.heap.size ≤ w2.heap.size from hb2.size); clear hI2 hb2; skip)
              | (go_at_call 32; (with_reducible refine (l1Own _ (idx begin) (W.alloc (.cells #[.int .i64 k] 3)).drew (HI.out.below BA.out) HNIL.out hil).mono ?_); rintro e w2 ⟨u, rfl, hI2, hb2⟩; obtain ⟨a2, c2, rfl⟩ := hI2.slN (n := n) hnn; have B2 := Lib.hid (BA.out.trans (hb2.mono BA.out.size)); have X2 := Lib.hid (XA.out.below hb2 XA.out.lt); have Y2 := Lib.hid (YA.out.below hb2 YA.out.lt); have N2 := Lib.hid (NB.out.below hb2 NB.out.lt); have S2 := Lib.hid hb2.size; have I2 := Lib.hid hI2; clear hI2 hb2; skip)
              | (refine step_appI rfl (.tmp 51) (.tmp 53) rfl (W.alloc (.cells #[.int .i64 k] 3)).drew.heap.size (.slice a2 n c2) (idx begin) ?_ I2.out W.heap.size (k : Int) ?_ (N2.out.cell 0) hil2 S2.out (n + 1) ?_ (idx (begin ++ [k])) (idx_snocR begin k) ?_; (· simp [Act.eval]); (· simp [Act.eval]); (· (rw [hnn])); intro g3 cap3 w3 hI3 hb3; have B3 := Lib.hid (B2.out.trans (hb3.mono BA.out.size)); have I3 := Lib.hid hI3.rd; have X3 := Lib.hid (X2.out.below hb3 XA.out.lt); have Y3 := Lib.hid (Y2.out.below hb3 YA.out.lt); clear hI3 hb3; skip)
              | (refine step_appI rfl (.tmp 51) (.tmp 53) rfl W.heap.size (.slice a2 n c2) (idx begin) ?_ (I2.out.below ((Below.refl _ _).alloc (Nat.le_refl _) _)) w2.heap.size (k : Int) ?_ ((Blk.new w2 #[.int .i64 k] 3).cell 0) hil2 ?_ (n + 1) ?_ (idx (begin ++ [k])) (idx_snocR begin k) ?_; (· simp [Act.eval]); (· simp [Act.eval]); (· exact Nat.le_trans S2.out (by simp)); (· (rw [hnn])); intro g3 cap3 w3 hI3 hb3; have B3 := Lib.hid ((B2.out.alloc B2.out.size _).trans (hb3.mono hszW)); have I3 := Lib.hid hI3.rd; have X3 := Lib.hid ((X2.out.alloc _).below hb3 XW.out.lt); have Y3 := Lib.hid ((Y2.out.alloc _).below hb3 YW.out.lt); clear hI3 hb3; skip)
              | (go_at_call 16; (with_reducible refine (RCk.out _ _ w3 B3.out I3.out).mono ?_); rintro e w4 hW; obtain ⟨u4, rfl, hI4, hb4⟩ := rndS_some' hW; clear hW; have X4 := Lib.hid (X3.out.below hb4 X3.out.lt); have Y4 := Lib.hid (Y3.out.below hb4 Y3.out.lt); have B4 := Lib.hid (B3.out.trans (hb4.mono B3.out.size)); have I4 := Lib.hid (ints_mono' hI4 B3.out.size); clear hI4 hb4; skip)
              | fail)
            all_goals
              go_wp2
              go_ret2
              rw [RX.out]
              exact rndS_some rfl I4.out B4.out
    · obtain rfl : k = l := by omega
      have RN := Lib.hid (show res = none by rw [HS.out, Nat.sub_self]; rfl)
      go_wp2
      go_ret2
      rw [RN.out]
      exact rndS_none rfl (fun _ => rfl) HBr.out
end Go.Proofs.Ytihdhgkknfohaad
