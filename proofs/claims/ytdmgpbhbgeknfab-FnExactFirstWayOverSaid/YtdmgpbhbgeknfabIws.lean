/- FirstWayOver: spec (isWay). -/
import Derived.Test.YtdmgpbhbgeknfabIwi
import Derived.Test.YtdmgpbhbgeknfabCat
import Derived.Test.YtdmgpbhbgeknfabHas
namespace Go.Proofs.Ytdmgpbhbgeknfab
set_option linter.unusedVariables false
open Go.RowKit

/-- what isWay leaves behind -/
def WayS (r : Option (List Nat)) (w : World) (e : Ending) (w' : World) : Prop :=
  ∃ u, e = .returned (.tuple #[u, .bool r.isSome]) ∧ (∀ z, r = some z → Ints w' w.heap.size u (idx z)) ∧ Below w.heap.size w w'
theorem wayS_some {z : List Nat} {w w' : World} {e : Ending} {u : Value} (he : e = .returned (.tuple #[u, .bool true])) (hI : Ints w' w.heap.size u (idx z)) (hB : Below w.heap.size w w') : WayS (some z) w e w' := ⟨u, he, fun z' h => by cases h; exact hI, hB⟩
theorem wayS_none {w w' : World} {e : Ending} {u : Value} (he : e = .returned (.tuple #[u, .bool false])) (hB : Below w.heap.size w w') : WayS none w e w' := ⟨u, he, (fun z' h => by cases h), hB⟩
theorem wayS_none' {w w' : World} {e : Ending} (h : WayS none w e w') : ∃ u, e = .returned (.tuple #[u, .bool false]) ∧ Below w.heap.size w w' := by
  obtain ⟨u, h1, _, h3⟩ := h; exact ⟨u, h1, h3⟩
theorem wayS_some' {z : List Nat} {w w' : World} {e : Ending} (h : WayS (some z) w e w') : ∃ u, e = .returned (.tuple #[u, .bool true]) ∧ Ints w' w.heap.size u (idx z) ∧ Below w.heap.size w w' := by
  obtain ⟨u, h1, h2, h3⟩ := h; exact ⟨u, h1, h2 z rfl, h3⟩
theorem ne_of_le {s B g : Nat} (h1 : s < B) (h2 : B ≤ g) : some s ≠ some g := by intro e; cases e; omega
set_option maxRecDepth 100000 in
set_option maxHeartbeats 8000000 in
theorem isWayStep (m : Nat) (v : Value) (bs : List Br) (dst : Nat) (hg : Good m bs) (hm : m ≤ 7) (hl : bs.length ≤ 14)
    (way : List Nat) (at_ : Nat) (vb : Value) (left : Int) (w : World) (h : RdB w v bs) (hn : way.length ≤ 7) (hat : way.getLast? = some at_) (hat7 : at_ < m) (hl0 : 0 ≤ left) (hl7 : left ≤ 7000) (hI : Rd w vb (idx way))
    (R : Nat → Option (List Nat)) (res : Option (List Nat)) (hend : at_ = dst → left = 0 → res = some way) (hend2 : at_ = dst → ¬ left = 0 → res = none) (hres : ¬ at_ = dst → res = scanW (fW bs at_ left way R) 0 m)
    (REC : ∀ next, next < m → next ∉ way → ltl bs at_ next ≤ left → ∀ (u : Value) (w1 : World), Below w.heap.size w w1 → Rd w1 u (idx (way ++ [next])) → Calls Try.prog 18 #[.agg #[.int .i64 m, v], u, .int .i64 dst, .int .i64 (left - ltl bs at_ next)] w1 (WayS (R next) w1)) :
    Calls Try.prog 18 #[.agg #[.int .i64 m, v], vb, .int .i64 dst, .int .i64 left] w (WayS res w) := by
  have RC := Lib.hid REC
  have HV := Lib.hid h
  obtain ⟨a, l, c, rfl, hnz, _, _, hvc⟩ := h
  have HG := Lib.hid hg
  have HVC := Lib.hid hvc
  have HVN := Lib.hid hnz
  rw [← hnz] at hl
  clear hg REC hvc hnz
  have hwp : 0 < way.length := by cases way with | nil => simp at hat | cons x t => simp
  have HI := Lib.hid hI
  obtain ⟨b0, off0, n, cap, rfl, hnl, hb0, hcell⟩ := hI.cellsP (by rw [idx_len]; exact hwp)
  rw [idx_len] at hnl
  have HNL := Lib.hid hnl
  have hlast : w.cell? ⟨b0, off0 + (n - 1), none⟩ = some (.int .i64 at_) := by
    rw [hcell (n - 1) (by omega), idx_gt, hnl]
    rw [List.getLast?_eq_getElem?] at hat
    rw [List.getD_eq_getElem?_getD, hat]; rfl
  have hn7 : n ≤ 7 := by omega
  have hw1 : ((n : Int) - 1).toNat = n - 1 := by omega
  have hw2 : 0 ≤ (n : Int) - 1 ∧ (n : Int) - 1 < n := by omega
  have hw3 : (n : Int) - 1 = ((n - 1 : Nat) : Int) := by omega
  clear hnl hn hat hI hcell
  by_cases hc : at_ = dst
  · have RE1 := Lib.hid (hend hc)
    have RE2 := Lib.hid (hend2 hc)
    subst hc
    clear hend hend2 hres
    have hE : ((at_ : Int) == (at_ : Int)) = true := by simp
    go_enter Try.func18, Try.ntmps18
    go_wp2_with fail
    refine (l1Own _ (idx way) _ (HI.out.below (by (repeat (first | exact Below.refl _ _ | (refine Below.alloc ?_ (by first | omega | (simp; try omega)) _) | apply Below.drew | apply below_drewN)))) (by intro c e; cases e) (by rw [idx_len]; have := HNL.out; omega)).mono ?_
    rintro e w1 ⟨u, rfl, hI1, hb1⟩
    have I1 := Lib.hid (ints_mono' (B := w.heap.size) hI1 (by simp))
    have B1 := Lib.hid (Below.trans (by (repeat (first | exact Below.refl _ _ | (refine Below.alloc ?_ (by first | omega | (simp; try omega)) _) | apply Below.drew | apply below_drewN))) (hb1.mono (by simp; try omega)) : Below w.heap.size w w1)
    clear hI1 hb1
    by_cases hz : left = 0
    · subst hz
      have RX := Lib.hid (RE1.out rfl)
      clear RE1 RE2
      go_wp2
      go_ret2
      rw [RX.out]
      exact wayS_some rfl I1.out B1.out
    · have RX := Lib.hid (RE2.out hz)
      have hzb : (left == 0) = false := by simpa using hz
      clear RE1 RE2
      go_wp2
      go_ret2
      rw [RX.out]
      exact wayS_none rfl B1.out
  have RS := Lib.hid (hres hc)
  clear hend hend2 hres
  have hD : ((at_ : Int) == (dst : Int)) = false := by
    have : ¬ (at_ : Int) = dst := by omega
    simpa using this
  have hDI : ¬ (at_ : Int) = dst := by omega
  clear hc
  have BX := Lib.hid (Blk.new w #[.int .i64 m, .slice a l c] 31)
  have BW := Lib.hid ((Below.refl w.heap.size w).alloc (Nat.le_refl _) (.cells #[.int .i64 m, .slice a l c] 31))
  go_enter Try.func18, Try.ntmps18
  go_wp2_with fail
  go_loopw [11] (fun q wr => ∃ k : Nat, k ≤ m ∧ q = .int .i64 k ∧ Hid (res = scanW (fW bs at_ left way R) k (m - k)) ∧ Hid (Below w.heap.size w wr) ∧ Hid (Blk wr w.heap.size #[.int .i64 m, .slice a l c])) (fun q _ => m - (intOf q).toNat)
  case atStart => exact ⟨0, Nat.zero_le _, rfl, RS, BW, BX⟩
  case round =>
    obtain ⟨k, hk, rfl, HS, HBr, HX⟩ := hrel
    have hsz := HBr.out.size
    obtain ⟨c0, c1, l0⟩ := HX.out.two
    by_cases hlt : k < m
    · have hlt' : (k : Int) < m := by omega
      go_wp2_with fail
      go_loopw [12, 39] (fun t q wx => ∃ j : Nat, j ≤ l ∧ q = .int .i64 j ∧ t = .int .i64 (ltTo bs at_ k j) ∧ Hid (Below w.heap.size w wx) ∧ Hid (Blk wx w.heap.size #[.int .i64 m, .slice a l c])) (fun _ q _ => l - (intOf q).toNat)
      case atStart => exact ⟨0, Nat.zero_le _, rfl, rfl, HBr, HX⟩
      case round =>
        obtain ⟨j, hj, rfl, rfl, HBx, HXx⟩ := hrel
        have hszx := HBx.out.size
        obtain ⟨d0, d1, ll0⟩ := HXx.out.two
        by_cases hlt2 : j < l
        · obtain ⟨b, off, rfl, hbw, hc⟩ := HVC.out j hlt2
          obtain ⟨x0, x1, x2⟩ := hc.below hbw HBx.out
          have hlt2' : (j : Int) < l := by omega
          have hv := HG.out.at (j := j) (by have := HVN.out; omega)
          have D := Lib.hid (lt_s bs at_ k j)
          have JN := Lib.hid (jn_iff (x := at_) (y := k) (b := gb bs j))
          generalize gb bs j = q at *
          obtain ⟨x, y, z⟩ := q
          simp only at hv D JN x0 x1 x2
          clear hc
          obtain ⟨t1, ht1⟩ : ∃ t1, ltTo bs at_ k (j + 1) = t1 := ⟨_, rfl⟩
          rw [ht1] at D
          have HT := Lib.hid ht1
          clear ht1
          generalize ltTo bs at_ k j = t at *
          obtain ⟨p, hp⟩ : ∃ p, p = min (at_ : Int) k := ⟨_, rfl⟩
          obtain ⟨r, hr⟩ : ∃ r, r = max (at_ : Int) k := ⟨_, rfl⟩
          have CL := Lib.hid (fun wx => l1Least (at_ : Int) k wx)
          have CM := Lib.hid (fun wx => l1MostI (at_ : Int) k wx)
          rw [← hp] at JN CL
          rw [← hr] at JN CM
          clear hp hr
          by_cases h1 : x = p
          · subst h1
            by_cases h2 : y = r
            · subst h2
              have R1 := Lib.hid (show t1 = min t z by rw [D.out, if_pos (JN.out.2 ⟨rfl, rfl⟩)])
              clear D JN
              have E1 : (x == x) = true := by simp
              have E2 : (y == y) = true := by simp
              go_wp2
              go_quiet (first
                | (go_at_call 39; exact (CL.out _).mono (fun _ _ h => ⟨h.1, _, h.2.symm⟩))
                | (go_at_call 40; exact (CM.out _).mono (fun _ _ h => ⟨h.1, _, h.2.symm⟩)))
              go_wp2_with fail
              refine (l1Least t z _).mono ?_
              rintro e w' ⟨rfl, rfl⟩
              go_wp2
              go_roundw
              case rel => exact ⟨j + 1, by omega, by go_num, by rw [HT.out, R1.out], Lib.hid (HBx.out.trans (by (repeat (first | exact Below.refl _ _ | (refine Below.alloc ?_ (by first | omega | (simp; try omega)) _) | apply Below.drew | apply below_drewN)))), Lib.hid (HXx.out.below (B := wr.heap.size) (by (repeat (first | exact Below.refl _ _ | (refine Below.alloc ?_ (by first | omega | (simp; try omega)) _) | apply Below.drew | apply below_drewN))) ll0)⟩
              case measure => (simp [intOf]; try omega)
            · have R1 := Lib.hid (show t1 = t by rw [D.out, if_neg (fun h => h2 (JN.out.1 h).2)])
              clear D JN
              have E1 : (x == x) = true := by simp
              have E2 : (y == r) = false := by simpa using h2
              go_wp2
              go_quiet (first
                | (go_at_call 39; exact (CL.out _).mono (fun _ _ h => ⟨h.1, _, h.2.symm⟩))
                | (go_at_call 40; exact (CM.out _).mono (fun _ _ h => ⟨h.1, _, h.2.symm⟩)))
              go_wp2
              go_roundw
              case rel => exact ⟨j + 1, by omega, by go_num, by rw [HT.out, R1.out], Lib.hid (HBx.out.trans (by (repeat (first | exact Below.refl _ _ | (refine Below.alloc ?_ (by first | omega | (simp; try omega)) _) | apply Below.drew | apply below_drewN)))), Lib.hid (HXx.out.below (B := wr.heap.size) (by (repeat (first | exact Below.refl _ _ | (refine Below.alloc ?_ (by first | omega | (simp; try omega)) _) | apply Below.drew | apply below_drewN))) ll0)⟩
              case measure => (simp [intOf]; try omega)
          · have R1 := Lib.hid (show t1 = t by rw [D.out, if_neg (fun h => h1 (JN.out.1 h).1)])
            clear D JN
            have E1 : (x == p) = false := by simpa using h1
            go_wp2
            go_quiet (first
              | (go_at_call 39; exact (CL.out _).mono (fun _ _ h => ⟨h.1, _, h.2.symm⟩))
              | (go_at_call 40; exact (CM.out _).mono (fun _ _ h => ⟨h.1, _, h.2.symm⟩)))
            go_wp2
            go_roundw
            case rel => exact ⟨j + 1, by omega, by go_num, by rw [HT.out, R1.out], Lib.hid (HBx.out.trans (by (repeat (first | exact Below.refl _ _ | (refine Below.alloc ?_ (by first | omega | (simp; try omega)) _) | apply Below.drew | apply below_drewN)))), Lib.hid (HXx.out.below (B := wr.heap.size) (by (repeat (first | exact Below.refl _ _ | (refine Below.alloc ?_ (by first | omega | (simp; try omega)) _) | apply Below.drew | apply below_drewN))) ll0)⟩
            case measure => (simp [intOf]; try omega)
        · obtain rfl : j = l := by omega
          have TL : ltTo bs at_ k j = ltl bs at_ k := by rw [HVN.out]; rfl
          rw [TL]
          clear TL
          have TV2 := ltl_in HG.out at_ k
          have SK := Lib.hid (fun (hf : fW bs at_ left way R k = none) => HS.out.trans (scan_skip hlt hf))
          have SH := Lib.hid (fun r (hf : fW bs at_ left way R k = some r) => HS.out.trans (scan_hit hlt hf))
          have FN := Lib.hid (show (left < ltl bs at_ k ∨ k ∈ way) → fW bs at_ left way R k = none from fun h => if_pos h)
          have FG := Lib.hid (show ¬ (left < ltl bs at_ k ∨ k ∈ way) → fW bs at_ left way R k = R k from fun h => if_neg h)
          have RCk := Lib.hid (RC.out k hlt)
          clear HS HBr HX c0 c1 l0 hsz RC
          generalize ltl bs at_ k = t at *
          by_cases h1 : left < t
          · have RX := Lib.hid (SK.out (FN.out (.inl h1)))
            clear SK SH FN FG RCk
            go_wp2
            go_roundw
            case rel => exact ⟨k + 1, by omega, by go_num, RX, HBx, HXx⟩
            case measure => (simp [intOf]; try omega)
          have hle : t ≤ left := by omega
          go_wp2_with fail
          refine (l1Has _ way k _ (HI.out.below HBx.out) (by have := HNL.out; omega)).mono ?_
          rintro e w' ⟨rfl, rfl⟩
          cases hk2 : way.contains k
          case true =>
            have RX := Lib.hid (SK.out (FN.out (.inr (List.contains_iff_mem.1 hk2))))
            clear SK SH FN FG RCk hk2
            go_wp2
            go_roundw
            case rel => exact ⟨k + 1, by omega, by go_num, RX, HBx, HXx⟩
            case measure => (simp [intOf]; try omega)
          have hnot : k ∉ way := fun hm => by rw [List.contains_iff_mem.2 hm] at hk2; cases hk2
          have FK := Lib.hid (FG.out (by rintro (h | h); omega; exact hnot h))
          have hwr : IntKind.i64.wrap (left - t) = left - t := by rw [IntKind.wrap_i64]; omega
          have hnn : ∀ c, (Value.slice (some ⟨b0, off0, none⟩) n cap) = .slice none 0 c → c = 0 := by intro c e; cases e
          have hil : (idx way).length ≤ 1048576 := by rw [idx_len]; have := HNL.out; omega
          have hil2 : (idx way).length ≤ 1000 := by rw [idx_len]; have := HNL.out; omega
          have hip : 0 < (idx way).length := by rw [idx_len]; exact hwp
          clear hk2 FG FN h1
          cases hR : R k with
          | none =>
            have RX := Lib.hid (SK.out (FK.out.trans hR))
            rw [hR] at RCk
            clear hR FK SK SH
            go_wp2_with fail
            have V1 := Lib.hid HXx.out.drew
            have NB := Lib.hid (Blk.new wr #[.int .i64 k] 3).drew
            have hdA : Below wr.heap.size wr (wr.alloc (.cells #[.int .i64 k] 3)).drew := by (repeat (first | exact Below.refl _ _ | (refine Below.alloc ?_ (by first | omega | (simp; try omega)) _) | apply Below.drew | apply below_drewN))
            have BA := Lib.hid (HBx.out.trans (hdA.mono hszx))
            have BD := Lib.hid HBx.out.drew
            have XA := Lib.hid (HXx.out.below hdA HXx.out.lt)
            clear hdA
            go_region_held3 (fun w' => w'.cell? ⟨w.heap.size, 0, none⟩ = some (.int .i64 (m : Int)) ∧ w'.cell? ⟨w.heap.size, 1, none⟩ = some (.slice a j c)) (first | exact kpW V1.out | exact kpW XA.out | exact kpW X2.out | exact kpW (X2.out.alloc _) | exact kpW X3.out | exact kpW X4.out) (first
              | (go_at_call 38; (with_reducible refine (l1Own _ (idx way) wr.drew (HI.out.below BD.out) hnn hil).mono ?_); rintro e w2 ⟨u, rfl, hI2, hb2⟩; obtain ⟨g2, n2, cap2, rfl, hn2, _, _, hg2, _⟩ := hI2.form hip; have NE2 := Lib.hid (ne_of_le (show w.heap.size < wr.heap.size from ll0) hg2); have B2 := Lib.hid (BD.out.trans (hb2.mono BD.out.size)); have X2 := Lib.hid (V1.out.below hb2 V1.out.lt); have I2 := Lib.hid (ints_mono' hI2 BD.out.size); clear hI2 hb2 hn2 hg2; skip)
              | (go_at_call 38; (with_reducible refine (l1Own _ (idx way) (wr.alloc (.cells #[.int .i64 k] 3)).drew (HI.out.below BA.out) hnn hil).mono ?_); rintro e w2 ⟨u, rfl, hI2, hb2⟩; obtain ⟨g2, n2, cap2, rfl, hn2, _, _, hg2, _⟩ := hI2.form hip; have NE2 := Lib.hid (ne_of_le (XA.out.lt) hg2); have B2 := Lib.hid (BA.out.trans (hb2.mono BA.out.size)); have X2 := Lib.hid (XA.out.below hb2 XA.out.lt); have N2 := Lib.hid (NB.out.below hb2 NB.out.lt); have I2 := Lib.hid (ints_mono' hI2 BA.out.size); clear hI2 hb2 hn2 hg2; skip)
              | (refine step_appW rfl (.tmp 73) (.tmp 75) rfl w.heap.size (.slice (some ⟨g2, 0, none⟩) n2 cap2) (idx way) ?_ I2.out hip wr.heap.size (k : Int) ?_ (N2.out.cell 0) hil2 B2.out.size (n + 1) ?_ (idx (way ++ [k])) (idx_snoc' way k) ?_; (· simp [Act.eval]); (· simp [Act.eval]); (· (rw [idx_len, HNL.out])); intro g3 cap3 w3 hI3 hb3 hg3 hbk; have B3 := Lib.hid (B2.out.trans hb3); have I3 := Lib.hid hI3.rd; have X3 := Lib.hid (X2.out.kept hg3 NE2.out); clear hI3 hb3 hg3 hbk; skip)
              | (refine step_appW rfl (.tmp 73) (.tmp 75) rfl w.heap.size (.slice (some ⟨g2, 0, none⟩) n2 cap2) (idx way) ?_ (I2.out.below ((Below.refl _ _).alloc (Nat.le_refl _) _)) hip w2.heap.size (k : Int) ?_ ((Blk.new w2 #[.int .i64 k] 3).cell 0) hil2 ?_ (n + 1) ?_ (idx (way ++ [k])) (idx_snoc' way k) ?_; (· simp [Act.eval]); (· simp [Act.eval]); (· exact Nat.le_trans B2.out.size (by simp)); (· (rw [idx_len, HNL.out])); intro g3 cap3 w3 hI3 hb3 hg3 hbk; have B3 := Lib.hid ((B2.out.alloc B2.out.size _).trans hb3); have I3 := Lib.hid hI3.rd; have X3 := Lib.hid ((X2.out.alloc _).kept hg3 NE2.out); clear hI3 hb3 hg3 hbk; skip)
              | (go_at_call 18; (with_reducible refine (RCk.out hnot hle _ w3 B3.out I3.out).mono ?_); rintro e w4 hW; obtain ⟨u4, rfl, hb4⟩ := wayS_none' hW; clear hW; have X4 := Lib.hid (X3.out.below hb4 X3.out.lt); have B4 := Lib.hid (B3.out.trans (hb4.mono B3.out.size)); clear hb4; skip))
            all_goals
              go_wp2
              go_roundw
              case rel => exact ⟨k + 1, by omega, by go_num, RX, B4, X4⟩
              case measure => (simp [intOf]; try omega)
          | some z =>
            have RX := Lib.hid (SH.out z (FK.out.trans hR))
            rw [hR] at RCk
            clear hR FK SK SH
            go_wp2_with fail
            have V1 := Lib.hid HXx.out.drew
            have NB := Lib.hid (Blk.new wr #[.int .i64 k] 3).drew
            have hdA : Below wr.heap.size wr (wr.alloc (.cells #[.int .i64 k] 3)).drew := by (repeat (first | exact Below.refl _ _ | (refine Below.alloc ?_ (by first | omega | (simp; try omega)) _) | apply Below.drew | apply below_drewN))
            have BA := Lib.hid (HBx.out.trans (hdA.mono hszx))
            have BD := Lib.hid HBx.out.drew
            have XA := Lib.hid (HXx.out.below hdA HXx.out.lt)
            clear hdA
            go_region_held3 (fun w' => w'.cell? ⟨w.heap.size, 0, none⟩ = some (.int .i64 (m : Int)) ∧ w'.cell? ⟨w.heap.size, 1, none⟩ = some (.slice a j c)) (first | exact kpW V1.out | exact kpW XA.out | exact kpW X2.out | exact kpW (X2.out.alloc _) | exact kpW X3.out | exact kpW X4.out) (first
              | (go_at_call 38; (with_reducible refine (l1Own _ (idx way) wr.drew (HI.out.below BD.out) hnn hil).mono ?_); rintro e w2 ⟨u, rfl, hI2, hb2⟩; obtain ⟨g2, n2, cap2, rfl, hn2, _, _, hg2, _⟩ := hI2.form hip; have NE2 := Lib.hid (ne_of_le (show w.heap.size < wr.heap.size from ll0) hg2); have B2 := Lib.hid (BD.out.trans (hb2.mono BD.out.size)); have X2 := Lib.hid (V1.out.below hb2 V1.out.lt); have I2 := Lib.hid (ints_mono' hI2 BD.out.size); clear hI2 hb2 hn2 hg2; skip)
              | (go_at_call 38; (with_reducible refine (l1Own _ (idx way) (wr.alloc (.cells #[.int .i64 k] 3)).drew (HI.out.below BA.out) hnn hil).mono ?_); rintro e w2 ⟨u, rfl, hI2, hb2⟩; obtain ⟨g2, n2, cap2, rfl, hn2, _, _, hg2, _⟩ := hI2.form hip; have NE2 := Lib.hid (ne_of_le (XA.out.lt) hg2); have B2 := Lib.hid (BA.out.trans (hb2.mono BA.out.size)); have X2 := Lib.hid (XA.out.below hb2 XA.out.lt); have N2 := Lib.hid (NB.out.below hb2 NB.out.lt); have I2 := Lib.hid (ints_mono' hI2 BA.out.size); clear hI2 hb2 hn2 hg2; skip)
              | (refine step_appW rfl (.tmp 73) (.tmp 75) rfl w.heap.size (.slice (some ⟨g2, 0, none⟩) n2 cap2) (idx way) ?_ I2.out hip wr.heap.size (k : Int) ?_ (N2.out.cell 0) hil2 B2.out.size (n + 1) ?_ (idx (way ++ [k])) (idx_snoc' way k) ?_; (· simp [Act.eval]); (· simp [Act.eval]); (· (rw [idx_len, HNL.out])); intro g3 cap3 w3 hI3 hb3 hg3 hbk; have B3 := Lib.hid (B2.out.trans hb3); have I3 := Lib.hid hI3.rd; have X3 := Lib.hid (X2.out.kept hg3 NE2.out); clear hI3 hb3 hg3 hbk; skip)
              | (refine step_appW rfl (.tmp 73) (.tmp 75) rfl w.heap.size (.slice (some ⟨g2, 0, none⟩) n2 cap2) (idx way) ?_ (I2.out.below ((Below.refl _ _).alloc (Nat.le_refl _) _)) hip w2.heap.size (k : Int) ?_ ((Blk.new w2 #[.int .i64 k] 3).cell 0) hil2 ?_ (n + 1) ?_ (idx (way ++ [k])) (idx_snoc' way k) ?_; (· simp [Act.eval]); (· simp [Act.eval]); (· exact Nat.le_trans B2.out.size (by simp)); (· (rw [idx_len, HNL.out])); intro g3 cap3 w3 hI3 hb3 hg3 hbk; have B3 := Lib.hid ((B2.out.alloc B2.out.size _).trans hb3); have I3 := Lib.hid hI3.rd; have X3 := Lib.hid ((X2.out.alloc _).kept hg3 NE2.out); clear hI3 hb3 hg3 hbk; skip)
              | (go_at_call 18; (with_reducible refine (RCk.out hnot hle _ w3 B3.out I3.out).mono ?_); rintro e w4 hW; obtain ⟨u4, rfl, hI4, hb4⟩ := wayS_some' hW; clear hW; have X4 := Lib.hid (X3.out.below hb4 X3.out.lt); have B4 := Lib.hid (B3.out.trans (hb4.mono B3.out.size)); have I4 := Lib.hid (ints_mono' hI4 B3.out.size); clear hI4; clear hb4; skip))
            all_goals
              go_wp2
              go_ret2
              rw [RX.out]
              exact wayS_some rfl I4.out B4.out
    · obtain rfl : k = m := by omega
      have RN := Lib.hid (show res = none by rw [HS.out, Nat.sub_self]; rfl)
      go_wp2
      go_ret2
      rw [RN.out]
      exact wayS_none rfl HBr.out
end Go.Proofs.Ytdmgpbhbgeknfab
