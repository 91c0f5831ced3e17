/- impl's coast.goOn. -/
import Derived.Test.YtmlokapbholeoabTh
import Derived.Deep.CutRange
import Derived.Deep.DeepCutAuto
import Derived.Deep.RegionHeld3
namespace Go.Proofs.Ytmlokapbholeoab
set_option linter.unusedVariables false
open Go.RowKit Go.Maps Go.Conc

set_option maxHeartbeats 4000000 in
theorem goOn (sh ti : ByteArray) (l p x bM cC cap dd rn : Nat) (E : List (Nat × Nat)) (w : World) (hg : good sh ti = true) (hl : l ≤ 100) (hp : p ≤ sh.size + 1) (hx : x ≤ 10000)
    (hM : MMap w bM ti E) (hC : Chn w cC cap (E.drop dd) rn) (hbc : bM ≠ cC) (h0 : E ≠ []) (hd : dd ≤ E.length)
    (hcap : (goE sh ti E (p - l) (x + 1) (cnt sh l p)).length ≤ cap + dd) (hlen : (goE sh ti E (p - l) (x + 1) (cnt sh l p)).length ≤ 900) :
    Calls Try.prog 47 #[cst sh ti, mv (p, x), .int .i64 (l : Int), .map (some bM), .chan (some cC)] w fun e w' => e = .returned (.tuple #[]) ∧
      MMap w' bM ti (goE sh ti E (p - l) (x + 1) (cnt sh l p)) ∧ Chn w' cC cap ((goE sh ti E (p - l) (x + 1) (cnt sh l p)).drop dd) rn ∧ Kp w w' bM cC := by
  obtain ⟨⟨z1, z2, _⟩, ⟨z3, z4, _⟩⟩ := good_in hg
  have HG := Lib.hid hg
  have X0 := Lib.hid (Blk.new w #[.string sh, .string ti] 37)
  have X1 := Lib.hid ((Blk.new w #[.string sh, .string ti] 37).alloc (.cells #[.int .i64 (p : Int), .int .i64 (x : Int)] 56))
  have Y1 := Lib.hid ((Blk.new (w.alloc (.cells #[.string sh, .string ti] 37)) #[.int .i64 (p : Int), .int .i64 (x : Int)] 56))
  have B1 := ((Below.refl w.heap.size w).alloc (Nat.le_refl _) (.cells #[.string sh, .string ti] 37)).alloc (by simp) (.cells #[.int .i64 (p : Int), .int .i64 (x : Int)] 56)
  have M1 := Lib.hid (hM.below B1)
  have C1 := Lib.hid (hC.below B1)
  have K1 := Lib.hid (Kp.of_below bM cC B1)
  have hmw := hM.lt
  have hcw := hC.lt
  obtain ⟨lo, hlo⟩ : ∃ lo, lo = p - l := ⟨_, rfl⟩
  obtain ⟨hi, hhi⟩ : ∃ hi, hi = min (p + l) (sh.size + 1) := ⟨_, rfl⟩
  have HHI := Lib.hid (show hi ≤ sh.size + 1 by omega)
  obtain ⟨n, hn⟩ : ∃ n, n = cnt sh l p := ⟨_, rfl⟩
  have hln : lo + n = hi + 1 := by rw [hlo, hhi, hn]; unfold cnt; omega
  have hlh : lo ≤ hi := by omega
  have hh15 : hi ≤ 15 := by omega
  have hmax : max (0 : Int) ((p : Int) - l) = (lo : Int) := by omega
  have HMIN := Lib.hid (show (if (sh.size : Int) + 1 < (p : Int) + l then (sh.size : Int) + 1 else (p : Int) + l) = (hi : Int) by split <;> omega)
  rw [← hlo, ← hn] at hcap hlen ⊢
  have HCAP := Lib.hid (show ∀ i, i ≤ n → (goE sh ti E lo (x + 1) i).length ≤ cap + dd ∧ (goE sh ti E lo (x + 1) i).length ≤ 900 from by
    have : ∀ i j, (goE sh ti E lo (x + 1) i).length ≤ (goE sh ti E lo (x + 1) (i + j)).length := by
      intro i j
      induction j with
      | zero => exact Nat.le_refl _
      | succ j ih =>
        refine Nat.le_trans ih ?_
        show _ ≤ (goE sh ti E lo (x + 1) (i + j + 1)).length
        by_cases c : dry sh ti (lo + (i + j)) (x + 1) = true ∧ kn ti (goE sh ti E lo (x + 1) (i + j)) (lo + (i + j)) ((x + 1) % ti.size) = false
        · rw [goE_yes c.1 c.2]; simp
        · rw [goE_no c]; exact Nat.le_refl _
    intro i hi2
    have := this i (n - i)
    rw [show i + (n - i) = n by omega] at this
    omega)
  have HNE := Lib.hid (show ∀ i, goE sh ti E lo (x + 1) i ≠ [] ∧ dd ≤ (goE sh ti E lo (x + 1) i).length from fun i => by
    obtain ⟨A, eA, _⟩ := goE_app sh ti E lo (x + 1) i
    rw [eA]; exact ⟨by simp [h0], by simp; omega⟩)
  have DR := Lib.hid (fun q (hq : q ≤ sh.size + 1) wx => isDry sh ti q (x + 1) (q : Int) ((x : Int) + 1) wx rfl (by omega) HG.out hq (by omega))
  have FB := Lib.hid (fun wx => farBankC sh ti wx (by omega))
  unfold cst mv at *
  have hs1 : (w.alloc (.cells #[.string sh, .string ti] 37)).heap.size = w.heap.size + 1 := by simp
  rw [hs1] at Y1
  obtain ⟨c0, c1, cl⟩ := X1.out.two
  obtain ⟨d0, d1, dl⟩ := Y1.out.two
  clear hM hC hg hcap hlen h0 hd hlo hhi hn B1 hs1
  have hsz1 : ((w.alloc (.cells #[.string sh, .string ti] 37)).alloc (.cells #[.int .i64 (p : Int), .int .i64 (x : Int)] 56)).heap.size = w.heap.size + 2 := by simp
  have hxx : (0 : Int) ≤ (x : Int) + 1 ∧ (x : Int) + 1 ≤ 20000 := by omega
  obtain ⟨r, hr⟩ : ∃ r, r = (x + 1) % ti.size := ⟨_, rfl⟩
  have m1 : ((x : Int) + 1).tmod (ti.size : Int) = (r : Int) := by
    rw [hr, show ((x : Int) + 1) = ((x + 1 : Nat) : Int) by push_cast; rfl, tmod_nat]
  have HR := Lib.hid hr
  have hr12 : r < 12 := by rw [hr]; have := Nat.mod_lt (x + 1) (show 0 < ti.size by omega); omega
  have m3 : ¬ (ti.size : Int) = 0 := by omega
  clear hr
  go_enter Try.func47, Try.ntmps47
  go_wp2_with fail
  all_goals
    generalize ((w.alloc (.cells #[.string sh, .string ti] 37)).alloc (.cells #[.int .i64 (p : Int), .int .i64 (x : Int)] 56)) = w1 at *
    clear c0 c1 cl d0 d1 dl
    go_loopw [11] (fun q wr => ∃ i : Nat, i ≤ n ∧ q = .int .i64 ((lo : Int) + i) ∧ Hid (MMap wr bM ti (goE sh ti E lo (x + 1) i)) ∧ Hid (Chn wr cC cap ((goE sh ti E lo (x + 1) i).drop dd) rn) ∧ Hid (Kp w wr bM cC) ∧ Hid (Blk wr w.heap.size #[.string sh, .string ti]) ∧ Hid (Blk wr (w.heap.size + 1) #[.int .i64 (p : Int), .int .i64 (x : Int)])) (fun q _ => lo + n - (intOf q).toNat)
    case atStart => exact ⟨0, Nat.zero_le _, by (congr 1; omega), M1, C1, K1, X1, Y1⟩
    case round =>
      clear M1 C1 K1 X1 Y1
      obtain ⟨i, hi2, rfl, M1, C1, K1, X1, Y1⟩ := hrel
      obtain ⟨c0, c1, cl⟩ := X1.out.two
      obtain ⟨d0, d1, dl⟩ := Y1.out.two
      have KP := Lib.hid (fun W (hB : Below wr.heap.size wr W) => (show W.cell? ⟨w.heap.size, 0, none⟩ = some (.string sh) ∧ W.cell? ⟨w.heap.size, 1, none⟩ = some (.string ti) ∧ W.cell? ⟨w.heap.size + 1, 0, none⟩ = some (.int .i64 (p : Int)) from
        ⟨(hB.cell (p := ⟨w.heap.size, 0, none⟩) cl).trans c0, (hB.cell (p := ⟨w.heap.size, 1, none⟩) cl).trans c1, (hB.cell (p := ⟨w.heap.size + 1, 0, none⟩) dl).trans d0⟩))
      have W1 : IntKind.i64.wrap ((p : Int) + l) = (p : Int) + l := IntWalk.i64_in _ (by omega)
      clear c0 c1 d0 d1
      go_wp2
      go_region_held3 (fun W => W.cell? ⟨w.heap.size, 0, none⟩ = some (.string sh) ∧ W.cell? ⟨w.heap.size, 1, none⟩ = some (.string ti) ∧ W.cell? ⟨w.heap.size + 1, 0, none⟩ = some (.int .i64 (p : Int))) (first | exact KP.out _ D3.out | exact KP.out _ (by (repeat (first | exact Below.refl _ _ | (refine Below.alloc ?_ (by first | omega | (simp; try omega)) _) | apply Below.drew | apply below_drewN)))) (first
        | (go_at_call 46; refine (FB.out _).mono ?_; rintro e w2 ⟨rfl, hb2⟩; have D3 := Lib.hid (Below.trans (by (repeat (first | exact Below.refl _ _ | (refine Below.alloc ?_ (by first | omega | (simp; try omega)) _) | apply Below.drew | apply below_drewN))) (hb2.mono (by simp; try omega)) : Below wr.heap.size wr w2); clear hb2))
      rw [HMIN.out]
      have M2 := Lib.hid (M1.out.below D3.out)
      have C2 := Lib.hid (C1.out.below D3.out)
      have K2 := Lib.hid (K1.out.trans (Kp.of_below bM cC D3.out))
      have X2 := Lib.hid (X1.out.below D3.out cl)
      have Y2 := Lib.hid (Y1.out.below D3.out dl)
      clear M1 C1 K1 X1 Y1 KP D3
      by_cases hin : i < n
      · have hle : (lo : Int) + i ≤ hi := by omega
        have hq15 : lo + i ≤ 15 := by omega
        have D := Lib.hid (fun wx => isDry sh ti (lo + i) (x + 1) ((lo : Int) + i) ((x : Int) + 1) wx (by push_cast; rfl) (by push_cast; rfl) HG.out (by have := HHI.out; omega) (by omega))
        unfold cst at D
        obtain ⟨w3, hw3⟩ : ∃ w3, w3 = w2.alloc (.cells #[.int .i64 ((lo : Int) + i), .int .i64 (r : Int)] 56) := ⟨_, rfl⟩
        have hs3 : w3.heap.size = w2.heap.size + 1 := by rw [hw3]; simp
        have A3 : Below w2.heap.size w2 w3 := by rw [hw3]; exact (Below.refl _ _).alloc (Nat.le_refl _) _
        have Z3 := Lib.hid (show Blk w3 w2.heap.size #[.int .i64 ((lo : Int) + i), .int .i64 (r : Int)] by rw [hw3]; exact Blk.new _ _ _)
        have M3 := Lib.hid (M2.out.below A3)
        have C3 := Lib.hid (C2.out.below A3)
        have K3 := Lib.hid (K2.out.trans (Kp.of_below bM cC A3))
        have X3 := Lib.hid (X2.out.below A3 X2.out.lt)
        have Y3 := Lib.hid (Y2.out.below A3 Y2.out.lt)
        have HW3 := Lib.hid hw3
        obtain ⟨c0, c1, cl⟩ := X2.out.two
        clear A3 hw3 M2 C2 K2
        go_wp2_with fail
        rw [← HW3.out]
        refine (D.out _).mono ?_
        rintro e w4 ⟨rfl, hb4⟩
        have M4 := Lib.hid (M3.out.below hb4)
        have C4 := Lib.hid (C3.out.below hb4)
        have K4 := Lib.hid (K3.out.trans (Kp.of_below bM cC hb4))
        have X4 := Lib.hid (X3.out.below hb4 X3.out.lt)
        have Y4 := Lib.hid (Y3.out.below hb4 Y3.out.lt)
        have Z4 := Lib.hid (Z3.out.below hb4 Z3.out.lt)
        clear M3 C3 K3 X3 Y3 Z3 hb4 D c0 c1 cl X2 Y2 HW3
        obtain ⟨e0, e1, el⟩ := X4.out.two
        obtain ⟨z0, z1', zl⟩ := Z4.out.two
        cases hdr : dry sh ti (lo + i) (x + 1)
        · have EE := Lib.hid (goE_no (h := sh) (t := ti) (E := E) (lo := lo) (x := x + 1) (i := i) (by rw [hdr]; simp))
          clear hdr e0 e1 z0 z1'
          go_wp2
          go_roundw
          case rel => exact ⟨i + 1, by omega, by go_num, by rw [EE.out]; exact M4, by rw [EE.out]; exact C4, K4, X4, Y4⟩
          case measure => (simp [intOf]; try omega)
        · have hlk := M4.out.get (lo + i) r (by omega) (by omega)
          rw [show (((lo + i : Nat) : Int)) = (lo : Int) + i by push_cast; rfl] at hlk
          cases hkn : kn ti (goE sh ti E lo (x + 1) i) (lo + i) r
          · have hr2 := HR.out
            rw [hkn] at hlk
            have EE := Lib.hid (goE_yes (h := sh) (t := ti) (E := E) (lo := lo) (x := x + 1) (i := i) hdr (by rw [← hr2]; exact hkn))
            have HKN := Lib.hid (show kn ti (goE sh ti E lo (x + 1) i) (lo + i) ((x + 1) % ti.size) = false by rw [← hr2]; exact hkn)
            have HC2 := HCAP.out (i + 1) (by omega)
            rw [EE.out, List.length_append] at HC2
            have HC3 := Lib.hid HC2
            have HN2 := Lib.hid (HNE.out i)
            have HRR := Lib.hid (show (r : Int) = (((x + 1) % ti.size : Nat) : Int) by rw [hr2])
            have HRM := Lib.hid (show (x + 1) % ti.size ≤ 1000000 by omega)
            clear hdr hkn hr2 HC2
            go_upto_region 8 with (at_mapUpdate; refine wpList_putM rfl M4.out (by have := HC3.out.2; simp at this; omega) HN2.out.1 (p := lo + i) (x := x + 1) (by omega) HRM.out HKN.out ((lo : Int) + i) (r : Int) (by push_cast; rfl) HRR.out _ _ _ rfl rfl rfl rfl ?_; intro w5 hM5 hg5; have M5 := Lib.hid hM5; have G5 := Lib.hid hg5; clear hM5 hg5)
            have hgc : cC ≠ bM := fun c => hbc c.symm
            have C5 := Lib.hid (C4.out.kept G5.out (by intro c; injection c with c; exact hgc c))
            have K5 := Lib.hid (K4.out.trans (Kp.of_grown G5.out (.inl rfl)))
            have X5 := Lib.hid (X4.out.kept G5.out (by intro c; injection c with c; omega))
            have Y5 := Lib.hid (Y4.out.kept G5.out (by intro c; injection c with c; omega))
            obtain ⟨sn, hch, hC6⟩ := C5.out.send (lo + i, x + 1)
            rw [← List.drop_append_of_le_length (HN2.out.2), ← EE.out] at hC6
            have G6 := grown_setChan w5 cC cap ((((goE sh ti E lo (x + 1) i).drop dd).map mv).toArray.push (mv (lo + i, x + 1))) false (sn + 1) rn false
            have C6 := Lib.hid hC6
            have M6 := Lib.hid (M5.out.kept G6 (by intro c; injection c with c; exact hbc c))
            have K6 := Lib.hid (K5.out.trans (Kp.of_grown G6 (.inr rfl)))
            have X6 := Lib.hid (X5.out.kept G6 (by intro c; injection c with c; omega))
            have Y6 := Lib.hid (Y5.out.kept G6 (by intro c; injection c with c; omega))
            have hroom : (((goE sh ti E lo (x + 1) i).drop dd).map mv).toArray.size < cap := by
              have := HC3.out.1; have := HN2.out.2; simp at *; omega
            have hmv : mv (lo + i, x + 1) = .agg #[.int .i64 ((lo : Int) + i), .int .i64 ((x : Int) + 1)] := by simp [mv]
            rw [hmv] at C6 M6 K6 X6 Y6
            obtain ⟨w6, hw6⟩ : ∃ w6, w6 = w5.setChan cC cap ((((goE sh ti E lo (x + 1) i).drop dd).map mv).toArray.push (.agg #[.int .i64 ((lo : Int) + i), .int .i64 ((x : Int) + 1)])) false (sn + 1) rn false := ⟨_, rfl⟩
            rw [← hw6] at C6 M6 K6 X6 Y6
            have HW6 := Lib.hid hw6
            clear hw6
            refine OpsTo.region ?_
            show OpsTo _ _ _ [0, 1, 2, 3, 4] _ _
            refine OpsTo.value (v := .chan (some cC)) (w' := w5) rfl rfl (by simp [execOp]; rfl) ?_
            simp only [Act.put]
            refine OpsTo.value (v := .int .i64 ((lo : Int) + i)) (w' := w5) rfl rfl (by simp [execOp]; rfl) ?_
            simp only [Act.put]
            refine OpsTo.value (v := .int .i64 ((x : Int) + 1)) (w' := w5) rfl rfl (by simp [execOp]; rfl) ?_
            simp only [Act.put]
            refine OpsTo.value (v := .agg #[.int .i64 ((lo : Int) + i), .int .i64 ((x : Int) + 1)]) (w' := w5) rfl rfl (by go_simp) ?_
            simp only [Act.put]
            refine OpsTo.send (c := cC) (cap := cap) (s := sn) (r := rn) (tm := false) (v := .agg #[.int .i64 ((lo : Int) + i), .int .i64 ((x : Int) + 1)]) (z := .tuple #[]) rfl rfl (by simp [go_sem, execOp, scase, Act.eval]) hch hroom ?_
            refine OpsTo.nil ?_
            rw [← HW6.out]
            go_wp2
            go_roundw
            case rel => exact ⟨i + 1, by omega, by go_num, by rw [EE.out]; exact M6, C6, K6, X6, Y6⟩
            case measure => (simp [intOf]; try omega)
          · rw [hkn] at hlk
            have hr2 := HR.out
            have EE := Lib.hid (goE_no (h := sh) (t := ti) (E := E) (lo := lo) (x := x + 1) (i := i) (by rw [← hr2, hkn]; simp))
            clear hdr hkn hr2
            go_wp2
            go_roundw
            case rel => exact ⟨i + 1, by omega, by go_num, by rw [EE.out]; exact M4, by rw [EE.out]; exact C4, K4, X4, Y4⟩
            case measure => (simp [intOf]; try omega)
      · obtain rfl : i = n := by omega
        have hle : ¬ ((lo : Int) + i ≤ hi) := by omega
        clear X2 Y2
        go_wp2
        go_end0
        exact ⟨rfl, M2.out, C2.out, K2.out⟩
end Go.Proofs.Ytmlokapbholeoab
