/- HasRound: spec. -/
import Derived.Test.YtihdhgkknfohaadIsr
namespace Go.Proofs.Ytihdhgkknfohaad
set_option linter.unusedVariables false
open Go.RowKit

/-- how many of the first k bridges are at each island -/
def degL (bs : List Br) (m k : Nat) : List Int := (List.range m).map fun i => (degTo bs i k : Int)
theorem degL_len (bs : List Br) (m k : Nat) : (degL bs m k).length = m := by simp [degL]
theorem degL_at {bs : List Br} {m k i : Nat} (h : i < m) : gt (degL bs m k) i = degTo bs i k := by simp [degL, gt, h]
theorem degL_0 (bs : List Br) (m : Nat) : List.replicate m (0 : Int) = degL bs m 0 := by
  unfold degL
  apply List.ext_getElem
  · simp
  · intro i h1 h2; simp [degTo]
theorem degL_s {bs : List Br} {m k x y : Nat} {z : Int} (hq : gb bs k = ((x : Int), (y : Int), z)) (hx : x < m) (hy : y < m) (hxy : x ≠ y) :
    ((degL bs m k).set x ((degTo bs x k : Int) + 1)).set y ((degTo bs y k : Int) + 1) = degL bs m (k + 1) := by
  apply List.ext_getElem
  · simp [degL]
  · intro i h1 h2
    rw [List.getElem_set, List.getElem_set]
    simp only [degL, List.getElem_map, List.getElem_range]
    have e : degTo bs i (k + 1) = degTo bs i k + if atB (x : Int) y i then 1 else 0 := by show degTo bs i k + _ = _; rw [hq]
    rw [e]
    by_cases e1 : y = i
    · subst e1; simp [atB]
    · by_cases e2 : x = i
      · subst e2; simp [atB, e1]
      · have a1 : ¬ (x : Int) = i := by omega
        have a2 : ¬ (y : Int) = i := by omega
        simp [atB, e1, e2, a1, a2]
def evenV (m : Nat) (bs : List Br) : Bool := evenB m bs && allS m bs (gb bs 0).1.toNat

set_option maxRecDepth 100000 in
set_option maxHeartbeats 4000000 in
theorem isEven (m : Nat) (v : Value) (bs : List Br) (w : World) (h : RdB w v bs) (hg : Good m bs) (hm1 : 1 ≤ m) (hm : m ≤ 7) (hl : bs.length ≤ 14) :
    Calls Try.prog 15 #[.agg #[.int .i64 m, v]] w fun e w' => e = .returned (.bool (evenV m bs)) ∧ Below w.heap.size w w' := by
  have H := Lib.hid h
  obtain ⟨a, l, c, rfl, hnz, _, _, hcell⟩ := h
  rw [← hnz] at hl
  have HN := Lib.hid hnz
  have HC := Lib.hid hcell
  have HG := Lib.hid hg
  clear hcell hnz hg
  have hl14 : bs.length ≤ 14 := by have := HN.out; omega
  go_enter Try.func15, Try.ntmps15
  go_wp2_with fail
  refine (isGroups m _ bs (-1) _ (H.out.below (by (repeat (first | exact Below.refl _ _ | (refine Below.alloc ?_ (by first | omega | (simp; try omega)) _) | apply Below.drew | apply below_drewN)))) HG.out hm1 hm hl14).mono ?_
  rw [offB_none HG.out]
  rintro e w1 ⟨u, rfl, hI, hb⟩
  have HB := Lib.hid (Below.trans (by (repeat (first | exact Below.refl _ _ | (refine Below.alloc ?_ (by first | omega | (simp; try omega)) _) | apply Below.drew | apply below_drewN))) (hb.mono (by simp; try omega)) : Below w.heap.size w w1)
  have XB := Lib.hid ((Blk.new w #[.int .i64 m, .slice a l c] 31).below hb (by simp))
  obtain ⟨g1, n1, cap1, rfl, hn1, _, _, hB1, hg1, hcl1⟩ := hI.form (by rw [lab_len]; omega)
  rw [lab_len] at hn1
  subst hn1
  have HL := Lib.hid hcl1
  obtain ⟨c0, c1, l0⟩ := XB.out.two
  have s1 := HB.out.size
  clear hb hI hcl1
  go_wp2_with (at_make; refine wpList_mk rfl _ _ rfl w1.heap.size n1 _ rfl rfl rfl (by omega) (Nat.le_refl _) ?_; intro w2 hI hb2 hg2; obtain ⟨c02, c12, l02⟩ := (XB.out.below hb2 XB.out.lt).two; have s2 := hI.blk.2; rw [degL_0 bs] at hI; have HI := Lib.hid hI; have HB2 := Lib.hid hb2; clear hI hb2 hg2)
  clear c0 c1 c02 c12
  go_loopw [20] (fun q wr => ∃ k : Nat, k ≤ l ∧ q = .int .i64 k ∧ Ints wr w1.heap.size (.slice (some ⟨w1.heap.size, 0, none⟩) n1 n1) (degL bs n1 k) ∧ Hid (∀ j, j < k → same n1 bs (gb bs j).1.toNat (gb bs 0).1.toNat = true) ∧ Below w1.heap.size w1 wr) (fun q _ => l - (intOf q).toNat)
  case atStart => exact ⟨0, Nat.zero_le _, rfl, HI.out, Lib.hid fun j h => absurd h (Nat.not_lt_zero _), HB2.out⟩
  case round =>
    clear HI HB2
    obtain ⟨k, hk, rfl, hI, HA, hb⟩ := hrel
    have hz := hb.size
    have hgw := hI.blk.2
    obtain ⟨c0, c1, l03⟩ := (XB.out.below hb XB.out.lt).two
    by_cases hlt : k < l
    · obtain ⟨b, off, rfl, hbw, hA⟩ := HC.out k hlt
      have hA0 := (HC.out 0 (by omega))
      obtain ⟨b', off', e', hbw', hA0⟩ := hA0
      injection e' with e'
      injection e' with e1 e2 e3
      subst e1 e2
      have hlt' : (k : Int) < l := by omega
      have hl0 : (0 : Int) < l := by omega
      have hv := HG.out.at (j := k) (by have := HN.out; omega)
      have hv0 := HG.out.at (j := 0) (by have := HN.out; omega)
      obtain ⟨q0, q1, q2⟩ := (hA.below hbw HB.out).below (Nat.lt_of_lt_of_le hbw s1) hb
      obtain ⟨z0, _, _⟩ := (hA0.below hbw HB.out).below (Nat.lt_of_lt_of_le hbw s1) hb
      rw [Nat.zero_mul, Nat.add_zero] at z0
      have DS := Lib.hid (fun x y z hq hx hy hxy => degL_s (bs := bs) (m := n1) (k := k) (x := x) (y := y) (z := z) hq hx hy hxy)
      have N := Lib.hid (fun g => allS_no (m := n1) (bs := bs) (s := (gb bs 0).1.toNat) (j := k) (by have := HN.out; omega) g)
      have HS := Lib.hid (fun (g : same n1 bs (gb bs k).1.toNat (gb bs 0).1.toNat = true) => (fun j hj => by
        by_cases e : j = k
        · subst e; exact g
        · exact HA.out j (by omega) : ∀ j, j < k + 1 → same n1 bs (gb bs j).1.toNat (gb bs 0).1.toNat = true))
      have EV : Hid (allS n1 bs (gb bs 0).1.toNat = false → evenV n1 bs = false) := Lib.hid (fun g => by unfold evenV; rw [g, Bool.and_false])
      clear hA
      generalize hqk : gb bs k = q at *
      generalize hqz : gb bs 0 = p at *
      obtain ⟨x, y, z⟩ := q
      obtain ⟨x0, y0, z0'⟩ := p
      simp only at hv hv0 q0 q1 q2 z0 N HS EV
      obtain ⟨xi, rfl⟩ := Int.eq_ofNat_of_zero_le hv.1
      obtain ⟨yi, rfl⟩ := Int.eq_ofNat_of_zero_le (show 0 ≤ y by omega)
      obtain ⟨xz, rfl⟩ := Int.eq_ofNat_of_zero_le hv0.1
      have hx : xi < n1 := by omega
      have hy : yi < n1 := by omega
      have hx0 : xz < n1 := by omega
      have hxy : xi ≠ yi := by omega
      have hxy2 : yi ≠ xi := by omega
      have hxI : (xi : Int) < n1 := by omega
      have hyI : (yi : Int) < n1 := by omega
      have hx0I : (xz : Int) < n1 := by omega
      have DS2 := Lib.hid (DS.out xi yi z rfl hx hy hxy)
      have dx := hI.cell (degL_len bs n1 k).symm xi hx
      have dy := hI.cell (degL_len bs n1 k).symm yi hy
      have fx := hI.frz (degL_len bs n1 k).symm xi
      have fy := hI.frz (degL_len bs n1 k).symm yi
      rw [degL_at hx] at dx
      rw [degL_at hy] at dy
      have hgg : g1 ≠ w1.heap.size := by omega
      have hbg : b ≠ w1.heap.size := by omega
      have hwg : w.heap.size ≠ w1.heap.size := by omega
      have hwb : w.heap.size ≠ wr.heap.size := by omega
      have hdx := degTo_le bs xi k
      have hdy := degTo_le bs yi k
      have SM := Lib.hid (show same n1 bs xi xz = decide (gt (lab n1 bs) xi = gt (lab n1 bs) xz) from rfl)
      have hgr : g1 ≠ wr.heap.size := by omega
      have hbr : b ≠ wr.heap.size := by omega
      have S1 := hI.set (degL_len bs n1 k).symm xi ((degTo bs xi k : Int) + 1)
      have S2 := S1.1.set (by rw [List.length_set]; exact (degL_len bs n1 k).symm) yi ((degTo bs yi k : Int) + 1)
      rw [DS2.out] at S2
      have SS := Lib.hid (show Ints (World.alloc _ (.cells #[.int .i64 (xi : Int), .int .i64 (yi : Int), .int .i64 z] 45)) _ _ _ from World.ownsRow.alloc S2.1 (.cells #[.int .i64 (xi : Int), .int .i64 (yi : Int), .int .i64 z] 45))
      have HBs := Lib.hid ((hb.grown (S1.2.trans S2.2) hz (by intro q hq; cases hq; exact Nat.le_refl _)).alloc (by simp; omega) (.cells #[.int .i64 (xi : Int), .int .i64 (yi : Int), .int .i64 z] 45))
      have HX2 := Lib.hid ((Blk.new ((wr.setCell ⟨w1.heap.size, xi, none⟩ (.int .i64 ((degTo bs xi k : Int) + 1))).setCell ⟨w1.heap.size, yi, none⟩ (.int .i64 ((degTo bs yi k : Int) + 1))) #[.int .i64 (xi : Int), .int .i64 (yi : Int), .int .i64 z] 45).at_ (g' := wr.heap.size) (by simp))
      have lx := (HBs.out.cell (p := ⟨g1, xi, none⟩) hg1).trans (HL.out xi hx)
      have lz := (HBs.out.cell (p := ⟨g1, xz, none⟩) hg1).trans (HL.out xz hx0)
      have lb0 := (hA0.below hbw HB.out).1
      rw [Nat.zero_mul, Nat.add_zero] at lb0
      have lb := (HBs.out.cell (p := ⟨b, off, none⟩) (Nat.lt_of_lt_of_le hbw s1)).trans lb0
      have ls := (XB.out.below HBs.out XB.out.lt).two.2.1
      have lq := HX2.out.cell 0
      simp only [List.getElem?_toArray, List.getElem?_cons_zero] at lq
      have LX := Lib.hid lx
      have LZ := Lib.hid lz
      have LB := Lib.hid lb
      have LS := Lib.hid ls
      have LQ := Lib.hid lq
      clear lx lz lb ls lq HX2
      clear hI hb S1 S2 DS DS2 hA0
      generalize gt (lab n1 bs) xi = A at *
      generalize gt (lab n1 bs) xz = C at *
      simp only [Int.toNat_natCast] at N HS EV
      clear H HL hB1 e3
      have HQZ := Lib.hid hqz
      clear hqk hqz
      by_cases hAC : A = C
      · subst hAC
        have R := Lib.hid (HS.out (by rw [SM.out]; simp))
        clear SM N HS EV HA c0 c1
        go_wp2_with fail
        generalize (World.alloc _ _) = wb at *
        have lx := LX.out
        have lz := LZ.out
        have lb := LB.out
        have ls := LS.out
        have lq := LQ.out
        go_quiet (fail)
        go_wp2
        go_roundw
        case rel => exact ⟨k + 1, by omega, by go_num, SS.out.below (by apply below_drewN; exact Below.refl _ _), by first | exact R | (rw [HQZ.out]; exact R), by apply below_drewN; exact HBs.out⟩
        case measure => (simp [intOf]; try omega)
      · have R := Lib.hid (EV.out (N.out (by rw [SM.out]; simp [hAC])))
        have hac : (A == C) = false := by simp [hAC]
        have hac2 : (A != C) = true := by simp [hAC]
        clear SM N HS EV HA c0 c1
        go_wp2_with fail
        generalize (World.alloc _ _) = wb at *
        have lx := LX.out
        have lz := LZ.out
        have lb := LB.out
        have ls := LS.out
        have lq := LQ.out
        go_quiet (fail)
        go_wp2
        go_ret
        exact ⟨ret_bool (by rw [R.out]), HB.out.trans ((show Below w1.heap.size w1 _ by apply below_drewN; exact HBs.out).mono s1)⟩
    · obtain rfl : k = l := by omega
      have AY := Lib.hid (allS_yes (m := n1) (bs := bs) (s := (gb bs 0).1.toNat) (fun j hj => HA.out j (by have := HN.out; omega)))
      have HI := Lib.hid hI
      have HB3 := Lib.hid hb
      have DE := Lib.hid (fun j (hj : j < n1) => (hI.cell (degL_len bs n1 k).symm j hj).trans (by rw [degL_at hj, HN.out] : some (Value.int .i64 (gt (degL bs n1 k) j)) = some (.int .i64 (degTo bs j bs.length))))
      clear hI hb HA
      go_wp2
      go_loop [55] (fun q => ∃ j : Nat, j ≤ n1 ∧ q = .int .i64 j ∧ Hid (∀ i, i < j → degTo bs i bs.length % 2 = 0)) (fun q => n1 - (intOf q).toNat)
      case atStart => exact ⟨0, Nat.zero_le _, rfl, Lib.hid fun j h => absurd h (Nat.not_lt_zero _)⟩
      case round =>
        obtain ⟨j, hj, rfl, HE⟩ := hrel
        by_cases hlt2 : j < n1
        · have hlt' : (j : Int) < n1 := by omega
          have d := DE.out j hlt2
          have hd := degTo_le bs j bs.length
          have N := Lib.hid (fun g => evenB_no (m := n1) (bs := bs) (i := j) hlt2 g)
          have HS := Lib.hid (fun (g : degTo bs j bs.length % 2 = 0) => (fun i hi => by
            by_cases e : i = j
            · subst e; exact g
            · exact HE.out i (by omega) : ∀ i, i < j + 1 → degTo bs i bs.length % 2 = 0))
          generalize degTo bs j bs.length = dv at *
          have d2 : dv % 2 = 0 ∨ dv % 2 = 1 := by omega
          rcases d2 with d2 | d2
          · have R := Lib.hid (HS.out d2)
            have hi2 : Int.tmod (dv : Int) 2 = 0 := by rw [Int.tmod_eq_emod_of_nonneg (by omega)]; omega
            clear N HS d2 HE
            go_wp2
            go_round
            case rel => exact ⟨j + 1, by omega, by go_num, R⟩
            case measure => (simp [intOf]; try omega)
          · have R := Lib.hid (N.out d2)
            have hi2 : Int.tmod (dv : Int) 2 = 1 := by rw [Int.tmod_eq_emod_of_nonneg (by omega)]; omega
            clear N HS d2 HE
            go_wp2
            go_ret
            exact ⟨ret_bool (by unfold evenV; rw [R.out]; rfl), HB.out.trans (HB3.out.mono s1)⟩
        · obtain rfl : j = n1 := by omega
          have R := Lib.hid (evenB_yes HE.out)
          go_wp2
          go_ret
          exact ⟨ret_bool (by unfold evenV; rw [R.out, AY.out]; rfl), HB.out.trans (HB3.out.mono s1)⟩
end Go.Proofs.Ytihdhgkknfohaad
