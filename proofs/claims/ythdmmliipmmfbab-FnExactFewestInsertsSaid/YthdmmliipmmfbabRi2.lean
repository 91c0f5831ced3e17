/- LongestRising and FewestInserts by spec: ptRising. (gen_ri2.py writes it.) -/
import Derived.Test.YthdmmliipmmfbabRi1
import Derived.Test.YthdmmliipmmfbabOst
import Derived.Test.YthdmmliipmmfbabIfi
import Derived.Test.YthdmmliipmmfbabOe
import Derived.Deep.CutRange
import Derived.Deep.DeepCutAuto
import Derived.Deep.QuietTactic
import Derived.BigQuiet
namespace Go.Proofs.Ythdmmliipmmfbab
set_option linter.unusedVariables false
open Go.RowKit

theorem neq_gtR {zs : List Int} (h : isOrd zs = true) {i j : Nat} (hi : i < zs.length) (hj : j < zs.length) (hij : i ≠ j) : gt zs i ≠ gt zs j := by
  have hn := (isOrd_iff.1 h).2.2
  simp only [gt, List.getD_eq_getElem?_getD, List.getElem?_eq_getElem hi, List.getElem?_eq_getElem hj, Option.getD_some]
  intro e
  exact hij ((List.getElem_inj hn).1 e)
set_option maxHeartbeats 8000000 in
theorem ptRising {zs : List Int} (ho : isOrd zs = true) (D : Nat) : ∀ (p : Nat) (x : Int) (bg : List Nat) (v u : Value) (w : World), zs.length - p ≤ D → Rd w v zs → Rd w u (idx bg) → (∀ c, u = .slice none 0 c → c = 0) → ((bg = [] ∧ p = 0 ∧ x = 0) ∨ ∃ l q, bg = l ++ [q] ∧ p = q + 1 ∧ q < zs.length ∧ x = gt zs q) → bg.length + (zs.length - p) ≤ 8 → p ≤ zs.length →
    Calls Try.prog 40 #[v, u] w fun e w' => ∃ g c, e = .returned (.slice (some ⟨g, 0, none⟩) (bg ++ RS zs p x).length c) ∧ Ints w' w.heap.size (.slice (some ⟨g, 0, none⟩) (bg ++ RS zs p x).length c) (idx (bg ++ RS zs p x)) ∧ Below w.heap.size w w' := by
  induction D using Nat.strongRecOn with
  | _ D IH0 =>
  intro p x bg v u w hD hv hu hun hbg hlen hpn
  have IH : ∀ D', D' < D → _ := IH0
  clear IH0
  have hz8 := (isOrd_len ho).2
  have hz1 := (isOrd_len ho).1
  obtain ⟨b1, o1, n, c1v, hv1, hnz, hnc, hc9, hbw, hcell⟩ := hv.openP (by omega)
  subst hv1
  rw [← hnz] at hD hlen hpn hz1
  have hnle : n ≤ 8 := by omega
  obtain ⟨kk, hkk⟩ : ∃ kk, kk = bg.length := ⟨_, rfl⟩
  rw [← hkk] at hlen
  have HKK := Lib.hid hkk.symm
  have HN := Lib.hid hnz
  have HC := Lib.hid hcell
  have HRV := Lib.hid hv
  have HRU := Lib.hid hu
  have HU := Lib.hid hun
  have RA := Lib.hid (show rsF zs (RS zs) p x (n - p) [] = RS zs p x by rw [hnz]; exact (RS_at hz8 p x).symm)
  have OW0 := Lib.hid (l1OwnN u (idx bg) kk (by rw [idx_len]; exact hkk.symm) w w (Below.refl _ _) hu hun (by omega))
  obtain ⟨d, hd⟩ : ∃ d, d = w.heap.size := ⟨_, rfl⟩
  have HD := Lib.hid hd
  have hb1d : b1 < d := by omega
  rcases hbg with ⟨hbgE, hpE, hxE⟩ | ⟨l, q, hbgE, hpE, hqn, hxE⟩
  · have hk0 : kk = 0 := by rw [hkk, hbgE]; rfl
    have HX0 := Lib.hid (fun j (hj : j < n) => (show x < gt zs j by have := isOrd_at ho (j := j) (by omega); omega))
    have ATI := Lib.hid (show Value.int .i64 0 = .int .i64 ((p : Nat) : Int) by rw [hpE]; rfl)
    obtain ⟨ua, un, uc, hu1, hun2, _⟩ := hu.cells
    rw [idx_len, ← hkk, hk0] at hun2
    subst hun2
    subst hu1
    rw [hk0] at OW0
    have HK0 := Lib.hid hk0
    clear hbgE hpE hxE hnz hkk hcell hv hu hun hd hk0
    go_enter Try.func40, Try.ntmps40
    go_wp2_with fail
    refine OW0.out.mono ?_
    rintro e w0 ⟨g0, c0, rfl, hI0, hb0, hs0⟩
    have HI0 : Hid (Ints w0 d (.slice (some ⟨g0, 0, none⟩) (kk + 0) c0) (idx bg)) := Lib.hid (by rw [HK0.out, HD.out]; exact hI0)
    have HB0 : Hid (Below d w w0) := Lib.hid (by rw [HD.out]; exact hb0)
    clear hI0 hb0 hs0
    go_wp2
    go_loopw [5, 8] (fun b i wr => ∃ (j : Nat) (bb : List Nat) (gb cb : Nat), p ≤ j ∧ j ≤ n ∧ i = .int .i64 j ∧ b = .slice (some ⟨gb, 0, none⟩) (kk + bb.length) cb ∧ Hid (rsF zs (RS zs) j x (n - j) bb = RS zs p x ∧ bb.length ≤ 10) ∧ Hid (Ints wr d (.slice (some ⟨gb, 0, none⟩) (kk + bb.length) cb) (idx (bg ++ bb))) ∧ Hid (Below d w wr)) (fun _ i _ => n - (intOf i).toNat)
    case atStart => exact ⟨p, [], g0, c0, Nat.le_refl _, hpn, ATI.out, (by first | rfl | (rw [HK0.out] <;> rfl)), Lib.hid ⟨RA.out, by simp⟩, Lib.hid (by rw [List.append_nil]; exact HI0.out), HB0⟩
    case round =>
      clear HI0 HB0
      obtain ⟨j, bb, gb, cb, hpj, hj, rfl, rfl, HF, HI, HBW⟩ := hrel
      by_cases hlt : j < n
      · have hlt' : (j : Int) < n := by omega
        have EF := Lib.hid (show rsF zs (RS zs) (j + 1) x (n - (j + 1)) (rsB zs (RS zs) bb j x) = RS zs p x by
          have := HF.out.1
          rw [show n - j = (n - (j + 1)) + 1 by omega, rsF] at this
          exact this)
        have HWQ := Lib.hid (fun q => below_drewN HBW.out q)
        have HIQ := Lib.hid (fun q => HI.out.below (below_drewN (Below.refl wr.heap.size wr) q))
        have hbl := HF.out.2
        by_cases hxj : ¬ x < gt zs j
        · have NX := Lib.hid (show rsB zs (RS zs) bb j x = bb by unfold rsB; rw [if_neg (fun h => hxj h.1)])
          have hxj2 := Lib.hid hxj
          clear hxj
          exact absurd (HX0.out j hlt) hxj2.out
        · have hxj2 : Hid (x < gt zs j) := Lib.hid (by omega)
          have LR := Lib.hid (RS_le hz8 (j + 1) (gt zs j))
          have NX := Lib.hid (show rsB zs (RS zs) bb j x = if bb.length < (RS zs (j + 1) (gt zs j)).length + 1 then j :: RS zs (j + 1) (gt zs j) else bb by
            unfold rsB
            by_cases c : bb.length < (RS zs (j + 1) (gt zs j)).length + 1
            · rw [if_pos ⟨hxj2.out, c⟩, if_pos c]
            · rw [if_neg (fun h => c h.2), if_neg c])
          have HP1 := Lib.hid (show (bg ++ [j]).length + (zs.length - (j + 1)) ≤ 8 by rw [List.length_append, List.length_singleton, ← HN.out]; have := HKK.out; omega)
          have HP2 := Lib.hid (show j + 1 ≤ zs.length by rw [← HN.out]; omega)
          have HP3 := Lib.hid (show (bg ++ [j] = [] ∧ j + 1 = 0 ∧ gt zs j = 0) ∨ ∃ l q, bg ++ [j] = l ++ [q] ∧ j + 1 = q + 1 ∧ q < zs.length ∧ gt zs j = gt zs q from .inr ⟨bg, j, rfl, rfl, by rw [← HN.out]; exact hlt, rfl⟩)
          clear hxj
          have IHJ := Lib.hid (fun V U W h1 h2 => IH (n - (j + 1)) (by omega) (j + 1) (gt zs j) (bg ++ [j]) V U W (by rw [← HN.out]; exact Nat.le_refl _) h1 h2)
          generalize gt zs j = y at *
          go_upto_region 10 with fail
          go_quiet (fail)
          generalize hwq : World.drewN wr _ = wq
          have HWB : Hid (Below d w wq) := Lib.hid (by rw [← hwq]; exact HWQ.out _)
          have HIW : Hid (Ints wq d (.slice (some ⟨gb, 0, none⟩) (kk + bb.length) cb) (idx (bg ++ bb))) := Lib.hid (by rw [← hwq]; exact HIQ.out _)
          clear hwq HWQ HIQ HI HBW
          have hws := HWB.out.size
          have hwd : d ≤ wq.heap.size := by have := HD.out; omega
          have RU := Lib.hid (HRU.out.below (by have := HWB.out; rw [HD.out] at this; exact this))
          have RV := Lib.hid (HRV.out.below (by have := HWB.out; rw [HD.out] at this; exact this))
          have OW := Lib.hid (l1OwnN _ (idx bg) kk (by rw [idx_len]; exact HKK.out) wq wq (Below.refl _ _) RU.out HU.out (by omega))
          have HLB : (idx bg).length < 16777216 := by rw [idx_len]; have := HKK.out; omega
          clear RU
          go_upto_region 11 with fail
          go_wp2_with fail
          refine OW.out.mono ?_
          rintro e w1 ⟨g1, c1, rfl, hI1, hb1, hs1⟩
          have HI1 := Lib.hid hI1
          have HB1 := Lib.hid hb1
          clear hI1 hb1
          go_wp2_with (at_builtin; refine wpList_app w1 rfl _ _ rfl wq.heap.size _ (idx bg) rfl HI1.out (j : Int) rfl HLB hs1 rfl ?_; intro v2 w2 hI2 hb2 hg2; rw [idx_snoc] at hI2; obtain ⟨g2, n2, c2, rfl, hn2, _⟩ := hI2.form (by rw [idx_len]; simp); have HI2 := Lib.hid hI2; have HB2 := Lib.hid (HB1.out.trans hb2); have CI := Lib.hid (IHJ.out _ _ w2 (RV.out.below HB2.out) hI2.rd (by intro c e; cases e) HP3.out HP1.out HP2.out); clear hI2 hb2 hg2 hn2 HI1)
          go_wp2_with fail
          refine CI.out.mono ?_
          rintro e w3 ⟨g3, c3, rfl, hI3, hb3⟩
          have EL : (bg ++ [j] ++ RS zs (j + 1) y).length = kk + 1 + (RS zs (j + 1) y).length := by rw [List.length_append, List.length_append, List.length_singleton, HKK.out]
          have EA : bg ++ [j] ++ RS zs (j + 1) y = bg ++ (j :: RS zs (j + 1) y) := by simp
          rw [EL] at hI3 ⊢
          rw [EA] at hI3
          have hs2 := HB2.out.size
          have HB3 := Lib.hid (HB2.out.trans (hb3.mono hs2))
          have HI3 := Lib.hid hI3
          have HIB := Lib.hid (HIW.out.below HB3.out)
          have HB4 := Lib.hid (HWB.out.trans (HB3.out.mono hwd))
          have hw2 : d ≤ w2.heap.size := by omega
          have hRl := LR.out
          obtain ⟨R, hR⟩ : ∃ R, R = (RS zs (j + 1) y).length := ⟨_, rfl⟩
          have HRR := Lib.hid hR
          rw [← hR] at HI3 NX hRl ⊢
          clear hI3 hb3 hR EL EA CI
          by_cases hc : bb.length < R + 1
          · have hc1 : (kk : Int) + bb.length < (kk : Int) + 1 + R := by omega
            have hc2 : kk + bb.length < kk + 1 + R := by omega
            have EF2 := Lib.hid (show rsF zs (RS zs) (j + 1) x (n - (j + 1)) (j :: RS zs (j + 1) y) = RS zs p x by have := EF.out; rw [NX.out, if_pos hc] at this; exact this)
            have HLL := Lib.hid (show (j :: RS zs (j + 1) y).length = R + 1 by rw [List.length_cons, HRR.out])
            clear NX EF HF
            go_wp2
            go_roundw
            case rel => exact ⟨j + 1, j :: RS zs (j + 1) y, g3, c3, by omega, by omega, by go_num, by rw [HLL.out, Nat.add_assoc, Nat.add_comm 1 R], Lib.hid ⟨EF2.out, by rw [HLL.out]; omega⟩, Lib.hid (by rw [HLL.out, show kk + (R + 1) = kk + 1 + R by omega]; exact ints_mono' HI3.out hw2), HB4⟩
            case measure => (simp [intOf]; try omega)
          · have hc1 : ¬ ((kk : Int) + bb.length < (kk : Int) + 1 + R) := by omega
            have hc2 : ¬ (kk + bb.length < kk + 1 + R) := by omega
            have EF2 := Lib.hid (show rsF zs (RS zs) (j + 1) x (n - (j + 1)) bb = RS zs p x by have := EF.out; rw [NX.out, if_neg hc] at this; exact this)
            clear NX EF HF
            go_wp2
            go_roundw
            case rel => exact ⟨j + 1, bb, gb, cb, by omega, by omega, by go_num, rfl, Lib.hid ⟨EF2.out, hbl⟩, HIB, HB4⟩
            case measure => (simp [intOf]; try omega)
      · obtain rfl : j = n := by omega
        have E := Lib.hid (show bb = RS zs p x by have := HF.out.1; rw [Nat.sub_self, rsF] at this; exact this)
        go_wp2
        go_ret
        exact ⟨gb, cb, by rw [← E.out, List.length_append, HKK.out] <;> rfl, by rw [← E.out, List.length_append, HKK.out, ← HD.out]; exact HI.out, by rw [← HD.out]; exact HBW.out⟩
  · have hm : l.length + 1 = kk := by rw [hkk, hbgE]; simp
    obtain ⟨b2, o2, m2, c2u, hu1, hm2, hmc2, hcc2, hb2w, hcu⟩ := hu.openP (by rw [idx_len, hbgE]; simp)
    rw [idx_len, ← hkk] at hm2
    have hm3 : kk = m2 := hm2.symm
    subst hm3
    subst hu1
    obtain ⟨m, hmm⟩ : ∃ m, m = l.length := ⟨_, rfl⟩
    rw [← hmm] at hm
    have hcu1 := hcu m (by omega)
    rw [idx_gt, hbgE, show (l ++ [q]).getD m 0 = q by rw [hmm]; simp] at hcu1
    have HCU := Lib.hid hcu1
    have HCQ := Lib.hid (show w.cell? ⟨b1, o1 + q, none⟩ = some (.int .i64 x) by rw [hcell q (by omega), hxE])
    have HNE := Lib.hid (fun j (h1 : p ≤ j) (h2 : j < n) => (show gt zs j ≠ x by rw [hxE]; exact neq_gtR ho (by omega) hqn (by omega)))
    have ATI := Lib.hid (show Value.int .i64 ((q : Int) + 1) = .int .i64 ((p : Nat) : Int) by rw [hpE]; rfl)
    have hb2d : b2 < d := by omega
    have hmk : (kk : Int) - 1 = (m : Int) := by omega
    have hmk2 : (kk : Int) + -1 = (m : Int) := by omega
    have hwk : IntKind.i64.wrap ((kk : Int) - 1) = (m : Int) := by rw [hmk]; exact IntWalk.i64_in _ (by omega)
    have hwk2 : IntKind.i64.wrap (m : Int) = (m : Int) := IntWalk.i64_in _ (by omega)
    have hmI : (m : Int) < kk := by omega
    have hkp : (0 : Int) < kk := by omega
    have hkN : 0 < kk := by omega
    have hdec : decide (0 < kk) = true := decide_eq_true hkN
    have hqI : (q : Int) < n := by omega
    have hq9 : q < n := by omega
    clear hbgE hpE hxE hnz hkk hcell hv hu hun hd hm2 hcu hcu1 hmm hm hqn
    go_enter Try.func40, Try.ntmps40
    go_wp2_with fail
    refine OW0.out.mono ?_
    rintro e w0 ⟨g0, c0, rfl, hI0, hb0, hs0⟩
    have HI0 : Hid (Ints w0 d (.slice (some ⟨g0, 0, none⟩) (kk + 0) c0) (idx bg)) := Lib.hid (by rw [HD.out]; exact hI0)
    have HB0 : Hid (Below d w w0) := Lib.hid (by rw [HD.out]; exact hb0)
    have cu0 := (HB0.out.cell (p := ⟨b2, o2 + m, none⟩) hb2d).trans HCU.out
    clear hI0 hb0 hs0
    go_wp2
    clear cu0
    go_loopw [5, 8] (fun b i wr => ∃ (j : Nat) (bb : List Nat) (gb cb : Nat), p ≤ j ∧ j ≤ n ∧ i = .int .i64 j ∧ b = .slice (some ⟨gb, 0, none⟩) (kk + bb.length) cb ∧ Hid (rsF zs (RS zs) j x (n - j) bb = RS zs p x ∧ bb.length ≤ 10) ∧ Hid (Ints wr d (.slice (some ⟨gb, 0, none⟩) (kk + bb.length) cb) (idx (bg ++ bb))) ∧ Hid (Below d w wr)) (fun _ i _ => n - (intOf i).toNat)
    case atStart => exact ⟨p, [], g0, c0, Nat.le_refl _, hpn, ATI.out, (by first | rfl | (rw [HK0.out] <;> rfl)), Lib.hid ⟨RA.out, by simp⟩, Lib.hid (by rw [List.append_nil]; exact HI0.out), HB0⟩
    case round =>
      clear HI0 HB0
      obtain ⟨j, bb, gb, cb, hpj, hj, rfl, rfl, HF, HI, HBW⟩ := hrel
      by_cases hlt : j < n
      · have hlt' : (j : Int) < n := by omega
        have EF := Lib.hid (show rsF zs (RS zs) (j + 1) x (n - (j + 1)) (rsB zs (RS zs) bb j x) = RS zs p x by
          have := HF.out.1
          rw [show n - j = (n - (j + 1)) + 1 by omega, rsF] at this
          exact this)
        have HWQ := Lib.hid (fun q => below_drewN HBW.out q)
        have HIQ := Lib.hid (fun q => HI.out.below (below_drewN (Below.refl wr.heap.size wr) q))
        have hbl := HF.out.2
        have cj := (HBW.out.cell (p := ⟨b1, o1 + j, none⟩) hb1d).trans (HC.out j hlt)
        have cq := (HBW.out.cell (p := ⟨b1, o1 + q, none⟩) hb1d).trans HCQ.out
        have cu := (HBW.out.cell (p := ⟨b2, o2 + m, none⟩) hb2d).trans HCU.out
        have hne := HNE.out j hpj hlt
        by_cases hxj : ¬ x < gt zs j
        · have NX := Lib.hid (show rsB zs (RS zs) bb j x = bb by unfold rsB; rw [if_neg (fun h => hxj h.1)])
          have hxj2 := Lib.hid hxj
          clear hxj
          have hlt2 : gt zs j < x := by have := hxj2.out; omega
          have hgj := Lib.hid hne
          clear hne
          have NX2 := Lib.hid (show rsF zs (RS zs) (j + 1) x (n - (j + 1)) bb = RS zs p x by rw [← NX.out]; exact EF.out)
          clear NX EF HF hxj2 hgj HI HBW
          generalize gt zs j = y at *
          go_upto_region 10 with fail
          go_quiet (fail)
          go_wp2
          go_roundw
          case rel => exact ⟨j + 1, bb, gb, cb, by omega, by omega, by go_num, rfl, Lib.hid ⟨NX2.out, hbl⟩, Lib.hid (HIQ.out _), Lib.hid (HWQ.out _)⟩
          case measure => (simp [intOf]; try omega)
        · have hxj2 : Hid (x < gt zs j) := Lib.hid (by omega)
          have LR := Lib.hid (RS_le hz8 (j + 1) (gt zs j))
          have NX := Lib.hid (show rsB zs (RS zs) bb j x = if bb.length < (RS zs (j + 1) (gt zs j)).length + 1 then j :: RS zs (j + 1) (gt zs j) else bb by
            unfold rsB
            by_cases c : bb.length < (RS zs (j + 1) (gt zs j)).length + 1
            · rw [if_pos ⟨hxj2.out, c⟩, if_pos c]
            · rw [if_neg (fun h => c h.2), if_neg c])
          have HP1 := Lib.hid (show (bg ++ [j]).length + (zs.length - (j + 1)) ≤ 8 by rw [List.length_append, List.length_singleton, ← HN.out]; have := HKK.out; omega)
          have HP2 := Lib.hid (show j + 1 ≤ zs.length by rw [← HN.out]; omega)
          have HP3 := Lib.hid (show (bg ++ [j] = [] ∧ j + 1 = 0 ∧ gt zs j = 0) ∨ ∃ l q, bg ++ [j] = l ++ [q] ∧ j + 1 = q + 1 ∧ q < zs.length ∧ gt zs j = gt zs q from .inr ⟨bg, j, rfl, rfl, by rw [← HN.out]; exact hlt, rfl⟩)
          clear hxj
          have hlt2 : ¬ gt zs j < x := by have := hxj2.out; omega
          clear hne
          have IHJ := Lib.hid (fun V U W h1 h2 => IH (n - (j + 1)) (by omega) (j + 1) (gt zs j) (bg ++ [j]) V U W (by rw [← HN.out]; exact Nat.le_refl _) h1 h2)
          generalize gt zs j = y at *
          go_upto_region 10 with fail
          go_quiet (fail)
          generalize hwq : World.drewN wr _ = wq
          have HWB : Hid (Below d w wq) := Lib.hid (by rw [← hwq]; exact HWQ.out _)
          have HIW : Hid (Ints wq d (.slice (some ⟨gb, 0, none⟩) (kk + bb.length) cb) (idx (bg ++ bb))) := Lib.hid (by rw [← hwq]; exact HIQ.out _)
          clear hwq HWQ HIQ HI HBW
          have hws := HWB.out.size
          have hwd : d ≤ wq.heap.size := by have := HD.out; omega
          have RU := Lib.hid (HRU.out.below (by have := HWB.out; rw [HD.out] at this; exact this))
          have RV := Lib.hid (HRV.out.below (by have := HWB.out; rw [HD.out] at this; exact this))
          have OW := Lib.hid (l1OwnN _ (idx bg) kk (by rw [idx_len]; exact HKK.out) wq wq (Below.refl _ _) RU.out HU.out (by omega))
          have HLB : (idx bg).length < 16777216 := by rw [idx_len]; have := HKK.out; omega
          clear RU
          go_upto_region 11 with fail
          go_wp2_with fail
          refine OW.out.mono ?_
          rintro e w1 ⟨g1, c1, rfl, hI1, hb1, hs1⟩
          have HI1 := Lib.hid hI1
          have HB1 := Lib.hid hb1
          clear hI1 hb1
          go_wp2_with (at_builtin; refine wpList_app w1 rfl _ _ rfl wq.heap.size _ (idx bg) rfl HI1.out (j : Int) rfl HLB hs1 rfl ?_; intro v2 w2 hI2 hb2 hg2; rw [idx_snoc] at hI2; obtain ⟨g2, n2, c2, rfl, hn2, _⟩ := hI2.form (by rw [idx_len]; simp); have HI2 := Lib.hid hI2; have HB2 := Lib.hid (HB1.out.trans hb2); have CI := Lib.hid (IHJ.out _ _ w2 (RV.out.below HB2.out) hI2.rd (by intro c e; cases e) HP3.out HP1.out HP2.out); clear hI2 hb2 hg2 hn2 HI1)
          go_wp2_with fail
          refine CI.out.mono ?_
          rintro e w3 ⟨g3, c3, rfl, hI3, hb3⟩
          have EL : (bg ++ [j] ++ RS zs (j + 1) y).length = kk + 1 + (RS zs (j + 1) y).length := by rw [List.length_append, List.length_append, List.length_singleton, HKK.out]
          have EA : bg ++ [j] ++ RS zs (j + 1) y = bg ++ (j :: RS zs (j + 1) y) := by simp
          rw [EL] at hI3 ⊢
          rw [EA] at hI3
          have hs2 := HB2.out.size
          have HB3 := Lib.hid (HB2.out.trans (hb3.mono hs2))
          have HI3 := Lib.hid hI3
          have HIB := Lib.hid (HIW.out.below HB3.out)
          have HB4 := Lib.hid (HWB.out.trans (HB3.out.mono hwd))
          have hw2 : d ≤ w2.heap.size := by omega
          have hRl := LR.out
          obtain ⟨R, hR⟩ : ∃ R, R = (RS zs (j + 1) y).length := ⟨_, rfl⟩
          have HRR := Lib.hid hR
          rw [← hR] at HI3 NX hRl ⊢
          clear hI3 hb3 hR EL EA CI
          by_cases hc : bb.length < R + 1
          · have hc1 : (kk : Int) + bb.length < (kk : Int) + 1 + R := by omega
            have hc2 : kk + bb.length < kk + 1 + R := by omega
            have EF2 := Lib.hid (show rsF zs (RS zs) (j + 1) x (n - (j + 1)) (j :: RS zs (j + 1) y) = RS zs p x by have := EF.out; rw [NX.out, if_pos hc] at this; exact this)
            have HLL := Lib.hid (show (j :: RS zs (j + 1) y).length = R + 1 by rw [List.length_cons, HRR.out])
            clear NX EF HF
            go_wp2
            go_roundw
            case rel => exact ⟨j + 1, j :: RS zs (j + 1) y, g3, c3, by omega, by omega, by go_num, by rw [HLL.out, Nat.add_assoc, Nat.add_comm 1 R], Lib.hid ⟨EF2.out, by rw [HLL.out]; omega⟩, Lib.hid (by rw [HLL.out, show kk + (R + 1) = kk + 1 + R by omega]; exact ints_mono' HI3.out hw2), HB4⟩
            case measure => (simp [intOf]; try omega)
          · have hc1 : ¬ ((kk : Int) + bb.length < (kk : Int) + 1 + R) := by omega
            have hc2 : ¬ (kk + bb.length < kk + 1 + R) := by omega
            have EF2 := Lib.hid (show rsF zs (RS zs) (j + 1) x (n - (j + 1)) bb = RS zs p x by have := EF.out; rw [NX.out, if_neg hc] at this; exact this)
            clear NX EF HF
            go_wp2
            go_roundw
            case rel => exact ⟨j + 1, bb, gb, cb, by omega, by omega, by go_num, rfl, Lib.hid ⟨EF2.out, hbl⟩, HIB, HB4⟩
            case measure => (simp [intOf]; try omega)
      · obtain rfl : j = n := by omega
        have E := Lib.hid (show bb = RS zs p x by have := HF.out.1; rw [Nat.sub_self, rsF] at this; exact this)
        go_wp2
        go_ret
        exact ⟨gb, cb, by rw [← E.out, List.length_append, HKK.out] <;> rfl, by rw [← E.out, List.length_append, HKK.out, ← HD.out]; exact HI.out, by rw [← HD.out]; exact HBW.out⟩
end Go.Proofs.Ythdmmliipmmfbab
