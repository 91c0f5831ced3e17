/- FirstNeighbourSwaps, impl and spec. -/
import Derived.Test.YthdmmliipmmfbaaOq
import Derived.Test.YthdmmliipmmfbaaOj
import Derived.Test.YthdmmliipmmfbaaOst
import Derived.Deep.CutRange
import Derived.Deep.DeepCutAuto
import Derived.Deep.QuietTactic
import Derived.BigQuiet
namespace Go.Proofs.Ythdmmliipmmfbaa
set_option linter.unusedVariables false
open Go.RowKit

theorem swp_nsw (zs : List Int) (i : Nat) : swp zs i (i + 1) = nsw zs i := rfl
def lenOf : Value → Nat | .slice _ n _ => n | _ => 0
theorem Ints.lenOf {w : World} {B : Nat} {v : Value} {zs : List Int} (h : Ints w B v zs) : lenOf v = zs.length := by
  rcases h.2 with ⟨rfl, h0⟩ | ⟨g, cap, cur, rfl, _⟩
  · rw [h0]; rfl
  · rfl
theorem ns_go {zs cur pre : List Int} {p : Nat} (hi : p + 1 < cur.length) (h : noD cur p) (hd : gt cur (p + 1) < gt cur p) (he : pre ++ nsS (invs cur) cur = nsS (invs zs) zs) :
    (pre ++ [(p : Int)]) ++ nsS (invs (nsw cur p)) (nsw cur p) = nsS (invs zs) zs := by
  rw [← he, nsS_step hi h hd]; simp
theorem ns_end {zs cur pre : List Int} (h : noD cur (cur.length - 1)) (he : pre ++ nsS (invs cur) cur = nsS (invs zs) zs) : pre = nsS (invs zs) zs := by
  rw [invs_zero h] at he
  rw [← he]; simp [nsS]
theorem neq_gt {zs : List Int} (h : isOrd zs = true) {i j : Nat} (hi : i < zs.length) (hj : j < zs.length) (hij : i ≠ j) : gt zs i ≠ gt zs j := by
  have hn := (isOrd_iff.1 h).2.2
  simp only [gt, List.getD_eq_getElem?_getD, List.getElem?_eq_getElem hi, List.getElem?_eq_getElem hj, Option.getD_some]
  intro e
  exact hij ((List.getElem_inj hn).1 e)
set_option maxHeartbeats 4000000 in
theorem implFns (v : Value) (zs : List Int) (w : World) (h : Rd w v zs) (hn : zs.length ≤ 1048576) :
    Calls Try.prog 17 #[v] w (IntsQ w.heap.size (nsL zs) (isOrd zs) w) := by
  have HA := Lib.hid (implIsOrder v zs w h hn)
  cases hp : isOrd zs
  · have J := Lib.hid (nsL_no hp)
    rw [hp] at HA
    clear h hp
    go_enter Try.func17, Try.ntmps17
    go_wp2_with (go_at_call 12; refine HA.out.mono ?_; rintro e w' ⟨rfl, rfl⟩)
    go_ret2
    exact ⟨_, rfl, by rw [J.out]; exact World.ownsRow_nil _ _ _ _, Below.refl _ _⟩
  · have hl := isOrd_len hp
    have J := Lib.hid (nsL_yes hp)
    have CL := Lib.hid (cloneZ v zs w h (by omega) (by omega))
    obtain ⟨n, hnz⟩ : ∃ n, n = zs.length := ⟨_, rfl⟩
    rw [← hnz] at CL hl
    have HN := Lib.hid hnz
    have HO := Lib.hid hp
    rw [hp] at HA
    clear h hn hnz hp
    go_enter Try.func17, Try.ntmps17
    go_upto_region 4 with (first
      | (go_at_call 12; refine HA.out.mono ?_; rintro e w' ⟨rfl, rfl⟩)
      | (go_at_call 34; refine CL.out.mono ?_; rintro e w1 ⟨g, c, rfl, hI, hb1⟩))
    have hblk := hI.blk
    have hle := hb1.size
    obtain ⟨d, hd⟩ : ∃ d, d = w1.heap.size := ⟨_, rfl⟩
    have HD := Lib.hid hd
    obtain ⟨d0, hd0⟩ : ∃ d0, d0 = w.heap.size := ⟨_, rfl⟩
    have HD0 := Lib.hid hd0
    rw [← hd0] at hI hb1 hblk hle
    rw [← hd] at hblk hle
    have HI := Lib.hid hI
    have HB := Lib.hid hb1
    clear hI hb1 hd hd0
    go_wp2
    go_loopw [5, 6] (fun o i wr => ∃ (p : Nat) (cur pre : List Int), p + 1 ≤ n ∧ i = .int .i64 p ∧ Hid (n = cur.length ∧ isOrd cur = true ∧ noD cur p ∧ pre ++ nsS (invs cur) cur = nsS (invs zs) zs ∧ pre.length + invs cur ≤ 64) ∧ Hid (Ints wr d0 (.slice (some ⟨g, 0, none⟩) n c) cur) ∧ Hid (Ints wr d o pre) ∧ Hid (Below d0 w wr) ∧ d ≤ wr.heap.size) (fun o i _ => (64 - lenOf o) * 9 + (n - (intOf i).toNat))
    case atStart => exact ⟨0, zs, [], by omega, rfl, Lib.hid ⟨HN.out, HO.out, fun j hj => absurd hj (Nat.not_lt_zero _), rfl, by have := invs_le (zs := zs) (by have := HN.out; omega); simpa using this⟩, HI, Lib.hid (World.ownsRow_nil _ _ _ _), HB, by have := HD.out; omega⟩
    case round =>
      clear HI HB
      obtain ⟨p, cur, pre, hp, rfl, HP, HI, HS, HB, hd⟩ := hrel
      have hcn := HP.out.1
      by_cases hlt : p + 1 < n
      · have hlt' : (p : Int) + 1 < n := by omega
        have hltp : (p : Int) < n := by omega
        have c1 := HI.out.cell hcn p (by omega)
        have c2 := HI.out.cell hcn (p + 1) hlt
        have hne := neq_gt HP.out.2.1 (i := p) (j := p + 1) (by omega) (by omega) (by omega)
        have hS0 := Lib.hid HS.out.lenOf
        have hAB : Hid (∀ q, Ints (wr.drewN q) d0 (.slice (some ⟨g, 0, none⟩) n c) cur ∧ Ints (wr.drewN q) d u5 pre ∧ Below d0 w (wr.drewN q) ∧ d ≤ (wr.drewN q).heap.size) := Lib.hid (fun q => by
          have b := below_drewN (Below.refl wr.heap.size wr) q
          exact ⟨HI.out.below b, HS.out.below b, below_drewN HB.out q, Nat.le_trans hd b.size⟩)
        clear HI HS HB hd
        by_cases hd1 : gt cur (p + 1) < gt cur p
        · have hnlt : ¬ gt cur p < gt cur (p + 1) := by omega
          have P2 := Lib.hid (ns_go (zs := zs) (by omega) HP.out.2.2.1 hd1 HP.out.2.2.2.1)
          have P3 := Lib.hid (nsw_inv (zs := cur) (i := p) (by omega) hd1)
          have P4 := Lib.hid (nsw_ord (zs := cur) (i := p) (by omega) HP.out.2.1)
          have P5 := Lib.hid (noD_nsw HP.out.2.2.1)
          have P6 := Lib.hid (show n = (nsw cur p).length by rw [nsw_len]; exact hcn)
          have hpl : pre.length < 16777216 := by have := HP.out.2.2.2.2; omega
          have hp8 : p < n := by omega
          have hcn' := Lib.hid hcn
          clear hcn
          generalize hA : gt cur p = A at *
          generalize hB : gt cur (p + 1) = B at *
          go_wp2
          go_quiet (fail)
          go_upto_region 9 with fail
          generalize hwd : World.drewN wr _ = wd
          have HX := hAB.out
          rw [show ∀ q, wr.drewN q = wr.drewN q from fun _ => rfl] at hwd
          have HX2 : Ints wd d0 (.slice (some ⟨g, 0, none⟩) n c) cur ∧ Ints wd d u5 pre ∧ Below d0 w wd ∧ d ≤ wd.heap.size := by rw [← hwd]; exact HX _
          obtain ⟨hI, hS, hB2, hd⟩ := HX2
          clear hwd hAB HX c1 c2
          have c1 := hI.cell hcn'.out p hp8
          have c2 := hI.cell hcn'.out (p + 1) hlt
          rw [hA] at c1
          rw [hB] at c2
          have f1 := hI.frz hcn'.out p
          have f2 := hI.frz hcn'.out (p + 1)
          have S := hI.swap hcn'.out p (p + 1)
          rw [swp_nsw, hA, hB] at S
          have SI := Lib.hid (S.1.below (below_drewN (Below.refl _ _) 1))
          have SB := Lib.hid (below_drewN (hB2.grown S.2 (by have := hB2.size; have := HD0.out; omega) (by intro j hj; cases hj; exact hblk.1)) 1)
          have SS := Lib.hid ((hS.kept S.2 (.inr (fun e => hS.apart (g := g) hblk.2 e.symm))).below (below_drewN (Below.refl _ _) 1))
          have hsz := Lib.hid (Nat.le_trans hd (Nat.le_trans S.2.size (below_drewN (Below.refl 0 ((wd.setCell ⟨g, p, none⟩ (.int .i64 B)).setCell ⟨g, p + 1, none⟩ (.int .i64 A))) 1).size))
          clear S hI hS hB2 hd hA hB
          go_region
          have SI' : Hid (Ints (World.drew _) d0 _ _) := SI
          have SB' : Hid (Below d0 w (World.drew _)) := SB
          have SS' : Hid (Ints (World.drew _) d u5 pre) := SS
          have hsz' : Hid (d ≤ (World.drew _).heap.size) := hsz
          clear SI SB SS hsz
          generalize (World.setCell _ _ _).drew = we at *
          have hz2 := hsz'.out
          have hmx : max (0 : Int) ((p : Int) - 1) = ((p - 1 : Nat) : Int) := by omega
          have PL := Lib.hid HP.out.2.2.2.2
          clear hsz' HP hp8
          go_upto_region 11 with (at_builtin; refine wpList_app we rfl _ _ rfl d _ pre rfl SS'.out (p : Int) rfl hpl hz2 rfl ?_; intro v' w2 hI2 hb2 hg2)
          have N1 := Lib.hid (SI'.out.kept hg2 (.inr (SS'.out.apart hblk.2)))
          have N2 := Lib.hid (SB'.out.grown hg2 (by have := SB'.out.size; have := HD0.out; omega) (fun b hb => Nat.le_trans (by omega) (SS'.out.lt_ b hb).1))
          have N3 := Lib.hid hI2
          have N4 := hb2.size
          have N5 := Lib.hid hI2.lenOf
          have N6 := Lib.hid hS0.out
          clear hI2 hb2 hg2 SI' SB' SS'
          by_cases hp0 : p = 0
          · subst hp0
            go_wp2
            refine ⟨⟨0, nsw cur 0, pre ++ [((0 : Nat) : Int)], by omega, rfl, Lib.hid ⟨P6.out, P4.out, P5.out, P2.out, by rw [List.length_append]; simp only [List.length_singleton]; have := P3.out; have := PL.out; omega⟩, N1, N3, N2, by omega⟩, ?_⟩
            rw [N5.out, N6.out, List.length_append, List.length_singleton]
            have := P3.out; have := PL.out
            simp [intOf]; omega
          · have hpp : (0 : Int) < (p : Int) - 1 ∨ (p : Int) - 1 = 0 := by omega
            go_wp2
            have hif : (if (1 : Int) < (p : Int) then (p : Int) - 1 else 0) = ((p - 1 : Nat) : Int) := by split <;> omega
            rw [hif]
            refine ⟨⟨p - 1, nsw cur p, pre ++ [(p : Int)], by omega, rfl, Lib.hid ⟨P6.out, P4.out, P5.out, P2.out, by rw [List.length_append]; simp only [List.length_singleton]; have := P3.out; have := PL.out; omega⟩, N1, N3, N2, by omega⟩, ?_⟩
            rw [N5.out, N6.out, List.length_append, List.length_singleton]
            have := P3.out; have := PL.out
            simp only [intOf, Int.toNat_natCast]; omega
        · have hAle : gt cur p < gt cur (p + 1) := by omega
          have P5 := Lib.hid (noD_step HP.out.2.2.1 hd1)
          have PP := Lib.hid HP.out
          clear HP hcn hne hd1
          generalize gt cur p = A at *
          generalize gt cur (p + 1) = B at *
          go_wp2
          go_quiet (fail)
          go_wp2
          go_roundw
          case rel => exact ⟨p + 1, cur, pre, by omega, by go_num, Lib.hid ⟨PP.out.1, PP.out.2.1, P5.out, PP.out.2.2.2.1, PP.out.2.2.2.2⟩, Lib.hid (hAB.out _).1, Lib.hid (hAB.out _).2.1, Lib.hid (hAB.out _).2.2.1, (hAB.out _).2.2.2⟩
          case measure => (simp [intOf]; try omega)
      · have hnd := Lib.hid (show noD cur (cur.length - 1) from fun j hj => HP.out.2.2.1 j (by omega))
        have R := Lib.hid (ns_end hnd.out HP.out.2.2.2.1)
        have hlt' : ¬ (p : Int) + 1 < n := by omega
        have hb0 := Lib.hid hblk
        clear hcn
        go_wp2
        go_ret2
        exact ⟨_, rfl, by rw [J.out, ← R.out, ← HD0.out]; exact ints_mono' HS.out (by omega), by rw [← HD0.out]; exact HB.out⟩
set_option maxHeartbeats 4000000 in
theorem specFns (v : Value) (zs : List Int) (w : World) (h : Rd w v zs) (hn : zs.length ≤ 1048576) :
    Calls Try.prog 16 #[v] w (IntsQ w.heap.size (nsL zs) (isOrd zs) w) := by
  have HA := Lib.hid (ptGood v zs w h hn)
  cases hp : isOrd zs
  · have J := Lib.hid (nsL_no hp)
    rw [hp] at HA
    clear h hp
    go_enter Try.func16, Try.ntmps16
    go_wp2_with (go_at_call 28; refine HA.out.mono ?_; rintro e w' ⟨rfl, rfl⟩)
    go_ret2
    exact ⟨_, rfl, by rw [J.out]; exact World.ownsRow_nil _ _ _ _, Below.refl _ _⟩
  · have hl := isOrd_len hp
    have J := Lib.hid (nsL_yes hp)
    obtain ⟨n, hnz⟩ : ∃ n, n = zs.length := ⟨_, rfl⟩
    rw [← hnz] at hl
    have HN := Lib.hid hnz
    have HO := Lib.hid hp
    have HR := Lib.hid h
    have HV := Lib.hid (show ∀ b, v.ownBlock = some b → b < w.heap.size from fun b hb => by
      obtain ⟨b1, o1, _, _, rfl, _, _, _, hbw, _⟩ := h.openP (by omega)
      cases hb; exact hbw)
    rw [hp] at HA
    obtain ⟨d, hd⟩ : ∃ d, d = w.heap.size := ⟨_, rfl⟩
    have HD := Lib.hid hd
    clear h hn hnz hp hd
    go_enter Try.func16, Try.ntmps16
    go_wp2_with (go_at_call 28; refine HA.out.mono ?_; rintro e w' ⟨rfl, rfl⟩)
    go_loopw [4, 5] (fun o r wr => ∃ (cur pre : List Int), Hid (n = cur.length ∧ isOrd cur = true ∧ pre ++ nsS (invs cur) cur = nsS (invs zs) zs ∧ pre.length + invs cur ≤ 64) ∧ Hid (Rd wr r cur) ∧ Hid (Ints wr d o pre) ∧ Hid (∀ b, r.ownBlock = some b → o.ownBlock ≠ some b ∧ b < wr.heap.size) ∧ Hid (Below d w wr)) (fun o _ _ => 64 - lenOf o)
    case atStart => exact ⟨zs, [], Lib.hid ⟨HN.out, HO.out, rfl, by have := invs_le (zs := zs) (by have := HN.out; omega); simpa using this⟩, HR, Lib.hid (World.ownsRow_nil _ _ _ _), Lib.hid (fun b hb => ⟨(by intro e; cases e), HV.out b hb⟩), Lib.hid (Below.refl _ _)⟩
    case round =>
      clear HR HV
      obtain ⟨cur, pre, HP, HR, HS, HA2, HB⟩ := hrel
      have IV := Lib.hid (ptInv u5 cur wr HR.out (by have := HP.out.1; omega))
      by_cases hz : invs cur = 0
      · have R := Lib.hid (show pre = nsS (invs zs) zs by have := HP.out.2.2.1; rw [hz] at this; rw [← this]; simp [nsS])
        rw [hz] at IV
        clear hz HP
        have hs := HB.out.size
        go_wp2_with (go_at_call 31; refine IV.out.mono ?_; rintro e w' ⟨rfl, rfl⟩)
        go_ret2
        exact ⟨_, rfl, by rw [J.out, ← R.out, ← HD.out]; exact HS.out, by rw [← HD.out]; exact HB.out⟩
      · have hz1 : (0 : Int) < (invs cur : Int) := by omega
        obtain ⟨b1, o1, m, c1, hv, hm, hmc, hc9, hbw, hcell⟩ := HR.out.openP (by have := HP.out.1; omega)
        have hmn : m = n := by rw [hm, HP.out.1]
        subst hmn
        have HC := Lib.hid hcell
        have hcl := Lib.hid hm
        have HR2 := HR
        rw [hv] at HR IV HA2 ⊢
        have hbo := HA2.out b1 rfl
        clear hcell hm hv HR2
        have HZ := Lib.hid hz
        clear hz
        generalize hiv : invs cur = iv at hz1 IV
        clear hiv
        obtain ⟨wo, rfl⟩ : ∃ wo : World, wo = wr := ⟨_, rfl⟩
        obtain ⟨uo, rfl⟩ : ∃ uo : Value, uo = u4 := ⟨_, rfl⟩
        have hiv0 : 0 < iv := by omega
        have hdec : decide (0 < iv) = true := decide_eq_true hiv0
        go_wp2_with (go_at_call 31; refine IV.out.mono ?_; rintro e w' ⟨rfl, rfl⟩)
        go_loopw [4, 5, 6] (fun o r i wr => ∃ p : Nat, o = uo ∧ r = .slice (some ⟨b1, o1, none⟩) m c1 ∧ p + 1 ≤ m ∧ i = .int .i64 ((p : Int) + 1) ∧ Hid (noD cur p) ∧ Hid (Below wo.heap.size wo wr)) (fun _ _ i _ => m - (intOf i).toNat)
        case atStart => exact ⟨0, rfl, rfl, by omega, rfl, Lib.hid (fun j hj => absurd hj (Nat.not_lt_zero _)), Lib.hid (Below.refl _ _)⟩
        case round =>
          obtain ⟨p, rfl, rfl, hp, rfl, HND, HW⟩ := hrel
          by_cases hlt : p + 1 < m
          · have hlt' : (p : Int) + 1 < m := by omega
            have hltp : (p : Int) < m := by omega
            have c1' := (HW.out.cell (p := ⟨b1, o1 + p, none⟩) hbw).trans (HC.out p (by omega))
            have c2' := (HW.out.cell (p := ⟨b1, o1 + (p + 1), none⟩) hbw).trans (HC.out (p + 1) hlt)
            have P5 := Lib.hid (fun hx => noD_step (k := p) HND.out hx)
            have P2 := Lib.hid (fun hd1 => ns_go (zs := zs) (p := p) (by have := hcl.out; omega) HND.out hd1 HP.out.2.2.1)
            have P3 := Lib.hid (fun hd1 => nsw_inv (zs := cur) (i := p) (by have := hcl.out; omega) hd1)
            have P4 := Lib.hid (nsw_ord (zs := cur) (i := p) (by have := hcl.out; omega) HP.out.2.1)
            have P6 := Lib.hid (show m = (nsw cur p).length by rw [nsw_len]; exact hcl.out)
            have HWQ := Lib.hid (fun q => below_drewN HW.out q)
            by_cases hd1 : gt cur (p + 1) < gt cur p
            · have Q2 := Lib.hid (P2.out hd1)
              have Q3 := Lib.hid (P3.out hd1)
              have SW := Lib.hid (fun W (hr : Rd W (.slice (some ⟨b1, o1, none⟩) m c1) cur) => by
                have := ptSwap _ cur p (p + 1) W hr (by have := hcl.out; omega) (by have := hcl.out; omega) (by have := hcl.out; omega)
                rw [show ((p + 1 : Nat) : Int) = (p : Int) + 1 by simp, ← hcl.out] at this
                exact this)
              have hpl : pre.length < 16777216 := by have := HP.out.2.2.2; omega
              have PL := Lib.hid HP.out.2.2.2
              have hcm := Lib.hid (And.intro hmc hc9)
              clear P2 P3 P5 HND
              generalize hA : gt cur p = A at *
              generalize hB : gt cur (p + 1) = B at *
              clear hA hB
              go_wp2
              go_quiet (fail)
              generalize hwd : World.drewN wr _ = wd
              have HX : Below wo.heap.size wo wd := by rw [← hwd]; exact HWQ.out _
              have S1 := Lib.hid (HS.out.below HX)
              have R1 := Lib.hid (HR.out.below HX)
              have hs1 := HX.size
              have hs0 := HB.out.size
              have B1 := Lib.hid (HB.out.trans (HX.mono (by have := HD.out; omega)))
              have hdw : d ≤ wd.heap.size := by have := HD.out; omega
              have N6 := Lib.hid HS.out.lenOf
              clear HX hwd c1' c2' HWQ HW
              go_upto_region 11 with (at_builtin; refine wpList_appAt wd rfl _ _ rfl d _ pre rfl S1.out (p : Int) wd.heap.size rfl rfl hpl hdw rfl ?_; intro v' w2 hI2 hb2 hg2 hat)
              have N1 := Lib.hid (R1.out.keptZ hg2 (fun b hb => (HA2.out b hb).1))
              have N2 := Lib.hid (B1.out.trans hb2)
              have N3 := Lib.hid hI2
              have N5 := Lib.hid hI2.lenOf
              clear hI2 hb2 hg2 S1 R1
              have SW2 := Lib.hid (SW.out w2 N1.out)
              go_wp2_with (go_at_call 33; refine SW2.out.mono ?_; rintro e w3 ⟨g3, c3, rfl, hI3, hb3⟩)
              rw [swp_nsw] at hI3
              have hg3 := hI3.blk
              refine ⟨⟨nsw cur p, pre ++ [(p : Int)], Lib.hid ⟨P6.out, P4.out, Q2.out, by rw [List.length_append]; simp only [List.length_singleton]; have := Q3.out; have := PL.out; omega⟩, Lib.hid hI3.rd, Lib.hid (N3.out.below hb3), Lib.hid (fun b hb => ?_), Lib.hid (N2.out.trans (hb3.mono (by have := N2.out.size; have := HD.out; omega)))⟩, ?_⟩
              · have e : g3 = b := Option.some.inj hb
                subst e
                exact ⟨fun e => by have := N3.out.lt_ g3 e; omega, hg3.2⟩
              · rw [N5.out, N6.out, List.length_append, List.length_singleton]
                have := Q3.out; have := PL.out
                omega
            · have Q5 := Lib.hid (P5.out hd1)
              have hle1 : ¬ gt cur (p + 1) < gt cur p := hd1
              clear P2 P3 P5
              generalize gt cur p = A at *
              generalize gt cur (p + 1) = B at *
              go_wp2
              go_quiet (fail)
              go_wp2
              go_roundw
              case rel => exact ⟨p + 1, rfl, rfl, by omega, by go_num, Q5, Lib.hid (HWQ.out _)⟩
              case measure => (simp [intOf]; try omega)
          · exfalso
            exact HZ.out (invs_zero (fun j hj => HND.out j (by have := hcl.out; omega)))
end Go.Proofs.Ythdmmliipmmfbaa
