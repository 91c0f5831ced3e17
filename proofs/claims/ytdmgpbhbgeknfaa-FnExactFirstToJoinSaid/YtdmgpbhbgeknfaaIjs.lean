/- isJoins by spec: its step. -/
import Derived.Test.YtdmgpbhbgeknfaaIjp
import Derived.Test.YtdmgpbhbgeknfaaIwq
import Derived.Test.YtdmgpbhbgeknfaaIh
import Derived.Test.YtdmgpbhbgeknfaaIa
import Derived.Test.YtdmgpbhbgeknfaaCat
namespace Go.Proofs.Ytdmgpbhbgeknfaa
set_option linter.unusedVariables false
open Go.RowKit

/-- what isJoins leaves behind -/
def JoinS (st : Int × List (List Nat)) (w : World) (e : Ending) (w' : World) : Prop :=
  ∃ u, e = .returned (.tuple #[.int .i64 (leastJ st), u, .int .i64 st.2.length]) ∧ (∀ l r, st.2 = l :: r → Ints w' w.heap.size u (idx l)) ∧ Below w.heap.size w w'
theorem pickB_take {bs : List Br} {l : List Nat} {k : Nat} (h : k < l.length) : pickB bs (l.take (k + 1)) = pickB bs (l.take k) ++ [gb bs (l.getD k 0)] := by
  rw [List.take_succ_eq_append_getElem h, pickB_app]
  simp [pickB, h]
theorem tollB_take {bs : List Br} {l : List Nat} {k : Nat} (h : k < l.length) : tollB bs (l.take (k + 1)) = tollB bs (l.take k) + (gb bs (l.getD k 0)).2.2 := by
  rw [List.take_succ_eq_append_getElem h, tollB_app]
  simp [tollB, h]
theorem kpW {W : World} {s : Nat} {p q : Value} (h : Blk W s #[p, q]) : W.cell? ⟨s, 0, none⟩ = some p ∧ W.cell? ⟨s, 1, none⟩ = some q := ⟨h.cell 0, h.cell 1⟩
theorem idx_snocJ (l : List Nat) (x : Nat) : idx l ++ [(x : Int)] = idx (l ++ [x]) := by simp [idx]
theorem nil_some (a : Addr) (n c : Nat) : ∀ d, Value.slice (some a) n c = .slice none 0 d → d = 0 := fun d e => by cases e
theorem joins_cutJ {m : Nat} {bs : List Br} (hg : Good m bs) {begin : List Nat} {kk r : Nat} (hbk : ∀ x ∈ begin ++ [kk], x < bs.length) (hr : begin.length + (r + 1) = m - 1)
    (hs : same m (pickB bs begin) (gb bs kk).1.toNat (gb bs kk).2.1.toNat = true) {z : List Nat} (hz : z ∈ comps bs.length (begin ++ [kk]) r (kk + 1)) : joinsB m bs z = false := by
  obtain ⟨t, rfl, ht1, ht2⟩ := comps_in hz
  rw [List.append_assoc, List.singleton_append]
  refine joinsB_cut hg (fun x hx => ?_) (by omega) hs
  rcases List.mem_append.1 hx with hx | hx
  · exact hbk x (List.mem_append_left _ hx)
  · rcases List.mem_cons.1 hx with rfl | hx
    · exact hbk x (by simp)
    · exact (ht2 x hx).2
set_option maxRecDepth 100000 in
set_option maxHeartbeats 4000000 in
theorem joinsStep (m : Nat) (v : Value) (bs : List Br) (hg : Good m bs) (hm1 : 1 ≤ m) (hm : m ≤ 7) (hl : bs.length ≤ 14)
    (begin : List Nat) (r a : Nat) (vb : Value) (w : World) (h : RdB w v bs) (hb : begin.length + r = m - 1) (hlt : ∀ x ∈ begin, x < bs.length) (ha : a ≤ bs.length) (hla : (begin = [] ∧ a = 0) ∨ ∃ x, begin.getLast? = some x ∧ a = x + 1) (hI : Rd w vb (idx begin)) (hnil : ∀ c, vb = .slice none 0 c → c = 0)
    (REC : ∀ r', r = r' + 1 → ∀ k, a ≤ k → k < bs.length → ∀ (u : Value) (w1 : World), Below w.heap.size w w1 → Rd w1 u (idx (begin ++ [k])) → (∀ c, u = .slice none 0 c → c = 0) → Calls Try.prog 42 #[.agg #[.int .i64 m, v], u] w1 (JoinS (bestJ m bs (comps bs.length (begin ++ [k]) r' (k + 1))) w1)) :
    Calls Try.prog 42 #[.agg #[.int .i64 m, v], vb] w (JoinS (bestJ m bs (comps bs.length begin r a)) w) := by
  have RC := Lib.hid REC
  have HV := Lib.hid h
  obtain ⟨av, l, c, rfl, hnz, _, _, hvc⟩ := h
  have HG := Lib.hid hg
  have HVC := Lib.hid hvc
  have HVN := Lib.hid hnz
  have HI := Lib.hid hI
  have HNL := Lib.hid hnil
  have HLT := Lib.hid hlt
  have HLA := Lib.hid hla
  obtain ⟨ab, n, cb, rfl, hn, hcell⟩ := hI.cells
  rw [idx_len] at hn
  have HN := Lib.hid hn
  have HC := Lib.hid hcell
  rw [← hnz] at hl ha
  have hn6 : n + r = m - 1 := by omega
  have BX := Lib.hid (Blk.new w #[.int .i64 m, .slice av l c] 30)
  have BW := Lib.hid ((Below.refl w.heap.size w).alloc (Nat.le_refl _) (.cells #[.int .i64 m, .slice av l c] 30))
  clear hg REC hvc hnz hI hnil hlt hla hn hcell hb
  go_enter Try.func42, Try.ntmps42
  go_wp2_with fail
  go_loopw [7, 8, 23] (fun ch tl q wr => ∃ k : Nat, k ≤ n ∧ q = .int .i64 k ∧ tl = .int .i64 (tollB bs (begin.take k)) ∧ Hid (Brs wr (w.heap.size + 1) ch (pickB bs (begin.take k))) ∧ Hid (Below w.heap.size w wr) ∧ Hid (Blk wr w.heap.size #[.int .i64 m, .slice av l c])) (fun _ _ q _ => n - (intOf q).toNat)
  case atStart => exact ⟨0, Nat.zero_le _, rfl, rfl, Lib.hid (Brs.nil _ _), BW, BX⟩
  case round =>
    obtain ⟨k, hk, rfl, rfl, HCh, HBr, HX⟩ := hrel
    have hsz := HBr.out.size
    obtain ⟨c0, c1, l0⟩ := HX.out.two
    by_cases hlt : k < n
    · obtain ⟨b, off, rfl, hbw, hcx⟩ := HC.out k hlt
      have hcx2 := (HBr.out.cell (p := ⟨b, off + k, none⟩) hbw).trans hcx
      rw [idx_gt] at hcx2
      have hkb : k < begin.length := by have := HN.out; omega
      have PT := Lib.hid (pickB_take (bs := bs) hkb)
      have TT := Lib.hid (tollB_take (bs := bs) hkb)
      have hxl : begin.getD k 0 < l := by
        rw [HVN.out, List.getD_eq_getElem?_getD, List.getElem?_eq_getElem hkb]; exact HLT.out _ (List.getElem_mem _)
      have TB := tollB_in HG.out (l := begin.take k) (fun x hx => HLT.out x (List.mem_of_mem_take hx))
      have TL : (begin.take k).length ≤ 7 := by rw [List.length_take]; have := HN.out; omega
      have PL : (pickB bs (begin.take k)).length < 16777216 := by rw [pickB_len]; omega
      generalize begin.getD k 0 = x at *
      obtain ⟨b2, off2, rfl, hbw2, hA⟩ := HVC.out x hxl
      obtain ⟨x0, x1, x2⟩ := hA.below hbw2 HBr.out
      have hv := HG.out.at (j := x) (by have := HVN.out; omega)
      have hxI : (x : Int) < l := by omega
      generalize gb bs x = q at *
      obtain ⟨y0, y1, y2⟩ := q
      simp only at hv PT TT x0 x1 x2
      have hltI : (k : Int) < n := by omega
      clear hcx hA
      generalize tollB bs (begin.take k) = tl at *
      have hCh := HCh.out
      have htw : 0 ≤ tl ∧ tl ≤ 7000 := by omega
      have hy2 : 0 ≤ y2 ∧ y2 ≤ 1000 := hv.2.2.2
      clear HCh TB TL HLT hv
      go_wp2_with (at_builtin; refine wpList_appB wr rfl _ _ rfl (w.heap.size + 1) _ (pickB bs (begin.take k)) rfl hCh y0 y1 y2 wr.heap.size rfl rfl PL l0 rfl ?_; intro v' w2 hI2 hb2 hg2; have C2 := Lib.hid hI2; have B2 := Lib.hid (HBr.out.trans (hb2.mono (Nat.le_succ _))); have X2 := Lib.hid (HX.out.below hb2 (Nat.lt_succ_self _)); obtain ⟨d0, d1, d2⟩ := X2.out.two; have z2 := (hb2.cell (p := ⟨b2, off2 + x * 3 + 2, none⟩) (Nat.lt_succ_of_lt hbw2)).trans x2; clear hI2 hb2 hg2)
      go_roundw
      case rel => exact ⟨k + 1, by omega, by go_num, by rw [TT.out], Lib.hid (by rw [PT.out]; exact C2.out), B2, X2⟩
      case measure => (simp [intOf]; try omega)
    · obtain rfl : k = n := by omega
      have TK : begin.take k = begin := List.take_of_length_le (by have := HN.out; omega)
      rw [TK] at HCh ⊢
      clear TK
      have CR := Lib.hid HCh.out.rd
      clear HCh
      have PG : Hid (Good m (pickB bs begin)) := Lib.hid (pickB_good HG.out HLT.out)
      have hpl : (pickB bs begin).length = k := by rw [pickB_len]; exact HN.out.symm
      have HPL := Lib.hid hpl
      have TB := tollB_in HG.out HLT.out
      have TB2 : 0 ≤ tollB bs begin ∧ tollB bs begin ≤ 7000 := by have := HN.out; omega
      clear TB hpl
      go_wp2_with fail
      refine (isGroups m _ (pickB bs begin) (-1) _ CR.out PG.out hm1 hm (by rw [HPL.out]; omega)).mono ?_
      rw [offB_none PG.out]
      rintro e w2 ⟨u0, rfl, hI2, hb2⟩
      have B2 := Lib.hid (HBr.out.trans (hb2.mono hsz))
      have X2 := Lib.hid (HX.out.below hb2 l0)
      have I2 := Lib.hid hI2
      have hsz2 := B2.out.size
      clear hI2 hb2 c0 c1 HBr HX CR
      obtain ⟨c0, c1, l2⟩ := X2.out.two
      have hk1 : IntKind.i64.wrap ((m : Int) - 1) = (m : Int) - 1 := by rw [IntKind.wrap_i64]; omega
      cases r with
      | zero =>
        have hkI : ((k : Int) == (m : Int) - 1) = true := by simp; omega
        have hkI2 : (k : Int) = (m : Int) - 1 := by omega
        have CP := Lib.hid (comps_0 bs.length begin a)
        clear RC
        go_wp2_with fail
        refine (isCount _ (lab m (pickB bs begin)) (-1) _ I2.out.rd (by rw [lab_len]; omega)).mono ?_
        rw [lab_len, cntW_none]
        rintro e w' ⟨rfl, rfl⟩
        have hgp := groups_pos PG.out hm1
        have BJ : Hid (bestJ m bs (comps bs.length begin 0 a) = if groupsN m (pickB bs begin) = 1 then (tollB bs begin, [begin]) else (0, [])) := Lib.hid (by
          rw [CP.out]
          unfold bestJ
          simp only [List.foldl_cons, List.foldl_nil, stepJ, joinsB]
          by_cases h1 : groupsN m (pickB bs begin) = 1
          · have h2 : groupsN m (pickB bs begin) ≤ 1 := by omega
            by_cases h3 : tollB bs begin < 0 <;> simp [h1, h3]
          · have h2 : ¬ groupsN m (pickB bs begin) ≤ 1 := by omega
            simp [h1, h2])
        by_cases h1 : groupsN m (pickB bs begin) = 1
        · rw [h1]
          rw [if_pos h1] at BJ
          clear h1 hgp
          go_wp2_with fail
          refine (l1Own _ (idx begin) _ (HI.out.below B2.out) HNL.out (by rw [idx_len]; have := HN.out; omega)).mono ?_
          rintro e w3 ⟨u3, rfl, hI3, hb3⟩
          have B3 := Lib.hid (B2.out.trans (hb3.mono hsz2))
          have I3 := Lib.hid (ints_mono' hI3 hsz2)
          clear hI3 hb3 c0 c1
          go_wp2
          go_ret3
          rw [BJ.out]
          exact ⟨_, rfl, (fun l r h => by cases h; exact I3.out), B3.out⟩
        · have h1b : (((groupsN m (pickB bs begin) : Nat) : Int) == 1) = false := by simp; omega
          have h1c : ¬ ((groupsN m (pickB bs begin) : Nat) : Int) = 1 := by omega
          rw [if_neg h1] at BJ
          clear h1 hgp
          generalize groupsN m (pickB bs begin) = q at *
          go_wp2
          go_ret3
          rw [BJ.out]
          exact ⟨_, rfl, (fun l r h => by cases h), B2.out⟩
      | succ r =>
        have hkI : ((k : Int) == (m : Int) - 1) = false := by simp; omega
        have hkI2 : ¬ (k : Int) = (m : Int) - 1 := by omega
        obtain ⟨g, n0, cg, rfl, hn0, _, _, hgB, hgw, hgc⟩ := I2.out.form (by rw [lab_len]; omega)
        rw [lab_len] at hn0
        have hn1 := hn0.symm
        subst hn1
        clear hn0
        have I2' := Lib.hid (ints_mono' I2.out hsz)
        have HLEN := Lib.hid (comps_s bs.length begin r a)
        have hil : (idx begin).length ≤ 1048576 := by rw [idx_len]; have := HN.out; omega
        have hil2 : (idx begin).length ≤ 1000 := by rw [idx_len]; have := HN.out; omega
        have hr5 : r + 1 ≤ 6 := by omega
        have POW : bs.length ^ (r + 1) ≤ 10000000 := by
          have h1 : bs.length ^ (r + 1) ≤ 14 ^ (r + 1) := Nat.pow_le_pow_left (by have := HVN.out; omega) _
          have h2 : (14 : Nat) ^ (r + 1) ≤ 14 ^ 6 := Nat.pow_le_pow_right (by omega) hr5
          have h3 : (14 : Nat) ^ 6 = 7529536 := by decide
          omega
        have POWH := Lib.hid POW
        clear POW I2 hgB
        rcases HLA.out with ⟨hb0, ha0⟩ | ⟨xl, hlast, hax⟩
        case inl =>
          have hk0 : k = 0 := by have := HN.out; rw [hb0] at this; simpa using this
          subst hk0
          have HA0 := Lib.hid ha0
          clear ha0
          have HB0 := Lib.hid hb0
          clear hb0
          have hkI3 : ((0 : Int) == (m : Int) - 1) = false := by simp; omega
          go_wp2_with fail
          try rw [hkI3]
          go_loopw [14, 15, 16, 17] (fun t14 t15 t16 q wr => ∃ cc : Nat, a + cc ≤ l ∧ q = .int .i64 ((a + cc : Nat) : Int) ∧ t14 = .int .i64 (leastJ (bestJ m bs (partJ bs.length begin r a cc))) ∧ t15 = .int .i64 (bestJ m bs (partJ bs.length begin r a cc)).2.length ∧ Hid (∀ l0 r0, (bestJ m bs (partJ bs.length begin r a cc)).2 = l0 :: r0 → Ints wr w.heap.size t16 (idx l0)) ∧ Hid (Below w.heap.size w wr) ∧ Hid (Blk wr w.heap.size #[.int .i64 m, .slice av l c]) ∧ Hid (Ints wr w.heap.size (.slice (some ⟨g, 0, none⟩) m cg) (lab m (pickB bs begin)))) (fun _ _ _ q _ => l - (intOf q).toNat)
          case atStart => exact ⟨0, by omega, by rw [HA0.out]; rfl, rfl, rfl, Lib.hid (fun l0 r0 h => by cases h), B2, X2, I2'⟩
          case round =>
            obtain ⟨cc, hcc, rfl, rfl, rfl, F3, B3, X3, I3⟩ := hrel
            have hszr := B3.out.size
            obtain ⟨c0, c1, l3⟩ := X3.out.two
            by_cases hltc : a + cc < l
            · obtain ⟨kk, hkk⟩ : ∃ kk, kk = a + cc := ⟨_, rfl⟩
              have NEWs := Lib.hid (best_part m bs bs.length begin r a cc)
              have NOs := Lib.hid (fun h => best_part_no (m := m) (bs := bs) (begin := begin) (r := r) (a := a) (c := cc) h)
              rw [← hkk] at hltc NEWs NOs ⊢
              have RCk := Lib.hid (RC.out r rfl kk (by omega) (by have := HVN.out; omega))
              have hkl : (kk : Int) < l := by omega
              have hpc := best_cnt (m := m) (bs := bs) (Ls := partJ bs.length begin r a cc) (0, [])
              have hpc2 := partJ_cnt bs.length begin r a cc (by have := HVN.out; omega)
              have hin : ∀ r' a' bg, (∀ x ∈ bg, x < bs.length) → bg.length + r' ≤ 6 → ∀ z ∈ comps bs.length bg r' a', z.length ≤ 6 ∧ ∀ x ∈ z, x < bs.length := fun r' a' bg hbg hlen z hz => by
                obtain ⟨t, rfl, ht1, ht2⟩ := comps_in hz
                refine ⟨by simp; omega, fun x hx => ?_⟩
                rcases List.mem_append.1 hx with hx | hx
                · exact hbg x hx
                · exact (ht2 x hx).2
              have hbk : ∀ x ∈ begin ++ [kk], x < bs.length := fun x hx => by
                rcases List.mem_append.1 hx with hx | hx
                · exact HLT.out x hx
                · simp at hx; have := HVN.out; omega
              have hAl := best_low HG.out (q := 6) (Ls := partJ bs.length begin r a cc) (fun z hz => by
                unfold partJ at hz
                rw [List.mem_flatMap] at hz
                obtain ⟨q, hq, hz⟩ := hz
                have hq2 := upI_lt q hq
                refine hin r (q + 1) (begin ++ [q]) (fun x hx => ?_) (by simp; have := HN.out; omega) z hz
                rcases List.mem_append.1 hx with hx | hx
                · exact HLT.out x hx
                · simp at hx; have := HVN.out; omega) (0, []) (by simp)
              have hBl := best_low HG.out (q := 6) (Ls := comps bs.length (begin ++ [kk]) r (kk + 1)) (hin r (kk + 1) (begin ++ [kk]) hbk (by simp; have := HN.out; omega)) (0, []) (by simp)
              have hBc := best_cnt (m := m) (bs := bs) (Ls := comps bs.length (begin ++ [kk]) r (kk + 1)) (0, [])
              have hBc2 : (comps bs.length (begin ++ [kk]) r (kk + 1)).length ≤ bs.length ^ (r + 1) := by
                unfold comps
                rw [List.length_map]
                refine Nat.le_trans (ext_cnt _ r _) (Nat.pow_le_pow_right (by have := HVN.out; omega) (Nat.le_succ _))
              have CUT := Lib.hid (fun hs z (hz : z ∈ comps bs.length (begin ++ [kk]) r (kk + 1)) => joins_cutJ HG.out (m := m) (begin := begin) (kk := kk) hbk (by have := HN.out; omega) hs hz)
              have hpw := POWH.out
              have hAx : 0 ≤ (bestJ m bs (partJ bs.length begin r a cc)).1 ∧ (bestJ m bs (partJ bs.length begin r a cc)).1 ≤ 6000 := ⟨hAl.1, by have := hAl.2; unfold bestJ; simpa using this⟩
              have hAn : (bestJ m bs (partJ bs.length begin r a cc)).2.length ≤ 10000000 := by unfold bestJ; simp at hpc; omega
              have hBx : 0 ≤ (bestJ m bs (comps bs.length (begin ++ [kk]) r (kk + 1))).1 ∧ (bestJ m bs (comps bs.length (begin ++ [kk]) r (kk + 1))).1 ≤ 6000 := ⟨hBl.1, by have := hBl.2; unfold bestJ; simpa using this⟩
              have hBn : (bestJ m bs (comps bs.length (begin ++ [kk]) r (kk + 1))).2.length ≤ 10000000 := by unfold bestJ; simp at hBc; omega
              have HKK := Lib.hid hkk
              clear hpc hpc2 hin hbk hAl hBl hBc hBc2 hpw hkk
              obtain ⟨A, hA⟩ : ∃ A, bestJ m bs (partJ bs.length begin r a cc) = A := ⟨_, rfl⟩
              rw [hA] at hAx hAn NEWs NOs F3 ⊢
              clear hA
              obtain ⟨Bq, hBq⟩ : ∃ Bq, bestJ m bs (comps bs.length (begin ++ [kk]) r (kk + 1)) = Bq := ⟨_, rfl⟩
              rw [hBq] at hBx hBn NEWs RCk
              clear hBq
              have NEW := NEWs
              clear NEWs
              obtain ⟨b2, off2, rfl, hbw2, hAt⟩ := HVC.out kk hltc
              obtain ⟨x0, x1, x2⟩ := hAt.below hbw2 B3.out
              have hv := HG.out.at (j := kk) (by have := HVN.out; omega)
              generalize gb bs kk = q at *
              obtain ⟨y0, y1, y2⟩ := q
              simp only at hv x0 x1 x2 CUT
              clear hAt
              obtain ⟨i, rfl⟩ := Int.eq_ofNat_of_zero_le hv.1
              obtain ⟨j, rfl⟩ := Int.eq_ofNat_of_zero_le (show 0 ≤ y1 by omega)
              have hin1 : i < m := by omega
              have hjn1 : j < m := by omega
              have e1 := I3.out.cell (by rw [lab_len]) i hin1
              have e2 := I3.out.cell (by rw [lab_len]) j hjn1
              have hi2 : (i : Int) < m := by omega
              have hj2 : (j : Int) < m := by omega
              have CUT2 : gt (lab m (pickB bs begin)) i = gt (lab m (pickB bs begin)) j → ∀ z ∈ comps bs.length (begin ++ [kk]) r (kk + 1), joinsB m bs z = false := fun hs => CUT.out (by simp [same, hs])
              have CT := Lib.hid CUT2
              clear CUT CUT2 hv
              generalize gt (lab m (pickB bs begin)) i = p at *
              generalize gt (lab m (pickB bs begin)) j = q at *
              by_cases hpq : p = q
              · subst hpq
                have R := Lib.hid (NOs.out (CT.out rfl))
                have hpb : (p == p) = true := by simp
                clear NOs NEW RCk CT
                go_wp2_with fail
                go_quiet (fail)
                go_wp2
                go_roundw
                case rel => exact ⟨cc + 1, by have := HKK.out; omega, by rw [HKK.out]; go_num, by rw [R.out], by rw [R.out], Lib.hid (fun l0 r0 h => (F3.out l0 r0 (by rw [R.out] at h; exact h)).below (by apply below_drewN; exact Below.refl _ _)), Lib.hid (by apply below_drewN; exact B3.out), Lib.hid (X3.out.below (B := wr.heap.size) (by apply below_drewN; exact Below.refl _ _) X3.out.lt), Lib.hid (I3.out.below (by apply below_drewN; exact Below.refl _ _))⟩
                case measure => (simp [intOf]; try omega)
              · have hpb : (p == q) = false := by simpa using hpq
                clear NOs CT
                go_wp2_with fail
                go_quiet (fail)
                go_wp2_with fail
                generalize hwq : World.drewN wr _ = wq
                have hQ : Below wr.heap.size wr wq := by rw [← hwq]; apply below_drewN; exact Below.refl _ _
                have B3q := Lib.hid (B3.out.trans (hQ.mono hszr))
                have X3q := Lib.hid (X3.out.below hQ X3.out.lt)
                have I3q := Lib.hid (I3.out.below hQ)
                have F3q := Lib.hid (fun l0 r0 h => (F3.out l0 r0 h).below hQ)
                clear hwq hQ c0 c1 l3 B3 X3 I3 F3 e1 e2 x0 x1 x2
                have hszq := B3q.out.size
                obtain ⟨c0, c1, l3⟩ := X3q.out.two
                have D1 := Lib.hid (show Below wq.heap.size wq wq.drew from Below.drew (Below.refl _ _))
                have NB := Lib.hid (Blk.new wq #[.int .i64 kk] 3).drew
                have DA := Lib.hid (show Below wq.heap.size wq (wq.alloc (.cells #[.int .i64 kk] 3)).drew by (repeat (first | exact Below.refl _ _ | (refine Below.alloc ?_ (by first | omega | (simp; try omega)) _) | apply Below.drew | apply below_drewN)))
                go_region_held3 (fun w' => w'.cell? ⟨w.heap.size, 0, none⟩ = some (.int .i64 (m : Int)) ∧ w'.cell? ⟨w.heap.size, 1, none⟩ = some (.slice (some ⟨b2, off2, none⟩) l c)) (first | exact kpW (X3q.out.below D1.out X3q.out.lt) | exact kpW (X3q.out.below DA.out X3q.out.lt) | exact kpW (X3q.out.below D4.out X3q.out.lt) | exact kpW ((X3q.out.below D4.out X3q.out.lt).alloc _) | exact kpW (X3q.out.below D5.out X3q.out.lt) | exact kpW (X3q.out.below D6.out X3q.out.lt)) (first
                  | (go_at_call 53; (with_reducible refine (l1Own _ (idx begin) wq.drew (HI.out.below (B3q.out.trans (D1.out.mono hszq))) HNL.out hil).mono ?_); rintro e w4 ⟨u, rfl, hI4, hb4⟩; have U4 := Lib.hid (ints_mono' hI4 D1.out.size); have D4 := Lib.hid (D1.out.trans (hb4.mono D1.out.size)); clear hI4 hb4; skip)
                  | (go_at_call 53; (with_reducible refine (l1Own _ (idx begin) (wq.alloc (.cells #[.int .i64 kk] 3)).drew (HI.out.below (B3q.out.trans (DA.out.mono hszq))) HNL.out hil).mono ?_); rintro e w4 ⟨u, rfl, hI4, hb4⟩; have U4 := Lib.hid (ints_mono' hI4 DA.out.size); have D4 := Lib.hid (DA.out.trans (hb4.mono DA.out.size)); have N4 := Lib.hid (NB.out.below hb4 NB.out.lt); clear hI4 hb4; skip)
                  | (refine step_appI rfl (.tmp 100) (.tmp 102) rfl wq.heap.size u (idx begin) ?_ U4.out wq.heap.size (kk : Int) ?_ (N4.out.cell 0) hil2 D4.out.size 1 ?_ (idx (begin ++ [kk])) (idx_snocJ begin kk) ?_; (· simp [Act.eval]); (· simp [Act.eval]); (· (rw [idx_len, ← HN.out])); intro g5 cap5 w5 hI5 hb5; have D5 := Lib.hid (D4.out.trans hb5); have I5 := Lib.hid hI5.rd; clear hI5 hb5; skip)
                  | (refine step_appI rfl (.tmp 100) (.tmp 102) rfl wq.heap.size u (idx begin) ?_ (U4.out.below ((Below.refl _ _).alloc (Nat.le_refl _) _)) w4.heap.size (kk : Int) ?_ ((Blk.new w4 #[.int .i64 kk] 3).cell 0) hil2 ?_ 1 ?_ (idx (begin ++ [kk])) (idx_snocJ begin kk) ?_; (· simp [Act.eval]); (· simp [Act.eval]); (· exact Nat.le_trans D4.out.size (by simp)); (· (rw [idx_len, ← HN.out])); intro g5 cap5 w5 hI5 hb5; have D5 := Lib.hid ((D4.out.alloc D4.out.size _).trans hb5); have I5 := Lib.hid hI5.rd; clear hI5 hb5; skip)
                  | (go_at_call 42; (with_reducible refine (RCk.out _ w5 (B3q.out.trans (D5.out.mono hszq)) I5.out (nil_some _ _ _)).mono ?_); rintro e w6 ⟨u6, rfl, hI6, hb6⟩; have D6 := Lib.hid (D5.out.trans (hb6.mono D5.out.size)); have F6 := Lib.hid (fun l0 r0 h => ints_mono' (hI6 l0 r0 h) (Nat.le_trans hszq D5.out.size)); clear hI6 hb6; skip)
                  | fail)
                all_goals
                  have B6 := Lib.hid (B3q.out.trans (D6.out.mono hszq))
                  have X6 := Lib.hid (X3q.out.below D6.out X3q.out.lt)
                  have G6 := Lib.hid (I3q.out.below D6.out)
                  have O6 := Lib.hid (fun l0 r0 h => (F3q.out l0 r0 h).below D6.out)
                  clear D1 NB DA D4 U4 I5 D5 D6 X3q I3q F3q RCk
                  obtain ⟨y, Bs⟩ := Bq
                  obtain ⟨x, As⟩ := A
                  simp only at hAx hAn hBx hBn F6 O6 NEW ⊢
                  cases Bs with
                  | nil =>
                    have R := Lib.hid (show bestJ m bs (partJ bs.length begin r a (cc + 1)) = (x, As) by rw [NEW.out]; rfl)
                    have e1 : leastJ (y, ([] : List (List Nat))) = -1 := by simp [leastJ]
                    rw [e1]
                    clear NEW e1
                    go_wp2
                    go_roundw
                    case rel => exact ⟨cc + 1, by have := HKK.out; omega, by rw [HKK.out]; go_num, by rw [R.out], by rw [R.out], Lib.hid (by rw [R.out]; exact O6.out), B6, X6, G6⟩
                    case measure => (simp [intOf]; try omega)
                  | cons b1 Bs =>
                    have e1 : leastJ (y, b1 :: Bs) = y := by simp [leastJ]
                    rw [e1]
                    clear e1
                    obtain ⟨nB, hnB⟩ : ∃ q, (b1 :: Bs).length = q := ⟨_, rfl⟩
                    have hnB0 : 0 < nB := by rw [← hnB]; simp
                    rw [hnB] at hBn ⊢
                    have HNB := Lib.hid hnB
                    clear hnB
                    have hnBb : ((nB : Int) == 0) = false := by simp; omega
                    cases As with
                    | nil =>
                      have R := Lib.hid (show bestJ m bs (partJ bs.length begin r a (cc + 1)) = (y, b1 :: Bs) by rw [NEW.out]; simp [combJ])
                      have e2 : leastJ (x, ([] : List (List Nat))) = -1 := by simp [leastJ]
                      rw [e2]
                      clear NEW e2
                      go_wp2
                      go_roundw
                      case rel => exact ⟨cc + 1, by have := HKK.out; omega, by rw [HKK.out]; go_num, by rw [R.out]; simp [leastJ], by rw [R.out, HNB.out], Lib.hid (by rw [R.out]; exact F6.out), B6, X6, G6⟩
                      case measure => (simp [intOf]; try omega)
                    | cons a1 As =>
                      have e2 : leastJ (x, a1 :: As) = x := by simp [leastJ]
                      rw [e2]
                      clear e2
                      obtain ⟨nA, hnA⟩ : ∃ q, (a1 :: As).length = q := ⟨_, rfl⟩
                      rw [hnA] at hAn ⊢
                      have HNA := Lib.hid hnA
                      clear hnA
                      have hx0 : ¬ x < 0 := by omega
                      by_cases h1 : y < x
                      · have R := Lib.hid (show bestJ m bs (partJ bs.length begin r a (cc + 1)) = (y, b1 :: Bs) by rw [NEW.out]; simp [combJ, h1])
                        clear NEW
                        go_wp2
                        go_roundw
                        case rel => exact ⟨cc + 1, by have := HKK.out; omega, by rw [HKK.out]; go_num, by rw [R.out]; simp [leastJ], by rw [R.out, HNB.out], Lib.hid (by rw [R.out]; exact F6.out), B6, X6, G6⟩
                        case measure => (simp [intOf]; try omega)
                      · by_cases h2 : y = x
                        · subst h2
                          have R := Lib.hid (show bestJ m bs (partJ bs.length begin r a (cc + 1)) = (y, a1 :: As ++ b1 :: Bs) by rw [NEW.out]; simp [combJ])
                          have hyy : (y == y) = true := by simp
                          have LE := Lib.hid (show (a1 :: As ++ b1 :: Bs).length = nA + nB by rw [List.length_append, HNA.out, HNB.out])
                          clear NEW
                          go_wp2
                          go_roundw
                          case rel => exact ⟨cc + 1, by have := HKK.out; omega, by rw [HKK.out]; go_num, by rw [R.out]; simp [leastJ], by rw [R.out, LE.out]; go_num, Lib.hid (by rw [R.out]; intro l0 r0 h; cases h; exact O6.out _ _ rfl), B6, X6, G6⟩
                          case measure => (simp [intOf]; try omega)
                        · have R := Lib.hid (show bestJ m bs (partJ bs.length begin r a (cc + 1)) = (x, a1 :: As) by rw [NEW.out]; simp [combJ, h1, h2])
                          have hyy : (y == x) = false := by simpa using h2
                          clear NEW
                          go_wp2
                          go_roundw
                          case rel => exact ⟨cc + 1, by have := HKK.out; omega, by rw [HKK.out]; go_num, by rw [R.out]; simp [leastJ], by rw [R.out, HNA.out], Lib.hid (by rw [R.out]; exact O6.out), B6, X6, G6⟩
                          case measure => (simp [intOf]; try omega)
            · obtain rfl : a + cc = l := by omega
              have E := Lib.hid (show bestJ m bs (comps bs.length begin (r + 1) a) = bestJ m bs (partJ bs.length begin r a cc) by rw [comps_s, show bs.length - a = cc by have := HVN.out; omega])
              go_wp2
              go_ret3
              rw [E.out]
              exact ⟨_, rfl, F3.out, B3.out⟩
        case inr =>
          have hk0 : 0 < k := by
            have := HN.out
            cases hbg : begin with
            | nil => rw [hbg] at hlast; cases hlast
            | cons y t => rw [hbg] at this; simp at this; omega
          have hk0I : (0 : Int) < k := by omega
          obtain ⟨b, off, rfl, hbw, hcx⟩ := HC.out (k - 1) (by omega)
          have hlx : begin.getD (k - 1) 0 = xl := by
            rw [List.getLast?_eq_getElem?] at hlast
            rw [List.getD_eq_getElem?_getD, HN.out, hlast]; rfl
          rw [idx_gt, hlx] at hcx
          have hcx2 := (B2.out.cell (p := ⟨b, off + (k - 1), none⟩) hbw).trans hcx
          have hw1 : ((k : Int) - 1).toNat = k - 1 := by omega
          have hw2 : 0 ≤ (k : Int) - 1 ∧ (k : Int) - 1 < k := by omega
          have hw3 : (k : Int) - 1 = ((k - 1 : Nat) : Int) := by omega
          subst hax
          clear hcx hlx hlast
          go_wp2_with fail
          go_loopw [14, 15, 16, 17] (fun t14 t15 t16 q wr => ∃ cc : Nat, (xl + 1) + cc ≤ l ∧ q = .int .i64 (((xl + 1) + cc : Nat) : Int) ∧ t14 = .int .i64 (leastJ (bestJ m bs (partJ bs.length begin r (xl + 1) cc))) ∧ t15 = .int .i64 (bestJ m bs (partJ bs.length begin r (xl + 1) cc)).2.length ∧ Hid (∀ l0 r0, (bestJ m bs (partJ bs.length begin r (xl + 1) cc)).2 = l0 :: r0 → Ints wr w.heap.size t16 (idx l0)) ∧ Hid (Below w.heap.size w wr) ∧ Hid (Blk wr w.heap.size #[.int .i64 m, .slice av l c]) ∧ Hid (Ints wr w.heap.size (.slice (some ⟨g, 0, none⟩) m cg) (lab m (pickB bs begin)))) (fun _ _ _ q _ => l - (intOf q).toNat)
          case atStart => exact ⟨0, by omega, by go_num, rfl, rfl, Lib.hid (fun l0 r0 h => by cases h), B2, X2, I2'⟩
          case round =>
            obtain ⟨cc, hcc, rfl, rfl, rfl, F3, B3, X3, I3⟩ := hrel
            have hszr := B3.out.size
            obtain ⟨c0, c1, l3⟩ := X3.out.two
            by_cases hltc : (xl + 1) + cc < l
            · obtain ⟨kk, hkk⟩ : ∃ kk, kk = (xl + 1) + cc := ⟨_, rfl⟩
              have NEWs := Lib.hid (best_part m bs bs.length begin r (xl + 1) cc)
              have NOs := Lib.hid (fun h => best_part_no (m := m) (bs := bs) (begin := begin) (r := r) (a := (xl + 1)) (c := cc) h)
              rw [← hkk] at hltc NEWs NOs ⊢
              have RCk := Lib.hid (RC.out r rfl kk (by omega) (by have := HVN.out; omega))
              have hkl : (kk : Int) < l := by omega
              have hpc := best_cnt (m := m) (bs := bs) (Ls := partJ bs.length begin r (xl + 1) cc) (0, [])
              have hpc2 := partJ_cnt bs.length begin r (xl + 1) cc (by have := HVN.out; omega)
              have hin : ∀ r' a' bg, (∀ x ∈ bg, x < bs.length) → bg.length + r' ≤ 6 → ∀ z ∈ comps bs.length bg r' a', z.length ≤ 6 ∧ ∀ x ∈ z, x < bs.length := fun r' a' bg hbg hlen z hz => by
                obtain ⟨t, rfl, ht1, ht2⟩ := comps_in hz
                refine ⟨by simp; omega, fun x hx => ?_⟩
                rcases List.mem_append.1 hx with hx | hx
                · exact hbg x hx
                · exact (ht2 x hx).2
              have hbk : ∀ x ∈ begin ++ [kk], x < bs.length := fun x hx => by
                rcases List.mem_append.1 hx with hx | hx
                · exact HLT.out x hx
                · simp at hx; have := HVN.out; omega
              have hAl := best_low HG.out (q := 6) (Ls := partJ bs.length begin r (xl + 1) cc) (fun z hz => by
                unfold partJ at hz
                rw [List.mem_flatMap] at hz
                obtain ⟨q, hq, hz⟩ := hz
                have hq2 := upI_lt q hq
                refine hin r (q + 1) (begin ++ [q]) (fun x hx => ?_) (by simp; have := HN.out; omega) z hz
                rcases List.mem_append.1 hx with hx | hx
                · exact HLT.out x hx
                · simp at hx; have := HVN.out; omega) (0, []) (by simp)
              have hBl := best_low HG.out (q := 6) (Ls := comps bs.length (begin ++ [kk]) r (kk + 1)) (hin r (kk + 1) (begin ++ [kk]) hbk (by simp; have := HN.out; omega)) (0, []) (by simp)
              have hBc := best_cnt (m := m) (bs := bs) (Ls := comps bs.length (begin ++ [kk]) r (kk + 1)) (0, [])
              have hBc2 : (comps bs.length (begin ++ [kk]) r (kk + 1)).length ≤ bs.length ^ (r + 1) := by
                unfold comps
                rw [List.length_map]
                refine Nat.le_trans (ext_cnt _ r _) (Nat.pow_le_pow_right (by have := HVN.out; omega) (Nat.le_succ _))
              have CUT := Lib.hid (fun hs z (hz : z ∈ comps bs.length (begin ++ [kk]) r (kk + 1)) => joins_cutJ HG.out (m := m) (begin := begin) (kk := kk) hbk (by have := HN.out; omega) hs hz)
              have hpw := POWH.out
              have hAx : 0 ≤ (bestJ m bs (partJ bs.length begin r (xl + 1) cc)).1 ∧ (bestJ m bs (partJ bs.length begin r (xl + 1) cc)).1 ≤ 6000 := ⟨hAl.1, by have := hAl.2; unfold bestJ; simpa using this⟩
              have hAn : (bestJ m bs (partJ bs.length begin r (xl + 1) cc)).2.length ≤ 10000000 := by unfold bestJ; simp at hpc; omega
              have hBx : 0 ≤ (bestJ m bs (comps bs.length (begin ++ [kk]) r (kk + 1))).1 ∧ (bestJ m bs (comps bs.length (begin ++ [kk]) r (kk + 1))).1 ≤ 6000 := ⟨hBl.1, by have := hBl.2; unfold bestJ; simpa using this⟩
              have hBn : (bestJ m bs (comps bs.length (begin ++ [kk]) r (kk + 1))).2.length ≤ 10000000 := by unfold bestJ; simp at hBc; omega
              have HKK := Lib.hid hkk
              clear hpc hpc2 hin hbk hAl hBl hBc hBc2 hpw hkk
              obtain ⟨A, hA⟩ : ∃ A, bestJ m bs (partJ bs.length begin r (xl + 1) cc) = A := ⟨_, rfl⟩
              rw [hA] at hAx hAn NEWs NOs F3 ⊢
              clear hA
              obtain ⟨Bq, hBq⟩ : ∃ Bq, bestJ m bs (comps bs.length (begin ++ [kk]) r (kk + 1)) = Bq := ⟨_, rfl⟩
              rw [hBq] at hBx hBn NEWs RCk
              clear hBq
              have NEW := NEWs
              clear NEWs
              obtain ⟨b2, off2, rfl, hbw2, hAt⟩ := HVC.out kk hltc
              obtain ⟨x0, x1, x2⟩ := hAt.below hbw2 B3.out
              have hv := HG.out.at (j := kk) (by have := HVN.out; omega)
              generalize gb bs kk = q at *
              obtain ⟨y0, y1, y2⟩ := q
              simp only at hv x0 x1 x2 CUT
              clear hAt
              obtain ⟨i, rfl⟩ := Int.eq_ofNat_of_zero_le hv.1
              obtain ⟨j, rfl⟩ := Int.eq_ofNat_of_zero_le (show 0 ≤ y1 by omega)
              have hin1 : i < m := by omega
              have hjn1 : j < m := by omega
              have e1 := I3.out.cell (by rw [lab_len]) i hin1
              have e2 := I3.out.cell (by rw [lab_len]) j hjn1
              have hi2 : (i : Int) < m := by omega
              have hj2 : (j : Int) < m := by omega
              have CUT2 : gt (lab m (pickB bs begin)) i = gt (lab m (pickB bs begin)) j → ∀ z ∈ comps bs.length (begin ++ [kk]) r (kk + 1), joinsB m bs z = false := fun hs => CUT.out (by simp [same, hs])
              have CT := Lib.hid CUT2
              clear CUT CUT2 hv
              generalize gt (lab m (pickB bs begin)) i = p at *
              generalize gt (lab m (pickB bs begin)) j = q at *
              by_cases hpq : p = q
              · subst hpq
                have R := Lib.hid (NOs.out (CT.out rfl))
                have hpb : (p == p) = true := by simp
                clear NOs NEW RCk CT
                go_wp2_with fail
                go_quiet (fail)
                go_wp2
                go_roundw
                case rel => exact ⟨cc + 1, by have := HKK.out; omega, by rw [HKK.out]; go_num, by rw [R.out], by rw [R.out], Lib.hid (fun l0 r0 h => (F3.out l0 r0 (by rw [R.out] at h; exact h)).below (by apply below_drewN; exact Below.refl _ _)), Lib.hid (by apply below_drewN; exact B3.out), Lib.hid (X3.out.below (B := wr.heap.size) (by apply below_drewN; exact Below.refl _ _) X3.out.lt), Lib.hid (I3.out.below (by apply below_drewN; exact Below.refl _ _))⟩
                case measure => (simp [intOf]; try omega)
              · have hpb : (p == q) = false := by simpa using hpq
                clear NOs CT
                go_wp2_with fail
                go_quiet (fail)
                go_wp2_with fail
                generalize hwq : World.drewN wr _ = wq
                have hQ : Below wr.heap.size wr wq := by rw [← hwq]; apply below_drewN; exact Below.refl _ _
                have B3q := Lib.hid (B3.out.trans (hQ.mono hszr))
                have X3q := Lib.hid (X3.out.below hQ X3.out.lt)
                have I3q := Lib.hid (I3.out.below hQ)
                have F3q := Lib.hid (fun l0 r0 h => (F3.out l0 r0 h).below hQ)
                clear hwq hQ c0 c1 l3 B3 X3 I3 F3 e1 e2 x0 x1 x2
                have hszq := B3q.out.size
                obtain ⟨c0, c1, l3⟩ := X3q.out.two
                have D1 := Lib.hid (show Below wq.heap.size wq wq.drew from Below.drew (Below.refl _ _))
                have NB := Lib.hid (Blk.new wq #[.int .i64 kk] 3).drew
                have DA := Lib.hid (show Below wq.heap.size wq (wq.alloc (.cells #[.int .i64 kk] 3)).drew by (repeat (first | exact Below.refl _ _ | (refine Below.alloc ?_ (by first | omega | (simp; try omega)) _) | apply Below.drew | apply below_drewN)))
                go_region_held3 (fun w' => w'.cell? ⟨w.heap.size, 0, none⟩ = some (.int .i64 (m : Int)) ∧ w'.cell? ⟨w.heap.size, 1, none⟩ = some (.slice (some ⟨b2, off2, none⟩) l c)) (first | exact kpW (X3q.out.below D1.out X3q.out.lt) | exact kpW (X3q.out.below DA.out X3q.out.lt) | exact kpW (X3q.out.below D4.out X3q.out.lt) | exact kpW ((X3q.out.below D4.out X3q.out.lt).alloc _) | exact kpW (X3q.out.below D5.out X3q.out.lt) | exact kpW (X3q.out.below D6.out X3q.out.lt)) (first
                  | (go_at_call 53; (with_reducible refine (l1Own _ (idx begin) wq.drew (HI.out.below (B3q.out.trans (D1.out.mono hszq))) HNL.out hil).mono ?_); rintro e w4 ⟨u, rfl, hI4, hb4⟩; have U4 := Lib.hid (ints_mono' hI4 D1.out.size); have D4 := Lib.hid (D1.out.trans (hb4.mono D1.out.size)); clear hI4 hb4; skip)
                  | (go_at_call 53; (with_reducible refine (l1Own _ (idx begin) (wq.alloc (.cells #[.int .i64 kk] 3)).drew (HI.out.below (B3q.out.trans (DA.out.mono hszq))) HNL.out hil).mono ?_); rintro e w4 ⟨u, rfl, hI4, hb4⟩; have U4 := Lib.hid (ints_mono' hI4 DA.out.size); have D4 := Lib.hid (DA.out.trans (hb4.mono DA.out.size)); have N4 := Lib.hid (NB.out.below hb4 NB.out.lt); clear hI4 hb4; skip)
                  | (refine step_appI rfl (.tmp 100) (.tmp 102) rfl wq.heap.size u (idx begin) ?_ U4.out wq.heap.size (kk : Int) ?_ (N4.out.cell 0) hil2 D4.out.size (k + 1) ?_ (idx (begin ++ [kk])) (idx_snocJ begin kk) ?_; (· simp [Act.eval]); (· simp [Act.eval]); (· (rw [idx_len, ← HN.out])); intro g5 cap5 w5 hI5 hb5; have D5 := Lib.hid (D4.out.trans hb5); have I5 := Lib.hid hI5.rd; clear hI5 hb5; skip)
                  | (refine step_appI rfl (.tmp 100) (.tmp 102) rfl wq.heap.size u (idx begin) ?_ (U4.out.below ((Below.refl _ _).alloc (Nat.le_refl _) _)) w4.heap.size (kk : Int) ?_ ((Blk.new w4 #[.int .i64 kk] 3).cell 0) hil2 ?_ (k + 1) ?_ (idx (begin ++ [kk])) (idx_snocJ begin kk) ?_; (· simp [Act.eval]); (· simp [Act.eval]); (· exact Nat.le_trans D4.out.size (by simp)); (· (rw [idx_len, ← HN.out])); intro g5 cap5 w5 hI5 hb5; have D5 := Lib.hid ((D4.out.alloc D4.out.size _).trans hb5); have I5 := Lib.hid hI5.rd; clear hI5 hb5; skip)
                  | (go_at_call 42; (with_reducible refine (RCk.out _ w5 (B3q.out.trans (D5.out.mono hszq)) I5.out (nil_some _ _ _)).mono ?_); rintro e w6 ⟨u6, rfl, hI6, hb6⟩; have D6 := Lib.hid (D5.out.trans (hb6.mono D5.out.size)); have F6 := Lib.hid (fun l0 r0 h => ints_mono' (hI6 l0 r0 h) (Nat.le_trans hszq D5.out.size)); clear hI6 hb6; skip)
                  | fail)
                all_goals
                  have B6 := Lib.hid (B3q.out.trans (D6.out.mono hszq))
                  have X6 := Lib.hid (X3q.out.below D6.out X3q.out.lt)
                  have G6 := Lib.hid (I3q.out.below D6.out)
                  have O6 := Lib.hid (fun l0 r0 h => (F3q.out l0 r0 h).below D6.out)
                  clear D1 NB DA D4 U4 I5 D5 D6 X3q I3q F3q RCk
                  obtain ⟨y, Bs⟩ := Bq
                  obtain ⟨x, As⟩ := A
                  simp only at hAx hAn hBx hBn F6 O6 NEW ⊢
                  cases Bs with
                  | nil =>
                    have R := Lib.hid (show bestJ m bs (partJ bs.length begin r (xl + 1) (cc + 1)) = (x, As) by rw [NEW.out]; rfl)
                    have e1 : leastJ (y, ([] : List (List Nat))) = -1 := by simp [leastJ]
                    rw [e1]
                    clear NEW e1
                    go_wp2
                    go_roundw
                    case rel => exact ⟨cc + 1, by have := HKK.out; omega, by rw [HKK.out]; go_num, by rw [R.out], by rw [R.out], Lib.hid (by rw [R.out]; exact O6.out), B6, X6, G6⟩
                    case measure => (simp [intOf]; try omega)
                  | cons b1 Bs =>
                    have e1 : leastJ (y, b1 :: Bs) = y := by simp [leastJ]
                    rw [e1]
                    clear e1
                    obtain ⟨nB, hnB⟩ : ∃ q, (b1 :: Bs).length = q := ⟨_, rfl⟩
                    have hnB0 : 0 < nB := by rw [← hnB]; simp
                    rw [hnB] at hBn ⊢
                    have HNB := Lib.hid hnB
                    clear hnB
                    have hnBb : ((nB : Int) == 0) = false := by simp; omega
                    cases As with
                    | nil =>
                      have R := Lib.hid (show bestJ m bs (partJ bs.length begin r (xl + 1) (cc + 1)) = (y, b1 :: Bs) by rw [NEW.out]; simp [combJ])
                      have e2 : leastJ (x, ([] : List (List Nat))) = -1 := by simp [leastJ]
                      rw [e2]
                      clear NEW e2
                      go_wp2
                      go_roundw
                      case rel => exact ⟨cc + 1, by have := HKK.out; omega, by rw [HKK.out]; go_num, by rw [R.out]; simp [leastJ], by rw [R.out, HNB.out], Lib.hid (by rw [R.out]; exact F6.out), B6, X6, G6⟩
                      case measure => (simp [intOf]; try omega)
                    | cons a1 As =>
                      have e2 : leastJ (x, a1 :: As) = x := by simp [leastJ]
                      rw [e2]
                      clear e2
                      obtain ⟨nA, hnA⟩ : ∃ q, (a1 :: As).length = q := ⟨_, rfl⟩
                      rw [hnA] at hAn ⊢
                      have HNA := Lib.hid hnA
                      clear hnA
                      have hx0 : ¬ x < 0 := by omega
                      by_cases h1 : y < x
                      · have R := Lib.hid (show bestJ m bs (partJ bs.length begin r (xl + 1) (cc + 1)) = (y, b1 :: Bs) by rw [NEW.out]; simp [combJ, h1])
                        clear NEW
                        go_wp2
                        go_roundw
                        case rel => exact ⟨cc + 1, by have := HKK.out; omega, by rw [HKK.out]; go_num, by rw [R.out]; simp [leastJ], by rw [R.out, HNB.out], Lib.hid (by rw [R.out]; exact F6.out), B6, X6, G6⟩
                        case measure => (simp [intOf]; try omega)
                      · by_cases h2 : y = x
                        · subst h2
                          have R := Lib.hid (show bestJ m bs (partJ bs.length begin r (xl + 1) (cc + 1)) = (y, a1 :: As ++ b1 :: Bs) by rw [NEW.out]; simp [combJ])
                          have hyy : (y == y) = true := by simp
                          have LE := Lib.hid (show (a1 :: As ++ b1 :: Bs).length = nA + nB by rw [List.length_append, HNA.out, HNB.out])
                          clear NEW
                          go_wp2
                          go_roundw
                          case rel => exact ⟨cc + 1, by have := HKK.out; omega, by rw [HKK.out]; go_num, by rw [R.out]; simp [leastJ], by rw [R.out, LE.out]; go_num, Lib.hid (by rw [R.out]; intro l0 r0 h; cases h; exact O6.out _ _ rfl), B6, X6, G6⟩
                          case measure => (simp [intOf]; try omega)
                        · have R := Lib.hid (show bestJ m bs (partJ bs.length begin r (xl + 1) (cc + 1)) = (x, a1 :: As) by rw [NEW.out]; simp [combJ, h1, h2])
                          have hyy : (y == x) = false := by simpa using h2
                          clear NEW
                          go_wp2
                          go_roundw
                          case rel => exact ⟨cc + 1, by have := HKK.out; omega, by rw [HKK.out]; go_num, by rw [R.out]; simp [leastJ], by rw [R.out, HNA.out], Lib.hid (by rw [R.out]; exact O6.out), B6, X6, G6⟩
                          case measure => (simp [intOf]; try omega)
            · obtain rfl : (xl + 1) + cc = l := by omega
              have E := Lib.hid (show bestJ m bs (comps bs.length begin (r + 1) (xl + 1)) = bestJ m bs (partJ bs.length begin r (xl + 1) cc) by rw [comps_s, show bs.length - (xl + 1) = cc by have := HVN.out; omega])
              go_wp2
              go_ret3
              rw [E.out]
              exact ⟨_, rfl, F3.out, B3.out⟩
end Go.Proofs.Ytdmgpbhbgeknfaa
