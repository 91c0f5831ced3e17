/- impl.LeapsLeft, spec.rvLeft, spec.LeapsLeft. -/
import Derived.Test.YtnmeomcoeknjoabMap
import Derived.Test.YtnmeomcoeknjoabAsk
import Derived.Test.YtnmeomcoeknjoabLvl
import Derived.Laws.OwnMore
namespace Go.Proofs.Ytnmeomcoeknjoab
set_option linter.unusedVariables false
open Go.RowKit

def leftL (s : ByteArray) (L : Int) : List Int := if asked s L then lefts s L.toNat else []
theorem leftL_no {s : ByteArray} {L : Int} (h : asked s L = false) : leftL s L = [] := by simp [leftL, h]
theorem leftL_yes {s : ByteArray} {L : Int} (h : asked s L = true) : leftL s L = lefts s L.toNat := by simp [leftL, h]
theorem leftL_len (s : ByteArray) (L : Int) : (leftL s L).length ≤ 42 := by
  unfold leftL; split
  · rename_i h; have := (asked_out h).2.2.1; rw [lefts, lvl_len]; omega
  · simp

def IntsPost' (B : Nat) (zs : List Int) (ok : Bool) (w : World) (e : Ending) (w' : World) : Prop :=
  ∃ v, e = .returned (.tuple #[v, .bool ok]) ∧ Ints w' B v zs ∧ Below B w w'

theorem set_rep (p : Nat) (x y : Int) (l : List Int) : (List.replicate (p + 1) x ++ l).set p y = List.replicate p x ++ (y :: l) := by
  rw [List.replicate_succ', List.append_assoc, List.set_append_right _ _ (by simp)]
  simp
theorem set_rep2 (p : Nat) (x y z : Int) (l : List Int) : (List.replicate p x ++ (z :: l)).set p y = List.replicate p x ++ (y :: l) := by
  rw [List.set_append_right _ _ (by simp)]
  simp
theorem drop_rep (p : Nat) (x z : Int) (l : List Int) : (List.replicate p x ++ (z :: l)).drop (p + 1) = l := by
  rw [List.drop_append]
  simp

theorem small_take {l : List Int} {k : Nat} (h : Small l k) (hk : (k : Int) ≤ 100) (m : Nat) : Small (l.take m) 100 := by
  intro j
  have := h j
  by_cases hj : j < m
  · have e : gt (l.take m) j = gt l j := by simp [gt, hj]
    rw [e]; omega
  · have e : gt (l.take m) j = 0 := gt_out (by simp; omega)
    rw [e]; omega

set_option maxHeartbeats 2000000 in
theorem implLeft (s : ByteArray) (L : Int) (w : World) (hs : s.size ≤ 1048576) :
    Calls Try.prog 87 #[.string s, .int .i64 L] w (IntsPost' w.heap.size (leftL s L) (asked s L) w) := by
  cases h1 : asked s L
  · have J := Lib.hid (leftL_no h1)
    have G := Lib.hid h1
    clear h1
    go_enter Try.func87, Try.ntmps87
    go_wp2_with (go_at_call 90; refine (implAsked _ _ _ hs).mono ?_; rintro e w' ⟨rfl, rfl⟩; rw [G.out])
    go_ret2
    exact ⟨_, rfl, by rw [J.out]; exact World.ownsRow_nil _ _ _ _, Below.refl _ _⟩
  · have J := Lib.hid (leftL_yes h1)
    obtain ⟨_, hz1, hz2, hl1, hl2⟩ := asked_out h1
    obtain ⟨l, rfl⟩ := Int.eq_ofNat_of_zero_le (show 0 ≤ L by omega)
    have G := Lib.hid h1
    clear h1
    obtain ⟨far, hfar⟩ : ∃ far, far = s.size + 1 := ⟨_, rfl⟩
    have hf1 : far ≤ 41 := by omega
    have hf2 : 2 ≤ far := by omega
    have HF := Lib.hid hfar
    clear hfar
    go_enter Try.func87, Try.ntmps87
    go_wp2_with (first
      | (go_at_call 90; refine (implAsked _ _ _ hs).mono ?_; rintro e w' ⟨rfl, rfl⟩; rw [G.out])
      | (go_at_call 95; refine (standing s _ hz2).mono ?_; rintro e w1 ⟨b, N, rfl, hb, hN, hM, hbel⟩)
      | (go_at_call 96; refine (farBank _ _ hs).mono ?_; rintro e w' ⟨rfl, rfl⟩; rw [show (s.size : Int) + 1 = far by (have := HF.out; omega)])
      | (at_make; refine wpList_mk rfl _ _ rfl w.heap.size (far + 1) _ rfl rfl rfl (by omega) hbel.size ?_; intro w2 hI hb2 hg2))
    have hM2 := hM.kept hg2 (by simp)
    have hB2 := hbel.trans hb2
    have hbg := hM.lt
    have hgB := hbel.size
    clear hM hbel hb2 hg2
    generalize w1.heap.size = g at *
    go_loopw [9] (fun i wr => ∃ q : Nat, q ≤ far ∧ i = .int .i64 ((q : Int) - 1) ∧ Ints wr w.heap.size (.slice (some ⟨g, 0, none⟩) (far + 1) (far + 1)) (List.replicate q 0 ++ lvl s l far (far - q)) ∧ StMap wr b N (standI s) ∧ Below w.heap.size w wr) (fun i _ => (intOf i + 1).toNat)
    case atStart => exact ⟨far, Nat.le_refl _, rfl, by rw [Nat.sub_self]; simpa [lvl, List.replicate_succ'] using hI, hM2, hB2⟩
    case round =>
      clear hM2 hB2 hI
      obtain ⟨q, hq, hi, hI, hM, hbel⟩ := hrel
      have hle := hbel.size
      rcases q with _ | p
      · subst hi
        go_wp2
        go_ret2
        refine ⟨_, rfl, ?_, hbel⟩
        rw [J.out, lefts, ← HF.out]
        simpa using hI
      · have hi2 := hi.trans (show Value.int .i64 (((p + 1 : Nat) : Int) - 1) = .int .i64 (p : Int) from by congr 1; omega)
        clear hi
        subst hi2
        have hp : p ≤ far - 1 := by omega
        obtain ⟨k, hk⟩ : ∃ k, k = far - (p + 1) := ⟨_, rfl⟩
        rw [← hk] at hI
        have hpk : far - (k + 1) = p := by omega
        have hpk2 : far - p = k + 1 := by omega
        have hlen : far + 1 = (List.replicate (p + 1) (0 : Int) ++ lvl s l far k).length := by simp [lvl_len]; omega
        have hc0 := hI.cell hlen p (by omega)
        have hf0 := hI.frz hlen p
        have hI1 := hI.set hlen p (-1)
        rw [set_rep] at hI1
        have hM1 := hM.kept hI1.2 (by intro e; injection e with e; omega)
        have hlen1 : far + 1 = (List.replicate p (0 : Int) ++ (-1 :: lvl s l far k)).length := by simp [lvl_len]; omega
        have hlk := hM1.get (c := (p : Int)) (wf64 (by omega) (by omega))
        rw [standI_nat] at hlk
        cases hst : stand s p
        · rw [hst] at hlk
          have R := lvl_no (L := l) (far := far) (k := k) (by rw [hpk]; exact hst)
          rw [← hpk2] at R
          have hIR := hI1.1
          rw [← R] at hIR
          have HI := Lib.hid hIR
          have HB := Lib.hid (hbel.grown hI1.2 hle (by intro j hj; cases hj; exact hgB))
          have HM := Lib.hid hM1
          have HK := Lib.hid (And.intro hk (And.intro hpk hpk2))
          have HL := Lib.hid (And.intro hlen hlen1)
          clear hst R hIR hI1 hM1 hI hM hk hpk hpk2 hlen hlen1
          go_wp2
          go_roundw
          case rel => exact ⟨p, by omega, rfl, HI.out, HM.out, HB.out⟩
          case measure => (simp [intOf]; try omega)
        · rw [hst] at hlk
          have R := Lib.hid (lvl_yes (L := l) (far := far) (k := k) (by rw [hpk]; exact hst))
          have i1 : p + 1 < far + 1 := by omega
          have i2 : ¬ (far + 1 ≤ p + 1) := by omega
          have hlv := lvl_len s l far k
          have hsm := lvl_small s l far k
          have rd := fun (m : Nat) (hm : p + 1 + m ≤ far + 1) => Rd.part hI1.1 hlen1 (Nat.le_refl _) (by unfold maxLen; omega) (p + 1) m (far - p) hm (by omega) (by unfold maxLen; omega)
          rw [drop_rep] at rd
          have hI2 := hI1.1.set hlen1 p (oml ((lvl s l far k).take l))
          rw [set_rep2, ← R.out, ← hpk2] at hI2
          have HRel := Lib.hid (And.intro hI2.1 (And.intro (hM1.kept hI2.2 (by intro e; injection e with e; omega)) ((hbel.grown hI1.2 hle (by intro j hj; cases hj; exact hgB)).grown hI2.2 (Nat.le_trans hle hI1.2.size) (by intro j hj; cases hj; exact hgB))))
          have HRD := Lib.hid rd
          have HS := Lib.hid hsm
          have HV := Lib.hid hlv
          have HK := Lib.hid (And.intro hk (And.intro hpk hpk2))
          clear hst hI1 hM1 hI hM hk hpk hpk2 hlen hlen1 rd hI2 hsm hlv
          by_cases hmin : p + l ≤ far
          · go_wp2_with (go_at_call 97; refine (oneMore _ _ _ (HRD.out l (by omega)) (by have := HV.out; have := HK.out.1; simp; omega) (small_take HS.out (by have := HK.out.1; omega) _)).mono ?_; rintro e w' ⟨rfl, rfl⟩)
            go_roundw
            case rel => exact ⟨p, by omega, rfl, HRel.out.1, HRel.out.2.1, HRel.out.2.2⟩
            case measure => (simp [intOf]; try omega)
          · have e : (lvl s l far k).take (far - p) = (lvl s l far k).take l := by
              have := HV.out; have := HK.out.1
              rw [List.take_of_length_le (by omega), List.take_of_length_le (by omega)]
            have E := Lib.hid e
            clear e
            go_wp2_with (go_at_call 97; refine (oneMore _ _ _ (HRD.out (far - p) (by omega)) (by have := HV.out; have := HK.out.1; simp; omega) (small_take HS.out (by have := HK.out.1; omega) _)).mono ?_; rintro e w' ⟨rfl, rfl⟩; rw [E.out])
            go_roundw
            case rel => exact ⟨p, by omega, rfl, HRel.out.1, HRel.out.2.1, HRel.out.2.2⟩
            case measure => (simp [intOf]; try omega)

theorem gt_app (p : Nat) (x : Int) (l : List Int) (j : Nat) : gt (List.replicate p x ++ l) (p + j) = gt l j := by
  simp only [gt, List.getD_eq_getElem?_getD]
  rw [List.getElem?_append_right (by simp)]
  simp

theorem left_set {w : World} {g n p : Nat} {a y z : Int} {l : List Int} (h : Ints w g (.slice (some ⟨g, 0, none⟩) n n) (List.replicate p 0 ++ (a :: l))) (hn : n = (List.replicate p (0 : Int) ++ (a :: l)).length) (e : z = y) (m : Nat) :
    Ints ((w.drewN m).setCell ⟨g, p, none⟩ (.int .i64 y)) g (.slice (some ⟨g, 0, none⟩) n n) (List.replicate p 0 ++ (z :: l)) := by
  subst e
  have := ((h.below (below_drewN (Below.refl _ _) m)).set hn p z).1
  rwa [set_rep2] at this
theorem left_bel {w0 w : World} {g p : Nat} {v : Value} (h : Below g w0 w) (hg : g ≤ w.heap.size) (m : Nat) : Below g w0 ((w.drewN m).setCell ⟨g, p, none⟩ v) := (below_drewN h m).setCell (Nat.le_refl _) _

set_option maxHeartbeats 4000000 in
theorem specRvLeft (s : ByteArray) (l : Nat) (w : World) (hz1 : 1 ≤ s.size) (hz2 : s.size ≤ 40) (hl1 : 1 ≤ l) (hl2 : l ≤ 50) :
    Calls Try.prog 69 #[.string s, .int .i64 l] w fun e w' => ∃ v, e = .returned v ∧ Ints w' w.heap.size v (lefts s l) ∧ Below w.heap.size w w' := by
  obtain ⟨far, hfar⟩ : ∃ far, far = s.size + 1 := ⟨_, rfl⟩
  have hf1 : far ≤ 41 := by omega
  have hf2 : 2 ≤ far := by omega
  have hs : s.size ≤ 1048576 := by omega
  have HF := Lib.hid hfar
  have hfs : s.size + 1 = far := hfar.symm
  clear hfar
  go_enter Try.func69, Try.ntmps69
  go_upto_region 2 with fail
  have hfi : (s.size : Int) + 1 = far := by omega
  simp only [hfi]
  clear hfi hfs
  go_wp2_with (at_make; refine wpList_mk rfl _ _ rfl w.heap.size (far + 1) _ rfl rfl rfl (by omega) (Nat.le_refl _) ?_; intro w2 hI hb2 hg2)
  have hgB := hb2.size
  generalize hgg : w.heap.size = g at *
  have HG := Lib.hid hgg
  clear hgg hg2
  go_loopw [7] (fun i wr => ∃ q : Nat, q ≤ far ∧ i = .int .i64 ((q : Int) - 1) ∧ Ints wr g (.slice (some ⟨g, 0, none⟩) (far + 1) (far + 1)) (List.replicate q 0 ++ lvl s l far (far - q)) ∧ Below g w wr) (fun i _ => (intOf i + 1).toNat)
  case atStart => exact ⟨far, Nat.le_refl _, rfl, by rw [Nat.sub_self]; simpa [lvl, List.replicate_succ'] using hI, hb2⟩
  case round =>
    clear hI hb2
    obtain ⟨q, hq, hi, hI, hbel⟩ := hrel
    have hle : g ≤ wr.heap.size := by have := hbel.size; have := HG.out; omega
    rcases q with _ | p
    · subst hi
      go_wp2
      go_ret
      refine ⟨_, rfl, ?_, by rw [HG.out]; exact hbel⟩
      rw [HG.out, lefts, ← HF.out]
      simpa using hI
    · have hi2 := hi.trans (show Value.int .i64 (((p + 1 : Nat) : Int) - 1) = .int .i64 (p : Int) from by congr 1; omega)
      clear hi
      subst hi2
      have hp : p ≤ far - 1 := by omega
      obtain ⟨k, hk⟩ : ∃ k, k = far - (p + 1) := ⟨_, rfl⟩
      rw [← hk] at hI
      have hpk : far - (k + 1) = p := by omega
      have hpk2 : far - p = k + 1 := by omega
      have hlen : far + 1 = (List.replicate (p + 1) (0 : Int) ++ lvl s l far k).length := by simp [lvl_len]; omega
      have hc0 := hI.cell hlen p (by omega)
      have hf0 := hI.frz hlen p
      have hI1 := hI.set hlen p (-1)
      rw [set_rep] at hI1
      have hB1 := hbel.grown hI1.2 hle (by intro j hj; cases hj; exact Nat.le_refl _)
      cases hst : stand s p
      · have R := lvl_no (L := l) (far := far) (k := k) (by rw [hpk]; exact hst)
        rw [← hpk2] at R
        have hIR := hI1.1
        rw [← R] at hIR
        have HI := Lib.hid hIR
        have HB := Lib.hid hB1
        have HK := Lib.hid (And.intro hk (And.intro hpk hpk2))
        have HL := Lib.hid hlen
        have HT := Lib.hid hst
        clear hst R hIR hI1 hI hk hpk hpk2 hlen hB1
        go_wp2_with (go_at_call 67; refine (rvStand s p _ hs (by have := HF.out; omega)).mono ?_; rintro e w' ⟨rfl, rfl⟩; rw [HT.out])
        go_roundw
        case rel => exact ⟨p, by omega, rfl, HI.out, HB.out⟩
        case measure => (simp [intOf]; try omega)
      · have R := Lib.hid (lvl_yes (L := l) (far := far) (k := k) (by rw [hpk]; exact hst))
        have hv := lvl_len s l far k
        have HS := Lib.hid (lvl_small s l far k)
        have HI := Lib.hid hI1.1
        have HB := Lib.hid hB1
        have HT := Lib.hid hst
        have hkk : k + p + 1 = far := by omega
        have HK := Lib.hid (And.intro hk (And.intro hpk (And.intro hpk2 (And.intro hv hkk))))
        have hk1 : k + p + 1 ≤ far := by omega
        have hk2 : far ≤ k + p + 1 := by omega
        have HL := Lib.hid hlen
        clear hst hI1 hI hk hpk hpk2 hlen hB1 hv hkk
        go_wp2_with (go_at_call 67; refine (rvStand s p _ hs (by have := HF.out; omega)).mono ?_; rintro e w' ⟨rfl, rfl⟩; rw [HT.out])
        obtain ⟨wo, rfl⟩ : ∃ wo : World, wo = wr := ⟨_, rfl⟩
        go_loopw [8] (fun nx wq => ∃ j : Nat, j ≤ l ∧ j ≤ k + 1 ∧ nx = .int .i64 ((p : Int) + 1 + j) ∧ Ints wq g (.slice (some ⟨g, 0, none⟩) (far + 1) (far + 1)) (List.replicate p 0 ++ (oml ((lvl s l far k).take j) :: lvl s l far k)) ∧ Below g w wq) (fun nx _ => far + 1 - (intOf nx).toNat)
        case atStart => exact ⟨0, Nat.zero_le _, Nat.zero_le _, by simp, by rw [oml_0]; exact HI.out, HB.out⟩
        case round =>
          obtain ⟨j, hj1, hj2, rfl, hIq, hbq⟩ := hrel
          have hleq : g ≤ wr.heap.size := by have := hbq.size; have := HG.out; omega
          have hlen1 : far + 1 = (List.replicate p (0 : Int) ++ (oml ((lvl s l far k).take j) :: lvl s l far k)).length := by simp [lvl_len]; omega
          by_cases hgo : j < l ∧ j ≤ k
          · obtain ⟨hg1, hg2⟩ := hgo
            have hca := hIq.cell hlen1 p (by omega)
            have hfa := hIq.frz hlen1 p
            have hcx := hIq.cell hlen1 (p + 1 + j) (by omega)
            rw [show p + 1 + j = p + (1 + j) from by omega, gt_app, gt_cons, if_neg (by omega), show 1 + j - 1 = j from by omega, show p + (1 + j) = p + 1 + j from by omega] at hcx
            have ega := gt_app p 0 (oml ((lvl s l far k).take j) :: lvl s l far k) 0
            rw [Nat.add_zero, gt_cons, if_pos rfl] at ega
            rw [ega] at hca
            have hst := Lib.hid (oml_take (lvl s l far k) j (by have := HK.out.2.2.2.1; omega))
            have hxb := HS.out j
            have hab := oml_small HS.out (by omega) j
            have HIq := Lib.hid hIq
            have HL1 := Lib.hid hlen1
            clear hIq hlen1 ega
            generalize hx : gt (lvl s l far k) j = x at hcx hxb hst
            generalize ha : oml ((lvl s l far k).take j) = a at hca hab hst HIq HL1
            have HX := Lib.hid hx
            have HA := Lib.hid ha
            clear hx ha
            by_cases c0 : 0 ≤ x
            · have d0 : decide (0 ≤ x) = true := by simpa using c0
              by_cases c1 : a < 0
              · have R2 := Lib.hid (hst.out.trans (omStep_yes c0 (.inl c1)))
                have d1 : decide (a < 0) = true := by simpa using c1
                clear hst
                go_wp2
                go_quiet (fail)
                go_wp2
                go_roundw
                case rel => exact ⟨j + 1, by omega, by omega, by go_num, left_set HIq.out HL1.out R2.out _, left_bel hbq hleq _⟩
                case measure => (simp [intOf]; try omega)
              · have d1 : decide (a < 0) = false := by simpa using c1
                by_cases c2 : x + 1 < a
                · have R2 := Lib.hid (hst.out.trans (omStep_yes c0 (.inr c2)))
                  have d2 : decide (x + 1 < a) = true := by simpa using c2
                  clear hst
                  go_wp2
                  go_quiet (fail)
                  go_wp2
                  go_roundw
                  case rel => exact ⟨j + 1, by omega, by omega, by go_num, left_set HIq.out HL1.out R2.out _, left_bel hbq hleq _⟩
                  case measure => (simp [intOf]; try omega)
                · have R2 := Lib.hid (hst.out.trans (omStep_no (.inr ⟨by omega, by omega⟩)))
                  have d2 : decide (x + 1 < a) = false := by simpa using c2
                  clear hst
                  go_wp2
                  go_quiet (fail)
                  go_wp2
                  go_roundw
                  case rel => exact ⟨j + 1, by omega, by omega, by go_num, by rw [R2.out]; exact HIq.out.below (below_drewN (Below.refl _ _) _), below_drewN hbq _⟩
                  case measure => (simp [intOf]; try omega)
            · have d0 : decide (0 ≤ x) = false := by simpa using c0
              have R2 := Lib.hid (hst.out.trans (omStep_no (.inl (by omega))))
              clear hst
              go_wp2
              go_quiet (fail)
              go_wp2
              go_roundw
              case rel => exact ⟨j + 1, by omega, by omega, by go_num, by rw [R2.out]; exact HIq.out.below (below_drewN (Below.refl _ _) _), below_drewN hbq _⟩
              case measure => (simp [intOf]; try omega)
          · have e : (lvl s l far k).take j = (lvl s l far k).take l := by
              have := HK.out.2.2.2.1
              by_cases hjl : j = l
              · rw [hjl]
              · rw [List.take_of_length_le (by omega), List.take_of_length_le (by omega)]
            rw [e, ← R.out, ← HK.out.2.2.1] at hIq
            have HIq := Lib.hid hIq
            have hpk3 := Lib.hid HK.out.2.2.1
            clear hIq e hlen1
            by_cases hjl : j < l
            · have hjk : ¬ (j ≤ k) := fun h => hgo ⟨hjl, h⟩
              have hx1 : ¬ ((p : Int) + 1 + j ≤ far) := by omega
              clear hgo
              go_wp2
              go_roundw
              case rel => exact ⟨p, by omega, rfl, HIq.out, hbq⟩
              case measure => (simp [intOf]; try omega)
            · have hx1 : ¬ ((p : Int) + 1 + j ≤ (p : Int) + l) := by omega
              clear hgo
              by_cases hx2 : (p : Int) + 1 + j ≤ far
              · go_wp2
                go_roundw
                case rel => exact ⟨p, by omega, rfl, HIq.out, hbq⟩
                case measure => (simp [intOf]; try omega)
              · go_wp2
                go_roundw
                case rel => exact ⟨p, by omega, rfl, HIq.out, hbq⟩
                case measure => (simp [intOf]; try omega)

end Go.Proofs.Ytnmeomcoeknjoab
