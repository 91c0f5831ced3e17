/- Groups by spec: isGroups, isCount, isAsked; GroupOf, CountGroups. -/
import Derived.Test.YtihdhgkknfohaadIc
import Derived.Test.YtihdhgkknfohaadIx
namespace Go.Proofs.Ytihdhgkknfohaad
set_option linter.unusedVariables false
open Go.RowKit

theorem l1Least (a b : Int) (w : World) : Calls Try.prog 44 #[.int .i64 a, .int .i64 b] w fun e w' => e = .returned (.int .i64 (min a b)) ∧ w = w' := by
  by_cases h : a < b
  all_goals
    go_enter Try.func44, Try.ntmps44
    go_wp2
    go_ret
    first | (rw [show min a b = a by omega]; exact ⟨rfl, rfl⟩) | (rw [show min a b = b by omega]; exact ⟨rfl, rfl⟩)
theorem l1MostI (a b : Int) (w : World) : Calls Try.prog 45 #[.int .i64 a, .int .i64 b] w fun e w' => e = .returned (.int .i64 (max a b)) ∧ w = w' := by
  by_cases h : b < a
  all_goals
    go_enter Try.func45, Try.ntmps45
    go_wp2
    go_ret
    first | (rw [show max a b = a by omega]; exact ⟨rfl, rfl⟩) | (rw [show max a b = b by omega]; exact ⟨rfl, rfl⟩)

/-- the bridges that are at no island wo -/
def offB (wo : Int) (bs : List Br) : List Br := bs.filter fun b => !(decide (b.1 = wo) || decide (b.2.1 = wo))
theorem offB_none {m : Nat} {bs : List Br} (h : Good m bs) : offB (-1) bs = bs := by
  unfold offB
  rw [List.filter_eq_self]
  intro b hb
  have := h b hb
  simp; omega
theorem offB_good {m : Nat} {bs : List Br} (h : Good m bs) (wo : Int) : Good m (offB wo bs) := h.sub fun b hb => (List.mem_filter.1 hb).1
theorem take_snocB {bs : List Br} {k : Nat} (h : k < bs.length) : bs.take (k + 1) = bs.take k ++ [gb bs k] := by
  rw [List.take_succ_eq_append_getElem h]; simp [gb, h]
theorem offB_yes {bs : List Br} {k : Nat} {wo : Int} (h : k < bs.length) (h1 : (gb bs k).1 ≠ wo) (h2 : (gb bs k).2.1 ≠ wo) : offB wo (bs.take (k + 1)) = offB wo (bs.take k) ++ [gb bs k] := by
  unfold offB
  rw [take_snocB h, List.filter_append]
  simp [h1, h2]
theorem offB_no {bs : List Br} {k : Nat} {wo : Int} (h : k < bs.length) (h1 : (gb bs k).1 = wo ∨ (gb bs k).2.1 = wo) : offB wo (bs.take (k + 1)) = offB wo (bs.take k) := by
  unfold offB
  rw [take_snocB h, List.filter_append]
  rcases h1 with h1 | h1 <;> simp [h1]
theorem gt_range {m : Nat} {bs : List Br} (h : Good m bs) (i : Nat) : 0 ≤ gt (lab m bs) i ∧ gt (lab m bs) i ≤ i := by
  by_cases hi : i < m
  · exact (labOK h).low i hi
  · have : gt (lab m bs) i = 0 := by unfold gt; rw [List.getD_eq_getElem?_getD, List.getElem?_eq_none (by rw [lab_len]; omega)]; rfl
    omega
/-- the first q labels turned -/
def turnTo (hi lo : Int) (cur : List Int) (q : Nat) : List Int := (cur.take q).map (fun z => if z = hi then lo else z) ++ cur.drop q
theorem turnTo_len (hi lo : Int) (cur : List Int) (q : Nat) : (turnTo hi lo cur q).length = cur.length := by simp [turnTo]; omega
theorem turnTo_0 (hi lo : Int) (cur : List Int) : turnTo hi lo cur 0 = cur := by simp [turnTo]
theorem turnTo_end (hi lo : Int) (cur : List Int) (q : Nat) (h : cur.length ≤ q) : turnTo hi lo cur q = cur.map (fun z => if z = hi then lo else z) := by
  simp [turnTo, List.take_of_length_le h, List.drop_eq_nil_of_le h]
theorem turnTo_at {hi lo : Int} {cur : List Int} {q : Nat} (h : q < cur.length) : gt (turnTo hi lo cur q) q = gt cur q := by
  have hl : ((cur.take q).map (fun z => if z = hi then lo else z)).length = q := by simp; omega
  unfold gt turnTo
  rw [List.getD_eq_getElem?_getD, List.getElem?_append_right (by omega), hl, Nat.sub_self, List.getElem?_drop, Nat.add_zero, List.getD_eq_getElem?_getD]
theorem turnTo_yes {hi lo : Int} {cur : List Int} {q : Nat} (h : q < cur.length) (he : gt cur q = hi) : (turnTo hi lo cur q).set q lo = turnTo hi lo cur (q + 1) := by
  have hl : ((cur.take q).map (fun z => if z = hi then lo else z)).length = q := by simp; omega
  have hg : cur[q] = hi := by simpa [gt, h] using he
  unfold turnTo
  rw [List.drop_eq_getElem_cons h, List.set_append_right _ _ (by omega), hl, Nat.sub_self, List.set_cons_zero, List.take_succ_eq_append_getElem h, List.map_append, List.append_assoc]
  simp [hg]
theorem turnTo_no {hi lo : Int} {cur : List Int} {q : Nat} (h : q < cur.length) (he : gt cur q ≠ hi) : turnTo hi lo cur q = turnTo hi lo cur (q + 1) := by
  have hg : cur[q] ≠ hi := by simpa [gt, h] using he
  unfold turnTo
  rw [List.take_succ_eq_append_getElem h, List.map_append, List.append_assoc, List.drop_eq_getElem_cons h]
  simp [hg]

set_option maxHeartbeats 4000000 in
theorem isGroups (m : Nat) (v : Value) (bs : List Br) (wo : Int) (w : World) (h : RdB w v bs) (hg : Good m bs) (hm1 : 1 ≤ m) (hm : m ≤ 7) (hl : bs.length ≤ 14) :
    Calls Try.prog 31 #[.int .i64 m, v, .int .i64 wo] w fun e w' => ∃ u, e = .returned u ∧ Ints w' w.heap.size u (lab m (offB wo bs)) ∧ Below w.heap.size w w' := by
  obtain ⟨a, l, c, rfl, hnz, _, _, hcell⟩ := h
  rw [← hnz] at hl
  have HN := Lib.hid hnz
  have HC := Lib.hid hcell
  have HG := Lib.hid hg
  clear hcell hnz hg
  go_enter Try.func31, Try.ntmps31
  go_wp2
  go_loopw [7, 8] (fun v i wr => ∃ k : Nat, k ≤ m ∧ i = .int .i64 k ∧ Ints wr w.heap.size v (lab0 k) ∧ Below w.heap.size w wr) (fun _ i _ => m - (intOf i).toNat)
  case atStart => exact ⟨0, Nat.zero_le _, rfl, World.ownsRow_nil _ _ _ _, Below.refl _ _⟩
  case round =>
    obtain ⟨k, hk, rfl, hI, hb⟩ := hrel
    by_cases hlt : k < m
    · have hlt' : (k : Int) < m := by omega
      have hle := hb.size
      have R := Lib.hid (lab0_succ k)
      have hkl : (lab0 k).length < 16777216 := by rw [lab0_len]; omega
      go_wp2_with (at_builtin; refine wpList_app wr rfl _ _ rfl w.heap.size _ (lab0 k) rfl hI (k : Int) rfl hkl hle rfl ?_; intro v' w2 hI2 hb2 hg2)
      go_roundw
      case rel => exact ⟨k + 1, by omega, by go_num, by rw [R.out]; exact hI2, hb.trans hb2⟩
      case measure => (simp [intOf]; try omega)
    · obtain rfl : k = m := by omega
      obtain ⟨g, n, cap, rfl, hn, hnc, hcm, hgB, hgw, _⟩ := hI.form (by rw [lab0_len]; omega)
      rw [lab0_len] at hn
      obtain rfl : n = k := hn
      have hI0 : Ints wr w.heap.size (.slice (some ⟨g, 0, none⟩) n cap) (lab n (offB wo (bs.take 0))) := hI
      clear hI hnc hcm
      obtain ⟨wo1, rfl⟩ : ∃ w1 : World, w1 = wr := ⟨_, rfl⟩
      have HI0 := Lib.hid hI0
      have HB0 := Lib.hid hb
      have hsz0 := hb.size
      clear hI0 hb
      go_wp2
      go_loopw [25] (fun i wr => ∃ k : Nat, k ≤ l ∧ i = .int .i64 k ∧ Ints wr w.heap.size (.slice (some ⟨g, 0, none⟩) n cap) (lab n (offB wo (bs.take k))) ∧ Below w.heap.size w wr) (fun i _ => l - (intOf i).toNat)
      case atStart => exact ⟨0, Nat.zero_le _, rfl, HI0.out, HB0.out⟩
      case round =>
        obtain ⟨k, hk, rfl, hI, hb⟩ := hrel
        by_cases hlt : k < l
        · obtain ⟨b, off, rfl, hbw, hA⟩ := HC.out k hlt
          obtain ⟨c0, c1, c2⟩ := hA.below hbw hb
          have hlt' : (k : Int) < l := by omega
          have hv := HG.out.at (j := k) (by have := HN.out; omega)
          have B1 := Lib.hid (fun h => offB_no (bs := bs) (k := k) (wo := wo) (by have := HN.out; omega) h)
          have B2 := Lib.hid (fun h h2 => offB_yes (bs := bs) (k := k) (wo := wo) (by have := HN.out; omega) h h2)
          have hgd : Good n (offB wo (bs.take k)) := offB_good (HG.out.sub fun b hb => List.mem_of_mem_take hb) wo
          generalize gb bs k = q at *
          obtain ⟨x, y, z⟩ := q
          simp only at hv B1 B2 c0 c1 c2
          have HI := Lib.hid hI
          have HB := Lib.hid hb
          have hsz := hb.size
          have hgw2 : g < wr.heap.size := hI.blk.2
          clear hA hI hb
          by_cases h1 : x = wo
          · have R := Lib.hid (B1.out (.inl h1))
            have D1 : (x == wo) = true := by simpa using h1
            clear B1 B2 h1
            go_wp2
            go_roundw
            case rel => exact ⟨k + 1, by omega, by go_num, by rw [R.out]; exact HI.out.below (by (repeat (first | exact Below.refl _ _ | (refine Below.alloc ?_ (by first | omega | (simp; try omega)) _) | apply Below.drew | apply below_drewN))), HB.out.trans (by (repeat (first | exact Below.refl _ _ | (refine Below.alloc ?_ (by first | omega | (simp; try omega)) _) | apply Below.drew | apply below_drewN)))⟩
            case measure => (simp [intOf]; try omega)
          by_cases h2 : y = wo
          · have R := Lib.hid (B1.out (.inr h2))
            have D1 : (x == wo) = false := by simpa using h1
            have D2 : (y == wo) = true := by simpa using h2
            clear B1 B2 h1 h2
            go_wp2
            go_roundw
            case rel => exact ⟨k + 1, by omega, by go_num, by rw [R.out]; exact HI.out.below (by (repeat (first | exact Below.refl _ _ | (refine Below.alloc ?_ (by first | omega | (simp; try omega)) _) | apply Below.drew | apply below_drewN))), HB.out.trans (by (repeat (first | exact Below.refl _ _ | (refine Below.alloc ?_ (by first | omega | (simp; try omega)) _) | apply Below.drew | apply below_drewN)))⟩
            case measure => (simp [intOf]; try omega)
          · have R := Lib.hid (B2.out h1 h2)
            have D1 : (x == wo) = false := by simpa using h1
            have D2 : (y == wo) = false := by simpa using h2
            clear B1 B2 h1 h2
            obtain ⟨i, rfl⟩ := Int.eq_ofNat_of_zero_le hv.1
            obtain ⟨j, rfl⟩ := Int.eq_ofNat_of_zero_le (show 0 ≤ y by omega)
            have hin : i < n := by omega
            have hjn : j < n := by omega
            have e1 := HI.out.cell (by rw [lab_len]) i hin
            have e2 := HI.out.cell (by rw [lab_len]) j hjn
            have J := Lib.hid (lab_snoc n (offB wo (bs.take k)) ((i : Int), (j : Int), z))
            have hcl := lab_len n (offB wo (bs.take k))
            have hr1 := gt_range hgd i
            have hr2 := gt_range hgd j
            have F0 : lab n (offB wo (bs.take (k + 1))) = turnTo (max (gt (lab n (offB wo (bs.take k))) i) (gt (lab n (offB wo (bs.take k))) j)) (min (gt (lab n (offB wo (bs.take k))) i) (gt (lab n (offB wo (bs.take k))) j)) (lab n (offB wo (bs.take k))) n := by
              rw [R.out, J.out, turnTo_end _ _ _ _ (by omega)]
              unfold joinB la lb
              simp only [Int.toNat_natCast]
            have F := Lib.hid F0
            clear R J F0 hgd
            generalize lab n (offB wo (bs.take k)) = cur at *
            have HCL := Lib.hid hcl
            clear hcl
            obtain ⟨p, hp⟩ : ∃ p, p = gt cur i := ⟨_, rfl⟩
            obtain ⟨q, hq⟩ : ∃ q, q = gt cur j := ⟨_, rfl⟩
            rw [← hp] at e1 hr1 F
            rw [← hq] at e2 hr2 F
            clear hp hq
            have hii : (0 : Int) ≤ i := by omega
            have hij : (i : Int) < n := by omega
            have hji : (0 : Int) ≤ j := by omega
            have hjj : (j : Int) < n := by omega
            clear hv
            go_wp2
            go_quiet (first
              | (go_at_call 44; exact (l1Least p q _).mono (fun _ _ h => ⟨h.1, _, h.2.symm⟩))
              | (go_at_call 45; exact (l1MostI p q _).mono (fun _ _ h => ⟨h.1, _, h.2.symm⟩)))
            have hlo : 0 ≤ min p q ∧ min p q ≤ 1000 := by omega
            generalize min p q = lo at *
            generalize max p q = hi at *
            go_wp2
            obtain ⟨wo2, rfl⟩ : ∃ w1 : World, w1 = wr := ⟨_, rfl⟩
            go_loopw [13, 63] (fun _ i wr => ∃ q : Nat, q ≤ n ∧ i = .int .i64 q ∧ Ints wr w.heap.size (.slice (some ⟨g, 0, none⟩) n cap) (turnTo hi lo cur q) ∧ Below w.heap.size w wr) (fun _ i _ => n - (intOf i).toNat)
            case atStart => exact ⟨0, Nat.zero_le _, rfl, by rw [turnTo_0]; exact HI.out.below (by (repeat (first | exact Below.refl _ _ | (refine Below.alloc ?_ (by first | omega | (simp; try omega)) _) | apply Below.drew | apply below_drewN))), HB.out.trans (by (repeat (first | exact Below.refl _ _ | (refine Below.alloc ?_ (by first | omega | (simp; try omega)) _) | apply Below.drew | apply below_drewN)))⟩
            case round =>
              obtain ⟨r, hr, rfl, hI, hb⟩ := hrel
              have hln : n = (turnTo hi lo cur r).length := by rw [turnTo_len]; exact HCL.out.symm
              have HLN := Lib.hid hln
              clear hln
              by_cases hlt2 : r < n
              · have hltI : (r : Int) < n := by omega
                have hsz2 := hb.size
                have e3 := hI.cell HLN.out r hlt2
                rw [turnTo_at (by have := HCL.out; omega)] at e3
                have e4 := hI.frz HLN.out r
                have S := hI.set HLN.out r lo
                have N1 := Lib.hid (fun h => turnTo_yes (hi := hi) (lo := lo) (cur := cur) (q := r) (by have := HCL.out; omega) h)
                have N2 := Lib.hid (fun h => turnTo_no (hi := hi) (lo := lo) (cur := cur) (q := r) (by have := HCL.out; omega) h)
                generalize gt cur r = x at *
                by_cases hx : x = hi
                · have D3 : (x == hi) = true := by simpa using hx
                  rw [N1.out hx] at S
                  have SS := Lib.hid S
                  have HB3 := Lib.hid (hb.grown S.2 hb.size (by intro k hk; cases hk; exact hgB))
                  clear S N1 N2 hI hb hx
                  go_wp2
                  go_roundw
                  case rel => exact ⟨r + 1, by omega, by go_num, SS.out.1, HB3.out⟩
                  case measure => (simp [intOf]; try omega)
                · have D3 : (x == hi) = false := by simpa using hx
                  have R := Lib.hid (N2.out hx)
                  have HI3 := Lib.hid hI
                  clear S N1 N2 hI hx
                  go_wp2
                  go_roundw
                  case rel => exact ⟨r + 1, by omega, by go_num, by rw [← R.out]; exact HI3.out, hb⟩
                  case measure => (simp [intOf]; try omega)
              · obtain rfl : r = n := by omega
                have HI3 := Lib.hid hI
                clear hI
                go_wp2
                go_roundw
                case rel => exact ⟨k + 1, by omega, by go_num, by rw [F.out]; exact HI3.out, hb⟩
                case measure => (simp [intOf]; try omega)
        · obtain rfl : k = l := by omega
          have e : bs.take k = bs := List.take_of_length_le (by have := HN.out; omega)
          rw [e] at hI
          have HI := Lib.hid hI
          clear hI e
          go_wp2
          go_ret
          exact ⟨_, rfl, HI.out, hb⟩

/-- how many groups, but for an island alone -/
def cntW (zs : List Int) (wo : Int) (k : Nat) : Nat := cnt (fun i => root zs i && !decide ((i : Int) = wo)) k
theorem cntW_le (zs : List Int) (wo : Int) (k : Nat) : cntW zs wo k ≤ k := cnt_le _ _
theorem cntW_s (zs : List Int) (wo : Int) (k : Nat) : cntW zs wo (k + 1) = cntW zs wo k + if gt zs k = (k : Int) ∧ (k : Int) ≠ wo then 1 else 0 := by
  unfold cntW
  rw [cnt]
  congr 1
  by_cases h1 : gt zs k = (k : Int) <;> by_cases h2 : (k : Int) = wo <;> simp [root, h1, h2]
theorem cntW_none (n : Nat) (bs : List Br) : cntW (lab n bs) (-1) n = groupsN n bs := by
  unfold cntW groupsN
  refine cnt_congr fun i hi => ?_
  have : ¬ (i : Int) = -1 := by omega
  simp [this]
/-- there are isles and an island of them -/
def askI (n : Int) (bs : List Br) (i : Int) : Bool := areIs n bs && inB i 0 (n - 1)
theorem askI_in {n : Int} {bs : List Br} {i : Int} (h : askI n bs i = true) : ∃ m k : Nat, n = m ∧ i = k ∧ 1 ≤ m ∧ m ≤ 7 ∧ bs.length ≤ 14 ∧ Good m bs ∧ k < m := by
  unfold askI at h
  rw [Bool.and_eq_true, inB_iff] at h
  obtain ⟨m, rfl, h1, h2, h3, h4⟩ := areIs_in h.1
  exact ⟨m, i.toNat, rfl, by omega, h1, h2, h3, h4, by omega⟩
theorem isAsked (n : Int) (v : Value) (bs : List Br) (i : Int) (w : World) (h : RdB w v bs) (hl : bs.length ≤ 1048576) :
    Calls Try.prog 14 #[.agg #[.int .i64 n, v], .int .i64 i] w fun e w' => e = .returned (.bool (askI n bs i)) ∧ Below w.heap.size w w' := by
  have H := Lib.hid h
  obtain ⟨a, m, c, rfl, t⟩ := h
  clear t
  have E := Lib.hid (show askI n bs i = (areIs n bs && inB i 0 (n - 1)) from rfl)
  cases hg : areIs n bs
  · rw [hg] at E
    have G := Lib.hid hg
    clear hg
    go_enter Try.func14, Try.ntmps14
    go_wp2_with fail
    refine (isGood n _ bs _ (H.out.below (by (repeat (first | exact Below.refl _ _ | (refine Below.alloc ?_ (by first | omega | (simp; try omega)) _) | apply Below.drew | apply below_drewN)))) hl).mono ?_
    rw [G.out]
    rintro e w1 ⟨rfl, hb⟩
    have HB := Lib.hid (Below.trans (by (repeat (first | exact Below.refl _ _ | (refine Below.alloc ?_ (by first | omega | (simp; try omega)) _) | apply Below.drew | apply below_drewN))) (hb.mono (by simp; try omega)) : Below w.heap.size w w1)
    clear hb
    go_wp2
    go_ret
    exact ⟨ret_bool (by rw [E.out]; rfl), HB.out⟩
  · rw [hg] at E
    have hn := (areIs_iff.1 hg).1
    have hn2 := (areIs_iff.1 hg).2.1
    have G := Lib.hid hg
    clear hg
    go_enter Try.func14, Try.ntmps14
    go_wp2_with fail
    refine (isGood n _ bs _ (H.out.below (by (repeat (first | exact Below.refl _ _ | (refine Below.alloc ?_ (by first | omega | (simp; try omega)) _) | apply Below.drew | apply below_drewN)))) hl).mono ?_
    rw [G.out]
    rintro e w1 ⟨rfl, hb⟩
    have HB := Lib.hid (Below.trans (by (repeat (first | exact Below.refl _ _ | (refine Below.alloc ?_ (by first | omega | (simp; try omega)) _) | apply Below.drew | apply below_drewN))) (hb.mono (by simp; try omega)) : Below w.heap.size w w1)
    obtain ⟨c0, c1, l0⟩ := ((Blk.new w #[.int .i64 n, .slice a m c] 31).below hb (by simp)).two
    clear hb
    go_wp2_with fail
    refine (l1In _ _ _ _).mono ?_
    rintro e w2 ⟨rfl, rfl⟩
    go_wp2
    go_ret
    exact ⟨ret_bool (by rw [E.out]; rfl), HB.out⟩
end Go.Proofs.Ytihdhgkknfohaad
