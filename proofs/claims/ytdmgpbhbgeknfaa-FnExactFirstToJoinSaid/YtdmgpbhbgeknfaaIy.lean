/- GroupOf, CountGroups: impl. -/
import Derived.Test.YtdmgpbhbgeknfaaIw
namespace Go.Proofs.Ytdmgpbhbgeknfaa
set_option linter.unusedVariables false
open Go.RowKit


/-- without the members of a list -/
def less (p : Nat → Bool) (l : List Nat) (x : Nat) : Bool := p x && !l.contains x
theorem less_0 (p : Nat → Bool) (x : Nat) : less p [] x = p x := by simp [less]
theorem less_s (p : Nat → Bool) (l : List Nat) (y x : Nat) : (less p l x && x != y) = less p (l ++ [y]) x := by
  rw [Bool.eq_iff_iff]; simp [less, and_assoc]
theorem IRng.congr {w : World} {b r N cnt : Nat} {p q p' q' : Nat → Bool} (h : IRng w b r N p q cnt) (e1 : ∀ j, p j = p' j) (e2 : ∀ j, q j = q' j) : IRng w b r N p' q' cnt := by
  obtain ⟨D, left, h1, h2, h3, h4⟩ := h
  exact ⟨D, left, h1, h2, fun c => by rw [h3 c, e1], fun c => by rw [h4 c, e2]⟩
/-- the groups of which no island is left -/
def rts (m : Nat) (bs : List Br) (p : Nat → Bool) : Nat := cnt (fun j => root (lab m bs) j && !p j) m
/-- whole groups are left -/
def Whole (m : Nat) (bs : List Br) (p : Nat → Bool) : Prop := (∀ j, p j = true → j < m) ∧ ∀ j k, j < m → k < m → same m bs j k = true → p j = true → p k = true
theorem rts_0 {m : Nat} {bs : List Br} : rts m bs (fun i => decide (i < m)) = 0 := cnt_none fun i hi => by simp [hi]
theorem whole_0 {m : Nat} {bs : List Br} : Whole m bs (fun i => decide (i < m)) := ⟨fun j h => by simpa using h, fun j k _ hk _ _ => by simpa using hk⟩
theorem rts_end {m : Nat} {bs : List Br} {p : Nat → Bool} (h : ∀ j, p j = false) : rts m bs p = groupsN m bs := cnt_congr fun i _ => by simp [h]
theorem less_mem {m : Nat} {bs : List Br} {p : Nat → Bool} {j x : Nat} : less p (groupL m bs j) x = true ↔ p x = true ∧ ¬ (x < m ∧ same m bs x j = true) := by
  unfold less
  rw [Bool.and_eq_true, Bool.not_eq_true', ← Bool.not_eq_true, List.contains_iff_mem, groupL_mem]
theorem whole_s {m : Nat} {bs : List Br} {p : Nat → Bool} (h : Whole m bs p) {j : Nat} : Whole m bs (less p (groupL m bs j)) := by
  refine ⟨fun x hx => h.1 x (less_mem.1 hx).1, fun x y hx hy hs hp => ?_⟩
  have := less_mem.1 hp
  exact less_mem.2 ⟨h.2 x y hx hy hs this.1, fun h2 => this.2 ⟨hx, same_trans hs h2.2⟩⟩
theorem rts_s {m : Nat} {bs : List Br} (hg : Good m bs) {p : Nat → Bool} (h : Whole m bs p) {j : Nat} (hj : p j = true) : rts m bs (less p (groupL m bs j)) = rts m bs p + 1 := by
  have hjm := h.1 j hj
  have H := labOK hg
  have hl := H.low j hjm
  have hid := H.idem j hjm
  have hr : (gt (lab m bs) j).toNat < m := by omega
  have hrs : same m bs (gt (lab m bs) j).toNat j = true := by simp [same, hid]
  have hroot : root (lab m bs) (gt (lab m bs) j).toNat = true := by simp [root, hid]; omega
  unfold rts
  refine cnt_less hr ?_ ?_ ?_
  · have : less p (groupL m bs j) (gt (lab m bs) j).toNat = false := by
      cases hc : less p (groupL m bs j) (gt (lab m bs) j).toNat
      · rfl
      · exact absurd ⟨hr, hrs⟩ (less_mem.1 hc).2
    rw [hroot, this]; rfl
  · have := h.2 j _ hjm hr (same_symm hrs) hj
    rw [this]; simp
  · intro x hx hne
    cases hrx : root (lab m bs) x
    · rfl
    · have hns : ¬ same m bs x j = true := by
        intro hs
        have e1 : gt (lab m bs) x = (x : Int) := by simpa [root] using hrx
        have e2 : gt (lab m bs) x = gt (lab m bs) j := by simpa [same] using hs
        omega
      have : less p (groupL m bs j) x = p x := by
        cases hp : p x
        · cases hc : less p (groupL m bs j) x
          · rfl
          · have := (less_mem.1 hc).1; rw [hp] at this; cases this
        · exact less_mem.2 ⟨hp, fun h => hns h.2⟩
      rw [this]
theorem cnt_le' {p : Nat → Bool} {m : Nat} : cnt p m ≤ m := cnt_le p m

set_option maxRecDepth 100000 in
set_option maxHeartbeats 4000000 in
theorem countGroups (m : Nat) (v : Value) (bs : List Br) (w : World) (h : RdB w v bs) (hg : Good m bs) (hm : m ≤ 7) (hl : bs.length ≤ 14) :
    Calls Try.prog 39 #[.agg #[.int .i64 m, v]] w fun e w' => e = .returned (.int .i64 (groupsN m bs)) ∧ Below w.heap.size w w' := by
  have HR := Lib.hid h
  obtain ⟨a, l, c, rfl, t⟩ := h
  have HG := Lib.hid hg
  clear t hg
  have BW := Lib.hid ((Below.refl w.heap.size w).alloc (Nat.le_refl _) (.cells #[.int .i64 m, .slice a l c] 30))
  go_enter Try.func39, Try.ntmps39
  go_wp2_with fail
  refine (islandsOf m a l c _ hm).mono ?_
  rintro e w1 ⟨b, rfl, hlow, hS, hb⟩
  have XB := Lib.hid ((Blk.new w #[.int .i64 m, .slice a l c] 30).below hb (by simp))
  have BW1 := Lib.hid (BW.out.trans (hb.mono (by simp)))
  have hlow2 : w.heap.size + 1 ≤ b := by simpa using hlow
  have hsz1 : w.heap.size + 1 ≤ w1.heap.size := by have := hb.size; simpa using this
  clear hb hlow
  go_wp2_with (at_range; refine wpList_rangeI rfl hS _ rfl rfl ?_; intro w2 cnt0 hrg hg2 hs2)
  go_frame
  have HRG := Lib.hid hrg
  have HB2 := Lib.hid ((Below.refl w1.heap.size w1).grown hg2 (Nat.le_refl _) (by intro k hk; cases hk))
  clear hrg hg2 hs2 hS
  go_loopw [3, 5] (fun s _ wr => ∃ p cnt, s = .int .i64 (rts m bs p : Nat) ∧ IRng wr b w1.heap.size 7 p p cnt ∧ Below (w.heap.size + 1) w1 wr ∧ Hid (Whole m bs p)) (fun _ _ wr => wr.rangeLeft b w1.heap.size)
  case atStart => exact ⟨_, _, by rw [rts_0]; rfl, HRG.out, HB2.out.mono hsz1, Lib.hid whole_0⟩
  case round =>
    obtain ⟨p, cnt, rfl, hR, hB, HW⟩ := hrel
    have HLE := Lib.hid hR.left_eq
    have hwr := hB.size
    have hrt : rts m bs p ≤ 7 := Nat.le_trans cnt_le' hm
    go_wp2_with (at_next; refine wpList_nextI rfl _ rfl rfl hR ?_ ?_; all_goals (first | (intro j cv w4 cnt4 hqj hR4 hlt4 hg4 hs4 hen; have hB4 := hB.grown hg4 (by omega) (by intro k hk; cases hk; exact hsz1); obtain ⟨c0, c1, l0⟩ := (XB.out.below hB4 (by omega)).two) | (intro hdone)))
    · have E := Lib.hid (rts_end (m := m) (bs := bs) hdone)
      clear hdone hR
      go_wp2
      go_ret
      exact ⟨ret_w (by rw [← E.out]; rfl), BW1.out.trans (hB.mono (by omega))⟩
    · have hjm := HW.out.1 j hqj
      have HS := Lib.hid (rts_s HG.out HW.out hqj)
      have HW2 := Lib.hid (whole_s (j := j) HW.out)
      have HQ := Lib.hid hqj
      have hsz4 := hB4.size
      have HB4 := Lib.hid hB4
      have HR4 := Lib.hid hR4
      clear hqj hR4 hB4 hg4 hR hB
      go_wp2_with fail
      refine (groupWith m _ bs j _ (HR.out.below (BW1.out.trans (HB4.out.mono (by omega)))) HG.out hm hl hjm).mono ?_
      rintro e w5 ⟨u, rfl, hI, hb5⟩
      have HR5 := Lib.hid (HR4.out.below hb5)
      have HB5 := Lib.hid (HB4.out.trans (hb5.mono (by omega)))
      have hsz5 := HB5.out.size
      have hjl : j ∈ groupL m bs j := groupL_mem.2 ⟨hjm, same_refl _ _ _⟩
      have hlen : (groupL m bs j).length ≤ m := by unfold groupL; exact Nat.le_trans (List.length_filter_le _ _) (by simp)
      have HM : Hid (∀ x ∈ groupL m bs j, x < m) := Lib.hid (fun x hx => (groupL_mem.1 hx).1)
      generalize groupL m bs j = L at *
      have HJL := Lib.hid hjl
      have hne0 := HR5.out.set.ne hI
      obtain ⟨g, n1, cap, rfl, hn1, _, _, hgB, hgw, hcell⟩ := hI.form (by rw [idx_len]; exact List.length_pos_of_mem hjl)
      rw [idx_len] at hn1
      have HN1 := Lib.hid hn1
      have HC := Lib.hid hcell
      have hn17 : n1 ≤ 7 := by omega
      clear hI hb5 hcell hn1 hjl c0 c1 hen hlen
      have HNE : Hid (some g ≠ some b) := Lib.hid (fun e => hne0 e.symm)
      have HL0 : Hid (L.take 0 = []) := Lib.hid rfl
      clear hne0
      go_wp2
      obtain ⟨wo, rfl⟩ : ∃ w1 : World, w1 = wr := ⟨_, rfl⟩
      go_loopw [7, 20] (fun _ i wr => ∃ k cnt5, k ≤ n1 ∧ i = .int .i64 (k : Nat) ∧ IRng wr b w1.heap.size 7 (less p (L.take k)) (less (fun x => p x && x != j) (L.take k)) cnt5 ∧ cnt5 ≤ cnt4 ∧ w5.grownBy wr (some b)) (fun _ i _ => n1 - (intOf i).toNat)
      case atStart => exact ⟨0, _, Nat.zero_le _, rfl, HR5.out.congr (fun x => by rw [HL0.out, less_0]) (fun x => by rw [HL0.out, less_0]), Nat.le_refl _, World.grownBy.refl _ _⟩
      case round =>
        obtain ⟨k, cnt5, hk, rfl, hR6, hc5, hgr⟩ := hrel
        by_cases hlt : k < n1
        · have hlt' : (k : Int) < n1 := by omega
          have d1 := hgr.cell (HC.out k hlt) HNE.out
          have hkl : k < L.length := by have := HN1.out; omega
          have hlg : gt (idx L) k = ((L[k] : Nat) : Int) := by
            rw [idx_gt, List.getD_eq_getElem?_getD, List.getElem?_eq_getElem hkl]; rfl
          have hx7 := HM.out L[k] (List.getElem_mem _)
          have HT := Lib.hid (List.take_succ_eq_append_getElem hkl)
          rw [hlg] at d1
          have hx9 : L[k] < 1000 := by omega
          generalize L[k] = x at *
          clear hlg hkl
          have hgw6 : g < wr.heap.size := Nat.lt_of_lt_of_le hgw hgr.size
          go_wp2_with (at_delete; refine wpList_dropI rfl hR6 x hx9 _ _ rfl rfl rfl ?_; intro w7 cnt7 hR7 hc7 hg7)
          go_roundw
          case rel => exact ⟨k + 1, _, by omega, by go_num, hR7.congr (fun y => by rw [less_s, HT.out]) (fun y => by rw [less_s, HT.out]), Nat.le_trans hc7 hc5, hgr.trans hg7⟩
          case measure => (simp [intOf]; try omega)
        · obtain rfl : k = n1 := by omega
          have HT : Hid (L.take k = L) := Lib.hid (List.take_of_length_le (by have := HN1.out; omega))
          have hB7 := HB5.out.grown hgr (by omega) (by intro k hk; cases hk; exact hlow2)
          have HR7 := Lib.hid (hR6.congr (p' := less p L) (q' := less p L) (fun y => by rw [HT.out]) (fun y => by
            rw [HT.out, Bool.eq_iff_iff]
            simp only [less, Bool.and_eq_true, Bool.not_eq_true', bne_iff_ne]
            constructor
            · rintro ⟨⟨h1, _⟩, h2⟩; exact ⟨h1, h2⟩
            · rintro ⟨h1, h2⟩
              refine ⟨⟨h1, fun e => ?_⟩, h2⟩
              subst e
              rw [List.contains_iff_mem.2 HJL.out] at h2; cases h2))
          have HB7 := Lib.hid hB7
          clear hR6 hB7 hgr
          go_wp2
          go_roundw
          case rel => exact ⟨_, _, by rw [HS.out]; go_num, HR7.out, HB7.out, HW2⟩
          case measure => rw [HR7.out.left_eq, HLE.out]; omega

end Go.Proofs.Ytdmgpbhbgeknfaa
