/- Sorted lists, plain; spec.plSorted. -/
import Derived.Test.YtimbpfenpbkckabCat
import Derived.Test.YtimbpfenpbkckabPk
namespace Go.Proofs.Ytimbpfenpbkckab
set_option linter.unusedVariables false
open Go.RowKit

/-- where a number goes into the first k of a list -/
def kTo (l : List Int) (x : Int) : Nat → Nat
  | 0 => 0
  | k + 1 => if x < gt l k then kTo l x k else k + 1
theorem kTo_yes {l : List Int} {x : Int} {k : Nat} (h : x < gt l k) : kTo l x (k + 1) = kTo l x k := by simp [kTo, h]
theorem kTo_no {l : List Int} {x : Int} {k : Nat} (h : ¬ x < gt l k) : kTo l x (k + 1) = k + 1 := by simp [kTo, h]
theorem kTo_le (l : List Int) (x : Int) : ∀ k, kTo l x k ≤ k
  | 0 => Nat.le_refl _
  | k + 1 => by unfold kTo; have := kTo_le l x k; split <;> omega
theorem kTo_gt (l : List Int) (x : Int) : ∀ k j, kTo l x k ≤ j → j < k → x < gt l j
  | 0, j, _, h => absurd h (Nat.not_lt_zero _)
  | k + 1, j, h1, h2 => by
    by_cases h : x < gt l k
    · rw [kTo_yes h] at h1
      by_cases e : j = k
      · subst e; exact h
      · exact kTo_gt l x k j h1 (by omega)
    · rw [kTo_no h] at h1; omega
theorem kTo_at (l : List Int) (x : Int) : ∀ k, 0 < kTo l x k → gt l (kTo l x k - 1) ≤ x
  | 0, h => absurd h (Nat.lt_irrefl _)
  | k + 1, h => by
    by_cases h2 : x < gt l k
    · rw [kTo_yes h2] at h ⊢; exact kTo_at l x k h
    · rw [kTo_no h2]; simp; omega
def insI (x : Int) (l : List Int) : List Int := l.take (kTo l x l.length) ++ x :: l.drop (kTo l x l.length)
theorem insI_perm (x : Int) (l : List Int) : (insI x l).Perm (x :: l) := by
  unfold insI
  refine List.perm_middle.trans ?_
  rw [List.take_append_drop]
theorem insI_len (x : Int) (l : List Int) : (insI x l).length = l.length + 1 := (insI_perm x l).length_eq
theorem gt_of {l : List Int} {i : Nat} (h : i < l.length) : l[i] = gt l i := by simp [gt, h]
theorem asc_le {l : List Int} (h : l.Pairwise (· ≤ ·)) {i j : Nat} (hij : i ≤ j) (hj : j < l.length) : gt l i ≤ gt l j := by
  rcases Nat.lt_or_ge i j with h1 | h1
  · rw [List.pairwise_iff_getElem] at h
    have := h i j (by omega) hj h1
    rwa [gt_of, gt_of] at this
  · obtain rfl : i = j := by omega
    exact Int.le_refl _
theorem insI_asc {x : Int} {l : List Int} (h : l.Pairwise (· ≤ ·)) : (insI x l).Pairwise (· ≤ ·) := by
  unfold insI
  have hk := kTo_le l x l.length
  have hat := kTo_at l x l.length
  have hgt := kTo_gt l x l.length
  generalize kTo l x l.length = k at *
  have htake : ∀ a ∈ l.take k, a ≤ x := by
    intro a ha
    obtain ⟨i, hi, rfl⟩ := List.getElem_of_mem ha
    have hi2 : i < k := by simp at hi; omega
    rw [List.getElem_take, gt_of (by omega)]
    exact Int.le_trans (asc_le h (show i ≤ k - 1 by omega) (by omega)) (hat (by omega))
  have hdrop : ∀ b ∈ l.drop k, x ≤ b := by
    intro b hb
    obtain ⟨i, hi, rfl⟩ := List.getElem_of_mem hb
    simp at hi
    rw [List.getElem_drop, gt_of (by omega)]
    exact Int.le_of_lt (hgt (k + i) (by omega) (by omega))
  rw [List.pairwise_append, List.pairwise_cons]
  refine ⟨h.sublist (List.take_sublist _ _), ⟨hdrop, h.sublist (List.drop_sublist _ _)⟩, fun a ha b hb => ?_⟩
  rcases List.mem_cons.1 hb with rfl | hb
  · exact htake a ha
  · exact Int.le_trans (htake a ha) (hdrop b hb)
/-- the first k numbers, the least ones first -/
def ascTo (zs : List Int) : Nat → List Int
  | 0 => []
  | k + 1 => insI (gt zs k) (ascTo zs k)
theorem ascTo_s (zs : List Int) (k : Nat) : ascTo zs (k + 1) = insI (gt zs k) (ascTo zs k) := rfl
theorem ascTo_len (zs : List Int) : ∀ k, (ascTo zs k).length = k
  | 0 => rfl
  | k + 1 => by rw [ascTo_s, insI_len, ascTo_len zs k]
theorem ascTo_asc (zs : List Int) : ∀ k, (ascTo zs k).Pairwise (· ≤ ·)
  | 0 => List.Pairwise.nil
  | k + 1 => insI_asc (ascTo_asc zs k)
theorem ascTo_perm (zs : List Int) : ∀ k, k ≤ zs.length → (ascTo zs k).Perm (zs.take k)
  | 0, _ => by simp [ascTo]
  | k + 1, h => by
    rw [ascTo_s, List.take_succ_eq_append_getElem (by omega), gt_of]
    refine (insI_perm _ _).trans ?_
    exact ((ascTo_perm zs k (by omega)).cons _).trans (List.perm_append_singleton _ _).symm
def asc (zs : List Int) : List Int := ascTo zs zs.length
theorem asc_len (zs : List Int) : (asc zs).length = zs.length := ascTo_len _ _
theorem asc_asc (zs : List Int) : (asc zs).Pairwise (· ≤ ·) := ascTo_asc _ _
theorem asc_perm (zs : List Int) : (asc zs).Perm zs := by
  have := ascTo_perm zs zs.length (Nat.le_refl _)
  rwa [List.take_length] at this
theorem asc_any {zs : List Int} {P : Int → Prop} (h : ∀ n ∈ zs, P n) : ∀ n ∈ asc zs, P n := fun n hn => h n ((asc_perm zs).mem_iff.1 hn)
/-- the greatest ones first -/
def dsc (zs : List Int) : List Int := (asc zs).reverse
theorem dsc_len (zs : List Int) : (dsc zs).length = zs.length := by simp [dsc, asc_len]
theorem dsc_gt {zs : List Int} {j : Nat} (h : j < zs.length) : gt (dsc zs) j = gt (asc zs) (zs.length - 1 - j) := by
  unfold gt dsc
  rw [List.getD_eq_getElem?_getD, List.getD_eq_getElem?_getD, List.getElem?_reverse (by rw [asc_len]; exact h), asc_len]
theorem dsc_is {zs r : List Int} (hp : r.Perm zs) (hs : r.Pairwise (fun a b => b ≤ a)) : r = dsc zs := by
  refine List.Perm.eq_of_pairwise (le := fun a b : Int => b ≤ a) (fun a b _ _ h1 h2 => Int.le_antisymm h2 h1) hs ?_ ?_
  · unfold dsc
    rw [List.pairwise_reverse]
    exact asc_asc zs
  · exact hp.trans ((asc_perm zs).symm.trans (List.reverse_perm _).symm)

set_option maxHeartbeats 4000000 in
theorem plSorted (v : Value) (zs : List Int) (w : World) (h : Rd w v zs) (hn : zs.length ≤ 1000) :
    Calls Try.prog 39 #[v] w fun e w' => ∃ u, e = .returned u ∧ Ints w' w.heap.size u (asc zs) ∧ Below w.heap.size w w' := by
  obtain ⟨a, n, c, rfl, hnz, hcell⟩ := h.cells
  rw [← hnz] at hn
  have R0 := Lib.hid (show asc zs = ascTo zs n by rw [hnz]; rfl)
  have HC := Lib.hid hcell
  clear h hcell hnz
  go_enter Try.func39, Try.ntmps39
  go_wp2
  go_loopw [3, 10] (fun o i wr => ∃ j : Nat, j ≤ n ∧ i = .int .i64 j ∧ Ints wr w.heap.size o (ascTo zs j) ∧ (j = 0 → o = .slice none 0 0) ∧ Below w.heap.size w wr) (fun _ i _ => n - (intOf i).toNat)
  case atStart => exact ⟨0, Nat.zero_le _, rfl, World.ownsRow_nil _ _ _ _, fun _ => rfl, Below.refl _ _⟩
  case round =>
    obtain ⟨j, hj, rfl, hI, h0, hb⟩ := hrel
    have hle := hb.size
    by_cases hlt : j < n
    · obtain ⟨b, off, rfl, hbw, hc⟩ := HC.out j hlt
      have hc := (hb.cell (p := ⟨b, off + j, none⟩) hbw).trans hc
      have hlt' : (j : Int) < n := by omega
      have S := Lib.hid (ascTo_s zs j)
      have hlen := ascTo_len zs j
      generalize hx : gt zs j = x at *
      clear hx
      rcases Nat.eq_zero_or_pos j with hj0 | hj0
      · subst hj0
        obtain rfl := h0 rfl
        rw [Nat.add_zero] at hc
        have SS : Hid (ascTo zs (0 + 1) = [x]) := Lib.hid (by rw [S.out]; rfl)
        clear S h0 hI hlen
        go_wp2
        go_loop [6] (fun k => k = .int .i64 0) (fun _ => 0)
        case atStart => rfl
        case round =>
          obtain rfl := hrel
          go_wp2_with (first
            | (go_at_call 57; refine (l1Own _ [] _ (.inl ⟨⟨_, _, rfl⟩, rfl⟩) (fun _ e => by cases e; rfl) (by simp)).mono ?_; rintro e w1 ⟨u, rfl, hI1, hb1⟩; have HI1 := Lib.hid hI1; have HB1 := Lib.hid hb1; clear hI1 hb1)
            | (at_builtin; refine wpList_app w1 rfl _ _ rfl wr.heap.size u [] rfl HI1.out x rfl (by simp) HB1.out.size rfl ?_; intro u2 w2 hI2 hb2 hg2; have HI2 := Lib.hid hI2; have HB2 := Lib.hid (HB1.out.trans hb2); clear hI2 hb2 hg2)
            | (at_builtin; refine wpList_cat w2 rfl _ _ rfl wr.heap.size u2 [x] rfl HI2.out _ [] rfl (.inl ⟨⟨_, _, rfl⟩, rfl⟩) (fun _ e => by cases e; rfl) (by simp) HB2.out.size ?_; intro u3 w3 hI3 hb3 hg3; have HI3 := Lib.hid hI3; have HB3 := Lib.hid (HB2.out.trans hb3); clear hI3 hb3 hg3))
          go_roundw
          case rel => exact ⟨0 + 1, by omega, by go_num, by rw [SS.out]; exact ints_mono' HI3.out hle, fun h => absurd h (by omega), hb.trans (HB3.out.mono hle)⟩
          case measure => (simp [intOf]; try omega)
      · obtain ⟨g, m, cap, rfl, hm, hmc, hcm, hBg, hgw, hcl⟩ := hI.form (by omega)
        obtain rfl : m = j := by omega
        have HCL := Lib.hid hcl
        have HI := Lib.hid hI
        have HM := Lib.hid hm
        clear hcl hI h0 hm hlen
        unfold maxLen at hcm
        go_wp2
        go_loop [6] (fun k => ∃ q : Nat, q ≤ m ∧ k = .int .i64 q ∧ Hid (kTo (ascTo zs m) x m = kTo (ascTo zs m) x q)) (fun k => (intOf k).toNat)
        case atStart => exact ⟨m, Nat.le_refl _, rfl, Lib.hid rfl⟩
        case round =>
          obtain ⟨q, hq, rfl, HK⟩ := hrel
          rcases Nat.eq_zero_or_pos q with hq0 | hq0
          · subst hq0
            have K : Hid (ascTo zs (m + 1) = (ascTo zs m).take 0 ++ x :: (ascTo zs m).drop 0) := Lib.hid (by
              rw [S.out]; unfold insI; rw [← HM.out, HK.out]; rfl)
            have R1 := Lib.hid (Ints.take HI.out HM.out hmc (by unfold maxLen; omega) 0 (by omega))
            have R2 := Lib.hid (Ints.drop HI.out HM.out hmc (by unfold maxLen; omega) 0 (by omega))
            have hlm : (ascTo zs m).length = m := HM.out.symm
            generalize hL : ascTo zs m = L at *
            clear hL
            have hl1 : (L.take 0).length ≤ m := by simp
            have hl2 : (L.drop 0).length ≤ m := by simp; omega
            have HE := Lib.hid (show (L.take 0 ++ [x]) ++ L.drop 0 = L.take 0 ++ x :: L.drop 0 by simp)
            generalize L.take 0 = L1 at *
            generalize L.drop 0 = L2 at *
            simp only [Nat.sub_zero] at R2
            go_wp2_with (first
              | (go_at_call 57; refine (l1Own _ L1 _ R1.out (fun _ e => by cases e) (by omega)).mono ?_; rintro e w1 ⟨u, rfl, hI1, hb1⟩; have HI1 := Lib.hid hI1; have HB1 := Lib.hid hb1; clear hI1 hb1)
              | (at_builtin; refine wpList_app w1 rfl _ _ rfl wr.heap.size u L1 rfl HI1.out x rfl (by omega) HB1.out.size rfl ?_; intro u2 w2 hI2 hb2 hg2; have HI2 := Lib.hid hI2; have HB2 := Lib.hid (HB1.out.trans hb2); clear hI2 hb2 hg2)
              | (at_builtin; refine wpList_cat w2 rfl _ _ rfl wr.heap.size u2 (L1 ++ [x]) rfl HI2.out _ L2 rfl (R2.out.below HB2.out) (fun _ e => by cases e) (by simp; omega) HB2.out.size ?_; intro u3 w3 hI3 hb3 hg3; have HI3 := Lib.hid hI3; have HB3 := Lib.hid (HB2.out.trans hb3); clear hI3 hb3 hg3))
            go_roundw
            case rel => exact ⟨m + 1, by omega, by go_num, by rw [K.out, ← HE.out]; exact ints_mono' HI3.out hle, fun h => absurd h (by omega), hb.trans (HB3.out.mono hle)⟩
            case measure => (simp [intOf]; try omega)
          · obtain ⟨p, rfl⟩ : ∃ p, q = p + 1 := ⟨q - 1, by omega⟩
            have hcp := HCL.out p (by omega)
            have e1 : ((p + 1 : Nat) : Int) = (p : Int) + 1 := by omega
            have hp0 : (p : Int) < m := by omega
            have hp1 : (0 : Int) < (p : Int) + 1 := by omega
            rw [e1]
            clear e1
            by_cases hgt : x < gt (ascTo zs m) p
            · have HK2 := Lib.hid (HK.out.trans (kTo_yes hgt))
              generalize gt (ascTo zs m) p = y at *
              go_wp2
              go_round
              case rel => exact ⟨p, by omega, by go_num, HK2⟩
              case measure => (simp [intOf]; try omega)
            · have K : Hid (ascTo zs (m + 1) = (ascTo zs m).take (p + 1) ++ x :: (ascTo zs m).drop (p + 1)) := Lib.hid (by
                rw [S.out]; unfold insI; rw [← HM.out, HK.out, kTo_no hgt])
              by_cases hce : cap ≤ p + 1
              · have R1 := Lib.hid (Ints.take HI.out HM.out hmc (by unfold maxLen; omega) (p + 1) (by omega))
                have hpm2 : m = p + 1 := by omega
                have R2 : Hid (∀ c', Rd wr (.slice (some ⟨g, 0, none⟩) (m - (p + 1)) c') ((ascTo zs m).drop (p + 1))) := Lib.hid (by
                  intro c'; rw [show m - (p + 1) = 0 by omega]; exact .inl ⟨⟨_, _, rfl⟩, List.drop_eq_nil_of_le (by have := HM.out; omega)⟩)
                clear hpm2
                generalize gt (ascTo zs m) p = y at *
                have hlm : (ascTo zs m).length = m := HM.out.symm
                generalize hL : ascTo zs m = L at *
                clear hL
                have hl1 : (L.take (p + 1)).length ≤ m := by simp; omega
                have hl2 : (L.drop (p + 1)).length ≤ m := by simp; omega
                have HE := Lib.hid (show (L.take (p + 1) ++ [x]) ++ L.drop (p + 1) = L.take (p + 1) ++ x :: L.drop (p + 1) by simp)
                generalize L.take (p + 1) = L1 at *
                generalize L.drop (p + 1) = L2 at *
                have hpc : (p : Int) + 1 ≤ cap := by omega
                have hpm : (p : Int) + 1 ≤ m := by omega
                go_wp2_with (first
                  | (go_at_call 57; refine (l1Own _ L1 _ R1.out (fun _ e => by cases e) (by omega)).mono ?_; rintro e w1 ⟨u, rfl, hI1, hb1⟩; have HI1 := Lib.hid hI1; have HB1 := Lib.hid hb1; clear hI1 hb1)
                  | (at_builtin; refine wpList_app w1 rfl _ _ rfl wr.heap.size u L1 rfl HI1.out x rfl (by omega) HB1.out.size rfl ?_; intro u2 w2 hI2 hb2 hg2; have HI2 := Lib.hid hI2; have HB2 := Lib.hid (HB1.out.trans hb2); clear hI2 hb2 hg2)
                  | (at_builtin; refine wpList_cat w2 rfl _ _ rfl wr.heap.size u2 (L1 ++ [x]) rfl HI2.out _ L2 rfl ((R2.out _).below HB2.out) (fun _ e => by cases e) (by simp; omega) HB2.out.size ?_; intro u3 w3 hI3 hb3 hg3; have HI3 := Lib.hid hI3; have HB3 := Lib.hid (HB2.out.trans hb3); clear hI3 hb3 hg3))
                go_roundw
                case rel => exact ⟨m + 1, by omega, by go_num, by rw [K.out, ← HE.out]; exact ints_mono' HI3.out hle, fun h => absurd h (by omega), hb.trans (HB3.out.mono hle)⟩
                case measure => (simp [intOf]; try omega)

              · have R1 := Lib.hid (Ints.take HI.out HM.out hmc (by unfold maxLen; omega) (p + 1) (by omega))
                have R2 := Lib.hid (Ints.drop HI.out HM.out hmc (by unfold maxLen; omega) (p + 1) (by omega))
                generalize gt (ascTo zs m) p = y at *
                have hlm : (ascTo zs m).length = m := HM.out.symm
                generalize hL : ascTo zs m = L at *
                clear hL
                have hl1 : (L.take (p + 1)).length ≤ m := by simp; omega
                have hl2 : (L.drop (p + 1)).length ≤ m := by simp; omega
                have HE := Lib.hid (show (L.take (p + 1) ++ [x]) ++ L.drop (p + 1) = L.take (p + 1) ++ x :: L.drop (p + 1) by simp)
                generalize L.take (p + 1) = L1 at *
                generalize L.drop (p + 1) = L2 at *
                have hpc : (p : Int) + 1 ≤ cap := by omega
                have hpm : (p : Int) + 1 ≤ m := by omega
                go_wp2_with (first
                  | (go_at_call 57; refine (l1Own _ L1 _ R1.out (fun _ e => by cases e) (by omega)).mono ?_; rintro e w1 ⟨u, rfl, hI1, hb1⟩; have HI1 := Lib.hid hI1; have HB1 := Lib.hid hb1; clear hI1 hb1)
                  | (at_builtin; refine wpList_app w1 rfl _ _ rfl wr.heap.size u L1 rfl HI1.out x rfl (by omega) HB1.out.size rfl ?_; intro u2 w2 hI2 hb2 hg2; have HI2 := Lib.hid hI2; have HB2 := Lib.hid (HB1.out.trans hb2); clear hI2 hb2 hg2)
                  | (at_builtin; refine wpList_cat w2 rfl _ _ rfl wr.heap.size u2 (L1 ++ [x]) rfl HI2.out _ L2 rfl (R2.out.below HB2.out) (fun _ e => by cases e) (by simp; omega) HB2.out.size ?_; intro u3 w3 hI3 hb3 hg3; have HI3 := Lib.hid hI3; have HB3 := Lib.hid (HB2.out.trans hb3); clear hI3 hb3 hg3))
                go_roundw
                case rel => exact ⟨m + 1, by omega, by go_num, by rw [K.out, ← HE.out]; exact ints_mono' HI3.out hle, fun h => absurd h (by omega), hb.trans (HB3.out.mono hle)⟩
                case measure => (simp [intOf]; try omega)
    · obtain rfl : j = n := by omega
      go_wp2
      go_ret
      exact ⟨_, rfl, by rw [R0.out]; exact hI, hb⟩
end Go.Proofs.Ytimbpfenpbkckab
