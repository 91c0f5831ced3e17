/- Plain facts on neighbour swaps: the first one, how many are inverted behind it, the list of all. -/
import Derived.Test.YthdmmliipmmfbaaOc
namespace Go.Proofs.Ythdmmliipmmfbaa
set_option linter.unusedVariables false
open Go.RowKit

def il : List Int → Nat
  | [] => 0
  | a :: l => l.countP (fun x => decide (x < a)) + il l
theorem gt_cons (a : Int) (l : List Int) (j : Nat) : gt (a :: l) (j + 1) = gt l j := by simp [gt]
theorem gt_zero (a : Int) (l : List Int) : gt (a :: l) 0 = a := by simp [gt]
theorem cnt_cons (a : Int) (l : List Int) (i : Nat) : ∀ m, cnt (a :: l) (i + 1) m = cnt l i m
  | 0 => rfl
  | m + 1 => by
    rw [cnt, cnt, cnt_cons a l i m, gt_cons, show i + 1 + 1 + m = (i + 1 + m) + 1 by omega, gt_cons]
theorem cnt_zero (a : Int) (l : List Int) : ∀ m, m ≤ l.length → cnt (a :: l) 0 m = (l.take m).countP (fun x => decide (x < a))
  | 0, _ => by simp [cnt]
  | m + 1, h => by
    have e : l.take (m + 1) = l.take m ++ [gt l m] := by
      rw [List.take_succ_eq_append_getElem h]; simp [gt, show m < l.length from h]
    rw [cnt, cnt_zero a l m (by omega), e, List.countP_append, gt_zero, show 0 + 1 + m = m + 1 by omega, gt_cons]
    simp
theorem lsr_cons (a : Int) (l : List Int) (i : Nat) : lsr (a :: l) (i + 1) = lsr l i := by
  unfold lsr; rw [cnt_cons, List.length_cons]; congr 1; omega
theorem lsr_zero (a : Int) (l : List Int) : lsr (a :: l) 0 = l.countP (fun x => decide (x < a)) := by
  unfold lsr
  rw [cnt_zero a l _ (by simp)]
  simp
theorem invTo_cons (a : Int) (l : List Int) : ∀ k, invTo (a :: l) (k + 1) = lsr (a :: l) 0 + invTo l k
  | 0 => by simp [invTo]
  | k + 1 => by rw [invTo, invTo_cons a l k, invTo, lsr_cons]; omega
theorem invs_il : ∀ zs : List Int, invs zs = il zs
  | [] => rfl
  | a :: l => by
    unfold invs
    rw [List.length_cons, invTo_cons, lsr_zero]
    have := invs_il l
    unfold invs at this
    rw [this]; rfl
theorem il_swap (a b : Int) (s : List Int) (h : b < a) : ∀ p : List Int, il (p ++ a :: b :: s) = il (p ++ b :: a :: s) + 1
  | [] => by
    have h2 : ¬ a < b := by omega
    simp [il, List.countP_cons, h, h2]; omega
  | c :: p => by
    simp only [List.cons_append, il]
    rw [il_swap a b s h p]
    simp only [List.countP_append, List.countP_cons]
    omega
theorem split2 {zs : List Int} {i : Nat} (h : i + 1 < zs.length) : zs = zs.take i ++ gt zs i :: gt zs (i + 1) :: zs.drop (i + 2) := by
  have e1 : zs.drop i = gt zs i :: zs.drop (i + 1) := by rw [List.drop_eq_getElem_cons (by omega)]; simp [gt, show i < zs.length by omega]
  have e2 : zs.drop (i + 1) = gt zs (i + 1) :: zs.drop (i + 2) := by rw [List.drop_eq_getElem_cons h]; simp [gt, h]
  conv => lhs; rw [← List.take_append_drop i zs, e1, e2]
/-- the order behind a swap of two neighbours -/
def nsw (zs : List Int) (i : Nat) : List Int := (zs.set i (gt zs (i + 1))).set (i + 1) (gt zs i)
theorem nsw_split {zs : List Int} {i : Nat} (h : i + 1 < zs.length) : nsw zs i = zs.take i ++ gt zs (i + 1) :: gt zs i :: zs.drop (i + 2) := by
  have hl : (zs.take i).length = i := by simp; omega
  have e : ∀ a b, ((zs.take i ++ gt zs i :: gt zs (i + 1) :: zs.drop (i + 2)).set i a).set (i + 1) b = zs.take i ++ a :: b :: zs.drop (i + 2) := by
    intro a b
    rw [List.set_append_right _ _ (by omega), List.set_append_right _ _ (by omega), hl]
    simp
  unfold nsw
  have := e (gt zs (i + 1)) (gt zs i)
  rw [← split2 h] at this
  exact this
theorem nsw_len (zs : List Int) (i : Nat) : (nsw zs i).length = zs.length := by simp [nsw]
theorem nsw_inv {zs : List Int} {i : Nat} (h : i + 1 < zs.length) (hd : gt zs (i + 1) < gt zs i) : invs zs = invs (nsw zs i) + 1 := by
  rw [invs_il, invs_il, nsw_split h, ← il_swap _ _ _ hd, ← split2 h]
theorem nsw_perm {zs : List Int} {i : Nat} (h : i + 1 < zs.length) : (nsw zs i).Perm zs := by
  rw [nsw_split h]
  conv => rhs; rw [split2 h]
  exact List.Perm.append_left _ (List.Perm.swap _ _ _)
theorem isOrd_congr {zs ys : List Int} (h : ys.Perm zs) (ho : isOrd zs = true) : isOrd ys = true := by
  obtain ⟨h1, h2, h3⟩ := isOrd_iff.1 ho
  exact isOrd_iff.2 ⟨by rw [h.length_eq]; exact h1, fun x hx => by rw [h.length_eq]; exact h2 x (h.mem_iff.1 hx), h.nodup_iff.2 h3⟩
theorem nsw_ord {zs : List Int} {i : Nat} (h : i + 1 < zs.length) (ho : isOrd zs = true) : isOrd (nsw zs i) = true := isOrd_congr (nsw_perm h) ho
theorem nsw_gt {zs : List Int} {i j : Nat} (h : j < i) : gt (nsw zs i) j = gt zs j := by
  simp only [nsw, gt, List.getD_eq_getElem?_getD]
  rw [List.getElem?_set_ne (by omega), List.getElem?_set_ne (by omega)]
/-- there is no swap ahead of k -/
def noD (zs : List Int) (k : Nat) : Prop := ∀ j, j < k → ¬ gt zs (j + 1) < gt zs j
theorem noD_step {zs : List Int} {k : Nat} (h : noD zs k) (hk : ¬ gt zs (k + 1) < gt zs k) : noD zs (k + 1) := by
  intro j hj
  by_cases e : j = k
  · subst e; exact hk
  · exact h j (by omega)
theorem noD_nsw {zs : List Int} {k : Nat} (h : noD zs k) : noD (nsw zs k) (k - 1) := by
  intro j hj
  rw [nsw_gt (by omega), nsw_gt (by omega)]
  exact h j (by omega)
theorem il_zero : ∀ {zs : List Int}, noD zs (zs.length - 1) → il zs = 0
  | [], _ => rfl
  | a :: l, h => by
    have h1 : noD l (l.length - 1) := fun j hj => by
      have := h (j + 1) (by simp; omega)
      rwa [gt_cons, gt_cons] at this
    have h2 : ∀ j, j < l.length → a ≤ gt l j := by
      intro j
      induction j with
      | zero =>
        intro hj
        have := h 0 (by simp; omega)
        rw [gt_cons, gt_zero] at this; omega
      | succ j ih =>
        intro hj
        have := h1 j (by omega)
        have := ih (by omega); omega
    rw [il, il_zero h1, List.countP_eq_zero.2]
    intro x hx
    obtain ⟨j, hj, rfl⟩ := List.getElem_of_mem hx
    have := h2 j hj
    rw [show gt l j = l[j] by simp [gt, hj]] at this
    simp; omega
theorem invs_zero {zs : List Int} (h : noD zs (zs.length - 1)) : invs zs = 0 := by rw [invs_il, il_zero h]
/-- the first swap -/
def fdS (zs : List Int) : Option Nat := (List.range (zs.length - 1)).find? fun i => decide (gt zs (i + 1) < gt zs i)
theorem fdS_some {zs : List Int} {i : Nat} (hi : i + 1 < zs.length) (h : noD zs i) (hd : gt zs (i + 1) < gt zs i) : fdS zs = some i := by
  unfold fdS
  rw [List.find?_eq_some_iff_append]
  refine ⟨by simpa using hd, (List.range i), (List.range' (i + 1) (zs.length - 1 - (i + 1))), ?_, ?_⟩
  · apply List.ext_getElem
    · simp; omega
    · intro j h1 h2
      simp only [List.getElem_range, List.getElem_append, List.length_range]
      split
      · rfl
      · rename_i hj
        obtain ⟨q, hq⟩ : ∃ q, j = i + q := ⟨j - i, by omega⟩
        subst hq
        cases q with
        | zero => simp
        | succ q => simp [show i + (q + 1) - i = q + 1 by omega]; omega
  · intro j hj
    have := h j (List.mem_range.1 hj)
    simpa using this
theorem fdS_none {zs : List Int} (h : noD zs (zs.length - 1)) : fdS zs = none := by
  unfold fdS
  rw [List.find?_eq_none]
  intro j hj
  have := h j (List.mem_range.1 hj)
  simpa using this
/-- all swaps, one after the other -/
def nsS : Nat → List Int → List Int
  | 0, _ => []
  | f + 1, zs => match fdS zs with
    | none => []
    | some i => (i : Int) :: nsS f (nsw zs i)
theorem nsS_step {zs : List Int} {i : Nat} (hi : i + 1 < zs.length) (h : noD zs i) (hd : gt zs (i + 1) < gt zs i) : nsS (invs zs) zs = (i : Int) :: nsS (invs (nsw zs i)) (nsw zs i) := by
  rw [nsw_inv hi hd, nsS, fdS_some hi h hd]
theorem nsS_len : ∀ (f : Nat) (zs : List Int), (nsS f zs).length ≤ f
  | 0, _ => by simp [nsS]
  | f + 1, zs => by
    unfold nsS
    split
    · simp
    · rename_i i _
      have := nsS_len f (nsw zs i)
      simp; omega
def nsL (zs : List Int) : List Int := if isOrd zs then nsS (invs zs) zs else []
theorem nsL_no {zs : List Int} (h : isOrd zs = false) : nsL zs = [] := by simp [nsL, h]
theorem nsL_yes {zs : List Int} (h : isOrd zs = true) : nsL zs = nsS (invs zs) zs := by simp [nsL, h]
theorem invs_le {zs : List Int} (h : zs.length ≤ 8) : invs zs ≤ 64 := by
  have := invTo_le h zs.length
  unfold invs; omega
theorem nsL_len (zs : List Int) : (nsL zs).length ≤ 64 := by
  cases h : isOrd zs
  · rw [nsL_no h]; simp
  · rw [nsL_yes h]
    exact Nat.le_trans (nsS_len _ _) (invs_le (isOrd_len h).2)
end Go.Proofs.Ythdmmliipmmfbaa
