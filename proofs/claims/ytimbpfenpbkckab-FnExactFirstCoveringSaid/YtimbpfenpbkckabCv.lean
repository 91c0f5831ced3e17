/- Coverings, plain: all of them in order; there is one just if the greedy count covers all gaps. -/
import Derived.Test.YtimbpfenpbkckabMg
namespace Go.Proofs.Ytimbpfenpbkckab
set_option linter.unusedVariables false
open Go.RowKit

/-- whether a plank may be the next one -/
def fits (ps : List Int) (t : Int) (used : List Nat) (k : Nat) : Bool := decide (t ≤ gt ps k) && !used.contains k
/-- all coverings of gaps that ask for ts, some planks being used -/
def covF (ps : List Int) : List Int → List Nat → List (List Nat)
  | [], _ => [[]]
  | t :: ts, used => (List.range ps.length).flatMap fun k => if fits ps t used k then (covF ps ts (used ++ [k])).map (k :: ·) else []
/-- the same from a plank on -/
def covK (ps : List Int) (t : Int) (ts : List Int) (used : List Nat) (k c : Nat) : List (List Nat) :=
  match c with
  | 0 => []
  | c + 1 => (if fits ps t used k then (covF ps ts (used ++ [k])).map (k :: ·) else []) ++ covK ps t ts used (k + 1) c
theorem covK_flat (ps : List Int) (t : Int) (ts : List Int) (used : List Nat) : ∀ (c k : Nat), covK ps t ts used k c = (List.range' k c).flatMap fun k => if fits ps t used k then (covF ps ts (used ++ [k])).map (k :: ·) else []
  | 0, k => by simp [covK]
  | c + 1, k => by
    unfold covK
    rw [covK_flat ps t ts used c (k + 1), List.range'_succ, List.flatMap_cons]
theorem covF_s (ps : List Int) (t : Int) (ts : List Int) (used : List Nat) : covF ps (t :: ts) used = covK ps t ts used 0 ps.length := by
  rw [covK_flat, ← List.range_eq_range']; rfl
theorem covK_yes {ps : List Int} {t : Int} {ts : List Int} {used : List Nat} {k c : Nat} (h : fits ps t used k = true) : covK ps t ts used k (c + 1) = (covF ps ts (used ++ [k])).map (k :: ·) ++ covK ps t ts used (k + 1) c := by
  conv => lhs; unfold covK
  rw [h]; rfl
theorem covK_no {ps : List Int} {t : Int} {ts : List Int} {used : List Nat} {k c : Nat} (h : fits ps t used k = false) : covK ps t ts used k (c + 1) = covK ps t ts used (k + 1) c := by
  conv => lhs; unfold covK
  rw [h]; rfl
theorem covF_len (ps : List Int) (hp : ps.length ≤ 7) : ∀ (ts : List Int) (used : List Nat), (covF ps ts used).length ≤ 7 ^ ts.length
  | [], _ => by simp [covF]
  | t :: ts, used => by
    have ih := covF_len ps hp ts
    have : ∀ (c k : Nat), (covK ps t ts used k c).length ≤ c * 7 ^ ts.length := by
      intro c
      induction c with
      | zero => intro k; simp [covK]
      | succ c ihc =>
        intro k
        have h1 := ihc (k + 1)
        have h2 := ih (used ++ [k])
        have e : (c + 1) * 7 ^ ts.length = c * 7 ^ ts.length + 7 ^ ts.length := Nat.succ_mul _ _
        cases hf : fits ps t used k
        · rw [covK_no hf]; omega
        · rw [covK_yes hf, List.length_append, List.length_map]; omega
    rw [covF_s, List.length_cons, Nat.pow_succ]
    have h1 := this ps.length 0
    have h2 := Nat.mul_le_mul_right (7 ^ ts.length) hp
    omega
theorem covF_in (ps : List Int) : ∀ (ts : List Int) (used : List Nat) (l : List Nat), l ∈ covF ps ts used → l.length = ts.length ∧ ∀ x ∈ l, x < ps.length
  | [], _, l, h => by simp [covF] at h; subst h; simp
  | t :: ts, used, l, h => by
    simp only [covF, List.mem_flatMap, List.mem_range] at h
    obtain ⟨k, hk, h⟩ := h
    split at h
    · obtain ⟨r, hr, rfl⟩ := List.mem_map.1 h
      have := covF_in ps ts _ r hr
      refine ⟨by simp [this.1], fun x hx => ?_⟩
      rcases List.mem_cons.1 hx with rfl | hx
      · exact hk
      · exact this.2 x hx
    · simp at h

/-- how many are at least x -/
def cnt (l : List Int) (x : Int) : Nat := l.countP fun y => decide (x ≤ y)
theorem cnt_cons (a : Int) (l : List Int) (x : Int) : cnt (a :: l) x = cnt l x + if x ≤ a then 1 else 0 := by
  unfold cnt; rw [List.countP_cons]; simp
theorem cnt_perm {l r : List Int} (h : l.Perm r) (x : Int) : cnt l x = cnt r x := h.countP_eq _
theorem cnt_le (l : List Int) (x : Int) : cnt l x ≤ l.length := List.countP_le_length
theorem cnt_all {l : List Int} {x : Int} (h : ∀ y ∈ l, x ≤ y) : cnt l x = l.length := by
  unfold cnt; rw [List.countP_eq_length]; intro y hy; simpa using h y hy
theorem cnt_mono (l : List Int) {x y : Int} (h : x ≤ y) : cnt l y ≤ cnt l x := by
  unfold cnt
  refine List.countP_mono_left fun z _ hz => ?_
  simp at hz ⊢; omega
/-- for each length there are as many planks as gaps that ask for it -/
def Hall (ts ps : List Int) : Prop := ∀ x, cnt ts x ≤ cnt ps x
theorem Hall.perm {ts ts' ps ps' : List Int} (h : Hall ts ps) (h1 : ts.Perm ts') (h2 : ps.Perm ps') : Hall ts' ps' := fun x => by
  rw [← cnt_perm h1, ← cnt_perm h2]; exact h x
/-- the planks that are left -/
def remP (ps : List Int) (used : List Nat) : List Int := ((List.range ps.length).filter fun k => !used.contains k).map (gt ps)
theorem remP_nil (ps : List Int) : remP ps [] = ps := by
  unfold remP
  have : (List.range ps.length).filter (fun k => !([] : List Nat).contains k) = List.range ps.length := by
    rw [List.filter_eq_self]; intro a _; simp
  rw [this]
  apply List.ext_getElem
  · simp
  · intro i h1 h2
    simp [gt, h2]
theorem remP_snoc {ps : List Int} {used : List Nat} {k : Nat} (hk : k < ps.length) (hu : used.contains k = false) : (remP ps used).Perm (gt ps k :: remP ps (used ++ [k])) := by
  unfold remP
  have hnd : ((List.range ps.length).filter fun j => !used.contains j).Nodup := List.nodup_range.filter _
  have hmem : k ∈ (List.range ps.length).filter fun j => !used.contains j := by
    rw [List.mem_filter]; exact ⟨List.mem_range.2 hk, by rw [hu]; rfl⟩
  have e : (List.range ps.length).filter (fun j => !(used ++ [k]).contains j) = ((List.range ps.length).filter fun j => !used.contains j).erase k := by
    rw [hnd.erase_eq_filter, List.filter_filter]
    refine List.filter_congr fun j _ => ?_
    simp only [List.contains_append, List.contains_cons, List.contains_nil, Bool.or_false, Bool.not_or, bne]
    rw [Bool.and_comm]
  rw [e]
  have := (List.perm_cons_erase hmem).map (gt ps)
  simpa using this
theorem covF_hall (ps : List Int) : ∀ (ts : List Int) (used : List Nat), covF ps ts used ≠ [] ↔ Hall ts (remP ps used)
  | [], used => ⟨fun _ x => by simp [cnt], fun _ => by simp [covF]⟩
  | t :: ts, used => by
    have ih := covF_hall ps ts
    constructor
    · intro h
      obtain ⟨l, hl⟩ := List.exists_mem_of_ne_nil _ h
      simp only [covF, List.mem_flatMap, List.mem_range] at hl
      obtain ⟨k, hk, hl⟩ := hl
      split at hl
      · rename_i hf
        obtain ⟨r, hr, rfl⟩ := List.mem_map.1 hl
        have hh := (ih (used ++ [k])).1 (List.ne_nil_of_mem hr)
        simp only [fits, Bool.and_eq_true, decide_eq_true_eq, Bool.not_eq_true'] at hf
        intro x
        rw [cnt_perm (remP_snoc hk hf.2), cnt_cons, cnt_cons]
        have := hh x
        by_cases h1 : x ≤ t
        · rw [if_pos h1, if_pos (by omega)]; omega
        · rw [if_neg h1]; omega
      · simp at hl
    · intro h
      -- the shortest plank that is left and long enough
      have hex : ∃ k, k < ps.length ∧ used.contains k = false ∧ t ≤ gt ps k := by
        have h1 := h t
        rw [cnt_cons, if_pos (Int.le_refl t)] at h1
        have h2 : 0 < cnt (remP ps used) t := by omega
        unfold cnt at h2
        rw [List.countP_pos_iff] at h2
        obtain ⟨y, hy, hyt⟩ := h2
        unfold remP at hy
        obtain ⟨k, hk, rfl⟩ := List.mem_map.1 hy
        rw [List.mem_filter, List.mem_range] at hk
        refine ⟨k, hk.1, ?_, by simpa using hyt⟩
        simpa using hk.2
      have hmin : ∃ k, k < ps.length ∧ used.contains k = false ∧ t ≤ gt ps k ∧ ∀ j, j < ps.length → used.contains j = false → t ≤ gt ps j → gt ps k ≤ gt ps j := by
        obtain ⟨k, hk⟩ := hex
        have : ∀ (d : Nat) (k : Nat), k < ps.length → used.contains k = false → t ≤ gt ps k → (gt ps k - t).toNat ≤ d → ∃ k, k < ps.length ∧ used.contains k = false ∧ t ≤ gt ps k ∧ ∀ j, j < ps.length → used.contains j = false → t ≤ gt ps j → gt ps k ≤ gt ps j := by
          intro d
          induction d with
          | zero => intro k h1 h2 h3 h4; exact ⟨k, h1, h2, h3, fun j _ _ hj => by omega⟩
          | succ d ihd =>
            intro k h1 h2 h3 h4
            by_cases hall : ∀ j, j < ps.length → used.contains j = false → t ≤ gt ps j → gt ps k ≤ gt ps j
            · exact ⟨k, h1, h2, h3, hall⟩
            · simp only [Classical.not_forall] at hall
              obtain ⟨j, a, b, c, e⟩ := hall
              exact ihd j a b c (by omega)
        exact this _ k hk.1 hk.2.1 hk.2.2 (Nat.le_refl _)
      obtain ⟨k, hk, hu, ht, hm⟩ := hmin
      have hne : covF ps ts (used ++ [k]) ≠ [] := by
        rw [ih]
        intro x
        have hp := remP_snoc hk hu
        have h1 := h x
        rw [cnt_perm hp, cnt_cons, cnt_cons] at h1
        by_cases hx1 : x ≤ t
        · rw [if_pos hx1, if_pos (by omega)] at h1; omega
        · by_cases hx2 : x ≤ gt ps k
          · -- no plank that is left lies between t and the one that is taken
            have h2 := h t
            rw [cnt_cons, if_pos (Int.le_refl t), cnt_perm hp, cnt_cons, if_pos ht] at h2
            have e : cnt (remP ps (used ++ [k])) x = cnt (remP ps (used ++ [k])) t := by
              unfold cnt
              refine List.countP_congr fun y hy => ?_
              unfold remP at hy
              obtain ⟨j, hj, rfl⟩ := List.mem_map.1 hy
              rw [List.mem_filter, List.mem_range] at hj
              have hju : used.contains j = false := by
                have := hj.2
                simp only [List.contains_append, Bool.not_eq_true', Bool.or_eq_false_iff] at this
                exact this.1
              simp only [decide_eq_true_eq]
              constructor
              · intro h3; omega
              · intro h3; have := hm j hj.1 hju h3; omega
            rw [e]
            have := cnt_mono ts (show t ≤ x by omega)
            omega
          · rw [if_neg hx1, if_neg hx2] at h1; omega
      intro he
      simp only [covF, List.flatMap_eq_nil_iff, List.mem_range] at he
      have := he k hk
      rw [if_pos (by simp only [fits, Bool.and_eq_true, decide_eq_true_eq, Bool.not_eq_true']; exact ⟨ht, hu⟩)] at this
      exact hne (by simpa using this)
/-- the greedy count covers all just if there is a covering -/
theorem sF_hall {G : List Int} {P : List Int} {t : Int} (hG : G.Pairwise (· ≤ ·)) (hP : P.Pairwise (· ≤ ·)) : ∀ (c i : Nat), c ≤ P.length → i ≤ G.length →
    (sF G P t c i = G.length ↔ Hall ((G.drop i).map (· + t)) (P.drop (P.length - c)))
  | 0, i, hc, hi => by
    show i = G.length ↔ _
    rw [Nat.sub_zero, List.drop_length]
    constructor
    · rintro rfl; intro x; simp [cnt]
    · intro h
      rcases Nat.lt_or_ge i G.length with h1 | h1
      · exfalso
        have := h (gt G i + t)
        rw [List.drop_eq_getElem_cons h1, List.map_cons, cnt_cons, gt_of h1, if_pos (Int.le_refl _)] at this
        simp [cnt] at this
      · omega
  | c + 1, i, hc, hi => by
    have hpl : P.length - (c + 1) < P.length := by omega
    have hdP : P.drop (P.length - (c + 1)) = gt P (P.length - (c + 1)) :: P.drop (P.length - c) := by
      rw [List.drop_eq_getElem_cons hpl, gt_of hpl]; congr 2; omega
    have hPge : ∀ y ∈ P.drop (P.length - c), gt P (P.length - (c + 1)) ≤ y := by
      intro y hy
      obtain ⟨j, hj, rfl⟩ := List.getElem_of_mem hy
      simp at hj
      rw [List.getElem_drop, gt_of (by omega)]
      exact asc_le hP (by omega) (by omega)
    by_cases h : i < G.length
    · have hdG : (G.drop i).map (· + t) = (gt G i + t) :: (G.drop (i + 1)).map (· + t) := by
        rw [List.drop_eq_getElem_cons h, gt_of h]; rfl
      have hGge : ∀ y ∈ (G.drop (i + 1)).map (· + t), gt G i + t ≤ y := by
        intro y hy
        obtain ⟨z, hz, rfl⟩ := List.mem_map.1 hy
        obtain ⟨j, hj, rfl⟩ := List.getElem_of_mem hz
        simp at hj
        rw [List.getElem_drop, gt_of (by omega)]
        have := asc_le hG (show i ≤ i + 1 + j by omega) (by omega)
        omega
      have hlP : (P.drop (P.length - c)).length = c := by simp; omega
      generalize gt P (P.length - (c + 1)) = p at *
      generalize hg : gt G i + t = g at *
      by_cases h2 : g ≤ p
      · have e : sF G P t (c + 1) i = sF G P t c (i + 1) := by
          simp only [sF]
          rw [if_pos h, if_pos]
          rw [hg]
          have : gt P (P.length - (c + 1)) = p := by
            have := congrArg (fun l => gt l 0) hdP
            simp [gt, List.getD_eq_getElem?_getD] at this
            simp [gt, List.getD_eq_getElem?_getD, this]
          omega
        rw [e, sF_hall hG hP c (i + 1) (by omega) (by omega), hdG, hdP]
        generalize (G.drop (i + 1)).map (· + t) = A at *
        generalize P.drop (P.length - c) = B at *
        constructor
        · intro hh x
          rw [cnt_cons, cnt_cons]
          have h3 := hh x
          by_cases hx : x ≤ g
          · rw [if_pos hx, if_pos (by omega)]; omega
          · rw [if_neg hx]; omega
        · intro hh x
          have h3 := hh x
          have h4 := hh g
          rw [cnt_cons, cnt_cons] at h3
          rw [cnt_cons, cnt_cons, if_pos (Int.le_refl g), if_pos h2] at h4
          by_cases hx : x ≤ g
          · rw [if_pos hx, if_pos (by omega)] at h3; omega
          · by_cases hx2 : x ≤ p
            · have a1 := cnt_mono A (show g ≤ x by omega)
              have a2 := cnt_all (l := B) (x := x) (fun y hy => by have := hPge y hy; omega)
              have a3 := cnt_le B g
              omega
            · rw [if_neg hx, if_neg hx2] at h3; omega
      · have e : sF G P t (c + 1) i = sF G P t c i := by
          simp only [sF]
          rw [if_pos h, if_neg]
          rw [hg]
          have : gt P (P.length - (c + 1)) = p := by
            have := congrArg (fun l => gt l 0) hdP
            simp [gt, List.getD_eq_getElem?_getD] at this
            simp [gt, List.getD_eq_getElem?_getD, this]
          omega
        rw [e, sF_hall hG hP c i (by omega) hi, hdG, hdP]
        generalize (G.drop (i + 1)).map (· + t) = A at *
        generalize P.drop (P.length - c) = B at *
        constructor
        · intro hh x
          have h3 := hh x
          rw [cnt_cons p]; omega
        · intro hh x
          have h3 := hh x
          rw [cnt_cons p] at h3
          by_cases hx : x ≤ p
          · have h4 := hh g
            rw [cnt_cons p, if_neg (by omega)] at h4
            have a1 := cnt_all (l := g :: A) (x := g) (fun y hy => by
              rcases List.mem_cons.1 hy with rfl | hy
              · exact Int.le_refl _
              · exact hGge y hy)
            have a2 := cnt_le (g :: A) x
            have a3 := cnt_mono B (show x ≤ g by omega)
            omega
          · rw [if_neg hx] at h3; omega
    · rw [sF_end h]
      have : G.drop i = [] := List.drop_eq_nil_of_le (by omega)
      rw [this]
      constructor
      · intro _ x; simp [cnt]
      · intro _; omega

/-- all coverings -/
def covL (gs ps : List Int) (r : Int) : List (List Nat) := covF ps (gs.map (· + 2 * r)) []
theorem covL_most (gs ps : List Int) (r : Int) : (mostN gs ps r = gs.length) ↔ covL gs ps r ≠ [] := by
  unfold mostN covL
  rw [covF_hall, remP_nil]
  have h := sF_hall (t := 2 * r) (asc_asc gs) (asc_asc ps) ps.length 0 (by rw [asc_len]; omega) (Nat.zero_le _)
  rw [asc_len] at h
  rw [h, List.drop_zero, asc_len, Nat.sub_self, List.drop_zero]
  constructor
  · intro hh; exact hh.perm ((asc_perm gs).map _) (asc_perm ps)
  · intro hh; exact hh.perm ((asc_perm gs).map _).symm (asc_perm ps).symm
end Go.Proofs.Ytimbpfenpbkckab
