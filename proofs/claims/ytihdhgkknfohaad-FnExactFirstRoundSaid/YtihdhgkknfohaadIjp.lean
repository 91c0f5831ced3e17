/- Lists of as few bridges as can be that join all islands, in order, and the cheapest of them: plain. -/
import Derived.Test.YtihdhgkknfohaadIl
namespace Go.Proofs.Ytihdhgkknfohaad
set_option linter.unusedVariables false
open Go.RowKit

/-- the indices from a place on -/
def upI (a : Nat) : Nat → List Nat
  | 0 => []
  | c + 1 => a :: upI (a + 1) c
theorem upI_len (a c : Nat) : (upI a c).length = c := by
  induction c generalizing a with
  | zero => rfl
  | succ c ih => simp [upI, ih]
theorem upI_lt {a c : Nat} : ∀ x ∈ upI a c, a ≤ x ∧ x < a + c := by
  induction c generalizing a with
  | zero => simp [upI]
  | succ c ih =>
    intro x hx
    rcases List.mem_cons.1 hx with rfl | hx
    · omega
    · have := ih x hx; omega
theorem mem_upI {a c x : Nat} (h1 : a ≤ x) (h2 : x < a + c) : x ∈ upI a c := by
  induction c generalizing a with
  | zero => omega
  | succ c ih =>
    by_cases e : x = a
    · subst e; exact List.mem_cons_self ..
    · exact List.mem_cons_of_mem _ (ih (by omega) (by omega))
theorem range_upI (c : Nat) : ∀ a, (List.range c).map (a + ·) = upI a c := by
  induction c with
  | zero => intro a; rfl
  | succ c ih =>
    intro a
    rw [List.range_succ_eq_map, List.map_cons, List.map_map, upI, ← ih (a + 1)]
    congr 1
    refine List.map_congr_left fun x _ => ?_
    show a + (x + 1) = a + 1 + x
    omega
theorem range_upI' (c : Nat) : List.range c = upI 0 c := by
  rw [← range_upI c 0]; simp
theorem upI_snoc (a c : Nat) : upI a (c + 1) = upI a c ++ [a + c] := by
  induction c generalizing a with
  | zero => simp [upI]
  | succ c ih =>
    show a :: upI (a + 1) (c + 1) = a :: upI (a + 1) c ++ [a + (c + 1)]
    rw [ih]; simp; omega

/-- all increasing lists of r indices from a place on, below n, in order -/
def ext (n : Nat) : Nat → Nat → List (List Nat)
  | 0, _ => [[]]
  | r + 1, a => (upI a (n - a)).flatMap fun k => (ext n r (k + 1)).map (k :: ·)
theorem ext_0 (n a : Nat) : ext n 0 a = [[]] := rfl
theorem ext_s (n r a : Nat) : ext n (r + 1) a = (upI a (n - a)).flatMap fun k => (ext n r (k + 1)).map (k :: ·) := rfl
theorem ext_none (n : Nat) : ∀ (r a : Nat), n < a + r → 1 ≤ r → ext n r a = []
  | 0, _, _, h => absurd h (by omega)
  | r + 1, a, h, _ => by
    rw [ext_s, List.flatMap_eq_nil_iff]
    intro k hk
    have := upI_lt k hk
    rcases Nat.eq_zero_or_pos r with e | e
    · omega
    · rw [ext_none n r (k + 1) (by omega) e]; rfl
theorem ext_len {n : Nat} : ∀ {r a : Nat} {l : List Nat}, l ∈ ext n r a → l.length = r ∧ ∀ x ∈ l, a ≤ x ∧ x < n
  | 0, a, l, h => by simp [ext] at h; subst h; simp
  | r + 1, a, l, h => by
    rw [ext_s, List.mem_flatMap] at h
    obtain ⟨k, hk, h⟩ := h
    obtain ⟨t, ht, rfl⟩ := List.mem_map.1 h
    have h1 := upI_lt k hk
    have h2 := ext_len ht
    refine ⟨by simp [h2.1], fun x hx => ?_⟩
    rcases List.mem_cons.1 hx with rfl | hx
    · omega
    · have := h2.2 x hx; omega
theorem mem_ext {n : Nat} : ∀ {l : List Nat} {a : Nat}, l.Pairwise (· < ·) → (∀ x ∈ l, a ≤ x ∧ x < n) → l ∈ ext n l.length a
  | [], a, _, _ => by simp [ext]
  | k :: t, a, hp, h => by
    have h0 := h k (List.mem_cons_self ..)
    have hp2 := List.pairwise_cons.1 hp
    rw [List.length_cons, ext_s, List.mem_flatMap]
    exact ⟨k, mem_upI h0.1 (by omega), List.mem_map.2 ⟨t, mem_ext hp2.2 (fun x hx => ⟨hp2.1 x hx, (h x (List.mem_cons_of_mem _ hx)).2⟩), rfl⟩⟩

/-- the next list -/
def nxt (n : Nat) : List Nat → Option (List Nat)
  | [] => none
  | k :: t => match nxt n t with
    | some s => some (k :: s)
    | none => if t.length + 1 ≤ n - (k + 1) then some (upI (k + 1) (t.length + 1)) else none
theorem nxt_len (n : Nat) : ∀ (l s : List Nat), nxt n l = some s → s.length = l.length
  | [], s, h => by cases h
  | k :: t, s, h => by
    unfold nxt at h
    split at h
    · rename_i s' hs
      cases h
      simp [nxt_len n t s' hs]
    · split at h
      · cases h; simp [upI_len]
      · cases h
theorem nxt_lt (n : Nat) : ∀ (l s : List Nat), (∀ x ∈ l, x < n) → nxt n l = some s → ∀ x ∈ s, x < n
  | [], s, _, h => by cases h
  | k :: t, s, hl, h => by
    unfold nxt at h
    split at h
    · rename_i s' hs
      cases h
      intro x hx
      rcases List.mem_cons.1 hx with rfl | hx
      · exact hl _ (List.mem_cons_self ..)
      · exact nxt_lt n t s' (fun y hy => hl y (List.mem_cons_of_mem _ hy)) hs x hx
    · split at h
      · cases h
        intro x hx
        have := upI_lt x hx; omega
      · cases h
/-- how impl.advance finds it: the last place with room -/
theorem nxt_none (n : Nat) : ∀ (l : List Nat), (∀ j, j < l.length → n - (l.getD j 0 + 1) < l.length - j) → nxt n l = none
  | [], _ => rfl
  | k :: t, h => by
    have ih := nxt_none n t fun j hj => by
      have := h (j + 1) (by simpa using hj)
      simpa using this
    have h0 := h 0 (by simp)
    unfold nxt
    rw [ih]
    simp at h0
    simp only
    rw [if_neg (by omega)]
theorem nxt_at (n : Nat) : ∀ (l : List Nat) (i : Nat), i < l.length → l.length - i ≤ n - (l.getD i 0 + 1) → (∀ j, i < j → j < l.length → n - (l.getD j 0 + 1) < l.length - j) →
    nxt n l = some (l.take i ++ upI (l.getD i 0 + 1) (l.length - i))
  | [], i, h, _, _ => by simp at h
  | k :: t, 0, _, h, h2 => by
    have ih := nxt_none n t fun j hj => by
      have := h2 (j + 1) (by omega) (by simpa using hj)
      simpa using this
    unfold nxt
    rw [ih]
    simp at h
    simp only
    rw [if_pos (by omega)]
    simp
  | k :: t, i + 1, hi, h, h2 => by
    have ih := nxt_at n t i (by simpa using hi) (by simpa using h) fun j hj hj2 => by
      have := h2 (j + 1) (by omega) (by simpa using hj2)
      simpa using this
    unfold nxt
    rw [ih]
    simp
/-- the lists from one on -/
def frm (n : Nat) : List Nat → List (List Nat)
  | [] => [[]]
  | k :: t => (frm n t).map (k :: ·) ++ (upI (k + 1) (n - (k + 1))).flatMap fun i => (ext n t.length (i + 1)).map (i :: ·)
theorem frm_up (n : Nat) : ∀ (c a : Nat), a + c ≤ n → frm n (upI a c) = ext n c a
  | 0, _, _ => rfl
  | c + 1, a, h => by
    show frm n (a :: upI (a + 1) c) = _
    rw [ext_s, show n - a = (n - (a + 1)) + 1 by omega, upI, List.flatMap_cons]
    unfold frm
    rw [frm_up n c (a + 1) (by omega), upI_len]
theorem frm_next (n : Nat) : ∀ (l : List Nat), frm n l = l :: match nxt n l with | some s => frm n s | none => []
  | [] => rfl
  | k :: t => by
    have ih := frm_next n t
    unfold nxt
    conv => lhs; unfold frm
    rw [ih]
    cases hs : nxt n t with
    | some s =>
      simp only [List.map_cons, List.cons_append]
      conv => rhs; unfold frm
      rw [nxt_len n t s hs]
    | none =>
      simp only [List.map_cons, List.map_nil, List.cons_append, List.nil_append]
      by_cases hc : t.length + 1 ≤ n - (k + 1)
      · rw [if_pos hc]
        simp only
        rw [frm_up n _ _ (by omega), ext_s]
      · rw [if_neg hc]
        simp only
        rw [← ext_s, ext_none n _ _ (by omega) (by omega)]
theorem frm_some {n : Nat} {l s : List Nat} (h : nxt n l = some s) : frm n l = l :: frm n s := by
  rw [frm_next, h]
theorem frm_last {n : Nat} {l : List Nat} (h : nxt n l = none) : frm n l = [l] := by
  rw [frm_next, h]

/-- the bridges of a list -/
def pickB (bs : List Br) (l : List Nat) : List Br := l.map (gb bs)
def tollB (bs : List Br) : List Nat → Int
  | [] => 0
  | k :: t => (gb bs k).2.2 + tollB bs t
theorem tollB_app (bs : List Br) (l t : List Nat) : tollB bs (l ++ t) = tollB bs l + tollB bs t := by
  induction l with
  | nil => simp [tollB]
  | cons k l ih => simp only [List.cons_append, tollB, ih]; omega
theorem tollB_in {m : Nat} {bs : List Br} (hg : Good m bs) : ∀ {l : List Nat}, (∀ x ∈ l, x < bs.length) → 0 ≤ tollB bs l ∧ tollB bs l ≤ 1000 * l.length
  | [], _ => by simp [tollB]
  | k :: t, h => by
    have h1 := tollB_in hg (l := t) fun x hx => h x (List.mem_cons_of_mem _ hx)
    have h2 := hg.at (h k (List.mem_cons_self ..))
    simp only [tollB, List.length_cons]; omega
theorem pickB_len (bs : List Br) (l : List Nat) : (pickB bs l).length = l.length := by simp [pickB]
theorem pickB_app (bs : List Br) (l t : List Nat) : pickB bs (l ++ t) = pickB bs l ++ pickB bs t := by simp [pickB]
theorem pickB_good {m : Nat} {bs : List Br} (hg : Good m bs) {l : List Nat} (h : ∀ x ∈ l, x < bs.length) : Good m (pickB bs l) := hg.sub fun b hb => by
  obtain ⟨k, hk, rfl⟩ := List.mem_map.1 hb
  exact gb_mem (h k hk)
theorem groups_more {m : Nat} {cs : List Br} : ∀ (ds : List Br), Good m (cs ++ ds) → groupsN m cs ≤ groupsN m (cs ++ ds) + ds.length := by
  intro ds
  induction ds generalizing cs with
  | nil => intro _; simp
  | cons d ds ih =>
    intro hg
    have hd := hg d (by simp)
    have e : cs ++ d :: ds = (cs ++ [d]) ++ ds := by simp
    rw [e] at hg ⊢
    have h1 := ih hg
    have h2 := groups_step (n := m) (bs := cs) (hg.sub fun b hb => by simp [hb]) (b := d) (by omega) (by omega)
    simp only [List.length_cons]
    split at h2 <;> omega
/-- a list that joins all -/
def joinsB (m : Nat) (bs : List Br) (l : List Nat) : Bool := decide (groupsN m (pickB bs l) ≤ 1)
/-- with a bridge within a group so few can't join all -/
theorem joinsB_cut {m : Nat} {bs : List Br} (hg : Good m bs) {l t : List Nat} {k : Nat} (hl : ∀ x ∈ l ++ k :: t, x < bs.length) (hlen : l.length + t.length + 2 ≤ m)
    (hs : same m (pickB bs l) (gb bs k).1.toNat (gb bs k).2.1.toNat = true) : joinsB m bs (l ++ k :: t) = false := by
  have hk := hg.at (hl k (by simp))
  have g0 := pickB_good hg hl
  have e : pickB bs (l ++ k :: t) = (pickB bs l ++ [gb bs k]) ++ pickB bs t := by simp [pickB]
  rw [e] at g0
  have h1 := groups_step (n := m) (bs := pickB bs l) (g0.sub fun b hb => by simp [hb]) (b := gb bs k) (by omega) (by omega)
  rw [hs, if_pos rfl] at h1
  have h2 := groups_more (pickB bs t) g0
  have h3 := groups_ge (n := m) (bs := pickB bs l) (g0.sub fun b hb => by simp [hb])
  rw [pickB_len] at h2 h3
  unfold joinsB
  rw [e]
  exact decide_eq_false (by omega)

/-- the least toll so far, and all lists with it, in their order -/
def stepJ (m : Nat) (bs : List Br) (st : Int × List (List Nat)) (l : List Nat) : Int × List (List Nat) :=
  if joinsB m bs l = false ∨ (st.2 ≠ [] ∧ st.1 < tollB bs l) then st
  else if tollB bs l < st.1 then (tollB bs l, [l]) else (tollB bs l, st.2 ++ [l])
def bestJ (m : Nat) (bs : List Br) (Ls : List (List Nat)) : Int × List (List Nat) := Ls.foldl (stepJ m bs) (0, [])
/-- of two the better, or both -/
def combJ (A B : Int × List (List Nat)) : Int × List (List Nat) :=
  if B.2 = [] then A else if A.2 = [] ∨ B.1 < A.1 then B else if B.1 = A.1 then (A.1, A.2 ++ B.2) else A
theorem combJ_nil (A B : Int × List (List Nat)) (h : B.2 = []) : combJ A B = A := by simp [combJ, h]
theorem comb_step (m : Nat) (bs : List Br) (A B : Int × List (List Nat)) (l : List Nat) : stepJ m bs (combJ A B) l = combJ A (stepJ m bs B l) := by
  obtain ⟨a, As⟩ := A
  obtain ⟨b, Bs⟩ := B
  cases hj : joinsB m bs l
  · simp [stepJ, hj]
  generalize ht : tollB bs l = t
  cases As with
  | nil =>
    cases Bs with
    | nil => by_cases h1 : t < a <;> by_cases h2 : t < b <;> simp [stepJ, combJ, hj, ht, h1, h2]
    | cons y Bs => by_cases h1 : b < t <;> by_cases h2 : t < b <;> simp [stepJ, combJ, hj, ht, h1, h2]
  | cons x As =>
    cases Bs with
    | nil =>
      by_cases h1 : a < t
      · have h2 : ¬ t < a := by omega
        have h3 : ¬ t = a := by omega
        by_cases h4 : t < b <;> simp [stepJ, combJ, hj, ht, h1, h2, h3, h4]
      · by_cases h2 : t < a
        · by_cases h4 : t < b <;> simp [stepJ, combJ, hj, ht, h1, h2, h4]
        · have h3 : t = a := by omega
          subst h3
          by_cases h4 : t < b <;> simp [stepJ, combJ, hj, ht, h4]
    | cons y Bs =>
      by_cases h1 : b < a
      · by_cases h2 : b < t
        · simp [stepJ, combJ, hj, ht, h1, h2]
        · by_cases h3 : t < b
          · have : t < a := by omega
            simp [stepJ, combJ, hj, ht, h1, h2, h3, this]
          · have h4 : t = b := by omega
            subst h4
            simp [stepJ, combJ, hj, ht, h1]
      · by_cases h5 : b = a
        · subst h5
          by_cases h2 : b < t
          · simp [stepJ, combJ, hj, ht, h2]
          · by_cases h3 : t < b
            · simp [stepJ, combJ, hj, ht, h2, h3]
            · have h4 : t = b := by omega
              subst h4
              simp [stepJ, combJ, hj, ht]
        · by_cases h2 : a < t
          · have h6 : ¬ t < a := by omega
            have h7 : ¬ t = a := by omega
            by_cases h3 : b < t
            · simp [stepJ, combJ, hj, ht, h1, h5, h2, h3]
            · by_cases h4 : t < b
              · simp [stepJ, combJ, hj, ht, h1, h5, h2, h3, h4, h6, h7]
              · have h8 : t = b := by omega
                subst h8
                simp [stepJ, combJ, hj, ht, h1, h5, h2]
          · have h3 : ¬ b < t := by omega
            have h4 : t < b := by omega
            by_cases h6 : t < a
            · simp [stepJ, combJ, hj, ht, h1, h5, h2, h3, h4, h6]
            · have h7 : t = a := by omega
              subst h7
              simp [stepJ, combJ, hj, ht, h1, h5, h4]
              try omega
theorem best_app (m : Nat) (bs : List Br) (A : Int × List (List Nat)) (Ls : List (List Nat)) : Ls.foldl (stepJ m bs) A = combJ A (bestJ m bs Ls) := by
  have : ∀ (Ls : List (List Nat)) (B : Int × List (List Nat)), Ls.foldl (stepJ m bs) (combJ A B) = combJ A (Ls.foldl (stepJ m bs) B) := by
    intro Ls
    induction Ls with
    | nil => intro B; rfl
    | cons l Ls ih => intro B; rw [List.foldl_cons, comb_step, ih]; rfl
  have h := this Ls (0, [])
  rw [combJ_nil _ _ rfl] at h
  exact h
/-- what can't join all changes nothing -/
theorem best_none {m : Nat} {bs : List Br} {Ls : List (List Nat)} (h : ∀ l ∈ Ls, joinsB m bs l = false) (A : Int × List (List Nat)) : Ls.foldl (stepJ m bs) A = A := by
  induction Ls generalizing A with
  | nil => rfl
  | cons l Ls ih =>
    rw [List.foldl_cons]
    have e : stepJ m bs A l = A := by simp [stepJ, h l (List.mem_cons_self ..)]
    rw [e]
    exact ih (fun x hx => h x (List.mem_cons_of_mem _ hx)) A
theorem best_in {m : Nat} {bs : List Br} {P : List Nat → Prop} {Ls : List (List Nat)} (h : ∀ l ∈ Ls, P l) : ∀ (A : Int × List (List Nat)), (∀ l ∈ A.2, P l) → ∀ l ∈ (Ls.foldl (stepJ m bs) A).2, P l := by
  induction Ls with
  | nil => intro A hA; exact hA
  | cons x Ls ih =>
    intro A hA
    rw [List.foldl_cons]
    refine ih (fun l hl => h l (List.mem_cons_of_mem _ hl)) _ fun l hl => ?_
    unfold stepJ at hl
    split at hl
    · exact hA l hl
    · split at hl
      · simp at hl; subst hl; exact h _ (List.mem_cons_self ..)
      · simp only [List.mem_append, List.mem_singleton] at hl
        rcases hl with hl | rfl
        · exact hA l hl
        · exact h _ (List.mem_cons_self ..)
theorem best_cnt {m : Nat} {bs : List Br} {Ls : List (List Nat)} : ∀ (A : Int × List (List Nat)), (Ls.foldl (stepJ m bs) A).2.length ≤ A.2.length + Ls.length := by
  induction Ls with
  | nil => intro A; exact Nat.le_refl _
  | cons x Ls ih =>
    intro A
    rw [List.foldl_cons]
    refine Nat.le_trans (ih _) ?_
    have : (stepJ m bs A x).2.length ≤ A.2.length + 1 := by
      unfold stepJ
      split
      · omega
      · split <;> simp
    simp only [List.length_cons]; omega
theorem best_low {m : Nat} {bs : List Br} (hg : Good m bs) {q : Nat} {Ls : List (List Nat)} (h : ∀ l ∈ Ls, l.length ≤ q ∧ ∀ x ∈ l, x < bs.length) : ∀ (A : Int × List (List Nat)), (0 ≤ A.1 ∧ A.1 ≤ 1000 * q) → 0 ≤ (Ls.foldl (stepJ m bs) A).1 ∧ (Ls.foldl (stepJ m bs) A).1 ≤ 1000 * q := by
  induction Ls with
  | nil => intro A hA; exact hA
  | cons x Ls ih =>
    intro A hA
    rw [List.foldl_cons]
    refine ih (fun l hl => h l (List.mem_cons_of_mem _ hl)) _ ?_
    have h1 := h x (List.mem_cons_self ..)
    have h2 := tollB_in hg h1.2
    unfold stepJ
    split
    · exact hA
    · split <;> (simp only; omega)
/-- one that joins all is enough -/
theorem best_some {m : Nat} {bs : List Br} : ∀ {Ls : List (List Nat)} (A : Int × List (List Nat)), (A.2 ≠ [] ∨ ∃ l ∈ Ls, joinsB m bs l = true) → (Ls.foldl (stepJ m bs) A).2 ≠ []
  | [], A, h => by
    rcases h with h | ⟨l, hl, _⟩
    · exact h
    · cases hl
  | x :: Ls, A, h => by
    rw [List.foldl_cons]
    apply best_some
    rcases h with h | ⟨l, hl, hj⟩
    · left
      unfold stepJ
      split
      · exact h
      · split <;> simp
    · rcases List.mem_cons.1 hl with rfl | hl
      · left
        unfold stepJ
        split
        · rename_i hc
          rcases hc with hc | hc
          · rw [hj] at hc; cases hc
          · exact hc.1
        · split <;> simp
      · exact .inr ⟨l, hl, hj⟩

/-- if each bridge lies within a group so does each group -/
theorem same_sub {m : Nat} {cs ds : List Br} (hc : Good m cs) (h : ∀ b ∈ cs, same m ds b.1.toNat b.2.1.toNat = true) {i j : Nat} (hi : i < m) (hj : j < m) (hs : same m cs i j = true) : same m ds i j = true :=
  same_symm ((same_inv hc (f := fun x => same m ds x i = true) (fun b hb => ⟨fun g => same_trans (same_symm (h b hb)) g, fun g => same_trans (h b hb) g⟩) hi hj hs).1 (same_refl _ _ _))
/-- the bridges that each join two groups of those ahead -/
def treeL (m : Nat) (bs : List Br) (k : Nat) : List Nat := (List.range k).filter fun j => !same m (bs.take j) (gb bs j).1.toNat (gb bs j).2.1.toNat
theorem treeL_s (m : Nat) (bs : List Br) (k : Nat) : treeL m bs (k + 1) = treeL m bs k ++ if same m (bs.take k) (gb bs k).1.toNat (gb bs k).2.1.toNat then [] else [k] := by
  unfold treeL
  rw [List.range_succ, List.filter_append]
  congr 1
  by_cases h : same m (bs.take k) (gb bs k).1.toNat (gb bs k).2.1.toNat = true
  · simp [h]
  · simp [h]
theorem treeL_lt {m : Nat} {bs : List Br} {k : Nat} : ∀ x ∈ treeL m bs k, x < k := fun x hx => by simpa using (List.mem_filter.1 hx).1
theorem take_snocJ {bs : List Br} {k : Nat} (h : k < bs.length) : bs.take (k + 1) = bs.take k ++ [gb bs k] := by
  rw [List.take_succ_eq_append_getElem h]; simp [gb, h]
theorem treeL_same {m : Nat} {bs : List Br} (hg : Good m bs) : ∀ k, k ≤ bs.length → (∀ i j, i < m → j < m → same m (pickB bs (treeL m bs k)) i j = same m (bs.take k) i j) ∧ groupsN m (pickB bs (treeL m bs k)) + (treeL m bs k).length = m
  | 0, _ => ⟨fun i j _ _ => rfl, by
      have : treeL m bs 0 = [] := rfl
      rw [this]; show groupsN m [] + 0 = m
      rw [groups_0]; rfl⟩
  | k + 1, hk => by
    obtain ⟨ih, ihg⟩ := treeL_same hg k (by omega)
    have hv := hg.at (j := k) (by omega)
    have gt0 : Good m (bs.take (k + 1)) := hg.sub fun b hb => List.mem_of_mem_take hb
    have gp0 : Good m (pickB bs (treeL m bs k)) := pickB_good hg fun x hx => by have := treeL_lt x hx; omega
    have gp : Good m (pickB bs (treeL m bs (k + 1))) := pickB_good hg fun x hx => by have := treeL_lt x hx; omega
    have key : ∀ b ∈ bs.take k, same m (pickB bs (treeL m bs k)) b.1.toNat b.2.1.toNat = true := fun b hb => by
      have h2 := hg b (List.mem_of_mem_take hb)
      rw [ih _ _ (by omega) (by omega)]
      exact same_br (hg.sub fun c hc => List.mem_of_mem_take hc) hb
    have sub1 : ∀ b ∈ pickB bs (treeL m bs (k + 1)), b ∈ bs.take (k + 1) := fun b hb => by
      obtain ⟨j, hj, rfl⟩ := List.mem_map.1 hb
      have hj2 := treeL_lt j hj
      have e : gb bs j = (bs.take (k + 1))[j]'(by simp; omega) := by
        rw [List.getElem_take]; simp [gb, show j < bs.length by omega]
      rw [e]; exact List.getElem_mem _
    have sub2 : ∀ x, x ∈ treeL m bs k → x ∈ treeL m bs (k + 1) := fun x hx => by rw [treeL_s]; exact List.mem_append_left _ hx
    have sub3 : ∀ b ∈ pickB bs (treeL m bs k), same m (pickB bs (treeL m bs (k + 1))) b.1.toNat b.2.1.toNat = true := fun b hb => by
      obtain ⟨j, hj, rfl⟩ := List.mem_map.1 hb
      exact same_br gp (List.mem_map.2 ⟨j, sub2 j hj, rfl⟩)
    refine ⟨fun i j hi hj => ?_, ?_⟩
    · rw [Bool.eq_iff_iff]
      constructor
      · exact same_sub gp (fun b hb => same_br gt0 (sub1 b hb)) hi hj
      · refine same_sub gt0 (fun b hb => ?_) hi hj
        rw [take_snocJ (by omega)] at hb
        rcases List.mem_append.1 hb with hb | hb
        · have h2 := hg b (List.mem_of_mem_take hb)
          exact same_sub gp0 sub3 (by omega) (by omega) (key b hb)
        · obtain rfl : b = gb bs k := by simpa using hb
          by_cases hs : same m (bs.take k) (gb bs k).1.toNat (gb bs k).2.1.toNat = true
          · rw [← ih _ _ (by omega) (by omega)] at hs
            exact same_sub gp0 sub3 (by omega) (by omega) hs
          · refine same_br gp (List.mem_map.2 ⟨k, ?_, rfl⟩)
            rw [treeL_s, if_neg hs]; simp
    · rw [treeL_s]
      by_cases hs : same m (bs.take k) (gb bs k).1.toNat (gb bs k).2.1.toNat = true
      · rw [if_pos hs, List.append_nil]; exact ihg
      · have h1 := groups_step gp0 (b := gb bs k) (by omega) (by omega)
        rw [ih _ _ (by omega) (by omega), if_neg hs] at h1
        rw [if_neg hs, pickB_app]
        have e : pickB bs [k] = [gb bs k] := rfl
        rw [e]
        simp only [List.length_append, List.length_cons, List.length_nil]
        omega
/-- where all islands are one group there is a list that joins them -/
theorem join_some {m : Nat} {bs : List Br} (hg : Good m bs) (hm : 1 ≤ m) (h1 : groupsN m bs ≤ 1) : ∃ l ∈ ext bs.length (m - 1) 0, joinsB m bs l = true := by
  obtain ⟨hs, hc⟩ := treeL_same hg bs.length (Nat.le_refl _)
  rw [List.take_length] at hs
  have gp : Good m (pickB bs (treeL m bs bs.length)) := pickB_good hg fun x hx => treeL_lt x hx
  have h2 : groupsN m (pickB bs (treeL m bs bs.length)) ≤ 1 := groups_one' gp fun i hi => by
    rw [hs _ _ (by omega) hi]; exact groups_one hg h1 (by omega) hi
  have h3 := groups_pos gp hm
  have hl : (treeL m bs bs.length).length = m - 1 := by omega
  refine ⟨treeL m bs bs.length, ?_, by simp [joinsB, h2]⟩
  rw [← hl]
  refine mem_ext ?_ fun x hx => ⟨Nat.zero_le _, treeL_lt x hx⟩
  exact List.Pairwise.filter _ (List.pairwise_lt_range)
/-- with so few islands there are enough bridges -/
theorem few_le {m : Nat} {bs : List Br} (hg : Good m bs) (h1 : groupsN m bs ≤ 1) : m - 1 ≤ bs.length := by
  have := groups_ge hg; omega
theorem flat_cnt {α : Type} {f : Nat → List α} {N : Nat} : ∀ (l : List Nat), (∀ x, (f x).length ≤ N) → (l.flatMap f).length ≤ l.length * N
  | [], _ => by simp
  | x :: l, h => by
    have h1 := flat_cnt l h
    have h2 := h x
    rw [List.flatMap_cons, List.length_append, List.length_cons, Nat.succ_mul]
    omega
theorem ext_cnt (n : Nat) : ∀ r a, (ext n r a).length ≤ n ^ r
  | 0, a => by simp [ext]
  | r + 1, a => by
    rw [ext_s]
    refine Nat.le_trans (flat_cnt _ fun k => by rw [List.length_map]; exact ext_cnt n r (k + 1)) ?_
    rw [upI_len, Nat.pow_succ, Nat.mul_comm]
    exact Nat.mul_le_mul_left _ (by omega)
/-- the lists that go on from one -/
def comps (n : Nat) (begin : List Nat) (r a : Nat) : List (List Nat) := (ext n r a).map (begin ++ ·)
def partJ (n : Nat) (begin : List Nat) (r a c : Nat) : List (List Nat) := (upI a c).flatMap fun k => comps n (begin ++ [k]) r (k + 1)
theorem comps_0 (n : Nat) (begin : List Nat) (a : Nat) : comps n begin 0 a = [begin] := by simp [comps, ext]
theorem comps_s (n : Nat) (begin : List Nat) (r a : Nat) : comps n begin (r + 1) a = partJ n begin r a (n - a) := by
  unfold comps partJ
  rw [ext_s, List.map_flatMap]
  congr 1
  funext k
  rw [List.map_map]
  unfold comps
  refine List.map_congr_left fun t _ => ?_
  simp
theorem partJ_0 (n : Nat) (begin : List Nat) (r a : Nat) : partJ n begin r a 0 = [] := rfl
theorem partJ_s (n : Nat) (begin : List Nat) (r a c : Nat) : partJ n begin r a (c + 1) = partJ n begin r a c ++ comps n (begin ++ [a + c]) r (a + c + 1) := by
  unfold partJ
  rw [upI_snoc, List.flatMap_append]; simp
theorem partJ_cnt (n : Nat) (begin : List Nat) (r a c : Nat) (h : c ≤ n) : (partJ n begin r a c).length ≤ n ^ (r + 1) := by
  unfold partJ
  refine Nat.le_trans (flat_cnt _ fun k => by unfold comps; rw [List.length_map]; exact ext_cnt n r (k + 1)) ?_
  rw [upI_len, Nat.pow_succ, Nat.mul_comm]
  exact Nat.mul_le_mul_left _ h
theorem comps_in {n : Nat} {begin : List Nat} {r a : Nat} {l : List Nat} (h : l ∈ comps n begin r a) : ∃ t, l = begin ++ t ∧ t.length = r ∧ ∀ x ∈ t, a ≤ x ∧ x < n := by
  obtain ⟨t, ht, rfl⟩ := List.mem_map.1 h
  exact ⟨t, rfl, ext_len ht⟩
theorem best_part (m : Nat) (bs : List Br) (n : Nat) (begin : List Nat) (r a c : Nat) : bestJ m bs (partJ n begin r a (c + 1)) = combJ (bestJ m bs (partJ n begin r a c)) (bestJ m bs (comps n (begin ++ [a + c]) r (a + c + 1))) := by
  conv => lhs; unfold bestJ
  rw [partJ_s, List.foldl_append, best_app]; rfl
theorem best_part_no {m : Nat} {bs : List Br} {begin : List Nat} {r a c : Nat} (h : ∀ l ∈ comps bs.length (begin ++ [a + c]) r (a + c + 1), joinsB m bs l = false) : bestJ m bs (partJ bs.length begin r a (c + 1)) = bestJ m bs (partJ bs.length begin r a c) := by
  conv => lhs; unfold bestJ
  rw [partJ_s, List.foldl_append, best_none h]; rfl
/-- what is told of the best: none has the toll -1 -/
def leastJ (st : Int × List (List Nat)) : Int := if st.2 = [] then -1 else st.1
end Go.Proofs.Ytihdhgkknfohaad
