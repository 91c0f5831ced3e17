/- Lists of planks that are joined, in order: the first of so many that are long enough (spec), and the next one (impl): plain. -/
import Derived.Test.YtimbpfenpbkckaaJn
namespace Go.Proofs.Ytimbpfenpbkckaa
set_option linter.unusedVariables false
open Go.RowKit

/-- the first k from a place on, c of them, at which f tells something -/
def scan (f : Nat → Option (List Nat)) : Nat → Nat → Option (List Nat)
  | _, 0 => none
  | k, c + 1 => match f k with
    | some r => some r
    | none => scan f (k + 1) c
/-- the first list of so many indices from a place on, below n, of which the wood g is enough -/
def joinF (n : Nat) (g : Nat → Int) : Nat → Int → Nat → Option (List Nat)
  | 0, need, _ => if need ≤ 0 then some [] else none
  | m + 1, need, from_ => scan (fun k => (joinF n g m (need - g k) (k + 1)).map (k :: ·)) from_ (n - from_)
theorem joinF_0 (n : Nat) (g : Nat → Int) (need : Int) (a : Nat) : joinF n g 0 need a = if need ≤ 0 then some [] else none := rfl
theorem joinF_s (n : Nat) (g : Nat → Int) (m : Nat) (need : Int) (a : Nat) : joinF n g (m + 1) need a = scan (fun k => (joinF n g m (need - g k) (k + 1)).map (k :: ·)) a (n - a) := rfl
theorem scan_s (f : Nat → Option (List Nat)) (a c : Nat) : scan f a (c + 1) = match f a with | some r => some r | none => scan f (a + 1) c := rfl
theorem scan_none {f : Nat → Option (List Nat)} : ∀ (c a : Nat), (∀ k, a ≤ k → f k = none) → scan f a c = none
  | 0, _, _ => rfl
  | c + 1, a, h => by
    unfold scan; rw [h a (Nat.le_refl _)]
    exact scan_none c (a + 1) fun k hk => h k (by omega)
theorem joinF_none (n : Nat) (g : Nat → Int) : ∀ (m : Nat) (need : Int) (a : Nat), n < a + m → 1 ≤ m → joinF n g m need a = none
  | 0, _, _, _, h => absurd h (by omega)
  | m + 1, need, a, h, _ => by
    rw [joinF_s]
    rcases Nat.eq_zero_or_pos m with e | e
    · subst e
      rw [show n - a = 0 by omega]; rfl
    · refine scan_none _ _ fun k hk => ?_
      rw [joinF_none n g m _ (k + 1) (by omega) e]; rfl
theorem joinF_len (n : Nat) (g : Nat → Int) : ∀ (m : Nat) (need : Int) (a : Nat) (r : List Nat), joinF n g m need a = some r → r.length = m
  | 0, need, a, r, h => by
    rw [joinF_0] at h; split at h
    · cases h; rfl
    · cases h
  | m + 1, need, a, r, h => by
    rw [joinF_s] at h
    have : ∀ (c b : Nat), scan (fun k => (joinF n g m (need - g k) (k + 1)).map (k :: ·)) b c = some r → r.length = m + 1 := by
      intro c
      induction c with
      | zero => intro b h; cases h
      | succ c ih =>
        intro b h
        unfold scan at h
        split at h
        · rename_i r' hr
          cases h
          cases hj : joinF n g m (need - g b) (b + 1) with
          | none => rw [hj] at hr; cases hr
          | some t =>
            rw [hj] at hr
            cases hr
            simp [joinF_len n g m _ _ t hj]
        · exact ih _ h
    exact this _ _ h
theorem joinF_lt (n : Nat) (g : Nat → Int) : ∀ (m : Nat) (need : Int) (a : Nat) (r : List Nat), joinF n g m need a = some r → ∀ x ∈ r, x < n
  | 0, need, a, r, h => by
    rw [joinF_0] at h; split at h
    · cases h; simp
    · cases h
  | m + 1, need, a, r, h => by
    rw [joinF_s] at h
    have : ∀ (c b : Nat), b + c ≤ n → scan (fun k => (joinF n g m (need - g k) (k + 1)).map (k :: ·)) b c = some r → ∀ x ∈ r, x < n := by
      intro c
      induction c with
      | zero => intro b _ h; cases h
      | succ c ih =>
        intro b hb h
        unfold scan at h
        split at h
        · rename_i r' hr
          cases h
          cases hj : joinF n g m (need - g b) (b + 1) with
          | none => rw [hj] at hr; cases hr
          | some t =>
            rw [hj] at hr
            cases hr
            intro x hx
            rcases List.mem_cons.1 hx with rfl | hx
            · omega
            · exact joinF_lt n g m _ _ t hj x hx
        · exact ih _ (by omega) h
    rcases Nat.lt_or_ge a n with ha | ha
    · exact this _ _ (by omega) h
    · rw [show n - a = 0 by omega] at h; cases h

/-- the indices from a place on -/
def ups (a : Nat) : Nat → List Nat
  | 0 => []
  | c + 1 => a :: ups (a + 1) c
theorem ups_len (a c : Nat) : (ups a c).length = c := by
  induction c generalizing a with
  | zero => rfl
  | succ c ih => simp [ups, ih]
theorem ups_get (a c j : Nat) (h : j < c) : (ups a c).getD j 0 = a + j := by
  induction c generalizing a j with
  | zero => omega
  | succ c ih =>
    cases j with
    | zero => simp [ups]
    | succ j =>
      have := ih (a + 1) j (by omega)
      simp only [ups, List.getD_cons_succ]
      rw [this]; omega
theorem ups_lt {a c : Nat} : ∀ x ∈ ups a c, x < a + c := by
  induction c generalizing a with
  | zero => simp [ups]
  | succ c ih =>
    intro x hx
    rcases List.mem_cons.1 hx with rfl | hx
    · omega
    · have := ih x hx; omega
theorem ups_range (c : Nat) : List.range c = ups 0 c := by
  apply List.ext_getElem
  · simp [ups_len]
  · intro i h1 h2
    have h3 : i < c := by simpa using h1
    have := ups_get 0 c i h3
    rw [List.getD_eq_getElem?_getD, List.getElem?_eq_getElem h2] at this
    simp at this
    simp [this]
/-- the search that goes on at a list -/
def resume (n : Nat) (g : Nat → Int) : List Nat → Int → Option (List Nat)
  | [], need => if need ≤ 0 then some [] else none
  | k :: t, need => match resume n g t (need - g k) with
    | some r => some (k :: r)
    | none => scan (fun i => (joinF n g t.length (need - g i) (i + 1)).map (i :: ·)) (k + 1) (n - (k + 1))
theorem resume_ups (n : Nat) (g : Nat → Int) : ∀ (c a : Nat) (need : Int), a + c ≤ n → resume n g (ups a c) need = joinF n g c need a
  | 0, _, _, _ => rfl
  | c + 1, a, need, h => by
    show resume n g (a :: ups (a + 1) c) need = _
    rw [joinF_s, show n - a = (n - (a + 1)) + 1 by omega]
    rw [scan_s]
    unfold resume
    rw [resume_ups n g c (a + 1) _ (by omega), ups_len]
    cases joinF n g c (need - g a) (a + 1) <;> rfl
/-- the next list -/
def nextS (n : Nat) : List Nat → Option (List Nat)
  | [] => none
  | k :: t => match nextS n t with
    | some s => some (k :: s)
    | none => if t.length + 1 ≤ n - (k + 1) then some (ups (k + 1) (t.length + 1)) else none
theorem nextS_len (n : Nat) : ∀ (l s : List Nat), nextS n l = some s → s.length = l.length
  | [], s, h => by cases h
  | k :: t, s, h => by
    unfold nextS at h
    split at h
    · rename_i s' hs
      cases h
      simp [nextS_len n t s' hs]
    · split at h
      · cases h; simp [ups_len]
      · cases h
theorem nextS_lt (n : Nat) : ∀ (l s : List Nat), (∀ x ∈ l, x < n) → nextS n l = some s → ∀ x ∈ s, x < n
  | [], s, _, h => by cases h
  | k :: t, s, hl, h => by
    unfold nextS at h
    split at h
    · rename_i s' hs
      cases h
      intro x hx
      rcases List.mem_cons.1 hx with rfl | hx
      · exact hl _ (List.mem_cons_self ..)
      · exact nextS_lt n t s' (fun y hy => hl y (List.mem_cons_of_mem _ hy)) hs x hx
    · split at h
      · cases h
        intro x hx
        have := ups_lt x hx; omega
      · cases h
/-- the wood of a list -/
def sumG (g : Nat → Int) : List Nat → Int
  | [] => 0
  | k :: t => g k + sumG g t
theorem resume_hit (n : Nat) (g : Nat → Int) : ∀ (l : List Nat) (need : Int), need ≤ sumG g l → resume n g l need = some l
  | [], need, h => by simp only [sumG] at h; simp [resume, h]
  | k :: t, need, h => by
    simp only [sumG] at h
    unfold resume
    rw [resume_hit n g t (need - g k) (by omega)]
theorem resume_next (n : Nat) (g : Nat → Int) : ∀ (l : List Nat) (need : Int), ¬ need ≤ sumG g l →
    resume n g l need = match nextS n l with | some s => resume n g s need | none => none
  | [], need, h => by
    have h2 : ¬ need ≤ 0 := h
    simp [resume, nextS, h2]
  | k :: t, need, h => by
    have h2 : ¬ need - g k ≤ sumG g t := by simp only [sumG] at h; omega
    have ih := resume_next n g t (need - g k) h2
    unfold nextS
    conv => lhs; unfold resume
    rw [ih]
    cases hs : nextS n t with
    | some s =>
      simp only
      conv => rhs; unfold resume
      rw [nextS_len n t s hs]
    | none =>
      simp only
      by_cases hc : t.length + 1 ≤ n - (k + 1)
      · rw [if_pos hc]
        simp only
        rw [resume_ups n g _ _ _ (by omega), joinF_s]
      · rw [if_neg hc]
        simp only
        rw [← joinF_s]
        exact joinF_none n g _ _ _ (by omega) (by omega)

/-- a number that grows from each list to the next -/
def val : List Nat → Nat
  | [] => 0
  | k :: t => k * 8 ^ t.length + val t
theorem val_lt : ∀ (l : List Nat), (∀ x ∈ l, x < 8) → val l < 8 ^ l.length
  | [], _ => by simp [val]
  | k :: t, h => by
    have h1 := val_lt t fun x hx => h x (List.mem_cons_of_mem _ hx)
    have h2 := h k (List.mem_cons_self ..)
    simp only [val, List.length_cons, Nat.pow_succ]
    have := Nat.mul_le_mul_right (8 ^ t.length) (show k ≤ 7 by omega)
    omega
theorem nextS_val (n : Nat) (hn : n ≤ 8) : ∀ (l s : List Nat), (∀ x ∈ l, x < n) → nextS n l = some s → val l < val s
  | [], s, _, h => by cases h
  | k :: t, s, hl, h => by
    have ht : ∀ x ∈ t, x < n := fun y hy => hl y (List.mem_cons_of_mem _ hy)
    unfold nextS at h
    split at h
    · rename_i s' hs
      cases h
      have := nextS_val n hn t s' ht hs
      simp only [val]
      rw [nextS_len n t s' hs]; omega
    · split at h
      · cases h
        have h1 := val_lt t fun x hx => by have := ht x hx; omega
        show val (k :: t) < val ((k + 1) :: ups (k + 1 + 1) t.length)
        simp only [val, ups_len]
        have : (k + 1) * 8 ^ t.length = k * 8 ^ t.length + 8 ^ t.length := Nat.succ_mul _ _
        omega
      · cases h

/-- how impl.advance finds it: the last place with room -/
theorem next_none (n : Nat) : ∀ (l : List Nat), (∀ j, j < l.length → n - (l.getD j 0 + 1) < l.length - j) → nextS n l = none
  | [], _ => rfl
  | k :: t, h => by
    have ih := next_none n t fun j hj => by
      have := h (j + 1) (by simpa using hj)
      simpa using this
    have h0 := h 0 (by simp)
    unfold nextS
    rw [ih]
    simp at h0
    simp only
    rw [if_neg (by omega)]
theorem next_at (n : Nat) : ∀ (l : List Nat) (i : Nat), i < l.length → l.length - i ≤ n - (l.getD i 0 + 1) → (∀ j, i < j → j < l.length → n - (l.getD j 0 + 1) < l.length - j) →
    nextS n l = some (l.take i ++ ups (l.getD i 0 + 1) (l.length - i))
  | [], i, h, _, _ => by simp at h
  | k :: t, 0, _, h, h2 => by
    have ih := next_none n t fun j hj => by
      have := h2 (j + 1) (by omega) (by simpa using hj)
      simpa using this
    unfold nextS
    rw [ih]
    simp at h
    simp only
    rw [if_pos (by omega)]
    simp
  | k :: t, i + 1, hi, h, h2 => by
    have ih := next_at n t i (by simpa using hi) (by simpa using h) fun j hj hj2 => by
      have := h2 (j + 1) (by omega) (by simpa using hj2)
      simpa using this
    unfold nextS
    rw [ih]
    simp
end Go.Proofs.Ytimbpfenpbkckaa
