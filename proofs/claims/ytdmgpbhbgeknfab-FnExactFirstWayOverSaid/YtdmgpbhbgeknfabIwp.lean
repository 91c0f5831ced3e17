/- The first way without an island twice that has a toll: plain. -/
import Derived.Test.YtdmgpbhbgeknfabIq
namespace Go.Proofs.Ytdmgpbhbgeknfab
set_option linter.unusedVariables false
open Go.RowKit

/-- the first k from a place on, c of them, at which f tells something -/
def scanW (f : Nat → Option (List Nat)) : Nat → Nat → Option (List Nat)
  | _, 0 => none
  | k, c + 1 => match f k with
    | some r => some r
    | none => scanW f (k + 1) c
theorem scanW_s (f : Nat → Option (List Nat)) (a c : Nat) : scanW f a (c + 1) = match f a with | some r => some r | none => scanW f (a + 1) c := rfl
theorem scanW_at {f : Nat → Option (List Nat)} {k c : Nat} {r : List Nat} (h : f k = some r) : scanW f k (c + 1) = some r := by rw [scanW_s, h]
theorem scanW_no {f : Nat → Option (List Nat)} {k c : Nat} (h : f k = none) : scanW f k (c + 1) = scanW f (k + 1) c := by rw [scanW_s, h]
theorem scanW_none {f : Nat → Option (List Nat)} : ∀ (c a : Nat), (∀ k, f k = none) → scanW f a c = none
  | 0, _, _ => rfl
  | c + 1, a, h => by
    rw [scanW_no (h a)]
    exact scanW_none c (a + 1) h
theorem scanW_has {f : Nat → Option (List Nat)} {k : Nat} {r : List Nat} (hr : f k = some r) : ∀ (c a : Nat), a ≤ k → k < a + c → ∃ t, scanW f a c = some t
  | 0, a, h1, h2 => absurd h2 (by omega)
  | c + 1, a, h1, h2 => by
    cases hf : f a with
    | some t => exact ⟨t, scanW_at hf⟩
    | none =>
      rw [scanW_no hf]
      by_cases e : a = k
      · subst e; rw [hf] at hr; cases hr
      · exact scanW_has hr c (a + 1) (by omega) (by omega)
theorem scanW_in {f : Nat → Option (List Nat)} {P : List Nat → Prop} (h : ∀ k r, f k = some r → P r) : ∀ (c a : Nat) (r : List Nat), scanW f a c = some r → P r
  | 0, _, _, h1 => by cases h1
  | c + 1, a, r, h1 => by
    cases hf : f a with
    | some t => rw [scanW_at hf] at h1; cases h1; exact h a _ hf
    | none => rw [scanW_no hf] at h1; exact scanW_in h c (a + 1) r h1
/-- the first way that goes on from one, which is at an island, to another for just what is left -/
def wayF (m : Nat) (bs : List Br) (dst : Nat) : Nat → List Nat → Nat → Int → Option (List Nat)
  | 0, way, at_, left => if at_ = dst ∧ left = 0 then some way else none
  | f + 1, way, at_, left => if at_ = dst ∧ left = 0 then some way else scanW (fun next => if left < ltl bs at_ next ∨ next ∈ way then none else wayF m bs dst f (way ++ [next]) next (left - ltl bs at_ next)) 0 m
theorem wayF_end {m : Nat} {bs : List Br} {dst f : Nat} {way : List Nat} : wayF m bs dst f way dst 0 = some way := by
  cases f <;> simp [wayF]
theorem wayF_0 {m : Nat} {bs : List Br} {dst : Nat} {way : List Nat} {at_ : Nat} {left : Int} (h : ¬ (at_ = dst ∧ left = 0)) : wayF m bs dst 0 way at_ left = none := if_neg h
theorem wayF_s {m : Nat} {bs : List Br} {dst f : Nat} {way : List Nat} {at_ : Nat} {left : Int} (h : ¬ (at_ = dst ∧ left = 0)) : wayF m bs dst (f + 1) way at_ left = scanW (fun next => if left < ltl bs at_ next ∨ next ∈ way then none else wayF m bs dst f (way ++ [next]) next (left - ltl bs at_ next)) 0 m := if_neg h
/-- once past it one can't come there again -/
theorem wayF_dead {m : Nat} {bs : List Br} {dst : Nat} : ∀ {f : Nat} {way : List Nat} {at_ : Nat} {left : Int}, dst ∈ way → ¬ (at_ = dst ∧ left = 0) → wayF m bs dst f way at_ left = none
  | 0, way, at_, left, _, h => wayF_0 h
  | f + 1, way, at_, left, hdst, h => by
    rw [wayF_s h]
    refine scanW_none _ _ fun next => ?_
    split
    · rfl
    · rename_i hn
      refine wayF_dead (f := f) (List.mem_append_left _ hdst) fun e => hn (.inr ?_)
      rw [e.1]; exact hdst
theorem wayF_len {m : Nat} {bs : List Br} {dst : Nat} : ∀ {f : Nat} {way : List Nat} {at_ : Nat} {left : Int} {r : List Nat}, wayF m bs dst f way at_ left = some r → r.length ≤ way.length + f ∧ 0 < r.length + (if way = [] then 1 else 0)
  | 0, way, at_, left, r, h => by
    unfold wayF at h
    split at h
    · cases h; refine ⟨Nat.le_refl _, ?_⟩
      cases way <;> simp
    · cases h
  | f + 1, way, at_, left, r, h => by
    by_cases hc : at_ = dst ∧ left = 0
    · unfold wayF at h; rw [if_pos hc] at h
      cases h; refine ⟨by omega, ?_⟩
      cases way <;> simp
    · rw [wayF_s hc] at h
      have := scanW_in (P := fun r => r.length ≤ way.length + (f + 1) ∧ 0 < r.length) (fun k r hr => by
        split at hr
        · cases hr
        · have h1 := wayF_len (f := f) hr
          have h3 : way ++ [k] ≠ [] := by simp
          rw [if_neg h3] at h1
          simp only [List.length_append, List.length_cons, List.length_nil] at h1
          omega) _ _ _ h
      omega
theorem wayF_has {m : Nat} {bs : List Br} (hg : Good m bs) {dst : Nat} (hdst : dst < m) : ∀ {f : Nat} {way : List Nat} {at_ : Nat} {l : List Nat} {T : Int}, Pt bs dst (at_ :: l) T → (way ++ l).Nodup → l.length ≤ f → ∃ r, wayF m bs dst f way at_ T = some r
  | 0, way, at_, [], T, h, _, _ => by cases h; exact ⟨_, wayF_end⟩
  | 0, way, at_, y :: l, T, h, _, hf => absurd hf (by simp)
  | f + 1, way, at_, [], T, h, _, _ => by cases h; exact ⟨_, wayF_end⟩
  | f + 1, way, at_, y :: l, T, h, hn, hf => by
    cases h with
    | @cons _ _ _ T' hl hp =>
      by_cases hc : at_ = dst ∧ ltl bs at_ y + T' = 0
      · rw [hc.2, hc.1]; exact ⟨_, wayF_end⟩
      · rw [wayF_s hc]
        have hT := hp.pos hg
        have hy : y ∉ way := fun hy => by
          have := (List.nodup_append.1 hn).2.2 y hy y (List.mem_cons_self ..)
          exact this rfl
        obtain ⟨r, hr⟩ := wayF_has hg hdst (f := f) (way := way ++ [y]) hp (by simpa using hn) (by simpa using hf)
        refine scanW_has (k := y) (r := r) ?_ m 0 (Nat.zero_le _) (by have := hp.lt hg hdst y (List.mem_cons_self ..); omega)
        rw [if_neg (by rintro (h1 | h1); omega; exact hy h1), show ltl bs at_ y + T' - ltl bs at_ y = T' by omega]
        exact hr
/-- where there is a way at all the search finds one with the least toll -/
theorem wayF_least {m : Nat} {bs : List Br} (hg : Good m bs) (hm : m ≤ 7) {i j : Nat} (hi : i < m) (hj : j < m) (h : same m bs i j = true) : ∃ r, wayF m bs j 6 [i] i (gt (tl m bs false j) i) = some r := by
  obtain ⟨l, hp, hn⟩ := tl_path hg hm hj hi h
  refine wayF_has hg hj hp (by simpa using hn) ?_
  have := nodup_le hn (hp.lt hg hj)
  simp only [List.length_cons] at this
  omega
/-- when all islands are on a way none is left -/
theorem all_on {m : Nat} {way : List Nat} (hn : way.Nodup) (hl : ∀ x ∈ way, x < m) (h : m ≤ way.length) {x : Nat} (hx : x < m) : x ∈ way := by
  apply Classical.byContradiction
  intro hno
  have := nodup_le (m := m) (l := x :: way) (List.nodup_cons.2 ⟨hno, hn⟩) (fun y hy => by
    rcases List.mem_cons.1 hy with rfl | hy
    · exact hx
    · exact hl y hy)
  simp only [List.length_cons] at this
  omega
end Go.Proofs.Ytdmgpbhbgeknfab
