/- Rows of numbers told by a function; the rows of the ways, plain. -/
import Derived.Test.YtnmeomcoeknjoabCo
namespace Go.Proofs.Ytnmeomcoeknjoab
set_option linter.unusedVariables false
set_option maxRecDepth 100000
open Go.RowKit

def fnL (n : Nat) (h : Nat → Nat) : List Int := (List.range n).map fun p => (h p : Int)
theorem fnL_len (n : Nat) (h : Nat → Nat) : (fnL n h).length = n := by simp [fnL]
theorem fnL_gt {n : Nat} {h : Nat → Nat} {j : Nat} (hj : j < n) : gt (fnL n h) j = (h j : Int) := by simp [gt, fnL, hj]
theorem fnL_set (n : Nat) (h : Nat → Nat) (j x : Nat) : (fnL n h).set j (x : Int) = fnL n (fun p => if p = j then x else h p) := by
  apply List.ext_getElem
  · simp [fnL]
  · intro i h1 h2
    have hi : i < n := by rw [fnL_len] at h2; exact h2
    simp only [fnL, List.getElem_set, List.getElem_map, List.getElem_range]
    by_cases e : j = i
    · subst e; simp
    · rw [if_neg e, if_neg (fun e2 => e e2.symm)]
theorem fnL_zero (n : Nat) : List.replicate n 0 = fnL n (fun _ => 0) := by
  apply List.ext_getElem
  · simp [fnL]
  · intro i h1 h2
    simp [fnL]
theorem fnL_congr {n : Nat} {h h' : Nat → Nat} (e : ∀ j, j < n → h j = h' j) : fnL n h = fnL n h' := by
  unfold fnL
  refine List.map_congr_left fun j hj => ?_
  rw [e j (List.mem_range.1 hj)]
/-- the row of place p when the places from lo on, m of them, have been added, and of the next one the first q numbers -/
def rowR (s : ByteArray) (L p lo m q : Nat) : Nat → Nat
  | 0 => if p = 0 then 1 else 0
  | k + 1 => sumN (waysK s L k) lo (if k < q then m + 1 else m)
theorem rowR_start (s : ByteArray) (L p lo n : Nat) : fnL n (rowR s L p lo 0 0) = if p = 0 then fnL n (fun k => if k = 0 then 1 else 0) else fnL n (fun _ => 0) := by
  split
  · rename_i h
    refine fnL_congr fun j _ => ?_
    cases j with
    | zero => simp [rowR, h]
    | succ j => simp [rowR, sumN]
  · rename_i h
    refine fnL_congr fun j _ => ?_
    cases j with
    | zero => simp [rowR, h]
    | succ j => simp [rowR, sumN]
theorem rowR_at (s : ByteArray) (L p lo m q : Nat) : rowR s L p lo m q (q + 1) = sumN (waysK s L q) lo m := by simp [rowR]
theorem rowR_put (s : ByteArray) (L p lo m q : Nat) (x : Nat) (hx : x = sumN (waysK s L q) lo m + waysK s L q (lo + m)) : (fun k => if k = q + 1 then x else rowR s L p lo m q k) = rowR s L p lo m (q + 1) := by
  funext k
  by_cases h : k = q + 1
  · subst h; rw [if_pos rfl, hx]
    show _ = sumN (waysK s L q) lo (if q < q + 1 then m + 1 else m)
    rw [if_pos (Nat.lt_succ_self q)]; rfl
  · rw [if_neg h]
    cases k with
    | zero => rfl
    | succ k =>
      show sumN (waysK s L k) lo (if k < q then m + 1 else m) = sumN (waysK s L k) lo (if k < q + 1 then m + 1 else m)
      have : (k < q) = (k < q + 1) := propext ⟨fun h => by omega, fun h2 => by omega⟩
      simp only [this]
theorem rowR_next (s : ByteArray) (L p lo m n : Nat) : fnL (n + 1) (rowR s L p lo m n) = fnL (n + 1) (rowR s L p lo (m + 1) 0) := by
  refine fnL_congr fun j hj => ?_
  cases j with
  | zero => rfl
  | succ k =>
    show sumN (waysK s L k) lo (if k < n then m + 1 else m) = sumN (waysK s L k) lo (if k < 0 then m + 1 + 1 else m + 1)
    rw [if_pos (by omega), if_neg (by omega)]
theorem rowR_end (s : ByteArray) (L p : Nat) (hs : stand s p = true) : rowR s L p (p - L) (p - (p - L)) 0 = fun k => waysK s L k p := by
  funext k
  cases k with
  | zero => rfl
  | succ k =>
    show sumN (waysK s L k) (p - L) (if k < 0 then _ else _) = if stand s p = true ∧ 0 < p then _ else _
    rw [if_neg (by omega)]
    by_cases hp : 0 < p
    · rw [if_pos ⟨hs, hp⟩]
    · rw [if_neg (fun h => hp h.2)]
      have : p = 0 := by omega
      subst this
      simp [sumN]
theorem rowR_no (s : ByteArray) (L p : Nat) (hs : stand s p = false) (n lo : Nat) : fnL n (rowR s L p lo 0 0) = fnL n (fun k => waysK s L k p) := by
  refine fnL_congr fun j _ => ?_
  cases j with
  | zero => rfl
  | succ k =>
    show sumN _ _ (if k < 0 then _ else _) = if stand s p = true ∧ 0 < p then _ else _
    rw [if_neg (by omega), if_neg (by rw [hs]; exact fun h => Bool.noConfusion h.1)]
    rfl
theorem rowR_big (s : ByteArray) (L p lo m q : Nat) (h1 : lo + m ≤ 41) : sumN (waysK s L q) lo m ≤ 2199023255552 := by
  have := sumN_pow (g := waysK s L q) (a := lo) (n := m) fun i _ => waysK_le s L q _
  exact Nat.le_trans (Nat.le_add_right _ _) (Nat.le_trans this (Nat.le_trans (Nat.pow_le_pow_right (by decide) h1) (by decide)))

/-- the rows that lie at the blocks bk; those from i on are not made yet -/
def rowsV (bk : Nat → Nat) (n i : Nat) : List Value := (List.range n).map fun p => if p < i then .slice (some ⟨bk p, 0, none⟩) n n else .slice none 0 0
theorem rowsV_len (bk : Nat → Nat) (n i : Nat) : (rowsV bk n i).length = n := by simp [rowsV]
theorem rowsV_at {bk : Nat → Nat} {n i j : Nat} (hj : j < n) (hi : j < i) : (rowsV bk n i)[j]? = some (.slice (some ⟨bk j, 0, none⟩) n n) := by simp [rowsV, hj, hi]
theorem rowsV_zero (bk : Nat → Nat) (n : Nat) : List.replicate n (Value.slice none 0 0) = rowsV bk n 0 := by
  apply List.ext_getElem
  · simp [rowsV]
  · intro i h1 h2
    simp [rowsV]
theorem rowsV_set (bk : Nat → Nat) (n i c : Nat) : (rowsV bk n i).set i (.slice (some ⟨c, 0, none⟩) n n) = rowsV (fun p => if p = i then c else bk p) n (i + 1) := by
  apply List.ext_getElem
  · simp [rowsV]
  · intro j h1 h2
    simp only [rowsV, List.getElem_set, List.getElem_map, List.getElem_range]
    by_cases e : i = j
    · subst e; simp
    · have e3 : (if j = i then c else bk j) = bk j := if_neg (fun e2 => e e2.symm)
      have : (j < i) = (j < i + 1) := propext ⟨fun h => by omega, fun h => by omega⟩
      simp only [if_neg e, e3, this]
end Go.Proofs.Ytnmeomcoeknjoab
