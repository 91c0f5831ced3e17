/- The game of two players: who wins; spec.fgWinning, fgWins, DoesRightWin, WinningMove. -/
import Derived.Test.YteoggpollgkfiaaDoorPot
namespace Go.Proofs.YteoggpollgkfiaaDoor
set_option linter.unusedVariables false
open Go.RowKit

/-- whether the frog on a stone is one of the player to the right (r), or to the left -/
def own (s : ByteArray) (i : Nat) (r : Bool) : Bool := decide (sg s i = 114) == r
def firstI (l : List Nat) (p : Nat → Bool) : Int := match l.find? p with | some i => (i : Int) | none => -1
theorem firstI_cons (a : Nat) (l : List Nat) (p : Nat → Bool) : firstI (a :: l) p = if p a = true then (a : Int) else firstI l p := by
  unfold firstI
  rw [List.find?_cons]
  cases h : p a <;> simp
theorem firstI_congr {p q : Nat → Bool} : ∀ {l : List Nat}, (∀ i ∈ l, p i = q i) → firstI l p = firstI l q
  | [], _ => rfl
  | a :: l, h => by
    rw [firstI_cons, firstI_cons, h a (by simp), firstI_congr (l := l) fun i hi => h i (by simp [hi])]
theorem firstI_hit {p : Nat → Bool} : ∀ {l : List Nat} {k : Nat}, k < l.length → (∀ j, j < k → p (l.getD j 0) = false) → p (l.getD k 0) = true → firstI l p = (l.getD k 0 : Int)
  | [], k, hk, _, _ => by simp at hk
  | a :: l, 0, _, _, h2 => by
    rw [firstI_cons]
    have : p a = true := h2
    rw [if_pos this]; rfl
  | a :: l, k + 1, hk, h, h2 => by
    have h0 : p a = false := h 0 (by omega)
    rw [firstI_cons, h0, if_neg (by decide)]
    exact firstI_hit (l := l) (k := k) (by simpa using hk) (fun j hj => h (j + 1) (by omega)) h2
theorem firstI_miss {p : Nat → Bool} : ∀ {l : List Nat}, (∀ j, j < l.length → p (l.getD j 0) = false) → firstI l p = -1
  | [], _ => rfl
  | a :: l, h => by
    have h0 : p a = false := h 0 (by simp)
    rw [firstI_cons, h0, if_neg (by decide)]
    exact firstI_miss (l := l) fun j hj => h (j + 1) (by simpa using hj)
def winF : Nat → ByteArray → Bool → Int
  | 0, _, _ => -1
  | n + 1, s, r => firstI (moves s) (fun i => own s i r && !decide (0 ≤ winF n (goes s i) (!r)))
/-- the first move by which the player whose turn it is wins, or -1 -/
def win (s : ByteArray) (r : Bool) : Int := winF (82 - pot s).toNat s r
def winP (s : ByteArray) (r : Bool) (i : Nat) : Bool := own s i r && !decide (0 ≤ win (goes s i) (!r))
theorem win_eq {s : ByteArray} (hp : isPd s = true) (r : Bool) : win s r = firstI (moves s) (winP s r) := by
  obtain ⟨m, hm⟩ : ∃ m, (82 - pot s).toNat = m + 1 := ⟨(81 - pot s).toNat, by have := pot_bd hp; omega⟩
  unfold win
  rw [hm]
  show firstI _ _ = _
  refine firstI_congr fun i hi => ?_
  have h1 := pot_goes hp hi
  have h2 : (82 - pot (goes s i)).toNat = m := by omega
  unfold winP win
  rw [h2]
theorem winP_own {s : ByteArray} {r : Bool} {i : Nat} (h : own s i r = true) : winP s r i = !decide (0 ≤ win (goes s i) (!r)) := by simp [winP, h]
theorem winP_not {s : ByteArray} {r : Bool} {i : Nat} (h : own s i r = false) : winP s r i = false := by simp [winP, h]
theorem until_succ {l : List Nat} {p : Nat → Bool} {k : Nat} (h : ∀ j, j < k → p (l.getD j 0) = false) (h2 : p (l.getD k 0) = false) : ∀ j, j < k + 1 → p (l.getD j 0) = false := by
  intro j hj
  by_cases e : j = k
  · subst e; exact h2
  · exact h j (by omega)
theorem goes_fall {s : ByteArray} (hp : isPd s = true) {i n : Nat} (hi : i ∈ moves s) (hn : (82 - pot s).toNat ≤ n + 1) : (82 - pot (goes s i)).toNat ≤ n := by
  have h1 := pot_goes hp hi
  omega
theorem movesT {q : ByteArray} {i : Nat} (h : i ∈ moves q) : ∃ t : Nat, toI q i = t ∧ mvB q i t = goes q i := by
  obtain ⟨t, ht⟩ := Int.eq_ofNat_of_zero_le (mvTo_mem q _ i h).2
  exact ⟨t, ht, by unfold goes; rw [ht]; rfl⟩
theorem goesP {q : ByteArray} (hq : isPd q = true) {i : Nat} (h : i ∈ moves q) : isPd (goes q i) = true ∧ (goes q i).size = q.size :=
  ⟨isPd_mv hq (mvTo_mem q _ i h).1 _, mvB_size _ _ _⟩
theorem Ints.formA {w : World} {B : Nat} {v : Value} {zs : List Int} (h : Ints w B v zs) :
    ∃ a n cap, v = .slice a n cap ∧ n = zs.length ∧ ∀ w', Below w.heap.size w w' → ∀ j, j < n → ∃ g, a = some ⟨g, 0, none⟩ ∧ w'.cell? ⟨g, j, none⟩ = some (.int .i64 (gt zs j)) := by
  by_cases hp : 0 < zs.length
  · obtain ⟨g, n, cap, rfl, hn, _, _, _, hg, hc⟩ := h.form hp
    exact ⟨_, _, _, rfl, hn, fun w' hb j hj => ⟨g, rfl, (hb.cell hg).trans (hc j hj)⟩⟩
  · rcases h.2 with ⟨rfl, h0⟩ | ⟨g, cap, cur, rfl, _⟩
    · exact ⟨_, _, _, rfl, h0.symm, fun w' hb j hj => absurd hj (Nat.not_lt_zero _)⟩
    · exact ⟨_, _, _, rfl, rfl, fun w' hb j hj => absurd hj (by omega)⟩
theorem gt_asI {l : List Nat} {k : Nat} (h : k < l.length) : gt (asI l) k = ((l.getD k 0 : Nat) : Int) := by
  unfold gt asI
  rw [List.getD_eq_getElem?_getD, List.getElem?_map, List.getD_eq_getElem?_getD, List.getElem?_eq_getElem h]; rfl


def drwV (s : ByteArray) (f : Bool) : Value := if isPd s then .tuple #[.bool (decide (0 ≤ win s f) == f), .bool true] else .tuple #[.bool false, .bool false]
theorem drwV_no {s : ByteArray} {f : Bool} (h : isPd s = false) : drwV s f = .tuple #[.bool false, .bool false] := by simp [drwV, h]
theorem drwV_yes {s : ByteArray} {f : Bool} (h : isPd s = true) : drwV s f = .tuple #[.bool (decide (0 ≤ win s f) == f), .bool true] := by simp [drwV, h]
theorem drwV_form (s : ByteArray) (f : Bool) : ∃ x y, drwV s f = .tuple #[.bool x, .bool y] := by unfold drwV; split <;> exact ⟨_, _, rfl⟩
def wmV (s : ByteArray) (r : Bool) : Value := if isPd s then (if 0 ≤ win s r then .tuple #[.int .i64 (win s r), .bool true] else .tuple #[.int .i64 0, .bool false]) else .tuple #[.int .i64 0, .bool false]
theorem wmV_no {s : ByteArray} {r : Bool} (h : isPd s = false) : wmV s r = .tuple #[.int .i64 0, .bool false] := by simp [wmV, h]
theorem wmV_yes {s : ByteArray} {r : Bool} (h : isPd s = true) (h2 : 0 ≤ win s r) : wmV s r = .tuple #[.int .i64 (win s r), .bool true] := by simp [wmV, h, h2]
theorem wmV_none {s : ByteArray} {r : Bool} (h : isPd s = true) (h2 : ¬ 0 ≤ win s r) : wmV s r = .tuple #[.int .i64 0, .bool false] := by simp [wmV, h, h2]
theorem wmV_form (s : ByteArray) (r : Bool) : ∃ x y, wmV s r = .tuple #[.int .i64 x, .bool y] := by
  unfold wmV; split
  · split <;> exact ⟨_, _, rfl⟩
  · exact ⟨_, _, rfl⟩
end Go.Proofs.YteoggpollgkfiaaDoor
