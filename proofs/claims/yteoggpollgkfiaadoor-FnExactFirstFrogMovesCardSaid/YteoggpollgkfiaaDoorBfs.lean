/- The ponds that moves lead to, in the order of the search: plain lists, and a bound on how many there are. -/
import Derived.Test.YteoggpollgkfiaaDoorPlP
namespace Go.Proofs.YteoggpollgkfiaaDoor
set_option linter.unusedVariables false
open Go.RowKit

/-- distinct numbers below N are at most N -/
theorem nodup_len : ∀ (N : Nat) (l : List Nat), l.Nodup → (∀ x ∈ l, x < N) → l.length ≤ N
  | 0, l, _, h => by
    cases l with
    | nil => simp
    | cons a l => have := h a (List.mem_cons_self ..); omega
  | N + 1, l, hn, h => by
    have ih := nodup_len N (l.erase N) (hn.erase N) (fun x hx => by
      have h1 := (List.Nodup.mem_erase_iff hn).1 hx
      have := h x h1.2
      have := h1.1
      omega)
    have := List.le_length_erase (a := N) (l := l)
    omega
def enc1 (c : UInt8) : Nat := if c = 114 then 1 else if c = 108 then 2 else 3
def encL : List UInt8 → Nat
  | [] => 0
  | c :: l => enc1 c + 4 * encL l
theorem encL_lt : ∀ l : List UInt8, encL l < 4 ^ l.length
  | [] => by simp [encL]
  | c :: l => by
    have := encL_lt l
    have h1 : enc1 c ≤ 3 := by unfold enc1; split; omega; split <;> omega
    simp only [encL, List.length_cons, Nat.pow_succ]
    omega
theorem enc1_inj {a b : UInt8} (ha : psgn a = true) (hb : psgn b = true) (h : enc1 a = enc1 b) : a = b := by
  simp only [psgn, Bool.or_eq_true, beq_iff_eq] at ha hb
  rcases ha with (rfl | rfl) | rfl <;> rcases hb with (rfl | rfl) | rfl <;> first | rfl | (exact absurd h (by decide))
theorem encL_inj : ∀ a b : List UInt8, (∀ c ∈ a, psgn c = true) → (∀ c ∈ b, psgn c = true) → a.length = b.length → encL a = encL b → a = b
  | [], [], _, _, _, _ => rfl
  | x :: a, y :: b, ha, hb, hl, he => by
    have h1 : enc1 x ≤ 3 := by unfold enc1; split; omega; split <;> omega
    have h2 : enc1 y ≤ 3 := by unfold enc1; split; omega; split <;> omega
    simp only [encL] at he
    have e1 : enc1 x = enc1 y := by omega
    have e2 : encL a = encL b := by omega
    rw [enc1_inj (ha x (List.mem_cons_self ..)) (hb y (List.mem_cons_self ..)) e1, encL_inj a b (fun c hc => ha c (List.mem_cons_of_mem _ hc)) (fun c hc => hb c (List.mem_cons_of_mem _ hc)) (by simpa using hl) e2]
  | [], _ :: _, _, _, h, _ => by simp at h
  | _ :: _, [], _, _, h, _ => by simp at h

/-- a pond more, behind the others, if it is new -/
def memB (L : List ByteArray) (q : ByteArray) : Bool := L.any fun x => decide (x = q)
theorem memB_iff {L : List ByteArray} {q : ByteArray} : memB L q = true ↔ q ∈ L := by
  unfold memB
  rw [List.any_eq_true]
  exact ⟨fun ⟨x, h1, h2⟩ => by have := of_decide_eq_true h2; subst this; exact h1, fun h => ⟨q, h, by simp⟩⟩
theorem memB_no {L : List ByteArray} {q : ByteArray} (h : ¬ q ∈ L) : memB L q = false := by
  rw [Bool.eq_false_iff]; exact fun e => h (memB_iff.1 e)
theorem memB_snoc (L : List ByteArray) (q x : ByteArray) : (decide (x = q) || memB L x) = memB (L ++ [q]) x := by
  unfold memB
  rw [List.any_append, Bool.or_comm]
  simp [eq_comm]
def addN (L : List ByteArray) (q : ByteArray) : List ByteArray := if memB L q then L else L ++ [q]
theorem addN_old {L : List ByteArray} {q : ByteArray} (h : q ∈ L) : addN L q = L := by simp [addN, memB_iff.2 h]
theorem addN_new {L : List ByteArray} {q : ByteArray} (h : ¬ q ∈ L) : addN L q = L ++ [q] := by simp [addN, memB_no h]
/-- all are ponds of n stones, none twice -/
def Pds (n : Nat) (L : List ByteArray) : Prop := L.Nodup ∧ ∀ q ∈ L, isPd q = true ∧ q.size = n
theorem Pds.addN {n : Nat} {L : List ByteArray} {q : ByteArray} (h : Pds n L) (hq : isPd q = true) (hs : q.size = n) : Pds n (addN L q) := by
  by_cases e : q ∈ L
  · rw [addN_old e]; exact h
  · rw [addN_new e]
    refine ⟨?_, ?_⟩
    · rw [List.nodup_append]
      refine ⟨h.1, by simp, fun a ha b hb => ?_⟩
      simp at hb; subst hb
      intro e2; subst e2; exact e ha
    · intro x hx
      rcases List.mem_append.1 hx with h1 | h1
      · exact h.2 x h1
      · simp at h1; subst h1; exact ⟨hq, hs⟩
theorem Pds.len {n : Nat} {L : List ByteArray} (h : Pds n L) (hn : n ≤ 9) : L.length ≤ 262144 := by
  have e : ∀ q ∈ L, ∀ c ∈ q.data.toList, psgn c = true := fun q hq => by
    have := (h.2 q hq).1
    simp only [isPd, Bool.and_eq_true, List.all_eq_true] at this
    exact this.2
  have hm : (L.map fun q => encL q.data.toList).Nodup := by
    unfold List.Nodup
    rw [List.pairwise_map]
    refine List.Pairwise.imp_of_mem ?_ h.1
    intro a b ha hb hne he
    apply hne
    apply ByteArray.ext
    apply Array.toList_inj.1
    refine encL_inj _ _ (e a ha) (e b hb) ?_ he
    have h1 := (h.2 a ha).2
    have h2 := (h.2 b hb).2
    simp only [Array.length_toList]
    exact h1.trans h2.symm
  have hl := nodup_len 262144 _ hm (fun x hx => by
    obtain ⟨q, hq, rfl⟩ := List.mem_map.1 hx
    have h1 := encL_lt q.data.toList
    have h2 : q.data.toList.length ≤ 9 := by have := (h.2 q hq).2; simp only [Array.length_toList]; show q.size ≤ 9; omega
    have h3 : 4 ^ q.data.toList.length ≤ 4 ^ 9 := Nat.pow_le_pow_right (by omega) h2
    omega)
  simpa using hl
/-- the list behind the moves from the first k stones of a pond -/
def exTo (L : List ByteArray) (q : ByteArray) (k : Nat) : List ByteArray := ((moves q).take k).foldl (fun L i => addN L (goes q i)) L
theorem exTo_0 (L : List ByteArray) (q : ByteArray) : exTo L q 0 = L := rfl
theorem exTo_succ {L : List ByteArray} {q : ByteArray} {k : Nat} (h : k < (moves q).length) : exTo L q (k + 1) = addN (exTo L q k) (goes q ((moves q).getD k 0)) := by
  unfold exTo
  rw [List.take_succ_eq_append_getElem h, List.foldl_append]
  simp [h]
def exAll (L : List ByteArray) (q : ByteArray) : List ByteArray := exTo L q (moves q).length
theorem moves_in {q : ByteArray} {i : Nat} (h : i ∈ moves q) : i < q.size ∧ 0 ≤ toI q i := mvTo_mem q _ i h
theorem isPd_goes {q : ByteArray} (hq : isPd q = true) {i : Nat} (h : i ∈ moves q) : isPd (goes q i) = true ∧ (goes q i).size = q.size :=
  ⟨isPd_mv hq (moves_in h).1 _, mvB_size _ _ _⟩
theorem exTo_pds {n : Nat} {L : List ByteArray} {q : ByteArray} (hL : Pds n L) (hq : isPd q = true) (hs : q.size = n) : ∀ k, k ≤ (moves q).length → Pds n (exTo L q k)
  | 0, _ => hL
  | k + 1, h => by
    rw [exTo_succ (by omega)]
    have hm : (moves q).getD k 0 ∈ moves q := by
      rw [List.getD_eq_getElem?_getD, List.getElem?_eq_getElem (by omega)]; exact List.getElem_mem _
    have := isPd_goes hq hm
    exact (exTo_pds hL hq hs k (by omega)).addN this.1 (this.2.trans hs)
theorem addN_pre (L : List ByteArray) (q : ByteArray) : ∃ R, addN L q = L ++ R := by
  by_cases e : q ∈ L
  · exact ⟨[], by rw [addN_old e, List.append_nil]⟩
  · exact ⟨[q], addN_new e⟩
theorem exTo_pre (L : List ByteArray) (q : ByteArray) : ∀ k, k ≤ (moves q).length → ∃ R, exTo L q k = L ++ R
  | 0, _ => ⟨[], by simp [exTo_0]⟩
  | k + 1, h => by
    obtain ⟨R, hR⟩ := exTo_pre L q k (by omega)
    obtain ⟨R2, hR2⟩ := addN_pre (exTo L q k) (goes q ((moves q).getD k 0))
    exact ⟨R ++ R2, by rw [exTo_succ (by omega), hR2, hR, List.append_assoc]⟩
theorem pre_at {L R : List ByteArray} {j : Nat} (h : j < L.length) : (L ++ R).getD j ⟨#[]⟩ = L.getD j ⟨#[]⟩ := by
  rw [List.getD_eq_getElem?_getD, List.getD_eq_getElem?_getD, List.getElem?_append_left h]
/-- the list when the first j ponds have been searched -/
def bfs (s : ByteArray) : Nat → List ByteArray
  | 0 => [s]
  | j + 1 => if j < (bfs s j).length then exAll (bfs s j) ((bfs s j).getD j ⟨#[]⟩) else bfs s j
theorem bfs_succ {s : ByteArray} {j : Nat} (h : j < (bfs s j).length) : bfs s (j + 1) = exAll (bfs s j) ((bfs s j).getD j ⟨#[]⟩) := by simp [bfs, h]
theorem bfs_else {s : ByteArray} {j : Nat} (h : ¬ j < (bfs s j).length) : bfs s (j + 1) = bfs s j := by simp [bfs, h]
theorem bfs_pds {s : ByteArray} (hs : isPd s = true) : ∀ j, Pds s.size (bfs s j)
  | 0 => ⟨by simp [bfs], fun q hq => by simp [bfs] at hq; subst hq; exact ⟨hs, rfl⟩⟩
  | j + 1 => by
    have ih := bfs_pds hs j
    unfold bfs
    split
    · rename_i h
      have hm : (bfs s j).getD j ⟨#[]⟩ ∈ bfs s j := by
        rw [List.getD_eq_getElem?_getD, List.getElem?_eq_getElem h]; exact List.getElem_mem _
      have := ih.2 _ hm
      exact exTo_pds ih this.1 this.2 _ (Nat.le_refl _)
    · exact ih
theorem bfs_head (s : ByteArray) : ∀ j, ∃ R, bfs s j = s :: R
  | 0 => ⟨[], rfl⟩
  | j + 1 => by
    obtain ⟨R, hR⟩ := bfs_head s j
    by_cases h : j < (bfs s j).length
    · obtain ⟨R2, hR2⟩ := exTo_pre (bfs s j) ((bfs s j).getD j ⟨#[]⟩) _ (Nat.le_refl _)
      refine ⟨R ++ R2, ?_⟩
      rw [bfs_succ h]
      unfold exAll
      rw [hR2, hR]; rfl
    · exact ⟨R, by rw [bfs_else h, hR]⟩
theorem bfs_end {s : ByteArray} {j : Nat} (h : ¬ j < (bfs s j).length) : ∀ k, bfs s (j + k) = bfs s j
  | 0 => rfl
  | k + 1 => by
    have ih := bfs_end h k
    show bfs s ((j + k) + 1) = _
    rw [bfs_else (by rw [ih]; omega), ih]
/-- all ponds that moves lead to -/
def reach (s : ByteArray) : List ByteArray := bfs s 262145
theorem reach_at {s : ByteArray} (hs : isPd s = true) {j : Nat} (h : ¬ j < (bfs s j).length) (hj : j ≤ 262145) : bfs s j = reach s := by
  unfold reach
  have := bfs_end h (262145 - j)
  rw [show j + (262145 - j) = 262145 from by omega] at this
  exact this.symm
end Go.Proofs.YteoggpollgkfiaaDoor
