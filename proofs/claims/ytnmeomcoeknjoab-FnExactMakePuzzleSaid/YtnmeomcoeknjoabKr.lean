/- Puzzles, plain: what a clue tells of a river, the rivers that fit, solutions. -/
import Derived.Test.YtnmeomcoeknjoabKq
import Derived.Test.YtnmeomcoeknjoabFew
import Derived.Test.YtnmeomcoeknjoabLL
import Derived.Test.YtnmeomcoeknjoabCci
namespace Go.Proofs.Ytnmeomcoeknjoab
set_option linter.unusedVariables false
open Go.RowKit

/-- how many stones a river has -/
def stc (s : ByteArray) : Nat := s.data.toList.count 111
/-- B of a clue that a river fits, of a kind, with an A -/
def cval (k a : Int) (s : ByteArray) : Int :=
  if k = 0 then (stc s : Int) else if k = 1 then (if stn s a.toNat then 1 else 0) else if k = 2 then max 0 (gt (leftL s a) 0) else if k = 3 then (gapLen s (s.size + 1) : Int) else if k = 4 then (total s a.toNat : Int) else (gapAt s (s.size + 1) : Int)
def cfit (c : Br) (s : ByteArray) : Bool := decide (cval c.1 c.2.1 s = c.2.2)
theorem stc_le (s : ByteArray) : stc s ≤ s.size := by unfold stc; exact List.count_le_length
theorem cval_0 (a : Int) (s : ByteArray) : cval 0 a s = (stc s : Int) := rfl
theorem cval_1 (a : Int) (s : ByteArray) : cval 1 a s = if stn s a.toNat then 1 else 0 := rfl
theorem cval_2 (a : Int) (s : ByteArray) : cval 2 a s = max 0 (gt (leftL s a) 0) := rfl
theorem cval_3 (a : Int) (s : ByteArray) : cval 3 a s = (gapLen s (s.size + 1) : Int) := rfl
theorem cval_4 (a : Int) (s : ByteArray) : cval 4 a s = (total s a.toNat : Int) := rfl
theorem cval_5 (a : Int) (s : ByteArray) : cval 5 a s = (gapAt s (s.size + 1) : Int) := rfl
theorem asked_in {s : ByteArray} {a : Int} (h : isRv s = true) (ha : 1 ≤ a ∧ a ≤ 9) : asked s a = true := by
  simp [asked, h, inB]; omega
/-- the river with so many of its places told -/
def fitAll (cs : List Br) (s : ByteArray) : Bool := cs.all fun c => cfit c s
def solN (n : Nat) (cs : List Br) (m : Nat) : List ByteArray := ((List.range m).map (rvN n)).filter (fitAll cs)
def sols (n : Nat) (cs : List Br) : List ByteArray := solN n cs (2 ^ n)
theorem solN_0 (n : Nat) (cs : List Br) : solN n cs 0 = [] := rfl
theorem solN_yes {n m : Nat} {cs : List Br} (h : fitAll cs (rvN n m) = true) : solN n cs (m + 1) = solN n cs m ++ [rvN n m] := by
  simp [solN, List.range_succ, List.filter_append, h]
theorem solN_no {n m : Nat} {cs : List Br} (h : fitAll cs (rvN n m) = false) : solN n cs (m + 1) = solN n cs m := by
  simp [solN, List.range_succ, List.filter_append, h]
theorem solN_len (n : Nat) (cs : List Br) (m : Nat) : (solN n cs m).length ≤ m := by
  unfold solN
  exact Nat.le_trans (List.length_filter_le _ _) (by simp)
theorem pow_8 {n : Nat} (h : n ≤ 8) : 2 ^ n ≤ 256 := Nat.le_trans (Nat.pow_le_pow_right (by decide) h) (by decide)
theorem sols_len {n : Nat} (cs : List Br) (h : n ≤ 8) : (sols n cs).length ≤ 256 := Nat.le_trans (solN_len _ _ _) (pow_8 h)
theorem sols_mem {n : Nat} {cs : List Br} {s : ByteArray} (h : s ∈ sols n cs) : s.size = n := by
  simp only [sols, solN, List.mem_filter, List.mem_map] at h
  obtain ⟨⟨k, _, rfl⟩, _⟩ := h
  exact rvN_size n k
/-- how many -/
def cntS (n : Nat) (cs : List Br) : Nat := (sols n cs).length
theorem cntS_le {n : Nat} (cs : List Br) (h : n ≤ 8) : cntS n cs ≤ 256 := sols_len cs h
theorem cnt_filter (n : Nat) (cs : List Br) (m : Nat) : (solN n cs m).length = ((List.range m).filter fun k => fitAll cs (rvN n k)).length := by
  unfold solN
  rw [List.filter_map]
  simp [Function.comp_def]
/-- which of the clues fit a river, as a flag for each of the six -/
def fitK (cs : List Br) (s : ByteArray) (k : Nat) : Bool := decide (k < cs.length) && cfit (gb cs k) s
/-- a river of a number fits all that is asked for -/
def askOK (ask f : Nat → Bool) : Bool := (List.range 6).all fun k => !ask k || f k
/-- how many of the first rivers fit all that is asked for -/
def cntA (n : Nat) (cs : List Br) (ask : Nat → Bool) (m : Nat) : Nat := ((List.range m).filter fun k => askOK ask (fitK cs (rvN n k))).length
theorem cntA_yes {n m : Nat} {cs : List Br} {ask : Nat → Bool} (h : askOK ask (fitK cs (rvN n m)) = true) : cntA n cs ask (m + 1) = cntA n cs ask m + 1 := by
  simp [cntA, List.range_succ, List.filter_append, h]
theorem cntA_no {n m : Nat} {cs : List Br} {ask : Nat → Bool} (h : askOK ask (fitK cs (rvN n m)) = false) : cntA n cs ask (m + 1) = cntA n cs ask m := by
  simp [cntA, List.range_succ, List.filter_append, h]
theorem cntA_le (n : Nat) (cs : List Br) (ask : Nat → Bool) (m : Nat) : cntA n cs ask m ≤ m := by
  unfold cntA
  exact Nat.le_trans (List.length_filter_le _ _) (by simp)
/-- the clues that are asked for are those of a list -/
theorem ask_list {cs ds : List Br} {ask : Nat → Bool} (h6 : cs.length ≤ 6) (h1 : ∀ k, ask k = true → k < cs.length ∧ gb cs k ∈ ds) (h2 : ∀ d ∈ ds, ∃ k, ask k = true ∧ gb cs k = d) (s : ByteArray) :
    askOK ask (fitK cs s) = fitAll ds s := by
  rw [Bool.eq_iff_iff]
  simp only [askOK, fitAll, List.all_eq_true, List.mem_range, Bool.or_eq_true, Bool.not_eq_true', fitK, Bool.and_eq_true, decide_eq_true_eq]
  constructor
  · intro h d hd
    obtain ⟨k, hk, rfl⟩ := h2 d hd
    rcases h k (by have := (h1 k hk).1; omega) with e | e
    · rw [hk] at e; cases e
    · exact e.2
  · intro h k hk
    cases ha : ask k
    · exact .inl rfl
    · exact .inr ⟨(h1 k ha).1, h _ (h1 k ha).2⟩
theorem cntA_list {n : Nat} {cs ds : List Br} {ask : Nat → Bool} (h6 : cs.length ≤ 6) (h1 : ∀ k, ask k = true → k < cs.length ∧ gb cs k ∈ ds) (h2 : ∀ d ∈ ds, ∃ k, ask k = true ∧ gb cs k = d) :
    cntA n cs ask (2 ^ n) = cntS n ds := by
  unfold cntA cntS sols
  rw [cnt_filter]
  congr 2
  funext k
  exact ask_list h6 h1 h2 _
/-- the first so many clues -/
def first (m : Nat) (k : Nat) : Bool := decide (k < m)
theorem cntA_first {n m : Nat} {cs : List Br} (h6 : cs.length ≤ 6) (hm : m ≤ cs.length) : cntA n cs (first m) (2 ^ n) = cntS n (cs.take m) := by
  refine cntA_list h6 (fun k hk => ?_) (fun d hd => ?_)
  · have hk' : k < m := by simpa [first] using hk
    refine ⟨by omega, ?_⟩
    rw [show gb cs k = (cs.take m)[k]'(by simp; omega) from by simp [gb, show k < cs.length from by omega]]
    exact List.getElem_mem _
  · obtain ⟨k, hk, rfl⟩ := List.getElem_of_mem hd
    have : k < m := by simp at hk; omega
    exact ⟨k, by simp [first, this], by simp [gb, show k < cs.length from by omega]⟩
end Go.Proofs.Ytnmeomcoeknjoab
