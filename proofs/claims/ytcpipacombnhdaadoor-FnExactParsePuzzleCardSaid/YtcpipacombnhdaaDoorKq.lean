/- Puzzles, plain: what a clue is, what it tells of a river, rivers by number, solutions. -/
import Derived.Test.YtcpipacombnhdaaDoorKl
import Derived.Test.YtcpipacombnhdaaDoorStand
namespace Go.Proofs.YtcpipacombnhdaaDoor
set_option linter.unusedVariables false
open Go.RowKit

/-- the bounds of A and B in a clue of a kind -/
def bds (n k : Int) : Int × Int × Int × Int :=
  if k = 0 ∨ k = 5 then (0, 0, 0, n) else if k = 1 then (1, n, 0, 1) else if k = 2 then (1, 9, 0, 9) else if k = 3 then (0, 0, 1, 9) else (1, 9, 0, 256)
/-- c is a clue of rivers of n places -/
def isCl (n : Int) (c : Br) : Bool := inB c.1 0 5 && (inB c.2.1 (bds n c.1).1 (bds n c.1).2.1 && inB c.2.2 (bds n c.1).2.2.1 (bds n c.1).2.2.2)
def clOK (n : Int) (c : Br) : Bool := inB n 1 8 && isCl n c
def isPz (n : Int) (cs : List Br) : Bool := inB n 1 8 && (decide (cs.length ≤ 6) && cs.all (isCl n))
theorem inB_iff {n lo hi : Int} : inB n lo hi = true ↔ lo ≤ n ∧ n ≤ hi := by simp [inB]
theorem isPz_iff {n : Int} {cs : List Br} : isPz n cs = true ↔ 1 ≤ n ∧ n ≤ 8 ∧ cs.length ≤ 6 ∧ ∀ c ∈ cs, isCl n c = true := by
  simp [isPz, inB_iff, and_assoc]
theorem isPz_out {n : Int} {cs : List Br} (h : n < 1 ∨ 8 < n) : isPz n cs = false := by
  cases hb : isPz n cs
  · rfl
  · have := isPz_iff.1 hb; omega
theorem isPz_long {n : Int} {cs : List Br} (h : 6 < cs.length) : isPz n cs = false := by
  cases hb : isPz n cs
  · rfl
  · have := isPz_iff.1 hb; omega
theorem isPz_bad {n : Int} {cs : List Br} {j : Nat} (hj : j < cs.length) (h : isCl n (gb cs j) = false) : isPz n cs = false := by
  cases hb : isPz n cs
  · rfl
  · have := (isPz_iff.1 hb).2.2.2 _ (gb_mem hj); rw [h] at this; cases this
theorem isPz_all {n : Int} {cs : List Br} (h : 1 ≤ n ∧ n ≤ 8) (hl : cs.length ≤ 6) (ha : ∀ j, j < cs.length → isCl n (gb cs j) = true) : isPz n cs = true :=
  isPz_iff.2 ⟨h.1, h.2, hl, fun c hc => by obtain ⟨j, hj, rfl⟩ := mem_gb hc; exact ha j hj⟩
/-- what is known of a clue -/
theorem isCl_in {n : Int} {c : Br} (h : isCl n c = true) : 0 ≤ c.1 ∧ c.1 ≤ 5 ∧ (bds n c.1).1 ≤ c.2.1 ∧ c.2.1 ≤ (bds n c.1).2.1 ∧ (bds n c.1).2.2.1 ≤ c.2.2 ∧ c.2.2 ≤ (bds n c.1).2.2.2 := by
  simp only [isCl, Bool.and_eq_true, inB_iff] at h
  omega
theorem isCl_num {n : Int} {c : Br} (hn : 1 ≤ n ∧ n ≤ 8) (h : isCl n c = true) : 0 ≤ c.1 ∧ c.1 ≤ 5 ∧ 0 ≤ c.2.1 ∧ c.2.1 ≤ 9 ∧ 0 ≤ c.2.2 ∧ c.2.2 ≤ 256 := by
  have := isCl_in h
  unfold bds at this
  repeat' split at this
  all_goals (dsimp only at this; omega)
/-- with leaps: what kinds 2 and 4 have -/
theorem isCl_leap {n : Int} {c : Br} (h : isCl n c = true) (hk : c.1 = 2 ∨ c.1 = 4) : 1 ≤ c.2.1 ∧ c.2.1 ≤ 9 := by
  have := isCl_in h
  unfold bds at this
  rcases hk with e | e <;> rw [e] at this <;> simp at this <;> omega
theorem isCl_place {n : Int} {c : Br} (h : isCl n c = true) (hk : c.1 = 1) : 1 ≤ c.2.1 ∧ c.2.1 ≤ n := by
  have := isCl_in h
  unfold bds at this
  rw [hk] at this; simp at this; omega

/-- the river of n places whose stones are the ones of a number -/
def sgB (b : Bool) : UInt8 := if b then 111 else 46
def rvL (n k : Nat) : List UInt8 := (List.range n).map fun i => sgB (decide (k / 2 ^ (n - 1 - i) % 2 = 1))
def rvN (n k : Nat) : ByteArray := ⟨(rvL n k).toArray⟩
theorem rvL_len (n k : Nat) : (rvL n k).length = n := by simp [rvL]
theorem rvN_size (n k : Nat) : (rvN n k).size = n := by simp [rvN, ByteArray.size, rvL]
theorem rvN_rv {n k : Nat} (h : 1 ≤ n ∧ n ≤ 8) : isRv (rvN n k) = true := by
  have hs := rvN_size n k
  simp only [isRv, Bool.and_eq_true, decide_eq_true_eq, List.all_eq_true]
  refine ⟨⟨by omega, by omega⟩, fun c hc => ?_⟩
  simp only [rvN, rvL, List.mem_map] at hc
  obtain ⟨i, _, rfl⟩ := hc
  unfold sgB; split <;> rfl
theorem rvL_at {n k i : Nat} (h : i < n) : (rvL n k)[i]? = some (sgB (decide (k / 2 ^ (n - 1 - i) % 2 = 1))) := by simp [rvL, h]
/-- the lower digits of a number, as spec writes them from the last place on -/
def rvT (n k j : Nat) : List UInt8 := (rvL n k).drop (n - j)
theorem rvT_0 (n k : Nat) : rvT n k 0 = [] := by unfold rvT; rw [List.drop_eq_nil_of_le]; rw [rvL_len]; omega
theorem rvT_n (n k : Nat) : rvT n k n = rvL n k := by simp [rvT]
theorem rvT_succ {n k j : Nat} (h : j < n) : rvT n k (j + 1) = sgB (decide (k / 2 ^ j % 2 = 1)) :: rvT n k j := by
  unfold rvT
  have h1 : n - (j + 1) < (rvL n k).length := by rw [rvL_len]; omega
  rw [List.drop_eq_getElem_cons h1]
  have e : n - (j + 1) + 1 = n - j := by omega
  rw [e]
  congr 1
  have := rvL_at (n := n) (k := k) (i := n - (j + 1)) (by omega)
  rw [List.getElem?_eq_getElem h1] at this
  injection this with this
  rw [this, show n - 1 - (n - (j + 1)) = j from by omega]
end Go.Proofs.YtcpipacombnhdaaDoor
