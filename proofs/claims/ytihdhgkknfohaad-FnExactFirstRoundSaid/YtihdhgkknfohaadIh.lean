/- GroupOf, CountGroups: spec. -/
import Derived.Test.YtihdhgkknfohaadIg
namespace Go.Proofs.Ytihdhgkknfohaad
set_option linter.unusedVariables false
open Go.RowKit

theorem ints_nil {w : World} {B : Nat} : Ints w B (.slice none 0 0) (idx []) := World.ownsRow_nil _ _ _ _
def grpZ (n : Int) (bs : List Br) (i : Int) : List Nat := if askI n bs i then groupL n.toNat bs i.toNat else []
theorem grpZ_no {n : Int} {bs : List Br} {i : Int} (h : askI n bs i = false) : grpZ n bs i = [] := by simp [grpZ, h]
theorem grpZ_yes {m k : Nat} {bs : List Br} (h : askI m bs k = true) : grpZ m bs k = groupL m bs k := by simp [grpZ, h]
theorem grpZ_len (n : Int) (bs : List Br) (i : Int) : (grpZ n bs i).length ≤ 7 := by
  cases h : askI n bs i
  · rw [grpZ_no h]; simp
  · obtain ⟨m, k, rfl, rfl, _, h2, _⟩ := askI_in h
    rw [grpZ_yes h]
    unfold groupL
    exact Nat.le_trans (List.length_filter_le _ _) (by simpa using h2)
/-- the first k islands' part of a group -/
def grpTo (m : Nat) (bs : List Br) (i k : Nat) : List Nat := (List.range k).filter fun j => same m bs j i
theorem grpTo_s (m : Nat) (bs : List Br) (i k : Nat) : grpTo m bs i (k + 1) = grpTo m bs i k ++ if same m bs k i then [k] else [] := by
  unfold grpTo
  rw [List.range_succ, List.filter_append]
  cases h : same m bs k i <;> simp [h]
theorem grpTo_len (m : Nat) (bs : List Br) (i k : Nat) : (grpTo m bs i k).length ≤ k := by
  unfold grpTo; exact Nat.le_trans (List.length_filter_le _ _) (by simp)
theorem idx_app (l : List Nat) (x : Nat) : idx l ++ [(x : Int)] = idx (l ++ [x]) := by simp [idx]

def cgV (n : Int) (bs : List Br) : Value := if areIs n bs then .tuple #[.int .i64 (groupsN n.toNat bs), .bool true] else .tuple #[.int .i64 0, .bool false]
theorem cgV_no {n : Int} {bs : List Br} (h : areIs n bs = false) : cgV n bs = .tuple #[.int .i64 0, .bool false] := by simp [cgV, h]
theorem cgV_yes {m : Nat} {bs : List Br} (h : areIs m bs = true) : cgV m bs = .tuple #[.int .i64 (groupsN m bs), .bool true] := by simp [cgV, h]
theorem cgV_form (n : Int) (bs : List Br) : ∃ x y, cgV n bs = .tuple #[.int .i64 x, .bool y] := by
  unfold cgV; split <;> exact ⟨_, _, rfl⟩
end Go.Proofs.Ytihdhgkknfohaad
