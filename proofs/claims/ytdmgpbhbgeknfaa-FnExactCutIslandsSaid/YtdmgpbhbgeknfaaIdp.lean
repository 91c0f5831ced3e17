/- Rows of bridges: many cells at once, shrunk, cleared (in part out of XId). -/
import Derived.Test.YtdmgpbhbgeknfaaIa
import Derived.Deep.RegionLaw
import Derived.Lib.SliceRun
import Derived.Deep.RegionHeld3
namespace Go.Proofs.Ytdmgpbhbgeknfaa
set_option linter.unusedVariables false
open Go.RowKit

def putL (xs : List Value) (o : Nat) : List Value → List Value
  | [] => xs
  | v :: r => putL (xs.set o v) (o + 1) r
theorem putL_len (vs : List Value) : ∀ (xs : List Value) (o : Nat), (putL xs o vs).length = xs.length := by
  induction vs with
  | nil => intro xs o; rfl
  | cons v r ih => intro xs o; unfold putL; rw [ih, List.length_set]
theorem putL_eq (vs : List Value) : ∀ (xs : List Value) (o : Nat), o + vs.length ≤ xs.length → putL xs o vs = xs.take o ++ vs ++ xs.drop (o + vs.length) := by
  induction vs with
  | nil => intro xs o h; simp [putL]
  | cons v r ih =>
    intro xs o h
    rw [List.length_cons] at h
    unfold putL
    rw [ih _ _ (by rw [List.length_set]; omega), List.take_succ_eq_append_getElem (by rw [List.length_set]; omega), List.getElem_set_self, List.take_set_of_le (Nat.le_refl _), List.drop_set_of_lt (by omega), List.length_cons]
    simp [Nat.add_assoc, Nat.add_comm 1]
theorem row_cells {B g n cap : Nat} {e : TypeId} {s : Nat} (vs : List Value) : ∀ {w : World} {xs : List Value} (o : Nat), w.ownsRow B e s (.slice (some ⟨g, 0, none⟩) n cap) n xs →
    (w.setCells g o vs).ownsRow B e s (.slice (some ⟨g, 0, none⟩) n cap) n (putL xs o vs) ∧ w.grownBy (w.setCells g o vs) (some g) := by
  induction vs with
  | nil => intro w xs o h; exact ⟨h, World.grownBy.refl _ _⟩
  | cons v r ih =>
    intro w xs o h
    have h1 := World.ownsRow.stored h o v
    have h2 := ih (o + 1) h1.1
    exact ⟨h2.1, h1.2.trans h2.2⟩
theorem row_shrink {w : World} {B g n n' cap : Nat} {e : TypeId} {s : Nat} {xs : List Value} (h : w.ownsRow B e s (.slice (some ⟨g, 0, none⟩) n cap) n xs) (hn : n' ≤ n) :
    w.ownsRow B e s (.slice (some ⟨g, 0, none⟩) n' cap) n' (xs.take (n' * s)) := by
  have hm : n' * s ≤ n * s := Nat.mul_le_mul_right s hn
  rcases h.2 with ⟨e1, _⟩ | ⟨g', cap', cur, e1, hb, hg, hnc, hcm, hcs, ht⟩
  · cases e1
  · injection e1 with e1 _ e2
    subst e2
    refine ⟨by rw [List.length_take, h.1]; omega, .inr ⟨g', cap, cur, by rw [e1], hb, hg, by omega, hcm, hcs, ?_⟩⟩
    rw [← ht, List.take_take]
    congr 1
    omega
theorem bcs_take (bs : List Br) (k : Nat) (h : k ≤ bs.length) : (bcs bs).take (k * 3) = bcs (bs.take k) := by
  conv => lhs; rw [← List.take_append_drop k bs, bcs_app]
  rw [List.take_append_of_le_length (by rw [bcs_len]; simp; omega), List.take_of_length_le (by rw [bcs_len]; simp; omega)]
theorem Try.zeroBr : ∀ w, (zeroValue 34).run Try.prog w = .ok (.agg #[.int .i64 0, .int .i64 0, .int .i64 0]) w := by
  obtain ⟨i0, hi, hz0, -, -⟩ := info_parts Try.infoBr
  intro w
  simp [zeroValue, typeInfo, hi, hz0]
/-- so many bridges of noughts, as cells -/
def zeros (n : Nat) : List Value := bcs (List.replicate n (0, 0, 0))
theorem zeros_len (n : Nat) : (zeros n).length = n * 3 := by simp [zeros, bcs_len]
theorem zeros_0 : (Builtin.zeroCells (Value.agg #[.int .i64 0, .int .i64 0, .int .i64 0]).cells 0).toList = zeros 0 := by kernel_rfl
theorem zeros_1 : (Builtin.zeroCells (Value.agg #[.int .i64 0, .int .i64 0, .int .i64 0]).cells 1).toList = zeros 1 := by kernel_rfl
theorem zeros_2 : (Builtin.zeroCells (Value.agg #[.int .i64 0, .int .i64 0, .int .i64 0]).cells 2).toList = zeros 2 := by kernel_rfl
theorem zeros_3 : (Builtin.zeroCells (Value.agg #[.int .i64 0, .int .i64 0, .int .i64 0]).cells 3).toList = zeros 3 := by kernel_rfl
theorem zeros_4 : (Builtin.zeroCells (Value.agg #[.int .i64 0, .int .i64 0, .int .i64 0]).cells 4).toList = zeros 4 := by kernel_rfl
theorem zeros_5 : (Builtin.zeroCells (Value.agg #[.int .i64 0, .int .i64 0, .int .i64 0]).cells 5).toList = zeros 5 := by kernel_rfl
theorem zeros_6 : (Builtin.zeroCells (Value.agg #[.int .i64 0, .int .i64 0, .int .i64 0]).cells 6).toList = zeros 6 := by kernel_rfl
theorem zeros_7 : (Builtin.zeroCells (Value.agg #[.int .i64 0, .int .i64 0, .int .i64 0]).cells 7).toList = zeros 7 := by kernel_rfl
theorem zeros_8 : (Builtin.zeroCells (Value.agg #[.int .i64 0, .int .i64 0, .int .i64 0]).cells 8).toList = zeros 8 := by kernel_rfl
theorem zeros_9 : (Builtin.zeroCells (Value.agg #[.int .i64 0, .int .i64 0, .int .i64 0]).cells 9).toList = zeros 9 := by kernel_rfl
theorem zeros_10 : (Builtin.zeroCells (Value.agg #[.int .i64 0, .int .i64 0, .int .i64 0]).cells 10).toList = zeros 10 := by kernel_rfl
theorem zeros_11 : (Builtin.zeroCells (Value.agg #[.int .i64 0, .int .i64 0, .int .i64 0]).cells 11).toList = zeros 11 := by kernel_rfl
theorem zeros_12 : (Builtin.zeroCells (Value.agg #[.int .i64 0, .int .i64 0, .int .i64 0]).cells 12).toList = zeros 12 := by kernel_rfl
theorem zeros_13 : (Builtin.zeroCells (Value.agg #[.int .i64 0, .int .i64 0, .int .i64 0]).cells 13).toList = zeros 13 := by kernel_rfl
theorem zeros_14 : (Builtin.zeroCells (Value.agg #[.int .i64 0, .int .i64 0, .int .i64 0]).cells 14).toList = zeros 14 := by kernel_rfl
theorem zeros_eq (n : Nat) (h : n ≤ 14) : (Builtin.zeroCells (Value.agg #[.int .i64 0, .int .i64 0, .int .i64 0]).cells n).toList = zeros n := by
  have : n = 0 ∨ n = 1 ∨ n = 2 ∨ n = 3 ∨ n = 4 ∨ n = 5 ∨ n = 6 ∨ n = 7 ∨ n = 8 ∨ n = 9 ∨ n = 10 ∨ n = 11 ∨ n = 12 ∨ n = 13 ∨ n = 14 := by omega
  rcases this with rfl | rfl | rfl | rfl | rfl | rfl | rfl | rfl | rfl | rfl | rfl | rfl | rfl | rfl | rfl
  · exact zeros_0
  · exact zeros_1
  · exact zeros_2
  · exact zeros_3
  · exact zeros_4
  · exact zeros_5
  · exact zeros_6
  · exact zeros_7
  · exact zeros_8
  · exact zeros_9
  · exact zeros_10
  · exact zeros_11
  · exact zeros_12
  · exact zeros_13
  · exact zeros_14
theorem clear_many (w : World) (ty : TypeId) (b o n c : Nat) (hn : n ≤ 14) (hc : ∀ j, j < n * 3 → (w.cell? ⟨b, o + j, none⟩).isSome = true) (hf : ∀ j, j < n * 3 → w.frozen? ⟨b, o + j, none⟩ = false) :
    (Builtin.clear_ #[28] ty #[.slice (some ⟨b, o, none⟩) n c]).run Try.prog w = .ok (.tuple #[]) (w.setCells b o (zeros n)) := by
  have hst := run_storeCells_cells (P := Try.prog) b o (zeros n) 0 w (by rw [zeros_len]; simpa using hc) (by rw [zeros_len]; simpa using hf) (by
    intro v hv
    simp only [zeros, bcs, List.mem_flatMap] at hv
    obtain ⟨y, _, hy⟩ := hv
    simp at hy
    rcases hy with rfl | rfl | rfl <;> rfl)
  simp only [Nat.add_zero] at hst
  cases n with
  | zero =>
    have e : zeros 0 = [] := rfl
    rw [e]
    simp [Builtin.clear_, run_underlying Try.underlying28, World.setCells]
  | succ n => simp [Builtin.clear_, run_underlying Try.underlying28, Try.zeroBr, zeros_eq (n + 1) hn, hst]
end Go.Proofs.Ytdmgpbhbgeknfaa
