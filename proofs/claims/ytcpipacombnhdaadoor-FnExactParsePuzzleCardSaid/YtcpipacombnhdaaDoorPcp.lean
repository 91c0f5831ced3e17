/- What text is a corner's, plain; spec.ParseCorner. -/
import Derived.Test.YtcpipacombnhdaaDoorRdd
import Derived.Test.YtcpipacombnhdaaDoorCtx
namespace Go.Proofs.YtcpipacombnhdaaDoor
set_option linter.unusedVariables false
open Go.RowKit

theorem dec_len3 {n : Nat} (h : n ≤ 100) : (Lib.decDigits n).length ≤ 3 := by
  by_cases h1 : n < 10
  · rw [dec_lone h1]; omega
  · rw [dig_step h1, List.length_append, List.length_singleton]
    by_cases h2 : n / 10 < 10
    · rw [dec_lone h2]; omega
    · rw [dig_step h2, List.length_append, List.length_singleton, dec_lone (by omega)]; omega
def isC (s : ByteArray) : Bool := match spc 120 s.data.toList with
  | [u, v] => decide (s.size ≤ 7) && isCn (rdW u) (rdW v)
  | _ => false
def cpr (s : ByteArray) : Int × Int := match spc 120 s.data.toList with
  | [u, v] => (rdW u, rdW v)
  | _ => (0, 0)
def pcV (s : ByteArray) : Value := if isC s then .tuple #[.agg #[.int .i64 (cpr s).1, .int .i64 (cpr s).2], .bool true] else .tuple #[.agg #[.int .i64 0, .int .i64 0], .bool false]
theorem pcV_no {s : ByteArray} (h : isC s = false) : pcV s = .tuple #[.agg #[.int .i64 0, .int .i64 0], .bool false] := by simp [pcV, h]
theorem pcV_yes {s : ByteArray} (h : isC s = true) : pcV s = .tuple #[.agg #[.int .i64 (cpr s).1, .int .i64 (cpr s).2], .bool true] := by simp [pcV, h]
theorem pcV_form (s : ByteArray) : ∃ x y b, pcV s = .tuple #[.agg #[.int .i64 x, .int .i64 y], .bool b] := by unfold pcV; split <;> exact ⟨_, _, _, rfl⟩
theorem ba_eq {a b : ByteArray} (h : a.data.toList = b.data.toList) : a = b := by
  cases a; cases b
  congr 1
  exact Array.toList_inj.1 h
theorem spc_ctx (a b : Nat) : spc 120 (ctx (a : Int) (b : Int)) = [Lib.decDigits a, Lib.decDigits b] := by
  unfold ctx
  rw [Int.toNat_natCast, Int.toNat_natCast, List.append_assoc, List.singleton_append, spc_app _ _ _ (dec_not a (by decide)), spc_word _ _ (dec_not b (by decide))]
theorem isC_of {s : ByteArray} {a b : Nat} (h : isCn (a : Int) (b : Int) = true) (e : bs (ctx (a : Int) (b : Int)) = s) : isC s = true ∧ cpr s = ((a : Int), (b : Int)) := by
  have hin := isCn_in h
  have hd : s.data.toList = ctx (a : Int) (b : Int) := by rw [← e]; simp [bs]
  have ra := rdW_dec (n := a) (by omega)
  have rb := rdW_dec (n := b) (by omega)
  have la := dec_len3 (n := a) (by omega)
  have lb := dec_len3 (n := b) (by omega)
  have hs : s.size ≤ 7 := by
    rw [← e, bs_size]
    unfold ctx
    simp only [List.length_append, List.length_singleton, Int.toNat_natCast]
    omega
  unfold isC cpr
  rw [hd, spc_ctx]
  simp only [ra, rb, h, decide_eq_true hs, Bool.and_self, and_self]
theorem isC_in {s : ByteArray} (h : isC s = true) : ∃ a b : Nat, isCn (a : Int) (b : Int) = true ∧ bs (ctx (a : Int) (b : Int)) = s ∧ cpr s = ((a : Int), (b : Int)) := by
  unfold isC at h
  have hj := spc_join 120 s.data.toList
  unfold cpr
  split at h
  · rename_i u v e
    rw [e] at hj
    simp only [Bool.and_eq_true, decide_eq_true_eq] at h
    have hin := isCn_in h.2
    have hu := rdW_canon (w := u) (by omega)
    have hv := rdW_canon (w := v) (by omega)
    refine ⟨(rdW u).toNat, (rdW v).toNat, ?_, ?_, ?_⟩
    · rw [Int.toNat_of_nonneg (by omega), Int.toNat_of_nonneg (by omega)]; exact h.2
    · apply ba_eq
      rw [← hj]
      simp only [bs, ctx, Int.toNat_natCast]
      rw [← hu, ← hv]
      simp [Lib.join]
    · rw [Int.toNat_of_nonneg (by omega), Int.toNat_of_nonneg (by omega)]
  · cases h
end Go.Proofs.YtcpipacombnhdaaDoor
