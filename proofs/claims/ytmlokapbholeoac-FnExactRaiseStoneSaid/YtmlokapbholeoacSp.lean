/- StepsLeft, both sides; impl.stepsAt, impl.partFrom, riverPart's sum; spec.siSum. -/
import Derived.Test.YtmlokapbholeoacSv
import Derived.Laws.Rows
import Derived.Laws.Tables
import Derived.Below
import Derived.Laws.CopyOwn
import Derived.RangeFuncBox
namespace Go.Proofs.Ytmlokapbholeoac
set_option linter.unusedVariables false
open Go.RowKit

set_option maxHeartbeats 400000 in
/-- the digit of the place k + 1 -/
theorem stepsAt (s : ByteArray) (p : Int) (k : Nat) (w : World) (hp : p = (k : Int) + 1) (hd : AllD s) (hk : k < s.size) (hs : s.size ≤ 1048576) :
    Calls Try.prog 39 #[.string s, .int .i64 p] w fun e w' => e = .returned (.int .i64 (dD s k)) ∧ w = w' := by
  subst hp
  have hb := dD_byte hd hk
  have hl := dD_le hd k
  have e1 : ((k : Int) + 1 - 1) = (k : Int) := by omega
  have e2 : ∀ c : Nat, 48 + (c : Int) - 48 = c := fun c => by omega
  generalize hx : s[k].toNat = x at *
  generalize dD s k = c at *
  have HW := Lib.hid (e2 c)
  have hk' : (k : Int) < s.size := by omega
  subst hb
  clear hd e2
  go_enter Try.func39, Try.ntmps39
  go_wp2
  go_ret
  exact ⟨ret_v (congrArg (Value.int .i64) HW.out), rfl⟩
/-- a part as Go has it: its sum, its first place -/
def rp (a b : Int) : Value := .agg #[.int .i64 a, .int .i64 b]
def stepsV (s : ByteArray) : Value := if isSt s then .tuple #[.int .i64 (sumD s 0 s.size), .bool true] else .tuple #[.int .i64 0, .bool false]
theorem stepsV_no {s : ByteArray} (h : isSt s = false) : stepsV s = .tuple #[.int .i64 0, .bool false] := by simp [stepsV, h]
theorem stepsV_yes {s : ByteArray} (h : isSt s = true) : stepsV s = .tuple #[.int .i64 (sumD s 0 s.size), .bool true] := by simp [stepsV, h]
theorem stepsV_form (a : ByteArray) : ∃ s x, stepsV a = .tuple #[.int .i64 s, .bool x] := by
  unfold stepsV; split <;> exact ⟨_, _, rfl⟩
end Go.Proofs.Ytmlokapbholeoac
