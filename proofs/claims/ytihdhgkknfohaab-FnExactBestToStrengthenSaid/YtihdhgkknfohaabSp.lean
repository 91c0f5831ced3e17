/- StepsLeft, both sides; impl.stepsAt, impl.partFrom, riverPart's sum; spec.siSum. -/
import Derived.Test.YtihdhgkknfohaabSv
import Derived.Laws.Rows
import Derived.Laws.Tables
import Derived.Below
import Derived.Laws.CopyOwn
import Derived.RangeFuncBox
namespace Go.Proofs.Ytihdhgkknfohaab
set_option linter.unusedVariables false
open Go.RowKit

set_option maxHeartbeats 400000 in
/-- the digit of the place k + 1 -/
theorem stepsAt (s : ByteArray) (p : Int) (k : Nat) (w : World) (hp : p = (k : Int) + 1) (hd : AllD s) (hk : k < s.size) (hs : s.size ≤ 1048576) :
    Calls Try.prog 57 #[.string s, .int .i64 p] w fun e w' => e = .returned (.int .i64 (dD s k)) ∧ w = w' := by
  subst hp
  have hb := dD_byte hd hk
  have hl := dD_le hd k
  have e1 : ((k : Int) + 1 - 1) = (k : Int) := by omega
  have e2 : ∀ c : Nat, 48 + (c : Int) - 48 = c := fun c => by omega
  generalize hx : s[k].toNat = x at *
  generalize dD s k = c at *
  have HW := Lib.hid (e2 c)
  have hk' : (k : Int) < s.size := by omega
  subst hb
  clear hd e2
  go_enter Try.func57, Try.ntmps57
  go_wp2
  go_ret
  exact ⟨ret_v (congrArg (Value.int .i64) HW.out), rfl⟩
set_option maxHeartbeats 1000000 in
theorem siSum (s : ByteArray) (w : World) (hd : AllD s) (hs : s.size ≤ 20) :
    Calls Try.prog 48 #[.string s] w fun e w' => e = .returned (.int .i64 (sumD s 0 s.size)) ∧ w = w' := by
  have HD := Lib.hid hd
  clear hd
  go_enter Try.func48, Try.ntmps48
  go_wp2
  go_loop [3, 4] (fun t i => ∃ k : Nat, k ≤ s.size ∧ i = .int .i64 k ∧ t = .int .i64 (sumD s 0 k)) (fun _ i => s.size - (intOf i).toNat)
  case atStart => exact ⟨0, Nat.zero_le _, rfl, rfl⟩
  case round =>
    obtain ⟨k, hk, rfl, rfl⟩ := hrel
    by_cases hlt : k < s.size
    · have hb := dD_byte HD.out hlt
      have hl := dD_le HD.out k
      have hm := sumD_le HD.out 0 k
      have R := Lib.hid (show ((sumD s 0 (k + 1) : Nat) : Int) = (sumD s 0 k : Int) + (48 + (dD s k : Int) - 48) by
        rw [show sumD s 0 (k + 1) = sumD s 0 k + dD s (0 + k) from rfl, Nat.zero_add]; omega)
      have hlt' : (k : Int) < s.size := by omega
      generalize hx : s[k].toNat = x at *
      generalize dD s k = c at *
      generalize sumD s 0 k = t at *
      subst hb
      go_wp2
      go_round
      case rel => exact ⟨k + 1, by omega, by go_num, congrArg (Value.int .i64) R.out.symm⟩
      case measure => simp [intOf]; omega
    · obtain rfl : k = s.size := by omega
      go_wp2
      go_ret
      exact ⟨rfl, rfl⟩
/-- a part as Go has it: its sum, its first place -/
def rp (a b : Int) : Value := .agg #[.int .i64 a, .int .i64 b]
/-- the part variable at block g -/
def Prt (w : World) (g : Nat) (a b : Int) : Prop := w.heap[g]? = some (.cells #[.int .i64 a, .int .i64 b] 38 (0, 0))
theorem Prt.lt {w : World} {g : Nat} {a b : Int} (h : Prt w g a b) : g < w.heap.size := (Array.getElem?_eq_some_iff.1 h).1
theorem Prt.new (w : World) (a b : Int) : Prt (w.alloc (.cells #[.int .i64 a, .int .i64 b] 38)) w.heap.size a b := World.alloc_heap_new w _
theorem Prt.same {w w' : World} {g : Nat} {a b : Int} (h : Prt w g a b) (e : w'.heap[g]? = w.heap[g]?) : Prt w' g a b := e.trans h
theorem Prt.below {w w' : World} {g : Nat} {a b : Int} (h : Prt w g a b) (hb : Below w.heap.size w w') : Prt w' g a b := h.same (hb.block g h.lt)
theorem Prt.belowA {w w' : World} {B g : Nat} {a b : Int} (h : Prt w g a b) (hb : Below B w w') (hg : g < B) : Prt w' g a b := h.same (hb.block g hg)
theorem Prt.row {w : World} {g : Nat} {a b : Int} (h : Prt w g a b) (x y : Int) : Prt (w.setRow g #[.int .i64 x, .int .i64 y]) g x y := setRow_heap w g _ _ _ _ h
theorem Prt.other {w : World} {g g' : Nat} {a b : Int} (h : Prt w g a b) (hne : g ≠ g') (cs : Array Value) : Prt (w.setRow g' cs) g a b := h.same (setRow_other w g' g cs hne)
theorem Prt.c0 {w : World} {g : Nat} {a b : Int} (h : Prt w g a b) : w.cell? ⟨g, 0, none⟩ = some (.int .i64 a) := by rw [cell_of_row w g 0 _ _ _ h]; rfl
theorem Prt.c1 {w : World} {g : Nat} {a b : Int} (h : Prt w g a b) : w.cell? ⟨g, 1, none⟩ = some (.int .i64 b) := by rw [cell_of_row w g 1 _ _ _ h]; rfl
theorem undP : Try.prog.underlying 38 = some (.array 2 3) := by kernel_rfl
theorem infoP (a b : Int) : (Try.prog.info? 38).map (·.size) = some (#[Value.int .i64 a, .int .i64 b]).size := by
  rw [show (#[Value.int .i64 a, .int .i64 b]).size = 2 from rfl]; kernel_rfl
theorem oneP (a b : Int) : (#[Value.int .i64 a, .int .i64 b]).all (·.oneCell') = true := by
  rw [Array.all_eq_true_iff_forall_mem]
  intro v hv
  simp at hv
  rcases hv with rfl | rfl <;> rfl
set_option maxHeartbeats 1000000 in
theorem partFrom (s : ByteArray) (i l : Nat) (f : Int) (w : World) (hd : AllD s) (hs : s.size ≤ 20) (hil : i + l ≤ s.size) (hf : f = (i : Int) + 1) :
    Calls Try.prog 50 #[.string s, .int .i64 f, .int .i64 (l : Int)] w fun e w' => e = .returned (rp (sumD s i l) f) ∧ Below w.heap.size w w' := by
  have HD := Lib.hid hd
  have HF := Lib.hid hf
  have hf1 : 1 ≤ f ∧ f + l ≤ 21 := by omega
  clear hd hf
  have HP := Lib.hid (Prt.new w 0 0)
  have HB0 := Lib.hid ((Below.refl w.heap.size w).alloc (Nat.le_refl _) (.cells #[.int .i64 0, .int .i64 0] 38))
  go_enter Try.func50, Try.ntmps50
  go_wp2
  generalize (w.alloc (.cells #[.int .i64 0, .int .i64 0] 38)) = w1 at *
  go_loopw [7, 8] (fun t p wr => ∃ k : Nat, k ≤ l ∧ p = .int .i64 (f + k) ∧ t = .int .i64 (sumD s i k) ∧ wr = w1) (fun _ p _ => l - (intOf p - f).toNat)
  case atStart => exact ⟨0, Nat.zero_le _, by simp, rfl, rfl⟩
  case round =>
    obtain ⟨k, hk, rfl, rfl, rfl⟩ := hrel
    by_cases hlt : k < l
    · have hl := dD_le HD.out (i + k)
      have hm := sumD_le HD.out i k
      have R := Lib.hid (show ((sumD s i (k + 1) : Nat) : Int) = (sumD s i k : Int) + (dD s (i + k) : Int) by
        rw [show sumD s i (k + 1) = sumD s i k + dD s (i + k) from rfl]; omega)
      have C := Lib.hid (stepsAt s (f + k) (i + k) wr (by have := HF.out; omega) HD.out (by omega) (by omega))
      have hlt' : f + (k : Int) < f + l := by omega
      generalize dD s (i + k) = c at *
      generalize sumD s i k = t at *
      go_wp2_with (go_at_call 57; refine C.out.mono ?_; rintro e w' ⟨rfl, rfl⟩)
      go_roundw
      case rel => exact ⟨k + 1, by omega, by congr 1; omega, congrArg (Value.int .i64) R.out.symm, by simp⟩
      case measure => (simp [intOf]; try omega)
    · obtain rfl : k = l := by omega
      have hlt' : ¬ f + (k : Int) < f + k := by omega
      have hm := sumD_le HD.out i k
      go_wp2_with (first
        | (refine wpList_store_row rfl _ _ _ rfl w.heap.size _ rfl rfl _ _ HP.out (infoP 0 0) rfl (oneP _ _) ?_))
      refine bodyPost_ret (results_cell_row rfl _ _ w.heap.size _ _ (0, 0) _ rfl (HP.out.row _ _) undP rfl (infoP _ _)) rfl ?_
      exact ⟨rfl, below_setRow HB0.out (Nat.le_refl _) _⟩
theorem partSumX (a b : Int) (w : World) :
    Calls Try.prog 31 #[rp a b] w fun e w' => e = .returned (.int .i64 a) ∧ w.alloc (.cells #[.int .i64 a, .int .i64 b] 38) = w' := by
  have hP := (Prt.new w a b).c0
  unfold rp
  go_enter Try.func31, Try.ntmps31
  go_wp2
  go_ret
  exact ⟨rfl, rfl⟩
theorem partSum (a b : Int) (w : World) :
    Calls Try.prog 31 #[rp a b] w fun e w' => e = .returned (.int .i64 a) ∧ Below w.heap.size w w' :=
  (partSumX a b w).mono fun e w' ⟨h1, h2⟩ => ⟨h1, by rw [← h2]; exact (Below.refl _ _).alloc (Nat.le_refl _) _⟩
def stepsV (s : ByteArray) : Value := if isSt s then .tuple #[.int .i64 (sumD s 0 s.size), .bool true] else .tuple #[.int .i64 0, .bool false]
theorem stepsV_no {s : ByteArray} (h : isSt s = false) : stepsV s = .tuple #[.int .i64 0, .bool false] := by simp [stepsV, h]
theorem stepsV_yes {s : ByteArray} (h : isSt s = true) : stepsV s = .tuple #[.int .i64 (sumD s 0 s.size), .bool true] := by simp [stepsV, h]
theorem stepsV_form (a : ByteArray) : ∃ s x, stepsV a = .tuple #[.int .i64 s, .bool x] := by
  unfold stepsV; split <;> exact ⟨_, _, rfl⟩
end Go.Proofs.Ytihdhgkknfohaab
