/- slices.Backward at strings, where the body writes some blocks alone. -/
import Derived.Test.YteoggpollgkfiaaDoorStg
import Derived.Test.YteoggpollgkfiaaDoorRx
import Derived.RangeFuncBox
import Derived.RangeFuncLeaves
import Derived.Shelf.Abstract
import Derived.WalkKit
import Derived.OwnWalkIn
import Derived.TacticsInMore
import Derived.LoopNIn
import Derived.LoopIn
namespace Go.Proofs.YteoggpollgkfiaaDoor
set_option linter.unusedVariables false
open Go.RowKit Go.Shelf
attribute [local go_sem] Oper.semAt_some

/-- what has come when k rounds are over -/
def downs (L : List ByteArray) (n : Nat) : Nat → List (Nat × ByteArray)
  | 0 => []
  | k + 1 => downs L n k ++ [(n - 1 - k, gs L (n - 1 - k))]
theorem downs_len (L : List ByteArray) (n : Nat) : ∀ k, (downs L n k).length = k
  | 0 => rfl
  | k + 1 => by simp [downs, downs_len L n k]

set_option maxRecDepth 100000 in
set_option maxHeartbeats 2000000 in
theorem backX (n : Nat) (hn : 1 ≤ n) (l Bs b len cap : Nat) (E : Nat → Prop) (L : List ByteArray) (hlen : len = L.length) (hl : len ≤ 262144) (hEs : ∀ k, E k ∨ k = l → k ≠ Bs ∧ k ≠ b) (J Jx : List (Nat × ByteArray) → World → Prop)
    (hY : ∀ pre x W, J pre W → x.1 < L.length ∧ x.2 = gs L x.1 ∧ x.1 + pre.length + 1 = L.length → pre.length < len → YieldAt Fence.wide (n - 1) Tryd.prog l #[.int .i64 (x.1 : Int), .string x.2] W fun e W' =>
      (e = .returned (.bool true) ∧ J (pre ++ [x]) W' ∧ KeepE (fun k => E k ∨ k = l) W W') ∨ (e = .returned (.bool false) ∧ Jx (pre ++ [x]) W'))
    (W : World) (hBw : Bs < W.heap.size) (hbw : b < W.heap.size) (hBs : W.cell? ⟨Bs, 0, none⟩ = some (.slice (some ⟨b, 0, none⟩) len cap)) (hc : ∀ j, j < len → W.cell? ⟨b, j, none⟩ = some (.string (gs L j))) (h0 : J [] W) :
    CallsIn Fence.wide n Tryd.prog 55 #[.func (.yield l) #[] #[], .pointer (some ⟨Bs, 0, none⟩)] W fun e W' => (∃ v, e = .returned v) ∧
      ((∃ xs, xs = downs L len len ∧ J xs W') ∨ ∃ pre, (∃ k, k ≤ len ∧ pre = downs L len k) ∧ Jx pre W') := by
  have HLEN := Lib.hid hlen
  have HE1 := Lib.hid (fun e => (hEs Bs e).1 rfl)
  have HE2 := Lib.hid (fun e => (hEs b e).2 rfl)
  clear hlen
  refine callsIn_of_wp Tryd.func55 rfl trivial ?_ rfl
  simp only [Tryd.ntmps55, List.size_toArray, List.length_cons, List.length_nil, Nat.reduceAdd, Nat.reduceSub, Array.replicate_succ, Array.replicate_zero, List.push_toArray, List.append_toArray, List.nil_append, List.cons_append]
  gi_wp2
  gi_loopw [3] (fun i wr => ∃ k : Nat, k ≤ len ∧ i = .int .i64 ((len : Int) - 1 - k) ∧ J (downs L len k) wr ∧ Hid (KeepE (fun k => E k ∨ k = l) W wr))
    (fun i _ => (intOf i + 1).toNat)
  case atStart => exact ⟨0, Nat.zero_le _, by simp, h0, Lib.hid (KeepE.refl _ _)⟩
  case round =>
    obtain ⟨k, hk, rfl, hJs, hnx⟩ := hrel
    have hbx := (World.cell?_of_block (a := ⟨Bs, 0, none⟩) (hnx.out.block Bs hBw HE1.out)).trans hBs
    by_cases hlt : k < len
    · obtain ⟨m, hm⟩ : ∃ m, m = len - 1 - k := ⟨_, rfl⟩
      have hmi : (len : Int) - 1 - k = (m : Int) := by omega
      have hml : m < len := by omega
      have hmli : (m : Int) < len := by omega
      have hcx := (World.cell?_of_block (a := ⟨b, m, none⟩) (hnx.out.block b hbw HE2.out)).trans (hc m hml)
      obtain ⟨fn, tmps, assign, body, hy, hR⟩ := hY _ (m, gs L m) wr hJs ⟨by have := HLEN.out; show m < L.length; omega, rfl, by rw [downs_len]; have := HLEN.out; show m + k + 1 = L.length; omega⟩ (by rw [downs_len]; exact hlt)
      dsimp only at hy
      have HS := Lib.hid (show downs L len (k + 1) = downs L len k ++ [(m, gs L m)] by rw [hm]; rfl)
      rw [hmi]
      have HM := Lib.hid hm
      clear hm
      generalize gs L m = y at *
      gi_wp2
      refine hR.mono ?_
      rintro e W3 (⟨rfl, hJ3, hk3⟩ | ⟨rfl, hJx3⟩)
      · gi_wp2
        go_roundw
        case rel => exact ⟨k + 1, by omega, (by congr 1 <;> (have := HM.out; omega)), by rw [HS.out]; exact hJ3, Lib.hid (hnx.out.trans hk3 fun _ _ e => e)⟩
        case measure => (simp [intOf]; try omega)
      · gi_wp2
        refine bodyPost_ret (results_none rfl _ _ _) rfl ?_
        exact ⟨⟨_, rfl⟩, .inr ⟨_, ⟨k + 1, by omega, HS.out.symm⟩, hJx3⟩⟩
    · obtain rfl : k = len := by omega
      gi_wp2
      go_end0
      exact ⟨⟨_, rfl⟩, .inl ⟨_, rfl, hJs⟩⟩
theorem backC (n : Nat) (a : Option Addr) (len cap : Nat) (w : World) :
    CallsIn Fence.wide n Tryd.prog 47 #[.slice a len cap] w fun e w' => e = .returned (.func (.func 55) #[] #[.pointer (some ⟨w.heap.size, 0, none⟩)]) ∧ w' = w.alloc (.cells #[.slice a len cap] 32) := by
  refine callsIn_of_wp Tryd.func47 rfl trivial ?_ rfl
  simp only [Tryd.ntmps47, List.size_toArray, List.length_cons, List.length_nil, Nat.reduceAdd, Nat.reduceSub, Array.replicate_succ, Array.replicate_zero, List.push_toArray, List.append_toArray, List.nil_append, List.cons_append]
  gi_wp2
  go_ret
  exact ⟨rfl, rfl⟩
end Go.Proofs.YteoggpollgkfiaaDoor
