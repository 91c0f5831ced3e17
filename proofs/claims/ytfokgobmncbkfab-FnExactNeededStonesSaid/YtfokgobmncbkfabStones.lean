/- Contracts of impl.StonesOf and spec.StonesOf. -/
import Derived.Test.YtfokgobmncbkfabSl
import Derived.Test.YtfokgobmncbkfabStand
namespace Go.Proofs.Ytfokgobmncbkfab
set_option linter.unusedVariables false
open Go.RowKit

def stonesTo (s : ByteArray) (k : Nat) : List Int := ((List.range k).filter fun j => stn s (j + 1)).map fun (j : Nat) => ((j : Int) + 1)
theorem stonesTo_yes {s : ByteArray} {k : Nat} (h : stn s (k + 1) = true) : stonesTo s (k + 1) = stonesTo s k ++ [(k : Int) + 1] := by
  simp [stonesTo, List.range_succ, h]
theorem stonesTo_no {s : ByteArray} {k : Nat} (h : stn s (k + 1) = false) : stonesTo s (k + 1) = stonesTo s k := by
  simp [stonesTo, List.range_succ, h]
theorem stonesTo_len (s : ByteArray) (k : Nat) : (stonesTo s k).length ≤ k := by
  have := List.length_filter_le (fun j => stn s (j + 1)) (List.range k)
  simpa [stonesTo] using this
def stones (s : ByteArray) : List Int := if isRv s then stonesTo s s.size else []
theorem stones_len (s : ByteArray) : (stones s).length ≤ 40 := by
  unfold stones; split
  · rename_i h; have := stonesTo_len s s.size; simp [isRv] at h; omega
  · simp
theorem stones_no {s : ByteArray} (h : isRv s = false) : stones s = [] := by simp [stones, h]
theorem stones_yes {s : ByteArray} (h : isRv s = true) : stones s = stonesTo s s.size := by simp [stones, h]

def IntsPost (B : Nat) (zs : List Int) (ok : Bool) (w : World) (e : Ending) (w' : World) : Prop :=
  ∃ v, e = .returned (.tuple #[v, .bool ok]) ∧ Ints w' B v zs ∧ Below B w w'

set_option maxHeartbeats 800000 in
theorem implStones (s : ByteArray) (w : World) (hs : s.size ≤ 1048576) :
    Calls Try.prog 43 #[.string s] w (IntsPost w.heap.size (stones s) (isRv s) w) := by
  have hm : s.size ≤ maxLen := by unfold maxLen; omega
  cases h1 : isRv s
  · have J := Lib.hid (stones_no h1)
    have G := Lib.hid h1
    clear h1
    go_enter Try.func43, Try.ntmps43
    go_wp2_with (go_at_call 36; refine (implIsRiver _ _ hm).mono ?_; rintro e w' ⟨rfl, rfl⟩; rw [G.out])
    go_ret2
    exact ⟨_, rfl, by rw [J.out]; exact World.ownsRow_nil _ _ _ _, Below.refl _ _⟩
  · have J := Lib.hid (stones_yes h1)
    have hsz : s.size ≤ 40 := by simp [isRv] at h1; omega
    have G := Lib.hid h1
    clear h1
    go_enter Try.func43, Try.ntmps43
    go_wp2_with (go_at_call 36; refine (implIsRiver _ _ hm).mono ?_; rintro e w' ⟨rfl, rfl⟩; rw [G.out])
    go_loopw [4, 5] (fun v i wr => ∃ k : Nat, k ≤ s.size ∧ i = .int .i64 ((k : Int) + 1) ∧ Ints wr w.heap.size v (stonesTo s k) ∧ Below w.heap.size w wr) (fun _ i _ => s.size + 1 - (intOf i).toNat)
    case atStart => exact ⟨0, Nat.zero_le _, rfl, World.ownsRow_nil _ _ _ _, Below.refl _ _⟩
    case round =>
      obtain ⟨k, hk, rfl, hI, hbel⟩ := hrel
      have hle := hbel.size
      by_cases hlt : k < s.size
      · have hlen := stonesTo_len s k
        cases h2 : stn s (k + 1)
        · have R := Lib.hid (stonesTo_no h2)
          have G2 := Lib.hid h2
          clear h2
          go_wp2_with (go_at_call 49; refine (isStoneAt s (k + 1) _ hm).mono ?_; rintro e w' ⟨rfl, rfl⟩; rw [G2.out])
          go_roundw
          case rel => exact ⟨k + 1, by omega, by go_num, by rw [R.out]; exact hI, hbel⟩
          case measure => simp [intOf]; omega
        · have R := Lib.hid (stonesTo_yes h2)
          have G2 := Lib.hid h2
          clear h2
          go_wp2_with (first
            | (go_at_call 49; refine (isStoneAt s (k + 1) _ hm).mono ?_; rintro e w' ⟨rfl, rfl⟩; rw [G2.out])
            | (at_builtin; refine wpList_app wr rfl _ _ rfl w.heap.size _ (stonesTo s k) rfl hI ((k : Int) + 1) rfl (by omega) hle rfl ?_; intro v' w2 hI2 hb2 hg2))
          go_roundw
          case rel => exact ⟨k + 1, by omega, by go_num, by rw [R.out]; exact hI2, hbel.trans hb2⟩
          case measure => simp [intOf]; omega
      · obtain rfl : k = s.size := by omega
        go_wp2
        go_ret2
        exact ⟨_, rfl, by rw [J.out]; exact hI, hbel⟩
end Go.Proofs.Ytfokgobmncbkfab
