/- All moves: lists; spec.fgMoves; impl.movesOf. -/
import Derived.Test.YteoggpollgkfiaaDoorMv
import Derived.Test.YteoggpollgkfiaaDoorLand
import Derived.Test.YteoggpollgkfiaaDoorSl
namespace Go.Proofs.YteoggpollgkfiaaDoor
set_option linter.unusedVariables false
open Go.RowKit

/-- the moves from the first k stones -/
def mvTo (s : ByteArray) : Nat → List Nat
  | 0 => []
  | k + 1 => if 0 ≤ toI s k then mvTo s k ++ [k] else mvTo s k
theorem mvTo_yes {s : ByteArray} {k : Nat} (h : 0 ≤ toI s k) : mvTo s (k + 1) = mvTo s k ++ [k] := by simp [mvTo, h]
theorem mvTo_no {s : ByteArray} {k : Nat} (h : ¬ 0 ≤ toI s k) : mvTo s (k + 1) = mvTo s k := by simp [mvTo, h]
theorem mvTo_len (s : ByteArray) : ∀ k, (mvTo s k).length ≤ k
  | 0 => Nat.le_refl _
  | k + 1 => by unfold mvTo; have := mvTo_len s k; split <;> simp <;> omega
theorem mvTo_mem (s : ByteArray) : ∀ k, ∀ i ∈ mvTo s k, i < k ∧ 0 ≤ toI s i
  | 0 => by simp [mvTo]
  | k + 1 => by
    intro i hi
    have ih := mvTo_mem s k
    unfold mvTo at hi
    split at hi
    · rcases List.mem_append.1 hi with h | h
      · have := ih i h; exact ⟨by omega, this.2⟩
      · simp at h; subst h; exact ⟨by omega, by assumption⟩
    · have := ih i hi; exact ⟨by omega, this.2⟩
def asI (l : List Nat) : List Int := l.map (fun x : Nat => (x : Int))
theorem asI_snoc (l : List Nat) (x : Nat) : asI (l ++ [x]) = asI l ++ [(x : Int)] := by simp [asI]
theorem asI_len (l : List Nat) : (asI l).length = l.length := by simp [asI]
def moves (s : ByteArray) : List Nat := mvTo s s.size
def goes (s : ByteArray) (i : Nat) : ByteArray := mvB s i (toI s i).toNat

theorem Ints.iterAt {w : World} {B K : Nat} {v : Value} {zs : List Int} (h : Ints w B v zs) (hk : K < B) (s : ByteArray) (p : Nat) : Ints (w.iterAt K s p) B v zs := ownsRow_iterAt h hk s p

set_option maxHeartbeats 2000000 in
theorem specMoves (s : ByteArray) (w : World) (hp : isPd s = true) :
    Calls Tryd.prog 39 #[.string s] w fun e w' => ∃ v, e = .returned v ∧ Ints w' w.heap.size v (asI (moves s)) ∧ Below w.heap.size w w' := by
  obtain ⟨z1, z2, hal⟩ := isPd_in hp
  clear hal
  have HP := Lib.hid hp
  clear hp
  go_enter Tryd.func39, Tryd.ntmps39
  go_wp2_with fail
  go_loopw [3] (fun v wr => ∃ (k : Nat), k ≤ s.size ∧ Ints wr (w.heap.size + 1) v (asI (mvTo s k)) ∧ wr.heap[w.heap.size]? = some (.stringIter s k) ∧ Below w.heap.size w wr) (fun _ wr => s.size - wr.iterPos w.heap.size)
  case atStart =>
    refine ⟨0, Nat.zero_le _, World.ownsRow_nil _ _ _ _, ?_, (Below.refl _ w).alloc (Nat.le_refl _) _⟩
    have := World.iter_heap w s 0
    simpa using this
  case round =>
    obtain ⟨k, hk, hI, hit, hbw⟩ := hrel
    have HOLD := Lib.hid hit
    have hsz : w.heap.size < wr.heap.size := (Array.getElem?_eq_some_iff.1 hit).1
    by_cases hlt : k < s.size
    · have hnx : ∀ ty, (Instr.next (.pointer (some ⟨w.heap.size, 0, none⟩)) true ty).run Tryd.prog wr = _ := fun ty => Lib.run_next_ascii_at wr w.heap.size s k ty hit hlt (sg_ascii HP.out hlt)
      have hit2 := Lib.iterAt_heap wr w.heap.size s k (k + 1) hit
      have hbw2 := Lib.below_iterAt hbw (k := w.heap.size) (Nat.le_refl _) s (k + 1)
      have hI2 := hI.iterAt (Nat.lt_succ_self _) s (k + 1)
      have hl := mvTo_len s k
      have hsz2 : w.heap.size < (wr.iterAt w.heap.size s (k + 1)).heap.size := by rw [Lib.iterAt_size]; exact hsz
      have HIT := Lib.hid hit2
      have HB := Lib.hid hbw2
      have HI := Lib.hid hI2
      clear hit hit2 hbw2 hI2 hI hbw
      by_cases hgo : 0 ≤ toI s k
      · have R := Lib.hid (mvTo_yes hgo)
        go_wp2_with (first
          | (go_at_call 48; refine (specTo s k _ HP.out).mono ?_; rintro e w2 ⟨rfl, hb2⟩; have hle := hb2.size; have HI2 := Lib.hid (HI.out.below hb2); have HIT2 := Lib.hid ((hb2.block _ hsz2).trans HIT.out); have HB2 := Lib.hid (HB.out.trans (hb2.mono (Nat.le_of_lt hsz2))); clear hb2)
          | (at_builtin; refine wpList_app w2 rfl _ _ rfl (w.heap.size + 1) _ (asI (mvTo s k)) rfl HI2.out (k : Int) rfl (by rw [asI_len]; omega) (Nat.lt_of_lt_of_le hsz2 hle) rfl ?_; intro v' w3 hI3 hb3 hg3; have HIT3 := Lib.hid ((hb3.block _ (Nat.lt_succ_self _)).trans HIT2.out); have HB3 := Lib.hid (HB2.out.trans (hb3.mono (Nat.le_succ _)))))
        go_roundw
        case rel => exact ⟨k + 1, by omega, by rw [R.out, asI_snoc]; exact hI3, HIT3.out, HB3.out⟩
        case measure => (simp only [World.iterPos, HIT3.out, HOLD.out]; omega)
      · have R := Lib.hid (mvTo_no hgo)
        go_wp2_with (go_at_call 48; refine (specTo s k _ HP.out).mono ?_; rintro e w2 ⟨rfl, hb2⟩; have HI2 := Lib.hid (HI.out.below hb2); have HIT2 := Lib.hid ((hb2.block _ hsz2).trans HIT.out); have HB2 := Lib.hid (HB.out.trans (hb2.mono (Nat.le_of_lt hsz2))); clear hb2)
        go_roundw
        case rel => exact ⟨k + 1, by omega, by rw [R.out]; exact HI2.out, HIT2.out, HB2.out⟩
        case measure => (simp only [World.iterPos, HIT2.out, HOLD.out]; omega)
    · have hnx : ∀ ty, (Instr.next (.pointer (some ⟨w.heap.size, 0, none⟩)) true ty).run Tryd.prog wr = _ := fun ty => Lib.run_next_end_at wr w.heap.size s k ty hit hlt
      obtain rfl : k = s.size := by omega
      go_wp2
      go_ret
      exact ⟨_, rfl, ints_mono' hI (Nat.le_succ _), hbw⟩
end Go.Proofs.YteoggpollgkfiaaDoor
