/- A map[int]bool that a call makes; impl.standingPlaces: the map of the places on which one can stand. -/
import Derived.Test.YtnmeomcoeknjoabSl
import Derived.Test.YtnmeomcoeknjoabStand
import Derived.Maps.Own
import Derived.Maps.OwnOps
import Derived.Maps.Views
import Derived.Carry
import Derived.Deep.RegionLaw
import Derived.Deep.RegionWith
import Derived.Deep.CutRange
import Derived.Deep.DeepCutAuto
namespace Go.Proofs.Ytnmeomcoeknjoab
set_option linter.unusedVariables false
set_option maxRecDepth 100000
open Go.RowKit Go.Maps

/-- block b is a map[int]bool of at most N entries in which c is found as f c -/
def StMap (w : World) (b N : Nat) (f : Int → Bool) : Prop :=
  ∃ D : DataW Unit, w.ownsMap Try.prog 3 (plainElem Try.prog 4) b N D ∧ IsMap D ∧ ∀ c : Int, D.atKey (.int .i64 c) (.lit (.bool false)) = .lit (.bool (f c))

theorem StMap.made (w : World) : StMap (w.alloc (.map #[] 0)) w.heap.size 0 (fun _ => false) :=
  ⟨_, World.ownsMap_made _ _ _ _, isMap_empty, fun _ => rfl⟩
theorem StMap.made' (w : World) : StMap (w.alloc (.map #[] 0)).drew w.heap.size 0 (fun _ => false) :=
  ⟨_, (World.ownsMap_made _ _ _ _).drew, isMap_empty, fun _ => rfl⟩
theorem StMap.kept {w w' : World} {b N : Nat} {f : Int → Bool} {row : Option Nat} (h : StMap w b N f) (hg : w.grownBy w' row) (hne : some b ≠ row) : StMap w' b N f := by
  obtain ⟨D, h1, h2, h3⟩ := h
  exact ⟨D, h1.kept hg hne, h2, h3⟩
theorem StMap.lt {w : World} {b N : Nat} {f : Int → Bool} (h : StMap w b N f) : b < w.heap.size := by
  obtain ⟨D, h1, _⟩ := h
  exact h1.lt
theorem StMap.below {w w' : World} {b N : Nat} {f : Int → Bool} (h : StMap w b N f) (hb : Below w.heap.size w w') : StMap w' b N f :=
  h.kept (row := none) ⟨hb.os, hb.tape, hb.output, hb.size, fun i hi _ => hb.block i hi⟩ (by simp)
theorem StMap.congr {w : World} {b N : Nat} {f g : Int → Bool} (h : StMap w b N f) (e : ∀ c, f c = g c) : StMap w b N g := by
  obtain ⟨D, h1, h2, h3⟩ := h
  exact ⟨D, h1, h2, fun c => by rw [h3 c, e c]⟩
theorem StMap.mono {w : World} {b N N' : Nat} {f : Int → Bool} (h : StMap w b N f) (e : N ≤ N') : StMap w b N' f := by
  obtain ⟨D, h1, h2, h3⟩ := h
  exact ⟨D, h1.mono e, h2, h3⟩

theorem StMap.put {w : World} {b N : Nat} {f : Int → Bool} (h : StMap w b N f) (hN : N < 200) {c : Int} (hc : (Lit.int .i64 c).wf = true) :
    ∃ w', (Instr.mapUpdate 119 (.map (some b)) (.int .i64 c) (.bool true)).run Try.prog w = .ok () w' ∧ StMap w' b (N + 1) (fun x => x == c || f x) ∧ w.grownBy w' (some b) := by
  obtain ⟨D, h1, h2, h3⟩ := h
  obtain ⟨w', r1, r2, r3⟩ := h1.update (int_keyed Try.underlying3) Try.underlying119 (by unfold maxLen; omega) (keyOf_int_mk Try.underlying3 hc) (plainElem_bool (H := Unit) Try.underlying4 true)
  refine ⟨w', r1, ⟨_, r2, h2.put _ _, fun x => ?_⟩, r3⟩
  by_cases e : x = c
  · subst e
    rw [atKey_put_same h2 (by trivial)]; simp
  · rw [atKey_put_other (by intro h; injection h; contradiction), h3]
    have : (x == c) = false := by simpa using e
    simp [this]

theorem plainElem_bool_inv {H : Type} {P : Program} {e : TypeId} (he : P.underlying e = some .bool) {v : Value} {z : DataW H × List MemPlace} (h : plainElem P e v = some z) : ∃ a, v = .bool a ∧ z = (.lit (.bool a), []) := by
  unfold plainElem at h
  rw [he] at h
  cases v <;> simp at h
  obtain rfl := h
  exact ⟨_, rfl, rfl⟩

theorem zeroBool (w : World) : (zeroValue 4).run Try.prog w = .ok (.bool false) w := by kernel_rfl

/-- a look-up -/
theorem StMap.get {w : World} {b N : Nat} {f : Int → Bool} (h : StMap w b N f) {c : Int} (hc : (Lit.int .i64 c).wf = true) :
    (Instr.lookup 119 (.map (some b)) (.int .i64 c) false).run Try.prog w = .ok (.bool (f c)) w := by
  obtain ⟨D, h1, h2, h3⟩ := h
  obtain ⟨v, ps, hrun, hv⟩ := h1.lookup (int_keyed Try.underlying3) Try.underlying119 (zeroBool w) (plainElem_bool (H := Unit) Try.underlying4 false) (keyOf_int_mk Try.underlying3 hc)
  obtain ⟨a, rfl, e⟩ := plainElem_bool_inv Try.underlying4 hv
  simp only [Prod.mk.injEq] at e
  rw [h3 c] at e
  have : f c = a := by injection e.1 with e; injection e
  rw [hrun, this]

theorem wf64 {c : Int} (h0 : -9223372036854775808 ≤ c) (h1 : c ≤ 9223372036854775807) : (Lit.int .i64 c).wf = true := WalkArith.wf_i64 ⟨h0, h1⟩

theorem wf_succ {k : Nat} (h : k + 2 < 200) : (Lit.int .i64 ((k : Int) + 1)).wf = true := wf64 (by omega) (by omega)
theorem upon_put {o : Oper} {a : Act} {K : Act → World → Prop} {Q : Exit → Act → World → Prop} {W : World} {b N : Nat} {f : Int → Bool} (h : StMap W b N f) (hN : N < 200) {c : Int} (hc : (Lit.int .i64 c).wf = true)
    (hK : ∀ w', StMap w' b (N + 1) (fun x => x == c || f x) → W.grownBy w' (some b) → Oper.upon Try.prog o a K Q (Result.ok Next.skip w')) :
    Oper.upon Try.prog o a K Q ((Sem.run Try.prog (Instr.mapUpdate 119 (.map (some b)) (.int .i64 c) (.bool true)) W).andThen fun a w' => Result.ok Next.skip w') := by
  obtain ⟨w', r1, r2, r3⟩ := h.put hN hc
  rw [r1]
  exact hK w' r2 r3

/-- 'm[c] = true', at the operation -/
theorem wpList_put {ops : Array Oper} {rest : List Oper} {o : Oper} {a : Act} {Q : Exit → Act → World → Prop} {W : World} {b N : Nat} {f : Int → Bool} (hg : o.guard = none) (h : StMap W b N f) (hN : N < 200) (c : Int) (hc : (Lit.int .i64 c).wf = true)
    (m x v : Operand) (hop : o.op = Op.mapUpdate 119 m x v) (hm : a.eval m = .map (some b)) (hx : a.eval x = .int .i64 c) (hv : a.eval v = .bool true)
    (hK : ∀ w', StMap w' b (N + 1) (fun x => x == c || f x) → W.grownBy w' (some b) → wpList Try.prog ops Q rest (a.put o.dst undef) w') : wpList Try.prog ops Q (o :: rest) a W := by
  refine wpList_plain hg fun K' hK' => ?_
  obtain ⟨w', r1, r2, r3⟩ := h.put hN hc
  unfold Oper.wp
  simp [execOp, hop, hm, hx, hv, r1, Result.andThen]
  exact hK' _ _ (hK w' r2 r3)

/-- one can stand at a place, be it any number -/
def standI (s : ByteArray) (c : Int) : Bool := decide (0 ≤ c) && stand s c.toNat
theorem standI_nat (s : ByteArray) (k : Nat) : standI s k = stand s k := by simp [standI]
def standTo (s : ByteArray) (k : Nat) (c : Int) : Bool := c == 0 || c == s.size + 1 || (decide (1 ≤ c) && decide (c ≤ k) && stn s c.toNat)
theorem standTo_end (s : ByteArray) (c : Int) : standTo s s.size c = standI s c := by
  unfold standTo standI stand
  by_cases h0 : c < 0
  · have e1 : (c == 0) = false := by simp; omega
    have e2 : (c == (s.size : Int) + 1) = false := by simp; omega
    simp [e1, e2, show ¬ (0 ≤ c) from by omega, show ¬ (1 ≤ c) from by omega]
  · obtain ⟨k, rfl⟩ := Int.eq_ofNat_of_zero_le (show 0 ≤ c by omega)
    have e1 : ((k : Int) == 0) = (k == 0) := by rw [Bool.eq_iff_iff]; simp
    have e2 : ((k : Int) == (s.size : Int) + 1) = (k == s.size + 1) := by rw [Bool.eq_iff_iff]; simp; omega
    simp only [e1, e2, Int.toNat_natCast, Int.natCast_nonneg, decide_true, Bool.true_and]
    by_cases h : 1 ≤ k ∧ k ≤ s.size
    · simp [show (1 : Int) ≤ k from by omega, show (k : Int) ≤ s.size from by omega]
    · rw [stn_out (by omega)]; simp
theorem standTo_0 (s : ByteArray) (c : Int) : ((c == (s.size : Int) + 1 || (c == 0 || false)) : Bool) = standTo s 0 c := by
  have : (decide (1 ≤ c) && decide (c ≤ ((0 : Nat) : Int))) = false := by simp; omega
  simp only [standTo, this, Bool.false_and, Bool.or_false]
  rw [Bool.or_comm]
theorem standTo_yes {s : ByteArray} {k : Nat} (h : stn s (k + 1) = true) (c : Int) : ((c == (k : Int) + 1) || standTo s k c) = standTo s (k + 1) c := by
  unfold standTo
  by_cases e : c = (k : Int) + 1
  · subst e
    have : ((k : Int) + 1).toNat = k + 1 := by omega
    simp [this, h]; omega
  · have e1 : (c == (k : Int) + 1) = false := by simpa using e
    have e2 : decide (c ≤ ((k + 1 : Nat) : Int)) = decide (c ≤ (k : Int)) := by rw [decide_eq_decide]; omega
    rw [e1, e2, Bool.false_or]
theorem standTo_no {s : ByteArray} {k : Nat} (h : stn s (k + 1) = false) (c : Int) : standTo s k c = standTo s (k + 1) c := by
  unfold standTo
  by_cases e : c = (k : Int) + 1
  · subst e
    have e3 : ((k : Int) + 1).toNat = k + 1 := by omega
    simp [e3, h]
  · have e2 : decide (c ≤ ((k + 1 : Nat) : Int)) = decide (c ≤ (k : Int)) := by rw [decide_eq_decide]; omega
    rw [e2]

theorem lt_0 : 0 < 200 := by omega
theorem lt_1 : 0 + 1 < 200 := by omega
theorem standTo_0' (s : ByteArray) (c : Int) : ((c == 0 || (c == (s.size : Int) + 1 || false)) : Bool) = standTo s 0 c := by
  have : (decide (1 ≤ c) && decide (c ≤ ((0 : Nat) : Int))) = false := by simp; omega
  simp only [standTo, this, Bool.false_and, Bool.or_false]
theorem first_or1 {s : ByteArray} {w : World} {b : Nat} (h : StMap w b (0 + 1 + 1) (fun c => c == (s.size : Int) + 1 || (c == 0 || false))) : StMap w b 2 (standTo s 0) := h.congr (standTo_0 s)
theorem first_or2 {s : ByteArray} {w : World} {b : Nat} (h : StMap w b (0 + 1 + 1) (fun c => c == 0 || (c == (s.size : Int) + 1 || false))) : StMap w b 2 (standTo s 0) := h.congr (standTo_0' s)
theorem stand_frame {w w1 w2 : World} (h1 : ((w.alloc (.map #[] 0)).drew).grownBy w1 (some w.heap.size)) (h2 : w1.grownBy w2 (some w.heap.size)) : Below w.heap.size w w2 :=
  (((Below.refl _ w).alloc (Nat.le_refl _) (.map #[] 0)).drew.grown h1 (by show w.heap.size ≤ (w.alloc (.map #[] 0)).heap.size; simp) (by intro j hj; cases hj; exact Nat.le_refl _)).grown h2
    (Nat.le_trans (by show w.heap.size ≤ (w.alloc (.map #[] 0)).heap.size; simp) h1.size) (by intro j hj; cases hj; exact Nat.le_refl _)
def StandPost (s : ByteArray) (w : World) (e : Ending) (w' : World) : Prop :=
  ∃ b N, e = .returned (.map (some b)) ∧ w.heap.size ≤ b ∧ N ≤ 1000 ∧ StMap w' b N (standI s) ∧ Below w.heap.size w w'

set_option maxHeartbeats 1000000 in
theorem standing (s : ByteArray) (w : World) (hs : s.size ≤ 40) :
    Calls Try.prog 95 #[.string s] w (StandPost s w) := by
  have hm : s.size ≤ maxLen := by unfold maxLen; omega
  have hmm := @run_makeMap Try.prog
  have hM0 := StMap.made' w
  have W0 : (Lit.int .i64 0).wf = true := by decide
  have W1 : (Lit.int .i64 ((s.size : Int) + 1)).wf = true := wf64 (by omega) (by omega)
  have HW0 := Lib.hid W0
  have HW1 := Lib.hid W1
  clear W0 W1
  go_enter Try.func95, Try.ntmps95
  go_upto_region 1 with fail
  go_cut [3] (fun s3 wx => ∃ b, s3 = .map (some b) ∧ w.heap.size ≤ b ∧ StMap wx b 2 (standTo s 0) ∧ Below w.heap.size w wx)
  case first =>
    go_region_with (first
      | ((with_reducible refine upon_put hM0 lt_0 HW0.out ?_); intro w1 hM1 hg1; go_simp)
      | ((with_reducible refine upon_put hM0 lt_0 HW1.out ?_); intro w1 hM1 hg1; go_simp)
      | ((with_reducible refine upon_put hM1 lt_1 HW1.out ?_); intro w2 hM2 hg2; go_simp)
      | ((with_reducible refine upon_put hM1 lt_1 HW0.out ?_); intro w2 hM2 hg2; go_simp)
      | (go_at_call 96; refine (farBank _ _ (by omega)).mono ?_; rintro e w' ⟨rfl, rfl⟩))
    all_goals
      have hb2 := stand_frame hg1 hg2
      clear hg1 hg2 hM1 hM0
      have HB := Lib.hid hb2
      have HM := Lib.hid hM2
      clear hb2 hM2
      go_wp2_with fail
      go_meet
      refine ⟨_, rfl, Nat.le_refl _, ?_, HB.out⟩
      first | exact first_or1 HM.out | exact first_or2 HM.out
  case rest =>
    obtain ⟨b, rfl, hb, hM, hbel⟩ := hcut
    clear hM0 HW0 HW1 hmm
    go_wp2_with fail
    go_loopw [4] (fun i wr => ∃ k : Nat, k ≤ s.size ∧ i = .int .i64 ((k : Int) + 1) ∧ StMap wr b (k + 2) (standTo s k) ∧ Below w.heap.size w wr) (fun i _ => s.size + 1 - (intOf i).toNat)
    case atStart => exact ⟨0, Nat.zero_le _, rfl, hM, hbel⟩
    case round =>
      obtain ⟨k, hk, rfl, hM', hbel'⟩ := hrel
      by_cases hlt : k < s.size
      · cases h2 : stn s (k + 1)
        · have R := Lib.hid (standTo_no h2)
          have G2 := Lib.hid h2
          clear h2
          go_wp2_with (go_at_call 75; refine (isStoneAt s (k + 1) _ hm).mono ?_; rintro e w' ⟨rfl, rfl⟩; rw [G2.out])
          go_roundw
          case rel => exact ⟨k + 1, by omega, by go_num, (hM'.congr R.out).mono (by omega), hbel'⟩
          case measure => simp [intOf]; omega
        · have R := Lib.hid (standTo_yes h2)
          have G2 := Lib.hid h2
          clear h2
          have hN2 : k + 2 < 200 := by omega
          go_wp2_with (first
            | (go_at_call 75; refine (isStoneAt s (k + 1) _ hm).mono ?_; rintro e w' ⟨rfl, rfl⟩; rw [G2.out])
            | (at_mapUpdate; refine wpList_put rfl hM' hN2 ((k : Int) + 1) (wf_succ hN2) _ _ _ rfl rfl rfl rfl ?_; intro w3 hM3 hg3))
          go_roundw
          case rel => exact ⟨k + 1, by omega, by go_num, (hM3.congr R.out).mono (by omega), hbel'.grown hg3 hbel'.size (by intro j hj; cases hj; exact hb)⟩
          case measure => simp [intOf]; omega
      · obtain rfl : k = s.size := by omega
        go_wp2
        go_ret
        exact ⟨b, _, rfl, hb, by omega, hM'.congr (standTo_end s), hbel'⟩
end Go.Proofs.Ytnmeomcoeknjoab
