/- What impl.movesLeft reckons, move by move; a store into a map within a fence. Plain. -/
import Derived.Test.YteoggpollgkfiaaDoorCh
import Derived.Test.YteoggpollgkfiaaDoorBx2
namespace Go.Proofs.YteoggpollgkfiaaDoor
set_option linter.unusedVariables false
open Go.RowKit

def lTo (B : Int → Int → Bool) (p : ByteArray) (st : LSt) (j : Nat) : LSt := ((moves p).take j).foldl (lMove B p) st
theorem lTo_0 (B : Int → Int → Bool) (p : ByteArray) (st : LSt) : lTo B p st 0 = st := rfl
theorem lTo_s {B : Int → Int → Bool} {p : ByteArray} {st : LSt} {j : Nat} (h : j < (moves p).length) : lTo B p st (j + 1) = lMove B p (lTo B p st j) ((moves p).getD j 0) := by
  unfold lTo
  rw [List.take_succ_eq_append_getElem h, List.foldl_append, List.getD_eq_getElem?_getD, List.getElem?_eq_getElem h]; rfl
theorem lTo_end (B : Int → Int → Bool) (p : ByteArray) (st : LSt) : lTo B p st (moves p).length = (moves p).foldl (lMove B p) st := by unfold lTo; rw [List.take_length]
def LIn (st : LSt) (m : Int) : Prop := ∀ c, 0 ≤ st.1 c ∧ st.1 c ≤ m
theorem LIn.put {st : LSt} {m m' x : Int} {p : ByteArray} (h : LIn st m) (hx : 0 ≤ x ∧ x ≤ m') (hm : m ≤ m') : LIn (putL st p x) m' := fun c => by
  show 0 ≤ (if c = p then x else st.1 c) ∧ (if c = p then x else st.1 c) ≤ m'
  have := h c
  split <;> omega
theorem LIn.mono {st : LSt} {m m' : Int} (h : LIn st m) (hm : m ≤ m') : LIn st m' := fun c => by have := h c; omega
theorem lMove_yes {B : Int → Int → Bool} {p : ByteArray} {st : LSt} {i : Nat} (h : (st.2 (goes p i) && (!st.2 p || B (st.1 (goes p i) + 1) (st.1 p))) = true) : lMove B p st i = putL st p (st.1 (goes p i) + 1) := by unfold lMove; rw [if_pos h]
theorem lMove_not {B : Int → Int → Bool} {p : ByteArray} {st : LSt} {i : Nat} (h : (st.2 (goes p i) && (!st.2 p || B (st.1 (goes p i) + 1) (st.1 p))) = false) : lMove B p st i = st := by unfold lMove; rw [if_neg (by rw [h]; simp)]
theorem lAll_s {E : ByteArray → Bool} {B : Int → Int → Bool} {R : List ByteArray} {x : Nat} (h : x < R.length) : lAll E B (R.drop x) = lPond E B (gs R x) (lAll E B (R.drop (x + 1))) := by
  rw [List.drop_eq_getElem_cons h, gs_get h]; rfl
theorem lPond_yes {E : ByteArray → Bool} {B : Int → Int → Bool} {p : ByteArray} {st : LSt} (h : E p = true) : lPond E B p st = putL st p 0 := by unfold lPond; rw [if_pos h]
theorem lPond_not {E : ByteArray → Bool} {B : Int → Int → Bool} {p : ByteArray} {st : LSt} (h : E p = false) : lPond E B p st = lTo B p st (moves p).length := by unfold lPond; rw [if_neg (by rw [h]; simp), lTo_end]
set_option maxRecDepth 100000 in
theorem uponIn_putI {F : Fence} {d : Nat} {o : Oper} {a : Act} {K : Act → World → Prop} {Q : Exit → Act → World → Prop} {W : World} {b N : Nat} {f : ByteArray → Int} {g : ByteArray → Bool} (h : IMap W b N f g) (hN : N < maxLen) {c : ByteArray} (hc : c.size ≤ maxLen) {n : Int} (hn : (Lit.int .i64 n).wf = true)
    (hK : ∀ w', IMap w' b (N + 1) (fun y => if y = c then n else f y) (fun y => decide (y = c) || g y) → W.grownBy w' (some b) → Oper.uponIn F d Tryd.prog o a K Q (Result.ok Next.skip w')) :
    Oper.uponIn F d Tryd.prog o a K Q ((Sem.run Tryd.prog (Instr.mapUpdate 41 (.map (some b)) (.string c) (.int .i64 n)) W).andThen fun a w' => Result.ok Next.skip w') := by
  obtain ⟨w', r1, r2, r3⟩ := h.put hN hc hn
  rw [r1]
  exact hK w' r2 r3
/-- the map of the call's own that tells st -/
def LMap (w : World) (b N : Nat) (st : LSt) : Prop := IMap w b N st.1 st.2
theorem wf_small {x : Int} (h : 0 ≤ x ∧ x ≤ 1000000000) : (Lit.int .i64 x).wf = true := by
  simp [Lit.wf, IntKind.min, IntKind.max, IntKind.signed, IntKind.bits]; omega
theorem endTo (q G : ByteArray) (gb : Nat) (w : World) (hG : w.cell? ⟨gb, 0, none⟩ = some (.string G)) :
    Calls Tryd.prog 44 #[.string q, .pointer (some ⟨gb, 0, none⟩)] w fun e w' => e = .returned (.bool (isG G q)) ∧ Below w.heap.size w w' := by
  go_enter Tryd.func44, Tryd.ntmps44
  go_wp2
  go_ret
  refine ⟨ret_bool ?_, Below.refl _ _⟩
  unfold isG
  rw [Bool.eq_iff_iff]
  simp only [beq_iff_eq, decide_eq_true_eq]
  exact ⟨fun h => ByteArray.ext (Array.toList_inj.1 (by rwa [ByteArray.toList_eq, ByteArray.toList_eq] at h)), fun h => by rw [h]⟩
theorem isLess (n m : Int) (w : World) : Calls Tryd.prog 38 #[.int .i64 n, .int .i64 m] w fun e w' => e = .returned (.bool (lessI n m)) ∧ w = w' := by
  go_enter Tryd.func38, Tryd.ntmps38
  go_wp2
  go_ret
  exact ⟨rfl, rfl⟩
end Go.Proofs.YteoggpollgkfiaaDoor
