/- A map of moments and a channel of moments of the call's own. -/
import Derived.Test.YtmlokapbholeoabTn
import Derived.Test.YtmlokapbholeoabOp
import Derived.Test.YtmlokapbholeoabTl
import Derived.Test.YtmlokapbholeoabTv
import Derived.Maps.Own
import Derived.Maps.OwnOps
import Derived.Maps.OwnSet
import Derived.Maps.Views
import Derived.DeepKeys4
import Derived.Carry
namespace Go.Proofs.Ytmlokapbholeoab
set_option linter.unusedVariables false
open Go.RowKit Go.Maps Go.Conc

/-- a moment -/
def mv (m : Nat × Nat) : Value := .agg #[.int .i64 (m.1 : Int), .int .i64 (m.2 : Int)]
def ml (p x : Nat) : Lit := .string (keyBytes [.int .i64 (p : Int), .int .i64 (x : Int)])
theorem mCells : Try.prog.cellsOf 56 = 2 := by kernel_rfl
theorem iCells : Try.prog.cellsOf 3 = 1 := by kernel_rfl
theorem mFormed (p x : Nat) : (mv (p, x)).formed Try.prog 56 = true := by simp [mv, Value.formed, Try.underlying56, mCells]
theorem mKeyType : Try.prog.keyType 56 = true := by kernel_rfl
theorem mLits (d p x : Nat) (hp : p ≤ 1000000) (hx : x ≤ 1000000) : Try.prog.keyLits (d + 2) 56 [.int .i64 (p : Int), .int .i64 (x : Int)] = some [.int .i64 (p : Int), .int .i64 (x : Int)] := by
  have h1 : (Lit.int .i64 (p : Int)).wf = true := by simp [Lit.wf, IntKind.min, IntKind.max, IntKind.signed, IntKind.bits]; omega
  have h2 : (Lit.int .i64 (x : Int)).wf = true := by simp [Lit.wf, IntKind.min, IntKind.max, IntKind.signed, IntKind.bits]; omega
  simp [Program.keyLits, Try.underlying56, Try.underlying3, mCells, iCells, h1, h2]
theorem mSize : ∃ d, Try.prog.types.size + 1 = d + 2 := ⟨Try.prog.types.size - 1, by have : 0 < Try.prog.types.size := of_decide_eq_true (by kernel_rfl); omega⟩
theorem mKey (p x : Nat) (hp : p ≤ 1000000) (hx : x ≤ 1000000) : keyOf Try.prog 56 (mv (p, x)) = some (ml p x) := by
  obtain ⟨d, hd⟩ := mSize
  unfold keyOf
  rw [Try.underlying56]
  simp only [mKeyType, mFormed, Bool.and_self, if_true]
  show (Try.prog.keyLits (Try.prog.types.size + 1) 56 [.int .i64 (p : Int), .int .i64 (x : Int)]).map _ = _
  rw [hd, mLits d p x hp hx]
  rfl
theorem mLaid : laidOutB Try.prog = true := by kernel_rfl
theorem mRow : (56 : TypeId) < Try.prog.types.size := of_decide_eq_true (by kernel_rfl)
theorem mKt : Try.prog.keyTypeAt 2 56 = true := by kernel_rfl
theorem mKeyed : Keyed Try.prog 56 := Keyed.of_law (deep_law_laid mLaid (m := 2) (by omega) mRow mKt (by rw [Try.underlying56]))
theorem ml_inj {p x q y : Nat} (hp : p ≤ 1000000) (hx : x ≤ 1000000) (hq : q ≤ 1000000) (hy : y ≤ 1000000) (h : ml p x = ml q y) : p = q ∧ x = y := by
  have := mKeyed.inj (mKey p x hp hx) (h ▸ mKey q y hq hy)
  unfold mv at this
  simp at this
  exact ⟨by omega, by omega⟩
/-- block b is the map of the moments that are known -/
def MMap (w : World) (b : Nat) (t : ByteArray) (E : List (Nat × Nat)) : Prop :=
  ∃ D : DataW Unit, w.ownsMap Try.prog 56 (plainElem Try.prog 4) b E.tail.length D ∧ IsMap D ∧ ∀ p x, p ≤ 1000000 → x ≤ 1000000 → Maps.has D (ml p x) = kn t E p x ∧ D.atKey (ml p x) (.lit (.bool false)) = .lit (.bool (kn t E p x))
theorem MMap.kept {w w' : World} {b : Nat} {t : ByteArray} {E : List (Nat × Nat)} {row : Option Nat} (h : MMap w b t E) (hg : w.grownBy w' row) (hne : some b ≠ row) : MMap w' b t E := by
  obtain ⟨D, h1, h2⟩ := h
  exact ⟨D, h1.kept hg hne, h2⟩
theorem MMap.lt {w : World} {b : Nat} {t : ByteArray} {E : List (Nat × Nat)} (h : MMap w b t E) : b < w.heap.size := by
  obtain ⟨D, h1, _⟩ := h
  exact h1.lt
theorem MMap.below {w w' : World} {b : Nat} {t : ByteArray} {E : List (Nat × Nat)} (h : MMap w b t E) (hb : Below w.heap.size w w') : MMap w' b t E :=
  h.kept (row := none) ⟨hb.os, hb.tape, hb.output, hb.size, fun i hi _ => hb.block i hi⟩ (by simp)
theorem MMap.made (w : World) (t : ByteArray) (m : Nat × Nat) : MMap (w.alloc (.map #[] 0)) w.heap.size t [m] :=
  ⟨_, World.ownsMap_made _ _ _ _, isMap_empty, fun _ _ _ _ => ⟨rfl, rfl⟩⟩
theorem mBool_inv {H : Type} {P : Program} {e : TypeId} (he : P.underlying e = some .bool) {v : Value} {z : DataW H × List MemPlace} (h : plainElem P e v = some z) : ∃ a, v = .bool a ∧ z = (.lit (.bool a), []) := by
  unfold plainElem at h
  rw [he] at h
  cases v <;> simp at h
  obtain rfl := h
  exact ⟨_, rfl, rfl⟩
theorem mZero (w : World) : (zeroValue 4).run Try.prog w = .ok (.bool false) w := by kernel_rfl
theorem MMap.get {w : World} {b : Nat} {t : ByteArray} {E : List (Nat × Nat)} (h : MMap w b t E) (p x : Nat) (hp : p ≤ 1000000) (hx : x ≤ 1000000) :
    (Instr.lookup 54 (.map (some b)) (.agg #[.int .i64 (p : Int), .int .i64 (x : Int)]) false).run Try.prog w = .ok (.bool (kn t E p x)) w := by
  obtain ⟨D, h1, h2, h3⟩ := h
  obtain ⟨v, ps, hrun, hv⟩ := h1.lookup mKeyed Try.underlying54 (mZero w) (plainElem_bool (H := Unit) Try.underlying4 false) (mKey p x hp hx)
  obtain ⟨y, rfl, e⟩ := mBool_inv Try.underlying4 hv
  have e1 := (Prod.mk.inj e).1
  rw [(h3 p x hp hx).2] at e1
  have e2 := DataW.lit.inj e1
  have e3 := Lit.bool.inj e2
  refine hrun.trans ?_
  rw [e3]
theorem MMap.put {w : World} {b : Nat} {t : ByteArray} {E : List (Nat × Nat)} (h : MMap w b t E) (hlen : E.length ≤ 1000) (h0 : E ≠ []) {p x : Nat} (hp : p ≤ 1000000) (hx : x % t.size ≤ 1000000) (hn : kn t E p (x % t.size) = false) :
    ∃ w', (Instr.mapUpdate 54 (.map (some b)) (.agg #[.int .i64 (p : Int), .int .i64 ((x % t.size : Nat) : Int)]) (.bool true)).run Try.prog w = .ok () w' ∧ MMap w' b t (E ++ [(p, x)]) ∧ w.grownBy w' (some b) := by
  obtain ⟨D, h1, h2, h3⟩ := h
  obtain ⟨w', r1, r2, r3⟩ := h1.update mKeyed Try.underlying54 (by simp; unfold maxLen; omega) (mKey p (x % t.size) hp hx) (plainElem_bool (H := Unit) Try.underlying4 true)
  have ht : (E ++ [(p, x)]).tail = E.tail ++ [(p, x)] := List.tail_append_of_ne_nil h0
  refine ⟨w', r1, ⟨_, by rw [ht, List.length_append]; exact r2, h2.put _ _, fun q y hq hy => ?_⟩, r3⟩
  have hm : kn t (E ++ [(p, x)]) q y = (kn t E q y || (p == q && x % t.size == y)) := by
    unfold kn; rw [ht, List.any_append]; simp
  by_cases e : p = q ∧ x % t.size = y
  · obtain ⟨rfl, rfl⟩ := e
    rw [hm, hn, has_put_same h2 (by trivial), atKey_put_same h2 (by trivial)]
    simp
  · have hne : ml q y ≠ ml p (x % t.size) := fun h => e (by obtain ⟨a, b⟩ := ml_inj hq hy hp hx h; exact ⟨a.symm, b.symm⟩)
    have hf : (p == q && x % t.size == y) = false := by
      cases e2 : (p == q && x % t.size == y)
      · rfl
      · simp only [Bool.and_eq_true, beq_iff_eq] at e2; exact absurd e2 e
    rw [hm, hf, Bool.or_false, has_put_other hne, atKey_put_other hne]
    exact h3 q y hq hy
theorem wpList_putM {ops : Array Oper} {rest : List Oper} {o : Oper} {a : Act} {Q : Exit → Act → World → Prop} {W : World} {b : Nat} {t : ByteArray} {E : List (Nat × Nat)} (hg : o.guard = none) (h : MMap W b t E) (hlen : E.length ≤ 1000) (h0 : E ≠ []) {p x : Nat} (hp : p ≤ 1000000) (hx : x % t.size ≤ 1000000) (hn : kn t E p (x % t.size) = false) (P R : Int) (hP : P = p) (hR : R = (x % t.size : Nat))
    (m y v : Operand) (hop : o.op = Op.mapUpdate 54 m y v) (hm : a.eval m = .map (some b)) (hy : a.eval y = .agg #[.int .i64 P, .int .i64 R]) (hv : a.eval v = .bool true)
    (hK : ∀ w', MMap w' b t (E ++ [(p, x)]) → W.grownBy w' (some b) → wpList Try.prog ops Q rest (a.put o.dst undef) w') : wpList Try.prog ops Q (o :: rest) a W := by
  refine wpList_plain hg fun K' hK' => ?_
  obtain ⟨w', r1, r2, r3⟩ := h.put hlen h0 hp hx hn
  rw [← hP, ← hR] at r1
  clear hP hR hx
  unfold Oper.wp
  simp [execOp, hop, hm, hy, hv, r1, Result.andThen]
  exact hK' _ _ (hK w' r2 r3)
/-- block c is an open channel with this room, in which these moments lie, after r of them have been received -/
def Chn (w : World) (c cap : Nat) (l : List (Nat × Nat)) (r : Nat) : Prop := ∃ s, w.heap[c]? = some (.chan cap (l.map mv).toArray false s r false)
/-- how many values have been received from a channel -/
def chR (w : World) (c : Nat) : Nat := match w.heap[c]? with
  | some (.chan _ _ _ _ r _) => r
  | _ => 0
theorem Chn.r {w : World} {c cap r : Nat} {l : List (Nat × Nat)} (h : Chn w c cap l r) : chR w c = r := by obtain ⟨s, h⟩ := h; simp [chR, h]
theorem Chn.lt {w : World} {c cap r : Nat} {l : List (Nat × Nat)} (h : Chn w c cap l r) : c < w.heap.size := by obtain ⟨s, h⟩ := h; exact (Array.getElem?_eq_some_iff.1 h).1
theorem Chn.same {w w' : World} {c cap r : Nat} {l : List (Nat × Nat)} (h : Chn w c cap l r) (e : w'.heap[c]? = w.heap[c]?) : Chn w' c cap l r := by obtain ⟨s, h⟩ := h; exact ⟨s, e.trans h⟩
theorem Chn.below {w w' : World} {c cap r : Nat} {l : List (Nat × Nat)} (h : Chn w c cap l r) (hb : Below w.heap.size w w') : Chn w' c cap l r := h.same (hb.block c h.lt)
theorem Chn.kept {w w' : World} {c cap n : Nat} {l : List (Nat × Nat)} {r : Option Nat} (h : Chn w c cap l n) (hg : w.grownBy w' r) (hne : some c ≠ r) : Chn w' c cap l n := h.same (hg.block c h.lt hne)
theorem grown_setChan (w : World) (c cap : Nat) (buf : Array Value) (cl : Bool) (s r : Nat) (tm : Bool) : w.grownBy (w.setChan c cap buf cl s r tm) (some c) :=
  ⟨rfl, rfl, rfl, by rw [size_setChan]; exact Nat.le_refl _, fun k hk hne => by
    simp only [World.setChan]; rw [Array.getElem?_setIfInBounds_ne (by intro e; exact hne (by rw [e]))]⟩
theorem Chn.send {w : World} {c cap r : Nat} {l : List (Nat × Nat)} (h : Chn w c cap l r) (m : Nat × Nat) : ∃ s, w.heap[c]? = some (.chan cap (l.map mv).toArray false s r false) ∧ Chn (w.setChan c cap ((l.map mv).toArray.push (mv m)) false (s + 1) r false) c cap (l ++ [m]) r := by
  have hlt := h.lt
  obtain ⟨s, h⟩ := h
  refine ⟨s, h, s + 1, ?_⟩
  rw [heap_setChan _ _ _ _ _ _ _ _ hlt]
  simp
theorem Chn.recv {w : World} {c cap r : Nat} {m : Nat × Nat} {l : List (Nat × Nat)} (h : Chn w c cap (m :: l) r) : ∃ s, w.heap[c]? = some (.chan cap ((m :: l).map mv).toArray false s r false) ∧
    Chn (w.setChan c cap (((m :: l).map mv).toArray.extract 1 ((m :: l).map mv).toArray.size) false s (r + 1) false) c cap l (r + 1) := by
  have hlt := h.lt
  obtain ⟨s, h⟩ := h
  refine ⟨s, h, s, ?_⟩
  rw [heap_setChan _ _ _ _ _ _ _ _ hlt]
  congr 2
  apply Array.toList_inj.1
  simp [List.extract_eq_take_drop]
  exact List.take_of_length_le (by simp)
/-- nothing but two blocks and new ones has turned -/
structure Kp (w w' : World) (a b : Nat) : Prop where
  os : w'.os = w.os
  tape : w'.tape = w.tape
  output : w'.output = w.output
  size : w.heap.size ≤ w'.heap.size
  block : ∀ k, k < w.heap.size → k ≠ a → k ≠ b → w'.heap[k]? = w.heap[k]?
theorem Kp.refl (w : World) (a b : Nat) : Kp w w a b := ⟨rfl, rfl, rfl, Nat.le_refl _, fun _ _ _ _ => rfl⟩
theorem Kp.trans {w w1 w2 : World} {a b : Nat} (h : Kp w w1 a b) (h2 : Kp w1 w2 a b) : Kp w w2 a b :=
  ⟨h2.os.trans h.os, h2.tape.trans h.tape, h2.output.trans h.output, Nat.le_trans h.size h2.size, fun k hk h1 h3 => (h2.block k (Nat.lt_of_lt_of_le hk h.size) h1 h3).trans (h.block k hk h1 h3)⟩
theorem Kp.of_below {w w' : World} (a b : Nat) (h : Below w.heap.size w w') : Kp w w' a b := ⟨h.os, h.tape, h.output, h.size, fun k hk _ _ => h.block k hk⟩
theorem Kp.of_grown {w w' : World} {a b r : Nat} (h : w.grownBy w' (some r)) (hr : r = a ∨ r = b) : Kp w w' a b :=
  ⟨h.os, h.tape, h.output, h.size, fun k hk h1 h2 => h.block k hk (by intro e; injection e with e; rcases hr with rfl | rfl; exact h1 e; exact h2 e)⟩
theorem Kp.below {w w' : World} {a b B : Nat} (h : Kp w w' a b) (ha : B ≤ a) (hb : B ≤ b) (hB : B ≤ w.heap.size) : Below B w w' :=
  ⟨h.os, h.tape, h.output, h.size, fun k hk => h.block k (by omega) (by omega) (by omega)⟩
theorem Kp.blk {w w' : World} {a b g : Nat} {cs : Array Value} (h : Kp w w' a b) (hx : Blk w g cs) (h1 : g ≠ a) (h2 : g ≠ b) : Blk w' g cs := by
  have := hx.lt
  obtain ⟨T, hx⟩ := hx
  exact ⟨T, (h.block g this h1 h2).trans hx⟩
end Go.Proofs.Ytmlokapbholeoab
