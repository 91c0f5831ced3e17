/- Slices of strings and maps map[string]bool of the call's own. -/
import Derived.Test.YteoggpollgkfiaaDoorSl
import Derived.Test.YteoggpollgkfiaaDoorPlP
import Derived.Maps.Own
import Derived.Maps.OwnOps
import Derived.Maps.Views
import Derived.Carry
import Derived.Deep.RegionLaw
import Derived.Deep.RegionWith
import Derived.Deep.CutRange
import Derived.Deep.DeepCutAuto
namespace Go.Proofs.YteoggpollgkfiaaDoor
set_option linter.unusedVariables false
open Go.RowKit Go.Maps

theorem Tryd.infoStr : (Tryd.prog.info? 9).map (fun i => (i.zero, i.size, i.bytes)) = some (some (.string ⟨#[]⟩), 1, 16) := by kernel_rfl
def strs (l : List ByteArray) : List Value := l.map Value.string
theorem strs_len (l : List ByteArray) : (strs l).length = l.length := by simp [strs]
theorem strs_snoc (l : List ByteArray) (x : ByteArray) : strs l ++ [.string x] = strs (l ++ [x]) := by simp [strs]
def gs (l : List ByteArray) (j : Nat) : ByteArray := l.getD j ⟨#[]⟩
/-- the slice v of strings, of the call's own -/
def Strg (w : World) (B : Nat) (v : Value) (l : List ByteArray) : Prop := w.ownsRow B 9 1 v l.length (strs l)
theorem Strg.below {w w' : World} {B : Nat} {v : Value} {l : List ByteArray} (h : Strg w B v l) (hb : Below w.heap.size w w') : Strg w' B v l := by
  refine ⟨h.1, ?_⟩
  rcases h.2 with h2 | ⟨g, cap, cur, e, h1, hg, h3, h4, h5, h6⟩
  · exact .inl h2
  · exact .inr ⟨g, cap, cur, e, h1, (hb.block g (Array.getElem?_eq_some_iff.1 hg).1).trans hg, h3, h4, h5, h6⟩
theorem Strg.kept {w w' : World} {B : Nat} {v : Value} {l : List ByteArray} {r : Option Nat} (h : Strg w B v l) (hg : w.grownBy w' r) (hr : v.ownBlock = none ∨ v.ownBlock ≠ r) : Strg w' B v l := World.ownsRow.kept h hg hr
theorem strg_mono {w : World} {B B' : Nat} {v : Value} {l : List ByteArray} (h : Strg w B' v l) (hb : B ≤ B') : Strg w B v l := by
  refine ⟨h.1, ?_⟩
  rcases h.2 with h2 | ⟨g, cap, cur, e, h1, r⟩
  · exact .inl h2
  · exact .inr ⟨g, cap, cur, e, Nat.le_trans hb h1, r⟩
theorem Strg.form {w : World} {B : Nat} {v : Value} {l : List ByteArray} (h : Strg w B v l) (hp : 0 < l.length) :
    ∃ g n cap, v = .slice (some ⟨g, 0, none⟩) n cap ∧ n = l.length ∧ n ≤ cap ∧ cap ≤ maxLen ∧ B ≤ g ∧ g < w.heap.size ∧ ∀ j, j < n → w.cell? ⟨g, j, none⟩ = some (.string (gs l j)) := by
  have h' := h
  rcases h.2 with ⟨_, h0⟩ | ⟨g, cap, cur, rfl, hb, hg, hnc, hcm, hcs, ht⟩
  · omega
  · refine ⟨g, _, cap, rfl, rfl, hnc, hcm, hb, (Array.getElem?_eq_some_iff.1 hg).1, fun j hj => ?_⟩
    have := World.ownsRow.cellAt h' j (by omega)
    rw [this]
    simp [strs, gs, hj]
theorem Strg.one (w : World) (B : Nat) (h : B ≤ w.heap.size) (s : ByteArray) : Strg (w.alloc (.cells #[.string s] 9)) B (.slice (some ⟨w.heap.size, 0, none⟩) 1 1) [s] :=
  World.ownsRow_lit (base := B) (e := 9) (size := 1) w #[.string s] 1 h (by unfold maxLen; omega) rfl

/-- 'append(s, x)' at strings -/
theorem wpList_appS {ops : Array Oper} {rest : List Oper} {o : Oper} {a : Act} {Q : Exit → Act → World → Prop} {W : World} (w0 : World) (hgd : o.guard = none) (s x : Operand)
    (ho : o.op = .call { callee := .builtin .append, args := #[s, x], argTypes := #[32, 32] })
    (B : Nat) (v : Value) (zs : List ByteArray) (hs : a.eval s = v) (hI : Strg w0 B v zs) (z : ByteArray) (nb : Nat) (hx : a.eval x = .slice (some ⟨nb, 0, none⟩) 1 1) (hnb : nb = w0.heap.size) (hl : zs.length < 16777216) (hB : B ≤ w0.heap.size) (hW : W = w0.alloc (.cells #[.string z] 9))
    (h : ∀ v' w', Strg w' B v' (zs ++ [z]) → Below B w0 w' → w0.grownBy w' v.ownBlock → wpList Tryd.prog ops Q rest (a.put o.dst v') w') : wpList Tryd.prog ops Q (o :: rest) a W := by
  subst hnb
  subst hW
  obtain ⟨i0, hi, hz0, hz1, hz2⟩ := info_parts Tryd.infoStr
  have hlt : ∀ b, v.ownBlock = some b → B ≤ b := fun b hb => (World.ownsRow.lt hI b hb).1
  refine wpList_append_own _ hgd s x 32 ho B 9 i0 (.string ⟨#[]⟩) 1 16 Tryd.underlying32 hi hz0 hz1 hz2 rfl (by decide) v zs.length (strs zs) hs (World.ownsRow.alloc hI _) ⟨w0.heap.size, 0, none⟩ 1 1 [.string z] hx rfl
    (cell_one_new _ _ _) (by intro u hu; simp at hu; subst hu; rfl) (by unfold maxLen; omega) (by omega) (by simp; omega) ?_
  intro v' w' h1 h2 _
  refine h v' w' ?_ (((Below.refl _ _).alloc hB _).grown h2 (by simp; omega) hlt) ((World.grownBy_alloc _ _ _).trans h2)
  unfold Strg
  rw [strs_snoc] at h1
  simpa using h1

/-- block b is a map[string]bool of at most N entries in which c is found as f c -/
def SMap (w : World) (b N : Nat) (f : ByteArray → Bool) : Prop :=
  ∃ D : DataW Unit, w.ownsMap Tryd.prog 9 (plainElem Tryd.prog 4) b N D ∧ IsMap D ∧ ∀ c : ByteArray, D.atKey (.string c.data.toList) (.lit (.bool false)) = .lit (.bool (f c))
theorem SMap.kept {w w' : World} {b N : Nat} {f : ByteArray → Bool} {row : Option Nat} (h : SMap w b N f) (hg : w.grownBy w' row) (hne : some b ≠ row) : SMap w' b N f := by
  obtain ⟨D, h1, h2, h3⟩ := h
  exact ⟨D, h1.kept hg hne, h2, h3⟩
theorem SMap.lt {w : World} {b N : Nat} {f : ByteArray → Bool} (h : SMap w b N f) : b < w.heap.size := by
  obtain ⟨D, h1, _⟩ := h
  exact h1.lt
theorem SMap.below {w w' : World} {b N : Nat} {f : ByteArray → Bool} (h : SMap w b N f) (hb : Below w.heap.size w w') : SMap w' b N f :=
  h.kept (row := none) ⟨hb.os, hb.tape, hb.output, hb.size, fun i hi _ => hb.block i hi⟩ (by simp)
theorem SMap.congr {w : World} {b N : Nat} {f g : ByteArray → Bool} (h : SMap w b N f) (e : ∀ c, f c = g c) : SMap w b N g := by
  obtain ⟨D, h1, h2, h3⟩ := h
  exact ⟨D, h1, h2, fun c => by rw [h3 c, e c]⟩
theorem SMap.mono {w : World} {b N N' : Nat} {f : ByteArray → Bool} (h : SMap w b N f) (e : N ≤ N') : SMap w b N' f := by
  obtain ⟨D, h1, h2, h3⟩ := h
  exact ⟨D, h1.mono e, h2, h3⟩
theorem SMap.made (w : World) : SMap (w.alloc (.map #[] 0)) w.heap.size 0 (fun _ => false) :=
  ⟨_, World.ownsMap_made _ _ _ _, isMap_empty, fun _ => rfl⟩
theorem SMap.put {w : World} {b N : Nat} {f : ByteArray → Bool} (h : SMap w b N f) (hN : N < maxLen) {c : ByteArray} (hc : c.size ≤ maxLen) :
    ∃ w', (Instr.mapUpdate 61 (.map (some b)) (.string c) (.bool true)).run Tryd.prog w = .ok () w' ∧ SMap w' b (N + 1) (fun x => decide (x = c) || f x) ∧ w.grownBy w' (some b) := by
  obtain ⟨D, h1, h2, h3⟩ := h
  obtain ⟨w', r1, r2, r3⟩ := h1.update (string_keyed Tryd.underlying9) Tryd.underlying61 hN (WideMaps.keyOf_string_mk Tryd.underlying9 hc) (plainElem_bool (H := Unit) Tryd.underlying4 true)
  refine ⟨w', r1, ⟨_, r2, h2.put _ _, fun x => ?_⟩, r3⟩
  by_cases e : x = c
  · subst e
    rw [atKey_put_same h2 (by trivial)]; simp
  · rw [atKey_put_other (by intro h; injection h with h; exact e (bytes_eq h)), h3]
    simp [e]
theorem plainElem_bool_inv {H : Type} {P : Program} {e : TypeId} (he : P.underlying e = some .bool) {v : Value} {z : DataW H × List MemPlace} (h : plainElem P e v = some z) : ∃ a, v = .bool a ∧ z = (.lit (.bool a), []) := by
  unfold plainElem at h
  rw [he] at h
  cases v <;> simp at h
  obtain rfl := h
  exact ⟨_, rfl, rfl⟩
theorem zeroBool (w : World) : (zeroValue 4).run Tryd.prog w = .ok (.bool false) w := by kernel_rfl
theorem SMap.get {w : World} {b N : Nat} {f : ByteArray → Bool} (h : SMap w b N f) {c : ByteArray} (hc : c.size ≤ maxLen) :
    (Instr.lookup 61 (.map (some b)) (.string c) false).run Tryd.prog w = .ok (.bool (f c)) w := by
  obtain ⟨D, h1, h2, h3⟩ := h
  obtain ⟨v, ps, hrun, hv⟩ := h1.lookup (string_keyed Tryd.underlying9) Tryd.underlying61 (zeroBool w) (plainElem_bool (H := Unit) Tryd.underlying4 false) (WideMaps.keyOf_string_mk Tryd.underlying9 hc)
  obtain ⟨a, rfl, e⟩ := plainElem_bool_inv Tryd.underlying4 hv
  have e1 := (Prod.mk.inj e).1
  rw [h3 c] at e1
  have e2 := DataW.lit.inj e1
  have e3 := Lit.bool.inj e2
  rw [hrun, e3]
theorem wpList_putS {ops : Array Oper} {rest : List Oper} {o : Oper} {a : Act} {Q : Exit → Act → World → Prop} {W : World} {b N : Nat} {f : ByteArray → Bool} (hg : o.guard = none) (h : SMap W b N f) (hN : N < maxLen) (c : ByteArray) (hc : c.size ≤ maxLen)
    (m x v : Operand) (hop : o.op = Op.mapUpdate 61 m x v) (hm : a.eval m = .map (some b)) (hx : a.eval x = .string c) (hv : a.eval v = .bool true)
    (hK : ∀ w', SMap w' b (N + 1) (fun x => decide (x = c) || f x) → W.grownBy w' (some b) → wpList Tryd.prog ops Q rest (a.put o.dst undef) w') : wpList Tryd.prog ops Q (o :: rest) a W := by
  refine wpList_plain hg fun K' hK' => ?_
  obtain ⟨w', r1, r2, r3⟩ := h.put hN hc
  unfold Oper.wp
  simp [execOp, hop, hm, hx, hv, r1, Result.andThen]
  exact hK' _ _ (hK w' r2 r3)
set_option maxRecDepth 100000 in
theorem upon_putS {o : Oper} {a : Act} {K : Act → World → Prop} {Q : Exit → Act → World → Prop} {W : World} {b N : Nat} {f : ByteArray → Bool} (h : SMap W b N f) (hN : N < maxLen) {c : ByteArray} (hc : c.size ≤ maxLen)
    (hK : ∀ w', SMap w' b (N + 1) (fun x => decide (x = c) || f x) → W.grownBy w' (some b) → Oper.upon Tryd.prog o a K Q (Result.ok Next.skip w')) :
    Oper.upon Tryd.prog o a K Q ((Sem.run Tryd.prog (Instr.mapUpdate 61 (.map (some b)) (.string c) (.bool true)) W).andThen fun a w' => Result.ok Next.skip w') := by
  obtain ⟨w', r1, r2, r3⟩ := h.put hN hc
  rw [r1]
  exact hK w' r2 r3

end Go.Proofs.YteoggpollgkfiaaDoor
