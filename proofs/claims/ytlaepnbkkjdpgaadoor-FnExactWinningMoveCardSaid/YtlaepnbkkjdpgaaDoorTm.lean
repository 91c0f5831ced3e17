/- A map[frogTurn]bool of the call's own: the turns of which is known who wins. -/
import Derived.Test.YtlaepnbkkjdpgaaDoorWin
import Derived.Test.YtlaepnbkkjdpgaaDoorBfs
import Derived.Maps.Own
import Derived.Maps.OwnOps
import Derived.Maps.OwnSet
import Derived.Maps.Views
import Derived.DeepKeys4
import Derived.Carry
namespace Go.Proofs.YtlaepnbkkjdpgaaDoor
set_option linter.unusedVariables false
open Go.RowKit Go.Maps

def tk (s : ByteArray) (r : Bool) : Value := .agg #[.string s, .bool r]
def tl (s : ByteArray) (r : Bool) : Lit := .string (keyBytes [.string s.data.toList, .bool r])
theorem tCells : Tryd.prog.cellsOf 56 = 2 := by kernel_rfl
theorem sCells : Tryd.prog.cellsOf 9 = 1 := by kernel_rfl
theorem bCells : Tryd.prog.cellsOf 4 = 1 := by kernel_rfl
theorem tFormed (s : ByteArray) (r : Bool) : (tk s r).formed Tryd.prog 56 = true := by simp [tk, Value.formed, Tryd.underlying56, tCells]
theorem tKeyType : Tryd.prog.keyType 56 = true := by kernel_rfl
theorem tLits (d : Nat) (s : ByteArray) (r : Bool) (hs : s.size ≤ maxLen) : Tryd.prog.keyLits (d + 2) 56 [.string s, .bool r] = some [.string s.data.toList, .bool r] := by
  simp [Program.keyLits, Tryd.underlying56, Tryd.underlying9, Tryd.underlying4, tCells, sCells, bCells, hs]
theorem tSize : ∃ d, Tryd.prog.types.size + 1 = d + 2 := ⟨Tryd.prog.types.size - 1, by have : 0 < Tryd.prog.types.size := of_decide_eq_true (by kernel_rfl); omega⟩
theorem tKey (s : ByteArray) (r : Bool) (hs : s.size ≤ maxLen) : keyOf Tryd.prog 56 (tk s r) = some (tl s r) := by
  obtain ⟨d, hd⟩ := tSize
  unfold keyOf
  rw [Tryd.underlying56]
  simp only [tKeyType, tFormed, Bool.and_self, if_true]
  show (Tryd.prog.keyLits (Tryd.prog.types.size + 1) 56 [.string s, .bool r]).map _ = _
  rw [hd, tLits d s r hs]
  rfl
theorem tWide : (match Tryd.prog.underlying 56 with | some (.array _ _) | some (.struct _) => true | _ => false) = true := by rw [Tryd.underlying56]
theorem tLaid : laidOutB Tryd.prog = true := by kernel_rfl
theorem tRow : (56 : TypeId) < Tryd.prog.types.size := of_decide_eq_true (by kernel_rfl)
theorem tKt : Tryd.prog.keyTypeAt 2 56 = true := by kernel_rfl
theorem tKeyed : Keyed Tryd.prog 56 := Keyed.of_law (deep_law_laid tLaid (m := 2) (by omega) tRow tKt (by rw [Tryd.underlying56]))
theorem tl_inj {s q : ByteArray} {r f : Bool} (hs : s.size ≤ maxLen) (hq : q.size ≤ maxLen) (h : tl s r = tl q f) : s = q ∧ r = f := by
  have := tKeyed.inj (tKey s r hs) (h ▸ tKey q f hq)
  unfold tk at this
  simp at this
  exact this
def memT (K : List (ByteArray × Bool)) (s : ByteArray) (r : Bool) : Bool := K.any fun x => decide (x = (s, r))
theorem memT_iff {K : List (ByteArray × Bool)} {s : ByteArray} {r : Bool} : memT K s r = true ↔ (s, r) ∈ K := by
  unfold memT
  rw [List.any_eq_true]
  exact ⟨fun ⟨x, h1, h2⟩ => by have := of_decide_eq_true h2; subst this; exact h1, fun h => ⟨_, h, by simp⟩⟩
/-- block b is a map of just these turns, each with who wins -/
def TMap (w : World) (b z : Nat) (K : List (ByteArray × Bool)) : Prop :=
  (∃ D : DataW Unit, w.ownsMap Tryd.prog 56 (plainElem Tryd.prog 4) b K.length D ∧ IsMap D ∧ ∀ s r, s.size ≤ maxLen → Maps.has D (tl s r) = memT K s r ∧ D.atKey (tl s r) (.lit (.bool false)) = .lit (.bool (memT K s r && decide (0 ≤ win s r)))) ∧ K.Nodup ∧ ∀ x ∈ K, isPd x.1 = true ∧ x.1.size = z
theorem TMap.kept {w w' : World} {b z : Nat} {K : List (ByteArray × Bool)} {row : Option Nat} (h : TMap w b z K) (hg : w.grownBy w' row) (hne : some b ≠ row) : TMap w' b z K := by
  obtain ⟨⟨D, h1, h2⟩, h3⟩ := h
  exact ⟨⟨D, h1.kept hg hne, h2⟩, h3⟩
theorem TMap.lt {w : World} {b z : Nat} {K : List (ByteArray × Bool)} (h : TMap w b z K) : b < w.heap.size := by
  obtain ⟨⟨D, h1, _⟩, _⟩ := h
  exact h1.lt
theorem TMap.below {w w' : World} {b z : Nat} {K : List (ByteArray × Bool)} (h : TMap w b z K) (hb : Below w.heap.size w w') : TMap w' b z K :=
  h.kept (row := none) ⟨hb.os, hb.tape, hb.output, hb.size, fun i hi _ => hb.block i hi⟩ (by simp)
theorem TMap.made (w : World) (z : Nat) : TMap (w.alloc (.map #[] 0)) w.heap.size z [] :=
  ⟨⟨_, World.ownsMap_made _ _ _ _, isMap_empty, fun _ _ _ => ⟨rfl, rfl⟩⟩, List.nodup_nil, by simp⟩
theorem TMap.len {w : World} {b z : Nat} {K : List (ByteArray × Bool)} (h : TMap w b z K) (hz : z ≤ 9) : K.length ≤ 524288 := by
  obtain ⟨_, hn, hp⟩ := h
  have e : ∀ q ∈ K, ∀ c ∈ q.1.data.toList, psgn c = true := fun q hq => by
    have := (hp q hq).1
    simp only [isPd, Bool.and_eq_true, List.all_eq_true] at this
    exact this.2
  have hm : (K.map fun q => 2 * encL q.1.data.toList + (if q.2 then 1 else 0)).Nodup := by
    unfold List.Nodup
    rw [List.pairwise_map]
    refine List.Pairwise.imp_of_mem ?_ hn
    intro a b ha hb hne he
    apply hne
    have h1 : encL a.1.data.toList = encL b.1.data.toList := by
      split at he <;> split at he <;> omega
    have h2 : a.2 = b.2 := by
      cases h3 : a.2 <;> cases h4 : b.2 <;> simp [h3, h4] at he ⊢ <;> omega
    refine Prod.ext ?_ h2
    apply ByteArray.ext
    apply Array.toList_inj.1
    refine encL_inj _ _ (e a ha) (e b hb) ?_ h1
    have h1 := (hp a ha).2
    have h2 := (hp b hb).2
    simp only [Array.length_toList]
    exact h1.trans h2.symm
  have hl := nodup_len 524288 _ hm (fun x hx => by
    obtain ⟨q, hq, rfl⟩ := List.mem_map.1 hx
    have h1 := encL_lt q.1.data.toList
    have h2 : q.1.data.toList.length ≤ 9 := by have := (hp q hq).2; simp only [Array.length_toList]; show q.1.size ≤ 9; omega
    have h3 : 4 ^ q.1.data.toList.length ≤ 4 ^ 9 := Nat.pow_le_pow_right (by omega) h2
    split <;> omega)
  simpa using hl
theorem tBool_inv {H : Type} {P : Program} {e : TypeId} (he : P.underlying e = some .bool) {v : Value} {z : DataW H × List MemPlace} (h : plainElem P e v = some z) : ∃ a, v = .bool a ∧ z = (.lit (.bool a), []) := by
  unfold plainElem at h
  rw [he] at h
  cases v <;> simp at h
  obtain rfl := h
  exact ⟨_, rfl, rfl⟩
theorem tZero (w : World) : (zeroValue 4).run Tryd.prog w = .ok (.bool false) w := by kernel_rfl
theorem TMap.getok {w : World} {b z : Nat} {K : List (ByteArray × Bool)} (h : TMap w b z K) {s : ByteArray} (hs : s.size ≤ maxLen) (r : Bool) :
    (Instr.lookup 57 (.map (some b)) (.agg #[.string s, .bool r]) true).run Tryd.prog w = .ok (.tuple #[.bool (memT K s r && decide (0 ≤ win s r)), .bool (memT K s r)]) w := by
  obtain ⟨⟨D, h1, h2, h3⟩, _⟩ := h
  obtain ⟨v, ps, hrun, hv⟩ := h1.look_ok tKeyed Tryd.underlying57 (tZero w) (plainElem_bool (H := Unit) Tryd.underlying4 false) (tKey s r hs)
  obtain ⟨x, rfl, e⟩ := tBool_inv Tryd.underlying4 hv
  have e1 := (Prod.mk.inj e).1
  rw [(h3 s r hs).2] at e1
  have e2 := DataW.lit.inj e1
  have e3 := Lit.bool.inj e2
  refine hrun.trans ?_
  rw [e3, (h3 s r hs).1]
theorem TMap.put {w : World} {b z : Nat} {K : List (ByteArray × Bool)} (h : TMap w b z K) (hz : z ≤ 9) {s : ByteArray} (hp : isPd s = true) (hsz : s.size = z) {r : Bool} (hn : ¬ (s, r) ∈ K) :
    ∃ w', (Instr.mapUpdate 57 (.map (some b)) (.agg #[.string s, .bool r]) (.bool (decide (0 ≤ win s r)))).run Tryd.prog w = .ok () w' ∧ TMap w' b z ((s, r) :: K) ∧ w.grownBy w' (some b) := by
  have hlen := h.len hz
  obtain ⟨⟨D, h1, h2, h3⟩, h4, h5⟩ := h
  have hs : s.size ≤ maxLen := by unfold maxLen; omega
  obtain ⟨w', r1, r2, r3⟩ := h1.update tKeyed Tryd.underlying57 (by unfold maxLen; omega) (tKey s r hs) (plainElem_bool (H := Unit) Tryd.underlying4 (decide (0 ≤ win s r)))
  refine ⟨w', r1, ⟨⟨_, r2, h2.put _ _, fun q f hq => ?_⟩, List.nodup_cons.2 ⟨hn, h4⟩, fun x hx => ?_⟩, r3⟩
  · have hm : memT ((s, r) :: K) q f = (decide ((s, r) = (q, f)) || memT K q f) := by simp [memT]
    by_cases e : (s, r) = (q, f)
    · obtain ⟨rfl, rfl⟩ := Prod.mk.inj e
      rw [hm, decide_eq_true e, Bool.true_or, Bool.true_and, has_put_same h2 (by trivial), atKey_put_same h2 (by trivial)]
      exact ⟨rfl, rfl⟩
    · have hne : tl q f ≠ tl s r := fun h => e (by obtain ⟨a, b⟩ := tl_inj hq hs h; rw [a, b])
      rw [hm, decide_eq_false e, Bool.false_or, has_put_other hne, atKey_put_other hne]
      exact h3 q f hq
  · rcases List.mem_cons.1 hx with rfl | hx
    · exact ⟨hp, hsz⟩
    · exact h5 x hx
end Go.Proofs.YtlaepnbkkjdpgaaDoor
