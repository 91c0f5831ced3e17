/- Isles and bridges as arguments: what can be read is isles' number and a slice that reads as bridges. -/
import Derived.Test.YtcpipacombnhdaaIb
import Derived.Deep.Slices
import Derived.Deep.Strs
import Derived.Deep.Fields
import Derived.ChangeSame
import Derived.Lib.SmallJoins
namespace Go.Proofs.Ytcpipacombnhdaa
set_option linter.unusedVariables false
open Go.RowKit Go.ChangeShapes Go.WideShapes Go.Deep Go.Joins

theorem intCells : Try.prog.cellsOf 3 = 1 := by kernel_rfl
set_option maxRecDepth 100000 in
theorem openBrs {H : Type} {enc : TypeId × Value → H} {W : World} {base n : Nat} {held : Bool} {v : Value} {y : DataW H × List MemPlace}
    (h : DataW.trod enc Try.prog W base (fun _ => true) held n 32 [v] = some y) :
    ∃ a len cap bs, v = .slice a len cap ∧ RdB W (.slice a len cap) bs ∧ len ≤ 9223372036854775807 := by
  rcases open_slice Try.underlying32 h with ⟨hcs, _⟩ | ⟨a, len, cap, m, n', D, Pl, hcs, _, hl, hm, hmm, _, hi⟩
  · injection hcs with hcs
    exact ⟨none, 0, 0, [], hcs, ⟨_, _, _, rfl, rfl, ⟨Nat.le_refl _, fun _ => rfl⟩, by unfold maxLen; omega, fun j hj => absurd hj (Nat.not_lt_zero _)⟩, by omega⟩
  · injection hcs with hcs
    rw [if_pos rfl] at hmm
    have hC : Try.prog.cellsOf 65 = 3 := by kernel_rfl
    have sp : 0 < len → a.spot = none := by
      intro h0
      obtain ⟨cs', hc, ht'⟩ := hi 0 (by omega)
      rw [hC] at hc
      obtain ⟨_, hcl, hat⟩ := World.cells?_some hc
      have a0 := hat 0 (by omega)
      rw [List.getElem?_eq_getElem (by omega)] at a0
      have := World.cell?_spot a0
      simpa [Addr.add] using this
    have key : ∀ i, ∃ q : Br, i < len → ∃ b off, a = ⟨b, off, none⟩ ∧ b < W.heap.size ∧ BrAt W b (off + i * 3) q := by
      intro i
      by_cases hil : i < len
      · obtain ⟨cs', hc, ht'⟩ := hi i (by omega)
        rw [hC] at hc
        obtain ⟨y0, y1, y2, k, _, hcl, h0, h1, h2⟩ := trod_struct3 Try.underlying65 ht'
        obtain ⟨_, hcl, hat⟩ := World.cells?_some hc
        match cs', hcl, hat, h0, h1, h2 with
        | [c0, c1, c2], _, hat, h0, h1, h2 =>
          simp only [intCells, List.drop_zero, List.drop_succ_cons, List.take_succ_cons, List.take_zero] at h0 h1 h2
          obtain ⟨x, e0, _, _⟩ := DataW.trod_int Try.underlying3 h0
          obtain ⟨y, e1, _, _⟩ := DataW.trod_int Try.underlying3 h1
          obtain ⟨z, e2, _, _⟩ := DataW.trod_int Try.underlying3 h2
          injection e0 with e0
          injection e1 with e1
          injection e2 with e2
          subst e0 e1 e2
          have a0 := hat 0 (by simp)
          have a1 := hat 1 (by simp)
          have a2 := hat 2 (by simp)
          obtain ⟨b, off, spot⟩ := a
          have hspot : spot = none := sp (by omega)
          subst hspot
          have ad : ∀ o j, (⟨b, o, none⟩ : Addr).add j = ⟨b, o + j, none⟩ := fun o j => by (simp [Addr.add]; try omega)
          simp only [ad] at a0 a1 a2
          refine ⟨(x, y, z), fun _ => ⟨b, off, rfl, World.block_lt_of_cell? W _ a0, ?_⟩⟩
          refine ⟨?_, ?_, ?_⟩
          · simpa using a0
          · exact a1
          · exact a2
      · exact ⟨(0, 0, 0), fun h => absurd h hil⟩
    have key2 : ∃ f : Nat → Br, ∀ i, i < len → ∃ b off, a = ⟨b, off, none⟩ ∧ b < W.heap.size ∧ BrAt W b (off + i * 3) (f i) := ⟨fun i => Classical.choose (key i), fun i => Classical.choose_spec (key i)⟩
    obtain ⟨f, hf⟩ := key2
    refine ⟨some a, len, cap, (List.range len).map f, hcs, ⟨_, _, _, rfl, by simp, ⟨hl, fun h => by cases h⟩, hm, fun j hj => ?_⟩, by unfold maxLen at hm; omega⟩
    obtain ⟨b, off, e, h1, h2⟩ := hf j hj
    refine ⟨b, off, by rw [e], h1, ?_⟩
    have : gb ((List.range len).map f) j = f j := by simp [gb, hj]
    rw [this]; exact h2

set_option maxRecDepth 100000 in
theorem openIsles {H : Type} {enc : TypeId × Value → H} {W : World} {r : Reach} {b0 base : Nat} {held : Bool} {v : Value} {d : DataW H} {p : List MemPlace}
    (hv : Value.okWide Try.prog W r b0 34 v) (h : DataW.Trod enc Try.prog W base (fun _ => true) held 34 v d p) :
    ∃ n a len cap bs, v = .agg #[.int .i64 n, .slice a len cap] ∧ RdB W (.slice a len cap) bs ∧ len ≤ 9223372036854775807 := by
  obtain ⟨v0, v1, y0, y1, k, rfl, _, _, h0, h1⟩ := open_agg2 Try.underlying34 (by kernel_rfl) (by kernel_rfl) hv h
  obtain ⟨n, e0, _, _⟩ := DataW.trod_int Try.underlying3 h0
  injection e0 with e0
  subst e0
  obtain ⟨a, len, cap, bs, rfl, hR, hm⟩ := openBrs h1
  exact ⟨n, a, len, cap, bs, rfl, hR, hm⟩

set_option maxRecDepth 100000 in
theorem openBridge {H : Type} {enc : TypeId × Value → H} {W : World} {r : Reach} {b0 base : Nat} {spare : Nat → Bool} {held : Bool} {v : Value} {d : DataW H} {p : List MemPlace}
    (hv : Value.okWide Try.prog W r b0 65 v) (h : DataW.Trod enc Try.prog W base spare held 65 v d p) :
    ∃ x y z, v = .agg #[.int .i64 x, .int .i64 y, .int .i64 z] := by
  obtain ⟨v0, v1, v2, y0, y1, y2, k, rfl, _, _, h0, h1, h2⟩ := open_agg3 Try.underlying65 (by kernel_rfl) (by kernel_rfl) hv h
  obtain ⟨x, e0, _, _⟩ := DataW.trod_int Try.underlying3 h0
  obtain ⟨y, e1, _, _⟩ := DataW.trod_int Try.underlying3 h1
  obtain ⟨z, e2, _, _⟩ := DataW.trod_int Try.underlying3 h2
  injection e0 with e0
  injection e1 with e1
  injection e2 with e2
  subst e0 e1 e2
  exact ⟨x, y, z, rfl⟩
end Go.Proofs.Ytcpipacombnhdaa
