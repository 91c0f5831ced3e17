/- spec.ParsePuzzle. -/
import Derived.Test.YtcpipacombnhdaaDoorKpw
namespace Go.Proofs.YtcpipacombnhdaaDoor
set_option linter.unusedVariables false
open Go.RowKit

set_option maxHeartbeats 2000000 in
theorem specParseIsles (t : ByteArray) (w : World) (hs : t.size ≤ 1048576) :
    Calls Tryd.prog 10 #[.string t] w fun e w' => ∃ u, e = .returned (.tuple #[.agg #[.int .i64 (pN t), u], .bool (pOK t)]) ∧ Brs w' w.heap.size u (pL t) ∧ Below w.heap.size w w' := by
  have SP := Lib.hid (fun wx => pzParse t wx hs)
  have NO := Lib.hid (fun h : pOK t = false => (by unfold pOK at h; exact p_none (by cases hh : ansI t with
    | none => rfl
    | some q => rw [hh] at h; cases h) : pOK t = false ∧ pN t = 0 ∧ pL t = []))
  have X1 := Lib.hid (Blk.new w #[.int .i64 0, .slice none 0 0] 30)
  have D1 := Lib.hid ((Below.refl w.heap.size w).alloc (Nat.le_refl _) (.cells #[.int .i64 0, .slice none 0 0] 30))
  go_enter Tryd.func10, Tryd.ntmps10
  go_wp2_with fail
  refine (SP.out _).mono ?_
  rintro e w1 ⟨n, u, rfl, ⟨cs, hU, hY⟩, hb1⟩
  have BX := Lib.hid (X1.out.below hb1 (by simp))
  have D2 := Lib.hid (D1.out.trans (hb1.mono (by simp)))
  have HU := Lib.hid (hU.mono (B := w.heap.size + 1) (by simp))
  obtain ⟨ua, ul, uc, rfl, hul⟩ := hU.rd
  have hcl : w.heap.size < w1.heap.size := BX.out.lt
  clear hb1 hul hU
  have BX2 := Lib.hid (BX.out.alloc (.cells #[.int .i64 n, .slice ua ul uc] 30))
  have P2 := Lib.hid (Blk.new w1 #[.int .i64 n, .slice ua ul uc] 30)
  have D3 := Lib.hid (D2.out.alloc D2.out.size (.cells #[.int .i64 n, .slice ua ul uc] 30))
  have HU2 := Lib.hid (HU.out.below ((Below.refl w1.heap.size w1).alloc (Nat.le_refl _) (.cells #[.int .i64 n, .slice ua ul uc] 30)))
  obtain ⟨c0, c1, cl⟩ := BX2.out.two
  obtain ⟨q0, q1, ql⟩ := P2.out.two
  have f0 := BX.out.fr 0
  have f1 := BX.out.fr 1
  obtain ⟨b0, b1, bl⟩ := BX.out.two
  clear BX2 P2 D3 HU2 c0 c1 cl q0 q1 ql X1 D1
  cases hp : pOK t with
  | false =>
    have EE := Lib.hid (NO.out hp)
    clear hY hp
    go_wp2
    have t := (((BX.out.set 0 (.int .i64 0)).set 1 (.slice none 0 0)).alloc (.cells #[.int .i64 n, .slice ua ul uc] 30))
    have DD := Lib.hid (((D2.out.setCell (p := ⟨w.heap.size, 0, none⟩) (Nat.le_refl _) (.int .i64 0)).setCell (p := ⟨w.heap.size, 1, none⟩) (Nat.le_refl _) (.slice none 0 0)).alloc (by have := D2.out.size; simp; omega) (.cells #[.int .i64 n, .slice ua ul uc] 30))
    have II := Lib.hid (((HU.out.far (p := ⟨w.heap.size, 0, none⟩) (Nat.lt_succ_self _) (.int .i64 0)).far (p := ⟨w.heap.size, 1, none⟩) (Nat.lt_succ_self _) (.slice none 0 0)).below ((Below.refl _ _).alloc (Nat.le_refl _) (.cells #[.int .i64 n, .slice ua ul uc] 30)))
    generalize World.alloc _ _ = W2 at *
    have e0 : W2.cell? ⟨w.heap.size, 0, none⟩ = some (.int .i64 0) := (t.cell 0).trans (by simp)
    have e1 : W2.cell? ⟨w.heap.size, 1, none⟩ = some (.slice none 0 0) := (t.cell 1).trans (by simp)
    refine bodyPost_ret (v := .tuple #[.agg #[(.int .i64 0), (.slice none 0 0)], .bool false]) (by simp [results, Tryd.f10, go_sem, e0, e1]) rfl ?_
    rw [EE.out.1, EE.out.2.1, EE.out.2.2]
    exact ⟨_, rfl, Brs.nil _ _, DD.out⟩
  | true =>
    have EY := Lib.hid (And.intro hp (hY hp))
    clear hY hp NO SP
    go_wp2
    have t := (((BX.out.set 0 (.int .i64 n)).set 1 (.slice ua ul uc)).alloc (.cells #[.int .i64 n, .slice ua ul uc] 30))
    have DD := Lib.hid (((D2.out.setCell (p := ⟨w.heap.size, 0, none⟩) (Nat.le_refl _) (.int .i64 n)).setCell (p := ⟨w.heap.size, 1, none⟩) (Nat.le_refl _) (.slice ua ul uc)).alloc (by have := D2.out.size; simp; omega) (.cells #[.int .i64 n, .slice ua ul uc] 30))
    have II := Lib.hid (((HU.out.far (p := ⟨w.heap.size, 0, none⟩) (Nat.lt_succ_self _) (.int .i64 n)).far (p := ⟨w.heap.size, 1, none⟩) (Nat.lt_succ_self _) (.slice ua ul uc)).below ((Below.refl _ _).alloc (Nat.le_refl _) (.cells #[.int .i64 n, .slice ua ul uc] 30)))
    generalize World.alloc _ _ = W2 at *
    have e0 : W2.cell? ⟨w.heap.size, 0, none⟩ = some (.int .i64 n) := (t.cell 0).trans (by simp)
    have e1 : W2.cell? ⟨w.heap.size, 1, none⟩ = some (.slice ua ul uc) := (t.cell 1).trans (by simp)
    refine bodyPost_ret (v := .tuple #[.agg #[(.int .i64 n), (.slice ua ul uc)], .bool true]) (by simp [results, Tryd.f10, go_sem, e0, e1]) rfl ?_
    rw [EY.out.1, ← EY.out.2.1, ← EY.out.2.2]
    exact ⟨_, rfl, II.out.mono (Nat.le_succ _), DD.out⟩
end Go.Proofs.YtcpipacombnhdaaDoor
