/- spec.ParseIsles. -/
import Derived.Test.YthdmmliipmmfbacDoorIpw
namespace Go.Proofs.YthdmmliipmmfbacDoor
set_option linter.unusedVariables false
open Go.RowKit

set_option maxHeartbeats 2000000 in
theorem specParseIsles (t : ByteArray) (w : World) (hs : t.size ≤ 1048576) :
    Calls Tryd.prog 4 #[.string t] w fun e w' => ∃ u, e = .returned (.tuple #[.agg #[.int .i64 (pN t), u], .bool (pOK t)]) ∧ Brs w' w.heap.size u (pL t) ∧ Below w.heap.size w w' := by
  have SP := Lib.hid (fun wx => isParse t wx hs)
  generalize pN t = n at *
  generalize pOK t = ok at *
  generalize pL t = cs at *
  have X1 := Lib.hid (Blk.new w #[.int .i64 0, .slice none 0 0] 24)
  have D1 := Lib.hid ((Below.refl w.heap.size w).alloc (Nat.le_refl _) (.cells #[.int .i64 0, .slice none 0 0] 24))
  go_enter Tryd.func4, Tryd.ntmps4
  go_wp2_with fail
  refine (SP.out _).mono ?_
  rintro e w1 ⟨u, rfl, hU, hb1⟩
  have BX := Lib.hid (X1.out.below hb1 (by simp))
  have D2 := Lib.hid (D1.out.trans (hb1.mono (by simp)))
  have HU := Lib.hid (hU.mono (B := w.heap.size + 1) (by simp))
  obtain ⟨ua, ul, uc, rfl, hul⟩ := hU.rd
  obtain ⟨c0, c1, cl⟩ := BX.out.two
  have f0 := BX.out.fr 0
  have f1 := BX.out.fr 1
  clear hb1 hul hU
  go_wp2
  have t := (BX.out.set 0 (.int .i64 n)).set 1 (.slice ua ul uc)
  have e0 : ((w1.setCell ⟨w.heap.size, 0, none⟩ (.int .i64 n)).setCell ⟨w.heap.size, 1, none⟩ (.slice ua ul uc)).cell? ⟨w.heap.size, 0, none⟩ = some (.int .i64 n) := (t.cell 0).trans (by simp)
  have e1 : ((w1.setCell ⟨w.heap.size, 0, none⟩ (.int .i64 n)).setCell ⟨w.heap.size, 1, none⟩ (.slice ua ul uc)).cell? ⟨w.heap.size, 1, none⟩ = some (.slice ua ul uc) := (t.cell 1).trans (by simp)
  refine bodyPost_ret (v := .tuple #[.agg #[.int .i64 n, .slice ua ul uc], .bool ok]) (by simp [results, Tryd.f4, go_sem, e0, e1]) rfl ?_
  refine ⟨_, rfl, ?_, (D2.out.setCell (p := ⟨w.heap.size, 0, none⟩) (Nat.le_refl _) _).setCell (p := ⟨w.heap.size, 1, none⟩) (Nat.le_refl _) _⟩
  exact ((HU.out.far (p := ⟨w.heap.size, 0, none⟩) (Nat.lt_succ_self _) _).far (p := ⟨w.heap.size, 1, none⟩) (Nat.lt_succ_self _) _).mono (Nat.le_succ _)
end Go.Proofs.YthdmmliipmmfbacDoor
