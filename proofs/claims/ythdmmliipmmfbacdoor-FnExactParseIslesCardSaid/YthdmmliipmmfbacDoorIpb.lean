/- impl.parseBridge. -/
import Derived.Test.YthdmmliipmmfbacDoorPci
import Derived.Test.YthdmmliipmmfbacDoorIpp
namespace Go.Proofs.YthdmmliipmmfbacDoor
set_option linter.unusedVariables false
open Go.RowKit

theorem ok_at {x : ByteArray} {z : Int} : Ok x z ↔ atN x.data.toList = some z := by
  unfold Ok atN
  cases Lib.atoiAll x.data.toList <;> simp
theorem cutG (s : ByteArray) (d : UInt8) (w : World) (hs : s.size ≤ 1048576) (hL : Lb w) :
    Calls Tryd.prog 10 #[.string s, .string ⟨#[d]⟩] w fun e w' => ∃ b, e = .returned (.tuple #[.string ⟨(Lib.cut s.data.toList [d]).1.toArray⟩, .string ⟨(Lib.cut s.data.toList [d]).2.1.toArray⟩, .bool b]) ∧ Below w.heap.size w w' := by
  obtain ⟨_, ⟨_, m, hm⟩, _⟩ := hL
  refine (Tryd.strings_Cut s ⟨#[d]⟩ m w (by omega) hm).mono ?_
  rintro e w' ⟨rfl, n, rfl⟩
  exact ⟨_, rfl, below_drewN (Below.refl _ _) n⟩
/-- what parseBridge hands back -/
def pbV (o : Option Br) : Value := match o with
  | some b => .tuple #[.agg #[.int .i64 b.1, .int .i64 b.2.1, .int .i64 b.2.2], .bool true]
  | none => .tuple #[.agg #[.int .i64 0, .int .i64 0, .int .i64 0], .bool false]
/-- the three words of a bridge's text -/
def wA (s : ByteArray) : ByteArray := ⟨(Lib.cut (Lib.cut s.data.toList [58]).1 [45]).1.toArray⟩
def wB (s : ByteArray) : ByteArray := ⟨(Lib.cut (Lib.cut s.data.toList [58]).1 [45]).2.1.toArray⟩
def wC (s : ByteArray) : ByteArray := ⟨(Lib.cut s.data.toList [58]).2.1.toArray⟩
theorem qB_words (s : ByteArray) : qB s.data.toList = match atN (wA s).data.toList with
    | none => none
    | some a => match atN (wB s).data.toList with
      | none => none
      | some b => match atN (wC s).data.toList with
        | none => none
        | some c => some (a, b, c) := by
  unfold qB wA wB wC
  simp only
  cases atN (Lib.cut (Lib.cut s.data.toList [58]).1 [45]).1 with
  | none => rfl
  | some a =>
    cases atN (Lib.cut (Lib.cut s.data.toList [58]).1 [45]).2.1 with
    | none => rfl
    | some b =>
      cases atN (Lib.cut s.data.toList [58]).2.1 with
      | none => rfl
      | some c => rfl
theorem w_sz (s : ByteArray) : (wA s).size ≤ s.size ∧ (wB s).size ≤ s.size ∧ (wC s).size ≤ s.size := by
  have h1 := cut_le s.data.toList [58]
  have h2 := cut_le (Lib.cut s.data.toList [58]).1 [45]
  have z3 : s.data.toList.length = s.size := by rw [Array.length_toList]; rfl
  have y1 : (wA s).size = (Lib.cut (Lib.cut s.data.toList [58]).1 [45]).1.length := by simp [wA, ByteArray.size]
  have y2 : (wB s).size = (Lib.cut (Lib.cut s.data.toList [58]).1 [45]).2.1.length := by simp [wB, ByteArray.size]
  have y3 : (wC s).size = (Lib.cut s.data.toList [58]).2.1.length := by simp [wC, ByteArray.size]
  omega
theorem qB_no {s : ByteArray} (h : atN (wA s).data.toList = none ∨ atN (wB s).data.toList = none ∨ atN (wC s).data.toList = none) : pbV (qB s.data.toList) = .tuple #[.agg #[.int .i64 0, .int .i64 0, .int .i64 0], .bool false] := by
  rw [qB_words]
  rcases h with h | h | h
  · rw [h]; rfl
  · rw [h]; cases atN (wA s).data.toList <;> rfl
  · rw [h]; cases atN (wA s).data.toList <;> cases atN (wB s).data.toList <;> rfl
theorem qB_yes {s : ByteArray} {a b c : Int} (h1 : atN (wA s).data.toList = some a) (h2 : atN (wB s).data.toList = some b) (h3 : atN (wC s).data.toList = some c) : pbV (qB s.data.toList) = .tuple #[.agg #[.int .i64 a, .int .i64 b, .int .i64 c], .bool true] := by
  rw [qB_words, h1, h2, h3]; rfl
theorem three_set {w : World} {g : Nat} {a b c' c d e : Value} (h : Blk w g #[a, b, c']) : Blk (((w.setCell ⟨g, 0, none⟩ c).setCell ⟨g, 1, none⟩ d).setCell ⟨g, 2, none⟩ e) g #[c, d, e] := ((h.set 0 c).set 1 d).set 2 e
theorem three_below {w w' : World} {B g : Nat} (h : Below B w w') (hB : B ≤ g) (c d e : Value) : Below B w (((w'.setCell ⟨g, 0, none⟩ c).setCell ⟨g, 1, none⟩ d).setCell ⟨g, 2, none⟩ e) :=
  ((h.setCell (p := ⟨g, 0, none⟩) hB c).setCell (p := ⟨g, 1, none⟩) hB d).setCell (p := ⟨g, 2, none⟩) hB e
theorem Blk.three4 {w : World} {g : Nat} {x y z : Value} (h : Blk w g #[x, y, z]) : w.cell? ⟨g, 0, none⟩ = some x ∧ w.cell? ⟨g, 1, none⟩ = some y ∧ w.cell? ⟨g, 2, none⟩ = some z ∧ g < w.heap.size := ⟨h.cell 0, h.cell 1, h.cell 2, h.lt⟩
theorem und3S : Tryd.prog.underlying 52 = some (.array 3 9) := by kernel_rfl
theorem cellsS : Tryd.prog.cellsOf 9 = 1 := by kernel_rfl
theorem idx3 (a b c : ByteArray) (w : World) :
    (Instr.index 52 (.agg #[.string a, .string b, .string c]) (.int .i64 0)).run Tryd.prog w = .ok (.string a) w ∧ (Instr.index 52 (.agg #[.string a, .string b, .string c]) (.int .i64 1)).run Tryd.prog w = .ok (.string b) w ∧ (Instr.index 52 (.agg #[.string a, .string b, .string c]) (.int .i64 2)).run Tryd.prog w = .ok (.string c) w := by
  have u3 := Tryd.underlying9
  have a3 := Tryd.isAgg9
  have z3 := Tryd.sizeOf9
  refine ⟨?_, ?_, ?_⟩ <;> (unfold Instr.index; simp only [Sem.run_bind, run_underlying und3S, Result.andThen_ok]; go_simp)
set_option maxRecDepth 20000 in
set_option maxHeartbeats 4000000 in
theorem parseBridge (s : ByteArray) (w : World) (hs : s.size ≤ 1048576) (hL : Lb w) :
    Calls Tryd.prog 13 #[.string s] w fun e w' => e = .returned (pbV (qB s.data.toList)) ∧ Below w.heap.size w w' := by
  have X1 := Lib.hid (Blk.new w #[.int .i64 0, .int .i64 0, .int .i64 0] 39)
  have D1 := Lib.hid ((Below.refl w.heap.size w).alloc (Nat.le_refl _) (.cells #[.int .i64 0, .int .i64 0, .int .i64 0] 39))
  have L0 := Lib.hid hL
  have C1 := Lib.hid (fun wx h => cutG s 58 wx hs h)
  have hz := cut_le s.data.toList [58]
  have z3 : s.data.toList.length = s.size := by rw [Array.length_toList]; rfl
  have C2 := Lib.hid (fun wx h => cutG ⟨(Lib.cut s.data.toList [58]).1.toArray⟩ 45 wx (by simp [ByteArray.size]; omega) h)
  obtain ⟨za, zb, zc⟩ := w_sz s
  have NO := Lib.hid (qB_no (s := s))
  have YES := Lib.hid (fun a b c h1 h2 h3 => qB_yes (s := s) (a := a) (b := b) (c := c) h1 h2 h3)
  clear hL hz z3
  go_enter Tryd.func13, Tryd.ntmps13
  go_wp2_with fail
  refine (C1.out _ (L0.out.below D1.out)).mono ?_
  rintro e w1 ⟨bb, rfl, hb1⟩
  have BX := Lib.hid (X1.out.below hb1 (by simp))
  have D2 := Lib.hid (D1.out.trans (hb1.mono (by simp)))
  have hs1 := D2.out.size
  clear hb1 X1 D1 C1
  go_wp2_with fail
  refine (C2.out _ (L0.out.below D2.out)).mono ?_
  rintro e w2 ⟨bb2, rfl, hb2⟩
  have BX2 := Lib.hid (BX.out.below hb2 BX.out.lt)
  have D3 := Lib.hid (D2.out.trans (hb2.mono hs1))
  have hs2 := D3.out.size
  clear hb2 BX D2 C2
  rw [show (⟨(Lib.cut (⟨(Lib.cut s.data.toList [58]).1.toArray⟩ : ByteArray).data.toList [45]).1.toArray⟩ : ByteArray) = wA s from rfl, show (⟨(Lib.cut (⟨(Lib.cut s.data.toList [58]).1.toArray⟩ : ByteArray).data.toList [45]).2.1.toArray⟩ : ByteArray) = wB s from rfl, show (⟨(Lib.cut s.data.toList [58]).2.1.toArray⟩ : ByteArray) = wC s from rfl]
  generalize wA s = a at *
  generalize wB s = b at *
  generalize wC s = c at *
  have HA0 := Lib.hid (Blk.new w2 #[.int .i64 0, .int .i64 0, .int .i64 0] 51)
  have HB0 := Lib.hid ((Below.refl w2.heap.size w2).alloc (Nat.le_refl _) (.cells #[.int .i64 0, .int .i64 0, .int .i64 0] 51))
  have hcl := BX2.out.lt
  go_wp2
  go_loopw [31] (fun i wr => ∃ (k : Nat) (m0 m1 m2 : Int), k ≤ 3 ∧ i = .int .i64 k ∧ Hid (Blk wr w2.heap.size #[.int .i64 m0, .int .i64 m1, .int .i64 m2]) ∧ Hid (0 < k → atN a.data.toList = some m0) ∧ Hid (1 < k → atN b.data.toList = some m1) ∧ Hid (2 < k → atN c.data.toList = some m2) ∧ Hid (Below w2.heap.size w2 wr)) (fun i _ => 3 - (intOf i).toNat)
  case atStart => exact ⟨0, 0, 0, 0, by omega, rfl, HA0, Lib.hid (fun h => absurd h (by omega)), Lib.hid (fun h => absurd h (by omega)), Lib.hid (fun h => absurd h (by omega)), HB0⟩
  case round =>
    clear HA0 HB0
    obtain ⟨k, m0, m1, m2, hk, rfl, HA, H0, H1, H2, HB⟩ := hrel
    have RB := Lib.hid (BX2.out.below HB.out hcl)
    have HD := Lib.hid (D3.out.trans (HB.out.mono hs2))
    have LW := Lib.hid (L0.out.below HD.out)
    obtain ⟨j0, j1, j2⟩ := idx3 a b c wr
    have h03 : k = 0 ∨ k = 1 ∨ k = 2 ∨ k = 3 := by omega
    clear hk
    rcases h03 with rfl | rfl | rfl | rfl
    · cases hx : atN a.data.toList with
      | none =>
        have AT := Lib.hid (fun wx h => atoiNo a wx (by omega) h (fun z hz => by rw [ok_at, hx] at hz; cases hz))
        have J := Lib.hid (NO.out (.inl hx))
        clear hx NO YES H0 H1 H2
        go_wp2_with fail
        refine (AT.out _ LW.out).mono ?_
        rintro e w4 ⟨zz, tt, ad, rfl, hb4⟩
        have RX := Lib.hid (RB.out.below hb4 RB.out.lt)
        have RD := Lib.hid (HD.out.trans (hb4.mono HD.out.size))
        obtain ⟨r0, r1, r2, rl⟩ := RX.out.three4
        have rf0 := RX.out.fr 0
        have rf1 := RX.out.fr 1
        have rf2 := RX.out.fr 2
        clear hb4 RB HD LW AT HA HB
        go_wp2
        have tt := three_set (c := .int .i64 0) (d := .int .i64 0) (e := .int .i64 0) RX.out
        obtain ⟨e0, e1, e2, _⟩ := tt.three4
        refine bodyPost_ret (v := .tuple #[.agg #[.int .i64 0, .int .i64 0, .int .i64 0], .bool false]) (by simp [results, Tryd.f13, go_sem, e0, e1, e2]) rfl ?_
        exact ⟨ret_v J.out.symm, three_below RD.out (Nat.le_refl _) _ _ _⟩
      | some v =>
        have AT := Lib.hid (fun wx => atoiOk a v wx (by omega) (by rw [ok_at]; exact hx))
        have hv := Lib.hid hx
        clear hx NO YES RB HD LW
        go_wp2_with fail
        refine (AT.out _).mono ?_
        rintro e w4 ⟨rfl, hb4⟩
        have A4 := Lib.hid (HA.out.below hb4 HA.out.lt)
        have B4 := Lib.hid (HB.out.trans (hb4.mono HB.out.size))
        have b0 : w4.cell? ⟨w2.heap.size, 0, none⟩ = some (.int .i64 m0) := A4.out.cell 0
        have bf := A4.out.fr 0
        have bl := A4.out.lt
        clear hb4 AT HA HB
        go_wp2
        go_roundw
        case rel => exact ⟨1, v, m1, m2, by omega, by go_num, Lib.hid (A4.out.set 0 (.int .i64 v)), Lib.hid (fun _ => by first | rfl | exact hv.out), Lib.hid (fun h => absurd h (by omega)), Lib.hid (fun h => absurd h (by omega)), Lib.hid (B4.out.setCell (p := ⟨w2.heap.size, 0, none⟩) (Nat.le_refl _) _)⟩
        case measure => (simp [intOf]; try omega)
    · cases hx : atN b.data.toList with
      | none =>
        have AT := Lib.hid (fun wx h => atoiNo b wx (by omega) h (fun z hz => by rw [ok_at, hx] at hz; cases hz))
        have J := Lib.hid (NO.out (.inr (.inl hx)))
        clear hx NO YES H0 H1 H2
        go_wp2_with fail
        refine (AT.out _ LW.out).mono ?_
        rintro e w4 ⟨zz, tt, ad, rfl, hb4⟩
        have RX := Lib.hid (RB.out.below hb4 RB.out.lt)
        have RD := Lib.hid (HD.out.trans (hb4.mono HD.out.size))
        obtain ⟨r0, r1, r2, rl⟩ := RX.out.three4
        have rf0 := RX.out.fr 0
        have rf1 := RX.out.fr 1
        have rf2 := RX.out.fr 2
        clear hb4 RB HD LW AT HA HB
        go_wp2
        have tt := three_set (c := .int .i64 0) (d := .int .i64 0) (e := .int .i64 0) RX.out
        obtain ⟨e0, e1, e2, _⟩ := tt.three4
        refine bodyPost_ret (v := .tuple #[.agg #[.int .i64 0, .int .i64 0, .int .i64 0], .bool false]) (by simp [results, Tryd.f13, go_sem, e0, e1, e2]) rfl ?_
        exact ⟨ret_v J.out.symm, three_below RD.out (Nat.le_refl _) _ _ _⟩
      | some v =>
        have AT := Lib.hid (fun wx => atoiOk b v wx (by omega) (by rw [ok_at]; exact hx))
        have hv := Lib.hid hx
        clear hx NO YES RB HD LW
        go_wp2_with fail
        refine (AT.out _).mono ?_
        rintro e w4 ⟨rfl, hb4⟩
        have A4 := Lib.hid (HA.out.below hb4 HA.out.lt)
        have B4 := Lib.hid (HB.out.trans (hb4.mono HB.out.size))
        have b0 : w4.cell? ⟨w2.heap.size, 1, none⟩ = some (.int .i64 m1) := A4.out.cell 1
        have bf := A4.out.fr 1
        have bl := A4.out.lt
        clear hb4 AT HA HB
        go_wp2
        go_roundw
        case rel => exact ⟨2, m0, v, m2, by omega, by go_num, Lib.hid (A4.out.set 1 (.int .i64 v)), Lib.hid (fun _ => H0.out (by omega)), Lib.hid (fun _ => by first | rfl | exact hv.out), Lib.hid (fun h => absurd h (by omega)), Lib.hid (B4.out.setCell (p := ⟨w2.heap.size, 1, none⟩) (Nat.le_refl _) _)⟩
        case measure => (simp [intOf]; try omega)
    · cases hx : atN c.data.toList with
      | none =>
        have AT := Lib.hid (fun wx h => atoiNo c wx (by omega) h (fun z hz => by rw [ok_at, hx] at hz; cases hz))
        have J := Lib.hid (NO.out (.inr (.inr hx)))
        clear hx NO YES H0 H1 H2
        go_wp2_with fail
        refine (AT.out _ LW.out).mono ?_
        rintro e w4 ⟨zz, tt, ad, rfl, hb4⟩
        have RX := Lib.hid (RB.out.below hb4 RB.out.lt)
        have RD := Lib.hid (HD.out.trans (hb4.mono HD.out.size))
        obtain ⟨r0, r1, r2, rl⟩ := RX.out.three4
        have rf0 := RX.out.fr 0
        have rf1 := RX.out.fr 1
        have rf2 := RX.out.fr 2
        clear hb4 RB HD LW AT HA HB
        go_wp2
        have tt := three_set (c := .int .i64 0) (d := .int .i64 0) (e := .int .i64 0) RX.out
        obtain ⟨e0, e1, e2, _⟩ := tt.three4
        refine bodyPost_ret (v := .tuple #[.agg #[.int .i64 0, .int .i64 0, .int .i64 0], .bool false]) (by simp [results, Tryd.f13, go_sem, e0, e1, e2]) rfl ?_
        exact ⟨ret_v J.out.symm, three_below RD.out (Nat.le_refl _) _ _ _⟩
      | some v =>
        have AT := Lib.hid (fun wx => atoiOk c v wx (by omega) (by rw [ok_at]; exact hx))
        have hv := Lib.hid hx
        clear hx NO YES RB HD LW
        go_wp2_with fail
        refine (AT.out _).mono ?_
        rintro e w4 ⟨rfl, hb4⟩
        have A4 := Lib.hid (HA.out.below hb4 HA.out.lt)
        have B4 := Lib.hid (HB.out.trans (hb4.mono HB.out.size))
        have b0 : w4.cell? ⟨w2.heap.size, 2, none⟩ = some (.int .i64 m2) := A4.out.cell 2
        have bf := A4.out.fr 2
        have bl := A4.out.lt
        clear hb4 AT HA HB
        go_wp2
        go_roundw
        case rel => exact ⟨3, m0, m1, v, by omega, by go_num, Lib.hid (A4.out.set 2 (.int .i64 v)), Lib.hid (fun _ => H0.out (by omega)), Lib.hid (fun _ => H1.out (by omega)), Lib.hid (fun _ => by first | rfl | exact hv.out), Lib.hid (B4.out.setCell (p := ⟨w2.heap.size, 2, none⟩) (Nat.le_refl _) _)⟩
        case measure => (simp [intOf]; try omega)
    · have J := Lib.hid (YES.out m0 m1 m2 (H0.out (by omega)) (H1.out (by omega)) (H2.out (by omega)))
      obtain ⟨n0, n1, n2, nl⟩ := HA.out.three4
      obtain ⟨r0, r1, r2, rl⟩ := RB.out.three4
      have rf0 := RB.out.fr 0
      have rf1 := RB.out.fr 1
      have rf2 := RB.out.fr 2
      clear NO YES H0 H1 H2 HA HB LW
      go_wp2
      have tt := three_set (c := .int .i64 m0) (d := .int .i64 m1) (e := .int .i64 m2) RB.out
      obtain ⟨e0, e1, e2, _⟩ := tt.three4
      refine bodyPost_ret (v := .tuple #[.agg #[.int .i64 m0, .int .i64 m1, .int .i64 m2], .bool true]) (by simp [results, Tryd.f13, go_sem, e0, e1, e2]) rfl ?_
      exact ⟨ret_v J.out.symm, three_below HD.out (Nat.le_refl _) _ _ _⟩
end Go.Proofs.YthdmmliipmmfbacDoor
