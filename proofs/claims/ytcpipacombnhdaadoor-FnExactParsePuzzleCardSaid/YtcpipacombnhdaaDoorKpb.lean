/- impl.parseClue. -/
import Derived.Test.YtcpipacombnhdaaDoorPci
import Derived.Test.YtcpipacombnhdaaDoorKpp
import Derived.Test.YtcpipacombnhdaaDoorKph
namespace Go.Proofs.YtcpipacombnhdaaDoor
set_option linter.unusedVariables false
open Go.RowKit
theorem ok_at {x : ByteArray} {z : Int} : Ok x z ↔ atN x.data.toList = some z := by
  unfold Ok atN
  cases Lib.atoiAll x.data.toList <;> simp
theorem cutG (s : ByteArray) (d : UInt8) (w : World) (hs : s.size ≤ 1048576) (hL : Lb w) :
    Calls Tryd.prog 24 #[.string s, .string ⟨#[d]⟩] w fun e w' => ∃ b, e = .returned (.tuple #[.string ⟨(Lib.cut s.data.toList [d]).1.toArray⟩, .string ⟨(Lib.cut s.data.toList [d]).2.1.toArray⟩, .bool b]) ∧ Below w.heap.size w w' := by
  obtain ⟨_, ⟨_, m, hm⟩, _⟩ := hL
  refine (Tryd.strings_Cut s ⟨#[d]⟩ m w (by omega) hm).mono ?_
  rintro e w' ⟨rfl, n, rfl⟩
  exact ⟨_, rfl, below_drewN (Below.refl _ _) n⟩
/-- what parseClue hands back -/
def pbV (o : Option Br) : Value := match o with
  | some b => .tuple #[.agg #[.int .i64 b.1, .int .i64 b.2.1, .int .i64 b.2.2], .bool true]
  | none => .tuple #[.agg #[.int .i64 0, .int .i64 0, .int .i64 0], .bool false]
theorem qB_n {w : List UInt8} (h : (spc 46 w).length ≠ 3) : qB w = none := by
  unfold qB; split
  · rename_i x y z e; rw [e] at h; exact absurd rfl h
  · rfl
theorem qB_no {w x y z : List UInt8} (e : spc 46 w = [x, y, z]) (h : atN x = none ∨ atN y = none ∨ atN z = none) : qB w = none := by
  unfold qB; rw [e]; simp only
  rcases h with h | h | h
  · rw [h]
  · rw [h]; cases atN x <;> rfl
  · rw [h]; cases atN x <;> cases atN y <;> rfl
theorem qB_yes {w x y z : List UInt8} {a b c : Int} (e : spc 46 w = [x, y, z]) (h1 : atN x = some a) (h2 : atN y = some b) (h3 : atN z = some c) : qB w = some (a, b, c) := by
  unfold qB; rw [e]; simp only; rw [h1, h2, h3]
/-- strings.Split at one byte -/
theorem splitD (s : ByteArray) (d : UInt8) (w : World) (hs : s.size ≤ 1048576) (hL : Lb w) :
    Calls Tryd.prog 26 #[.string s, .string ⟨#[d]⟩] w fun e w' => ∃ V : List ByteArray, V.map (·.data.toList) = spc d s.data.toList ∧ e = .returned (.slice (some ⟨w.heap.size, 0, none⟩) V.length V.length) ∧ Blk w' w.heap.size (V.map Value.string).toArray ∧ Below w.heap.size w w' := by
  obtain ⟨_, ⟨_, m, hm⟩, _⟩ := hL
  refine (Tryd.strings_Split s ⟨#[d]⟩ m w (by omega) hm (by simp [ByteArray.size])).mono ?_
  rintro e w' ⟨rfl, rfl⟩
  have hl : (Lib.splitB ⟨#[d]⟩ 0 (Lib.countB s ⟨#[d]⟩) s).length = Lib.countB s ⟨#[d]⟩ + 1 := Lib.splitB_all ⟨#[d]⟩ (by simp [ByteArray.size]) 0 _ s rfl
  exact ⟨_, spc_B d s, by rw [hl], Blk.new w _ _, (Below.refl _ _).alloc (Nat.le_refl _) _⟩
theorem three_set {w : World} {g : Nat} {a b c' c d e : Value} (h : Blk w g #[a, b, c']) : Blk (((w.setCell ⟨g, 0, none⟩ c).setCell ⟨g, 1, none⟩ d).setCell ⟨g, 2, none⟩ e) g #[c, d, e] := ((h.set 0 c).set 1 d).set 2 e
theorem three_below {w w' : World} {B g : Nat} (h : Below B w w') (hB : B ≤ g) (c d e : Value) : Below B w (((w'.setCell ⟨g, 0, none⟩ c).setCell ⟨g, 1, none⟩ d).setCell ⟨g, 2, none⟩ e) :=
  ((h.setCell (p := ⟨g, 0, none⟩) hB c).setCell (p := ⟨g, 1, none⟩) hB d).setCell (p := ⟨g, 2, none⟩) hB e
theorem Blk.three4 {w : World} {g : Nat} {x y z : Value} (h : Blk w g #[x, y, z]) : w.cell? ⟨g, 0, none⟩ = some x ∧ w.cell? ⟨g, 1, none⟩ = some y ∧ w.cell? ⟨g, 2, none⟩ = some z ∧ g < w.heap.size := ⟨h.cell 0, h.cell 1, h.cell 2, h.lt⟩
set_option maxRecDepth 20000 in
set_option maxHeartbeats 4000000 in
theorem parseClue (s : ByteArray) (w : World) (hs : s.size ≤ 1048576) (hL : Lb w) :
    Calls Tryd.prog 27 #[.string s] w fun e w' => e = .returned (pbV (qB s.data.toList)) ∧ Below w.heap.size w w' := by
  have X1 := Lib.hid (Blk.new w #[.int .i64 0, .int .i64 0, .int .i64 0] 44)
  have D1 := Lib.hid ((Below.refl w.heap.size w).alloc (Nat.le_refl _) (.cells #[.int .i64 0, .int .i64 0, .int .i64 0] 44))
  have L0 := Lib.hid hL
  have SP := Lib.hid (fun wx h => splitD s 46 wx hs h)
  clear hL
  go_enter Tryd.func27, Tryd.ntmps27
  go_wp2_with fail
  refine (SP.out _ (L0.out.below D1.out)).mono ?_
  rintro e w1 ⟨V, hV, rfl, hC, hb1⟩
  have BX := Lib.hid (X1.out.below hb1 (by simp))
  have D2 := Lib.hid (D1.out.trans (hb1.mono (by simp)))
  have hs1 := D2.out.size
  have HC := Lib.hid hC
  have HV := Lib.hid hV
  generalize (w.alloc (.cells #[.int .i64 0, .int .i64 0, .int .i64 0] 44)) = W1 at *
  clear hb1 X1 D1 SP hC hV
  by_cases h3 : V.length = 3
  case neg =>
    obtain ⟨n, hn⟩ : ∃ n, n = V.length := ⟨_, rfl⟩
    rw [← hn]
    have n2 : ¬ (n : Int) = 3 := by omega
    have n2J : ((n : Int) == 3) = false := by simp; omega
    have n2K : ((n : Int) != 3) = true := by simp; omega
    have J := Lib.hid (show qB s.data.toList = none from qB_n (by rw [← HV.out, List.length_map]; exact h3))
    obtain ⟨r0, r1, r2, rl⟩ := BX.out.three4
    have rf0 := BX.out.fr 0
    have rf1 := BX.out.fr 1
    have rf2 := BX.out.fr 2
    clear hn h3
    go_wp2
    have tt := three_set (c := .int .i64 0) (d := .int .i64 0) (e := .int .i64 0) BX.out
    obtain ⟨e0, e1, e2, _⟩ := tt.three4
    refine bodyPost_ret (v := .tuple #[.agg #[.int .i64 0, .int .i64 0, .int .i64 0], .bool false]) (by simp [results, Tryd.f27, go_sem, e0, e1, e2]) rfl ?_
    exact ⟨by rw [J.out]; rfl, three_below D2.out (Nat.le_refl _) _ _ _⟩
  obtain ⟨a, b, c, rfl⟩ : ∃ x y z, V = [x, y, z] := by
    match V, h3 with
    | [x, y, z], _ => exact ⟨x, y, z, rfl⟩
  have E := Lib.hid (show spc 46 s.data.toList = [a.data.toList, b.data.toList, c.data.toList] from HV.out.symm)
  have za : a.size ≤ s.size := spc_sz HV.out (List.mem_cons_self ..)
  have zb : b.size ≤ s.size := spc_sz HV.out (List.mem_cons_of_mem _ (List.mem_cons_self ..))
  have zc : c.size ≤ s.size := spc_sz HV.out (List.mem_cons_of_mem _ (List.mem_cons_of_mem _ (List.mem_cons_self ..)))
  have NO := Lib.hid (fun h => qB_no E.out h)
  have YES := Lib.hid (fun x y z h1 h2 h3 => qB_yes (a := x) (b := y) (c := z) E.out h1 h2 h3)
  have HA0 := Lib.hid (Blk.new w1 #[.int .i64 0, .int .i64 0, .int .i64 0] 75)
  have HB0 := Lib.hid ((Below.refl w1.heap.size w1).alloc (Nat.le_refl _) (.cells #[.int .i64 0, .int .i64 0, .int .i64 0] 75))
  have HCV := Lib.hid (show Blk w1 W1.heap.size #[.string a, .string b, .string c] from HC.out)
  have hcl := BX.out.lt
  have hvl := HCV.out.lt
  clear HC HV h3
  go_wp2
  go_loopw [6, 7, 8, 9, 18] (fun _ _ _ _ i wr => ∃ (k : Nat) (m0 m1 m2 : Int), k ≤ 3 ∧ i = .int .i64 k ∧ Hid (Blk wr w1.heap.size #[.int .i64 m0, .int .i64 m1, .int .i64 m2]) ∧ Hid (0 < k → atN a.data.toList = some m0) ∧ Hid (1 < k → atN b.data.toList = some m1) ∧ Hid (2 < k → atN c.data.toList = some m2) ∧ Hid (Below w1.heap.size w1 wr)) (fun _ _ _ _ i _ => 3 - (intOf i).toNat)
  case atStart => exact ⟨0, 0, 0, 0, by omega, rfl, HA0, Lib.hid (fun h => absurd h (by omega)), Lib.hid (fun h => absurd h (by omega)), Lib.hid (fun h => absurd h (by omega)), HB0⟩
  case round =>
    clear HA0 HB0
    obtain ⟨k, m0, m1, m2, hk, rfl, HA, H0, H1, H2, HB⟩ := hrel
    have RB := Lib.hid (BX.out.below HB.out hcl)
    have HD := Lib.hid (D2.out.trans (HB.out.mono hs1))
    have LW := Lib.hid (L0.out.below HD.out)
    have RV := Lib.hid (HCV.out.below HB.out hvl)
    obtain ⟨v0, v1, v2, vl⟩ := RV.out.three4
    have h03 : k = 0 ∨ k = 1 ∨ k = 2 ∨ k = 3 := by omega
    clear hk
    rcases h03 with rfl | rfl | rfl | rfl
    · cases hx : atN a.data.toList with
      | none =>
        have AT := Lib.hid (fun wx h => atoiNo a wx (by omega) h (fun z hz => by rw [ok_at, hx] at hz; cases hz))
        have J := Lib.hid (NO.out (.inl hx))
        clear hx NO YES H0 H1 H2
        go_wp2_with fail
        refine (AT.out _ LW.out).mono ?_
        rintro e w4 ⟨zz, tt, ad, rfl, hb4⟩
        have RX := Lib.hid (RB.out.below hb4 RB.out.lt)
        have RD := Lib.hid (HD.out.trans (hb4.mono HD.out.size))
        obtain ⟨r0, r1, r2, rl⟩ := RX.out.three4
        have rf0 := RX.out.fr 0
        have rf1 := RX.out.fr 1
        have rf2 := RX.out.fr 2
        clear hb4 RB HD LW AT HA HB v0 v1 v2
        go_wp2
        have tt := three_set (c := .int .i64 0) (d := .int .i64 0) (e := .int .i64 0) RX.out
        obtain ⟨e0, e1, e2, _⟩ := tt.three4
        refine bodyPost_ret (v := .tuple #[.agg #[.int .i64 0, .int .i64 0, .int .i64 0], .bool false]) (by simp [results, Tryd.f27, go_sem, e0, e1, e2]) rfl ?_
        exact ⟨by rw [J.out]; rfl, three_below RD.out (Nat.le_refl _) _ _ _⟩
      | some v =>
        have AT := Lib.hid (fun wx => atoiOk a v wx (by omega) (by rw [ok_at]; exact hx))
        have hv := Lib.hid hx
        clear hx NO YES RB HD LW
        go_wp2_with fail
        refine (AT.out _).mono ?_
        rintro e w4 ⟨rfl, hb4⟩
        have A4 := Lib.hid (HA.out.below hb4 HA.out.lt)
        have B4 := Lib.hid (HB.out.trans (hb4.mono HB.out.size))
        have b0 : w4.cell? ⟨w1.heap.size, 0, none⟩ = some (.int .i64 m0) := A4.out.cell 0
        have bf := A4.out.fr 0
        have bl := A4.out.lt
        clear hb4 AT HA HB v0 v1 v2
        go_wp2
        go_roundw
        case rel => exact ⟨1, v, m1, m2, by omega, by go_num, Lib.hid (A4.out.set 0 (.int .i64 v)), Lib.hid (fun _ => by first | rfl | exact hv.out), Lib.hid (fun h => absurd h (by omega)), Lib.hid (fun h => absurd h (by omega)), Lib.hid (B4.out.setCell (p := ⟨w1.heap.size, 0, none⟩) (Nat.le_refl _) _)⟩
        case measure => (simp [intOf]; try omega)
    · cases hx : atN b.data.toList with
      | none =>
        have AT := Lib.hid (fun wx h => atoiNo b wx (by omega) h (fun z hz => by rw [ok_at, hx] at hz; cases hz))
        have J := Lib.hid (NO.out (.inr (.inl hx)))
        clear hx NO YES H0 H1 H2
        go_wp2_with fail
        refine (AT.out _ LW.out).mono ?_
        rintro e w4 ⟨zz, tt, ad, rfl, hb4⟩
        have RX := Lib.hid (RB.out.below hb4 RB.out.lt)
        have RD := Lib.hid (HD.out.trans (hb4.mono HD.out.size))
        obtain ⟨r0, r1, r2, rl⟩ := RX.out.three4
        have rf0 := RX.out.fr 0
        have rf1 := RX.out.fr 1
        have rf2 := RX.out.fr 2
        clear hb4 RB HD LW AT HA HB v0 v1 v2
        go_wp2
        have tt := three_set (c := .int .i64 0) (d := .int .i64 0) (e := .int .i64 0) RX.out
        obtain ⟨e0, e1, e2, _⟩ := tt.three4
        refine bodyPost_ret (v := .tuple #[.agg #[.int .i64 0, .int .i64 0, .int .i64 0], .bool false]) (by simp [results, Tryd.f27, go_sem, e0, e1, e2]) rfl ?_
        exact ⟨by rw [J.out]; rfl, three_below RD.out (Nat.le_refl _) _ _ _⟩
      | some v =>
        have AT := Lib.hid (fun wx => atoiOk b v wx (by omega) (by rw [ok_at]; exact hx))
        have hv := Lib.hid hx
        clear hx NO YES RB HD LW
        go_wp2_with fail
        refine (AT.out _).mono ?_
        rintro e w4 ⟨rfl, hb4⟩
        have A4 := Lib.hid (HA.out.below hb4 HA.out.lt)
        have B4 := Lib.hid (HB.out.trans (hb4.mono HB.out.size))
        have b0 : w4.cell? ⟨w1.heap.size, 1, none⟩ = some (.int .i64 m1) := A4.out.cell 1
        have bf := A4.out.fr 1
        have bl := A4.out.lt
        clear hb4 AT HA HB v0 v1 v2
        go_wp2
        go_roundw
        case rel => exact ⟨2, m0, v, m2, by omega, by go_num, Lib.hid (A4.out.set 1 (.int .i64 v)), Lib.hid (fun _ => H0.out (by omega)), Lib.hid (fun _ => by first | rfl | exact hv.out), Lib.hid (fun h => absurd h (by omega)), Lib.hid (B4.out.setCell (p := ⟨w1.heap.size, 1, none⟩) (Nat.le_refl _) _)⟩
        case measure => (simp [intOf]; try omega)
    · cases hx : atN c.data.toList with
      | none =>
        have AT := Lib.hid (fun wx h => atoiNo c wx (by omega) h (fun z hz => by rw [ok_at, hx] at hz; cases hz))
        have J := Lib.hid (NO.out (.inr (.inr hx)))
        clear hx NO YES H0 H1 H2
        go_wp2_with fail
        refine (AT.out _ LW.out).mono ?_
        rintro e w4 ⟨zz, tt, ad, rfl, hb4⟩
        have RX := Lib.hid (RB.out.below hb4 RB.out.lt)
        have RD := Lib.hid (HD.out.trans (hb4.mono HD.out.size))
        obtain ⟨r0, r1, r2, rl⟩ := RX.out.three4
        have rf0 := RX.out.fr 0
        have rf1 := RX.out.fr 1
        have rf2 := RX.out.fr 2
        clear hb4 RB HD LW AT HA HB v0 v1 v2
        go_wp2
        have tt := three_set (c := .int .i64 0) (d := .int .i64 0) (e := .int .i64 0) RX.out
        obtain ⟨e0, e1, e2, _⟩ := tt.three4
        refine bodyPost_ret (v := .tuple #[.agg #[.int .i64 0, .int .i64 0, .int .i64 0], .bool false]) (by simp [results, Tryd.f27, go_sem, e0, e1, e2]) rfl ?_
        exact ⟨by rw [J.out]; rfl, three_below RD.out (Nat.le_refl _) _ _ _⟩
      | some v =>
        have AT := Lib.hid (fun wx => atoiOk c v wx (by omega) (by rw [ok_at]; exact hx))
        have hv := Lib.hid hx
        clear hx NO YES RB HD LW
        go_wp2_with fail
        refine (AT.out _).mono ?_
        rintro e w4 ⟨rfl, hb4⟩
        have A4 := Lib.hid (HA.out.below hb4 HA.out.lt)
        have B4 := Lib.hid (HB.out.trans (hb4.mono HB.out.size))
        have b0 : w4.cell? ⟨w1.heap.size, 2, none⟩ = some (.int .i64 m2) := A4.out.cell 2
        have bf := A4.out.fr 2
        have bl := A4.out.lt
        clear hb4 AT HA HB v0 v1 v2
        go_wp2
        go_roundw
        case rel => exact ⟨3, m0, m1, v, by omega, by go_num, Lib.hid (A4.out.set 2 (.int .i64 v)), Lib.hid (fun _ => H0.out (by omega)), Lib.hid (fun _ => H1.out (by omega)), Lib.hid (fun _ => by first | rfl | exact hv.out), Lib.hid (B4.out.setCell (p := ⟨w1.heap.size, 2, none⟩) (Nat.le_refl _) _)⟩
        case measure => (simp [intOf]; try omega)
    · have J := Lib.hid (YES.out m0 m1 m2 (H0.out (by omega)) (H1.out (by omega)) (H2.out (by omega)))
      obtain ⟨n0, n1, n2, nl⟩ := HA.out.three4
      obtain ⟨r0, r1, r2, rl⟩ := RB.out.three4
      have rf0 := RB.out.fr 0
      have rf1 := RB.out.fr 1
      have rf2 := RB.out.fr 2
      clear NO YES H0 H1 H2 HA HB LW v0 v1 v2
      go_wp2
      have tt := three_set (c := .int .i64 m0) (d := .int .i64 m1) (e := .int .i64 m2) RB.out
      obtain ⟨e0, e1, e2, _⟩ := tt.three4
      refine bodyPost_ret (v := .tuple #[.agg #[.int .i64 m0, .int .i64 m1, .int .i64 m2], .bool true]) (by simp [results, Tryd.f27, go_sem, e0, e1, e2]) rfl ?_
      exact ⟨by rw [J.out]; rfl, three_below HD.out (Nat.le_refl _) _ _ _⟩
end Go.Proofs.YtcpipacombnhdaaDoor
