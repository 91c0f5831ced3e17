/- impl.ParsePuzzle. -/
import Derived.Test.YtcpipacombnhdaaDoorKpb
import Derived.Test.YtcpipacombnhdaaDoorKty
import Derived.Test.YtcpipacombnhdaaDoorKph
namespace Go.Proofs.YtcpipacombnhdaaDoor
set_option linter.unusedVariables false
open Go.RowKit

theorem itxV_ok {n : Int} {cs : List Br} (h : isPz n cs = true) : itxV n cs = .tuple #[.string (bs (itx n cs)), .bool true] := by simp [itxV, h]
theorem cut_lt (l : List UInt8) (d : UInt8) : (Lib.cut l [d]).2.1 ≠ [] → (Lib.cut l [d]).2.1.length + 1 ≤ l.length := by
  unfold Lib.cut
  split
  · intro h
    have := List.length_pos_iff.2 h
    simp only [List.length_drop, List.length_singleton] at this ⊢
    omega
  · intro h; exact absurd rfl h
theorem qI_1 {t : List UInt8} (h : atN (Lib.cut t [58]).1 = none) : qI t = none := by unfold qI; rw [h]
theorem qI_2 {t : List UInt8} {n : Int} (h : atN (Lib.cut t [58]).1 = some n) (h2 : (Lib.cut t [58]).2.1 = []) : qI t = some (n, []) := by
  unfold qI; rw [h]; simp only; rw [if_pos h2]
theorem qI_3 {t : List UInt8} {n : Int} (h : atN (Lib.cut t [58]).1 = some n) (h2 : (Lib.cut t [58]).2.1 ≠ []) {cs : List Br} (h3 : allB qB (spc 44 (Lib.cut t [58]).2.1) = some cs) : qI t = some (n, cs) := by
  unfold qI; rw [h]; simp only; rw [if_neg h2, h3]
theorem qI_4 {t : List UInt8} {n : Int} (h : atN (Lib.cut t [58]).1 = some n) (h2 : (Lib.cut t [58]).2.1 ≠ []) (h3 : allB qB (spc 44 (Lib.cut t [58]).2.1) = none) : qI t = none := by
  unfold qI; rw [h]; simp only; rw [if_neg h2, h3]
theorem ansQ {t : ByteArray} {n : Int} {cs : List Br} (hq : qI t.data.toList = some (n, cs)) : ansI t = if isPz n cs = true ∧ bs (itx n cs) = t then some (n, cs) else none := by
  split
  · rename_i h; exact ans_of h.1 h.2
  · rename_i hn
    cases h : ansI t with
    | none => rfl
    | some p =>
      obtain ⟨n', cs'⟩ := p
      obtain ⟨a, b, c⟩ := ans_in h
      rw [hq] at c
      have c' := Option.some.inj c
      have c1 : n = n' := congrArg Prod.fst c'
      have c2 : cs = cs' := congrArg Prod.snd c'
      subst c1 c2
      exact absurd ⟨a, b⟩ hn
theorem ansQ_no {t : ByteArray} (hq : qI t.data.toList = none) : ansI t = none := by
  cases h : ansI t with
  | none => rfl
  | some p =>
    obtain ⟨n', cs'⟩ := p
    obtain ⟨a, b, c⟩ := ans_in h
    rw [hq] at c
    cases c
theorem pbV_none : pbV none = .tuple #[.agg #[.int .i64 0, .int .i64 0, .int .i64 0], .bool false] := rfl
theorem pbV_some (x y z : Int) : pbV (some (x, y, z)) = .tuple #[.agg #[.int .i64 x, .int .i64 y, .int .i64 z], .bool true] := rfl
theorem gsC {V : List ByteArray} {j : Nat} (h : j < V.length) : (V.map Value.string).toArray[j]? = some (.string (gs V j)) := by simp [gs, h]
set_option maxRecDepth 100000 in
set_option maxHeartbeats 8000000 in
theorem implParseIsles (t : ByteArray) (w : World) (hs : t.size ≤ 1048576) (hL : Lb w) :
    Calls Tryd.prog 11 #[.string t] w fun e w' => ∃ u, e = .returned (.tuple #[.agg #[.int .i64 (pN t), u], .bool (pOK t)]) ∧ Brs w' w.heap.size u (pL t) ∧ Below w.heap.size w w' := by
  have LB := Lib.hid hL
  obtain ⟨W0, hW0⟩ : ∃ W, W = w.alloc (.cells #[.int .i64 0, .slice none 0 0] 30) := ⟨_, rfl⟩
  have X3 := Lib.hid (show Blk W0 w.heap.size #[.int .i64 0, .slice none 0 0] by rw [hW0]; exact Blk.new w _ _)
  have B0 := Lib.hid (show Below w.heap.size w W0 by rw [hW0]; (repeat (first | exact Below.refl _ _ | (refine Below.alloc ?_ (by first | omega | (simp; try omega)) _) | apply Below.drew | apply below_drewN)))
  have HW0 := Lib.hid hW0
  clear hW0 hL
  have s0 := B0.out.size
  have FAIL : Hid (∀ w1 : World, Below w.heap.size w w1 → Blk w1 w.heap.size #[.int .i64 0, .slice none 0 0] → ansI t = none → ∃ u, (Ending.returned (.tuple #[.agg #[.int .i64 0, .slice none 0 0], .bool false]) : Ending) = .returned (.tuple #[.agg #[.int .i64 (pN t), u], .bool (pOK t)]) ∧ Brs ((w1.setCell ⟨w.heap.size, 0, none⟩ (.int .i64 0)).setCell ⟨w.heap.size, 1, none⟩ (.slice none 0 0)) w.heap.size u (pL t) ∧ Below w.heap.size w ((w1.setCell ⟨w.heap.size, 0, none⟩ (.int .i64 0)).setCell ⟨w.heap.size, 1, none⟩ (.slice none 0 0))) := Lib.hid (fun w1 hb hX hf => by
    obtain ⟨e1, e2, e3⟩ := p_none hf
    refine ⟨.slice none 0 0, by rw [e1, e2], ?_, (hb.setCell (by simp; try omega) _).setCell (by simp; try omega) _⟩
    rw [e3]
    exact Brs.nil _ _)
  have CU0 := fun wx h => cutG t 58 wx hs h
  have hz := cut_le t.data.toList [58]
  have hz2 := cut_lt t.data.toList 58
  have z3 : t.data.toList.length = t.size := by rw [Array.length_toList]; rfl
  have Q1 := Lib.hid (fun h => ansQ_no (qI_1 (t := t.data.toList) h))
  have Q2 := Lib.hid (fun n h h2 => ansQ (qI_2 (t := t.data.toList) (n := n) h h2))
  have Q3 := Lib.hid (fun n h h2 cs h3 => ansQ (qI_3 (t := t.data.toList) (n := n) h h2 (cs := cs) h3))
  have Q4 := Lib.hid (fun n h h2 h3 => ansQ_no (qI_4 (t := t.data.toList) (n := n) h h2 h3))
  obtain ⟨p, hp⟩ : ∃ p : List UInt8, p = (Lib.cut t.data.toList [58]).1 := ⟨_, rfl⟩
  obtain ⟨q, hq⟩ : ∃ q : List UInt8, q = (Lib.cut t.data.toList [58]).2.1 := ⟨_, rfl⟩
  rw [← hp] at CU0 hz Q1 Q2 Q3 Q4
  rw [← hq] at CU0 hz hz2 Q2 Q3 Q4
  obtain ⟨P, hP⟩ : ∃ P : ByteArray, P = ⟨p.toArray⟩ := ⟨_, rfl⟩
  obtain ⟨y, hy⟩ : ∃ y : ByteArray, y = ⟨q.toArray⟩ := ⟨_, rfl⟩
  rw [← hP, ← hy] at CU0
  have hPd : P.data.toList = p := by rw [hP]
  have hyd : y.data.toList = q := by rw [hy]
  have hPz : P.size ≤ 1048576 := by
    have : P.size = p.length := by rw [hP]; simp [ByteArray.size]
    omega
  have hyq : y.size = q.length := by rw [hy]; simp [ByteArray.size]
  have hyz : y.size ≤ 1048576 := by omega
  have HYZ := Lib.hid (fun h => (by have := hz2 h; omega : y.size + 1 ≤ 1048576))
  rw [← hPd] at Q1 Q2 Q3 Q4
  rw [← hyd] at Q2 Q3 Q4 HYZ
  have CU := Lib.hid CU0
  clear CU0 hz hz2 z3 hyq hPd hyd hp hq hP hy
  go_enter Tryd.func11, Tryd.ntmps11
  go_wp2_with fail
  rw [← HW0.out]
  clear HW0
  refine (CU.out _ (LB.out.below B0.out)).mono ?_
  rintro e w1 ⟨bb, rfl, hb⟩
  have HB1 := Lib.hid (B0.out.trans (hb.mono s0))
  have Y1 := Lib.hid (X3.out.below hb X3.out.lt)
  have L1 := Lib.hid (LB.out.below HB1.out)
  clear hb CU B0 X3
  cases hat : atN P.data.toList with
  | none =>
    have AN := Lib.hid (Q1.out hat)
    have AT := Lib.hid (fun wx h => atoiNo P wx hPz h (fun z hz => by rw [ok_at, hat] at hz; cases hz))
    clear hat Q1 Q2 Q3 Q4
    go_wp2_with fail
    refine (AT.out _ L1.out).mono ?_
    rintro e w2 ⟨zz, tt, ad, rfl, hb2⟩
    have Y2 := Lib.hid (Y1.out.below hb2 Y1.out.lt)
    have HB2 := Lib.hid (HB1.out.trans (hb2.mono HB1.out.size))
    clear hb2 Y1 HB1 L1 AT
    obtain ⟨y0, y1, y2⟩ := Y2.out.two
    have f0 := Y2.out.fr 0
    have f1 := Y2.out.fr 1
    go_wp2
    have p0 : ((World.setCell _ ⟨w.heap.size, 0, none⟩ (.int .i64 0)).setCell ⟨w.heap.size, 1, none⟩ (.slice none 0 0)).cell? ⟨w.heap.size, 0, none⟩ = some (.int .i64 0) := (((Y2.out.set 0 (.int .i64 0)).set 1 (.slice none 0 0)).cell 0).trans (by simp)
    have p1 : ((World.setCell _ ⟨w.heap.size, 0, none⟩ (.int .i64 0)).setCell ⟨w.heap.size, 1, none⟩ (.slice none 0 0)).cell? ⟨w.heap.size, 1, none⟩ = some (.slice none 0 0) := (((Y2.out.set 0 (.int .i64 0)).set 1 (.slice none 0 0)).cell 1).trans (by simp)
    refine bodyPost_ret (v := .tuple #[.agg #[.int .i64 0, .slice none 0 0], .bool false]) (by simp [results, Tryd.f11, go_sem, p0, p1]) rfl ?_
    exact FAIL.out _ HB2.out Y2.out AN.out
  | some nn =>
    have AT := Lib.hid (fun wx => atoiOk P nn wx hPz (by rw [ok_at]; exact hat))
    have HAT := Lib.hid hat
    clear hat
    go_wp2_with fail
    refine (AT.out _).mono ?_
    rintro e w2 ⟨rfl, hb2⟩
    have Y2 := Lib.hid (Y1.out.below hb2 Y1.out.lt)
    have HB2 := Lib.hid (HB1.out.trans (hb2.mono HB1.out.size))
    have ltb : w.heap.size < w2.heap.size := Y2.out.lt
    clear hb2 Y1 HB1 L1 AT Q1
    have XS := Lib.hid (Blk.new w2 #[.int .i64 nn, .slice none 0 0] 30)
    have Y3 := Lib.hid (Y2.out.alloc (.cells #[.int .i64 nn, .slice none 0 0] 30))
    have B2 := Lib.hid (HB2.out.alloc HB2.out.size (.cells #[.int .i64 nn, .slice none 0 0] 30))
    clear Y2 HB2
    by_cases hye : y = ⟨#[]⟩
    · have hyt : y.toList.isEmpty = true := by rw [ByteArray.toList_eq, hye]; rfl
      have ANS := Lib.hid (Q2.out nn HAT.out (by rw [hye]))
      clear hye Q2 Q3 Q4 HAT HYZ
      go_wp2_with fail
      generalize w2.alloc (.cells #[.int .i64 nn, .slice none 0 0] 30) = W2 at *
      go_loopw [12, 13, 14, 39] (fun _ _ _ i wr => i = .int .i64 0 ∧ Hid (Blk wr w2.heap.size #[.int .i64 nn, .slice none 0 0]) ∧ Hid (Blk wr w.heap.size #[.int .i64 0, .slice none 0 0]) ∧ Hid (Below w.heap.size w wr)) (fun _ _ _ _ _ => 0)
      case atStart => exact ⟨rfl, XS, Y3, B2⟩
      case round =>
        clear XS Y3 B2
        obtain ⟨rfl, XS, Y3, B2⟩ := hrel
        have BS := Lib.hid (Brs.nil wr w2.heap.size)
        have CT0 := fun wx h p => implText nn (.slice none 0 0) [] wx h (by simp) p
        cases ha : isPz nn [] with
        | false =>
          have AN := Lib.hid (show ansI t = none by rw [ANS.out, if_neg (fun h => by rw [ha] at h; exact absurd h.1 (by decide))])
          rw [itxV_no ha] at CT0
          have CT := Lib.hid CT0
          clear ha CT0
          have PW := Lib.hid (LB.out.below B2.out).1
          obtain ⟨a0, a1, a2⟩ := XS.out.two
          go_wp2_with fail
          refine (CT.out _ BS.out.rd PW.out).mono ?_
          rintro e w5 ⟨rfl, hb5⟩
          have Y5 := Lib.hid (Y3.out.below hb5 Y3.out.lt)
          have S5 := Lib.hid (XS.out.below hb5 XS.out.lt)
          have I5 := Lib.hid (BS.out.below hb5)
          have HB5 := Lib.hid (B2.out.trans (hb5.mono B2.out.size))
          clear hb5 a0 a1 a2 PW CT
          obtain ⟨y0, y1, y2⟩ := Y5.out.two
          have f0 := Y5.out.fr 0
          have f1 := Y5.out.fr 1
          go_wp2
          have p0 : ((World.setCell _ ⟨w.heap.size, 0, none⟩ (.int .i64 0)).setCell ⟨w.heap.size, 1, none⟩ (.slice none 0 0)).cell? ⟨w.heap.size, 0, none⟩ = some (.int .i64 0) := (((Y5.out.set 0 (.int .i64 0)).set 1 (.slice none 0 0)).cell 0).trans (by simp)
          have p1 : ((World.setCell _ ⟨w.heap.size, 0, none⟩ (.int .i64 0)).setCell ⟨w.heap.size, 1, none⟩ (.slice none 0 0)).cell? ⟨w.heap.size, 1, none⟩ = some (.slice none 0 0) := (((Y5.out.set 0 (.int .i64 0)).set 1 (.slice none 0 0)).cell 1).trans (by simp)
          refine bodyPost_ret (v := .tuple #[.agg #[.int .i64 0, .slice none 0 0], .bool false]) (by simp [results, Tryd.f11, go_sem, p0, p1]) rfl ?_
          exact FAIL.out _ HB5.out Y5.out AN.out
        | true =>
          rw [itxV_ok ha] at CT0
          by_cases he : bs (itx nn []) = t
          · have AN := Lib.hid (show ansI t = some (nn, []) by rw [ANS.out, if_pos ⟨ha, he⟩])
            rw [he] at CT0
            have CT := Lib.hid CT0
            clear ha he CT0
            have PW := Lib.hid (LB.out.below B2.out).1
            obtain ⟨a0, a1, a2⟩ := XS.out.two
            go_wp2_with fail
            refine (CT.out _ BS.out.rd PW.out).mono ?_
            rintro e w5 ⟨rfl, hb5⟩
            have Y5 := Lib.hid (Y3.out.below hb5 Y3.out.lt)
            have S5 := Lib.hid (XS.out.below hb5 XS.out.lt)
            have I5 := Lib.hid (BS.out.below hb5)
            have HB5 := Lib.hid (B2.out.trans (hb5.mono B2.out.size))
            clear hb5 a0 a1 a2 PW CT
            obtain ⟨s0, s1, s2⟩ := S5.out.two
            obtain ⟨y0, y1, y2⟩ := Y5.out.two
            have f0 := Y5.out.fr 0
            have f1 := Y5.out.fr 1
            go_wp2
            have p0 : ((World.setCell _ ⟨w.heap.size, 0, none⟩ (.int .i64 nn)).setCell ⟨w.heap.size, 1, none⟩ (.slice none 0 0)).cell? ⟨w.heap.size, 0, none⟩ = some (.int .i64 nn) := (((Y5.out.set 0 (.int .i64 nn)).set 1 (.slice none 0 0)).cell 0).trans (by simp)
            have p1 : ((World.setCell _ ⟨w.heap.size, 0, none⟩ (.int .i64 nn)).setCell ⟨w.heap.size, 1, none⟩ (.slice none 0 0)).cell? ⟨w.heap.size, 1, none⟩ = some (.slice none 0 0) := (((Y5.out.set 0 (.int .i64 nn)).set 1 (.slice none 0 0)).cell 1).trans (by simp)
            have P := Lib.hid (p_some AN.out)
            refine bodyPost_ret (v := .tuple #[.agg #[.int .i64 nn, (.slice none 0 0)], .bool true]) (by simp [results, Tryd.f11, go_sem, p0, p1]) rfl ⟨_, by rw [P.out.1, P.out.2.1], ?_, (HB5.out.setCell (by simp) _).setCell (by simp) _⟩
            rw [P.out.2.2]
            exact ((I5.out.far (p := ⟨w.heap.size, 0, none⟩) ltb _).far (p := ⟨w.heap.size, 1, none⟩) ltb _).mono (Nat.le_of_lt ltb)
          · have AN := Lib.hid (show ansI t = none by rw [ANS.out, if_neg (fun h => he h.2)])
            have hnw := neqW he
            have CT := Lib.hid CT0
            clear ha he CT0
            generalize bs (itx nn []) = tx at *
            have PW := Lib.hid (LB.out.below B2.out).1
            obtain ⟨a0, a1, a2⟩ := XS.out.two
            go_wp2_with fail
            refine (CT.out _ BS.out.rd PW.out).mono ?_
            rintro e w5 ⟨rfl, hb5⟩
            have Y5 := Lib.hid (Y3.out.below hb5 Y3.out.lt)
            have S5 := Lib.hid (XS.out.below hb5 XS.out.lt)
            have I5 := Lib.hid (BS.out.below hb5)
            have HB5 := Lib.hid (B2.out.trans (hb5.mono B2.out.size))
            clear hb5 a0 a1 a2 PW CT
            obtain ⟨y0, y1, y2⟩ := Y5.out.two
            have f0 := Y5.out.fr 0
            have f1 := Y5.out.fr 1
            go_wp2
            have p0 : ((World.setCell _ ⟨w.heap.size, 0, none⟩ (.int .i64 0)).setCell ⟨w.heap.size, 1, none⟩ (.slice none 0 0)).cell? ⟨w.heap.size, 0, none⟩ = some (.int .i64 0) := (((Y5.out.set 0 (.int .i64 0)).set 1 (.slice none 0 0)).cell 0).trans (by simp)
            have p1 : ((World.setCell _ ⟨w.heap.size, 0, none⟩ (.int .i64 0)).setCell ⟨w.heap.size, 1, none⟩ (.slice none 0 0)).cell? ⟨w.heap.size, 1, none⟩ = some (.slice none 0 0) := (((Y5.out.set 0 (.int .i64 0)).set 1 (.slice none 0 0)).cell 1).trans (by simp)
            refine bodyPost_ret (v := .tuple #[.agg #[.int .i64 0, .slice none 0 0], .bool false]) (by simp [results, Tryd.f11, go_sem, p0, p1]) rfl ?_
            exact FAIL.out _ HB5.out Y5.out AN.out
    · have hyn : y.toList.isEmpty = false := by
        rw [ByteArray.toList_eq, Bool.eq_false_iff]
        intro e
        exact hye (ByteArray.ext (Array.toList_inj.1 (by simpa using e)))
      have hyd : y.data.toList ≠ [] := fun e => hye (ByteArray.ext (Array.toList_inj.1 (by simpa using e)))
      have A3 := Lib.hid (fun cs h => Q3.out nn HAT.out hyd cs h)
      have A4 := Lib.hid (fun h => Q4.out nn HAT.out hyd h)
      have hy1 : y.size + 1 ≤ 1048576 := HYZ.out hyd
      have SY := Lib.hid (fun wx h => splitD y 44 wx hyz h)
      have L2 := Lib.hid (LB.out.below B2.out)
      clear hye hyd Q2 Q3 Q4 HAT HYZ
      go_wp2_with fail
      generalize w2.alloc (.cells #[.int .i64 nn, .slice none 0 0] 30) = W2 at *
      refine (SY.out _ L2.out).mono ?_
      rintro e w3 ⟨V, hV, rfl, hC, hb3⟩
      have hz3 := spc_cnt hV
      have HV := Lib.hid hV
      have HZV := Lib.hid (fun x hx => spc_sz hV (x := x) hx)
      have XS3 := Lib.hid (XS.out.below hb3 XS.out.lt)
      have Y33 := Lib.hid (Y3.out.below hb3 Y3.out.lt)
      have HC := Lib.hid hC
      have B3 := Lib.hid (B2.out.trans (hb3.mono B2.out.size))
      have l23 : w2.heap.size < W2.heap.size := XS.out.lt
      have lC3 : W2.heap.size < w3.heap.size := hC.lt
      obtain ⟨n, hn⟩ : ∃ n, n = V.length := ⟨_, rfl⟩
      rw [← hn] at hz3 ⊢
      have HN := Lib.hid hn
      clear hV hC hb3 hn XS Y3 B2 L2 SY
      go_wp2_with fail
      go_loopw [12, 13, 14, 39] (fun _ _ _ i wr => ∃ (k : Nat) (u : Value) (cs : List Br), k ≤ n ∧ i = .int .i64 k ∧ Hid (allB qB ((spc 44 y.data.toList).take k) = some cs) ∧ Hid (Blk wr w2.heap.size #[.int .i64 nn, u]) ∧ Hid (Blk wr W2.heap.size (V.map Value.string).toArray) ∧ Hid (Blk wr w.heap.size #[.int .i64 0, .slice none 0 0]) ∧ Hid (Brs wr w3.heap.size u cs) ∧ Hid (Below w.heap.size w wr) ∧ Hid (w3.heap.size ≤ wr.heap.size)) (fun _ _ _ i _ => n - (intOf i).toNat)
      case atStart => exact ⟨0, .slice none 0 0, [], Nat.zero_le _, rfl, Lib.hid rfl, XS3, HC, Y33, Lib.hid (Brs.nil _ _), B3, Lib.hid (Nat.le_refl _)⟩
      case round =>
        clear XS3 HC Y33 B3
        obtain ⟨k, u, cs, hk, rfl, HA, HS, HR, HY, HU, HB, HZ⟩ := hrel
        have hzz := HZ.out
        by_cases hlt : k < n
        · have hlt' : (k : Int) < n := by omega
          have hkV : k < V.length := by have := HN.out; omega
          have cq : wr.cell? ⟨W2.heap.size, k, none⟩ = some (.string (gs V k)) := (HR.out.cell k).trans (gsC hkV)
          obtain ⟨q, hq⟩ : ∃ q, q = gs V k := ⟨_, rfl⟩
          rw [← hq] at cq
          have hqz : q.size ≤ 1048576 := by rw [hq]; exact Nat.le_trans (HZV.out _ (gs_mem hkV)) hyz
          obtain ⟨hkw, hwk⟩ := gs_map HV.out hkV
          rw [← hq] at hwk
          have PB0 := fun wx h => parseClue q wx hqz h
          have LR := Lib.hid (LB.out.below HB.out)
          have hwl : W2.heap.size < wr.heap.size := HR.out.lt
          cases hqb : qB q.data.toList with
          | none =>
            rw [hqb, pbV_none] at PB0
            have PB := Lib.hid PB0
            have AN := Lib.hid (A4.out (allB_none _ k hkw (by rw [hwk]; exact hqb)))
            clear PB0 hqb hwk hq A3 A4
            go_wp2_with fail
            refine (PB.out _ LR.out).mono ?_
            rintro e w4 ⟨rfl, hb4⟩
            have HB4 := Lib.hid (HB.out.trans (hb4.mono HB.out.size))
            have Y4 := Lib.hid ((HY.out.below hb4 HY.out.lt).alloc (.cells #[.int .i64 0, .int .i64 0, .int .i64 0] 44))
            have HB5 := Lib.hid (HB4.out.alloc HB4.out.size (.cells #[.int .i64 0, .int .i64 0, .int .i64 0] 44))
            clear hb4 HB4 HS HR HY HU HB LR PB cq
            obtain ⟨y0, y1, y2⟩ := Y4.out.two
            have f0 := Y4.out.fr 0
            have f1 := Y4.out.fr 1
            go_wp2
            have p0 : ((World.setCell _ ⟨w.heap.size, 0, none⟩ (.int .i64 0)).setCell ⟨w.heap.size, 1, none⟩ (.slice none 0 0)).cell? ⟨w.heap.size, 0, none⟩ = some (.int .i64 0) := (((Y4.out.set 0 (.int .i64 0)).set 1 (.slice none 0 0)).cell 0).trans (by simp)
            have p1 : ((World.setCell _ ⟨w.heap.size, 0, none⟩ (.int .i64 0)).setCell ⟨w.heap.size, 1, none⟩ (.slice none 0 0)).cell? ⟨w.heap.size, 1, none⟩ = some (.slice none 0 0) := (((Y4.out.set 0 (.int .i64 0)).set 1 (.slice none 0 0)).cell 1).trans (by simp)
            refine bodyPost_ret (v := .tuple #[.agg #[.int .i64 0, .slice none 0 0], .bool false]) (by simp [results, Tryd.f11, go_sem, p0, p1]) rfl ?_
            exact FAIL.out _ HB5.out Y4.out AN.out
          | some b =>
            obtain ⟨x1, x2, x3⟩ := b
            rw [hqb, pbV_some] at PB0
            have PB := Lib.hid PB0
            have HA2 := Lib.hid (show allB qB ((spc 44 y.data.toList).take (k + 1)) = some (cs ++ [(x1, x2, x3)]) by
              rw [List.take_succ_eq_append_getElem hkw, hwk]
              exact allB_snoc _ _ _ _ HA.out hqb)
            have hcl : cs.length < 16777216 := by
              have := allB_len _ _ HA.out
              rw [List.length_take] at this
              omega
            clear PB0 hqb hwk hq A3 A4 HA
            go_wp2_with fail
            refine (PB.out _ LR.out).mono ?_
            rintro e w4 ⟨rfl, hb4⟩
            have B4 := Lib.hid ((HB.out.trans (hb4.mono HB.out.size)).alloc (Nat.le_trans HB.out.size hb4.size) (.cells #[.int .i64 x1, .int .i64 x2, .int .i64 x3] 44))
            have S4 := Lib.hid ((HS.out.below hb4 HS.out.lt).alloc (.cells #[.int .i64 x1, .int .i64 x2, .int .i64 x3] 44))
            have R4 := Lib.hid ((HR.out.below hb4 HR.out.lt).alloc (.cells #[.int .i64 x1, .int .i64 x2, .int .i64 x3] 44))
            have Y4 := Lib.hid ((HY.out.below hb4 HY.out.lt).alloc (.cells #[.int .i64 x1, .int .i64 x2, .int .i64 x3] 44))
            have U4 := Lib.hid (Brs.below (HU.out.below hb4) ((Below.refl w4.heap.size w4).alloc (Nat.le_refl _) (.cells #[.int .i64 x1, .int .i64 x2, .int .i64 x3] 44)))
            have N4 := Lib.hid (Blk.new w4 #[.int .i64 x1, .int .i64 x2, .int .i64 x3] 44)
            have hz4 : wr.heap.size ≤ w4.heap.size := hb4.size
            obtain ⟨a0, a1, a2⟩ := S4.out.two
            obtain ⟨n0, n1, n2, nl⟩ := N4.out.three4
            have lu : w3.heap.size ≤ (w4.alloc (.cells #[.int .i64 x1, .int .i64 x2, .int .i64 x3] 44)).heap.size := by simp; omega
            clear hb4 HS HR HY HU HB LR PB cq
            go_wp2_with (at_builtin; go_loud (refine wpList_appB (w4.alloc (.cells #[.int .i64 x1, .int .i64 x2, .int .i64 x3] 44)) rfl _ _ rfl w3.heap.size u cs rfl U4.out x1 x2 x3 (w4.heap.size + 1) rfl (by simp) hcl lu rfl ?_; intro v' w6 hI6 hb6 hg6; obtain ⟨va, vl, vc, rfl⟩ := hI6.form; have I6 := Lib.hid hI6; have S6 := Lib.hid (S4.out.below hb6 (by omega)); have R6 := Lib.hid (R4.out.below hb6 (by omega)); have Y6 := Lib.hid (Y4.out.below hb6 (by omega)); have B6 := Lib.hid (B4.out.trans (hb6.mono (by omega))); have hz6 := hb6.size; clear hI6 hb6 hg6 a0 a1 a2 n0 n1 n2; have ef := S6.out.fr 1; obtain ⟨e0, e1, e2⟩ := S6.out.two))
            go_roundw
            case rel =>
              exact ⟨k + 1, .slice va vl vc, _, by omega, by go_num, HA2, Lib.hid (S6.out.set 1 (.slice va vl vc)), Lib.hid (R6.out.far (p := ⟨w2.heap.size, 1, none⟩) (by simp; omega) _), Lib.hid (Y6.out.far (p := ⟨w2.heap.size, 1, none⟩) (by simp; omega) _), Lib.hid (I6.out.far (p := ⟨w2.heap.size, 1, none⟩) (show w2.heap.size < w3.heap.size by omega) _), Lib.hid (B6.out.setCell (p := ⟨w2.heap.size, 1, none⟩) (Nat.le_of_lt ltb) _), Lib.hid (by have hzR := Nat.le_trans lu hz6; simpa [World.setCell] using hzR)⟩
            case measure => (simp [intOf]; try omega)
        · have hkn : k = n := by omega
          have hlw : (spc 44 y.data.toList).length = n := by rw [← HV.out, List.length_map]; exact HN.out.symm
          have ANS := Lib.hid (A3.out cs (by
            have h := HA.out
            rwa [List.take_of_length_le (by omega)] at h))
          have hcl : cs.length ≤ 1048576 := by
            have := allB_len _ _ HA.out
            rw [List.length_take] at this
            omega
          have BS := Lib.hid (HU.out.mono (B := w2.heap.size) (by omega))
          have hkn2 : ¬ (k : Int) < n := by omega
          obtain ⟨ua, ul, uc, rfl⟩ := BS.out.form
          clear HA A3 A4 HU
          have CT0 := fun wx h p => implText nn (.slice ua ul uc) cs wx h hcl p
          cases ha : isPz nn cs with
          | false =>
            have AN := Lib.hid (show ansI t = none by rw [ANS.out, if_neg (fun h => by rw [ha] at h; exact absurd h.1 (by decide))])
            rw [itxV_no ha] at CT0
            have CT := Lib.hid CT0
            clear ha CT0
            have PW := Lib.hid (LB.out.below HB.out).1
            obtain ⟨a0, a1, a2⟩ := HS.out.two
            go_wp2_with fail
            refine (CT.out _ BS.out.rd PW.out).mono ?_
            rintro e w5 ⟨rfl, hb5⟩
            have Y5 := Lib.hid (HY.out.below hb5 HY.out.lt)
            have S5 := Lib.hid (HS.out.below hb5 HS.out.lt)
            have I5 := Lib.hid (BS.out.below hb5)
            have HB5 := Lib.hid (HB.out.trans (hb5.mono HB.out.size))
            clear hb5 a0 a1 a2 PW CT
            obtain ⟨y0, y1, y2⟩ := Y5.out.two
            have f0 := Y5.out.fr 0
            have f1 := Y5.out.fr 1
            go_wp2
            have p0 : ((World.setCell _ ⟨w.heap.size, 0, none⟩ (.int .i64 0)).setCell ⟨w.heap.size, 1, none⟩ (.slice none 0 0)).cell? ⟨w.heap.size, 0, none⟩ = some (.int .i64 0) := (((Y5.out.set 0 (.int .i64 0)).set 1 (.slice none 0 0)).cell 0).trans (by simp)
            have p1 : ((World.setCell _ ⟨w.heap.size, 0, none⟩ (.int .i64 0)).setCell ⟨w.heap.size, 1, none⟩ (.slice none 0 0)).cell? ⟨w.heap.size, 1, none⟩ = some (.slice none 0 0) := (((Y5.out.set 0 (.int .i64 0)).set 1 (.slice none 0 0)).cell 1).trans (by simp)
            refine bodyPost_ret (v := .tuple #[.agg #[.int .i64 0, .slice none 0 0], .bool false]) (by simp [results, Tryd.f11, go_sem, p0, p1]) rfl ?_
            exact FAIL.out _ HB5.out Y5.out AN.out
          | true =>
            rw [itxV_ok ha] at CT0
            by_cases he : bs (itx nn cs) = t
            · have AN := Lib.hid (show ansI t = some (nn, cs) by rw [ANS.out, if_pos ⟨ha, he⟩])
              rw [he] at CT0
              have CT := Lib.hid CT0
              clear ha he CT0
              have PW := Lib.hid (LB.out.below HB.out).1
              obtain ⟨a0, a1, a2⟩ := HS.out.two
              go_wp2_with fail
              refine (CT.out _ BS.out.rd PW.out).mono ?_
              rintro e w5 ⟨rfl, hb5⟩
              have Y5 := Lib.hid (HY.out.below hb5 HY.out.lt)
              have S5 := Lib.hid (HS.out.below hb5 HS.out.lt)
              have I5 := Lib.hid (BS.out.below hb5)
              have HB5 := Lib.hid (HB.out.trans (hb5.mono HB.out.size))
              clear hb5 a0 a1 a2 PW CT
              obtain ⟨s0, s1, s2⟩ := S5.out.two
              obtain ⟨y0, y1, y2⟩ := Y5.out.two
              have f0 := Y5.out.fr 0
              have f1 := Y5.out.fr 1
              go_wp2
              have p0 : ((World.setCell _ ⟨w.heap.size, 0, none⟩ (.int .i64 nn)).setCell ⟨w.heap.size, 1, none⟩ (.slice ua ul uc)).cell? ⟨w.heap.size, 0, none⟩ = some (.int .i64 nn) := (((Y5.out.set 0 (.int .i64 nn)).set 1 (.slice ua ul uc)).cell 0).trans (by simp)
              have p1 : ((World.setCell _ ⟨w.heap.size, 0, none⟩ (.int .i64 nn)).setCell ⟨w.heap.size, 1, none⟩ (.slice ua ul uc)).cell? ⟨w.heap.size, 1, none⟩ = some (.slice ua ul uc) := (((Y5.out.set 0 (.int .i64 nn)).set 1 (.slice ua ul uc)).cell 1).trans (by simp)
              have P := Lib.hid (p_some AN.out)
              refine bodyPost_ret (v := .tuple #[.agg #[.int .i64 nn, (.slice ua ul uc)], .bool true]) (by simp [results, Tryd.f11, go_sem, p0, p1]) rfl ⟨_, by rw [P.out.1, P.out.2.1], ?_, (HB5.out.setCell (by simp) _).setCell (by simp) _⟩
              rw [P.out.2.2]
              exact ((I5.out.far (p := ⟨w.heap.size, 0, none⟩) ltb _).far (p := ⟨w.heap.size, 1, none⟩) ltb _).mono (Nat.le_of_lt ltb)
            · have AN := Lib.hid (show ansI t = none by rw [ANS.out, if_neg (fun h => he h.2)])
              have hnw := neqW he
              have CT := Lib.hid CT0
              clear ha he CT0
              generalize bs (itx nn cs) = tx at *
              have PW := Lib.hid (LB.out.below HB.out).1
              obtain ⟨a0, a1, a2⟩ := HS.out.two
              go_wp2_with fail
              refine (CT.out _ BS.out.rd PW.out).mono ?_
              rintro e w5 ⟨rfl, hb5⟩
              have Y5 := Lib.hid (HY.out.below hb5 HY.out.lt)
              have S5 := Lib.hid (HS.out.below hb5 HS.out.lt)
              have I5 := Lib.hid (BS.out.below hb5)
              have HB5 := Lib.hid (HB.out.trans (hb5.mono HB.out.size))
              clear hb5 a0 a1 a2 PW CT
              obtain ⟨y0, y1, y2⟩ := Y5.out.two
              have f0 := Y5.out.fr 0
              have f1 := Y5.out.fr 1
              go_wp2
              have p0 : ((World.setCell _ ⟨w.heap.size, 0, none⟩ (.int .i64 0)).setCell ⟨w.heap.size, 1, none⟩ (.slice none 0 0)).cell? ⟨w.heap.size, 0, none⟩ = some (.int .i64 0) := (((Y5.out.set 0 (.int .i64 0)).set 1 (.slice none 0 0)).cell 0).trans (by simp)
              have p1 : ((World.setCell _ ⟨w.heap.size, 0, none⟩ (.int .i64 0)).setCell ⟨w.heap.size, 1, none⟩ (.slice none 0 0)).cell? ⟨w.heap.size, 1, none⟩ = some (.slice none 0 0) := (((Y5.out.set 0 (.int .i64 0)).set 1 (.slice none 0 0)).cell 1).trans (by simp)
              refine bodyPost_ret (v := .tuple #[.agg #[.int .i64 0, .slice none 0 0], .bool false]) (by simp [results, Tryd.f11, go_sem, p0, p1]) rfl ?_
              exact FAIL.out _ HB5.out Y5.out AN.out
end Go.Proofs.YtcpipacombnhdaaDoor
