/- impl.cheapestToJoin. -/
import Derived.Test.YtdmgpbhbgeknfaaIjl
import Derived.Test.YtdmgpbhbgeknfaaIjb
import Derived.Test.YtdmgpbhbgeknfaaIy
import Derived.Deep.LoopGhost
namespace Go.Proofs.Ytdmgpbhbgeknfaa
set_option linter.unusedVariables false
open Go.RowKit

def jstI (m : Nat) (bs : List Br) : Int × List (List Nat) := bestJ m bs (ext bs.length (m - 1) 0)
theorem frm_in {n : Nat} : ∀ (k : Nat) {l : List Nat}, (frm n l).length ≤ k → (∀ x ∈ l, x < n) → ∀ z ∈ frm n l, z.length = l.length ∧ ∀ x ∈ z, x < n
  | 0, l, hk, hl => by rw [frm_next] at hk; simp at hk
  | k + 1, l, hk, hl => by
    intro z hz
    rw [frm_next] at hz hk
    rcases List.mem_cons.1 hz with rfl | hz
    · exact ⟨rfl, hl⟩
    · cases hs : nxt n l with
      | none => rw [hs] at hz; cases hz
      | some s =>
        rw [hs] at hz hk
        simp only [List.length_cons] at hk
        have := frm_in k (l := s) (by simpa using hk) (nxt_lt n l s hl hs) z hz
        exact ⟨this.1.trans (nxt_len n l s hs), this.2⟩
theorem ints_any {w : World} {B : Nat} {v : Value} {zs : List Int} (h : Ints w B v zs) : ∃ a n c, v = .slice a n c := by
  rcases h.2 with ⟨rfl, _⟩ | ⟨g, cap, cur, rfl, _⟩
  · exact ⟨_, _, _, rfl⟩
  · exact ⟨_, _, _, rfl⟩
theorem ne_row {P : Value → Prop} {w : World} {B B' g n c : Nat} {v : Value} {ls : List (List Nat)} {zs : List Int} (h : LsR P w B v ls) (hI : Ints w B' (.slice (some ⟨g, 0, none⟩) n c) zs) : v.ownBlock = none ∨ v.ownBlock ≠ some g := by
  obtain ⟨us, h1, _⟩ := h
  rcases row_ne h1 hI with e | e
  · cases e
  · exact .inr fun e2 => e (by rw [e2]; rfl)
theorem row_ne' {P : Value → Prop} {w : World} {B B' : Nat} {v u : Value} {ls : List (List Nat)} {zs : List Int} (h : LsR P w B v ls) (hI : Ints w B' u zs) : u.ownBlock = none ∨ u.ownBlock ≠ v.ownBlock := by
  obtain ⟨us, h1, _⟩ := h
  exact row_ne h1 hI
/-- a slice of lists and isles in a box share no block -/
theorem own_row_ne {P : Value → Prop} {w : World} {B s : Nat} {v : Value} {ls : List (List Nat)} (h : LsR P w B v ls) (hs : s < B) : some s ≠ v.ownBlock := fun e => by
  obtain ⟨us, h1, _⟩ := h
  have := (World.ownsRow.lt h1 s e.symm).1
  omega
/-- what cheapestToJoin leaves behind -/
def CheapP (st : Int × List (List Nat)) (w : World) (e : Ending) (w' : World) : Prop := ∃ (P : Value → Prop) (u : Value), e = .returned (.tuple #[.int .i64 st.1, u]) ∧ LsR P w' w.heap.size u st.2 ∧ Below w.heap.size w w'
set_option maxRecDepth 100000 in
set_option maxHeartbeats 4000000 in
theorem cheapestToJoin (m : Nat) (v : Value) (bs : List Br) (w : World) (h : RdB w v bs) (hg : Good m bs) (hm1 : 1 ≤ m) (hm : m ≤ 7) (hl : bs.length ≤ 14) :
    Calls Try.prog 43 #[.agg #[.int .i64 m, v]] w (CheapP (if groupsN m bs ≤ 1 then jstI m bs else (0, [])) w) := by
  have HV := Lib.hid h
  obtain ⟨av, lv, c, rfl, hnz, tt⟩ := h
  have HG := Lib.hid hg
  have HN := Lib.hid hnz
  rw [← hnz] at hl
  clear tt hnz
  have hgr := groups_le m bs
  by_cases h1 : groupsN m bs ≤ 1
  · rw [if_pos h1]
    have few := few_le hg h1
    have JS : Hid (jstI m bs = (frm bs.length (List.range (m - 1))).foldl (stepJ m bs) (0, [])) := Lib.hid (by
      unfold jstI bestJ
      rw [range_upI', frm_up _ _ _ (by omega)])
    have RL : ∀ x ∈ List.range (m - 1), x < bs.length := fun x hx => (by have h9 := List.mem_range.1 hx; omega)
    have FI := Lib.hid (frm_in (frm bs.length (List.range (m - 1))).length (l := List.range (m - 1)) (Nat.le_refl _) RL)
    have CN : Hid ((frm bs.length (List.range (m - 1))).length ≤ 10000000) := Lib.hid (by
      rw [range_upI', frm_up _ _ _ (by omega)]
      have h2 := ext_cnt bs.length (m - 1) 0
      have h3 : bs.length ^ (m - 1) ≤ 14 ^ (m - 1) := Nat.pow_le_pow_left (by have := HN.out; omega) _
      have h4 : (14 : Nat) ^ (m - 1) ≤ 14 ^ 6 := Nat.pow_le_pow_right (by omega) (by omega)
      have h5 : (14 : Nat) ^ 6 = 7529536 := by decide
      omega)
    have RLH := Lib.hid RL
    have LR : (List.range (m - 1)).length = m - 1 := by simp
    have LRH := Lib.hid LR
    have HJ := Lib.hid (show m - 1 ≤ bs.length from few)
    clear hg RL LR few
    have hkk : ((m : Int) - 1) = ((m - 1 : Nat) : Int) := by omega
    go_enter Try.func43, Try.ntmps43
    go_wp2_with fail
    refine (countGroups m _ bs _ (HV.out.below (by (repeat (first | exact Below.refl _ _ | (refine Below.alloc ?_ (by first | omega | (simp; try omega)) _) | apply Below.drew | apply below_drewN)))) HG.out hm (by have := HN.out; omega)).mono ?_
    rintro e w1 ⟨rfl, hb⟩
    have HB := Lib.hid (Below.trans (by (repeat (first | exact Below.refl _ _ | (refine Below.alloc ?_ (by first | omega | (simp; try omega)) _) | apply Below.drew | apply below_drewN))) (hb.mono (by simp; try omega)) : Below w.heap.size w w1)
    have XB := Lib.hid ((Blk.new w #[.int .i64 m, .slice av lv c] 30).below hb (by simp))
    obtain ⟨c0, c1, l0⟩ := XB.out.two
    clear hb
    generalize groupsN m bs = q at *
    have hq1 : ¬ (1 : Int) < q := by omega
    go_wp2_with fail
    refine (firstIndices (m - 1) _ (by omega)).mono ?_
    rintro e w2 ⟨g, c2, rfl, hI2, hb2⟩
    have hg2 := hI2.blk
    have B2 := Lib.hid (HB.out.trans (hb2.mono HB.out.size))
    have X2 := Lib.hid (XB.out.below hb2 XB.out.lt)
    have I2 := Lib.hid (ints_mono' hI2 HB.out.size)
    have hwg : w.heap.size < g := by omega
    clear hb2 hI2 c0 c1 hg2
    go_wp2_with fail
    go_loopg [4, 5, 7] (1 + (frm bs.length (List.range (m - 1))).length) (fun k t4 t5 t7 wr => ∃ (b : Bool) (x : Int) (ls : List (List Nat)) (cur : List Nat), t7 = .bool b ∧ t4 = .int .i64 x ∧ k = (if b then 1 + (frm bs.length cur).length else 0) ∧ Hid (LsR (fun u => u.ownBlock ≠ some g) wr (w.heap.size + 1) t5 ls) ∧ Hid (Ints wr w.heap.size (.slice (some ⟨g, 0, none⟩) (m - 1) c2) (idx cur)) ∧ Hid ((∀ y ∈ cur, y < bs.length) ∧ cur.length = m - 1) ∧ Hid (jstI m bs = if b then (frm bs.length cur).foldl (stepJ m bs) (x, ls) else (x, ls)) ∧ Hid (0 ≤ x ∧ x ≤ 14000) ∧ Hid (ls.length + (if b then (frm bs.length cur).length else 0) ≤ 10000000) ∧ Hid (Below w.heap.size w wr) ∧ Hid (Blk wr w.heap.size #[.int .i64 m, .slice av lv c]))
    case atStart => exact ⟨true, 0, [], List.range (m - 1), rfl, rfl, rfl, Lib.hid (LsR.nil _ _), I2, Lib.hid ⟨RLH.out, LRH.out⟩, JS, Lib.hid (by omega), Lib.hid (by have := CN.out; simpa using this), B2, X2⟩
    case round =>
      obtain ⟨b, x, ls, cur, rfl, rfl, rfl, HL, HI, HCur, HJ, HX, HCnt, HBr, HXb⟩ := hrel
      cases b with
      | false =>
        go_wp2
        go_ret2
        have e := HJ.out
        simp only [Bool.false_eq_true, if_false] at e
        rw [e]
        exact ⟨_, _, rfl, HL.out.mono (Nat.le_succ _), HBr.out⟩
      | true =>
        have hszr := HBr.out.size
        obtain ⟨la, lc, rfl⟩ := HL.out.len
        obtain ⟨c0, c1, l1⟩ := HXb.out.two
        simp only [if_true] at HJ HCnt
        have hcl : cur.length ≤ 14 := by have := HCur.out.2; omega
        go_wp2_with fail
        refine (withBridges m _ _ bs cur wr (HV.out.below HBr.out) HI.out.rd HCur.out.1 hcl).mono ?_
        rintro e w3 ⟨u3, rfl, hU3, hb3⟩
        obtain ⟨ua, uc, rfl⟩ := hU3.len
        have U3 := Lib.hid hU3.rd
        have B3 := Lib.hid (HBr.out.trans (hb3.mono hszr))
        have X3 := Lib.hid (HXb.out.below hb3 l1)
        have I3 := Lib.hid (HI.out.below hb3)
        have L3 := Lib.hid (HL.out.below hb3)
        clear hU3 hb3 c0 c1 HL HI HBr HXb
        have hsz3 := B3.out.size
        have AL := Lib.hid ((Below.refl w3.heap.size w3).alloc (Nat.le_refl _) (.cells #[.int .i64 m, .slice ua (pickB bs cur).length uc] 30))
        go_wp2_with fail
        refine (sumOfTolls m _ bs cur _ (U3.out.below AL.out) HG.out HCur.out.1 hcl).mono ?_
        rintro e w4 ⟨rfl, hb4⟩
        have D4 := Lib.hid (AL.out.trans (hb4.mono AL.out.size))
        have PX := Lib.hid ((Blk.new w3 #[.int .i64 m, .slice ua (pickB bs cur).length uc] 30).below hb4 (by simp))
        have B4 := Lib.hid (B3.out.trans (D4.out.mono hsz3))
        have X4 := Lib.hid (X3.out.below D4.out X3.out.lt)
        have I4 := Lib.hid (I3.out.below D4.out)
        have L4 := Lib.hid (L3.out.below D4.out)
        have U4 := Lib.hid (U3.out.below D4.out)
        clear hb4 AL D4 X3 I3 L3 U3 B3
        obtain ⟨p0, p1, p2⟩ := PX.out.two
        have hT := tollB_in HG.out HCur.out.1
        have ST := Lib.hid (show stepJ m bs (x, ls) cur = if joinsB m bs cur = false ∨ (ls ≠ [] ∧ x < tollB bs cur) then (x, ls) else if tollB bs cur < x then (tollB bs cur, [cur]) else (tollB bs cur, ls ++ [cur]) from rfl)
        have JB := Lib.hid (show joinsB m bs cur = decide (groupsN m (pickB bs cur) ≤ 1) from rfl)
        have PG := Lib.hid (pickB_good HG.out HCur.out.1)
        have hxx := HX.out
        have hcn := HCnt.out
        have hT2 : 0 ≤ tollB bs cur ∧ tollB bs cur ≤ 14000 := by omega
        clear hT
        generalize tollB bs cur = T at *
        obtain ⟨nl, hnl⟩ : ∃ nl, ls.length = nl := ⟨_, rfl⟩
        have HNL := Lib.hid hnl
        rw [hnl] at L4 ⊢
        by_cases hA : 0 < nl ∧ x < T
        · have hls : ls ≠ [] := fun e => by rw [e] at hnl; simp at hnl; omega
          have STEP := Lib.hid (show stepJ m bs (x, ls) cur = (x, ls) by rw [ST.out, if_pos (.inr ⟨hls, hA.2⟩)])
          have hA1 : (0 : Int) < nl := by omega
          have hA2 := hA.2
          have BZ := B4
          have XZ := X4
          have IZ := I4
          have LZ := Lib.hid (show LsR (fun u => u.ownBlock ≠ some g) w4 (w.heap.size + 1) (.slice la nl lc) ls from L4.out)
          have HX2 := HX
          clear hA hls hnl ST JB PG L4 I4 X4 B4 PX p0 p1 p2
          obtain ⟨a0, a1, al0⟩ := XZ.out.two
          go_wp2_with fail
          refine (advance _ cur lv w.heap.size w4 IZ.out ⟨_, _, _, rfl⟩ (by have := HCur.out.2; omega) (by have := HN.out; have h9 := HCur.out.1; rw [← this] at h9; exact h9) (by omega)).mono ?_
          rintro e wy ⟨rfl, hIy, hgy⟩
          have BY := Lib.hid (BZ.out.grown hgy BZ.out.size (fun b hb => by simp [Value.ownBlock] at hb; omega))
          have XY := Lib.hid (XZ.out.kept hgy (by simp [Value.ownBlock]; omega))
          have LY := Lib.hid (LZ.out.keptG hgy (ne_row LZ.out IZ.out) (fun u h => h))
          clear hgy BZ XZ LZ a0 a1 al0
          cases hs : nxt lv cur with
          | some s =>
            rw [hs] at hIy
            have IY := Lib.hid hIy
            have hs2 : nxt bs.length cur = some s := by rw [← HN.out]; exact hs
            have FR := Lib.hid (frm_some hs2)
            have J2 := Lib.hid (show jstI m bs = (frm bs.length s).foldl (stepJ m bs) (x, ls) by rw [HJ.out, FR.out, List.foldl_cons, STEP.out])
            have CU := Lib.hid (show (∀ y ∈ s, y < bs.length) ∧ s.length = m - 1 from ⟨nxt_lt _ _ _ HCur.out.1 hs2, (nxt_len _ _ _ hs2).trans HCur.out.2⟩)
            have N2 := Lib.hid (show (ls).length + (frm bs.length s).length ≤ 10000000 by have := HCnt.out; rw [FR.out] at this; simp at this ⊢; try omega)
            have FL := Lib.hid (show (frm bs.length cur).length = (frm bs.length s).length + 1 by rw [FR.out]; simp)
            clear hs hs2 hIy
            go_wp2
            go_roundg (1 + (frm bs.length s).length)
            case measure => (have := FL.out; omega)
            case rel => exact ⟨true, x, ls, s, rfl, rfl, rfl, LY, IY, CU, J2, HX2, N2, BY, XY⟩
          | none =>
            have hs2 : nxt bs.length cur = none := by rw [← HN.out]; exact hs
            have FR := Lib.hid (frm_last hs2)
            rw [hs] at hIy
            have IY := Lib.hid hIy
            have J2 := Lib.hid (show jstI m bs = (x, ls) by rw [HJ.out, FR.out, List.foldl_cons, STEP.out]; rfl)
            have N2 := Lib.hid (show (ls).length + 0 ≤ 10000000 by have := HCnt.out; rw [FR.out] at this; simp at this ⊢; try omega)
            clear hs hs2 hIy
            go_wp2
            go_roundg 0
            case measure => (have := FR.out; omega)
            case rel => exact ⟨false, x, ls, cur, rfl, rfl, rfl, LY, IY, HCur, J2, HX2, N2, BY, XY⟩
        have GC := Lib.hid (countGroups m _ (pickB bs cur) w4 U4.out PG.out hm (by rw [pickB_len]; exact hcl))
        have hNo : ¬ (ls ≠ [] ∧ x < T) := fun h => hA ⟨by rw [← hnl]; exact List.length_pos_iff.2 h.1, h.2⟩
        have hgm := groups_le m (pickB bs cur)
        have hA3 : nl = 0 ∨ (0 < nl ∧ ¬ x < T) := by
          rcases Nat.eq_zero_or_pos nl with e | e
          · exact .inl e
          · exact .inr ⟨e, fun h => hA ⟨e, h⟩⟩
        generalize hgq : groupsN m (pickB bs cur) = gq at *
        clear hA
        have HNo := Lib.hid hNo
        clear hNo
        rcases hA3 with hn0 | ⟨hn0, hxT⟩
        all_goals
          try (have hn0I : ¬ (0 : Int) < nl := by omega)
          have HN0 := Lib.hid hn0
          clear hn0
          try (have hn0I : (0 : Int) < nl := by omega)
          go_wp2_with fail
          refine GC.out.mono ?_
          rintro e w5 ⟨rfl, hb5⟩
          have B5 := Lib.hid (B4.out.trans (hb5.mono B4.out.size))
          have X5 := Lib.hid (X4.out.below hb5 X4.out.lt)
          have I5 := Lib.hid (I4.out.below hb5)
          have L5 := Lib.hid (L4.out.below hb5)
          clear hb5 B4 X4 I4 L4 PX p0 p1 p2 GC
          have hgw : g < w5.heap.size := I5.out.blk.2
          by_cases hq1 : gq ≤ 1
          · have hq2 : ¬ (1 : Int) < gq := by omega
            have JT := Lib.hid (show ¬ (joinsB m bs cur = false ∨ (ls ≠ [] ∧ x < T)) by
              rw [JB.out]
              rintro (h | h)
              · simp at h; omega
              · exact HNo.out h)
            have HX2 := Lib.hid (show 0 ≤ T ∧ T ≤ 14000 from hT2)
            by_cases hlt : T < x
            · have STEP := Lib.hid (show stepJ m bs (x, ls) cur = (T, [cur]) by rw [ST.out, if_neg JT.out, if_pos hlt])
              have LS5 : LsR (fun u => u.ownBlock ≠ some g) w5 (w.heap.size + 1) (.slice none 0 0) [] := LsR.nil _ _
              have HCnt2 := Lib.hid (show ([cur] : List (List Nat)).length ≤ ls.length + 1 by simp)
              have hnl9 : ([] : List (List Nat)).length < 16777216 := by simp
              go_wp2_with fail
              refine (cloneI g (m - 1) c2 (idx cur) _ I5.out.rd (by rw [idx_len]; have := HCur.out.2; omega)).mono ?_
              rintro e w6 ⟨u6, rfl, hI6, hb6⟩
              obtain ⟨ua6, un6, uc6, rfl⟩ := ints_any hI6
              have hP6 : (Value.slice ua6 un6 uc6).ownBlock ≠ some g := fun e => by have := (World.ownsRow.lt hI6 g e).1; omega
              have I6n := Lib.hid (ints_mono' (B := w.heap.size + 1) hI6 (by have := X5.out.lt; omega))
              have L6 := Lib.hid (LS5.below hb6)
              have I6 := Lib.hid (I5.out.below hb6)
              have B6 := Lib.hid (B5.out.trans (hb6.mono B5.out.size))
              have X6 := Lib.hid (X5.out.below hb6 X5.out.lt)
              clear hb6 hI6
              go_wp2_with (at_builtin; refine wpList_appL (P := fun u => u.ownBlock ≠ some g) w6 rfl _ _ rfl (w.heap.size + 1) _ [] rfl L6.out (.slice ua6 un6 uc6) hP6 cur I6n.out w6.heap.size rfl rfl hnl9 X6.out.lt rfl ?_; intro v7 w7 hL7 hb7 hg7; have LZ := Lib.hid hL7; have BZ := Lib.hid (B6.out.trans (hb7.mono (Nat.le_succ _))); have XZ := Lib.hid (X6.out.kept hg7 (own_row_ne L6.out (Nat.lt_succ_self _))); have IZ := Lib.hid (I6.out.kept hg7 (row_ne' L6.out I6.out)); have z7 := XZ.out.two; clear hL7 hb7 hg7)
              obtain ⟨a0, a1, al0⟩ := z7
              obtain ⟨a0, a1, al0⟩ := XZ.out.two
              go_wp2_with fail
              refine (advance _ cur lv w.heap.size w7 IZ.out ⟨_, _, _, rfl⟩ (by have := HCur.out.2; omega) (by have := HN.out; have h9 := HCur.out.1; rw [← this] at h9; exact h9) (by omega)).mono ?_
              rintro e wy ⟨rfl, hIy, hgy⟩
              have BY := Lib.hid (BZ.out.grown hgy BZ.out.size (fun b hb => by simp [Value.ownBlock] at hb; omega))
              have XY := Lib.hid (XZ.out.kept hgy (by simp [Value.ownBlock]; omega))
              have LY := Lib.hid (LZ.out.keptG hgy (ne_row LZ.out IZ.out) (fun u h => h))
              clear hgy BZ XZ LZ a0 a1 al0
              cases hs : nxt lv cur with
              | some s =>
                rw [hs] at hIy
                have IY := Lib.hid hIy
                have hs2 : nxt bs.length cur = some s := by rw [← HN.out]; exact hs
                have FR := Lib.hid (frm_some hs2)
                have J2 := Lib.hid (show jstI m bs = (frm bs.length s).foldl (stepJ m bs) (T, [cur]) by rw [HJ.out, FR.out, List.foldl_cons, STEP.out])
                have CU := Lib.hid (show (∀ y ∈ s, y < bs.length) ∧ s.length = m - 1 from ⟨nxt_lt _ _ _ HCur.out.1 hs2, (nxt_len _ _ _ hs2).trans HCur.out.2⟩)
                have N2 := Lib.hid (show ([cur]).length + (frm bs.length s).length ≤ 10000000 by have := HCnt.out; rw [FR.out] at this; simp at this ⊢; try omega)
                have FL := Lib.hid (show (frm bs.length cur).length = (frm bs.length s).length + 1 by rw [FR.out]; simp)
                clear hs hs2 hIy
                go_wp2
                go_roundg (1 + (frm bs.length s).length)
                case measure => (have := FL.out; omega)
                case rel => exact ⟨true, T, [cur], s, rfl, rfl, rfl, LY, IY, CU, J2, HX2, N2, BY, XY⟩
              | none =>
                have hs2 : nxt bs.length cur = none := by rw [← HN.out]; exact hs
                have FR := Lib.hid (frm_last hs2)
                rw [hs] at hIy
                have IY := Lib.hid hIy
                have J2 := Lib.hid (show jstI m bs = (T, [cur]) by rw [HJ.out, FR.out, List.foldl_cons, STEP.out]; rfl)
                have N2 := Lib.hid (show ([cur]).length + 0 ≤ 10000000 by have := HCnt.out; rw [FR.out] at this; simp at this ⊢; try omega)
                clear hs hs2 hIy
                go_wp2
                go_roundg 0
                case measure => (have := FR.out; omega)
                case rel => exact ⟨false, T, [cur], cur, rfl, rfl, rfl, LY, IY, HCur, J2, HX2, N2, BY, XY⟩
            · have STEP := Lib.hid (show stepJ m bs (x, ls) cur = (T, ls ++ [cur]) by rw [ST.out, if_neg JT.out, if_neg hlt])
              have LS5 : LsR (fun u => u.ownBlock ≠ some g) w5 (w.heap.size + 1) (.slice la nl lc) ls := L5.out
              have hnl9 : ls.length < 16777216 := by omega
              go_wp2_with fail
              refine (cloneI g (m - 1) c2 (idx cur) _ I5.out.rd (by rw [idx_len]; have := HCur.out.2; omega)).mono ?_
              rintro e w6 ⟨u6, rfl, hI6, hb6⟩
              obtain ⟨ua6, un6, uc6, rfl⟩ := ints_any hI6
              have hP6 : (Value.slice ua6 un6 uc6).ownBlock ≠ some g := fun e => by have := (World.ownsRow.lt hI6 g e).1; omega
              have I6n := Lib.hid (ints_mono' (B := w.heap.size + 1) hI6 (by have := X5.out.lt; omega))
              have L6 := Lib.hid (LS5.below hb6)
              have I6 := Lib.hid (I5.out.below hb6)
              have B6 := Lib.hid (B5.out.trans (hb6.mono B5.out.size))
              have X6 := Lib.hid (X5.out.below hb6 X5.out.lt)
              clear hb6 hI6
              go_wp2_with (at_builtin; refine wpList_appL (P := fun u => u.ownBlock ≠ some g) w6 rfl _ _ rfl (w.heap.size + 1) _ ls rfl L6.out (.slice ua6 un6 uc6) hP6 cur I6n.out w6.heap.size rfl rfl hnl9 X6.out.lt rfl ?_; intro v7 w7 hL7 hb7 hg7; have LZ := Lib.hid hL7; have BZ := Lib.hid (B6.out.trans (hb7.mono (Nat.le_succ _))); have XZ := Lib.hid (X6.out.kept hg7 (own_row_ne L6.out (Nat.lt_succ_self _))); have IZ := Lib.hid (I6.out.kept hg7 (row_ne' L6.out I6.out)); have z7 := XZ.out.two; clear hL7 hb7 hg7)
              obtain ⟨a0, a1, al0⟩ := z7
              obtain ⟨a0, a1, al0⟩ := XZ.out.two
              go_wp2_with fail
              refine (advance _ cur lv w.heap.size w7 IZ.out ⟨_, _, _, rfl⟩ (by have := HCur.out.2; omega) (by have := HN.out; have h9 := HCur.out.1; rw [← this] at h9; exact h9) (by omega)).mono ?_
              rintro e wy ⟨rfl, hIy, hgy⟩
              have BY := Lib.hid (BZ.out.grown hgy BZ.out.size (fun b hb => by simp [Value.ownBlock] at hb; omega))
              have XY := Lib.hid (XZ.out.kept hgy (by simp [Value.ownBlock]; omega))
              have LY := Lib.hid (LZ.out.keptG hgy (ne_row LZ.out IZ.out) (fun u h => h))
              clear hgy BZ XZ LZ a0 a1 al0
              cases hs : nxt lv cur with
              | some s =>
                rw [hs] at hIy
                have IY := Lib.hid hIy
                have hs2 : nxt bs.length cur = some s := by rw [← HN.out]; exact hs
                have FR := Lib.hid (frm_some hs2)
                have J2 := Lib.hid (show jstI m bs = (frm bs.length s).foldl (stepJ m bs) (T, (ls ++ [cur])) by rw [HJ.out, FR.out, List.foldl_cons, STEP.out])
                have CU := Lib.hid (show (∀ y ∈ s, y < bs.length) ∧ s.length = m - 1 from ⟨nxt_lt _ _ _ HCur.out.1 hs2, (nxt_len _ _ _ hs2).trans HCur.out.2⟩)
                have N2 := Lib.hid (show ((ls ++ [cur])).length + (frm bs.length s).length ≤ 10000000 by have := HCnt.out; rw [FR.out] at this; simp at this ⊢; try omega)
                have FL := Lib.hid (show (frm bs.length cur).length = (frm bs.length s).length + 1 by rw [FR.out]; simp)
                clear hs hs2 hIy
                go_wp2
                go_roundg (1 + (frm bs.length s).length)
                case measure => (have := FL.out; omega)
                case rel => exact ⟨true, T, (ls ++ [cur]), s, rfl, rfl, rfl, LY, IY, CU, J2, HX2, N2, BY, XY⟩
              | none =>
                have hs2 : nxt bs.length cur = none := by rw [← HN.out]; exact hs
                have FR := Lib.hid (frm_last hs2)
                rw [hs] at hIy
                have IY := Lib.hid hIy
                have J2 := Lib.hid (show jstI m bs = (T, (ls ++ [cur])) by rw [HJ.out, FR.out, List.foldl_cons, STEP.out]; rfl)
                have N2 := Lib.hid (show ((ls ++ [cur])).length + 0 ≤ 10000000 by have := HCnt.out; rw [FR.out] at this; simp at this ⊢; try omega)
                clear hs hs2 hIy
                go_wp2
                go_roundg 0
                case measure => (have := FR.out; omega)
                case rel => exact ⟨false, T, (ls ++ [cur]), cur, rfl, rfl, rfl, LY, IY, HCur, J2, HX2, N2, BY, XY⟩
          · have hq2 : (1 : Int) < gq := by omega
            have STEP := Lib.hid (show stepJ m bs (x, ls) cur = (x, ls) by rw [ST.out, if_pos (.inl (by rw [JB.out]; simp; omega))])
            have BZ := B5
            have XZ := X5
            have IZ := I5
            have LZ := Lib.hid (show LsR (fun u => u.ownBlock ≠ some g) w5 (w.heap.size + 1) (.slice la nl lc) ls from L5.out)
            have HX2 := HX
            obtain ⟨a0, a1, al0⟩ := XZ.out.two
            go_wp2_with fail
            refine (advance _ cur lv w.heap.size w5 IZ.out ⟨_, _, _, rfl⟩ (by have := HCur.out.2; omega) (by have := HN.out; have h9 := HCur.out.1; rw [← this] at h9; exact h9) (by omega)).mono ?_
            rintro e wy ⟨rfl, hIy, hgy⟩
            have BY := Lib.hid (BZ.out.grown hgy BZ.out.size (fun b hb => by simp [Value.ownBlock] at hb; omega))
            have XY := Lib.hid (XZ.out.kept hgy (by simp [Value.ownBlock]; omega))
            have LY := Lib.hid (LZ.out.keptG hgy (ne_row LZ.out IZ.out) (fun u h => h))
            clear hgy BZ XZ LZ a0 a1 al0
            cases hs : nxt lv cur with
            | some s =>
              rw [hs] at hIy
              have IY := Lib.hid hIy
              have hs2 : nxt bs.length cur = some s := by rw [← HN.out]; exact hs
              have FR := Lib.hid (frm_some hs2)
              have J2 := Lib.hid (show jstI m bs = (frm bs.length s).foldl (stepJ m bs) (x, ls) by rw [HJ.out, FR.out, List.foldl_cons, STEP.out])
              have CU := Lib.hid (show (∀ y ∈ s, y < bs.length) ∧ s.length = m - 1 from ⟨nxt_lt _ _ _ HCur.out.1 hs2, (nxt_len _ _ _ hs2).trans HCur.out.2⟩)
              have N2 := Lib.hid (show (ls).length + (frm bs.length s).length ≤ 10000000 by have := HCnt.out; rw [FR.out] at this; simp at this ⊢; try omega)
              have FL := Lib.hid (show (frm bs.length cur).length = (frm bs.length s).length + 1 by rw [FR.out]; simp)
              clear hs hs2 hIy
              go_wp2
              go_roundg (1 + (frm bs.length s).length)
              case measure => (have := FL.out; omega)
              case rel => exact ⟨true, x, ls, s, rfl, rfl, rfl, LY, IY, CU, J2, HX2, N2, BY, XY⟩
            | none =>
              have hs2 : nxt bs.length cur = none := by rw [← HN.out]; exact hs
              have FR := Lib.hid (frm_last hs2)
              rw [hs] at hIy
              have IY := Lib.hid hIy
              have J2 := Lib.hid (show jstI m bs = (x, ls) by rw [HJ.out, FR.out, List.foldl_cons, STEP.out]; rfl)
              have N2 := Lib.hid (show (ls).length + 0 ≤ 10000000 by have := HCnt.out; rw [FR.out] at this; simp at this ⊢; try omega)
              clear hs hs2 hIy
              go_wp2
              go_roundg 0
              case measure => (have := FR.out; omega)
              case rel => exact ⟨false, x, ls, cur, rfl, rfl, rfl, LY, IY, HCur, J2, HX2, N2, BY, XY⟩
  · rw [if_neg h1]
    go_enter Try.func43, Try.ntmps43
    go_wp2_with fail
    refine (countGroups m _ bs _ (HV.out.below (by (repeat (first | exact Below.refl _ _ | (refine Below.alloc ?_ (by first | omega | (simp; try omega)) _) | apply Below.drew | apply below_drewN)))) HG.out hm (by have := HN.out; omega)).mono ?_
    rintro e w1 ⟨rfl, hb⟩
    have HB := Lib.hid (Below.trans (by (repeat (first | exact Below.refl _ _ | (refine Below.alloc ?_ (by first | omega | (simp; try omega)) _) | apply Below.drew | apply below_drewN))) (hb.mono (by simp; try omega)) : Below w.heap.size w w1)
    clear hb
    generalize groupsN m bs = q at *
    have hq1 : (1 : Int) < q := by omega
    go_wp2
    go_ret2
    exact ⟨fun _ => True, _, rfl, LsR.nil _ _, HB.out⟩
end Go.Proofs.Ytdmgpbhbgeknfaa
