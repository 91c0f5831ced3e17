/- The least tolls by spec: isTolls, isBoth; TollBetween. -/
import Derived.Test.YtdmgpbhbgeknfabIq
import Derived.Test.YtdmgpbhbgeknfabIh
import Derived.StillTailTactics
import Derived.IntWalk
namespace Go.Proofs.Ytdmgpbhbgeknfab
set_option linter.unusedVariables false
open Go.RowKit

theorem rnd_take {p : Bool} {bs : List Br} {k : Nat} (h : k < bs.length) (out : List Int) : rnd p (bs.take (k + 1)) out = rx p (rnd p (bs.take k) out) (gb bs k) := by
  unfold rnd
  rw [take_snocB h, List.foldl_append]; rfl
theorem rnd_0 (p : Bool) (bs : List Br) (out : List Int) : rnd p (bs.take 0) out = out := rfl
theorem fill_tl (m j : Nat) (h : j < m) : (List.replicate j big ++ List.replicate (m - j) (0 : Int)).set j big = List.replicate (j + 1) big ++ List.replicate (m - (j + 1)) 0 := by
  have e : List.replicate (m - j) (0 : Int) = 0 :: List.replicate (m - (j + 1)) 0 := by
    rw [← List.replicate_succ]; congr 1; omega
  rw [e, List.set_append_right _ _ (by simp), List.length_replicate, Nat.sub_self, List.set_cons_zero, List.replicate_succ', List.append_assoc]
  rfl
set_option maxRecDepth 100000 in
set_option maxHeartbeats 4000000 in
theorem isTolls (m : Nat) (v : Value) (bs : List Br) (s : Nat) (p : Bool) (w : World) (h : RdB w v bs) (hg : Good m bs) (hm : m ≤ 7) (hl : bs.length ≤ 14) (hs : s < m) :
    Calls Try.prog 19 #[.agg #[.int .i64 m, v], .int .i64 s, .bool p] w fun e w' => ∃ g c, e = .returned (.slice (some ⟨g, 0, none⟩) m c) ∧ Ints w' w.heap.size (.slice (some ⟨g, 0, none⟩) m c) (tl m bs p s) ∧ Below w.heap.size w w' := by
  obtain ⟨a, l, c, rfl, hnz, _, _, hcell⟩ := h
  rw [← hnz] at hl
  have HN := Lib.hid hnz
  have HC := Lib.hid hcell
  have HG := Lib.hid hg
  clear hcell hnz hg
  have X0 := Lib.hid (Blk.new w #[.int .i64 m, .slice a l c] 31)
  have BW := Lib.hid ((Below.refl w.heap.size w).alloc (Nat.le_refl _) (.cells #[.int .i64 m, .slice a l c] 31))
  have hsz0 : (w.alloc (.cells #[.int .i64 m, .slice a l c] 31)).heap.size = w.heap.size + 1 := by simp
  go_enter Try.func19, Try.ntmps19
  go_wp2_with (at_make; refine wpList_mk rfl _ _ rfl (w.heap.size + 1) m _ rfl rfl rfl (by omega) (by simp) ?_; intro w1 hI hb1 hg1)
  rw [hsz0] at hI
  have X1 := Lib.hid (X0.out.below hb1 (by omega))
  have HI := Lib.hid (show Ints w1 (w.heap.size + 1) (.slice (some ⟨w.heap.size + 1, 0, none⟩) m m) (List.replicate 0 big ++ List.replicate (m - 0) 0) from by simpa using hI)
  have HB1 := Lib.hid (BW.out.trans (hb1.mono (by omega)))
  have hsz1 : w.heap.size + 1 ≤ w1.heap.size := by have := hb1.size; omega
  clear hI hb1 hg1 hsz0
  go_loopw [8, 18] (fun _ i wr => ∃ j : Nat, j ≤ m ∧ i = .int .i64 j ∧ Ints wr (w.heap.size + 1) (.slice (some ⟨w.heap.size + 1, 0, none⟩) m m) (List.replicate j big ++ List.replicate (m - j) 0) ∧ Below (w.heap.size + 1) w1 wr) (fun _ i _ => m - (intOf i).toNat)
  case atStart => exact ⟨0, Nat.zero_le _, rfl, HI.out, Below.refl _ _⟩
  case round =>
    obtain ⟨j, hj, rfl, hI, hb⟩ := hrel
    have hln : m = (List.replicate j big ++ List.replicate (m - j) (0 : Int)).length := by simp; omega
    have HLN := Lib.hid hln
    clear hln
    by_cases hlt : j < m
    · have hlt' : (j : Int) < m := by omega
      have e1 := hI.cell HLN.out j hlt
      have e2 := hI.frz HLN.out j
      have S := hI.set HLN.out j big
      rw [fill_tl m j hlt] at S
      have SS := Lib.hid S
      have HB := Lib.hid (hb.grown S.2 (by have := hb.size; omega) (by intro k hk; cases hk; exact Nat.le_refl _))
      clear S hI hb
      generalize gt (List.replicate j big ++ List.replicate (m - j) (0 : Int)) j = x at *
      go_wp2
      go_roundw
      case rel => exact ⟨j + 1, by omega, by go_num, SS.out.1, HB.out⟩
      case measure => (simp [intOf]; try omega)
    · obtain rfl : j = m := by omega
      have e0 : List.replicate j big ++ List.replicate (j - j) (0 : Int) = List.replicate j big := by simp
      have HLN2 := Lib.hid (show j = (List.replicate j big).length by simp)
      rw [e0] at hI
      have hsI : (s : Int) < j := by omega
      have e1 := hI.cell HLN2.out s hs
      have e2 := hI.frz HLN2.out s
      have S := hI.set HLN2.out s 0
      have SS := Lib.hid (show Ints _ _ _ (rnds p bs 0 (tl0 j s)) ∧ _ from S)
      have HB := Lib.hid (hb.grown S.2 (by have := hb.size; omega) (by intro k hk; cases hk; exact Nat.le_refl _))
      clear S hI e0 HLN HI
      have hbs := hb.size
      clear hb
      generalize gt (List.replicate j big) s = x at *
      obtain ⟨n, hnj⟩ : ∃ n, n = j := ⟨_, rfl⟩
      obtain ⟨wo, rfl⟩ : ∃ w1 : World, w1 = wr := ⟨_, rfl⟩
      have X1 := Lib.hid X1.out
      go_wp2
      go_loopw [9] (fun i wr => ∃ r : Nat, r ≤ j ∧ i = .int .i64 r ∧ Ints wr (w.heap.size + 1) (.slice (some ⟨w.heap.size + 1, 0, none⟩) j j) (rnds p bs r (tl0 j s)) ∧ Below (w.heap.size + 1) w1 wr) (fun i _ => j - (intOf i).toNat)
      case atStart => exact ⟨0, Nat.zero_le _, rfl, SS.out.1, HB.out⟩
      case round =>
        clear SS HB
        obtain ⟨r, hr, rfl, hI, hb⟩ := hrel
        obtain ⟨c0, c1, l0⟩ := (X1.out.below hb (by omega)).two
        have hwr := hb.size
        have HI := Lib.hid hI
        have HB := Lib.hid hb
        clear hI hb
        by_cases hlt : r < j
        · have hlt' : (r : Int) < j := by omega
          have HCL := Lib.hid (show (rnds p bs r (tl0 j s)).length = j by rw [rnds_len]; simp [tl0])
          have HK := Lib.hid ((tlOK_0 (bs := bs) (p := p) hs).rnds HG.out r)
          have F := Lib.hid (show rnds p bs (r + 1) (tl0 j s) = rnd p bs (rnds p bs r (tl0 j s)) from rfl)
          generalize rnds p bs r (tl0 j s) = cur at *
          obtain ⟨wo2, rfl⟩ : ∃ w1 : World, w1 = wr := ⟨_, rfl⟩
          go_wp2
          go_loopw [37] (fun i wr => ∃ k : Nat, k ≤ l ∧ i = .int .i64 k ∧ Ints wr (w.heap.size + 1) (.slice (some ⟨w.heap.size + 1, 0, none⟩) j j) (rnd p (bs.take k) cur) ∧ Below (w.heap.size + 1) w1 wr) (fun i _ => l - (intOf i).toNat)
          case atStart => exact ⟨0, Nat.zero_le _, rfl, HI.out, HB.out⟩
          case round =>
            clear HI HB c0 c1 l0 hwr
            obtain ⟨k, hk, rfl, hI, hb⟩ := hrel
            by_cases hlt2 : k < l
            · obtain ⟨b, off, rfl, hbw, hA⟩ := HC.out k hlt2
              obtain ⟨c0, c1, c2⟩ := (hA.below hbw HB1.out).below (B := w.heap.size + 1) (by omega) hb
              have hltI : (k : Int) < l := by omega
              have hv := HG.out.at (j := k) (by have := HN.out; omega)
              have hmem := gb_mem (bs := bs) (j := k) (by have := HN.out; omega)
              have hK1 := HK.out.part HG.out (cs := bs.take k) (fun b hb => List.mem_of_mem_take hb)
              have HK1 := Lib.hid hK1
              have HK2 := Lib.hid (hK1.rx1 HG.out hmem)
              have HR := Lib.hid (rnd_take (p := p) (bs := bs) (k := k) (by have := HN.out; omega) cur)
              clear hmem hK1 hA
              generalize gb bs k = q at *
              generalize rnd p (bs.take k) cur = out at *
              obtain ⟨x, y, z⟩ := q
              simp only at hv c0 c1 c2
              obtain ⟨xi, rfl⟩ := Int.eq_ofNat_of_zero_le hv.1
              obtain ⟨yi, rfl⟩ := Int.eq_ofNat_of_zero_le (show 0 ≤ y by omega)
              have hxn : xi < j := by omega
              have hyn : yi < j := by omega
              have hwr := hb.size
              have e1 := hI.cell HK1.out.len.symm xi hxn
              have e2 := hI.cell HK1.out.len.symm yi hyn
              have hx1 := HK1.out.low xi hxn
              have hy1 := HK1.out.low yi hyn
              have e3 := hI.frz HK1.out.len.symm xi
              unfold big at hx1 hy1
              have hgw := hI.blk.2
              have HI := Lib.hid hI
              have HB := Lib.hid hb
              clear hI hb
              have hxI : (xi : Int) < j := by omega
              have hyI : (yi : Int) < j := by omega
              have hx0 : (0 : Int) ≤ xi := by omega
              have hy0 : (0 : Int) ≤ yi := by omega
              have hz0 := hv.2.2.2.1
              have hz1 := hv.2.2.2.2
              clear hv
              have hwr' : w.heap.size + 1 ≤ wr.heap.size := by omega
              cases p
              · have HX1 := Lib.hid (show rx1 false out ((xi : Int), (yi : Int), z) = out.set xi (min (gt out xi) (gt out yi + z)) by simp [rx1, wt])
                have HX2 := Lib.hid (show rx false out ((xi : Int), (yi : Int), z) = (rx1 false out ((xi : Int), (yi : Int), z)).set yi (min (gt (rx1 false out ((xi : Int), (yi : Int), z)) yi) (gt (rx1 false out ((xi : Int), (yi : Int), z)) xi + z)) by simp [rx, rx2, wt])
                generalize rx1 false out ((xi : Int), (yi : Int), z) = out1 at *
                have f1 := HK2.out.low xi hxn
                have f2 := HK2.out.low yi hyn
                unfold big at f1 f2
                have hwz : IntKind.i64.wrap (gt out yi + z) = gt out yi + z := IntWalk.i64_in _ (by omega)
                have BX := Blk.new wr #[.int .i64 (xi : Int), .int .i64 (yi : Int), .int .i64 z] 54
                have HAL := Lib.hid ((Below.refl wr.heap.size wr).alloc (Nat.le_refl _) (.cells #[.int .i64 (xi : Int), .int .i64 (yi : Int), .int .i64 z] 54))
                have HBX := Lib.hid BX
                have q0 := BX.cell 0
                have q1 := BX.cell 1
                have q2 := BX.cell 2
                simp only [List.getElem?_toArray, List.getElem?_cons_zero, List.getElem?_cons_succ] at q0 q1 q2
                have e1b := (HI.out.below HAL.out).cell HK1.out.len.symm xi hxn
                have e2b := (HI.out.below HAL.out).cell HK1.out.len.symm yi hyn
                clear BX e1 e2 e3
                go_wp2_with fail
                clear c0 c1 c2
                generalize wr.alloc (.cells #[.int .i64 (xi : Int), .int .i64 (yi : Int), .int .i64 z] 54) = wb at *
                generalize hox : gt out xi = ox at *
                generalize hoy : gt out yi = oy at *
                have HOX := Lib.hid hox
                have HOY := Lib.hid hoy
                clear hox hoy
                go_still_tail 17, (by kernel_rfl)
                still_call ((l1Least ox (oy + z) _).mono (fun _ _ h => ⟨h.1, h.2.symm⟩))
                repeat still_step
                try refine wpStill_nil ?_
                change wpList _ _ _ _ _ wb.drew
                have HI2 := Lib.hid (show Ints wb.drew (w.heap.size + 1) (.slice (some ⟨w.heap.size + 1, 0, none⟩) j j) out from HI.out.below HAL.out.drew)
                have HAL2 := Lib.hid (show Below wr.heap.size wr wb.drew from HAL.out.drew)
                have HBX2 := Lib.hid (show Blk wb.drew wr.heap.size #[.int .i64 (xi : Int), .int .i64 (yi : Int), .int .i64 z] from HBX.out)
                clear HAL HBX q0 q1 q2 e1b e2b hwz
                generalize wb.drew = wd at *
                have g1 := HI2.out.cell HK1.out.len.symm xi hxn
                have g2 := HI2.out.frz HK1.out.len.symm xi
                have S := HI2.out.set HK1.out.len.symm xi (min ox (oy + z))
                rw [← HX1.out] at S
                have SS := Lib.hid S
                clear S
                go_wp2_with fail
                have HI3 := Lib.hid SS.out.1
                have hsd := HAL2.out.size
                have HAL3 := Lib.hid ((HB.out.trans (HAL2.out.mono hwr')).grown SS.out.2 (by omega) (by intro k hk; cases hk; exact Nat.le_refl _))
                have HBX3 := Lib.hid (HBX2.out.far (p := ⟨w.heap.size + 1, xi, none⟩) (by simp; omega) (.int .i64 (min ox (oy + z))))
                clear SS HI2 HAL2 HBX2 g1 g2 hx1 hy1 HX1 HOX HOY hsd
                generalize wd.setCell ⟨w.heap.size + 1, xi, none⟩ (.int .i64 (min ox (oy + z))) = we at *
                have q0 := HBX3.out.cell 0
                have q1 := HBX3.out.cell 1
                have q2 := HBX3.out.cell 2
                simp only [List.getElem?_toArray, List.getElem?_cons_zero, List.getElem?_cons_succ] at q0 q1 q2
                have e1b := HI3.out.cell HK2.out.len.symm xi hxn
                have e2b := HI3.out.cell HK2.out.len.symm yi hyn
                generalize hox : gt out1 xi = ox1 at *
                generalize hoy : gt out1 yi = oy1 at *
                have HOX := Lib.hid hox
                have HOY := Lib.hid hoy
                clear hox hoy
                have hwz : IntKind.i64.wrap (ox1 + z) = ox1 + z := IntWalk.i64_in _ (by omega)
                go_still_tail 17, (by kernel_rfl)
                still_call ((l1Least oy1 (ox1 + z) _).mono (fun _ _ h => ⟨h.1, h.2.symm⟩))
                repeat still_step
                try refine wpStill_nil ?_
                change wpList _ _ _ _ _ we.drew
                have HI4 := Lib.hid (show Ints we.drew (w.heap.size + 1) (.slice (some ⟨w.heap.size + 1, 0, none⟩) j j) out1 from HI3.out)
                have HAL4 := Lib.hid (show Below (w.heap.size + 1) w1 we.drew from HAL3.out.drew)
                clear HI3 HAL3 HBX3 q0 q1 q2 e1b e2b hwz
                generalize we.drew = wf at *
                have g1 := HI4.out.cell HK2.out.len.symm yi hyn
                have g2 := HI4.out.frz HK2.out.len.symm yi
                have S := HI4.out.set HK2.out.len.symm yi (min oy1 (ox1 + z))
                rw [← HX2.out] at S
                have SS := Lib.hid S
                have HAL5 := Lib.hid (HAL4.out.grown S.2 (by have := HAL4.out.size; omega) (by intro k hk; cases hk; exact Nat.le_refl _))
                clear S HI4 HAL4
                go_wp2
                go_roundw
                case rel => exact ⟨k + 1, by omega, by go_num, by rw [HR.out]; exact SS.out.1, HAL5.out⟩
                case measure => (simp [intOf]; try omega)
              · have HX1 := Lib.hid (show rx1 true out ((xi : Int), (yi : Int), z) = out.set xi (min (gt out xi) (gt out yi + 1)) by simp [rx1, wt])
                have HX2 := Lib.hid (show rx true out ((xi : Int), (yi : Int), z) = (rx1 true out ((xi : Int), (yi : Int), z)).set yi (min (gt (rx1 true out ((xi : Int), (yi : Int), z)) yi) (gt (rx1 true out ((xi : Int), (yi : Int), z)) xi + 1)) by simp [rx, rx2, wt])
                generalize rx1 true out ((xi : Int), (yi : Int), z) = out1 at *
                have f1 := HK2.out.low xi hxn
                have f2 := HK2.out.low yi hyn
                unfold big at f1 f2
                have hwz : IntKind.i64.wrap (gt out yi + 1) = gt out yi + 1 := IntWalk.i64_in _ (by omega)
                have BX := Blk.new wr #[.int .i64 (xi : Int), .int .i64 (yi : Int), .int .i64 z] 54
                have HAL := Lib.hid ((Below.refl wr.heap.size wr).alloc (Nat.le_refl _) (.cells #[.int .i64 (xi : Int), .int .i64 (yi : Int), .int .i64 z] 54))
                have HBX := Lib.hid BX
                have q0 := BX.cell 0
                have q1 := BX.cell 1
                have q2 := BX.cell 2
                simp only [List.getElem?_toArray, List.getElem?_cons_zero, List.getElem?_cons_succ] at q0 q1 q2
                have e1b := (HI.out.below HAL.out).cell HK1.out.len.symm xi hxn
                have e2b := (HI.out.below HAL.out).cell HK1.out.len.symm yi hyn
                clear BX e1 e2 e3
                go_wp2_with fail
                clear c0 c1 c2
                generalize wr.alloc (.cells #[.int .i64 (xi : Int), .int .i64 (yi : Int), .int .i64 z] 54) = wb at *
                generalize hox : gt out xi = ox at *
                generalize hoy : gt out yi = oy at *
                have HOX := Lib.hid hox
                have HOY := Lib.hid hoy
                clear hox hoy
                go_still_tail 17, (by kernel_rfl)
                still_call ((l1Least ox (oy + 1) _).mono (fun _ _ h => ⟨h.1, h.2.symm⟩))
                repeat still_step
                try refine wpStill_nil ?_
                change wpList _ _ _ _ _ wb.drew
                have HI2 := Lib.hid (show Ints wb.drew (w.heap.size + 1) (.slice (some ⟨w.heap.size + 1, 0, none⟩) j j) out from HI.out.below HAL.out.drew)
                have HAL2 := Lib.hid (show Below wr.heap.size wr wb.drew from HAL.out.drew)
                have HBX2 := Lib.hid (show Blk wb.drew wr.heap.size #[.int .i64 (xi : Int), .int .i64 (yi : Int), .int .i64 z] from HBX.out)
                clear HAL HBX q0 q1 q2 e1b e2b hwz
                generalize wb.drew = wd at *
                have g1 := HI2.out.cell HK1.out.len.symm xi hxn
                have g2 := HI2.out.frz HK1.out.len.symm xi
                have S := HI2.out.set HK1.out.len.symm xi (min ox (oy + 1))
                rw [← HX1.out] at S
                have SS := Lib.hid S
                clear S
                go_wp2_with fail
                have HI3 := Lib.hid SS.out.1
                have hsd := HAL2.out.size
                have HAL3 := Lib.hid ((HB.out.trans (HAL2.out.mono hwr')).grown SS.out.2 (by omega) (by intro k hk; cases hk; exact Nat.le_refl _))
                have HBX3 := Lib.hid (HBX2.out.far (p := ⟨w.heap.size + 1, xi, none⟩) (by simp; omega) (.int .i64 (min ox (oy + 1))))
                clear SS HI2 HAL2 HBX2 g1 g2 hx1 hy1 HX1 HOX HOY hsd
                generalize wd.setCell ⟨w.heap.size + 1, xi, none⟩ (.int .i64 (min ox (oy + 1))) = we at *
                have q0 := HBX3.out.cell 0
                have q1 := HBX3.out.cell 1
                have q2 := HBX3.out.cell 2
                simp only [List.getElem?_toArray, List.getElem?_cons_zero, List.getElem?_cons_succ] at q0 q1 q2
                have e1b := HI3.out.cell HK2.out.len.symm xi hxn
                have e2b := HI3.out.cell HK2.out.len.symm yi hyn
                generalize hox : gt out1 xi = ox1 at *
                generalize hoy : gt out1 yi = oy1 at *
                have HOX := Lib.hid hox
                have HOY := Lib.hid hoy
                clear hox hoy
                have hwz : IntKind.i64.wrap (ox1 + 1) = ox1 + 1 := IntWalk.i64_in _ (by omega)
                go_still_tail 17, (by kernel_rfl)
                still_call ((l1Least oy1 (ox1 + 1) _).mono (fun _ _ h => ⟨h.1, h.2.symm⟩))
                repeat still_step
                try refine wpStill_nil ?_
                change wpList _ _ _ _ _ we.drew
                have HI4 := Lib.hid (show Ints we.drew (w.heap.size + 1) (.slice (some ⟨w.heap.size + 1, 0, none⟩) j j) out1 from HI3.out)
                have HAL4 := Lib.hid (show Below (w.heap.size + 1) w1 we.drew from HAL3.out.drew)
                clear HI3 HAL3 HBX3 q0 q1 q2 e1b e2b hwz
                generalize we.drew = wf at *
                have g1 := HI4.out.cell HK2.out.len.symm yi hyn
                have g2 := HI4.out.frz HK2.out.len.symm yi
                have S := HI4.out.set HK2.out.len.symm yi (min oy1 (ox1 + 1))
                rw [← HX2.out] at S
                have SS := Lib.hid S
                have HAL5 := Lib.hid (HAL4.out.grown S.2 (by have := HAL4.out.size; omega) (by intro k hk; cases hk; exact Nat.le_refl _))
                clear S HI4 HAL4
                go_wp2
                go_roundw
                case rel => exact ⟨k + 1, by omega, by go_num, by rw [HR.out]; exact SS.out.1, HAL5.out⟩
                case measure => (simp [intOf]; try omega)
            · obtain rfl : k = l := by omega
              have e : bs.take k = bs := List.take_of_length_le (by have := HN.out; omega)
              rw [e] at hI
              have HI := Lib.hid hI
              clear hI e
              go_wp2
              go_roundw
              case rel => exact ⟨r + 1, by omega, by go_num, by rw [F.out]; exact HI.out, hb⟩
              case measure => (simp [intOf]; try omega)
        · obtain rfl : r = j := by omega
          have HBW := Lib.hid (HB1.out.trans (HB.out.mono (by omega)))
          go_wp2
          go_ret
          exact ⟨_, _, rfl, ints_mono' HI.out (by omega), HBW.out⟩
end Go.Proofs.Ytdmgpbhbgeknfab
