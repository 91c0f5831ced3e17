/- impl.movesLeft, made by gen_left.py. -/
import Derived.Test.YteoggpollgkfiaaDoorLq
import Derived.BigGuardIn
import Derived.BigGuardPartIn
namespace Go.Proofs.YteoggpollgkfiaaDoor
set_option linter.unusedVariables false
open Go.RowKit Go.Shelf
attribute [local go_sem] Oper.semAt_some wide_fn wide_depth
attribute [local simp] wide_fn wide_depth

set_option maxHeartbeats 8000000 in
set_option maxRecDepth 100000 in
theorem movesLeftTo (s : ByteArray) (p : Addr) (w : World) (hps : isPd s = true) (R : List ByteArray) (hR : reach s = R) (hL : Laid w p) (G : ByteArray) (gb : Nat) (hG : w.cell? ⟨gb, 0, none⟩ = some (.string G)) (hgb : gb < w.heap.size) :
    Calls Tryd.prog 34 #[.string s, .func (.func 44) #[] #[.pointer (some ⟨gb, 0, none⟩)], .func (.func 38) #[] #[]] w fun e w' => ∃ b, e = .returned (.map (some b)) ∧ w.heap.size ≤ b ∧ (∃ N, IMap w' b N (lAll (isG G) lessI R).1 (lAll (isG G) lessI R).2) ∧ Below w.heap.size w w' := by
  have hpp : 0 < R.length := by rw [← hR]; exact reach_pos s
  have hrl : R.length ≤ 262144 := by rw [← hR]; exact reach_len hps
  have HP : Hid (∀ wx, Laid wx p → Calls Tryd.prog 40 #[.string s] wx fun e w' => ∃ v, e = .returned v ∧ Strg w' wx.heap.size v R ∧ Below wx.heap.size wx w') := Lib.hid (by rw [← hR]; exact fun wx (h : Laid wx p) => pondsFrom s p wx hps h)
  have HPD : Hid (∀ x ∈ R, isPd x = true) := Lib.hid (by
    have hp : Pds s.size R := by rw [← hR]; exact bfs_pds hps 262145
    exact fun x h => (hp.2 x h).1)
  have hmm := @run_makeMap Tryd.prog
  clear hR
  have HL := Lib.hid hL
  have hb4 : Below w.heap.size w ((((w.alloc (.cells #[.func (.func 44) #[] #[.pointer (some ⟨gb, 0, none⟩)]] 31)).alloc (.cells #[.func (.func 38) #[] #[]] 46)).alloc (.map #[] 0)).alloc (.cells #[.map (some (w.heap.size + 1 + 1))] 41)) := ((((Below.refl _ w).alloc (Nat.le_refl _) _).alloc (by simp) _).alloc (by simp; omega) _).alloc (by simp; omega) _
  have HB4 := Lib.hid hb4
  clear hL hb4 hps
  refine (callsIn_wide (n := 9)).1 ?_
  refine callsIn_of_wp_marks Tryd.func34 rfl trivial ?_ rfl
  simp only [Tryd.ntmps34, List.size_toArray, List.length_cons, List.length_nil, Nat.reduceAdd, Nat.reduceSub, Array.replicate_succ, Array.replicate_zero, List.push_toArray, List.append_toArray, List.nil_append, List.cons_append]
  gi_wp2_with (first
    | ((first | gi_at_call 40 | (refine ⟨trivial, ?_⟩; gi_at_call 40)); refine (callsIn_wide.2 (HP.out _ (HL.out.below HB4.out))).mono ?_; rintro e w3 ⟨v, rfl, hS, hb3⟩; (obtain ⟨gP, nP, capP, rfl, hnP, _, _, hgP, hgw, hcell⟩ := hS.form hpp); have HCL := Lib.hid hcell; have HB3 := Lib.hid hb3; have HNP := Lib.hid hnP; have hnl : nP ≤ 262144 := (by omega); clear hS hb3 hnP hcell)
    | ((first | gi_at_call 47 | (refine ⟨trivial, ?_⟩; gi_at_call 47)); refine (backC _ _ _ _ _).mono ?_; rintro e w' ⟨rfl, rfl⟩))
  have a0 := boxB (((Boxed.new w 31 (.func (.func 44) #[] #[.pointer (some ⟨gb, 0, none⟩)])).alloc (.cells #[.func (.func 38) #[] #[]] 46)).alloc (.map #[] 0) |>.alloc (.cells #[.map (some (w.heap.size + 1 + 1))] 41)) HB3.out
  have a1 := boxB ((((Boxed.new (w.alloc (.cells #[.func (.func 44) #[] #[.pointer (some ⟨gb, 0, none⟩)]] 31)) 46 (.func (.func 38) #[] #[])).alloc (.map #[] 0)).alloc (.cells #[.map (some (w.heap.size + 1 + 1))] 41))) HB3.out
  have a3 := boxB (Boxed.new (((w.alloc (.cells #[.func (.func 44) #[] #[.pointer (some ⟨gb, 0, none⟩)]] 31)).alloc (.cells #[.func (.func 38) #[] #[]] 46)).alloc (.map #[] 0)) 41 (.map (some (w.heap.size + 1 + 1)))) HB3.out
  have a2 := ((IMap.made ((w.alloc (.cells #[.func (.func 44) #[] #[.pointer (some ⟨gb, 0, none⟩)]] 31)).alloc (.cells #[.func (.func 38) #[] #[]] 46))).below ((Below.refl _ _).alloc (Nat.le_refl _) (.cells #[.map (some (w.heap.size + 1 + 1))] 41))).below HB3.out
  have hz4 : w.heap.size + 4 ≤ w3.heap.size := by have := HB3.out.size; simpa using this
  have hgS : w.heap.size + 4 ≤ gP := by simpa using hgP
  have hB3 : Below w.heap.size w w3 := HB4.out.trans (HB3.out.mono HB4.out.size)
  simp only [World.size_alloc] at a1 a2 a3
  replace a0 := a0.alloc (.cells #[.slice (some ⟨gP, 0, none⟩) nP capP] 32)
  replace a1 := a1.alloc (.cells #[.slice (some ⟨gP, 0, none⟩) nP capP] 32)
  replace a3 := a3.alloc (.cells #[.slice (some ⟨gP, 0, none⟩) nP capP] 32)
  have bs := Boxed.new w3 32 (.slice (some ⟨gP, 0, none⟩) nP capP)
  have hbA : Below w3.heap.size w3 (w3.alloc (.cells #[.slice (some ⟨gP, 0, none⟩) nP capP] 32)) := (Below.refl _ _).alloc (Nat.le_refl _) _
  replace a2 := a2.below hbA
  replace hB3 := hB3.trans (hbA.mono (by omega))
  have hsz : (w3.alloc (.cells #[.slice (some ⟨gP, 0, none⟩) nP capP] 32)).heap.size = w3.heap.size + 1 := by simp
  have hcl : ∀ j, j < nP → (w3.alloc (.cells #[.slice (some ⟨gP, 0, none⟩) nP capP] 32)).cell? ⟨gP, j, none⟩ = some (.string (gs R j)) := fun j hj => (hbA.cell (p := ⟨gP, j, none⟩) hgw).trans (HCL.out j hj)
  generalize hW2 : w3.alloc (.cells #[.slice (some ⟨gP, 0, none⟩) nP capP] 32) = W2 at *
  generalize hBs : w3.heap.size = Bs at *
  clear hW2 hbA hgP HCL HB3 HB4 hmm
  generalize hS : w.heap.size = S at *
  have HS := Lib.hid hS
  have SEQ : ∀ (l : Nat) (J Jx : List (Nat × ByteArray) → World → Prop) (W : World), Below W2.heap.size W2 W → W2.heap.size ≤ l → l < W.heap.size → LowI W.heap.size J →
      (∀ pre x W1, J pre W1 → (x.1 < R.length ∧ x.2 = gs R x.1 ∧ x.1 + pre.length + 1 = R.length) → pre.length < nP → YieldAt Fence.wide (9 - 1 - 1) Tryd.prog l #[.int .i64 (x.1 : Int), .string x.2] W1 fun e W' =>
        (e = .returned (.bool true) ∧ J (pre ++ [x]) W' ∧ KeepE (fun k => k = S + 1 + 1 ∨ k = l) W1 W') ∨ (e = .returned (.bool false) ∧ Jx (pre ++ [x]) W')) → J [] W →
      CallsIn Fence.wide (9 - 1) Tryd.prog 55 (#[.func (.yield l) #[] #[]] ++ #[.pointer (some ⟨Bs, 0, none⟩)]) W fun e W' => (∃ v, e = .returned v) ∧ ((∃ xs, xs = downs R nP nP ∧ J xs W') ∨ (∃ pre, (∃ k, k ≤ nP ∧ pre = downs R nP k) ∧ Jx pre W')) := by
    intro l J Jx W hb hl1 hl2 hJ hY hj
    have := hb.size
    exact backX 8 (by decide) l Bs gP nP capP (fun k => k = S + 1 + 1) R HNP.out hnl (fun k e => by omega) J Jx hY W (by omega) (by omega) ((hb.cell (p := ⟨Bs, 0, none⟩) (by show Bs < _; omega)).trans bs.cell) (fun j hj => (hb.cell (p := ⟨gP, j, none⟩) (by show gP < _; omega)).trans (hcl j hj)) hj
  refine wpIn_range_X rfl (by decide) (gf := 55) (lb := #[.pointer (some ⟨Bs, 0, none⟩)]) rfl trivial (enters_of Tryd.func55 (by kernel_rfl) rfl)
    (encs := fun x : Nat × ByteArray => #[.int .i64 (x.1 : Int), .string x.2]) (Fx := fun pre x W => x.1 < R.length ∧ x.2 = gs R x.1 ∧ x.1 + pre.length + 1 = R.length) (E := fun k => k = S + 1 + 1) (S := fun xs => xs = downs R nP nP) (Sp := fun pre => ∃ k, k ≤ nP ∧ pre = downs R nP k) (N := nP)
    (fun k e => by omega) SEQ (fun _ => rfl) (fun pre x _ A B row hs hg hr => hs)
    (fun pre W => Boxed W S 31 (.func (.func 44) #[] #[.pointer (some ⟨gb, 0, none⟩)]) ∧ Boxed W (S + 1) 46 (.func (.func 38) #[] #[]) ∧ Boxed W (S + 1 + 1 + 1) 41 (.map (some (S + 1 + 1))) ∧ (∃ N, N ≤ 10 * pre.length ∧ LMap W (S + 1 + 1) N (lAll (isG G) lessI (R.drop (nP - pre.length)))) ∧ LIn (lAll (isG G) lessI (R.drop (nP - pre.length))) (9 * pre.length) ∧ Below S w W)
    (fun c pre W => False)
    (fun s A B row hs hg hr => ⟨boxLow hs.1 hg (fun r e => hr r e) (by omega), boxLow hs.2.1 hg (fun r e => hr r e) (by omega), boxLow hs.2.2.1 hg (fun r e => hr r e) (by omega), (by
      obtain ⟨N, hN, hm⟩ := hs.2.2.2.1
      exact ⟨N, hN, IMap.kept hm hg (fun e => by have := hr _ e.symm; omega)⟩), hs.2.2.2.2.1, hs.2.2.2.2.2.grown hg (Nat.le_trans (by omega) hs.2.2.2.2.2.size) (fun k e => Nat.le_trans (by omega) (hr k e))⟩)
    (fun c s A B row hs hg hr => hs)
    ⟨a0, a1, a3, ⟨0, Nat.zero_le _, by rw [List.drop_eq_nil_of_le (by have := HNP.out; simp; omega)]; exact a2⟩, by rw [List.drop_eq_nil_of_le (by have := HNP.out; simp; omega)]; intro c; exact ⟨by simp [lAll], by simp [lAll]⟩, hB3⟩
    (fun x => { tmps := #[.string s, .func (.func 44) #[] #[.pointer (some ⟨gb, 0, none⟩)], .func (.func 38) #[] #[], undef, .pointer (some ⟨S, 0, none⟩), .pointer (some ⟨S + 1, 0, none⟩), .map none, .pointer (some ⟨S + 1 + 1 + 1, 0, none⟩), undef, .string x.2, undef, undef, undef, undef, undef, undef, .map (some (S + 1 + 1)), .string s, .slice (some ⟨gP, 0, none⟩) nP capP, .func (.func 55) #[] #[.pointer (some ⟨Bs, 0, none⟩)], .int .i64 (x.1 : Int), .string x.2, undef, undef, undef, undef, undef, undef, undef, undef, undef, undef, undef, undef, undef, undef, undef, undef, undef, undef, undef, undef, undef, undef, undef, undef, undef, undef, undef, undef, undef, undef, undef, undef, undef, undef, undef, undef, undef, undef, undef, undef, undef, undef, undef], defers := [] }) ?assign ?body ?done ?stop
  case assign =>
    intro l x W K hK
    gi_wp2
    exact hK
  case body =>
    rintro l pre ⟨xi, q⟩ W ⟨x0, x1, x3, ⟨N, hN, hM⟩, hin, hB⟩ ⟨hx1, hx2, hx3⟩ hlen
    dsimp only at hx1 hx2 hx3
    have hpq : isPd q = true := HPD.out q (by rw [hx2]; exact gs_mem hx1)
    have e1 : nP - pre.length = xi + 1 := by have := HNP.out; omega
    have e2 : nP - (pre ++ [(xi, q)]).length = xi := by have := HNP.out; simp; omega
    have e3 : lAll (isG G) lessI (R.drop xi) = lPond (isG G) lessI q (lAll (isG G) lessI (R.drop (xi + 1))) := by rw [lAll_s hx1, ← hx2]
    have e4 : (pre ++ [(xi, q)]).length = pre.length + 1 := by simp
    rw [e1] at hM hin
    have hpl : pre.length ≤ 262144 := by omega
    have hN2 : N ≤ 3000000 := by omega
    have FIN : Hid (∀ W', KeepE (fun k => k = S + 1 + 1) W W' → (∃ N', N' ≤ N + 10 ∧ LMap W' (S + 1 + 1) N' (lPond (isG G) lessI q (lAll (isG G) lessI (R.drop (xi + 1))))) → LIn (lPond (isG G) lessI q (lAll (isG G) lessI (R.drop (xi + 1)))) (9 * pre.length + 9) → Below S w W' →
        postX (fun k => k = S + 1 + 1) (fun pre W => Boxed W S 31 (.func (.func 44) #[] #[.pointer (some ⟨gb, 0, none⟩)]) ∧ Boxed W (S + 1) 46 (.func (.func 38) #[] #[]) ∧ Boxed W (S + 1 + 1 + 1) 41 (.map (some (S + 1 + 1))) ∧ (∃ N, N ≤ 10 * pre.length ∧ LMap W (S + 1 + 1) N (lAll (isG G) lessI (R.drop (nP - pre.length)))) ∧ LIn (lAll (isG G) lessI (R.drop (nP - pre.length))) (9 * pre.length) ∧ Below S w W) (fun c pre W => False) (pre ++ [(xi, q)]) W .normal { tmps := #[], defers := [] } W') := Lib.hid (by
      rintro W' hk ⟨N', hN', hM'⟩ hin' hB'
      refine ⟨hk, boxE x0 hk (by omega), boxE x1 hk (by omega), boxE x3 hk (by omega), ⟨N', by rw [e4]; omega, by rw [e2, e3]; exact hM'⟩, by rw [e2, e3, e4]; exact hin'.mono (by push_cast; omega), hB'⟩)
    have X0 := Lib.hid x0
    have X1 := Lib.hid x1
    have X3 := Lib.hid x3
    have HM := Lib.hid hM
    have HIN := Lib.hid hin
    have HB := Lib.hid hB
    have LR := Lib.hid (HL.out.below (HS.out ▸ hB))
    have c0 := x0.cell
    have c1 := x1.cell
    have c3 := x3.cell
    have HPQ := Lib.hid hpq
    have hz := isPd_in hpq
    have hqm : q.size ≤ maxLen := by unfold maxLen; omega
    have hml : (moves q).length ≤ 9 := by have := mvTo_len q q.size; unfold moves; omega
    have HE : Hid (Calls Tryd.prog 44 #[.string q, .pointer (some ⟨gb, 0, none⟩)] W fun e w' => e = .returned (.bool (isG G q)) ∧ Below W.heap.size W w') := Lib.hid (endTo q G gb W ((hB.cell (p := ⟨gb, 0, none⟩) (by show gb < S; omega)).trans hG))
    have HYE := Lib.hid (fun h => lPond_yes (E := (isG G)) (B := lessI) (p := q) (st := lAll (isG G) lessI (R.drop (xi + 1))) h)
    have HNE := Lib.hid (fun h => lPond_not (E := (isG G)) (B := lessI) (p := q) (st := lAll (isG G) lessI (R.drop (xi + 1))) h)
    generalize lAll (isG G) lessI (R.drop (xi + 1)) = st at *
    clear SEQ hM hin hB x0 x1 x3 a0 a1 a2 a3 bs hcl e1 e2 e3 e4 hx1 hx2 hx3 hpq hlen
    cases hE : (isG G) q
    · have HPE := Lib.hid (HNE.out hE)
      rw [hE] at HE
      clear HYE HNE hE
      gi_wp2_with (first
        | ((first | gi_at_call 44 | (refine ⟨trivial, ?_⟩; gi_at_call 44)); refine (CallsIn.inRound l (callsIn_wide.2 HE.out)).mono ?_; rintro e w1 ⟨rfl, hb1⟩; have k3 := (boxB X3.out hb1).cell; have HM1 := Lib.hid (IMap.below HM.out hb1); have HB1 := Lib.hid hb1; have L1 := Lib.hid (LR.out.below hb1); clear hb1)
        | ((first | gi_at_call 45 | (refine ⟨trivial, ?_⟩; gi_at_call 45)); refine (CallsIn.inRound l (callsIn_wide.2 (movesOf q p _ HPQ.out L1.out))).mono ?_; rintro e w2 ⟨vm, rfl, hMv, hb2⟩; obtain ⟨a', n', cap', rfl, hn', _⟩ := hMv.form; have HMv := Lib.hid (moves_mono hMv (Nat.zero_le _)); have HN' := Lib.hid hn'; have HB2 := Lib.hid (HB1.out.trans (hb2.mono HB1.out.size)); have HM2 := Lib.hid (IMap.below HM1.out hb2); have hn9 : n' ≤ 9 := (by omega); clear hMv hb2 hn'))
      have HSW : Hid (S ≤ W.heap.size) := Lib.hid (by have := HB.out.size; omega)
      gi_loopw [30] (fun i wr => ∃ j N' : Nat, j ≤ n' ∧ i = .int .i64 j ∧ N' ≤ N + j ∧ Hid (LMap wr (S + 1 + 1) N' (lTo lessI q st j)) ∧ Hid (LIn (lTo lessI q st j) (9 * pre.length + j)) ∧ Hid (Moves wr 0 (.slice a' n' cap') q (moves q)) ∧ Hid (KeepE (fun k => k = S + 1 + 1) W wr) ∧ Hid (Below S w wr)) (fun i _ => n' - (intOf i).toNat)
      case atStart => exact ⟨0, N, Nat.zero_le _, rfl, by omega, HM2, Lib.hid (by rw [lTo_0]; simpa using HIN.out), HMv, Lib.hid (KeepE.of_below HB2.out), Lib.hid (HB.out.trans (HB2.out.mono HSW.out))⟩
      case round =>
        obtain ⟨j, N', hj, rfl, hN', hMr, hINr, hMv, hKr, hBr⟩ := hrel
        have y0 := boxE X0.out hKr.out (by omega)
        have y1 := boxE X1.out hKr.out (by omega)
        have y3 := boxE X3.out hKr.out (by omega)
        have hwr := hKr.out.size
        by_cases hlt : j < n'
        · have hkm : j < (moves q).length := by rw [← HN'.out]; exact hlt
          obtain ⟨g', rfl, hg', hc0, hc1⟩ := hMv.out.cells (j := j) hkm
          have hxm : (moves q).getD j 0 ∈ moves q := by
            rw [List.getD_eq_getElem?_getD, List.getElem?_eq_getElem hkm]; exact List.getElem_mem _
          have HGP := Lib.hid (isPd_goes HPQ.out hxm)
          have hys : (goes q ((moves q).getD j 0)).size ≤ maxLen := by have := HGP.out.2; unfold maxLen; omega
          have HLS := Lib.hid (lTo_s (B := lessI) (st := st) hkm)
          have HLY := Lib.hid (fun h => lMove_yes (B := lessI) (p := q) (st := lTo lessI q st j) (i := (moves q).getD j 0) h)
          have HLN := Lib.hid (fun h => lMove_not (B := lessI) (p := q) (st := lTo lessI q st j) (i := (moves q).getD j 0) h)
          clear hxm
          have hji : (j : Int) < n' := by omega
          generalize (moves q).getD j 0 = x at *
          generalize goes q x = y at *
          have hbA : Below wr.heap.size wr (wr.alloc (.cells #[.int .i64 (x : Int), .string y] 54)) := (Below.refl wr.heap.size wr).alloc (Nat.le_refl _) _
          have MA := Lib.hid (IMap.below hMr.out hbA)
          have VA := Lib.hid (hMv.out.below hbA)
          have KA := Lib.hid (hKr.out.trans (KeepE.of_below (E := fun k => k = S + 1 + 1) hbA) fun _ _ e => e)
          have BA := Lib.hid (hBr.out.trans (hbA.mono (by have := HSW.out; omega)))
          have hlk := MA.out.getok (c := y) hys
          have hlk2 := MA.out.getok (c := q) hqm
          have d3 := (boxB y3 hbA).cell
          have d1 := (boxB y1 hbA).cell
          have hfy := hINr.out y
          have hfq := hINr.out q
          have HMR := Lib.hid (show ∀ w5, IMap w5 (S + 1 + 1) (N' + 1) (fun z => if z = q then (lTo lessI q st j).1 y + 1 else (lTo lessI q st j).1 z) (fun z => decide (z = q) || (lTo lessI q st j).2 z) → LMap w5 (S + 1 + 1) (N' + 1) (putL (lTo lessI q st j) q ((lTo lessI q st j).1 y + 1)) from fun _ h => h)
          have HIR := Lib.hid (show LIn (putL (lTo lessI q st j) q ((lTo lessI q st j).1 y + 1)) (9 * pre.length + (j + 1)) from hINr.out.put ⟨by omega, by omega⟩ (by omega))
          generalize hfy' : (lTo lessI q st j).1 y = fy at *
          generalize hgy' : (lTo lessI q st j).2 y = gy at *
          generalize hfq' : (lTo lessI q st j).1 q = fq at *
          generalize hgq' : (lTo lessI q st j).2 q = gq at *
          have hf1 : 0 ≤ fy ∧ fy ≤ 3000000 := by omega
          have hf2 : 0 ≤ fq ∧ fq ≤ 3000000 := by omega
          have hwf := wf_small (x := fy + 1) (by omega)
          clear hbA hys y0 y1 y3 hfy' hgy' hfq' hgq' hfy hfq
          cases hgy : gy
          · subst hgy
            have R1 := Lib.hid (HLS.out.trans (HLN.out rfl))
            clear HLY HLN
            gi_wp2
            all_goals first
              | (rename_i b5 h5 _ _ _; exact absurd (show undef = Value.bool b5 from Option.some.inj h5) (by unfold undef; simp))
              | (go_roundw
                 case rel => exact ⟨j + 1, N', by omega, by go_num, by omega, Lib.hid (by rw [R1.out]; exact MA.out), Lib.hid (by rw [R1.out]; exact hINr.out.mono (by push_cast; omega)), VA, KA, BA⟩
                 case measure => (simp [intOf]; try omega))
          · subst hgy
            cases hgq : gq
            · subst hgq
              have R1 := Lib.hid (HLS.out.trans (HLY.out rfl))
              clear HLY HLN
              gi_wp2
              refine uponIn_putI MA.out (by unfold maxLen; omega) hqm hwf ?_
              intro w5 hM5 hg5
              go_simp
              have V5 := Lib.hid (VA.out.kept hg5 (IMap.neM MA.out VA.out))
              have B5 := Lib.hid (BA.out.grown hg5 (by have := BA.out.size; have := HSW.out; have := HB.out.size; omega) (by intro b hb; cases hb; omega))
              have K5 := Lib.hid (KA.out.trans (KeepE.of_grown (E := fun k => k = S + 1 + 1) hg5 fun k e _ => by cases e; rfl) fun _ _ e => e)
              have HM5 := Lib.hid (HMR.out _ hM5)
              clear hM5 hg5
              gi_wp2
              go_roundw
              case rel => exact ⟨j + 1, N' + 1, by omega, by go_num, by omega, Lib.hid (by rw [R1.out]; exact HM5.out), Lib.hid (by rw [R1.out]; exact HIR.out.mono (by push_cast; omega)), V5, K5, B5⟩
              case measure => (simp [intOf]; try omega)
            · subst hgq
              have HBT := Lib.hid (isLess (fy + 1) fq)
              cases hbt : lessI (fy + 1) fq
              · have R1 := Lib.hid (HLS.out.trans (HLN.out (by rw [hbt]; rfl)))
                rw [hbt] at HBT
                clear HLY HLN
                gi_wp2_with ((first | gi_at_call 38 | (refine ⟨trivial, ?_⟩; gi_at_call 38)); refine (CallsIn.inRound l (callsIn_wide.2 (HBT.out _))).mono ?_; rintro e w' ⟨rfl, rfl⟩)
                go_roundw
                case rel => exact ⟨j + 1, N', by omega, by go_num, by omega, Lib.hid (by rw [R1.out]; exact MA.out), Lib.hid (by rw [R1.out]; exact hINr.out.mono (by push_cast; omega)), VA, KA, BA⟩
                case measure => (simp [intOf]; try omega)
              · have R1 := Lib.hid (HLS.out.trans (HLY.out (by rw [hbt]; rfl)))
                rw [hbt] at HBT
                clear HLY HLN
                gi_wp2_with ((first | gi_at_call 38 | (refine ⟨trivial, ?_⟩; gi_at_call 38)); refine (CallsIn.inRound l (callsIn_wide.2 (HBT.out _))).mono ?_; rintro e w' ⟨rfl, rfl⟩)
                refine uponIn_putI MA.out (by unfold maxLen; omega) hqm hwf ?_
                intro w5 hM5 hg5
                go_simp
                have V5 := Lib.hid (VA.out.kept hg5 (IMap.neM MA.out VA.out))
                have B5 := Lib.hid (BA.out.grown hg5 (by have := BA.out.size; have := HSW.out; have := HB.out.size; omega) (by intro b hb; cases hb; omega))
                have K5 := Lib.hid (KA.out.trans (KeepE.of_grown (E := fun k => k = S + 1 + 1) hg5 fun k e _ => by cases e; rfl) fun _ _ e => e)
                have HM5 := Lib.hid (HMR.out _ hM5)
                clear hM5 hg5
                gi_wp2
                go_roundw
                case rel => exact ⟨j + 1, N' + 1, by omega, by go_num, by omega, Lib.hid (by rw [R1.out]; exact HM5.out), Lib.hid (by rw [R1.out]; exact HIR.out.mono (by push_cast; omega)), V5, K5, B5⟩
                case measure => (simp [intOf]; try omega)
        · obtain rfl : j = n' := by omega
          have R1 := Lib.hid (show lTo lessI q st j = lPond (isG G) lessI q st by rw [HPE.out, HN'.out])
          rw [R1.out] at hMr hINr
          gi_wp2
          exact FIN.out _ hKr.out ⟨N', by omega, hMr.out⟩ (hINr.out.mono (by omega)) hBr.out
    · have HPE := Lib.hid (HYE.out hE)
      rw [hE] at HE
      clear HYE HNE hE
      gi_wp2_with ((first | gi_at_call 44 | (refine ⟨trivial, ?_⟩; gi_at_call 44)); refine (CallsIn.inRound l (callsIn_wide.2 HE.out)).mono ?_; rintro e w1 ⟨rfl, hb1⟩; have k3 := (boxB X3.out hb1).cell; have HM1 := Lib.hid (IMap.below HM.out hb1); have HB1 := Lib.hid hb1; clear hb1)
      refine uponIn_putI HM1.out (by unfold maxLen; omega) hqm (by decide) ?_
      intro w5 hM5 hg5
      go_simp
      gi_wp2
      refine FIN.out w5 ((KeepE.of_below (E := fun k => k = S + 1 + 1) HB1.out).trans (KeepE.of_grown (E := fun k => k = S + 1 + 1) hg5 fun k e _ => by cases e; rfl) fun _ _ e => e) ⟨N + 1, by omega, by rw [HPE.out]; exact hM5⟩ (by rw [HPE.out]; exact HIN.out.put ⟨by omega, by omega⟩ (by omega)) ((HB.out.trans (HB1.out.mono ?_)).grown hg5 ?_ ?_)
      · have := HB.out.size; omega
      · have := HB.out.size; have := HB1.out.size; omega
      · intro k e; cases e; omega
  case done =>
    rintro D xs W hD hxs ⟨x0, x1, x3, ⟨N, hN, hM⟩, hin, hB⟩ hK
    have hm : xs.length = nP := by rw [hxs, downs_len]
    rw [hm, Nat.sub_self, List.drop_zero] at hM
    have c3 := x3.cell
    clear SEQ a0 a1 a2 a3 bs hcl x0 x1
    gi_wp2
    refine ⟨by simp, .inl ⟨_, _, rfl, run_takeDeferred hK, ?_⟩⟩
    refine ⟨_, results_tmp rfl _ _ _, S + 1 + 1, rfl, (by omega), ⟨N, IMap.kept hM (grownBy_putObj' _ D _) (fun e => by cases e; omega)⟩, (HS.out ▸ hB.trans (belowK_b (w := W2) (by omega) _ D _ _ hD hK rfl rfl))⟩
  case stop =>
    rintro D c pre W hD hpre hx hK
    exact hx.elim
end Go.Proofs.YteoggpollgkfiaaDoor
