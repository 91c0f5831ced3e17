/- impl.pondsFrom: the slice of all ponds that moves lead to. -/
import Derived.Test.YteoggpollgkfiaaDoorBfs
import Derived.Test.YteoggpollgkfiaaDoorStg
import Derived.Test.YteoggpollgkfiaaDoorMo
import Derived.Test.YteoggpollgkfiaaDoorClone
namespace Go.Proofs.YteoggpollgkfiaaDoor
set_option linter.unusedVariables false
open Go.RowKit Go.Maps

theorem SMap.ne {w : World} {b N B : Nat} {f : ByteArray → Bool} {v : Value} {l : List ByteArray} (h : SMap w b N f) (hI : Strg w B v l) : some b ≠ v.ownBlock := by
  intro e
  obtain ⟨D, h1, _⟩ := h
  obtain ⟨es, clock, hb, _⟩ := h1
  rcases hI.2 with ⟨rfl, _⟩ | ⟨g, cap, cur, rfl, _, hg, _⟩
  · cases e
  · have e2 : b = g := by injection e
    subst e2
    rw [hg] at hb
    cases hb
theorem Moves.kept {w w' : World} {B : Nat} {v : Value} {q : ByteArray} {l : List Nat} {r : Option Nat} (h : Moves w B v q l) (hg : w.grownBy w' r) (hr : v.ownBlock = none ∨ v.ownBlock ≠ r) : Moves w' B v q l := World.ownsRow.kept h hg hr
theorem Moves.cells {w : World} {B n cap : Nat} {a : Option Addr} {q : ByteArray} {l : List Nat} (h : Moves w B (.slice a n cap) q l) {j : Nat} (hj : j < l.length) :
    ∃ g, a = some ⟨g, 0, none⟩ ∧ g < w.heap.size ∧ w.cell? ⟨g, j * 2, none⟩ = some (.int .i64 (l.getD j 0 : Int)) ∧ w.cell? ⟨g, j * 2 + 1, none⟩ = some (.string (goes q (l.getD j 0))) := by
  obtain ⟨a', n', cap', e, hn, hc⟩ := h.form
  injection e with e1 e2 e3
  subst e1
  obtain ⟨g, e4, _, h2, h3⟩ := hc j (by omega)
  exact ⟨g, e4, h2, h3⟩
theorem Moves.neS {w : World} {B B' : Nat} {v u : Value} {q : ByteArray} {l : List Nat} {L : List ByteArray} (h : Moves w B v q l) (hI : Strg w B' u L) : v.ownBlock = none ∨ v.ownBlock ≠ u.ownBlock := by
  rcases h.2 with ⟨rfl, _⟩ | ⟨g, cap, cur, rfl, _, hg, _⟩
  · exact .inl rfl
  · right
    intro e
    rcases hI.2 with ⟨rfl, _⟩ | ⟨g', cap', cur', rfl, _, hg', _⟩
    · cases e
    · have e2 : g = g' := by injection e
      subst e2
      rw [hg] at hg'
      injection hg' with hg'
      injection hg' with _ h2
      exact absurd h2 (by decide)
theorem SMap.neM {w : World} {b N B : Nat} {f : ByteArray → Bool} {v : Value} {q : ByteArray} {l : List Nat} (h : SMap w b N f) (hI : Moves w B v q l) : v.ownBlock ≠ some b := by
  intro e
  obtain ⟨D, h1, _⟩ := h
  obtain ⟨es, clock, hb, _⟩ := h1
  rcases hI.2 with ⟨rfl, _⟩ | ⟨g, cap, cur, rfl, _, hg, _⟩
  · cases e
  · have e2 : g = b := by injection e
    subst e2
    rw [hg] at hb
    cases hb

set_option maxHeartbeats 4000000 in
set_option maxRecDepth 100000 in
theorem pondsFrom (s : ByteArray) (p : Addr) (w : World) (hp : isPd s = true) (hL : Laid w p) :
    Calls Tryd.prog 40 #[.string s] w fun e w' => ∃ v, e = .returned v ∧ Strg w' w.heap.size v (reach s) ∧ Below w.heap.size w w' := by
  obtain ⟨z1, z2, hal⟩ := isPd_in hp
  have hmm := @run_makeMap Tryd.prog
  have HP := Lib.hid hp
  have HL := Lib.hid hL
  clear hp hL hal
  go_enter Tryd.func40, Tryd.ntmps40
  go_wp2_with (go_at_call 49; refine (clone s _ z1 (by omega)).mono ?_; rintro e w1 ⟨rfl, hb1⟩; have HB1 := Lib.hid hb1; have hle1 := hb1.size; clear hb1)
  have m0 := SMap.made (w1.alloc (.cells #[.string s] 9))
  have e0 : (w1.alloc (.cells #[.string s] 9)).heap.size = w1.heap.size + 1 := by simp
  rw [e0] at m0
  refine upon_putS m0 (by unfold maxLen; omega) (by unfold maxLen; omega) ?_
  intro w2 hM2 hg2
  go_simp
  have hS1 := ((Strg.one w1 w1.heap.size (Nat.le_refl _) s).below ((Below.refl _ _).alloc (Nat.le_refl _) (.map #[] 0))).kept hg2 (by right; simp [Value.ownBlock])
  have hBm : Below w.heap.size w w2 := ((HB1.out.alloc hle1 _).alloc (by simp; omega) _).grown hg2 (by simp; omega) (by intro k hk; cases hk; omega)
  have hM2' := hM2.congr (g := memB [s]) (fun c => by simp [memB, eq_comm])
  have hlt2 : w1.heap.size + 1 < w2.heap.size := hM2.lt
  have HS1 := Lib.hid hS1
  have HBm := Lib.hid hBm
  have HM2 := Lib.hid hM2'
  clear m0 e0 hM2 hg2 hS1 hBm hM2'
  go_wp2_with fail
  go_loopw [3, 5] (fun v i wr => ∃ j : Nat, j ≤ (bfs s j).length ∧ i = .int .i64 j ∧ Hid (Strg wr w1.heap.size v (bfs s j)) ∧ Hid (SMap wr (w1.heap.size + 1) (bfs s j).length (memB (bfs s j))) ∧ Hid (Below w.heap.size w wr)) (fun _ i _ => 262145 - (intOf i).toNat)
  case atStart => exact ⟨0, Nat.zero_le _, rfl, HS1, Lib.hid (HM2.out.mono (by simp [bfs])), HBm⟩
  case round =>
    obtain ⟨j, hj, rfl, hS, hM, hB⟩ := hrel
    have hpds := bfs_pds HP.out j
    have hlen := hpds.len z2
    by_cases hlt : j < (bfs s j).length
    · have hq := hpds.2 _ (show (bfs s j).getD j ⟨#[]⟩ ∈ bfs s j by rw [List.getD_eq_getElem?_getD, List.getElem?_eq_getElem hlt]; exact List.getElem_mem _)
      have hsu := bfs_succ hlt
      have SU := Lib.hid hsu
      obtain ⟨g, n, cap, rfl, hn, _, _, hg1, hg2, hcell⟩ := hS.out.form (by omega)
      have hcj := hcell j (by omega)
      have hjn : j < n := by omega
      have LR := Lib.hid (HL.out.below hB.out)
      have hleB := hB.out.size
      have hbge : w1.heap.size + 1 < wr.heap.size := hM.out.lt
      have hq1 := Lib.hid hq.1
      have hq2 := hq.2
      have PD := Lib.hid hpds
      unfold gs at hcj
      generalize hqq : (bfs s j).getD j ⟨#[]⟩ = q at *
      have HQQ := Lib.hid hqq
      generalize hLL : bfs s j = L at *
      have HLL := Lib.hid hLL
      have HNL := Lib.hid hn
      clear hq hsu hqq hLL hcell hpds hn
      have hz := (isPd_in hq1.out).2.1
      have hml : (moves q).length ≤ 9 := by have := mvTo_len q q.size; unfold moves; omega
      go_wp2_with (go_at_call 45; refine (movesOf q p _ hq1.out LR.out).mono ?_; rintro e w3 ⟨vm, rfl, hMv, hb3⟩; obtain ⟨a', n', cap', rfl, hn', _⟩ := hMv.form; have HMv := Lib.hid hMv; have HN' := Lib.hid hn'; have S3 := Lib.hid (hS.out.below hb3); have M3 := Lib.hid (hM.out.below hb3); have B3 := Lib.hid (hB.out.trans (hb3.mono hleB)); clear hMv hb3 hn')
      have hn9 : n' ≤ 9 := by have := HN'.out; omega
      obtain ⟨wo, rfl⟩ : ∃ wo : World, wo = wr := ⟨_, rfl⟩
      go_loopw [3, 26] (fun v i wi => ∃ k : Nat, k ≤ n' ∧ i = .int .i64 k ∧ Hid (Strg wi w1.heap.size v (exTo L q k)) ∧ Hid (SMap wi (w1.heap.size + 1) (exTo L q k).length (memB (exTo L q k))) ∧ Hid (Moves wi wo.heap.size (.slice a' n' cap') q (moves q)) ∧ Hid (Below w.heap.size w wi)) (fun _ i _ => n' - (intOf i).toNat)
      case atStart => exact ⟨0, Nat.zero_le _, rfl, S3, M3, HMv, B3⟩
      case round =>
        clear HMv S3 M3 B3 hS hM hB
        obtain ⟨k, hk, rfl, hS, hM, hMv, hB⟩ := hrel
        have hleB2 := hB.out.size
        have hbge2 : w1.heap.size + 1 < wr.heap.size := hM.out.lt
        have PE := exTo_pds PD.out hq1.out hq2 k (by rw [← HN'.out]; exact hk)
        have hEl := PE.len z2
        clear PE
        by_cases hlt2 : k < n'
        · obtain ⟨g', rfl, hg', hc0, hc1⟩ := hMv.out.cells (j := k) (by rw [← HN'.out]; exact hlt2)
          have XS := Lib.hid (exTo_succ (L := L) (q := q) (k := k) (by rw [← HN'.out]; exact hlt2))
          have hxm : (moves q).getD k 0 ∈ moves q := by
            rw [List.getD_eq_getElem?_getD, List.getElem?_eq_getElem (by rw [← HN'.out]; exact hlt2)]; exact List.getElem_mem _
          have hgz := (isPd_goes hq1.out hxm).2
          clear hxm
          generalize (moves q).getD k 0 = x at *
          have hsz : (goes q x).size ≤ maxLen := by unfold maxLen; omega
          generalize goes q x = r at *
          have hbA := (Below.refl wr.heap.size wr).alloc (Nat.le_refl _) (.cells #[.int .i64 (x : Int), .string r] 54)
          have SA := Lib.hid (hS.out.below hbA)
          have MA := Lib.hid (hM.out.below hbA)
          have VA := Lib.hid (hMv.out.below hbA)
          have BA := Lib.hid (hB.out.trans (hbA.mono hleB2))
          have hlk := MA.out.get (c := r) hsz
          clear hbA hgz
          by_cases hmem : r ∈ exTo L q k
          · rw [memB_iff.2 hmem] at hlk
            have E := Lib.hid (XS.out.trans (addN_old hmem))
            clear hmem
            go_wp2_with fail
            go_roundw
            case rel => exact ⟨k + 1, by omega, by go_num, by rw [E.out]; exact SA, by rw [E.out]; exact MA, VA, BA⟩
            case measure => (simp [intOf]; try omega)
          · rw [memB_no hmem] at hlk
            have E := Lib.hid (XS.out.trans (addN_new hmem))
            clear hmem
            have hNm : (exTo L q k).length < maxLen := by unfold maxLen; omega
            have d0 : (wr.alloc (.cells #[.int .i64 (x : Int), .string r] 54)).cell? ⟨wr.heap.size, 1, none⟩ = some (.string r) := by simp
            have D0 := Lib.hid d0
            clear d0
            go_wp2_with (first
              | (at_mapUpdate; refine wpList_putS rfl MA.out hNm r hsz _ _ _ rfl rfl rfl rfl ?_; intro w4 hM4 hg4; have d1 := hg4.cell D0.out (by intro e; have e2 : wr.heap.size = w1.heap.size + 1 := Option.some.inj e; omega); have S4 := Lib.hid (SA.out.kept hg4 (by right; intro e; exact (MA.out.ne SA.out) e.symm)); have V4 := Lib.hid (VA.out.kept hg4 (by right; exact MA.out.neM VA.out)); have B4 := Lib.hid (BA.out.grown hg4 BA.out.size (by intro j hj; cases hj; exact Nat.le_succ_of_le hle1)); have HM4 := Lib.hid (hM4.congr (g := memB (exTo L q k ++ [r])) (fun c => memB_snoc _ _ _)); have hl4 := hg4.size; clear hM4 hg4)
              | (at_builtin; refine wpList_appS w4 rfl _ _ rfl w1.heap.size _ (exTo L q k) rfl S4.out r w4.heap.size rfl rfl (by omega) (by have := HM4.out.lt; omega) rfl ?_; intro v' w5 hS5 hb5 hg5; have M5 := Lib.hid (HM4.out.kept hg5 (HM4.out.ne S4.out)); have V5 := Lib.hid (V4.out.kept hg5 (V4.out.neS S4.out)); have B5 := Lib.hid (B4.out.trans (hb5.mono hle1)); have HS5 := Lib.hid hS5; clear hS5 hb5 hg5))
            go_roundw
            case rel => exact ⟨k + 1, by omega, by go_num, by rw [E.out]; exact HS5, by rw [E.out]; exact Lib.hid (M5.out.mono (by simp)), V5, B5⟩
            case measure => (simp [intOf]; try omega)
        · obtain rfl : k = n' := by omega
          have EX := Lib.hid (show exTo L q k = bfs s (j + 1) by rw [SU.out]; unfold exAll; rw [← HN'.out])
          have EL := Lib.hid (show j + 1 ≤ (bfs s (j + 1)).length by
            obtain ⟨R, hR⟩ := exTo_pre L q k (by rw [← HN'.out]; exact Nat.le_refl _)
            rw [← EX.out, hR, List.length_append]; omega)
          rw [EX.out] at hS hM
          go_wp2
          go_roundw
          case rel => exact ⟨j + 1, EL.out, by go_num, hS, hM, hB⟩
          case measure => (simp [intOf]; try omega)
    · obtain hjl : j = (bfs s j).length := by omega
      have HR := Lib.hid (reach_at HP.out hlt (by omega))
      have hlt0 : (bfs s j).length ≤ 262144 := hlen
      rcases hS.out.2 with ⟨rfl, h0⟩ | ⟨g, cap, cur, hv, _⟩
      · exfalso
        obtain ⟨R, hR⟩ := bfs_head s j
        rw [hR] at h0; simp at h0
      · subst hv
        have HJL := Lib.hid hjl
        generalize hn : (bfs s j).length = n at *
        have hge : ¬ (j : Int) < (n : Int) := by omega
        go_wp2
        go_ret
        exact ⟨_, rfl, by rw [← HR.out]; exact strg_mono hS.out hle1, hB.out⟩
end Go.Proofs.YteoggpollgkfiaaDoor
