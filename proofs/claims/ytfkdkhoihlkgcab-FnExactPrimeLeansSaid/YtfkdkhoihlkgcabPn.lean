/- slices.IndexFunc, slices.DeleteFunc at lists of lists; PrimeLeans, impl's side. -/
import Derived.Test.YtfkdkhoihlkgcabPm
namespace Go.Proofs.Ytfkdkhoihlkgcab
set_option linter.unusedVariables false
open Go.RowKit

set_option maxHeartbeats 2000000 in
theorem indexP (v : Value) (zss : List (List Int)) (w : World) (hR : RdS w v zss) (hall : ∀ r ∈ zss, okR r) (hl : zss.length ≤ 100000) :
    Calls Try.prog 47 #[v, .func (.func 44) #[] #[]] w fun e w' => ∃ r : Int, e = .returned (.int .i64 r) ∧ ((r = -1 ∧ ∀ j, j < zss.length → keepR (gl zss j) = true) ∨ (∃ k : Nat, r = k ∧ k < zss.length ∧ keepR (gl zss k) = false ∧ ∀ j, j < k → keepR (gl zss j) = true)) ∧ Below w.heap.size w w' := by
  obtain ⟨a, l, c, rfl, hnz, _, hcell⟩ := hR
  rw [← hnz] at hl
  have HN := Lib.hid hnz
  have HC := Lib.hid hcell
  have HALL := Lib.hid hall
  clear hcell hnz hall
  go_enter Try.func47, Try.ntmps47
  go_wp2
  go_loopw [5, 8] (fun _ q wr => ∃ j : Nat, j ≤ l ∧ q = .int .i64 j ∧ Hid (∀ p, p < j → keepR (gl zss p) = true) ∧ Hid (Below w.heap.size w wr)) (fun _ q _ => l - (intOf q).toNat)
  case atStart => exact ⟨0, Nat.zero_le _, rfl, Lib.hid fun q hq => absurd hq (Nat.not_lt_zero _), Lib.hid (Below.refl _ _)⟩
  case round =>
    obtain ⟨j, hj, rfl, HA, HB⟩ := hrel
    by_cases hlt : j < l
    · obtain ⟨b, u, rfl, hbw, hcl, hRu⟩ := HC.out j hlt
      have hjz : j < zss.length := by have := HN.out; omega
      have c0 := (HB.out.cell (p := ⟨b, j, none⟩) hbw).trans hcl
      have hlt' : (j : Int) < l := by omega
      have HS := Lib.hid (fun (g : keepR (gl zss j) = true) => (fun q hq => by
        by_cases e : q = j
        · subst e; exact g
        · exact HA.out q (by omega) : ∀ q, q < j + 1 → keepR (gl zss q) = true))
      have hm : gl zss j ∈ zss := by simp [gl, hjz]
      have HD := Lib.hid (delP u (gl zss j) wr (hRu.below HB.out) (HALL.out _ hm))
      obtain ⟨ua, un, uc, rfl, hq⟩ := hRu.cells
      clear hq hRu hcl hm
      go_wp2_with fail
      refine HD.out.mono ?_
      rintro e w1 ⟨rfl, hb1⟩
      have HB1 := Lib.hid (HB.out.trans (hb1.mono HB.out.size))
      clear hb1 c0 HD
      cases hx : keepR (gl zss j)
      · have R := Lib.hid hx
        clear hx HS
        go_wp2
        go_ret
        exact ⟨_, rfl, .inr ⟨j, rfl, hjz, R.out, HA.out⟩, HB1.out⟩
      · have R := Lib.hid (HS.out hx)
        clear hx HS
        go_wp2
        go_roundw
        case rel => exact ⟨j + 1, by omega, by go_num, R, HB1⟩
        case measure => (simp [intOf]; try omega)
    · obtain rfl : j = l := by omega
      go_wp2
      go_ret
      exact ⟨_, rfl, .inl ⟨rfl, fun p hp => HA.out p (by have := HN.out; omega)⟩, HB.out⟩
set_option maxRecDepth 100000 in
set_option maxHeartbeats 4000000 in
theorem delS (B g L cap : Nat) (zss : List (List Int)) (us : List Value) (w : World) (hI : Lst w B (.slice (some ⟨g, 0, none⟩) L cap) zss us) (hL : L = zss.length) (hl : L ≤ 100000) (hall : ∀ r ∈ zss, okR r) :
    Calls Try.prog 43 #[.slice (some ⟨g, 0, none⟩) L cap, .func (.func 44) #[] #[]] w fun e w' => ∃ n us', e = .returned (.slice (some ⟨g, 0, none⟩) n cap) ∧ Lst w' B (.slice (some ⟨g, 0, none⟩) n cap) (zss.filter keepR) us' ∧ w.grownBy w' (some g) := by
  have HI := Lib.hid hI
  have HL := Lib.hid hL
  have HALL := Lib.hid hall
  have hgw := (hI.row0).2
  have hBg := (hI.row0).1
  have hLc : L ≤ cap := by
    rcases hI.1.2 with ⟨e1, _⟩ | ⟨g', cap', cur, e1, _, _, hnc, _⟩
    · cases e1
    · injection e1 with _ _ e2; subst e2; omega
  have HUL := Lib.hid hI.len
  clear hI hL hall
  go_enter Try.func43, Try.ntmps43
  go_wp2_with fail
  refine (indexP _ zss w HI.out.rd HALL.out (by have := HL.out; omega)).mono ?_
  rintro e w1 ⟨r, rfl, hr, hb⟩
  have hsz1 := hb.size
  have I1 := Lib.hid (HI.out.below hb)
  have G1 := Lib.hid (show w.grownBy w1 (some g) from ⟨hb.os, hb.tape, hb.output, hb.size, fun k hk _ => hb.block k hk⟩)
  clear hb
  rcases hr with ⟨rfl, hno⟩ | ⟨k, rfl, hk, hat, hpre⟩
  · have R := Lib.hid (show zss.filter keepR = zss by
      rw [List.filter_eq_self]
      intro r hr
      obtain ⟨j, hj, e⟩ := List.getElem_of_mem hr
      have := hno j hj
      rwa [show gl zss j = r by simp [gl, hj, e]] at this)
    clear hno
    go_wp2
    go_ret
    exact ⟨L, us, rfl, by rw [R.out]; exact I1.out, G1.out⟩
  · have hkL : k < L := by have := HL.out; omega
    have hkx := kx_pre hpre
    have ON := Lib.hid (show kx zss (k + 1) = List.range k by rw [kx_no hat]; exact hkx)
    have LESS := Lib.hid (show (kx zss zss.length).length < zss.length from by
      have h1 : (kx zss zss.length).length ≠ zss.length := fun e => by
        have h2 := (List.length_filter_eq_length_iff (p := fun i => keepR (gl zss i)) (l := List.range zss.length)).1 (by rw [List.length_range]; exact e) k (List.mem_range.2 hk)
        rw [hat] at h2; cases h2
      have := kx_len zss zss.length
      omega)
    have M0 := Lib.hid (show mixU ((kx zss (k + 1)).map (gu us)) us = us by rw [ON.out]; exact mixU_pre (by have := HUL.out; omega))
    have N0 := Lib.hid (show (kx zss (k + 1)).length = k by rw [ON.out]; simp)
    have RW1 := Lib.hid (show w1.ownsRow B 41 1 (.slice (some ⟨g, 0, none⟩) L cap) L us by have := I1.out.1; rwa [← HL.out] at this)
    clear hat hpre hk hkx
    have hkI : ((k : Int) == -1) = false := by simp; try omega
    have hkI2 : ¬ (k : Int) = -1 := by omega
    go_wp2
    go_loopw [5, 6] (fun t q wr => ∃ j n : Nat, j ≤ L ∧ q = .int .i64 j ∧ t = .int .i64 n ∧ Hid (n = (kx zss j).length) ∧ n < j ∧ Hid (wr.ownsRow B 41 1 (.slice (some ⟨g, 0, none⟩) L cap) L (mixU ((kx zss j).map (gu us)) us)) ∧ Hid (w.grownBy wr (some g))) (fun _ q _ => L - (intOf q).toNat)
    case atStart => exact ⟨k + 1, k, by omega, by go_num, rfl, Lib.hid N0.out.symm, by omega, Lib.hid (by rw [M0.out]; exact RW1.out), G1⟩
    case round =>
      obtain ⟨j, n, hj, rfl, rfl, HNn, hnj, HR, HG⟩ := hrel
      have hszr := HG.out.size
      by_cases hlt : j < L
      · have hlt' : (j : Int) < L := by omega
        have hjz : j < zss.length := by have := HL.out; omega
        have hjz1 : j < zss.length * 1 := by omega
        have hkl : ((kx zss j).map (gu us)).length = n := by rw [List.length_map]; exact HNn.out.symm
        have hul : us.length = L := by rw [HUL.out]; exact HL.out.symm
        have c0 : wr.cell? ⟨g, j, none⟩ = some (gu us j) := by
          rw [World.ownsRow.cellAt HR.out j (by omega), mixU_get (by omega)]
          exact gu_at (by omega)
        have cn : ∃ x, wr.cell? ⟨g, n, none⟩ = some x := by
          rw [World.ownsRow.cellAt HR.out n (by omega), mixU_get (by omega)]
          exact ⟨_, gu_at (by omega)⟩
        obtain ⟨x0, cn⟩ := cn
        have fn := World.ownsRow.frozenAt HR.out n
        have hIj := HI.out.2.1 j hjz
        have hIr := hIj.kept HG.out (rowS_ne HI.out.1 hIj)
        have hm : gl zss j ∈ zss := by simp [gl, hjz]
        have HD := Lib.hid (delP (gu us j) (gl zss j) wr hIr.rd (HALL.out _ hm))
        have SS := fun (W : World) (h : W.ownsRow B 41 1 (.slice (some ⟨g, 0, none⟩) L cap) L (mixU ((kx zss j).map (gu us)) us)) (hk : keepR (gl zss j) = true) => (by
          have h1 := World.ownsRow.stored h n (gu us j)
          have h2 := mixU_set (ks := (kx zss j).map (gu us)) (us := us) (by omega) (gu us j)
          rw [hkl] at h2
          rw [h2, ← List.map_singleton, ← List.map_append, ← kx_yes hk] at h1
          exact h1 : (W.setCell ⟨g, n, none⟩ (gu us j)).ownsRow B 41 1 (.slice (some ⟨g, 0, none⟩) L cap) L (mixU ((kx zss (j + 1)).map (gu us)) us) ∧ W.grownBy (W.setCell ⟨g, n, none⟩ (gu us j)) (some g))
        obtain ⟨ua, un, uc, hu, hq⟩ := hIr.rd.cells
        rw [hu] at c0 HD SS
        have HSS := Lib.hid SS
        clear hq hIr hIj hm SS hu hkl hul
        go_wp2_with fail
        refine HD.out.mono ?_
        rintro e w2 ⟨rfl, hb2⟩
        have hs2 := hb2.size
        have R2 := Lib.hid (rowS_below HR.out hb2)
        have G2 := Lib.hid (HG.out.trans (show wr.grownBy w2 (some g) from ⟨hb2.os, hb2.tape, hb2.output, hb2.size, fun k hk _ => hb2.block k hk⟩))
        have cn2 := (hb2.cell (p := ⟨g, n, none⟩) (show g < wr.heap.size by omega)).trans cn
        have fn2 := World.ownsRow.frozenAt R2.out n
        clear hb2 c0 HD HR HG cn fn
        cases hx : keepR (gl zss j)
        · have RN := Lib.hid (kx_no hx)
          clear hx HSS
          go_wp2
          go_roundw
          case rel => exact ⟨j + 1, n, by omega, by go_num, rfl, Lib.hid (by rw [RN.out]; exact HNn.out), by omega, Lib.hid (by rw [RN.out]; exact R2.out), G2⟩
          case measure => (simp [intOf]; try omega)
        · have RN := Lib.hid (kx_yes hx)
          have S2 := HSS.out w2 R2.out hx
          have S3 := Lib.hid S2.1
          have S4 := Lib.hid (G2.out.trans S2.2)
          have hnI : (n : Int) < L := by omega
          clear hx HSS S2
          go_wp2
          go_roundw
          case rel => exact ⟨j + 1, n + 1, by omega, by go_num, by go_num, Lib.hid (by rw [RN.out, List.length_append, ← HNn.out]; rfl), by omega, S3, S4⟩
          case measure => (simp [intOf]; try omega)
      · obtain rfl : j = L := by omega
        have hfz : ∀ q, wr.frozen? ⟨g, q, none⟩ = false := fun q => World.ownsRow.frozenAt HR.out q
        have hul : us.length = j := by rw [HUL.out]; exact HL.out.symm
        have hkl : ((kx zss j).map (gu us)).length = n := by rw [List.length_map]; exact HNn.out.symm
        have hml := mixU_len (ks := (kx zss j).map (gu us)) (us := us) (by omega)
        have hcl : ∀ q, q < j → (wr.cell? ⟨g, q, none⟩).isSome = true := fun q hq => by
          rw [World.ownsRow.cellAt HR.out q (by omega), List.getElem?_eq_getElem (show q < (mixU ((kx zss j).map (gu us)) us).length by omega)]; rfl
        have hclr : ∀ ty, (Builtin.clear_ #[32] ty #[.slice (some ⟨g, n, none⟩) (j - n) (cap - n)]).run Try.prog wr = .ok (.tuple #[]) (wr.setCells g n (List.replicate (j - n) (.slice none 0 0))) :=
          fun ty => Lib.run_clear_slice wr 32 41 ty (.slice none 0 0) Try.underlying32 Try.zeroI rfl rfl g n (j - n) (cap - n) (by omega) (fun q hq => hcl _ (by omega)) (fun q _ => hfz _)
        have R1 := row_cells (List.replicate (j - n) (.slice none 0 0)) n HR.out
        have R3 := row_shrink (n' := n) R1.1 (by omega)
        rw [putL_eq _ _ _ (by rw [List.length_replicate]; omega), List.append_assoc, Nat.mul_one, List.take_append_of_le_length (by rw [List.length_take]; omega), List.take_take, Nat.min_self] at R3
        have h3 := mixU_take ((kx zss j).map (gu us)) us
        rw [hkl] at h3
        rw [h3] at R3
        have GF := Lib.hid (HG.out.trans R1.2)
        have RF := Lib.hid (show Lst (wr.setCells g n (List.replicate (j - n) (.slice none 0 0))) B (.slice (some ⟨g, 0, none⟩) n cap) (zss.filter keepR) ((kx zss zss.length).map (gu us)) by
          have e1 := HL.out
          have e2 := HNn.out
          rw [e1] at e2 R3
          have := Lst.kx (w' := wr.setCells g n (List.replicate (j - n) (.slice none 0 0))) HI.out GF.out (by rw [← e2]; rw [e1]; exact R3)
          rw [← e2] at this
          exact this)
        clear R1 R3 hcl hfz h3 hml HR hul hkl
        have e1 : ¬ cap = n := by omega
        have e2 : n ≤ j := by omega
        have e3 : n ≤ cap := by omega
        have e4 : (n : Int) ≤ j := by omega
        have e5 : (n : Int) ≤ cap := by omega
        go_wp2
        go_ret
        exact ⟨n, _, rfl, RF.out, GF.out⟩
theorem delNilP (w : World) :
    Calls Try.prog 43 #[.slice none 0 0, .func (.func 44) #[] #[]] w fun e w' => e = .returned (.slice none 0 0) ∧ Below w.heap.size w w' := by
  have HX := Lib.hid (indexP (.slice none 0 0) [] w (Lst.nil w 0).rd (fun r hr => by cases hr) (by simp))
  go_enter Try.func43, Try.ntmps43
  go_wp2_with fail
  refine HX.out.mono ?_
  rintro e w1 ⟨r, rfl, hr, hb⟩
  rcases hr with ⟨rfl, hno⟩ | ⟨k, rfl, hk, _⟩
  · go_wp2
    go_ret
    exact ⟨rfl, hb⟩
  · exact absurd hk (Nat.not_lt_zero _)
theorem upL_prime (m : Int) : upL true m = (upL false m).filter keepR := by
  cases h : isPl m
  · rw [upL_no h, upL_no h]; rfl
  · rw [upL_yes h, upL_yes h]; exact ltG_prime _
theorem upL_ok (m : Int) : ∀ r ∈ upL false m, okR r := by
  cases h : isPl m
  · rw [upL_no h]; intro r hr; cases hr
  · rw [upL_yes h]; have := isPl_in h; exact ltG_ok _ _ (by omega)
set_option maxHeartbeats 2000000 in
theorem implPrime (m : Int) (w : World) : Calls Try.prog 26 #[.int .i64 m] w (LstC w.heap.size (upL true m) (isPl m) w) := by
  have HU := Lib.hid (fun wx => implUpTo m wx)
  have HP := Lib.hid (upL_prime m)
  have HO := Lib.hid (upL_ok m)
  have hlen := upL_len false m
  generalize upL false m = zss at *
  generalize isPl m = ok at *
  go_enter Try.func26, Try.ntmps26
  go_wp2_with fail
  refine (HU.out _).mono ?_
  rintro e w1 ⟨v, rfl, ⟨us, hl⟩, hb⟩
  have hs := hb.size
  have H1 := Lib.hid hl
  have HB := Lib.hid hb
  rcases hl.1.2 with ⟨rfl, h0⟩ | ⟨g, cap, cur, rfl, hBg, _⟩
  · have hz : zss = [] := List.length_eq_zero_iff.1 h0
    subst hz
    have HD := Lib.hid (fun wx => delNilP wx)
    clear h0 hl hb
    go_wp2_with fail
    refine (HD.out _).mono ?_
    rintro e w2 ⟨rfl, hb2⟩
    go_wp2
    go_ret2
    exact ⟨_, rfl, ⟨[], by rw [HP.out]; exact Lst.nil _ _⟩, HB.out.trans (hb2.mono hs)⟩
  · have HD := Lib.hid (delS w.heap.size g zss.length cap zss us w1 H1.out rfl (by omega) HO.out)
    clear hl hb
    obtain ⟨n, hn⟩ : ∃ n, n = zss.length := ⟨_, rfl⟩
    rw [← hn] at HD ⊢
    have HN := Lib.hid hn
    clear hn
    go_wp2_with fail
    refine HD.out.mono ?_
    rintro e w2 ⟨n2, us2, rfl, hl2, hg2⟩
    have HL2 := Lib.hid hl2
    have HB2 := Lib.hid (HB.out.grown hg2 hs (fun k e => by cases e; exact hBg))
    clear hl2 hg2
    go_wp2
    go_ret2
    exact ⟨_, rfl, ⟨us2, by rw [HP.out]; exact HL2.out⟩, HB2.out⟩
end Go.Proofs.Ytfkdkhoihlkgcab
