/- lowerToll, tollsFrom; TollBetween: impl. -/
import Derived.Test.YtdmgpbhbgeknfabIv
import Derived.Test.YtdmgpbhbgeknfabIn
import Derived.Test.YtdmgpbhbgeknfabIw
namespace Go.Proofs.Ytdmgpbhbgeknfab
set_option linter.unusedVariables false
open Go.RowKit

def lowR (f : Nat → Option Int) (o : Nat) (r : Option Int) : Nat → Option Int :=
  match r with
  | none => f
  | some V => putF f o V
set_option maxHeartbeats 2000000 in
theorem lowerToll (m b : Nat) (f : Nat → Option Int) (x y z : Int) (i o : Nat) (w : World) (h : TMp m w b f) (hio : x + y - i = o) (hv : 0 ≤ x ∧ x < y ∧ y < (m : Int) ∧ 0 ≤ z ∧ z ≤ 1000) (hi : i < m) (ho : o < m) (hm : m ≤ 7)
    (hlow : ∀ j T, f j = some T → 0 ≤ T ∧ T ≤ 6000) :
    Calls Try.prog 55 #[.map (some b), .agg #[.int .i64 x, .int .i64 y, .int .i64 z], .int .i64 i] w fun e w' => e = .returned (.bool (lwr f i o z).isSome) ∧ TMp m w' b (lowR f o (lwr f i o z)) ∧ w.grownBy w' (some b) := by
  have hi9 : i < 1000 := by omega
  have ho9 : o < 1000 := by omega
  have hbw := h.lt
  have hk : ∀ ob, TMp m (w.alloc ob) b f := fun ob => h.kept (World.grownBy_alloc w ob none) (by simp)
  have HK := Lib.hid hk
  have HIO := Lib.hid hio
  clear hio hk
  cases hfi : f i
  · have R := Lib.hid (lwr_0 (o := o) (z := z) hfi)
    have GI := Lib.hid hfi
    clear hfi hlow
    go_enter Try.func55, Try.ntmps55
    go_wp2_with (at_lookup; refine wpList_lookT rfl (HK.out _) i hi9 _ _ rfl rfl rfl ?_; rw [GI.out])
    go_ret
    exact ⟨ret_bool (by rw [R.out]; rfl), by rw [R.out]; exact HK.out _, World.grownBy_alloc w _ _⟩
  · rename_i T
    have hT := hlow i T hfi
    cases hfo : f o
    · have R := Lib.hid (lwr_1 (z := z) hfi hfo)
      have GI := Lib.hid hfi
      have GO := Lib.hid hfo
      have HF : Hid (f o = none ∨ ∃ U, f o = some U ∧ T + z < U) := Lib.hid (.inl hfo)
      clear hfi hfo hlow
      go_enter Try.func55, Try.ntmps55
      go_wp2_with (first | (at_lookup; refine wpList_lookT rfl (HK.out _) i hi9 _ _ rfl rfl rfl ?_; rw [GI.out]))
      refine (across x y z i _ (by omega) (by omega) (by omega)).mono ?_
      rw [HIO.out]
      rintro e w1 ⟨rfl, hb1⟩
      have X := (Blk.new w #[.int .i64 x, .int .i64 y, .int .i64 z] 54).below hb1 (by simp)
      have q2 : w1.cell? ⟨w.heap.size, 2, none⟩ = some (.int .i64 z) := X.cell 2
      have HG1 := Lib.hid ((World.grownBy_alloc w (.cells #[.int .i64 x, .int .i64 y, .int .i64 z] 54) (some b)).trans ((below_grown hb1).but _))
      have hk1 := (HK.out (.cells #[.int .i64 x, .int .i64 y, .int .i64 z] 54)).below hb1
      clear hb1 X
      go_wp2_with (first
        | (at_lookup; refine wpList_lookT rfl hk1 o ho9 _ _ rfl rfl rfl ?_; rw [GO.out])
        | (at_mapUpdate; refine wpList_putT rfl hk1 o ho hm (T + z) (by omega) (by omega) HF.out _ _ _ rfl rfl rfl rfl ?_; intro w2 hT2 hg2))
      go_ret
      exact ⟨ret_bool (by rw [R.out]; rfl), by rw [R.out]; exact hT2, HG1.out.trans hg2⟩
    · rename_i U
      have hU := hlow o U hfo
      by_cases h3 : U ≤ T + z
      · have R := Lib.hid (lwr_2 hfi hfo h3)
        have GI := Lib.hid hfi
        have GO := Lib.hid hfo
        clear hfi hfo hlow
        go_enter Try.func55, Try.ntmps55
        go_wp2_with (first | (at_lookup; refine wpList_lookT rfl (HK.out _) i hi9 _ _ rfl rfl rfl ?_; rw [GI.out]))
        refine (across x y z i _ (by omega) (by omega) (by omega)).mono ?_
        rw [HIO.out]
        rintro e w1 ⟨rfl, hb1⟩
        have X := (Blk.new w #[.int .i64 x, .int .i64 y, .int .i64 z] 54).below hb1 (by simp)
        have q2 : w1.cell? ⟨w.heap.size, 2, none⟩ = some (.int .i64 z) := X.cell 2
        have HG1 := Lib.hid ((World.grownBy_alloc w (.cells #[.int .i64 x, .int .i64 y, .int .i64 z] 54) (some b)).trans ((below_grown hb1).but _))
        have hk1 := (HK.out (.cells #[.int .i64 x, .int .i64 y, .int .i64 z] 54)).below hb1
        clear hb1 X
        go_wp2_with (first
          | (at_lookup; refine wpList_lookT rfl hk1 o ho9 _ _ rfl rfl rfl ?_; rw [GO.out]))
        go_ret
        exact ⟨ret_bool (by rw [R.out]; rfl), by rw [R.out]; exact hk1, HG1.out⟩
      · have R := Lib.hid (lwr_3 hfi hfo h3)
        have GI := Lib.hid hfi
        have GO := Lib.hid hfo
        have HF : Hid (f o = none ∨ ∃ U, f o = some U ∧ T + z < U) := Lib.hid (.inr ⟨U, hfo, by omega⟩)
        clear hfi hfo hlow
        go_enter Try.func55, Try.ntmps55
        go_wp2_with (first | (at_lookup; refine wpList_lookT rfl (HK.out _) i hi9 _ _ rfl rfl rfl ?_; rw [GI.out]))
        refine (across x y z i _ (by omega) (by omega) (by omega)).mono ?_
        rw [HIO.out]
        rintro e w1 ⟨rfl, hb1⟩
        have X := (Blk.new w #[.int .i64 x, .int .i64 y, .int .i64 z] 54).below hb1 (by simp)
        have q2 : w1.cell? ⟨w.heap.size, 2, none⟩ = some (.int .i64 z) := X.cell 2
        have HG1 := Lib.hid ((World.grownBy_alloc w (.cells #[.int .i64 x, .int .i64 y, .int .i64 z] 54) (some b)).trans ((below_grown hb1).but _))
        have hk1 := (HK.out (.cells #[.int .i64 x, .int .i64 y, .int .i64 z] 54)).below hb1
        clear hb1 X
        go_wp2_with (first
          | (at_lookup; refine wpList_lookT rfl hk1 o ho9 _ _ rfl rfl rfl ?_; rw [GO.out])
          | (at_mapUpdate; refine wpList_putT rfl hk1 o ho hm (T + z) (by omega) (by omega) HF.out _ _ _ rfl rfl rfl rfl ?_; intro w2 hT2 hg2))
        go_ret
        exact ⟨ret_bool (by rw [R.out]; rfl), by rw [R.out]; exact hT2, HG1.out.trans hg2⟩
theorem mp_low {m : Nat} {bs : List Br} {s : Nat} {f : Nat → Option Int} (h : MpOK m bs s f) (hm : m ≤ 7) : ∀ j T, f j = some T → 0 ≤ T ∧ T ≤ 6000 := fun j T hT => by
  have h1 := (h.wk j T hT).2.1
  have h2 := h.low j T hT
  have := cnt_le (fun j => (f j).isSome) m
  omega
theorem potF_dn {m : Nat} {bs : List Br} {s : Nat} {f : Nat → Option Int} (h : MpOK m bs s f) (hm : m ≤ 7) {i : Nat} {T z : Int} (hi : f i = some T) (h0 : 0 ≤ z) (h1 : z ≤ 1000) {o : Nat} (ho : f o = none ∨ ∃ U, f o = some U ∧ T + z < U) (hom : o < m) : potF (putF f o (T + z)) m < potF f m := by
  have := mp_low h hm i T hi
  have := potF_put (T := T + z) (by omega) (by omega) ho m
  rw [if_pos hom] at this
  omega
/-- the least toll from s, if there is a way -/
def tlO (m : Nat) (bs : List Br) (s i : Nat) : Option Int := if same m bs i s then some (gt (tl m bs false s) i) else none
set_option maxRecDepth 100000 in
set_option maxHeartbeats 4000000 in
theorem tollsFrom (m : Nat) (v : Value) (bs : List Br) (s : Nat) (w : World) (h : RdB w v bs) (hg : Good m bs) (hm : m ≤ 7) (hl : bs.length ≤ 14) (hs : s < m) :
    Calls Try.prog 44 #[.agg #[.int .i64 m, v], .int .i64 s] w fun e w' => ∃ b f, e = .returned (.map (some b)) ∧ TMp m w' b f ∧ (∀ i, i < m → f i = tlO m bs s i) ∧ Below w.heap.size w w' := by
  obtain ⟨a, l, c, rfl, hnz, _, _, hcell⟩ := h
  rw [← hnz] at hl
  have HN := Lib.hid hnz
  have HC := Lib.hid hcell
  have HG := Lib.hid hg
  clear hcell hnz hg
  have hmm := @run_makeMap Try.prog
  have X0 := Lib.hid (Blk.new w #[.int .i64 m, .slice a l c] 31)
  have BW := Lib.hid ((Below.refl w.heap.size w).alloc (Nat.le_refl _) (.cells #[.int .i64 m, .slice a l c] 31))
  have hsz0 : (w.alloc (.cells #[.int .i64 m, .slice a l c] 31)).heap.size = w.heap.size + 1 := by simp
  go_enter Try.func44, Try.ntmps44
  go_wp2
  generalize hw0 : w.alloc (.cells #[.int .i64 m, .slice a l c] 31) = w0 at *
  have HSZ := Lib.hid hsz0
  clear hw0 hsz0
  obtain ⟨w1, r1, hT0, hg0⟩ := TMp.start (m := m) hm w0 (s := s) (by omega)
  have T0 := Lib.hid hT0
  have G0 := Lib.hid hg0
  clear hT0 hg0
  refine wp_scope_labs (fun k l' a' wr => l' = 0 ∧ ∃ (b : Nat) (f : Nat → Option Int) (u6 u7 u8 u9 u10 u11 u12 u13 u14 u15 u16 u17 u18 u19 u20 u21 u22 u23 u24 u25 u26 u27 u28 u29 u30 u31 : Value), a' = { tmps := #[.agg #[.int .i64 m, .slice a l c], .int .i64 s, .pointer (some ⟨w.heap.size, 0, none⟩), undef, .map none, .map (some b), u6, u7, u8, u9, u10, u11, u12, u13, u14, u15, u16, u17, u18, u19, u20, u21, u22, u23, u24, u25, u26, u27, u28, u29, u30, u31], defers := [] } ∧ TMp m wr b f ∧ MpOK m bs s f ∧ Below (w.heap.size + 1) w0 wr ∧ w.heap.size + 1 ≤ b ∧ k = potF f m) ?hf ?first ?pass
  case hf =>
    rintro k l a' w' ⟨rfl, _⟩
    exact ⟨_, rfl⟩
  case first =>
    go_wp2
    go_step3
    obtain ⟨b, hbw0⟩ : ∃ b, b = w0.heap.size := ⟨_, rfl⟩
    obtain ⟨f, hf0⟩ : ∃ f, f = putF (fun _ => none) s 0 := ⟨_, rfl⟩
    have MP := Lib.hid (hf0 ▸ mpOK_0 hs : MpOK m bs s f)
    have BL := Lib.hid (((Below.refl (w.heap.size + 1) w0).alloc (by have := HSZ.out; omega) (.map #[] 0)).grown G0.out (by have := HSZ.out; simp; omega) (by intro k hk; cases hk; have := HSZ.out; omega))
    have hT0 := T0.out
    rw [← hf0, ← hbw0] at hT0
    have TM := Lib.hid hT0
    have hbS : w.heap.size + 1 ≤ b := by have := HSZ.out; omega
    rw [← hbw0]
    clear hT0 T0 G0 r1 hmm hbw0 hf0
    have XB := Lib.hid (X0.out.below BL.out (by omega))
    have hsw := BL.out.size
    obtain ⟨c0, c1, l0⟩ := XB.out.two
    go_wp2
    go_loopw [7, 14] (fun _ i wr => ∃ k : Nat, k ≤ l ∧ i = .int .i64 k ∧ TMp m wr b f ∧ w1.grownBy wr (some b) ∧ Hid (∀ j, j < k → lwr f (gb bs j).1.toNat (gb bs j).2.1.toNat (gb bs j).2.2 = none ∧ lwr f (gb bs j).2.1.toNat (gb bs j).1.toNat (gb bs j).2.2 = none)) (fun _ i _ => l - (intOf i).toNat)
    case atStart => exact ⟨0, Nat.zero_le _, rfl, TM.out, World.grownBy.refl _ _, Lib.hid fun j h => absurd h (Nat.not_lt_zero _)⟩
    case round =>
      clear c0 c1 l0
      obtain ⟨k, hk, rfl, hT, hgr, HA⟩ := hrel
      have hsr := hgr.size
      have HBr := Lib.hid (BL.out.grown hgr (by have := HSZ.out; omega) (by intro k hk; cases hk; exact hbS))
      by_cases hlt : k < l
      · obtain ⟨bb, off, rfl, hbw, hA⟩ := HC.out k hlt
        obtain ⟨d0, d1, d2⟩ := (hA.below hbw BW.out).below (B := w.heap.size + 1) (by omega) HBr.out
        have hltI : (k : Int) < l := by omega
        have hmem := gb_mem (bs := bs) (j := k) (by have := HN.out; omega)
        have hv := HG.out _ hmem
        have HME := Lib.hid hmem
        have HS := Lib.hid (fun h => (fun j hj => by
          by_cases e : j = k
          · subst e; exact h
          · exact HA.out j (by omega) : ∀ j, j < k + 1 → lwr f (gb bs j).1.toNat (gb bs j).2.1.toNat (gb bs j).2.2 = none ∧ lwr f (gb bs j).2.1.toNat (gb bs j).1.toNat (gb bs j).2.2 = none))
        clear hmem hA
        generalize gb bs k = q at *
        obtain ⟨x, y, z⟩ := q
        simp only at hv d0 d1 d2 HS
        obtain ⟨xi, rfl⟩ := Int.eq_ofNat_of_zero_le hv.1
        obtain ⟨yi, rfl⟩ := Int.eq_ofNat_of_zero_le (show 0 ≤ y by omega)
        simp only [Int.toNat_natCast] at HS
        have hTa := Lib.hid (hT.kept (World.grownBy_alloc wr (.cells #[.int .i64 (xi : Int), .int .i64 (yi : Int), .int .i64 z] 54) none) (by simp))
        have hbr := hT.lt
        have HGR := Lib.hid hgr
        clear hT hgr
        go_wp2_with fail
        refine (lowerToll m b f xi yi z xi yi _ hTa.out (by omega) hv (by omega) (by omega) hm (mp_low MP.out hm)).mono ?_
        rintro e w3 ⟨rfl, hT3, hg3⟩
        obtain ⟨q0, q1, q2⟩ : w3.cell? ⟨wr.heap.size, 0, none⟩ = some (.int .i64 (xi : Int)) ∧ w3.cell? ⟨wr.heap.size, 1, none⟩ = some (.int .i64 (yi : Int)) ∧ w3.cell? ⟨wr.heap.size, 2, none⟩ = some (.int .i64 z) := by
          have X := (Blk.new wr #[.int .i64 (xi : Int), .int .i64 (yi : Int), .int .i64 z] 54).kept hg3 (by intro e; injection e with e; omega)
          exact ⟨X.cell 0, X.cell 1, X.cell 2⟩
        have HG3 := Lib.hid ((HGR.out.trans (World.grownBy_alloc wr (.cells #[.int .i64 (xi : Int), .int .i64 (yi : Int), .int .i64 z] 54) (some b))).trans hg3)
        have hs3 := HG3.out.size
        clear hg3
        cases h1 : lwr f xi yi z with
        | some V =>
          rw [h1] at hT3
          obtain ⟨T, hfT, hV, hfo⟩ := lwr_some h1
          have MP2 := Lib.hid (hV ▸ MP.out.put HG.out HME.out (x := xi) (y := yi) (.inl ⟨by simp, by simp⟩) hfT hfo)
          have PT := Lib.hid (potF_dn MP.out hm hfT hv.2.2.2.1 hv.2.2.2.2 hfo (by omega : yi < m))
          have TM2 := Lib.hid (show TMp m w3 b (putF f yi V) from hT3)
          have BL2 := Lib.hid (BL.out.grown HG3.out (by have := HSZ.out; omega) (by intro k hk; cases hk; exact hbS))
          rw [← hV] at PT
          clear hfT hfo hV h1 hT3
          go_wp2
          go_step3
          exact ⟨_, rfl, b, _, _, _, _, _, _, _, _, _, _, _, _, _, _, _, _, _, _, _, _, _, _, _, _, _, _, _, rfl, TM2.out, MP2.out, BL2.out, hbS, rfl⟩
        | none =>
          rw [h1] at hT3
          have H1 := Lib.hid h1
          have TM3 := Lib.hid (show TMp m w3 b f from hT3)
          clear h1 hT3
          go_wp2_with fail
          refine (lowerToll m b f xi yi z yi xi _ TM3.out (by omega) hv (by omega) (by omega) hm (mp_low MP.out hm)).mono ?_
          rintro e w4 ⟨rfl, hT4, hg4⟩
          have HG4 := Lib.hid (HG3.out.trans hg4)
          have hs4 := HG4.out.size
          clear hg4 q0 q1 q2
          cases h1 : lwr f yi xi z with
          | some V =>
            rw [h1] at hT4
            obtain ⟨T, hfT, hV, hfo⟩ := lwr_some h1
            have MP2 := Lib.hid (hV ▸ MP.out.put HG.out HME.out (x := yi) (y := xi) (.inr ⟨by simp, by simp⟩) hfT hfo)
            have PT := Lib.hid (potF_dn MP.out hm hfT hv.2.2.2.1 hv.2.2.2.2 hfo (by omega : xi < m))
            have TM2 := Lib.hid (show TMp m w4 b (putF f xi V) from hT4)
            have BL2 := Lib.hid (BL.out.grown HG4.out (by have := HSZ.out; omega) (by intro k hk; cases hk; exact hbS))
            rw [← hV] at PT
            clear hfT hfo hV h1 hT4
            go_wp2
            go_step3
            exact ⟨_, rfl, b, _, _, _, _, _, _, _, _, _, _, _, _, _, _, _, _, _, _, _, _, _, _, _, _, _, _, _, rfl, TM2.out, MP2.out, BL2.out, hbS, rfl⟩
          | none =>
            rw [h1] at hT4
            have H2 := Lib.hid h1
            have TM4 := Lib.hid (show TMp m w4 b f from hT4)
            clear h1 hT4
            go_wp2
            go_roundw
            case rel => exact ⟨k + 1, by omega, by go_num, TM4.out, HG4.out, Lib.hid (HS.out ⟨H1.out, H2.out⟩)⟩
            case measure => (simp [intOf]; try omega)
      · obtain rfl : k = l := by omega
        have E := Lib.hid (show ∀ i, i < m → f i = tlO m bs s i from mp_end HG.out hm hs MP.out (fun b hb => by
          obtain ⟨j, hj, rfl⟩ := mem_gb hb
          have := HA.out j (by have := HN.out; omega)
          exact ⟨lwr_none this.1, lwr_none this.2⟩))
        have HT := Lib.hid hT
        have HBW := Lib.hid (BW.out.trans (HBr.out.mono (by omega)))
        clear hT hgr
        go_wp2
        simp only [byLab]
        go_ret
        exact ⟨b, f, rfl, HT.out, E.out, HBW.out⟩
  case pass =>
    rintro k0 l' r a' wp ⟨rfl, b, f, u6, u7, u8, u9, u10, u11, u12, u13, u14, u15, u16, u17, u18, u19, u20, u21, u22, u23, u24, u25, u26, u27, u28, u29, u30, u31, rfl, hT, hM, hB, hbS, rfl⟩ hr
    obtain rfl := Option.some.inj (hr.symm.trans rfl)
    have TM := Lib.hid hT
    have MP := Lib.hid hM
    have BL := Lib.hid hB
    clear hr hT hM hB T0 G0 r1 hmm
    have XB := Lib.hid (X0.out.below BL.out (by omega))
    have hsw := BL.out.size
    obtain ⟨c0, c1, l0⟩ := XB.out.two
    go_wp2
    go_loopw [7, 14] (fun _ i wr => ∃ k : Nat, k ≤ l ∧ i = .int .i64 k ∧ TMp m wr b f ∧ wp.grownBy wr (some b) ∧ Hid (∀ j, j < k → lwr f (gb bs j).1.toNat (gb bs j).2.1.toNat (gb bs j).2.2 = none ∧ lwr f (gb bs j).2.1.toNat (gb bs j).1.toNat (gb bs j).2.2 = none)) (fun _ i _ => l - (intOf i).toNat)
    case atStart => exact ⟨0, Nat.zero_le _, rfl, TM.out, World.grownBy.refl _ _, Lib.hid fun j h => absurd h (Nat.not_lt_zero _)⟩
    case round =>
      clear c0 c1 l0
      obtain ⟨k, hk, rfl, hT, hgr, HA⟩ := hrel
      have hsr := hgr.size
      have HBr := Lib.hid (BL.out.grown hgr (by have := HSZ.out; omega) (by intro k hk; cases hk; exact hbS))
      by_cases hlt : k < l
      · obtain ⟨bb, off, rfl, hbw, hA⟩ := HC.out k hlt
        obtain ⟨d0, d1, d2⟩ := (hA.below hbw BW.out).below (B := w.heap.size + 1) (by omega) HBr.out
        have hltI : (k : Int) < l := by omega
        have hmem := gb_mem (bs := bs) (j := k) (by have := HN.out; omega)
        have hv := HG.out _ hmem
        have HME := Lib.hid hmem
        have HS := Lib.hid (fun h => (fun j hj => by
          by_cases e : j = k
          · subst e; exact h
          · exact HA.out j (by omega) : ∀ j, j < k + 1 → lwr f (gb bs j).1.toNat (gb bs j).2.1.toNat (gb bs j).2.2 = none ∧ lwr f (gb bs j).2.1.toNat (gb bs j).1.toNat (gb bs j).2.2 = none))
        clear hmem hA
        generalize gb bs k = q at *
        obtain ⟨x, y, z⟩ := q
        simp only at hv d0 d1 d2 HS
        obtain ⟨xi, rfl⟩ := Int.eq_ofNat_of_zero_le hv.1
        obtain ⟨yi, rfl⟩ := Int.eq_ofNat_of_zero_le (show 0 ≤ y by omega)
        simp only [Int.toNat_natCast] at HS
        have hTa := Lib.hid (hT.kept (World.grownBy_alloc wr (.cells #[.int .i64 (xi : Int), .int .i64 (yi : Int), .int .i64 z] 54) none) (by simp))
        have hbr := hT.lt
        have HGR := Lib.hid hgr
        clear hT hgr
        go_wp2_with fail
        refine (lowerToll m b f xi yi z xi yi _ hTa.out (by omega) hv (by omega) (by omega) hm (mp_low MP.out hm)).mono ?_
        rintro e w3 ⟨rfl, hT3, hg3⟩
        obtain ⟨q0, q1, q2⟩ : w3.cell? ⟨wr.heap.size, 0, none⟩ = some (.int .i64 (xi : Int)) ∧ w3.cell? ⟨wr.heap.size, 1, none⟩ = some (.int .i64 (yi : Int)) ∧ w3.cell? ⟨wr.heap.size, 2, none⟩ = some (.int .i64 z) := by
          have X := (Blk.new wr #[.int .i64 (xi : Int), .int .i64 (yi : Int), .int .i64 z] 54).kept hg3 (by intro e; injection e with e; omega)
          exact ⟨X.cell 0, X.cell 1, X.cell 2⟩
        have HG3 := Lib.hid ((HGR.out.trans (World.grownBy_alloc wr (.cells #[.int .i64 (xi : Int), .int .i64 (yi : Int), .int .i64 z] 54) (some b))).trans hg3)
        have hs3 := HG3.out.size
        clear hg3
        cases h1 : lwr f xi yi z with
        | some V =>
          rw [h1] at hT3
          obtain ⟨T, hfT, hV, hfo⟩ := lwr_some h1
          have MP2 := Lib.hid (hV ▸ MP.out.put HG.out HME.out (x := xi) (y := yi) (.inl ⟨by simp, by simp⟩) hfT hfo)
          have PT := Lib.hid (potF_dn MP.out hm hfT hv.2.2.2.1 hv.2.2.2.2 hfo (by omega : yi < m))
          have TM2 := Lib.hid (show TMp m w3 b (putF f yi V) from hT3)
          have BL2 := Lib.hid (BL.out.grown HG3.out (by have := HSZ.out; omega) (by intro k hk; cases hk; exact hbS))
          rw [← hV] at PT
          clear hfT hfo hV h1 hT3
          go_wp2
          go_step3
          exact ⟨_, PT.out, rfl, b, _, _, _, _, _, _, _, _, _, _, _, _, _, _, _, _, _, _, _, _, _, _, _, _, _, _, _, rfl, TM2.out, MP2.out, BL2.out, hbS, rfl⟩
        | none =>
          rw [h1] at hT3
          have H1 := Lib.hid h1
          have TM3 := Lib.hid (show TMp m w3 b f from hT3)
          clear h1 hT3
          go_wp2_with fail
          refine (lowerToll m b f xi yi z yi xi _ TM3.out (by omega) hv (by omega) (by omega) hm (mp_low MP.out hm)).mono ?_
          rintro e w4 ⟨rfl, hT4, hg4⟩
          have HG4 := Lib.hid (HG3.out.trans hg4)
          have hs4 := HG4.out.size
          clear hg4 q0 q1 q2
          cases h1 : lwr f yi xi z with
          | some V =>
            rw [h1] at hT4
            obtain ⟨T, hfT, hV, hfo⟩ := lwr_some h1
            have MP2 := Lib.hid (hV ▸ MP.out.put HG.out HME.out (x := yi) (y := xi) (.inr ⟨by simp, by simp⟩) hfT hfo)
            have PT := Lib.hid (potF_dn MP.out hm hfT hv.2.2.2.1 hv.2.2.2.2 hfo (by omega : xi < m))
            have TM2 := Lib.hid (show TMp m w4 b (putF f xi V) from hT4)
            have BL2 := Lib.hid (BL.out.grown HG4.out (by have := HSZ.out; omega) (by intro k hk; cases hk; exact hbS))
            rw [← hV] at PT
            clear hfT hfo hV h1 hT4
            go_wp2
            go_step3
            exact ⟨_, PT.out, rfl, b, _, _, _, _, _, _, _, _, _, _, _, _, _, _, _, _, _, _, _, _, _, _, _, _, _, _, _, rfl, TM2.out, MP2.out, BL2.out, hbS, rfl⟩
          | none =>
            rw [h1] at hT4
            have H2 := Lib.hid h1
            have TM4 := Lib.hid (show TMp m w4 b f from hT4)
            clear h1 hT4
            go_wp2
            go_roundw
            case rel => exact ⟨k + 1, by omega, by go_num, TM4.out, HG4.out, Lib.hid (HS.out ⟨H1.out, H2.out⟩)⟩
            case measure => (simp [intOf]; try omega)
      · obtain rfl : k = l := by omega
        have E := Lib.hid (show ∀ i, i < m → f i = tlO m bs s i from mp_end HG.out hm hs MP.out (fun b hb => by
          obtain ⟨j, hj, rfl⟩ := mem_gb hb
          have := HA.out j (by have := HN.out; omega)
          exact ⟨lwr_none this.1, lwr_none this.2⟩))
        have HT := Lib.hid hT
        have HBW := Lib.hid (BW.out.trans (HBr.out.mono (by omega)))
        clear hT hgr
        go_wp2
        simp only [byLab]
        go_ret
        exact ⟨b, f, rfl, HT.out, E.out, HBW.out⟩
end Go.Proofs.Ytdmgpbhbgeknfab
