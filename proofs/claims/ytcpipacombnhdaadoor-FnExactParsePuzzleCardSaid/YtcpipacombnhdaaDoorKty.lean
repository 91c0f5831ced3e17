/- impl.clueText, impl.PuzzleText; spec.PuzzleText. -/
import Derived.Test.YtcpipacombnhdaaDoorKtx
namespace Go.Proofs.YtcpipacombnhdaaDoor
set_option linter.unusedVariables false
open Go.RowKit

/-- the words of some bridges -/
def wdb (cs : List Br) : List ByteArray := cs.map fun b => bs (btx b)
theorem wdb_len (cs : List Br) : (wdb cs).length = cs.length := by simp [wdb]
theorem wdb_take {cs : List Br} {k : Nat} (h : k < cs.length) : wdb (cs.take (k + 1)) = wdb (cs.take k) ++ [bs (btx (gb cs k))] := by
  have e : gb cs k = cs[k] := by simp [gb, h]
  rw [List.take_succ_eq_append_getElem h, e]
  simp only [wdb, List.map_append, List.map_cons, List.map_nil]
theorem wdb_txt (cs : List Br) : Lib.join ((wdb cs).map (·.data.toList)) [44] = jtx cs := by
  unfold wdb jtx
  rw [List.map_map]
  congr 1
theorem Strg.three (w : World) (B : Nat) (h : B ≤ w.heap.size) (x y z : ByteArray) : Strg (w.alloc (.cells #[.string x, .string y, .string z] 9)) B (.slice (some ⟨w.heap.size, 0, none⟩) 3 3) [x, y, z] :=
  World.ownsRow_lit (base := B) (e := 9) (size := 1) w #[.string x, .string y, .string z] 3 h (by unfold maxLen; omega) rfl
set_option maxRecDepth 20000 in
set_option maxHeartbeats 4000000 in
theorem clueText (xa xb xc : Nat) (w : World) (ha : xa ≤ 1000000) (hb : xb ≤ 1000000) (hc : xc ≤ 1000000) (hP : Pow w) :
    Calls Tryd.prog 19 #[.agg #[.int .i64 (xa : Int), .int .i64 (xb : Int), .int .i64 (xc : Int)]] w fun e w' => e = .returned (.string (bs (btx ((xa : Int), (xb : Int), (xc : Int))))) ∧ Below w.heap.size w w' := by
  have NA := Lib.hid (fun wx hx => itoa xa wx ha hx)
  have NB := Lib.hid (fun wx hx => itoa xb wx hb hx)
  have NC := Lib.hid (fun wx hx => itoa xc wx hc hx)
  have La := dig_len (n := xa) (by omega)
  have Lb := dig_len (n := xb) (by omega)
  have Lc := dig_len (n := xc) (by omega)
  have JE : Lib.join ([bs (Lib.decDigits xa), bs (Lib.decDigits xb), bs (Lib.decDigits xc)].map (·.data.toList)) [46] = btx ((xa : Int), (xb : Int), (xc : Int)) := by
    simp [Lib.join_cons, Lib.joinTail, btx, bs]
  have JL : (btx ((xa : Int), (xb : Int), (xc : Int))).length ≤ 100000 := by unfold btx; simp; omega
  have JJ := Lib.hid (fun v wx (hS : Strg wx w.heap.size v [bs (Lib.decDigits xa), bs (Lib.decDigits xb), bs (Lib.decDigits xc)]) => by
    have := joinS v _ 46 w.heap.size wx hS (by simp) (by rw [JE]; exact JL)
    rwa [JE] at this)
  generalize bs (Lib.decDigits xa) = sa at *
  generalize bs (Lib.decDigits xb) = sb at *
  generalize bs (Lib.decDigits xc) = sc at *
  generalize bs (btx ((xa : Int), (xb : Int), (xc : Int))) = tx at *
  have PX := Lib.hid (Blk.new w #[.int .i64 (xa : Int), .int .i64 (xb : Int), .int .i64 (xc : Int)] 44)
  have DX := Lib.hid ((Below.refl w.heap.size w).alloc (Nat.le_refl _) (.cells #[.int .i64 (xa : Int), .int .i64 (xb : Int), .int .i64 (xc : Int)] 44))
  have P0 := Lib.hid (hP.below DX.out)
  clear La Lb Lc ha hb hc hP JE JL
  go_enter Tryd.func19, Tryd.ntmps19
  go_wp2_with fail
  generalize (w.alloc (.cells #[.int .i64 (xa : Int), .int .i64 (xb : Int), .int .i64 (xc : Int)] 44)) = W at *
  go_region_held3 (fun w' => w'.cell? ⟨w.heap.size, 0, none⟩ = some (.int .i64 (xa : Int)) ∧ w'.cell? ⟨w.heap.size, 1, none⟩ = some (.int .i64 (xb : Int)) ∧ w'.cell? ⟨w.heap.size, 2, none⟩ = some (.int .i64 (xc : Int))) (first | with_reducible exact blk3 PD.out | with_reducible exact blk3 (PC.out.alloc _) | with_reducible exact blk3 (PC.out.alloc _).drew | with_reducible exact blk3 PC.out | with_reducible exact blk3 PB.out | with_reducible exact blk3 PA.out | with_reducible exact blk3 PX.out.drew | with_reducible exact blk3 PX.out) (first
    | (go_at_call 20; (with_reducible refine (NA.out _ (P0.out.below (by (repeat (first | exact Below.refl _ _ | (refine Below.alloc ?_ (by first | omega | (simp; try omega)) _) | apply Below.drew))))).mono ?_); rintro e wA ⟨rfl, hbA⟩; have DA := Lib.hid (Below.trans (by (repeat (first | exact Below.refl _ _ | (refine Below.alloc ?_ (by first | omega | (simp; try omega)) _) | apply Below.drew))) (hbA.mono (by first | exact Nat.le_refl _ | (simp; try omega))) : Below W.heap.size W wA); have PA := Lib.hid (PX.out.below DA.out PX.out.lt); clear hbA; skip)
    | (go_at_call 20; (with_reducible refine (NB.out wA (P0.out.below DA.out)).mono ?_); rintro e wB ⟨rfl, hbB⟩; have DB := Lib.hid (DA.out.trans (hbB.mono DA.out.size)); have PB := Lib.hid (PX.out.below DB.out PX.out.lt); clear hbB; skip)
    | (go_at_call 20; (with_reducible refine (NC.out wB (P0.out.below DB.out)).mono ?_); rintro e wC ⟨rfl, hbC⟩; have DC := Lib.hid (DB.out.trans (hbC.mono DB.out.size)); have PC := Lib.hid (PX.out.below DC.out PX.out.lt); clear hbC; skip)
    | (go_at_call 21; refine (JJ.out _ _ (Strg.three wC w.heap.size (by have := DC.out.size; have := PX.out.lt; omega) sa sb sc)).mono ?_; rintro e wD ⟨rfl, hbD⟩; have DD := Lib.hid ((DC.out.alloc DC.out.size _).trans (hbD.mono (by have := DC.out.size; simp; omega)) : Below W.heap.size W wD); have PD := Lib.hid (PX.out.below DD.out PX.out.lt); clear hbD; skip)
    | fail)
  all_goals
    go_wp2
    go_ret
    exact ⟨rfl, DX.out.trans (DD.out.mono DX.out.size)⟩
set_option maxRecDepth 20000 in
set_option maxHeartbeats 4000000 in
theorem implText (n : Int) (v : Value) (cs : List Br) (w : World) (h : RdB w v cs) (hl : cs.length ≤ 1048576) (hP : Pow w) :
    Calls Tryd.prog 8 #[.agg #[.int .i64 n, v]] w fun e w' => e = .returned (itxV n cs) ∧ Below w.heap.size w w' := by
  have H := Lib.hid h
  obtain ⟨a, l, c, rfl, hnz, _, _, hvc⟩ := h
  have X0 := Lib.hid (Blk.new w #[.int .i64 n, .slice a l c] 30)
  have B0 := Lib.hid ((Below.refl w.heap.size w).alloc (Nat.le_refl _) (.cells #[.int .i64 n, .slice a l c] 30))
  have ARE := Lib.hid (fun wx (hx : RdB wx (.slice a l c) cs) => implIsPz n (.slice a l c) cs wx hx hl)
  have HP := Lib.hid (hP.below B0.out)
  cases hp : isPz n cs
  · have J := Lib.hid (itxV_no hp)
    have G := Lib.hid hp
    clear hp hvc hnz hP
    go_enter Tryd.func8, Tryd.ntmps8
    go_wp2_with (go_at_call 18; refine (ARE.out _ (H.out.below B0.out)).mono ?_; rintro e w1 ⟨rfl, hb⟩; rw [G.out])
    go_ret2
    exact ⟨ret_w J.out.symm, B0.out.trans (hb.mono (by simp))⟩
  · obtain ⟨m, rfl, hm1, hm, hcl, hgd⟩ := isPz_got hp
    have J := Lib.hid (itxV_yes hp)
    have HG := Lib.hid hgd
    have G := Lib.hid hp
    have HVC := Lib.hid hvc
    have HVN := Lib.hid hnz
    have hl14 : l ≤ 6 := by omega
    have N0 := Lib.hid (fun wx hx => itoa m wx (by omega) hx)
    have LM := dig_len (n := m) (by omega)
    have LM2 := bs_size (Lib.decDigits m)
    have HJL := Lib.hid (jtx_len HG.out (by omega))
    have TX := Lib.hid (show bs (Lib.decDigits m) ++ ⟨#[58]⟩ ++ bs (jtx cs) = bs (itx m cs) by
      rw [show (⟨#[58]⟩ : ByteArray) = bs [58] from rfl]
      unfold itx
      simp only [Int.toNat_natCast, bs_app, List.append_assoc])
    generalize bs (Lib.decDigits m) = sm at *
    have q1 : ¬ (9223372036854775807 ≤ sm.size) := by omega
    have q1' : ¬ (9223372036854775807 < sm.size + 1) := by omega
    have HT := Lib.hid (show wdb (cs.take l) = wdb cs by rw [hnz, List.take_length])
    have LMH := Lib.hid (show sm.size ≤ 7 by omega)
    clear hp hvc hnz hP hgd hl LM LM2
    go_enter Tryd.func8, Tryd.ntmps8
    go_wp2_with (go_at_call 18; refine (ARE.out _ (H.out.below B0.out)).mono ?_; rintro e w1 ⟨rfl, hb⟩; rw [G.out]; have X1 := Lib.hid (X0.out.below hb X0.out.lt); have P1 := Lib.hid (HP.out.below hb); have B1 := Lib.hid (B0.out.trans (hb.mono (by simp))); clear hb; obtain ⟨c0, c1, l0⟩ := X1.out.two)
    go_loopw [4, 13] (fun o i wr => ∃ k : Nat, k ≤ l ∧ i = .int .i64 k ∧ Hid (Strg wr w1.heap.size o (wdb (cs.take k))) ∧ Hid (Below w1.heap.size w1 wr)) (fun _ i _ => l - (intOf i).toNat)
    case atStart => exact ⟨0, Nat.zero_le _, rfl, Lib.hid (World.ownsRow_nil _ _ _ _), Lib.hid (Below.refl _ _)⟩
    case round =>
      obtain ⟨k, hk, rfl, hS, hB⟩ := hrel
      have hle := hB.out.size
      by_cases hlt : k < l
      · obtain ⟨b, off, rfl, hbw, hcc⟩ := HVC.out k hlt
        have hwl := B1.out.size
        obtain ⟨x0, x1, x2⟩ := hcc.below hbw (B1.out.trans (hB.out.mono hwl))
        have hkb : k < cs.length := by have := HVN.out; omega
        have hlt' : (k : Int) < l := by omega
        have hv := HG.out.at hkb
        have T := Lib.hid (wdb_take hkb)
        have hll : (wdb (cs.take k)).length < 16777216 := by rw [wdb_len]; simp; omega
        generalize gb cs k = q at *
        obtain ⟨y0, y1, y2⟩ := q
        simp only at hv x0 x1 x2
        obtain ⟨xa, rfl⟩ : ∃ n : Nat, y0 = n := ⟨y0.toNat, by omega⟩
        obtain ⟨xb, rfl⟩ : ∃ n : Nat, y1 = n := ⟨y1.toNat, by omega⟩
        obtain ⟨xc, rfl⟩ : ∃ n : Nat, y2 = n := ⟨y2.toNat, by omega⟩
        have BT := Lib.hid (fun wx hx => clueText xa xb xc wx (by omega) (by omega) (by omega) hx)
        have DX := Lib.hid (hB.out.alloc hle (.cells #[.int .i64 (xa : Int), .int .i64 (xb : Int), .int .i64 (xc : Int)] 44))
        have SX := Lib.hid (hS.out.below ((Below.refl wr.heap.size wr).alloc (Nat.le_refl _) (.cells #[.int .i64 (xa : Int), .int .i64 (xb : Int), .int .i64 (xc : Int)] 44)))
        have PX := Lib.hid (P1.out.below DX.out)
        clear hcc hv hwl
        generalize bs (btx ((xa : Int), (xb : Int), (xc : Int))) = d at *
        generalize wdb (cs.take k) = L at *
        go_wp2_with (first
          | (go_at_call 19; refine (BT.out _ PX.out).mono ?_; rintro e w3 ⟨rfl, hb3⟩; have B2 := Lib.hid (DX.out.trans (hb3.mono DX.out.size)); have S2 := Lib.hid (SX.out.below hb3); clear hb3)
          | (at_builtin; refine wpList_appS w3 rfl _ _ rfl w1.heap.size _ L rfl S2.out d w3.heap.size rfl rfl hll B2.out.size rfl ?_; intro v' w4 hS3 hb3 hg3; have S3 := Lib.hid hS3; have B3 := Lib.hid (B2.out.trans hb3); clear hS3 hb3 hg3))
        go_roundw
        case rel => exact ⟨k + 1, by omega, by go_num, by rw [T.out]; exact S3, B3⟩
        case measure => (simp [intOf]; try omega)
      · obtain rfl : k = l := by omega
        rw [HT.out] at hS
        have WT := Lib.hid (wdb_txt cs)
        have WL := wdb_len cs
        have N2 := Lib.hid (fun W (hW : Below wr.heap.size wr W) => joinS _ (wdb cs) 44 w1.heap.size W (hS.out.below hW) (by have := HVN.out; omega) (by rw [WT.out]; have := HJL.out; have := HVN.out; omega))
        rw [WT.out] at N2
        have X2 := Lib.hid (X1.out.below hB.out X1.out.lt)
        have hjs := bs_size (jtx cs)
        have hj3 : (jtx cs).length ≤ 1000 := by have := HJL.out; have := HVN.out; omega
        generalize bs (jtx cs) = sj at *
        have q2 : ¬ (9223372036854775807 < sm.size + 1 + sj.size) := by have := LMH.out; omega
        clear WL hS c0 c1 l0 hjs hj3
        obtain ⟨c0, c1, l0⟩ := X2.out.two
        go_wp2_with (first
          | (go_at_call 20; refine (N0.out _ (P1.out.below hB.out)).mono ?_; rintro e w2 ⟨rfl, hb2⟩; have D2 := Lib.hid hb2; clear hb2)
          | (go_at_call 21; refine (N2.out _ D2.out).mono ?_; rintro e w3 ⟨rfl, hb3⟩; have D3 := Lib.hid (D2.out.trans (hb3.mono D2.out.size)); clear hb3))
        go_ret2
        exact ⟨by rw [J.out, ← TX.out]; rfl, B1.out.trans ((hB.out.trans (D3.out.mono hle)).mono B1.out.size)⟩
theorem specText (n : Int) (v : Value) (cs : List Br) (w : World) (h : RdB w v cs) (hl : cs.length ≤ 1048576) :
    Calls Tryd.prog 6 #[.agg #[.int .i64 n, v]] w fun e w' => e = .returned (itxV n cs) ∧ Below w.heap.size w w' := by
  have H := Lib.hid h
  obtain ⟨a, l, c, rfl, hnz, _, _, hvc⟩ := h
  have X0 := Lib.hid (Blk.new w #[.int .i64 n, .slice a l c] 30)
  have B0 := Lib.hid ((Below.refl w.heap.size w).alloc (Nat.le_refl _) (.cells #[.int .i64 n, .slice a l c] 30))
  have ARE := Lib.hid (fun wx (hx : RdB wx (.slice a l c) cs) => pzGood n (.slice a l c) cs wx hx)
  clear hvc hnz
  cases hp : isPz n cs
  · have J := Lib.hid (itxV_no hp)
    have G := Lib.hid hp
    clear hp
    go_enter Tryd.func6, Tryd.ntmps6
    go_wp2_with (go_at_call 15; refine (ARE.out _ (H.out.below B0.out)).mono ?_; rintro e w1 ⟨rfl, hb⟩; rw [G.out])
    go_ret2
    exact ⟨ret_w J.out.symm, B0.out.trans (hb.mono (by simp))⟩
  · obtain ⟨m, rfl, hm1, hm, hcl, hgd⟩ := isPz_got hp
    have J := Lib.hid (itxV_yes hp)
    have G := Lib.hid hp
    have TT := Lib.hid (fun wx (hx : RdB wx (.slice a l c) cs) => pzText m (.slice a l c) cs wx hx hgd hm hcl)
    clear hp hgd
    go_enter Tryd.func6, Tryd.ntmps6
    go_wp2_with (first
      | (go_at_call 15; refine (ARE.out _ (H.out.below B0.out)).mono ?_; rintro e w1 ⟨rfl, hb⟩; rw [G.out]; have X1 := Lib.hid (X0.out.below hb X0.out.lt); have B1 := Lib.hid (B0.out.trans (hb.mono (by simp))); clear hb; obtain ⟨c0, c1, l0⟩ := X1.out.two)
      | (go_at_call 16; refine (TT.out _ (H.out.below B1.out)).mono ?_; rintro e w2 ⟨rfl, hb⟩; have B2 := Lib.hid (B1.out.trans (hb.mono B1.out.size)); clear hb))
    go_ret2
    exact ⟨ret_w J.out.symm, B2.out⟩
end Go.Proofs.YtcpipacombnhdaaDoor
