/- impl.ParsePlanks. -/
import Derived.Test.YteoggpollgkfiabDoorPp
import Derived.Test.YteoggpollgkfiabDoorPu
namespace Go.Proofs.YteoggpollgkfiabDoor
set_option linter.unusedVariables false
open Go.RowKit

/-- what the library's code reads of package variables -/
def Lb (w : World) : Prop := Pow w ∧ 3 < w.heap.size ∧ (∃ m, w.cell? ⟨3, 0, none⟩ = some (.int .i64 m)) ∧ (∃ tp p, w.var? Tryd.prog "strconv.ErrSyntax" = some #[.iface tp p]) ∧ ∃ tp p, w.var? Tryd.prog "strconv.ErrRange" = some #[.iface tp p]
theorem Tryd.gSyn : Tryd.prog.globalNamed "strconv.ErrSyntax" = some 0 := by kernel_rfl
theorem Tryd.gRan : Tryd.prog.globalNamed "strconv.ErrRange" = some 1 := by kernel_rfl
theorem Lb.below {w w' : World} (h : Lb w) (hb : Below w.heap.size w w') : Lb w' := by
  obtain ⟨h1, h2, ⟨m, h3⟩, ⟨t4, p4, h4⟩, ⟨t5, p5, h5⟩⟩ := h
  exact ⟨h1.below hb, Nat.lt_of_lt_of_le h2 hb.size, ⟨m, (hb.cell (p := ⟨3, 0, none⟩) h2).trans h3⟩, ⟨t4, p4, varBelow hb Tryd.gSyn (by omega) h4⟩, ⟨t5, p5, varBelow hb Tryd.gRan (by omega) h5⟩⟩
theorem split (s : ByteArray) (w : World) (hs : s.size ≤ 1048576) (hL : Lb w) :
    Calls Tryd.prog 20 #[.string s, .string ⟨#[45]⟩] w fun e w' => ∃ v W, e = .returned v ∧ Strg w' w.heap.size v W ∧ W.map (·.data.toList) = spl s.data.toList ∧ Below w.heap.size w w' := by
  obtain ⟨m, hm⟩ := hL.2.2.1
  refine (Any.strings_Split { Tryd.laysM146 with } Tryd.laysM146.i9 s ⟨#[45]⟩ m w (by omega) hm (by decide)).mono ?_
  rintro e w' ⟨rfl, rfl⟩
  have hl : (Lib.splitB ⟨#[45]⟩ 0 (Lib.countB s ⟨#[45]⟩) s).length = Lib.countB s ⟨#[45]⟩ + 1 := Lib.splitB_all ⟨#[45]⟩ (by decide) 0 _ s rfl
  have hc : Lib.countB s ⟨#[45]⟩ ≤ s.size := Lib.countB_le ⟨#[45]⟩ (by decide) s.size s (Nat.le_refl _)
  refine ⟨_, Lib.splitB ⟨#[45]⟩ 0 (Lib.countB s ⟨#[45]⟩) s, rfl, ?_, spl_B s, (Below.refl _ _).alloc (Nat.le_refl _) _⟩
  unfold Strg
  rw [hl]
  have h := World.ownsRow_lit (base := w.heap.size) (e := 9) (size := 1) w ((Lib.splitB ⟨#[45]⟩ 0 (Lib.countB s ⟨#[45]⟩) s).map Value.string).toArray (Lib.countB s ⟨#[45]⟩ + 1) (Nat.le_refl _) (by unfold maxLen; omega) (by simp [hl])
  exact h
/-- how strconv.Atoi ends -/
def Ok (x : ByteArray) (z : Int) : Prop := Lib.atoiAll x.data.toList = .ok z
theorem atoiOk (x : ByteArray) (z : Int) (w : World) (hs : x.size ≤ 1048576) (h : Ok x z) :
    Calls Tryd.prog 21 #[.string x] w fun e w' => e = .returned (.tuple #[.int .i64 z, .nilIface]) ∧ Below w.heap.size w w' := by
  refine (Tryd.strconv_Atoi_ok x (by omega) z h w).mono ?_
  rintro e w' ⟨rfl, rfl | ⟨t, rfl⟩⟩
  · exact ⟨rfl, Below.refl _ _⟩
  · exact ⟨rfl, Lib.bytesWorld_below _ _ _⟩
theorem atoiNo (x : ByteArray) (w : World) (hs : x.size ≤ 1048576) (hL : Lb w) (h : ∀ z, ¬ Ok x z) :
    Calls Tryd.prog 21 #[.string x] w fun e w' => ∃ z t a, e = .returned (.tuple #[.int .i64 z, .iface t (.pointer (some a))]) ∧ Below w.heap.size w w' := by
  obtain ⟨_, _, _, ⟨t4, p4, h4⟩, ⟨t5, p5, h5⟩⟩ := hL
  cases hx : Lib.atoiAll x.data.toList with
  | ok z => exact absurd hx (h z)
  | «syntax» =>
    refine (Tryd.strconv_Atoi_syntax_var x (by omega) hx t4 p4 w h4).mono ?_
    rintro e w' ⟨N, rfl, _, _, hb⟩
    exact ⟨_, _, _, rfl, hb⟩
  | range =>
    refine (Tryd.strconv_Atoi_range_var x (by omega) hx t5 p5 w h5).mono ?_
    rintro e w' ⟨N, rfl, _, _, hb⟩
    exact ⟨_, _, _, rfl, hb⟩
/-- the words of a text that is read are those of its planks -/
theorem ok_out {s : ByteArray} (h : isTx s = true) {W : List ByteArray} (hW : W.map (·.data.toList) = spl s.data.toList) : W.length = (out s).length ∧ ∀ j, j < W.length → Ok (gs W j) (gt (out s) j) := by
  obtain ⟨h1, h2, h3⟩ := isTx_in h
  have hi := arePl_in h2
  have hne : out s ≠ [] := fun e => by rw [e] at hi; simp at hi
  have e1 : spl s.data.toList = (out s).map fun n => Lib.decDigits n.toNat := by
    have := spl_txt hne
    rw [← this]
    conv => lhs; rw [← h3]
    rfl
  rw [e1] at hW
  have hl : W.length = (out s).length := by have := congrArg List.length hW; simpa using this
  refine ⟨hl, fun j hj => ?_⟩
  have hj2 : j < (out s).length := by omega
  have g1 : gs W j = W[j] := by simp [gs, hj]
  have g2 : gt (out s) j = (out s)[j] := by simp [gt, hj2]
  have e2 : W[j].data.toList = Lib.decDigits ((out s)[j]).toNat := by
    have := List.getElem_of_eq hW (i := j) (by simpa using hj)
    simpa using this
  have hb := hi.2.2 j hj2
  rw [g2] at hb
  unfold Ok
  rw [g1, g2, e2, atoi_dec (by omega)]
  congr 1
  omega
theorem ok_same {W : List ByteArray} {zs ys : List Int} (h1 : zs.length = W.length) (h2 : W.length = ys.length) (a : ∀ j, j < W.length → Ok (gs W j) (gt zs j)) (b : ∀ j, j < W.length → Ok (gs W j) (gt ys j)) : zs = ys := by
  apply List.ext_getElem (by omega)
  intro j i1 i2
  have x := a j (by omega)
  have y := b j (by omega)
  unfold Ok at x y
  rw [x] at y
  injection y with y
  have g1 : gt zs j = zs[j] := by simp [gt, i1]
  have g2 : gt ys j = ys[j] := by simp [gt, i2]
  rw [← g1, ← g2]; exact y
theorem spl_full : ∀ l : List UInt8, (∀ w ∈ spl l, w ≠ []) → (spl l).length ≤ l.length
  | [], h => absurd rfl (h [] (by simp [spl]))
  | c :: r, h => by
    have hn := spl_len r
    have hne := spl_ne r
    unfold spl at h ⊢
    split at h
    · exact absurd rfl (h [] (List.mem_cons_self ..))
    · rename_i hc
      rw [if_neg hc]
      split
      · rename_i h2; exact absurd h2 hne
      · rename_i w2 ws h2
        rw [h2] at hn
        simpa using hn
theorem ok_len {s : ByteArray} {W : List ByteArray} (hW : W.map (·.data.toList) = spl s.data.toList) (a : ∀ j, j < W.length → ∃ z, Ok (gs W j) z) : W.length ≤ s.size := by
  have h := spl_full s.data.toList (fun w hw => by
    rw [← hW] at hw
    obtain ⟨x, hx, rfl⟩ := List.mem_map.1 hw
    obtain ⟨j, hj, rfl⟩ := List.getElem_of_mem hx
    obtain ⟨z, hz⟩ := a j hj
    have g1 : gs W j = W[j] := by simp [gs, hj]
    rw [g1] at hz
    intro e
    unfold Ok at hz
    rw [e] at hz
    cases hz)
  rw [← hW, List.length_map] at h
  have SZ : s.data.toList.length = s.size := by rw [Array.length_toList]; rfl
  omega
set_option maxHeartbeats 4000000 in
theorem implParse (s : ByteArray) (w : World) (hs : s.size ≤ 1048576) (hL : Lb w) :
    Calls Tryd.prog 10 #[.string s] w fun e w' => ∃ v, e = .returned (.tuple #[v, .bool (isTx s)]) ∧ Ints w' w.heap.size v (pL s) ∧ Below w.heap.size w w' := by
  have SP := Lib.hid (split s w hs hL)
  have HLB := Lib.hid hL
  have SM := Lib.hid (spl_mem s.data.toList)
  have SL := Lib.hid (spl_len s.data.toList)
  have SZ : s.data.toList.length = s.size := by rw [Array.length_toList]; rfl
  have HSZ := Lib.hid SZ
  clear SZ hL
  go_enter Tryd.func10, Tryd.ntmps10
  go_wp2_with (go_at_call 20; refine SP.out.mono ?_; rintro e w1 ⟨v0, W, rfl, hS, hW, hb⟩; have HW := Lib.hid hW; have HS := Lib.hid hS; have HB1 := Lib.hid hb; have hp := words_pos HW.out; obtain ⟨g, n, cap, rfl, hn, hnc, hcm, hB0, hg, hc⟩ := HS.out.form hp; have HN := Lib.hid hn; have HC := Lib.hid hc; clear hS hW hb hn hnc hcm hc hp)
  have hn2 : n ≤ 1048577 := by
    have h1 := congrArg List.length HW.out
    rw [List.length_map] at h1
    have := SL.out
    have := HSZ.out
    have := HN.out
    omega
  have L1 := Lib.hid (HLB.out.below HB1.out)
  have RDS := Lib.hid (show ∀ j, j < n → (gs W j).size ≤ 1048576 from fun j hj => by
    have hjl : j < W.length := by have := HN.out; omega
    have e : gs W j = W[j] := by simp [gs, hjl]
    have h1 : (gs W j).data.toList ∈ spl s.data.toList := by
      rw [← HW.out, e]; exact List.mem_map_of_mem (List.getElem_mem _)
    have h2 := SM.out _ h1
    have h3 := HSZ.out
    have h4 : (gs W j).data.toList.length = (gs W j).size := by rw [Array.length_toList]; rfl
    omega)
  have NO := Lib.hid (show ∀ k, k < n → (∀ z, ¬ Ok (gs W k) z) → isTx s = false from fun k hk h => by
    cases ht : isTx s
    · rfl
    · have := (ok_out ht HW.out).2 k (by have := HN.out; omega)
      exact absurd this (h _))
  go_loopw [4, 14] (fun o i wr => ∃ (k : Nat) (zs : List Int), k ≤ n ∧ zs.length = k ∧ i = .int .i64 k ∧ Hid (Ints wr w1.heap.size o zs) ∧ Hid (∀ j, j < k → Ok (gs W j) (gt zs j)) ∧ Hid (Below w1.heap.size w1 wr)) (fun _ i _ => n - (intOf i).toNat)
  case atStart => exact ⟨0, [], Nat.zero_le _, rfl, rfl, Lib.hid (World.ownsRow_nil _ _ _ _), Lib.hid (fun j hj => absurd hj (Nat.not_lt_zero _)), Lib.hid (Below.refl _ _)⟩
  case round =>
    obtain ⟨k, zs, hk, hzl, rfl, hI, hO, hB⟩ := hrel
    have hle := hB.out.size
    have HZL := Lib.hid hzl
    clear hzl
    by_cases hlt : k < n
    · have hlt' : (k : Int) < n := by omega
      have c := (hB.out.cell (p := ⟨g, k, none⟩) hg).trans (HC.out k hlt)
      have L2 := Lib.hid (L1.out.below hB.out)
      by_cases hex : ∃ z, Ok (gs W k) z
      · obtain ⟨z, hz⟩ := hex
        have A := Lib.hid (fun wx => atoiOk (gs W k) z wx (RDS.out k hlt) hz)
        have O2 := Lib.hid (show ∀ j, j < k + 1 → Ok (gs W j) (gt (zs ++ [z]) j) from fun j hj => by
          have hl := HZL.out
          by_cases e : j = k
          · subst e
            have : gt (zs ++ [z]) j = z := by simp [gt, ← hl]
            rw [this]; exact hz
          · have : gt (zs ++ [z]) j = gt zs j := by
              simp only [gt, List.getD_eq_getElem?_getD, List.getElem?_append_left (show j < zs.length by omega)]
            rw [this]; exact hO.out j (by omega))
        have Z2 := Lib.hid (show (zs ++ [z]).length = k + 1 by simp [HZL.out])
        have ZL := Lib.hid (show zs.length < 16777216 by rw [HZL.out]; omega)
        clear hz hO
        generalize gs W k = x at *
        go_wp2_with (first
          | (go_at_call 21; refine (A.out _).mono ?_; rintro e w2 ⟨rfl, hb2⟩; have B2 := Lib.hid (hB.out.trans (hb2.mono hle)); have I2 := Lib.hid (hI.out.below hb2); clear hb2)
          | (at_builtin; refine wpList_app w2 rfl _ _ rfl w1.heap.size _ zs rfl I2.out z rfl ZL.out B2.out.size rfl ?_; intro v' w3 hI3 hb3 hg3; have I3 := Lib.hid hI3; have B3 := Lib.hid (B2.out.trans hb3); clear hI3 hb3 hg3))
        go_roundw
        case rel => exact ⟨k + 1, zs ++ [z], by omega, Z2.out, by go_num, I3, O2, B3⟩
        case measure => (simp [intOf]; try omega)
      · have hno : ∀ z, ¬ Ok (gs W k) z := fun z h => hex ⟨z, h⟩
        have A := Lib.hid (fun wx h => atoiNo (gs W k) wx (RDS.out k hlt) h hno)
        have T := Lib.hid (NO.out k hlt hno)
        have L := Lib.hid (pL_no T.out)
        clear hex hno
        generalize gs W k = x at *
        go_wp2_with (go_at_call 21; refine (A.out _ L2.out).mono ?_; rintro e w2 ⟨z, t, ad, rfl, hb2⟩; have B2 := Lib.hid (hB.out.trans (hb2.mono hle)); clear hb2)
        go_ret2
        exact ⟨_, by rw [T.out]; rfl, by rw [L.out]; exact World.ownsRow_nil _ _ _ _, HB1.out.trans (B2.out.mono HB1.out.size)⟩
    · obtain rfl : k = n := by omega
      have hlen : zs.length ≤ 1048576 := by
        have := ok_len HW.out (fun j hj => ⟨_, hO.out j (by have := HN.out; omega)⟩)
        have := HN.out
        have := HZL.out
        omega
      have SAME := Lib.hid (show isTx s = true → zs = out s from fun h => by
        have h1 := ok_out h HW.out
        exact ok_same (by have := HN.out; have := HZL.out; omega) h1.1 (fun j hj => hO.out j (by have := HN.out; omega)) h1.2)
      have L2 := Lib.hid (L1.out.below hB.out)
      have IT := Lib.hid (fun v (h : Rd wr v zs) => implText v zs wr h hlen L2.out.1)
      clear hlen hO
      cases hp : arePl zs
      · have TV := Lib.hid (txtV_no hp)
        rw [TV.out] at IT
        have T := Lib.hid (show isTx s = false by
          cases ht : isTx s
          · rfl
          · have e := SAME.out ht
            have := (isTx_in ht).2.1
            rw [← e, hp] at this
            cases this)
        have L := Lib.hid (pL_no T.out)
        clear hp
        go_wp2_with (go_at_call 7; refine (IT.out _ hI.out.rd).mono ?_; rintro e w2 ⟨rfl, hb2⟩; have B2 := Lib.hid (hB.out.trans (hb2.mono hle)); clear hb2)
        go_ret2
        exact ⟨_, by rw [T.out]; rfl, by rw [L.out]; exact World.ownsRow_nil _ _ _ _, HB1.out.trans (B2.out.mono HB1.out.size)⟩
      · have TV := Lib.hid (txtV_yes hp)
        rw [TV.out] at IT
        by_cases he : bs (txt zs) = s
        · have TT := isTx_of hp he
          have T := Lib.hid TT.1
          have L := Lib.hid (show pL s = zs by rw [pL_yes TT.1, TT.2])
          rw [he] at IT
          clear hp he TT TV
          go_wp2_with (go_at_call 7; refine (IT.out _ hI.out.rd).mono ?_; rintro e w2 ⟨rfl, hb2⟩; have B2 := Lib.hid (hB.out.trans (hb2.mono hle)); have I2 := Lib.hid (hI.out.below hb2); clear hb2)
          go_ret2
          exact ⟨_, by rw [T.out]; rfl, by rw [L.out]; exact ints_mono' I2.out HB1.out.size, HB1.out.trans (B2.out.mono HB1.out.size)⟩
        · have T := Lib.hid (show isTx s = false by
            cases ht : isTx s
            · rfl
            · have e := SAME.out ht
              have := (isTx_in ht).2.2
              rw [← e] at this
              exact absurd this he)
          have L := Lib.hid (pL_no T.out)
          have hnw := neq_walk he
          clear hp he TV
          generalize bs (txt zs) = t at *
          go_wp2_with (go_at_call 7; refine (IT.out _ hI.out.rd).mono ?_; rintro e w2 ⟨rfl, hb2⟩; have B2 := Lib.hid (hB.out.trans (hb2.mono hle)); clear hb2)
          go_ret2
          exact ⟨_, by rw [T.out]; rfl, by rw [L.out]; exact World.ownsRow_nil _ _ _ _, HB1.out.trans (B2.out.mono HB1.out.size)⟩
end Go.Proofs.YteoggpollgkfiabDoor
