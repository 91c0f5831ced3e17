/- strings.Cut, strconv.Atoi; impl.ParseCorner. -/
import Derived.Test.YtfkdkhoihlkgcacDoorPcs
namespace Go.Proofs.YtfkdkhoihlkgcacDoor
set_option linter.unusedVariables false
open Go.RowKit

/-- what the walk asks of the package's variables -/
def Lb (w : World) : Prop := Pow w ∧ (0 < w.heap.size ∧ ∃ m, w.cell? ⟨0, 0, none⟩ = some (.int .i64 m)) ∧ (1 < w.heap.size ∧ ∃ tp p, w.var? Tryd.prog "strconv.ErrSyntax" = some #[.iface tp p]) ∧ 2 < w.heap.size ∧ ∃ tp p, w.var? Tryd.prog "strconv.ErrRange" = some #[.iface tp p]
theorem Tryd.gSyn : Tryd.prog.globalNamed "strconv.ErrSyntax" = some 1 := by kernel_rfl
theorem Tryd.gRan : Tryd.prog.globalNamed "strconv.ErrRange" = some 2 := by kernel_rfl
theorem Lb.below {w w' : World} (h : Lb w) (hb : Below w.heap.size w w') : Lb w' := by
  obtain ⟨h1, ⟨h2, m, h3⟩, ⟨h4, t4, p4, h5⟩, h6, t5, p5, h7⟩ := h
  have hs := hb.size
  exact ⟨h1.below hb, ⟨by omega, m, (hb.cell (p := ⟨0, 0, none⟩) h2).trans h3⟩, ⟨by omega, t4, p4, varBelow hb Tryd.gSyn h4 h5⟩, by omega, t5, p5, varBelow hb Tryd.gRan h6 h7⟩
/-- how strconv.Atoi ends -/
def Ok (x : ByteArray) (z : Int) : Prop := Lib.atoiAll x.data.toList = .ok z
theorem atoiOk (x : ByteArray) (z : Int) (w : World) (hs : x.size ≤ 1048576) (h : Ok x z) :
    Calls Tryd.prog 23 #[.string x] w fun e w' => e = .returned (.tuple #[.int .i64 z, .nilIface]) ∧ Below w.heap.size w w' := by
  refine (Tryd.strconv_Atoi_ok x (by omega) z h w).mono ?_
  rintro e w' ⟨rfl, rfl | ⟨t, rfl⟩⟩
  · exact ⟨rfl, Below.refl _ _⟩
  · exact ⟨rfl, Lib.bytesWorld_below _ _ _⟩
theorem atoiNo (x : ByteArray) (w : World) (hs : x.size ≤ 1048576) (hL : Lb w) (h : ∀ z, ¬ Ok x z) :
    Calls Tryd.prog 23 #[.string x] w fun e w' => ∃ z t a, e = .returned (.tuple #[.int .i64 z, .iface t (.pointer (some a))]) ∧ Below w.heap.size w w' := by
  obtain ⟨_, _, ⟨_, t4, p4, h4⟩, _, t5, p5, h5⟩ := hL
  cases hx : Lib.atoiAll x.data.toList with
  | ok z => exact absurd hx (h z)
  | «syntax» =>
    refine (Tryd.strconv_Atoi_syntax_var x (by omega) hx t4 p4 w h4).mono ?_
    rintro e w' ⟨N, rfl, _, _, hb⟩
    exact ⟨_, _, _, rfl, hb⟩
  | range =>
    refine (Tryd.strconv_Atoi_range_var x (by omega) hx t5 p5 w h5).mono ?_
    rintro e w' ⟨N, rfl, _, _, hb⟩
    exact ⟨_, _, _, rfl, hb⟩
theorem cut_le (l sep : List UInt8) : (Lib.cut l sep).1.length ≤ l.length ∧ (Lib.cut l sep).2.1.length ≤ l.length := by
  unfold Lib.cut
  split
  · exact ⟨by simp only [List.length_take]; omega, by simp only [List.length_drop]; omega⟩
  · exact ⟨Nat.le_refl _, Nat.zero_le _⟩
def cutP (s : ByteArray) : ByteArray := ⟨(Lib.cut s.data.toList [120]).1.toArray⟩
def cutQ (s : ByteArray) : ByteArray := ⟨(Lib.cut s.data.toList [120]).2.1.toArray⟩
theorem cut_sz (s : ByteArray) : (cutP s).size ≤ s.size ∧ (cutQ s).size ≤ s.size := by
  have h := cut_le s.data.toList [120]
  have z3 : s.data.toList.length = s.size := by rw [Array.length_toList]; rfl
  have z1 : (cutP s).size = (Lib.cut s.data.toList [120]).1.length := by simp [cutP, ByteArray.size]
  have z2 : (cutQ s).size = (Lib.cut s.data.toList [120]).2.1.length := by simp [cutQ, ByteArray.size]
  omega
theorem cutC (s : ByteArray) (w : World) (hs : s.size ≤ 1048576) (hL : Lb w) :
    Calls Tryd.prog 22 #[.string s, .string ⟨#[120]⟩] w fun e w' => ∃ b, e = .returned (.tuple #[.string (cutP s), .string (cutQ s), .bool b]) ∧ Below w.heap.size w w' := by
  obtain ⟨_, ⟨_, m, hm⟩, _⟩ := hL
  refine (Tryd.strings_Cut s ⟨#[120]⟩ m w (by omega) hm).mono ?_
  rintro e w' ⟨rfl, n, rfl⟩
  exact ⟨_, rfl, below_drewN (Below.refl _ _) n⟩
theorem isC_cut {s : ByteArray} (h : isC s = true) : ∃ a b : Nat, isCn (a : Int) (b : Int) = true ∧ bs (ctx (a : Int) (b : Int)) = s ∧ cpr s = ((a : Int), (b : Int)) ∧ Ok (cutP s) a ∧ Ok (cutQ s) b := by
  obtain ⟨a, b, h1, h2, h3⟩ := isC_in h
  have hin := isCn_in h1
  have hd : s.data.toList = ctx (a : Int) (b : Int) := by rw [← h2]; simp [bs]
  have hc : Lib.cut s.data.toList [120] = (Lib.decDigits a, Lib.decDigits b, true) := by
    rw [hd]; unfold ctx
    rw [Int.toNat_natCast, Int.toNat_natCast, List.append_assoc, List.singleton_append, cut_app _ _ _ (dec_not a (by decide))]
  refine ⟨a, b, h1, h2, h3, ?_, ?_⟩
  · unfold Ok cutP
    rw [hc]
    simpa using atoi_dec (n := a) (by omega)
  · unfold Ok cutQ
    rw [hc]
    simpa using atoi_dec (n := b) (by omega)
theorem Ok.eq {x : ByteArray} {y z : Int} (h : Ok x y) (h' : Ok x z) : y = z := by
  unfold Ok at h h'
  rw [h] at h'
  injection h'
theorem neqW {a b : ByteArray} (h : ¬ a = b) : (a.toList == b.toList) = false := by
  rw [ByteArray.toList_eq, ByteArray.toList_eq]
  apply Bool.eq_false_iff.2
  intro e
  exact h (ByteArray.ext (Array.toList_inj.1 (by simpa using e)))
set_option maxRecDepth 20000 in
set_option maxHeartbeats 4000000 in
theorem implPCorner (s : ByteArray) (w : World) (hs : s.size ≤ 1048576) (hL : Lb w) :
    Calls Tryd.prog 10 #[.string s] w fun e w' => e = .returned (pcV s) ∧ Below w.heap.size w w' := by
  have X1 := Lib.hid (Blk.new w #[.int .i64 0, .int .i64 0] 26)
  have D1 := Lib.hid ((Below.refl w.heap.size w).alloc (Nat.le_refl _) (.cells #[.int .i64 0, .int .i64 0] 26))
  have L0 := Lib.hid hL
  have CU := Lib.hid (fun wx h => cutC s wx hs h)
  have HC := Lib.hid (isC_cut (s := s))
  obtain ⟨zp, zq⟩ := cut_sz s
  clear hL
  generalize cutP s = P at *
  generalize cutQ s = Q at *
  go_enter Tryd.func10, Tryd.ntmps10
  go_wp2_with fail
  refine (CU.out _ (L0.out.below D1.out)).mono ?_
  rintro e w1 ⟨bb, rfl, hb1⟩
  have BX := Lib.hid (X1.out.below hb1 (by simp))
  have D2 := Lib.hid (D1.out.trans (hb1.mono (by simp)))
  have hs1 := D2.out.size
  have L1 := Lib.hid (L0.out.below D2.out)
  clear hb1 X1 D1 CU L0
  by_cases hp : ∃ z, Ok P z
  · obtain ⟨x, hx⟩ := hp
    have AP := Lib.hid (fun wx => atoiOk P x wx (by omega) hx)
    have HX := Lib.hid hx
    clear hx
    go_wp2_with fail
    refine (AP.out _).mono ?_
    rintro e w2 ⟨rfl, hb2⟩
    have BX2 := Lib.hid (BX.out.below hb2 (by have := BX.out.lt; omega))
    have D3 := Lib.hid (D2.out.trans (hb2.mono hs1))
    have hs2 := D3.out.size
    have L2 := Lib.hid (L1.out.below hb2)
    clear hb2 BX D2 L1 AP
    by_cases hq : ∃ z, Ok Q z
    · obtain ⟨y, hy⟩ := hq
      have AQ := Lib.hid (fun wx => atoiOk Q y wx (by omega) hy)
      have HY := Lib.hid hy
      clear hy
      go_wp2_with fail
      refine (AQ.out _).mono ?_
      rintro e w3 ⟨rfl, hb3⟩
      have BX3 := Lib.hid (BX2.out.below hb3 (by have := BX2.out.lt; omega))
      have D4 := Lib.hid (D3.out.trans (hb3.mono hs2))
      have hs3 := D4.out.size
      have L3 := Lib.hid (L2.out.below hb3)
      clear hb3 BX2 D3 L2 AQ
      have BN := Lib.hid (Blk.new w3 #[.int .i64 x, .int .i64 y] 26)
      have bA : Below w3.heap.size w3 (w3.alloc (.cells #[.int .i64 x, .int .i64 y] 26)) := (Below.refl _ w3).alloc (Nat.le_refl _) _
      have PW := Lib.hid (L3.out.1.below bA)
      have CT0 := fun wx h => implCText x y wx h
      have HXY := Lib.hid (fun (h : isC s = true) => (by
        obtain ⟨a, b, h1, h2, h3, h4, h5⟩ := HC.out h
        have ea := HX.out.eq h4
        have eb := HY.out.eq h5
        subst ea eb
        exact ⟨h1, h2, h3⟩ : isCn x y = true ∧ bs (ctx x y) = s ∧ cpr s = (x, y)))
      obtain ⟨c0, c1, cl⟩ := BX3.out.two
      clear HX HY HC c0 c1 cl
      cases hc : isCn x y
      · rw [ctV_no hc] at CT0
        have CT := Lib.hid CT0
        have J := Lib.hid (pcV_no (s := s) (by
          cases h : isC s
          · rfl
          · have := (HXY.out h).1
            rw [hc] at this; cases this))
        clear CT0 hc HXY
        go_wp2_with fail
        refine (CT.out _ PW.out).mono ?_
        rintro e w5 ⟨rfl, hb5⟩
        have BN5 := Lib.hid (BN.out.below hb5 BN.out.lt)
        have BX5 := Lib.hid ((BX3.out.below bA (by have := BX3.out.lt; omega)).below hb5 (by have := BX3.out.lt; simp; omega))
        have D5 := Lib.hid (D4.out.trans ((bA.trans (hb5.mono (by simp))).mono hs3))
        obtain ⟨n0, n1, n2⟩ := BN5.out.two
        obtain ⟨m0, m1, m2⟩ := BX5.out.two
        have y0 := BX5.out.fr 0
        have y1 := BX5.out.fr 1
        clear hb5 bA BN BX3 D4 CT PW L3
        go_wp2
        have tt := two_set (c := .int .i64 0) (d := .int .i64 0) BX5.out
        obtain ⟨e0, e1, _⟩ := tt.two
        refine bodyPost_ret (v := .tuple #[.agg #[.int .i64 0, .int .i64 0], .bool false]) (by simp [results, Tryd.f10, go_sem, e0, e1]) rfl ?_
        exact ⟨ret_v J.out.symm, two_below D5.out (Nat.le_refl _) _ _⟩
      · rw [ctV_yes hc] at CT0
        have CT := Lib.hid CT0
        by_cases he : bs (ctx x y) = s
        · have J := Lib.hid (show pcV s = .tuple #[.agg #[.int .i64 x, .int .i64 y], .bool true] by
            have hin := isCn_in hc
            obtain ⟨a, rfl⟩ : ∃ a : Nat, x = (a : Int) := ⟨x.toNat, by omega⟩
            obtain ⟨b, rfl⟩ : ∃ b : Nat, y = (b : Int) := ⟨y.toNat, by omega⟩
            have h2 := isC_of hc he
            rw [pcV_yes h2.1, h2.2])
          rw [he] at CT
          clear CT0 hc HXY he
          go_wp2_with fail
          refine (CT.out _ PW.out).mono ?_
          rintro e w5 ⟨rfl, hb5⟩
          have BN5 := Lib.hid (BN.out.below hb5 BN.out.lt)
          have BX5 := Lib.hid ((BX3.out.below bA (by have := BX3.out.lt; omega)).below hb5 (by have := BX3.out.lt; simp; omega))
          have D5 := Lib.hid (D4.out.trans ((bA.trans (hb5.mono (by simp))).mono hs3))
          obtain ⟨n0, n1, n2⟩ := BN5.out.two
          obtain ⟨m0, m1, m2⟩ := BX5.out.two
          have y0 := BX5.out.fr 0
          have y1 := BX5.out.fr 1
          clear hb5 bA BN BX3 D4 CT PW L3
          go_wp2
          have tt := two_set (c := .int .i64 x) (d := .int .i64 y) BX5.out
          obtain ⟨e0, e1, _⟩ := tt.two
          refine bodyPost_ret (v := .tuple #[.agg #[.int .i64 x, .int .i64 y], .bool true]) (by simp [results, Tryd.f10, go_sem, e0, e1]) rfl ?_
          exact ⟨ret_v J.out.symm, two_below D5.out (Nat.le_refl _) _ _⟩
        · have J := Lib.hid (pcV_no (s := s) (by
            cases h : isC s
            · rfl
            · exact absurd (HXY.out h).2.1 he))
          have hnw := neqW he
          clear CT0 hc HXY he
          generalize bs (ctx x y) = tx at *
          go_wp2_with fail
          refine (CT.out _ PW.out).mono ?_
          rintro e w5 ⟨rfl, hb5⟩
          have BN5 := Lib.hid (BN.out.below hb5 BN.out.lt)
          have BX5 := Lib.hid ((BX3.out.below bA (by have := BX3.out.lt; omega)).below hb5 (by have := BX3.out.lt; simp; omega))
          have D5 := Lib.hid (D4.out.trans ((bA.trans (hb5.mono (by simp))).mono hs3))
          obtain ⟨n0, n1, n2⟩ := BN5.out.two
          obtain ⟨m0, m1, m2⟩ := BX5.out.two
          have y0 := BX5.out.fr 0
          have y1 := BX5.out.fr 1
          clear hb5 bA BN BX3 D4 CT PW L3
          go_wp2
          have tt := two_set (c := .int .i64 0) (d := .int .i64 0) BX5.out
          obtain ⟨e0, e1, _⟩ := tt.two
          refine bodyPost_ret (v := .tuple #[.agg #[.int .i64 0, .int .i64 0], .bool false]) (by simp [results, Tryd.f10, go_sem, e0, e1]) rfl ?_
          exact ⟨ret_v J.out.symm, two_below D5.out (Nat.le_refl _) _ _⟩
    · have J := Lib.hid (pcV_no (s := s) (by
        cases h : isC s
        · rfl
        · obtain ⟨a, b, _, _, _, _, h5⟩ := HC.out h
          exact absurd ⟨_, h5⟩ hq))
      have AQ := Lib.hid (fun wx h => atoiNo Q wx (by omega) h (fun z hz => hq ⟨z, hz⟩))
      clear hq
      go_wp2_with fail
      refine (AQ.out _ L2.out).mono ?_
      rintro e w3 ⟨z, t, ad, rfl, hb3⟩
      have BX3 := Lib.hid (BX2.out.below hb3 (by have := BX2.out.lt; omega))
      have D4 := Lib.hid (D3.out.trans (hb3.mono hs2))
      obtain ⟨c0, c1, cl⟩ := BX3.out.two
      have f0 := BX3.out.fr 0
      have f1 := BX3.out.fr 1
      clear hb3 BX2 D3 L2 AQ
      go_wp2
      have tt := two_set (c := .int .i64 0) (d := .int .i64 0) BX3.out
      obtain ⟨e0, e1, _⟩ := tt.two
      refine bodyPost_ret (v := .tuple #[.agg #[.int .i64 0, .int .i64 0], .bool false]) (by simp [results, Tryd.f10, go_sem, e0, e1]) rfl ?_
      exact ⟨ret_v J.out.symm, two_below D4.out (Nat.le_refl _) _ _⟩
  · have J := Lib.hid (pcV_no (s := s) (by
      cases h : isC s
      · rfl
      · obtain ⟨a, b, _, _, _, h5, _⟩ := HC.out h
        exact absurd ⟨_, h5⟩ hp))
    have AP := Lib.hid (fun wx h => atoiNo P wx (by omega) h (fun z hz => hp ⟨z, hz⟩))
    clear hp
    go_wp2_with fail
    refine (AP.out _ L1.out).mono ?_
    rintro e w2 ⟨z, t, ad, rfl, hb2⟩
    have BX2 := Lib.hid (BX.out.below hb2 (by have := BX.out.lt; omega))
    have D3 := Lib.hid (D2.out.trans (hb2.mono hs1))
    obtain ⟨c0, c1, cl⟩ := BX2.out.two
    have f0 := BX2.out.fr 0
    have f1 := BX2.out.fr 1
    clear hb2 BX D2 L1 AP
    go_wp2
    have tt := two_set (c := .int .i64 0) (d := .int .i64 0) BX2.out
    obtain ⟨e0, e1, _⟩ := tt.two
    refine bodyPost_ret (v := .tuple #[.agg #[.int .i64 0, .int .i64 0], .bool false]) (by simp [results, Tryd.f10, go_sem, e0, e1]) rfl ?_
    exact ⟨ret_v J.out.symm, two_below D3.out (Nat.le_refl _) _ _⟩
end Go.Proofs.YtfkdkhoihlkgcacDoor
