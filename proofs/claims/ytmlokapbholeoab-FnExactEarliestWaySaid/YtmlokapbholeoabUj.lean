/- EarliestWay, impl's side. -/
import Derived.Test.YtmlokapbholeoabUi
import Derived.Test.YtmlokapbholeoabUg
import Derived.Deep.RegionHeld3
namespace Go.Proofs.Ytmlokapbholeoab
set_option linter.unusedVariables false
open Go.RowKit

theorem row_neB {w : World} {B B' n : Nat} {v u : Value} {us : List Value} {zs : List Bool} (h : w.ownsRow B 43 1 v n us) (hI : Bools w B' u zs) : u.ownBlock = none ∨ u.ownBlock ≠ v.ownBlock := by
  rcases hI.2 with ⟨rfl, _⟩ | ⟨g', cap', cur', rfl, hb', hg', _⟩
  · exact .inl rfl
  right
  rcases h.2 with ⟨rfl, _⟩ | ⟨g, cap, cur, rfl, hb, hg, _⟩
  · intro e; cases e
  intro e
  have e2 : g' = g := by simpa [Value.ownBlock] using e
  subst e2
  rw [hg] at hg'
  injection hg' with hg'
  injection hg' with _ h5
  exact absurd h5 (by decide)
/-- a row is put in in front of those that are told -/
theorem Tab.put {w : World} {B g n cap fr j c : Nat} {F : Nat → Nat → Bool} (h : Tab w B (.slice (some ⟨g, 0, none⟩) n cap) n fr (j + 1) F) (hj : j < n) (hu : Bools w B (rowV fr c) (fl (fr + 1) (F j))) :
    Tab (w.setCell ⟨g, j, none⟩ (rowV fr c)) B (.slice (some ⟨g, 0, none⟩) n cap) n fr j F ∧ w.grownBy (w.setCell ⟨g, j, none⟩ (rowV fr c)) (some g) := by
  obtain ⟨us, h1, h2, h3⟩ := h
  have S := World.ownsRow.stored h1 j (rowV fr c)
  refine ⟨⟨us.set j (rowV fr c), S.1, fun u hu => ?_, fun i hi1 hi2 => ?_⟩, S.2⟩
  · rcases List.mem_or_eq_of_mem_set hu with hu | rfl
    · exact h2 u hu
    · rfl
  · have hl : us.length = n := by have := h1.1; omega
    by_cases e : i = j
    · subst e
      exact ⟨c, by rw [List.getElem?_set_self (by omega)], hu.kept S.2 (row_neB h1 hu)⟩
    · obtain ⟨c2, e2, hI⟩ := h3 i (by omega) hi2
      exact ⟨c2, by rw [List.getElem?_set_ne (by omega)]; exact e2, hI.kept S.2 (row_neB h1 hI)⟩
theorem Tab.cellG {w : World} {B g n cap fr lo : Nat} {F : Nat → Nat → Bool} (h : Tab w B (.slice (some ⟨g, 0, none⟩) n cap) n fr lo F) {j : Nat} (hj : j < n) : ∃ u, w.cell? ⟨g, j, none⟩ = some u ∧ w.frozen? ⟨g, j, none⟩ = false := by
  obtain ⟨us, h1, _⟩ := h
  have hl : us.length = n := by have := h1.1; omega
  exact ⟨us[j]'(by omega), by rw [World.ownsRow.cellAt h1 j (by omega)]; exact List.getElem?_eq_getElem _, World.ownsRow.frozenAt h1 j⟩
theorem Tab.cellKeep {w : World} {B g n cap fr lo : Nat} {F : Nat → Nat → Bool} (h : Tab w B (.slice (some ⟨g, 0, none⟩) n cap) n fr lo F) (j : Nat) {i : Nat} (hi : i < n) (hne : i ≠ j) (u : Value) : (w.setCell ⟨g, j, none⟩ u).cell? ⟨g, i, none⟩ = w.cell? ⟨g, i, none⟩ := by
  obtain ⟨us, h1, _⟩ := h
  have S := World.ownsRow.stored h1 j u
  rw [World.ownsRow.cellAt S.1 i (by omega), World.ownsRow.cellAt h1 i (by omega), List.getElem?_set_ne (by omega)]
theorem wpList_mkT {ops : Array Oper} {rest : List Oper} {o : Oper} {a : Act} {Q : Exit → Act → World → Prop} {w0 : World} (hgd : o.guard = none) (l c : Operand)
    (ho : o.op = Op.makeSlice 41 l c) (B n fr : Nat) (F : Nat → Nat → Bool) (N : Int) (hl : a.eval l = .int .i64 N) (hc : a.eval c = .int .i64 N) (hN : N = (n : Int)) (hn : n ≤ 100000) (hB : B ≤ w0.heap.size)
    (h : ∀ w', Tab w' B (.slice (some ⟨w0.heap.size, 0, none⟩) n n) n fr n F → Below B w0 w' → wpList Try.prog ops Q rest (a.put o.dst (.slice (some ⟨w0.heap.size, 0, none⟩) n n)) w') :
    wpList Try.prog ops Q (o :: rest) a w0 := by
  obtain ⟨i0, hi, hz0, hz1, hz2⟩ := info_parts Try.infoRowB
  refine wpList_make_full w0 hgd l c 41 ho B 43 i0 (.slice none 0 0) 1 Try.underlying41 hi hz0 hz1 .i64 .i64 N N n hl hc hN hN (by rw [hz2]; omega) (by unfold maxLen; omega) hB ?_
  intro w' h1 h2
  refine h w' ?_ ((Below.refl _ _).grown h2 hB (by intro k hk; cases hk))
  refine ⟨_, h1, fun u hu => ?_, fun j h3 h4 => by omega⟩
  have e : (madeCells (Value.slice none 0 0).cells (n * 1)).toList = List.replicate n (Value.slice none 0 0) := by
    rw [Nat.mul_one]; exact toList_madeCells_one _ _
  rw [e] at hu
  rw [List.eq_of_mem_replicate hu]; rfl
set_option maxHeartbeats 1000000 in
theorem indexF (b lo n cap r : Nat) (f : Nat → Bool) (w : World) (hn : n ≤ 1000) (hlo : lo ≤ 1000) (hr : r < n) (hf : f (lo + r) = true) (hno : ∀ i, i < r → f (lo + i) = false) (hc : ∀ j, j < n → w.cell? ⟨b, lo + j, none⟩ = some (.bool (f (lo + j)))) :
    Calls Try.prog 36 #[.slice (some ⟨b, lo, none⟩) n cap, .bool true] w fun e w' => e = .returned (.int .i64 (r : Int)) ∧ w = w' := by
  have HC := Lib.hid hc
  have HF := Lib.hid hf
  have HN := Lib.hid hno
  clear hc hf hno
  go_enter Try.func36, Try.ntmps36
  go_wp2
  go_loopw [8] (fun i wr => ∃ k : Nat, k ≤ r ∧ i = .int .i64 k ∧ w = wr) (fun i _ => n - (intOf i).toNat)
  case atStart => exact ⟨0, Nat.zero_le _, rfl, rfl⟩
  case round =>
    obtain ⟨k, hk, rfl, rfl⟩ := hrel
    have hlt : k < n := by omega
    have hlt' : (k : Int) < n := by omega
    have hki : (0 : Int) ≤ k := by omega
    have ck := HC.out k hlt
    by_cases hkr : k < r
    · rw [HN.out k hkr] at ck
      go_wp2
      go_roundw
      case rel => exact ⟨k + 1, by omega, by go_num, by first | rfl | trivial⟩
      case measure => (simp [intOf]; try omega)
    · obtain rfl : k = r := by omega
      rw [HF.out] at ck
      go_wp2
      go_ret
      exact ⟨rfl, rfl⟩
set_option maxHeartbeats 4000000 in
theorem implEw (h t : ByteArray) (L X : Int) (w : World) (hs : h.size ≤ 1048576 ∧ t.size ≤ 1048576) :
    Calls Try.prog 18 #[.string h, .string t, .int .i64 L, .int .i64 X] w fun e w' => ∃ v, e = .returned (.tuple #[v, .bool (ewB h t L X)]) ∧ Ints w' w.heap.size v (ewL h t L X) ∧ Below w.heap.size w w' := by
  have EA := fun wx => implEa h t L X wx hs
  cases hb : ewB h t L X
  · rw [ew_no hb]
    rw [eaV_no (fun c => by simp [ewB, c.1, c.2] at hb)] at EA
    have HA := Lib.hid EA
    clear EA hb
    refine Calls.intsNoU ?_
    go_enter Try.func18, Try.ntmps18
    go_wp2_with (go_at_call 16; refine (HA.out _).mono ?_; rintro e w1 ⟨rfl, hb1⟩)
    go_ret2
    exact ⟨rfl, hb1⟩
  · obtain ⟨ha, hz⟩ : askd h t L X = true ∧ 0 ≤ arV h t L.toNat X.toNat (h.size + 1) := by simpa [ewB] using hb
    obtain ⟨hl, x0, x1⟩ := askd_in ha
    obtain ⟨hg, l0, l1⟩ := lpd_in hl
    obtain ⟨s, rfl⟩ : ∃ s : Nat, X = s := ⟨X.toNat, by omega⟩
    obtain ⟨l, rfl⟩ : ∃ l : Nat, L = l := ⟨L.toNat, by omega⟩
    simp only [Int.toNat_natCast] at hz
    obtain ⟨e, he⟩ : ∃ e : Nat, arV h t l s (h.size + 1) = e := ⟨(arV h t l s (h.size + 1)).toNat, by omega⟩
    obtain ⟨hse, he2, e1, e2, e3⟩ := ew_yes ha he
    rw [e2]
    obtain ⟨N, hN⟩ : ∃ N, N = e - s := ⟨_, rfl⟩
    rw [← hN] at e3 ⊢
    have hN1 : 1 ≤ N := by
      by_cases c : N = 0
      · exfalso
        have := e3
        rw [c] at this
        simp [bk] at this
      · omega
    have EY : eaV h t (l : Int) (s : Int) = .tuple #[.int .i64 (e : Int), .bool true] := by
      rw [eaV_yes ⟨ha, by simpa using hz⟩]; simp only [Int.toNat_natCast, he]
    rw [EY] at EA
    have HA := Lib.hid EA
    obtain ⟨M, rfl⟩ : ∃ M, N = M + 1 := ⟨N - 1, by omega⟩
    have WY := Lib.hid (fun i (hi : i < M + 1) => (wy_ok e3 i (by omega)).2.2 hi)
    have WB := Lib.hid (fun i (hi : i ≤ M + 1) => (wy_ok e3 i hi).2.1)
    obtain ⟨⟨z1, z2, _⟩, _⟩ := good_in hg
    obtain ⟨fr, hfr⟩ : ∃ fr, fr = h.size + 1 := ⟨_, rfl⟩
    have hf1 : 2 ≤ fr ∧ fr ≤ 15 := by omega
    have HFR := Lib.hid hfr
    have GO := Lib.hid (fun wx => goals h t fr wx hg hfr)
    have LT := Lib.hid (fun f x b wx (hx : x ≤ 1000000) => leadsTo h t f l x b fr wx hg hfr (by omega) hx)
    unfold cst at GO LT
    have hes : (e : Int) - (s : Int) = (M : Int) + 1 := by omega
    have hM : M ≤ 2000 := by omega
    have HE := Lib.hid (show s + (M + 1) = e by omega)
    clear EA EY e1 e2 e3 hz he ha hg hl hN hfr hb hN1
    go_enter Try.func18, Try.ntmps18
    go_wp2_with fail
    refine (HA.out _).mono ?_
    rintro r w1 ⟨rfl, hb1⟩
    have X0 := Lib.hid (Blk.new w1 #[.string h, .string t] 37)
    have B0 := Lib.hid ((Below.refl w1.heap.size w1).alloc (Nat.le_refl _) (.cells #[.string h, .string t] 37))
    have B1 := Lib.hid hb1
    have s1 := hb1.size
    clear hb1
    have HSZ := Lib.hid (show (w1.alloc (.cells #[.string h, .string t] 37)).heap.size = w1.heap.size + 1 by simp)
    go_upto_region 6 with (at_make; refine wpList_mkT rfl _ _ rfl (w1.alloc (.cells #[.string h, .string t] 37)).heap.size (M + 2) fr (fun j => bk h t l e (M + 1 - j)) _ rfl rfl (by first | omega | (push_cast; omega)) (by omega) (Nat.le_refl _) ?_; intro w2 T2 hb2)
    rw [HSZ.out] at T2 hb2
    have TT := Lib.hid T2
    have X2 := Lib.hid (X0.out.below hb2 (by omega))
    obtain ⟨d0, d1, dl⟩ := X2.out.two
    have B2 := Lib.hid (B0.out.trans (hb2.mono (by omega)))
    have hw2 : w1.heap.size + 1 ≤ w2.heap.size := by
      have := hb2.size
      rw [HSZ.out] at this; omega
    clear T2 hb2
    go_wp2_with fail
    refine (GO.out _).mono ?_
    rintro r w3 ⟨c, rfl, hI, hb3⟩
    obtain ⟨g, hgd⟩ : ∃ g, g = w1.heap.size + 1 := ⟨_, rfl⟩
    have HGD := Lib.hid hgd
    rw [← hgd] at TT hw2 ⊢
    have T3 := TT.out.below hb3
    have X3 := Lib.hid (X2.out.below hb3 dl)
    have B3 := B2.out.trans (hb3.mono (by omega))
    obtain ⟨cu, cv, cw⟩ := T3.cellG (j := M + 1) (by omega)
    have hI2 : Bools w3 g (rowV fr c) (fl (fr + 1) (bk h t l e (M + 1 - (M + 1)))) := by
      rw [Nat.sub_self, fl_ext (g := fun p => p == fr) fun j _ => by rw [HFR.out]; rfl]
      exact bools_mono hI hw2
    have P := T3.put (j := M + 1) (by omega) hI2
    have hg3 : w1.heap.size < g ∧ w1.heap.size ≤ w3.heap.size := by have := hb3.size; omega
    have T4 := Lib.hid P.1
    have X4 := Lib.hid (X3.out.kept P.2 (by simp; omega))
    have B4 := Lib.hid (B3.grown P.2 (by omega) (by intro j hj; cases hj; omega))
    unfold rowV at T4 X4 B4
    have i1 : (0 : Int) ≤ (M : Int) + 1 := by omega
    have i2 : (M : Int) + 1 < (M : Int) + 2 := by omega
    have i3 : ((M : Int) + 1).toNat = M + 1 := by omega
    have i4 : M + 1 < M + 2 := by omega
    clear P T3 hI hI2 hb3 d0 d1 dl TT X2 X3 B2 B3 hgd HSZ X0 B0
    go_wp2
    clear i1 i2 i3 i4 cu cv cw hw2
    go_loopw [14] (fun q wr => ∃ j : Nat, j ≤ M ∧ q = .int .i64 (j : Int) ∧ Hid (Tab wr g (.slice (some ⟨g, 0, none⟩) (M + 2) (M + 2)) (M + 2) fr (j + 1) (fun j => bk h t l e (M + 1 - j))) ∧ Hid (Blk wr w1.heap.size #[.string h, .string t]) ∧ Hid (Below w1.heap.size w1 wr)) (fun q _ => (intOf q).toNat)
    case atStart => exact ⟨M, Nat.le_refl _, rfl, T4, X4, B4⟩
    case round =>
      clear T4 X4 B4
      obtain ⟨j, hj, rfl, T, XB, HB⟩ := hrel
      by_cases hj0 : 0 < j
      · obtain ⟨c, cr, cf, hcw, hgw⟩ := T.out.row (j := j + 1) (by omega) (by omega)
        obtain ⟨d0, d1, dl⟩ := XB.out.two
        have ex : ((s + j : Nat) : Int) = (s : Int) + (j : Int) := by push_cast; rfl
        have LK0 := fun W (hW : Below wr.heap.size wr W) => LT.out (bk h t l e (M + 1 - (j + 1))) (s + j) c W (by omega) (Nat.lt_of_lt_of_le hcw hW.size) (fun j hj => (hW.cell (p := ⟨c, j, none⟩) hcw).trans (cf j hj))
        rw [ex] at LK0
        have LK := Lib.hid LK0
        have EB := Lib.hid (show fl (fr + 1) (stF h t (bk h t l e (M + 1 - (j + 1))) l (s + j)) = fl (fr + 1) (bk h t l e (M + 1 - j)) from fl_ext fun p _ => by
          rw [show M + 1 - j = M + 1 - (j + 1) + 1 by omega, bk_row (x := s + j) (by have := HE.out; omega)])
        have i0 : (0 : Int) < (j : Int) := by omega
        have i1 : (0 : Int) ≤ (j : Int) := by omega
        have i2 : (j : Int) < (M : Int) + 2 := by omega
        have i4 : j < M + 2 := by omega
        have i5 : (0 : Int) ≤ (j : Int) + 1 := by omega
        have i6 : (j : Int) + 1 < (M : Int) + 2 := by omega
        have i7 : ((j : Int) + 1).toNat = j + 1 := by omega
        have i8 : j + 1 < M + 2 := by omega
        have i9 : j < M + 1 := by omega
        unfold rowV at cr
        clear ex LK0 cf
        go_wp2_with fail
        have T0 := T.out
        have X0 := XB.out
        have B0 := HB.out
        have hgz := HB.out.size
        have ST := Lib.hid (fun W (hW : Below wr.heap.size wr W) c' (hI : Bools W wr.heap.size (.slice (some ⟨c', 0, none⟩) (fr + 1) (fr + 1)) (fl (fr + 1) (stF h t (bk h t l e (M + 1 - (j + 1))) l (s + j)))) => by
          have T1 := T0.below hW
          have P := T1.put (j := j) (c := c') (by omega) (by rw [EB.out] at hI; exact bools_mono hI (by omega))
          exact (show (∃ u, W.cell? ⟨g, j, none⟩ = some u ∧ W.frozen? ⟨g, j, none⟩ = false) ∧ Tab (W.setCell ⟨g, j, none⟩ (.slice (some ⟨c', 0, none⟩) (fr + 1) (fr + 1))) g (.slice (some ⟨g, 0, none⟩) (M + 2) (M + 2)) (M + 2) fr j (fun j => bk h t l e (M + 1 - j)) ∧ Blk (W.setCell ⟨g, j, none⟩ (.slice (some ⟨c', 0, none⟩) (fr + 1) (fr + 1))) w1.heap.size #[.string h, .string t] ∧ Below w1.heap.size w1 (W.setCell ⟨g, j, none⟩ (.slice (some ⟨c', 0, none⟩) (fr + 1) (fr + 1))) ∧ (W.setCell ⟨g, j, none⟩ (.slice (some ⟨c', 0, none⟩) (fr + 1) (fr + 1))).cell? ⟨g, j + 1, none⟩ = W.cell? ⟨g, j + 1, none⟩ from
            ⟨T1.cellG (by omega), P.1, (X0.below hW dl).kept P.2 (by simp; omega), (B0.trans (hW.mono hgz)).grown P.2 (by have := hW.size; omega) (by intro j hj; cases hj; omega), T1.cellKeep j (by omega) (by omega) _⟩))
        clear T0 X0 B0 EB
        have KP := Lib.hid (fun W (hW : Below wr.heap.size wr W) => (show W.cell? ⟨w1.heap.size, 0, none⟩ = some (.string h) ∧ W.cell? ⟨w1.heap.size, 1, none⟩ = some (.string t) ∧ W.cell? ⟨g, j + 1, none⟩ = some (.slice (some ⟨c, 0, none⟩) (fr + 1) (fr + 1)) from ⟨(hW.cell (p := ⟨w1.heap.size, 0, none⟩) dl).trans d0, (hW.cell (p := ⟨w1.heap.size, 1, none⟩) dl).trans d1, (hW.cell (p := ⟨g, j + 1, none⟩) hgw).trans cr⟩))
        have k1 : IntKind.i64.wrap ((j : Int) + 1) = (j : Int) + 1 := IntWalk.i64_in _ (by omega)
        have k3 : IntKind.i64.wrap ((s : Int) + (j : Int)) = (s : Int) + (j : Int) := IntWalk.i64_in _ (by omega)
        clear cr d0 d1
        obtain ⟨d0, d1, cr⟩ := KP.out wr (Below.refl _ _)
        go_region_held3 (fun W => W.cell? ⟨w1.heap.size, 0, none⟩ = some (.string h) ∧ W.cell? ⟨w1.heap.size, 1, none⟩ = some (.string t) ∧ W.cell? ⟨g, j + 1, none⟩ = some (.slice (some ⟨c, 0, none⟩) (fr + 1) (fr + 1))) (first | exact KP.out _ D4.out | exact ⟨HX4.out.two.1, HX4.out.two.2.1, HC4.out⟩ | exact KP.out _ (by (repeat (first | exact Below.refl _ _ | (refine Below.alloc ?_ (by first | omega | (simp; try omega)) _) | apply Below.drew | apply below_drewN)))) (first | (go_at_call 35; refine (LK.out _ (by (repeat (first | exact Below.refl _ _ | (refine Below.alloc ?_ (by first | omega | (simp; try omega)) _) | apply Below.drew | apply below_drewN)))).mono ?_; rintro r w4 ⟨c', rfl, hI4, hb4⟩; have D4 := Lib.hid (Below.trans (by (repeat (first | exact Below.refl _ _ | (refine Below.alloc ?_ (by first | omega | (simp; try omega)) _) | apply Below.drew | apply below_drewN))) (hb4.mono (by simp; try omega)) : Below wr.heap.size wr w4); obtain ⟨⟨cu, cv, cw⟩, T4, X4, B4, C4⟩ := ST.out w4 D4.out c' (bools_mono hI4 (by simp; try omega)); have HC4 := Lib.hid (C4.trans (KP.out _ D4.out).2.2); have HT4 := Lib.hid T4; have HX4 := Lib.hid X4; have HB4 := Lib.hid B4; clear T4 X4 B4 C4 hI4 hb4))
        all_goals
          go_wp2
          go_roundw
          case rel => exact ⟨j - 1, by omega, by rw [show ((j - 1 : Nat) : Int) = (j : Int) - 1 by omega], by rw [show j - 1 + 1 = j by omega]; exact HT4, HX4, HB4⟩
          case measure => (simp [intOf]; try omega)
      · obtain rfl : j = 0 := by omega
        have hj1 : ¬ (0 : Int) < ((0 : Nat) : Int) := by omega
        obtain ⟨b, hb⟩ : ∃ b, b = wr.heap.size := ⟨_, rfl⟩
        have RW := Lib.hid (show ∀ j, j < M + 1 → ∃ c, wr.cell? ⟨g, j + 1, none⟩ = some (rowV fr c) ∧ (∀ p, p < fr + 1 → wr.cell? ⟨c, p, none⟩ = some (.bool (bk h t l e (M + 1 - (j + 1)) p))) ∧ c < b ∧ g < b from by
          rw [hb]; exact fun j hj => T.out.row (j := j + 1) (by omega) (by omega))
        have I0 : Ints (wr.alloc (.cells #[.int .i64 0] 3)) wr.heap.size (.slice (some ⟨wr.heap.size, 0, none⟩) 1 1) (fl 1 (fun i => (wy h t l e (M + 1) i : Int))) := row_lit (Nat.le_refl _)
        have HI0 := Lib.hid I0
        have BB0 := Lib.hid ((Below.refl wr.heap.size wr).alloc (Nat.le_refl _) (.cells #[.int .i64 0] 3))
        have hcap1 : ¬ (M + 2 = 1) := by omega
        have hnp : 0 < M + 2 := by omega
        have hnp2 : (1 : Int) ≤ ((M + 2 : Nat) : Int) := by omega
        have hgz := HB.out.size
        have HBB := Lib.hid hb
        clear I0 hb
        go_wp2
        obtain ⟨wo, rfl⟩ : ∃ wo : World, wo = wr := ⟨_, rfl⟩
        go_loopw [15, 16, 70] (fun v p q wr => ∃ k : Nat, k ≤ M + 1 ∧ q = .int .i64 k ∧ p = .int .i64 (wy h t l e (M + 1) k : Int) ∧ Hid (Ints wr wo.heap.size v (fl (k + 1) (fun i => (wy h t l e (M + 1) i : Int)))) ∧ Hid (Below wo.heap.size wo wr)) (fun _ _ q _ => M + 1 - (intOf q).toNat)
        case atStart => exact ⟨0, Nat.zero_le _, rfl, rfl, HI0, BB0⟩
        case round =>
          clear HI0 BB0
          obtain ⟨k, hk, rfl, rfl, HI, HW⟩ := hrel
          by_cases hlt : k < M + 1
          · have hlt' : (k : Int) < (M : Int) + 1 := by omega
            have hk0 : (0 : Int) ≤ k := by omega
            obtain ⟨r, q1, q2, q3, q4⟩ := WY.out k hlt
            obtain ⟨c, cr, cf, hcw, hgw⟩ := RW.out k hlt
            have hpb := WB.out k hk
            rw [HBB.out] at hcw hgw
            have ck : wr.cell? ⟨g, 1 + k, none⟩ = some (.slice (some ⟨c, 0, none⟩) (fr + 1) (fr + 1)) := (HW.out.cell (p := ⟨g, 1 + k, none⟩) hgw).trans (by rw [Nat.add_comm 1 k]; exact cr)
            have CF := Lib.hid (fun p hp => (HW.out.cell (p := ⟨c, p, none⟩) hcw).trans (cf p hp))
            have WN := Lib.hid (show (wy h t l e (M + 1) (k + 1) : Int) = ((wy h t l e (M + 1) k - l : Nat) : Int) + r by rw [q1]; push_cast; rfl)
            clear cr cf q1
            generalize bk h t l e (M + 1 - (k + 1)) = f at *
            obtain ⟨p, hp⟩ : ∃ p, p = wy h t l e (M + 1) k := ⟨_, rfl⟩
            simp only [← hp] at q2 q3 q4 hpb WN ⊢
            obtain ⟨lo, hlo⟩ : ∃ lo, lo = p - l := ⟨_, rfl⟩
            have hmax : max (0 : Int) ((p : Int) - l) = (lo : Int) := by omega
            have HIF := Lib.hid (show (if l < p then (p : Int) - l else 0) = (lo : Int) by split <;> omega)
            simp only [← hlo] at q2 q3 q4 WN
            have q5 : lo + r ≤ fr := by have := HFR.out; omega
            have q6 : lo ≤ p := by omega
            have q7 : p ≤ fr := by have := HFR.out; omega
            have IX := Lib.hid (indexF c lo (fr + 1 - lo) (fr + 1 - lo) r f wr (by omega) (by omega) (by omega) q2 q3 (fun j hj => CF.out (lo + j) (by omega)))
            have m1 : lo ≤ fr + 1 := by omega
            have m2 : (lo : Int) ≤ (fr : Int) + 1 := by omega
            have m3 : (0 : Int) ≤ lo := by omega
            have m4 : ¬ fr + 1 = lo := by omega
            have m5 : ¬ fr + 1 - lo = 0 := by omega
            have m6 : lo < fr + 1 := by omega
            have hlen : (fl (k + 1) (fun i => (wy h t l e (M + 1) i : Int))).length = k + 1 := fl_len _ _
            have hlen2 : (fl (k + 1) (fun i => (wy h t l e (M + 1) i : Int))).length < 16777216 := by omega
            have FS := Lib.hid (fl_succ (k + 1) (fun i => (wy h t l e (M + 1) i : Int)))
            have hwz := HW.out.size
            clear hp hlo q2 q3 q4 CF hlen
            go_upto_region 17 with fail
            rw [HIF.out]
            clear hmax ck hes
            go_wp2_with (first
              | (go_at_call 36; refine IX.out.mono ?_; rintro z w' ⟨rfl, rfl⟩)
              | (at_builtin; refine wpList_app wr rfl _ _ rfl wo.heap.size _ (fl (k + 1) (fun i => (wy h t l e (M + 1) i : Int))) rfl HI.out ((lo : Int) + r) rfl hlen2 hwz rfl ?_; intro v' w3 hI3 hb3 hg3))
            go_roundw
            case rel => exact ⟨k + 1, by omega, by go_num, by rw [WN.out], Lib.hid (by rw [FS.out, WN.out]; exact hI3), Lib.hid (HW.out.trans hb3)⟩
            case measure => (simp [intOf]; try omega)
          · obtain rfl : k = M + 1 := by omega
            have hlt' : ¬ (((M + 1 : Nat) : Int) < (M : Int) + 1) := by omega
            have HI2 := Lib.hid HI.out
            clear HI
            go_wp2
            go_ret2
            exact ⟨_, rfl, ints_mono' HI2.out (by omega), B1.out.trans (HB.out.trans (HW.out.mono hgz) |>.mono s1)⟩
end Go.Proofs.Ytmlokapbholeoab
