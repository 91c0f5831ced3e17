/- Desks: a desk as an argument; laws.szDesk, toDesk, eqDesk; spec.IsDesk, impl.IsDesk. -/
import Derived.Test.YtcpipacombnhdaaRv
import Derived.Test.YtcpipacombnhdaaPdv
import Derived.Test.YtcpipacombnhdaaIc
import Derived.Test.YtcpipacombnhdaaIo
import Derived.Test.YtcpipacombnhdaaOa
import Derived.Lib.SmallJoins
import Derived.Deep.RegionHeld3
namespace Go.Proofs.Ytcpipacombnhdaa
set_option linter.unusedVariables false
open Go.RowKit Go.ChangeShapes Go.WideShapes Go.Deep Go.Joins

theorem array5 {α : Type} {cs : Array α} (h : cs.size = 5) : ∃ c0 c1 c2 c3 c4, cs = #[c0, c1, c2, c3, c4] := by
  obtain ⟨l⟩ := cs
  match l, h with
  | [c0, c1, c2, c3, c4], _ => exact ⟨c0, c1, c2, c3, c4, rfl⟩
set_option maxRecDepth 100000 in
theorem openDesk {H : Type} {enc : TypeId × Value → H} {W : World} {r : Reach} {b0 base : Nat} {held : Bool} {v : Value} {d : DataW H} {p : List MemPlace}
    (hv : Value.okWide Try.prog W r b0 36 v) (h : DataW.Trod enc Try.prog W base (fun _ => true) held 36 v d p) :
    ∃ (s q : ByteArray) (n : Int) (a : Option Addr) (len cap : Nat) (bs : List Br) (a2 : Option Addr) (len2 cap2 : Nat) (z : List Int), v = .agg #[.string s, .string q, .int .i64 n, .slice a len cap, .slice a2 len2 cap2] ∧ s.size ≤ maxLen ∧ q.size ≤ maxLen ∧ RdB W (.slice a len cap) bs ∧ len ≤ 9223372036854775807 ∧ IsRow .i64 W a2 len2 cap2 z := by
  obtain ⟨cs, rfl, hsz⟩ := okWide_struct Try.underlying36 hv
  have hC : Try.prog.cellsOf 36 = 5 := by kernel_rfl
  obtain ⟨c0, c1, c2, c3, c4, rfl⟩ := array5 (hsz.trans hC)
  obtain ⟨fuel, hf⟩ := h
  obtain ⟨y0, y1, y2, y3, k, hx, _, h0, h1, h2, h3⟩ := trod_struct4 Try.underlying36 hf
  have hS : Try.prog.cellsOf 9 = 1 := by kernel_rfl
  have hI : Try.prog.cellsOf 34 = 2 := by kernel_rfl
  have hL : Try.prog.cellsOf 25 = 1 := by kernel_rfl
  simp only [Value.cells, hS, hI, hL, List.drop_zero, List.drop_succ_cons, List.take_succ_cons, List.take_zero] at h0 h1 h2 h3
  obtain ⟨s, e0, hs⟩ := DataW.trod_string Try.underlying9 h0
  obtain ⟨q, e1, hq⟩ := DataW.trod_string Try.underlying9 h1
  obtain ⟨z0, z1, k2, hz, _, g0, g1⟩ := trod_struct2 Try.underlying34 h2
  simp only [intCells, List.drop_zero, List.drop_succ_cons, List.take_succ_cons, List.take_zero] at g0 g1
  obtain ⟨n, e2, _, _⟩ := DataW.trod_int Try.underlying3 g0
  obtain ⟨a, len, cap, bs, rfl, hR, hm⟩ := openBrs g1
  injection e0 with e0
  injection e1 with e1
  injection e2 with e2
  subst e0 e1 e2
  rcases open_ints Try.underlying25 Try.underlying3 (by kernel_rfl) h3 with ⟨hcs, _⟩ | ⟨x, l, c, zs, hcs, _, hl, hm2, hz, _, hcell, hwz⟩
  · injection hcs with hcs
    subst hcs
    exact ⟨s, q, n, a, len, cap, bs, none, 0, 0, [], rfl, hs.2, hq.2, hR, hm, .inl ⟨rfl, rfl, rfl, rfl⟩⟩
  · injection hcs with hcs
    subst hcs
    exact ⟨s, q, n, a, len, cap, bs, some x, l, c, zs, rfl, hs.2, hq.2, hR, hm, .inr ⟨_, rfl, hl, hm2, by simpa using hz, hcell, hwz⟩⟩
theorem szIslesG (m : Int) (n L : Nat) (a : Option Addr) (c : Nat) (w : World) (hn : n ≤ 9223372036854775807) (hL : L ≤ 1048576) :
    Calls Try.prog 20 #[.agg #[.int .i64 m, .slice a n c], .int .i64 (L : Int)] w fun e w' => e = .returned (.int .i64 (if n ≤ L then (L : Int) - n else -1)) ∧ Below w.heap.size w w' := by
  by_cases h : n ≤ L
  · rw [if_pos h]
    have h1 : ¬ (L : Int) - (n : Int) < 0 := by omega
    go_enter Try.func20, Try.ntmps20
    go_wp2
    go_ret
    refine ⟨rfl, ?_⟩
    (repeat (first | exact Below.refl _ _ | (refine Below.alloc ?_ (by first | omega | (simp; try omega)) _) | apply Below.drew | apply below_drewN))
  · rw [if_neg h]
    have h1 : (L : Int) - (n : Int) < 0 := by omega
    go_enter Try.func20, Try.ntmps20
    go_wp2
    go_ret
    refine ⟨rfl, ?_⟩
    (repeat (first | exact Below.refl _ _ | (refine Below.alloc ?_ (by first | omega | (simp; try omega)) _) | apply Below.drew | apply below_drewN))
theorem szIntG (n L : Nat) (a : Option Addr) (c : Nat) (w : World) (hn : n ≤ 9223372036854775807) (hL : L ≤ 1048576) :
    Calls Try.prog 21 #[.slice a n c, .int .i64 (L : Int)] w fun e w' => e = .returned (.int .i64 (if n ≤ L then (L : Int) - n else -1)) ∧ w = w' := by
  by_cases h : n ≤ L
  · rw [if_pos h]
    have h1 : ¬ (L : Int) - (n : Int) < 0 := by omega
    go_enter Try.func21, Try.ntmps21
    go_wp2
    go_ret
    exact ⟨rfl, rfl⟩
  · rw [if_neg h]
    have h1 : (L : Int) - (n : Int) < 0 := by omega
    go_enter Try.func21, Try.ntmps21
    go_wp2
    go_ret
    exact ⟨rfl, rfl⟩
theorem Ints.farZ {w : World} {B : Nat} {v : Value} {zs : List Int} (h : Ints w B v zs) {p : Addr} (hp : p.block < B) (u : Value) : Ints (w.setCell p u) B v zs :=
  World.ownsRow.kept h (⟨rfl, rfl, rfl, by simp, fun k _ hk => Below.heap_setCell _ _ _ k (fun e => hk (by rw [e]))⟩ : w.grownBy (w.setCell p u) (some p.block)) (by
    rcases hv : v.ownBlock with _ | k
    · exact .inl rfl
    · refine .inr (fun e => ?_)
      have := (World.ownsRow.lt h k hv).1
      injection e with e
      omega)
/-- a box of five values -/
theorem Blk.five {w : World} {g : Nat} {x y z u o : Value} (h : Blk w g #[x, y, z, u, o]) : w.cell? ⟨g, 0, none⟩ = some x ∧ w.cell? ⟨g, 1, none⟩ = some y ∧ w.cell? ⟨g, 2, none⟩ = some z ∧ w.cell? ⟨g, 3, none⟩ = some u ∧ w.cell? ⟨g, 4, none⟩ = some o ∧ g < w.heap.size := ⟨h.cell 0, h.cell 1, h.cell 2, h.cell 3, h.cell 4, h.lt⟩
theorem dk10 {W : World} {g h : Nat} {x y z u o x' y' z' u' o' : Value} (A : Blk W g #[x, y, z, u, o]) (B : Blk W h #[x', y', z', u', o']) : (W.cell? ⟨g, 0, none⟩ = some x ∧ W.cell? ⟨g, 1, none⟩ = some y ∧ W.cell? ⟨g, 2, none⟩ = some z ∧ W.cell? ⟨g, 3, none⟩ = some u ∧ W.cell? ⟨g, 4, none⟩ = some o) ∧ (W.cell? ⟨h, 0, none⟩ = some x' ∧ W.cell? ⟨h, 1, none⟩ = some y' ∧ W.cell? ⟨h, 2, none⟩ = some z' ∧ W.cell? ⟨h, 3, none⟩ = some u' ∧ W.cell? ⟨h, 4, none⟩ = some o') :=
  ⟨⟨A.cell 0, A.cell 1, A.cell 2, A.cell 3, A.cell 4⟩, B.cell 0, B.cell 1, B.cell 2, B.cell 3, B.cell 4⟩
def SzP (s q : ByteArray) (len len2 : Nat) (w : World) (e : Ending) (w' : World) : Prop := ∃ z : Int, e = .returned (.int .i64 z) ∧ (0 ≤ z → s.size ≤ 1048576 ∧ q.size ≤ 1048576 ∧ len ≤ 1048576 ∧ len2 ≤ 1048576) ∧ Below w.heap.size w w'
set_option maxHeartbeats 4000000 in
theorem szDesk (s q : ByteArray) (n : Int) (a a2 : Option Addr) (len cap len2 cap2 : Nat) (w : World) (hs : s.size ≤ 9223372036854775807) (hq : q.size ≤ 9223372036854775807) (h1 : len ≤ 9223372036854775807) (h2 : len2 ≤ 9223372036854775807) :
    Calls Try.prog 10 #[.agg #[.string s, .string q, .int .i64 n, .slice a len cap, .slice a2 len2 cap2], .int .i64 1048576] w (SzP s q len len2 w) := by
  have X0 := Lib.hid (Blk.new w #[.string s, .string q, .int .i64 n, .slice a len cap, .slice a2 len2 cap2] 36)
  have B0 := Lib.hid ((Below.refl w.heap.size w).alloc (Nat.le_refl _) (.cells #[.string s, .string q, .int .i64 n, .slice a len cap, .slice a2 len2 cap2] 36))
  by_cases k1 : s.size ≤ 1048576
  case neg =>
    have j1 : (1048576 : Int) - (s.size : Int) < 0 := by omega
    go_enter Try.func10, Try.ntmps10
    go_wp2
    go_ret
    exact ⟨-1, rfl, (fun h => absurd h (by decide)), B0.out⟩
  have j1 : ¬ (1048576 : Int) - (s.size : Int) < 0 := by omega
  by_cases k2 : q.size ≤ 1048576 - s.size
  case neg =>
    have j2 : (1048576 : Int) - (s.size : Int) - (q.size : Int) < 0 := by omega
    go_enter Try.func10, Try.ntmps10
    go_wp2
    go_ret
    exact ⟨-1, rfl, (fun h => absurd h (by decide)), B0.out⟩
  have j2 : ¬ (1048576 : Int) - (s.size : Int) - (q.size : Int) < 0 := by omega
  obtain ⟨L, hL⟩ : ∃ L, L = 1048576 - s.size - q.size := ⟨_, rfl⟩
  have e2 : (1048576 : Int) - (s.size : Int) - (q.size : Int) = (L : Int) := by omega
  have hLb : L ≤ 1048576 := by omega
  have SI := Lib.hid (fun wx => szIslesG n len L a cap wx h1 hLb)
  clear hL j2 k2
  have HK1 := Lib.hid k1
  have HQ := Lib.hid (show q.size ≤ 1048576 by omega)
  by_cases k3 : len ≤ L
  case neg =>
    rw [if_neg k3] at SI
    go_enter Try.func10, Try.ntmps10
    go_wp2_with (go_at_call 20; refine (SI.out _).mono ?_; rintro e w1 ⟨rfl, hb1⟩)
    go_ret
    exact ⟨-1, rfl, (fun h => absurd h (by decide)), B0.out.trans (hb1.mono B0.out.size)⟩
  rw [if_pos k3] at SI
  obtain ⟨L2, hL2⟩ : ∃ L2, L2 = L - len := ⟨_, rfl⟩
  have e3 : (L : Int) - (len : Int) = (L2 : Int) := by omega
  rw [e3] at SI
  have SJ := Lib.hid (fun wx => szIntG len2 L2 a2 cap2 wx h2 (by omega))
  have HL := Lib.hid (show len ≤ 1048576 by omega)
  have hL2b : L2 ≤ 1048576 := by omega
  clear hL2 e3 k3
  have l0 : ¬ (L2 : Int) < 0 := by omega
  by_cases k4 : len2 ≤ L2
  case neg =>
    rw [if_neg k4] at SJ
    go_enter Try.func10, Try.ntmps10
    go_wp2_with (first | (go_at_call 20; refine (SI.out _).mono ?_; rintro e w1 ⟨rfl, hb1⟩; have X1 := Lib.hid (X0.out.below hb1 X0.out.lt); obtain ⟨y0, y1, y2, y3, y4, yl⟩ := X1.out.five) | (go_at_call 21; refine (SJ.out _).mono ?_; rintro e w2 ⟨rfl, rfl⟩))
    go_ret
    exact ⟨-1, rfl, (fun h => absurd h (by decide)), B0.out.trans (hb1.mono B0.out.size)⟩
  rw [if_pos k4] at SJ
  obtain ⟨L3, hL3⟩ : ∃ L3, L3 = L2 - len2 := ⟨_, rfl⟩
  have e4 : (L2 : Int) - (len2 : Int) = (L3 : Int) := by omega
  rw [e4] at SJ
  have HL2 := Lib.hid (show len2 ≤ 1048576 by omega)
  clear hL3 e4 k4
  have l1 : ¬ (L3 : Int) < 0 := by omega
  go_enter Try.func10, Try.ntmps10
  go_wp2_with (first | (go_at_call 20; refine (SI.out _).mono ?_; rintro e w1 ⟨rfl, hb1⟩; have X1 := Lib.hid (X0.out.below hb1 X0.out.lt); obtain ⟨y0, y1, y2, y3, y4, yl⟩ := X1.out.five) | (go_at_call 21; refine (SJ.out _).mono ?_; rintro e w2 ⟨rfl, rfl⟩))
  go_ret
  exact ⟨_, rfl, (fun _ => ⟨HK1.out, HQ.out, HL.out, HL2.out⟩), B0.out.trans (hb1.mono B0.out.size)⟩
set_option maxHeartbeats 4000000 in
theorem toDesk (s q : ByteArray) (n : Int) (a a2 : Option Addr) (len cap len2 cap2 : Nat) (bs : List Br) (zs : List Int) (w : World) (hR : RdB w (.slice a len cap) bs) (hn : bs.length ≤ 1048576) (hZ : Rd w (.slice a2 len2 cap2) zs) (hz : zs.length ≤ 1048576) :
    Calls Try.prog 12 #[.agg #[.string s, .string q, .int .i64 n, .slice a len cap, .slice a2 len2 cap2]] w fun e w' => ∃ (u o : Value), e = .returned (.agg #[.string s, .string q, .int .i64 n, u, o]) ∧ RdB w' u bs ∧ Rd w' o zs ∧ Below w.heap.size w w' := by
  have X0 := Lib.hid (Blk.new w #[.string s, .string q, .int .i64 n, .slice a len cap, .slice a2 len2 cap2] 36)
  have B0 := Lib.hid ((Below.refl w.heap.size w).alloc (Nat.le_refl _) (.cells #[.string s, .string q, .int .i64 n, .slice a len cap, .slice a2 len2 cap2] 36))
  have TI := Lib.hid (fun wx (h : Below w.heap.size w wx) => toIsles n (.slice a len cap) bs wx (hR.below h) hn)
  have TZ := Lib.hid (fun wx (h : Below w.heap.size w wx) => toIntS (.slice a2 len2 cap2) zs wx (hZ.below h) hz)
  clear hR hn hZ hz
  have W3b : Below w.heap.size w (((w.alloc (.cells #[.string s, .string q, .int .i64 n, .slice a len cap, .slice a2 len2 cap2] 36)).alloc (.cells #[.string ⟨#[]⟩, .string ⟨#[]⟩, .int .i64 0, .slice none 0 0, .slice none 0 0] 27)).alloc (.cells #[.string s, .string q, .int .i64 0, .slice none 0 0, .slice none 0 0] 27)) := by (repeat (first | exact Below.refl _ _ | (refine Below.alloc ?_ (by first | omega | (simp; try omega)) _) | apply Below.drew | apply below_drewN))
  have XA := Lib.hid ((X0.out.alloc (.cells #[.string ⟨#[]⟩, .string ⟨#[]⟩, .int .i64 0, .slice none 0 0, .slice none 0 0] 27)).alloc (.cells #[.string s, .string q, .int .i64 0, .slice none 0 0, .slice none 0 0] 27))
  have XR := Lib.hid (((Blk.new (w.alloc (.cells #[.string s, .string q, .int .i64 n, .slice a len cap, .slice a2 len2 cap2] 36)) #[.string ⟨#[]⟩, .string ⟨#[]⟩, .int .i64 0, .slice none 0 0, .slice none 0 0] 27).alloc (.cells #[.string s, .string q, .int .i64 0, .slice none 0 0, .slice none 0 0] 27)).at_ (g' := w.heap.size + 1) (by simp))
  have XO := Lib.hid ((Blk.new ((w.alloc (.cells #[.string s, .string q, .int .i64 n, .slice a len cap, .slice a2 len2 cap2] 36)).alloc (.cells #[.string ⟨#[]⟩, .string ⟨#[]⟩, .int .i64 0, .slice none 0 0, .slice none 0 0] 27)) #[.string s, .string q, .int .i64 0, .slice none 0 0, .slice none 0 0] 27).at_ (g' := w.heap.size + 1 + 1) (by simp))
  have HB3 := Lib.hid W3b
  clear W3b X0 B0
  go_enter Try.func12, Try.ntmps12
  go_wp2_with fail
  generalize (World.alloc (World.alloc (World.alloc _ _) _) _) = W3 at *
  refine (TI.out _ HB3.out).mono ?_
  rintro e w4 ⟨u, rfl, hU, hb4⟩
  obtain ⟨ua, ul, uc, rfl⟩ := hU.form
  have U4 := Lib.hid hU
  have A4 := Lib.hid (XA.out.below hb4 XA.out.lt)
  have R4 := Lib.hid (XR.out.below hb4 XR.out.lt)
  have O4 := Lib.hid (XO.out.below hb4 XO.out.lt)
  have HB4 := Lib.hid (HB3.out.trans (hb4.mono HB3.out.size))
  have hl3 : w.heap.size + 1 + 1 < W3.heap.size := XO.out.lt
  clear hU hb4 XA XR XO HB3 TI
  obtain ⟨a0, a1, a2_, a3, a4, al⟩ := A4.out.five
  obtain ⟨o0, o1, o2, o3, o4, ol⟩ := O4.out.five
  have of2 := O4.out.fr 2
  have of3 := O4.out.fr 3
  go_wp2_with fail
  have A5 := Lib.hid ((A4.out.far (p := ⟨w.heap.size + 1 + 1, 2, none⟩) (by simp; omega) (.int .i64 n)).far (p := ⟨w.heap.size + 1 + 1, 3, none⟩) (by simp; omega) (.slice ua ul uc))
  have R5 := Lib.hid ((R4.out.far (p := ⟨w.heap.size + 1 + 1, 2, none⟩) (by simp) (.int .i64 n)).far (p := ⟨w.heap.size + 1 + 1, 3, none⟩) (by simp) (.slice ua ul uc))
  have O5 := Lib.hid ((O4.out.set 2 (.int .i64 n)).set 3 (.slice ua ul uc))
  have U5 := Lib.hid ((U4.out.far (p := ⟨w.heap.size + 1 + 1, 2, none⟩) (by show w.heap.size + 1 + 1 < _; omega) (.int .i64 n)).far (p := ⟨w.heap.size + 1 + 1, 3, none⟩) (by show w.heap.size + 1 + 1 < _; omega) (.slice ua ul uc))
  have HB5 := Lib.hid ((HB4.out.setCell (p := ⟨w.heap.size + 1 + 1, 2, none⟩) (by simp; omega) (.int .i64 n)).setCell (p := ⟨w.heap.size + 1 + 1, 3, none⟩) (by simp; omega) (.slice ua ul uc))
  generalize World.setCell (World.setCell _ _ _) _ _ = W5 at *
  clear A4 R4 O4 U4 HB4 a0 a1 a2_ a3 a4 al o0 o1 o2 o3 o4 ol of2 of3
  refine (TZ.out _ HB5.out).mono ?_
  rintro e w6 ⟨o, rfl, hO, hb6⟩
  obtain ⟨oa, on, oc, rfl, hoz⟩ := hO.rd.cells
  clear hoz
  have R6 := Lib.hid (R5.out.below hb6 R5.out.lt)
  have O6 := Lib.hid (O5.out.below hb6 O5.out.lt)
  have U6 := Lib.hid (U5.out.below hb6)
  have Z6 := Lib.hid hO
  have HB6 := Lib.hid (HB5.out.trans (hb6.mono HB5.out.size))
  have hl5 : w.heap.size + 1 + 1 < W5.heap.size := O5.out.lt
  clear hO hb6 A5 R5 O5 U5 HB5 TZ
  obtain ⟨o0, o1, o2, o3, o4, ol⟩ := O6.out.five
  obtain ⟨r0, r1, r2, r3, r4, rl⟩ := R6.out.five
  have of4 := O6.out.fr 4
  have rf0 := R6.out.fr 0
  have rf1 := R6.out.fr 1
  have rf2 := R6.out.fr 2
  have rf3 := R6.out.fr 3
  have rf4 := R6.out.fr 4
  go_wp2
  have RZ := R6.out.far (p := ⟨w.heap.size + 1 + 1, 4, none⟩) (by simp) (.slice oa on oc)
  have RY := ((((RZ.set 0 (.string s)).set 1 (.string q)).set 2 (.int .i64 n)).set 3 (.slice ua ul uc)).set 4 (.slice oa on oc)
  have UY := Lib.hid ((((((U6.out.far (p := ⟨w.heap.size + 1 + 1, 4, none⟩) (by simp; omega) (.slice oa on oc)).far (p := ⟨w.heap.size + 1, 0, none⟩) (by simp; omega) (.string s)).far (p := ⟨w.heap.size + 1, 1, none⟩) (by simp; omega) (.string q)).far (p := ⟨w.heap.size + 1, 2, none⟩) (by simp; omega) (.int .i64 n)).far (p := ⟨w.heap.size + 1, 3, none⟩) (by simp; omega) (.slice ua ul uc)).far (p := ⟨w.heap.size + 1, 4, none⟩) (by simp; omega) (.slice oa on oc))
  have ZY := Lib.hid ((((((Z6.out.farZ (p := ⟨w.heap.size + 1 + 1, 4, none⟩) (by simp; omega) (.slice oa on oc)).farZ (p := ⟨w.heap.size + 1, 0, none⟩) (by simp; omega) (.string s)).farZ (p := ⟨w.heap.size + 1, 1, none⟩) (by simp; omega) (.string q)).farZ (p := ⟨w.heap.size + 1, 2, none⟩) (by simp; omega) (.int .i64 n)).farZ (p := ⟨w.heap.size + 1, 3, none⟩) (by simp; omega) (.slice ua ul uc)).farZ (p := ⟨w.heap.size + 1, 4, none⟩) (by simp; omega) (.slice oa on oc))
  have BY := Lib.hid ((((((HB6.out.setCell (p := ⟨w.heap.size + 1 + 1, 4, none⟩) (by simp; try omega) (.slice oa on oc)).setCell (p := ⟨w.heap.size + 1, 0, none⟩) (by simp; try omega) (.string s)).setCell (p := ⟨w.heap.size + 1, 1, none⟩) (by simp; try omega) (.string q)).setCell (p := ⟨w.heap.size + 1, 2, none⟩) (by simp; try omega) (.int .i64 n)).setCell (p := ⟨w.heap.size + 1, 3, none⟩) (by simp; try omega) (.slice ua ul uc)).setCell (p := ⟨w.heap.size + 1, 4, none⟩) (by simp; try omega) (.slice oa on oc))
  obtain ⟨e0, e1, e2, e3, e4, _⟩ := RY.five
  generalize World.setCell _ _ _ = W9 at *
  refine bodyPost_ret (v := .agg #[.string s, .string q, .int .i64 n, .slice ua ul uc, .slice oa on oc]) (by simp [results, Try.f12, go_sem, e0, e1, e2, e3, e4]) rfl ?_
  exact ⟨_, _, rfl, UY.out.rd, ZY.out.rd, BY.out⟩
set_option maxHeartbeats 4000000 in
theorem eqDesk_same (s q : ByteArray) (n : Int) (u1 u2 o1 o2 : Value) (bs : List Br) (zs : List Int) (w : World) (h1 : RdB w u1 bs) (h2 : RdB w u2 bs) (hn : bs.length ≤ 16777216) (k1 : Rd w o1 zs) (k2 : Rd w o2 zs) (hz : zs.length ≤ 16777216) :
    Calls Try.prog 7 #[.agg #[.string s, .string q, .int .i64 n, u1, o1], .agg #[.string s, .string q, .int .i64 n, u2, o2]] w fun e w' => e = .returned (.bool true) ∧ Below w.heap.size w w' := by
  have EI := Lib.hid (fun wx (h : Below w.heap.size w wx) => eqIsles_same n u1 u2 bs wx (h1.below h) (h2.below h) hn)
  have EZ := Lib.hid (fun wx (h : Below w.heap.size w wx) => eqIntS_same o1 o2 zs wx (k1.below h) (k2.below h) hz)
  obtain ⟨a1, l1, c1, rfl, x1⟩ := h1
  obtain ⟨a2, l2, c2, rfl, x2⟩ := h2
  obtain ⟨p1, m1, d1, rfl, y1⟩ := k1.cells
  obtain ⟨p2, m2, d2, rfl, y2⟩ := k2.cells
  have A0 := Lib.hid ((Blk.new w #[.string s, .string q, .int .i64 n, .slice a1 l1 c1, .slice p1 m1 d1] 27).alloc (.cells #[.string s, .string q, .int .i64 n, .slice a2 l2 c2, .slice p2 m2 d2] 27))
  have C0 := Lib.hid ((Blk.new (w.alloc (.cells #[.string s, .string q, .int .i64 n, .slice a1 l1 c1, .slice p1 m1 d1] 27)) #[.string s, .string q, .int .i64 n, .slice a2 l2 c2, .slice p2 m2 d2] 27).at_ (g' := w.heap.size + 1) (by simp))
  have B0 := Lib.hid (show Below w.heap.size w ((w.alloc (.cells #[.string s, .string q, .int .i64 n, .slice a1 l1 c1, .slice p1 m1 d1] 27)).alloc (.cells #[.string s, .string q, .int .i64 n, .slice a2 l2 c2, .slice p2 m2 d2] 27)) by (repeat (first | exact Below.refl _ _ | (refine Below.alloc ?_ (by first | omega | (simp; try omega)) _) | apply Below.drew | apply below_drewN)))
  clear x1 x2 y1 y2 k1 k2 hn hz
  go_enter Try.func7, Try.ntmps7
  go_wp2_with fail
  refine (EI.out _ B0.out).mono ?_
  rintro e w3 ⟨rfl, hb3⟩
  have B3 := Lib.hid (B0.out.trans (hb3.mono B0.out.size))
  have A3 := Lib.hid (A0.out.below hb3 A0.out.lt)
  have C3 := Lib.hid (C0.out.below hb3 C0.out.lt)
  clear hb3
  obtain ⟨e0, e1, e2, e3, e4, el⟩ := A3.out.five
  obtain ⟨f0, f1, f2, f3, f4, fl⟩ := C3.out.five
  go_wp2_with fail
  refine (EZ.out _ B3.out).mono ?_
  rintro e w4 ⟨rfl, hb4⟩
  go_wp2
  go_ret
  exact ⟨rfl, B3.out.trans (hb4.mono B3.out.size)⟩
/-- whether it is a desk -/
def isDk (s q : ByteArray) (n : Int) (bs : List Br) (zs : List Int) : Bool := isRv s && (isPd q && (areIs n bs && isOrd zs))
set_option maxHeartbeats 4000000 in
theorem coGood (s q : ByteArray) (n : Int) (u o : Value) (bs : List Br) (zs : List Int) (w : World) (hs : s.size ≤ maxLen) (hq : q.size ≤ maxLen) (h1 : RdB w u bs) (hn : bs.length ≤ 1048576) (k1 : Rd w o zs) (hz : zs.length ≤ 1048576) :
    Calls Try.prog 22 #[.agg #[.string s, .string q, .int .i64 n, u, o]] w fun e w' => e = .returned (.bool (isDk s q n bs zs)) ∧ Below w.heap.size w w' := by
  have CR := Lib.hid (fun wx => specRvGood s wx hs)
  have CP := Lib.hid (fun wx => specFgGood q wx hq)
  have CI := Lib.hid (fun wx (h : Below w.heap.size w wx) => isGood n u bs wx (h1.below h) hn)
  have CO := Lib.hid (fun wx (h : Below w.heap.size w wx) => ptGood o zs wx (k1.below h) hz)
  obtain ⟨a1, l1, c1, rfl, x1⟩ := h1
  obtain ⟨p1, m1, d1, rfl, y1⟩ := k1.cells
  have A0 := Lib.hid (Blk.new w #[.string s, .string q, .int .i64 n, .slice a1 l1 c1, .slice p1 m1 d1] 27)
  have B0 := Lib.hid ((Below.refl w.heap.size w).alloc (Nat.le_refl _) (.cells #[.string s, .string q, .int .i64 n, .slice a1 l1 c1, .slice p1 m1 d1] 27))
  clear x1 y1 k1 hn hz hs hq
  unfold isDk
  obtain ⟨br, hbr⟩ : ∃ b, isRv s = b := ⟨_, rfl⟩
  obtain ⟨bp, hbp⟩ : ∃ b, isPd q = b := ⟨_, rfl⟩
  obtain ⟨bi, hbi⟩ : ∃ b, areIs n bs = b := ⟨_, rfl⟩
  rw [hbr] at CR ⊢
  rw [hbp] at CP ⊢
  rw [hbi] at CI ⊢
  clear hbr hbp hbi
  cases br
  · rw [show (false && (bp && (bi && isOrd zs))) = false from rfl]
    go_enter Try.func22, Try.ntmps22
    go_wp2_with (go_at_call 33; refine (CR.out _).mono ?_; rintro e w' ⟨rfl, rfl⟩)
    go_ret
    exact ⟨rfl, B0.out⟩
  cases bp
  · rw [show (true && (false && (bi && isOrd zs))) = false from rfl]
    go_enter Try.func22, Try.ntmps22
    go_wp2_with (first | (go_at_call 33; refine (CR.out _).mono ?_; rintro e w' ⟨rfl, rfl⟩) | (go_at_call 34; refine (CP.out _).mono ?_; rintro e w' ⟨rfl, rfl⟩))
    go_ret
    exact ⟨rfl, B0.out⟩
  cases bi
  · rw [show (true && (true && (false && isOrd zs))) = false from rfl]
    go_enter Try.func22, Try.ntmps22
    go_wp2_with (first | (go_at_call 33; refine (CR.out _).mono ?_; rintro e w' ⟨rfl, rfl⟩) | (go_at_call 34; refine (CP.out _).mono ?_; rintro e w' ⟨rfl, rfl⟩) | (go_at_call 35; refine (CI.out _ B0.out).mono ?_; rintro e w3 ⟨rfl, hb3⟩))
    go_ret
    exact ⟨rfl, B0.out.trans (hb3.mono B0.out.size)⟩
  rw [show (true && (true && (true && isOrd zs))) = isOrd zs from rfl]
  go_enter Try.func22, Try.ntmps22
  go_wp2_with (first | (go_at_call 33; refine (CR.out _).mono ?_; rintro e w' ⟨rfl, rfl⟩) | (go_at_call 34; refine (CP.out _).mono ?_; rintro e w' ⟨rfl, rfl⟩) | (go_at_call 35; refine (CI.out _ B0.out).mono ?_; rintro e w3 ⟨rfl, hb3⟩; have A3 := Lib.hid (A0.out.below hb3 A0.out.lt); have B3 := Lib.hid (B0.out.trans (hb3.mono B0.out.size)); obtain ⟨e0, e1, e2, e3, e4, el⟩ := A3.out.five; clear hb3) | (go_at_call 36; refine (CO.out _ B3.out).mono ?_; rintro e w' ⟨rfl, rfl⟩))
  go_ret
  exact ⟨rfl, B3.out⟩
set_option maxHeartbeats 4000000 in
theorem implIsDesk (s q : ByteArray) (n : Int) (u o : Value) (bs : List Br) (zs : List Int) (w : World) (hs : s.size ≤ maxLen) (hq : q.size ≤ maxLen) (h1 : RdB w u bs) (hn : bs.length ≤ 1048576) (k1 : Rd w o zs) (hz : zs.length ≤ 1048576) :
    Calls Try.prog 13 #[.agg #[.string s, .string q, .int .i64 n, u, o]] w fun e w' => e = .returned (.bool (isDk s q n bs zs)) ∧ Below w.heap.size w w' := by
  have CR := Lib.hid (fun wx => implIsRiver s wx hs)
  have CP := Lib.hid (fun wx => implIsPond q wx hq)
  have CI := Lib.hid (fun wx (h : Below w.heap.size w wx) => implAreIs n u bs wx (h1.below h) hn)
  have CO := Lib.hid (fun wx (h : Below w.heap.size w wx) => implIsOrder o zs wx (k1.below h) hz)
  obtain ⟨a1, l1, c1, rfl, x1⟩ := h1
  obtain ⟨p1, m1, d1, rfl, y1⟩ := k1.cells
  have A0 := Lib.hid (Blk.new w #[.string s, .string q, .int .i64 n, .slice a1 l1 c1, .slice p1 m1 d1] 27)
  have B0 := Lib.hid ((Below.refl w.heap.size w).alloc (Nat.le_refl _) (.cells #[.string s, .string q, .int .i64 n, .slice a1 l1 c1, .slice p1 m1 d1] 27))
  clear x1 y1 k1 hn hz hs hq
  unfold isDk
  obtain ⟨br, hbr⟩ : ∃ b, isRv s = b := ⟨_, rfl⟩
  obtain ⟨bp, hbp⟩ : ∃ b, isPd q = b := ⟨_, rfl⟩
  obtain ⟨bi, hbi⟩ : ∃ b, areIs n bs = b := ⟨_, rfl⟩
  rw [hbr] at CR ⊢
  rw [hbp] at CP ⊢
  rw [hbi] at CI ⊢
  clear hbr hbp hbi
  cases br
  · rw [show (false && (bp && (bi && isOrd zs))) = false from rfl]
    go_enter Try.func13, Try.ntmps13
    go_wp2_with (go_at_call 25; refine (CR.out _).mono ?_; rintro e w' ⟨rfl, rfl⟩)
    go_ret
    exact ⟨rfl, B0.out⟩
  cases bp
  · rw [show (true && (false && (bi && isOrd zs))) = false from rfl]
    go_enter Try.func13, Try.ntmps13
    go_wp2_with (first | (go_at_call 25; refine (CR.out _).mono ?_; rintro e w' ⟨rfl, rfl⟩) | (go_at_call 26; refine (CP.out _).mono ?_; rintro e w' ⟨rfl, rfl⟩))
    go_ret
    exact ⟨rfl, B0.out⟩
  cases bi
  · rw [show (true && (true && (false && isOrd zs))) = false from rfl]
    go_enter Try.func13, Try.ntmps13
    go_wp2_with (first | (go_at_call 25; refine (CR.out _).mono ?_; rintro e w' ⟨rfl, rfl⟩) | (go_at_call 26; refine (CP.out _).mono ?_; rintro e w' ⟨rfl, rfl⟩) | (go_at_call 27; refine (CI.out _ B0.out).mono ?_; rintro e w3 ⟨rfl, hb3⟩))
    go_ret
    exact ⟨rfl, B0.out.trans (hb3.mono B0.out.size)⟩
  rw [show (true && (true && (true && isOrd zs))) = isOrd zs from rfl]
  go_enter Try.func13, Try.ntmps13
  go_wp2_with (first | (go_at_call 25; refine (CR.out _).mono ?_; rintro e w' ⟨rfl, rfl⟩) | (go_at_call 26; refine (CP.out _).mono ?_; rintro e w' ⟨rfl, rfl⟩) | (go_at_call 27; refine (CI.out _ B0.out).mono ?_; rintro e w3 ⟨rfl, hb3⟩; have A3 := Lib.hid (A0.out.below hb3 A0.out.lt); have B3 := Lib.hid (B0.out.trans (hb3.mono B0.out.size)); obtain ⟨e0, e1, e2, e3, e4, el⟩ := A3.out.five; clear hb3) | (go_at_call 28; refine (CO.out _ B3.out).mono ?_; rintro e w' ⟨rfl, rfl⟩))
  go_ret
  exact ⟨rfl, B3.out⟩
theorem specIsDesk (s q : ByteArray) (n : Int) (u o : Value) (bs : List Br) (zs : List Int) (w : World) (hs : s.size ≤ maxLen) (hq : q.size ≤ maxLen) (h1 : RdB w u bs) (hn : bs.length ≤ 1048576) (k1 : Rd w o zs) (hz : zs.length ≤ 1048576) :
    Calls Try.prog 11 #[.agg #[.string s, .string q, .int .i64 n, u, o]] w fun e w' => e = .returned (.bool (isDk s q n bs zs)) ∧ Below w.heap.size w w' := by
  have CG := Lib.hid (fun wx (h : Below w.heap.size w wx) => coGood s q n u o bs zs wx hs hq (h1.below h) hn (k1.below h) hz)
  obtain ⟨a1, l1, c1, rfl, x1⟩ := h1
  obtain ⟨p1, m1, d1, rfl, y1⟩ := k1.cells
  have B0 := Lib.hid ((Below.refl w.heap.size w).alloc (Nat.le_refl _) (.cells #[.string s, .string q, .int .i64 n, .slice a1 l1 c1, .slice p1 m1 d1] 27))
  have A0 := Lib.hid (Blk.new w #[.string s, .string q, .int .i64 n, .slice a1 l1 c1, .slice p1 m1 d1] 27)
  clear x1 y1 k1 hn hz hs hq
  go_enter Try.func11, Try.ntmps11
  go_wp2_with (go_at_call 22; refine (CG.out _ (by first | exact B0.out | exact Below.refl _ _)).mono ?_; rintro e w3 ⟨rfl, hb3⟩)
  go_ret
  exact ⟨rfl, by first | exact B0.out.trans (hb3.mono B0.out.size) | exact hb3⟩
end Go.Proofs.Ytcpipacombnhdaa
