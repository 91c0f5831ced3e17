/- The narrowest part: spec.siNarrow, impl.narrowestPart; riverPart's isNone, first. -/
import Derived.Test.YtihdhgkknfohaabSp
import Derived.Test.YtihdhgkknfohaabStand
import Derived.Deep.RegionHeld3
import Derived.BigQuiet
import Derived.OwnWalk
import Derived.Outline
import Derived.Deep.CutRange
import Derived.Deep.DeepCutAuto
import Derived.Deep.RegionWith
namespace Go.Proofs.Ytihdhgkknfohaab
set_option linter.unusedVariables false
open Go.RowKit

/-- block b holds the two values, and may be written -/
def Box2 (w : World) (b : Nat) (x y : Value) : Prop := ∃ T, w.heap[b]? = some (.cells #[x, y] T (0, 0))
theorem Box2.cell0 {w : World} {b : Nat} {x y : Value} (h : Box2 w b x y) : w.cell? ⟨b, 0, none⟩ = some x := by obtain ⟨T, h⟩ := h; simp [World.cell?, h]
theorem Box2.cell1 {w : World} {b : Nat} {x y : Value} (h : Box2 w b x y) : w.cell? ⟨b, 1, none⟩ = some y := by obtain ⟨T, h⟩ := h; simp [World.cell?, h]
theorem Box2.fr {w : World} {b : Nat} {x y : Value} (h : Box2 w b x y) (j : Nat) : w.frozen? ⟨b, j, none⟩ = false := by obtain ⟨T, h⟩ := h; simp [World.frozen?, h]
theorem Box2.kept {w w' : World} {b : Nat} {x y : Value} (h : Box2 w b x y) {r : Option Nat} (hg : w.grownBy w' r) (hr : some b ≠ r) : Box2 w' b x y := by
  obtain ⟨T, h⟩ := h
  exact ⟨T, (hg.block b (Array.getElem?_eq_some_iff.1 h).1 hr).trans h⟩
theorem Box2.lt {w : World} {b : Nat} {x y : Value} (h : Box2 w b x y) : b < w.heap.size := by obtain ⟨T, h⟩ := h; exact (Array.getElem?_eq_some_iff.1 h).1
theorem Box2.below {w w' : World} {b : Nat} {x y : Value} (h : Box2 w b x y) (hb : Below w.heap.size w w') : Box2 w' b x y := by
  have := h.lt
  obtain ⟨T, h⟩ := h
  exact ⟨T, (hb.block b this).trans h⟩
theorem Box2.new (w : World) (x y : Value) (T : TypeId) : Box2 (w.alloc (.cells #[x, y] T)) w.heap.size x y := ⟨T, heap_alloc_new w _⟩
theorem Box2.alloc {w : World} {b : Nat} {x y : Value} (h : Box2 w b x y) (o : Obj) : Box2 (w.alloc o) b x y := h.kept (World.grownBy_alloc w o none) (by simp)
theorem Box2.set {w : World} {b : Nat} {x y : Value} (h : Box2 w b x y) (u v : Value) : Box2 ((w.setCell ⟨b, 0, none⟩ u).setCell ⟨b, 1, none⟩ v) b u v := by
  obtain ⟨T, h⟩ := h
  refine ⟨T, ?_⟩
  have h1 := heap_setCell_same w b 0 #[x, y] T u h
  have h2 := heap_setCell_same (w.setCell ⟨b, 0, none⟩ u) b 1 _ T v h1
  rw [h2]; rfl
theorem set2_grown (w : World) (b : Nat) (u v : Value) : w.grownBy ((w.setCell ⟨b, 0, none⟩ u).setCell ⟨b, 1, none⟩ v) (some b) :=
  ⟨rfl, rfl, rfl, by simp [World.setCell], fun k _ hk => (Below.heap_setCell _ _ _ k (by intro e; exact hk (by rw [e]))).trans (Below.heap_setCell _ _ _ k (by intro e; exact hk (by rw [e])))⟩

theorem Box2.drew {w : World} {b : Nat} {x y : Value} (h : Box2 w b x y) : Box2 w.drew b x y := h
theorem grown_drew {w w' : World} {r : Option Nat} (h : w.grownBy w' r) : w.grownBy w'.drew r := ⟨h.os, h.tape, h.output, h.size, h.block⟩
theorem grown_alloc {w w' : World} {r : Option Nat} (h : w.grownBy w' r) (o : Obj) : w.grownBy (w'.alloc o) r := h.trans (World.grownBy_alloc w' o r)
theorem four {W : World} {b c : Nat} {q1 q2 p1 p2 : Value} (X : Box2 W b q1 q2) (Y : Box2 W c p1 p2) : W.cell? ⟨b, 0, none⟩ = some q1 ∧ W.cell? ⟨b, 1, none⟩ = some q2 ∧ W.cell? ⟨c, 0, none⟩ = some p1 ∧ W.cell? ⟨c, 1, none⟩ = some p2 := ⟨X.cell0, X.cell1, Y.cell0, Y.cell1⟩

theorem below_any {w w' : World} (hb : Below w.heap.size w w') (r : Option Nat) : w.grownBy w' r := ⟨hb.os, hb.tape, hb.output, hb.size, fun k hk _ => hb.block k hk⟩
theorem siSumX (s : ByteArray) (k l : Nat) (w : World) (hd : AllD s) (hs : s.size ≤ 20) (h : k + l ≤ s.size) :
    Calls Try.prog 48 #[.string (s.extract k (k + l))] w fun e w' => e = .returned (.int .i64 (sumD s k l)) ∧ w = w' := by
  have hz := ext_size h
  have := siSum (s.extract k (k + l)) w (ext_AllD hd h) (by omega)
  rw [hz, ext_sum h] at this
  exact this
set_option maxHeartbeats 2000000 in
theorem siNarrow (s : ByteArray) (l : Nat) (w : World) (hd : AllD s) (hs : s.size ≤ 20) (hl : 1 ≤ l) (hl2 : l ≤ 21) :
    Calls Try.prog 28 #[.string s, .int .i64 (l : Int)] w fun e w' => e = .returned (.tuple #[.int .i64 (nar s l).1, .int .i64 ((nar s l).2 : Int)]) ∧ w = w' := by
  have HD := Lib.hid hd
  clear hd
  go_enter Try.func28, Try.ntmps28
  go_wp2
  go_loop [6, 7, 8] (fun b a i => ∃ k : Nat, k ≤ s.size + 1 - l ∧ i = .int .i64 k ∧ b = .int .i64 (nf s l k).1 ∧ a = .int .i64 ((nf s l k).2 : Int)) (fun _ _ i => s.size + 1 - (intOf i).toNat)
  case atStart => exact ⟨0, Nat.zero_le _, rfl, rfl, rfl⟩
  case round =>
    obtain ⟨k, hk, rfl, rfl, rfl⟩ := hrel
    have hsm := nf_small HD.out l k
    by_cases hlt : k + l ≤ s.size
    · have C := Lib.hid (fun wx => siSumX s k l wx HD.out hs hlt)
      have hsd := sumD_le HD.out k l
      have Y := Lib.hid (fun h => nf_yes (s := s) (l := l) (k := k) h)
      have N := Lib.hid (fun h => nf_no (s := s) (l := l) (k := k) h)
      have hlt' : (k : Int) + l ≤ s.size := by omega
      generalize hsu : sumD s k l = p at *
      generalize nf s l k = b at *
      obtain ⟨x, y⟩ := b
      simp only at hsm Y N
      clear hsu
      by_cases hx : x < 0
      · have R := Lib.hid (Y.out (.inl hx))
        clear Y N
        go_wp2_with (go_at_call 48; refine (C.out _).mono ?_; rintro e w' ⟨rfl, rfl⟩)
        go_round
        case rel => exact ⟨k + 1, by omega, by go_num, by rw [R.out], by rw [R.out]; go_num⟩
        case measure => simp [intOf]; omega
      by_cases hp : (p : Int) < x
      · have R := Lib.hid (Y.out (.inr hp))
        clear Y N
        go_wp2_with (go_at_call 48; refine (C.out _).mono ?_; rintro e w' ⟨rfl, rfl⟩)
        go_round
        case rel => exact ⟨k + 1, by omega, by go_num, by rw [R.out], by rw [R.out]; go_num⟩
        case measure => simp [intOf]; omega
      · have R := Lib.hid (N.out (by rintro (h | h) <;> contradiction))
        clear Y N
        go_wp2_with (go_at_call 48; refine (C.out _).mono ?_; rintro e w' ⟨rfl, rfl⟩)
        go_round
        case rel => exact ⟨k + 1, by omega, by go_num, by rw [R.out], by rw [R.out]⟩
        case measure => simp [intOf]; omega
    · obtain rfl : k = s.size + 1 - l := by omega
      have hlt' : ¬ ((s.size + 1 - l : Nat) : Int) + l ≤ s.size := by omega
      have HN := Lib.hid (show nar s l = nf s l (s.size + 1 - l) from rfl)
      have hq20 : s.size + 1 - l ≤ 20 := by omega
      generalize s.size + 1 - l = q at *
      go_wp2
      go_ret2
      exact ⟨by rw [HN.out]; rfl, rfl⟩
theorem eqP (a b c d : Int) (w : World) : (Op.equalIn 10000 38 (.agg #[.int .i64 a, .int .i64 b]) (.agg #[.int .i64 c, .int .i64 d])).run Try.prog w = .ok (a == c && b == d) w := by
  have u3 := Try.underlying3
  have a3 := Try.isAgg3
  have z3 := Try.sizeOf3
  rw [show (10000 : Nat) = 9999 + 1 from rfl, Op.equalIn]
  simp only [Sem.run_bind, run_underlying undP, Result.andThen_ok]
  simp only [Std.Legacy.Range.forIn_eq_forIn_range', Std.Legacy.Range.size, Nat.sub_zero, Nat.add_sub_cancel, Nat.div_one, List.range'_succ, List.range'_zero, List.forIn_cons, List.forIn_nil]
  go_simp
  by_cases h1 : a = c <;> by_cases h2 : b = d <;> simp [h1, h2]
theorem isNone_no (a b : Int) (w : World) (h : b ≠ 0) :
    Calls Try.prog 33 #[rp a b] w fun e w' => e = .returned (.bool false) ∧ w.alloc (.cells #[.int .i64 a, .int .i64 b] 38) = w' := by
  have hP := (Prt.new w a b).c0
  have hQ := (Prt.new w a b).c1
  have hE := eqP a b 0 0 (w.alloc (.cells #[.int .i64 a, .int .i64 b] 38))
  have hb : (b == 0) = false := by simpa using h
  rw [hb, Bool.and_false] at hE
  clear hb
  unfold rp
  go_enter Try.func33, Try.ntmps33
  go_wp2
  go_ret
  exact ⟨rfl, rfl⟩
theorem isNone_yes (w : World) :
    Calls Try.prog 33 #[rp 0 0] w fun e w' => e = .returned (.bool true) ∧ w.alloc (.cells #[.int .i64 0, .int .i64 0] 38) = w' := by
  have hP := (Prt.new w 0 0).c0
  have hQ := (Prt.new w 0 0).c1
  have hE := eqP 0 0 0 0 (w.alloc (.cells #[.int .i64 0, .int .i64 0] 38))
  unfold rp
  go_enter Try.func33, Try.ntmps33
  go_wp2
  go_ret
  exact ⟨rfl, rfl⟩
theorem partFirst (a b : Int) (w : World) :
    Calls Try.prog 32 #[rp a b] w fun e w' => e = .returned (.int .i64 b) ∧ w.alloc (.cells #[.int .i64 a, .int .i64 b] 38) = w' := by
  have hQ := (Prt.new w a b).c1
  unfold rp
  go_enter Try.func32, Try.ntmps32
  go_wp2
  go_ret
  exact ⟨rfl, rfl⟩
/-- the narrowest part as impl has it: no part is (0, 0) -/
def nI (b : Int × Nat) : Int := if b.2 = 0 then 0 else b.1
set_option maxHeartbeats 4000000 in
theorem narrowest (s : ByteArray) (l : Nat) (w : World) (hd : AllD s) (hs : s.size ≤ 20) (hl : 1 ≤ l) (hl2 : l ≤ 21) :
    Calls Try.prog 30 #[.string s, .int .i64 (l : Int)] w fun e w' => e = .returned (rp (nI (nar s l)) ((nar s l).2 : Int)) ∧ Below w.heap.size w w' := by
  have HD := Lib.hid hd
  clear hd
  have X2 : Box2 ((w.alloc (.cells #[.int .i64 0, .int .i64 0] 38)).alloc (.cells #[.int .i64 0, .int .i64 0] 38)) w.heap.size (.int .i64 0) (.int .i64 0) := (Box2.new w _ _ _).alloc _
  have X3 : Box2 ((w.alloc (.cells #[.int .i64 0, .int .i64 0] 38)).alloc (.cells #[.int .i64 0, .int .i64 0] 38)) (w.heap.size + 1) (.int .i64 0) (.int .i64 0) := by
    have := Box2.new (w.alloc (.cells #[.int .i64 0, .int .i64 0] 38)) (.int .i64 0) (.int .i64 0) 38
    simpa using this
  have hB : Below w.heap.size w ((w.alloc (.cells #[.int .i64 0, .int .i64 0] 38)).alloc (.cells #[.int .i64 0, .int .i64 0] 38)) := ((Below.refl _ _).alloc (Nat.le_refl _) _).alloc (by simp) _
  have hsz : w.heap.size + 2 ≤ ((w.alloc (.cells #[.int .i64 0, .int .i64 0] 38)).alloc (.cells #[.int .i64 0, .int .i64 0] 38)).heap.size := by simp
  go_enter Try.func30, Try.ntmps30
  go_wp2
  generalize ((w.alloc (.cells #[.int .i64 0, .int .i64 0] 38)).alloc (.cells #[.int .i64 0, .int .i64 0] 38)) = w1 at *
  have HB := Lib.hid hB
  clear hB
  go_loopw [6] (fun i wr => ∃ k : Nat, k ≤ s.size + 1 - l ∧ i = .int .i64 ((k : Int) + 1) ∧ Box2 wr w.heap.size (.int .i64 0) (.int .i64 0) ∧ Box2 wr (w.heap.size + 1) (.int .i64 (nI (nf s l k))) (.int .i64 ((nf s l k).2 : Int)) ∧ w1.grownBy wr (some (w.heap.size + 1))) (fun i _ => s.size + 2 - (intOf i).toNat)
  case atStart => exact ⟨0, Nat.zero_le _, rfl, X2, X3, World.grownBy.refl _ _⟩
  case round =>
    clear X2 X3
    obtain ⟨k, hk, rfl, X2, X3, hgr⟩ := hrel
    have hsm := nf_small HD.out l k
    have hwr : w.heap.size + 2 ≤ wr.heap.size := Nat.le_trans hsz hgr.size
    by_cases hlt : k + l ≤ s.size
    · have C := fun wx => partFrom s k l ((k : Int) + 1) wx HD.out hs hlt rfl
      unfold rp at C
      replace C := Lib.hid C
      have hsd := sumD_le HD.out k l
      have Y := Lib.hid (fun h => nf_yes (s := s) (l := l) (k := k) h)
      have N := Lib.hid (fun h => nf_no (s := s) (l := l) (k := k) h)
      have hlt' : (k : Int) + 1 + l ≤ s.size + 1 := by omega
      generalize sumD s k l = p at *
      generalize nf s l k = b at *
      obtain ⟨x, y⟩ := b
      simp only [nI] at hsm Y N X3
      have X2' := Lib.hid X2
      have X3' := Lib.hid X3
      have HGR := Lib.hid hgr
      clear X2 X3 hgr
      by_cases hy : y = 0
      · subst hy
        have hx : x = -1 := hsm.2.2.2.1 rfl
        subst hx
        have R := Lib.hid (Y.out (.inl (by decide)))
        rw [if_pos rfl] at X3'
        clear Y N
        go_wp2_with (first
          | (go_at_call 49; refine (farBank s _ (by omega)).mono ?_; rintro e w' ⟨rfl, rfl⟩)
          | (go_at_call 50; refine (C.out _).mono ?_; rintro e w2 ⟨rfl, hb2⟩))
        have hs2 := hb2.size
        have G2 : Hid (w1.grownBy w2 (some (w.heap.size + 1))) := Lib.hid (HGR.out.trans (below_any hb2 _))
        have Y2 := Lib.hid (X2'.out.below hb2)
        have Y3 := Lib.hid (X3'.out.below hb2)
        clear hb2
        go_cut [28] (fun s28 wx => s28 = .bool true ∧ Box2 wx w.heap.size (.int .i64 0) (.int .i64 0) ∧ Box2 wx (w.heap.size + 1) (.int .i64 0) (.int .i64 0) ∧ Box2 wx w2.heap.size (.int .i64 (p : Int)) (.int .i64 ((k : Int) + 1)) ∧ w1.grownBy wx (some (w.heap.size + 1)))
        case first =>
          have y30 := Y3.out.cell0
          have y31 := Y3.out.cell1
          have hlt5 : w.heap.size + 1 < w2.heap.size := by omega
          go_region_with (first
            | (go_at_call 33; refine (isNone_yes _).mono ?_; rintro e w' ⟨rfl, rfl⟩)
            | (go_at_call 31; refine (partSumX _ _ _).mono ?_; rintro e w' ⟨rfl, rfl⟩))
          all_goals
          go_wp2_with fail
          go_meet
          refine ⟨?_, ?_, ?_, ?_, ?_⟩
          · first | rfl | simpa using rfl
          · repeat (first | exact Y2.out | apply Box2.drew | apply Box2.alloc)
          · repeat (first | exact Y3.out | apply Box2.drew | apply Box2.alloc)
          · repeat (first | exact Box2.new _ _ _ _ | apply Box2.drew | apply Box2.alloc)
          · repeat (first | exact G2.out | apply grown_drew | apply grown_alloc)
        case rest =>
          obtain ⟨rfl, Z2, Z3, Z4, hgz⟩ := hcut
          clear Y2 Y3
          have y0 := Z4.cell0
          have y1 := Z4.cell1
          have z0 := Z3.cell0
          have z1 := Z3.cell1
          have z2 := Z3.fr 0
          have z3 := Z3.fr 1
          have R1 := Z3.set (.int .i64 (p : Int)) (.int .i64 ((k : Int) + 1))
          have R2 := set2_grown wc (w.heap.size + 1) (.int .i64 (p : Int)) (.int .i64 ((k : Int) + 1))
          have HR := Lib.hid (And.intro (Z2.kept R2 (by intro e; injection e; omega)) (And.intro R1 (hgz.trans R2)))
          clear R1 R2 Z2 Z3 Z4 hgz
          go_wp2
          go_roundw
          case rel => exact ⟨k + 1, by omega, by go_num, HR.out.1, by rw [R.out]; exact HR.out.2.1, HR.out.2.2⟩
          case measure => (simp [intOf]; try omega)
      have hx0 : 0 ≤ x := by have := hsm.2.2.2; omega
      rw [if_neg hy] at X3'
      by_cases hp : (p : Int) < x
      · have R := Lib.hid (Y.out (.inr hp))
        clear Y N
        go_wp2_with (first
          | (go_at_call 49; refine (farBank s _ (by omega)).mono ?_; rintro e w' ⟨rfl, rfl⟩)
          | (go_at_call 50; refine (C.out _).mono ?_; rintro e w2 ⟨rfl, hb2⟩))
        have hs2 := hb2.size
        have G2 : Hid (w1.grownBy w2 (some (w.heap.size + 1))) := Lib.hid (HGR.out.trans (below_any hb2 _))
        have Y2 := Lib.hid (X2'.out.below hb2)
        have Y3 := Lib.hid (X3'.out.below hb2)
        clear hb2
        go_cut [28] (fun s28 wx => s28 = .bool true ∧ Box2 wx w.heap.size (.int .i64 0) (.int .i64 0) ∧ Box2 wx (w.heap.size + 1) (.int .i64 x) (.int .i64 (y : Int)) ∧ Box2 wx w2.heap.size (.int .i64 (p : Int)) (.int .i64 ((k : Int) + 1)) ∧ w1.grownBy wx (some (w.heap.size + 1)))
        case first =>
          go_region_held3 (fun w' => w'.cell? ⟨w.heap.size + 1, 0, none⟩ = some (.int .i64 x) ∧ w'.cell? ⟨w.heap.size + 1, 1, none⟩ = some (.int .i64 (y : Int)) ∧ w'.cell? ⟨w2.heap.size, 0, none⟩ = some (.int .i64 (p : Int)) ∧ w'.cell? ⟨w2.heap.size, 1, none⟩ = some (.int .i64 ((k : Int) + 1))) (exact four (by repeat (first | exact Y3.out | apply Box2.drew | apply Box2.alloc)) (by repeat (first | exact Box2.new _ _ _ _ | apply Box2.drew | apply Box2.alloc))) (first
            | (go_at_call 33; refine (isNone_no _ _ _ (by omega)).mono ?_; rintro e w' ⟨rfl, rfl⟩)
            | (go_at_call 31; refine (partSumX _ _ _).mono ?_; rintro e w' ⟨rfl, rfl⟩))
          go_wp2_with fail
          go_meet
          refine ⟨?_, ?_, ?_, ?_, ?_⟩
          · first | rfl | simpa using hp
          · repeat (first | exact Y2.out | apply Box2.drew | apply Box2.alloc)
          · repeat (first | exact Y3.out | apply Box2.drew | apply Box2.alloc)
          · repeat (first | exact Box2.new _ _ _ _ | apply Box2.drew | apply Box2.alloc)
          · repeat (first | exact G2.out | apply grown_drew | apply grown_alloc)
        case rest =>
          obtain ⟨rfl, Z2, Z3, Z4, hgz⟩ := hcut
          clear Y2 Y3
          have y0 := Z4.cell0
          have y1 := Z4.cell1
          have z0 := Z3.cell0
          have z1 := Z3.cell1
          have z2 := Z3.fr 0
          have z3 := Z3.fr 1
          have R1 := Z3.set (.int .i64 (p : Int)) (.int .i64 ((k : Int) + 1))
          have R2 := set2_grown wc (w.heap.size + 1) (.int .i64 (p : Int)) (.int .i64 ((k : Int) + 1))
          have HR := Lib.hid (And.intro (Z2.kept R2 (by intro e; injection e; omega)) (And.intro R1 (hgz.trans R2)))
          clear R1 R2 Z2 Z3 Z4 hgz
          go_wp2
          go_roundw
          case rel => exact ⟨k + 1, by omega, by go_num, HR.out.1, by rw [R.out]; exact HR.out.2.1, HR.out.2.2⟩
          case measure => (simp [intOf]; try omega)
      · have R := Lib.hid (N.out (by rintro (h | h) <;> omega))
        clear Y N
        go_wp2_with (first
          | (go_at_call 49; refine (farBank s _ (by omega)).mono ?_; rintro e w' ⟨rfl, rfl⟩)
          | (go_at_call 50; refine (C.out _).mono ?_; rintro e w2 ⟨rfl, hb2⟩))
        have hs2 := hb2.size
        have G2 : Hid (w1.grownBy w2 (some (w.heap.size + 1))) := Lib.hid (HGR.out.trans (below_any hb2 _))
        have Y2 := Lib.hid (X2'.out.below hb2)
        have Y3 := Lib.hid (X3'.out.below hb2)
        clear hb2
        go_cut [28] (fun s28 wx => s28 = .bool false ∧ Box2 wx w.heap.size (.int .i64 0) (.int .i64 0) ∧ Box2 wx (w.heap.size + 1) (.int .i64 x) (.int .i64 (y : Int)) ∧ Box2 wx w2.heap.size (.int .i64 (p : Int)) (.int .i64 ((k : Int) + 1)) ∧ w1.grownBy wx (some (w.heap.size + 1)))
        case first =>
          go_region_held3 (fun w' => w'.cell? ⟨w.heap.size + 1, 0, none⟩ = some (.int .i64 x) ∧ w'.cell? ⟨w.heap.size + 1, 1, none⟩ = some (.int .i64 (y : Int)) ∧ w'.cell? ⟨w2.heap.size, 0, none⟩ = some (.int .i64 (p : Int)) ∧ w'.cell? ⟨w2.heap.size, 1, none⟩ = some (.int .i64 ((k : Int) + 1))) (exact four (by repeat (first | exact Y3.out | apply Box2.drew | apply Box2.alloc)) (by repeat (first | exact Box2.new _ _ _ _ | apply Box2.drew | apply Box2.alloc))) (first
            | (go_at_call 33; refine (isNone_no _ _ _ (by omega)).mono ?_; rintro e w' ⟨rfl, rfl⟩)
            | (go_at_call 31; refine (partSumX _ _ _).mono ?_; rintro e w' ⟨rfl, rfl⟩))
          go_wp2_with fail
          go_meet
          refine ⟨?_, ?_, ?_, ?_, ?_⟩
          · first | rfl | simpa using hp
          · repeat (first | exact Y2.out | apply Box2.drew | apply Box2.alloc)
          · repeat (first | exact Y3.out | apply Box2.drew | apply Box2.alloc)
          · repeat (first | exact Box2.new _ _ _ _ | apply Box2.drew | apply Box2.alloc)
          · repeat (first | exact G2.out | apply grown_drew | apply grown_alloc)
        case rest =>
          obtain ⟨rfl, Z2, Z3, Z4, hgz⟩ := hcut
          clear Y2 Y3
          have HZ3 := Lib.hid Z3
          have HZ2 := Lib.hid Z2
          clear Z2 Z3 Z4
          go_wp2
          go_roundw
          case rel => exact ⟨k + 1, by omega, by go_num, HZ2.out, by rw [R.out]; simpa only [nI, if_neg (show ¬ y = 0 by omega)] using HZ3.out, hgz⟩
          case measure => (simp [intOf]; try omega)
    · obtain rfl : k = s.size + 1 - l := by omega
      have hlt' : ¬ ((s.size + 1 - l : Nat) : Int) + 1 + l ≤ s.size + 1 := by omega
      have HN := Lib.hid (show nar s l = nf s l (s.size + 1 - l) from rfl)
      have hq20 : s.size + 1 - l ≤ 20 := by omega
      generalize s.size + 1 - l = q at *
      generalize nf s l q = b at *
      obtain ⟨x, y⟩ := b
      simp only [nI] at X3
      obtain ⟨X, hX⟩ : ∃ X : Int, X = if y = 0 then 0 else x := ⟨_, rfl⟩
      rw [← hX] at X3
      have HX := Lib.hid hX
      have y0 := X3.cell0
      have y1 := X3.cell1
      have z0 := X2.cell0
      have z1 := X2.cell1
      have z2 := X2.fr 0
      have z3 := X2.fr 1
      have R1 := X2.set (.int .i64 X) (.int .i64 (y : Int))
      have R2 := set2_grown wr w.heap.size (.int .i64 X) (.int .i64 (y : Int))
      have hBw := (HB.out.grown hgr (by omega) (by intro k hk; cases hk; omega)).grown R2 (by omega) (by intro k hk; cases hk; exact Nat.le_refl _)
      have r0 := R1.cell0
      have r1 := R1.cell1
      have HW := Lib.hid hBw
      clear R1 R2 hBw hgr X2 X3 hX
      go_wp2_with (go_at_call 49; refine (farBank s _ (by omega)).mono ?_; rintro e w' ⟨rfl, rfl⟩)
      refine bodyPost_ret (v := .agg #[.int .i64 X, .int .i64 (y : Int)]) (by simp [results, Try.results30, go_sem, r0, r1]) rfl ⟨?_, ?_⟩
      · rw [HN.out, HX.out]; rfl
      · exact HW.out
end Go.Proofs.Ytihdhgkknfohaab
