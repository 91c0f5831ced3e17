/- impl.hasSpot, CountSpots, LeastPlank. -/
import Derived.Test.YtfkdkhoihlkgcacSfr
namespace Go.Proofs.Ytfkdkhoihlkgcac
set_option linter.unusedVariables false
open Go.RowKit Go.Shelf
attribute [local go_sem] Oper.semAt_some
attribute [local simp] wide_fn wide_depth
attribute [local go_sem] wide_fn wide_depth

/-- what spotsFor has made -/
theorem crnNew (w : World) (x y p : Int) : Crn ((w.alloc (.cells #[.int .i64 x, .int .i64 y] 27)).alloc (.cells #[.int .i64 p] 3)) w.heap.size x y ∧
    Boxed ((w.alloc (.cells #[.int .i64 x, .int .i64 y] 27)).alloc (.cells #[.int .i64 p] 3)) (w.heap.size + 1) 3 (.int .i64 p) ∧
    Below w.heap.size w ((w.alloc (.cells #[.int .i64 x, .int .i64 y] 27)).alloc (.cells #[.int .i64 p] 3)) := by
  have hb : Below w.heap.size w ((w.alloc (.cells #[.int .i64 x, .int .i64 y] 27)).alloc (.cells #[.int .i64 p] 3)) := ((Below.refl _ _).alloc (Nat.le_refl _) _).alloc (by simp) _
  refine ⟨?_, ?_, hb⟩
  · exact (Below.heap_alloc _ _ _ (by simp)).trans (heap_alloc_new w _)
  · have := Boxed.new (w.alloc (.cells #[.int .i64 x, .int .i64 y] 27)) 3 (.int .i64 p)
    rwa [World.size_alloc] at this
set_option maxHeartbeats 4000000 in
set_option maxRecDepth 100000 in
theorem hasSpot (x y p : Int) (w : World) (hc : isCn x y = true) (hp : isPl p = true) :
    Calls Try.prog 33 #[.agg #[.int .i64 x, .int .i64 y], .int .i64 p] w fun e w' => e = .returned (.bool !(spotsL x y p).isEmpty) ∧ Below w.heap.size w w' := by
  have hbt : Below w.heap.size w ((w.alloc (.cells #[.int .i64 x, .int .i64 y] 27)).alloc (.cells #[.bool false] 4)) := ((Below.refl _ _).alloc (Nat.le_refl _) _).alloc (by simp) _
  obtain ⟨z0, z1, _⟩ := (((Blk.new w #[.int .i64 x, .int .i64 y] 27).alloc (.cells #[.bool false] 4))).two
  refine (callsIn_wide (n := 9)).1 ?_
  refine callsIn_of_wp_marks Try.func33 rfl trivial ?_ rfl
  simp only [Try.ntmps33, List.size_toArray, List.length_cons, List.length_nil, Nat.reduceAdd, Nat.reduceSub, Array.replicate_succ, Array.replicate_zero, List.push_toArray, List.append_toArray, List.nil_append, List.cons_append]
  have SF := Lib.hid (fun wx => spotsFor x y p wx)
  gi_wp2_with (gi_at_call 23; refine ((callsIn_wide).2 (SF.out _)).mono ?_; rintro e w2 ⟨rfl, rfl⟩)
  obtain ⟨b1, b2, hb3⟩ := crnNew ((w.alloc (.cells #[.int .i64 x, .int .i64 y] 27)).alloc (.cells #[.bool false] 4)) x y p
  have b0 := boxB ((Boxed.new (w.alloc (.cells #[.int .i64 x, .int .i64 y] 27)) 4 (.bool false))) hb3
  have hB0 := hbt.trans (hb3.mono hbt.size)
  have hsz : ((((w.alloc (.cells #[.int .i64 x, .int .i64 y] 27)).alloc (.cells #[.bool false] 4)).alloc (.cells #[.int .i64 x, .int .i64 y] 27)).alloc (.cells #[.int .i64 p] 3)).heap.size = w.heap.size + 4 := by simp
  simp only [World.size_alloc] at b1 b2 b0
  generalize ((((w.alloc (.cells #[.int .i64 x, .int .i64 y] 27)).alloc (.cells #[.bool false] 4)).alloc (.cells #[.int .i64 x, .int .i64 y] 27)).alloc (.cells #[.int .i64 p] 3)) = W0 at *
  clear hbt hb3 SF z0 z1
  generalize hS : w.heap.size + 1 = S at *
  have FG := spotGives x y p (S + 1) (S + 1 + 1) 8 (fun k o => k = S) W0 hc hp b1 b2 (fun k o e => .inl (by omega)) (by omega) (by omega)
  generalize hL : spotsL x y p = L at *
  refine wpIn_range_Y rfl rfl (gf := 36) (lb := #[.pointer (some ⟨S + 1, 0, none⟩), .pointer (some ⟨S + 1 + 1, 0, none⟩)]) rfl trivial (enters_of Try.func36 (by kernel_rfl) rfl)
    (encs := fun x : Int × Int => #[.agg #[.int .i64 x.1, .int .i64 x.2]]) (E := fun k o => k = S) (xs := L) (fun k o e => .inl (by omega)) FG (fun _ => rfl)
    (fun pre W' => pre = [] ∧ Boxed W' S 4 (.bool false) ∧ Below w.heap.size w W')
    (fun c pre W' => c = .ret ∧ pre ≠ [] ∧ Boxed W' S 4 (.bool true) ∧ Below w.heap.size w W')
    (fun s A B row hs hg hr => ⟨hs.1, boxOwn () A B row hs.2.1 hg hr, hs.2.2.grown hg hs.2.2.size (fun k e => Nat.le_trans (by omega) (hr k e).1)⟩)
    (fun c s A B row hs hg hr => ⟨hs.1, hs.2.1, boxOwn () A B row hs.2.2.1 hg hr, hs.2.2.2.grown hg hs.2.2.2.size (fun k e => Nat.le_trans (by omega) (hr k e).1)⟩)
    ⟨rfl, b0, hB0⟩
    (fun s a' W' => a' = { tmps := #[.agg #[.int .i64 x, .int .i64 y], .int .i64 p, .pointer (some ⟨w.heap.size, 0, none⟩), undef, .pointer (some ⟨S, 0, none⟩), .agg #[.int .i64 x, .int .i64 y], .int .i64 p, .func (.func 36) #[] #[.pointer (some ⟨S + 1, 0, none⟩), .pointer (some ⟨S + 1 + 1, 0, none⟩)], .agg #[.int .i64 s.1, .int .i64 s.2]], defers := [] })
    (fun s a' => ownFrom_pure _ fun _ => _) ?assign ?body ?done ?stop
  case assign =>
    intro l m pre s A K hI hK
    gi_wp2
    exact hK _ _ (KeepO.refl _ _) hI (by simp)
  case body =>
    rintro l m pre s a' A ⟨rfl, x0, hB⟩ rfl hpre
    have c0 := x0.cell
    have f0 := x0.frozen
    have hz := x0.lt
    have HB := Lib.hid hB
    have X0 := Lib.hid x0
    clear hB x0
    gi_wp2
    exact ⟨KeepO.of_grown (grownBy_setCell' A S _) (fun k o e _ => by cases e; rfl), rfl, by simp, X0.out.set _, HB.out.setCell (p := ⟨S, 0, none⟩) (by show w.heap.size ≤ S; omega) _⟩
  case done =>
    rintro D A hD ⟨rfl, x0, hB⟩ hK
    have c0 := x0.cell
    have f0 := x0.frozen
    gi_wp2
    have hK' := (KeepsOthers.setCell A ⟨S, 0, none⟩ (.bool false)).same D _ hK rfl
    refine ⟨by simp, .inl ⟨_, _, rfl, run_takeDeferred hK', ?_⟩⟩
    have hc5 := cell_kept (World.cell?_setCell_same' A ⟨S, 0, none⟩ (.bool false) (by rw [c0]; rfl)) (grownBy_putObj' _ D (.deferred none)) (fun r e => by cases e; exact ⟨_, hK', rfl⟩)
    refine ⟨.bool false, ?_, by rw [hL]; rfl, (hB.setCell (p := ⟨S, 0, none⟩) (by show w.heap.size ≤ S; omega) _).trans (belowK_b (w := W0) (by omega) _ D _ _ hD hK' rfl rfl)⟩
    simp [results, Try.f33, go_sem, hc5]
  case stop =>
    rintro D c pre A hD hpre ⟨rfl, hp1, x0, hB⟩ hK
    have hLE : L.isEmpty = false := by
      cases L with
      | nil => exact absurd (List.prefix_nil.1 hpre) hp1
      | cons a l => rfl
    gi_wp2
    refine ⟨by simp, .inl ⟨_, _, rfl, run_takeDeferred hK, ?_⟩⟩
    have hc5 := cell_kept x0.cell (grownBy_putObj' _ D (.deferred none)) (fun r e => by cases e; exact ⟨_, hK, rfl⟩)
    refine ⟨.bool true, ?_, by rw [hL, hLE]; rfl, hB.trans (belowK_b (w := W0) (by omega) _ D _ _ hD hK rfl rfl)⟩
    simp [results, Try.f33, go_sem, hc5]
def cntV (x y p : Int) : Value := if isCn x y && isPl p then .tuple #[.int .i64 ((spotsL x y p).length : Int), .bool true] else .tuple #[.int .i64 0, .bool false]
theorem cntV_no {x y p : Int} (h : (isCn x y && isPl p) = false) : cntV x y p = .tuple #[.int .i64 0, .bool false] := by simp [cntV, h]
theorem cntV_yes {x y p : Int} (h : (isCn x y && isPl p) = true) : cntV x y p = .tuple #[.int .i64 ((spotsL x y p).length : Int), .bool true] := by simp [cntV, h]
theorem cntV_form (x y p : Int) : ∃ a b, cntV x y p = .tuple #[.int .i64 a, .bool b] := by unfold cntV; split <;> exact ⟨_, _, rfl⟩
theorem spotsL_len (x y p : Int) : (spotsL x y p).length ≤ 40401 := Nat.le_trans (List.length_filter_le _ _) (spots_len p)
set_option maxHeartbeats 4000000 in
set_option maxRecDepth 100000 in
theorem implCount (x y p : Int) (w : World) :
    Calls Try.prog 14 #[.agg #[.int .i64 x, .int .i64 y], .int .i64 p] w fun e w' => e = .returned (cntV x y p) ∧ Below w.heap.size w w' := by
  have HG := Lib.hid (fun wx => isWith x y p wx)
  have X1 := Lib.hid (Blk.new w #[.int .i64 x, .int .i64 y] 27)
  cases h : (isCn x y && isPl p)
  · have J := Lib.hid (cntV_no h)
    rw [h] at HG
    clear h
    go_enter Try.func14, Try.ntmps14
    go_wp2_with (go_at_call 22; (with_reducible refine (HG.out _).mono ?_); rintro e w1 ⟨rfl, hb⟩)
    go_ret2
    exact ⟨ret_v J.out.symm, Below.trans (by (repeat (first | exact Below.refl _ _ | (refine Below.alloc ?_ (by first | omega | (simp; try omega)) _) | apply Below.drew | apply below_drewN))) (hb.mono (by simp; try omega))⟩
  have J := Lib.hid (cntV_yes h)
  rw [h] at HG
  simp only [Bool.and_eq_true] at h
  obtain ⟨hc, hp⟩ := h
  refine (callsIn_wide (n := 9)).1 ?_
  refine callsIn_of_wp_marks Try.func14 rfl trivial ?_ rfl
  simp only [Try.ntmps14, List.size_toArray, List.length_cons, List.length_nil, Nat.reduceAdd, Nat.reduceSub, Array.replicate_succ, Array.replicate_zero, List.push_toArray, List.append_toArray, List.nil_append, List.cons_append]
  have SF := Lib.hid (fun wx => spotsFor x y p wx)
  gi_wp2_with fail
  refine ((callsIn_wide).2 (HG.out _)).mono ?_
  rintro e w1 ⟨rfl, hb1⟩
  obtain ⟨z0, z1, z2⟩ := (X1.out.below hb1 (by simp)).two
  have D1 := Lib.hid (Below.trans (by (repeat (first | exact Below.refl _ _ | (refine Below.alloc ?_ (by first | omega | (simp; try omega)) _) | apply Below.drew | apply below_drewN))) (hb1.mono (by simp; try omega)) : Below w.heap.size w w1)
  have hs1 := D1.out.size
  clear hb1
  gi_wp2_with (gi_at_call 23; refine ((callsIn_wide).2 (SF.out _)).mono ?_; rintro e w2 ⟨rfl, rfl⟩)
  obtain ⟨b1, b2, hb3⟩ := crnNew (w1.alloc (.cells #[.int .i64 0] 3)) x y p
  have b0 := boxB (Boxed.new w1 3 (.int .i64 0)) hb3
  have hB0 := (D1.out.alloc hs1 (.cells #[.int .i64 0] 3)).trans (hb3.mono (by simp; omega))
  have hsz : (((w1.alloc (.cells #[.int .i64 0] 3)).alloc (.cells #[.int .i64 x, .int .i64 y] 27)).alloc (.cells #[.int .i64 p] 3)).heap.size = w1.heap.size + 3 := by simp
  simp only [World.size_alloc] at b1 b2 b0
  generalize (((w1.alloc (.cells #[.int .i64 0] 3)).alloc (.cells #[.int .i64 x, .int .i64 y] 27)).alloc (.cells #[.int .i64 p] 3)) = W0 at *
  clear hb3 SF z0 z1 HG X1 D1 z2
  generalize hS : w1.heap.size = S at *
  have FG := spotGives x y p (S + 1) (S + 1 + 1) 8 (fun k o => k = S) W0 hc hp b1 b2 (fun k o e => .inl (by omega)) (by omega) (by omega)
  have hlen := spotsL_len x y p
  generalize hL : spotsL x y p = L at *
  refine wpIn_range_Y rfl rfl (gf := 36) (lb := #[.pointer (some ⟨S + 1, 0, none⟩), .pointer (some ⟨S + 1 + 1, 0, none⟩)]) rfl trivial (enters_of Try.func36 (by kernel_rfl) rfl)
    (encs := fun x : Int × Int => #[.agg #[.int .i64 x.1, .int .i64 x.2]]) (E := fun k o => k = S) (xs := L) (fun k o e => .inl (by omega)) FG (fun _ => rfl)
    (fun pre W' => Boxed W' S 3 (.int .i64 (pre.length : Int)) ∧ Below w.heap.size w W')
    (fun c pre W' => False)
    (fun s A B row hs hg hr => ⟨boxOwn () A B row hs.1 hg hr, hs.2.grown hg hs.2.size (fun k e => Nat.le_trans (by omega) (hr k e).1)⟩)
    (fun c s A B row hs hg hr => hs)
    ⟨b0, hB0⟩
    (fun s a' W' => a' = { tmps := #[.agg #[.int .i64 x, .int .i64 y], .int .i64 p, .pointer (some ⟨w.heap.size, 0, none⟩), undef, .int .i64 0, .bool false, .pointer (some ⟨S, 0, none⟩), .agg #[.int .i64 x, .int .i64 y], .int .i64 p, .bool true, .bool false, .agg #[.int .i64 x, .int .i64 y], .int .i64 p, .func (.func 36) #[] #[.pointer (some ⟨S + 1, 0, none⟩), .pointer (some ⟨S + 1 + 1, 0, none⟩)], .agg #[.int .i64 s.1, .int .i64 s.2], undef, undef, undef], defers := [] })
    (fun s a' => ownFrom_pure _ fun _ => _) ?assign ?body ?done ?stop
  case assign =>
    intro l m pre s A K hI hK
    gi_wp2
    exact hK _ _ (KeepO.refl _ _) hI (by simp)
  case body =>
    rintro l m pre s a' A ⟨x0, hB⟩ rfl hpre
    have c0 := x0.cell
    have f0 := x0.frozen
    have hz := x0.lt
    have hpl := pre_len hpre
    have HB := Lib.hid hB
    have X0 := Lib.hid x0
    clear hB x0
    gi_wp2
    exact ⟨KeepO.of_grown (grownBy_setCell' A S _) (fun k o e _ => by cases e; rfl), (by have := X0.out.set (.int .i64 ((pre.length : Int) + 1)); simpa using this), HB.out.setCell (p := ⟨S, 0, none⟩) (by show w.heap.size ≤ S; omega) _⟩
  case done =>
    rintro D A hD ⟨x0, hB⟩ hK
    have c0 := x0.cell
    gi_wp2
    refine ⟨by simp, .inl ⟨_, _, rfl, run_takeDeferred hK, ?_⟩⟩
    refine ⟨.tuple #[.int .i64 (L.length : Int), .bool true], ?_, by rw [J.out], hB.trans (belowK_b (w := W0) (by omega) _ D _ _ hD hK rfl rfl)⟩
    simp [results, Try.f14, go_sem]
  case stop =>
    rintro D c pre A hD hpre hF hK
    exact hF.elim
/-- the least length from p on with a spot, in so many tries -/
def lpF (x y : Int) : Nat → Int → Int
  | 0, p => p
  | n + 1, p => if (spotsL x y p).isEmpty then lpF x y n (p + 1) else p
theorem lpF_yes {x y p : Int} {n : Nat} (h : (spotsL x y p).isEmpty = false) : lpF x y (n + 1) p = p := by simp only [lpF, h]; rfl
theorem lpF_no {x y p : Int} {n : Nat} (h : (spotsL x y p).isEmpty = true) : lpF x y (n + 1) p = lpF x y n (p + 1) := by simp only [lpF, h]; rfl
def lpA (x y : Int) : Int := lpF x y 200 1
def lpV (x y : Int) : Value := if isCn x y then .tuple #[.int .i64 (lpA x y), .bool true] else .tuple #[.int .i64 0, .bool false]
theorem lpV_no {x y : Int} (h : isCn x y = false) : lpV x y = .tuple #[.int .i64 0, .bool false] := by simp [lpV, h]
theorem lpV_yes {x y : Int} (h : isCn x y = true) : lpV x y = .tuple #[.int .i64 (lpA x y), .bool true] := by simp [lpV, h]
theorem lpV_form (x y : Int) : ∃ a b, lpV x y = .tuple #[.int .i64 a, .bool b] := by unfold lpV; split <;> exact ⟨_, _, rfl⟩
/-- with planks of 150 there is a spot -/
theorem spot150 {x y p : Int} (h : isCn x y = true) (hp : 150 ≤ p) (hp2 : p ≤ 200) : (spotsL x y p).isEmpty = false := by
  obtain ⟨hx, hy⟩ := isCn_in h
  have hpp : 150 * 150 ≤ p * p := Int.mul_le_mul hp hp (by omega) (by omega)
  have hpp4 : 4 * p * p = 4 * (p * p) := Int.mul_assoc _ _ _
  have hm : ((1, 1) : Int × Int) ∈ spots p := by
    unfold spots
    rw [rowF_yes (n := 200) (show (1 : Int) < p by omega)]
    refine List.mem_append_left _ ?_
    rw [colF_yes (n := 200) (show (1 : Int) * 1 + 1 * 1 ≤ p * p by omega)]
    exact List.mem_cons_self ..
  have hk : okS x y p (1, 1) = true := by
    have v1 := sq_bd (d := 2 * x - 1) (m := 200) (by omega) (by omega)
    have v2 := sq_bd (d := 2 * y - 1) (m := 200) (by omega) (by omega)
    show decide (nd x y 1 1 ≤ 4 * p * p) = true
    rw [decide_eq_true_eq]
    unfold nd
    omega
  have : ((1, 1) : Int × Int) ∈ spotsL x y p := List.mem_filter.2 ⟨hm, hk⟩
  cases hL : spotsL x y p with
  | nil => rw [hL] at this; cases this
  | cons a l => rfl
set_option maxHeartbeats 1000000 in
theorem implLeast (x y : Int) (w : World) :
    Calls Try.prog 18 #[.agg #[.int .i64 x, .int .i64 y]] w fun e w' => e = .returned (lpV x y) ∧ Below w.heap.size w w' := by
  have HG := Lib.hid (fun wx => implIsCorner x y wx)
  have X1 := Lib.hid (Blk.new w #[.int .i64 x, .int .i64 y] 27)
  cases h : isCn x y
  · have J := Lib.hid (lpV_no h)
    rw [h] at HG
    clear h
    go_enter Try.func18, Try.ntmps18
    go_wp2_with (go_at_call 32; (with_reducible refine (HG.out _).mono ?_); rintro e w1 ⟨rfl, hb⟩)
    go_ret2
    exact ⟨ret_v J.out.symm, Below.trans (by (repeat (first | exact Below.refl _ _ | (refine Below.alloc ?_ (by first | omega | (simp; try omega)) _) | apply Below.drew | apply below_drewN))) (hb.mono (by simp; try omega))⟩
  have J := Lib.hid (lpV_yes h)
  rw [h] at HG
  have A0 := Lib.hid (show lpA x y = lpF x y 200 1 from rfl)
  have HH := Lib.hid h
  clear h
  go_enter Try.func18, Try.ntmps18
  go_wp2_with fail
  refine (HG.out _).mono ?_
  rintro e w1 ⟨rfl, hb1⟩
  have X2 := Lib.hid (X1.out.below hb1 (by simp))
  have D1 := Lib.hid (Below.trans (by (repeat (first | exact Below.refl _ _ | (refine Below.alloc ?_ (by first | omega | (simp; try omega)) _) | apply Below.drew | apply below_drewN))) (hb1.mono (by simp; try omega)) : Below w.heap.size w w1)
  have hlw : w.heap.size < w1.heap.size := X2.out.lt
  clear hb1 X1
  go_wp2
  go_loopw [4] (fun v wr => ∃ p : Int, (1 ≤ p ∧ p ≤ 150) ∧ v = .int .i64 p ∧ Hid (lpA x y = lpF x y (201 - p.toNat) p) ∧ Hid (Below w1.heap.size w1 wr)) (fun v _ => 400 - (intOf v).toNat)
  case atStart => exact ⟨1, by omega, rfl, A0, Lib.hid (Below.refl _ _)⟩
  case round =>
    obtain ⟨p, hp, rfl, hL, HB⟩ := hrel
    obtain ⟨c0, c1, l0⟩ := (X2.out.below HB.out hlw).two
    have hpl : isPl p = true := by simp [isPl]; omega
    have HS := fun wx => hasSpot x y p wx HH.out hpl
    obtain ⟨q, hq⟩ : ∃ q, 201 - p.toNat = q + 1 := ⟨200 - p.toNat, by omega⟩
    have hq' : q = 201 - (p + 1).toNat := by omega
    cases he : (spotsL x y p).isEmpty
    · rw [he] at HS
      have HHS := Lib.hid HS
      have R := Lib.hid (show lpA x y = p by rw [hL.out, hq, lpF_yes he])
      clear hq hq' he HS hpl
      go_wp2_with (go_at_call 33; refine (HHS.out _).mono ?_; rintro e w2 ⟨rfl, hb2⟩)
      go_ret2
      have h12 := D1.out.trans (HB.out.mono D1.out.size)
      exact ⟨ret_v (by rw [J.out, R.out]; rfl), h12.trans (hb2.mono h12.size)⟩
    · have hp150 : p < 150 := by
        by_cases hp2 : p < 150
        · exact hp2
        · rw [spot150 HH.out (by omega) (by omega)] at he; cases he
      rw [he] at HS
      have HHS := Lib.hid HS
      have R := Lib.hid (show lpA x y = lpF x y (201 - (p + 1).toNat) (p + 1) by rw [hL.out, hq, lpF_no he, hq'])
      clear hq hq' he HS hpl
      go_wp2_with (go_at_call 33; refine (HHS.out _).mono ?_; rintro e w2 ⟨rfl, hb2⟩)
      go_roundw
      case rel => exact ⟨p + 1, by omega, by go_num, R, Lib.hid (HB.out.trans (hb2.mono HB.out.size))⟩
      case measure => (simp [intOf]; try omega)
end Go.Proofs.Ytfkdkhoihlkgcac
