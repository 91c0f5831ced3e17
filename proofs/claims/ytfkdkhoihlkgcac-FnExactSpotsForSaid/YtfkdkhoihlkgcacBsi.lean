/- BestSpot, impl's side. -/
import Derived.Test.YtfkdkhoihlkgcacBsp
namespace Go.Proofs.Ytfkdkhoihlkgcac
set_option linter.unusedVariables false
open Go.RowKit Go.Shelf
attribute [local go_sem] Oper.semAt_some
attribute [local simp] wide_fn wide_depth
attribute [local go_sem] wide_fn wide_depth

theorem undPl : Try.prog.underlying 47 = some (.array 2 3) := by kernel_rfl
theorem eqPl (a b c d : Int) (w : World) : (Op.equalIn 10000 47 (.agg #[.int .i64 a, .int .i64 b]) (.agg #[.int .i64 c, .int .i64 d])).run Try.prog w = .ok (a == c && b == d) w := by
  have u3 := Try.underlying3
  have a3 := Try.isAgg3
  have z3 := Try.sizeOf3
  rw [show (10000 : Nat) = 9999 + 1 from rfl, Op.equalIn]
  simp only [Sem.run_bind, run_underlying undPl, Result.andThen_ok]
  simp only [Std.Legacy.Range.forIn_eq_forIn_range', Std.Legacy.Range.size, Nat.sub_zero, Nat.add_sub_cancel, Nat.div_one, List.range'_succ, List.range'_zero, List.forIn_cons, List.forIn_nil]
  go_simp
  by_cases h1 : a = c <;> by_cases h2 : b = d <;> simp [h1, h2]
theorem plNone (a b : Int) (r : Bool) (w : World) (hr : (a == 0 && b == 0) = r) :
    Calls Try.prog 31 #[.agg #[.int .i64 a, .int .i64 b]] w fun e w' => e = .returned (.bool r) ∧ w.alloc (.cells #[.int .i64 a, .int .i64 b] 47) = w' := by
  have hP := (Plc.new w a b).blk.cell 0
  have hQ := (Plc.new w a b).blk.cell 1
  have hE := eqPl a b 0 0 (w.alloc (.cells #[.int .i64 a, .int .i64 b] 47))
  rw [hr] at hE
  clear hr
  simp only [List.getElem?_toArray, List.getElem?_cons_zero, List.getElem?_cons_succ] at hP hQ
  go_enter Try.func31, Try.ntmps31
  go_wp2
  go_ret
  exact ⟨rfl, rfl⟩
theorem Plc.set {W : World} {g : Nat} {a b : Int} (h : Plc W g a b) (c d : Int) : Plc ((W.setCell ⟨g, 0, none⟩ (.int .i64 c)).setCell ⟨g, 1, none⟩ (.int .i64 d)) g c d := by
  have h1 := heap_setCell_same W g 0 #[.int .i64 a, .int .i64 b] 47 (.int .i64 c) h
  have h2 := heap_setCell_same (W.setCell ⟨g, 0, none⟩ (.int .i64 c)) g 1 _ 47 (.int .i64 d) h1
  exact h2
theorem Plc.keepO {E : Nat → Obj → Prop} {W W' : World} {g : Nat} {a b : Int} (h : Plc W g a b) (hk : KeepO E W W') (hE : ¬ E g (.cells #[.int .i64 a, .int .i64 b] 47 (0, 0))) : Plc W' g a b := hk.block g _ h hE
theorem Plc.grown {W W' : World} {g : Nat} {a b : Int} {r : Option Nat} (h : Plc W g a b) (hg : W.grownBy W' r) (hr : some g ≠ r) : Plc W' g a b := (hg.block g (Array.getElem?_eq_some_iff.1 h).1 hr).trans h
theorem set2_grownP (w : World) (b : Nat) (u v : Value) : w.grownBy ((w.setCell ⟨b, 0, none⟩ u).setCell ⟨b, 1, none⟩ v) (some b) :=
  ⟨rfl, rfl, rfl, by simp [World.setCell], fun k _ hk => (Below.heap_setCell _ _ _ k (by intro e; exact hk (by rw [e]))).trans (Below.heap_setCell _ _ _ k (by intro e; exact hk (by rw [e])))⟩
theorem Boxed.keptBy {W W' : World} {B : Nat} {t : TypeId} {v : Value} {r : Option Nat} (h : Boxed W B t v) (hg : W.grownBy W' r) (hr : some B ≠ r) : Boxed W' B t v := h.kept hg hr
/-- what stands at a round of BestSpot's loop -/
structure BsI (x y : Int) (N g : Nat) (w W0 : World) (o : Option (Int × Int × Int)) (W' : World) : Prop where
  b : Plc W' (N + 1) (o1 o) (o2 o)
  l : Boxed W' (N + 2) 3 (.int .i64 (o3 o))
  n : Boxed W' N 53 (.func (.func 40) #[] #[.pointer (some ⟨g, 0, none⟩)])
  p : Plc W' g (2 * x) (2 * y)
  ok : BOk o
  bel : Below w.heap.size w W'
  sz : W0.heap.size ≤ W'.heap.size
theorem BsI.own {x y : Int} {N g : Nat} {w W0 A B : World} {o : Option (Int × Int × Int)} {row : Option Nat} (h : BsI x y N g w W0 o A) (hg : A.grownBy B row) (hw : w.heap.size ≤ W0.heap.size) (hr : ∀ r, row = some r → W0.heap.size ≤ r ∧ ∃ ob : Obj, A.heap[r]? = some ob ∧ ob.isCells = false) : BsI x y N g w W0 o B :=
  ⟨plcOwn () A B row h.b hg hr, boxOwn () A B row h.l hg hr, boxOwn () A B row h.n hg hr, plcOwn () A B row h.p hg hr, h.ok, h.bel.grown hg h.bel.size (fun k e => Nat.le_trans hw (hr k e).1), Nat.le_trans h.sz hg.size⟩
theorem BsI.below {x y : Int} {N g : Nat} {w W0 A B : World} {o : Option (Int × Int × Int)} (h : BsI x y N g w W0 o A) (hb : Below A.heap.size A B) (hw : w.heap.size ≤ W0.heap.size) : BsI x y N g w W0 o B :=
  ⟨h.b.below hb, boxB h.l hb, boxB h.n hb, h.p.below hb, h.ok, h.bel.trans (hb.mono (Nat.le_trans hw h.sz)), Nat.le_trans h.sz hb.size⟩
theorem BsI.put {x y : Int} {N g : Nat} {w W0 W : World} {o o' : Option (Int × Int × Int)} (h : BsI x y N g w W0 o W) (hok : BOk o') (hg : g < N) (hw : w.heap.size ≤ N) :
    BsI x y N g w W0 o' (((W.setCell ⟨N + 1, 0, none⟩ (.int .i64 (o1 o'))).setCell ⟨N + 1, 1, none⟩ (.int .i64 (o2 o'))).setCell ⟨N + 2, 0, none⟩ (.int .i64 (o3 o'))) := by
  have g1 := set2_grownP W (N + 1) (.int .i64 (o1 o')) (.int .i64 (o2 o'))
  have g2 := grownBy_setCell' ((W.setCell ⟨N + 1, 0, none⟩ (.int .i64 (o1 o'))).setCell ⟨N + 1, 1, none⟩ (.int .i64 (o2 o'))) (N + 2) (.int .i64 (o3 o'))
  have hb := (h.b.set (o1 o') (o2 o')).grown g2 (by simp)
  have hl2 := Boxed.keptBy h.l g1 (by simp)
  have hn := Boxed.keptBy h.n g1 (by simp)
  have hp := (h.p.grown g1 (by simp; omega)).grown g2 (by simp; omega)
  have hbl := (h.bel.grown g1 h.bel.size (fun k e => by cases e; omega))
  refine ⟨hb, Boxed.set _ hl2, Boxed.keptBy hn g2 (by simp), hp, hok, hbl.grown g2 hbl.size (fun k e => by cases e; omega), ?_⟩
  exact Nat.le_trans h.sz (Nat.le_trans g1.size g2.size)
theorem put_keep (W : World) (N : Nat) (u v z : Value) : KeepO (fun k _ => k = N + 1 ∨ k = N + 2) W (((W.setCell ⟨N + 1, 0, none⟩ u).setCell ⟨N + 1, 1, none⟩ v).setCell ⟨N + 2, 0, none⟩ z) :=
  ((KeepO.of_grown (E := fun k _ => k = N + 1) (set2_grownP W (N + 1) u v) fun k o e _ => by cases e; rfl).mono fun k o e => .inl e).trans (KeepO.of_grown (E := fun k _ => k = N + 2) (grownBy_setCell' _ (N + 2) z) fun k o e _ => by cases e; rfl) fun k o _ e => .inr e
macro "qb " v:term ", " f:tacticSeq : tactic => `(tactic|
  (refine wpQuiet_step (fun K hK => ?_)
   rw [if_pos (by go_simp)]
   refine ⟨$v, fun $(Lean.mkIdent `W) $(Lean.mkIdent `hW) => ?_, hK _ ?_⟩
   · ($f)
   clear hK K
   simp only [Act.put, List.setIfInBounds_toArray, List.set_cons_zero, List.set_cons_succ]))
set_option maxHeartbeats 8000000 in
set_option maxRecDepth 100000 in
theorem implBest (x y p : Int) (w : World) :
    Calls Try.prog 16 #[.agg #[.int .i64 x, .int .i64 y], .int .i64 p] w fun e w' => e = .returned (bestV x y p) ∧ Below w.heap.size w w' := by
  have HG := Lib.hid (fun wx => isWith x y p wx)
  have X1 := Lib.hid (Blk.new w #[.int .i64 x, .int .i64 y] 27)
  cases h : bsF x y p
  · have J := Lib.hid (bestV_no h)
    rw [show (isCn x y && isPl p) = false from h] at HG
    clear h
    go_enter Try.func16, Try.ntmps16
    go_wp2_with (go_at_call 22; (with_reducible refine (HG.out _).mono ?_); rintro e w1 ⟨rfl, hb⟩)
    refine bodyPost_ret (v := .tuple #[.int .i64 0, .int .i64 0, .int .i64 0, .bool false]) (by simp [results, Try.f16, go_sem]) rfl ?_
    exact ⟨ret_v J.out.symm, Below.trans (by (repeat (first | exact Below.refl _ _ | (refine Below.alloc ?_ (by first | omega | (simp; try omega)) _) | apply Below.drew | apply below_drewN))) (hb.mono (by simp; try omega))⟩
  have J := Lib.hid (bestV_yes h)
  rw [show (isCn x y && isPl p) = true from h] at HG
  simp only [bsF, Bool.and_eq_true] at h
  obtain ⟨hc, hpl⟩ := h
  have hp := isPl_in hpl
  have HND := Lib.hid (fun wx => needsAt x y wx hc)
  refine (callsIn_wide (n := 9)).1 ?_
  refine callsIn_of_wp_marks Try.func16 rfl trivial ?_ rfl
  simp only [Try.ntmps16, List.size_toArray, List.length_cons, List.length_nil, Nat.reduceAdd, Nat.reduceSub, Array.replicate_succ, Array.replicate_zero, List.push_toArray, List.append_toArray, List.nil_append, List.cons_append]
  gi_wp2_with fail
  refine ((callsIn_wide).2 (HG.out _)).mono ?_
  rintro e w1 ⟨rfl, hb1⟩
  obtain ⟨z0, z1, z2⟩ := (X1.out.below hb1 (by simp)).two
  have D1 := Lib.hid (Below.trans (by (repeat (first | exact Below.refl _ _ | (refine Below.alloc ?_ (by first | omega | (simp; try omega)) _) | apply Below.drew | apply below_drewN))) (hb1.mono (by simp; try omega)) : Below w.heap.size w w1)
  have hs1 := D1.out.size
  clear hb1
  gi_wp2_with fail
  refine ((callsIn_wide).2 (HND.out _)).mono ?_
  rintro e w2 ⟨g, rfl, hg, hPg, hb2⟩
  have D2 := Lib.hid (D1.out.trans (hb2.mono hs1))
  have PG := Lib.hid hPg
  have hgl : g < w2.heap.size := (Array.getElem?_eq_some_iff.1 hPg).1
  have hs2 := D2.out.size
  have FS := Lib.hid (fun wx => firstSpots p wx)
  clear hb2 hPg HND D1 HG X1 z0 z1 z2
  gi_wp2_with (gi_at_call 30; refine ((callsIn_wide).2 (FS.out _)).mono ?_; rintro e w3 ⟨rfl, rfl⟩)
  have hb0 : Below w2.heap.size w2 ((((w2.alloc (.cells #[(.func (.func 40) #[] #[.pointer (some ⟨g, 0, none⟩)])] 53)).alloc (.cells #[.int .i64 0, .int .i64 0] 47)).alloc (.cells #[.int .i64 0] 3)).alloc (.cells #[.int .i64 p] 3)) := ((((Below.refl _ w2).alloc (Nat.le_refl _) _).alloc (by simp) _).alloc (by simp; omega) _).alloc (by simp; omega) _
  have hsz : ((((w2.alloc (.cells #[(.func (.func 40) #[] #[.pointer (some ⟨g, 0, none⟩)])] 53)).alloc (.cells #[.int .i64 0, .int .i64 0] 47)).alloc (.cells #[.int .i64 0] 3)).alloc (.cells #[.int .i64 p] 3)).heap.size = w2.heap.size + 4 := by simp
  have i0 : Boxed ((((w2.alloc (.cells #[(.func (.func 40) #[] #[.pointer (some ⟨g, 0, none⟩)])] 53)).alloc (.cells #[.int .i64 0, .int .i64 0] 47)).alloc (.cells #[.int .i64 0] 3)).alloc (.cells #[.int .i64 p] 3)) w2.heap.size 53 (.func (.func 40) #[] #[.pointer (some ⟨g, 0, none⟩)]) := (((Boxed.new w2 53 (.func (.func 40) #[] #[.pointer (some ⟨g, 0, none⟩)])).alloc _).alloc _).alloc _
  have i1 : Plc ((((w2.alloc (.cells #[(.func (.func 40) #[] #[.pointer (some ⟨g, 0, none⟩)])] 53)).alloc (.cells #[.int .i64 0, .int .i64 0] 47)).alloc (.cells #[.int .i64 0] 3)).alloc (.cells #[.int .i64 p] 3)) (w2.heap.size + 1) 0 0 := by
    have h := (((Plc.new (w2.alloc (.cells #[(.func (.func 40) #[] #[.pointer (some ⟨g, 0, none⟩)])] 53)) 0 0).below ((Below.refl _ _).alloc (Nat.le_refl _) (.cells #[.int .i64 0] 3))).below ((Below.refl _ _).alloc (Nat.le_refl _) (.cells #[.int .i64 p] 3)))
    rwa [World.size_alloc] at h
  have i2 : Boxed ((((w2.alloc (.cells #[(.func (.func 40) #[] #[.pointer (some ⟨g, 0, none⟩)])] 53)).alloc (.cells #[.int .i64 0, .int .i64 0] 47)).alloc (.cells #[.int .i64 0] 3)).alloc (.cells #[.int .i64 p] 3)) (w2.heap.size + 2) 3 (.int .i64 0) := by
    have h := (Boxed.new ((w2.alloc (.cells #[(.func (.func 40) #[] #[.pointer (some ⟨g, 0, none⟩)])] 53)).alloc (.cells #[.int .i64 0, .int .i64 0] 47)) 3 (.int .i64 0)).alloc (.cells #[.int .i64 p] 3)
    rwa [World.size_alloc, World.size_alloc] at h
  have i3 : Boxed ((((w2.alloc (.cells #[(.func (.func 40) #[] #[.pointer (some ⟨g, 0, none⟩)])] 53)).alloc (.cells #[.int .i64 0, .int .i64 0] 47)).alloc (.cells #[.int .i64 0] 3)).alloc (.cells #[.int .i64 p] 3)) (w2.heap.size + 3) 3 (.int .i64 p) := by
    have h := Boxed.new (((w2.alloc (.cells #[(.func (.func 40) #[] #[.pointer (some ⟨g, 0, none⟩)])] 53)).alloc (.cells #[.int .i64 0, .int .i64 0] 47)).alloc (.cells #[.int .i64 0] 3)) 3 (.int .i64 p)
    rwa [World.size_alloc, World.size_alloc, World.size_alloc] at h
  have i4 := PG.out.below hb0
  have hB0 := D2.out.trans (hb0.mono hs2)
  clear hb0 PG D2 FS
  generalize ((((w2.alloc (.cells #[(.func (.func 40) #[] #[.pointer (some ⟨g, 0, none⟩)])] 53)).alloc (.cells #[.int .i64 0, .int .i64 0] 47)).alloc (.cells #[.int .i64 0] 3)).alloc (.cells #[.int .i64 p] 3)) = W0 at *
  generalize hN : w2.heap.size = N at *
  have HE : RowE (fun k o => k = N + 1 ∨ k = N + 2) W0.heap.size := fun k o h => .inl (by omega)
  have FG := firstGives p (N + 3) 8 (fun k o => k = N + 1 ∨ k = N + 2) W0 hp i3 HE (by omega)
  have H0 : BsI x y N g w W0 (bst x y []) W0 := ⟨i1, i2, i0, i4, bok_nil x y, hB0, Nat.le_refl _⟩
  have hwW : w.heap.size ≤ W0.heap.size := by omega
  clear i0 i1 i2 i3 i4 hB0
  refine wpIn_range_Y rfl rfl (gf := 38) (lb := #[.pointer (some ⟨N + 3, 0, none⟩)]) rfl trivial (enters_of Try.func38 (by kernel_rfl) rfl)
    (encs := fun x : Int × Int => #[.agg #[.int .i64 x.1, .int .i64 x.2]]) (E := fun k o => k = N + 1 ∨ k = N + 2) (xs := spots p) HE.cells FG (fun _ => rfl)
    (fun pre W' => BsI x y N g w W0 (bst x y pre) W') (fun c pre W' => False)
    (fun s A B row hs hg hr => hs.own hg hwW hr) (fun c s A B row hs hg hr => hs) H0
    (fun s a' W' => ∃ b, W0.heap.size ≤ b ∧ a' = { tmps := #[.agg #[.int .i64 x, .int .i64 y], .int .i64 p, .pointer (some ⟨w.heap.size, 0, none⟩), undef, .int .i64 0, .int .i64 0, .int .i64 0, .bool false, .pointer (some ⟨N, 0, none⟩), .pointer (some ⟨N + 1, 0, none⟩), .pointer (some ⟨N + 2, 0, none⟩), .pointer (some ⟨b, 0, none⟩), undef, .agg #[.int .i64 x, .int .i64 y], .int .i64 p, .bool true, .bool false, .agg #[.int .i64 x, .int .i64 y], (.func (.func 40) #[] #[.pointer (some ⟨g, 0, none⟩)]), .int .i64 p, .func (.func 38) #[] #[.pointer (some ⟨N + 3, 0, none⟩)], .agg #[.int .i64 s.1, .int .i64 s.2], undef, undef, undef, undef, undef, undef, undef, undef, undef, undef, undef, undef, undef, undef, undef, undef, undef, undef, undef, undef], defers := [] } ∧ Plc W' b s.1 s.2)
    (fun s a' _ A B row hs hg hr => by
      obtain ⟨b, h1, h2, h3⟩ := hs
      exact ⟨b, h1, h2, plcOwn () A B row h3 hg hr⟩) ?assign ?body ?done ?stop
  case assign =>
    rintro l2 m pre s A K hI hK
    have hbA : Below A.heap.size A (A.alloc (.cells #[.int .i64 s.1, .int .i64 s.2] 47)) := (Below.refl _ A).alloc (Nat.le_refl _) _
    gi_wp2
    exact hK _ _ (KeepO.of_below hbA) (hI.below hbA hwW) ⟨A.heap.size, hI.sz, rfl, Plc.new A _ _⟩
  case body =>
    rintro l2 m pre s a' A hI ⟨b, hb, rfl, hPb⟩ hpre
    have hbd := Sp1.bd hp (spots_in (pre_mem hpre))
    have cn := hI.n.cell
    have ln := hI.n.lt
    have R0 := rd_two hPb.blk
    obtain ⟨b0, b1, lb⟩ := hPb.blk.two
    obtain ⟨s1, s2⟩ := s
    have hcn := isCn_in hc
    dsimp only at hbd R0 b0 b1 ⊢
    have CL := Lib.hid (fun (k : Nat) => (by
      have h := sqCallD g (2 * x) (2 * y) _ [s1, s2] (A.drewN k) (hI.p.below (below_drewN (Below.refl _ _) k)).blk (R0.below (below_drewN (Below.refl _ _) k)) (by simp) (by omega) (by omega) (gt_two (by omega) (by omega))
      rw [show [s1, s2].length = 2 from rfl, nd_sq] at h
      exact h : Calls Try.prog 40 #[.slice (some ⟨b, 0, none⟩) 2 2, .pointer (some ⟨g, 0, none⟩)] (A.drewN k) fun e w' => e = .returned (.int .i64 (nd x y s1 s2)) ∧ ∃ m, w' = (A.drewN k).drewN m))
    have hnd := nd_bd hc hbd.1 hbd.2
    have ST := Lib.hid (bst_snoc x y pre (s1, s2))
    have HOK := Lib.hid (hI.ok.step (s := (s1, s2)) hc hbd.1 hbd.2)
    have HI := Lib.hid hI
    have hPb' := hPb
    clear FG H0 HE hPb R0 hpre
    gi_upto_region 8 with fail
    refine wpIn_region_quiet_tail 3 (fun _ => trivial) rfl (fun h => callsIn_wide.2 h) (by kernel_rfl) (by kernel_rfl) (by kernel_rfl) ?_
    simp only [List.take_succ_cons, List.take_zero, List.drop_succ_cons, List.drop_zero]
    repeat (quiet_step ((go_at_call 40; exact Calls.quiet_of (CL.out _))))
    refine wpQuiet_nil ?_
    intro _ hw'
    obtain ⟨nq, rfl⟩ := hw'
    have hq := below_drewN (Below.refl A.heap.size A) nq
    have HJ := Lib.hid (HI.out.below hq hwW)
    have PJ := Lib.hid (hPb'.below hq)
    have HI5 := HI.out
    clear HI CL cn ln b0 b1 lb hq
    obtain ⟨d0, d1, dl⟩ := HJ.out.b.blk.two
    obtain ⟨e0, el⟩ : (A.drewN nq).cell? ⟨N + 2, 0, none⟩ = some (.int .i64 (o3 (bst x y pre))) ∧ N + 2 < (A.drewN nq).heap.size := ⟨HJ.out.l.cell, HJ.out.l.lt⟩
    have hr : ∃ r, (o1 (bst x y pre) == 0 && o2 (bst x y pre) == 0) = r := ⟨_, rfl⟩
    obtain ⟨r, hr⟩ := hr
    have hrn := hr
    have NN := Lib.hid (fun wx => plNone (o1 (bst x y pre)) (o2 (bst x y pre)) r wx hr)
    clear hr
    gi_wp2_with fail
    refine ((callsIn_wide).2 (NN.out _)).mono ?_
    rintro e w5 ⟨rfl, hw5⟩
    have hb5 : Below A.heap.size A w5 := hw5 ▸ (below_drewN (Below.refl A.heap.size A) nq).alloc (by simp) _
    have HK := Lib.hid (HI5.below hb5 hwW)
    have PK := Lib.hid (hPb'.below hb5)
    have HBK := Lib.hid hb5
    clear hw5 hb5 HJ PJ d0 d1 dl e0 el NN HI5 hPb'
    obtain ⟨d0, d1, dl⟩ := HK.out.b.blk.two
    obtain ⟨e0, el⟩ : w5.cell? ⟨N + 2, 0, none⟩ = some (.int .i64 (o3 (bst x y pre))) ∧ N + 2 < w5.heap.size := ⟨HK.out.l.cell, HK.out.l.lt⟩
    obtain ⟨f0, f1, fl⟩ := PK.out.blk.two
    obtain ⟨o, ho⟩ : ∃ o, bst x y pre = o := ⟨_, rfl⟩
    rw [ho] at ST HOK hrn HK d0 d1 e0
    have r0 := HK.out.b.blk.fr 0
    have r1 := HK.out.b.blk.fr 1
    have r2 := HK.out.l.frozen
    have E1 := Lib.hid (fun (h : bstep x y o (s1, s2) = some (s1, s2, nd x y s1 s2)) => HK.out.put (o' := bst x y (pre ++ [(s1, s2)])) (by rw [ST.out]; exact HOK.out) hgl hs2)
    have EK := Lib.hid (put_keep w5 N (.int .i64 s1) (.int .i64 s2) (.int .i64 (nd x y s1 s2)))
    cases o with
    | none =>
      obtain rfl : true = r := hrn
      have E2 := E1.out rfl
      rw [show bst x y (pre ++ [(s1, s2)]) = some (s1, s2, nd x y s1 s2) from ST.out] at E2
      have E3 := Lib.hid E2
      clear E2 E1 hI
      gi_wp2_with fail
      refine ⟨?_, ?_⟩
      · exact (KeepO.of_below HBK.out).trans EK.out fun k o _ e => e
      · show BsI x y N g w W0 (bst x y (pre ++ [(s1, s2)])) _
        rw [show bst x y (pre ++ [(s1, s2)]) = some (s1, s2, nd x y s1 s2) from ST.out]
        exact E3.out
    | some o =>
      obtain rfl : false = r := by
        have := HK.out.ok.a o rfl
        rw [← hrn]; simp [o1]; intro h; omega
      cases hlt : decide (nd x y s1 s2 < o.2.2) with
      | true =>
        have es : bstep x y (some o) (s1, s2) = some (s1, s2, nd x y s1 s2) := by simp only [bstep]; rw [if_pos (by simpa using hlt)]
        have E2 := E1.out es
        rw [show bst x y (pre ++ [(s1, s2)]) = some (s1, s2, nd x y s1 s2) from ST.out.trans es] at E2
        have E3 := Lib.hid E2
        have ST2 := Lib.hid (ST.out.trans es)
        have lt := hlt
        simp only [decide_eq_true_eq] at lt
        have o3e : o3 (some o) = o.2.2 := rfl
        clear E2 E1 hI es hlt ST HOK
        gi_wp2_with fail
        refine ⟨?_, ?_⟩
        · exact (KeepO.of_below HBK.out).trans EK.out fun k o _ e => e
        · show BsI x y N g w W0 (bst x y (pre ++ [(s1, s2)])) _
          rw [ST2.out]
          exact E3.out
      | false =>
        have es : bstep x y (some o) (s1, s2) = some o := by simp only [bstep]; rw [if_neg (by simpa using hlt)]
        have ST2 := Lib.hid (ST.out.trans es)
        have lt := hlt
        simp only [decide_eq_false_iff_not] at lt
        have o3e : o3 (some o) = o.2.2 := rfl
        clear E1 hI es hlt ST HOK
        gi_wp2_with fail
        refine ⟨?_, ?_⟩
        · exact KeepO.of_below HBK.out
        · show BsI x y N g w W0 (bst x y (pre ++ [(s1, s2)])) _
          rw [ST2.out]
          exact HK.out
  case done =>
    rintro D A hD hI hK
    obtain ⟨c0, c1, cl⟩ := hI.b.blk.two
    have l0 := hI.l.cell
    have ll := hI.l.lt
    have hrr : (o1 (bst x y (spots p)) == 0 && o2 (bst x y (spots p)) == 0) = (bst x y (spots p)).isNone := by
      have hok := hI.ok
      cases ho : bst x y (spots p) with
      | none => rfl
      | some o => have := hok.a o ho; simp [o1]; intro h; omega
    have NN := Lib.hid (fun wx => plNone (o1 (bst x y (spots p))) (o2 (bst x y (spots p))) _ wx hrr)
    gi_upto_region 11 with fail
    have CB : ∀ W, Below A.heap.size A W → W.cell? ⟨N + 1, 0, none⟩ = some (.int .i64 (o1 (bst x y (spots p)))) ∧ W.cell? ⟨N + 1, 1, none⟩ = some (.int .i64 (o2 (bst x y (spots p)))) ∧ W.cell? ⟨N + 2, 0, none⟩ = some (.int .i64 (o3 (bst x y (spots p)))) := fun W hW => by
      obtain ⟨c0, c1, cl⟩ := (hI.b.below hW).blk.two
      exact ⟨c0, c1, (boxB hI.l hW).cell⟩
    refine wpIn_region_quiet_tailC (C := fun W' => Below A.heap.size A W') 11 (fun _ => trivial) rfl (fun h => callsIn_wide.2 h) (by kernel_rfl) (by kernel_rfl) (by kernel_rfl) (below_drewN (Below.refl _ _) 1) ?_
    simp only [List.take_succ_cons, List.take_zero, List.drop_succ_cons, List.drop_zero]
    qb (.pointer (some ⟨N + 1, 0, none⟩)), go_simp
    qb (.int .i64 (o1 (bst x y (spots p)))), obtain ⟨c0, c1, l0⟩ := CB W hW; go_simp
    qb (.pointer (some ⟨N + 1, 1, none⟩)), go_simp
    qb (.int .i64 (o2 (bst x y (spots p)))), obtain ⟨c0, c1, l0⟩ := CB W hW; go_simp
    qb (.int .i64 (o3 (bst x y (spots p)))), obtain ⟨c0, c1, l0⟩ := CB W hW; go_simp
    qb (.agg #[.int .i64 (o1 (bst x y (spots p))), .int .i64 (o2 (bst x y (spots p)))]), obtain ⟨c0, c1, l0⟩ := CB W hW; go_simp
    qb (.bool (bst x y (spots p)).isNone), go_simp; refine (NN.out _).mono ?_; rintro e w5 ⟨rfl, hw5⟩; exact ⟨rfl, (congrArg (Below A.heap.size A) hw5).mp (hW.alloc hW.size _)⟩
    qb (.bool (bst x y (spots p)).isSome), go_simp
    qb (.int .i64 (o1 (bst x y (spots p)))), go_simp
    qb (.int .i64 (o2 (bst x y (spots p)))), go_simp
    qb (.int .i64 (o3 (bst x y (spots p)))), go_simp
    refine wpQuiet_nil ?_
    intro W hW
    have hKW := (hW.block D (Array.getElem?_eq_some_iff.1 hK).1).trans hK
    have hBW := hI.bel.trans (hW.mono hI.bel.size)
    clear CB NN c0 c1 cl l0 ll hI hW FG H0 HE
    gi_wp2_with fail
    refine ⟨by simp, .inl ⟨_, _, rfl, run_takeDeferred hKW, ?_⟩⟩
    refine ⟨bestV x y p, ?_, rfl, hBW.trans (belowK_b (w := W0) (by omega) _ D _ _ hD hKW rfl rfl)⟩
    simp [results, Try.f16, go_sem]
    rw [J.out]; rfl
  case stop =>
    rintro D c pre A hD hpre hF hK
    exact hF.elim
end Go.Proofs.Ytfkdkhoihlkgcac
