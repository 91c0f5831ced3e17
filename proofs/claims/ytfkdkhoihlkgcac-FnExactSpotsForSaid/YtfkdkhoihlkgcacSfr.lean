/- impl.spotsFor: an iterator over the spots with which a second plank reaches. -/
import Derived.Test.YtfkdkhoihlkgcacFst
import Derived.Laws.EntriesVeiled
import Derived.Test.YtfkdkhoihlkgcacQt
namespace Go.Proofs.Ytfkdkhoihlkgcac
set_option linter.unusedVariables false
open Go.RowKit Go.Shelf
attribute [local go_sem] Oper.semAt_some
attribute [local simp] wide_fn wide_depth
attribute [local go_sem] wide_fn wide_depth

def okS (x y p : Int) (s : Int × Int) : Bool := decide (nd x y s.1 s.2 ≤ 4 * p * p)
def spotsL (x y p : Int) : List (Int × Int) := (spots p).filter (okS x y p)
theorem okS_app {x y p : Int} {s : Int × Int} (pre : List (Int × Int)) (h : okS x y p s = true) : (pre ++ [s]).filter (okS x y p) = pre.filter (okS x y p) ++ [s] := by simp [h]
theorem okS_not {x y p : Int} {s : Int × Int} (pre : List (Int × Int)) (h : okS x y p s = false) : (pre ++ [s]).filter (okS x y p) = pre.filter (okS x y p) := by simp [h]
theorem spotsFor (x y p : Int) (w : World) :
    Calls Try.prog 23 #[.agg #[.int .i64 x, .int .i64 y], .int .i64 p] w fun e w' => e = .returned (.func (.func 36) #[] #[.pointer (some ⟨w.heap.size, 0, none⟩), .pointer (some ⟨w.heap.size + 1, 0, none⟩)]) ∧
      (w.alloc (.cells #[.int .i64 x, .int .i64 y] 27)).alloc (.cells #[.int .i64 p] 3) = w' := by
  go_enter Try.func23, Try.ntmps23
  go_wp2
  go_ret
  exact ⟨rfl, rfl⟩
/-- a corner that is boxed -/
def Crn (W : World) (g : Nat) (a b : Int) : Prop := W.heap[g]? = some (.cells #[.int .i64 a, .int .i64 b] 27 (0, 0))
theorem Crn.blk {W : World} {g : Nat} {a b : Int} (h : Crn W g a b) : Blk W g #[.int .i64 a, .int .i64 b] := ⟨_, h⟩
theorem Crn.below {W W' : World} {g : Nat} {a b : Int} (h : Crn W g a b) (hb : Below W.heap.size W W') : Crn W' g a b := (hb.block g (Array.getElem?_eq_some_iff.1 h).1).trans h
theorem plcOwn {B g : Nat} {a b : Int} : OwnFrom B (fun (_ : Unit) W => Plc W g a b) := fun s W W' row hs hg hr => (hg.block g (Array.getElem?_eq_some_iff.1 hs).1 fun e => by
  obtain ⟨_, o, ho, hc⟩ := hr g e.symm
  rw [show W.heap[g]? = _ from hs] at ho; cases ho; cases hc).trans hs
/-- what E tells of is no block of another kind from B on -/
theorem RowE.no {E : Nat → Obj → Prop} {B k : Nat} {cs : Array Value} {T : TypeId} {fr : Nat × Nat} (h : RowE E B) (hk : B ≤ k) (hT : T ≠ 48) : ¬ E k (.cells cs T fr) := fun e => by
  rcases h k _ e with h2 | ⟨_, _, h2⟩
  · omega
  · injection h2 with _ h3; exact hT h3
set_option maxHeartbeats 4000000 in
set_option maxRecDepth 100000 in
theorem spotGives (x y p : Int) (cb pb n : Nat) (E : Nat → Obj → Prop) (w : World) (hc : isCn x y = true) (hp : isPl p = true) (hC : Crn w cb x y) (hB : Boxed w pb 3 (.int .i64 p)) (hE : RowE E w.heap.size)
    (hcb : ¬ E cb (.cells #[.int .i64 x, .int .i64 y] 27 (0, 0))) (hpb : ¬ E pb (.cells #[.int .i64 p] 3 (0, 0))) :
    GivesY Fence.wide n Try.prog 36 #[.pointer (some ⟨cb, 0, none⟩), .pointer (some ⟨pb, 0, none⟩)] (fun x : Int × Int => #[.agg #[.int .i64 x.1, .int .i64 x.2]]) E (spotsL x y p) w := by
  intro l J Jx W hbW hwl hlr hJ hJx hY h0
  have hlW : l < W.heap.size := by obtain ⟨r, hr⟩ := hlr; exact (Array.getElem?_eq_some_iff.1 hr).1
  have hpl : pb < w.heap.size := hB.lt
  have hcl : cb < w.heap.size := (Array.getElem?_eq_some_iff.1 hC).1
  have CW := Lib.hid (hC.below hbW)
  have BW := Lib.hid (boxB hB hbW)
  have hpb2 := isPl_in hp
  have HND := Lib.hid (fun wx => needsAt x y wx hc)
  have HJ := Lib.hid hJ
  have HJX := Lib.hid hJx
  have HY := Lib.hid hY
  have HE := Lib.hid hE
  have HPB := Lib.hid hpb
  have H0 := Lib.hid h0
  have hsz := hbW.size
  clear hJ hJx hY hE hpb h0 hB hlr hbW hC hcb
  obtain ⟨c0, c1, c2⟩ := ((CW.out.blk).alloc (.cells #[.func (.yield l) #[] #[]] 58)).two
  have cp0 := BW.out.cell
  have hpW := BW.out.lt
  refine callsIn_of_wp_marks Try.func36 rfl trivial ?_ rfl
  simp only [Try.ntmps36, List.size_toArray, List.length_cons, List.length_nil, Nat.reduceAdd, Nat.reduceSub, Array.replicate_succ, Array.replicate_zero, List.push_toArray, List.append_toArray, List.nil_append, List.cons_append]
  gi_wp2_with fail
  refine ((callsIn_wide).2 (HND.out _)).mono ?_
  rintro e w1 ⟨g, rfl, hg, hPg, hb1⟩
  have YB1 := Lib.hid (boxB (Boxed.new W 58 (.func (.yield l) #[] #[])) hb1)
  have BW1 := Lib.hid (boxB (BW.out.alloc _) hb1)
  have D1 := Lib.hid (((Below.refl W.heap.size W).alloc (Nat.le_refl _) (.cells #[.func (.yield l) #[] #[]] 58)).trans (hb1.mono (by simp)))
  have PG1 := Lib.hid hPg
  have hg1 : W.heap.size < g := by simp at hg; omega
  have hgl : g < w1.heap.size := (Array.getElem?_eq_some_iff.1 hPg).1
  have cp1 := BW1.out.cell
  have hp1 := BW1.out.lt
  have hs1 := D1.out.size
  clear hb1 hPg hg c0 c1 c2 cp0 HND
  have FS := Lib.hid (fun wx => firstSpots p wx)
  gi_wp2_with (gi_at_call 30; refine ((callsIn_wide).2 (FS.out _)).mono ?_; rintro e w2 ⟨rfl, rfl⟩)
  have hb2 : Below w1.heap.size w1 ((w1.alloc (.cells #[.func (.func 40) #[] #[.pointer (some ⟨g, 0, none⟩)]] 53)).alloc (.cells #[.int .i64 p] 3)) := ((Below.refl _ w1).alloc (Nat.le_refl _) _).alloc (by simp) _
  have NB2 := Lib.hid ((Boxed.new w1 53 (.func (.func 40) #[] #[.pointer (some ⟨g, 0, none⟩)])).alloc (.cells #[.int .i64 p] 3))
  have PP2 : Hid (Boxed ((w1.alloc (.cells #[.func (.func 40) #[] #[.pointer (some ⟨g, 0, none⟩)]] 53)).alloc (.cells #[.int .i64 p] 3)) (w1.heap.size + 1) 3 (.int .i64 p)) := Lib.hid (by
    have := Boxed.new (w1.alloc (.cells #[.func (.func 40) #[] #[.pointer (some ⟨g, 0, none⟩)]] 53)) 3 (.int .i64 p)
    rwa [World.size_alloc] at this)
  have YB2 := Lib.hid (boxB YB1.out hb2)
  have BW2 := Lib.hid (boxB BW1.out hb2)
  have PG2 := Lib.hid (PG1.out.below hb2)
  have J2 := Lib.hid (ownFrom_below HJ.out H0.out (D1.out.trans (hb2.mono hs1)))
  have hs2 : ((w1.alloc (.cells #[.func (.func 40) #[] #[.pointer (some ⟨g, 0, none⟩)]] 53)).alloc (.cells #[.int .i64 p] 3)).heap.size = w1.heap.size + 2 := by simp
  clear hb2 YB1 BW1 PG1 D1 FS cp1
  generalize ((w1.alloc (.cells #[.func (.func 40) #[] #[.pointer (some ⟨g, 0, none⟩)]] 53)).alloc (.cells #[.int .i64 p] 3)) = W2 at *
  generalize w1.heap.size = N at *
  have HEE : RowE (fun k o => E k o ∨ k = l) W2.heap.size := fun k o h => by
    rcases h with h | h
    · rcases HE.out k o h with h2 | h2
      · left; omega
      · exact .inr h2
    · left; omega
  have hNp : ¬ (E (N + 1) (.cells #[.int .i64 p] 3 (0, 0)) ∨ N + 1 = l) := by
    rintro (h | h)
    · exact HE.out.no (by omega) (by decide) h
    · omega
  have FG := firstGives p (N + 1) (n - 1) (fun k o => E k o ∨ k = l) W2 hpb2 PP2.out HEE hNp
  refine wpIn_range_Y rfl rfl (gf := 38) (lb := #[.pointer (some ⟨N + 1, 0, none⟩)]) rfl trivial (enters_of Try.func38 (by kernel_rfl) rfl)
    (encs := fun x : Int × Int => #[.agg #[.int .i64 x.1, .int .i64 x.2]]) (E := fun k o => E k o ∨ k = l) (xs := spots p) HEE.cells FG (fun _ => rfl)
    (fun pre W' => J (pre.filter (okS x y p)) W' ∧ Boxed W' W.heap.size 58 (.func (.yield l) #[] #[]) ∧ Boxed W' N 53 (.func (.func 40) #[] #[.pointer (some ⟨g, 0, none⟩)]) ∧ Boxed W' pb 3 (.int .i64 p) ∧ Plc W' g (2 * x) (2 * y) ∧ W2.heap.size ≤ W'.heap.size)
    (fun c pre W' => c = .ret ∧ Jx (pre.filter (okS x y p)) W')
    (fun s A B row hs hg hr => ⟨ownFrom_le HJ.out (by omega) _ A B row hs.1 hg hr, boxOwn () A B row hs.2.1 hg hr, boxOwn () A B row hs.2.2.1 hg hr, boxOwn () A B row hs.2.2.2.1 hg hr, plcOwn () A B row hs.2.2.2.2.1 hg hr, Nat.le_trans hs.2.2.2.2.2 hg.size⟩)
    (fun c s A B row hs hg hr => ⟨hs.1, ownFrom_le HJX.out (by omega) _ A B row hs.2 hg hr⟩)
    ⟨J2.out, YB2.out, NB2.out, BW2.out, PG2.out, Nat.le_refl _⟩
    (fun s a' W' => ∃ b, W2.heap.size ≤ b ∧ a' = { tmps := #[.func (.yield l) #[] #[], .pointer (some ⟨cb, 0, none⟩), .pointer (some ⟨pb, 0, none⟩), .pointer (some ⟨W.heap.size, 0, none⟩), .pointer (some ⟨N, 0, none⟩), .pointer (some ⟨b, 0, none⟩), .agg #[.int .i64 x, .int .i64 y], .func (.func 40) #[] #[.pointer (some ⟨g, 0, none⟩)], .int .i64 p, .func (.func 38) #[] #[.pointer (some ⟨N + 1, 0, none⟩)], .agg #[.int .i64 s.1, .int .i64 s.2], undef, undef, undef, undef, undef, undef, undef, undef, undef, undef, undef, undef, undef, undef], defers := [] } ∧ Plc W' b s.1 s.2)
    (fun s a' _ A B row hs hg hr => by
      obtain ⟨b, h1, h2, h3⟩ := hs
      exact ⟨b, h1, h2, plcOwn () A B row h3 hg hr⟩) ?assign ?body ?done ?stop
  case assign =>
    rintro l2 m pre s A K ⟨i0, i1, i2, i3, i4, i5⟩ hK
    have hbA : Below A.heap.size A (A.alloc (.cells #[.int .i64 s.1, .int .i64 s.2] 47)) := (Below.refl _ A).alloc (Nat.le_refl _) _
    gi_wp2
    exact hK _ _ (KeepO.of_below hbA) ⟨ownFrom_below HJ.out i0 hbA, boxB i1 hbA, boxB i2 hbA, boxB i3 hbA, i4.below hbA, Nat.le_trans i5 hbA.size⟩ ⟨A.heap.size, i5, rfl, Plc.new A _ _⟩
  case body =>
    rintro l2 m pre s a' A ⟨i0, i1, i2, i3, i4, i5⟩ ⟨b, hb, rfl, hPb⟩ hpre
    have hbd := Sp1.bd hpb2 (spots_in (pre_mem hpre))
    have KI := Lib.hid (fun (W' : World) (hk : KeepO (fun k o => E k o ∨ k = l) A W') => (show Boxed W' W.heap.size 58 (.func (.yield l) #[] #[]) ∧ Boxed W' N 53 (.func (.func 40) #[] #[.pointer (some ⟨g, 0, none⟩)]) ∧ Boxed W' pb 3 (.int .i64 p) ∧ Plc W' g (2 * x) (2 * y) from
      ⟨boxO i1 hk (by rintro (h | h); exact HE.out.no (by omega) (by decide) h; omega), boxO i2 hk (by rintro (h | h); exact HE.out.no (by omega) (by decide) h; omega), boxO i3 hk (by rintro (h | h); exact HPB.out h; omega), i4.keep HE.out (by omega) (by omega) hk⟩))
    have cy := i1.cell
    have cn := i2.cell
    have cq := i3.cell
    have ly := i1.lt
    have ln := i2.lt
    have lq := i3.lt
    have I0 := Lib.hid i0
    have R0 := rd_two hPb.blk
    have lb := (hPb.blk).lt
    obtain ⟨b0, b1, _⟩ := hPb.blk.two
    obtain ⟨s1, s2⟩ := s
    have hcn := isCn_in hc
    dsimp only at hbd R0 b0 b1 ⊢
    have CL := Lib.hid (fun (k : Nat) => (by
      have h := sqCallD g (2 * x) (2 * y) _ [s1, s2] (A.drewN k) (i4.below (below_drewN (Below.refl _ _) k)).blk (R0.below (below_drewN (Below.refl _ _) k)) (by simp) (by omega) (by omega) (gt_two (by omega) (by omega))
      rw [show [s1, s2].length = 2 from rfl, nd_sq] at h
      exact h : Calls Try.prog 40 #[.slice (some ⟨b, 0, none⟩) 2 2, .pointer (some ⟨g, 0, none⟩)] (A.drewN k) fun e w' => e = .returned (.int .i64 (nd x y s1 s2)) ∧ ∃ m, w' = (A.drewN k).drewN m))
    have v1 := sq_bd (d := 2 * x - s1) (m := 200) (by omega) (by omega)
    have v2 := sq_bd (d := 2 * y - s2) (m := 200) (by omega) (by omega)
    have hnd : 0 ≤ nd x y s1 s2 ∧ nd x y s1 s2 ≤ 80000 := by unfold nd; omega
    have v3 := mul_bd (a := 4 * p) (b := p) (m := 800) (n := 200) (by omega) (by omega) (by omega) (by omega)
    have hw1 : IntKind.i64.wrap (4 * p) = 4 * p := by rw [IntKind.wrap_i64]; omega
    have hw2 : IntKind.i64.wrap (4 * p * p) = 4 * p * p := by rw [IntKind.wrap_i64]; omega
    have mixed : Try.prog.follows .mixedOrders = true := by kernel_rfl
    have HOK : Hid (okS x y p (s1, s2) = decide (nd x y s1 s2 ≤ 4 * p * p)) := Lib.hid rfl
    have HAP := Lib.hid (fun h => okS_app (x := x) (y := y) (p := p) (s := (s1, s2)) pre h)
    have HNO := Lib.hid (fun h => okS_not (x := x) (y := y) (p := p) (s := (s1, s2)) pre h)
    have HPRE := Lib.hid hpre
    have KJ := Lib.hid (fun (W' : World) (hb : Below A.heap.size A W') => ownFrom_below HJ.out I0.out hb)
    clear i0 i1 i2 i3 i4 hPb R0 FG YB2 NB2 PP2 BW2 PG2 J2 HEE hNp v1 v2 hpre hbd hcn
    generalize nd x y s1 s2 = q at *
    by_cases hk : q ≤ 4 * p * p
    · have HP2 := Lib.hid (HAP.out (by rw [HOK.out, decide_eq_true hk]))
      have HF := Lib.hid (fun nq => HY.out (m - 1) (pre.filter (okS x y p)) (s1, s2) (A.drewN nq) (KJ.out _ (below_drewN (Below.refl _ _) nq)) (by rw [← HP2.out]; exact HPRE.out.filter _))
      have hkd : decide (q ≤ 4 * p * p) = true := decide_eq_true hk
      clear HAP HNO HPRE
      gi_upto_region 4 with fail
      refine wpIn_region_quiet_tail 11 (fun _ => trivial) rfl (fun h => callsIn_wide.2 h) (by kernel_rfl) (by kernel_rfl) (by kernel_rfl) ?_
      simp only [List.take_succ_cons, List.take_zero, List.drop_succ_cons, List.drop_zero]
      repeat (quiet_step ((go_at_call 40; exact Calls.quiet_of (CL.out _))))
      refine wpQuiet_nil ?_
      intro _ hw'
      obtain ⟨nq, rfl⟩ := hw'
      obtain ⟨fn, tmps, assign, body, hy, hR⟩ := HF.out nq
      dsimp only at hy
      gi_wp2
      refine (show RoundIn (Fence.wide.inRound l2) (m - 1) Try.prog l fn tmps assign body (A.drewN nq) _ from hR).mono ?_
      rintro e W3 ⟨bb, rfl, hk3, (⟨rfl, hJ3⟩ | ⟨rfl, hJx3⟩)⟩
      · have HK3 := Lib.hid ((KeepO.of_below (below_drewN (Below.refl _ _) nq)).trans hk3 fun k o _ e => e)
        have HJ3 := Lib.hid hJ3
        clear hk3 hJ3 hy hR
        gi_wp2
        obtain ⟨k1, k2, k3, k4⟩ := KI.out _ HK3.out
        exact ⟨HK3.out, by rw [HP2.out]; exact HJ3.out, k1, k2, k3, k4, by have := HK3.out.size; omega⟩
      · have HK3 := Lib.hid ((KeepO.of_below (below_drewN (Below.refl _ _) nq)).trans hk3 fun k o _ e => e)
        have HX3 := Lib.hid hJx3
        clear hk3 hJx3 hy hR
        gi_wp2
        exact ⟨HK3.out, rfl, by rw [HP2.out]; exact HX3.out⟩
    · have HP2 := Lib.hid (HNO.out (by rw [HOK.out, decide_eq_false hk]))
      have hkd : decide (q ≤ 4 * p * p) = false := decide_eq_false hk
      clear HAP HNO HPRE
      gi_upto_region 4 with fail
      refine wpIn_region_quiet_tail 11 (fun _ => trivial) rfl (fun h => callsIn_wide.2 h) (by kernel_rfl) (by kernel_rfl) (by kernel_rfl) ?_
      simp only [List.take_succ_cons, List.take_zero, List.drop_succ_cons, List.drop_zero]
      repeat (quiet_step ((go_at_call 40; exact Calls.quiet_of (CL.out _))))
      refine wpQuiet_nil ?_
      intro _ hw'
      obtain ⟨nq, rfl⟩ := hw'
      gi_wp2
      have hbd : Below A.heap.size A (A.drewN nq) := below_drewN (Below.refl _ _) nq
      obtain ⟨k1, k2, k3, k4⟩ := KI.out _ (KeepO.of_below hbd)
      exact ⟨KeepO.of_below hbd, by rw [HP2.out]; exact KJ.out _ hbd, k1, k2, k3, k4, by have := hbd.size; omega⟩
  case done =>
    rintro D A hD ⟨i0, i1, i2, i3, i4, i5⟩ hK
    gi_wp2
    refine ⟨by simp, .inl ⟨_, _, rfl, run_takeDeferred hK, ?_⟩⟩
    exact ⟨_, results_none rfl _ _ _, ⟨_, rfl⟩, .inl (HJ.out.putObj (.deferred none) i0 (by omega) hK rfl)⟩
  case stop =>
    rintro D c pre A hD hpre ⟨rfl, hX⟩ hK
    gi_wp2
    refine ⟨by simp, .inl ⟨_, _, rfl, run_takeDeferred hK, ?_⟩⟩
    exact ⟨_, results_none rfl _ _ _, ⟨_, rfl⟩, .inr ⟨_, hpre.filter _, HJX.out.putObj (.deferred none) hX (by omega) hK rfl⟩⟩
end Go.Proofs.Ytfkdkhoihlkgcac
