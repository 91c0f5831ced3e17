/- CountCoverings, FirstCovering: impl. -/
import Derived.Test.YtimbpfenpbkckabCh2
namespace Go.Proofs.Ytimbpfenpbkckab
set_option linter.unusedVariables false
open Go.RowKit Go.Shelf
attribute [local go_sem] Oper.semAt_some

/-- the three boxes of impl.coverings, laid behind w1 -/
theorem covBoxes (w1 : World) (gv pv : Value) (r : Int) :
    let W0 := ((w1.alloc (.cells #[gv] 22)).alloc (.cells #[pv] 22)).alloc (.cells #[.int .i64 r] 3)
    Boxed W0 w1.heap.size 22 gv ∧ Boxed W0 (w1.heap.size + 1) 22 pv ∧ Boxed W0 (w1.heap.size + 1 + 1) 3 (.int .i64 r) ∧ W0.heap.size = w1.heap.size + 3 ∧ Below w1.heap.size w1 W0 := by
  intro W0
  have b1 := ((Boxed.new w1 22 gv).alloc (.cells #[pv] 22)).alloc (.cells #[.int .i64 r] 3)
  have b2 := (Boxed.new (w1.alloc (.cells #[gv] 22)) 22 pv).alloc (.cells #[.int .i64 r] 3)
  have b3 := Boxed.new ((w1.alloc (.cells #[gv] 22)).alloc (.cells #[pv] 22)) 3 (.int .i64 r)
  simp only [World.size_alloc] at b1 b2 b3
  exact ⟨b1, b2, b3, by simp [W0], (((Below.refl _ w1).alloc (Nat.le_refl _) _).alloc (by simp) _).alloc (by simp; omega) _⟩

set_option maxHeartbeats 4000000 in
set_option maxRecDepth 100000 in
theorem implCount (v u : Value) (gs ps : List Int) (r : Int) (w : World) (h : Rd w v gs) (hn : gs.length ≤ 1048576) (h2 : Rd w u ps) (hn2 : ps.length ≤ 1048576) :
    Calls Try.prog 26 #[v, u, .int .i64 r] w fun e w' => e = .returned (countV gs ps r) ∧ Below w.heap.size w w' := by
  have HA := Lib.hid (implAsks v u gs ps r w h hn h2 hn2)
  cases hk : asks gs ps r
  · have J := Lib.hid (countV_no hk)
    rw [hk] at HA
    clear h h2 hk
    go_enter Try.func26, Try.ntmps26
    go_wp2_with (go_at_call 33; refine HA.out.mono ?_; rintro e w' ⟨rfl, rfl⟩)
    go_ret2
    exact ⟨ret_v J.out.symm, Below.refl _ _⟩
  have J := Lib.hid (countV_yes hk)
  rw [hk] at HA
  obtain ⟨hg, hp, hr0, hr1⟩ := asks_in' hk
  have hgi := arePl_in hg
  have hpi := arePl_in hp
  have hgl := h.own hgi.1
  have hpl := h2.own hpi.1
  have hN := covL_len hk
  obtain ⟨ga, gn, gc, rfl, hgn, _⟩ := h.cells
  obtain ⟨pa, pn, pc, rfl, hpn, _⟩ := h2.cells
  clear hgn hpn
  refine (callsIn_wide (n := 9)).1 ?_
  refine callsIn_of_wp_marks Try.func26 rfl trivial ?_ rfl
  simp only [Try.ntmps26, List.size_toArray, List.length_cons, List.length_nil, Nat.reduceAdd, Nat.reduceSub, Array.replicate_succ, Array.replicate_zero, List.push_toArray, List.append_toArray, List.nil_append, List.cons_append]
  gi_wp2_with (first
    | (refine ⟨trivial, ?_⟩; gi_at_call 33; refine (callsIn_wide.2 HA.out).mono ?_; rintro e w' ⟨rfl, rfl⟩)
    | (refine ⟨trivial, ?_⟩; gi_at_call 45; refine (coverings_in _ _ _ _ _ _ _ _ _).mono ?_; rintro e w' ⟨rfl, rfl⟩))
  obtain ⟨b1, b2, b3, _, hBc⟩ := covBoxes (w.alloc (.cells #[.int .i64 0] 3)) (.slice ga gn gc) (.slice pa pn pc) r
  have b0 := (((Boxed.new w 3 (.int .i64 0)).alloc (.cells #[.slice ga gn gc] 22)).alloc (.cells #[.slice pa pn pc] 22)).alloc (.cells #[.int .i64 r] 3)
  have hB0 : Below w.heap.size w ((((w.alloc (.cells #[.int .i64 0] 3)).alloc (.cells #[.slice ga gn gc] 22)).alloc (.cells #[.slice pa pn pc] 22)).alloc (.cells #[.int .i64 r] 3)) := ((Below.refl _ w).alloc (Nat.le_refl _) _).trans (hBc.mono (by simp))
  simp only [World.size_alloc] at b1 b2 b3
  have hsz : ((((w.alloc (.cells #[.int .i64 0] 3)).alloc (.cells #[.slice ga gn gc] 22)).alloc (.cells #[.slice pa pn pc] 22)).alloc (.cells #[.int .i64 r] 3)).heap.size = w.heap.size + 4 := by simp
  have rg' := h.below hB0
  have rp' := h2.below hB0
  have hgb := arePl_any hg
  generalize ((((w.alloc (.cells #[.int .i64 0] 3)).alloc (.cells #[.slice ga gn gc] 22)).alloc (.cells #[.slice pa pn pc] 22)).alloc (.cells #[.int .i64 r] 3)) = W0 at *
  clear h h2 hBc HA
  generalize hS : w.heap.size = S at *
  have SEQ := fun m n => coverSeq gs ps r (fun k => k = S) (S + 1) (S + 1 + 1) (S + 1 + 1 + 1) _ _ W0 m n b1 b2 b3 rg' rp' (fun k e => by have := hgl k e; omega) (fun k e => by have := hpl k e; omega)
    (fun k e => by subst e; exact ⟨by omega, by omega, by omega, by omega, fun e => by have := hgl _ e; omega, fun e => by have := hpl _ e; omega⟩) hgb hp ⟨hr0, hr1⟩ hgi.2.1
  generalize covL gs ps r = L at *
  clear hg hgb hgi hpi hp
  refine wpIn_range_X rfl (by decide) (gf := 60) (lb := #[.pointer (some ⟨S + 1, 0, none⟩), .pointer (some ⟨S + 1 + 1, 0, none⟩), .pointer (some ⟨S + 1 + 1 + 1, 0, none⟩)]) rfl trivial (enters_of Try.func60 (by kernel_rfl) rfl)
    (encs := fun x : Value × List Nat => #[x.1]) (Fx := fun x W => Ints W W0.heap.size x.1 (idx x.2) ∧ x.2.length ≤ 7 ∧ ∀ y ∈ x.2, y < ps.length) (E := fun k => k = S) (S := fun xs => xs.map (·.2) = L) (Sp := fun pre => pre.map (·.2) <+: L) (N := L.length)
    (fun k e => by subst e; omega) (SEQ _ _) (fun _ => rfl) (fun x => (ints_own _ _ _ _).and (ownFrom_pure _ fun _ => _))
    (fun pre W => Boxed W S 3 (.int .i64 (pre.length : Int)) ∧ Below S w W)
    (fun c pre W => False)
    (fun s A B row hs hg hr => ⟨boxLow hs.1 hg (fun r e => hr r e) (by omega), hs.2.grown hg (Nat.le_trans (by omega) hs.2.size) (fun k e => Nat.le_trans (by omega) (hr k e))⟩)
    (fun c s A B row hs hg hr => hs)
    ⟨b0, hB0⟩
    (fun x => { tmps := #[.slice ga gn gc, .slice pa pn pc, .int .i64 r, undef, undef, undef, .int .i64 0, .bool false, .pointer (some ⟨S, 0, none⟩), .slice ga gn gc, .slice pa pn pc, .int .i64 r, .bool true, .bool false, .slice ga gn gc, .slice pa pn pc, .int .i64 r, .func (.func 60) #[] #[.pointer (some ⟨S + 1, 0, none⟩), .pointer (some ⟨S + 1 + 1, 0, none⟩), .pointer (some ⟨S + 1 + 1 + 1, 0, none⟩)], x.1, undef, undef, undef], defers := [] }) ?assign ?body ?done ?stop
  case assign =>
    intro l x W K hK
    gi_wp2
    exact hK
  case body =>
    rintro l pre x W ⟨x0, hB⟩ hfx hlen
    have c0 := x0.cell
    have f0 := x0.frozen
    have hz := x0.lt
    have HB := Lib.hid hB
    have X0 := Lib.hid x0
    have hpl2 : pre.length ≤ 823543 := by omega
    have HX : Hid (((pre ++ [x]).length : Int) = (pre.length : Int) + 1) := Lib.hid (by simp)
    generalize pre.length = m at *
    clear hB x0 SEQ hfx
    gi_wp2
    exact ⟨KeepE.of_grown (grownBy_setCell' W S _) (fun k e _ => by cases e; rfl), by rw [HX.out]; exact X0.out.set _, HB.out.setCell (p := ⟨S, 0, none⟩) (Nat.le_refl _) _⟩
  case done =>
    rintro D xs W hD hxs ⟨x0, hB⟩ hK
    have hm : xs.length = L.length := by rw [← hxs, List.length_map]
    have c0 := x0.cell
    have f0 := x0.frozen
    gi_wp2
    refine ⟨by simp, .inl ⟨_, _, rfl, run_takeDeferred hK, ?_⟩⟩
    refine ⟨_, results_tmp2 rfl _ _ _, ret_v (by rw [J.out, ← hm]; rfl), hB.trans (belowK_b (w := W0) (by omega) _ D _ _ hD hK rfl rfl)⟩
  case stop =>
    rintro D c pre W hD hpre hx hK
    exact hx.elim
end Go.Proofs.Ytimbpfenpbkckab
