/- impl.hasCovering and what is built on it. -/
import Derived.Test.YtimbpfenpbkckabCz
import Derived.Test.YtimbpfenpbkckabBx
namespace Go.Proofs.Ytimbpfenpbkckab
set_option linter.unusedVariables false
open Go.RowKit Go.Shelf
attribute [local go_sem] Oper.semAt_some

set_option maxHeartbeats 4000000 in
set_option maxRecDepth 100000 in
theorem hasCov (gs ps : List Int) (r : Int) (gv pv : Value) (w : World) (rg : Rd w gv gs) (rp : Rd w pv ps) (hgl : ∀ k, gv.ownBlock = some k → k < w.heap.size) (hpl : ∀ k, pv.ownBlock = some k → k < w.heap.size)
    (hgb : ∀ j, 0 ≤ gt gs j ∧ gt gs j ≤ 100) (hp : arePl ps = true) (hr : 0 ≤ r ∧ r ≤ 10) (hg7 : gs.length ≤ 7) :
    Calls Try.prog 43 #[gv, pv, .int .i64 r] w fun e w' => e = .returned (.bool !(covL gs ps r).isEmpty) ∧ Below w.heap.size w w' := by
  obtain ⟨ga, gn, gc, rfl, hgn, _⟩ := rg.cells
  obtain ⟨pa, pn, pc, rfl, hpn, _⟩ := rp.cells
  have HGN := Lib.hid hgn
  have HPN := Lib.hid hpn
  clear hgn hpn
  refine (callsIn_wide (n := 9)).1 ?_
  refine callsIn_of_wp_marks Try.func43 rfl trivial ?_ rfl
  simp only [Try.ntmps43, List.size_toArray, List.length_cons, List.length_nil, Nat.reduceAdd, Nat.reduceSub, Array.replicate_succ, Array.replicate_zero, List.push_toArray, List.append_toArray, List.nil_append, List.cons_append]
  gi_wp2_with (refine ⟨trivial, ?_⟩; gi_at_call 45; refine (coverings_in _ _ _ _ _ _ _ _ _).mono ?_; rintro e w' ⟨rfl, rfl⟩)
  have b0 := (((Boxed.new w 4 (.bool false)).alloc (.cells #[.slice ga gn gc] 22)).alloc (.cells #[.slice pa pn pc] 22)).alloc (.cells #[.int .i64 r] 3)
  have b1 := ((Boxed.new (w.alloc (.cells #[.bool false] 4)) 22 (.slice ga gn gc)).alloc (.cells #[.slice pa pn pc] 22)).alloc (.cells #[.int .i64 r] 3)
  have b2 := (Boxed.new ((w.alloc (.cells #[.bool false] 4)).alloc (.cells #[.slice ga gn gc] 22)) 22 (.slice pa pn pc)).alloc (.cells #[.int .i64 r] 3)
  have b3 := Boxed.new (((w.alloc (.cells #[.bool false] 4)).alloc (.cells #[.slice ga gn gc] 22)).alloc (.cells #[.slice pa pn pc] 22)) 3 (.int .i64 r)
  have hB0 : Below w.heap.size w ((((w.alloc (.cells #[.bool false] 4)).alloc (.cells #[.slice ga gn gc] 22)).alloc (.cells #[.slice pa pn pc] 22)).alloc (.cells #[.int .i64 r] 3)) := ((((Below.refl _ w).alloc (Nat.le_refl _) _).alloc (by simp) _).alloc (by simp; omega) _).alloc (by simp; omega) _
  have hsz : ((((w.alloc (.cells #[.bool false] 4)).alloc (.cells #[.slice ga gn gc] 22)).alloc (.cells #[.slice pa pn pc] 22)).alloc (.cells #[.int .i64 r] 3)).heap.size = w.heap.size + 4 := by simp
  simp only [World.size_alloc] at b1 b2 b3
  have rg' := rg.below hB0
  have rp' := rp.below hB0
  generalize ((((w.alloc (.cells #[.bool false] 4)).alloc (.cells #[.slice ga gn gc] 22)).alloc (.cells #[.slice pa pn pc] 22)).alloc (.cells #[.int .i64 r] 3)) = W0 at *
  clear rg rp
  generalize hS : w.heap.size = S at *
  have SEQ := fun m n => coverSeq gs ps r (fun k => k = S) (S + 1) (S + 1 + 1) (S + 1 + 1 + 1) _ _ W0 m n b1 b2 b3 rg' rp' (fun k e => by have := hgl k e; omega) (fun k e => by have := hpl k e; omega)
    (fun k e => by subst e; exact ⟨by omega, by omega, by omega, by omega, fun e => by have := hgl _ e; omega, fun e => by have := hpl _ e; omega⟩) hgb hp hr hg7
  generalize hL : covL gs ps r = L at SEQ
  have HLE := Lib.hid hL
  clear hL
  refine wpIn_range_X rfl (by decide) (gf := 60) (lb := #[.pointer (some ⟨S + 1, 0, none⟩), .pointer (some ⟨S + 1 + 1, 0, none⟩), .pointer (some ⟨S + 1 + 1 + 1, 0, none⟩)]) rfl trivial (enters_of Try.func60 (by kernel_rfl) rfl)
    (encs := fun x : Value × List Nat => #[x.1]) (Fx := fun x W => Ints W W0.heap.size x.1 (idx x.2) ∧ x.2.length ≤ 7 ∧ ∀ y ∈ x.2, y < ps.length) (E := fun k => k = S) (S := fun xs => xs.map (·.2) = L) (Sp := fun pre => pre.map (·.2) <+: L) (N := L.length)
    (fun k e => by subst e; omega) (SEQ _ _) (fun _ => rfl) (fun x => (ints_own _ _ _ _).and (ownFrom_pure _ fun _ => _))
    (fun pre W => pre = [] ∧ Boxed W S 4 (.bool false) ∧ Below S w W)
    (fun c pre W => c = .ret ∧ pre.length = 1 ∧ Boxed W S 4 (.bool true) ∧ Below S w W)
    (fun s A B row hs hg hr => ⟨hs.1, boxLow hs.2.1 hg (fun r e => hr r e) (by omega), hs.2.2.grown hg (Nat.le_trans (by omega) hs.2.2.size) (fun k e => Nat.le_trans (by omega) (hr k e))⟩)
    (fun c s A B row hs hg hr => ⟨hs.1, hs.2.1, boxLow hs.2.2.1 hg (fun r e => (hr r e).1) (by omega), hs.2.2.2.grown hg (Nat.le_trans (by omega) hs.2.2.2.size) (fun k e => Nat.le_trans (by omega) (hr k e).1)⟩)
    ⟨rfl, b0, hB0⟩
    (fun x => { tmps := #[.slice ga gn gc, .slice pa pn pc, .int .i64 r, undef, undef, undef, .pointer (some ⟨S, 0, none⟩), .slice ga gn gc, .slice pa pn pc, .int .i64 r, .func (.func 60) #[] #[.pointer (some ⟨S + 1, 0, none⟩), .pointer (some ⟨S + 1 + 1, 0, none⟩), .pointer (some ⟨S + 1 + 1 + 1, 0, none⟩)], x.1], defers := [] }) ?assign ?body ?done ?stop
  case assign =>
    intro l x W K hK
    gi_wp2
    exact hK
  case body =>
    rintro l pre x W ⟨rfl, x0, hB⟩ hfx hlen
    have c0 := x0.cell
    have f0 := x0.frozen
    have hz := x0.lt
    have HB := Lib.hid hB
    have X0 := Lib.hid x0
    clear hB x0
    gi_wp2
    exact ⟨KeepE.of_grown (grownBy_setCell' W S _) (fun k e _ => by cases e; rfl), rfl, rfl, X0.out.set _, HB.out.setCell (p := ⟨S, 0, none⟩) (Nat.le_refl _) _⟩
  case done =>
    rintro D xs W hD hxs ⟨rfl, x0, hB⟩ hK
    obtain rfl : [] = L := hxs
    have c0 := x0.cell
    have f0 := x0.frozen
    gi_wp2
    have hK' := (KeepsOthers.setCell W ⟨S, 0, none⟩ (.bool false)).same D _ hK rfl
    refine ⟨by simp, .inl ⟨_, _, rfl, run_takeDeferred hK', ?_⟩⟩
    have hc5 := cell_kept (World.cell?_setCell_same' W ⟨S, 0, none⟩ (.bool false) (by rw [c0]; rfl)) (grownBy_putObj' _ D (.deferred none)) (fun r e => by cases e; exact ⟨_, hK', rfl⟩)
    refine ⟨.bool false, ?_, by rw [HLE.out]; rfl, (hB.setCell (p := ⟨S, 0, none⟩) (Nat.le_refl _) _).trans (belowK_b (w := W0) (by omega) _ D _ _ hD hK' rfl rfl)⟩
    simp [results, Try.f43, go_sem, hc5]
  case stop =>
    rintro D c pre W hD hpre ⟨rfl, hp1, x0, hB⟩ hK
    have hL : L.isEmpty = false := by
      cases L with
      | nil =>
        have := hpre.length_le
        simp only [List.length_map, List.length_nil] at this
        omega
      | cons a l => rfl
    gi_wp2
    refine ⟨by simp, .inl ⟨_, _, rfl, run_takeDeferred hK, ?_⟩⟩
    have hc5 := cell_kept x0.cell (grownBy_putObj' _ D (.deferred none)) (fun r e => by cases e; exact ⟨_, hK, rfl⟩)
    refine ⟨.bool true, ?_, by rw [HLE.out, hL]; rfl, hB.trans (belowK_b (w := W0) (by omega) _ D _ _ hD hK rfl rfl)⟩
    simp [results, Try.f43, go_sem, hc5]
theorem Rd.own {w : World} {v : Value} {zs : List Int} (h : Rd w v zs) (hp : 0 < zs.length) : ∀ k, v.ownBlock = some k → k < w.heap.size := by
  obtain ⟨b, off, n, c, rfl, _, hb, _⟩ := h.cellsP hp
  intro k e
  have : b = k := by simpa [Value.ownBlock] using e
  omega
set_option maxHeartbeats 1000000 in
theorem implCanC (v u : Value) (gs ps : List Int) (r : Int) (w : World) (h : Rd w v gs) (hn : gs.length ≤ 1048576) (h2 : Rd w u ps) (hn2 : ps.length ≤ 1048576) :
    Calls Try.prog 22 #[v, u, .int .i64 r] w fun e w' => e = .returned (canV2 gs ps r) ∧ Below w.heap.size w w' := by
  have HA := Lib.hid (implAsks v u gs ps r w h hn h2 hn2)
  cases hk : asks gs ps r
  · have J := Lib.hid (canV2_no hk)
    rw [hk] at HA
    clear h h2 hk
    go_enter Try.func22, Try.ntmps22
    go_wp2_with (go_at_call 33; refine HA.out.mono ?_; rintro e w' ⟨rfl, rfl⟩)
    go_ret2
    exact ⟨ret_v J.out.symm, Below.refl _ _⟩
  · have J := Lib.hid (canV2_yes hk)
    rw [hk] at HA
    obtain ⟨hg, hp, hr0, hr1⟩ := asks_in' hk
    have hgi := arePl_in hg
    have hpi := arePl_in hp
    have HH := Lib.hid (hasCov gs ps r v u w h h2 (h.own hgi.1) (h2.own hpi.1) (arePl_any hg) hp ⟨hr0, hr1⟩ hgi.2.1)
    clear h h2 hk hg hp hgi hpi
    go_enter Try.func22, Try.ntmps22
    go_wp2_with (first
      | (go_at_call 33; refine HA.out.mono ?_; rintro e w' ⟨rfl, rfl⟩)
      | (go_at_call 43; refine HH.out.mono ?_; rintro e w1 ⟨rfl, hb⟩))
    go_ret2
    exact ⟨ret_v J.out.symm, hb⟩
end Go.Proofs.Ytimbpfenpbkckab
