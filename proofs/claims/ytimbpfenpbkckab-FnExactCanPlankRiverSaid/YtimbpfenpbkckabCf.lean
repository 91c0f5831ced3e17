/- FirstCovering: impl. -/
import Derived.Test.YtimbpfenpbkckabCk
namespace Go.Proofs.Ytimbpfenpbkckab
set_option linter.unusedVariables false
open Go.RowKit Go.Shelf
attribute [local go_sem] Oper.semAt_some

theorem below_two (w : World) (a b : Value) (t t' : TypeId) : Below w.heap.size w ((w.alloc (.cells #[a] t)).alloc (.cells #[b] t')) := ((Below.refl _ w).alloc (Nat.le_refl _) _).alloc (by simp) _
set_option maxHeartbeats 4000000 in
set_option maxRecDepth 100000 in
theorem implFirstC (v u : Value) (gs ps : List Int) (r : Int) (w : World) (h : Rd w v gs) (hn : gs.length ≤ 1048576) (h2 : Rd w u ps) (hn2 : ps.length ≤ 1048576) :
    Calls Try.prog 24 #[v, u, .int .i64 r] w (IntsC w.heap.size (idx ((covO gs ps r).getD [])) (covO gs ps r).isSome w) := by
  have hbt := below_two w (.slice none 0 0) (.bool false) 22 4
  have HA := Lib.hid (implAsks v u gs ps r _ (h.below hbt) hn (h2.below hbt) hn2)
  cases hk : asks gs ps r
  · have J := Lib.hid (covO_no hk)
    rw [hk] at HA
    clear h h2 hk
    go_enter Try.func24, Try.ntmps24
    go_wp2_with (go_at_call 33; refine HA.out.mono ?_; rintro e w' ⟨rfl, rfl⟩)
    refine bodyPost_ret (v := .tuple #[.slice none 0 0, .bool false]) (by simp [results, Try.f24, go_sem]) rfl ?_
    exact ⟨_, by rw [J.out]; rfl, by rw [J.out]; exact World.ownsRow_nil _ _ _ _, hbt⟩
  have J := Lib.hid (covO_yes hk)
  rw [hk] at HA
  obtain ⟨hg, hp, hr0, hr1⟩ := asks_in' hk
  have hgi := arePl_in hg
  have hpi := arePl_in hp
  have hgl := h.own hgi.1
  have hpl := h2.own hpi.1
  obtain ⟨ga, gn, gc, rfl, hgn, _⟩ := h.cells
  obtain ⟨pa, pn, pc, rfl, hpn, _⟩ := h2.cells
  clear hgn hpn
  refine (callsIn_wide (n := 9)).1 ?_
  refine callsIn_of_wp_marks Try.func24 rfl trivial ?_ rfl
  simp only [Try.ntmps24, List.size_toArray, List.length_cons, List.length_nil, Nat.reduceAdd, Nat.reduceSub, Array.replicate_succ, Array.replicate_zero, List.push_toArray, List.append_toArray, List.nil_append, List.cons_append]
  gi_wp2_with (first
    | (refine ⟨trivial, ?_⟩; gi_at_call 33; refine (callsIn_wide.2 HA.out).mono ?_; rintro e w' ⟨rfl, rfl⟩)
    | (refine ⟨trivial, ?_⟩; gi_at_call 45; refine (coverings_in _ _ _ _ _ _ _ _ _).mono ?_; rintro e w' ⟨rfl, rfl⟩))
  obtain ⟨b1, b2, b3, _, hBc⟩ := covBoxes ((w.alloc (.cells #[.slice none 0 0] 22)).alloc (.cells #[.bool false] 4)) (.slice ga gn gc) (.slice pa pn pc) r
  have b0 := ((((Boxed.new w 22 (.slice none 0 0)).alloc (.cells #[.bool false] 4)).alloc (.cells #[.slice ga gn gc] 22)).alloc (.cells #[.slice pa pn pc] 22)).alloc (.cells #[.int .i64 r] 3)
  have b00 := (((Boxed.new (w.alloc (.cells #[.slice none 0 0] 22)) 4 (.bool false)).alloc (.cells #[.slice ga gn gc] 22)).alloc (.cells #[.slice pa pn pc] 22)).alloc (.cells #[.int .i64 r] 3)
  have hB0 : Below w.heap.size w (((((w.alloc (.cells #[.slice none 0 0] 22)).alloc (.cells #[.bool false] 4)).alloc (.cells #[.slice ga gn gc] 22)).alloc (.cells #[.slice pa pn pc] 22)).alloc (.cells #[.int .i64 r] 3)) := hbt.trans (hBc.mono (by simp; omega))
  simp only [World.size_alloc] at b1 b2 b3 b00
  have hsz : (((((w.alloc (.cells #[.slice none 0 0] 22)).alloc (.cells #[.bool false] 4)).alloc (.cells #[.slice ga gn gc] 22)).alloc (.cells #[.slice pa pn pc] 22)).alloc (.cells #[.int .i64 r] 3)).heap.size = w.heap.size + 5 := by simp
  have rg' := h.below hB0
  have rp' := h2.below hB0
  have hgb := arePl_any hg
  generalize (((((w.alloc (.cells #[.slice none 0 0] 22)).alloc (.cells #[.bool false] 4)).alloc (.cells #[.slice ga gn gc] 22)).alloc (.cells #[.slice pa pn pc] 22)).alloc (.cells #[.int .i64 r] 3)) = W0 at *
  clear h h2 hBc HA hbt
  generalize hS : w.heap.size = S at *
  have SEQ := fun m n => coverSeq gs ps r (fun k => k = S ∨ k = S + 1) (S + 1 + 1) (S + 1 + 1 + 1) (S + 1 + 1 + 1 + 1) _ _ W0 m n b1 b2 b3 rg' rp' (fun k e => by have := hgl k e; omega) (fun k e => by have := hpl k e; omega)
    (fun k e => ⟨by omega, by omega, by omega, by omega, fun e2 => by have := hgl _ e2; omega, fun e2 => by have := hpl _ e2; omega⟩) hgb hp ⟨hr0, hr1⟩ hgi.2.1
  generalize hL : covL gs ps r = L at SEQ J
  clear hg hgb hgi hpi hp hL
  refine wpIn_range_X rfl (by decide) (gf := 60) (lb := #[.pointer (some ⟨S + 1 + 1, 0, none⟩), .pointer (some ⟨S + 1 + 1 + 1, 0, none⟩), .pointer (some ⟨S + 1 + 1 + 1 + 1, 0, none⟩)]) rfl trivial (enters_of Try.func60 (by kernel_rfl) rfl)
    (encs := fun x : Value × List Nat => #[x.1]) (Fx := fun x W => Ints W W0.heap.size x.1 (idx x.2) ∧ x.2.length ≤ 7 ∧ ∀ y ∈ x.2, y < ps.length) (E := fun k => k = S ∨ k = S + 1) (S := fun xs => xs.map (·.2) = L) (Sp := fun pre => pre.map (·.2) <+: L) (N := L.length)
    (fun k e => by omega) (SEQ _ _) (fun _ => rfl) (fun x => (ints_own _ _ _ _).and (ownFrom_pure _ fun _ => _))
    (fun pre W => pre = [] ∧ Boxed W S 22 (.slice none 0 0) ∧ Boxed W (S + 1) 4 (.bool false) ∧ Below S w W)
    (fun c pre W => c = .ret ∧ ∃ xv xl, pre = [(xv, xl)] ∧ Boxed W S 22 xv ∧ Boxed W (S + 1) 4 (.bool true) ∧ Ints W S xv (idx xl) ∧ Below S w W)
    (fun s A B row hs hg hr => ⟨hs.1, boxLow hs.2.1 hg (fun r e => hr r e) (by omega), boxLow hs.2.2.1 hg (fun r e => hr r e) (by omega), hs.2.2.2.grown hg (Nat.le_trans (by omega) hs.2.2.2.size) (fun k e => Nat.le_trans (by omega) (hr k e))⟩)
    (fun c s A B row hs hg hr => by
      obtain ⟨e0, xv, xl, e1, x0, x1, hI, hB⟩ := hs
      exact ⟨e0, xv, xl, e1, boxLow x0 hg (fun r e => (hr r e).1) (by omega), boxLow x1 hg (fun r e => (hr r e).1) (by omega), ints_own _ _ _ _ () A B row hI hg hr, hB.grown hg (Nat.le_trans (by omega) hB.size) (fun k e => Nat.le_trans (by omega) (hr k e).1)⟩)
    ⟨rfl, b0, b00, hB0⟩
    (fun x => { tmps := #[.slice ga gn gc, .slice pa pn pc, .int .i64 r, undef, undef, undef, .pointer (some ⟨S, 0, none⟩), .pointer (some ⟨S + 1, 0, none⟩), x.1, .slice ga gn gc, .slice pa pn pc, .int .i64 r, .bool true, .bool false, .slice ga gn gc, .slice pa pn pc, .int .i64 r, .func (.func 60) #[] #[.pointer (some ⟨S + 1 + 1, 0, none⟩), .pointer (some ⟨S + 1 + 1 + 1, 0, none⟩), .pointer (some ⟨S + 1 + 1 + 1 + 1, 0, none⟩)], x.1, undef], defers := [] }) ?assign ?body ?done ?stop
  case assign =>
    intro l x W K hK
    gi_wp2
    exact hK
  case body =>
    rintro l pre ⟨xv, xl⟩ W ⟨rfl, x0, x1, hB⟩ hfx hlen
    have hI := hfx.1
    obtain ⟨xa, xn, xc, rfl, hxn, _⟩ := hI.rd.cells
    clear hxn
    have c0 := x0.cell
    have f0 := x0.frozen
    have c1 := (x1.other (B' := S) (by omega) (.slice xa xn xc)).cell
    have f1 := (x1.other (B' := S) (by omega) (.slice xa xn xc)).frozen
    have HB := Lib.hid hB
    have X0 := Lib.hid x0
    have X1 := Lib.hid x1
    have HI := Lib.hid hI
    have hz := x0.lt
    clear hB x0 x1 SEQ hfx hI b0 b00 b1 b2 b3
    gi_wp2
    have k1 := grownBy_setCell' W S (.slice xa xn xc)
    have k2 := grownBy_setCell' (W.setCell ⟨S, 0, none⟩ (.slice xa xn xc)) (S + 1) (.bool true)
    have hI1 : Ints (W.setCell ⟨S, 0, none⟩ (.slice xa xn xc)) W0.heap.size (.slice xa xn xc) (idx xl) := HI.out.kept k1 (.inr (fun e => by have := (World.ownsRow.lt HI.out S (by simpa using e)).1; omega))
    have hI2 := hI1.kept k2 (.inr (fun e => by have := (World.ownsRow.lt hI1 (S + 1) (by simpa using e)).1; omega))
    refine ⟨(KeepE.of_grown (E := fun k => k = S ∨ k = S + 1) k1 (fun k e _ => by cases e; exact .inl rfl)).trans (KeepE.of_grown (E := fun k => k = S ∨ k = S + 1) k2 (fun k e _ => by cases e; exact .inr rfl)) fun _ _ e => e, rfl, _, xl, rfl, ?_, ?_, ?_, ?_⟩
    · exact (X0.out.set _).other (by omega) _
    · exact ((X1.out.other (B' := S) (by omega) _).set _)
    · exact ints_mono' hI2 (by omega)
    · exact (HB.out.setCell (p := ⟨S, 0, none⟩) (Nat.le_refl _) _).setCell (p := ⟨S + 1, 0, none⟩) (by show S ≤ S + 1; omega) _
  case done =>
    rintro D xs W hD hxs ⟨rfl, x0, x1, hB⟩ hK
    obtain rfl : [] = L := hxs
    have c0 := x0.cell
    have f0 := x0.frozen
    have c1 := (x1.other (B' := S) (by omega) (.slice none 0 0)).cell
    have f1 := (x1.other (B' := S) (by omega) (.slice none 0 0)).frozen
    gi_wp2
    have hK1 := (KeepsOthers.setCell W ⟨S, 0, none⟩ (.slice none 0 0)).same D _ hK rfl
    have hK' := (KeepsOthers.setCell (W.setCell ⟨S, 0, none⟩ (.slice none 0 0)) ⟨S + 1, 0, none⟩ (.bool false)).same D _ hK1 rfl
    refine ⟨by simp, .inl ⟨_, _, rfl, run_takeDeferred hK', ?_⟩⟩
    have d0 := cell_kept ((x0.set (.slice none 0 0)).other (B' := S + 1) (by omega) (.bool false)).cell (grownBy_putObj' _ D (.deferred none)) (fun r e => by cases e; exact ⟨_, hK', rfl⟩)
    have d1 := cell_kept ((x1.other (B' := S) (by omega) (.slice none 0 0)).set (.bool false)).cell (grownBy_putObj' _ D (.deferred none)) (fun r e => by cases e; exact ⟨_, hK', rfl⟩)
    refine ⟨.tuple #[.slice none 0 0, .bool false], ?_, ?_⟩
    · simp [results, Try.f24, go_sem, d0, d1]
    · exact ⟨_, by rw [J.out]; rfl, by rw [J.out]; exact World.ownsRow_nil _ _ _ _, ((hB.setCell (p := ⟨S, 0, none⟩) (Nat.le_refl _) _).setCell (p := ⟨S + 1, 0, none⟩) (by show S ≤ S + 1; omega) _).trans (belowK_b (w := W0) (by omega) _ D _ _ hD hK' rfl rfl)⟩
  case stop =>
    rintro D c pre W hD hpre ⟨rfl, xv, xl, rfl, x0, x1, hI, hB⟩ hK
    have R : L.head? = some xl := by
      obtain ⟨t, ht⟩ := hpre
      rw [← ht]; rfl
    gi_wp2
    refine ⟨by simp, .inl ⟨_, _, rfl, run_takeDeferred hK, ?_⟩⟩
    have d0 := cell_kept x0.cell (grownBy_putObj' _ D (.deferred none)) (fun r e => by cases e; exact ⟨_, hK, rfl⟩)
    have d1 := cell_kept x1.cell (grownBy_putObj' _ D (.deferred none)) (fun r e => by cases e; exact ⟨_, hK, rfl⟩)
    refine ⟨.tuple #[xv, .bool true], ?_, ?_⟩
    · simp [results, Try.f24, go_sem, d0, d1]
    · exact ⟨_, by rw [J.out, R]; rfl, by rw [J.out, R]; exact ownsRow_putObj hI _ hK rfl, hB.trans (belowK_b (w := W0) (by omega) _ D _ _ hD hK rfl rfl)⟩
end Go.Proofs.Ytimbpfenpbkckab
