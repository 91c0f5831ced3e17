/- LeastWood: impl. -/
import Derived.Test.YtimbpfenpbkckabCf
namespace Go.Proofs.Ytimbpfenpbkckab
set_option linter.unusedVariables false
open Go.RowKit Go.Shelf
attribute [local go_sem] Oper.semAt_some

theorem lwTo_congr {ps : List Int} {L L' : List (List Nat)} : ∀ k, (∀ j, j < k → L.getD j [] = L'.getD j []) → lwTo ps L k = lwTo ps L' k
  | 0, _ => rfl
  | k + 1, h => by
    show (match lwTo ps L k with | none => _ | some m => _) = (match lwTo ps L' k with | none => _ | some m => _)
    rw [lwTo_congr k (fun j hj => h j (by omega)), h k (by omega)]
def lwF (ps : List Int) (pre : List (Value × List Nat)) : Option Int := lwTo ps (pre.map (·.2)) pre.length
theorem lwF_s (ps : List Int) (pre : List (Value × List Nat)) (x : Value × List Nat) : lwF ps (pre ++ [x]) = match lwF ps pre with | none => some (woodL ps x.2) | some m => if woodL ps x.2 < m then some (woodL ps x.2) else some m := by
  unfold lwF
  rw [List.length_append, List.length_singleton, List.map_append]
  show (match lwTo ps _ pre.length with | none => _ | some m => _) = _
  rw [lwTo_congr (L' := pre.map (·.2)) pre.length (fun j hj => by
    rw [List.getD_eq_getElem?_getD, List.getD_eq_getElem?_getD, List.getElem?_append_left (by simpa using hj)])]
  have e : (List.map (fun x : Value × List Nat => x.2) pre ++ List.map (fun x : Value × List Nat => x.2) [x]).getD pre.length [] = x.2 := by
    rw [List.getD_eq_getElem?_getD, List.getElem?_append_right (by simp)]; simp
  rw [e]
theorem getD_of' {l : List Nat} {n : Nat} (h : ∀ x ∈ l, x < n) : ∀ j, j < l.length → l.getD j 0 < n := fun j hj => by
  rw [List.getD_eq_getElem?_getD, List.getElem?_eq_getElem hj]; exact h _ (List.getElem_mem _)
theorem lwV_of (o : Option Int) : lwV o = .tuple #[.int .i64 (o.getD 0), .bool o.isSome] := by cases o <;> rfl
theorem below_LW (w : World) (a : Value) (t : TypeId) : Below w.heap.size w (w.alloc (.cells #[a] t)) := (Below.refl _ w).alloc (Nat.le_refl _) _
set_option maxHeartbeats 4000000 in
set_option maxRecDepth 100000 in
theorem implLeast (v u : Value) (gs ps : List Int) (r : Int) (w : World) (h : Rd w v gs) (hn : gs.length ≤ 1048576) (h2 : Rd w u ps) (hn2 : ps.length ≤ 1048576) :
    Calls Try.prog 28 #[v, u, .int .i64 r] w fun e w' => e = .returned (leastV gs ps r) ∧ Below w.heap.size w w' := by
  obtain ⟨pa, pn, pc, rfl, hpn, _⟩ := h2.cells
  have hbt := below_LW w (.slice pa pn pc) 22
  have HA := Lib.hid (implAsks v (.slice pa pn pc) gs ps r _ (h.below hbt) hn (h2.below hbt) hn2)
  clear hpn
  cases hk : asks gs ps r
  · have J := Lib.hid (leastV_no hk)
    rw [hk] at HA
    clear h h2 hk
    go_enter Try.func28, Try.ntmps28
    go_wp2_with (go_at_call 33; refine HA.out.mono ?_; rintro e w' ⟨rfl, rfl⟩)
    go_ret2
    exact ⟨ret_v J.out.symm, hbt⟩
  have J := Lib.hid (leastV_yes hk)
  rw [hk] at HA
  obtain ⟨hg, hp, hr0, hr1⟩ := asks_in' hk
  have hgi := arePl_in hg
  have hpi := arePl_in hp
  have hgl := h.own hgi.1
  have hpl := h2.own hpi.1
  obtain ⟨ga, gn, gc, rfl, hgn, _⟩ := h.cells
  clear hgn
  refine (callsIn_wide (n := 9)).1 ?_
  refine callsIn_of_wp_marks Try.func28 rfl trivial ?_ rfl
  simp only [Try.ntmps28, List.size_toArray, List.length_cons, List.length_nil, Nat.reduceAdd, Nat.reduceSub, Array.replicate_succ, Array.replicate_zero, List.push_toArray, List.append_toArray, List.nil_append, List.cons_append]
  gi_wp2_with (first
    | (refine ⟨trivial, ?_⟩; gi_at_call 33; refine (callsIn_wide.2 HA.out).mono ?_; rintro e w' ⟨rfl, rfl⟩)
    | (refine ⟨trivial, ?_⟩; gi_at_call 45; refine (coverings_in _ _ _ _ _ _ _ _ _).mono ?_; rintro e w' ⟨rfl, rfl⟩))
  obtain ⟨b1, b2, b3, _, hBc⟩ := covBoxes (((w.alloc (.cells #[.slice pa pn pc] 22)).alloc (.cells #[.int .i64 0] 3)).alloc (.cells #[.bool false] 4)) (.slice ga gn gc) (.slice pa pn pc) r
  have a0 : Boxed ((((((w.alloc (.cells #[.slice pa pn pc] 22)).alloc (.cells #[.int .i64 0] 3)).alloc (.cells #[.bool false] 4)).alloc (.cells #[.slice ga gn gc] 22)).alloc (.cells #[.slice pa pn pc] 22)).alloc (.cells #[.int .i64 r] 3)) w.heap.size 22 (.slice pa pn pc) := (((((Boxed.new w _ _).alloc _).alloc _).alloc _).alloc _).alloc _
  have a1 := ((((Boxed.new (w.alloc (.cells #[.slice pa pn pc] 22)) 3 (.int .i64 0)).alloc (.cells #[.bool false] 4)).alloc (.cells #[.slice ga gn gc] 22)).alloc (.cells #[.slice pa pn pc] 22)).alloc (.cells #[.int .i64 r] 3)
  have a2 := (((Boxed.new ((w.alloc (.cells #[.slice pa pn pc] 22)).alloc (.cells #[.int .i64 0] 3)) 4 (.bool false)).alloc (.cells #[.slice ga gn gc] 22)).alloc (.cells #[.slice pa pn pc] 22)).alloc (.cells #[.int .i64 r] 3)
  have hB0 : Below w.heap.size w ((((((w.alloc (.cells #[.slice pa pn pc] 22)).alloc (.cells #[.int .i64 0] 3)).alloc (.cells #[.bool false] 4)).alloc (.cells #[.slice ga gn gc] 22)).alloc (.cells #[.slice pa pn pc] 22)).alloc (.cells #[.int .i64 r] 3)) := ((hbt.alloc (by simp) _).alloc (by simp; omega) _).trans (hBc.mono (by simp; omega))
  simp only [World.size_alloc] at b1 b2 b3 a1 a2
  have hsz : ((((((w.alloc (.cells #[.slice pa pn pc] 22)).alloc (.cells #[.int .i64 0] 3)).alloc (.cells #[.bool false] 4)).alloc (.cells #[.slice ga gn gc] 22)).alloc (.cells #[.slice pa pn pc] 22)).alloc (.cells #[.int .i64 r] 3)).heap.size = w.heap.size + 6 := by simp
  have rg' := h.below hB0
  have rp' := h2.below hB0
  have hgb := arePl_any hg
  have HRP : Hid (∀ W, Below w.heap.size w W → Rd W (.slice pa pn pc) ps) := Lib.hid fun W hb => h2.below hb
  have HP := Lib.hid hp
  generalize (((((w.alloc (.cells #[.slice pa pn pc] 22)).alloc (.cells #[.int .i64 0] 3)).alloc (.cells #[.bool false] 4)).alloc (.cells #[.slice ga gn gc] 22)).alloc (.cells #[.slice pa pn pc] 22)).alloc (.cells #[.int .i64 r] 3) = W0 at *
  clear h h2 hBc HA hbt
  generalize hS : w.heap.size = S at *
  have SEQ := fun m n => coverSeq gs ps r (fun k => k = S + 1 ∨ k = S + 1 + 1) (S + 1 + 1 + 1) (S + 1 + 1 + 1 + 1) (S + 1 + 1 + 1 + 1 + 1) _ _ W0 m n b1 b2 b3 rg' rp' (fun k e => by have := hgl k e; omega) (fun k e => by have := hpl k e; omega)
    (fun k e => ⟨by omega, by omega, by omega, by omega, fun e2 => by have := hgl _ e2; omega, fun e2 => by have := hpl _ e2; omega⟩) hgb hp ⟨hr0, hr1⟩ hgi.2.1
  generalize hL : covL gs ps r = L at SEQ J
  clear hg hgb hgi hpi hp hL
  refine wpIn_range_X rfl (by decide) (gf := 60) (lb := #[.pointer (some ⟨S + 1 + 1 + 1, 0, none⟩), .pointer (some ⟨S + 1 + 1 + 1 + 1, 0, none⟩), .pointer (some ⟨S + 1 + 1 + 1 + 1 + 1, 0, none⟩)]) rfl trivial (enters_of Try.func60 (by kernel_rfl) rfl)
    (encs := fun x : Value × List Nat => #[x.1]) (Fx := fun x W => Ints W W0.heap.size x.1 (idx x.2) ∧ x.2.length ≤ 7 ∧ ∀ y ∈ x.2, y < ps.length) (E := fun k => k = S + 1 ∨ k = S + 1 + 1) (S := fun xs => xs.map (·.2) = L) (Sp := fun pre => pre.map (·.2) <+: L) (N := L.length)
    (fun k e => by omega) (SEQ _ _) (fun _ => rfl) (fun x => (ints_own _ _ _ _).and (ownFrom_pure _ fun _ => _))
    (fun pre W => Boxed W S 22 (.slice pa pn pc) ∧ Boxed W (S + 1) 3 (.int .i64 ((lwF ps pre).getD 0)) ∧ Boxed W (S + 1 + 1) 4 (.bool (lwF ps pre).isSome) ∧ (∀ m, lwF ps pre = some m → 0 ≤ m ∧ m ≤ 700) ∧ Below S w W)
    (fun c pre W => False)
    (fun s A B row hs hg hr => ⟨boxLow hs.1 hg (fun r e => hr r e) (by omega), boxLow hs.2.1 hg (fun r e => hr r e) (by omega), boxLow hs.2.2.1 hg (fun r e => hr r e) (by omega), hs.2.2.2.1, hs.2.2.2.2.grown hg (Nat.le_trans (by omega) hs.2.2.2.2.size) (fun k e => Nat.le_trans (by omega) (hr k e))⟩)
    (fun c s A B row hs hg hr => hs)
    ⟨a0, a1, a2, fun m e => (by cases e), hB0⟩
    (fun x => { tmps := #[.slice ga gn gc, .slice pa pn pc, .int .i64 r, undef, .pointer (some ⟨S, 0, none⟩), undef, .int .i64 0, .bool false, .pointer (some ⟨S + 1, 0, none⟩), .pointer (some ⟨S + 1 + 1, 0, none⟩), x.1, undef, .slice ga gn gc, .slice pa pn pc, .int .i64 r, .bool true, .bool false, .slice ga gn gc, .slice pa pn pc, .int .i64 r, .func (.func 60) #[] #[.pointer (some ⟨S + 1 + 1 + 1, 0, none⟩), .pointer (some ⟨S + 1 + 1 + 1 + 1, 0, none⟩), .pointer (some ⟨S + 1 + 1 + 1 + 1 + 1, 0, none⟩)], x.1, undef, undef, undef, undef, undef, undef, undef, undef, undef, undef, undef, undef, undef], defers := [] }) ?assign ?body ?done ?stop
  case assign =>
    intro l x W K hK
    gi_wp2
    exact hK
  case body =>
    rintro l pre ⟨xv, xl⟩ W ⟨x0, x1, x2, hm, hB⟩ ⟨hI, hx7, hxl⟩ hlen
    obtain ⟨xa, xn, xc, rfl, hxn, _⟩ := hI.rd.cells
    clear hxn
    have c0 := x0.cell
    have c1 := x1.cell
    have f1 := x1.frozen
    have c2 := x2.cell
    have f2 := x2.frozen
    have HW := Lib.hid (woodOf (.slice pa pn pc) (.slice xa xn xc) ps xl W (HRP.out W hB) hI.rd HP.out (getD_of' hxl) (Nat.le_trans hx7 (by decide)))
    have hwi := woodL_in HP.out hx7
    have HS := Lib.hid (lwF_s ps pre (.slice xa xn xc, xl))
    have HB := Lib.hid hB
    have X0 := Lib.hid x0
    have X1 := Lib.hid x1
    have X2 := Lib.hid x2
    have hz1 := x1.lt
    have hz2 := x2.lt
    clear hB x0 x1 x2 SEQ hI b1 b2 b3 a0 a1 a2 hx7 hxl hlen
    dsimp only at HS
    generalize woodL ps xl = wd at *
    have fin : ∀ W', W' = (W.setCell ⟨S + 1, 0, none⟩ (.int .i64 wd)).setCell ⟨S + 1 + 1, 0, none⟩ (.bool true) → lwF ps (pre ++ [(.slice xa xn xc, xl)]) = some wd →
        KeepE (fun k => k = S + 1 ∨ k = S + 1 + 1) W W' ∧ Boxed W' S 22 (.slice pa pn pc) ∧ Boxed W' (S + 1) 3 (.int .i64 ((lwF ps (pre ++ [(.slice xa xn xc, xl)])).getD 0)) ∧ Boxed W' (S + 1 + 1) 4 (.bool (lwF ps (pre ++ [(.slice xa xn xc, xl)])).isSome) ∧ (∀ m, lwF ps (pre ++ [(.slice xa xn xc, xl)]) = some m → 0 ≤ m ∧ m ≤ 700) ∧ Below S w W' := by
      rintro W' rfl hs
      refine ⟨(KeepE.of_grown (E := fun k => k = S + 1 ∨ k = S + 1 + 1) (grownBy_setCell' W (S + 1) _) (fun k e _ => by cases e; exact .inl rfl)).trans (KeepE.of_grown (E := fun k => k = S + 1 ∨ k = S + 1 + 1) (grownBy_setCell' _ (S + 1 + 1) _) (fun k e _ => by cases e; exact .inr rfl)) fun _ _ e => e, ?_, ?_, ?_, ?_, ?_⟩
      · exact (X0.out.other (by omega) _).other (by omega) _
      · rw [hs]; exact (X1.out.set _).other (by omega) _
      · rw [hs]; exact (X2.out.other (B' := S + 1) (by omega) _).set _
      · intro m e; rw [hs] at e; cases e; exact hwi
      · exact (HB.out.setCell (p := ⟨S + 1, 0, none⟩) (by show S ≤ S + 1; omega) _).setCell (p := ⟨S + 1 + 1, 0, none⟩) (by show S ≤ S + 1 + 1; omega) _
    have FIN := Lib.hid fin
    have c3 := (X2.out.other (B' := S + 1) (by omega) (.int .i64 wd)).cell
    have f3 := (X2.out.other (B' := S + 1) (by omega) (.int .i64 wd)).frozen
    clear fin
    cases ho : lwF ps pre with
    | none =>
      rw [ho] at c1 c2 HS
      have R := Lib.hid (HS.out)
      clear HS ho hm
      gi_wp2_with (refine ⟨trivial, ?_⟩; gi_at_call 46; refine (CallsIn.inRound l (callsIn_wide.2 HW.out)).mono ?_; rintro e w' ⟨rfl, rfl⟩)
      exact FIN.out _ rfl R.out
    | some m =>
      have hmi := hm m ho
      rw [ho] at c1 c2 HS
      simp only [Option.getD_some, Option.isSome_some] at c1 c2
      by_cases hlt : wd < m
      · have R := Lib.hid (HS.out.trans (if_pos hlt))
        clear HS ho hm
        gi_wp2_with (refine ⟨trivial, ?_⟩; gi_at_call 46; refine (CallsIn.inRound l (callsIn_wide.2 HW.out)).mono ?_; rintro e w' ⟨rfl, rfl⟩)
        exact FIN.out _ rfl R.out
      · have R := Lib.hid (HS.out.trans (if_neg hlt))
        have HO := Lib.hid ho
        have HM := Lib.hid hm
        clear HS ho hm
        gi_wp2_with (refine ⟨trivial, ?_⟩; gi_at_call 46; refine (CallsIn.inRound l (callsIn_wide.2 HW.out)).mono ?_; rintro e w' ⟨rfl, rfl⟩)
        refine ⟨KeepE.refl _ _, X0.out, ?_, ?_, ?_, HB.out⟩
        · rw [R.out, ← HO.out]; exact X1.out
        · rw [R.out, ← HO.out]; exact X2.out
        · rw [R.out, ← HO.out]; exact HM.out
  case done =>
    rintro D xs W hD hxs ⟨x0, x1, x2, hm, hB⟩ hK
    have R : lwV (lwTo ps L L.length) = .tuple #[.int .i64 ((lwF ps xs).getD 0), .bool (lwF ps xs).isSome] := by
      rw [← lwV_of]; unfold lwF; rw [← hxs, List.length_map]
    have c1 := x1.cell
    have c2 := x2.cell
    have RR := Lib.hid R
    clear R
    generalize (lwF ps xs).getD 0 = y1 at *
    generalize (lwF ps xs).isSome = y2 at *
    clear SEQ b1 b2 b3 a0 a1 a2
    gi_wp2
    gi_quiet (fail)
    gi_wp2
    have hKd : (W.drewN nq).heap[D]? = some (.deferred (some [])) := hK
    refine ⟨by simp, .inl ⟨_, _, rfl, run_takeDeferred hKd, ?_⟩⟩
    refine ⟨_, results_tmp2 rfl _ _ _, ret_v (by rw [J.out, RR.out]; rfl), hS ▸ (below_drewN hB nq).trans (belowK_b (w := W0) (by omega) _ D _ _ hD hKd rfl rfl)⟩
  case stop =>
    rintro D c pre W hD hpre hx hK
    exact hx.elim
end Go.Proofs.Ytimbpfenpbkckab
