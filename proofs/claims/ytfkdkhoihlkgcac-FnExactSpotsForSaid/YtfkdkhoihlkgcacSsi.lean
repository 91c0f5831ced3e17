/- slices.Clone at ints, in this seat; a list in a box; impl.SpotsFor. -/
import Derived.Test.YtfkdkhoihlkgcacCat
import Derived.Test.YtfkdkhoihlkgcacCct
import Derived.Test.YtfkdkhoihlkgcacBsi
namespace Go.Proofs.Ytfkdkhoihlkgcac
set_option linter.unusedVariables false
open Go.RowKit Go.Shelf
attribute [local go_sem] Oper.semAt_some
attribute [local simp] wide_fn wide_depth
attribute [local go_sem] wide_fn wide_depth

set_option maxRecDepth 100000 in
theorem cloneI (g n c : Nat) (zs : List Int) (w : World) (h : Rd w (.slice (some ⟨g, 0, none⟩) n c) zs) (hn : zs.length ≤ 1048576) :
    Calls Try.prog 24 #[.slice (some ⟨g, 0, none⟩) n c] w fun e w' => ∃ u, e = .returned u ∧ Ints w' w.heap.size u zs ∧ Below w.heap.size w w' := by
  have hbA : Below w.heap.size w (w.alloc (.cells #[] 3)) := (Below.refl _ _).alloc (Nat.le_refl _) _
  have HR := Lib.hid (h.below hbA)
  have HB := Lib.hid hbA
  have E := Lib.run_eql_slice_nil (P := Try.prog) w
  clear h hbA
  go_enter Try.func24, Try.ntmps24
  go_wp2_with (at_builtin; refine wpList_cat (w.alloc (.cells #[] 3)) rfl _ _ rfl w.heap.size _ [] rfl (Ints.empty w _ (Nat.le_refl _)) _ zs rfl HR.out (by intro c e; cases e) (by simp; omega) (by simp) ?_; intro v' w2 hI hb hg)
  go_ret
  exact ⟨_, rfl, hI, HB.out.trans hb⟩
theorem Lst.row {w : World} {B : Nat} {v : Value} {zss : List (List Int)} {us : List Value} (h : Lst w B v zss us) {k : Nat} (hk : v.ownBlock = some k) : B ≤ k ∧ ∃ cs fr, w.heap[k]? = some (.cells cs 48 fr) := by
  rcases h.1.2 with ⟨rfl, _⟩ | ⟨g, cap, cur, rfl, hb, hg, _⟩
  · cases hk
  · have e : g = k := by simpa [Value.ownBlock] using hk
    subst e
    exact ⟨hb, _, _, hg⟩
theorem Lst.kept {w w' : World} {B : Nat} {v : Value} {zss : List (List Int)} {us : List Value} (h : Lst w B v zss us) {row : Option Nat} (hg : w.grownBy w' row) (hv : ∀ k, v.ownBlock = some k → some k ≠ row) (hu : ∀ j, j < zss.length → ∀ k, (gu us j).ownBlock = some k → some k ≠ row) : Lst w' B v zss us := by
  refine ⟨World.ownsRow.kept h.1 hg ?_, fun j hj => (h.2.1 j hj).kept hg ?_, h.2.2⟩
  · cases e : v.ownBlock with
    | none => exact .inl rfl
    | some k => exact .inr (hv k e)
  · cases e : (gu us j).ownBlock with
    | none => exact .inl rfl
    | some k => exact .inr (hu j hj k e)
theorem ints_row {w : World} {B : Nat} {v : Value} {zs : List Int} (h : Ints w B v zs) {k : Nat} (hk : v.ownBlock = some k) : B ≤ k ∧ ∃ cs fr, w.heap[k]? = some (.cells cs 3 fr) := by
  rcases h.2 with ⟨rfl, _⟩ | ⟨g, cap, cur, rfl, hb, hg, _⟩
  · cases hk
  · have e : g = k := by simpa [Value.ownBlock] using hk
    subst e
    exact ⟨hb, _, _, hg⟩
theorem lstOwn {w w' : World} {B : Nat} {v : Value} {zss : List (List Int)} {us : List Value} (h : Lst w B v zss us) {row : Option Nat} (hg : w.grownBy w' row) (hr : ∀ r, row = some r → ∃ ob : Obj, w.heap[r]? = some ob ∧ ob.isCells = false) : Lst w' B v zss us := by
  refine h.kept hg (fun k hk e => ?_) (fun j hj k hk e => ?_)
  · obtain ⟨ob, h1, h2⟩ := hr k e.symm
    obtain ⟨_, cs, fr, h3⟩ := h.row hk
    rw [h3] at h1; injection h1 with h1; subst h1; cases h2
  · obtain ⟨ob, h1, h2⟩ := hr k e.symm
    obtain ⟨_, cs, fr, h3⟩ := ints_row (h.2.1 j hj) hk
    rw [h3] at h1; injection h1 with h1; subst h1; cases h2
theorem Lst.low {w w' : World} {B : Nat} {v : Value} {zss : List (List Int)} {us : List Value} (h : Lst w B v zss us) {r : Nat} (hg : w.grownBy w' (some r)) (hr : r < B) : Lst w' B v zss us :=
  h.kept hg (fun k hk e => by have := (h.row hk).1; cases e; omega) (fun j hj k hk e => by have := (ints_row (h.2.1 j hj) hk).1; cases e; omega)
set_option maxRecDepth 100000 in
/-- 'append(lists, u)', in a fence -/
theorem wpListIn_appS {F : Fence} {n : Nat} {ops : Array Oper} {rest : List Oper} {o : Oper} {a : Act} {Q : Exit → Act → World → Prop} {W : World} (w0 w1 : World) (hgd : o.guard = none) (s x : Operand)
    (ho : o.op = .call { callee := .builtin .append, args := #[s, x], argTypes := #[24, 24] })
    (B : Nat) (v : Value) (zss : List (List Int)) (us : List Value) (hs : a.eval s = v) (hI : Lst w1 B v zss us) (h10 : Below w1.heap.size w1 w0) (u : Value) (zs : List Int) (hu : Ints w0 B u zs) (hfr : ∀ k, u.ownBlock = some k → w1.heap.size ≤ k)
    (nb : Nat) (hx : a.eval x = .slice (some ⟨nb, 0, none⟩) 1 1) (hnb : nb = w0.heap.size) (hl : zss.length < 16777216) (hB : B ≤ w0.heap.size) (hW : W = w0.alloc (.cells #[u] 48))
    (h : ∀ v' w', Lst w' B v' (zss ++ [zs]) (us ++ [u]) → Below B w0 w' → w0.grownBy w' v.ownBlock → wpListIn F n Try.prog ops Q rest (a.put o.dst v') w') : wpListIn F n Try.prog ops Q (o :: rest) a W := by
  subst hnb
  subst hW
  obtain ⟨i0, hi, hz0, hz1, hz2⟩ := info_parts Try.infoRowI
  have h1 := rowS_below hI.1 h10
  have hlt : ∀ b, v.ownBlock = some b → B ≤ b := fun b hb => (World.ownsRow.lt h1 b hb).1
  have huc := oneS hu
  refine wpListIn_append_own _ hgd s x 24 ho B 48 i0 (.slice none 0 0) 1 24 Try.underlying24 hi hz0 hz1 hz2 rfl (by decide) v zss.length us hs (World.ownsRow.alloc h1 _) ⟨w0.heap.size, 0, none⟩ 1 1 [u] hx rfl
    (cell_one_new _ _ _) (by intro y hy; simp at hy; subst hy; exact huc) (by unfold maxLen; omega) (by omega) (by simp; omega) ?_
  intro v' w' h4 h5 _
  refine h v' w' (hI.snoc ((hu.below ((Below.refl _ _).alloc (Nat.le_refl _) _)).kept h5 (rowS_ne h1 hu)) hfr (by rw [List.length_append]; exact h4) fun j hj => ?_) (((Below.refl _ _).alloc hB _).grown h5 (by simp; omega) hlt) ((World.grownBy_alloc _ _ _).trans h5)
  have hj' := (hI.2.1 j hj).below h10
  exact (hj'.below ((Below.refl _ _).alloc (Nat.le_refl _) _)).kept h5 (rowS_ne h1 hj')
/-- the forced end of a region in which an operation floats -/
theorem wpAnyIn_tail2 {F : Fence} {n : Nat} {P : Program} {ops : Array Oper} {Q : Exit → Act → World → Prop} {md : Region.Mode} {listed : Array Bool} {a : Act} {w : World} (k : Nat) (hs : ops.size = k + 2) {o1 o2 : Oper} (h1 : ops[k]? = some o1) (h2 : ops[k + 1]? = some o2)
    (hB : Region.seqB md ops 2 k listed = true) (h : wpListIn F n P ops Q [o1, o2] a w) : wpAnyIn F n P md ops Q 2 listed a w := by
  refine wpAnyIn_of_seq [o1, o2] k listed a w (fun j => ?_) hB h
  match j with
  | 0 => simp [h1]
  | 1 => simp [h2]
  | j + 2 => simp; omega
/-- what stands at a round of SpotsFor's loop -/
structure SfI (S4 S B : Nat) (w : World) (zss : List (List Int)) (W' : World) : Prop where
  r4 : Boxed W' S4 24 (.slice none 0 0)
  r5 : Boxed W' (S4 + 1) 4 (.bool false)
  bx : ∃ v us, Boxed W' S 24 v ∧ Lst W' B v zss us
  len : zss.length ≤ 1000
  bel : Below w.heap.size w W'
  sz : B ≤ W'.heap.size
structure SfX (S4 : Nat) (w W' : World) : Prop where
  r4 : Boxed W' S4 24 (.slice none 0 0)
  r5 : Boxed W' (S4 + 1) 4 (.bool false)
  bel : Below w.heap.size w W'
theorem SfI.own {S4 S B : Nat} {w A A' : World} {zss : List (List Int)} {row : Option Nat} (h : SfI S4 S B w zss A) (hg : A.grownBy A' row) (hw : w.heap.size ≤ B) (hr : ∀ r, row = some r → B ≤ r ∧ ∃ ob : Obj, A.heap[r]? = some ob ∧ ob.isCells = false) : SfI S4 S B w zss A' := by
  obtain ⟨v, us, hb, hl⟩ := h.bx
  exact ⟨boxOwn () A A' row h.r4 hg hr, boxOwn () A A' row h.r5 hg hr, ⟨v, us, boxOwn () A A' row hb hg hr, lstOwn hl hg fun r e => (hr r e).2⟩, h.len, h.bel.grown hg h.bel.size (fun k e => Nat.le_trans hw (hr k e).1), Nat.le_trans h.sz hg.size⟩
theorem SfX.own {S4 B : Nat} {w A A' : World} {row : Option Nat} (h : SfX S4 w A) (hg : A.grownBy A' row) (hw : w.heap.size ≤ B) (hr : ∀ r, row = some r → B ≤ r ∧ ∃ ob : Obj, A.heap[r]? = some ob ∧ ob.isCells = false) : SfX S4 w A' :=
  ⟨boxOwn () A A' row h.r4 hg hr, boxOwn () A A' row h.r5 hg hr, h.bel.grown hg h.bel.size (fun k e => Nat.le_trans hw (hr k e).1)⟩
theorem SfI.below {S4 S B : Nat} {w A A' : World} {zss : List (List Int)} (h : SfI S4 S B w zss A) (hb : Below A.heap.size A A') (hw : w.heap.size ≤ B) : SfI S4 S B w zss A' := by
  obtain ⟨v, us, hbx, hl⟩ := h.bx
  exact ⟨boxB h.r4 hb, boxB h.r5 hb, ⟨v, us, boxB hbx hb, hl.below hb⟩, h.len, h.bel.trans (hb.mono (Nat.le_trans hw h.sz)), Nat.le_trans h.sz hb.size⟩
/-- what SpotsFor's body may write -/
def sfE (S4 S B : Nat) (k : Nat) (o : Obj) : Prop := k = S4 ∨ k = S4 + 1 ∨ k = S ∨ (B ≤ k ∧ ∃ cs fr, o = .cells cs 48 fr)
theorem sfE_row {S4 S B : Nat} (h4 : S4 + 1 < B) (hS : S < B) : RowE (sfE S4 S B) B := fun k o h => by
  rcases h with h | h | h | ⟨_, cs, fr, h⟩
  · exact .inl (by omega)
  · exact .inl (by omega)
  · exact .inl (by omega)
  · exact .inr ⟨cs, fr, h⟩
theorem sfE_no {S4 S B k : Nat} {cs : Array Value} {T : TypeId} {fr : Nat × Nat} (h4 : k ≠ S4) (h5 : k ≠ S4 + 1) (hS : k ≠ S) (hB : k < B) : ¬ sfE S4 S B k (.cells cs T fr) := by
  rintro (h | h | h | ⟨h, _⟩)
  · exact h4 h
  · exact h5 h
  · exact hS h
  · omega
/-- one list more stored: what stands then, and what may have been written -/
theorem SfI.app {S4 S B : Nat} {w A w0 w3 : World} {zss : List (List Int)} {v v' : Value} {us : List Value} {zs : List Int} {u : Value} (h : SfI S4 S B w zss A) (hbv : Boxed A S 24 v) (hlv : Lst A B v zss us) (hw : w.heap.size ≤ B) (hwS : w.heap.size ≤ S) (h4 : S4 + 1 < S) (hS : S < B) (hn : zss.length < 1000)
    (h0 : Below A.heap.size A w0) (hL : Lst w3 B v' (zss ++ [zs]) (us ++ [u])) (hg : w0.grownBy w3 v.ownBlock) :
    KeepO (sfE S4 S B) A (w3.setCell ⟨S, 0, none⟩ v') ∧ SfI S4 S B w (zss ++ [zs]) (w3.setCell ⟨S, 0, none⟩ v') := by
  have hl0 := hlv.below h0
  have hne : ∀ k, k < B → some k ≠ v.ownBlock := fun k hk e => by have := (hl0.row e.symm).1; omega
  have g3 := grownBy_setCell' w3 S v'
  have hA := h.below h0 hw
  refine ⟨?_, ⟨?_, ?_, ⟨v', us ++ [u], Boxed.set v' (Boxed.keptBy (boxB hbv h0) hg (hne S hS)), hL.low g3 hS⟩, by simp; omega, ?_, ?_⟩⟩
  · refine ((KeepO.of_below h0).trans (KeepO.of_grown (E := sfE S4 S B) hg fun k o e ho => ?_) fun k o _ e => e).trans (KeepO.of_grown (E := sfE S4 S B) g3 fun k o e _ => by cases e; exact .inr (.inr (.inl rfl))) fun k o _ e => e
    obtain ⟨h5, cs, fr, h6⟩ := hl0.row e
    rw [h6] at ho
    injection ho with ho
    exact .inr (.inr (.inr ⟨h5, cs, fr, ho.symm⟩))
  · exact Boxed.keptBy (Boxed.keptBy hA.r4 hg (hne S4 (by omega))) g3 (by simp; omega)
  · exact Boxed.keptBy (Boxed.keptBy hA.r5 hg (hne (S4 + 1) (by omega))) g3 (by simp; omega)
  · have hb3 := hA.bel.grown hg hA.bel.size (fun k e => Nat.le_trans hw (hl0.row e).1)
    exact hb3.grown g3 hb3.size (fun k e => by cases e; omega)
  · exact Nat.le_trans hA.sz (Nat.le_trans hg.size g3.size)
/-- two results stored -/
theorem set_two {W : World} {S4 : Nat} {u b : Value} {t t' : TypeId} (q4 : Boxed W S4 t u) (q5 : Boxed W (S4 + 1) t' b) (u2 b2 : Value) :
    Boxed ((W.setCell ⟨S4, 0, none⟩ u2).setCell ⟨S4 + 1, 0, none⟩ b2) S4 t u2 ∧ Boxed ((W.setCell ⟨S4, 0, none⟩ u2).setCell ⟨S4 + 1, 0, none⟩ b2) (S4 + 1) t' b2 :=
  ⟨Boxed.keptBy (Boxed.set u2 q4) (grownBy_setCell' _ (S4 + 1) _) (by simp), Boxed.set b2 (Boxed.keptBy q5 (grownBy_setCell' _ S4 _) (by simp))⟩
theorem set_two_below {W w : World} {S4 B : Nat} (h : Below B w W) (hB : B ≤ S4) (hB2 : B ≤ W.heap.size) (u2 b2 : Value) : Below B w ((W.setCell ⟨S4, 0, none⟩ u2).setCell ⟨S4 + 1, 0, none⟩ b2) := by
  have g1 := grownBy_setCell' W S4 u2
  have g2 := grownBy_setCell' (W.setCell ⟨S4, 0, none⟩ u2) (S4 + 1) b2
  have h1 := h.grown g1 hB2 (fun k e => by cases e; exact hB)
  exact h1.grown g2 (Nat.le_trans hB2 g1.size) (fun k e => by cases e; omega)
theorem set_two_keep (S4 S B : Nat) (W : World) (u2 b2 : Value) : KeepO (sfE S4 S B) W ((W.setCell ⟨S4, 0, none⟩ u2).setCell ⟨S4 + 1, 0, none⟩ b2) :=
  (KeepO.of_grown (E := sfE S4 S B) (grownBy_setCell' W S4 u2) fun k o e _ => by cases e; exact .inl rfl).trans (KeepO.of_grown (E := sfE S4 S B) (grownBy_setCell' _ (S4 + 1) b2) fun k o e _ => by cases e; exact .inr (.inl rfl)) fun k o _ e => e
theorem ready1 {F : Fence} {n : Nat} {P : Program} {md : Region.Mode} {ops : Array Oper} {Q : Exit → Act → World → Prop} {fuel : Nat} {listed : Array Bool} {a : Act} {w : World} (i : Nat) {o : Oper} (hr : Region.ready md ops listed = [i]) (ho : ops[i]? = some o)
    (h : ∀ K' : Act → World → Prop, (∀ a w, wpAnyIn F n P md ops Q fuel (listed.setIfInBounds i true) a w → K' a w) → if Region.wanted o (yielded ops a.tmps) = true then Oper.wpIn F n P o a w K' Q else (∀ f, o.about P w a.eval = some f → F.fn f) ∧ K' (a.put o.dst undef) w) :
    wpAnyIn F n P md ops Q (fuel + 1) listed a w := wpAnyIn_ready hr (by simp) (AllReadyIn.cons ho h AllReadyIn.nil)
theorem ready2 {F : Fence} {n : Nat} {P : Program} {md : Region.Mode} {ops : Array Oper} {Q : Exit → Act → World → Prop} {fuel : Nat} {listed : Array Bool} {a : Act} {w : World} (i j : Nat) {o o' : Oper} (hr : Region.ready md ops listed = [i, j]) (ho : ops[i]? = some o) (ho' : ops[j]? = some o')
    (h : ∀ K' : Act → World → Prop, (∀ a w, wpAnyIn F n P md ops Q fuel (listed.setIfInBounds i true) a w → K' a w) → if Region.wanted o (yielded ops a.tmps) = true then Oper.wpIn F n P o a w K' Q else (∀ f, o.about P w a.eval = some f → F.fn f) ∧ K' (a.put o.dst undef) w)
    (h' : ∀ K' : Act → World → Prop, (∀ a w, wpAnyIn F n P md ops Q fuel (listed.setIfInBounds j true) a w → K' a w) → if Region.wanted o' (yielded ops a.tmps) = true then Oper.wpIn F n P o' a w K' Q else (∀ f, o'.about P w a.eval = some f → F.fn f) ∧ K' (a.put o'.dst undef) w) :
    wpAnyIn F n P md ops Q (fuel + 1) listed a w := wpAnyIn_ready hr (by simp) (AllReadyIn.cons ho h (AllReadyIn.cons ho' h' AllReadyIn.nil))
macro "sf1 " i:term:max : tactic => `(tactic| (refine ready1 $i (by kernel_rfl) rfl ?_; intro K hK; go_simp; refine hK _ _ ?_; clear hK K))
macro "sf_call" : tactic => `(tactic| (refine ready1 2 (by kernel_rfl) rfl ?_; intro K hK; go_simp; gi_wp2_with (gi_at_call 24; refine ((callsIn_wide).2 ($(Lean.mkIdent `CL)).out).mono ?_; rintro $(Lean.mkIdent `e):ident $(Lean.mkIdent `w0):ident ⟨$(Lean.mkIdent `u):ident, rfl, $(Lean.mkIdent `hu):ident, $(Lean.mkIdent `hbu):ident⟩); try (refine hK _ _ ?_; clear hK K)))
macro "sf_callK" : tactic => `(tactic| (intro K hK; go_simp; gi_wp2_with (gi_at_call 24; refine ((callsIn_wide).2 ($(Lean.mkIdent `CL)).out).mono ?_; rintro $(Lean.mkIdent `e):ident $(Lean.mkIdent `w0):ident ⟨$(Lean.mkIdent `u):ident, rfl, $(Lean.mkIdent `hu):ident, $(Lean.mkIdent `hbu):ident⟩); try (refine hK _ _ ?_; clear hK K)))
set_option maxHeartbeats 8000000 in
set_option maxRecDepth 100000 in
theorem implSpots (x y p : Int) (w : World) :
    Calls Try.prog 9 #[.agg #[.int .i64 x, .int .i64 y], .int .i64 p] w (LstC w.heap.size (spL x y p) (spF x y p) w) := by
  have HG := Lib.hid (fun wx => isWith x y p wx)
  have X1 := Lib.hid (Blk.new w #[.int .i64 x, .int .i64 y] 27)
  have hbt : Below w.heap.size w (((w.alloc (.cells #[.int .i64 x, .int .i64 y] 27)).alloc (.cells #[.slice none 0 0] 24)).alloc (.cells #[.bool false] 4)) := (((Below.refl _ _).alloc (Nat.le_refl _) _).alloc (by simp) _).alloc (by simp; omega) _
  have hzt : (((w.alloc (.cells #[.int .i64 x, .int .i64 y] 27)).alloc (.cells #[.slice none 0 0] 24)).alloc (.cells #[.bool false] 4)).heap.size = w.heap.size + 3 := by simp
  have x0 : Blk (((w.alloc (.cells #[.int .i64 x, .int .i64 y] 27)).alloc (.cells #[.slice none 0 0] 24)).alloc (.cells #[.bool false] 4)) w.heap.size #[.int .i64 x, .int .i64 y] := (X1.out.alloc _).alloc _
  have r4 : Boxed (((w.alloc (.cells #[.int .i64 x, .int .i64 y] 27)).alloc (.cells #[.slice none 0 0] 24)).alloc (.cells #[.bool false] 4)) (w.heap.size + 1) 24 (.slice none 0 0) := by
    have h := (Boxed.new (w.alloc (.cells #[.int .i64 x, .int .i64 y] 27)) 24 (.slice none 0 0)).alloc (.cells #[.bool false] 4)
    rwa [World.size_alloc] at h
  have r5 : Boxed (((w.alloc (.cells #[.int .i64 x, .int .i64 y] 27)).alloc (.cells #[.slice none 0 0] 24)).alloc (.cells #[.bool false] 4)) (w.heap.size + 1 + 1) 4 (.bool false) := by
    have h := Boxed.new ((w.alloc (.cells #[.int .i64 x, .int .i64 y] 27)).alloc (.cells #[.slice none 0 0] 24)) 4 (.bool false)
    rwa [World.size_alloc, World.size_alloc] at h
  obtain ⟨z0, z1, z2⟩ := x0.two
  have SF := Lib.hid (fun wx => spotsFor x y p wx)
  refine (callsIn_wide (n := 9)).1 ?_
  refine callsIn_of_wp_marks Try.func9 rfl trivial ?_ rfl
  simp only [Try.ntmps9, List.size_toArray, List.length_cons, List.length_nil, Nat.reduceAdd, Nat.reduceSub, Array.replicate_succ, Array.replicate_zero, List.push_toArray, List.append_toArray, List.nil_append, List.cons_append]
  gi_wp2_with fail
  refine ((callsIn_wide).2 (HG.out _)).mono ?_
  rintro e w1 ⟨rfl, hb1⟩
  have q4 := boxB r4 hb1
  have q5 := boxB r5 hb1
  have D1 := Lib.hid (hbt.trans (hb1.mono (by omega)))
  have hs1 := D1.out.size
  have XX := Lib.hid ((x0.below hb1 z2))
  have hw1 : w.heap.size + 1 + 1 < w1.heap.size := q5.lt
  clear hb1 r4 r5 x0 z0 z1 z2 hbt hzt X1
  generalize hS4 : w.heap.size + 1 = S4 at *
  cases h : (isCn x y && isPl p)
  · have hF : spF x y p = false := by simp only [spF, h]; rfl
    have JL := Lib.hid (spL_no hF)
    have JF := Lib.hid hF
    clear h hF
    have c4 := q4.cell
    have c5 := q5.cell
    have f4 := q4.frozen
    have f5 := q5.frozen
    gi_wp2_with fail
    obtain ⟨t4, t5⟩ := set_two q4 q5 (.slice none 0 0) (.bool false)
    have e4 := t4.cell
    have e5 := t5.cell
    refine ⟨.tuple #[.slice none 0 0, .bool false], ?_, _, by rw [JF.out], ⟨[], by rw [JL.out]; exact Lst.nil _ _⟩, set_two_below D1.out (by omega) hs1 _ _⟩
    simp [results, Try.f9, go_sem, e4, e5]
  have HC := Lib.hid h
  simp only [Bool.and_eq_true] at h
  obtain ⟨hc, hp⟩ := h
  rw [HC.out] at HG
  obtain ⟨z0, z1, z2⟩ := XX.out.two
  gi_wp2_with (gi_at_call 23; refine ((callsIn_wide).2 (SF.out _)).mono ?_; rintro e w2 ⟨rfl, rfl⟩)
  obtain ⟨b1, b2, hb3⟩ := crnNew (w1.alloc (.cells #[.slice none 0 0] 24)) x y p
  have hb4 := ((Below.refl _ w1).alloc (Nat.le_refl _) (.cells #[.slice none 0 0] 24)).trans (hb3.mono (by simp))
  have b0 := boxB (Boxed.new w1 24 (.slice none 0 0)) hb3
  have i4 := boxB q4 hb4
  have i5 := boxB q5 hb4
  have hB0 := D1.out.trans (hb4.mono hs1)
  have hsz : (((w1.alloc (.cells #[.slice none 0 0] 24)).alloc (.cells #[.int .i64 x, .int .i64 y] 27)).alloc (.cells #[.int .i64 p] 3)).heap.size = w1.heap.size + 3 := by simp
  simp only [World.size_alloc] at b1 b2 b0
  generalize (((w1.alloc (.cells #[.slice none 0 0] 24)).alloc (.cells #[.int .i64 x, .int .i64 y] 27)).alloc (.cells #[.int .i64 p] 3)) = W0 at *
  clear hb3 hb4 SF z0 z1 HG D1 z2 XX q4 q5
  generalize hS : w1.heap.size = S at *
  have HE : RowE (sfE S4 S W0.heap.size) W0.heap.size := sfE_row (by omega) (by omega)
  have FG := spotGives x y p (S + 1) (S + 1 + 1) 8 (sfE S4 S W0.heap.size) W0 hc hp b1 b2 HE (sfE_no (by omega) (by omega) (by omega) (by omega)) (sfE_no (by omega) (by omega) (by omega) (by omega))
  have hlen := spotsL_len x y p
  have JF := Lib.hid (show spF x y p = decide ((spotsL x y p).length ≤ 1000) by simp only [spF, HC.out, Bool.true_and])
  have JY := Lib.hid (fun h => spL_yes (x := x) (y := y) (p := p) h)
  have JN := Lib.hid (fun h => spL_no (x := x) (y := y) (p := p) h)
  have HIN : Hid (∀ s ∈ spotsL x y p, s ∈ spots p) := Lib.hid fun s hs => (List.mem_filter.1 hs).1
  generalize hL : spotsL x y p = L at *
  have H0 : SfI S4 S W0.heap.size w (([] : List (Int × Int)).map prL) W0 := ⟨i4, i5, ⟨_, [], b0, Lst.nil _ _⟩, by simp, hB0, Nat.le_refl _⟩
  have hwW : w.heap.size ≤ W0.heap.size := by omega
  clear i4 i5 b0 hB0 b1 b2
  refine wpIn_range_Y rfl rfl (gf := 36) (lb := #[.pointer (some ⟨S + 1, 0, none⟩), .pointer (some ⟨S + 1 + 1, 0, none⟩)]) rfl trivial (enters_of Try.func36 (by kernel_rfl) rfl)
    (encs := fun x : Int × Int => #[.agg #[.int .i64 x.1, .int .i64 x.2]]) (E := sfE S4 S W0.heap.size) (xs := L) HE.cells FG (fun _ => rfl)
    (fun pre W' => SfI S4 S W0.heap.size w (pre.map prL) W') (fun c pre W' => c = .ret ∧ 1000 < pre.length ∧ SfX S4 w W')
    (fun s A B row hs hg hr => hs.own hg hwW hr) (fun c s A B row hs hg hr => ⟨hs.1, hs.2.1, hs.2.2.own hg hwW hr⟩) H0
    (fun s a' W' => ∃ b, W0.heap.size ≤ b ∧ a' = { tmps := #[.agg #[.int .i64 x, .int .i64 y], .int .i64 p, .pointer (some ⟨w.heap.size, 0, none⟩), undef, .pointer (some ⟨S4, 0, none⟩), .pointer (some ⟨S4 + 1, 0, none⟩), .pointer (some ⟨S, 0, none⟩), .pointer (some ⟨b, 0, none⟩), .agg #[.int .i64 x, .int .i64 y], .int .i64 p, .bool true, .bool false, .agg #[.int .i64 x, .int .i64 y], .int .i64 p, .func (.func 36) #[] #[.pointer (some ⟨S + 1, 0, none⟩), .pointer (some ⟨S + 1 + 1, 0, none⟩)], .agg #[.int .i64 s.1, .int .i64 s.2], undef, undef, undef, undef, undef, undef, undef, undef, undef], defers := [] } ∧ Plc W' b s.1 s.2)
    (fun s a' _ A B row hs hg hr => by
      obtain ⟨b, h1, h2, h3⟩ := hs
      exact ⟨b, h1, h2, plcOwn () A B row h3 hg hr⟩) ?assign ?body ?done ?stop
  case assign =>
    rintro l2 m pre s A K hI hK
    have hbA : Below A.heap.size A (A.alloc (.cells #[.int .i64 s.1, .int .i64 s.2] 47)) := (Below.refl _ A).alloc (Nat.le_refl _) _
    gi_wp2
    exact hK _ _ (KeepO.of_below hbA) (hI.below hbA hwW) ⟨A.heap.size, hI.sz, rfl, Plc.new A _ _⟩
  case body =>
    rintro l2 m pre s a' A hI ⟨b, hb, rfl, hPb⟩ hpre
    have hpl := pre_len hpre
    have HML := Lib.hid (show (pre.map prL).length = pre.length by simp)
    obtain ⟨v, us, hbx, hls⟩ := hI.bx
    obtain ⟨va, vc, rfl⟩ := hls.form
    have c6 := hbx.cell
    have f6 := hbx.frozen
    have g6 := hbx.lt
    have hlen0 := hI.len
    have HI := Lib.hid hI
    have HBX := Lib.hid hbx
    have HLS := Lib.hid hls
    have PB := Lib.hid hPb
    have HPRE := Lib.hid (show (pre ++ [s]).map prL = pre.map prL ++ [[s.1, s.2]] by simp [prL])
    clear hI hbx hls hPb H0 FG HE
    obtain ⟨s1, s2⟩ := s
    generalize hzs : pre.map prL = zss at *
    by_cases hk : zss.length = 1000
    · have hk' : (zss.length : Int) = 1000 := by omega
      have c4 := HI.out.r4.cell
      have c5 := HI.out.r5.cell
      have f4 := HI.out.r4.frozen
      have f5 := HI.out.r5.frozen
      have g4 := HI.out.r4.lt
      have g5 := HI.out.r5.lt
      gi_wp2_with fail
      obtain ⟨t4, t5⟩ := set_two HI.out.r4 HI.out.r5 (.slice none 0 0) (.bool false)
      exact ⟨set_two_keep S4 S _ A _ _, rfl, (by have := HML.out; simp; omega), ⟨t4, t5, set_two_below HI.out.bel (by omega) HI.out.bel.size _ _⟩⟩
    · have hk' : ¬ (zss.length : Int) = 1000 := by omega
      gi_upto_region 8 with fail
      have hbd : Below A.heap.size A A.drew := (Below.refl _ A).drew
      have hgb := (PB.out.below hbd).blk.lt
      have CL := Lib.hid (cloneI b 2 2 [s1, s2] A.drew (rd_two (PB.out.below hbd).blk) (by simp))
      have HN := hk
      have hz0 : A.drew.heap.size = A.heap.size := rfl
      clear hk hk' f6
      refine wpIn_region_any (by kernel_rfl) ?_
      change wpAnyIn _ _ _ _ _ _ _ _ _ (World.drew _)
      refine ready2 0 1 (by kernel_rfl) rfl rfl ?_ ?_
      · intro K hK; go_simp; refine hK _ _ ?_; clear hK K
        sf1 1
        sf_call
        obtain ⟨ua, un, uc, rfl, hq⟩ := hu.rd.cells
        clear hq
        sf1 3
        refine wpAnyIn_tail2 4 rfl rfl rfl (by kernel_rfl) ?_
        have hb0 := hbd.trans hbu
        refine wpListIn_appS w0 A rfl _ _ rfl W0.heap.size (.slice va zss.length vc) zss us rfl HLS.out hb0 (.slice ua un uc) [s1, s2] (ints_mono' hu (by rw [hz0]; exact HI.out.sz)) (fun k hk => by have := (ints_row hu hk).1; rw [hz0] at this; exact this) w0.heap.size rfl rfl (by omega) (Nat.le_trans HI.out.sz hb0.size) rfl ?_
        intro v' w3 hL3 hb3 hg3
        obtain ⟨va2, vc2, rfl⟩ := hL3.form
        have K3 := Lib.hid (HI.out.app HBX.out HLS.out hwW (by omega) (by omega) (by omega) (by omega) hb0 hL3 hg3)
        rw [show (zss ++ [[s1, s2]]).length = zss.length + 1 by simp] at K3
        have h6 := Boxed.keptBy (boxB HBX.out hb0) hg3 (fun e => by have := ((HLS.out.below hb0).row e.symm).1; omega)
        have f6 := h6.frozen
        have c6 := h6.cell
        have g6 := h6.lt
        clear hL3 hb3 hg3 h6 hb0 hu hbu
        gi_wp2_with fail
        refine ⟨K3.out.1, ?_⟩
        show SfI S4 S _ w ((pre ++ [(s1, s2)]).map prL) _
        rw [HPRE.out]
        exact K3.out.2
      · intro K hK; go_simp; refine hK _ _ ?_; clear hK K
        refine ready2 0 2 (by kernel_rfl) rfl rfl ?_ ?_
        · intro K hK; go_simp; refine hK _ _ ?_; clear hK K
          sf_call
          obtain ⟨ua, un, uc, rfl, hq⟩ := hu.rd.cells
          clear hq
          sf1 3
          refine wpAnyIn_tail2 4 rfl rfl rfl (by kernel_rfl) ?_
          have hb0 := hbd.trans hbu
          refine wpListIn_appS w0 A rfl _ _ rfl W0.heap.size (.slice va zss.length vc) zss us rfl HLS.out hb0 (.slice ua un uc) [s1, s2] (ints_mono' hu (by rw [hz0]; exact HI.out.sz)) (fun k hk => by have := (ints_row hu hk).1; rw [hz0] at this; exact this) w0.heap.size rfl rfl (by omega) (Nat.le_trans HI.out.sz hb0.size) rfl ?_
          intro v' w3 hL3 hb3 hg3
          obtain ⟨va2, vc2, rfl⟩ := hL3.form
          have K3 := Lib.hid (HI.out.app HBX.out HLS.out hwW (by omega) (by omega) (by omega) (by omega) hb0 hL3 hg3)
          rw [show (zss ++ [[s1, s2]]).length = zss.length + 1 by simp] at K3
          have h6 := Boxed.keptBy (boxB HBX.out hb0) hg3 (fun e => by have := ((HLS.out.below hb0).row e.symm).1; omega)
          have f6 := h6.frozen
          have c6 := h6.cell
          have g6 := h6.lt
          clear hL3 hb3 hg3 h6 hb0 hu hbu
          gi_wp2_with fail
          refine ⟨K3.out.1, ?_⟩
          show SfI S4 S _ w ((pre ++ [(s1, s2)]).map prL) _
          rw [HPRE.out]
          exact K3.out.2
        · sf_callK
          obtain ⟨ua, un, uc, rfl, hq⟩ := hu.rd.cells
          clear hq
          refine ready2 0 3 (by kernel_rfl) rfl rfl ?_ ?_
          · have c6 := Boxed.cell (boxB HBX.out (hbd.trans hbu))
            intro K hK; go_simp; refine hK _ _ ?_; clear hK K
            sf1 3
            refine wpAnyIn_tail2 4 rfl rfl rfl (by kernel_rfl) ?_
            have hb0 := hbd.trans hbu
            refine wpListIn_appS w0 A rfl _ _ rfl W0.heap.size (.slice va zss.length vc) zss us rfl HLS.out hb0 (.slice ua un uc) [s1, s2] (ints_mono' hu (by rw [hz0]; exact HI.out.sz)) (fun k hk => by have := (ints_row hu hk).1; rw [hz0] at this; exact this) w0.heap.size rfl rfl (by omega) (Nat.le_trans HI.out.sz hb0.size) rfl ?_
            intro v' w3 hL3 hb3 hg3
            obtain ⟨va2, vc2, rfl⟩ := hL3.form
            have K3 := Lib.hid (HI.out.app HBX.out HLS.out hwW (by omega) (by omega) (by omega) (by omega) hb0 hL3 hg3)
            rw [show (zss ++ [[s1, s2]]).length = zss.length + 1 by simp] at K3
            have h6 := Boxed.keptBy (boxB HBX.out hb0) hg3 (fun e => by have := ((HLS.out.below hb0).row e.symm).1; omega)
            have f6 := h6.frozen
            have c6 := h6.cell
            have g6 := h6.lt
            clear hL3 hb3 hg3 h6 hb0 hu hbu
            gi_wp2_with fail
            refine ⟨K3.out.1, ?_⟩
            show SfI S4 S _ w ((pre ++ [(s1, s2)]).map prL) _
            rw [HPRE.out]
            exact K3.out.2
          · intro K hK; go_simp; refine hK _ _ ?_; clear hK K
            have c6 := Boxed.cell ((boxB HBX.out (hbd.trans hbu)).alloc (.cells #[.slice ua un uc] 48))
            sf1 0
            refine wpAnyIn_tail2 4 rfl rfl rfl (by kernel_rfl) ?_
            have hb0 := hbd.trans hbu
            refine wpListIn_appS w0 A rfl _ _ rfl W0.heap.size (.slice va zss.length vc) zss us rfl HLS.out hb0 (.slice ua un uc) [s1, s2] (ints_mono' hu (by rw [hz0]; exact HI.out.sz)) (fun k hk => by have := (ints_row hu hk).1; rw [hz0] at this; exact this) w0.heap.size rfl rfl (by omega) (Nat.le_trans HI.out.sz hb0.size) rfl ?_
            intro v' w3 hL3 hb3 hg3
            obtain ⟨va2, vc2, rfl⟩ := hL3.form
            have K3 := Lib.hid (HI.out.app HBX.out HLS.out hwW (by omega) (by omega) (by omega) (by omega) hb0 hL3 hg3)
            rw [show (zss ++ [[s1, s2]]).length = zss.length + 1 by simp] at K3
            have h6 := Boxed.keptBy (boxB HBX.out hb0) hg3 (fun e => by have := ((HLS.out.below hb0).row e.symm).1; omega)
            have f6 := h6.frozen
            have c6 := h6.cell
            have g6 := h6.lt
            clear hL3 hb3 hg3 h6 hb0 hu hbu
            gi_wp2_with fail
            refine ⟨K3.out.1, ?_⟩
            show SfI S4 S _ w ((pre ++ [(s1, s2)]).map prL) _
            rw [HPRE.out]
            exact K3.out.2
  case done =>
    rintro D A hD hI hK
    have c4 := hI.r4.cell
    have c5 := hI.r5.cell
    have f4 := hI.r4.frozen
    have f5 := hI.r5.frozen
    have g4 := hI.r4.lt
    have g5 := hI.r5.lt
    obtain ⟨v, us, hbx, hls⟩ := hI.bx
    obtain ⟨va, vc, rfl⟩ := hls.form
    have c6 := hbx.cell
    have hF : spF x y p = true := by rw [JF.out]; have := hI.len; simp at this; simp; omega
    have hY := JY.out hF
    have HI := Lib.hid hI
    have HLS := Lib.hid hls
    rw [show (L.map prL).length = L.length by simp] at HLS
    clear FG H0 HE hI hbx hls
    gi_wp2_with fail
    obtain ⟨t4, t5⟩ := set_two HI.out.r4 HI.out.r5 (.slice va L.length vc) (.bool true)
    have hD1 : ((A.setCell ⟨S4, 0, none⟩ (.slice va L.length vc)).setCell ⟨S4 + 1, 0, none⟩ (.bool true)).heap[D]? = some (.deferred (some [])) := (KeepsOthers.setCell _ ⟨S4 + 1, 0, none⟩ _).same D _ ((KeepsOthers.setCell A ⟨S4, 0, none⟩ _).same D _ hK rfl) rfl
    have gD := grownBy_putObj' ((A.setCell ⟨S4, 0, none⟩ (.slice va L.length vc)).setCell ⟨S4 + 1, 0, none⟩ (.bool true)) D (.deferred none)
    have hr : ∀ r, some D = some r → 0 ≤ r ∧ ∃ ob : Obj, ((A.setCell ⟨S4, 0, none⟩ (.slice va L.length vc)).setCell ⟨S4 + 1, 0, none⟩ (.bool true)).heap[r]? = some ob ∧ ob.isCells = false := fun r e => by cases e; exact ⟨Nat.zero_le _, _, hD1, rfl⟩
    have e4 := Boxed.cell (boxOwn () _ _ _ t4 gD hr)
    have e5 := Boxed.cell (boxOwn () _ _ _ t5 gD hr)
    have hL1 := (HLS.out.low (grownBy_setCell' A S4 (.slice va L.length vc)) (by omega)).low (grownBy_setCell' _ (S4 + 1) (.bool true)) (by omega)
    have hL2 := lstOwn hL1 gD fun r e => (hr r e).2
    have hB1 := set_two_below HI.out.bel (show w.heap.size ≤ S4 by omega) HI.out.bel.size (.slice va L.length vc) (.bool true)
    refine ⟨by simp, .inl ⟨_, _, rfl, run_takeDeferred hD1, ?_⟩⟩
    refine ⟨.tuple #[.slice va L.length vc, .bool true], ?_, _, by rw [hF], ⟨us, by rw [hY]; exact Lst.mono hL2 hwW⟩, hB1.trans (belowK_b (w := W0) (by omega) _ D _ _ hD hD1 rfl rfl)⟩
    simp [results, Try.f9, go_sem, e4, e5]
  case stop =>
    rintro D c pre A hD hpre ⟨rfl, hp1, hX⟩ hK
    have hF : spF x y p = false := by rw [JF.out]; have := hpre.length_le; simp; omega
    have hN := JN.out hF
    clear FG H0 HE
    gi_wp2_with fail
    have gD := grownBy_putObj' A D (.deferred none)
    have hr : ∀ r, some D = some r → 0 ≤ r ∧ ∃ ob : Obj, A.heap[r]? = some ob ∧ ob.isCells = false := fun r e => by cases e; exact ⟨Nat.zero_le _, _, hK, rfl⟩
    have e4 := Boxed.cell (boxOwn () _ _ _ hX.r4 gD hr)
    have e5 := Boxed.cell (boxOwn () _ _ _ hX.r5 gD hr)
    refine ⟨by simp, .inl ⟨_, _, rfl, run_takeDeferred hK, ?_⟩⟩
    refine ⟨.tuple #[.slice none 0 0, .bool false], ?_, _, by rw [hF], ⟨[], by rw [hN]; exact Lst.nil _ _⟩, hX.bel.trans (belowK_b (w := W0) (by omega) _ D _ _ hD hK rfl rfl)⟩
    simp [results, Try.f9, go_sem, e4, e5]
end Go.Proofs.Ytfkdkhoihlkgcac
