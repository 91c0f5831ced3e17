/- impl.coverings: the iterator. -/
import Derived.Test.YtimbpfenpbkckabCy
import Derived.Laws.EntriesVeiled
namespace Go.Proofs.Ytimbpfenpbkckab
set_option linter.unusedVariables false
open Go.RowKit Go.Shelf
attribute [local go_sem] Oper.semAt_some

theorem Laid.new {W : World} {b : Nat} {t : TypeId} (h1 : W.heap[b]? = some (.cells #[.bool false, .bool false, .bool false, .bool false, .bool false, .bool false, .bool false] t (0, 0))) : Laid W b [] := fun k hk => by
  have h2 : k = 0 ∨ k = 1 ∨ k = 2 ∨ k = 3 ∨ k = 4 ∨ k = 5 ∨ k = 6 := by omega
  rcases h2 with rfl | rfl | rfl | rfl | rfl | rfl | rfl <;> simp [World.cell?, World.frozen?, h1]
set_option maxHeartbeats 4000000 in
set_option maxRecDepth 100000 in
theorem coverIt (gs ps : List Int) (E : Nat → Prop) (N n : Nat) (J Jx : List (Value × List Nat) → World → Prop) (gb pb rb l : Nat) (gv pv : Value) (r : Int) (W : World)
    (hG : Boxed W gb 22 gv) (hP : Boxed W pb 22 pv) (hR : Boxed W rb 3 (.int .i64 r)) (rg : Rd W gv gs) (rp : Rd W pv ps)
    (hgl : ∀ k, gv.ownBlock = some k → k < W.heap.size) (hpl : ∀ k, pv.ownBlock = some k → k < W.heap.size)
    (hE : ∀ k, E k ∨ k = l → k < W.heap.size ∧ k ≠ gb ∧ k ≠ pb ∧ k ≠ rb ∧ gv.ownBlock ≠ some k ∧ pv.ownBlock ≠ some k) (hJ : LowI W.heap.size J)
    (hY : ∀ m pre x W1, J pre W1 → Ints W1 W.heap.size x.1 (idx x.2) ∧ x.2.length ≤ 7 ∧ (∀ y ∈ x.2, y < ps.length) → pre.length < N → YieldAt Fence.wide m Try.prog l #[x.1] W1 fun e W' =>
      (e = .returned (.bool true) ∧ J (pre ++ [x]) W' ∧ KeepE (fun k => E k ∨ k = l) W1 W') ∨ (e = .returned (.bool false) ∧ Jx (pre ++ [x]) W'))
    (hgb : ∀ j, 0 ≤ gt gs j ∧ gt gs j ≤ 100) (hp : arePl ps = true) (hr : 0 ≤ r ∧ r ≤ 10) (hg7 : gs.length ≤ 7) (hN : (covF ps (gs.map (· + 2 * r)) []).length ≤ N) (hj : J [] W) :
    CallsIn Fence.wide n Try.prog 60 #[.func (.yield l) #[] #[], .pointer (some ⟨gb, 0, none⟩), .pointer (some ⟨pb, 0, none⟩), .pointer (some ⟨rb, 0, none⟩)] W fun e W' => (∃ v, e = .returned v) ∧
      ((∃ xs : List (Value × List Nat), xs.map (·.2) = covF ps (gs.map (· + 2 * r)) [] ∧ J xs W') ∨ ∃ pre : List (Value × List Nat), pre.map (·.2) <+: covF ps (gs.map (· + 2 * r)) [] ∧ Jx pre W') := by
  obtain ⟨ga, gn, gc, rfl, hgn, _⟩ := rg.cells
  have gn7 : gn ≤ 7 := by omega
  have HGN := Lib.hid hgn
  clear hgn
  have c1 := (hG.alloc (.cells #[.func (.yield l) #[] #[]] 33)).cell
  refine callsIn_of_wp Try.func60 rfl trivial ?_ rfl
  simp only [Try.ntmps60, List.size_toArray, List.length_cons, List.length_nil, Nat.reduceAdd, Nat.reduceSub, Array.replicate_succ, Array.replicate_zero, List.push_toArray, List.append_toArray, List.nil_append, List.cons_append]
  gi_wp2_with (first
    | (refine wpListIn_mk rfl _ _ rfl W.heap.size gn _ rfl rfl rfl (by omega) (by simp) ?_; intro w1 hI hb1 hg1; have HI := Lib.hid hI; have HG1 := Lib.hid hg1; clear hI hb1 hg1))
  have hg1 := HG1.out
  have hI := HI.out
  simp only [World.size_alloc] at hI
  have hbk := hI.blk
  have gl := hG.lt
  have pl := hP.lt
  have rl := hR.lt
  have hs1 : W.heap.size + 2 ≤ w1.heap.size := by omega
  have hbW1 : Below W.heap.size W w1 := ((Below.refl _ W).alloc (Nat.le_refl _) _).grown hg1 (by simp) (fun k e => by cases e)
  have by1 : Boxed w1 W.heap.size 33 (.func (.yield l) #[] #[]) := (Boxed.new W _ _).kept hg1 (by simp)
  have hcaps : ∀ o1 o2 o3 : Obj, Below W.heap.size W (((w1.alloc o1).alloc o2).alloc o3) := fun o1 o2 o3 => ((hbW1.alloc (by omega) _).alloc (by simp; omega) _).alloc (by simp; omega) _
  have HC := goesOn gs ps E W.heap.size N J Jx gb W.heap.size w1.heap.size pb (w1.heap.size + 1) rb (w1.heap.size + 1 + 1) l (W.heap.size + 1) gn (.slice ga gn gc) pv r _ rfl
    (fun k hk => by
      rcases hk with hk | rfl | rfl
      · obtain ⟨h1, h2, h3, h4, h5, h6⟩ := hE k hk
        exact ⟨h2, by show k ≠ W.heap.size; omega, by show k ≠ w1.heap.size; omega, h3, h4, by show k ≠ w1.heap.size + 1 + 1; omega, h5, h6⟩
      · exact ⟨by show W.heap.size + 1 ≠ gb; omega, by show W.heap.size + 1 ≠ W.heap.size; omega, by show W.heap.size + 1 ≠ w1.heap.size; omega, by show W.heap.size + 1 ≠ pb; omega, by show W.heap.size + 1 ≠ rb; omega, by show W.heap.size + 1 ≠ w1.heap.size + 1 + 1; omega, fun e => absurd (show W.heap.size + 1 < W.heap.size from hgl _ e) (by omega), fun e => absurd (show W.heap.size + 1 < W.heap.size from hpl _ e) (by omega)⟩
      · exact ⟨by show w1.heap.size + 1 ≠ gb; omega, by show w1.heap.size + 1 ≠ W.heap.size; omega, by show w1.heap.size + 1 ≠ w1.heap.size; omega, by show w1.heap.size + 1 ≠ pb; omega, by show w1.heap.size + 1 ≠ rb; omega, by show w1.heap.size + 1 ≠ w1.heap.size + 1 + 1; omega, fun e => absurd (show w1.heap.size + 1 < W.heap.size from hgl _ e) (by omega), fun e => absurd (show w1.heap.size + 1 < W.heap.size from hpl _ e) (by omega)⟩)
    (by omega) (by omega) (by omega) (fun k hk => (hE k hk).1) hJ hY hgb hp hr HGN.out gn7 (gs.map (· + 2 * r)) (n - 1) [] []
    (((w1.alloc (.cells #[.slice (some ⟨W.heap.size + 1, 0, none⟩) gn gn] 22)).alloc (.cells #[.bool false, .bool false, .bool false, .bool false, .bool false, .bool false, .bool false] 55)).alloc (.cells #[.func (.func 61) #[] (CovP.caps ⟨gb, W.heap.size, w1.heap.size, pb, w1.heap.size + 1, rb, w1.heap.size + 1 + 1, l, W.heap.size + 1, gn, .slice ga gn gc, pv, r⟩)] 42))
    (by simp [HGN.out]) (by simp)
    ⟨boxB hG (hcaps _ _ _), ((by1.alloc _).alloc _).alloc _, ((Boxed.new w1 _ _).alloc _).alloc _, boxB hP (hcaps _ _ _), boxB hR (hcaps _ _ _), by
      have := Boxed.new ((w1.alloc (.cells #[.slice (some ⟨W.heap.size + 1, 0, none⟩) gn gn] 22)).alloc (.cells #[.bool false, .bool false, .bool false, .bool false, .bool false, .bool false, .bool false] 55)) 42 (.func (.func 61) #[] (CovP.caps ⟨gb, W.heap.size, w1.heap.size, pb, w1.heap.size + 1, rb, w1.heap.size + 1 + 1, l, W.heap.size + 1, gn, .slice ga gn gc, pv, r⟩))
      simpa using this, rg.below (hcaps _ _ _), rp.below (hcaps _ _ _)⟩
    ⟨List.replicate gn 0, by simp, hI.below (((Below.refl _ w1).alloc (Nat.le_refl _) _).alloc (by simp) _ |>.alloc (by simp; omega) _), rfl⟩
    (Laid.new (by
      have h1 : (((w1.alloc (.cells #[.slice (some ⟨W.heap.size + 1, 0, none⟩) gn gn] 22)).alloc (.cells #[.bool false, .bool false, .bool false, .bool false, .bool false, .bool false, .bool false] 55)).alloc (.cells #[.func (.func 61) #[] (CovP.caps ⟨gb, W.heap.size, w1.heap.size, pb, w1.heap.size + 1, rb, w1.heap.size + 1 + 1, l, W.heap.size + 1, gn, .slice ga gn gc, pv, r⟩)] 42)).heap[w1.heap.size + 1]? = some (.cells #[.bool false, .bool false, .bool false, .bool false, .bool false, .bool false, .bool false] 55 (0, 0)) := by
        refine (Below.heap_alloc _ _ _ (by simp)).trans ?_
        have := World.alloc_heap_new (w1.alloc (.cells #[.slice (some ⟨W.heap.size + 1, 0, none⟩) gn gn] 22)) (.cells #[.bool false, .bool false, .bool false, .bool false, .bool false, .bool false, .bool false] 55)
        rwa [World.size_alloc] at this
      exact h1))
    (by intro x hx; cases hx) (Nat.le_trans (by omega) (hcaps _ _ _).size) (hJ.below hj (hcaps _ _ _)) (by simpa using hN)
  refine ⟨trivial, (fun h => by cases h), ?_⟩
  refine CallsIn.mono (show CallsIn _ _ _ _ _ _ _ from HC) ?_
  rintro e W' (⟨rfl, new, hn, hj', _⟩ | ⟨rfl, new, hn, hx⟩)
  · gi_wp2
    go_end0
    exact ⟨⟨_, rfl⟩, .inl ⟨new, by simpa using hn, by simpa using hj'⟩⟩
  · gi_wp2
    go_end0
    exact ⟨⟨_, rfl⟩, .inr ⟨new, by simpa using hn, by simpa using hx⟩⟩

theorem coverings_in (n : Nat) (ga pa : Option Addr) (gn gc pn pc : Nat) (r : Int) (w : World) :
    CallsIn Fence.wide n Try.prog 45 #[.slice ga gn gc, .slice pa pn pc, .int .i64 r] w fun e w' => e = .returned (.func (.func 60) #[] #[.pointer (some ⟨w.heap.size, 0, none⟩), .pointer (some ⟨w.heap.size + 1, 0, none⟩), .pointer (some ⟨w.heap.size + 1 + 1, 0, none⟩)]) ∧
      w' = ((w.alloc (.cells #[.slice ga gn gc] 22)).alloc (.cells #[.slice pa pn pc] 22)).alloc (.cells #[.int .i64 r] 3) := by
  refine callsIn_of_wp Try.func45 rfl trivial ?_ rfl
  simp only [Try.ntmps45, List.size_toArray, List.length_cons, List.length_nil, Nat.reduceAdd, Nat.reduceSub, Array.replicate_succ, Array.replicate_zero, List.push_toArray, List.append_toArray, List.nil_append, List.cons_append]
  gi_wp2
  go_ret
  exact ⟨rfl, rfl⟩
theorem coverSeq (gs ps : List Int) (r : Int) (E : Nat → Prop) (gb pb rb : Nat) (gv pv : Value) (w : World) (m n : Nat)
    (hG : Boxed w gb 22 gv) (hP : Boxed w pb 22 pv) (hR : Boxed w rb 3 (.int .i64 r)) (rg : Rd w gv gs) (rp : Rd w pv ps)
    (hgl : ∀ k, gv.ownBlock = some k → k < w.heap.size) (hpl : ∀ k, pv.ownBlock = some k → k < w.heap.size)
    (hE : ∀ k, E k → k < w.heap.size ∧ k ≠ gb ∧ k ≠ pb ∧ k ≠ rb ∧ gv.ownBlock ≠ some k ∧ pv.ownBlock ≠ some k)
    (hgb : ∀ j, 0 ≤ gt gs j ∧ gt gs j ≤ 100) (hp : arePl ps = true) (hr : 0 ≤ r ∧ r ≤ 10) (hg7 : gs.length ≤ 7) :
    ∀ (l : Nat) (J Jx : List (Value × List Nat) → World → Prop) (W : World), Below w.heap.size w W → w.heap.size ≤ l → l < W.heap.size → LowI W.heap.size J →
      (∀ pre x W1, J pre W1 → Ints W1 w.heap.size x.1 (idx x.2) ∧ x.2.length ≤ 7 ∧ (∀ y ∈ x.2, y < ps.length) → pre.length < (covL gs ps r).length → YieldAt Fence.wide m Try.prog l #[x.1] W1 fun e W' =>
        (e = .returned (.bool true) ∧ J (pre ++ [x]) W' ∧ KeepE (fun k => E k ∨ k = l) W1 W') ∨ (e = .returned (.bool false) ∧ Jx (pre ++ [x]) W')) → J [] W →
      CallsIn Fence.wide n Try.prog 60 (#[.func (.yield l) #[] #[]] ++ #[.pointer (some ⟨gb, 0, none⟩), .pointer (some ⟨pb, 0, none⟩), .pointer (some ⟨rb, 0, none⟩)]) W fun e W' => (∃ v, e = .returned v) ∧
        ((∃ xs : List (Value × List Nat), xs.map (·.2) = covL gs ps r ∧ J xs W') ∨ ∃ pre : List (Value × List Nat), pre.map (·.2) <+: covL gs ps r ∧ Jx pre W') := by
  intro l J Jx W hb hl1 hl2 hJ hY hj
  have gl := hG.lt
  have pl := hP.lt
  have rl := hR.lt
  exact coverIt gs ps E _ n J Jx gb pb rb l gv pv r W (boxB hG hb) (boxB hP hb) (boxB hR hb) (rg.below hb) (rp.below hb) (fun k e => Nat.lt_of_lt_of_le (hgl k e) hb.size) (fun k e => Nat.lt_of_lt_of_le (hpl k e) hb.size)
    (fun k hk => by
      rcases hk with hk | rfl
      · obtain ⟨h1, h2⟩ := hE k hk
        exact ⟨Nat.lt_of_lt_of_le h1 hb.size, h2⟩
      · exact ⟨hl2, by omega, by omega, by omega, fun e => by have := hgl _ e; omega, fun e => by have := hpl _ e; omega⟩)
    hJ (fun m' pre x W1 h1 h2 h3 => yield_any rfl m' (hY pre x W1 h1 ⟨ints_mono' h2.1 hb.size, h2.2⟩ h3)) hgb hp hr hg7 (Nat.le_refl _) hj
end Go.Proofs.Ytimbpfenpbkckab
