/- impl.coverings: the search by its own record, one covering after the other. -/
import Derived.Test.YtimbpfenpbkckabCx
namespace Go.Proofs.Ytimbpfenpbkckab
set_option linter.unusedVariables false
open Go.RowKit Go.Shelf
attribute [local go_sem] Oper.semAt_some

theorem wide_fn (f : FuncId) : Fence.wide.fn f ↔ True := ⟨fun _ => trivial, fun _ => trivial⟩
theorem wide_depth : Fence.wide.depth = none := rfl
attribute [local simp] wide_fn wide_depth
attribute [local go_sem] wide_fn wide_depth
/-- which planks are laid -/
def Laid (W : World) (b : Nat) (l : List Nat) : Prop := ∀ k, k < 7 → W.cell? ⟨b, k, none⟩ = some (.bool (l.contains k)) ∧ W.frozen? ⟨b, k, none⟩ = false
theorem Laid.same {W W' : World} {b : Nat} {l : List Nat} (h : Laid W b l) (hb : W'.heap[b]? = W.heap[b]?) : Laid W' b l := fun k hk =>
  ⟨(World.cell?_of_block (a := ⟨b, k, none⟩) hb).trans (h k hk).1, (World.frozen?_of_block (a := ⟨b, k, none⟩) hb).trans (h k hk).2⟩
theorem Laid.put {W : World} {b : Nat} {l : List Nat} (h : Laid W b l) {k : Nat} (hk : k < 7) : Laid (W.setCell ⟨b, k, none⟩ (.bool true)) b (l ++ [k]) := fun j hj => by
  refine ⟨?_, by rw [World.frozen?_setCell]; exact (h j hj).2⟩
  by_cases e : j = k
  · subst e
    rw [World.cell?_setCell_same _ _ _ (h j hj).1]; simp
  · rw [World.cell?_setCell_other _ _ _ _ (by intro e2; injection e2 with _ e2 _; exact e e2.symm), (h j hj).1]
    have e3 : ¬ (j = k) := e
    simp [e3]
theorem Laid.take {W : World} {b : Nat} {l : List Nat} {k : Nat} (h : Laid W b (l ++ [k])) (hk : k < 7) (hn : l.contains k = false) : Laid (W.setCell ⟨b, k, none⟩ (.bool false)) b l := fun j hj => by
  refine ⟨?_, by rw [World.frozen?_setCell]; exact (h j hj).2⟩
  by_cases e : j = k
  · subst e
    rw [World.cell?_setCell_same _ _ _ (h j hj).1, hn]
  · rw [World.cell?_setCell_other _ _ _ _ (by intro e2; injection e2 with _ e2 _; exact e e2.symm), (h j hj).1]
    have e3 : ¬ (j = k) := e
    simp [e3]
theorem Laid.lt {W : World} {b : Nat} {l : List Nat} (h : Laid W b l) : b < W.heap.size := by
  obtain ⟨o, ho, _⟩ := cells_of_cell (h 0 (by decide)).1
  exact (Array.getElem?_eq_some_iff.1 ho).1
theorem Rd.at {w : World} {b o n c : Nat} {zs : List Int} (h : Rd w (.slice (some ⟨b, o, none⟩) n c) zs) {j : Nat} (hj : j < n) : w.cell? ⟨b, o + j, none⟩ = some (.int .i64 (gt zs j)) := by
  obtain ⟨a, n', c', e, hn, hh⟩ := h.cells
  injection e with e1 e2 e3
  subst e1 e2
  obtain ⟨b', o', e4, _, h5⟩ := hh j hj
  injection e4 with e4
  injection e4 with e5 e6
  subst e5 e6
  exact h5
/-- the covering under way: its first places -/
def Und (W : World) (B g n : Nat) (l : List Nat) : Prop := ∃ zs : List Int, zs.length = n ∧ Ints W B (.slice (some ⟨g, 0, none⟩) n n) zs ∧ zs.take l.length = idx l
theorem Und.same {W W' : World} {B g n : Nat} {l : List Nat} (h : Und W B g n l) (hb : W'.heap[g]? = W.heap[g]?) : Und W' B g n l := by
  obtain ⟨zs, h1, h2, h3⟩ := h
  refine ⟨zs, h1, ⟨h2.1, ?_⟩, h3⟩
  rcases h2.2 with h4 | ⟨g', cap, cur, e, h4, hg, r⟩
  · exact .inl h4
  · obtain rfl : g = g' := by injection e with e; injection e with e; injection e
    exact .inr ⟨g, cap, cur, e, h4, hb.trans hg, r⟩

theorem Und.frame {W : World} {B g n : Nat} {l l' : List Nat} (h : Und W B g n (l ++ l')) : Und W B g n l := by
  obtain ⟨zs, h1, h2, h3⟩ := h
  refine ⟨zs, h1, h2, ?_⟩
  have e := congrArg (List.take l.length) h3
  rw [List.take_take, Nat.min_eq_left (by simp)] at e
  rw [e]; simp [idx]
theorem Und.put {W : World} {B g n : Nat} {l : List Nat} (h : Und W B g n l) (hl : l.length < n) (k : Nat) : Und (W.setCell ⟨g, l.length, none⟩ (.int .i64 (k : Int))) B g n (l ++ [k]) := by
  obtain ⟨zs, h1, h2, h3⟩ := h
  refine ⟨zs.set l.length k, by simp [h1], (h2.set h1.symm l.length k).1, ?_⟩
  rw [List.length_append, List.length_singleton, List.take_succ_eq_append_getElem (by simp; omega), List.take_set_of_le (Nat.le_refl _), h3]
  simp [idx]
theorem Rd.keepE {E : Nat → Prop} {w w' : World} {v : Value} {zs : List Int} (h : Rd w v zs) (hk : KeepE E w w') (hE : ∀ k, v.ownBlock = some k → ¬ E k) : Rd w' v zs := by
  rcases h with h | ⟨b, off, cap, e, hlt, hc, hm, hh⟩
  · exact .inl h
  · refine .inr ⟨b, off, cap, e, Nat.lt_of_lt_of_le hlt hk.size, hc, hm, fun j hj => ?_⟩
    exact (World.cell?_of_block (a := ⟨b, off + j, none⟩) (hk.block b hlt (hE b (by rw [e]; rfl)))).trans (hh j hj)

structure CovP where
  (gb yb cb pb ib rb fb l cg gn : Nat)
  (gv pv : Value)
  (r : Int)
def CovP.caps (q : CovP) : Array Value := #[.pointer (some ⟨q.gb, 0, none⟩), .pointer (some ⟨q.yb, 0, none⟩), .pointer (some ⟨q.cb, 0, none⟩), .pointer (some ⟨q.pb, 0, none⟩), .pointer (some ⟨q.ib, 0, none⟩), .pointer (some ⟨q.rb, 0, none⟩), .pointer (some ⟨q.fb, 0, none⟩)]
/-- what lies about the search and isn't written -/
structure Fix (W : World) (q : CovP) (gs ps : List Int) : Prop where
  g : Boxed W q.gb 22 q.gv
  y : Boxed W q.yb 33 (.func (.yield q.l) #[] #[])
  c : Boxed W q.cb 22 (.slice (some ⟨q.cg, 0, none⟩) q.gn q.gn)
  p : Boxed W q.pb 22 q.pv
  r : Boxed W q.rb 3 (.int .i64 q.r)
  f : Boxed W q.fb 42 (.func (.func 61) #[] q.caps)
  rg : Rd W q.gv gs
  rp : Rd W q.pv ps
structure Away (q : CovP) (k : Nat) : Prop where
  g : k ≠ q.gb
  y : k ≠ q.yb
  c : k ≠ q.cb
  p : k ≠ q.pb
  r : k ≠ q.rb
  f : k ≠ q.fb
  rg : q.gv.ownBlock ≠ some k
  rp : q.pv.ownBlock ≠ some k
theorem Fix.keepE {E : Nat → Prop} {W W' : World} {q : CovP} {gs ps : List Int} (h : Fix W q gs ps) (hk : KeepE E W W') (hE : ∀ k, E k → Away q k) : Fix W' q gs ps :=
  ⟨boxE h.g hk fun e => (hE _ e).g rfl, boxE h.y hk fun e => (hE _ e).y rfl, boxE h.c hk fun e => (hE _ e).c rfl, boxE h.p hk fun e => (hE _ e).p rfl, boxE h.r hk fun e => (hE _ e).r rfl, boxE h.f hk fun e => (hE _ e).f rfl,
    h.rg.keepE hk fun k e e2 => (hE _ e2).rg e, h.rp.keepE hk fun k e e2 => (hE _ e2).rp e⟩
/-- what the search writes, with what a round writes -/
def Ew (E : Nat → Prop) (q : CovP) : Nat → Prop := fun k => (E k ∨ k = q.l) ∨ k = q.cg ∨ k = q.ib
def GoPost (E : Nat → Prop) (q : CovP) (S : Nat) (J Jx : List (Value × List Nat) → World → Prop) (ls : List (List Nat)) (beg : List Nat) (pre : List (Value × List Nat)) (W : World) (e : Ending) (W' : World) : Prop :=
  (e = .returned (.bool true) ∧ ∃ new : List (Value × List Nat), new.map (·.2) = ls.map (beg ++ ·) ∧ J (pre ++ new) W' ∧ Und W' S q.cg q.gn beg ∧ Laid W' q.ib beg ∧ KeepE (Ew E q) W W') ∨
  (e = .returned (.bool false) ∧ ∃ new : List (Value × List Nat), new.map (·.2) <+: ls.map (beg ++ ·) ∧ Jx (pre ++ new) W')

theorem stored {E : Nat → Prop} {q : CovP} {gs ps : List Int} {S : Nat} {J : List (Value × List Nat) → World → Prop} {beg : List Nat} {pre : List (Value × List Nat)} {k : Nat} (w0 : World)
    (hA : ∀ k, Ew E q k → Away q k) (hcg : S ≤ q.cg) (hib : S ≤ q.ib) (hci : q.cg ≠ q.ib) (hJ : LowI S J) (hF : Fix w0 q gs ps) (hU : Und w0 S q.cg q.gn beg) (hL : Laid w0 q.ib beg) (hj : J pre w0) (hlt : beg.length < q.gn) (hk : k < 7) :
    let w1 := w0.setCell ⟨q.cg, beg.length, none⟩ (.int .i64 (k : Int))
    let w2 := w1.setCell ⟨q.ib, k, none⟩ (.bool true)
    Fix w2 q gs ps ∧ Und w2 S q.cg q.gn (beg ++ [k]) ∧ Laid w1 q.ib beg ∧ Laid w2 q.ib (beg ++ [k]) ∧ J pre w2 ∧ KeepE (Ew E q) w0 w2 := by
  intro w1 w2
  have g1 : w0.grownBy w1 (some q.cg) := grownBy_setAt _ _ _ _
  have g2 : w1.grownBy w2 (some q.ib) := grownBy_setAt _ _ _ _
  have hil := hL.lt
  have hL1 : Laid w1 q.ib beg := hL.same (g1.block _ hil fun e => hci (by injection e with e; exact e.symm))
  have hU1 := hU.put hlt k
  have hcl : q.cg < w1.heap.size := by obtain ⟨zs, _, h, _⟩ := hU1; exact h.blk.2
  have hK : KeepE (Ew E q) w0 w2 := (KeepE.of_grown (E := Ew E q) g1 fun k e _ => by cases e; exact .inr (.inl rfl)).trans (KeepE.of_grown (E := Ew E q) g2 fun k e _ => by cases e; exact .inr (.inr rfl)) fun k _ e => e
  refine ⟨hF.keepE hK hA, hU1.same (g2.block _ hcl fun e => hci (by injection e)), hL1, hL1.put hk, ?_, hK⟩
  exact hJ _ _ _ _ (hJ _ _ _ _ hj g1 fun r e => by cases e; exact hcg) g2 fun r e => by cases e; exact hib
theorem boolly {A B : Prop} {e : Ending} (h : (e = .returned (.bool true) ∧ A) ∨ (e = .returned (.bool false) ∧ B)) : ∃ b, e = .returned (.bool b) ∧ Hid ((b = true ∧ A) ∨ (b = false ∧ B)) := by
  rcases h with ⟨h1, h2⟩ | ⟨h1, h2⟩
  · exact ⟨true, h1, Lib.hid (.inl ⟨rfl, h2⟩)⟩
  · exact ⟨false, h1, Lib.hid (.inr ⟨rfl, h2⟩)⟩
set_option maxHeartbeats 4000000 in
set_option maxRecDepth 100000 in
theorem goesOn (gs ps : List Int) (E : Nat → Prop) (S N : Nat) (J Jx : List (Value × List Nat) → World → Prop) (gb yb cb pb ib rb fb l cg gn : Nat) (gv pv : Value) (r : Int) (q : CovP) (hq : q = ⟨gb, yb, cb, pb, ib, rb, fb, l, cg, gn, gv, pv, r⟩)
    (hA : ∀ k, Ew E q k → Away q k) (hcg : S ≤ cg) (hib : S ≤ ib) (hci : cg ≠ ib) (hEc : ∀ k, E k ∨ k = l → k < S) (hJ : LowI S J)
    (hY : ∀ m pre x W1, J pre W1 → Ints W1 S x.1 (idx x.2) ∧ x.2.length ≤ 7 ∧ (∀ y ∈ x.2, y < ps.length) → pre.length < N → YieldAt Fence.wide m Try.prog l #[x.1] W1 fun e W' =>
      (e = .returned (.bool true) ∧ J (pre ++ [x]) W' ∧ KeepE (fun k => E k ∨ k = l) W1 W') ∨ (e = .returned (.bool false) ∧ Jx (pre ++ [x]) W'))
    (hgb : ∀ j, 0 ≤ gt gs j ∧ gt gs j ≤ 100) (hp : arePl ps = true) (hr : 0 ≤ r ∧ r ≤ 10) (hgn : gn = gs.length) (hg7 : gn ≤ 7) :
    ∀ (ts : List Int) (n : Nat) (beg : List Nat) (pre : List (Value × List Nat)) (W : World), beg.length + ts.length = gn → ts = (gs.drop beg.length).map (· + 2 * r) → Fix W q gs ps → Und W S cg gn beg → Laid W ib beg → (∀ x ∈ beg, x < ps.length) → S ≤ W.heap.size → J pre W → pre.length + (covF ps ts beg).length ≤ N →
      CallsIn Fence.wide n Try.prog 61 (#[.int .i64 (beg.length : Int)] ++ q.caps) W (GoPost E q S J Jx (covF ps ts beg) beg pre W) := by
  intro ts
  induction ts with
  | nil =>
    intro n beg pre W hlen hts hF hU hL hbx hS hj hN
    have hll : beg.length = gn := by simpa using hlen
    obtain ⟨zs, z1, z2, z3⟩ := hU
    have hz : zs = idx beg := by rw [← z3, hll, ← z1, List.take_length]
    subst hz
    have HC := Lib.hid (cloneAny cg gn gn (idx beg) W.drew (z2.rd.below (Below.refl _ _).drew) (by rw [idx_len]; omega))
    have hN1 : pre.length < N := by simp [covF] at hN; omega
    have HY := Lib.hid (fun u W1 (hb : Below W.heap.size W.drew W1) (hi : Ints W1 W.heap.size u (idx beg)) => (YieldAt.mono (hY (n - 1) pre (u, beg) W1 (hJ.below (hJ.below hj (Below.refl _ _).drew) hb) ⟨ints_mono' hi hS, by show beg.length ≤ 7; omega, hbx⟩ hN1) (fun e W' h => boolly h) : YieldAt Fence.wide (n - 1) Try.prog l #[u] W1 fun e W' => ∃ b, e = .returned (.bool b) ∧ Hid ((b = true ∧ J (pre ++ [(u, beg)]) W' ∧ KeepE (fun k => E k ∨ k = l) W1 W') ∨ (b = false ∧ Jx (pre ++ [(u, beg)]) W')))) 
    have HAA := Lib.hid hA
    have HPO : Hid (∀ e w', GoPost E q S J Jx (covF ps [] beg) beg pre W e w' = GoPost E q S J Jx [[]] beg pre W e w') := Lib.hid (fun e w' => by simp [covF])
    have HU : Hid (Und W S cg gn beg) := Lib.hid ⟨_, z1, z2, z3⟩
    have hil : ib < W.heap.size := Laid.lt hL
    have hcl : cg < W.heap.size := z2.blk.2
    have HL := Lib.hid hL
    have HJ0 := Lib.hid hj
    have cg0 := hF.g.cell
    have cy0 := hF.y.cell
    have cc0 := hF.c.cell
    have HYB := Lib.hid (show yb < W.drew.heap.size by have := hF.y.lt; rw [hq] at this; exact this)
    have HF := Lib.hid hF
    have HG := Lib.hid (show ∃ a c, gv = .slice a gn c by
      obtain ⟨a, n0, c, e, e2, _⟩ := hF.rg.cells
      rw [hq] at e
      exact ⟨a, c, by rw [hgn, ← e2]; exact e⟩)
    rw [hq] at cg0 cy0 cc0
    simp only [CovP.caps] at cg0 cy0 cc0
    obtain ⟨ga, gc, rfl⟩ := HG.out
    have HQ := Lib.hid hq
    have e1 : #[Value.int .i64 (beg.length : Int)] ++ q.caps = #[Value.int .i64 (gn : Int), .pointer (some ⟨gb, 0, none⟩), .pointer (some ⟨yb, 0, none⟩), .pointer (some ⟨cb, 0, none⟩), .pointer (some ⟨pb, 0, none⟩), .pointer (some ⟨ib, 0, none⟩), .pointer (some ⟨rb, 0, none⟩), .pointer (some ⟨fb, 0, none⟩)] := by rw [hq, hll]; rfl
    rw [e1]
    have HCK := Lib.hid (And.intro hEc (And.intro (And.intro hcg hib) (And.intro hcl hil)))
    clear e1 hA hJ hY hF hL hlen hts hbx hN z1 z2 z3 hgb hp hgn hj HG hq hEc hll hcg hib hci
    refine callsIn_of_wp Try.func61 rfl trivial ?_ rfl
    simp only [Try.ntmps61, List.size_toArray, List.length_cons, List.length_nil, Nat.reduceAdd, Nat.reduceSub, Array.replicate_succ, Array.replicate_zero, List.push_toArray, List.append_toArray, List.nil_append, List.cons_append]
    gi_wp2
    have mixed : Try.prog.follows .mixedOrders = true := by kernel_rfl
    gi_region_with_o (first
      | ((try refine ⟨trivial, (fun h => by cases h), ?_⟩); gi_at_call 52; refine ((callsIn_wide).2 HC.out).mono ?_; rintro e w1 ⟨u, rfl, hI1, hb1⟩; obtain ⟨fn, tmps, assign, body, hy, hR⟩ := HY.out u w1 hb1 hI1; have cy1 := (hb1.cell (p := ⟨yb, 0, none⟩) HYB.out).trans cy0; have HB1 := Lib.hid hb1; clear hI1 hb1)
      | ((try refine ⟨(fun h => by cases h), ?_⟩); refine hR.mono ?_; rintro e W3 ⟨b, rfl, H3⟩))
    all_goals
      gi_wp2
      go_ret
      rw [HPO.out]
      have hbw := (Below.refl W.heap.size W).drew.trans HB1.out
      rcases H3.out with ⟨rfl, hJ3, hk3⟩ | ⟨rfl, hx3⟩
      · have hck := HCK.out
        refine .inl ⟨rfl, [(u, beg)], by simp, hJ3, ?_, ?_, ?_⟩
        · rw [HQ.out]
          have hlt : cg < W.heap.size := hck.2.2.1
          exact HU.out.same ((hk3.block cg (Nat.lt_of_lt_of_le hlt hbw.size) fun e => by have := hck.1 _ e; omega).trans (hbw.block cg hlt))
        · rw [HQ.out]
          have hlt : ib < W.heap.size := hck.2.2.2
          exact HL.out.same ((hk3.block ib (Nat.lt_of_lt_of_le hlt hbw.size) fun e => by have := hck.1 _ e; omega).trans (hbw.block ib hlt))
        · exact (KeepE.of_below (E := Ew E q) hbw).trans hk3 (fun k _ e => .inl (by rw [HQ.out]; exact e))
      · exact .inr ⟨rfl, [(u, beg)], by simp, hx3⟩
  | cons t ts ih =>
    intro n beg pre W hlen hts hF hU hL hbx hS hj hN
    have IH := Lib.hid ih
    clear ih
    obtain ⟨bn, hbn⟩ : ∃ bn, bn = beg.length := ⟨_, rfl⟩
    have hbl : bn < gn := by simp only [List.length_cons] at hlen; omega
    have hpi := arePl_in hp
    obtain ⟨g0, go, gn', gc, hgv, hgn', _, _⟩ := hF.rg.cellsP (by omega)
    obtain ⟨p0, po, pn, pc, hpv, hpn, _, _⟩ := hF.rp.cellsP (by omega)
    rw [hq] at hgv hpv
    obtain rfl : gn' = gn := by omega
    dsimp only at hgv hpv
    subst hgv hpv
    have ht : t = gt gs bn + 2 * r ∧ ts = (gs.drop (bn + 1)).map (· + 2 * r) := by
      rw [← hbn, List.drop_eq_getElem_cons (by omega), List.map_cons] at hts
      injection hts with h1 h2
      exact ⟨by rw [h1, gt_of], h2⟩
    have HT := Lib.hid ht
    have HF := Lib.hid hF
    have HU := Lib.hid hU
    have HL := Lib.hid hL
    have HBX := Lib.hid hbx
    have HSZ := Lib.hid hS
    have HJ0 := Lib.hid hj
    have HN := Lib.hid hN
    have HBN := Lib.hid hbn
    have HLEN := Lib.hid hlen
    have HPN := Lib.hid hpn
    have HGB := Lib.hid hgb
    have HPB := Lib.hid (arePl_any hp)
    have HS := Lib.hid (covF_s ps t ts beg)
    have pn7 : pn ≤ 7 := by omega
    have HQ := Lib.hid hq
    have HA := Lib.hid hA
    have HLJ := Lib.hid hJ
    have HCG := Lib.hid (And.intro hcg (And.intro hib hci))
    have cg0 := hF.g.cell
    have cp0 := hF.p.cell
    rw [hq] at cg0 cp0
    dsimp only at cg0 cp0
    have hne1 : ((bn : Int) == (gn' : Int)) = false := by simp; omega
    have hne2 : ¬ ((bn : Int) = (gn' : Int)) := by omega
    have e1 : #[Value.int .i64 (beg.length : Int)] ++ q.caps = #[Value.int .i64 (bn : Int), .pointer (some ⟨gb, 0, none⟩), .pointer (some ⟨yb, 0, none⟩), .pointer (some ⟨cb, 0, none⟩), .pointer (some ⟨pb, 0, none⟩), .pointer (some ⟨ib, 0, none⟩), .pointer (some ⟨rb, 0, none⟩), .pointer (some ⟨fb, 0, none⟩)] := by rw [hq, hbn]; rfl
    rw [e1]
    clear e1 hA hJ hY hF hU hL hlen hts hbx hN hgb hp hgn hj hq hEc hcg hib hci hS hgn' hpn hbn ht hpi
    refine callsIn_of_wp Try.func61 rfl trivial ?_ rfl
    simp only [Try.ntmps61, List.size_toArray, List.length_cons, List.length_nil, Nat.reduceAdd, Nat.reduceSub, Array.replicate_succ, Array.replicate_zero, List.push_toArray, List.append_toArray, List.nil_append, List.cons_append]
    gi_wp2
    gi_loopw [22] (fun i wr => ∃ (k : Nat) (don : List (List Nat)) (new : List (Value × List Nat)), k ≤ pn ∧ i = .int .i64 k ∧ Hid (don ++ covK ps t ts beg k (pn - k) = covF ps (t :: ts) beg) ∧ Hid (new.map (·.2) = don.map (beg ++ ·)) ∧ Hid (J (pre ++ new) wr) ∧ Hid (Und wr S cg gn' beg) ∧ Hid (Laid wr ib beg) ∧ Hid (KeepE (Ew E q) W wr)) (fun i _ => pn - (intOf i).toNat)
    case atStart => exact ⟨0, [], [], Nat.zero_le _, rfl, Lib.hid (by rw [HS.out, HPN.out]; rfl), Lib.hid rfl, Lib.hid (by rw [List.append_nil]; exact HJ0.out), HU, HL, Lib.hid (KeepE.refl _ _)⟩
    case round =>
      obtain ⟨k, don, new, hk, rfl, HD, HNW, HJr, HUr, HLr, HK⟩ := hrel
      have HFr := Lib.hid (HF.out.keepE HK.out HA.out)
      have f1 := HFr.out
      have hsz := HK.out.size
      rw [HQ.out] at f1
      have dg := f1.g.cell
      have dc := f1.c.cell
      have dr := f1.r.cell
      dsimp only at dg dc dr
      by_cases hlt : k < pn
      · have hlt' : (k : Int) < pn := by omega
        have hgk := Rd.at f1.rg hbl
        have hpk := Rd.at f1.rp hlt
        have hil := (HLr.out k (by omega)).1
        have hil2 := (HLr.out k (by omega)).2
        have hx := HPB.out k
        have hgx := HGB.out bn
        have hk7 : (k : Int) < 7 := by omega
        have hbl' : (bn : Int) < gn' := by omega
        have hnk : pn - k = (pn - (k + 1)) + 1 := by omega
        have HF1 := Lib.hid (show fits ps t beg k = (decide (gt gs bn + 2 * r ≤ gt ps k) && !beg.contains k) by rw [← HT.out.1]; rfl)
        have HYES := Lib.hid (fun h => covK_yes (ps := ps) (t := t) (ts := ts) (used := beg) (k := k) (c := pn - (k + 1)) h)
        have HNO := Lib.hid (fun h => covK_no (ps := ps) (t := t) (ts := ts) (used := beg) (k := k) (c := pn - (k + 1)) h)
        clear f1
        generalize gt gs bn = g at *
        generalize gt ps k = p at *
        cases hf2 : beg.contains k
        · by_cases hf3 : p < g + 2 * r
          · have HY := Lib.hid (HNO.out (by rw [HF1.out, decide_eq_false (by omega)]; rfl))
            rw [hf2] at hil
            clear HYES HNO HF1 hf2
            gi_wp2
            gi_quiet (first | (gi_at_call 35; exact (callsIn_wide.2 (lengthFor _ _ _ (by omega) hr)).mono (fun _ _ h => ⟨h.1, _, h.2.symm⟩)))
            gi_wp2
            go_roundw
            case rel =>
              have hd : Below wr.heap.size wr (wr.drewN nq) := below_drewN (Below.refl _ _) nq
              exact ⟨k + 1, don, new, by omega, by go_num, Lib.hid (by rw [← HY.out, ← hnk]; exact HD.out), HNW, Lib.hid (HLJ.out.below HJr.out hd), Lib.hid (HUr.out.same rfl), Lib.hid (HLr.out.same rfl), Lib.hid (HK.out.trans (KeepE.of_below (E := Ew E q) hd) fun _ _ e => e)⟩
            case measure => (simp [intOf]; try omega)
          · have HY := Lib.hid (HYES.out (by rw [HF1.out, hf2, decide_eq_true (by omega)]; rfl))
            have HF2 := Lib.hid hf2
            rw [hf2] at hil
            clear HYES HNO HF1 hf2
            gi_wp2
            gi_quiet (first | (gi_at_call 35; exact (callsIn_wide.2 (lengthFor _ _ _ (by omega) hr)).mono (fun _ _ h => ⟨h.1, _, h.2.symm⟩)))
            have hd : Below wr.heap.size wr (wr.drewN nq) := below_drewN (Below.refl _ _) nq
            have hst := stored (E := E) (q := q) (gs := gs) (ps := ps) (S := S) (J := J) (beg := beg) (pre := pre ++ new) (k := k) (wr.drewN nq) HA.out (by rw [HQ.out]; exact HCG.out.1) (by rw [HQ.out]; exact HCG.out.2.1) (by rw [HQ.out]; exact HCG.out.2.2) HLJ.out (HFr.out.keepE (KeepE.of_below (E := Ew E q) hd) HA.out) (by rw [HQ.out]; exact HUr.out.same rfl) (by rw [HQ.out]; exact HLr.out.same rfl) (HLJ.out.below HJr.out hd) (by rw [HQ.out, ← HBN.out]; exact hbl) (by omega)
            have hq := HQ.out
            rw [hq] at hst
            dsimp only at hst
            rw [← HBN.out, ← hq] at hst
            obtain ⟨s1, s2, s3, s4, s5, s6⟩ := hst
            have hl1 : (beg ++ [k]).length = bn + 1 := by rw [List.length_append, ← HBN.out]; rfl
            have HC := Lib.hid (IH.out (n - 1) (beg ++ [k]) (pre ++ new) _ (by have := HLEN.out; simp at this ⊢; omega) (by rw [hl1]; exact HT.out.2) s1 s2 s4
              (fun x hx => by
                rcases List.mem_append.1 hx with h | h
                · exact HBX.out x h
                · have := List.mem_singleton.1 h; have := HPN.out; omega)
              (Nat.le_trans HSZ.out (Nat.le_trans hsz (Nat.le_trans hd.size s6.size))) s5
              (by
                have h1 := HN.out
                have h2 := congrArg List.length HD.out
                have h3 := congrArg List.length HNW.out
                rw [hnk, HY.out] at h2
                simp only [List.length_append, List.length_map] at h1 h2 h3 ⊢
                omega))
            have e1 : #[Value.int .i64 ((beg ++ [k]).length : Int)] ++ q.caps = #[Value.int .i64 ((bn : Int) + 1), .pointer (some ⟨gb, 0, none⟩), .pointer (some ⟨yb, 0, none⟩), .pointer (some ⟨cb, 0, none⟩), .pointer (some ⟨pb, 0, none⟩), .pointer (some ⟨ib, 0, none⟩), .pointer (some ⟨rb, 0, none⟩), .pointer (some ⟨fb, 0, none⟩)] := by rw [hq, hl1]; rfl
            rw [e1] at HC
            obtain ⟨zs, u1, u2, u3⟩ := HUr.out
            have c5 := u2.cell u1.symm bn hbl
            have f5 := u2.frz u1.symm bn
            obtain ⟨c6, f6⟩ := s3 k (by omega)
            rw [HF2.out] at c6
            have c8 := s1.f.cell
            rw [hq] at c8
            dsimp only [CovP.caps] at c8
            have HS6 := Lib.hid (HK.out.trans ((KeepE.of_below (E := Ew E q) hd).trans s6 fun _ _ e => e) fun _ _ e => e)
            clear s1 s2 s3 s4 s5 s6 e1 hl1 hq u1 u2 u3
            generalize gt zs bn = z5 at *
            gi_wp2_with (first
              | (gi_at_call 61; refine HC.out.mono ?_; rintro e W3 (⟨rfl, new2, hn2, hJ3, hU3, hL3, hK3⟩ | ⟨rfl, new2, hn2, hx3⟩); (try (rw [HQ.out] at hU3 hL3; dsimp only at hU3 hL3; obtain ⟨c9, f9⟩ := hL3 k (by omega); generalize (beg ++ [k]).contains k = y9 at c9; have H3 := Lib.hid (And.intro hJ3 (And.intro hU3 (And.intro hL3 hK3))); clear hJ3 hU3 hL3 hK3))))
            · go_roundw
              case rel =>
                have g3 : W3.grownBy (W3.setCell ⟨ib, k, none⟩ (.bool false)) (some ib) := grownBy_setAt _ _ _ _
                obtain ⟨hJ3, hU3, hL3, hK3⟩ := H3.out
                have hcl : cg < W3.heap.size := by obtain ⟨zs, _, h, _⟩ := hU3; exact h.blk.2
                refine ⟨k + 1, don ++ (covF ps ts (beg ++ [k])).map (k :: ·), new ++ new2, by omega, by go_num, Lib.hid ?_, Lib.hid ?_, Lib.hid ?_, Lib.hid ?_, Lib.hid ?_, Lib.hid ?_⟩
                · rw [List.append_assoc, ← HY.out, ← hnk]; exact HD.out
                · rw [List.map_append, List.map_append, append_map, HNW.out, hn2]
                · rw [← List.append_assoc]; exact HLJ.out _ _ _ _ hJ3 g3 fun j e => by cases e; exact HCG.out.2.1
                · exact (hU3.same (g3.block _ hcl fun e => HCG.out.2.2 (by injection e))).frame
                · exact hL3.take (by omega) HF2.out
                · exact (HS6.out.trans hK3 fun _ _ e => e).trans (KeepE.of_grown (E := Ew E q) g3 fun j e _ => by cases e; rw [HQ.out]; exact .inr (.inr rfl)) fun _ _ e => e
              case measure => (simp [intOf]; try omega)
            · go_ret
              refine .inr ⟨rfl, new ++ new2, ?_, by rw [← List.append_assoc]; exact hx3⟩
              rw [← HD.out, hnk, HY.out, List.map_append, List.map_append, List.map_append, append_map, HNW.out, ← List.append_assoc]
              exact (List.prefix_append_right_inj _).2 hn2 |>.trans (List.prefix_append _ _)
        · have HY := Lib.hid (HNO.out (by rw [HF1.out, hf2]; simp))
          rw [hf2] at hil
          clear HYES HNO HF1 hf2
          gi_wp2
          gi_quiet (fail)
          gi_wp2
          go_roundw
          case rel =>
            have hd : Below wr.heap.size wr (wr.drewN nq) := below_drewN (Below.refl _ _) nq
            exact ⟨k + 1, don, new, by omega, by go_num, Lib.hid (by rw [← HY.out, ← hnk]; exact HD.out), HNW, Lib.hid (HLJ.out.below HJr.out hd), Lib.hid (HUr.out.same rfl), Lib.hid (HLr.out.same rfl), Lib.hid (HK.out.trans (KeepE.of_below (E := Ew E q) hd) fun _ _ e => e)⟩
          case measure => (simp [intOf]; try omega)
      · obtain rfl : k = pn := by omega
        have R := Lib.hid (show don = covF ps (t :: ts) beg by rw [← HD.out, Nat.sub_self]; simp [covK])
        gi_wp2
        go_ret
        refine .inl ⟨rfl, new, by rw [← R.out]; exact HNW.out, HJr.out, by rw [HQ.out]; exact HUr.out, by rw [HQ.out]; exact HLr.out, HK.out⟩
end Go.Proofs.Ytimbpfenpbkckab
