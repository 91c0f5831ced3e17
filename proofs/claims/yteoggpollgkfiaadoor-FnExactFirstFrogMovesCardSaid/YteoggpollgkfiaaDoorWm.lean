/- Maps map[string]int of the call's own; the numbers of ways by ponds. -/
import Derived.Test.YteoggpollgkfiaaDoorRch
import Derived.Test.YteoggpollgkfiaaDoorFrom
import Derived.Maps.OwnSet
namespace Go.Proofs.YteoggpollgkfiaaDoor
set_option linter.unusedVariables false
open Go.RowKit Go.Maps

/-- block b is a map[string]int of at most N entries in which c is found as f c, if g c -/
def IMap (w : World) (b N : Nat) (f : ByteArray → Int) (g : ByteArray → Bool) : Prop :=
  ∃ D : DataW Unit, w.ownsMap Tryd.prog 9 (plainElem Tryd.prog 3) b N D ∧ IsMap D ∧ (∀ c : ByteArray, D.atKey (.string c.data.toList) (.lit (.int .i64 0)) = .lit (.int .i64 (f c))) ∧ ∀ c : ByteArray, Maps.has D (.string c.data.toList) = g c
theorem IMap.kept {w w' : World} {b N : Nat} {f : ByteArray → Int} {g : ByteArray → Bool} {row : Option Nat} (h : IMap w b N f g) (hg : w.grownBy w' row) (hne : some b ≠ row) : IMap w' b N f g := by
  obtain ⟨D, h1, h2⟩ := h
  exact ⟨D, h1.kept hg hne, h2⟩
theorem IMap.lt {w : World} {b N : Nat} {f : ByteArray → Int} {g : ByteArray → Bool} (h : IMap w b N f g) : b < w.heap.size := by
  obtain ⟨D, h1, _⟩ := h
  exact h1.lt
theorem IMap.below {w w' : World} {b N : Nat} {f : ByteArray → Int} {g : ByteArray → Bool} (h : IMap w b N f g) (hb : Below w.heap.size w w') : IMap w' b N f g :=
  h.kept (row := none) ⟨hb.os, hb.tape, hb.output, hb.size, fun i hi _ => hb.block i hi⟩ (by simp)
theorem IMap.congr {w : World} {b N : Nat} {f f' : ByteArray → Int} {g g' : ByteArray → Bool} (h : IMap w b N f g) (e : ∀ c, f c = f' c) (e2 : ∀ c, g c = g' c) : IMap w b N f' g' := by
  obtain ⟨D, h1, h2, h3, h4⟩ := h
  exact ⟨D, h1, h2, fun c => by rw [h3 c, e c], fun c => by rw [h4 c, e2 c]⟩
theorem IMap.mono {w : World} {b N N' : Nat} {f : ByteArray → Int} {g : ByteArray → Bool} (h : IMap w b N f g) (e : N ≤ N') : IMap w b N' f g := by
  obtain ⟨D, h1, h2⟩ := h
  exact ⟨D, h1.mono e, h2⟩
theorem IMap.made (w : World) : IMap (w.alloc (.map #[] 0)) w.heap.size 0 (fun _ => 0) (fun _ => false) :=
  ⟨_, World.ownsMap_made _ _ _ _, isMap_empty, fun _ => rfl, fun _ => rfl⟩
theorem IMap.put {w : World} {b N : Nat} {f : ByteArray → Int} {g : ByteArray → Bool} (h : IMap w b N f g) (hN : N < maxLen) {c : ByteArray} (hc : c.size ≤ maxLen) {x : Int} (hx : (Lit.int .i64 x).wf = true) :
    ∃ w', (Instr.mapUpdate 41 (.map (some b)) (.string c) (.int .i64 x)).run Tryd.prog w = .ok () w' ∧ IMap w' b (N + 1) (fun y => if y = c then x else f y) (fun y => decide (y = c) || g y) ∧ w.grownBy w' (some b) := by
  obtain ⟨D, h1, h2, h3, h4⟩ := h
  obtain ⟨w', r1, r2, r3⟩ := h1.update (string_keyed Tryd.underlying9) Tryd.underlying41 hN (WideMaps.keyOf_string_mk Tryd.underlying9 hc) (plainElem_int (H := Unit) Tryd.underlying3 hx)
  refine ⟨w', r1, ⟨_, r2, h2.put _ _, fun y => ?_, fun y => ?_⟩, r3⟩
  · by_cases e : y = c
    · subst e
      rw [atKey_put_same h2 (by trivial)]; simp
    · rw [atKey_put_other (by intro h; injection h with h; exact e (bytes_eq h)), h3]
      simp [e]
  · by_cases e : y = c
    · subst e
      rw [has_put_same h2 (by trivial)]; simp
    · rw [has_put_other (by intro h; injection h with h; exact e (bytes_eq h)), h4]
      simp [e]
theorem zeroInt (w : World) : (zeroValue 3).run Tryd.prog w = .ok (.int .i64 0) w := by kernel_rfl
theorem IMap.get {w : World} {b N : Nat} {f : ByteArray → Int} {g : ByteArray → Bool} (h : IMap w b N f g) {c : ByteArray} (hc : c.size ≤ maxLen) :
    (Instr.lookup 41 (.map (some b)) (.string c) false).run Tryd.prog w = .ok (.int .i64 (f c)) w := by
  obtain ⟨D, h1, h2, h3, h4⟩ := h
  obtain ⟨x, hrun, hat, _⟩ := h1.lookup_int (string_keyed Tryd.underlying9) Tryd.underlying41 Tryd.underlying3 (zeroInt w) (WideMaps.keyOf_string_mk Tryd.underlying9 hc)
  rw [h3 c] at hat
  have e2 := DataW.lit.inj hat
  have e3 := (Lit.int.inj e2).2
  rw [hrun, e3]
theorem IMap.getok {w : World} {b N : Nat} {f : ByteArray → Int} {g : ByteArray → Bool} (h : IMap w b N f g) {c : ByteArray} (hc : c.size ≤ maxLen) :
    (Instr.lookup 41 (.map (some b)) (.string c) true).run Tryd.prog w = .ok (.tuple #[.int .i64 (f c), .bool (g c)]) w := by
  obtain ⟨D, h1, h2, h3, h4⟩ := h
  obtain ⟨v, ps, hrun, hv⟩ := h1.look_ok (string_keyed Tryd.underlying9) Tryd.underlying41 (zeroInt w) (plainElem_int (H := Unit) Tryd.underlying3 (by decide)) (WideMaps.keyOf_string_mk Tryd.underlying9 hc)
  obtain ⟨x, rfl, e, _⟩ := plainElem_int_inv Tryd.underlying3 hv
  have e1 := (Prod.mk.inj e).1
  rw [h3 c] at e1
  have e2 := DataW.lit.inj e1
  have e3 := (Lit.int.inj e2).2
  rw [hrun, e3, h4 c]
theorem wpList_putI {ops : Array Oper} {rest : List Oper} {o : Oper} {a : Act} {Q : Exit → Act → World → Prop} {W : World} {b N : Nat} {f : ByteArray → Int} {g : ByteArray → Bool} (hg : o.guard = none) (h : IMap W b N f g) (hN : N < maxLen) (c : ByteArray) (hc : c.size ≤ maxLen) (n : Int) (hn : (Lit.int .i64 n).wf = true)
    (m x v : Operand) (hop : o.op = Op.mapUpdate 41 m x v) (hm : a.eval m = .map (some b)) (hx : a.eval x = .string c) (hv : a.eval v = .int .i64 n)
    (hK : ∀ w', IMap w' b (N + 1) (fun y => if y = c then n else f y) (fun y => decide (y = c) || g y) → W.grownBy w' (some b) → wpList Tryd.prog ops Q rest (a.put o.dst undef) w') : wpList Tryd.prog ops Q (o :: rest) a W := by
  refine wpList_plain hg fun K' hK' => ?_
  obtain ⟨w', r1, r2, r3⟩ := h.put hN hc hn
  unfold Oper.wp
  simp [execOp, hop, hm, hx, hv, r1, Result.andThen]
  exact hK' _ _ (hK w' r2 r3)
set_option maxRecDepth 100000 in
theorem upon_putI {o : Oper} {a : Act} {K : Act → World → Prop} {Q : Exit → Act → World → Prop} {W : World} {b N : Nat} {f : ByteArray → Int} {g : ByteArray → Bool} (h : IMap W b N f g) (hN : N < maxLen) {c : ByteArray} (hc : c.size ≤ maxLen) {n : Int} (hn : (Lit.int .i64 n).wf = true)
    (hK : ∀ w', IMap w' b (N + 1) (fun y => if y = c then n else f y) (fun y => decide (y = c) || g y) → W.grownBy w' (some b) → Oper.upon Tryd.prog o a K Q (Result.ok Next.skip w')) :
    Oper.upon Tryd.prog o a K Q ((Sem.run Tryd.prog (Instr.mapUpdate 41 (.map (some b)) (.string c) (.int .i64 n)) W).andThen fun a w' => Result.ok Next.skip w') := by
  obtain ⟨w', r1, r2, r3⟩ := h.put hN hc hn
  rw [r1]
  exact hK w' r2 r3
theorem IMap.neS {w : World} {b N B : Nat} {f : ByteArray → Int} {g : ByteArray → Bool} {v : Value} {l : List ByteArray} (h : IMap w b N f g) (hI : Strg w B v l) : v.ownBlock = none ∨ v.ownBlock ≠ some b := by
  right
  intro e
  obtain ⟨D, h1, _⟩ := h
  obtain ⟨es, clock, hb, _⟩ := h1
  rcases hI.2 with ⟨rfl, _⟩ | ⟨g', cap, cur, rfl, _, hg, _⟩
  · cases e
  · have e2 : g' = b := by injection e
    subst e2
    rw [hg] at hb
    cases hb
theorem IMap.neM {w : World} {b N B : Nat} {f : ByteArray → Int} {g : ByteArray → Bool} {v : Value} {q : ByteArray} {l : List Nat} (h : IMap w b N f g) (hI : Moves w B v q l) : v.ownBlock = none ∨ v.ownBlock ≠ some b := by
  right
  intro e
  obtain ⟨D, h1, _⟩ := h
  obtain ⟨es, clock, hb, _⟩ := h1
  rcases hI.2 with ⟨rfl, _⟩ | ⟨g', cap, cur, rfl, _, hg, _⟩
  · cases e
  · have e2 : g' = b := by injection e
    subst e2
    rw [hg] at hb
    cases hb
theorem wf_wrap (x : Int) : (Lit.int .i64 (wrap64 x)).wf = true := by
  refine WalkArith.wf_i64 ⟨?_, ?_⟩ <;> (unfold wrap64; omega)

/-- the number that belongs to a pond of a list -/
def valL (L : List ByteArray) (W : List Int) (c : ByteArray) : Int := if memB L c = true then gt W (idxL L c) else 0
theorem valL_in {L : List ByteArray} {W : List Int} {c : ByteArray} (h : c ∈ L) : valL L W c = gt W (idxL L c) := by simp [valL, memB_iff.2 h]
theorem valL_out {L : List ByteArray} {W : List Int} {c : ByteArray} (h : ¬ c ∈ L) : valL L W c = 0 := by simp [valL, memB_no h]
theorem idxL_get {L : List ByteArray} {c : ByteArray} (h : c ∈ L) : gs L (idxL L c) = c := by
  have h2 := idxL_mem.2 h
  have := List.findIdx_getElem (p := fun x => decide (x = c)) (xs := L) (w := h2)
  have e3 : L[idxL L c] = c := of_decide_eq_true this
  unfold gs
  rw [List.getD_eq_getElem?_getD, List.getElem?_eq_getElem h2]
  exact e3
theorem gs_mem {L : List ByteArray} {a : Nat} (h : a < L.length) : gs L a ∈ L := by
  unfold gs; rw [List.getD_eq_getElem?_getD, List.getElem?_eq_getElem h]; exact List.getElem_mem _
theorem idxL_gs {L : List ByteArray} {a : Nat} {q : ByteArray} (hn : L.Nodup) (h : a < L.length) (hq : gs L a = q) : idxL L q = a := by
  have hm : q ∈ L := hq ▸ gs_mem h
  have h2 := idxL_mem.2 hm
  have e := idxL_get hm
  rw [← hq] at e
  have e1 : gs L (idxL L q) = gs L a := by rw [← hq]; exact e
  unfold gs at e1
  rw [List.getD_eq_getElem?_getD, List.getD_eq_getElem?_getD, List.getElem?_eq_getElem h, List.getElem?_eq_getElem h2] at e1
  exact (List.getElem_inj hn).1 e1
theorem idxL_app1 {L : List ByteArray} {c r : ByteArray} (h : c ∈ L) : idxL (L ++ [r]) c = idxL L c := by
  have h2 := idxL_mem.2 h
  unfold idxL at *
  rw [List.findIdx_append, if_pos h2]
theorem idxL_app2 {L : List ByteArray} {r : ByteArray} (h : ¬ r ∈ L) : idxL (L ++ [r]) r = L.length := by
  have h2 := idxL_new h
  unfold idxL at *
  rw [List.findIdx_append, if_neg (by omega)]
  simp
theorem gt_set {W : List Int} {k j : Nat} {v : Int} (h : k < W.length) : gt (W.set k v) j = if j = k then v else gt W j := by
  unfold gt
  rw [List.getD_eq_getElem?_getD, List.getElem?_set]
  by_cases e : k = j
  · subst e; simp [h]
  · rw [if_neg e, if_neg (Ne.symm e)]; rfl
theorem gt_snoc {W : List Int} {j : Nat} {v : Int} (h : j < W.length) : gt (W ++ [v]) j = gt W j := by
  unfold gt
  rw [List.getD_eq_getElem?_getD, List.getElem?_append_left h]; rfl
theorem gt_last (W : List Int) (v : Int) : gt (W ++ [v]) W.length = v := by
  unfold gt
  rw [List.getD_eq_getElem?_getD, List.getElem?_append_right (Nat.le_refl _)]; simp
theorem valL_step {L : List ByteArray} {a i : Nat} {r q : ByteArray} {t : T3} (hl : lens t L.length) (hn : L.Nodup) (ha : a < L.length) (hq : gs L a = q) (c : ByteArray) :
    (if c = r then wrap64 (valL L t.2.2 r + valL L t.2.2 q) else valL L t.2.2 c) = valL (addN L r) (stepT L a i r t).2.2 c := by
  have hlen : t.2.2.length = L.length := hl.2.2
  have hqm : q ∈ L := hq ▸ gs_mem ha
  have hiq := idxL_gs hn ha hq
  by_cases hr : r ∈ L
  · rw [stepT_old hr, addN_old hr]
    show _ = valL L (stepW t.2.2 a (idxL L r)) c
    have hir := idxL_mem.2 hr
    by_cases e : c = r
    · subst e
      rw [if_pos rfl, valL_in hr, valL_in hqm, valL_in hr, stepW, gt_set (by omega), if_pos rfl, hiq]
    · rw [if_neg e]
      by_cases hc : c ∈ L
      · rw [valL_in hc, valL_in hc, stepW, gt_set (by omega), if_neg]
        intro e2
        apply e
        rw [← idxL_get hc, e2, idxL_get hr]
      · rw [valL_out hc, valL_out hc]
  · rw [stepT_new hr, addN_new hr]
    show _ = valL (L ++ [r]) (stepW (t.2.2 ++ [0]) a L.length) c
    by_cases e : c = r
    · subst e
      rw [if_pos rfl, valL_out hr, valL_in hqm, valL_in (by simp), idxL_app2 hr, stepW, gt_set (by simp; omega), if_pos rfl, ← hlen, gt_last, gt_snoc (by omega), hiq]
    · rw [if_neg e]
      by_cases hc : c ∈ L
      · have hic := idxL_mem.2 hc
        rw [valL_in hc, valL_in (by simp [hc]), idxL_app1 hc, stepW, gt_set (by simp; omega), if_neg (by omega), gt_snoc (by omega)]
      · rw [valL_out hc, valL_out (by simp [hc, e])]
theorem memB_addN (L : List ByteArray) (r c : ByteArray) : (decide (c = r) || memB L c) = memB (addN L r) c := by
  by_cases h : r ∈ L
  · rw [addN_old h]
    by_cases e : c = r
    · subst e; simp [memB_iff.2 h]
    · simp [e]
  · rw [addN_new h]; exact memB_snoc _ _ _
theorem valL_start (s c : ByteArray) : (if c = s then (1 : Int) else 0) = valL [s] [1] c := by
  by_cases e : c = s
  · subst e
    rw [if_pos rfl, valL_in (by simp), idxL_hit (L := [c]) (r := c) (i := 0) (by simp) (Nat.zero_le _) rfl]; rfl
  · rw [if_neg e, valL_out (by simp [e])]
theorem bfs_pre (s : ByteArray) (j : Nat) : ∀ m, ∃ R, bfs s (j + m) = bfs s j ++ R
  | 0 => ⟨[], by simp⟩
  | m + 1 => by
    obtain ⟨R, hR⟩ := bfs_pre s j m
    by_cases h : j + m < (bfs s (j + m)).length
    · obtain ⟨R2, hR2⟩ := exTo_pre (bfs s (j + m)) ((bfs s (j + m)).getD (j + m) ⟨#[]⟩) _ (Nat.le_refl _)
      refine ⟨R ++ R2, ?_⟩
      show bfs s ((j + m) + 1) = _
      rw [bfs_succ h]
      unfold exAll
      rw [hR2, hR, List.append_assoc]
    · refine ⟨R, ?_⟩
      show bfs s ((j + m) + 1) = _
      rw [bfs_else h, hR]
theorem reach_pre (s : ByteArray) {j : Nat} (hj : j ≤ 262145) : ∃ R, reach s = bfs s j ++ R := by
  obtain ⟨R, hR⟩ := bfs_pre s j (262145 - j)
  rw [show j + (262145 - j) = 262145 from by omega] at hR
  exact ⟨R, hR⟩
theorem reach_in {s : ByteArray} (hs : isPd s = true) {j : Nat} (hj : j ≤ 262145) (h : j < (reach s).length) : j < (bfs s j).length := by
  rcases Nat.lt_or_ge j (bfs s j).length with h1 | h1
  · exact h1
  · have := reach_at hs (j := j) (by omega) hj
    rw [← this] at h
    exact h
theorem reach_gs {s : ByteArray} (hs : isPd s = true) {j : Nat} (hj : j ≤ 262145) (h : j < (reach s).length) : gs (reach s) j = gs (bfs s j) j := by
  obtain ⟨R, hR⟩ := reach_pre s hj
  unfold gs
  rw [hR, pre_at (reach_in hs hj h)]
theorem reach_out {s : ByteArray} {j : Nat} (hj : j ≤ 262145) (h : ¬ j < (reach s).length) : ¬ j < (bfs s j).length := by
  obtain ⟨R, hR⟩ := reach_pre s hj
  rw [hR, List.length_append] at h
  omega
theorem reachT_lens (s : ByteArray) : lens (reachT s) (reach s).length := bT_lens s 262145

/-- two ponds of as many stones -/
def bothP (s g : ByteArray) : Bool := isPd s && isPd g && decide (s.size = g.size)
theorem ret_b {a b : Bool} (h : a = b) : Ending.returned (.bool a) = .returned (.bool b) := by rw [h]
theorem implBoth (s g : ByteArray) (w : World) (hs : s.size ≤ maxLen) (hg : g.size ≤ maxLen) :
    Calls Tryd.prog 28 #[.string s, .string g] w fun e w' => e = .returned (.bool (bothP s g)) ∧ w = w' := by
  have HS := Lib.hid (fun wx => implIsPond s wx hs)
  have HG := Lib.hid (fun wx => implIsPond g wx hg)
  have e : decide (s.size = g.size) = ((s.size : Int) == (g.size : Int)) := by rw [Bool.eq_iff_iff]; simp; omega
  have R0 : bothP s g = (isPd s && isPd g && ((s.size : Int) == (g.size : Int))) := by rw [← e]; rfl
  clear e
  unfold maxLen at hs hg
  generalize bothP s g = r at *
  generalize isPd s = x at *
  generalize isPd g = y at *
  cases x
  · cases y
    · have R := Lib.hid (R0.trans (by simp : _ = false))
      clear R0
      go_enter Tryd.func28, Tryd.ntmps28
      go_wp2_with (first
        | (go_at_call 33; (with_reducible refine (HS.out _).mono ?_); rintro e w' ⟨rfl, rfl⟩)
        | (go_at_call 33; (with_reducible refine (HG.out _).mono ?_); rintro e w' ⟨rfl, rfl⟩))
      go_ret
      exact ⟨ret_w (by rw [R.out]; rfl), rfl⟩
    · have R := Lib.hid (R0.trans (by simp : _ = false))
      clear R0
      go_enter Tryd.func28, Tryd.ntmps28
      go_wp2_with (first
        | (go_at_call 33; (with_reducible refine (HS.out _).mono ?_); rintro e w' ⟨rfl, rfl⟩)
        | (go_at_call 33; (with_reducible refine (HG.out _).mono ?_); rintro e w' ⟨rfl, rfl⟩))
      go_ret
      exact ⟨ret_w (by rw [R.out]; rfl), rfl⟩
  · cases y
    · have R := Lib.hid (R0.trans (by simp : _ = false))
      clear R0
      go_enter Tryd.func28, Tryd.ntmps28
      go_wp2_with (first
        | (go_at_call 33; (with_reducible refine (HS.out _).mono ?_); rintro e w' ⟨rfl, rfl⟩)
        | (go_at_call 33; (with_reducible refine (HG.out _).mono ?_); rintro e w' ⟨rfl, rfl⟩))
      go_ret
      exact ⟨ret_w (by rw [R.out]; rfl), rfl⟩
    · have R := Lib.hid (R0.trans (by simp : _ = ((s.size : Int) == (g.size : Int))))
      clear R0
      go_enter Tryd.func28, Tryd.ntmps28
      go_wp2_with (first
        | (go_at_call 33; (with_reducible refine (HS.out _).mono ?_); rintro e w' ⟨rfl, rfl⟩)
        | (go_at_call 33; (with_reducible refine (HG.out _).mono ?_); rintro e w' ⟨rfl, rfl⟩))
      go_ret
      exact ⟨ret_w (by rw [R.out]; rfl), rfl⟩
theorem specBoth (s g : ByteArray) (w : World) (hs : s.size ≤ maxLen) (hg : g.size ≤ maxLen) :
    Calls Tryd.prog 24 #[.string s, .string g] w fun e w' => e = .returned (.bool (bothP s g)) ∧ w = w' := by
  have HS := Lib.hid (fun wx => specFgGood s wx hs)
  have HG := Lib.hid (fun wx => specFgGood g wx hg)
  have e : decide (s.size = g.size) = ((s.size : Int) == (g.size : Int)) := by rw [Bool.eq_iff_iff]; simp; omega
  have R0 : bothP s g = (isPd s && isPd g && ((s.size : Int) == (g.size : Int))) := by rw [← e]; rfl
  clear e
  unfold maxLen at hs hg
  generalize bothP s g = r at *
  generalize isPd s = x at *
  generalize isPd g = y at *
  cases x
  · cases y
    · have R := Lib.hid (R0.trans (by simp : _ = false))
      clear R0
      go_enter Tryd.func24, Tryd.ntmps24
      go_wp2_with (first
        | (go_at_call 31; (with_reducible refine (HS.out _).mono ?_); rintro e w' ⟨rfl, rfl⟩)
        | (go_at_call 31; (with_reducible refine (HG.out _).mono ?_); rintro e w' ⟨rfl, rfl⟩))
      go_ret
      exact ⟨ret_w (by rw [R.out]; rfl), rfl⟩
    · have R := Lib.hid (R0.trans (by simp : _ = false))
      clear R0
      go_enter Tryd.func24, Tryd.ntmps24
      go_wp2_with (first
        | (go_at_call 31; (with_reducible refine (HS.out _).mono ?_); rintro e w' ⟨rfl, rfl⟩)
        | (go_at_call 31; (with_reducible refine (HG.out _).mono ?_); rintro e w' ⟨rfl, rfl⟩))
      go_ret
      exact ⟨ret_w (by rw [R.out]; rfl), rfl⟩
  · cases y
    · have R := Lib.hid (R0.trans (by simp : _ = false))
      clear R0
      go_enter Tryd.func24, Tryd.ntmps24
      go_wp2_with (first
        | (go_at_call 31; (with_reducible refine (HS.out _).mono ?_); rintro e w' ⟨rfl, rfl⟩)
        | (go_at_call 31; (with_reducible refine (HG.out _).mono ?_); rintro e w' ⟨rfl, rfl⟩))
      go_ret
      exact ⟨ret_w (by rw [R.out]; rfl), rfl⟩
    · have R := Lib.hid (R0.trans (by simp : _ = ((s.size : Int) == (g.size : Int))))
      clear R0
      go_enter Tryd.func24, Tryd.ntmps24
      go_wp2_with (first
        | (go_at_call 31; (with_reducible refine (HS.out _).mono ?_); rintro e w' ⟨rfl, rfl⟩)
        | (go_at_call 31; (with_reducible refine (HG.out _).mono ?_); rintro e w' ⟨rfl, rfl⟩))
      go_ret
      exact ⟨ret_w (by rw [R.out]; rfl), rfl⟩
end Go.Proofs.YteoggpollgkfiaaDoor
