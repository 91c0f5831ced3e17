/- Slices of slices of ints, of the call's own; what a call leaves that writes some blocks alone; spec.l1Has. -/
import Derived.Test.YtimbpfenpbkckabCv
import Derived.Test.YtimbpfenpbkckabIx
import Derived.RangeFuncBox
namespace Go.Proofs.Ytimbpfenpbkckab
set_option linter.unusedVariables false
open Go.RowKit Go.Shelf

/-- only the blocks that E tells of have turned -/
structure KeepE (E : Nat → Prop) (w w' : World) : Prop where
  os : w'.os = w.os
  tape : w'.tape = w.tape
  output : w'.output = w.output
  size : w.heap.size ≤ w'.heap.size
  block : ∀ k, k < w.heap.size → ¬ E k → w'.heap[k]? = w.heap[k]?
theorem KeepE.refl (E : Nat → Prop) (w : World) : KeepE E w w := ⟨rfl, rfl, rfl, Nat.le_refl _, fun _ _ _ => rfl⟩
theorem KeepE.trans {E E2 : Nat → Prop} {w w1 w2 : World} (h : KeepE E w w1) (h2 : KeepE E2 w1 w2) (hE : ∀ k, k < w.heap.size → E2 k → E k) : KeepE E w w2 :=
  ⟨h2.os.trans h.os, h2.tape.trans h.tape, h2.output.trans h.output, Nat.le_trans h.size h2.size, fun k hk he => (h2.block k (Nat.lt_of_lt_of_le hk h.size) fun h3 => he (hE k hk h3)).trans (h.block k hk he)⟩
theorem KeepE.of_grown {E : Nat → Prop} {w w' : World} {row : Option Nat} (h : w.grownBy w' row) (hE : ∀ k, row = some k → k < w.heap.size → E k) : KeepE E w w' :=
  ⟨h.os, h.tape, h.output, h.size, fun k hk he => h.block k hk fun e => he (hE k e.symm hk)⟩
theorem KeepE.of_below {E : Nat → Prop} {w w' : World} (h : Below w.heap.size w w') : KeepE E w w' :=
  ⟨h.os, h.tape, h.output, h.size, fun k hk _ => h.block k hk⟩
theorem KeepE.below {E : Nat → Prop} {w w' : World} {B : Nat} (h : KeepE E w w') (hB : B ≤ w.heap.size) (hE : ∀ k, E k → B ≤ k) : Below B w w' :=
  ⟨h.os, h.tape, h.output, h.size, fun k hk => h.block k (Nat.lt_of_lt_of_le hk hB) fun h2 => by have := hE k h2; omega⟩
theorem Ints.keepE {E : Nat → Prop} {w w' : World} {B : Nat} {v : Value} {zs : List Int} (h : Ints w B v zs) (hk : KeepE E w w') (hE : ∀ k, v.ownBlock = some k → ¬ E k) : Ints w' B v zs := by
  refine ⟨h.1, ?_⟩
  rcases h.2 with h2 | ⟨g, cap, cur, e, h1, hg, h3, h4, h5, h6⟩
  · exact .inl h2
  · exact .inr ⟨g, cap, cur, e, h1, (hk.block g (Array.getElem?_eq_some_iff.1 hg).1 (hE g (by rw [e]; rfl))).trans hg, h3, h4, h5, h6⟩
theorem boxE {E : Nat → Prop} {w w' : World} {b : Nat} {t : TypeId} {v : Value} (h : Boxed w b t v) (hk : KeepE E w w') (hE : ¬ E b) : Boxed w' b t v :=
  (hk.block b h.lt hE).trans h

theorem Try.infoSl : (Try.prog.info? 22).map (fun i => (i.zero, i.size, i.bytes)) = some (some (.slice none 0 0), 1, 24) := by kernel_rfl
/-- the slice v of slices of ints, of the call's own as they are -/
def LL (w : World) (B : Nat) (v : Value) (ls : List (List Nat)) : Prop :=
  ∃ vs : List Value, vs.length = ls.length ∧ w.ownsRow B 22 1 v ls.length vs ∧ ∀ i, i < ls.length → ∃ u, vs[i]? = some u ∧ Ints w B u (idx (ls.getD i []))
theorem LL.nil (w : World) (B : Nat) : LL w B (.slice none 0 0) [] := ⟨[], rfl, World.ownsRow_nil _ _ _ _, fun i hi => absurd hi (Nat.not_lt_zero _)⟩
theorem LL.lt {w : World} {B : Nat} {v : Value} {ls : List (List Nat)} (h : LL w B v ls) : ∀ k, v.ownBlock = some k → B ≤ k ∧ k < w.heap.size := by
  obtain ⟨vs, h1, h2, h3⟩ := h
  exact World.ownsRow.lt h2
/-- a slice of ints and a slice of slices share no block -/
theorem LL.ne {w : World} {B B' : Nat} {v u : Value} {ls : List (List Nat)} {zs : List Int} (h : LL w B v ls) (hI : Ints w B' u zs) : ∀ k, u.ownBlock = some k → v.ownBlock ≠ some k := by
  intro k e1 e2
  obtain ⟨vs, h1, h2, h3⟩ := h
  rcases hI.2 with ⟨rfl, _⟩ | ⟨g, cap, cur, rfl, hb, hg, _⟩
  · cases e1
  rcases h2.2 with ⟨rfl, _⟩ | ⟨g', cap', cur', rfl, hb', hg', _⟩
  · cases e2
  have e3 : g = k := by simpa [Value.ownBlock] using e1
  have e4 : g' = k := by simpa [Value.ownBlock] using e2
  subst e3
  subst e4
  rw [hg] at hg'
  injection hg' with hg'
  injection hg' with _ h5
  exact absurd h5 (by decide)
theorem LL.keepE {E : Nat → Prop} {w w' : World} {B : Nat} {v : Value} {ls : List (List Nat)} (h : LL w B v ls) (hk : KeepE E w w') (hE : ∀ k, v.ownBlock = some k → ¬ E k)
    (hU : ∀ k u zs, Ints w B u zs → u.ownBlock = some k → ¬ E k) : LL w' B v ls := by
  obtain ⟨vs, h1, h2, h3⟩ := h
  refine ⟨vs, h1, ⟨h2.1, ?_⟩, fun i hi => ?_⟩
  · rcases h2.2 with h4 | ⟨g, cap, cur, e, h4, hg, r⟩
    · exact .inl h4
    · exact .inr ⟨g, cap, cur, e, h4, (hk.block g (Array.getElem?_eq_some_iff.1 hg).1 (hE g (by rw [e]; rfl))).trans hg, r⟩
  · obtain ⟨u, hu, hI⟩ := h3 i hi
    exact ⟨u, hu, hI.keepE hk fun k e => hU k u _ hI e⟩
theorem LL.below {w w' : World} {B : Nat} {v : Value} {ls : List (List Nat)} (h : LL w B v ls) (hb : Below w.heap.size w w') : LL w' B v ls :=
  h.keepE (KeepE.of_below (E := fun _ => False) hb) (fun _ _ h => h) (fun _ _ _ _ _ h => h)
theorem LL.mono {w : World} {B B' : Nat} {v : Value} {ls : List (List Nat)} (h : LL w B' v ls) (hb : B ≤ B') : LL w B v ls := by
  obtain ⟨vs, h1, h2, h3⟩ := h
  refine ⟨vs, h1, ⟨h2.1, ?_⟩, fun i hi => ?_⟩
  · rcases h2.2 with h4 | ⟨g, cap, cur, e, h4, r⟩
    · exact .inl h4
    · exact .inr ⟨g, cap, cur, e, Nat.le_trans hb h4, r⟩
  · obtain ⟨u, hu, hI⟩ := h3 i hi
    exact ⟨u, hu, ints_mono' hI hb⟩
/-- its elements -/
theorem LL.form {w : World} {B : Nat} {v : Value} {ls : List (List Nat)} (h : LL w B v ls) : ∃ a n cap, v = .slice a n cap ∧ n = ls.length ∧ ∀ j, j < n → ∃ g u, a = some ⟨g, 0, none⟩ ∧ B ≤ g ∧ g < w.heap.size ∧ w.cell? ⟨g, j, none⟩ = some u ∧ Ints w B u (idx (ls.getD j [])) := by
  obtain ⟨vs, h1, h2, h3⟩ := h
  have h2' := h2
  rcases h2.2 with ⟨rfl, h0⟩ | ⟨g, cap, cur, rfl, hb, hg, hnc, hcm, hcs, ht⟩
  · exact ⟨_, _, _, rfl, h0.symm, fun j hj => absurd hj (by omega)⟩
  · refine ⟨_, _, _, rfl, rfl, fun j hj => ?_⟩
    obtain ⟨u, hu, hI⟩ := h3 j hj
    refine ⟨g, u, rfl, hb, (Array.getElem?_eq_some_iff.1 hg).1, ?_, hI⟩
    have hjv : j < vs.length := by omega
    have := World.ownsRow.cellAt h2' j (by omega)
    rw [this]
    exact hu
/-- 'append(out, x)' at slices of ints -/
theorem wpList_appL {ops : Array Oper} {rest : List Oper} {o : Oper} {a : Act} {Q : Exit → Act → World → Prop} {W : World} (w0 : World) (hgd : o.guard = none) (s x : Operand)
    (ho : o.op = .call { callee := .builtin .append, args := #[s, x], argTypes := #[43, 43] })
    (B : Nat) (v : Value) (ls : List (List Nat)) (hs : a.eval s = v) (hI : LL w0 B v ls) (u : Value) (hu1 : u.oneCell' = true) (z : List Nat) (hU : Ints w0 B u (idx z)) (nb : Nat) (hx : a.eval x = .slice (some ⟨nb, 0, none⟩) 1 1) (hnb : nb = w0.heap.size) (hl : ls.length < 16777216) (hB : B ≤ w0.heap.size) (hW : W = w0.alloc (.cells #[u] 22))
    (h : ∀ v' w', LL w' B v' (ls ++ [z]) → w0.grownBy w' v.ownBlock → (∀ k, v'.ownBlock = some k → v.ownBlock = some k ∨ w0.heap.size ≤ k) → wpList Try.prog ops Q rest (a.put o.dst v') w') : wpList Try.prog ops Q (o :: rest) a W := by
  subst hnb
  subst hW
  obtain ⟨i0, hi, hz0, hz1, hz2⟩ := info_parts Try.infoSl
  have hI0 := hI
  obtain ⟨vs, g1, g2, g3⟩ := hI
  refine wpList_append_own_at _ hgd s x 43 ho B 22 i0 (.slice none 0 0) 1 24 Try.underlying43 hi hz0 hz1 hz2 rfl (by decide) v ls.length vs hs (World.ownsRow.alloc g2 _) ⟨w0.heap.size, 0, none⟩ 1 1 [u] hx rfl
    (cell_one_new _ _ _) (by intro y hy; simp at hy; subst hy; exact hu1) (by unfold maxLen; omega) (by omega) (by simp; omega) ?_
  intro v' w' h1 h2 _ h4
  have hg := (World.grownBy_alloc w0 (.cells #[u] 22) v.ownBlock).trans h2
  have hk : KeepE (fun k => v.ownBlock = some k) w0 w' := KeepE.of_grown hg fun k e _ => e
  refine h v' w' ⟨vs ++ [u], by simp [g1], ?_, fun i hi => ?_⟩ hg fun k e => ?_
  · have e : (ls ++ [z]).length = ls.length + 1 := by simp
    rw [e]; exact h1
  · by_cases hil : i < ls.length
    · obtain ⟨y, hy, hyI⟩ := g3 i hil
      refine ⟨y, by rw [List.getElem?_append_left (by omega)]; exact hy, ?_⟩
      have e : (ls ++ [z]).getD i [] = ls.getD i [] := by
        rw [List.getD_eq_getElem?_getD, List.getD_eq_getElem?_getD, List.getElem?_append_left hil]
      rw [e]
      exact hyI.keepE hk fun k e2 e3 => hI0.ne hyI k e2 e3
    · have e0 : i = ls.length := by simp at hi; omega
      subst e0
      refine ⟨u, by rw [← g1, List.getElem?_append_right (Nat.le_refl _)]; simp, ?_⟩
      have e : (ls ++ [z]).getD ls.length [] = z := by
        rw [List.getD_eq_getElem?_getD, List.getElem?_append_right (Nat.le_refl _)]; simp
      rw [e]
      exact hU.keepE hk fun k e2 e3 => hI0.ne hU k e2 e3
  · rcases h4 with h4 | h4
    · exact .inl (by rw [← h4]; exact e)
    · right
      rw [h4] at e
      have : w0.heap.size ≤ (w0.alloc (.cells #[u] 22)).heap.size := by simp
      injection e with e
      simp at e
      omega

theorem idx_has (l : List Nat) (k : Nat) : (l.contains k = true) ↔ ∃ j, j < l.length ∧ gt (idx l) j = (k : Int) := by
  rw [List.contains_iff_mem]
  constructor
  · intro h
    obtain ⟨j, hj, e⟩ := List.getElem_of_mem h
    refine ⟨j, hj, ?_⟩
    rw [idx_gt, List.getD_eq_getElem?_getD, List.getElem?_eq_getElem hj, e]; rfl
  · rintro ⟨j, hj, e⟩
    rw [idx_gt, List.getD_eq_getElem?_getD, List.getElem?_eq_getElem hj] at e
    have e' : ((l[j] : Nat) : Int) = (k : Int) := by simpa using e
    have : l[j] = k := by omega
    rw [← this]; exact List.getElem_mem _
set_option maxHeartbeats 1000000 in
theorem l1Has (v : Value) (l : List Nat) (k : Nat) (w : World) (h : Rd w v (idx l)) (hn : l.length ≤ 1000) :
    Calls Try.prog 70 #[v, .int .i64 k] w fun e w' => e = .returned (.bool (l.contains k)) ∧ w = w' := by
  obtain ⟨a, n, c, rfl, hnz, hcell⟩ := h.cells
  rw [idx_len] at hnz
  rw [← hnz] at hn
  have HC := Lib.hid hcell
  have HN := Lib.hid hnz
  have hh := idx_has l k
  generalize l.contains k = r at *
  have HI := Lib.hid hh
  clear h hcell hnz hh
  go_enter Try.func70, Try.ntmps70
  go_wp2
  go_loop [9] (fun i => ∃ j : Nat, j ≤ n ∧ i = .int .i64 j ∧ Hid (∀ q, q < j → gt (idx l) q ≠ (k : Int))) (fun i => n - (intOf i).toNat)
  case atStart => exact ⟨0, Nat.zero_le _, rfl, Lib.hid fun q hq => absurd hq (Nat.not_lt_zero _)⟩
  case round =>
    obtain ⟨j, hj, rfl, HA⟩ := hrel
    by_cases hlt : j < n
    · obtain ⟨b, off, rfl, hbw, hc⟩ := HC.out j hlt
      have hlt' : (j : Int) < n := by omega
      by_cases he : gt (idx l) j = (k : Int)
      · have R := Lib.hid (HI.out.2 ⟨j, by have := HN.out; omega, he⟩)
        rw [he] at hc
        go_wp2
        go_ret
        exact ⟨ret_bool R.out.symm, rfl⟩
      · have R : Hid (∀ q, q < j + 1 → gt (idx l) q ≠ (k : Int)) := Lib.hid (fun q hq => by
          by_cases e : q = j
          · subst e; exact he
          · exact HA.out q (by omega))
        generalize gt (idx l) j = x at *
        have he2 : (x == (k : Int)) = false := by simpa using he
        go_wp2
        go_round
        case rel => exact ⟨j + 1, by omega, by go_num, R⟩
        case measure => (simp [intOf]; try omega)
    · obtain rfl : j = n := by omega
      have R : Hid (r = false) := Lib.hid (by
        cases hc : r with
        | false => rfl
        | true =>
          obtain ⟨q, hq, e⟩ := HI.out.1 hc
          exact absurd e (HA.out q (by have := HN.out; omega)))
      go_wp2
      go_ret
      exact ⟨ret_bool R.out.symm, rfl⟩
end Go.Proofs.Ytimbpfenpbkckab
