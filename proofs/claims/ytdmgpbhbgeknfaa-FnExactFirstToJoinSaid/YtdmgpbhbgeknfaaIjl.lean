/- Slices of lists of the call's own; slices.Clone at ints; impl.sumOfTolls. -/
import Derived.Test.YtdmgpbhbgeknfaaIwb
import Derived.Test.YtdmgpbhbgeknfaaCat
import Derived.Test.YtdmgpbhbgeknfaaIfi
namespace Go.Proofs.Ytdmgpbhbgeknfaa
set_option linter.unusedVariables false
open Go.RowKit

theorem Try.infoRow : (Try.prog.info? 39).map (fun i => (i.zero, i.size, i.bytes)) = some (some (.slice none 0 0), 1, 24) := by kernel_rfl
/-- the slice v of the call's own holds as many lists; the first of them is told -/
def LsR (P : Value → Prop) (w : World) (B : Nat) (v : Value) (ls : List (List Nat)) : Prop :=
  ∃ us : List Value, w.ownsRow B 39 1 v ls.length us ∧ (∀ u ∈ us, u.oneCell' = true) ∧ ∀ l r, ls = l :: r → ∃ u ur, us = u :: ur ∧ Ints w B u (idx l) ∧ P u
theorem LsR.nil {P : Value → Prop} (w : World) (B : Nat) : LsR P w B (.slice none 0 0) [] := ⟨[], World.ownsRow_nil _ _ _ _, (fun u h => by cases h), fun l r h => by cases h⟩
theorem row_below {w w' : World} {B n s : Nat} {T : TypeId} {v : Value} {us : List Value} (h : w.ownsRow B T s v n us) (hb : Below w.heap.size w w') : w'.ownsRow B T s v n us := by
  refine ⟨h.1, ?_⟩
  rcases h.2 with h2 | ⟨g, cap, cur, e, h1, hg, h3, h4, h5, h6⟩
  · exact .inl h2
  · exact .inr ⟨g, cap, cur, e, h1, (hb.block g (Array.getElem?_eq_some_iff.1 hg).1).trans hg, h3, h4, h5, h6⟩
theorem LsR.below {P : Value → Prop} {w w' : World} {B : Nat} {v : Value} {ls : List (List Nat)} (h : LsR P w B v ls) (hb : Below w.heap.size w w') : LsR P w' B v ls := by
  obtain ⟨us, h1, h2, h3⟩ := h
  refine ⟨us, row_below h1 hb, h2, fun l r e => ?_⟩
  obtain ⟨u, ur, e2, hI, hp⟩ := h3 l r e
  exact ⟨u, ur, e2, hI.below hb, hp⟩
theorem LsR.mono {P : Value → Prop} {w : World} {B B' : Nat} {v : Value} {ls : List (List Nat)} (h : LsR P w B' v ls) (hB : B ≤ B') : LsR P w B v ls := by
  obtain ⟨us, h1, h2, h3⟩ := h
  refine ⟨us, ⟨h1.1, ?_⟩, h2, fun l r e => ?_⟩
  · rcases h1.2 with h4 | ⟨g, cap, cur, e, h5, r⟩
    · exact .inl h4
    · exact .inr ⟨g, cap, cur, e, Nat.le_trans hB h5, r⟩
  · obtain ⟨u, ur, e2, hI, hp⟩ := h3 l r e
    exact ⟨u, ur, e2, ints_mono' hI hB, hp⟩
theorem LsR.len {P : Value → Prop} {w : World} {B : Nat} {v : Value} {ls : List (List Nat)} (h : LsR P w B v ls) : ∃ a c, v = .slice a ls.length c := by
  obtain ⟨us, h1, _⟩ := h
  rcases h1.2 with ⟨rfl, h0⟩ | ⟨g, cap, cur, rfl, _⟩
  · exact ⟨_, _, by rw [h0]⟩
  · exact ⟨_, _, rfl⟩
theorem LsR.keptG {P : Value → Prop} {w w' : World} {B g : Nat} {v : Value} {ls : List (List Nat)} (h : LsR P w B v ls) (hg : w.grownBy w' (some g)) (hv : v.ownBlock = none ∨ v.ownBlock ≠ some g) (hP : ∀ u, P u → u.ownBlock ≠ some g) : LsR P w' B v ls := by
  obtain ⟨us, h1, h2, h3⟩ := h
  refine ⟨us, World.ownsRow.kept h1 hg hv, h2, fun l r e => ?_⟩
  obtain ⟨u, ur, e2, hI, hp⟩ := h3 l r e
  exact ⟨u, ur, e2, hI.kept hg (.inr (hP u hp)), hp⟩
/-- a slice of lists and one of ints share no block -/
theorem row_ne {w : World} {B B' n : Nat} {v u : Value} {us : List Value} {zs : List Int} (h : w.ownsRow B 39 1 v n us) (hI : Ints w B' u zs) : u.ownBlock = none ∨ u.ownBlock ≠ v.ownBlock := by
  rcases hI.2 with ⟨rfl, _⟩ | ⟨g', cap', cur', rfl, hb', hg', _⟩
  · exact .inl rfl
  right
  rcases h.2 with ⟨rfl, _⟩ | ⟨g, cap, cur, rfl, hb, hg, _⟩
  · intro e; cases e
  intro e
  have e2 : g' = g := by simpa [Value.ownBlock] using e
  subst e2
  rw [hg] at hg'
  injection hg' with hg'
  injection hg' with _ h5
  exact absurd h5 (by decide)
set_option maxRecDepth 100000 in
/-- 'append(lists, l)' -/
theorem wpList_appL {P : Value → Prop} {ops : Array Oper} {rest : List Oper} {o : Oper} {a : Act} {Q : Exit → Act → World → Prop} {W : World} (w0 : World) (hgd : o.guard = none) (s x : Operand)
    (ho : o.op = .call { callee := .builtin .append, args := #[s, x], argTypes := #[59, 59] })
    (B : Nat) (v : Value) (ls : List (List Nat)) (hs : a.eval s = v) (hI : LsR P w0 B v ls) (u : Value) (hPu : P u) (l : List Nat) (hu : Ints w0 B u (idx l)) (nb : Nat) (hx : a.eval x = .slice (some ⟨nb, 0, none⟩) 1 1) (hnb : nb = w0.heap.size) (hl : ls.length < 16777216) (hB : B ≤ w0.heap.size) (hW : W = w0.alloc (.cells #[u] 39))
    (h : ∀ v' w', LsR P w' B v' (ls ++ [l]) → Below B w0 w' → w0.grownBy w' v.ownBlock → wpList Try.prog ops Q rest (a.put o.dst v') w') : wpList Try.prog ops Q (o :: rest) a W := by
  subst hnb
  subst hW
  obtain ⟨us, h1, h2, h3⟩ := hI
  obtain ⟨i0, hi, hz0, hz1, hz2⟩ := info_parts Try.infoRow
  have hlt : ∀ b, v.ownBlock = some b → B ≤ b := fun b hb => (World.ownsRow.lt h1 b hb).1
  have huc : u.oneCell' = true := by rcases hu.2 with ⟨rfl, _⟩ | ⟨g, cap, cur, rfl, _⟩ <;> rfl
  have ha : ∀ o, w0.grownBy (w0.alloc o) none := fun o => World.grownBy_alloc w0 o none
  refine wpList_append_own _ hgd s x 59 ho B 39 i0 (.slice none 0 0) 1 24 Try.underlying59 hi hz0 hz1 hz2 rfl (by decide) v ls.length us hs (World.ownsRow.alloc h1 _) ⟨w0.heap.size, 0, none⟩ 1 1 [u] hx rfl
    (cell_one_new _ _ _) (by intro y hy; simp at hy; subst hy; exact huc) (by unfold maxLen; omega) (by omega) (by simp; omega) ?_
  intro v' w' h4 h5 _
  refine h v' w' ⟨us ++ [u], by rw [List.length_append]; exact h4, fun y hy => ?_, fun l1 r1 e => ?_⟩ (((Below.refl _ _).alloc hB _).grown h5 (by simp; omega) hlt) ((World.grownBy_alloc _ _ _).trans h5)
  · rcases List.mem_append.1 hy with hy | hy
    · exact h2 y hy
    · simp at hy; subst hy; exact huc
  · cases ls with
    | nil =>
      have e0 : us = [] := List.length_eq_zero_iff.1 (by simpa using h1.1)
      simp at e
      obtain ⟨rfl, rfl⟩ := e
      subst e0
      exact ⟨u, [], rfl, (hu.below ((Below.refl _ _).alloc (Nat.le_refl _) _)).kept h5 (row_ne h1 hu), hPu⟩
    | cons l0 r0 =>
      simp at e
      obtain ⟨rfl, rfl⟩ := e
      obtain ⟨u0, ur, e2, hI0, hp0⟩ := h3 l0 r0 rfl
      exact ⟨u0, ur ++ [u], by rw [e2]; rfl, ((hI0.below ((Below.refl _ _).alloc (Nat.le_refl _) _)).kept h5 (row_ne h1 hI0)), hp0⟩
set_option maxRecDepth 100000 in
theorem cloneI (g n c : Nat) (zs : List Int) (w : World) (h : Rd w (.slice (some ⟨g, 0, none⟩) n c) zs) (hn : zs.length ≤ 1048576) :
    Calls Try.prog 58 #[.slice (some ⟨g, 0, none⟩) n c] w fun e w' => ∃ u, e = .returned u ∧ Ints w' w.heap.size u zs ∧ Below w.heap.size w w' := by
  have hbA : Below w.heap.size w (w.alloc (.cells #[] 3)) := (Below.refl _ _).alloc (Nat.le_refl _) _
  have HR := Lib.hid (h.below hbA)
  have HB := Lib.hid hbA
  have E := Lib.run_eql_slice_nil (P := Try.prog) w
  clear h hbA
  go_enter Try.func58, Try.ntmps58
  go_wp2_with (at_builtin; refine wpList_cat (w.alloc (.cells #[] 3)) rfl _ _ rfl w.heap.size _ [] rfl (Ints.empty w _ (Nat.le_refl _)) _ zs rfl HR.out (by intro c e; cases e) (by simp; omega) (by simp) ?_; intro v' w2 hI hb hg)
  go_ret
  exact ⟨_, rfl, hI, HB.out.trans hb⟩
set_option maxHeartbeats 1000000 in
theorem sumOfTolls (m : Nat) (v : Value) (bs : List Br) (l : List Nat) (w : World) (h : RdB w v (pickB bs l)) (hg : Good m bs) (hlt : ∀ x ∈ l, x < bs.length) (hl : l.length ≤ 14) :
    Calls Try.prog 57 #[.agg #[.int .i64 m, v]] w fun e w' => e = .returned (.int .i64 (tollB bs l)) ∧ Below w.heap.size w w' := by
  obtain ⟨a, n, c, rfl, hnz, _, _, hcell⟩ := h
  rw [pickB_len] at hnz
  rw [← hnz] at hl
  have HN := Lib.hid hnz
  have HC := Lib.hid hcell
  have HG := Lib.hid hg
  have HLT := Lib.hid hlt
  clear hcell hnz hg hlt
  have hB0 := Lib.hid ((Below.refl w.heap.size w).alloc (Nat.le_refl _) (.cells #[.int .i64 m, .slice a n c] 30))
  go_enter Try.func57, Try.ntmps57
  go_wp2
  go_loopw [3, 9] (fun t q wr => ∃ k : Nat, k ≤ n ∧ q = .int .i64 k ∧ t = .int .i64 (tollB bs (l.take k)) ∧ Hid (Below w.heap.size w wr)) (fun _ q _ => n - (intOf q).toNat)
  case atStart => exact ⟨0, Nat.zero_le _, rfl, rfl, hB0⟩
  case round =>
    obtain ⟨k, hk, rfl, rfl, HB⟩ := hrel
    have hsz := HB.out.size
    by_cases hlt : k < n
    · obtain ⟨b, off, rfl, hbw, hA⟩ := HC.out k hlt
      have hkl : k < l.length := by have := HN.out; omega
      have hgk : gb (pickB bs l) k = gb bs (l.getD k 0) := by simp [gb, pickB, hkl]
      rw [hgk] at hA
      obtain ⟨x0, x1, x2⟩ := hA.below hbw HB.out
      have hltI : (k : Int) < n := by omega
      have TT := Lib.hid (show tollB bs (l.take (k + 1)) = tollB bs (l.take k) + (gb bs (l.getD k 0)).2.2 by rw [List.take_succ_eq_append_getElem hkl, tollB_app]; simp [tollB, hkl])
      have TB := tollB_in HG.out (l := l.take k) (fun x hx => HLT.out x (List.mem_of_mem_take hx))
      have TL : (l.take k).length ≤ 14 := by rw [List.length_take]; omega
      have hv := HG.out.at (j := l.getD k 0) (by rw [List.getD_eq_getElem?_getD, List.getElem?_eq_getElem hkl]; exact HLT.out _ (List.getElem_mem _))
      generalize gb bs (l.getD k 0) = q at *
      obtain ⟨y0, y1, y2⟩ := q
      simp only at x0 x1 x2 TT hv
      generalize tollB bs (l.take k) = t at *
      have ht : 0 ≤ t ∧ t ≤ 14000 := by omega
      clear TB TL hA hgk
      go_wp2
      go_roundw
      case rel => exact ⟨k + 1, by omega, by go_num, by rw [TT.out], Lib.hid (HB.out.trans (by (repeat (first | exact Below.refl _ _ | (refine Below.alloc ?_ (by first | omega | (simp; try omega)) _) | apply Below.drew | apply below_drewN))))⟩
      case measure => (simp [intOf]; try omega)
    · obtain rfl : k = n := by omega
      have R := Lib.hid (show l.take k = l from List.take_of_length_le (by have := HN.out; omega))
      go_wp2
      go_ret
      exact ⟨by rw [R.out]; rfl, HB.out⟩
end Go.Proofs.Ytdmgpbhbgeknfaa
