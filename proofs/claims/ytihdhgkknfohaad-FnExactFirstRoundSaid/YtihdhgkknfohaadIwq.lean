/- append(way, next) where the way goes on to be used: as a step of a region that draws; what stands behind it. -/
import Derived.Test.YtihdhgkknfohaadSl
import Derived.Test.YtihdhgkknfohaadIb
import Derived.Deep.RegionLawGrows
import Derived.Deep.AppendLies
namespace Go.Proofs.Ytihdhgkknfohaad
set_option linter.unusedVariables false
open Go.RowKit

theorem take_set_end {α : Type} (l : List α) (n : Nat) (u : α) (h : n < l.length) : (l.set n u).take (n + 1) = l.take n ++ [u] := by
  rw [List.take_succ_eq_append_getElem (by simpa using h), List.take_set_of_le (Nat.le_refl _)]
  simp
theorem Ints.room {w : World} {B g n cap : Nat} {zs : List Int} (h : Ints w B (.slice (some ⟨g, 0, none⟩) n cap) zs) (hn : n = zs.length) (hc : n + 1 ≤ cap) (z : Int) : Ints (w.setCell ⟨g, n, none⟩ (.int .i64 z)) B (.slice (some ⟨g, 0, none⟩) (n + 1) cap) (zs ++ [z]) := by
  subst hn
  obtain ⟨h1, h2⟩ := h
  rcases h2 with ⟨e, _⟩ | ⟨g', cap', cur, e, hB, hg, h3, h4, h5, h6⟩
  · cases e
  injection e with e1 _ e3
  injection e1 with e1
  injection e1 with e1
  subst e1 e3
  refine ⟨by simp [i64s], .inr ⟨g, cap, cur.setIfInBounds zs.length (.int .i64 z), by simp, hB, heap_setCell_same w g zs.length cur 3 _ hg, by simp; omega, h4, by simp [h5], ?_⟩⟩
  rw [Nat.mul_one] at h6 ⊢
  rw [List.length_append, List.length_singleton, Array.toList_setIfInBounds, take_set_end _ _ _ (by simp [h5]; omega), h6]
  simp [i64s]
theorem Ints.pre {w : World} {B g n cap : Nat} {zs : List Int} {z : Int} (h : Ints w B (.slice (some ⟨g, 0, none⟩) (n + 1) cap) (zs ++ [z])) (hn : n = zs.length) : Ints w B (.slice (some ⟨g, 0, none⟩) n cap) zs := by
  subst hn
  obtain ⟨h1, h2⟩ := h
  rcases h2 with ⟨e, _⟩ | ⟨g', cap', cur, e, hB, hg, h3, h4, h5, h6⟩
  · cases e
  injection e with e1 _ e3
  injection e1 with e1
  injection e1 with e1
  subst e1 e3
  refine ⟨by simp [i64s], .inr ⟨g, cap, cur, rfl, hB, hg, by simp at h3; omega, h4, h5, ?_⟩⟩
  have h7 := congrArg (List.take zs.length) h6
  rw [List.take_take] at h7
  simp only [List.length_append, List.length_singleton, Nat.mul_one] at h7 ⊢
  rw [show min zs.length (zs.length + 1) = zs.length by omega] at h7
  rw [h7]
  simp [i64s]
theorem Ints.cap {w : World} {B g n cap : Nat} {zs : List Int} (h : Ints w B (.slice (some ⟨g, 0, none⟩) n cap) zs) : n ≤ cap ∧ n = zs.length ∧ ∀ j, j < cap → (w.cell? ⟨g, j, none⟩).isSome = true := by
  obtain ⟨h1, h2⟩ := h
  rcases h2 with ⟨e, _⟩ | ⟨g', cap', cur, e, hB, hg, h3, h4, h5, h6⟩
  · cases e
  injection e with e1 e2 e3
  injection e1 with e1
  injection e1 with e1
  subst e1 e2 e3
  refine ⟨h3, rfl, fun j hj => ?_⟩
  have : j < cur.size := by omega
  simp [World.cell?, hg, this]
/-- a longer list stands in v', at the same place or at a new one: what the call behind it left of the shorter one -/
def Back (w w' : World) (B : Nat) (v v' : Value) (zs ys : List Int) : Prop := (∀ w'', w'.grownBy w'' v'.ownBlock → w.grownBy w'' v.ownBlock) ∧ ∀ w'', Ints w'' B v' ys → w'.grownBy w'' v'.ownBlock → Ints w'' B v zs
theorem grown_set1 (w : World) (a : Addr) (u : Value) : w.grownBy (w.setCell a u) (some a.block) :=
  ⟨rfl, rfl, rfl, by simp, fun i hi hne => Below.heap_setCell w a u i (fun e => hne (by rw [e]))⟩
set_option maxRecDepth 100000 in
theorem step_appW {ops : Array Oper} {o : Oper} {a : Act} {w : World} {K : Act → World → Prop} {Q : Exit → Act → World → Prop} {E : Prop} (hgd : o.guard = none) (s x : Operand)
    (ho : o.op = .call { callee := .builtin .append, args := #[s, x], argTypes := #[26, 26] })
    (B : Nat) (v : Value) (zs : List Int) (hs : a.eval s = v) (hI : Ints w B v zs) (hp : 0 < zs.length) (nb : Nat) (z : Int) (hx : a.eval x = .slice (some ⟨nb, 0, none⟩) 1 1) (hnb : w.cell? ⟨nb, 0, none⟩ = some (.int .i64 z))
    (hl : zs.length ≤ 1000) (hbase : B ≤ w.heap.size) (n1 : Nat) (hn1 : zs.length + 1 = n1) (ys : List Int) (hys : zs ++ [z] = ys)
    (h : ∀ g cap' w', Ints w' B (.slice (some ⟨g, 0, none⟩) n1 cap') ys → Below B w w' → w.grownBy w' v.ownBlock → Back w w' B v (.slice (some ⟨g, 0, none⟩) n1 cap') zs ys → K (a.put o.dst (.slice (some ⟨g, 0, none⟩) n1 cap')) w') :
    if Region.wanted o (yielded ops a.tmps) = true then Oper.wp Try.prog o a w K Q else E := by
  subst hn1 hys
  obtain ⟨i0, hi, hz0, hz1, hz2⟩ := info_parts Try.infoInt
  obtain ⟨g, n, cap, rfl, hn, hnc, hcm, hBg, hgw, hcell⟩ := hI.form hp
  subst hn
  have hc1 : ∀ j u, [Value.int .i64 z][j]? = some u → w.cell? ((⟨nb, 0, none⟩ : Addr).add j) = some u := fun j u hj => by
    cases j with
    | zero => simp at hj; subst hj; exact hnb
    | succ j => simp at hj
  by_cases hroom : zs.length + 1 ≤ cap
  · refine step_append_room hgd s x 26 ho 3 i0 1 Try.underlying26 hi hz1 g 0 zs.length cap hs ⟨nb, 0, none⟩ 1 1 [.int .i64 z] hx rfl hc1 (by simp; rfl) hroom (fun j hj => ?_) ?_
    · simp only [List.length_singleton] at hj
      have e : 0 + zs.length * 1 + j = zs.length := by omega
      rw [e]
      exact ⟨hI.cap.2.2 _ (by omega), World.ownsRow.frozenAt hI _⟩
    · have e : w.setCells g (0 + zs.length * 1) [Value.int .i64 z] = w.setCell ⟨g, zs.length, none⟩ (.int .i64 z) := by simp [World.setCells]
      rw [e]
      have hg1 := grown_set1 w ⟨g, zs.length, none⟩ (.int .i64 z)
      exact h g cap _ (hI.room rfl hroom z) ((Below.refl B w).setCell hBg _) hg1 ⟨fun w'' hg2 => hg1.trans hg2, fun w'' hI2 hg2 => hI2.pre rfl⟩
  · refine step_append_grows hgd s x 26 ho 3 i0 (.int .i64 0) 1 8 Try.underlying26 hi hz0 hz1 hz2 rfl (by decide) (some ⟨g, 0, none⟩) zs.length cap (i64s zs) hs (by intro e; cases e) (by simp [i64s]) (fun b hb j u hj => ?_) ⟨nb, 0, none⟩ 1 1 [.int .i64 z] hx rfl hc1 (by simp; rfl) (by omega) (by unfold maxLen; omega) (by omega) ?_
    · injection hb with hb
      subst hb
      have hjl : j < zs.length := by have := (List.getElem?_eq_some_iff.1 hj).1; rwa [i64s_len] at this
      have ad : (⟨g, 0, none⟩ : Addr).add j = ⟨g, j, none⟩ := by (simp [Addr.add]; try omega)
      rw [ad, hcell j hjl, ← hj]
      simp [i64s, gt, hjl]
    · intro v' w' hown hg0
      rw [i64s_snoc] at hown
      have hI2 : Ints w' w.heap.size v' (zs ++ [z]) := by unfold Ints; rw [List.length_append]; exact hown
      obtain ⟨g', n', cap', rfl, hn', _, _, hBg', _, _⟩ := hI2.form (by simp)
      obtain rfl : n' = zs.length + 1 := by simpa using hn'
      have hgw' : w.grownBy w' (Value.slice (some ⟨g, 0, none⟩) zs.length cap).ownBlock := ⟨hg0.os, hg0.tape, hg0.output, hg0.size, fun k hk hne => hg0.block k hk (by simp)⟩
      refine h g' cap' w' (ints_mono' hI2 hbase) ((Below.refl B w).grown hg0 hbase (by intro k hk; cases hk)) hgw' ?_
      have hne : g ≠ g' := by omega
      refine ⟨fun w'' hg2 => ?_, fun w'' hI3 hg2 => (hI.kept hg0 (.inr (by simp [Value.ownBlock]))).kept hg2 (.inr (by simp [Value.ownBlock, hne]))⟩
      exact ⟨hg2.os.trans hg0.os, hg2.tape.trans hg0.tape, hg2.output.trans hg0.output, Nat.le_trans hg0.size hg2.size, fun k hk hne2 => (hg2.block k (Nat.lt_of_lt_of_le hk hg0.size) (by simp [Value.ownBlock]; omega)).trans (hg0.block k hk (by simp))⟩
set_option maxRecDepth 100000 in
/-- 'append(s, z)' as a step of a region that draws: s a row of the call's own, none or some -/
theorem step_appI {ops : Array Oper} {o : Oper} {a : Act} {w : World} {K : Act → World → Prop} {Q : Exit → Act → World → Prop} {E : Prop} (hgd : o.guard = none) (s x : Operand)
    (ho : o.op = .call { callee := .builtin .append, args := #[s, x], argTypes := #[26, 26] })
    (B : Nat) (v : Value) (zs : List Int) (hs : a.eval s = v) (hI : Ints w B v zs) (nb : Nat) (z : Int) (hx : a.eval x = .slice (some ⟨nb, 0, none⟩) 1 1) (hnb : w.cell? ⟨nb, 0, none⟩ = some (.int .i64 z))
    (hl : zs.length ≤ 1000) (hbase : B ≤ w.heap.size) (n1 : Nat) (hn1 : zs.length + 1 = n1) (ys : List Int) (hys : zs ++ [z] = ys)
    (h : ∀ g cap' w', Ints w' B (.slice (some ⟨g, 0, none⟩) n1 cap') ys → Below B w w' → K (a.put o.dst (.slice (some ⟨g, 0, none⟩) n1 cap')) w') :
    if Region.wanted o (yielded ops a.tmps) = true then Oper.wp Try.prog o a w K Q else E := by
  subst hn1 hys
  obtain ⟨i0, hi, hz0, hz1, hz2⟩ := info_parts Try.infoInt
  refine step_append_lies _ hgd s x 26 ho B 3 i0 (.int .i64 0) 1 8 Try.underlying26 hi hz0 hz1 hz2 rfl (by decide) v zs.length (i64s zs) hs hI ⟨nb, 0, none⟩ 1 1 [.int .i64 z] hx rfl
    (fun j u hj => by
      cases j with
      | zero => simp at hj; subst hj; exact hnb
      | succ j => simp at hj) (by intro u hu; simp at hu; subst hu; rfl) (by omega) (by unfold maxLen; omega) (by omega) hbase _ rfl ?_
  intro g cap' w' h2 h3 _ _
  rw [i64s_snoc] at h2
  refine h g cap' w' (by unfold Ints; rw [List.length_append]; exact h2) ((Below.refl B w).grown h3 hbase (fun b hb => (World.ownsRow.lt hI b hb).1))
end Go.Proofs.Ytihdhgkknfohaad
