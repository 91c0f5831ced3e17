/- append of one clue as a step of a region that draws. -/
import Derived.Test.YtcpipacombnhdaaDoorKa
import Derived.Deep.AppendLies
namespace Go.Proofs.YtcpipacombnhdaaDoor
set_option linter.unusedVariables false
open Go.RowKit

theorem Blk.three {w : World} {g : Nat} {x y z : Value} (h : Blk w g #[x, y, z]) : w.cell? ⟨g, 0, none⟩ = some x ∧ w.cell? ⟨g, 1, none⟩ = some y ∧ w.cell? ⟨g, 2, none⟩ = some z ∧ g < w.heap.size := ⟨h.cell 0, h.cell 1, h.cell 2, h.lt⟩
/-- 'append(s, b)' as a step of a region that draws: s a row of the call's own, none or some -/
theorem step_appB1 {ops : Array Oper} {o : Oper} {a : Act} {w : World} {K : Act → World → Prop} {Q : Exit → Act → World → Prop} {E : Prop} (hgd : o.guard = none) (s x : Operand)
    (ho : o.op = .call { callee := .builtin .append, args := #[s, x], argTypes := #[28, 28] })
    (B : Nat) (v : Value) (bs : List Br) (hs : a.eval s = v) (hI : Brs w B v bs) (nb : Nat) (p q r : Int) (hx : a.eval x = .slice (some ⟨nb, 0, none⟩) 1 1) (hnb : Blk w nb #[.int .i64 p, .int .i64 q, .int .i64 r])
    (hl : bs.length ≤ 1000) (hbase : B ≤ w.heap.size)
    (h : ∀ g cap' w', Brs w' B (.slice (some ⟨g, 0, none⟩) (bs.length + 1) cap') (bs ++ [(p, q, r)]) → w.grownBy w' v.ownBlock → K (a.put o.dst (.slice (some ⟨g, 0, none⟩) (bs.length + 1) cap')) w') :
    if Region.wanted o (yielded ops a.tmps) = true then Oper.wp Tryd.prog o a w K Q else E := by
  obtain ⟨i0, hi, hz0, hz1, hz2⟩ := info_parts Tryd.infoBr
  refine step_append_lies _ hgd s x 28 ho B 44 i0 (.agg #[.int .i64 0, .int .i64 0, .int .i64 0]) 3 24 Tryd.underlying28 hi hz0 hz1 hz2 rfl (by decide) v bs.length (bcs bs) hs hI ⟨nb, 0, none⟩ 1 1 [.int .i64 p, .int .i64 q, .int .i64 r] hx rfl
    (fun j u hj => by
      have ad : (⟨nb, 0, none⟩ : Addr).add j = ⟨nb, j, none⟩ := by by_cases hj0 : j = 0 <;> simp [Addr.add, hj0]
      rw [ad, hnb.cell j]
      rw [← hj]; simp) (by intro u hu; simp at hu; rcases hu with rfl | rfl | rfl <;> rfl) (by omega) (by unfold maxLen; omega) (by omega) hbase _ rfl ?_
  intro g cap' w' h2 h3 _ _
  refine h g cap' w' ?_ h3
  unfold Brs
  rw [bcs_snoc] at h2
  rw [List.length_append]
  exact h2
theorem rdB_cells {w : World} {ad : Addr} {l c : Nat} {bs : List Br} (h : RdB w (.slice (some ad) l c) bs) : ∀ j u, (bcs bs)[j]? = some u → w.cell? (ad.add j) = some u := by
  obtain ⟨a', n, c', e, hn, _, _, hcell⟩ := h
  injection e with e1 e2 e3
  subst e1 e2 e3
  intro j u hj
  have hjl : j < bs.length * 3 := by have := (List.getElem?_eq_some_iff.1 hj).1; rwa [bcs_len] at this
  obtain ⟨b, off, e, _, hA⟩ := hcell (j / 3) (by omega)
  injection e with e
  subst e
  have hb := bcs_at bs (j / 3) (by omega)
  have ad : ∀ o k, (⟨b, o, none⟩ : Addr).add k = ⟨b, o + k, none⟩ := fun o k => by by_cases hk0 : k = 0 <;> simp [Addr.add, hk0]
  rw [ad]
  have h3 : j % 3 = 0 ∨ j % 3 = 1 ∨ j % 3 = 2 := by omega
  rcases h3 with h3 | h3 | h3
  · have ej : j = j / 3 * 3 := by omega
    rw [ej] at hj ⊢
    rw [hb.1] at hj
    rw [← hj]; exact hA.1
  · have ej : j = j / 3 * 3 + 1 := by omega
    rw [ej] at hj ⊢
    rw [hb.2.1] at hj
    rw [← hj]; exact hA.2.1
  · have ej : j = j / 3 * 3 + 2 := by omega
    rw [ej] at hj ⊢
    rw [hb.2.2] at hj
    rw [← hj]; exact hA.2.2
theorem bcs_ones {bs : List Br} : ∀ u ∈ bcs bs, u.oneCell' = true := by
  intro u hu
  simp only [bcs, List.mem_flatMap] at hu
  obtain ⟨y, _, hy⟩ := hu
  simp at hy
  rcases hy with rfl | rfl | rfl <;> rfl
/-- 'append(s, x...)' as a step of a region that draws: s a row of the call's own that is some, x any that is read -/
theorem step_catB {ops : Array Oper} {o : Oper} {a : Act} {w : World} {K : Act → World → Prop} {Q : Exit → Act → World → Prop} {E : Prop} (hgd : o.guard = none) (s x : Operand)
    (ho : o.op = .call { callee := .builtin .append, args := #[s, x], argTypes := #[28, 28] })
    (B g0 cap : Nat) (bs : List Br) (hs : a.eval s = .slice (some ⟨g0, 0, none⟩) bs.length cap) (hI : Brs w B (.slice (some ⟨g0, 0, none⟩) bs.length cap) bs) (u : Value) (cs : List Br) (hx : a.eval x = u) (hR : RdB w u cs)
    (hl : bs.length + cs.length ≤ 1000) (hbase : B ≤ w.heap.size) (zs : List Br) (hz : bs ++ cs = zs)
    (h : ∀ g cap' w', Brs w' B (.slice (some ⟨g, 0, none⟩) zs.length cap') zs → w.grownBy w' (some g0) → K (a.put o.dst (.slice (some ⟨g, 0, none⟩) zs.length cap')) w') :
    if Region.wanted o (yielded ops a.tmps) = true then Oper.wp Tryd.prog o a w K Q else E := by
  subst hz
  obtain ⟨i0, hi, hz0, hz1, hz2⟩ := info_parts Tryd.infoBr
  obtain ⟨a', n, c, rfl, hn, ⟨hnc, hnone⟩, hcm, hcell⟩ := id hR
  cases a' with
  | none =>
    have hn0 : n = 0 := by
      rcases Nat.eq_zero_or_pos n with e | e
      · exact e
      · obtain ⟨b, off, e2, _⟩ := hcell 0 e; cases e2
    subst hn0
    obtain rfl : c = 0 := hnone rfl
    obtain rfl : cs = [] := List.length_eq_zero_iff.1 hn.symm
    have hw : Region.wanted o (yielded ops a.tmps) = true := by simp [Region.wanted, hgd]
    rw [if_pos hw]
    have hrun := run_append_owned_none (P := Tryd.prog) (w := w) B 28 o.type 44 i0 3 Tryd.underlying28 hi _ bs.length (bcs bs) hI
    unfold Oper.wp
    simp [execOp, ho, resolve, invoke, builtin, hs, hx, hrun, Result.andThen]
    have := h g0 cap w (by rw [List.append_nil]; exact hI) (World.grownBy.refl _ _)
    rw [List.append_nil] at this
    exact this
  | some ad =>
    rw [List.length_append] at h
    subst hn
    rcases Nat.eq_zero_or_pos cs.length with h0 | h0
    · obtain rfl : cs = [] := List.length_eq_zero_iff.1 h0
      have hroom : bs.length + 0 ≤ cap := by
        rcases hI.2 with ⟨e1, _⟩ | ⟨g', cap', cur, e1, _, _, hnc, _⟩
        · cases e1
        · injection e1 with _ _ e2; subst e2; omega
      refine step_append_room hgd s x 28 ho 44 i0 3 Tryd.underlying28 hi hz1 g0 0 bs.length cap hs ad 0 c [] hx rfl (by simp) (by simp) hroom (by simp) ?_
      exact h g0 cap w (by rw [List.append_nil]; exact hI) (World.grownBy.refl _ _)
    · refine step_append_lies _ hgd s x 28 ho B 44 i0 (.agg #[.int .i64 0, .int .i64 0, .int .i64 0]) 3 24 Tryd.underlying28 hi hz0 hz1 hz2 rfl (by decide) _ bs.length (bcs bs) hs hI ad cs.length c (bcs cs) hx (bcs_len cs) (rdB_cells hR) bcs_ones h0 (by unfold maxLen; omega) (by omega) hbase _ rfl ?_
      intro g cap' w' h2 h3 _ _
      refine h g cap' w' ?_ h3
      unfold Brs
      rw [List.length_append, bcs_app]
      exact h2
end Go.Proofs.YtcpipacombnhdaaDoor
