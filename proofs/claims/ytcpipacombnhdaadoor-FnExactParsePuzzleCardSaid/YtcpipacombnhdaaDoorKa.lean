/- append at slices of clues; slices.Clone at clues. -/
import Derived.Test.YtcpipacombnhdaaDoorKb
import Derived.Laws.AppendOwnNone
namespace Go.Proofs.YtcpipacombnhdaaDoor
set_option linter.unusedVariables false
open Go.RowKit

set_option maxRecDepth 100000 in
/-- 'append(s, x...)' at slices of clues: s the call's own, x any that is read -/
theorem wpList_catB {ops : Array Oper} {rest : List Oper} {o : Oper} {a : Act} {Q : Exit → Act → World → Prop} (w0 : World) (hgd : o.guard = none) (s x : Operand)
    (ho : o.op = .call { callee := .builtin .append, args := #[s, x], argTypes := #[28, 28] })
    (B : Nat) (v : Value) (bs : List Br) (hs : a.eval s = v) (hI : Brs w0 B v bs) (u : Value) (cs : List Br) (hx : a.eval x = u) (hR : RdB w0 u cs) (hl : bs.length + cs.length < 16777216) (hB : B ≤ w0.heap.size)
    (h : ∀ v' w', Brs w' B v' (bs ++ cs) → Below B w0 w' → w0.grownBy w' v.ownBlock → wpList Tryd.prog ops Q rest (a.put o.dst v') w') : wpList Tryd.prog ops Q (o :: rest) a w0 := by
  obtain ⟨i0, hi, hz0, hz1, hz2⟩ := info_parts Tryd.infoBr
  have hlt : ∀ b, v.ownBlock = some b → B ≤ b := fun b hb => (World.ownsRow.lt hI b hb).1
  obtain ⟨a', n, c, rfl, hn, ⟨hnc, hnone⟩, hcm, hcell⟩ := hR
  cases a' with
  | none =>
    have hn0 : n = 0 := by
      rcases Nat.eq_zero_or_pos n with e | e
      · exact e
      · obtain ⟨b, off, e2, _⟩ := hcell 0 e; cases e2
    subst hn0
    obtain rfl : c = 0 := hnone rfl
    obtain rfl : cs = [] := List.length_eq_zero_iff.1 hn.symm
    refine wpList_append_own_none hgd s x 28 ho B 44 i0 3 Tryd.underlying28 hi _ bs.length (bcs bs) hs hI hx ?_
    refine h _ _ ?_ (Below.refl _ _) (World.grownBy.refl _ _)
    rw [List.append_nil]
    exact hI
  | some ad =>
    refine wpList_append_own _ hgd s x 28 ho B 44 i0 (.agg #[.int .i64 0, .int .i64 0, .int .i64 0]) 3 24 Tryd.underlying28 hi hz0 hz1 hz2 rfl (by decide) v bs.length (bcs bs) hs hI ad n c (bcs cs) hx (by rw [bcs_len]; omega)
      (fun j w hj => by
        have hjl : j < cs.length * 3 := by have := (List.getElem?_eq_some_iff.1 hj).1; rwa [bcs_len] at this
        have hd : j / 3 < n := by omega
        obtain ⟨b, off, e, _, hA⟩ := hcell (j / 3) hd
        injection e with e
        subst e
        have hb := bcs_at cs (j / 3) (by omega)
        have ad : ∀ o k, (⟨b, o, none⟩ : Addr).add k = ⟨b, o + k, none⟩ := fun o k => by by_cases hk0 : k = 0 <;> simp [Addr.add, hk0]
        rw [ad]
        have h3 : j % 3 = 0 ∨ j % 3 = 1 ∨ j % 3 = 2 := by omega
        rcases h3 with h3 | h3 | h3
        · have ej : j = j / 3 * 3 := by omega
          rw [ej] at hj ⊢
          rw [hb.1] at hj
          rw [← hj]; exact hA.1
        · have ej : j = j / 3 * 3 + 1 := by omega
          rw [ej] at hj ⊢
          rw [hb.2.1] at hj
          rw [← hj]; exact hA.2.1
        · have ej : j = j / 3 * 3 + 2 := by omega
          rw [ej] at hj ⊢
          rw [hb.2.2] at hj
          rw [← hj]; exact hA.2.2)
      (fun w hw => by
        simp only [bcs, List.mem_flatMap] at hw
        obtain ⟨y, _, hy⟩ := hw
        simp at hy
        rcases hy with rfl | rfl | rfl <;> rfl) (by unfold maxLen; omega) (by omega) hB ?_
    intro v' w' h1 h2 _
    refine h v' w' ?_ ((Below.refl _ _).grown h2 hB hlt) h2
    unfold Brs
    rw [← bcs_app, hn] at h1
    rw [List.length_append]
    exact h1
set_option maxRecDepth 100000 in
/-- 'append(s, b)' -/
theorem wpList_appB {ops : Array Oper} {rest : List Oper} {o : Oper} {a : Act} {Q : Exit → Act → World → Prop} {W : World} (w0 : World) (hgd : o.guard = none) (s x : Operand)
    (ho : o.op = .call { callee := .builtin .append, args := #[s, x], argTypes := #[28, 28] })
    (B : Nat) (v : Value) (bs : List Br) (hs : a.eval s = v) (hI : Brs w0 B v bs) (p q r : Int) (nb : Nat) (hx : a.eval x = .slice (some ⟨nb, 0, none⟩) 1 1) (hnb : nb = w0.heap.size) (hl : bs.length < 16777216) (hB : B ≤ w0.heap.size) (hW : W = w0.alloc (.cells #[.int .i64 p, .int .i64 q, .int .i64 r] 44))
    (h : ∀ v' w', Brs w' B v' (bs ++ [(p, q, r)]) → Below B w0 w' → w0.grownBy w' v.ownBlock → wpList Tryd.prog ops Q rest (a.put o.dst v') w') : wpList Tryd.prog ops Q (o :: rest) a W := by
  subst hnb
  subst hW
  obtain ⟨i0, hi, hz0, hz1, hz2⟩ := info_parts Tryd.infoBr
  have hlt : ∀ b, v.ownBlock = some b → B ≤ b := fun b hb => (World.ownsRow.lt hI b hb).1
  have X := Blk.new w0 #[.int .i64 p, .int .i64 q, .int .i64 r] 44
  refine wpList_append_own _ hgd s x 28 ho B 44 i0 (.agg #[.int .i64 0, .int .i64 0, .int .i64 0]) 3 24 Tryd.underlying28 hi hz0 hz1 hz2 rfl (by decide) v bs.length (bcs bs) hs (World.ownsRow.alloc hI _) ⟨w0.heap.size, 0, none⟩ 1 1 [.int .i64 p, .int .i64 q, .int .i64 r] hx rfl
    (fun j u hj => by
      have ad : (⟨w0.heap.size, 0, none⟩ : Addr).add j = ⟨w0.heap.size, j, none⟩ := by by_cases hj0 : j = 0 <;> simp [Addr.add, hj0]
      rw [ad, X.cell j]
      rw [← hj]; simp) (by intro u hu; simp at hu; rcases hu with rfl | rfl | rfl <;> rfl) (by unfold maxLen; omega) (by omega) (by simp; omega) ?_
  intro v' w' h1 h2 _
  refine h v' w' ?_ (((Below.refl _ _).alloc hB _).grown h2 (by simp; omega) hlt) ((World.grownBy_alloc _ _ _).trans h2)
  unfold Brs
  rw [bcs_snoc] at h1
  simpa using h1
theorem Brs.empty (w : World) (B : Nat) (hB : B ≤ w.heap.size) : Brs (w.alloc (.cells #[] 44)) B (.slice (some ⟨w.heap.size, 0, none⟩) 0 0) [] :=
  World.ownsRow_lit (base := B) (e := 44) (size := 3) w #[] 0 hB (Nat.zero_le _) rfl
theorem Brs.some_ {w : World} {B : Nat} {v : Value} {bs : List Br} (h : Brs w B v bs) (hn : 0 < bs.length) : ∃ g cap, v = .slice (some ⟨g, 0, none⟩) bs.length cap := by
  rcases h.2 with ⟨rfl, h0⟩ | ⟨g, cap, cur, rfl, _⟩
  · omega
  · exact ⟨_, _, rfl⟩
theorem Brs.len {w : World} {B : Nat} {v : Value} {bs : List Br} (h : Brs w B v bs) : ∃ a c, v = .slice a bs.length c := by
  rcases h.2 with ⟨rfl, h0⟩ | ⟨g, cap, cur, rfl, _⟩
  · exact ⟨_, _, by rw [h0]⟩
  · exact ⟨_, _, rfl⟩
end Go.Proofs.YtcpipacombnhdaaDoor
