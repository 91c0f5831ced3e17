/- append at slices of ints as a step of a region that draws; spec.l1Own, whose answer is never nil. -/
import Derived.Test.YthdmmliipmmfbabOa
import Derived.Test.YthdmmliipmmfbabCat
import Derived.Deep.AppendLies
import Derived.Deep.RegionLaw
namespace Go.Proofs.Ythdmmliipmmfbab
set_option linter.unusedVariables false
open Go.RowKit

theorem Ints.lt_ {w : World} {B : Nat} {v : Value} {zs : List Int} (h : Ints w B v zs) : ∀ b, v.ownBlock = some b → B ≤ b ∧ b < w.heap.size := fun b hb => World.ownsRow.lt h b hb
theorem Ints.apart {w : World} {B : Nat} {v : Value} {zs : List Int} (h : Ints w B v zs) {g : Nat} (hg : g < B) : some g ≠ v.ownBlock := fun e => by have := h.lt_ g e.symm; omega
theorem Rd.keptZ {w w' : World} {v : Value} {zs : List Int} {r : Option Nat} (h : Rd w v zs) (hg : w.grownBy w' r) (hne : ∀ b, v.ownBlock = some b → r ≠ some b) : Rd w' v zs := by
  rcases h with h | ⟨b, off, cap, rfl, hlt', hc, hm, hh⟩
  · exact .inl h
  · refine .inr ⟨b, off, cap, rfl, Nat.lt_of_lt_of_le hlt' hg.size, hc, hm, fun j hj => ?_⟩
    refine (World.cell?_of_block (w := w) (a := ⟨b, off + j, none⟩) (hg.block b hlt' ?_)).trans (hh j hj)
    intro e
    exact hne b rfl e.symm
theorem Ints.preZ {w : World} {B g n cap : Nat} {zs : List Int} {z : Int} (h : Ints w B (.slice (some ⟨g, 0, none⟩) (n + 1) cap) (zs ++ [z])) (hn : n = zs.length) : Ints w B (.slice (some ⟨g, 0, none⟩) n cap) zs := by
  subst hn
  obtain ⟨h1, h2⟩ := h
  rcases h2 with ⟨e, _⟩ | ⟨g', cap', cur, e, hB, hg, h3, h4, h5, h6⟩
  · cases e
  injection e with e1 _ e3
  injection e1 with e1
  injection e1 with e1
  subst e1 e3
  refine ⟨by simp [i64s], .inr ⟨g, cap, cur, rfl, hB, hg, by simp at h3; omega, h4, h5, ?_⟩⟩
  have h7 := congrArg (List.take zs.length) h6
  rw [List.take_take] at h7
  simp only [List.length_append, List.length_singleton, Nat.mul_one] at h7 ⊢
  rw [show min zs.length (zs.length + 1) = zs.length by omega] at h7
  rw [h7]
  simp [i64s]
theorem own_some {w : World} {B : Nat} {v : Value} {zs : List Int} {n : Nat} (h : w.ownsRow B 3 1 v n (i64s zs)) (hv : v ≠ .slice none 0 0) : ∃ g cap, v = .slice (some ⟨g, 0, none⟩) n cap := by
  rcases h.2 with ⟨e, _⟩ | ⟨g, cap, cur, e, _⟩
  · exact absurd e hv
  · exact ⟨g, cap, e⟩
theorem Ints.capZ {w : World} {B g n cap : Nat} {zs : List Int} (h : Ints w B (.slice (some ⟨g, 0, none⟩) n cap) zs) : n ≤ cap ∧ cap ≤ maxLen ∧ n = zs.length := by
  rcases h.2 with ⟨e, _⟩ | ⟨g', cap', cur, e, _, _, h3, h4, _⟩
  · cases e
  · injection e with _ e2 e3; subst e3; exact ⟨by omega, h4, by omega⟩
set_option maxRecDepth 100000 in
/-- 'append(s, x...)': s a row of the call's own that is some, x any that is some and is read -/
theorem step_catI {ops : Array Oper} {o : Oper} {a : Act} {w : World} {K : Act → World → Prop} {Q : Exit → Act → World → Prop} {E : Prop} (hgd : o.guard = none) (s x : Operand)
    (ho : o.op = .call { callee := .builtin .append, args := #[s, x], argTypes := #[22, 22] })
    (B g0 n0 cap : Nat) (zs : List Int) (hs : a.eval s = .slice (some ⟨g0, 0, none⟩) n0 cap) (hI : Ints w B (.slice (some ⟨g0, 0, none⟩) n0 cap) zs) (hn0 : n0 = zs.length) (u : Value) (ys : List Int) (hx : a.eval x = u) (hR : Rd w u ys) (hu : ∀ c, u ≠ .slice none 0 c)
    (hl : zs.length + ys.length ≤ 1000) (hbase : B ≤ w.heap.size) (n1 : Nat) (hn1 : zs.length + ys.length = n1) (rs : List Int) (hrs : zs ++ ys = rs)
    (h : ∀ g cap' w', Ints w' B (.slice (some ⟨g, 0, none⟩) n1 cap') rs → Below B w w' → w.grownBy w' (some g0) → K (a.put o.dst (.slice (some ⟨g, 0, none⟩) n1 cap')) w') :
    if Region.wanted o (yielded ops a.tmps) = true then Oper.wp Try.prog o a w K Q else E := by
  subst hrs hn0
  obtain ⟨i0, hi, hz0, hz1, hz2⟩ := info_parts Try.infoInt
  have hw : Region.wanted o (yielded ops a.tmps) = true := by simp [Region.wanted, hgd]
  rw [if_pos hw]
  obtain ⟨ad, m, c, rfl, hm, hc⟩ : ∃ ad m c, u = .slice (some ad) m c ∧ m = ys.length ∧ ∀ j, j < m → w.cell? (ad.add j) = some (.int .i64 (gt ys j)) := by
    rcases hR with ⟨⟨a', c, rfl⟩, rfl⟩ | ⟨b, off, cap, rfl, hb, hc, hm, hh⟩
    · cases a' with
      | none => exact absurd rfl (hu c)
      | some ad => exact ⟨ad, 0, c, rfl, rfl, fun j hj => absurd hj (Nat.not_lt_zero _)⟩
    · refine ⟨_, _, _, rfl, rfl, fun j hj => ?_⟩
      have e : (⟨b, off, none⟩ : Addr).add j = ⟨b, off + j, none⟩ := by (simp [Addr.add]; try omega)
      rw [e]; exact hh j hj
  obtain ⟨v', w', hr, h2, h3, h4, h5⟩ := run_append_own_at (P := Try.prog) w B 22 o.type 3 i0 (.int .i64 0) 1 8 Try.underlying22 hi hz0 hz1 hz2 rfl (by decide) (.slice (some ⟨g0, 0, none⟩) zs.length cap) zs.length (i64s zs) hI ad m c (i64s ys) (by rw [i64s_len]; omega)
    (fun j w hj => by
      have hjl : j < ys.length := by have := (List.getElem?_eq_some_iff.1 hj).1; rwa [i64s_len] at this
      rw [hc j (by omega), ← hj]
      simp [i64s, gt, hjl])
    (fun w hw => by obtain ⟨y, _, rfl⟩ := List.mem_map.1 hw; rfl) (by unfold maxLen; omega) (by omega) hbase
  have e1 : i64s zs ++ i64s ys = i64s (zs ++ ys) := by simp [i64s]
  rw [e1] at h2
  obtain ⟨g, cap', rfl⟩ := own_some h2 (fun e => by have := (h4.1 e).1; cases this)
  unfold Oper.wp execOp
  simp only [ho, resolve, invoke, builtin, Sem.run_bind, Sem.run_pure, Result.andThen_ok, List.map_toArray, List.map_cons, List.map_nil, hs, hx, hr]
  subst hm hn1
  exact h g cap' w' (by unfold Ints; rw [List.length_append]; exact h2) ((Below.refl B w).grown h3 hbase (fun b hb => (World.ownsRow.lt hI b hb).1)) h3
set_option maxRecDepth 100000 in
/-- 'append(s, z)' -/
theorem step_appZ {ops : Array Oper} {o : Oper} {a : Act} {w : World} {K : Act → World → Prop} {Q : Exit → Act → World → Prop} {E : Prop} (hgd : o.guard = none) (s x : Operand)
    (ho : o.op = .call { callee := .builtin .append, args := #[s, x], argTypes := #[22, 22] })
    (B : Nat) (v : Value) (zs : List Int) (hs : a.eval s = v) (hI : Ints w B v zs) (nb : Nat) (z : Int) (hx : a.eval x = .slice (some ⟨nb, 0, none⟩) 1 1) (hnb : w.cell? ⟨nb, 0, none⟩ = some (.int .i64 z))
    (hl : zs.length ≤ 1000) (hbase : B ≤ w.heap.size) (n1 : Nat) (hn1 : zs.length + 1 = n1) (ys : List Int) (hys : zs ++ [z] = ys)
    (h : ∀ g cap' w', Ints w' B (.slice (some ⟨g, 0, none⟩) n1 cap') ys → Below B w w' → w.grownBy w' v.ownBlock → K (a.put o.dst (.slice (some ⟨g, 0, none⟩) n1 cap')) w') :
    if Region.wanted o (yielded ops a.tmps) = true then Oper.wp Try.prog o a w K Q else E := by
  subst hn1 hys
  obtain ⟨i0, hi, hz0, hz1, hz2⟩ := info_parts Try.infoInt
  refine step_append_lies _ hgd s x 22 ho B 3 i0 (.int .i64 0) 1 8 Try.underlying22 hi hz0 hz1 hz2 rfl (by decide) v zs.length (i64s zs) hs hI ⟨nb, 0, none⟩ 1 1 [.int .i64 z] hx rfl
    (fun j u hj => by
      cases j with
      | zero => simp at hj; subst hj; exact hnb
      | succ j => simp at hj) (by intro u hu; simp at hu; subst hu; rfl) (by omega) (by unfold maxLen; omega) (by omega) hbase _ rfl ?_
  intro g cap' w' h2 h3 _ _
  rw [i64s_snoc] at h2
  exact h g cap' w' (by unfold Ints; rw [List.length_append]; exact h2) ((Below.refl B w).grown h3 hbase (fun b hb => (World.ownsRow.lt hI b hb).1)) h3
/-- 'append(s, x...)' in a plain walk, told with the place -/
theorem wpList_catZ {ops : Array Oper} {rest : List Oper} {o : Oper} {a : Act} {Q : Exit → Act → World → Prop} (w0 : World) (hgd : o.guard = none) (s x : Operand)
    (ho : o.op = .call { callee := .builtin .append, args := #[s, x], argTypes := #[22, 22] })
    (B g0 n0 cap : Nat) (zs : List Int) (hs : a.eval s = .slice (some ⟨g0, 0, none⟩) n0 cap) (hI : Ints w0 B (.slice (some ⟨g0, 0, none⟩) n0 cap) zs) (hn0 : n0 = zs.length) (u : Value) (ys : List Int) (hx : a.eval x = u) (hR : Rd w0 u ys) (hu : ∀ c, u = .slice none 0 c → c = 0)
    (hl : zs.length + ys.length < 16777216) (hB : B ≤ w0.heap.size)
    (h : ∀ g cap' w', Ints w' B (.slice (some ⟨g, 0, none⟩) (n0 + ys.length) cap') (zs ++ ys) → Below B w0 w' → w0.grownBy w' (some g0) → wpList Try.prog ops Q rest (a.put o.dst (.slice (some ⟨g, 0, none⟩) (n0 + ys.length) cap')) w') : wpList Try.prog ops Q (o :: rest) a w0 := by
  subst hn0
  obtain ⟨i0, hi, hz0, hz1, hz2⟩ := info_parts Try.infoInt
  have hlt : ∀ b, (Value.slice (some ⟨g0, 0, none⟩) zs.length cap).ownBlock = some b → B ≤ b := fun b hb => (World.ownsRow.lt hI b hb).1
  have key : ∀ (ad : Addr) (m c : Nat), u = .slice (some ad) m c → m = ys.length → (∀ j, j < m → w0.cell? (ad.add j) = some (.int .i64 (gt ys j))) → wpList Try.prog ops Q (o :: rest) a w0 := by
    intro ad m c hu hm hc
    refine wpList_append_own_at _ hgd s x 22 ho B 3 i0 (.int .i64 0) 1 8 Try.underlying22 hi hz0 hz1 hz2 rfl (by decide) _ zs.length (i64s zs) hs hI ad m c (i64s ys) (hx.trans hu) (by rw [i64s_len]; omega)
      (fun j w hj => by
        have hjl : j < ys.length := by have := (List.getElem?_eq_some_iff.1 hj).1; rwa [i64s_len] at this
        rw [hc j (by omega)]
        rw [← hj]
        simp [i64s, gt, hjl])
      (fun w hw => by obtain ⟨y, _, rfl⟩ := List.mem_map.1 hw; rfl) (by unfold maxLen; omega) (by omega) hB ?_
    intro v' w' h1 h2 h3 _
    have e : i64s zs ++ i64s ys = i64s (zs ++ ys) := by simp [i64s]
    rw [e, hm] at h1
    obtain ⟨g, cap', rfl⟩ := own_some h1 (fun e => by have := (h3.1 e).1; cases this)
    exact h g cap' w' (by unfold Ints; rw [List.length_append]; exact h1) ((Below.refl _ _).grown h2 hB hlt) h2
  rcases hR with ⟨⟨a', c, rfl⟩, rfl⟩ | ⟨b, off, cap', rfl, hb, hc, hm, hh⟩
  · cases a' with
    | some ad => exact key ad 0 c rfl rfl fun j hj => absurd hj (Nat.not_lt_zero _)
    | none =>
      obtain rfl := hu c rfl
      refine wpList_append_own_none hgd s x 22 ho B 3 i0 1 Try.underlying22 hi _ zs.length (i64s zs) hs hI hx ?_
      exact h g0 cap w0 (by rw [List.append_nil]; exact hI) (Below.refl _ _) (World.grownBy.refl _ _)
  · exact key ⟨b, off, none⟩ ys.length cap' rfl rfl fun j hj => by
      have e : (⟨b, off, none⟩ : Addr).add j = ⟨b, off + j, none⟩ := by (simp [Addr.add]; try omega)
      rw [e]; exact hh j hj
set_option maxHeartbeats 1000000 in
theorem l1OwnZ (v : Value) (zs : List Int) (w : World) (h : Rd w v zs) (hu : ∀ c, v = .slice none 0 c → c = 0) (hn : zs.length ≤ 1048576) :
    Calls Try.prog 34 #[v] w fun e w' => ∃ g c, e = .returned (.slice (some ⟨g, 0, none⟩) zs.length c) ∧ Ints w' w.heap.size (.slice (some ⟨g, 0, none⟩) zs.length c) zs ∧ Below w.heap.size w w' := by
  have hbA : Below w.heap.size w (w.alloc (.cells #[] 3)) := (Below.refl _ _).alloc (Nat.le_refl _) _
  have HR := Lib.hid (h.below hbA)
  have HB := Lib.hid hbA
  clear h hbA
  go_enter Try.func34, Try.ntmps34
  go_wp2_with (at_builtin; refine wpList_catZ (w.alloc (.cells #[] 3)) rfl _ _ rfl w.heap.size w.heap.size 0 0 [] rfl (Ints.empty w _ (Nat.le_refl _)) rfl v zs rfl HR.out hu (by simp; omega) (by simp) ?_; intro g cap v' hI hb hg)
  go_ret
  simp only [List.nil_append, Nat.zero_add] at hI ⊢
  exact ⟨_, _, rfl, hI, HB.out.trans hb⟩
theorem l1OwnN (v : Value) (zs : List Int) (k : Nat) (hk : zs.length = k) (w0 w : World) (h0 : Below w0.heap.size w0 w) (h : Rd w0 v zs) (hu : ∀ c, v = .slice none 0 c → c = 0) (hn : k ≤ 1000) :
    Calls Try.prog 34 #[v] w fun e w' => ∃ g c, e = .returned (.slice (some ⟨g, 0, none⟩) k c) ∧ Ints w' w0.heap.size (.slice (some ⟨g, 0, none⟩) k c) zs ∧ Below w0.heap.size w0 w' ∧ w0.heap.size ≤ w'.heap.size := by
  subst hk
  refine (l1OwnZ v zs w (h.below h0) hu (by omega)).mono ?_
  rintro e w' ⟨g, c, rfl, hI, hb⟩
  exact ⟨g, c, rfl, ints_mono' hI h0.size, h0.trans (hb.mono h0.size), Nat.le_trans h0.size hb.size⟩
end Go.Proofs.Ythdmmliipmmfbab
