/- What impl.FirstRound stands on: slices.Clone and slices.Delete at []int, append that tells where the longer list lies. -/
import Derived.Test.YtihdhgkknfohaadIrq
import Derived.Test.YtihdhgkknfohaadIw
import Derived.Test.YtihdhgkknfohaadIfi
import Derived.Test.YtihdhgkknfohaadIwb
namespace Go.Proofs.Ytihdhgkknfohaad
set_option linter.unusedVariables false
open Go.RowKit

set_option maxRecDepth 100000 in
theorem cloneI (g n c : Nat) (zs : List Int) (w : World) (h : Rd w (.slice (some ⟨g, 0, none⟩) n c) zs) (hn : zs.length ≤ 1048576) :
    Calls Try.prog 22 #[.slice (some ⟨g, 0, none⟩) n c] w fun e w' => ∃ u, e = .returned u ∧ Ints w' w.heap.size u zs ∧ Below w.heap.size w w' := by
  have hbA : Below w.heap.size w (w.alloc (.cells #[] 3)) := (Below.refl _ _).alloc (Nat.le_refl _) _
  have HR := Lib.hid (h.below hbA)
  have HB := Lib.hid hbA
  have E := Lib.run_eql_slice_nil (P := Try.prog) w
  clear h hbA
  go_enter Try.func22, Try.ntmps22
  go_wp2_with (at_builtin; refine wpList_cat (w.alloc (.cells #[] 3)) rfl _ _ rfl w.heap.size _ [] rfl (Ints.empty w _ (Nat.le_refl _)) _ zs rfl HR.out (by intro c e; cases e) (by simp; omega) (by simp) ?_; intro v' w2 hI hb hg)
  go_ret
  exact ⟨_, rfl, hI, HB.out.trans hb⟩

theorem delI (g n c i : Nat) (y z : Int) (l : List Int) (B : Nat) (w : World) (h : Ints w B (.slice (some ⟨g, 0, none⟩) n c) l) (hn : n = l.length) (hl : l.length ≤ 1000000) (hi : i < n) (hy : y = (i : Int)) (hz : z = ((i + 1 : Nat) : Int)) (hB : B ≤ w.heap.size) :
    Calls Try.prog 21 #[.slice (some ⟨g, 0, none⟩) n c, .int .i64 y, .int .i64 z] w fun e w' => e = .returned (.slice (some ⟨g, 0, none⟩) (n - 1) c) ∧ Ints w' B (.slice (some ⟨g, 0, none⟩) (n - 1) c) (l.take i ++ l.drop (i + 1)) ∧ w.grownBy w' (some g) := by
  subst hy hz
  have hcm : n ≤ c ∧ c ≤ maxLen := by
    rcases h.2 with ⟨e, _⟩ | ⟨g', cap', cur, e, _, _, h3, h4, _⟩
    · cases e
    · injection e with _ _ e3; subst e3; exact ⟨by omega, h4⟩
  have hfz : ∀ j, w.frozen? ⟨g, j, none⟩ = false := fun j => Ints.frz h hn j
  have hc : ∀ j, j < n → w.cell? ⟨g, j, none⟩ = some (.int .i64 (gt l j)) := fun j hj => Ints.cell h hn j hj
  have hH : Go.Sort.Holds (Value.int .i64) w g 0 l.toArray := by
    intro j hj
    have hj' : j < l.length := by simpa using hj
    rw [Nat.zero_add]
    refine ⟨?_, hfz j⟩
    rw [hc j (by omega)]
    simp [gt, hj']
  have C := Try.slices_Delete_int g 0 c i (i + 1) l w hH (by omega) (by have := hcm.2; unfold maxLen at this; omega) (by omega) (by omega)
  rw [← hn, show i + 1 - i = 1 from by omega] at C
  refine C.mono ?_
  rintro e w' ⟨rfl, q, rfl⟩
  have hlen : (l.take i ++ l.drop (i + 1) ++ List.replicate 1 0).length = l.length := by simp; omega
  have S := sorted_ints h hn (l.take i ++ l.drop (i + 1) ++ List.replicate 1 0) hlen q #[]
  have D : w.grownBy (Go.Sort.putRow (Value.int .i64) (Go.Sort.ahead w q) g 0 (l.take i ++ l.drop (i + 1) ++ List.replicate 1 0).toArray) (some g) := by
    refine ⟨rfl, rfl, rfl, ?_, fun k hk hne => ?_⟩
    · simp [Go.Sort.putRow, Go.Sort.mapBlock, Go.Sort.ahead]
    · simp only [Go.Sort.putRow, Go.Sort.mapBlock, Go.Sort.ahead]
      rw [Array.getElem?_modify, if_neg (fun e => hne (by rw [e]))]
  rw [Go.Sort.grow_empty] at S
  obtain ⟨n', hn'⟩ : ∃ n', n = n' + 1 := ⟨n - 1, by omega⟩
  subst hn'
  exact ⟨rfl, Ints.pre S (by simp; omega), D⟩
set_option maxRecDepth 100000 in
/-- as step_appI; tells where the longer list lies -/
theorem step_appG {ops : Array Oper} {o : Oper} {a : Act} {w : World} {K : Act → World → Prop} {Q : Exit → Act → World → Prop} {E : Prop} (hgd : o.guard = none) (s x : Operand)
    (ho : o.op = .call { callee := .builtin .append, args := #[s, x], argTypes := #[26, 26] })
    (B : Nat) (v : Value) (zs : List Int) (hs : a.eval s = v) (hI : Ints w B v zs) (nb : Nat) (z : Int) (hx : a.eval x = .slice (some ⟨nb, 0, none⟩) 1 1) (hnb : w.cell? ⟨nb, 0, none⟩ = some (.int .i64 z))
    (hl : zs.length ≤ 1000) (hbase : B ≤ w.heap.size) (n1 : Nat) (hn1 : zs.length + 1 = n1) (ys : List Int) (hys : zs ++ [z] = ys)
    (h : ∀ g cap' w', Ints w' B (.slice (some ⟨g, 0, none⟩) n1 cap') ys → Below B w w' → w.grownBy w' v.ownBlock → (v.ownBlock = some g ∨ g = w.heap.size) → K (a.put o.dst (.slice (some ⟨g, 0, none⟩) n1 cap')) w') :
    if Region.wanted o (yielded ops a.tmps) = true then Oper.wp Try.prog o a w K Q else E := by
  subst hn1 hys
  obtain ⟨i0, hi, hz0, hz1, hz2⟩ := info_parts Try.infoInt
  refine step_append_lies _ hgd s x 26 ho B 3 i0 (.int .i64 0) 1 8 Try.underlying26 hi hz0 hz1 hz2 rfl (by decide) v zs.length (i64s zs) hs hI ⟨nb, 0, none⟩ 1 1 [.int .i64 z] hx rfl
    (fun j u hj => by
      cases j with
      | zero => simp at hj; subst hj; exact hnb
      | succ j => simp at hj) (by intro u hu; simp at hu; subst hu; rfl) (by omega) (by unfold maxLen; omega) (by omega) hbase _ rfl ?_
  intro g cap' w' h2 h3 h4 _
  rw [i64s_snoc] at h2
  refine h g cap' w' (by unfold Ints; rw [List.length_append]; exact h2) ((Below.refl B w).grown h3 hbase (fun b hb => (World.ownsRow.lt hI b hb).1)) h3 h4
theorem wo_mid {A B : List Nat} {x : Nat} (hn : (A ++ x :: B).Nodup) : wo (A ++ x :: B) x = A ++ B := by
  rw [List.nodup_append] at hn
  obtain ⟨h1, h2, h3⟩ := hn
  have e1 : wo A x = A := wo_out fun h => h3 _ h x (List.mem_cons_self ..) rfl
  have e2 : wo B x = B := wo_out (List.nodup_cons.1 h2).1
  unfold wo at *
  rw [List.filter_append, e1, List.filter_cons]
  simp only [bne_self_eq_false, Bool.false_eq_true, if_false]
  rw [e2]
theorem wo_at {l : List Nat} (hn : l.Nodup) {i : Nat} (hi : i < l.length) : idx (l.take i) ++ idx (l.drop (i + 1)) = idx (wo l (l.getD i 0)) := by
  have e : l.getD i 0 = l[i] := by simp [hi]
  have hs : l.take i ++ l[i] :: l.drop (i + 1) = l := by rw [← List.drop_eq_getElem_cons hi, List.take_append_drop]
  rw [e]
  obtain ⟨x, hx⟩ : ∃ x, x = l[i] := ⟨_, rfl⟩
  rw [← hx] at hs ⊢
  have h2 : (l.take i ++ x :: l.drop (i + 1)).Nodup := by rw [hs]; exact hn
  have h3 := wo_mid h2
  rw [hs] at h3
  rw [h3]; simp [idx]
theorem idx_take (l : List Nat) (i : Nat) : (idx l).take i = idx (l.take i) := by simp [idx, List.map_take]
theorem idx_drop (l : List Nat) (i : Nat) : (idx l).drop i = idx (l.drop i) := by simp [idx, List.map_drop]
theorem find_at {l : List Nat} {p : Nat → Bool} {i : Nat} (hi : i < l.length) (h : ∀ q, q < i → p (l.getD q 0) = false) (hp : p (l.getD i 0) = true) : l.find? p = some (l.getD i 0) := by
  induction l generalizing i with
  | nil => simp at hi
  | cons x l ih =>
    rw [List.find?_cons]
    cases i with
    | zero =>
      have : p x = true := by simpa using hp
      rw [this]; simp
    | succ i =>
      have h0 : p x = false := by simpa using h 0 (by omega)
      rw [h0]
      have := ih (i := i) (by simpa using hi) (fun q hq => by simpa using h (q + 1) (by omega)) (by simpa using hp)
      simpa using this
theorem find_no {l : List Nat} {p : Nat → Bool} (h : ∀ q, q < l.length → p (l.getD q 0) = false) : l.find? p = none := by
  rw [List.find?_eq_none]
  intro x hx
  obtain ⟨q, hq, rfl⟩ := List.getElem_of_mem hx
  have := h q hq
  simp [hq] at this
  simp [this]
end Go.Proofs.Ytihdhgkknfohaad
