/- append(s, x...) at slices of ints: s the call's own, x any that is read; spec.l1Own. -/
import Derived.Test.YthdmmliipmmfbabSl
import Derived.Laws.AppendOwnNone
namespace Go.Proofs.Ythdmmliipmmfbab
set_option linter.unusedVariables false
open Go.RowKit

/-- 'append(s, x...)' -/
theorem wpList_cat {ops : Array Oper} {rest : List Oper} {o : Oper} {a : Act} {Q : Exit → Act → World → Prop} (w0 : World) (hgd : o.guard = none) (s x : Operand)
    (ho : o.op = .call { callee := .builtin .append, args := #[s, x], argTypes := #[22, 22] })
    (B : Nat) (v : Value) (zs : List Int) (hs : a.eval s = v) (hI : Ints w0 B v zs) (u : Value) (ys : List Int) (hx : a.eval x = u) (hR : Rd w0 u ys) (hu : ∀ c, u = .slice none 0 c → c = 0) (hl : zs.length + ys.length < 16777216) (hB : B ≤ w0.heap.size)
    (h : ∀ v' w', Ints w' B v' (zs ++ ys) → Below B w0 w' → w0.grownBy w' v.ownBlock → wpList Try.prog ops Q rest (a.put o.dst v') w') : wpList Try.prog ops Q (o :: rest) a w0 := by
  obtain ⟨i0, hi, hz0, hz1, hz2⟩ := info_parts Try.infoInt
  have hlt : ∀ b, v.ownBlock = some b → B ≤ b := fun b hb => (World.ownsRow.lt hI b hb).1
  have key : ∀ (ad : Addr) (m c : Nat), u = .slice (some ad) m c → m = ys.length → (∀ j, j < m → w0.cell? (ad.add j) = some (.int .i64 (gt ys j))) → wpList Try.prog ops Q (o :: rest) a w0 := by
    intro ad m c hu hm hc
    refine wpList_append_own _ hgd s x 22 ho B 3 i0 (.int .i64 0) 1 8 Try.underlying22 hi hz0 hz1 hz2 rfl (by decide) v zs.length (i64s zs) hs hI ad m c (i64s ys) (hx.trans hu) (by rw [i64s_len]; omega)
      (fun j w hj => by
        have hjl : j < ys.length := by have := (List.getElem?_eq_some_iff.1 hj).1; rwa [i64s_len] at this
        rw [hc j (by omega)]
        rw [← hj]
        simp [i64s, gt, hjl])
      (fun w hw => by obtain ⟨y, _, rfl⟩ := List.mem_map.1 hw; rfl) (by unfold maxLen; omega) (by omega) hB ?_
    intro v' w' h1 h2 _
    refine h v' w' ?_ ((Below.refl _ _).grown h2 hB hlt) h2
    unfold Ints
    have e : i64s zs ++ i64s ys = i64s (zs ++ ys) := by simp [i64s]
    rw [e, hm] at h1
    rw [List.length_append]
    exact h1
  rcases hR with ⟨⟨a', c, rfl⟩, rfl⟩ | ⟨b, off, cap, rfl, hb, hc, hm, hh⟩
  · cases a' with
    | some ad => exact key ad 0 c rfl rfl fun j hj => absurd hj (Nat.not_lt_zero _)
    | none =>
      obtain rfl := hu c rfl
      refine wpList_append_own_none hgd s x 22 ho B 3 i0 1 Try.underlying22 hi _ zs.length (i64s zs) hs hI hx ?_
      refine h _ _ ?_ (Below.refl _ _) (World.grownBy.refl _ _)
      rw [List.append_nil]
      exact hI
  · exact key ⟨b, off, none⟩ ys.length cap rfl rfl fun j hj => by
      have e : (⟨b, off, none⟩ : Addr).add j = ⟨b, off + j, none⟩ := by (simp [Addr.add]; try omega)
      rw [e]; exact hh j hj
theorem Ints.empty (w : World) (B : Nat) (hB : B ≤ w.heap.size) : Ints (w.alloc (.cells #[] 3)) B (.slice (some ⟨w.heap.size, 0, none⟩) 0 0) [] :=
  World.ownsRow_lit (base := B) (e := 3) (size := 1) w #[] 0 hB (Nat.zero_le _) rfl
set_option maxHeartbeats 1000000 in
theorem l1Own (v : Value) (zs : List Int) (w : World) (h : Rd w v zs) (hu : ∀ c, v = .slice none 0 c → c = 0) (hn : zs.length ≤ 1048576) :
    Calls Try.prog 34 #[v] w fun e w' => ∃ u, e = .returned u ∧ Ints w' w.heap.size u zs ∧ Below w.heap.size w w' := by
  have hbA : Below w.heap.size w (w.alloc (.cells #[] 3)) := (Below.refl _ _).alloc (Nat.le_refl _) _
  have HR := Lib.hid (h.below hbA)
  have HB := Lib.hid hbA
  clear h hbA
  go_enter Try.func34, Try.ntmps34
  go_wp2_with (at_builtin; refine wpList_cat (w.alloc (.cells #[] 3)) rfl _ _ rfl w.heap.size _ [] rfl (Ints.empty w _ (Nat.le_refl _)) v zs rfl HR.out hu (by simp; omega) (by simp) ?_; intro v' w2 hI hb hg)
  go_ret
  exact ⟨_, rfl, hI, HB.out.trans hb⟩
/-- the part behind a place, and the part ahead of it -/
theorem Ints.drop {w : World} {B g n cap : Nat} {zs : List Int} (h : Ints w B (.slice (some ⟨g, 0, none⟩) n cap) zs) (hn : n = zs.length) (hc : n ≤ cap) (hm : cap ≤ maxLen) (k : Nat) (hk : k ≤ n) :
    Rd w (.slice (some ⟨g, k, none⟩) (n - k) (cap - k)) (zs.drop k) := by
  have := Rd.part h hn hc hm k (n - k) (cap - k) (by omega) (by omega) (by omega)
  rwa [List.take_of_length_le (by simp; omega)] at this
theorem Ints.take {w : World} {B g n cap : Nat} {zs : List Int} (h : Ints w B (.slice (some ⟨g, 0, none⟩) n cap) zs) (hn : n = zs.length) (hc : n ≤ cap) (hm : cap ≤ maxLen) (k : Nat) (hk : k ≤ n) :
    Rd w (.slice (some ⟨g, 0, none⟩) k cap) (zs.take k) := by
  have := Rd.part h hn hc hm 0 k cap (by omega) (by omega) hm
  rwa [List.drop_zero] at this
end Go.Proofs.Ythdmmliipmmfbab
