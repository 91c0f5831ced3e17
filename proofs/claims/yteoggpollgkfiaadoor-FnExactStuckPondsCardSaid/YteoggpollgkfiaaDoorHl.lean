/- laws.heldStringS; append(s, x...) at strings; sorted strings, plain. -/
import Derived.Test.YteoggpollgkfiaaDoorMt
import Derived.Test.YteoggpollgkfiaaDoorLr
import Derived.Sort.Walk0
namespace Go.Proofs.YteoggpollgkfiaaDoor
set_option linter.unusedVariables false
open Go.RowKit

set_option maxRecDepth 20000 in
set_option maxHeartbeats 4000000 in
theorem heldStrS (v : Value) (n : Nat) (w : World) (k : Nat) (h : RdS w v (mks k n)) (hn : n ≤ 16777216) (h0 : 1 ≤ k) (h1 : k ≤ 100000000) :
    Calls Tryd.prog 23 #[v, .int .i64 (k : Int)] w fun e w' => e = .returned (.int .i64 ((k + n : Nat) : Int)) ∧ Below w.heap.size w w' := by
  rcases h with ⟨⟨a, c, rfl⟩, hz⟩ | ⟨b, off, cap, hv, hb, hc, hm, hh⟩
  · have hz0 : n = 0 := by have := congrArg List.length hz; simpa [mks] using this
    subst hz0
    clear hz
    go_enter Tryd.func23, Tryd.ntmps23
    go_wp2
    go_loopw [1, 5] (fun q i wr => i = .int .i64 0 ∧ q = .int .i64 (k : Int) ∧ wr = w) (fun _ _ _ => 0)
    case atStart => exact ⟨rfl, rfl, rfl⟩
    case round =>
      obtain ⟨rfl, rfl, rfl⟩ := hrel
      go_wp2
      go_ret
      exact ⟨by simp, Below.refl _ _⟩
  · rw [mks_len] at hv hh hc
    subst hv
    have hh' : ∀ j, j < n → w.cell? ⟨b, off + j, none⟩ = some (.string (mk (k + j))) := fun j hj => by rw [hh j hj, mks_at hj]
    have HH := Lib.hid hh'
    clear hh hh' hc hm
    go_enter Tryd.func23, Tryd.ntmps23
    go_wp2
    go_loopw [1, 5] (fun q i wr => ∃ j : Nat, j ≤ n ∧ i = .int .i64 j ∧ q = .int .i64 ((k : Int) + j) ∧ Hid (Below w.heap.size w wr)) (fun _ i _ => n - (intOf i).toNat)
    case atStart => exact ⟨0, Nat.zero_le _, rfl, by simp, Lib.hid (Below.refl _ _)⟩
    case round =>
      obtain ⟨j, hj, rfl, rfl, hB⟩ := hrel
      have hle := hB.out.size
      by_cases hlt : j < n
      · have g1 : wr.cell? ⟨b, off + j, none⟩ = some (.string (mk (k + j))) := (hB.out.cell (p := ⟨b, off + j, none⟩) hb).trans (HH.out j hlt)
        have HB2 := Lib.hid (Nat.lt_of_lt_of_le hb hle)
        have hlt' : (j : Int) < n := by omega
        have hfit : (k : Int) + j = ((k + j : Nat) : Int) := by omega
        have HF := Lib.hid (fun W => (show Calls Tryd.prog 42 #[.int .i64 ((k : Int) + j)] W fun e w' => e = .returned (.string (mk (k + j))) ∧ Below W.heap.size W w' by rw [hfit]; exact markText (k + j) W (by omega) (by omega)))
        clear hfit
        generalize mk (k + j) = m at *
        go_wp2
        go_region_with (go_at_call 42; refine (HF.out _).mono ?_; rintro e w1 ⟨rfl, hb1⟩; try (have g2 := (hb1.cell (p := ⟨b, off + j, none⟩) HB2.out).trans g1))
        all_goals
          have B2 := Lib.hid (hB.out.trans ((Below.refl wr.heap.size wr).drew.trans hb1 |>.mono hle))
          clear hb1
          go_wp2
          go_roundw
          case rel => exact ⟨j + 1, by omega, by go_num, by go_num, B2⟩
          case measure => simp [intOf]; omega
      · obtain rfl : j = n := by omega
        go_wp2
        go_ret
        exact ⟨rfl, hB.out⟩

/-- 'append(s, x...)' -/
theorem wpList_catS {ops : Array Oper} {rest : List Oper} {o : Oper} {a : Act} {Q : Exit → Act → World → Prop} (w0 : World) (hgd : o.guard = none) (s x : Operand)
    (ho : o.op = .call { callee := .builtin .append, args := #[s, x], argTypes := #[32, 32] })
    (B : Nat) (v : Value) (zs : List ByteArray) (hs : a.eval s = v) (hI : Strg w0 B v zs) (u : Value) (ys : List ByteArray) (hx : a.eval x = u) (hR : RdS w0 u ys) (hu : ∀ c, u = .slice none 0 c → c = 0) (hl : zs.length + ys.length < 16777216) (hB : B ≤ w0.heap.size)
    (h : ∀ v' w', Strg w' B v' (zs ++ ys) → Below B w0 w' → w0.grownBy w' v.ownBlock → wpList Tryd.prog ops Q rest (a.put o.dst v') w') : wpList Tryd.prog ops Q (o :: rest) a w0 := by
  obtain ⟨i0, hi, hz0, hz1, hz2⟩ := info_parts Tryd.infoStr
  have hlt : ∀ b, v.ownBlock = some b → B ≤ b := fun b hb => (World.ownsRow.lt hI b hb).1
  have key : ∀ (ad : Addr) (m c : Nat), u = .slice (some ad) m c → m = ys.length → (∀ j, j < m → w0.cell? (ad.add j) = some (.string (gs ys j))) → wpList Tryd.prog ops Q (o :: rest) a w0 := by
    intro ad m c hu hm hc
    refine wpList_append_own _ hgd s x 32 ho B 9 i0 (.string ⟨#[]⟩) 1 16 Tryd.underlying32 hi hz0 hz1 hz2 rfl (by decide) v zs.length (strs zs) hs hI ad m c (strs ys) (hx.trans hu) (by rw [strs_len]; omega)
      (fun j w hj => by
        have hjl : j < ys.length := by have := (List.getElem?_eq_some_iff.1 hj).1; rwa [strs_len] at this
        rw [hc j (by omega)]
        rw [← hj]
        simp [strs, gs, hjl])
      (fun w hw => by obtain ⟨y, _, rfl⟩ := List.mem_map.1 hw; rfl) (by unfold maxLen; omega) (by omega) hB ?_
    intro v' w' h1 h2 _
    refine h v' w' ?_ ((Below.refl _ _).grown h2 hB hlt) h2
    unfold Strg
    have e : strs zs ++ strs ys = strs (zs ++ ys) := by simp [strs]
    rw [e, hm] at h1
    rw [List.length_append]
    exact h1
  rcases hR with ⟨⟨a', c, rfl⟩, rfl⟩ | ⟨b, off, cap, rfl, hb, hc, hm, hh⟩
  · cases a' with
    | some ad => exact key ad 0 c rfl rfl fun j hj => absurd hj (Nat.not_lt_zero _)
    | none =>
      obtain rfl := hu c rfl
      refine wpList_append_own_none hgd s x 32 ho B 9 i0 1 Tryd.underlying32 hi _ zs.length (strs zs) hs hI hx ?_
      refine h _ _ ?_ (Below.refl _ _) (World.grownBy.refl _ _)
      rw [List.append_nil]
      exact hI
  · exact key ⟨b, off, none⟩ ys.length cap rfl rfl fun j hj => by
      have e : (⟨b, off, none⟩ : Addr).add j = ⟨b, off + j, none⟩ := by (simp [Addr.add]; try omega)
      rw [e]; exact hh j hj
theorem Strg.empty (w : World) (B : Nat) (hB : B ≤ w.heap.size) : Strg (w.alloc (.cells #[] 9)) B (.slice (some ⟨w.heap.size, 0, none⟩) 0 0) [] :=
  World.ownsRow_lit (base := B) (e := 9) (size := 1) w #[] 0 hB (Nat.zero_le _) rfl

/-- which of two texts comes first -/
def ltB (x y : ByteArray) : Bool := Op.bytesLess x.toList y.toList
theorem ltB_eq (x y : ByteArray) : ltB x y = decide (x.data.toList < y.data.toList) := by
  unfold ltB; rw [ByteArray.toList_eq, ByteArray.toList_eq, bytesLess_eq]
/-- a text put into a list at its place -/
def ins : List ByteArray → ByteArray → List ByteArray
  | [], p => [p]
  | q :: r, p => if ltB q p then q :: ins r p else p :: q :: r
theorem ins_at (p : ByteArray) : ∀ (l : List ByteArray) (k : Nat), k ≤ l.length → (∀ j, j < k → ltB (gs l j) p = true) → (k < l.length → ltB (gs l k) p = false) → l.take k ++ p :: l.drop k = ins l p
  | [], k, hk, _, _ => by
    obtain rfl : k = 0 := by simpa using hk
    rfl
  | q :: r, 0, _, _, h2 => by
    have := h2 (by simp)
    have e : ltB q p = false := this
    simp [ins, e]
  | q :: r, k + 1, hk, h1, h2 => by
    have e : ltB q p = true := h1 0 (by omega)
    have := ins_at p r k (by simpa using hk) (fun j hj => by have := h1 (j + 1) (by omega); simpa [gs] using this) (fun hk2 => by have := h2 (by simpa using hk2); simpa [gs] using this)
    simp only [ins, e, if_true, List.take_succ_cons, List.drop_succ_cons, List.cons_append, this]
theorem ins_perm (p : ByteArray) : ∀ l : List ByteArray, (ins l p).Perm (p :: l)
  | [] => List.Perm.refl _
  | q :: r => by
    unfold ins
    split
    · exact ((ins_perm p r).cons q).trans (List.Perm.swap p q r)
    · exact List.Perm.refl _
def asc2 (x y : ByteArray) : Prop := x.data.toList ≤ y.data.toList
theorem ins_asc (p : ByteArray) : ∀ {l : List ByteArray}, l.Pairwise asc2 → (ins l p).Pairwise asc2
  | [], _ => by simp [ins]
  | q :: r, h => by
    have ih := ins_asc p (List.pairwise_cons.1 h).2
    have hq := (List.pairwise_cons.1 h).1
    unfold ins
    split
    · rename_i hlt
      rw [ltB_eq, decide_eq_true_eq] at hlt
      refine List.pairwise_cons.2 ⟨fun x hx => ?_, ih⟩
      rcases List.mem_cons.1 ((ins_perm p r).mem_iff.1 hx) with rfl | hx
      · exact List.le_of_lt hlt
      · exact hq x hx
    · rename_i hlt
      rw [ltB_eq, decide_eq_true_eq] at hlt
      have hpq : asc2 p q := List.not_lt.1 hlt
      refine List.pairwise_cons.2 ⟨fun x hx => ?_, h⟩
      rcases List.mem_cons.1 hx with rfl | hx
      · exact hpq
      · exact List.le_trans hpq (hq x hx)
/-- what is stuck among the first j, in the order in which it is found -/
def stkTo (L : List ByteArray) (j : Nat) : List ByteArray := (L.take j).filter stk
/-- .. and in the order of texts -/
def srt (l : List ByteArray) : List ByteArray := l.foldl ins []
theorem stkTo_yes {L : List ByteArray} {j : Nat} (hj : j < L.length) (h : stk (gs L j) = true) : stkTo L (j + 1) = stkTo L j ++ [gs L j] := by
  have e : gs L j = L[j] := by simp [gs, hj]
  unfold stkTo
  rw [List.take_succ_eq_append_getElem hj, List.filter_append, ← e]
  simp [h]
theorem stkTo_no {L : List ByteArray} {j : Nat} (hj : j < L.length) (h : stk (gs L j) = false) : stkTo L (j + 1) = stkTo L j := by
  have e : gs L j = L[j] := by simp [gs, hj]
  unfold stkTo
  rw [List.take_succ_eq_append_getElem hj, List.filter_append, ← e]
  simp [h]
theorem stkTo_len (L : List ByteArray) (j : Nat) : (stkTo L j).length ≤ L.length := by
  unfold stkTo
  exact Nat.le_trans (List.length_filter_le _ _) (by simp; omega)
theorem srt_snoc (l : List ByteArray) (p : ByteArray) : srt (l ++ [p]) = ins (srt l) p := by simp [srt]
theorem srt_facts : ∀ l acc : List ByteArray, acc.Pairwise asc2 → (l.foldl ins acc).Pairwise asc2 ∧ (l.foldl ins acc).Perm (acc ++ l)
  | [], acc, h => ⟨h, by simp⟩
  | p :: l, acc, h => by
    have := srt_facts l (ins acc p) (ins_asc p h)
    refine ⟨this.1, this.2.trans ?_⟩
    exact ((ins_perm p acc).append_right l).trans (List.perm_middle.symm)
theorem srt_asc (l : List ByteArray) : (srt l).Pairwise asc2 := (srt_facts l [] List.Pairwise.nil).1
theorem srt_perm (l : List ByteArray) : (srt l).Perm l := (srt_facts l [] List.Pairwise.nil).2
theorem srt_len (l : List ByteArray) : (srt l).length = l.length := (srt_perm l).length_eq
/-- the library's sort gives the same -/
theorem srt_sort (l : List ByteArray) : (l.map (·.data.toList)).mergeSort (fun x y => decide (x ≤ y)) = (srt l).map (·.data.toList) := by
  refine List.Perm.eq_of_pairwise (le := fun x y : List UInt8 => x ≤ y) (fun a b _ _ h1 h2 => List.le_antisymm h1 h2) ?_ ?_ ?_
  · have := List.pairwise_mergeSort (le := fun x y : List UInt8 => decide (x ≤ y)) (fun a b c h1 h2 => by simp only [decide_eq_true_eq] at *; exact List.le_trans h1 h2) (fun a b => by simp only [Bool.or_eq_true, decide_eq_true_eq]; exact List.le_total a b) (l.map (·.data.toList))
    exact this.imp fun h => by simpa using h
  · rw [List.pairwise_map]
    exact srt_asc l
  · exact (List.mergeSort_perm _ _).trans ((srt_perm l).map _).symm
end Go.Proofs.YteoggpollgkfiaaDoor
