/- DropClue, AddClue: spec (written by gen_ke.py out of chapter 4's texts). -/
import Derived.Test.YtnmeomcoeknjoacKd
import Derived.Test.YtnmeomcoeknjoacKap
import Derived.StillTailTactics
namespace Go.Proofs.Ytnmeomcoeknjoac
set_option linter.unusedVariables false
set_option maxRecDepth 100000
open Go.RowKit

theorem isPz_in {n : Int} {cs : List Br} (h : isPz n cs = true) : ∃ m : Nat, n = m ∧ 1 ≤ m ∧ m ≤ 8 ∧ cs.length ≤ 6 ∧ ∀ c ∈ cs, isCl (m : Int) c = true := by
  obtain ⟨h1, h2, h3, h4⟩ := isPz_iff.1 h
  obtain ⟨m, rfl⟩ : ∃ m : Nat, n = m := ⟨n.toNat, by omega⟩
  exact ⟨m, rfl, by omega, by omega, h3, h4⟩
theorem pzGood_ (n : Int) (v : Value) (bs : List Br) (w : World) (h : RdB w v bs) (hl : bs.length ≤ 1048576) :
    Calls Try.prog 24 #[.agg #[.int .i64 n, v]] w fun e w' => e = .returned (.bool (isPz n bs)) ∧ Below w.heap.size w w' := pzGood n v bs w h
theorem specIsCl (n : Int) (hn : 1 ≤ n ∧ n ≤ 1000) (x y z : Int) (w : World) :
    Calls Try.prog 39 #[.int .i64 n, .agg #[.int .i64 x, .int .i64 y, .int .i64 z]] w fun e w' => e = .returned (.bool (isCl n (x, y, z))) ∧ Below w.heap.size w w' := pzClue n x y z w
theorem kp5 {W : World} {s s' : Nat} {p q x y z : Value} (h : Blk W s #[p, q]) (h2 : Blk W s' #[x, y, z]) : W.cell? ⟨s, 0, none⟩ = some p ∧ W.cell? ⟨s, 1, none⟩ = some q ∧ W.cell? ⟨s', 0, none⟩ = some x ∧ W.cell? ⟨s', 1, none⟩ = some y ∧ W.cell? ⟨s', 2, none⟩ = some z := ⟨h.cell 0, h.cell 1, h2.cell 0, h2.cell 1, h2.cell 2⟩
theorem lt_ne {v : Value} {B s : Nat} (h : ∀ k, v.ownBlock = some k → B ≤ k) (hs : s < B) : some s ≠ v.ownBlock := fun e => by have := h s e.symm; omega
theorem own_ge {w : World} {B B' : Nat} {v : Value} {bs : List Br} (h : Brs w B' v bs) (hB : B ≤ B') : ∀ k, v.ownBlock = some k → B ≤ k := fun k hk => Nat.le_trans hB (h.lt k hk).1
def addOK (n : Int) (bs : List Br) (b : Br) : Bool := isPz n bs && isCl n b && !decide (bs.length = 6)
def addN (n : Int) (bs : List Br) (b : Br) : Int := if addOK n bs b then n else 0
def addL (n : Int) (bs : List Br) (b : Br) : List Br := if addOK n bs b then bs ++ [b] else []
theorem addL_len (n : Int) (bs : List Br) (b : Br) : (addL n bs b).length ≤ 7 := by
  unfold addL
  split
  · rename_i h
    unfold addOK at h
    rw [Bool.and_eq_true, Bool.and_eq_true] at h
    have := (isPz_iff.1 h.1.1).2.2.1
    simp; omega
  · simp
theorem kp {w : World} {g : Nat} {x y : Value} (h : Blk w g #[x, y]) : w.cell? ⟨g, 0, none⟩ = some x ∧ w.cell? ⟨g, 1, none⟩ = some y := ⟨h.two.1, h.two.2.1⟩
def dropOK (n : Int) (bs : List Br) (k : Int) : Bool := isPz n bs && inB k 0 ((bs.length : Int) - 1)
def dropN (n : Int) (bs : List Br) (k : Int) : Int := if dropOK n bs k then n else 0
def dropL (n : Int) (bs : List Br) (k : Int) : List Br := if dropOK n bs k then bs.eraseIdx k.toNat else []
theorem dropL_len (n : Int) (bs : List Br) (k : Int) : (dropL n bs k).length ≤ 6 := by
  unfold dropL
  split
  · rename_i h
    unfold dropOK at h
    rw [Bool.and_eq_true] at h
    have := (isPz_iff.1 h.1).2.2.1
    have := List.length_eraseIdx_le bs k.toNat
    omega
  · simp
theorem rd_all {w : World} {b off l c : Nat} {bs : List Br} (h : RdB w (.slice (some ⟨b, off, none⟩) l c) bs) (hl : 0 < l) : b < w.heap.size ∧ ∀ j u, (bcs bs)[j]? = some u → w.cell? ⟨b, off + j, none⟩ = some u := by
  obtain ⟨a', n, c', e, hn, _, _, hcell⟩ := h
  injection e with e1 e2 e3
  subst e1 e2 e3
  have h0 := hcell 0 hl
  obtain ⟨b0, o0, e0, hb0, _⟩ := h0
  injection e0 with e0
  injection e0 with e0 e00
  subst e0 e00
  refine ⟨hb0, fun j u hj => ?_⟩
  have hjl : j < bs.length * 3 := by have := (List.getElem?_eq_some_iff.1 hj).1; rwa [bcs_len] at this
  have hd : j / 3 < l := by omega
  obtain ⟨b1, o1, e1, _, hA⟩ := hcell (j / 3) hd
  injection e1 with e1
  injection e1 with e1 e11
  subst e1 e11
  have hb := bcs_at bs (j / 3) (by omega)
  have h3 : j % 3 = 0 ∨ j % 3 = 1 ∨ j % 3 = 2 := by omega
  rcases h3 with h3 | h3 | h3
  · have ej : j = j / 3 * 3 := by omega
    have A := hA.1
    rw [← ej] at A
    have Bt := hb.1
    rw [← ej, hj] at Bt
    injection Bt with Bt
    rw [A, Bt]
  · have ej : j = j / 3 * 3 + 1 := by omega
    have A := hA.2.1
    have Bt := hb.2.1
    rw [Nat.add_assoc] at A
    rw [← ej] at A Bt
    rw [hj] at Bt
    injection Bt with Bt
    rw [A, Bt]
  · have ej : j = j / 3 * 3 + 2 := by omega
    have A := hA.2.2
    have Bt := hb.2.2
    rw [Nat.add_assoc] at A
    rw [← ej] at A Bt
    rw [hj] at Bt
    injection Bt with Bt
    rw [A, Bt]
theorem bcs_one {bs : List Br} : ∀ u ∈ bcs bs, u.oneCell' = true := by
  intro u hu
  simp only [bcs, List.mem_flatMap] at hu
  obtain ⟨y, _, hy⟩ := hu
  simp at hy
  rcases hy with rfl | rfl | rfl <;> rfl
/-- append of bridges at a row of the call's own, none or some, as a step of a region that draws -/
theorem step_appB {ops : Array Oper} {o : Oper} {a : Act} {w : World} {K : Act → World → Prop} {Q : Exit → Act → World → Prop} {E : Prop} (hgd : o.guard = none) (s x : Operand)
    (ho : o.op = .call { callee := .builtin .append, args := #[s, x], argTypes := #[29, 29] })
    (B g0 n cap : Nat) (xs : List Value) (hs : a.eval s = .slice (some ⟨g0, 0, none⟩) n cap) (hown : w.ownsRow B 60 3 (.slice (some ⟨g0, 0, none⟩) n cap) n xs)
    (ad : Addr) (m c : Nat) (news : List Value) (hx : a.eval x = .slice (some ad) m c) (hl : news.length = m * 3) (hnews : ∀ j u, news[j]? = some u → w.cell? (ad.add j) = some u) (h1 : ∀ u ∈ news, u.oneCell' = true)
    (h63 : n + m ≤ 1000) (hbase : B ≤ w.heap.size)
    (h : ∀ g cap' w', w'.ownsRow B 60 3 (.slice (some ⟨g, 0, none⟩) (n + m) cap') (n + m) (xs ++ news) → w.grownBy w' (some g0) → K (a.put o.dst (.slice (some ⟨g, 0, none⟩) (n + m) cap')) w') :
    if Region.wanted o (yielded ops a.tmps) = true then Oper.wp Try.prog o a w K Q else E := by
  obtain ⟨i0, hi, hz0, hz1, hz2⟩ := info_parts Try.infoBr
  rcases Nat.eq_zero_or_pos m with rfl | hm
  · obtain rfl : news = [] := List.length_eq_zero_iff.1 (by omega)
    have hroom : n + 0 ≤ cap := by
      rcases hown.2 with ⟨e1, _⟩ | ⟨g', cap', cur, e1, _, _, hnc, _⟩
      · cases e1
      · injection e1 with _ _ e2; subst e2; omega
    refine step_append_room hgd s x 29 ho 60 i0 3 Try.underlying29 hi hz1 g0 0 n cap hs ad 0 c [] hx rfl (by simp) (by simp) hroom (by simp) ?_
    exact h g0 cap w (by simpa using hown) (World.grownBy.refl _ _)
  · refine step_append_lies _ hgd s x 29 ho B 60 i0 (.agg #[.int .i64 0, .int .i64 0, .int .i64 0]) 3 24 Try.underlying29 hi hz0 hz1 hz2 rfl (by decide) _ n xs hs hown ad m c news hx hl hnews h1 hm (by unfold maxLen; omega) (by omega) hbase _ rfl ?_
    intro g cap' w' h2 h3 _ _
    exact h g cap' w' h2 h3
set_option maxRecDepth 100000 in
set_option maxHeartbeats 4000000 in
theorem pzWithout (v : Value) (bs : List Br) (k : Nat) (w : World) (h : RdB w v bs) (hk : k < bs.length) (hl : bs.length ≤ 6) :
    Calls Try.prog 26 #[v, .int .i64 k] w fun e w' => ∃ u, e = .returned u ∧ Brs w' w.heap.size u (bs.eraseIdx k) ∧ Below w.heap.size w w' := by
  obtain ⟨i0, hi, hz0, hz1, hz2⟩ := info_parts Try.infoBr
  obtain ⟨a, l, c, rfl, hnz, ⟨hlc, _⟩, hcm, hcell⟩ := id h
  rw [← hnz] at hk hl
  obtain ⟨b, off, rfl, hbw, _⟩ := hcell 0 (by omega)
  clear hcell
  have hall := (rd_all h (by omega)).2
  clear h
  unfold maxLen at hcm
  obtain ⟨n1, hn1⟩ : ∃ n1, n1 = bcs (bs.take k) := ⟨_, rfl⟩
  obtain ⟨n2, hn2⟩ : ∃ n2, n2 = bcs (bs.drop (k + 1)) := ⟨_, rfl⟩
  have l1 : n1.length = k * 3 := by rw [hn1, bcs_len, List.length_take]; congr 1; omega
  have l2 : n2.length = (l - (k + 1)) * 3 := by rw [hn2, bcs_len, List.length_drop, ← hnz]
  have hb1 : ∀ j u, n1[j]? = some u → w.cell? ⟨b, off + j, none⟩ = some u := fun j u hu => by
    refine hall j u ?_
    have hj := (List.getElem?_eq_some_iff.1 hu).1
    have e := bcs_app (bs.take k) (bs.drop k)
    rw [List.take_append_drop] at e
    rw [e, List.getElem?_append_left (by rw [← hn1]; exact hj), ← hn1]; exact hu
  have hb2 : ∀ j u, n2[j]? = some u → w.cell? ⟨b, off + ((k + 1) * 3 + j), none⟩ = some u := fun j u hu => by
    refine hall _ u ?_
    have e := bcs_app (bs.take (k + 1)) (bs.drop (k + 1))
    rw [List.take_append_drop] at e
    have hlk : (bcs (bs.take (k + 1))).length = (k + 1) * 3 := by rw [bcs_len, List.length_take]; congr 1; omega
    rw [e, List.getElem?_append_right (by omega), hlk, Nat.add_sub_cancel_left, ← hn2]; exact hu
  obtain ⟨A, hA, hsrc⟩ : ∃ A : Addr, (if c = k + 1 then some (⟨b, off, none⟩ : Addr) else some ⟨b, off + (k + 1) * 3, none⟩) = some A ∧ Hid (∀ W, Below w.heap.size w W → ∀ t u, n2[t]? = some u → W.cell? (A.add t) = some u) := by
    by_cases h : c = k + 1
    · refine ⟨⟨b, off, none⟩, by simp [h], Lib.hid fun W hW t u hu => ?_⟩
      have h0 : n2.length = 0 := by rw [l2]; omega
      rw [List.length_eq_zero_iff.1 h0] at hu
      simp at hu
    · refine ⟨⟨b, off + (k + 1) * 3, none⟩, by simp [h], Lib.hid fun W hW t u hu => ?_⟩
      rw [Addr.add_lit, Nat.add_assoc]
      exact (hW.cell (p := ⟨b, off + ((k + 1) * 3 + t), none⟩) hbw).trans (hb2 t u hu)
  have E : Hid (n1 ++ n2 = bcs (bs.eraseIdx k) ∧ (bs.eraseIdx k).length = k + (l - (k + 1))) := Lib.hid ⟨by rw [hn1, hn2, ← bcs_app, List.eraseIdx_eq_take_drop_succ], by rw [List.length_eraseIdx]; simp [← hnz, hk]; omega⟩
  have o1 : Hid (∀ u ∈ n1, u.oneCell' = true) := Lib.hid (by rw [hn1]; exact bcs_one)
  have o2 : Hid (∀ u ∈ n2, u.oneCell' = true) := Lib.hid (by rw [hn2]; exact bcs_one)
  have L1 := Lib.hid l1
  have L2 := Lib.hid l2
  have HB1 := Lib.hid hb1
  have B1 := Lib.hid (show Below w.heap.size w (w.alloc (.cells #[] 60)).drew by (repeat (first | exact Below.refl _ _ | (refine Below.alloc ?_ (by first | omega | (simp; try omega)) _) | apply Below.drew | apply below_drewN)))
  have R1 := Lib.hid (show Brs (w.alloc (.cells #[] 60)).drew w.heap.size (.slice (some ⟨w.heap.size, 0, none⟩) 0 0) [] from (Brs.empty w _ (Nat.le_refl _)).below (by apply Below.drew; exact Below.refl _ _))
  have hwr : IntKind.i64.wrap ((k : Int) + 1) = (k : Int) + 1 := by rw [IntKind.wrap_i64]; omega
  have hk2 : (k : Int) + 1 ≤ (l : Int) := by omega
  have hk3 : ((k : Int) + 1).toNat = k + 1 := by omega
  have hk4 : (0 : Int) ≤ (k : Int) + 1 := by omega
  have hkc : k ≤ c := by omega
  have hkc1 : k + 1 ≤ c := by omega
  clear hnz hall hn1 hn2 l1 l2 hb1 hb2
  go_enter Try.func26, Try.ntmps26
  go_wp2_with fail
  go_region_law (first
    | (refine step_appB rfl (.tmp 5) (.tmp 8) rfl w.heap.size w.heap.size 0 0 (bcs []) (by simp [Act.eval, Act.put]) R1.out ⟨b, off, none⟩ k c n1 (by simp [Act.eval, Act.put]) L1.out (fun j u hu => by rw [Addr.add_lit]; exact (B1.out.cell (p := ⟨b, off + j, none⟩) hbw).trans (HB1.out j u hu)) o1.out (by omega) B1.out.size ?_; intro g cap w2 hI2 hg2; rw [Nat.zero_add] at hI2 ⊢; have HI2 := Lib.hid hI2; have B2 := Lib.hid (B1.out.grown hg2 B1.out.size (by intro q hq; cases hq; exact Nat.le_refl _)); have gg := World.ownsRow.lt hI2 g rfl; clear hI2 hg2)
    | (refine step_appB rfl (.tmp 9) (.tmp 13) rfl w.heap.size g k cap (bcs [] ++ n1) (by simp [Act.eval, Act.put]) HI2.out A (l - (k + 1)) (c - (k + 1)) n2 (by simp [Act.eval, Act.put]) L2.out (hsrc.out _ B2.out) o2.out (by omega) B2.out.size ?_; intro g' cap' w3 hI3 hg3; have HI3 := Lib.hid hI3; have B3 := Lib.hid (B2.out.grown hg3 B2.out.size (by intro q hq; cases hq; exact gg.1)); clear hI3 hg3))
  go_wp2
  go_ret
  refine ⟨_, rfl, ?_, B3.out⟩
  have h3 := HI3.out
  unfold Brs
  rw [E.out.2, ← E.out.1]
  exact h3
end Go.Proofs.Ytnmeomcoeknjoac
