/- DropClue, AddClue: spec (written by gen_ke.py out of chapter 4's texts). -/
import Derived.Test.YtnmeomcoeknjoaaKd
import Derived.Test.YtnmeomcoeknjoaaKap
import Derived.StillTailTactics
namespace Go.Proofs.Ytnmeomcoeknjoaa
set_option linter.unusedVariables false
set_option maxRecDepth 100000
open Go.RowKit

theorem isPz_in {n : Int} {cs : List Br} (h : isPz n cs = true) : ∃ m : Nat, n = m ∧ 1 ≤ m ∧ m ≤ 8 ∧ cs.length ≤ 6 ∧ ∀ c ∈ cs, isCl (m : Int) c = true := by
  obtain ⟨h1, h2, h3, h4⟩ := isPz_iff.1 h
  obtain ⟨m, rfl⟩ : ∃ m : Nat, n = m := ⟨n.toNat, by omega⟩
  exact ⟨m, rfl, by omega, by omega, h3, h4⟩
theorem pzGood_ (n : Int) (v : Value) (bs : List Br) (w : World) (h : RdB w v bs) (hl : bs.length ≤ 1048576) :
    Calls Try.prog 31 #[.agg #[.int .i64 n, v]] w fun e w' => e = .returned (.bool (isPz n bs)) ∧ Below w.heap.size w w' := pzGood n v bs w h
theorem specIsCl (n : Int) (hn : 1 ≤ n ∧ n ≤ 1000) (x y z : Int) (w : World) :
    Calls Try.prog 27 #[.int .i64 n, .agg #[.int .i64 x, .int .i64 y, .int .i64 z]] w fun e w' => e = .returned (.bool (isCl n (x, y, z))) ∧ Below w.heap.size w w' := pzClue n x y z w
theorem kp5 {W : World} {s s' : Nat} {p q x y z : Value} (h : Blk W s #[p, q]) (h2 : Blk W s' #[x, y, z]) : W.cell? ⟨s, 0, none⟩ = some p ∧ W.cell? ⟨s, 1, none⟩ = some q ∧ W.cell? ⟨s', 0, none⟩ = some x ∧ W.cell? ⟨s', 1, none⟩ = some y ∧ W.cell? ⟨s', 2, none⟩ = some z := ⟨h.cell 0, h.cell 1, h2.cell 0, h2.cell 1, h2.cell 2⟩
theorem lt_ne {v : Value} {B s : Nat} (h : ∀ k, v.ownBlock = some k → B ≤ k) (hs : s < B) : some s ≠ v.ownBlock := fun e => by have := h s e.symm; omega
theorem own_ge {w : World} {B B' : Nat} {v : Value} {bs : List Br} (h : Brs w B' v bs) (hB : B ≤ B') : ∀ k, v.ownBlock = some k → B ≤ k := fun k hk => Nat.le_trans hB (h.lt k hk).1
def addOK (n : Int) (bs : List Br) (b : Br) : Bool := isPz n bs && isCl n b && !decide (bs.length = 6)
def addN (n : Int) (bs : List Br) (b : Br) : Int := if addOK n bs b then n else 0
def addL (n : Int) (bs : List Br) (b : Br) : List Br := if addOK n bs b then bs ++ [b] else []
theorem addL_len (n : Int) (bs : List Br) (b : Br) : (addL n bs b).length ≤ 7 := by
  unfold addL
  split
  · rename_i h
    unfold addOK at h
    rw [Bool.and_eq_true, Bool.and_eq_true] at h
    have := (isPz_iff.1 h.1.1).2.2.1
    simp; omega
  · simp
theorem kp {w : World} {g : Nat} {x y : Value} (h : Blk w g #[x, y]) : w.cell? ⟨g, 0, none⟩ = some x ∧ w.cell? ⟨g, 1, none⟩ = some y := ⟨h.two.1, h.two.2.1⟩
def dropOK (n : Int) (bs : List Br) (k : Int) : Bool := isPz n bs && inB k 0 ((bs.length : Int) - 1)
def dropN (n : Int) (bs : List Br) (k : Int) : Int := if dropOK n bs k then n else 0
def dropL (n : Int) (bs : List Br) (k : Int) : List Br := if dropOK n bs k then bs.eraseIdx k.toNat else []
theorem dropL_len (n : Int) (bs : List Br) (k : Int) : (dropL n bs k).length ≤ 6 := by
  unfold dropL
  split
  · rename_i h
    unfold dropOK at h
    rw [Bool.and_eq_true] at h
    have := (isPz_iff.1 h.1).2.2.1
    have := List.length_eraseIdx_le bs k.toNat
    omega
  · simp
theorem rd_all {w : World} {b off l c : Nat} {bs : List Br} (h : RdB w (.slice (some ⟨b, off, none⟩) l c) bs) (hl : 0 < l) : b < w.heap.size ∧ ∀ j u, (bcs bs)[j]? = some u → w.cell? ⟨b, off + j, none⟩ = some u := by
  obtain ⟨a', n, c', e, hn, _, _, hcell⟩ := h
  injection e with e1 e2 e3
  subst e1 e2 e3
  have h0 := hcell 0 hl
  obtain ⟨b0, o0, e0, hb0, _⟩ := h0
  injection e0 with e0
  injection e0 with e0 e00
  subst e0 e00
  refine ⟨hb0, fun j u hj => ?_⟩
  have hjl : j < bs.length * 3 := by have := (List.getElem?_eq_some_iff.1 hj).1; rwa [bcs_len] at this
  have hd : j / 3 < l := by omega
  obtain ⟨b1, o1, e1, _, hA⟩ := hcell (j / 3) hd
  injection e1 with e1
  injection e1 with e1 e11
  subst e1 e11
  have hb := bcs_at bs (j / 3) (by omega)
  have h3 : j % 3 = 0 ∨ j % 3 = 1 ∨ j % 3 = 2 := by omega
  rcases h3 with h3 | h3 | h3
  · have ej : j = j / 3 * 3 := by omega
    have A := hA.1
    rw [← ej] at A
    have Bt := hb.1
    rw [← ej, hj] at Bt
    injection Bt with Bt
    rw [A, Bt]
  · have ej : j = j / 3 * 3 + 1 := by omega
    have A := hA.2.1
    have Bt := hb.2.1
    rw [Nat.add_assoc] at A
    rw [← ej] at A Bt
    rw [hj] at Bt
    injection Bt with Bt
    rw [A, Bt]
  · have ej : j = j / 3 * 3 + 2 := by omega
    have A := hA.2.2
    have Bt := hb.2.2
    rw [Nat.add_assoc] at A
    rw [← ej] at A Bt
    rw [hj] at Bt
    injection Bt with Bt
    rw [A, Bt]
theorem bcs_one {bs : List Br} : ∀ u ∈ bcs bs, u.oneCell' = true := by
  intro u hu
  simp only [bcs, List.mem_flatMap] at hu
  obtain ⟨y, _, hy⟩ := hu
  simp at hy
  rcases hy with rfl | rfl | rfl <;> rfl
/-- append of bridges at a row of the call's own, none or some, as a step of a region that draws -/
theorem step_appB {ops : Array Oper} {o : Oper} {a : Act} {w : World} {K : Act → World → Prop} {Q : Exit → Act → World → Prop} {E : Prop} (hgd : o.guard = none) (s x : Operand)
    (ho : o.op = .call { callee := .builtin .append, args := #[s, x], argTypes := #[33, 33] })
    (B g0 n cap : Nat) (xs : List Value) (hs : a.eval s = .slice (some ⟨g0, 0, none⟩) n cap) (hown : w.ownsRow B 25 3 (.slice (some ⟨g0, 0, none⟩) n cap) n xs)
    (ad : Addr) (m c : Nat) (news : List Value) (hx : a.eval x = .slice (some ad) m c) (hl : news.length = m * 3) (hnews : ∀ j u, news[j]? = some u → w.cell? (ad.add j) = some u) (h1 : ∀ u ∈ news, u.oneCell' = true)
    (h63 : n + m ≤ 1000) (hbase : B ≤ w.heap.size)
    (h : ∀ g cap' w', w'.ownsRow B 25 3 (.slice (some ⟨g, 0, none⟩) (n + m) cap') (n + m) (xs ++ news) → w.grownBy w' (some g0) → K (a.put o.dst (.slice (some ⟨g, 0, none⟩) (n + m) cap')) w') :
    if Region.wanted o (yielded ops a.tmps) = true then Oper.wp Try.prog o a w K Q else E := by
  obtain ⟨i0, hi, hz0, hz1, hz2⟩ := info_parts Try.infoBr
  rcases Nat.eq_zero_or_pos m with rfl | hm
  · obtain rfl : news = [] := List.length_eq_zero_iff.1 (by omega)
    have hroom : n + 0 ≤ cap := by
      rcases hown.2 with ⟨e1, _⟩ | ⟨g', cap', cur, e1, _, _, hnc, _⟩
      · cases e1
      · injection e1 with _ _ e2; subst e2; omega
    refine step_append_room hgd s x 33 ho 25 i0 3 Try.underlying33 hi hz1 g0 0 n cap hs ad 0 c [] hx rfl (by simp) (by simp) hroom (by simp) ?_
    exact h g0 cap w (by simpa using hown) (World.grownBy.refl _ _)
  · refine step_append_lies _ hgd s x 33 ho B 25 i0 (.agg #[.int .i64 0, .int .i64 0, .int .i64 0]) 3 24 Try.underlying33 hi hz0 hz1 hz2 rfl (by decide) _ n xs hs hown ad m c news hx hl hnews h1 hm (by unfold maxLen; omega) (by omega) hbase _ rfl ?_
    intro g cap' w' h2 h3 _ _
    exact h g cap' w' h2 h3
set_option maxRecDepth 100000 in
set_option maxHeartbeats 4000000 in
theorem pzWithout (v : Value) (bs : List Br) (k : Nat) (w : World) (h : RdB w v bs) (hk : k < bs.length) (hl : bs.length ≤ 6) :
    Calls Try.prog 35 #[v, .int .i64 k] w fun e w' => ∃ u, e = .returned u ∧ Brs w' w.heap.size u (bs.eraseIdx k) ∧ Below w.heap.size w w' := by
  obtain ⟨i0, hi, hz0, hz1, hz2⟩ := info_parts Try.infoBr
  obtain ⟨a, l, c, rfl, hnz, ⟨hlc, _⟩, hcm, hcell⟩ := id h
  rw [← hnz] at hk hl
  obtain ⟨b, off, rfl, hbw, _⟩ := hcell 0 (by omega)
  clear hcell
  have hall := (rd_all h (by omega)).2
  clear h
  unfold maxLen at hcm
  obtain ⟨n1, hn1⟩ : ∃ n1, n1 = bcs (bs.take k) := ⟨_, rfl⟩
  obtain ⟨n2, hn2⟩ : ∃ n2, n2 = bcs (bs.drop (k + 1)) := ⟨_, rfl⟩
  have l1 : n1.length = k * 3 := by rw [hn1, bcs_len, List.length_take]; congr 1; omega
  have l2 : n2.length = (l - (k + 1)) * 3 := by rw [hn2, bcs_len, List.length_drop, ← hnz]
  have hb1 : ∀ j u, n1[j]? = some u → w.cell? ⟨b, off + j, none⟩ = some u := fun j u hu => by
    refine hall j u ?_
    have hj := (List.getElem?_eq_some_iff.1 hu).1
    have e := bcs_app (bs.take k) (bs.drop k)
    rw [List.take_append_drop] at e
    rw [e, List.getElem?_append_left (by rw [← hn1]; exact hj), ← hn1]; exact hu
  have hb2 : ∀ j u, n2[j]? = some u → w.cell? ⟨b, off + ((k + 1) * 3 + j), none⟩ = some u := fun j u hu => by
    refine hall _ u ?_
    have e := bcs_app (bs.take (k + 1)) (bs.drop (k + 1))
    rw [List.take_append_drop] at e
    have hlk : (bcs (bs.take (k + 1))).length = (k + 1) * 3 := by rw [bcs_len, List.length_take]; congr 1; omega
    rw [e, List.getElem?_append_right (by omega), hlk, Nat.add_sub_cancel_left, ← hn2]; exact hu
  obtain ⟨A, hA, hsrc⟩ : ∃ A : Addr, (if c = k + 1 then some (⟨b, off, none⟩ : Addr) else some ⟨b, off + (k + 1) * 3, none⟩) = some A ∧ Hid (∀ W, Below w.heap.size w W → ∀ t u, n2[t]? = some u → W.cell? (A.add t) = some u) := by
    by_cases h : c = k + 1
    · refine ⟨⟨b, off, none⟩, by simp [h], Lib.hid fun W hW t u hu => ?_⟩
      have h0 : n2.length = 0 := by rw [l2]; omega
      rw [List.length_eq_zero_iff.1 h0] at hu
      simp at hu
    · refine ⟨⟨b, off + (k + 1) * 3, none⟩, by simp [h], Lib.hid fun W hW t u hu => ?_⟩
      rw [Addr.add_lit, Nat.add_assoc]
      exact (hW.cell (p := ⟨b, off + ((k + 1) * 3 + t), none⟩) hbw).trans (hb2 t u hu)
  have E : Hid (n1 ++ n2 = bcs (bs.eraseIdx k) ∧ (bs.eraseIdx k).length = k + (l - (k + 1))) := Lib.hid ⟨by rw [hn1, hn2, ← bcs_app, List.eraseIdx_eq_take_drop_succ], by rw [List.length_eraseIdx]; simp [← hnz, hk]; omega⟩
  have o1 : Hid (∀ u ∈ n1, u.oneCell' = true) := Lib.hid (by rw [hn1]; exact bcs_one)
  have o2 : Hid (∀ u ∈ n2, u.oneCell' = true) := Lib.hid (by rw [hn2]; exact bcs_one)
  have L1 := Lib.hid l1
  have L2 := Lib.hid l2
  have HB1 := Lib.hid hb1
  have B1 := Lib.hid (show Below w.heap.size w (w.alloc (.cells #[] 25)).drew by (repeat (first | exact Below.refl _ _ | (refine Below.alloc ?_ (by first | omega | (simp; try omega)) _) | apply Below.drew | apply below_drewN)))
  have R1 := Lib.hid (show Brs (w.alloc (.cells #[] 25)).drew w.heap.size (.slice (some ⟨w.heap.size, 0, none⟩) 0 0) [] from (Brs.empty w _ (Nat.le_refl _)).below (by apply Below.drew; exact Below.refl _ _))
  have hwr : IntKind.i64.wrap ((k : Int) + 1) = (k : Int) + 1 := by rw [IntKind.wrap_i64]; omega
  have hk2 : (k : Int) + 1 ≤ (l : Int) := by omega
  have hk3 : ((k : Int) + 1).toNat = k + 1 := by omega
  have hk4 : (0 : Int) ≤ (k : Int) + 1 := by omega
  have hkc : k ≤ c := by omega
  have hkc1 : k + 1 ≤ c := by omega
  clear hnz hall hn1 hn2 l1 l2 hb1 hb2
  go_enter Try.func35, Try.ntmps35
  go_wp2_with fail
  go_region_law (first
    | (refine step_appB rfl (.tmp 5) (.tmp 8) rfl w.heap.size w.heap.size 0 0 (bcs []) (by simp [Act.eval, Act.put]) R1.out ⟨b, off, none⟩ k c n1 (by simp [Act.eval, Act.put]) L1.out (fun j u hu => by rw [Addr.add_lit]; exact (B1.out.cell (p := ⟨b, off + j, none⟩) hbw).trans (HB1.out j u hu)) o1.out (by omega) B1.out.size ?_; intro g cap w2 hI2 hg2; rw [Nat.zero_add] at hI2 ⊢; have HI2 := Lib.hid hI2; have B2 := Lib.hid (B1.out.grown hg2 B1.out.size (by intro q hq; cases hq; exact Nat.le_refl _)); have gg := World.ownsRow.lt hI2 g rfl; clear hI2 hg2)
    | (refine step_appB rfl (.tmp 9) (.tmp 13) rfl w.heap.size g k cap (bcs [] ++ n1) (by simp [Act.eval, Act.put]) HI2.out A (l - (k + 1)) (c - (k + 1)) n2 (by simp [Act.eval, Act.put]) L2.out (hsrc.out _ B2.out) o2.out (by omega) B2.out.size ?_; intro g' cap' w3 hI3 hg3; have HI3 := Lib.hid hI3; have B3 := Lib.hid (B2.out.grown hg3 B2.out.size (by intro q hq; cases hq; exact gg.1)); clear hI3 hg3))
  go_wp2
  go_ret
  refine ⟨_, rfl, ?_, B3.out⟩
  have h3 := HI3.out
  unfold Brs
  rw [E.out.2, ← E.out.1]
  exact h3
set_option maxRecDepth 100000 in
set_option maxHeartbeats 4000000 in
theorem specDrop (n : Int) (v : Value) (bs : List Br) (k : Int) (w : World) (h : RdB w v bs) (hl : bs.length ≤ 1048576) :
    Calls Try.prog 16 #[.agg #[.int .i64 n, v], .int .i64 k] w fun e w' => ∃ u, e = .returned (.tuple #[.agg #[.int .i64 (dropN n bs k), u], .bool (dropOK n bs k)]) ∧ Brs w' w.heap.size u (dropL n bs k) ∧ Below w.heap.size w w' := by
  have H := Lib.hid h
  obtain ⟨a, l, c, rfl, hnz, t⟩ := h
  have HN := Lib.hid hnz
  clear t hnz
  obtain ⟨W0, hW0⟩ : ∃ W, W = (w.alloc (.cells #[.int .i64 n, .slice a l c] 35)).alloc (.cells #[.int .i64 0, .slice none 0 0] 35) := ⟨_, rfl⟩
  have X1 := Lib.hid (show Blk W0 w.heap.size #[.int .i64 n, .slice a l c] by rw [hW0]; exact (Blk.new w _ _).alloc _)
  have X2 := Lib.hid (show Blk W0 (w.heap.size + 1) #[.int .i64 0, .slice none 0 0] by rw [hW0]; exact (Blk.new (w.alloc (.cells #[.int .i64 n, .slice a l c] 35)) _ _).at_ (by simp))
  have B0 := Lib.hid (show Below w.heap.size w W0 by rw [hW0]; (repeat (first | exact Below.refl _ _ | (refine Below.alloc ?_ (by first | omega | (simp; try omega)) _) | apply Below.drew | apply below_drewN)))
  have HW0 := Lib.hid hW0
  clear hW0
  have s0 := B0.out.size
  have FAIL : Hid (∀ w1 : World, Below w.heap.size w w1 → Blk w1 (w.heap.size + 1) #[.int .i64 0, .slice none 0 0] → dropOK n bs k = false → ∃ u, (Ending.returned (.tuple #[.agg #[.int .i64 0, .slice none 0 0], .bool false]) : Ending) = .returned (.tuple #[.agg #[.int .i64 (dropN n bs k), u], .bool (dropOK n bs k)]) ∧ Brs ((w1.setCell ⟨w.heap.size + 1, 0, none⟩ (.int .i64 0)).setCell ⟨w.heap.size + 1, 1, none⟩ (.slice none 0 0)) w.heap.size u (dropL n bs k) ∧ Below w.heap.size w ((w1.setCell ⟨w.heap.size + 1, 0, none⟩ (.int .i64 0)).setCell ⟨w.heap.size + 1, 1, none⟩ (.slice none 0 0))) := Lib.hid (fun w1 hb hX hf => by
    refine ⟨.slice none 0 0, by rw [show dropN n bs k = 0 by simp [dropN, hf], hf], ?_, (hb.setCell (by simp) _).setCell (by simp) _⟩
    rw [show dropL n bs k = [] by simp [dropL, hf]]
    exact Brs.nil _ _)
  cases hg : isPz n bs
  · have OKF := Lib.hid (show dropOK n bs k = false by unfold dropOK; rw [hg]; rfl)
    have G := Lib.hid hg
    clear hg
    go_enter Try.func16, Try.ntmps16
    go_wp2_with fail
    rw [← HW0.out]
    clear HW0
    refine (pzGood_ n _ bs _ (H.out.below B0.out) hl).mono ?_
    rw [G.out]
    rintro e w1 ⟨rfl, hb⟩
    have HB := Lib.hid (B0.out.trans (hb.mono s0))
    have Y2 := Lib.hid (X2.out.below hb X2.out.lt)
    obtain ⟨y0, y1, y2⟩ := Y2.out.two
    have f0 := Y2.out.fr 0
    have f1 := Y2.out.fr 1
    clear hb
    go_wp2
    have q0 : (World.setCell _ ⟨w.heap.size + 1, 0, none⟩ (.int .i64 0)).cell? ⟨w.heap.size + 1, 0, none⟩ = some (.int .i64 0) := ((Y2.out.set 0 (.int .i64 0)).cell 0).trans (by simp)
    have p0 : ((World.setCell _ ⟨w.heap.size + 1, 0, none⟩ (.int .i64 0)).setCell ⟨w.heap.size + 1, 1, none⟩ (.slice none 0 0)).cell? ⟨w.heap.size + 1, 0, none⟩ = some (.int .i64 0) := (((Y2.out.set 0 (.int .i64 0)).set 1 (.slice none 0 0)).cell 0).trans (by simp)
    have p1 : ((World.setCell _ ⟨w.heap.size + 1, 0, none⟩ (.int .i64 0)).setCell ⟨w.heap.size + 1, 1, none⟩ (.slice none 0 0)).cell? ⟨w.heap.size + 1, 1, none⟩ = some (.slice none 0 0) := (((Y2.out.set 0 (.int .i64 0)).set 1 (.slice none 0 0)).cell 1).trans (by simp)
    refine bodyPost_ret (v := .tuple #[.agg #[.int .i64 0, .slice none 0 0], .bool false]) (by simp [results, Try.results16, go_sem, p0, p1, q0]) rfl ?_
    exact FAIL.out _ HB.out Y2.out OKF.out
  obtain ⟨m, rfl, hm1, hm7, hl14, hgd⟩ := isPz_in hg
  have G := Lib.hid hg
  have hll : l ≤ 6 := by have := HN.out; omega
  have DO : Hid (dropOK m bs k = inB k 0 ((bs.length : Int) - 1)) := Lib.hid (by unfold dropOK; rw [hg]; rfl)
  clear hg hgd
  have hl1 : IntKind.i64.wrap ((l : Int) - 1) = (l : Int) - 1 := by rw [IntKind.wrap_i64]; omega
  rw [← HN.out] at DO
  cases h0 : inB k 0 ((l : Int) - 1)
  · have OKF := Lib.hid (show dropOK m bs k = false by rw [DO.out]; exact h0)
    have HIB := Lib.hid h0
    clear h0
    go_enter Try.func16, Try.ntmps16
    go_wp2_with fail
    rw [← HW0.out]
    clear HW0
    refine (pzGood_ _ _ bs _ (H.out.below B0.out) hl).mono ?_
    rw [G.out]
    rintro e w1 ⟨rfl, hb⟩
    have HB := Lib.hid (B0.out.trans (hb.mono s0))
    have Y1 := Lib.hid (X1.out.below hb X1.out.lt)
    obtain ⟨z0, z1, z2⟩ := Y1.out.two
    have Y2 := Lib.hid (X2.out.below hb X2.out.lt)
    obtain ⟨y0, y1, y2⟩ := Y2.out.two
    have f0 := Y2.out.fr 0
    have f1 := Y2.out.fr 1
    clear hb
    go_wp2_with fail
    refine (l1In _ _ _ _).mono ?_
    rw [HIB.out]
    rintro e w' ⟨rfl, rfl⟩
    go_wp2
    have q0 : (World.setCell _ ⟨w.heap.size + 1, 0, none⟩ (.int .i64 0)).cell? ⟨w.heap.size + 1, 0, none⟩ = some (.int .i64 0) := ((Y2.out.set 0 (.int .i64 0)).cell 0).trans (by simp)
    have p0 : ((World.setCell _ ⟨w.heap.size + 1, 0, none⟩ (.int .i64 0)).setCell ⟨w.heap.size + 1, 1, none⟩ (.slice none 0 0)).cell? ⟨w.heap.size + 1, 0, none⟩ = some (.int .i64 0) := (((Y2.out.set 0 (.int .i64 0)).set 1 (.slice none 0 0)).cell 0).trans (by simp)
    have p1 : ((World.setCell _ ⟨w.heap.size + 1, 0, none⟩ (.int .i64 0)).setCell ⟨w.heap.size + 1, 1, none⟩ (.slice none 0 0)).cell? ⟨w.heap.size + 1, 1, none⟩ = some (.slice none 0 0) := (((Y2.out.set 0 (.int .i64 0)).set 1 (.slice none 0 0)).cell 1).trans (by simp)
    refine bodyPost_ret (v := .tuple #[.agg #[.int .i64 0, .slice none 0 0], .bool false]) (by simp [results, Try.results16, go_sem, p0, p1, q0]) rfl ?_
    exact FAIL.out _ HB.out Y2.out OKF.out
  · obtain ⟨j, rfl⟩ := Int.eq_ofNat_of_zero_le (inB_iff.1 h0).1
    have h1 : j < l := by have := (inB_iff.1 h0).2; omega
    have OKT := Lib.hid (show dropOK m bs j = true by rw [DO.out]; exact h0)
    have HIB := Lib.hid h0
    clear h0
    go_enter Try.func16, Try.ntmps16
    go_wp2_with fail
    rw [← HW0.out]
    clear HW0
    refine (pzGood_ _ _ bs _ (H.out.below B0.out) hl).mono ?_
    rw [G.out]
    rintro e w1 ⟨rfl, hb⟩
    have HB := Lib.hid (B0.out.trans (hb.mono s0))
    have Y1 := Lib.hid (X1.out.below hb X1.out.lt)
    obtain ⟨z0, z1, z2⟩ := Y1.out.two
    have Y2 := Lib.hid (X2.out.below hb X2.out.lt)
    have sb := HB.out.size
    clear hb
    go_wp2_with fail
    refine (l1In _ _ _ _).mono ?_
    rw [HIB.out]
    rintro e w' ⟨rfl, rfl⟩
    have Y1d := Lib.hid Y1.out.drew
    have Y2d := Lib.hid Y2.out.drew
    have HBd := Lib.hid HB.out.drew
    have sbd : w.heap.size ≤ w1.drew.heap.size := sb
    go_wp2_with fail
    go_region_held3 (fun w' => w'.cell? ⟨w.heap.size, 0, none⟩ = some (.int .i64 m) ∧ w'.cell? ⟨w.heap.size, 1, none⟩ = some (.slice a l c)) (first | exact kp Y1d.out | exact kp Y3a.out | exact kp ((Y3a.out.far (p := ⟨w.heap.size + 1, 0, none⟩) (by simp) _).far (p := ⟨w.heap.size + 1, 1, none⟩) (by simp) _)) (first
      | (go_at_call 35; (with_reducible refine (pzWithout _ bs j w1.drew (H.out.below HBd.out) (by have := HN.out; omega) hl14).mono ?_); rintro e w2 ⟨u, rfl, hU, hb⟩; have HB2 := Lib.hid (HBd.out.trans (hb.mono sbd)); have Y3a := Lib.hid (Y1d.out.below hb Y1d.out.lt); have Y3 := Lib.hid (Y2d.out.below hb Y2d.out.lt); have HU := Lib.hid hU; obtain ⟨ua, uc, rfl⟩ := hU.len; obtain ⟨y0, y1, y2⟩ := Y3.out.two; have f0 := Y3.out.fr 0; have f1 := Y3.out.fr 1; clear hb hU; skip))
    have hlt2 := Y2d.out.lt
    go_wp2
    have q0 : (World.setCell _ ⟨w.heap.size + 1, 0, none⟩ (.int .i64 (m : Int))).cell? ⟨w.heap.size + 1, 0, none⟩ = some (.int .i64 (m : Int)) := ((Y3.out.set 0 (.int .i64 (m : Int))).cell 0).trans (by simp)
    have p0 : ((World.setCell _ ⟨w.heap.size + 1, 0, none⟩ (.int .i64 (m : Int))).setCell ⟨w.heap.size + 1, 1, none⟩ (.slice ua (bs.eraseIdx j).length uc)).cell? ⟨w.heap.size + 1, 0, none⟩ = some (.int .i64 (m : Int)) := (((Y3.out.set 0 (.int .i64 (m : Int))).set 1 (.slice ua (bs.eraseIdx j).length uc)).cell 0).trans (by simp)
    have p1 : ((World.setCell _ ⟨w.heap.size + 1, 0, none⟩ (.int .i64 (m : Int))).setCell ⟨w.heap.size + 1, 1, none⟩ (.slice ua (bs.eraseIdx j).length uc)).cell? ⟨w.heap.size + 1, 1, none⟩ = some (.slice ua (bs.eraseIdx j).length uc) := (((Y3.out.set 0 (.int .i64 (m : Int))).set 1 (.slice ua (bs.eraseIdx j).length uc)).cell 1).trans (by simp)
    refine bodyPost_ret (v := .tuple #[.agg #[.int .i64 m, .slice ua (bs.eraseIdx j).length uc], .bool true]) (by simp [results, Try.results16, go_sem, p0, p1, q0]) rfl ?_
    refine ⟨_, by rw [show dropN m bs j = m by simp [dropN, OKT.out], OKT.out], ?_, (HB2.out.setCell (by simp) _).setCell (by simp) _⟩
    rw [show dropL m bs j = bs.eraseIdx j by simp [dropL, OKT.out]]
    exact ((HU.out.far (by simpa using hlt2) _).far (by simpa using hlt2) _).mono sbd
set_option maxRecDepth 100000 in
set_option maxHeartbeats 4000000 in
theorem specAdd (n : Int) (v : Value) (bs : List Br) (x y z : Int) (w : World) (h : RdB w v bs) (hl : bs.length ≤ 1048576) :
    Calls Try.prog 20 #[.agg #[.int .i64 n, v], .agg #[.int .i64 x, .int .i64 y, .int .i64 z]] w fun e w' => ∃ u, e = .returned (.tuple #[.agg #[.int .i64 (addN n bs (x, y, z)), u], .bool (addOK n bs (x, y, z))]) ∧ Brs w' w.heap.size u (addL n bs (x, y, z)) ∧ Below w.heap.size w w' := by
  have H := Lib.hid h
  obtain ⟨a, l, c, rfl, hnz, t⟩ := h
  have HN := Lib.hid hnz
  clear t hnz
  obtain ⟨W0, hW0⟩ : ∃ W, W = ((w.alloc (.cells #[.int .i64 n, .slice a l c] 35)).alloc (.cells #[.int .i64 x, .int .i64 y, .int .i64 z] 25)).alloc (.cells #[.int .i64 0, .slice none 0 0] 35) := ⟨_, rfl⟩
  have X1 := Lib.hid (show Blk W0 w.heap.size #[.int .i64 n, .slice a l c] by rw [hW0]; exact ((Blk.new w _ _).alloc _).alloc _)
  have X2 := Lib.hid (show Blk W0 (w.heap.size + 1) #[.int .i64 x, .int .i64 y, .int .i64 z] by rw [hW0]; exact ((Blk.new (w.alloc (.cells #[.int .i64 n, .slice a l c] 35)) _ _).at_ (by simp)).alloc _)
  have X3 := Lib.hid (show Blk W0 (w.heap.size + 1 + 1) #[.int .i64 0, .slice none 0 0] by rw [hW0]; exact (Blk.new ((w.alloc (.cells #[.int .i64 n, .slice a l c] 35)).alloc (.cells #[.int .i64 x, .int .i64 y, .int .i64 z] 25)) _ _).at_ (by simp))
  have B0 := Lib.hid (show Below w.heap.size w W0 by rw [hW0]; (repeat (first | exact Below.refl _ _ | (refine Below.alloc ?_ (by first | omega | (simp; try omega)) _) | apply Below.drew | apply below_drewN)))
  have HW0 := Lib.hid hW0
  clear hW0
  have s0 := B0.out.size
  have FAIL : Hid (∀ w1 : World, Below w.heap.size w w1 → Blk w1 (w.heap.size + 1 + 1) #[.int .i64 0, .slice none 0 0] → addOK n bs (x, y, z) = false → ∃ u, (Ending.returned (.tuple #[.agg #[.int .i64 0, .slice none 0 0], .bool false]) : Ending) = .returned (.tuple #[.agg #[.int .i64 (addN n bs (x, y, z)), u], .bool (addOK n bs (x, y, z))]) ∧ Brs ((w1.setCell ⟨w.heap.size + 1 + 1, 0, none⟩ (.int .i64 0)).setCell ⟨w.heap.size + 1 + 1, 1, none⟩ (.slice none 0 0)) w.heap.size u (addL n bs (x, y, z)) ∧ Below w.heap.size w ((w1.setCell ⟨w.heap.size + 1 + 1, 0, none⟩ (.int .i64 0)).setCell ⟨w.heap.size + 1 + 1, 1, none⟩ (.slice none 0 0))) := Lib.hid (fun w1 hb hX hf => by
    refine ⟨.slice none 0 0, by rw [show addN n bs (x, y, z) = 0 by simp [addN, hf], hf], ?_, (hb.setCell (by simp; try omega) _).setCell (by simp; try omega) _⟩
    rw [show addL n bs (x, y, z) = [] by simp [addL, hf]]
    exact Brs.nil _ _)
  cases hg : isPz n bs
  · have OKF := Lib.hid (show addOK n bs (x, y, z) = false by unfold addOK; rw [hg]; rfl)
    have G := Lib.hid hg
    clear hg
    go_enter Try.func20, Try.ntmps20
    go_wp2_with fail
    rw [← HW0.out]
    clear HW0
    refine (pzGood_ n _ bs _ (H.out.below B0.out) hl).mono ?_
    rw [G.out]
    rintro e w1 ⟨rfl, hb⟩
    have HB := Lib.hid (B0.out.trans (hb.mono s0))
    have Y3 := Lib.hid (X3.out.below hb X3.out.lt)
    obtain ⟨y0, y1, y2⟩ := Y3.out.two
    have f0 := Y3.out.fr 0
    have f1 := Y3.out.fr 1
    clear hb
    go_wp2
    have q0 : (World.setCell _ ⟨w.heap.size + 1 + 1, 0, none⟩ (.int .i64 0)).cell? ⟨w.heap.size + 1 + 1, 0, none⟩ = some (.int .i64 0) := ((Y3.out.set 0 (.int .i64 0)).cell 0).trans (by simp)
    have p0 : ((World.setCell _ ⟨w.heap.size + 1 + 1, 0, none⟩ (.int .i64 0)).setCell ⟨w.heap.size + 1 + 1, 1, none⟩ (.slice none 0 0)).cell? ⟨w.heap.size + 1 + 1, 0, none⟩ = some (.int .i64 0) := (((Y3.out.set 0 (.int .i64 0)).set 1 (.slice none 0 0)).cell 0).trans (by simp)
    have p1 : ((World.setCell _ ⟨w.heap.size + 1 + 1, 0, none⟩ (.int .i64 0)).setCell ⟨w.heap.size + 1 + 1, 1, none⟩ (.slice none 0 0)).cell? ⟨w.heap.size + 1 + 1, 1, none⟩ = some (.slice none 0 0) := (((Y3.out.set 0 (.int .i64 0)).set 1 (.slice none 0 0)).cell 1).trans (by simp)
    refine bodyPost_ret (v := .tuple #[.agg #[.int .i64 0, .slice none 0 0], .bool false]) (by simp [results, Try.results20, go_sem, p0, p1, q0]) rfl ?_
    exact FAIL.out _ HB.out Y3.out OKF.out
  obtain ⟨m, rfl, hm1, hm7, hl14, hgd⟩ := isPz_in hg
  have G := Lib.hid hg
  have hll : l ≤ 6 := by have := HN.out; omega
  have DO : Hid (addOK m bs (x, y, z) = (isCl m (x, y, z) && !decide (bs.length = 6))) := Lib.hid (by unfold addOK; rw [hg]; rfl)
  clear hg hgd
  rw [← HN.out] at DO
  cases hi : isCl m (x, y, z)
  · have OKF := Lib.hid (show addOK m bs (x, y, z) = false by rw [DO.out, hi]; rfl)
    have GI := Lib.hid hi
    clear hi DO
    go_enter Try.func20, Try.ntmps20
    go_wp2_with fail
    rw [← HW0.out]
    clear HW0
    refine (pzGood_ _ _ bs _ (H.out.below B0.out) hl).mono ?_
    rw [G.out]
    rintro e w1 ⟨rfl, hb⟩
    have HB := Lib.hid (B0.out.trans (hb.mono s0))
    have Y1 := Lib.hid (X1.out.below hb X1.out.lt)
    have Y2 := Lib.hid (X2.out.below hb X2.out.lt)
    have Y3 := Lib.hid (X3.out.below hb X3.out.lt)
    obtain ⟨z0, z1, z2⟩ := Y1.out.two
    obtain ⟨b0, b1, b2, b3⟩ := Y2.out.three
    have sb := HB.out.size
    clear hb
    go_wp2_with fail
    refine (specIsCl _ (by omega) _ _ _ _).mono ?_
    rw [GI.out]
    rintro e w2 ⟨rfl, hb⟩
    have HB2 := Lib.hid (HB.out.trans (hb.mono sb))
    have U1 := Lib.hid (Y1.out.below hb Y1.out.lt)
    have U2 := Lib.hid (Y2.out.below hb Y2.out.lt)
    have U3 := Lib.hid (Y3.out.below hb Y3.out.lt)
    have sb2 := HB2.out.size
    clear hb z0 z1 z2 b0 b1 b2 b3
    obtain ⟨z0, z1, z2⟩ := U1.out.two
    obtain ⟨y0, y1, y2⟩ := U3.out.two
    have f0 := U3.out.fr 0
    have f1 := U3.out.fr 1
    go_wp2
    have q0 : (World.setCell _ ⟨w.heap.size + 1 + 1, 0, none⟩ (.int .i64 0)).cell? ⟨w.heap.size + 1 + 1, 0, none⟩ = some (.int .i64 0) := ((U3.out.set 0 (.int .i64 0)).cell 0).trans (by simp)
    have p0 : ((World.setCell _ ⟨w.heap.size + 1 + 1, 0, none⟩ (.int .i64 0)).setCell ⟨w.heap.size + 1 + 1, 1, none⟩ (.slice none 0 0)).cell? ⟨w.heap.size + 1 + 1, 0, none⟩ = some (.int .i64 0) := (((U3.out.set 0 (.int .i64 0)).set 1 (.slice none 0 0)).cell 0).trans (by simp)
    have p1 : ((World.setCell _ ⟨w.heap.size + 1 + 1, 0, none⟩ (.int .i64 0)).setCell ⟨w.heap.size + 1 + 1, 1, none⟩ (.slice none 0 0)).cell? ⟨w.heap.size + 1 + 1, 1, none⟩ = some (.slice none 0 0) := (((U3.out.set 0 (.int .i64 0)).set 1 (.slice none 0 0)).cell 1).trans (by simp)
    refine bodyPost_ret (v := .tuple #[.agg #[.int .i64 0, .slice none 0 0], .bool false]) (by simp [results, Try.results20, go_sem, p0, p1, q0]) rfl ?_
    exact FAIL.out _ HB2.out U3.out OKF.out
  by_cases h4 : l = 6
  · have OKF := Lib.hid (show addOK m bs (x, y, z) = false by rw [DO.out, h4]; simp)
    have GI := Lib.hid hi
    have h4I : (l : Int) = 6 := by omega
    have h4J : ((l : Int) == 6) = true := by simp; omega
    clear hi DO h4
    go_enter Try.func20, Try.ntmps20
    go_wp2_with fail
    rw [← HW0.out]
    clear HW0
    refine (pzGood_ _ _ bs _ (H.out.below B0.out) hl).mono ?_
    rw [G.out]
    rintro e w1 ⟨rfl, hb⟩
    have HB := Lib.hid (B0.out.trans (hb.mono s0))
    have Y1 := Lib.hid (X1.out.below hb X1.out.lt)
    have Y2 := Lib.hid (X2.out.below hb X2.out.lt)
    have Y3 := Lib.hid (X3.out.below hb X3.out.lt)
    obtain ⟨z0, z1, z2⟩ := Y1.out.two
    obtain ⟨b0, b1, b2, b3⟩ := Y2.out.three
    have sb := HB.out.size
    clear hb
    go_wp2_with fail
    refine (specIsCl _ (by omega) _ _ _ _).mono ?_
    rw [GI.out]
    rintro e w2 ⟨rfl, hb⟩
    have HB2 := Lib.hid (HB.out.trans (hb.mono sb))
    have U1 := Lib.hid (Y1.out.below hb Y1.out.lt)
    have U2 := Lib.hid (Y2.out.below hb Y2.out.lt)
    have U3 := Lib.hid (Y3.out.below hb Y3.out.lt)
    have sb2 := HB2.out.size
    clear hb z0 z1 z2 b0 b1 b2 b3
    obtain ⟨z0, z1, z2⟩ := U1.out.two
    obtain ⟨y0, y1, y2⟩ := U3.out.two
    have f0 := U3.out.fr 0
    have f1 := U3.out.fr 1
    go_wp2
    have q0 : (World.setCell _ ⟨w.heap.size + 1 + 1, 0, none⟩ (.int .i64 0)).cell? ⟨w.heap.size + 1 + 1, 0, none⟩ = some (.int .i64 0) := ((U3.out.set 0 (.int .i64 0)).cell 0).trans (by simp)
    have p0 : ((World.setCell _ ⟨w.heap.size + 1 + 1, 0, none⟩ (.int .i64 0)).setCell ⟨w.heap.size + 1 + 1, 1, none⟩ (.slice none 0 0)).cell? ⟨w.heap.size + 1 + 1, 0, none⟩ = some (.int .i64 0) := (((U3.out.set 0 (.int .i64 0)).set 1 (.slice none 0 0)).cell 0).trans (by simp)
    have p1 : ((World.setCell _ ⟨w.heap.size + 1 + 1, 0, none⟩ (.int .i64 0)).setCell ⟨w.heap.size + 1 + 1, 1, none⟩ (.slice none 0 0)).cell? ⟨w.heap.size + 1 + 1, 1, none⟩ = some (.slice none 0 0) := (((U3.out.set 0 (.int .i64 0)).set 1 (.slice none 0 0)).cell 1).trans (by simp)
    refine bodyPost_ret (v := .tuple #[.agg #[.int .i64 0, .slice none 0 0], .bool false]) (by simp [results, Try.results20, go_sem, p0, p1, q0]) rfl ?_
    exact FAIL.out _ HB2.out U3.out OKF.out
  · have OKT := Lib.hid (show addOK m bs (x, y, z) = true by rw [DO.out, hi]; simp [h4])
    have GI := Lib.hid hi
    have h4I : ¬ (l : Int) = 6 := by omega
    have h4J : ((l : Int) == 6) = false := by simp; omega
    clear hi DO FAIL
    go_enter Try.func20, Try.ntmps20
    go_wp2_with fail
    rw [← HW0.out]
    clear HW0
    refine (pzGood_ _ _ bs _ (H.out.below B0.out) hl).mono ?_
    rw [G.out]
    rintro e w1 ⟨rfl, hb⟩
    have HB := Lib.hid (B0.out.trans (hb.mono s0))
    have Y1 := Lib.hid (X1.out.below hb X1.out.lt)
    have Y2 := Lib.hid (X2.out.below hb X2.out.lt)
    have Y3 := Lib.hid (X3.out.below hb X3.out.lt)
    obtain ⟨z0, z1, z2⟩ := Y1.out.two
    obtain ⟨b0, b1, b2, b3⟩ := Y2.out.three
    have sb := HB.out.size
    clear hb
    go_wp2_with fail
    refine (specIsCl _ (by omega) _ _ _ _).mono ?_
    rw [GI.out]
    rintro e w2 ⟨rfl, hb⟩
    have HB2 := Lib.hid (HB.out.trans (hb.mono sb))
    have U1 := Lib.hid (Y1.out.below hb Y1.out.lt)
    have U2 := Lib.hid (Y2.out.below hb Y2.out.lt)
    have U3 := Lib.hid (Y3.out.below hb Y3.out.lt)
    have sb2 := HB2.out.size
    clear hb z0 z1 z2 b0 b1 b2 b3
    obtain ⟨z0, z1, z2⟩ := U1.out.two
    obtain ⟨y0, y1, y2⟩ := U3.out.two
    have f0 := U3.out.fr 0
    have f1 := U3.out.fr 1
    obtain ⟨b0, b1, b2, b3⟩ := U2.out.three
    go_wp2_with fail
    have hl15 : bs.length ≤ 1000 := by omega
    have V1 := Lib.hid U1.out.drew
    have V2 := Lib.hid U2.out.drew
    have D1 := Lib.hid (show Below w2.heap.size w2 (w2.alloc (.cells #[] 25)).drew by (repeat (first | exact Below.refl _ _ | (refine Below.alloc ?_ (by first | omega | (simp; try omega)) _) | apply Below.drew | apply below_drewN)))
    have D2 := Lib.hid (show Below w2.heap.size w2 ((w2.alloc (.cells #[] 25)).alloc (.cells #[.int .i64 x, .int .i64 y, .int .i64 z] 25)).drew by (repeat (first | exact Below.refl _ _ | (refine Below.alloc ?_ (by first | omega | (simp; try omega)) _) | apply Below.drew | apply below_drewN)))
    have D3 := Lib.hid (show Below w2.heap.size w2 ((w2.alloc (.cells #[.int .i64 x, .int .i64 y, .int .i64 z] 25)).alloc (.cells #[] 25)).drew by (repeat (first | exact Below.refl _ _ | (refine Below.alloc ?_ (by first | omega | (simp; try omega)) _) | apply Below.drew | apply below_drewN)))
    have dr : ∀ W : World, Below W.heap.size W W.drew := fun W => Below.drew (Below.refl _ _)
    have Q1 := Lib.hid (show Brs (w2.alloc (.cells #[] 25)).drew w2.heap.size (.slice (some ⟨w2.heap.size, 0, none⟩) 0 0) [] from (Brs.empty w2 _ (Nat.le_refl _)).below (dr _))
    have Q2 := Lib.hid (show Brs ((w2.alloc (.cells #[] 25)).alloc (.cells #[.int .i64 x, .int .i64 y, .int .i64 z] 25)).drew w2.heap.size (.slice (some ⟨w2.heap.size, 0, none⟩) 0 0) [] from ((Brs.empty w2 _ (Nat.le_refl _)).below ((Below.refl _ _).alloc (Nat.le_refl _) _)).below (dr _))
    have Q3 := Lib.hid (show Brs ((w2.alloc (.cells #[.int .i64 x, .int .i64 y, .int .i64 z] 25)).alloc (.cells #[] 25)).drew w2.heap.size (.slice (some ⟨w2.heap.size + 1, 0, none⟩) 0 0) [] by have := (Brs.empty (w2.alloc (.cells #[.int .i64 x, .int .i64 y, .int .i64 z] 25)) w2.heap.size (by simp)).below (dr _); simpa using this)
    have XA2 := Lib.hid (show Blk ((w2.alloc (.cells #[] 25)).alloc (.cells #[.int .i64 x, .int .i64 y, .int .i64 z] 25)).drew (w2.heap.size + 1) #[.int .i64 x, .int .i64 y, .int .i64 z] from ((Blk.new (w2.alloc (.cells #[] 25)) _ _).at_ (by simp)).drew)
    have XA3 := Lib.hid (show Blk ((w2.alloc (.cells #[.int .i64 x, .int .i64 y, .int .i64 z] 25)).alloc (.cells #[] 25)).drew w2.heap.size #[.int .i64 x, .int .i64 y, .int .i64 z] from ((Blk.new w2 _ _).alloc _).drew)
    clear dr
    go_region_held3 (fun w' => w'.cell? ⟨w.heap.size, 0, none⟩ = some (.int .i64 (m : Int)) ∧ w'.cell? ⟨w.heap.size, 1, none⟩ = some (.slice a l c) ∧ w'.cell? ⟨w.heap.size + 1, 0, none⟩ = some (.int .i64 x) ∧ w'.cell? ⟨w.heap.size + 1, 1, none⟩ = some (.int .i64 y) ∧ w'.cell? ⟨w.heap.size + 1, 2, none⟩ = some (.int .i64 z))
      (first | exact kp5 V1.out V2.out | exact kp5 (V1.out.alloc _) (V2.out.alloc _) | exact kp5 ((V1.out.alloc _).alloc _) ((V2.out.alloc _).alloc _) | exact kp5 (U1.out.alloc _).drew (U2.out.alloc _).drew | exact kp5 ((U1.out.alloc _).alloc _).drew ((U2.out.alloc _).alloc _).drew | exact kp5 C1.out C2.out | exact kp5 (C1.out.alloc _) (C2.out.alloc _) | exact kp5 E1.out E2.out | exact kp5 ((E1.out.far (p := ⟨w.heap.size + 1 + 1, 0, none⟩) (by simp; try omega) _).far (p := ⟨w.heap.size + 1 + 1, 1, none⟩) (by simp; try omega) _) ((E2.out.far (p := ⟨w.heap.size + 1 + 1, 0, none⟩) (by simp; try omega) _).far (p := ⟨w.heap.size + 1 + 1, 1, none⟩) (by simp; try omega) _)) (first
      | (refine step_catB rfl (.tmp 25) (.tmp 27) rfl w2.heap.size (w2.heap.size) 0 [] ?_ Q1.out (.slice a l c) bs ?_ (H.out.below (HB2.out.trans (D1.out.mono sb2))) (by simp; omega) D1.out.size bs rfl ?_; (· simp [Act.eval, Act.put]); (· simp [Act.eval, Act.put]); intro g3 cap3 w3 hI3 hg3; have HBy := Lib.hid (D1.out.grown hg3 D1.out.size (by intro q hq; cases hq; omega)); have LT := Lib.hid (own_ge hI3 (Nat.le_refl _)); have HI := Lib.hid hI3; have S3 := HBy.out.size; have C1 := Lib.hid (U1.out.below HBy.out U1.out.lt); have C2 := Lib.hid (U2.out.below HBy.out U2.out.lt); have C3 := Lib.hid (U3.out.below HBy.out U3.out.lt); clear hI3 hg3; skip)
      | (refine step_catB rfl (.tmp 25) (.tmp 27) rfl w2.heap.size (w2.heap.size) 0 [] ?_ Q2.out (.slice a l c) bs ?_ (H.out.below (HB2.out.trans (D2.out.mono sb2))) (by simp; omega) D2.out.size bs rfl ?_; (· simp [Act.eval, Act.put]); (· simp [Act.eval, Act.put]); intro g3 cap3 w3 hI3 hg3; have HBy := Lib.hid (D2.out.grown hg3 D2.out.size (by intro q hq; cases hq; omega)); have LT := Lib.hid (own_ge hI3 (Nat.le_refl _)); have HI := Lib.hid hI3; have X := Lib.hid (XA2.out.kept hg3 (by simp)); have S3 := HBy.out.size; have C1 := Lib.hid (U1.out.below HBy.out U1.out.lt); have C2 := Lib.hid (U2.out.below HBy.out U2.out.lt); have C3 := Lib.hid (U3.out.below HBy.out U3.out.lt); clear hI3 hg3; skip)
      | (refine step_catB rfl (.tmp 25) (.tmp 27) rfl w2.heap.size (w2.heap.size + 1) 0 [] ?_ Q3.out (.slice a l c) bs ?_ (H.out.below (HB2.out.trans (D3.out.mono sb2))) (by simp; omega) D3.out.size bs rfl ?_; (· simp [Act.eval, Act.put]); (· simp [Act.eval, Act.put]); intro g3 cap3 w3 hI3 hg3; have HBy := Lib.hid (D3.out.grown hg3 D3.out.size (by intro q hq; cases hq; omega)); have LT := Lib.hid (own_ge hI3 (Nat.le_refl _)); have HI := Lib.hid hI3; have X := Lib.hid (XA3.out.kept hg3 (by simp)); have S3 := HBy.out.size; have C1 := Lib.hid (U1.out.below HBy.out U1.out.lt); have C2 := Lib.hid (U2.out.below HBy.out U2.out.lt); have C3 := Lib.hid (U3.out.below HBy.out U3.out.lt); clear hI3 hg3; skip)
      | (refine step_appB1 rfl (.tmp 28) (.tmp 30) rfl w2.heap.size (.slice (some ⟨g3, 0, none⟩) bs.length cap3) bs ?_ HI.out (w2.heap.size + 1) x y z ?_ X.out hl15 ?_ ?_; (· simp [Act.eval, Act.put]); (· simp [Act.eval, Act.put]); (· exact S3); intro g cap' w4 hI4 hg4; have HB4 := Lib.hid (HBy.out.grown hg4 S3 LT.out); have E1 := Lib.hid (C1.out.kept hg4 (lt_ne LT.out (by have := U1.out.lt; omega))); have E2 := Lib.hid (C2.out.kept hg4 (lt_ne LT.out (by have := U2.out.lt; omega))); have E3 := Lib.hid (C3.out.kept hg4 (lt_ne LT.out (by have := U3.out.lt; omega))); obtain ⟨g0, g1, g2⟩ := E3.out.two; have f0 := E3.out.fr 0; have f1 := E3.out.fr 1; have HI4 := Lib.hid hI4; clear hI4 hg4; skip)
      | (refine step_appB1 rfl (.tmp 28) (.tmp 30) rfl w2.heap.size (.slice (some ⟨g3, 0, none⟩) bs.length cap3) bs ?_ HI.out (w2.heap.size) x y z ?_ X.out hl15 ?_ ?_; (· simp [Act.eval, Act.put]); (· simp [Act.eval, Act.put]); (· exact S3); intro g cap' w4 hI4 hg4; have HB4 := Lib.hid (HBy.out.grown hg4 S3 LT.out); have E1 := Lib.hid (C1.out.kept hg4 (lt_ne LT.out (by have := U1.out.lt; omega))); have E2 := Lib.hid (C2.out.kept hg4 (lt_ne LT.out (by have := U2.out.lt; omega))); have E3 := Lib.hid (C3.out.kept hg4 (lt_ne LT.out (by have := U3.out.lt; omega))); obtain ⟨g0, g1, g2⟩ := E3.out.two; have f0 := E3.out.fr 0; have f1 := E3.out.fr 1; have HI4 := Lib.hid hI4; clear hI4 hg4; skip)
      | (refine step_appB1 rfl (.tmp 28) (.tmp 30) rfl w2.heap.size (.slice (some ⟨g3, 0, none⟩) bs.length cap3) bs ?_ (HI.out.below ((Below.refl _ _).alloc (Nat.le_refl _) _)) (w3.heap.size) x y z ?_ (Blk.new w3 _ _) hl15 ?_ ?_; (· simp [Act.eval, Act.put]); (· simp [Act.eval, Act.put]); (· (simp; omega)); intro g cap' w4 hI4 hg4; have HB4 := Lib.hid ((HBy.out.alloc S3 _).grown hg4 (Nat.le_trans S3 (by simp)) LT.out); have E1 := Lib.hid ((C1.out.alloc _).kept hg4 (lt_ne LT.out (by have := U1.out.lt; omega))); have E2 := Lib.hid ((C2.out.alloc _).kept hg4 (lt_ne LT.out (by have := U2.out.lt; omega))); have E3 := Lib.hid ((C3.out.alloc _).kept hg4 (lt_ne LT.out (by have := U3.out.lt; omega))); obtain ⟨g0, g1, g2⟩ := E3.out.two; have f0 := E3.out.fr 0; have f1 := E3.out.fr 1; have HI4 := Lib.hid hI4; clear hI4 hg4; skip))
    all_goals
      have HF := Lib.hid ((E3.out.set 0 (.int .i64 m)).set 1 (.slice (some ⟨g, 0, none⟩) (bs.length + 1) cap'))
      have HR := Lib.hid (((HI4.out.far (p := ⟨w.heap.size + 1 + 1, 0, none⟩) (by simp; omega) (.int .i64 m)).far (p := ⟨w.heap.size + 1 + 1, 1, none⟩) (by simp; omega) (.slice (some ⟨g, 0, none⟩) (bs.length + 1) cap')).mono (B := w.heap.size) sb2)
      have HBf := Lib.hid (((HB2.out.trans (HB4.out.mono sb2)).setCell (p := ⟨w.heap.size + 1 + 1, 0, none⟩) (by simp; omega) (.int .i64 m)).setCell (p := ⟨w.heap.size + 1 + 1, 1, none⟩) (by simp; omega) (.slice (some ⟨g, 0, none⟩) (bs.length + 1) cap'))
      generalize World.setCell _ _ _ = wf at *
      have f0 : wf.cell? ⟨w.heap.size + 1 + 1, 0, none⟩ = some (.int .i64 m) := (HF.out.cell 0).trans (by simp)
      have f1 : wf.cell? ⟨w.heap.size + 1 + 1, 1, none⟩ = some (.slice (some ⟨g, 0, none⟩) (bs.length + 1) cap') := (HF.out.cell 1).trans (by simp)
      go_wp2
      refine bodyPost_ret (v := .tuple #[.agg #[.int .i64 m, .slice (some ⟨g, 0, none⟩) (bs.length + 1) cap'], .bool true]) (by simp [results, Try.results20, go_sem, f0, f1]) rfl ⟨_, by rw [show addN m bs (x, y, z) = m by simp [addN, OKT.out], OKT.out], ?_, HBf.out⟩
      rw [show addL m bs (x, y, z) = bs ++ [(x, y, z)] by simp [addL, OKT.out]]
      exact HR.out
end Go.Proofs.Ytnmeomcoeknjoaa
