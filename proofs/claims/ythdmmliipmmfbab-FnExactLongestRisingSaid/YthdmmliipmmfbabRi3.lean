/- slices.Backward at ints; impl.mostRisingFrom. -/
import Derived.Test.YthdmmliipmmfbabRz
import Derived.Test.YthdmmliipmmfbabRi1
import Derived.Test.YthdmmliipmmfbabQt
import Derived.RangeFuncBox
import Derived.RangeFuncLeaves
import Derived.Shelf.Abstract
import Derived.WalkKit
import Derived.OwnWalkIn
import Derived.TacticsInMore
import Derived.LoopNIn
import Derived.LoopIn
import Derived.RegionIn
import Derived.Sort.CutIn
import Derived.BigGuardIn
import Derived.BigGuardPartIn
import Derived.Laws.EntriesVeiled
namespace Go.Proofs.Ythdmmliipmmfbab
set_option linter.unusedVariables false
open Go.RowKit Go.Shelf
attribute [local go_sem] Oper.semAt_some

/-- 'make([]int, n)' within a fence -/
theorem wpListIn_mkZ {F : Fence} {d : Nat} {ops : Array Oper} {rest : List Oper} {o : Oper} {a : Act} {Q : Exit → Act → World → Prop} {w0 : World} (hgd : o.guard = none) (l c : Operand)
    (ho : o.op = Op.makeSlice 22 l c) (B n : Nat) (N : Int) (hl : a.eval l = .int .i64 N) (hc : a.eval c = .int .i64 N) (hN : N = (n : Int)) (hn : n ≤ 16777216) (hB : B ≤ w0.heap.size)
    (h : ∀ w', Ints w' B (.slice (some ⟨w0.heap.size, 0, none⟩) n n) (List.replicate n 0) → Below B w0 w' → w0.grownBy w' none → wpListIn F d Try.prog ops Q rest (a.put o.dst (.slice (some ⟨w0.heap.size, 0, none⟩) n n)) w') :
    wpListIn F d Try.prog ops Q (o :: rest) a w0 := by
  obtain ⟨i0, hi, hz0, hz1, hz2⟩ := info_parts Try.infoInt
  refine wpListIn_plain hgd fun K hK' => ?_
  obtain ⟨w', hrun, r1, r2⟩ := run_make_full (P := Try.prog) w0 B 22 3 i0 (.int .i64 0) 1 Try.underlying22 hi hz0 hz1 .i64 .i64 n (by rw [hz2]; omega) (by unfold maxLen; omega) hB
  subst hN
  unfold Oper.wpIn
  refine ⟨?_, ?_⟩
  · simp [Oper.about, ho]
  · rw [Oper.semAt_plain F _ _ (by rw [ho]; intro c hc'; cases hc')]
    simp [execOp, ho, hl, hc, hrun, Result.andThen]
    refine hK' _ _ (h w' ?_ ((Below.refl _ _).grown r2 hB (by intro k hk; cases hk)) r2)
    unfold Ints i64s
    rw [List.length_replicate, List.map_replicate]
    have e : (madeCells (Value.int .i64 0).cells (n * 1)).toList = List.replicate n (Value.int .i64 0) := by
      rw [Nat.mul_one]; exact toList_madeCells_one _ _
    rw [← e]
    exact r1


/-- what has come when k rounds are over -/
def downs (L : List Int) (n : Nat) : Nat → List (Nat × Int)
  | 0 => []
  | k + 1 => downs L n k ++ [(n - 1 - k, gt L (n - 1 - k))]
theorem downs_len (L : List Int) (n : Nat) : ∀ k, (downs L n k).length = k
  | 0 => rfl
  | k + 1 => by simp [downs, downs_len L n k]

set_option maxRecDepth 100000 in
set_option maxHeartbeats 2000000 in
theorem backZ (n : Nat) (hn : 1 ≤ n) (l Bs b off len cap : Nat) (E : Nat → Prop) (L : List Int) (hlen : len = L.length) (hl : len ≤ 262144) (hEs : ∀ k, E k ∨ k = l → k ≠ Bs ∧ k ≠ b) (J Jx : List (Nat × Int) → World → Prop)
    (hY : ∀ pre x W, J pre W → x.1 < L.length ∧ x.2 = gt L x.1 ∧ x.1 + pre.length + 1 = L.length → pre.length < len → YieldAt Fence.wide (n - 1) Try.prog l #[.int .i64 (x.1 : Int), .int .i64 x.2] W fun e W' =>
      (e = .returned (.bool true) ∧ J (pre ++ [x]) W' ∧ KeepE (fun k => E k ∨ k = l) W W') ∨ (e = .returned (.bool false) ∧ Jx (pre ++ [x]) W'))
    (W : World) (hBw : Bs < W.heap.size) (hbw : b < W.heap.size) (hBs : W.cell? ⟨Bs, 0, none⟩ = some (.slice (some ⟨b, off, none⟩) len cap)) (hc : ∀ j, j < len → W.cell? ⟨b, off + j, none⟩ = some (.int .i64 (gt L j))) (h0 : J [] W) :
    CallsIn Fence.wide n Try.prog 50 #[.func (.yield l) #[] #[], .pointer (some ⟨Bs, 0, none⟩)] W fun e W' => (∃ v, e = .returned v) ∧
      ((∃ xs, xs = downs L len len ∧ J xs W') ∨ ∃ pre, (∃ k, k ≤ len ∧ pre = downs L len k) ∧ Jx pre W') := by
  have HLEN := Lib.hid hlen
  have HE1 := Lib.hid (fun e => (hEs Bs e).1 rfl)
  have HE2 := Lib.hid (fun e => (hEs b e).2 rfl)
  clear hlen
  refine callsIn_of_wp Try.func50 rfl trivial ?_ rfl
  simp only [Try.ntmps50, List.size_toArray, List.length_cons, List.length_nil, Nat.reduceAdd, Nat.reduceSub, Array.replicate_succ, Array.replicate_zero, List.push_toArray, List.append_toArray, List.nil_append, List.cons_append]
  gi_wp2
  gi_loopw [3] (fun i wr => ∃ k : Nat, k ≤ len ∧ i = .int .i64 ((len : Int) - 1 - k) ∧ J (downs L len k) wr ∧ Hid (KeepE (fun k => E k ∨ k = l) W wr))
    (fun i _ => (intOf i + 1).toNat)
  case atStart => exact ⟨0, Nat.zero_le _, by simp, h0, Lib.hid (KeepE.refl _ _)⟩
  case round =>
    obtain ⟨k, hk, rfl, hJs, hnx⟩ := hrel
    have hbx := (World.cell?_of_block (a := ⟨Bs, 0, none⟩) (hnx.out.block Bs hBw HE1.out)).trans hBs
    by_cases hlt : k < len
    · obtain ⟨m, hm⟩ : ∃ m, m = len - 1 - k := ⟨_, rfl⟩
      have hmi : (len : Int) - 1 - k = (m : Int) := by omega
      have hml : m < len := by omega
      have hmli : (m : Int) < len := by omega
      have hcx := (World.cell?_of_block (a := ⟨b, off + m, none⟩) (hnx.out.block b hbw HE2.out)).trans (hc m hml)
      obtain ⟨fn, tmps, assign, body, hy, hR⟩ := hY _ (m, gt L m) wr hJs ⟨by have := HLEN.out; show m < L.length; omega, rfl, by rw [downs_len]; have := HLEN.out; show m + k + 1 = L.length; omega⟩ (by rw [downs_len]; exact hlt)
      dsimp only at hy
      have HS := Lib.hid (show downs L len (k + 1) = downs L len k ++ [(m, gt L m)] by rw [hm]; rfl)
      rw [hmi]
      have HM := Lib.hid hm
      clear hm
      generalize gt L m = y at *
      gi_wp2
      refine hR.mono ?_
      rintro e W3 (⟨rfl, hJ3, hk3⟩ | ⟨rfl, hJx3⟩)
      · gi_wp2
        go_roundw
        case rel => exact ⟨k + 1, by omega, (by congr 1 <;> (have := HM.out; omega)), by rw [HS.out]; exact hJ3, Lib.hid (hnx.out.trans hk3 fun _ _ e => e)⟩
        case measure => (simp [intOf]; try omega)
      · gi_wp2
        refine bodyPost_ret (results_none rfl _ _ _) rfl ?_
        exact ⟨⟨_, rfl⟩, .inr ⟨_, ⟨k + 1, by omega, HS.out.symm⟩, hJx3⟩⟩
    · obtain rfl : k = len := by omega
      gi_wp2
      go_end0
      exact ⟨⟨_, rfl⟩, .inl ⟨_, rfl, hJs⟩⟩
theorem backCZ (n : Nat) (a : Option Addr) (len cap : Nat) (w : World) :
    CallsIn Fence.wide n Try.prog 48 #[.slice a len cap] w fun e w' => e = .returned (.func (.func 50) #[] #[.pointer (some ⟨w.heap.size, 0, none⟩)]) ∧ w' = w.alloc (.cells #[.slice a len cap] 22) := by
  refine callsIn_of_wp Try.func48 rfl trivial ?_ rfl
  simp only [Try.ntmps48, List.size_toArray, List.length_cons, List.length_nil, Nat.reduceAdd, Nat.reduceSub, Array.replicate_succ, Array.replicate_zero, List.push_toArray, List.append_toArray, List.nil_append, List.cons_append]
  gi_wp2
  go_ret
  exact ⟨rfl, rfl⟩
attribute [local go_sem] wide_fn wide_depth
attribute [local simp] wide_fn wide_depth
/-- what stands when k rounds are over -/
def mst (zs : List Int) (k j : Nat) : Int := if zs.length ≤ j + k then (ms zs j : Int) else 0
set_option maxHeartbeats 8000000 in
set_option maxRecDepth 100000 in
theorem mostRising (v : Value) (zs : List Int) (w : World) (h : Rd w v zs) (hz1 : 1 ≤ zs.length ∧ zs.length ≤ 8) :
    Calls Try.prog 41 #[v] w fun e w' => ∃ g, e = .returned (.slice (some ⟨g, 0, none⟩) zs.length zs.length) ∧ Ints w' w.heap.size (.slice (some ⟨g, 0, none⟩) zs.length zs.length) (fl zs.length (fun j => (ms zs j : Int))) ∧ Below w.heap.size w w' := by
  obtain ⟨b, off, n, cap, rfl, hnz, hnc, hc9, hbw, hcell⟩ := h.openP (by omega)
  rw [← hnz] at hz1 ⊢
  have HN := Lib.hid hnz
  have HC := Lib.hid hcell
  have bx1 := Boxed.new w 22 (.slice (some ⟨b, off, none⟩) n cap)
  have bb1 : Below w.heap.size w (w.alloc (.cells #[.slice (some ⟨b, off, none⟩) n cap] 22)) := (Below.refl _ _).alloc (Nat.le_refl _) _
  have hs1 : (w.alloc (.cells #[.slice (some ⟨b, off, none⟩) n cap] 22)).heap.size = w.heap.size + 1 := by simp
  have c1 := bx1.cell
  clear h hcell hnz
  refine (callsIn_wide (n := 9)).1 ?_
  refine callsIn_of_wp_marks Try.func41 rfl trivial ?_ rfl
  simp only [Try.ntmps41, List.size_toArray, List.length_cons, List.length_nil, Nat.reduceAdd, Nat.reduceSub, Array.replicate_succ, Array.replicate_zero, List.push_toArray, List.append_toArray, List.nil_append, List.cons_append]
  generalize hw1 : w.alloc (.cells #[.slice (some ⟨b, off, none⟩) n cap] 22) = w1 at bx1 bb1 hs1 c1
  gi_wp2_with (first
    | (gi_at_make; refine wpListIn_mkZ rfl _ _ rfl w1.heap.size n _ rfl rfl rfl (by omega) (Nat.le_refl _) ?_; intro w2 hI hb2 hg2; have HI := Lib.hid hI; have HB2 := Lib.hid hb2; have bx2 := boxB bx1 hb2; have c1 := bx2.cell; have c2 : (w2.alloc (.cells #[.slice (some ⟨w.heap.size + 1, 0, none⟩) n n] 22)).cell? ⟨w.heap.size, 0, none⟩ = some (.slice (some ⟨b, off, none⟩) n cap) := (bx2.alloc _).cell; clear hI hb2 hg2)
    | ((first | gi_at_call 48 | (refine ⟨trivial, ?_⟩; gi_at_call 48)); refine (backCZ _ _ _ _ _).mono ?_; rintro e w' ⟨rfl, rfl⟩))
  have bx3 := bx2.alloc (.cells #[.slice (some ⟨w.heap.size + 1, 0, none⟩) n n] 22)
  have bp3 := Boxed.new w2 22 (.slice (some ⟨w.heap.size + 1, 0, none⟩) n n)
  have bx4 := bx3.alloc (.cells #[.slice (some ⟨b, off, none⟩) n cap] 22)
  have bp4 := bp3.alloc (.cells #[.slice (some ⟨b, off, none⟩) n cap] 22)
  have bs4 := Boxed.new (w2.alloc (.cells #[.slice (some ⟨w.heap.size + 1, 0, none⟩) n n] 22)) 22 (.slice (some ⟨b, off, none⟩) n cap)
  have hsz3 : (w2.alloc (.cells #[.slice (some ⟨w.heap.size + 1, 0, none⟩) n n] 22)).heap.size = w2.heap.size + 1 := by simp
  rw [hsz3] at bs4
  have hb34 : Below w2.heap.size w2 ((w2.alloc (.cells #[.slice (some ⟨w.heap.size + 1, 0, none⟩) n n] 22)).alloc (.cells #[.slice (some ⟨b, off, none⟩) n cap] 22)) := ((Below.refl _ _).alloc (Nat.le_refl _) _).alloc (by simp) _
  have hI4 := HI.out.below hb34
  rw [hs1] at hI4
  have hblk := hI4.blk
  have hs2 := HB2.out.size
  have hB4 : Below w.heap.size w ((w2.alloc (.cells #[.slice (some ⟨w.heap.size + 1, 0, none⟩) n n] 22)).alloc (.cells #[.slice (some ⟨b, off, none⟩) n cap] 22)) := (bb1.trans (HB2.out.mono (by omega))).trans (hb34.mono (by omega))
  have hsz : ((w2.alloc (.cells #[.slice (some ⟨w.heap.size + 1, 0, none⟩) n n] 22)).alloc (.cells #[.slice (some ⟨b, off, none⟩) n cap] 22)).heap.size = w2.heap.size + 2 := by simp
  have hPS : w.heap.size + 2 ≤ w2.heap.size := by have := (HI.out.blk).2; omega
  have hcl : ∀ j, j < n → ((w2.alloc (.cells #[.slice (some ⟨w.heap.size + 1, 0, none⟩) n n] 22)).alloc (.cells #[.slice (some ⟨b, off, none⟩) n cap] 22)).cell? ⟨b, off + j, none⟩ = some (.int .i64 (gt zs j)) := fun j hj => (hB4.cell (p := ⟨b, off + j, none⟩) hbw).trans (HC.out j hj)
  have hI5 : Ints ((w2.alloc (.cells #[.slice (some ⟨w.heap.size + 1, 0, none⟩) n n] 22)).alloc (.cells #[.slice (some ⟨b, off, none⟩) n cap] 22)) (w.heap.size + 1) (.slice (some ⟨w.heap.size + 1, 0, none⟩) n n) (fl n (mst zs 0)) := by
    rw [fl_rep] at hI4
    rw [show fl n (mst zs 0) = fl n (fun _ => (0 : Int)) from fl_ext fun j hj => by unfold mst; rw [if_neg (by have := HN.out; omega)]]
    exact hI4
  generalize hW2 : (w2.alloc (.cells #[.slice (some ⟨w.heap.size + 1, 0, none⟩) n n] 22)).alloc (.cells #[.slice (some ⟨b, off, none⟩) n cap] 22) = W2 at *
  clear hw1 hW2 hI4 hb34 HI HB2 bx1 bx2 bx3 bp3 c1 c2 bb1 hs1 hs2 hsz3 hblk
  generalize hP : w2.heap.size = P at *
  generalize hS : w.heap.size = S at *
  have HS := Lib.hid hS
  have hbS : b < S := by omega
  clear hP
  have SEQ : ∀ (l : Nat) (J Jx : List (Nat × Int) → World → Prop) (W : World), Below W2.heap.size W2 W → W2.heap.size ≤ l → l < W.heap.size → LowI W.heap.size J →
      (∀ pre x W1, J pre W1 → (x.1 < zs.length ∧ x.2 = gt zs x.1 ∧ x.1 + pre.length + 1 = zs.length) → pre.length < n → YieldAt Fence.wide (9 - 1 - 1) Try.prog l #[.int .i64 (x.1 : Int), .int .i64 x.2] W1 fun e W' =>
        (e = .returned (.bool true) ∧ J (pre ++ [x]) W' ∧ KeepE (fun k => k = S + 1 ∨ k = l) W1 W') ∨ (e = .returned (.bool false) ∧ Jx (pre ++ [x]) W')) → J [] W →
      CallsIn Fence.wide (9 - 1) Try.prog 50 (#[.func (.yield l) #[] #[]] ++ #[.pointer (some ⟨P + 1, 0, none⟩)]) W fun e W' => (∃ v, e = .returned v) ∧ ((∃ xs, xs = downs zs n n ∧ J xs W') ∨ (∃ pre, (∃ k, k ≤ n ∧ pre = downs zs n k) ∧ Jx pre W')) := by
    intro l J Jx W hb hl1 hl2 hJ hY hj
    have := hb.size
    exact backZ 8 (by decide) l (P + 1) b off n cap (fun k => k = S + 1) zs HN.out (by omega) (fun k e => by omega) J Jx hY W (by omega) (by omega) ((hb.cell (p := ⟨P + 1, 0, none⟩) (by show P + 1 < _; omega)).trans bs4.cell) (fun j hj => (hb.cell (p := ⟨b, off + j, none⟩) (by show b < _; omega)).trans (hcl j hj)) hj
  refine wpIn_range_X rfl (by decide) (gf := 50) (lb := #[.pointer (some ⟨P + 1, 0, none⟩)]) rfl trivial (enters_of Try.func50 (by kernel_rfl) rfl)
    (encs := fun x : Nat × Int => #[.int .i64 (x.1 : Int), .int .i64 x.2]) (Fx := fun pre x W => x.1 < zs.length ∧ x.2 = gt zs x.1 ∧ x.1 + pre.length + 1 = zs.length) (E := fun k => k = S + 1) (S := fun xs => xs = downs zs n n) (Sp := fun pre => ∃ k, k ≤ n ∧ pre = downs zs n k) (N := n)
    (fun k e => by omega) SEQ (fun _ => rfl) (fun pre x _ A B row hs hg hr => hs)
    (fun pre W => Boxed W S 22 (.slice (some ⟨b, off, none⟩) n cap) ∧ Boxed W P 22 (.slice (some ⟨S + 1, 0, none⟩) n n) ∧ Ints W (S + 1) (.slice (some ⟨S + 1, 0, none⟩) n n) (fl n (mst zs pre.length)) ∧ Below S w W)
    (fun c pre W => False)
    (fun s A B row hs hg hr => ⟨boxLow hs.1 hg (fun r e => hr r e) (by omega), boxLow hs.2.1 hg (fun r e => hr r e) (by omega), hs.2.2.1.kept hg (.inr (by intro e; have := hr (S + 1) e.symm; omega)), hs.2.2.2.grown hg (by have := hs.2.2.2.size; omega) (fun k e => Nat.le_trans (by omega) (hr k e))⟩)
    (fun c s A B row hs hg hr => hs)
    ⟨bx4, bp4, hI5, hB4⟩
    (fun x => { tmps := #[.slice (some ⟨b, off, none⟩) n cap, .pointer (some ⟨S, 0, none⟩), .slice none 0 0, .pointer (some ⟨P, 0, none⟩), .int .i64 (x.1 : Int), .int .i64 x.2, undef, .slice (some ⟨b, off, none⟩) n cap, .int .i64 (n : Int), .slice (some ⟨S + 1, 0, none⟩) n n, .slice (some ⟨b, off, none⟩) n cap, .func (.func 50) #[] #[.pointer (some ⟨P + 1, 0, none⟩)], .int .i64 (x.1 : Int), .int .i64 x.2, undef, undef, undef, undef, undef, undef, undef, undef, undef, undef, undef, undef, undef, undef, undef, undef, undef, undef, undef, undef, undef, undef, undef, undef, undef, undef, undef, undef, undef, undef, undef, undef, undef], defers := [] }) ?assign ?body ?done ?stop
  case assign =>
    intro l x W K hK
    gi_wp2
    exact hK
  case body =>
    rintro l pre ⟨xi, y⟩ W ⟨x0, x1, hM, hB⟩ ⟨hx1, hx2, hx3⟩ hlen
    dsimp only at hx1 hx2 hx3
    obtain ⟨k, hk⟩ : ∃ k, k = pre.length := ⟨_, rfl⟩
    have hlen2 : (pre ++ [(xi, y)]).length = k + 1 := by rw [hk]; simp
    rw [← hk] at hM hx3 hlen
    have FIN : Hid (∀ (a : Act) W', KeepE (fun k => k = S + 1) W W' → Ints W' (S + 1) (.slice (some ⟨S + 1, 0, none⟩) n n) (fl n (mst zs (k + 1))) → Below S w W' →
        postX (fun k => k = S + 1) (fun pre W => Boxed W S 22 (.slice (some ⟨b, off, none⟩) n cap) ∧ Boxed W P 22 (.slice (some ⟨S + 1, 0, none⟩) n n) ∧ Ints W (S + 1) (.slice (some ⟨S + 1, 0, none⟩) n n) (fl n (mst zs pre.length)) ∧ Below S w W) (fun c pre W => False) (pre ++ [(xi, y)]) W .normal a W') := Lib.hid (fun a W' hk' hi hb => ⟨hk', boxE x0 hk' (by omega), boxE x1 hk' (by omega), by rw [hlen2]; exact hi, hb⟩)
    have X0 := Lib.hid x0
    have X1 := Lib.hid x1
    have hz8 : zs.length ≤ 8 := by have := HN.out; omega
    have hxn : xi < n := by have := HN.out; omega
    have hkn : xi + k + 1 = n := by have := HN.out; omega
    have EM := Lib.hid (show ms zs xi = 1 + mxG zs (ms zs) (xi + 1) y (n - (xi + 1)) by rw [HN.out, hx2]; exact ms_at hz8 hx1)
    have hML := Lib.hid (fun j => ms_le (zs := zs) j)
    have hM2 : Hid (Ints W (S + 1) (.slice (some ⟨S + 1, 0, none⟩) n n) (fl n (fun i => if i = xi then ((0 : Nat) : Int) else mst zs k i))) := Lib.hid (by
      rw [show fl n (fun i => if i = xi then ((0 : Nat) : Int) else mst zs k i) = fl n (mst zs k) from fl_ext fun i hi => by
        by_cases e : i = xi
        · rw [if_pos e, e]; unfold mst; rw [if_neg (by have := HN.out; omega)]; rfl
        · rw [if_neg e]]
      exact hM)
    have HB := Lib.hid hB
    have HSW : Hid (S ≤ W.heap.size) := Lib.hid (by have := hB.size; have := HS.out; omega)
    clear SEQ hM hB x0 x1 bx4 bp4 bs4 hcl hI5 hB4 hx1 hx2 hx3 hlen hlen2 hk hz8
    gi_wp2
    gi_loopw [6] (fun i wr => ∃ j cur : Nat, xi + 1 ≤ j ∧ j ≤ n ∧ i = .int .i64 j ∧ cur ≤ 9 ∧ Hid (max cur (mxG zs (ms zs) j y (n - j)) = mxG zs (ms zs) (xi + 1) y (n - (xi + 1))) ∧ Hid (Ints wr (S + 1) (.slice (some ⟨S + 1, 0, none⟩) n n) (fl n (fun i => if i = xi then (cur : Int) else mst zs k i))) ∧ Hid (KeepE (fun k => k = S + 1) W wr) ∧ Hid (Below S w wr)) (fun i _ => n - (intOf i).toNat)
    case atStart => exact ⟨xi + 1, 0, Nat.le_refl _, by omega, by simp, by omega, Lib.hid (by simp), hM2, Lib.hid (KeepE.refl _ _), HB⟩
    case round =>
      clear hM2
      obtain ⟨j, cur, hj1, hj, rfl, hcur, HF, HI, HK, HBW⟩ := hrel
      have y0 := boxE X0.out HK.out (by omega)
      have y1 := boxE X1.out HK.out (by omega)
      have d0 := y0.cell
      have d1 := y1.cell
      have hwr := HK.out.size
      by_cases hlt : j < n
      · have hlt' : (j : Int) < n := by omega
        have cj := (HBW.out.cell (p := ⟨b, off + j, none⟩) hbS).trans (HC.out j hlt)
        have EF := Lib.hid (show max cur (if y < gt zs j then max (ms zs j) (mxG zs (ms zs) (j + 1) y (n - (j + 1))) else mxG zs (ms zs) (j + 1) y (n - (j + 1))) = mxG zs (ms zs) (xi + 1) y (n - (xi + 1)) by
          have := HF.out
          rw [show n - j = (n - (j + 1)) + 1 by omega, mxG] at this
          exact this)
        by_cases hyj : y < gt zs j
        · have hmj : mst zs k j = (ms zs j : Int) := by unfold mst; rw [if_pos (by have := HN.out; omega)]
          have cx := HI.out.at_ hxn
          have cy := HI.out.at_ hlt
          rw [if_pos rfl] at cx
          rw [if_neg (by omega), hmj] at cy
          have HIQ := Lib.hid (fun q => HI.out.below (below_drewN (Below.refl wr.heap.size wr) q))
          have HKQ := Lib.hid (fun q => HK.out.trans (KeepE.of_below (E := fun k => k = S + 1) (below_drewN (Below.refl wr.heap.size wr) q)) fun _ _ e => e)
          have HBQ := Lib.hid (fun q => below_drewN HBW.out q)
          have hm9 := hML.out j
          have E2 := Lib.hid (show max (max cur (ms zs j)) (mxG zs (ms zs) (j + 1) y (n - (j + 1))) = mxG zs (ms zs) (xi + 1) y (n - (xi + 1)) by have := EF.out; rw [if_pos hyj] at this; rw [← this]; omega)
          have hxi' : (xi : Int) < n := by omega
          clear EF HF HI hmj HBW HK
          generalize gt zs j = q at *
          generalize ms zs j = r at *
          have hmx : max (cur : Int) (r : Int) = ((max cur r : Nat) : Int) := by omega
          have hm99 : max cur r ≤ 9 := by omega
          obtain ⟨t, ht⟩ : ∃ t, t = max cur r := ⟨_, rfl⟩
          have HTM := Lib.hid ht
          rw [← ht] at hm99 hmx E2
          clear ht
          gi_upto_region 9 with fail
          refine wpIn_region_quiet_tail 12 (fun _ => trivial) rfl (fun h => callsIn_wide.2 h) (by kernel_rfl) (by kernel_rfl) (by kernel_rfl) ?_
          simp only [List.take_succ_cons, List.take_zero, List.drop_succ_cons, List.drop_zero]
          repeat (quiet_step (fail))
          refine wpQuiet_nil ?_
          intro _ hw'
          obtain ⟨nq, rfl⟩ := hw'
          have S2 := (HIQ.out nq).put xi (t : Int)
          have cf := (HIQ.out nq).fr_ xi
          have cx2 := (HIQ.out nq).at_ hxn
          rw [if_pos rfl] at cx2
          rw [show fl n (fun i => if i = xi then (t : Int) else if i = xi then (cur : Int) else mst zs k i) = fl n (fun i => if i = xi then (t : Int) else mst zs k i) from fl_ext fun i hi => by
            by_cases e : i = xi
            · rw [if_pos e, if_pos e]
            · rw [if_neg e, if_neg e, if_neg e]] at S2
          have KK := Lib.hid ((HKQ.out nq).trans (KeepE.of_grown (E := fun k => k = S + 1) S2.2 fun k e _ => by cases e; rfl) fun _ _ e => e)
          have BB := Lib.hid ((HBQ.out nq).grown S2.2 (by have := (HBQ.out nq).size; have := HS.out; omega) (by intro q hq; cases hq; omega))
          have II := Lib.hid S2.1
          clear S2 HIQ HKQ HBQ cx cy cj d0 d1 y0 y1
          generalize World.drewN wr nq = wd at *
          gi_wp2
          have hif : (if cur < r then (r : Int) else (cur : Int)) = (t : Int) := by rw [HTM.out]; split <;> omega
          rw [hif]
          exact ⟨⟨j + 1, t, by omega, by omega, by go_num, hm99, E2, II, KK, BB⟩, by simp [intOf]; omega⟩
        · have E2 := Lib.hid (show max cur (mxG zs (ms zs) (j + 1) y (n - (j + 1))) = mxG zs (ms zs) (xi + 1) y (n - (xi + 1)) by have := EF.out; rw [if_neg hyj] at this; exact this)
          clear EF HF
          generalize gt zs j = q at *
          gi_wp2
          go_roundw
          case rel => exact ⟨j + 1, cur, by omega, by omega, by go_num, hcur, E2, HI, HK, HBW⟩
          case measure => (simp [intOf]; try omega)
      · obtain rfl : j = n := by omega
        have hce := HI.out.at_ hxn
        have hcf := HI.out.fr_ xi
        rw [if_pos rfl] at hce
        have EC : ms zs xi = 1 + cur := by have h1 := HF.out; rw [Nat.sub_self, mxG] at h1; have := EM.out; omega
        have S2 := HI.out.put xi ((cur : Int) + 1)
        rw [show fl j (fun i => if i = xi then (cur : Int) + 1 else if i = xi then (cur : Int) else mst zs k i) = fl j (mst zs (k + 1)) from fl_ext fun i hi => by
          by_cases e : i = xi
          · rw [if_pos e, e]; unfold mst; rw [if_pos (by have := HN.out; omega), EC]; push_cast; omega
          · rw [if_neg e, if_neg e]; unfold mst
            by_cases c : zs.length ≤ i + k
            · rw [if_pos c, if_pos (by omega)]
            · rw [if_neg c, if_neg (by have := HN.out; omega)]] at S2
        have KK := Lib.hid (HK.out.trans (KeepE.of_grown (E := fun k => k = S + 1) S2.2 fun k e _ => by cases e; rfl) fun _ _ e => e)
        have BB := Lib.hid (HBW.out.grown S2.2 (by have := HBW.out.size; have := HS.out; omega) (by intro q hq; cases hq; omega))
        have II := Lib.hid S2.1
        clear S2 EC HF HI
        gi_wp2
        exact FIN.out _ _ KK.out II.out BB.out
  case done =>
    rintro D xs W hD hxs ⟨x0, x1, hM, hB⟩ hK
    have hm : xs.length = n := by rw [hxs, downs_len]
    rw [hm] at hM
    have E := Lib.hid (show fl n (mst zs n) = fl n (fun j => (ms zs j : Int)) from fl_ext fun j hj => by unfold mst; rw [if_pos (by have := HN.out; omega)])
    have c3 := x1.cell
    clear SEQ bx4 bp4 bs4 hcl x0
    gi_wp2
    refine ⟨by simp, .inl ⟨_, _, rfl, run_takeDeferred hK, ?_⟩⟩
    refine ⟨_, results_tmp rfl _ _ _, S + 1, rfl, ?_, ?_⟩
    · rw [← E.out]; exact ints_mono' (hM.kept (grownBy_putObj' _ D _) (.inr (fun e => by have : S + 1 = D := Option.some.inj e; omega))) (by omega)
    · exact HS.out ▸ hB.trans (belowK_b (w := W2) (by omega) _ D _ _ hD hK rfl rfl)
  case stop =>
    rintro D c pre W hD hpre hx hK
    exact hx.elim
end Go.Proofs.Ythdmmliipmmfbab
