/- Slices of bridges: what they read as; slices of the call's own; the laws' helpers on bridges. -/
import Derived.Test.YtcpipacombnhdaaIl
import Derived.Test.YtcpipacombnhdaaRv
import Derived.Test.YtcpipacombnhdaaBk
import Derived.Deep.RegionHeld3
import Derived.Deep.RegionLaw
import Derived.Deep.RegionWith
import Derived.Deep.CutRange
import Derived.Deep.DeepCutAuto
namespace Go.Proofs.Ytcpipacombnhdaa
set_option linter.unusedVariables false
open Go.RowKit

theorem Try.infoBr : (Try.prog.info? 42).map (fun i => (i.zero, i.size, i.bytes)) = some (some (.agg #[.int .i64 0, .int .i64 0, .int .i64 0]), 3, 24) := by kernel_rfl
def bcs (bs : List Br) : List Value := bs.flatMap fun b => [.int .i64 b.1, .int .i64 b.2.1, .int .i64 b.2.2]
theorem bcs_len (bs : List Br) : (bcs bs).length = bs.length * 3 := by
  induction bs with
  | nil => rfl
  | cons b bs ih => simp [bcs] at *; omega
theorem bcs_app (bs cs : List Br) : bcs (bs ++ cs) = bcs bs ++ bcs cs := by simp [bcs]
theorem bcs_snoc (bs : List Br) (x y z : Int) : bcs bs ++ [.int .i64 x, .int .i64 y, .int .i64 z] = bcs (bs ++ [(x, y, z)]) := by simp [bcs]
theorem gb_zero (b : Br) (bs : List Br) : gb (b :: bs) 0 = b := rfl
theorem gb_succ (b : Br) (bs : List Br) (j : Nat) : gb (b :: bs) (j + 1) = gb bs j := rfl
theorem bcs_at (bs : List Br) (j : Nat) (h : j < bs.length) : (bcs bs)[j * 3]? = some (.int .i64 (gb bs j).1) ∧ (bcs bs)[j * 3 + 1]? = some (.int .i64 (gb bs j).2.1) ∧ (bcs bs)[j * 3 + 2]? = some (.int .i64 (gb bs j).2.2) := by
  induction bs generalizing j with
  | nil => simp at h
  | cons b bs ih =>
    cases j with
    | zero => simp [bcs, gb]
    | succ j =>
      have := ih j (by simpa using h)
      have e : bcs (b :: bs) = [.int .i64 b.1, .int .i64 b.2.1, .int .i64 b.2.2] ++ bcs bs := by simp [bcs]
      rw [e, List.getElem?_append_right (by simp; try omega), List.getElem?_append_right (by simp; try omega), List.getElem?_append_right (by simp; try omega), gb_succ]
      simp only [List.length_cons, List.length_nil]
      rw [show (j + 1) * 3 - (0 + 1 + 1 + 1) = j * 3 from by omega, show (j + 1) * 3 + 1 - (0 + 1 + 1 + 1) = j * 3 + 1 from by omega, show (j + 1) * 3 + 2 - (0 + 1 + 1 + 1) = j * 3 + 2 from by omega]
      exact this

/-- the three cells of a bridge -/
def BrAt (w : World) (b o : Nat) (x : Br) : Prop := w.cell? ⟨b, o, none⟩ = some (.int .i64 x.1) ∧ w.cell? ⟨b, o + 1, none⟩ = some (.int .i64 x.2.1) ∧ w.cell? ⟨b, o + 2, none⟩ = some (.int .i64 x.2.2)
/-- the slice v reads as bs -/
def RdB (w : World) (v : Value) (bs : List Br) : Prop :=
  ∃ a n c, v = .slice a n c ∧ n = bs.length ∧ (n ≤ c ∧ (a = none → c = 0)) ∧ c ≤ maxLen ∧ ∀ j, j < n → ∃ b off, a = some ⟨b, off, none⟩ ∧ b < w.heap.size ∧ BrAt w b (off + j * 3) (gb bs j)
/-- the slice v of the call's own, at blocks from B on, holds bs -/
def Brs (w : World) (B : Nat) (v : Value) (bs : List Br) : Prop := w.ownsRow B 42 3 v bs.length (bcs bs)

theorem BrAt.below {w w' : World} {b o B : Nat} {x : Br} (h : BrAt w b o x) (hb : b < B) (hbel : Below B w w') : BrAt w' b o x :=
  ⟨(hbel.cell (p := ⟨b, o, none⟩) hb).trans h.1, (hbel.cell (p := ⟨b, o + 1, none⟩) hb).trans h.2.1, (hbel.cell (p := ⟨b, o + 2, none⟩) hb).trans h.2.2⟩
theorem RdB.below {w w' : World} {v : Value} {bs : List Br} (h : RdB w v bs) (hb : Below w.heap.size w w') : RdB w' v bs := by
  obtain ⟨a, n, c, rfl, hn, hc, hm, hcell⟩ := h
  refine ⟨a, n, c, rfl, hn, hc, hm, fun j hj => ?_⟩
  obtain ⟨b, off, e, hlt, hA⟩ := hcell j hj
  exact ⟨b, off, e, Nat.lt_of_lt_of_le hlt hb.size, hA.below hlt hb⟩
theorem Brs.rd {w : World} {B : Nat} {v : Value} {bs : List Br} (h : Brs w B v bs) : RdB w v bs := by
  have h' := h
  rcases h.2 with ⟨rfl, h0⟩ | ⟨g, cap, cur, rfl, hb, hg, hn, hc, hs, ht⟩
  · exact ⟨_, _, _, rfl, h0.symm, ⟨by omega, fun _ => rfl⟩, by unfold maxLen; omega, fun j hj => absurd hj (by omega)⟩
  · refine ⟨_, _, _, rfl, rfl, ⟨hn, fun h => by cases h⟩, hc, fun j hj => ⟨g, 0, rfl, (Array.getElem?_eq_some_iff.1 hg).1, ?_⟩⟩
    have := bcs_at bs j hj
    refine ⟨?_, ?_, ?_⟩
    · rw [Nat.zero_add, World.ownsRow.cellAt h' (j * 3) (by omega)]; exact this.1
    · rw [Nat.zero_add, World.ownsRow.cellAt h' (j * 3 + 1) (by omega)]; exact this.2.1
    · rw [Nat.zero_add, World.ownsRow.cellAt h' (j * 3 + 2) (by omega)]; exact this.2.2
theorem Brs.below {w w' : World} {B : Nat} {v : Value} {bs : List Br} (h : Brs w B v bs) (hb : Below w.heap.size w w') : Brs w' B v bs := by
  refine ⟨h.1, ?_⟩
  rcases h.2 with h2 | ⟨g, cap, cur, e, h1, hg, h3, h4, h5, h6⟩
  · exact .inl h2
  · exact .inr ⟨g, cap, cur, e, h1, (hb.block g (Array.getElem?_eq_some_iff.1 hg).1).trans hg, h3, h4, h5, h6⟩
theorem Brs.mono {w : World} {B B' : Nat} {v : Value} {l : List Br} (h : Brs w B' v l) (hb : B ≤ B') : Brs w B v l := by
  refine ⟨h.1, ?_⟩
  rcases h.2 with h2 | ⟨g, cap, cur, e, h1, r⟩
  · exact .inl h2
  · exact .inr ⟨g, cap, cur, e, Nat.le_trans hb h1, r⟩
theorem Brs.lt {w : World} {B : Nat} {v : Value} {bs : List Br} (h : Brs w B v bs) : ∀ k, v.ownBlock = some k → B ≤ k ∧ k < w.heap.size := World.ownsRow.lt h
theorem Brs.kept {w w' : World} {B : Nat} {v : Value} {bs : List Br} {r : Option Nat} (h : Brs w B v bs) (hg : w.grownBy w' r) (hr : v.ownBlock = none ∨ v.ownBlock ≠ r) : Brs w' B v bs := World.ownsRow.kept h hg hr
theorem Brs.nil (w : World) (B : Nat) : Brs w B (.slice none 0 0) [] := World.ownsRow_nil _ _ _ _
theorem Brs.form {w : World} {B : Nat} {v : Value} {bs : List Br} (h : Brs w B v bs) : ∃ a n c, v = .slice a n c := by
  rcases h.2 with ⟨rfl, h0⟩ | ⟨g, cap, cur, rfl, _⟩
  · exact ⟨_, _, _, rfl⟩
  · exact ⟨_, _, _, rfl⟩
theorem Brs.far {w : World} {B : Nat} {v : Value} {bs : List Br} (h : Brs w B v bs) {p : Addr} (hp : p.block < B) (x : Value) : Brs (w.setCell p x) B v bs := by
  refine ⟨h.1, ?_⟩
  rcases h.2 with h2 | ⟨g, cap, cur, e, h1, hg, h3, h4, h5, h6⟩
  · exact .inl h2
  · exact .inr ⟨g, cap, cur, e, h1, (Below.heap_setCell w p x g (by omega)).trans hg, h3, h4, h5, h6⟩
/-- a slice of bridges and one of ints share no block -/
theorem Brs.ne {w : World} {B B' : Nat} {v u : Value} {bs : List Br} {zs : List Int} (h : Brs w B v bs) (hI : Ints w B' u zs) : v.ownBlock = none ∨ v.ownBlock ≠ u.ownBlock := by
  rcases h.2 with ⟨rfl, _⟩ | ⟨g, cap, cur, rfl, hb, hg, _⟩
  · exact .inl rfl
  right
  rcases hI.2 with ⟨rfl, _⟩ | ⟨g', cap', cur', rfl, hb', hg', _⟩
  · intro e; cases e
  intro e
  have e2 : g = g' := by simpa [Value.ownBlock] using e
  subst e2
  rw [hg] at hg'
  injection hg' with hg'
  injection hg' with _ h5
  exact absurd h5 (by decide)

theorem bcs_set (bs : List Br) (j : Nat) (x y z : Int) : (((bcs bs).set (j * 3) (.int .i64 x)).set (j * 3 + 1) (.int .i64 y)).set (j * 3 + 2) (.int .i64 z) = bcs (bs.set j (x, y, z)) := by
  induction bs generalizing j with
  | nil => simp [bcs]
  | cons b bs ih =>
    have e : bcs (b :: bs) = .int .i64 b.1 :: .int .i64 b.2.1 :: .int .i64 b.2.2 :: bcs bs := by simp [bcs]
    cases j with
    | zero => simp [bcs]
    | succ j =>
      have h1 : (j + 1) * 3 = j * 3 + 1 + 1 + 1 := by omega
      rw [e, h1]
      simp only [List.set_cons_succ]
      rw [ih j]
      simp [bcs]
theorem Brs.set {w : World} {B g n cap : Nat} {bs : List Br} (h : Brs w B (.slice (some ⟨g, 0, none⟩) n cap) bs) (hn : n = bs.length) (j : Nat) (x y z : Int) :
    Brs (((w.setCell ⟨g, j * 3, none⟩ (.int .i64 x)).setCell ⟨g, j * 3 + 1, none⟩ (.int .i64 y)).setCell ⟨g, j * 3 + 2, none⟩ (.int .i64 z)) B (.slice (some ⟨g, 0, none⟩) n cap) (bs.set j (x, y, z)) ∧
    w.grownBy (((w.setCell ⟨g, j * 3, none⟩ (.int .i64 x)).setCell ⟨g, j * 3 + 1, none⟩ (.int .i64 y)).setCell ⟨g, j * 3 + 2, none⟩ (.int .i64 z)) (some g) := by
  subst hn
  have h1 := World.ownsRow.stored h (j * 3) (.int .i64 x)
  have h2 := World.ownsRow.stored h1.1 (j * 3 + 1) (.int .i64 y)
  have h3 := World.ownsRow.stored h2.1 (j * 3 + 2) (.int .i64 z)
  refine ⟨?_, (h1.2.trans h2.2).trans h3.2⟩
  unfold Brs
  rw [List.length_set, ← bcs_set]
  exact h3.1
theorem Brs.frz {w : World} {B g n cap : Nat} {bs : List Br} (h : Brs w B (.slice (some ⟨g, 0, none⟩) n cap) bs) (hn : n = bs.length) (j : Nat) : w.frozen? ⟨g, j, none⟩ = false := by
  subst hn
  exact World.ownsRow.frozenAt h j
theorem Brs.at0 {w : World} {B g n cap : Nat} {bs : List Br} (h : Brs w B (.slice (some ⟨g, 0, none⟩) n cap) bs) (hn : n = bs.length) (j : Nat) (hj : j < n) : BrAt w g (j * 3) (gb bs j) := by
  subst hn
  have := bcs_at bs j hj
  exact ⟨(World.ownsRow.cellAt h (j * 3) (by omega)).trans this.1, (World.ownsRow.cellAt h (j * 3 + 1) (by omega)).trans this.2.1, (World.ownsRow.cellAt h (j * 3 + 2) (by omega)).trans this.2.2⟩
theorem Brs.blk {w : World} {B g n cap : Nat} {bs : List Br} (h : Brs w B (.slice (some ⟨g, 0, none⟩) n cap) bs) : B ≤ g ∧ g < w.heap.size := World.ownsRow.lt h g rfl

/-- 'make([]impl.Bridge, n)' -/
theorem wpList_mkB {ops : Array Oper} {rest : List Oper} {o : Oper} {a : Act} {Q : Exit → Act → World → Prop} {w0 : World} (hgd : o.guard = none) (l c : Operand)
    (ho : o.op = Op.makeSlice 22 l c) (B n : Nat) (N : Int) (hl : a.eval l = .int .i64 N) (hc : a.eval c = .int .i64 N) (hN : N = (n : Int)) (hn : n ≤ 16777216) (hB : B ≤ w0.heap.size)
    (h : ∀ w', Brs w' B (.slice (some ⟨w0.heap.size, 0, none⟩) n n) (List.replicate n (0, 0, 0)) → Below B w0 w' → w0.grownBy w' none → wpList Try.prog ops Q rest (a.put o.dst (.slice (some ⟨w0.heap.size, 0, none⟩) n n)) w') :
    wpList Try.prog ops Q (o :: rest) a w0 := by
  obtain ⟨i0, hi, hz0, hz1, hz2⟩ := info_parts Try.infoBr
  refine wpList_make_full w0 hgd l c 22 ho B 42 i0 (.agg #[.int .i64 0, .int .i64 0, .int .i64 0]) 3 Try.underlying22 hi hz0 hz1 .i64 .i64 N N n hl hc hN hN (by rw [hz2]; omega) (by unfold maxLen; omega) hB ?_
  intro w' h1 h2
  refine h w' ?_ ((Below.refl _ _).grown h2 hB (by intro k hk; cases hk)) h2
  unfold Brs
  rw [List.length_replicate]
  have e : (madeCells (Value.agg #[.int .i64 0, .int .i64 0, .int .i64 0]).cells (n * 3)).toList = bcs (List.replicate n (0, 0, 0)) := by
    have e1 : (madeCells (Value.agg #[.int .i64 0, .int .i64 0, .int .i64 0]).cells (n * 3)).toList = List.replicate (n * 3) (.int .i64 0) := by
      rw [List.eq_replicate_iff]
      refine ⟨by simp [size_madeCells], fun b hb => ?_⟩
      simp [madeCells] at hb
      obtain ⟨i, _, rfl⟩ := hb
      have h3 : i % 3 = 0 ∨ i % 3 = 1 ∨ i % 3 = 2 := by omega
      rcases h3 with h3 | h3 | h3 <;> simp [Value.cells, h3]
    have e2 : ∀ n, bcs (List.replicate n ((0, 0, 0) : Br)) = List.replicate (n * 3) (.int .i64 0) := by
      intro n
      induction n with
      | zero => rfl
      | succ n ih => rw [List.replicate_succ, show (n + 1) * 3 = n * 3 + 1 + 1 + 1 from by omega, List.replicate_succ, List.replicate_succ, List.replicate_succ, ← ih]; simp [bcs]
    rw [e1, e2]
  rw [← e]
  exact h1

theorem Brs.ne' {w : World} {B B' : Nat} {v u : Value} {bs : List Br} {zs : List Int} (h : Brs w B v bs) (hI : Ints w B' u zs) : u.ownBlock = none ∨ u.ownBlock ≠ v.ownBlock := by
  rcases h.ne hI with e | e
  · cases hu : u.ownBlock
    · exact .inl rfl
    · right; rw [e]; simp
  · exact .inr e.symm

theorem toBridge (x y z : Int) (w : World) :
    Calls Try.prog 46 #[.agg #[.int .i64 x, .int .i64 y, .int .i64 z]] w fun e w' => e = .returned (.agg #[.int .i64 x, .int .i64 y, .int .i64 z]) ∧ Below w.heap.size w w' := by
  go_enter Try.func46, Try.ntmps46
  go_wp2
  refine bodyPost_ret (v := .agg #[.int .i64 x, .int .i64 y, .int .i64 z]) (by simp [results, Try.results46, go_sem]) rfl ⟨rfl, ?_⟩
  (repeat (first | exact Below.refl _ _ | (refine Below.alloc ?_ (by first | omega | (simp; try omega)) _) | apply Below.drew | apply below_drewN))
theorem eqBridge_same (x y z : Int) (w : World) :
    Calls Try.prog 41 #[.agg #[.int .i64 x, .int .i64 y, .int .i64 z], .agg #[.int .i64 x, .int .i64 y, .int .i64 z]] w fun e w' => e = .returned (.bool true) ∧ Below w.heap.size w w' := by
  go_enter Try.func41, Try.ntmps41
  go_wp2
  go_ret
  refine ⟨rfl, ?_⟩
  (repeat (first | exact Below.refl _ _ | (refine Below.alloc ?_ (by first | omega | (simp; try omega)) _) | apply Below.drew | apply below_drewN))
theorem szBridgeS (v : Value) (n : Nat) (a : Option Addr) (c : Nat) (w : World) (hv : v = .slice a n c) (hn : n ≤ 1048576) :
    Calls Try.prog 32 #[v, .int .i64 1048576] w fun e w' => e = .returned (.int .i64 (1048576 - (n : Int))) ∧ w = w' := by
  subst hv
  go_enter Try.func32, Try.ntmps32
  go_wp2
  go_ret
  exact ⟨rfl, rfl⟩
theorem szBridgeS_no (v : Value) (n : Nat) (a : Option Addr) (c : Nat) (w : World) (hv : v = .slice a n c) (hn : 1048576 < n) (hm : n ≤ 9223372036854775807) :
    Calls Try.prog 32 #[v, .int .i64 1048576] w fun e w' => e = .returned (.int .i64 (-1)) ∧ w = w' := by
  subst hv
  go_enter Try.func32, Try.ntmps32
  go_wp2
  go_ret
  exact ⟨rfl, rfl⟩

theorem szIsles (m : Int) (v : Value) (n : Nat) (a : Option Addr) (c : Nat) (w : World) (hv : v = .slice a n c) (hn : n ≤ 1048576) :
    Calls Try.prog 20 #[.agg #[.int .i64 m, v], .int .i64 1048576] w fun e w' => e = .returned (.int .i64 (1048576 - (n : Int))) ∧ Below w.heap.size w w' := by
  subst hv
  go_enter Try.func20, Try.ntmps20
  go_wp2_with (go_at_call 32; refine (szBridgeS _ n _ _ _ rfl hn).mono ?_; rintro e w' ⟨rfl, rfl⟩)
  go_ret
  refine ⟨rfl, ?_⟩
  (repeat (first | exact Below.refl _ _ | (refine Below.alloc ?_ (by first | omega | (simp; try omega)) _) | apply Below.drew | apply below_drewN))
theorem szIsles_no (m : Int) (v : Value) (n : Nat) (a : Option Addr) (c : Nat) (w : World) (hv : v = .slice a n c) (hn : 1048576 < n) (hm : n ≤ 9223372036854775807) :
    Calls Try.prog 20 #[.agg #[.int .i64 m, v], .int .i64 1048576] w fun e w' => e = .returned (.int .i64 (-1)) ∧ Below w.heap.size w w' := by
  subst hv
  go_enter Try.func20, Try.ntmps20
  go_wp2_with (go_at_call 32; refine (szBridgeS_no _ n _ _ _ rfl hn hm).mono ?_; rintro e w' ⟨rfl, rfl⟩)
  go_ret
  refine ⟨rfl, ?_⟩
  (repeat (first | exact Below.refl _ _ | (refine Below.alloc ?_ (by first | omega | (simp; try omega)) _) | apply Below.drew | apply below_drewN))
theorem setB_tail (bs : List Br) (j : Nat) (h : j < bs.length) : (bs.take j ++ List.replicate (bs.length - j) ((0, 0, 0) : Br)).set j ((gb bs j).1, (gb bs j).2.1, (gb bs j).2.2) = bs.take (j + 1) ++ List.replicate (bs.length - (j + 1)) (0, 0, 0) := by
  have hl : (bs.take j).length = j := by simp; omega
  have e : List.replicate (bs.length - j) ((0, 0, 0) : Br) = (0, 0, 0) :: List.replicate (bs.length - (j + 1)) (0, 0, 0) := by
    rw [← List.replicate_succ]; congr 1; omega
  rw [e, List.set_append_right _ _ (by omega), hl, Nat.sub_self, List.set_cons_zero, List.take_succ_eq_append_getElem h, List.append_assoc]
  simp [gb, h]
set_option maxHeartbeats 1000000 in
theorem toBridgeS (v : Value) (bs : List Br) (w : World) (h : RdB w v bs) (hn : bs.length ≤ 1048576) :
    Calls Try.prog 37 #[v] w fun e w' => ∃ u, e = .returned u ∧ Brs w' w.heap.size u bs ∧ Below w.heap.size w w' := by
  obtain ⟨a, n, c, rfl, hnz, _, _, hcell⟩ := h
  rw [← hnz] at hn
  have HC := Lib.hid hcell
  have HN := Lib.hid hnz
  clear hcell hnz
  go_enter Try.func37, Try.ntmps37
  go_wp2_with (at_make; refine wpList_mkB rfl _ _ rfl w.heap.size n _ rfl rfl rfl (by omega) (Nat.le_refl _) ?_; intro w1 hI hb1 hg1)
  have hB := hb1.size
  obtain ⟨g, hg⟩ : ∃ g, g = w.heap.size := ⟨_, rfl⟩
  have HG := Lib.hid hg
  have hgl : g < w1.heap.size := by have := hI.blk; omega
  have hI0 : Brs w1 g (.slice (some ⟨g, 0, none⟩) n n) (bs.take 0 ++ List.replicate (n - 0) (0, 0, 0)) := by rw [hg]; simpa using hI
  have hb0 : Below g w w1 := by rw [hg]; exact hb1
  clear hI hb1 hg1
  rw [← hg]
  have HI0 := Lib.hid hI0
  clear hg hI0
  go_loopw [4] (fun i wr => ∃ j : Nat, j ≤ n ∧ i = .int .i64 j ∧ Brs wr g (.slice (some ⟨g, 0, none⟩) n n) (bs.take j ++ List.replicate (n - j) (0, 0, 0)) ∧ Below g w wr) (fun i _ => n - (intOf i).toNat)
  case atStart => exact ⟨0, Nat.zero_le _, rfl, HI0.out, hb0⟩
  case round =>
    obtain ⟨j, hj, rfl, hI, hb⟩ := hrel
    have hle : g ≤ wr.heap.size := by have := hb.size; have := HG.out; omega
    by_cases hlt : j < n
    · obtain ⟨b, off, rfl, hbl, hc⟩ := HC.out j hlt
      have hlen : n = (bs.take j ++ List.replicate (n - j) ((0, 0, 0) : Br)).length := by simp; have := HN.out; omega
      have hbg : b < g := by have := HG.out; omega
      have hA := hc.below hbg hb
      obtain ⟨c1, c2, c3⟩ := hA
      have HI := Lib.hid hI
      have HL := Lib.hid hlen
      have HB := Lib.hid hb
      have e := setB_tail bs j (by have := HN.out; omega)
      rw [← HN.out] at e
      have HE := Lib.hid e
      clear hlen e hI hb hc
      generalize gb bs j = q at *
      obtain ⟨x, y, z⟩ := q
      have hlt' : (j : Int) < n := by omega
      go_wp2_with fail
      refine (toBridge _ _ _ _).mono ?_
      rintro e w2 ⟨rfl, hb2⟩
      have I2 := HI.out.below hb2
      have f0 := I2.frz HL.out (j * 3)
      have f1 := I2.frz HL.out (j * 3 + 1)
      have f2 := I2.frz HL.out (j * 3 + 2)
      obtain ⟨d0, d1, d2⟩ := I2.at0 HL.out j hlt
      have S := I2.set HL.out j x y z
      rw [HE.out] at S
      have SS := Lib.hid S
      have HB2 := Lib.hid ((HB.out.trans (hb2.mono hle)).grown S.2 (Nat.le_trans hle hb2.size) (by intro k hk; cases hk; exact Nat.le_refl _))
      clear I2 S hb2 c1 c2 c3
      generalize gb (bs.take j ++ List.replicate (n - j) ((0, 0, 0) : Br)) j = q at *
      go_wp2
      go_roundw
      case rel => exact ⟨j + 1, by omega, by go_num, SS.out.1, HB2.out⟩
      case measure => (simp [intOf]; try omega)
    · obtain rfl : j = n := by omega
      have e : bs.take j ++ List.replicate (j - j) ((0, 0, 0) : Br) = bs := by rw [Nat.sub_self]; simp [HN.out]
      rw [e] at hI
      have HI := Lib.hid hI
      clear hI e
      go_wp2
      go_ret
      exact ⟨_, rfl, by rw [← HG.out]; exact HI.out, by rw [← HG.out]; exact hb⟩
set_option maxHeartbeats 1000000 in
theorem toIsles (m : Int) (v : Value) (bs : List Br) (w : World) (h : RdB w v bs) (hn : bs.length ≤ 1048576) :
    Calls Try.prog 23 #[.agg #[.int .i64 m, v]] w fun e w' => ∃ u, e = .returned (.agg #[.int .i64 m, u]) ∧ Brs w' w.heap.size u bs ∧ Below w.heap.size w w' := by
  have HR := Lib.hid h
  obtain ⟨a, n, c, rfl, hnz, hnc, hcm, hcell⟩ := h
  clear hnz hnc hcm hcell
  go_enter Try.func23, Try.ntmps23
  go_wp2_with fail
  refine (toBridgeS _ bs _ (HR.out.below (by (repeat (first | exact Below.refl _ _ | (refine Below.alloc ?_ (by first | omega | (simp; try omega)) _) | apply Below.drew | apply below_drewN)))) hn).mono ?_
  rintro e w1 ⟨u, rfl, hI, hb⟩
  obtain ⟨ua, un, uc, rfl⟩ := hI.form
  have hz : w.heap.size + 3 ≤ w1.heap.size := by have := hb.size; simp at this; omega
  have X1 : Blk w1 (w.heap.size + 1) #[.int .i64 0, .slice none 0 0] := ((((Blk.new (w.alloc (.cells #[.int .i64 m, .slice a n c] 34)) _ 24).alloc _).below hb (by simp)).at_ (by simp))
  have X2 : Blk w1 (w.heap.size + 1 + 1) #[.int .i64 m, .slice none 0 0] := ((Blk.new _ _ _).below hb (by simp)).at_ (by simp)
  have hbel : Below w.heap.size w w1 := Below.trans (by (repeat (first | exact Below.refl _ _ | (refine Below.alloc ?_ (by first | omega | (simp; try omega)) _) | apply Below.drew | apply below_drewN))) (hb.mono (by simp; try omega))
  have hI2 := Brs.mono (B := w.heap.size + 3) hI (by simp; try omega)
  generalize hs : w.heap.size = s at *
  have HS := Lib.hid hs
  have HB := Lib.hid hbel
  have HI2 := Lib.hid hI2
  clear hb hI hbel hI2 hs
  have x0 := X1.cell 0
  have x1 := X1.cell 1
  have y0 := X2.cell 0
  have y1 := X2.cell 1
  have f0 := X1.fr 0
  have f1 := X1.fr 1
  have f2 := X2.fr 1
  simp only [List.getElem?_toArray, List.getElem?_cons_zero, List.getElem?_cons_succ] at x0 x1 y0 y1
  clear X1 X2
  go_wp2
  refine bodyPost_ret (v := .agg #[.int .i64 m, .slice ua un uc]) (by simp [results, Try.results23, go_sem, x0, x1]) rfl ⟨_, rfl, ?_, ?_⟩
  · rw [HS.out]
    exact (((HI2.out.far (by simp; try omega) _).far (by simp; try omega) _).far (by simp; try omega) _).mono (by omega)
  · rw [HS.out]
    exact ((HB.out.setCell (by simp; try omega) _).setCell (by simp; try omega) _).setCell (by simp; try omega) _

set_option maxHeartbeats 1000000 in
/-- two slices that read alike are told equal -/
theorem eqBridgeS_same (v1 v2 : Value) (bs : List Br) (w : World) (h1 : RdB w v1 bs) (h2 : RdB w v2 bs) (hn : bs.length ≤ 16777216) :
    Calls Try.prog 29 #[v1, v2] w fun e w' => e = .returned (.bool true) ∧ Below w.heap.size w w' := by
  obtain ⟨a1, n, c1, rfl, hn1, _, _, hcell1⟩ := h1
  obtain ⟨a2, n2, c2, rfl, hn2, _, _, hcell2⟩ := h2
  obtain rfl : n2 = n := by omega
  rw [← hn1] at hn
  have HC1 := Lib.hid hcell1
  have HC2 := Lib.hid hcell2
  clear hcell1 hcell2 hn1 hn2
  go_enter Try.func29, Try.ntmps29
  go_wp2
  go_loopw [5] (fun i wr => ∃ k : Nat, k ≤ n2 ∧ i = .int .i64 k ∧ Below w.heap.size w wr) (fun i _ => n2 - (intOf i).toNat)
  case atStart => exact ⟨0, Nat.zero_le _, rfl, Below.refl _ _⟩
  case round =>
    obtain ⟨k, hk, rfl, hbel⟩ := hrel
    by_cases hlt : k < n2
    · obtain ⟨b1, o1, rfl, hb1, hA1⟩ := HC1.out k hlt
      obtain ⟨b2, o2, rfl, hb2, hA2⟩ := HC2.out k hlt
      obtain ⟨x0, x1, x2⟩ := hA1.below hb1 hbel
      obtain ⟨y0, y1, y2⟩ := hA2.below hb2 hbel
      have hlt' : (k : Int) < n2 := by omega
      clear hA1 hA2
      generalize gb bs k = q at *
      obtain ⟨x, y, z⟩ := q
      have HB := Lib.hid hbel
      clear hbel
      go_wp2
      go_region_with (go_at_call 41; refine (eqBridge_same x y z _).mono ?_; rintro e w1 ⟨rfl, hb⟩)
      all_goals
        have HB1 := Lib.hid (HB.out.trans (Below.trans (by (repeat (first | exact Below.refl _ _ | (refine Below.alloc ?_ (by first | omega | (simp; try omega)) _) | apply Below.drew | apply below_drewN))) (hb.mono HB.out.size)))
        clear hb
        go_wp2
        go_roundw
        case rel => exact ⟨k + 1, by omega, by go_num, HB1.out⟩
        case measure => (simp [intOf]; try omega)
    · go_wp2
      go_ret
      exact ⟨rfl, hbel⟩
theorem eqIsles_same (m : Int) (v1 v2 : Value) (bs : List Br) (w : World) (h1 : RdB w v1 bs) (h2 : RdB w v2 bs) (hn : bs.length ≤ 16777216) :
    Calls Try.prog 14 #[.agg #[.int .i64 m, v1], .agg #[.int .i64 m, v2]] w fun e w' => e = .returned (.bool true) ∧ Below w.heap.size w w' := by
  have H1 := Lib.hid h1
  have H2 := Lib.hid h2
  obtain ⟨a1, n, c1, rfl, t1⟩ := h1
  obtain ⟨a2, n2, c2, rfl, t2⟩ := h2
  clear t1 t2
  go_enter Try.func14, Try.ntmps14
  go_wp2_with fail
  refine (eqBridgeS_same _ _ bs _ (H1.out.below (by (repeat (first | exact Below.refl _ _ | (refine Below.alloc ?_ (by first | omega | (simp; try omega)) _) | apply Below.drew | apply below_drewN)))) (H2.out.below (by (repeat (first | exact Below.refl _ _ | (refine Below.alloc ?_ (by first | omega | (simp; try omega)) _) | apply Below.drew | apply below_drewN)))) hn).mono ?_
  rintro e w1 ⟨rfl, hb⟩
  have HB := Lib.hid (Below.trans (by (repeat (first | exact Below.refl _ _ | (refine Below.alloc ?_ (by first | omega | (simp; try omega)) _) | apply Below.drew | apply below_drewN))) (hb.mono (by simp; try omega)) : Below w.heap.size w w1)
  clear hb
  go_wp2
  go_ret
  exact ⟨rfl, HB.out⟩

def marksB (k : Int) (n : Nat) : List Br := (List.range n).map fun (j : Nat) => (k + 3 * j, k + 3 * j + 1, k + 3 * j + 1 + 1)
theorem marksB_len (k : Int) (n : Nat) : (marksB k n).length = n := by simp [marksB]
theorem marksB_at (k : Int) (n j : Nat) (h : j < n) : gb (marksB k n) j = (k + 3 * j, k + 3 * j + 1, k + 3 * j + 1 + 1) := by simp [gb, marksB, h]
theorem marksB_succ (k : Int) (n : Nat) : marksB k (n + 1) = marksB k n ++ [(k + 3 * n, k + 3 * n + 1, k + 3 * n + 1 + 1)] := by simp [marksB, List.range_succ]
theorem markB_set (bs : List Br) (k : Int) (j : Nat) (h : j < bs.length) : (marksB k j ++ bs.drop j).set j (k + 3 * j, k + 3 * j + 1, k + 3 * j + 1 + 1) = marksB k (j + 1) ++ bs.drop (j + 1) := by
  rw [marksB_succ, List.drop_eq_getElem_cons h, List.append_assoc, List.set_append_right _ _ (by simp [marksB_len]), marksB_len, Nat.sub_self, List.set_cons_zero]
  rfl
set_option maxHeartbeats 1000000 in
theorem markBridgeS (v : Value) (bs : List Br) (B : Nat) (w : World) (h : Brs w B v bs) (hn : bs.length ≤ 16777216) (k : Int) (h0 : 0 ≤ k) (h1 : k ≤ 1000000000) :
    Calls Try.prog 30 #[v, .int .i64 k] w fun e w' => e = .returned (.int .i64 (k + 3 * bs.length)) ∧ Brs w' B v (marksB k bs.length) ∧ w.grownBy w' v.ownBlock := by
  have h' := h
  rcases h'.2 with ⟨rfl, hz⟩ | ⟨g, cap, cur, rfl, hb, hg, hnc, hcm, hcs, ht⟩
  · have hz0 : bs = [] := List.length_eq_zero_iff.1 hz
    subst hz0
    have H := Lib.hid h
    clear h hz h'
    go_enter Try.func30, Try.ntmps30
    go_wp2
    go_loopw [1, 5] (fun q i wr => i = .int .i64 0 ∧ q = .int .i64 k ∧ wr = w) (fun _ _ _ => 0)
    case atStart => exact ⟨rfl, rfl, rfl⟩
    case round =>
      obtain ⟨rfl, rfl, rfl⟩ := hrel
      go_wp2
      go_ret
      exact ⟨by simp, H.out, World.grownBy.refl _ _⟩
  · obtain ⟨n, hnz⟩ : ∃ n, n = bs.length := ⟨_, rfl⟩
    have hX : n ≤ cap := by omega
    unfold maxLen at hcm
    rw [← hnz] at hn ⊢
    have hst : (Brs w B (.slice (some ⟨g, 0, none⟩) n cap) (marksB k 0 ++ bs.drop 0)) := by (rw [hnz, List.drop_zero]; exact h)
    have HS := Lib.hid hst
    have HN := Lib.hid hnz
    clear hnz h h' ht hcs hg hnc hst
    go_enter Try.func30, Try.ntmps30
    go_wp2
    go_loopw [1, 5] (fun q i wr => ∃ j : Nat, j ≤ n ∧ i = .int .i64 j ∧ q = .int .i64 (k + 3 * j) ∧ Brs wr B (.slice (some ⟨g, 0, none⟩) n cap) (marksB k j ++ bs.drop j) ∧ w.grownBy wr (some g)) (fun _ i _ => n - (intOf i).toNat)
    case atStart => exact ⟨0, Nat.zero_le _, rfl, by simp, HS.out, World.grownBy.refl _ _⟩
    case round =>
      obtain ⟨j, hj, rfl, rfl, hown, hgr⟩ := hrel
      by_cases hlt : j < n
      · have hl : n = (marksB k j ++ bs.drop j).length := by simp [marksB_len]; have := HN.out; omega
        obtain ⟨d0, d1, d2⟩ := hown.at0 hl j hlt
        have f0 := hown.frz hl (j * 3)
        have f1 := hown.frz hl (j * 3 + 1)
        have f2 := hown.frz hl (j * 3 + 2)
        have hlt' : (j : Int) < n := by omega
        have S := hown.set hl j (k + 3 * j) (k + 3 * j + 1) (k + 3 * j + 1 + 1)
        rw [markB_set bs k j (by have := HN.out; omega)] at S
        have SS := Lib.hid S
        have HG := Lib.hid hgr
        clear hown S hgr hl
        generalize gb (marksB k j ++ bs.drop j) j = q at *
        go_wp2
        go_roundw
        case rel => exact ⟨j + 1, by omega, by go_num, by (congr 1; omega), SS.out.1, HG.out.trans SS.out.2⟩
        case measure => (simp [intOf]; try omega)
      · obtain rfl : j = n := by omega
        go_wp2
        go_ret
        refine ⟨rfl, ?_, hgr⟩
        have hd : bs.drop j = [] := List.drop_eq_nil_of_le (by have := HN.out; omega)
        rw [hd, List.append_nil] at hown
        exact hown
set_option maxHeartbeats 1000000 in
theorem heldBridgeS (v : Value) (n : Nat) (w : World) (k : Int) (h : RdB w v (marksB k n)) (hn : n ≤ 16777216) (h0 : 0 ≤ k) (h1 : k ≤ 1000000000) :
    Calls Try.prog 31 #[v, .int .i64 k] w fun e w' => e = .returned (.int .i64 (k + 3 * n)) ∧ w = w' := by
  obtain ⟨a, n', c, rfl, hnz, _, _, hcell⟩ := h
  rw [marksB_len] at hnz
  subst hnz
  have HC := Lib.hid hcell
  clear hcell
  go_enter Try.func31, Try.ntmps31
  go_wp2
  go_loop [1, 5] (fun q i => ∃ j : Nat, j ≤ n' ∧ i = .int .i64 j ∧ q = .int .i64 (k + 3 * j)) (fun _ i => n' - (intOf i).toNat)
  case atStart => exact ⟨0, Nat.zero_le _, rfl, by simp⟩
  case round =>
    obtain ⟨j, hj, rfl, rfl⟩ := hrel
    by_cases hlt : j < n'
    · obtain ⟨b, off, rfl, hb, hA⟩ := HC.out j hlt
      rw [marksB_at k n' j hlt] at hA
      obtain ⟨c0, c1, c2⟩ := hA
      have hlt' : (j : Int) < n' := by omega
      go_wp2
      go_round
      case rel => exact ⟨j + 1, by omega, by go_num, by (congr 1; omega)⟩
      case measure => (simp [intOf]; try omega)
    · obtain rfl : j = n' := by omega
      go_wp2
      go_ret
      exact ⟨rfl, rfl⟩
theorem markIsles (m : Int) (v : Value) (bs : List Br) (B : Nat) (w : World) (h : Brs w B v bs) (hn : bs.length ≤ 16777216) (k : Int) (h0 : 0 ≤ k) (h1 : k ≤ 1000000000) :
    Calls Try.prog 16 #[.agg #[.int .i64 m, v], .int .i64 k] w fun e w' => e = .returned (.int .i64 (k + 3 * bs.length)) ∧ Brs w' B v (marksB k bs.length) ∧ w.grownBy w' v.ownBlock := by
  have H := Lib.hid (fun o => World.ownsRow.alloc h o : ∀ o, Brs (w.alloc o) B v bs)
  obtain ⟨a, n, c, rfl⟩ := h.form
  clear h
  go_enter Try.func16, Try.ntmps16
  go_wp2_with fail
  refine (markBridgeS _ bs B _ (H.out _) hn k h0 h1).mono ?_
  rintro e w1 ⟨rfl, hm, hg⟩
  have HM := Lib.hid hm
  have HG := Lib.hid ((World.grownBy_alloc w (.cells #[.int .i64 m, .slice a n c] 24) _).trans hg)
  clear hm hg
  go_wp2
  go_ret
  exact ⟨rfl, HM.out, HG.out⟩
theorem heldIsles (m : Int) (v : Value) (n : Nat) (w : World) (k : Int) (h : RdB w v (marksB k n)) (hn : n ≤ 16777216) (h0 : 0 ≤ k) (h1 : k ≤ 1000000000) :
    Calls Try.prog 18 #[.agg #[.int .i64 m, v], .int .i64 k] w fun e w' => e = .returned (.int .i64 (k + 3 * n)) ∧ Below w.heap.size w w' := by
  have H := Lib.hid h
  obtain ⟨a, n', c, rfl, t⟩ := h
  clear t
  go_enter Try.func18, Try.ntmps18
  go_wp2_with fail
  refine (heldBridgeS _ n _ k (H.out.below (by (repeat (first | exact Below.refl _ _ | (refine Below.alloc ?_ (by first | omega | (simp; try omega)) _) | apply Below.drew | apply below_drewN)))) hn h0 h1).mono ?_
  rintro e w1 ⟨rfl, rfl⟩
  go_wp2
  go_ret
  refine ⟨rfl, ?_⟩
  (repeat (first | exact Below.refl _ _ | (refine Below.alloc ?_ (by first | omega | (simp; try omega)) _) | apply Below.drew | apply below_drewN))
end Go.Proofs.Ytcpipacombnhdaa
