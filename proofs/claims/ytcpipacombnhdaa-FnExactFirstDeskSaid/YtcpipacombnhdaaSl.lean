/- A slice of ints that a call has made, what it reads as, and the contracts of laws.eqIntS (at equal lists), laws.markIntS, laws.heldIntS (at marked lists). -/
import Derived.Test.YtcpipacombnhdaaRows
import Derived.WalkKit
import Derived.ProofKit
import Derived.OpenShut
import Derived.WalkSpells
import Derived.WalkLawsBesides
import Derived.Lib.Hide
import Derived.OwnWalk
import Derived.Maps.AppendAt
import Derived.Deep.QuietTactic
import Derived.BigQuiet
import Derived.WalkSmall
import Derived.Outline
namespace Go.Proofs.Ytcpipacombnhdaa
set_option linter.unusedVariables false
open Go.RowKit

theorem Try.infoInt : (Try.prog.info? 3).map (fun i => (i.zero, i.size, i.bytes)) = some (some (.int .i64 0), 1, 8) := by kernel_rfl
theorem ret_w {a b : Value} (h : a = b) : Ending.returned a = .returned b := by rw [h]

def i64s (zs : List Int) : List Value := zs.map (Value.int .i64)
theorem i64s_len (zs : List Int) : (i64s zs).length = zs.length := by simp [i64s]
theorem i64s_snoc (zs : List Int) (x : Int) : i64s zs ++ [.int .i64 x] = i64s (zs ++ [x]) := by simp [i64s]
def gt (zs : List Int) (j : Nat) : Int := zs.getD j 0

/-- the slice v of the call's own, at blocks from B on, holds zs -/
def Ints (w : World) (B : Nat) (v : Value) (zs : List Int) : Prop := w.ownsRow B 3 1 v zs.length (i64s zs)
/-- the slice v reads as zs -/
def Rd (w : World) (v : Value) (zs : List Int) : Prop :=
  ((∃ a c, v = .slice a 0 c) ∧ zs = []) ∨
  ∃ b off cap, v = .slice (some ⟨b, off, none⟩) zs.length cap ∧ b < w.heap.size ∧ zs.length ≤ cap ∧ cap ≤ maxLen ∧ ∀ j, j < zs.length → w.cell? ⟨b, off + j, none⟩ = some (.int .i64 (gt zs j))

theorem Ints.rd {w : World} {B : Nat} {v : Value} {zs : List Int} (h : Ints w B v zs) : Rd w v zs := by
  have h' := h
  rcases h.2 with ⟨rfl, h0⟩ | ⟨g, cap, cur, rfl, hb, hg, hn, hc, hs, ht⟩
  · exact .inl ⟨⟨_, _, rfl⟩, List.length_eq_zero_iff.1 h0⟩
  · refine .inr ⟨g, 0, cap, rfl, (Array.getElem?_eq_some_iff.1 hg).1, hn, hc, fun j hj => ?_⟩
    have := World.ownsRow.cellAt h' j (by omega)
    rw [Nat.zero_add, this]
    simp [i64s, gt, hj]

theorem Rd.below {w w' : World} {v : Value} {zs : List Int} (h : Rd w v zs) (hb : Below w.heap.size w w') : Rd w' v zs := by
  rcases h with h | ⟨b, off, cap, e, hlt, hc, hm, hh⟩
  · exact .inl h
  · exact .inr ⟨b, off, cap, e, Nat.lt_of_lt_of_le hlt hb.size, hc, hm, fun j hj => (hb.cell (p := ⟨b, off + j, none⟩) hlt).trans (hh j hj)⟩

theorem Ints.below {w w' : World} {B : Nat} {v : Value} {zs : List Int} (h : Ints w B v zs) (hb : Below w.heap.size w w') : Ints w' B v zs := by
  refine ⟨h.1, ?_⟩
  rcases h.2 with h2 | ⟨g, cap, cur, e, h1, hg, h3, h4, h5, h6⟩
  · exact .inl h2
  · exact .inr ⟨g, cap, cur, e, h1, (hb.block g (Array.getElem?_eq_some_iff.1 hg).1).trans hg, h3, h4, h5, h6⟩

theorem Rd.grown {w w' : World} {v : Value} {zs : List Int} {B : Nat} {r : Option Nat} (h : Rd w v zs) (hlt : ∀ b, v.ownBlock = some b → b < B) (hg : w.grownBy w' r) (hr : ∀ b, r = some b → B ≤ b) : Rd w' v zs := by
  rcases h with h | ⟨b, off, cap, rfl, hlt', hc, hm, hh⟩
  · exact .inl h
  · refine .inr ⟨b, off, cap, rfl, Nat.lt_of_lt_of_le hlt' hg.size, hc, hm, fun j hj => ?_⟩
    refine (World.cell?_of_block (w := w) (a := ⟨b, off + j, none⟩) (hg.block b hlt' ?_)).trans (hh j hj)
    intro e
    have h1 := hlt b rfl
    have h2 := hr b e.symm
    omega

/-- 'append(s, z)' at a slice of ints of the call's own. -/
theorem wpList_app {ops : Array Oper} {rest : List Oper} {o : Oper} {a : Act} {Q : Exit → Act → World → Prop} {W : World} (w0 : World) (hgd : o.guard = none) (s x : Operand)
    (ho : o.op = .call { callee := .builtin .append, args := #[s, x], argTypes := #[25, 25] })
    (B : Nat) (v : Value) (zs : List Int) (hs : a.eval s = v) (hI : Ints w0 B v zs) (z : Int) (hx : a.eval x = .slice (some ⟨w0.heap.size, 0, none⟩) 1 1) (hl : zs.length < 16777216) (hB : B ≤ w0.heap.size) (hW : W = w0.alloc (.cells #[.int .i64 z] 3))
    (h : ∀ v' w', Ints w' B v' (zs ++ [z]) → Below B w0 w' → w0.grownBy w' v.ownBlock → wpList Try.prog ops Q rest (a.put o.dst v') w') : wpList Try.prog ops Q (o :: rest) a W := by
  subst hW
  obtain ⟨i0, hi, hz0, hz1, hz2⟩ := info_parts Try.infoInt
  have hlt : ∀ b, v.ownBlock = some b → B ≤ b := fun b hb => (World.ownsRow.lt hI b hb).1
  refine wpList_append_own _ hgd s x 25 ho B 3 i0 (.int .i64 0) 1 8 Try.underlying25 hi hz0 hz1 hz2 rfl (by decide) v zs.length (i64s zs) hs (World.ownsRow.alloc hI _) ⟨w0.heap.size, 0, none⟩ 1 1 [.int .i64 z] hx rfl
    (cell_one_new _ _ _) (by intro u hu; simp at hu; subst hu; rfl) (by unfold maxLen; omega) (by omega) (by simp; omega) ?_
  intro v' w' h1 h2 _
  refine h v' w' ?_ (((Below.refl _ _).alloc hB _).grown h2 (by simp; omega) hlt) ((World.grownBy_alloc _ _ _).trans h2)
  unfold Ints
  rw [i64s_snoc] at h1
  simpa using h1

/-- 'append(s, z)' behind other new blocks: the new cell's block is told by its number -/
theorem wpList_app' {ops : Array Oper} {rest : List Oper} {o : Oper} {a : Act} {Q : Exit → Act → World → Prop} {W : World} (w0 : World) (hgd : o.guard = none) (s x : Operand)
    (ho : o.op = .call { callee := .builtin .append, args := #[s, x], argTypes := #[25, 25] })
    (B : Nat) (v : Value) (zs : List Int) (hs : a.eval s = v) (hI : Ints w0 B v zs) (z : Int) (nb : Nat) (hx : a.eval x = .slice (some ⟨nb, 0, none⟩) 1 1) (hnb : nb = w0.heap.size) (hl : zs.length < 16777216) (hB : B ≤ w0.heap.size) (hW : W = w0.alloc (.cells #[.int .i64 z] 3))
    (h : ∀ v' w', Ints w' B v' (zs ++ [z]) → Below B w0 w' → w0.grownBy w' v.ownBlock → wpList Try.prog ops Q rest (a.put o.dst v') w') : wpList Try.prog ops Q (o :: rest) a W := by
  subst hnb
  exact wpList_app w0 hgd s x ho B v zs hs hI z hx hl hB hW h

/-- as before; and where the new slice lies -/
theorem wpList_appAt {ops : Array Oper} {rest : List Oper} {o : Oper} {a : Act} {Q : Exit → Act → World → Prop} {W : World} (w0 : World) (hgd : o.guard = none) (s x : Operand)
    (ho : o.op = .call { callee := .builtin .append, args := #[s, x], argTypes := #[25, 25] })
    (B : Nat) (v : Value) (zs : List Int) (hs : a.eval s = v) (hI : Ints w0 B v zs) (z : Int) (nb : Nat) (hx : a.eval x = .slice (some ⟨nb, 0, none⟩) 1 1) (hnb : nb = w0.heap.size) (hl : zs.length < 16777216) (hB : B ≤ w0.heap.size) (hW : W = w0.alloc (.cells #[.int .i64 z] 3))
    (h : ∀ v' w', Ints w' B v' (zs ++ [z]) → Below B w0 w' → w0.grownBy w' v.ownBlock → (v'.ownBlock = v.ownBlock ∨ v'.ownBlock = some (w0.heap.size + 1)) → wpList Try.prog ops Q rest (a.put o.dst v') w') : wpList Try.prog ops Q (o :: rest) a W := by
  subst hnb
  subst hW
  obtain ⟨i0, hi, hz0, hz1, hz2⟩ := info_parts Try.infoInt
  have hlt : ∀ b, v.ownBlock = some b → B ≤ b := fun b hb => (World.ownsRow.lt hI b hb).1
  refine wpList_append_own_at _ hgd s x 25 ho B 3 i0 (.int .i64 0) 1 8 Try.underlying25 hi hz0 hz1 hz2 rfl (by decide) v zs.length (i64s zs) hs (World.ownsRow.alloc hI _) ⟨w0.heap.size, 0, none⟩ 1 1 [.int .i64 z] hx rfl
    (cell_one_new _ _ _) (by intro u hu; simp at hu; subst hu; rfl) (by unfold maxLen; omega) (by omega) (by simp; omega) ?_
  intro v' w' h1 h2 _ h4
  refine h v' w' ?_ (((Below.refl _ _).alloc hB _).grown h2 (by simp; omega) hlt) ((World.grownBy_alloc _ _ _).trans h2) (by simpa using h4)
  unfold Ints
  rw [i64s_snoc] at h1
  simpa using h1

/-- 'make([]int, n)' -/
theorem wpList_mk {ops : Array Oper} {rest : List Oper} {o : Oper} {a : Act} {Q : Exit → Act → World → Prop} {w0 : World} (hgd : o.guard = none) (l c : Operand)
    (ho : o.op = Op.makeSlice 25 l c) (B n : Nat) (N : Int) (hl : a.eval l = .int .i64 N) (hc : a.eval c = .int .i64 N) (hN : N = (n : Int)) (hn : n ≤ 16777216) (hB : B ≤ w0.heap.size)
    (h : ∀ w', Ints w' B (.slice (some ⟨w0.heap.size, 0, none⟩) n n) (List.replicate n 0) → Below B w0 w' → w0.grownBy w' none → wpList Try.prog ops Q rest (a.put o.dst (.slice (some ⟨w0.heap.size, 0, none⟩) n n)) w') :
    wpList Try.prog ops Q (o :: rest) a w0 := by
  obtain ⟨i0, hi, hz0, hz1, hz2⟩ := info_parts Try.infoInt
  refine wpList_make_full w0 hgd l c 25 ho B 3 i0 (.int .i64 0) 1 Try.underlying25 hi hz0 hz1 .i64 .i64 N N n hl hc hN hN (by rw [hz2]; omega) (by unfold maxLen; omega) hB ?_
  intro w' h1 h2
  refine h w' ?_ ((Below.refl _ _).grown h2 hB (by intro k hk; cases hk)) h2
  unfold Ints i64s
  rw [List.length_replicate, List.map_replicate]
  have e : (madeCells (Value.int .i64 0).cells (n * 1)).toList = List.replicate n (Value.int .i64 0) := by
    rw [Nat.mul_one]; exact toList_madeCells_one _ _
  rw [← e]
  exact h1

theorem Ints.cell {w : World} {B g n cap : Nat} {zs : List Int} (h : Ints w B (.slice (some ⟨g, 0, none⟩) n cap) zs) (hn : n = zs.length) (j : Nat) (hj : j < n) : w.cell? ⟨g, j, none⟩ = some (.int .i64 (gt zs j)) := by
  subst hn
  rw [World.ownsRow.cellAt h j (by omega)]
  simp [i64s, gt, hj]
theorem Ints.frz {w : World} {B g n cap : Nat} {zs : List Int} (h : Ints w B (.slice (some ⟨g, 0, none⟩) n cap) zs) (hn : n = zs.length) (j : Nat) : w.frozen? ⟨g, j, none⟩ = false := by
  subst hn
  exact World.ownsRow.frozenAt h j
theorem Ints.set {w : World} {B g n cap : Nat} {zs : List Int} (h : Ints w B (.slice (some ⟨g, 0, none⟩) n cap) zs) (hn : n = zs.length) (j : Nat) (x : Int) :
    Ints (w.setCell ⟨g, j, none⟩ (.int .i64 x)) B (.slice (some ⟨g, 0, none⟩) n cap) (zs.set j x) ∧ w.grownBy (w.setCell ⟨g, j, none⟩ (.int .i64 x)) (some g) := by
  subst hn
  have := World.ownsRow.stored h j (.int .i64 x)
  refine ⟨?_, this.2⟩
  unfold Ints i64s
  rw [List.length_set, List.map_set]
  exact this.1
theorem Ints.kept {w w' : World} {B : Nat} {v : Value} {zs : List Int} {r : Option Nat} (h : Ints w B v zs) (hg : w.grownBy w' r) (hr : v.ownBlock = none ∨ v.ownBlock ≠ r) : Ints w' B v zs := World.ownsRow.kept h hg hr
theorem Ints.blk {w : World} {B g n cap : Nat} {zs : List Int} (h : Ints w B (.slice (some ⟨g, 0, none⟩) n cap) zs) : B ≤ g ∧ g < w.heap.size := World.ownsRow.lt h g rfl
theorem Ints.form {w : World} {B : Nat} {v : Value} {zs : List Int} (h : Ints w B v zs) (hp : 0 < zs.length) :
    ∃ g n cap, v = .slice (some ⟨g, 0, none⟩) n cap ∧ n = zs.length ∧ n ≤ cap ∧ cap ≤ maxLen ∧ B ≤ g ∧ g < w.heap.size ∧ ∀ j, j < n → w.cell? ⟨g, j, none⟩ = some (.int .i64 (gt zs j)) := by
  rcases h.2 with ⟨_, h0⟩ | ⟨g, cap, cur, rfl, hb, hg, hnc, hcm, hcs, ht⟩
  · omega
  · exact ⟨g, _, cap, rfl, rfl, hnc, hcm, hb, (Array.getElem?_eq_some_iff.1 hg).1, fun j hj => Ints.cell h rfl j hj⟩
theorem Ints.shut {w : World} {B : Nat} {v : Value} {zs : List Int} (h : Ints w B v zs) (hp : zs.length = 0) : ∃ a cap, v = .slice a 0 cap := by
  rcases h.2 with ⟨rfl, h0⟩ | ⟨g, cap, cur, rfl, hb, hg, hnc, hcm, hcs, ht⟩
  · exact ⟨_, _, rfl⟩
  · rw [hp]; exact ⟨_, _, rfl⟩
theorem ints_mono' {w : World} {B B' : Nat} {v : Value} {l : List Int} (h : Ints w B' v l) (hb : B ≤ B') : Ints w B v l := by
  refine ⟨h.1, ?_⟩
  rcases h.2 with h2 | ⟨g, cap, cur, e, h1, r⟩
  · exact .inl h2
  · exact .inr ⟨g, cap, cur, e, Nat.le_trans hb h1, r⟩
theorem Rd.part {w : World} {B g n cap : Nat} {zs : List Int} (h : Ints w B (.slice (some ⟨g, 0, none⟩) n cap) zs) (hn : n = zs.length) (hc : n ≤ cap) (hm : cap ≤ maxLen) (lo m c' : Nat) (hlo : lo + m ≤ n) (hc1 : m ≤ c') (hc2 : c' ≤ maxLen) :
    Rd w (.slice (some ⟨g, lo, none⟩) m c') ((zs.drop lo).take m) := by
  have hl : ((zs.drop lo).take m).length = m := by simp; omega
  refine .inr ⟨g, lo, c', by rw [hl], h.blk.2, by rw [hl]; exact hc1, hc2, fun j hj => ?_⟩
  rw [hl] at hj
  rw [h.cell hn (lo + j) (by omega)]
  simp only [gt, List.getD_eq_getElem?_getD, List.getElem?_take, List.getElem?_drop, if_pos hj]

set_option maxHeartbeats 400000 in
/-- two slices that read alike are told equal -/
theorem eqIntS_same (v1 v2 : Value) (zs : List Int) (w : World) (h1 : Rd w v1 zs) (h2 : Rd w v2 zs) (hn : zs.length ≤ 16777216) :
    Calls Try.prog 15 #[v1, v2] w fun e w' => e = .returned (.bool true) ∧ Below w.heap.size w w' := by
  by_cases h0 : zs.length = 0
  · obtain ⟨a1, c1, rfl⟩ : ∃ a c, v1 = .slice a 0 c := by
      rcases h1 with ⟨⟨a, c, rfl⟩, _⟩ | ⟨b, off, cap, rfl, _⟩
      · exact ⟨_, _, rfl⟩
      · rw [h0]; exact ⟨_, _, rfl⟩
    obtain ⟨a2, c2, rfl⟩ : ∃ a c, v2 = .slice a 0 c := by
      rcases h2 with ⟨⟨a, c, rfl⟩, _⟩ | ⟨b, off, cap, rfl, _⟩
      · exact ⟨_, _, rfl⟩
      · rw [h0]; exact ⟨_, _, rfl⟩
    clear h1 h2 h0
    go_enter Try.func15, Try.ntmps15
    go_wp2
    go_loopw [5] (fun i wr => i = .int .i64 0 ∧ wr = w) (fun _ _ => 0)
    case atStart => exact ⟨rfl, rfl⟩
    case round =>
      obtain ⟨rfl, rfl⟩ := hrel
      go_wp2
      go_ret
      exact ⟨rfl, Below.refl _ _⟩
  · rcases h1 with ⟨_, rfl⟩ | ⟨b1, o1, c1, rfl, hb1, hc1, hm1, hh1⟩
    · exact absurd rfl h0
    rcases h2 with ⟨_, rfl⟩ | ⟨b2, o2, c2, rfl, hb2, hc2, hm2, hh2⟩
    · exact absurd rfl h0
    obtain ⟨n, hnz⟩ : ∃ n, n = zs.length := ⟨_, rfl⟩
    rw [← hnz] at hn h0 hh1 hh2 ⊢
    clear hnz hc1 hm1 hc2 hm2
    have HH1 := Lib.hid hh1
    have HH2 := Lib.hid hh2
    clear hh1 hh2
    go_enter Try.func15, Try.ntmps15
    go_wp2
    go_loopw [5] (fun i wr => ∃ k : Nat, k ≤ n ∧ i = .int .i64 k ∧ Below w.heap.size w wr) (fun i _ => n - (intOf i).toNat)
    case atStart => exact ⟨0, Nat.zero_le _, rfl, Below.refl _ _⟩
    case round =>
      obtain ⟨k, hk, rfl, hbel⟩ := hrel
      by_cases hlt : k < n
      · have g1 : wr.cell? ⟨b1, o1 + k, none⟩ = some (.int .i64 (gt zs k)) := (hbel.cell (p := ⟨b1, o1 + k, none⟩) hb1).trans (HH1.out k hlt)
        have g2 : wr.cell? ⟨b2, o2 + k, none⟩ = some (.int .i64 (gt zs k)) := (hbel.cell (p := ⟨b2, o2 + k, none⟩) hb2).trans (HH2.out k hlt)
        have hlt' : (k : Int) < n := by omega
        go_wp2
        go_quiet (fail)
        go_wp2
        go_roundw
        case rel => exact ⟨k + 1, by omega, by go_num, below_drewN hbel _⟩
        case measure => simp [intOf]; omega
      · go_wp2
        go_ret
        exact ⟨rfl, hbel⟩

def marks (k : Int) (n : Nat) : List Int := (List.range n).map fun (j : Nat) => k + j
theorem marks_len (k : Int) (n : Nat) : (marks k n).length = n := by simp [marks]
theorem marks_at (k : Int) (n j : Nat) (h : j < n) : gt (marks k n) j = k + j := by simp [gt, marks, h]
theorem marks_succ (k : Int) (n : Nat) : marks k (n + 1) = marks k n ++ [k + n] := by simp [marks, List.range_succ]

theorem mark_set (zs : List Int) (k : Int) (j : Nat) (h : j < zs.length) : (i64s (marks k j ++ zs.drop j)).set j (.int .i64 (k + j)) = i64s (marks k (j + 1) ++ zs.drop (j + 1)) := by
  rw [marks_succ, List.drop_eq_getElem_cons h]
  simp only [i64s, List.map_append, List.map_cons, List.append_assoc]
  rw [List.set_append_right _ _ (by simp [marks])]
  simp [marks]

set_option maxHeartbeats 400000 in
theorem markIntS (v : Value) (zs : List Int) (B : Nat) (w : World) (h : Ints w B v zs) (hn : zs.length ≤ 16777216) (k : Int) (h0 : 0 ≤ k) (h1 : k ≤ 1000000000) :
    Calls Try.prog 17 #[v, .int .i64 k] w fun e w' => e = .returned (.int .i64 (k + zs.length)) ∧ Ints w' B v (marks k zs.length) ∧ w.grownBy w' v.ownBlock := by
  have h' := h
  rcases h'.2 with ⟨rfl, hz⟩ | ⟨g, cap, cur, rfl, hb, hg, hnc, hcm, hcs, ht⟩
  · have hz0 : zs = [] := List.length_eq_zero_iff.1 hz
    subst hz0
    have H := Lib.hid h
    clear h hz h'
    go_enter Try.func17, Try.ntmps17
    go_wp2
    go_loopw [1, 5] (fun q i wr => i = .int .i64 0 ∧ q = .int .i64 k ∧ wr = w) (fun _ _ _ => 0)
    case atStart => exact ⟨rfl, rfl, rfl⟩
    case round =>
      obtain ⟨rfl, rfl, rfl⟩ := hrel
      go_wp2
      go_ret
      exact ⟨by simp, H.out, World.grownBy.refl _ _⟩
  · have hcell := fun j (hj : j < zs.length * 1) => World.ownsRow.cellAt h j hj
    have H := Lib.hid h
    have HC := Lib.hid hcell
    obtain ⟨n, hnz⟩ : ∃ n, n = zs.length := ⟨_, rfl⟩
    have hX : n ≤ cap := by omega
    unfold maxLen at hcm
    rw [← hnz] at hn ⊢
    have HN := Lib.hid hnz
    clear hnz h h' ht hcs hg hcell hnc
    have hst : (w.ownsRow B 3 1 (.slice (some ⟨g, 0, none⟩) n cap) n (i64s (marks k 0 ++ zs.drop 0))) := by (rw [HN.out, List.drop_zero]; exact H.out)
    have HS := Lib.hid hst
    clear hst
    go_enter Try.func17, Try.ntmps17
    go_wp2
    go_loopw [1, 5] (fun q i wr => ∃ j : Nat, j ≤ n ∧ i = .int .i64 j ∧ q = .int .i64 (k + j) ∧ wr.ownsRow B 3 1 (.slice (some ⟨g, 0, none⟩) n cap) n (i64s (marks k j ++ zs.drop j)) ∧ w.grownBy wr (some g)) (fun _ i _ => n - (intOf i).toNat)
    case atStart => exact ⟨0, Nat.zero_le _, rfl, by simp, HS.out, World.grownBy.refl _ _⟩
    case round =>
      obtain ⟨j, hj, rfl, rfl, hown, hgr⟩ := hrel
      by_cases hlt : j < n
      · have hl : j < (i64s (marks k j ++ zs.drop j)).length := by simp [i64s, marks]; have := HN.out; omega
        obtain ⟨x, hx⟩ : ∃ x, wr.cell? ⟨g, j, none⟩ = some x := ⟨_, (World.ownsRow.cellAt hown j (by omega)).trans (List.getElem?_eq_getElem hl)⟩
        have hf := World.ownsRow.frozenAt hown j
        have hlt' : (j : Int) < n := by omega
        have S := World.ownsRow.stored hown j (.int .i64 (k + j))
        rw [mark_set zs k j (by have := HN.out; omega)] at S
        have SS := Lib.hid S
        have HG := Lib.hid hgr
        clear hown S hgr hl
        go_wp2
        go_roundw
        case rel => exact ⟨j + 1, by omega, by go_num, by go_num, SS.out.1, HG.out.trans SS.out.2⟩
        case measure => simp [intOf]; omega
      · obtain rfl : j = n := by omega
        go_wp2
        go_ret
        refine ⟨rfl, ?_, hgr⟩
        have hd : zs.drop j = [] := List.drop_eq_nil_of_le (by have := HN.out; omega)
        rw [hd, List.append_nil] at hown
        unfold Ints
        rw [marks_len]
        exact hown

theorem heldIntS (v : Value) (n : Nat) (w : World) (k : Int) (h : Rd w v (marks k n)) (hn : n ≤ 16777216) (h0 : 0 ≤ k) (h1 : k ≤ 1000000000) :
    Calls Try.prog 19 #[v, .int .i64 k] w fun e w' => e = .returned (.int .i64 (k + n)) ∧ w = w' := by
  rcases h with ⟨⟨a, c, rfl⟩, hz⟩ | ⟨b, off, cap, hv, hb, hc, hm, hh⟩
  · have hz0 : n = 0 := by have := congrArg List.length hz; simpa [marks] using this
    subst hz0
    clear hz
    go_enter Try.func19, Try.ntmps19
    go_wp2
    go_loop [1, 5] (fun q i => i = .int .i64 0 ∧ q = .int .i64 k) (fun _ _ => 0)
    case atStart => exact ⟨rfl, rfl⟩
    case round =>
      obtain ⟨rfl, rfl⟩ := hrel
      go_wp2
      go_ret
      exact ⟨by simp, rfl⟩
  · rw [marks_len] at hv hh hc
    subst hv
    have hh' : ∀ j, j < n → w.cell? ⟨b, off + j, none⟩ = some (.int .i64 (k + j)) := fun j hj => by rw [hh j hj, marks_at k n j hj]
    have HH := Lib.hid hh'
    clear hh hh' hc hm
    go_enter Try.func19, Try.ntmps19
    go_wp2
    go_loop [1, 5] (fun q i => ∃ j : Nat, j ≤ n ∧ i = .int .i64 j ∧ q = .int .i64 (k + j)) (fun _ i => n - (intOf i).toNat)
    case atStart => exact ⟨0, Nat.zero_le _, rfl, by simp⟩
    case round =>
      obtain ⟨j, hj, rfl, rfl⟩ := hrel
      by_cases hlt : j < n
      · have g1 := HH.out j hlt
        have hlt' : (j : Int) < n := by omega
        go_wp2
        go_round
        case rel => exact ⟨j + 1, by omega, by go_num, by go_num⟩
        case measure => simp [intOf]; omega
      · obtain rfl : j = n := by omega
        go_wp2
        go_ret
        exact ⟨rfl, rfl⟩

/-- an argument's slice of ints reads as its elements -/
def IsRow (k : IntKind) (w : World) (a : Option Addr) (len cap : Nat) (zs : List Int) : Prop :=
  (a = none ∧ len = 0 ∧ cap = 0 ∧ zs = []) ∨
  ∃ x, a = some x ∧ len ≤ cap ∧ cap ≤ maxLen ∧ zs.length = cap ∧ (∀ i, i < zs.length → w.cell? (x.add i) = some (.int k (zs.getD i 0))) ∧ ∀ n ∈ zs, (Lit.int k n).wf = true
theorem IsRow.rd {w : World} {a : Option Addr} {len cap : Nat} {zs : List Int} (h : IsRow .i64 w a len cap zs) : Rd w (.slice a len cap) (zs.take len) ∧ (zs.take len).length = len ∧ ∀ n ∈ zs.take len, -9223372036854775808 ≤ n ∧ n ≤ 9223372036854775807 := by
  rcases h with ⟨rfl, rfl, rfl, rfl⟩ | ⟨x, rfl, hl, hm, hz, hcell, hwf⟩
  · exact ⟨.inl ⟨⟨_, _, rfl⟩, rfl⟩, rfl, by simp⟩
  · have hln : (zs.take len).length = len := by simp; omega
    refine ⟨?_, hln, fun n hn => ?_⟩
    · by_cases h0 : len = 0
      · subst h0; exact .inl ⟨⟨_, _, rfl⟩, by simp⟩
      · obtain ⟨b, off, spot⟩ := x
        have hc := hcell 0 (by omega)
        have hspot : spot = none := by simpa [Addr.add] using World.cell?_spot hc
        subst hspot
        have hc0 : w.cell? ⟨b, off, none⟩ = some (.int .i64 (zs.getD 0 0)) := by simpa [Addr.add] using hc
        refine .inr ⟨b, off, cap, by rw [hln], World.block_lt_of_cell? w _ hc0, by omega, hm, fun j hj => ?_⟩
        rw [hln] at hj
        have := hcell j (by omega)
        have e : (⟨b, off, none⟩ : Addr).add j = ⟨b, off + j, none⟩ := by (simp [Addr.add]; try omega)
        rw [e] at this
        rw [this]
        simp [gt, hj]
    · have := hwf n (List.mem_of_mem_take hn)
      simpa [Lit.wf, IntKind.min, IntKind.max, IntKind.signed, IntKind.bits] using this

theorem Rd.cells {w : World} {v : Value} {zs : List Int} (h : Rd w v zs) : ∃ a n c, v = .slice a n c ∧ n = zs.length ∧ ∀ j, j < n → ∃ b off, a = some ⟨b, off, none⟩ ∧ b < w.heap.size ∧ w.cell? ⟨b, off + j, none⟩ = some (.int .i64 (gt zs j)) := by
  rcases h with ⟨⟨a, c, rfl⟩, rfl⟩ | ⟨b, off, cap, rfl, hb, hc, hm, hh⟩
  · exact ⟨_, _, _, rfl, rfl, fun j hj => absurd hj (Nat.not_lt_zero _)⟩
  · exact ⟨_, _, _, rfl, rfl, fun j hj => ⟨b, off, rfl, hb, hh j hj⟩⟩
theorem Rd.cellsP {w : World} {v : Value} {zs : List Int} (h : Rd w v zs) (hp : 0 < zs.length) : ∃ b off n c, v = .slice (some ⟨b, off, none⟩) n c ∧ n = zs.length ∧ b < w.heap.size ∧ ∀ j, j < n → w.cell? ⟨b, off + j, none⟩ = some (.int .i64 (gt zs j)) := by
  rcases h with ⟨⟨a, c, rfl⟩, rfl⟩ | ⟨b, off, cap, rfl, hb, hc, hm, hh⟩
  · simp at hp
  · exact ⟨b, off, _, _, rfl, rfl, hb, hh⟩
theorem gt_bound {zs : List Int} (h : ∀ n ∈ zs, -9223372036854775808 ≤ n ∧ n ≤ 9223372036854775807) : ∀ j, -9223372036854775808 ≤ gt zs j ∧ gt zs j ≤ 9223372036854775807 := by
  intro j
  by_cases hj : j < zs.length
  · have e : gt zs j = zs[j] := by simp [gt, hj]
    rw [e]; exact h _ (List.getElem_mem _)
  · have e : gt zs j = 0 := by simp [gt, hj]
    rw [e]; omega
theorem apart_old {x y : Value} {a b c d : Nat} (hx : ∀ k, x.ownBlock = some k → a ≤ k ∧ k < b) (hy : ∀ k, y.ownBlock = some k → c ≤ k ∧ k < d) (h : d ≤ a) : y.ownBlock = none ∨ y.ownBlock ≠ x.ownBlock := by
  cases hyb : y.ownBlock with
  | none => exact .inl rfl
  | some k =>
    right; intro e
    have := hx k (e.symm); have := hy k hyb; omega
theorem apart_new {x y : Value} {a b c d : Nat} (hx : ∀ k, x.ownBlock = some k → a ≤ k ∧ k < b) (hy : ∀ k, y.ownBlock = some k → c ≤ k ∧ k < d) (h : b ≤ c) : y.ownBlock = none ∨ y.ownBlock ≠ x.ownBlock := by
  cases hyb : y.ownBlock with
  | none => exact .inl rfl
  | some k =>
    right; intro e
    have := hx k (e.symm); have := hy k hyb; omega
theorem keepB {P : Program} {f : FuncId} {args : Array Value} {w : World} {X : Ending} (h : Calls P f args w fun e w' => e = X ∧ w = w') : Calls P f args w fun e w' => e = X ∧ Below w.heap.size w w' :=
  h.mono (by rintro e w' ⟨rfl, rfl⟩; exact ⟨rfl, Below.refl _ _⟩)
theorem gt_mem {zs : List Int} {j : Nat} (h : j < zs.length) : gt zs j ∈ zs := by
  have e : gt zs j = zs[j] := by simp [gt, h]
  rw [e]; exact List.getElem_mem _

theorem set_tail (zs : List Int) (j : Nat) (h : j < zs.length) : (zs.take j ++ List.replicate (zs.length - j) 0).set j (gt zs j) = zs.take (j + 1) ++ List.replicate (zs.length - (j + 1)) 0 := by
  have hl : (zs.take j).length = j := by simp; omega
  have e : List.replicate (zs.length - j) (0 : Int) = 0 :: List.replicate (zs.length - (j + 1)) 0 := by
    rw [← List.replicate_succ]; congr 1; omega
  rw [e, List.set_append_right _ _ (by omega), hl, Nat.sub_self, List.set_cons_zero, List.take_succ_eq_append_getElem h, List.append_assoc]
  simp [gt, h]

set_option maxHeartbeats 1000000 in
theorem toIntS (v : Value) (zs : List Int) (w : World) (h : Rd w v zs) (hn : zs.length ≤ 1048576) :
    Calls Try.prog 24 #[v] w fun e w' => ∃ u, e = .returned u ∧ Ints w' w.heap.size u zs ∧ Below w.heap.size w w' := by
  obtain ⟨n, hnz⟩ : ∃ n, n = zs.length := ⟨_, rfl⟩
  obtain ⟨a, cap, rfl, hcell⟩ : ∃ a cap, v = .slice a n cap ∧ ∀ j, j < n → ∃ b off, a = some ⟨b, off, none⟩ ∧ b < w.heap.size ∧ w.cell? ⟨b, off + j, none⟩ = some (.int .i64 (gt zs j)) := by
    rcases h with ⟨⟨a, c, rfl⟩, rfl⟩ | ⟨b, off, cap, rfl, hb, hc, hm, hh⟩
    · obtain rfl : n = 0 := hnz
      exact ⟨_, _, rfl, fun j hj => absurd hj (Nat.not_lt_zero _)⟩
    · rw [← hnz] at *
      exact ⟨_, _, rfl, fun j hj => ⟨b, off, rfl, hb, hh j hj⟩⟩
  rw [← hnz] at hn
  have HC := Lib.hid hcell
  have HN := Lib.hid hnz
  clear hcell h hnz
  go_enter Try.func24, Try.ntmps24
  go_wp2_with (at_make; refine wpList_mk rfl _ _ rfl w.heap.size n _ rfl rfl rfl (by omega) (Nat.le_refl _) ?_; intro w1 hI hb1 hg1)
  have hB := hb1.size
  obtain ⟨g, hg⟩ : ∃ g, g = w.heap.size := ⟨_, rfl⟩
  have HG := Lib.hid hg
  have hgl : g < w1.heap.size := by have := hI.blk; omega
  have hI0 : Ints w1 g (.slice (some ⟨g, 0, none⟩) n n) (zs.take 0 ++ List.replicate (n - 0) 0) := by rw [hg]; simpa using hI
  have hb0 : Below g w w1 := by rw [hg]; exact hb1
  clear hI hb1 hg1
  rw [← hg]
  have HI0 := Lib.hid hI0
  clear hg hI0
  go_loopw [4] (fun i wr => ∃ j : Nat, j ≤ n ∧ i = .int .i64 j ∧ Ints wr g (.slice (some ⟨g, 0, none⟩) n n) (zs.take j ++ List.replicate (n - j) 0) ∧ Below g w wr) (fun i _ => n - (intOf i).toNat)
  case atStart => exact ⟨0, Nat.zero_le _, rfl, HI0.out, hb0⟩
  case round =>
    obtain ⟨j, hj, rfl, hI, hb⟩ := hrel
    have hle : g ≤ wr.heap.size := by have := hb.size; have := HG.out; omega
    by_cases hlt : j < n
    · obtain ⟨b, off, rfl, hbl, hc⟩ := HC.out j hlt
      have hlen : n = (zs.take j ++ List.replicate (n - j) (0 : Int)).length := by simp; have := HN.out; omega
      have hbg : b < g := by have := HG.out; omega
      have c1 := (hb.cell (p := ⟨b, off + j, none⟩) hbg).trans hc
      have c2 := hI.cell hlen j hlt
      have c3 := hI.frz hlen j
      have S := hI.set hlen j (gt zs j)
      have e := set_tail zs j (by have := HN.out; omega)
      rw [← HN.out] at e
      rw [e] at S
      have SS := Lib.hid S
      have HB := Lib.hid (hb.grown S.2 hle (by intro k hk; cases hk; exact Nat.le_refl _))
      have HL := Lib.hid hlen
      clear S e hlen hI hb
      generalize gt zs j = x at *
      go_wp2
      go_roundw
      case rel => exact ⟨j + 1, by omega, by go_num, SS.out.1, HB.out⟩
      case measure => (simp [intOf]; try omega)
    · obtain rfl : j = n := by omega
      have e : zs.take j ++ List.replicate (j - j) (0 : Int) = zs := by rw [Nat.sub_self]; simp [HN.out]
      rw [e] at hI
      go_wp2
      go_ret
      exact ⟨_, rfl, by rw [← HG.out]; exact hI, by rw [← HG.out]; exact hb⟩
end Go.Proofs.Ytcpipacombnhdaa
