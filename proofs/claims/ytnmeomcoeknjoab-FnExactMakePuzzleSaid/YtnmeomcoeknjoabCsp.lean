/- spec.rvCount: the rows of the ways. -/
import Derived.Test.YtnmeomcoeknjoabCp
import Derived.Test.YtnmeomcoeknjoabStand
import Derived.Laws.OwnMore
import Derived.Deep.CutRange
import Derived.Deep.DeepCutAuto
namespace Go.Proofs.Ytnmeomcoeknjoab
set_option linter.unusedVariables false
set_option maxRecDepth 100000
open Go.RowKit

theorem Try.infoRow : (Try.prog.info? 87).map (fun i => (i.zero, i.size, i.bytes)) = some (some (.slice none 0 0), 1, 24) := by kernel_rfl
def Rws (w : World) (B : Nat) (v : Value) (vs : List Value) : Prop := w.ownsRow B 87 1 v vs.length vs
theorem wpList_mkR {ops : Array Oper} {rest : List Oper} {o : Oper} {a : Act} {Q : Exit → Act → World → Prop} {w0 : World} (hgd : o.guard = none) (l c : Operand)
    (ho : o.op = Op.makeSlice 101 l c) (B n : Nat) (N : Int) (hl : a.eval l = .int .i64 N) (hc : a.eval c = .int .i64 N) (hN : N = (n : Int)) (hn : n ≤ 16777216) (hB : B ≤ w0.heap.size)
    (h : ∀ w', Rws w' B (.slice (some ⟨w0.heap.size, 0, none⟩) n n) (List.replicate n (.slice none 0 0)) → Below B w0 w' → w0.grownBy w' none → wpList Try.prog ops Q rest (a.put o.dst (.slice (some ⟨w0.heap.size, 0, none⟩) n n)) w') :
    wpList Try.prog ops Q (o :: rest) a w0 := by
  obtain ⟨i0, hi, hz0, hz1, hz2⟩ := info_parts Try.infoRow
  refine wpList_make_full w0 hgd l c 101 ho B 87 i0 (.slice none 0 0) 1 Try.underlying101 hi hz0 hz1 .i64 .i64 N N n hl hc hN hN (by rw [hz2]; omega) (by unfold maxLen; omega) hB ?_
  intro w' h1 h2
  refine h w' ?_ ((Below.refl _ _).grown h2 hB (by intro k hk; cases hk)) h2
  unfold Rws
  rw [List.length_replicate]
  have e : (madeCells (Value.slice none 0 0).cells (n * 1)).toList = List.replicate n (Value.slice none 0 0) := by
    rw [Nat.mul_one]; exact toList_madeCells_one _ _
  rw [← e]
  exact h1

/-- the table at block g: its rows lie at bk, those below i are made, those below j are done -/
def Tab (w : World) (B g n i j : Nat) (bk : Nat → Nat) (s : ByteArray) (L : Nat) : Prop :=
  w.ownsRow B 87 1 (.slice (some ⟨g, 0, none⟩) n n) n (rowsV bk n i) ∧ ∀ p, p < j → bk p ≠ g ∧ Ints w B (.slice (some ⟨bk p, 0, none⟩) n n) (fnL n (fun k => waysK s L k p))
theorem Tab.kept {w w' : World} {B g n i j : Nat} {bk : Nat → Nat} {s : ByteArray} {L : Nat} {r : Option Nat} (h : Tab w B g n i j bk s L) (hg : w.grownBy w' r) (h1 : r ≠ some g) (h2 : ∀ p, p < j → r ≠ some (bk p)) : Tab w' B g n i j bk s L :=
  ⟨World.ownsRow.kept h.1 hg (.inr fun e => h1 e.symm), fun p hp => ⟨(h.2 p hp).1, (h.2 p hp).2.kept hg (.inr fun e => h2 p hp e.symm)⟩⟩
theorem Tab.at {w : World} {B g n i j : Nat} {bk : Nat → Nat} {s : ByteArray} {L : Nat} (h : Tab w B g n i j bk s L) {p : Nat} (hp : p < n) (hi : p < i) : w.cell? ⟨g, p, none⟩ = some (.slice (some ⟨bk p, 0, none⟩) n n) := by
  have := World.ownsRow.cellAt h.1 p (by omega)
  rw [this, rowsV_at hp hi]
theorem Tab.blk {w : World} {B g n i j : Nat} {bk : Nat → Nat} {s : ByteArray} {L : Nat} (h : Tab w B g n i j bk s L) : B ≤ g ∧ g < w.heap.size := World.ownsRow.lt h.1 g rfl
theorem Tab.there {w : World} {B g n i j : Nat} {bk : Nat → Nat} {s : ByteArray} {L : Nat} (h : Tab w B g n i j bk s L) {p : Nat} (hp : p < n) : ∃ x, w.cell? ⟨g, p, none⟩ = Option.some x := by
  have := World.ownsRow.cellAt h.1 p (by omega)
  have hl : p < (rowsV bk n i).length := by rw [rowsV_len]; exact hp
  rw [this, List.getElem?_eq_getElem hl]
  exact ⟨_, rfl⟩
theorem Tab.frz {w : World} {B g n i j : Nat} {bk : Nat → Nat} {s : ByteArray} {L : Nat} (h : Tab w B g n i j bk s L) (p : Nat) : w.frozen? ⟨g, p, none⟩ = false := World.ownsRow.frozenAt h.1 p
/-- a row is hung in -/
theorem Tab.hang {w : World} {B g n i : Nat} {bk : Nat → Nat} {s : ByteArray} {L c : Nat} (h : Tab w B g n i i bk s L) (hc : ∀ p, p < i → bk p ≠ c) :
    Tab (w.setCell ⟨g, i, none⟩ (.slice (some ⟨c, 0, none⟩) n n)) B g n (i + 1) i (fun p => if p = i then c else bk p) s L ∧ w.grownBy (w.setCell ⟨g, i, none⟩ (.slice (some ⟨c, 0, none⟩) n n)) (Option.some g) := by
  have h' : w.ownsRow B 87 1 (.slice (Option.some ⟨g, 0, none⟩) n n) n (rowsV bk n i) := h.1
  have S := World.ownsRow.stored h' i (.slice (Option.some ⟨c, 0, none⟩) n n)
  rw [rowsV_set] at S
  refine ⟨⟨S.1, fun p hp => ?_⟩, S.2⟩
  have e : (if p = i then c else bk p) = bk p := if_neg (by omega)
  show (if p = i then c else bk p) ≠ g ∧ Ints _ B (.slice (Option.some ⟨if p = i then c else bk p, 0, none⟩) n n) _
  rw [e]
  exact ⟨(h.2 p hp).1, (h.2 p hp).2.kept S.2 (.inr fun e2 => (h.2 p hp).1 (by cases e2; rfl))⟩
/-- the row of place i is done -/
theorem Tab.done {w : World} {B g n i : Nat} {bk : Nat → Nat} {s : ByteArray} {L : Nat} (h : Tab w B g n (i + 1) i bk s L) (hg : bk i ≠ g) (hI : Ints w B (.slice (Option.some ⟨bk i, 0, none⟩) n n) (fnL n (fun k => waysK s L k i))) : Tab w B g n (i + 1) (i + 1) bk s L := by
  refine ⟨h.1, fun p hp => ?_⟩
  by_cases e : p = i
  · subst e; exact ⟨hg, hI⟩
  · exact h.2 p (by omega)

theorem most0 (y : Int) (lo : Nat) (w : World) (h : (y < 0 ∧ lo = 0) ∨ (0 ≤ y ∧ y = lo)) :
    Calls Try.prog 68 #[.int .i64 0, .int .i64 y] w fun e w' => e = .returned (.int .i64 lo) ∧ w = w' := by
  rcases h with ⟨h, rfl⟩ | ⟨h, rfl⟩
  · go_enter Try.func68, Try.ntmps68
    go_wp2
    go_ret
    exact ⟨rfl, rfl⟩
  · have h2 : ¬ ((lo : Int) < 0) := by omega
    go_enter Try.func68, Try.ntmps68
    go_wp2
    go_ret
    exact ⟨rfl, rfl⟩
theorem least (n : Nat) (w : World) (h : n ≤ 1000000000000000) :
    Calls Try.prog 81 #[.int .i64 (n : Int), .int .i64 1000000000000001] w fun e w' => e = .returned (.int .i64 (n : Int)) ∧ w = w' := by
  have h2 : (n : Int) < (1000000000000001 : Int) := by omega
  go_enter Try.func81, Try.ntmps81
  go_wp2
  go_ret
  exact ⟨rfl, rfl⟩

set_option maxHeartbeats 8000000 in
theorem specCount (s : ByteArray) (L : Nat) (w : World) (hz : s.size ≤ 40) (hL : L ≤ 50) :
    Calls Try.prog 71 #[.string s, .int .i64 (L : Int)] w fun e w' => ∃ v, e = .returned v ∧ Ints w' w.heap.size v (fnL (s.size + 2) (fun k => waysK s L k (s.size + 1))) ∧ Below w.heap.size w w' := by
  have hs : s.size ≤ 1048576 := by omega
  obtain ⟨g, hg⟩ : ∃ g, g = w.heap.size := ⟨_, rfl⟩
  obtain ⟨e, he⟩ : ∃ e, e = s.size + 1 := ⟨_, rfl⟩
  have HE := Lib.hid he
  have HG := Lib.hid hg
  have he1 : e ≤ 41 := by omega
  have hei : (s.size : Int) + 1 = (e : Int) := by omega
  clear he
  go_enter Try.func71, Try.ntmps71
  go_upto_region 2 with fail
  clear hei
  have HEE := Lib.hid (show (e : Int) + 1 = ((e + 1 : Nat) : Int) by omega)
  go_upto_region 3 with (at_make; refine wpList_mkR rfl _ _ rfl w.heap.size (e + 1) _ rfl rfl HEE.out (by omega) (Nat.le_refl _) ?_; intro w2 hI hb2 hg2)
  have hT0 : Tab w2 w.heap.size w.heap.size (e + 1) 0 0 (fun _ => 0) s L := by
    refine ⟨?_, fun p hp => absurd hp (Nat.not_lt_zero _)⟩
    have h := hI
    unfold Rws at h
    rw [List.length_replicate, rowsV_zero (fun _ => 0)] at h
    exact h
  have HT0 := Lib.hid hT0
  have HB0 := Lib.hid hb2
  clear hI hb2 hg2 hT0
  rw [← hg] at HT0 HB0 ⊢
  clear hg
  go_wp2
  go_loopw [20] (fun i wr => ∃ (p : Nat) (bk : Nat → Nat), p ≤ e + 1 ∧ i = .int .i64 p ∧ Hid (Tab wr g g (e + 1) p p bk s L) ∧ Hid (Below g w wr)) (fun i _ => e + 1 - (intOf i).toNat)
  case atStart => exact ⟨0, fun _ => 0, Nat.zero_le _, rfl, HT0, HB0⟩
  case round =>
    clear HT0 HB0
    obtain ⟨p, bk, hp, rfl, hT, hB⟩ := hrel
    have hgw : g ≤ w.heap.size := by have := HG.out; omega
    have hle := hB.out.size
    by_cases hlt : p < e + 1
    · have hpi : (p : Int) < (e : Int) + 1 := by omega
      go_upto_region 7 with (at_make; refine wpList_mk rfl _ _ rfl g (e + 1) _ rfl rfl HEE.out (by omega) (by omega) ?_; intro w3 hI hb3 hg3; have T3 := Lib.hid (hT.out.kept hg3 (by simp) (by simp)); obtain ⟨x3, hx3⟩ := T3.out.there hlt; have fx3 := T3.out.frz p)
      have hcn : ∀ q, q < p → bk q ≠ wr.heap.size := fun q hq => Nat.ne_of_lt ((hT.out.2 q hq).2.blk.2)
      have H := T3.out.hang (c := wr.heap.size) hcn
      have hgc := hT.out.blk.2
      have I4 := hI.kept H.2 (.inr (by intro e2; cases e2; exact Nat.lt_irrefl _ hgc))
      rw [fnL_zero] at I4
      have HT4 := Lib.hid H.1
      have HI4 := Lib.hid I4
      have HB4 := Lib.hid ((hB.out.trans hb3).setCell (p := ⟨g, p, none⟩) (Nat.le_refl _) (.slice (some ⟨wr.heap.size, 0, none⟩) (e + 1) (e + 1)))
      have HCN := Lib.hid hcn
      have HGS := Lib.hid (show ∀ q, q < p → bk q ≠ g from fun q hq => (hT.out.2 q hq).1)
      clear H I4 hI hb3 hg3 T3 hx3 fx3 hT hB hcn hle
      generalize w3.setCell ⟨g, p, none⟩ (.slice (some ⟨wr.heap.size, 0, none⟩) (e + 1) (e + 1)) = w4 at *
      generalize wr.heap.size = c at *
      have c7 : w4.cell? ⟨g, p, none⟩ = some (.slice (some ⟨c, 0, none⟩) (e + 1) (e + 1)) := by have := HT4.out.at hlt (Nat.lt_succ_self p); simpa using this
      have hHN : Hid (∀ q, q ≤ p → q < e + 1 → (q = p → False) → (if q = p then c else bk q) = bk q) := Lib.hid (fun q _ _ h => if_neg h)
      by_cases hp0 : p = 0
      · subst hp0
        have hlen0 : e + 1 = (fnL (e + 1) (fun _ => 0)).length := (fnL_len _ _).symm
        have d1 := HI4.out.cell hlen0 0 (by omega)
        have d2 := HI4.out.frz hlen0 0
        have S := HI4.out.set hlen0 0 1
        have E0 : (fnL (e + 1) (fun _ => 0)).set 0 1 = fnL (e + 1) (fun k => waysK s L k 0) := by
          rw [show (1 : Int) = ((1 : Nat) : Int) from rfl, fnL_set]
          refine fnL_congr fun k _ => ?_
          cases k with
          | zero => rfl
          | succ k => simp [waysK]
        rw [E0] at S
        have T5 := Lib.hid ((HT4.out.kept S.2 (by intro e2; cases e2; exact Nat.lt_irrefl _ hgc) (fun q hq => absurd hq (Nat.not_lt_zero _))).done (by show (if 0 = 0 then c else bk 0) ≠ g; rw [if_pos rfl]; exact fun e2 => absurd hgc (by omega)) (by show Ints _ g (.slice (some ⟨if 0 = 0 then c else bk 0, 0, none⟩) (e + 1) (e + 1)) _; rw [if_pos rfl]; exact S.1))
        have B5 := Lib.hid (HB4.out.setCell (p := ⟨c, 0, none⟩) (by show g ≤ c; omega) (.int .i64 1))
        clear S E0 hlen0
        go_wp2_with (first
          | (go_at_call 67; refine (rvStand_0 s _ (by unfold maxLen; omega)).mono ?_; rintro e w' ⟨rfl, rfl⟩)
          | (go_at_call 68; refine (most0 _ 0 _ (by omega)).mono ?_; rintro e w' ⟨rfl, rfl⟩))
        go_loopw [9] (fun b wr => b = .int .i64 0 ∧ Hid (Tab wr g g (e + 1) (0 + 1) (0 + 1) (fun p' => if p' = 0 then c else bk p') s L) ∧ Hid (Below g w wr)) (fun _ _ => 0)
        case atStart => exact ⟨rfl, T5, B5⟩
        case round =>
          clear T5 B5
          obtain ⟨rfl, hT, hB⟩ := hrel
          go_wp2
          go_roundw
          case rel => exact ⟨1, _, by omega, by go_num, hT, hB⟩
          case measure => (simp [intOf]; try omega)
      · have hp1 : ¬ (p : Int) = 0 := by omega
        cases hst : stand s p
        · have G := Lib.hid hst
          have T5 := Lib.hid (HT4.out.done (by show (if p = p then c else bk p) ≠ g; rw [if_pos rfl]; exact fun e2 => absurd hgc (by omega)) (by show Ints _ g (.slice (some ⟨if p = p then c else bk p, 0, none⟩) (e + 1) (e + 1)) _; rw [if_pos rfl]; have h := rowR_no s L p hst (e + 1) 0; rw [rowR_start, if_neg hp0] at h; rw [← h]; exact HI4.out))
          clear hst
          go_wp2_with (go_at_call 67; refine (rvStand s p _ hs (by have := HE.out; omega)).mono ?_; rintro e w' ⟨rfl, rfl⟩; rw [G.out])
          go_roundw
          case rel => exact ⟨p + 1, _, by omega, by go_num, T5, HB4⟩
          case measure => (simp [intOf]; try omega)
        · have G := Lib.hid hst
          obtain ⟨lo, hlo⟩ : ∃ lo, lo = p - L := ⟨_, rfl⟩
          have HLO := Lib.hid hlo
          have HLO2 := Lib.hid (show ((p : Int) - L < 0 ∧ lo = 0) ∨ (0 ≤ (p : Int) - L ∧ (p : Int) - L = lo) by omega)
          have hlop : lo ≤ p := by omega
          have REND := Lib.hid (rowR_end s L p hst)
          have HI5 : Hid (Ints w4 g (.slice (some ⟨c, 0, none⟩) (e + 1) (e + 1)) (fnL (e + 1) (rowR s L p lo 0 0))) := Lib.hid (by
            rw [rowR_start, if_neg hp0]; exact HI4.out)
          clear hst hlo HI4
          go_wp2_with (first
            | (go_at_call 67; refine (rvStand s p _ hs (by have := HE.out; omega)).mono ?_; rintro e w' ⟨rfl, rfl⟩; rw [G.out])
            | (go_at_call 68; refine (most0 _ lo _ HLO2.out).mono ?_; rintro e w' ⟨rfl, rfl⟩))
          go_loopw [9] (fun b wr => ∃ m : Nat, lo + m ≤ p ∧ b = .int .i64 ((lo : Int) + (m : Int)) ∧ Hid (Tab wr g g (e + 1) (p + 1) p (fun p' => if p' = p then c else bk p') s L) ∧ Hid (Ints wr g (.slice (some ⟨c, 0, none⟩) (e + 1) (e + 1)) (fnL (e + 1) (rowR s L p lo m 0))) ∧ Hid (Below g w wr)) (fun b _ => p - (intOf b).toNat)
          case atStart => exact ⟨0, by omega, by simp, HT4, HI5, HB4⟩
          case round =>
            clear HI5 HT4 HB4
            obtain ⟨m, hm, rfl, hT, hI, hB⟩ := hrel
            by_cases hmp : lo + m < p
            · have hmi : (lo : Int) + (m : Int) < (p : Int) := by omega
              have c8 : wr.cell? ⟨g, lo + m, none⟩ = some (.slice (some ⟨bk (lo + m), 0, none⟩) (e + 1) (e + 1)) := by
                have := hT.out.at (p := lo + m) (by omega) (by omega)
                rw [if_neg (show ¬ lo + m = p by omega)] at this
                exact this
              go_wp2
              go_loopw [57] (fun b wr => ∃ q : Nat, q ≤ e ∧ b = .int .i64 (q : Int) ∧ Hid (Tab wr g g (e + 1) (p + 1) p (fun p' => if p' = p then c else bk p') s L) ∧ Hid (Ints wr g (.slice (some ⟨c, 0, none⟩) (e + 1) (e + 1)) (fnL (e + 1) (rowR s L p lo m q))) ∧ Hid (Below g w wr)) (fun b _ => e - (intOf b).toNat)
              case atStart => exact ⟨0, Nat.zero_le _, rfl, hT, hI, hB⟩
              case round =>
                clear hT hI hB c8
                obtain ⟨q, hq, rfl, hT, hI, hB⟩ := hrel
                by_cases hqe : q < e
                · have hqi : (q : Int) < (e : Int) := by omega
                  have hlenR := (fnL_len (e + 1) (rowR s L p lo m q)).symm
                  have d1 := hI.out.cell hlenR (q + 1) (by omega)
                  rw [fnL_gt (by omega), rowR_at] at d1
                  have d2 := hI.out.frz hlenR (q + 1)
                  have hrow := (hT.out.2 (lo + m) hmp).2
                  have d3 : wr.cell? ⟨bk (lo + m), q, none⟩ = some (.int .i64 ((waysK s L q (lo + m) : Nat) : Int)) := by
                    have h : Ints wr g (.slice (some ⟨if lo + m = p then c else bk (lo + m), 0, none⟩) (e + 1) (e + 1)) _ := hrow
                    rw [show (if lo + m = p then c else bk (lo + m)) = bk (lo + m) from if_neg (by omega)] at h
                    have := h.cell (fnL_len _ _).symm q (by omega)
                    rwa [fnL_gt (by omega)] at this
                  have b1 : sumN (waysK s L q) lo m ≤ 2199023255552 := rowR_big s L p lo m q (by omega)
                  have b2 : waysK s L q (lo + m) ≤ 2199023255552 := waysK_big (by omega)
                  have b3 : sumN (waysK s L q) lo (m + 1) ≤ 2199023255552 := rowR_big s L p lo (m + 1) q (by omega)
                  have hsum : ((sumN (waysK s L q) lo m : Nat) : Int) + ((waysK s L q (lo + m) : Nat) : Int) = ((sumN (waysK s L q) lo (m + 1) : Nat) : Int) := by
                    rw [sumN_s]; omega
                  have S := hI.out.set hlenR (q + 1) ((sumN (waysK s L q) lo (m + 1) : Nat) : Int)
                  rw [fnL_set, rowR_put s L p lo m q _ (sumN_s _ _ _)] at S
                  have hcg : c ≠ g := by omega
                  have T6 := Lib.hid (hT.out.kept S.2 (by intro e2; cases e2; exact hcg rfl) (fun r hr e2 => by
                    have h3 : c = (if r = p then c else bk r) := Option.some.inj e2
                    rw [if_neg (by omega)] at h3
                    exact HCN.out r hr h3.symm))
                  have I6 := Lib.hid S.1
                  have B6 := Lib.hid (hB.out.setCell (p := ⟨c, q + 1, none⟩) (by show g ≤ c; omega) (.int .i64 ((sumN (waysK s L q) lo (m + 1) : Nat) : Int)))
                  have HSUM := Lib.hid hsum
                  have HW := Lib.hid (show wrap64 (((sumN (waysK s L q) lo m : Nat) : Int) + ((waysK s L q (lo + m) : Nat) : Int)) = ((sumN (waysK s L q) lo (m + 1) : Nat) : Int) by rw [hsum]; unfold wrap64; omega)
                  clear S hI hT hB hrow hsum hlenR
                  go_wp2_with (go_at_call 81; first | rw [HW.out] | rw [HSUM.out]; refine (least _ _ (by omega)).mono ?_; rintro e w' ⟨rfl, rfl⟩)
                  go_roundw
                  case rel => exact ⟨q + 1, by omega, by go_num, T6, I6, B6⟩
                  case measure => (simp [intOf]; try omega)
                · obtain rfl : q = e := by omega
                  have I7 := Lib.hid (show Ints wr g (.slice (some ⟨c, 0, none⟩) (q + 1) (q + 1)) (fnL (q + 1) (rowR s L p lo (m + 1) 0)) by rw [← rowR_next]; exact hI.out)
                  clear hI
                  go_wp2
                  go_roundw
                  case rel => exact ⟨m + 1, by omega, by go_num, hT, I7, hB⟩
                  case measure => (simp [intOf]; try omega)
            · obtain ⟨hmq⟩ : (lo + m = p) ∧ True := ⟨by omega, trivial⟩
              have hI7 : Ints wr g (.slice (some ⟨c, 0, none⟩) (e + 1) (e + 1)) (fnL (e + 1) (fun k => waysK s L k p)) := by
                have h := hI.out
                have e1 := HLO.out
                rw [show m = p - (p - L) by omega, e1, REND.out] at h
                exact h
              have T7 := Lib.hid (hT.out.done (by show (if p = p then c else bk p) ≠ g; rw [if_pos rfl]; exact fun e2 => absurd hgc (by omega)) (by show Ints _ g (.slice (some ⟨if p = p then c else bk p, 0, none⟩) (e + 1) (e + 1)) _; rw [if_pos rfl]; exact hI7))
              clear hI hI7 hT hmq
              go_wp2
              go_roundw
              case rel => exact ⟨p + 1, _, by omega, by go_num, T7, hB⟩
              case measure => (simp [intOf]; try omega)
    · obtain rfl : p = e + 1 := by omega
      have c9 := hT.out.at (p := e) (by omega) (by omega)
      have HF := Lib.hid (hT.out.2 e (by omega)).2
      go_wp2
      go_ret
      refine ⟨_, rfl, ?_, ?_⟩
      · have e1 := HE.out
        have e2 := HG.out
        subst e1 e2
        exact HF.out
      · have e2 := HG.out
        subst e2
        exact hB.out
end Go.Proofs.Ytnmeomcoeknjoab
