/- Arrays of 42 numbers; impl.waysOneLeapOn, impl.crossingsByLeaps. -/
import Derived.Test.YtnmeomcoeknjoabCo
import Derived.Laws.Rows
import Derived.Laws.Tables
import Derived.Laws.CopyOwn
import Derived.RangeFuncBox
namespace Go.Proofs.Ytnmeomcoeknjoab
set_option linter.unusedVariables false
set_option maxRecDepth 100000
open Go.RowKit

def arrV (h : Nat → Nat) : Array Value := ((List.range 42).map fun p => Value.int .i64 (h p : Int)).toArray
theorem arrV_size (h : Nat → Nat) : (arrV h).size = 42 := by simp [arrV]
theorem arrV_get {h : Nat → Nat} {j : Nat} (hj : j < 42) : (arrV h)[j]? = some (.int .i64 (h j : Int)) := by
  simp [arrV, hj]
theorem arrV_set (h : Nat → Nat) (j x : Nat) : (arrV h).setIfInBounds j (.int .i64 (x : Int)) = arrV (fun p => if p = j then x else h p) := by
  apply Array.ext
  · simp [arrV]
  · intro i h1 h2
    have hi : i < 42 := by rw [arrV_size] at h2; exact h2
    rw [Array.getElem_setIfInBounds (by rw [arrV_size]; exact hi)]
    simp only [arrV, List.getElem_toArray, List.getElem_map, List.getElem_range]
    by_cases e : j = i
    · subst e; simp
    · rw [if_neg e, if_neg (fun e2 => e e2.symm)]
theorem arrV_one (h : Nat → Nat) : (arrV h).all (·.oneCell') = true := by
  rw [Array.all_eq_true_iff_forall_mem]
  intro v hv
  have hv' : v ∈ (List.range 42).map fun p => Value.int .i64 (h p : Int) := by unfold arrV at hv; exact List.mem_toArray.1 hv
  obtain ⟨p, _, rfl⟩ := List.mem_map.1 hv'
  rfl
theorem arrV_zero : arrV (fun _ => 0) = #[.int .i64 0, .int .i64 0, .int .i64 0, .int .i64 0, .int .i64 0, .int .i64 0, .int .i64 0, .int .i64 0, .int .i64 0, .int .i64 0, .int .i64 0, .int .i64 0, .int .i64 0, .int .i64 0, .int .i64 0, .int .i64 0, .int .i64 0, .int .i64 0, .int .i64 0, .int .i64 0, .int .i64 0, .int .i64 0, .int .i64 0, .int .i64 0, .int .i64 0, .int .i64 0, .int .i64 0, .int .i64 0, .int .i64 0, .int .i64 0, .int .i64 0, .int .i64 0, .int .i64 0, .int .i64 0, .int .i64 0, .int .i64 0, .int .i64 0, .int .i64 0, .int .i64 0, .int .i64 0, .int .i64 0, .int .i64 0] := by rfl
/-- the array variable at block g -/
def Arr (w : World) (g : Nat) (h : Nat → Nat) : Prop := w.heap[g]? = some (.cells (arrV h) 113 (0, 0))
theorem Arr.lt {w : World} {g : Nat} {h : Nat → Nat} (a : Arr w g h) : g < w.heap.size := (Array.getElem?_eq_some_iff.1 a).1
theorem Arr.cell {w : World} {g : Nat} {h : Nat → Nat} (a : Arr w g h) {j : Nat} (hj : j < 42) : w.cell? ⟨g, j, none⟩ = some (.int .i64 (h j : Int)) := by
  rw [cell_of_row w g j _ _ _ a, arrV_get hj]
theorem Arr.frz {w : World} {g : Nat} {h : Nat → Nat} (a : Arr w g h) (j : Nat) : w.frozen? ⟨g, j, none⟩ = false := by simp [World.frozen?, show w.heap[g]? = _ from a]
theorem Arr.set {w : World} {g : Nat} {h : Nat → Nat} (a : Arr w g h) (j x : Nat) : Arr (w.setCell ⟨g, j, none⟩ (.int .i64 (x : Int))) g (fun p => if p = j then x else h p) := by
  unfold Arr
  rw [setCell_eq_setRow w g j _ _ _ _ a, arrV_set]
  exact setRow_heap w g _ _ _ _ a
theorem Arr.set' {w : World} {g : Nat} {h : Nat → Nat} (a : Arr w g h) (j x : Nat) (z : Int) (hz : z = (x : Int)) : Arr (w.setCell ⟨g, j, none⟩ (.int .i64 z)) g (fun p => if p = j then x else h p) := by
  subst hz; exact a.set j x
theorem Arr.same {w w' : World} {g : Nat} {h : Nat → Nat} (a : Arr w g h) (e : w'.heap[g]? = w.heap[g]?) : Arr w' g h := e.trans a
theorem Arr.other {w : World} {g g' : Nat} {h : Nat → Nat} (a : Arr w g h) (hne : g ≠ g') (j : Nat) (v : Value) : Arr (w.setCell ⟨g', j, none⟩ v) g h := a.same (Below.heap_setCell _ _ _ g hne)
theorem Arr.below {w w' : World} {g : Nat} {h : Nat → Nat} (a : Arr w g h) (hb : Below w.heap.size w w') : Arr w' g h := a.same (hb.block g a.lt)
theorem Arr.row {w : World} {g : Nat} {h : Nat → Nat} (a : Arr w g h) (h' : Nat → Nat) : Arr (w.setRow g (arrV h')) g h' := setRow_heap w g _ _ _ _ a
theorem Arr.rowOther {w : World} {g g' : Nat} {h : Nat → Nat} (a : Arr w g h) (hne : g ≠ g') (cs : Array Value) : Arr (w.setRow g' cs) g h := a.same (setRow_other w g' g cs hne)
theorem Arr.new (w : World) (h : Nat → Nat) : Arr (w.alloc (.cells (arrV h) 113)) w.heap.size h := World.alloc_heap_new w _
theorem Arr.alloc {w : World} {g : Nat} {h : Nat → Nat} (a : Arr w g h) (o : Obj) : Arr (w.alloc o) g h := a.same (Below.heap_alloc w o g a.lt)
theorem grownBy_setAt' (W : World) (b k : Nat) (v : Value) : W.grownBy (W.setCell ⟨b, k, none⟩ v) (some b) :=
  ⟨rfl, rfl, rfl, (KeepsWalks.setCell W _ v).size, fun j _ hj => Below.heap_setCell _ _ _ j (fun e => hj (by rw [e]))⟩

theorem getD_ltA {l : List (Nat × Nat)} {m : Nat} (h : ∀ p ∈ l, p.1 < p.2 ∧ p.2 ≤ m) {j : Nat} (hj : j < l.length) : (l.getD j (0, 0)).1 < (l.getD j (0, 0)).2 ∧ (l.getD j (0, 0)).2 ≤ m := by
  have e : l.getD j (0, 0) = l[j] := by simp [hj]
  rw [e]; exact h _ (List.getElem_mem _)
theorem und42 : Try.prog.underlying 113 = some (.array 42 3) := by kernel_rfl
theorem info42 (h : Nat → Nat) : (Try.prog.info? 113).map (·.size) = some (arrV h).size := by rw [arrV_size]; kernel_rfl

set_option maxHeartbeats 8000000 in
set_option maxRecDepth 100000 in
theorem oneLeapOn (a : Option Addr) (n cap : Nat) (s : ByteArray) (L k : Nat) (w : World) (hz : s.size ≤ 40) (hL : L ≤ 50)
    (hn : n = (strides s).length) (hc : ∀ j, j < n → ∃ g, a = some ⟨g, 0, none⟩ ∧ g < w.heap.size ∧ w.cell? ⟨g, j * 2, none⟩ = some (.int .i64 (((strides s).getD j (0, 0)).1 : Int)) ∧ w.cell? ⟨g, j * 2 + 1, none⟩ = some (.int .i64 (((strides s).getD j (0, 0)).2 : Int))) :
    Calls Try.prog 100 #[.slice a n cap, .int .i64 (L : Int), .agg (arrV (waysK s L k))] w fun e w' => e = .returned (.agg (arrV (waysK s L (k + 1)))) ∧ Below w.heap.size w w' := by
  have HC := Lib.hid hc
  have HN := Lib.hid hn
  have HE := Lib.hid (onTo_end (s := s) (L := L) (k := k))
  have HSL := Lib.hid (strides_lt s)
  have HRI := Lib.hid (prTo_rise s (s.size + 1))
  have HBIG := Lib.hid (fun p hp => waysK_big (s := s) (L := L) (k := k) (p := p) hp)
  have HSUM : Hid (∀ p m, p - L + m ≤ p → p ≤ 41 → sumN (waysK s L k) (p - L) m ≤ 2199023255552) := Lib.hid (fun p m h1 h2 => by
    have := sumN_pow (g := waysK s L k) (a := p - L) (n := m) fun i _ => waysK_le s L k _
    exact Nat.le_trans (Nat.le_add_right _ _) (Nat.le_trans this (Nat.le_trans (Nat.pow_le_pow_right (by decide) (by omega : p - L + m ≤ 41)) (by decide))))
  have hnl : n ≤ 41 := by have := strides_len s; omega
  have HZ0 := Lib.hid (onTo_0 (strides s) (fun p => sumN (waysK s L k) (p - L) (p - (p - L))))
  rw [show prTo s (s.size + 1) = strides s from rfl] at HRI
  clear hc hn
  generalize hl : strides s = l at *
  clear hl
  generalize hres : waysK s L (k + 1) = res at *
  clear hres
  go_enter Try.func100, Try.ntmps100
  go_wp2
  rw [← arrV_zero]
  obtain ⟨z0, hz0⟩ : ∃ z0 : Nat → Nat, z0 = fun _ => 0 := ⟨_, rfl⟩
  rw [← hz0]
  have A0 := ((Arr.new w (waysK s L k)).alloc (.cells (arrV z0) 113)).alloc (.cells (arrV z0) 113)
  have A1 := (Arr.new (w.alloc (.cells (arrV (waysK s L k)) 113)) z0).alloc (.cells (arrV z0) 113)
  have A2 := Arr.new ((w.alloc (.cells (arrV (waysK s L k)) 113)).alloc (.cells (arrV z0) 113)) z0
  have hB0 : Below w.heap.size w (((w.alloc (.cells (arrV (waysK s L k)) 113)).alloc (.cells (arrV z0) 113)).alloc (.cells (arrV z0) 113)) := (((Below.refl _ w).alloc (Nat.le_refl _) _).alloc (by simp) _).alloc (by simp; omega) _
  have hs1 : (w.alloc (.cells (arrV (waysK s L k)) 113)).heap.size = w.heap.size + 1 := by simp
  have hs2 : ((w.alloc (.cells (arrV (waysK s L k)) 113)).alloc (.cells (arrV z0) 113)).heap.size = w.heap.size + 1 + 1 := by simp
  rw [hs1] at A1
  rw [hs2] at A2
  clear hs1 hs2
  generalize (((w.alloc (.cells (arrV (waysK s L k)) 113)).alloc (.cells (arrV z0) 113)).alloc (.cells (arrV z0) 113)) = W1 at *
  rw [hz0] at A1 A2
  clear hz0
  have HA0 := Lib.hid A0
  have HA1 := Lib.hid A1
  have HA2 := Lib.hid A2
  have HB0 := Lib.hid hB0
  clear A0 A1 A2 hB0
  go_loopw [14] (fun i wr => ∃ j : Nat, j ≤ n ∧ i = .int .i64 j ∧ Hid (Arr wr w.heap.size (waysK s L k)) ∧ Hid (Arr wr (w.heap.size + 1) (fun _ => 0)) ∧ Hid (Arr wr (w.heap.size + 1 + 1) (onTo l (fun p => sumN (waysK s L k) (p - L) (p - (p - L))) j)) ∧ Hid (Below w.heap.size w wr)) (fun i _ => n - (intOf i).toNat)
  case atStart => exact ⟨0, Nat.zero_le _, rfl, HA0, HA1, Lib.hid (by rw [HZ0.out]; exact HA2.out), HB0⟩
  case round =>
    obtain ⟨j, hj, rfl, hA, hR, hO, hB⟩ := hrel
    have hle := hB.out.size
    by_cases hlt : j < n
    · have hjl : j < l.length := by have := HN.out; omega
      obtain ⟨g, rfl, hg2, hc0, hc1⟩ := HC.out j hlt
      have hc0 := (hB.out.cell (p := ⟨g, j * 2, none⟩) hg2).trans hc0
      have hc1 := (hB.out.cell (p := ⟨g, j * 2 + 1, none⟩) hg2).trans hc1
      have hpb := getD_ltA HSL.out hjl
      have HNEW := Lib.hid (onTo_new (V := fun p => sumN (waysK s L k) (p - L) (p - (p - L))) HRI.out hjl)
      have HST := Lib.hid (onTo_s (V := fun p => sumN (waysK s L k) (p - L) (p - (p - L))) hjl)
      generalize l.getD j (0, 0) = pq at *
      obtain ⟨x, y⟩ := pq
      dsimp only at hc0 hc1 hpb HNEW HST
      obtain ⟨lo, hlo⟩ : ∃ lo, lo = y - L := ⟨_, rfl⟩
      have hmax : max 0 ((y : Int) - (L : Int)) = (lo : Int) := by omega
      have hlo2 : lo ≤ y := by omega
      have HLO := Lib.hid hlo
      have hy41 : y ≤ 41 := by omega
      have hji : (j : Int) < n := by omega
      generalize onTo l (fun p => sumN (waysK s L k) (p - L) (p - (p - L))) j = on at *
      have hbA : Below wr.heap.size wr (wr.alloc (.cells #[.int .i64 (x : Int), .int .i64 (y : Int)] 110)) := (Below.refl wr.heap.size wr).alloc (Nat.le_refl _) _
      have IA := Lib.hid (hA.out.below hbA)
      have IR := Lib.hid (hR.out.below hbA)
      have IO : Hid (Arr (wr.alloc (.cells #[.int .i64 (x : Int), .int .i64 (y : Int)] 110)) (w.heap.size + 1 + 1) (fun p => if p = y then sumN (waysK s L k) lo 0 else on p)) := Lib.hid (by
        have e : (fun p => if p = y then sumN (waysK s L k) lo 0 else on p) = on := by
          funext p
          by_cases hp : p = y
          · subst hp; rw [if_pos rfl, HNEW.out]; rfl
          · rw [if_neg hp]
        rw [e]; exact hO.out.below hbA)
      have IB := Lib.hid (hB.out.trans (hbA.mono hle))
      have hyL : -50 ≤ (y : Int) - L ∧ (y : Int) - L ≤ 41 := by omega
      clear hbA hA hR hO hB hlo
      go_wp2
      all_goals
        go_loopw [11] (fun i wi => ∃ q : Nat, lo + q ≤ y ∧ i = .int .i64 ((lo + q : Nat) : Int) ∧ Hid (Arr wi w.heap.size (waysK s L k)) ∧ Hid (Arr wi (w.heap.size + 1) (fun _ => 0)) ∧ Hid (Arr wi (w.heap.size + 1 + 1) (fun p => if p = y then sumN (waysK s L k) lo q else on p)) ∧ Hid (Below w.heap.size w wi)) (fun i _ => y - (intOf i).toNat)
        case atStart => exact ⟨0, by omega, by congr 1; have := HLO.out; omega, IA, IR, IO, IB⟩
        case round =>
          clear IA IR IO IB
          obtain ⟨q, hq, rfl, hA, hR, hO, hB⟩ := hrel
          have hle2 := hB.out.size
          have hgl : w.heap.size < wr.heap.size := hA.out.lt
          by_cases hlt2 : lo + q < y
          · have hli : ((lo + q : Nat) : Int) < (y : Int) := by omega
            have c1 : wr.cell? ⟨w.heap.size + 1 + 1, y, none⟩ = some (.int .i64 ((sumN (waysK s L k) lo q : Nat) : Int)) := by have := hO.out.cell (j := y) (by omega); rwa [if_pos rfl] at this
            have c2 := hA.out.cell (j := lo + q) (by omega)
            have f1 := hO.out.frz y
            have hb1 : sumN (waysK s L k) lo q ≤ 2199023255552 := by
              have := HSUM.out y q (by have := HLO.out; omega) hy41
              rwa [← HLO.out] at this
            have hb2 := HBIG.out (lo + q) (by omega)
            have EW : wrap64 (((sumN (waysK s L k) lo q : Nat) : Int) + ((waysK s L k (lo + q) : Nat) : Int)) = ((sumN (waysK s L k) lo (q + 1) : Nat) : Int) := by
              rw [sumN_s]; unfold wrap64; omega
            have O2 := Lib.hid (hO.out.set' y (sumN (waysK s L k) lo (q + 1)) _ EW)
            have A2 := Lib.hid (hA.out.other (g' := w.heap.size + 1 + 1) (by omega) y (.int .i64 (wrap64 (((sumN (waysK s L k) lo q : Nat) : Int) + ((waysK s L k (lo + q) : Nat) : Int)))))
            have R2 := Lib.hid (hR.out.other (g' := w.heap.size + 1 + 1) (by omega) y (.int .i64 (wrap64 (((sumN (waysK s L k) lo q : Nat) : Int) + ((waysK s L k (lo + q) : Nat) : Int)))))
            have B2 := Lib.hid (hB.out.setCell (p := ⟨w.heap.size + 1 + 1, y, none⟩) (by show w.heap.size ≤ w.heap.size + 1 + 1; omega) (.int .i64 (wrap64 (((sumN (waysK s L k) lo q : Nat) : Int) + ((waysK s L k (lo + q) : Nat) : Int)))))
            have OE := Lib.hid (show (fun p => if p = y then sumN (waysK s L k) lo (q + 1) else (fun p => if p = y then sumN (waysK s L k) lo q else on p) p) = (fun p => if p = y then sumN (waysK s L k) lo (q + 1) else on p) by
              funext p; by_cases hp : p = y
              · simp [hp]
              · simp [hp])
            rw [OE.out] at O2
            clear EW OE hb1 hb2
            generalize ((sumN (waysK s L k) lo q : Nat) : Int) = y1 at *
            generalize ((waysK s L k (lo + q) : Nat) : Int) = y2 at *
            go_wp2
            go_region
            all_goals
              go_wp2
              go_roundw
              case rel => exact ⟨q + 1, by omega, by go_num, A2, R2, O2, Lib.hid B2.out.drew⟩
              case measure => (simp [intOf]; try omega)
          · obtain rfl : lo + q = y := by omega
            have O3 := Lib.hid (show Arr wr (w.heap.size + 1 + 1) (onTo l (fun p => sumN (waysK s L k) (p - L) (p - (p - L))) (j + 1)) by
              rw [HST.out]
              have e1 := HLO.out
              have e2 : lo + q - (lo + q - L) = q := by omega
              have h := hO.out
              show Arr wr (w.heap.size + 1 + 1) (fun p => if p = lo + q then sumN (waysK s L k) (lo + q - L) (lo + q - (lo + q - L)) else on p)
              rw [e2, ← e1]
              exact h)
            clear hO
            go_wp2
            go_roundw
            case rel => exact ⟨j + 1, by omega, by go_num, hA, hR, O3, hB⟩
            case measure => (simp [intOf]; try omega)
    · obtain rfl : j = n := by omega
      rw [HN.out, HE.out] at hO
      go_wp2_with (first
        | (refine wpList_load_row rfl _ _ rfl (w.heap.size + 1 + 1) rfl _ _ (0, 0) _ hO.out und42 rfl (info42 _) ?_)
        | (refine wpList_store_row rfl _ _ _ rfl (w.heap.size + 1) _ rfl rfl _ _ hR.out (info42 _) (by rw [arrV_size, arrV_size]) (arrV_one _) ?_))
      refine bodyPost_ret (results_cell_row rfl _ _ (w.heap.size + 1) _ _ (0, 0) _ rfl (hR.out.row res) und42 rfl (info42 _)) rfl ?_
      exact ⟨rfl, below_setRow hB.out (by omega) _⟩
end Go.Proofs.Ytnmeomcoeknjoab
