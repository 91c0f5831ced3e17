/- impl.crossingsByLeaps, impl.CountCrossings, impl.CountByLeaps. -/
import Derived.Test.YtnmeomcoeknjoabAr
import Derived.Test.YtnmeomcoeknjoabAsk
import Derived.Deep.WholeRow
namespace Go.Proofs.Ytnmeomcoeknjoab
set_option linter.unusedVariables false
set_option maxRecDepth 100000
open Go.RowKit

/-- the strides lie at a block from B on and below T -/
def StrR (w : World) (B T : Nat) (a : Option Addr) (n : Nat) (l : List (Nat × Nat)) : Prop :=
  T ≤ w.heap.size ∧ ∀ j, j < n → ∃ g, a = some ⟨g, 0, none⟩ ∧ B ≤ g ∧ g < T ∧ w.cell? ⟨g, j * 2, none⟩ = some (.int .i64 ((l.getD j (0, 0)).1 : Int)) ∧ w.cell? ⟨g, j * 2 + 1, none⟩ = some (.int .i64 ((l.getD j (0, 0)).2 : Int))
theorem StrR.below {w w' : World} {B T : Nat} {a : Option Addr} {n : Nat} {l : List (Nat × Nat)} (h : StrR w B T a n l) (hb : Below w.heap.size w w') : StrR w' B T a n l := by
  refine ⟨Nat.le_trans h.1 hb.size, fun j hj => ?_⟩
  obtain ⟨g, e, h1, h2, h3, h4⟩ := h.2 j hj
  have hg : g < w.heap.size := Nat.lt_of_lt_of_le h2 h.1
  exact ⟨g, e, h1, h2, (hb.cell (p := ⟨g, j * 2, none⟩) hg).trans h3, (hb.cell (p := ⟨g, j * 2 + 1, none⟩) hg).trans h4⟩
theorem StrR.put {w : World} {B T : Nat} {a : Option Addr} {n : Nat} {l : List (Nat × Nat)} (h : StrR w B T a n l) {c : Nat} (hc : c < B) (j : Nat) (v : Value) : StrR (w.setCell ⟨c, j, none⟩ v) B T a n l := by
  refine ⟨by simpa using h.1, fun i hi => ?_⟩
  obtain ⟨g, e, h1, h2, h3, h4⟩ := h.2 i hi
  have hk : (w.setCell ⟨c, j, none⟩ v).heap[g]? = w.heap[g]? := Below.heap_setCell _ _ _ g (by show g ≠ c; omega)
  exact ⟨g, e, h1, h2, (World.cell?_of_block (w := w) (a := ⟨g, i * 2, none⟩) hk).trans h3, (World.cell?_of_block (w := w) (a := ⟨g, i * 2 + 1, none⟩) hk).trans h4⟩
theorem StrR.row {w : World} {B T : Nat} {a : Option Addr} {n : Nat} {l : List (Nat × Nat)} (h : StrR w B T a n l) {c : Nat} (hc : T ≤ c) (cs : Array Value) : StrR (w.setRow c cs) B T a n l := by
  refine ⟨by simpa using h.1, fun i hi => ?_⟩
  obtain ⟨g, e, h1, h2, h3, h4⟩ := h.2 i hi
  exact ⟨g, e, h1, h2, (cell_setRow_other w c cs ⟨g, i * 2, none⟩ (by show g ≠ c; omega)).trans h3, (cell_setRow_other w c cs ⟨g, i * 2 + 1, none⟩ (by show g ≠ c; omega)).trans h4⟩

theorem StrR.use {w : World} {B T : Nat} {a : Option Addr} {n : Nat} {l : List (Nat × Nat)} (h : StrR w B T a n l) (j : Nat) (hj : j < n) : ∃ g, a = some ⟨g, 0, none⟩ ∧ g < w.heap.size ∧ w.cell? ⟨g, j * 2, none⟩ = some (.int .i64 ((l.getD j (0, 0)).1 : Int)) ∧ w.cell? ⟨g, j * 2 + 1, none⟩ = some (.int .i64 ((l.getD j (0, 0)).2 : Int)) := by
  obtain ⟨g, e, h1, h2, h3, h4⟩ := h.2 j hj
  exact ⟨g, e, Nat.lt_of_lt_of_le h2 h.1, h3, h4⟩
/-- the counts when so many are told -/
def cntV (s : ByteArray) (L j : Nat) : Nat → Nat := fun k => if k < j then waysK s L k (s.size + 1) else 0
theorem cntV_0 (s : ByteArray) (L : Nat) : cntV s L 0 = fun _ => 0 := by funext k; simp [cntV]
theorem cntV_s (s : ByteArray) (L j : Nat) : (fun k => if k = j then waysK s L j (s.size + 1) else cntV s L j k) = cntV s L (j + 1) := by
  funext k
  unfold cntV
  by_cases h : k = j
  · subst h; simp
  · rw [if_neg h]
    have : (k < j) = (k < j + 1) := propext ⟨fun h => by omega, fun h => by omega⟩
    simp only [this]
theorem arrV_congr {h h' : Nat → Nat} (e : ∀ j, j < 42 → h j = h' j) : arrV h = arrV h' := by
  unfold arrV
  congr 1
  refine List.map_congr_left fun j hj => ?_
  rw [e j (List.mem_range.1 hj)]
def cnt (s : ByteArray) (L : Nat) : Nat → Nat := fun k => waysK s L k (s.size + 1)
theorem cntV_end (s : ByteArray) (L : Nat) : arrV (cntV s L 42) = arrV (cnt s L) := arrV_congr fun j hj => by unfold cntV cnt; rw [if_pos hj]
theorem built42 : Try.prog.built 113 [(0, .int .i64 1)] = some (arrV (fun p => if p = 0 then 1 else 0)) := by kernel_rfl
theorem built0 (s : ByteArray) (L : Nat) : Try.prog.built 113 [(0, .int .i64 1)] = some (arrV (waysK s L 0)) := by
  rw [built42]
  congr 1
theorem wpList_b42 {ops : Array Oper} {rest : List Oper} {o : Oper} {a : Act} {w : World} {Q : Exit → Act → World → Prop} (s : ByteArray) (L : Nat) (hg : o.guard = none) (ho : o.op = .build 113 #[(0, .const (.int .i64 1))])
    (h : wpList Try.prog ops Q rest (a.put o.dst (.agg (arrV (waysK s L 0)))) w) : wpList Try.prog ops Q (o :: rest) a w := by
  have e : Try.prog.built 113 ((#[(0, Operand.const (.int .i64 1))] : Array (Nat × Operand)).map fun (i, x) => (i, a.eval x)).toList = some (arrV (waysK s L 0)) := by
    refine Eq.trans ?_ (built0 s L)
    congr 1
    simp [Act.eval]
  refine wpList_build hg _ _ ho (by rw [e]; rfl) ?_
  rw [e]
  exact h

set_option maxHeartbeats 8000000 in
set_option maxRecDepth 100000 in
theorem byLeaps (s : ByteArray) (L : Nat) (w : World) (hz : s.size ≤ 40) (hL : L ≤ 50) :
    Calls Try.prog 91 #[.string s, .int .i64 (L : Int)] w fun e w' => e = .returned (.agg (arrV (cnt s L))) ∧ Below w.heap.size w w' := by
  have hs : s.size ≤ 1048576 := by omega
  have CE := Lib.hid (cntV_end s L)
  have C0 := Lib.hid (cntV_0 s L)
  have CS := Lib.hid (cntV_s s L)
  obtain ⟨far, hfar⟩ : ∃ far, far = s.size + 1 := ⟨_, rfl⟩
  have HBIG := Lib.hid (fun k p hp => waysK_big (s := s) (L := L) (k := k) (p := p) hp)
  go_enter Try.func91, Try.ntmps91
  go_upto_region 2 with fail
  rw [← arrV_zero]
  obtain ⟨z0, hz0⟩ : ∃ z0 : Nat → Nat, z0 = fun _ => 0 := ⟨_, rfl⟩
  rw [← hz0]
  have A0 := (Arr.new w z0).alloc (.cells (arrV z0) 113)
  have A1 := Arr.new (w.alloc (.cells (arrV z0) 113)) z0
  have hB0 : Below w.heap.size w ((w.alloc (.cells (arrV z0) 113)).alloc (.cells (arrV z0) 113)) := ((Below.refl _ w).alloc (Nat.le_refl _) _).alloc (by simp) _
  have hs1 : (w.alloc (.cells (arrV z0) 113)).heap.size = w.heap.size + 1 := by simp
  have hs2 : ((w.alloc (.cells (arrV z0) 113)).alloc (.cells (arrV z0) 113)).heap.size = w.heap.size + 1 + 1 := by simp
  rw [hs1] at A1
  generalize ((w.alloc (.cells (arrV z0) 113)).alloc (.cells (arrV z0) 113)) = W1 at *
  rw [hz0] at A0 A1
  clear hz0 hs1
  go_wp2_with (first
    | (go_at_call 98; refine (stridesOf s _ hz).mono ?_; rintro e w1 ⟨v, rfl, hS, hB⟩; obtain ⟨a, _, cap, rfl, rfl, hc⟩ := hS.form)
    | (refine wpList_b42 s L rfl rfl ?_)
    | (refine wpList_store_row rfl _ _ _ rfl w1.heap.size _ rfl rfl _ _ (World.alloc_heap_new w1 _) (info42 _) (by rw [arrV_size]; rfl) (arrV_one _) ?_))
  rw [World.setRow_alloc_new]
  have hle0 := hB.size
  have hBz := hB0.trans (hB.mono (by omega))
  have hb1 := (Below.refl w1.heap.size w1).alloc (Nat.le_refl _) (.cells (arrV (waysK s L 0)) 113)
  have HR0 := Lib.hid ((A0.below hB).below hb1)
  have HC0 := Lib.hid ((A1.below hB).below hb1)
  rw [← C0.out] at HC0
  have HW0 := Lib.hid (Arr.new w1 (waysK s L 0))
  have hst1 : StrR w1 (w.heap.size + 2) w1.heap.size a (strides s).length (strides s) := by
    refine ⟨Nat.le_refl _, fun j hj => ?_⟩
    obtain ⟨g, e, h1, h2, h3, h4⟩ := hc j hj
    exact ⟨g, e, by omega, h2, h3, h4⟩
  have HS0 := Lib.hid (hst1.below hb1)
  have HB0 := Lib.hid (hBz.trans (hb1.mono (by have := hBz.size; omega)))
  have hw1 : w.heap.size + 1 < w1.heap.size := by omega
  clear A0 A1 hB0 hS hc hB hBz hb1 hst1 hle0 hs2
  generalize w1.alloc (.cells (arrV (waysK s L 0)) 113) = W2 at *
  generalize w1.heap.size = g1 at *
  go_loopw [12] (fun i wr => ∃ j : Nat, j ≤ 42 ∧ i = .int .i64 j ∧ Hid (Arr wr w.heap.size (fun _ => 0)) ∧ Hid (Arr wr (w.heap.size + 1) (cntV s L j)) ∧ Hid (Arr wr g1 (waysK s L j)) ∧ Hid (StrR wr (w.heap.size + 2) g1 a (strides s).length (strides s)) ∧ Hid (Below w.heap.size w wr)) (fun i _ => 42 - (intOf i).toNat)
  case atStart => exact ⟨0, by omega, rfl, HR0, HC0, HW0, HS0, HB0⟩
  case round =>
    clear HR0 HC0 HW0 HS0 HB0
    obtain ⟨j, hj, rfl, hR, hC, hW, hS, hB⟩ := hrel
    have hle := hB.out.size
    have hgl : g1 < wr.heap.size := hW.out.lt
    by_cases hlt : j < 42
    · have hji : (j : Int) < 42 := by omega
      have c1 := hW.out.cell (j := s.size + 1) (by omega)
      have c2 := hC.out.cell (j := j) hlt
      have f2 := hC.out.frz j
      have R2 := Lib.hid (hR.out.other (g' := w.heap.size + 1) (by omega) j (.int .i64 ((waysK s L j (s.size + 1) : Nat) : Int)))
      have C2 := Lib.hid (hC.out.set j (waysK s L j (s.size + 1)))
      rw [CS.out] at C2
      have W3 := Lib.hid (hW.out.other (g' := w.heap.size + 1) (by omega) j (.int .i64 ((waysK s L j (s.size + 1) : Nat) : Int)))
      have S2 := Lib.hid (hS.out.put (c := w.heap.size + 1) (by omega) j (.int .i64 ((waysK s L j (s.size + 1) : Nat) : Int)))
      have B2 := Lib.hid (hB.out.setCell (p := ⟨w.heap.size + 1, j, none⟩) (by show w.heap.size ≤ w.heap.size + 1; omega) (.int .i64 ((waysK s L j (s.size + 1) : Nat) : Int)))
      clear hR hC hW hS hB
      go_wp2_with (first
        | (go_at_call 96; refine (farBank _ _ hs).mono ?_; rintro e w' ⟨rfl, rfl⟩)
        | (refine wpList_load_row rfl _ _ rfl g1 rfl _ _ (0, 0) _ W3.out und42 rfl (info42 _) ?_)
        | (go_at_call 100; refine (oneLeapOn a _ cap s L j _ hz hL rfl S2.out.use).mono ?_; rintro e w3 ⟨rfl, hb3⟩; have W4 := Lib.hid (W3.out.below hb3); have R4 := Lib.hid (R2.out.below hb3); have C4 := Lib.hid (C2.out.below hb3); have S4 := Lib.hid (S2.out.below hb3); have B4 := Lib.hid (B2.out.trans (hb3.mono (by have := B2.out.size; omega))); clear hb3)
        | (refine wpList_store_row rfl _ _ _ rfl g1 _ rfl rfl _ _ W4.out (info42 _) (by rw [arrV_size, arrV_size]) (arrV_one _) ?_))
      go_roundw
      case rel => exact ⟨j + 1, by omega, by go_num, Lib.hid (R4.out.rowOther (by omega) _), Lib.hid (C4.out.rowOther (by omega) _), Lib.hid (W4.out.row _), Lib.hid (S4.out.row (Nat.le_refl _) _), Lib.hid (below_setRow B4.out (by omega) _)⟩
      case measure => (simp [intOf]; try omega)
    · obtain rfl : j = 42 := by omega
      have HC := Lib.hid (show wr.heap[w.heap.size + 1]? = some (.cells (arrV (cnt s L)) 113 (0, 0)) by rw [← CE.out]; exact hC.out)
      go_wp2_with (first
        | (refine wpList_load_row rfl _ _ rfl (w.heap.size + 1) rfl _ _ (0, 0) _ HC.out und42 rfl (info42 _) ?_)
        | (refine wpList_store_row rfl _ _ _ rfl w.heap.size _ rfl rfl _ _ hR.out (info42 _) (by rw [arrV_size, arrV_size]) (arrV_one _) ?_))
      refine bodyPost_ret (results_cell_row rfl _ _ w.heap.size _ _ (0, 0) _ rfl (hR.out.row (cnt s L)) und42 rfl (info42 _)) rfl ?_
      exact ⟨rfl, below_setRow hB.out (Nat.le_refl _) _⟩
end Go.Proofs.Ytnmeomcoeknjoab
