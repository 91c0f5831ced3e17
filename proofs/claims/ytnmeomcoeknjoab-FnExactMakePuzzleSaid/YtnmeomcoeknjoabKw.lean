/- The clue as a river has it: impl.clueAsRiverHas, fitsClue. -/
import Derived.Test.YtnmeomcoeknjoabKv
import Derived.Lib.Strings
import Derived.Lib.Slices
import Derived.Lib.Bytealg
import Derived.Lib.CountLaws
import Derived.Shelf.RegionOpenPlain
namespace Go.Proofs.Ytnmeomcoeknjoab
set_option linter.unusedVariables false
set_option maxRecDepth 100000
open Go.RowKit

theorem countStones (s : ByteArray) (w : World) :
    Calls Try.prog 74 #[.string s, .string ⟨#[111]⟩] w fun e w' => e = .returned (.int .i64 (stc s : Int)) ∧ w = w' := by
  go_enter Try.func74, Try.ntmps74
  go_wp2
  rw [run_callFunc_extern Try.func84 (by kernel_rfl) (by kernel_rfl) (by kernel_rfl) (e := Extern.BytealgCount.count) (by kernel_rfl), show (({ data := #[111] } : ByteArray)[0].toNat : Int) = ((111 : UInt8).toNat : Int) from rfl, Lib.run_countString]
  simp only [Result.andThen]
  rw [Oper.upon_value]
  go_wp2
  go_ret
  exact ⟨rfl, rfl⟩


/-- behind a call: the clue's box stands, and the answer's -/
def Two (w w1 : World) (k a b : Int) : Prop := Blk w1 w.heap.size #[.int .i64 k, .int .i64 a, .int .i64 b] ∧ Blk w1 (w.heap.size + 1) #[.int .i64 0, .int .i64 0, .int .i64 0] ∧ Below w.heap.size w w1
theorem Two.of {w w1 : World} {k a b : Int} {T1 T2 : TypeId} (hb : Below ((w.alloc (.cells #[.int .i64 k, .int .i64 a, .int .i64 b] T1)).alloc (.cells #[.int .i64 0, .int .i64 0, .int .i64 0] T2)).heap.size ((w.alloc (.cells #[.int .i64 k, .int .i64 a, .int .i64 b] T1)).alloc (.cells #[.int .i64 0, .int .i64 0, .int .i64 0] T2)) w1) : Two w w1 k a b := by
  have e : (w.alloc (.cells #[.int .i64 k, .int .i64 a, .int .i64 b] T1)).heap.size = w.heap.size + 1 := by simp
  refine ⟨((Blk.new w _ T1).alloc _).below hb (by simp; omega), ?_, ?_⟩
  · exact ((Blk.new (w.alloc (.cells #[.int .i64 k, .int .i64 a, .int .i64 b] T1)) _ T2).at_ e).below hb (by simp)
  · exact ((((Below.refl _ w).alloc (Nat.le_refl _) _).alloc (by simp) _)).trans (hb.mono (by simp; omega))
/-- the cells as they are loaded -/
theorem Two.cells {w w1 : World} {k a b : Int} (h : Two w w1 k a b) : w1.cell? ⟨w.heap.size, 0, none⟩ = some (.int .i64 k) ∧ w1.cell? ⟨w.heap.size, 1, none⟩ = some (.int .i64 a) ∧ w1.cell? ⟨w.heap.size, 2, none⟩ = some (.int .i64 b) ∧
    w1.cell? ⟨w.heap.size + 1, 0, none⟩ = some (.int .i64 0) ∧ w1.cell? ⟨w.heap.size + 1, 1, none⟩ = some (.int .i64 0) ∧ w1.cell? ⟨w.heap.size + 1, 2, none⟩ = some (.int .i64 0) ∧
    (∀ j, w1.frozen? ⟨w.heap.size, j, none⟩ = false) ∧ (∀ j, w1.frozen? ⟨w.heap.size + 1, j, none⟩ = false) :=
  ⟨h.1.cell 0, h.1.cell 1, h.1.cell 2, h.2.1.cell 0, h.2.1.cell 1, h.2.1.cell 2, h.1.fr, h.2.1.fr⟩
def ClueP (k a x : Int) (w : World) (e : Ending) (w' : World) : Prop := e = .returned (.agg #[.int .i64 k, .int .i64 a, .int .i64 x]) ∧ Below w.heap.size w w'
theorem clue_1 (p : Nat) (b : Int) (s : ByteArray) (w : World) (hz : s.size ≤ 8) (hp : 1 ≤ p ∧ p ≤ s.size) :
    Calls Try.prog 62 #[.agg #[.int .i64 1, .int .i64 (p : Int), .int .i64 b], .string s] w (ClueP 1 p (cval 1 p s) w) := by
  have hm : s.size ≤ maxLen := by unfold maxLen; omega
  rw [cval_1, Int.toNat_natCast]
  cases h2 : stn s p
  all_goals
    have G2 := Lib.hid h2
    clear h2
    go_enter Try.func62, Try.ntmps62
    go_wp2_with (go_at_call 75; refine (isStoneAt s p _ hm).mono ?_; rintro e w' ⟨rfl, rfl⟩; rw [G2.out])
    refine bodyPost_ret (v := .agg #[.int .i64 1, .int .i64 (p : Int), .int .i64 (if stn s p then 1 else 0)]) (by simp [results, Try.results62, go_sem, G2.out]) rfl ⟨by simp [G2.out], by (repeat (first | exact Below.refl _ _ | (refine Below.alloc ?_ (by first | omega | (simp; try omega)) _) | apply Below.drew | apply below_drewN))⟩

theorem clue_3 (a : Int) (b : Int) (s : ByteArray) (w : World) (hz : s.size ≤ 8) (hv : isRv s = true) :
    Calls Try.prog 62 #[.agg #[.int .i64 3, .int .i64 a, .int .i64 b], .string s] w (ClueP 3 a (cval 3 a s) w) := by
  have L := fun wx => implLeast s wx (by omega)
  rw [leastV_yes hv] at L
  have L := Lib.hid L
  rw [cval_3]
  generalize (gapLen s (s.size + 1) : Int) = x at *
  go_enter Try.func62, Try.ntmps62
  go_wp2_with fail
  refine (L.out _).mono ?_
  rintro e w1 ⟨rfl, hb⟩
  have HT := Lib.hid (Two.of (w := w) hb)
  obtain ⟨x0, x1, x2, y0, y1, y2, f0, f1⟩ := HT.out.cells
  have g0 := f0 2
  have g1 := f1 0
  have g2 := f1 1
  have g3 := f1 2
  clear f0 f1 hb
  go_wp2
  refine bodyPost_ret (v := .agg #[.int .i64 3, .int .i64 a, .int .i64 x]) (by simp [results, Try.results62, go_sem, y0, y1, y2]) rfl ⟨rfl, ?_⟩
  exact (((HT.out.2.2.setCell (Nat.le_refl _) _).setCell (by simp) _).setCell (by simp) _).setCell (by simp) _

theorem clue_5 (a : Int) (b : Int) (s : ByteArray) (w : World) (hz : s.size ≤ 8) (hv : isRv s = true) :
    Calls Try.prog 62 #[.agg #[.int .i64 5, .int .i64 a, .int .i64 b], .string s] w (ClueP 5 a (cval 5 a s) w) := by
  have L := fun wx => implLgap s wx (by omega)
  rw [lgapV_yes hv] at L
  have L := Lib.hid L
  rw [cval_5]
  generalize (gapAt s (s.size + 1) : Int) = x at *
  go_enter Try.func62, Try.ntmps62
  go_wp2_with fail
  refine (L.out _).mono ?_
  rintro e w1 ⟨rfl, hb⟩
  have HT := Lib.hid (Two.of (w := w) hb)
  obtain ⟨x0, x1, x2, y0, y1, y2, f0, f1⟩ := HT.out.cells
  have g0 := f0 2
  have g1 := f1 0
  have g2 := f1 1
  have g3 := f1 2
  clear f0 f1 hb
  go_wp2
  refine bodyPost_ret (v := .agg #[.int .i64 5, .int .i64 a, .int .i64 x]) (by simp [results, Try.results62, go_sem, y0, y1, y2]) rfl ⟨rfl, ?_⟩
  exact (((HT.out.2.2.setCell (Nat.le_refl _) _).setCell (by simp) _).setCell (by simp) _).setCell (by simp) _

theorem clue_4 (l : Nat) (b : Int) (s : ByteArray) (w : World) (hz : s.size ≤ 8) (hv : isRv s = true) (hl : 1 ≤ l ∧ l ≤ 9) :
    Calls Try.prog 62 #[.agg #[.int .i64 4, .int .i64 (l : Int), .int .i64 b], .string s] w (ClueP 4 (l : Int) (cval 4 (l : Int) s) w) := by
  have L := fun wx => implCross s (l : Int) wx (by omega)
  rw [crossV_yes (asked_in hv (a := (l : Int)) (by omega))] at L
  have L := Lib.hid L
  rw [cval_4, Int.toNat_natCast]
  generalize (total s l : Int) = x at *
  go_enter Try.func62, Try.ntmps62
  go_wp2_with fail
  refine (L.out _).mono ?_
  rintro e w1 ⟨rfl, hb⟩
  have HT := Lib.hid (Two.of (w := w) hb)
  obtain ⟨x0, x1, x2, y0, y1, y2, f0, f1⟩ := HT.out.cells
  have g0 := f0 2
  have g1 := f1 0
  have g2 := f1 1
  have g3 := f1 2
  clear f0 f1 hb
  go_wp2
  refine bodyPost_ret (v := .agg #[.int .i64 4, .int .i64 (l : Int), .int .i64 x]) (by simp [results, Try.results62, go_sem, y0, y1, y2]) rfl ⟨rfl, ?_⟩
  exact (((HT.out.2.2.setCell (Nat.le_refl _) _).setCell (by simp) _).setCell (by simp) _).setCell (by simp) _

theorem clue_2 (l : Nat) (b : Int) (s : ByteArray) (w : World) (hz : s.size ≤ 8) (hv : isRv s = true) (hl : 1 ≤ l ∧ l ≤ 9) :
    Calls Try.prog 62 #[.agg #[.int .i64 2, .int .i64 (l : Int), .int .i64 b], .string s] w (ClueP 2 (l : Int) (cval 2 (l : Int) s) w) := by
  have ha := asked_in hv (a := (l : Int)) (by omega)
  obtain ⟨ok, hf⟩ : ∃ ok, fewV s (l : Int) = .tuple #[.int .i64 (max 0 (gt (leftL s (l : Int)) 0)), .bool ok] := by
    by_cases h0 : 0 ≤ gt (leftL s (l : Int)) 0
    · exact ⟨true, by rw [fewV_3 ha h0, show max 0 (gt (leftL s (l : Int)) 0) = gt (leftL s (l : Int)) 0 by omega]⟩
    · exact ⟨false, by rw [fewV_2 (by omega), show max 0 (gt (leftL s (l : Int)) 0) = 0 by omega]⟩
  have L := fun wx => implFew s (l : Int) wx (by omega)
  rw [hf] at L
  have L := Lib.hid L
  clear hf ha
  rw [cval_2]
  generalize (max 0 (gt (leftL s (l : Int)) 0)) = x at *
  go_enter Try.func62, Try.ntmps62
  go_wp2_with fail
  refine (L.out _).mono ?_
  rintro e w1 ⟨rfl, hb⟩
  have HT := Lib.hid (Two.of (w := w) hb)
  obtain ⟨x0, x1, x2, y0, y1, y2, f0, f1⟩ := HT.out.cells
  have g0 := f0 2
  have g1 := f1 0
  have g2 := f1 1
  have g3 := f1 2
  clear f0 f1 hb
  go_wp2
  refine bodyPost_ret (v := .agg #[.int .i64 2, .int .i64 (l : Int), .int .i64 x]) (by simp [results, Try.results62, go_sem, y0, y1, y2]) rfl ⟨rfl, ?_⟩
  exact (((HT.out.2.2.setCell (Nat.le_refl _) _).setCell (by simp) _).setCell (by simp) _).setCell (by simp) _

theorem clue_0 (a : Int) (b : Int) (s : ByteArray) (w : World) :
    Calls Try.prog 62 #[.agg #[.int .i64 0, .int .i64 a, .int .i64 b], .string s] w (ClueP 0 a (cval 0 a s) w) := by
  rw [cval_0]
  have L := Lib.hid (fun wx => countStones s wx)
  generalize (stc s : Int) = x at *
  go_enter Try.func62, Try.ntmps62
  go_wp2_with (go_at_call 74; refine (L.out _).mono ?_; rintro e w' ⟨rfl, rfl⟩)
  exact bodyPost_ret (v := .agg #[.int .i64 0, .int .i64 a, .int .i64 x]) (by simp [results, Try.results62, go_sem]) rfl ⟨rfl, by (repeat (first | exact Below.refl _ _ | (refine Below.alloc ?_ (by first | omega | (simp; try omega)) _) | apply Below.drew | apply below_drewN))⟩
theorem clueRiver (k a b : Int) (s : ByteArray) (w : World) (hv : isRv s = true) (hz : s.size ≤ 8) (h : okA k a s) :
    Calls Try.prog 62 #[.agg #[.int .i64 k, .int .i64 a, .int .i64 b], .string s] w (ClueP k a (cval k a s) w) := by
  obtain ⟨h0, h5, h1, h24⟩ := h
  obtain e | e | e | e | e | e : k = 0 ∨ k = 1 ∨ k = 2 ∨ k = 3 ∨ k = 4 ∨ k = 5 := by omega
  · subst e; exact clue_0 a b s w
  · have ha := h1 e
    obtain ⟨p, rfl⟩ : ∃ p : Nat, a = (p : Int) := ⟨a.toNat, by omega⟩
    subst e; exact clue_1 p b s w hz (by omega)
  · have ha := h24 (.inl e)
    obtain ⟨p, rfl⟩ : ∃ p : Nat, a = (p : Int) := ⟨a.toNat, by omega⟩
    subst e; exact clue_2 p b s w hz hv (by omega)
  · subst e; exact clue_3 a b s w hz hv
  · have ha := h24 (.inr e)
    obtain ⟨p, rfl⟩ : ∃ p : Nat, a = (p : Int) := ⟨a.toNat, by omega⟩
    subst e; exact clue_4 p b s w hz hv (by omega)
  · subst e; exact clue_5 a b s w hz hv

theorem undC : Try.prog.underlying 26 = some (.struct (Try.prog.fieldsOf 26)) := by kernel_rfl
theorem heldC : Try.prog.stoodInHeld 26 = false := by kernel_rfl
theorem eqC (k a b c d e : Int) (w : World) : (Op.equalIn 10000 26 (.agg #[.int .i64 k, .int .i64 a, .int .i64 b]) (.agg #[.int .i64 c, .int .i64 d, .int .i64 e])).run Try.prog w = .ok (k == c && a == d && b == e) w := by
  have u3 := Try.underlying3
  have a3 := Try.isAgg3
  have z3 := Try.sizeOf3
  rw [show (10000 : Nat) = 9999 + 1 from rfl, run_equalIn_agg _ _ _ _ _ undC heldC]
  go_simp
  by_cases h1 : k = c <;> by_cases h2 : a = d <;> by_cases h3 : b = e <;> simp [h1, h2, h3]

set_option maxHeartbeats 1000000 in
theorem fitsClue (k a b : Int) (s : ByteArray) (w : World) (hv : isRv s = true) (hz : s.size ≤ 8) (h : okA k a s) :
    Calls Try.prog 38 #[.agg #[.int .i64 k, .int .i64 a, .int .i64 b], .string s] w fun e w' => e = .returned (.bool (cfit (k, a, b) s)) ∧ Below w.heap.size w w' := by
  have C := Lib.hid (fun b wx => clueRiver k a b s wx hv hz h)
  have e : cfit (k, a, b) s = (b == cval k a s) := by rw [Bool.eq_iff_iff]; simp [cfit]; exact eq_comm
  rw [e]
  clear e h
  generalize cval k a s = x at *
  have hE := eqC k a b k a x
  simp only [beq_self_eq_true, Bool.true_and] at hE
  have X := Blk.new w #[.int .i64 k, .int .i64 a, .int .i64 b] 26
  have HX := Lib.hid X
  have c0 := X.cell 0
  have c1 := X.cell 1
  have c2 := X.cell 2
  have cl := X.lt
  simp only [List.getElem?_toArray, List.getElem?_cons_zero, List.getElem?_cons_succ] at c0 c1 c2
  clear X
  go_enter Try.func38, Try.ntmps38
  go_wp2
  go_region_with (go_at_call 62; refine (C.out b _).mono ?_; rintro e w1 ⟨rfl, hb⟩; have HX1 := HX.out.drew.below hb (by have := HX.out.lt; simp; try omega); have d0 := HX1.cell 0; have d1 := HX1.cell 1; have d2 := HX1.cell 2; simp only [List.getElem?_toArray, List.getElem?_cons_zero, List.getElem?_cons_succ] at d0 d1 d2)
  all_goals
    have HB := Lib.hid (Below.trans (by (repeat (first | exact Below.refl _ _ | (refine Below.alloc ?_ (by first | omega | (simp; try omega)) _) | apply Below.drew | apply below_drewN))) (hb.mono (by simp; try omega)) : Below w.heap.size w w1)
    clear hb
    go_wp2
    go_ret
    exact ⟨rfl, HB.out⟩

def hidB (s : ByteArray) : Bool := isRv s && decide (s.size ≤ 8)
theorem hidB_in {s : ByteArray} (h : hidB s = true) : isRv s = true ∧ 1 ≤ s.size ∧ s.size ≤ 8 := by
  simp only [hidB, Bool.and_eq_true, decide_eq_true_eq] at h
  exact ⟨h.1, (size_rv h.1).1, h.2⟩
theorem pzHidden (s : ByteArray) (w : World) (hs : s.size ≤ 1048576) :
    Calls Try.prog 33 #[.string s] w fun e w' => e = .returned (.bool (hidB s)) ∧ w = w' := by
  have hm : s.size ≤ maxLen := by unfold maxLen; omega
  cases hv : isRv s
  all_goals
    have G := Lib.hid hv
    have e : hidB s = (isRv s && decide (s.size ≤ 8)) := rfl
    rw [hv] at e
    rw [e]
    clear hv e
    go_enter Try.func33, Try.ntmps33
    go_wp2_with (go_at_call 57; refine (specRvGood _ _ hm).mono ?_; rintro e w' ⟨rfl, rfl⟩; rw [G.out])
    go_ret
    exact ⟨ret_bool (by first | (simp; done) | (simp; omega)), rfl⟩
theorem isHidden (s : ByteArray) (w : World) (hs : s.size ≤ 1048576) :
    Calls Try.prog 36 #[.string s] w fun e w' => e = .returned (.bool (hidB s)) ∧ w = w' := by
  have hm : s.size ≤ maxLen := by unfold maxLen; omega
  cases hv : isRv s
  all_goals
    have G := Lib.hid hv
    have e : hidB s = (isRv s && inB (s.size : Int) 1 8) := by
      unfold hidB
      cases h : isRv s
      · rfl
      · have := (size_rv h).1
        rw [Bool.eq_iff_iff]; simp [inB]; omega
    rw [hv] at e
    rw [e]
    clear hv e
    go_enter Try.func36, Try.ntmps36
    go_wp2_with (first
      | (go_at_call 59; refine (implIsRiver _ _ hm).mono ?_; rintro e w' ⟨rfl, rfl⟩; rw [G.out])
      | (go_at_call 60; refine (arePlaces _ _).mono ?_; rintro e w' ⟨rfl, rfl⟩))
    go_ret
    exact ⟨ret_bool (by first | (simp; done) | (simp; omega)), rfl⟩
def fitV (c : Br) (s : ByteArray) : Value := if hidB s && isCl s.size c then .tuple #[.bool (cfit c s), .bool true] else .tuple #[.bool false, .bool false]
theorem fitV_form (c : Br) (s : ByteArray) : ∃ x y, fitV c s = .tuple #[.bool x, .bool y] := by unfold fitV; split <;> exact ⟨_, _, rfl⟩
theorem fitV_1 {c : Br} {s : ByteArray} (h : hidB s = false) : fitV c s = .tuple #[.bool false, .bool false] := by simp [fitV, h]
theorem fitV_2 {c : Br} {s : ByteArray} (h : isCl s.size c = false) : fitV c s = .tuple #[.bool false, .bool false] := by simp [fitV, h]
theorem fitV_3 {c : Br} {s : ByteArray} (h : hidB s = true) (h' : isCl s.size c = true) : fitV c s = .tuple #[.bool (cfit c s), .bool true] := by simp [fitV, h, h']
theorem okA_of {k a b : Int} {s : ByteArray} (h : isCl s.size (k, a, b) = true) : okA k a s := by
  have h0 := isCl_in h
  refine ⟨h0.1, h0.2.1, fun e => ?_, fun e => ?_⟩
  · have := isCl_place h e; exact this
  · have := isCl_leap h e; exact this
theorem specDoes (k a b : Int) (s : ByteArray) (w : World) (hs : s.size ≤ 1048576) :
    Calls Try.prog 10 #[.agg #[.int .i64 k, .int .i64 a, .int .i64 b], .string s] w fun e w' => e = .returned (fitV (k, a, b) s) ∧ Below w.heap.size w w' := by
  cases h1 : hidB s
  · rw [fitV_1 h1]
    have G := Lib.hid h1
    clear h1
    go_enter Try.func10, Try.ntmps10
    go_wp2_with (go_at_call 33; refine (pzHidden _ _ hs).mono ?_; rintro e w' ⟨rfl, rfl⟩; rw [G.out])
    go_ret2
    exact ⟨rfl, by (repeat (first | exact Below.refl _ _ | (refine Below.alloc ?_ (by first | omega | (simp; try omega)) _) | apply Below.drew | apply below_drewN))⟩
  · cases h2 : isCl s.size (k, a, b)
    · rw [fitV_2 h2]
      have G := Lib.hid h1
      have G2 := Lib.hid h2
      clear h1 h2
      go_enter Try.func10, Try.ntmps10
      go_wp2_with (first
        | (go_at_call 33; refine (pzHidden _ _ hs).mono ?_; rintro e w' ⟨rfl, rfl⟩; rw [G.out])
        | (go_at_call 34; refine (pzClue _ k a b _).mono ?_; rw [G2.out]; rintro e w1 ⟨rfl, hb⟩))
      go_ret2
      exact ⟨rfl, Below.trans (by (repeat (first | exact Below.refl _ _ | (refine Below.alloc ?_ (by first | omega | (simp; try omega)) _) | apply Below.drew | apply below_drewN))) (hb.mono (by simp; try omega))⟩
    · rw [fitV_3 h1 h2]
      obtain ⟨hv, hz1, hz⟩ := hidB_in h1
      have hok := okA_of h2
      have G := Lib.hid h1
      have G2 := Lib.hid h2
      have C := Lib.hid (fun wx => pzFits k a b s wx hv hz hok)
      clear h1 h2 hok hv hz
      go_enter Try.func10, Try.ntmps10
      go_wp2_with (first
        | (go_at_call 33; refine (pzHidden _ _ hs).mono ?_; rintro e w' ⟨rfl, rfl⟩; rw [G.out])
        | (go_at_call 34; refine (pzClue _ k a b _).mono ?_; rw [G2.out]; rintro e w1 ⟨rfl, hb⟩; have HX1 := Lib.hid ((Blk.new w #[.int .i64 k, .int .i64 a, .int .i64 b] 26).below hb (by simp)); have HB1 := Lib.hid (Below.trans (by (repeat (first | exact Below.refl _ _ | (refine Below.alloc ?_ (by first | omega | (simp; try omega)) _) | apply Below.drew | apply below_drewN))) (hb.mono (by simp; try omega)) : Below w.heap.size w w1); have d0 := HX1.out.cell 0; have d1 := HX1.out.cell 1; have d2 := HX1.out.cell 2; simp only [List.getElem?_toArray, List.getElem?_cons_zero, List.getElem?_cons_succ] at d0 d1 d2; clear hb)
        | (go_at_call 35; refine (C.out _).mono ?_; rintro e w2 ⟨rfl, hb⟩; have HB2 := Lib.hid (HB1.out.trans (hb.mono HB1.out.size)); clear hb))
      go_ret2
      exact ⟨rfl, HB2.out⟩
theorem implDoes (k a b : Int) (s : ByteArray) (w : World) (hs : s.size ≤ 1048576) :
    Calls Try.prog 12 #[.agg #[.int .i64 k, .int .i64 a, .int .i64 b], .string s] w fun e w' => e = .returned (fitV (k, a, b) s) ∧ Below w.heap.size w w' := by
  cases h1 : hidB s
  · rw [fitV_1 h1]
    have G := Lib.hid h1
    clear h1
    go_enter Try.func12, Try.ntmps12
    go_wp2_with (go_at_call 36; refine (isHidden _ _ hs).mono ?_; rintro e w' ⟨rfl, rfl⟩; rw [G.out])
    go_ret2
    exact ⟨rfl, by (repeat (first | exact Below.refl _ _ | (refine Below.alloc ?_ (by first | omega | (simp; try omega)) _) | apply Below.drew | apply below_drewN))⟩
  · have hn8 : inB (s.size : Int) 1 8 = true := by have := hidB_in h1; exact inB_yes (by omega) (by omega)
    cases h2 : isCl s.size (k, a, b)
    · rw [fitV_2 h2]
      have G := Lib.hid h1
      have G2 := Lib.hid (show clOK s.size (k, a, b) = false by simp [clOK, h2])
      clear h1 h2 hn8
      go_enter Try.func12, Try.ntmps12
      go_wp2_with (first
        | (go_at_call 36; refine (isHidden _ _ hs).mono ?_; rintro e w' ⟨rfl, rfl⟩; rw [G.out])
        | (go_at_call 37; refine (implIsClue _ k a b _).mono ?_; rw [G2.out]; rintro e w1 ⟨rfl, hb⟩))
      go_ret2
      exact ⟨rfl, Below.trans (by (repeat (first | exact Below.refl _ _ | (refine Below.alloc ?_ (by first | omega | (simp; try omega)) _) | apply Below.drew | apply below_drewN))) (hb.mono (by simp; try omega))⟩
    · rw [fitV_3 h1 h2]
      obtain ⟨hv, hz1, hz⟩ := hidB_in h1
      have hok := okA_of h2
      have G := Lib.hid h1
      have G2 := Lib.hid (show clOK s.size (k, a, b) = true by simp [clOK, h2, hn8])
      have C := Lib.hid (fun wx => fitsClue k a b s wx hv hz hok)
      clear h1 h2 hok hv hz hn8
      go_enter Try.func12, Try.ntmps12
      go_wp2_with (first
        | (go_at_call 36; refine (isHidden _ _ hs).mono ?_; rintro e w' ⟨rfl, rfl⟩; rw [G.out])
        | (go_at_call 37; refine (implIsClue _ k a b _).mono ?_; rw [G2.out]; rintro e w1 ⟨rfl, hb⟩; have HX1 := Lib.hid ((Blk.new w #[.int .i64 k, .int .i64 a, .int .i64 b] 26).below hb (by simp)); have HB1 := Lib.hid (Below.trans (by (repeat (first | exact Below.refl _ _ | (refine Below.alloc ?_ (by first | omega | (simp; try omega)) _) | apply Below.drew | apply below_drewN))) (hb.mono (by simp; try omega)) : Below w.heap.size w w1); have d0 := HX1.out.cell 0; have d1 := HX1.out.cell 1; have d2 := HX1.out.cell 2; simp only [List.getElem?_toArray, List.getElem?_cons_zero, List.getElem?_cons_succ] at d0 d1 d2; clear hb)
        | (go_at_call 38; refine (C.out _).mono ?_; rintro e w2 ⟨rfl, hb⟩; have HB2 := Lib.hid (HB1.out.trans (hb.mono HB1.out.size)); clear hb))
      go_ret2
      exact ⟨rfl, HB2.out⟩
end Go.Proofs.Ytnmeomcoeknjoab
