/- MakePuzzle: the next number, the clue that is made (written by gen_kmk.py). -/
import Derived.Test.YtnmeomcoeknjoabKw
import Derived.Test.YtnmeomcoeknjoabKap
namespace Go.Proofs.Ytnmeomcoeknjoab
set_option linter.unusedVariables false
set_option maxRecDepth 100000
open Go.RowKit

def nx (z : Nat) : Nat := (z * 251 + 1609) % 10007
theorem nx_le (z : Nat) : nx z ≤ 10006 := by unfold nx; omega
def mkA (k y : Nat) (s : ByteArray) : Nat := if k = 1 then y % s.size + 1 else if k = 2 ∨ k = 4 then y % 9 + 1 else 0
def mkC (k y : Nat) (s : ByteArray) : Br := ((k : Int), (mkA k y s : Int), cval (k : Int) (mkA k y s : Int) s)
theorem nextNumber (z : Nat) (w : World) (hz : z ≤ 10006) :
    Calls Try.prog 54 #[.int .i64 (z : Int)] w fun e w' => e = .returned (.int .i64 (nx z : Int)) ∧ w = w' := by
  have E := Lib.hid (show ((nx z : Nat) : Int) = ((z : Int) * 251 + 1609) % 10007 by unfold nx; omega)
  go_enter Try.func54, Try.ntmps54
  go_wp2
  go_ret
  refine ⟨?_, rfl⟩
  rw [E.out]
  rfl
theorem pzNext (z : Nat) (w : World) (hz : z ≤ 10006) :
    Calls Try.prog 52 #[.int .i64 (z : Int)] w fun e w' => e = .returned (.int .i64 (nx z : Int)) ∧ w = w' := by
  have E := Lib.hid (show ((nx z : Nat) : Int) = (251 * (z : Int) + 1609) % 10007 by unfold nx; omega)
  go_enter Try.func52, Try.ntmps52
  go_wp2
  go_ret
  refine ⟨?_, rfl⟩
  rw [E.out]
  rfl
theorem pzOf_0 (y r : Nat) (s : ByteArray) (w : World) (hv : isRv s = true) (h1 : 1 ≤ s.size) (hz : s.size ≤ 8) (hy : y ≤ 10006)  :
    Calls Try.prog 53 #[.int .i64 0, .int .i64 (y : Int), .string s] w fun e w' => e = .returned (.agg #[.int .i64 0, .int .i64 0, .int .i64 (cval 0 0 s)]) ∧ Below w.heap.size w w' := by
  have hok : okA 0 0 s := ⟨by omega, by omega, fun e => by omega, fun e => by omega⟩
  have hC := fun wx => pzValue 0 0 s wx hv hz hok
  skip
  have C := Lib.hid hC
  have hne : ¬ (s.size : Int) = 0 := by omega
  clear hok hC
  generalize cval 0 0 s = cv at *
  go_enter Try.func53, Try.ntmps53
  go_wp2_with fail
  refine (C.out _).mono ?_
  rintro e w1 ⟨rfl, hb⟩
  have X := Lib.hid ((Blk.new w #[.int .i64 0, .int .i64 0, .int .i64 0] 26).below hb (by simp))
  have HB := Lib.hid (Below.trans (by (repeat (first | exact Below.refl _ _ | (refine Below.alloc ?_ (by first | omega | (simp; try omega)) _) | apply Below.drew | apply below_drewN))) (hb.mono (by simp; try omega)) : Below w.heap.size w w1)
  obtain ⟨y0, y1, y2, yl⟩ := X.out.three
  have f0 := X.out.fr 0
  have f1 := X.out.fr 1
  have f2 := X.out.fr 2
  clear hb
  go_wp2
  refine bodyPost_ret (v := .agg #[.int .i64 0, .int .i64 0, .int .i64 cv]) (by simp [results, Try.results53, go_sem, y0, y1, y2]) rfl ⟨rfl, ?_⟩
  exact ((HB.out.setCell (Nat.le_refl _) _).setCell (Nat.le_refl _) _).setCell (Nat.le_refl _) _
theorem pzOf_1 (y r : Nat) (s : ByteArray) (w : World) (hv : isRv s = true) (h1 : 1 ≤ s.size) (hz : s.size ≤ 8) (hy : y ≤ 10006) (hr : (y : Int) % (s.size : Int) = (r : Int)) (hrl : r < s.size) :
    Calls Try.prog 53 #[.int .i64 1, .int .i64 (y : Int), .string s] w fun e w' => e = .returned (.agg #[.int .i64 1, .int .i64 ((r : Int) + 1), .int .i64 (cval 1 ((r : Int) + 1) s)]) ∧ Below w.heap.size w w' := by
  have hok : okA 1 ((r : Int) + 1) s := ⟨by omega, by omega, fun e => by omega, fun e => by omega⟩
  have hC := fun wx => pzValue 1 ((r : Int) + 1) s wx hv hz hok
  skip
  have C := Lib.hid hC
  have hne : ¬ (s.size : Int) = 0 := by omega
  clear hok hC
  generalize cval 1 ((r : Int) + 1) s = cv at *
  go_enter Try.func53, Try.ntmps53
  go_wp2_with fail
  refine (C.out _).mono ?_
  rintro e w1 ⟨rfl, hb⟩
  have X := Lib.hid ((Blk.new w #[.int .i64 0, .int .i64 0, .int .i64 0] 26).below hb (by simp))
  have HB := Lib.hid (Below.trans (by (repeat (first | exact Below.refl _ _ | (refine Below.alloc ?_ (by first | omega | (simp; try omega)) _) | apply Below.drew | apply below_drewN))) (hb.mono (by simp; try omega)) : Below w.heap.size w w1)
  obtain ⟨y0, y1, y2, yl⟩ := X.out.three
  have f0 := X.out.fr 0
  have f1 := X.out.fr 1
  have f2 := X.out.fr 2
  clear hb
  go_wp2
  refine bodyPost_ret (v := .agg #[.int .i64 1, .int .i64 ((r : Int) + 1), .int .i64 cv]) (by simp [results, Try.results53, go_sem, y0, y1, y2]) rfl ⟨rfl, ?_⟩
  exact ((HB.out.setCell (Nat.le_refl _) _).setCell (Nat.le_refl _) _).setCell (Nat.le_refl _) _
theorem pzOf_2 (y r : Nat) (s : ByteArray) (w : World) (hv : isRv s = true) (h1 : 1 ≤ s.size) (hz : s.size ≤ 8) (hy : y ≤ 10006) (hr : (y : Int) % 9 = (r : Int)) (hrl : r < 9) :
    Calls Try.prog 53 #[.int .i64 2, .int .i64 (y : Int), .string s] w fun e w' => e = .returned (.agg #[.int .i64 2, .int .i64 ((r : Int) + 1), .int .i64 (cval 2 ((r : Int) + 1) s)]) ∧ Below w.heap.size w w' := by
  have hok : okA 2 ((r : Int) + 1) s := ⟨by omega, by omega, fun e => by omega, fun e => by omega⟩
  have hC := fun wx => pzValue 2 ((r : Int) + 1) s wx hv hz hok
  skip
  have C := Lib.hid hC
  have hne : ¬ (s.size : Int) = 0 := by omega
  clear hok hC
  generalize cval 2 ((r : Int) + 1) s = cv at *
  go_enter Try.func53, Try.ntmps53
  go_wp2_with fail
  refine (C.out _).mono ?_
  rintro e w1 ⟨rfl, hb⟩
  have X := Lib.hid ((Blk.new w #[.int .i64 0, .int .i64 0, .int .i64 0] 26).below hb (by simp))
  have HB := Lib.hid (Below.trans (by (repeat (first | exact Below.refl _ _ | (refine Below.alloc ?_ (by first | omega | (simp; try omega)) _) | apply Below.drew | apply below_drewN))) (hb.mono (by simp; try omega)) : Below w.heap.size w w1)
  obtain ⟨y0, y1, y2, yl⟩ := X.out.three
  have f0 := X.out.fr 0
  have f1 := X.out.fr 1
  have f2 := X.out.fr 2
  clear hb
  go_wp2
  refine bodyPost_ret (v := .agg #[.int .i64 2, .int .i64 ((r : Int) + 1), .int .i64 cv]) (by simp [results, Try.results53, go_sem, y0, y1, y2]) rfl ⟨rfl, ?_⟩
  exact ((HB.out.setCell (Nat.le_refl _) _).setCell (Nat.le_refl _) _).setCell (Nat.le_refl _) _
theorem pzOf_3 (y r : Nat) (s : ByteArray) (w : World) (hv : isRv s = true) (h1 : 1 ≤ s.size) (hz : s.size ≤ 8) (hy : y ≤ 10006)  :
    Calls Try.prog 53 #[.int .i64 3, .int .i64 (y : Int), .string s] w fun e w' => e = .returned (.agg #[.int .i64 3, .int .i64 0, .int .i64 (cval 3 0 s)]) ∧ Below w.heap.size w w' := by
  have hok : okA 3 0 s := ⟨by omega, by omega, fun e => by omega, fun e => by omega⟩
  have hC := fun wx => pzValue 3 0 s wx hv hz hok
  skip
  have C := Lib.hid hC
  have hne : ¬ (s.size : Int) = 0 := by omega
  clear hok hC
  generalize cval 3 0 s = cv at *
  go_enter Try.func53, Try.ntmps53
  go_wp2_with fail
  refine (C.out _).mono ?_
  rintro e w1 ⟨rfl, hb⟩
  have X := Lib.hid ((Blk.new w #[.int .i64 0, .int .i64 0, .int .i64 0] 26).below hb (by simp))
  have HB := Lib.hid (Below.trans (by (repeat (first | exact Below.refl _ _ | (refine Below.alloc ?_ (by first | omega | (simp; try omega)) _) | apply Below.drew | apply below_drewN))) (hb.mono (by simp; try omega)) : Below w.heap.size w w1)
  obtain ⟨y0, y1, y2, yl⟩ := X.out.three
  have f0 := X.out.fr 0
  have f1 := X.out.fr 1
  have f2 := X.out.fr 2
  clear hb
  go_wp2
  refine bodyPost_ret (v := .agg #[.int .i64 3, .int .i64 0, .int .i64 cv]) (by simp [results, Try.results53, go_sem, y0, y1, y2]) rfl ⟨rfl, ?_⟩
  exact ((HB.out.setCell (Nat.le_refl _) _).setCell (Nat.le_refl _) _).setCell (Nat.le_refl _) _
theorem pzOf_4 (y r : Nat) (s : ByteArray) (w : World) (hv : isRv s = true) (h1 : 1 ≤ s.size) (hz : s.size ≤ 8) (hy : y ≤ 10006) (hr : (y : Int) % 9 = (r : Int)) (hrl : r < 9) :
    Calls Try.prog 53 #[.int .i64 4, .int .i64 (y : Int), .string s] w fun e w' => e = .returned (.agg #[.int .i64 4, .int .i64 ((r : Int) + 1), .int .i64 (cval 4 ((r : Int) + 1) s)]) ∧ Below w.heap.size w w' := by
  have hok : okA 4 ((r : Int) + 1) s := ⟨by omega, by omega, fun e => by omega, fun e => by omega⟩
  have hC := fun wx => pzValue 4 ((r : Int) + 1) s wx hv hz hok
  skip
  have C := Lib.hid hC
  have hne : ¬ (s.size : Int) = 0 := by omega
  clear hok hC
  generalize cval 4 ((r : Int) + 1) s = cv at *
  go_enter Try.func53, Try.ntmps53
  go_wp2_with fail
  refine (C.out _).mono ?_
  rintro e w1 ⟨rfl, hb⟩
  have X := Lib.hid ((Blk.new w #[.int .i64 0, .int .i64 0, .int .i64 0] 26).below hb (by simp))
  have HB := Lib.hid (Below.trans (by (repeat (first | exact Below.refl _ _ | (refine Below.alloc ?_ (by first | omega | (simp; try omega)) _) | apply Below.drew | apply below_drewN))) (hb.mono (by simp; try omega)) : Below w.heap.size w w1)
  obtain ⟨y0, y1, y2, yl⟩ := X.out.three
  have f0 := X.out.fr 0
  have f1 := X.out.fr 1
  have f2 := X.out.fr 2
  clear hb
  go_wp2
  refine bodyPost_ret (v := .agg #[.int .i64 4, .int .i64 ((r : Int) + 1), .int .i64 cv]) (by simp [results, Try.results53, go_sem, y0, y1, y2]) rfl ⟨rfl, ?_⟩
  exact ((HB.out.setCell (Nat.le_refl _) _).setCell (Nat.le_refl _) _).setCell (Nat.le_refl _) _
theorem pzOf_5 (y r : Nat) (s : ByteArray) (w : World) (hv : isRv s = true) (h1 : 1 ≤ s.size) (hz : s.size ≤ 8) (hy : y ≤ 10006)  :
    Calls Try.prog 53 #[.int .i64 5, .int .i64 (y : Int), .string s] w fun e w' => e = .returned (.agg #[.int .i64 5, .int .i64 0, .int .i64 (cval 5 0 s)]) ∧ Below w.heap.size w w' := by
  have hok : okA 5 0 s := ⟨by omega, by omega, fun e => by omega, fun e => by omega⟩
  have hC := fun wx => pzValue 5 0 s wx hv hz hok
  skip
  have C := Lib.hid hC
  have hne : ¬ (s.size : Int) = 0 := by omega
  clear hok hC
  generalize cval 5 0 s = cv at *
  go_enter Try.func53, Try.ntmps53
  go_wp2_with fail
  refine (C.out _).mono ?_
  rintro e w1 ⟨rfl, hb⟩
  have X := Lib.hid ((Blk.new w #[.int .i64 0, .int .i64 0, .int .i64 0] 26).below hb (by simp))
  have HB := Lib.hid (Below.trans (by (repeat (first | exact Below.refl _ _ | (refine Below.alloc ?_ (by first | omega | (simp; try omega)) _) | apply Below.drew | apply below_drewN))) (hb.mono (by simp; try omega)) : Below w.heap.size w w1)
  obtain ⟨y0, y1, y2, yl⟩ := X.out.three
  have f0 := X.out.fr 0
  have f1 := X.out.fr 1
  have f2 := X.out.fr 2
  clear hb
  go_wp2
  refine bodyPost_ret (v := .agg #[.int .i64 5, .int .i64 0, .int .i64 cv]) (by simp [results, Try.results53, go_sem, y0, y1, y2]) rfl ⟨rfl, ?_⟩
  exact ((HB.out.setCell (Nat.le_refl _) _).setCell (Nat.le_refl _) _).setCell (Nat.le_refl _) _
theorem pzOf (k y : Nat) (s : ByteArray) (w : World) (hk : k ≤ 5) (hv : isRv s = true) (h1 : 1 ≤ s.size) (hz : s.size ≤ 8) (hy : y ≤ 10006) :
    Calls Try.prog 53 #[.int .i64 (k : Int), .int .i64 (y : Int), .string s] w fun e w' => e = .returned (.agg #[.int .i64 (mkC k y s).1, .int .i64 (mkC k y s).2.1, .int .i64 (mkC k y s).2.2]) ∧ Below w.heap.size w w' := by
  obtain rfl | rfl | rfl | rfl | rfl | rfl : k = 0 ∨ k = 1 ∨ k = 2 ∨ k = 3 ∨ k = 4 ∨ k = 5 := by omega
  · exact pzOf_0 y 0 s w hv h1 hz hy
  · exact pzOf_1 y (y % s.size) s w hv h1 hz hy rfl (Nat.mod_lt _ (by omega))
  · exact pzOf_2 y (y % 9) s w hv h1 hz hy rfl (Nat.mod_lt _ (by omega))
  · exact pzOf_3 y 0 s w hv h1 hz hy
  · exact pzOf_4 y (y % 9) s w hv h1 hz hy rfl (Nat.mod_lt _ (by omega))
  · exact pzOf_5 y 0 s w hv h1 hz hy
theorem madeClue_0 (y r : Nat) (s : ByteArray) (w : World) (hv : isRv s = true) (h1 : 1 ≤ s.size) (hz : s.size ≤ 8) (hy : y ≤ 10006)  :
    Calls Try.prog 55 #[.string s, .int .i64 0, .int .i64 (y : Int)] w fun e w' => e = .returned (.agg #[.int .i64 0, .int .i64 0, .int .i64 (cval 0 0 s)]) ∧ Below w.heap.size w w' := by
  have hok : okA 0 0 s := ⟨by omega, by omega, fun e => by omega, fun e => by omega⟩
  have hC := fun wx => clueRiver 0 0 0 s wx hv hz hok
  unfold ClueP at hC
  have C := Lib.hid hC
  have hne : ¬ (s.size : Int) = 0 := by omega
  clear hok hC
  generalize cval 0 0 s = cv at *
  go_enter Try.func55, Try.ntmps55
  go_wp2_with fail
  refine (C.out _).mono ?_
  rintro e w1 ⟨rfl, hb⟩
  have X := Lib.hid (((Blk.new w #[.int .i64 0, .int .i64 0, .int .i64 0] 26).alloc _).below hb (by simp; try omega))
  have HB := Lib.hid (Below.trans (by (repeat (first | exact Below.refl _ _ | (refine Below.alloc ?_ (by first | omega | (simp; try omega)) _) | apply Below.drew | apply below_drewN))) (hb.mono (by simp; try omega)) : Below w.heap.size w w1)
  obtain ⟨y0, y1, y2, yl⟩ := X.out.three
  have f0 := X.out.fr 0
  have f1 := X.out.fr 1
  have f2 := X.out.fr 2
  clear hb
  go_wp2
  refine bodyPost_ret (v := .agg #[.int .i64 0, .int .i64 0, .int .i64 cv]) (by simp [results, Try.results55, go_sem, y0, y1, y2]) rfl ⟨rfl, ?_⟩
  exact ((HB.out.setCell (Nat.le_refl _) _).setCell (Nat.le_refl _) _).setCell (Nat.le_refl _) _
theorem madeClue_1 (y r : Nat) (s : ByteArray) (w : World) (hv : isRv s = true) (h1 : 1 ≤ s.size) (hz : s.size ≤ 8) (hy : y ≤ 10006) (hr : (y : Int) % (s.size : Int) = (r : Int)) (hrl : r < s.size) :
    Calls Try.prog 55 #[.string s, .int .i64 1, .int .i64 (y : Int)] w fun e w' => e = .returned (.agg #[.int .i64 1, .int .i64 ((r : Int) + 1), .int .i64 (cval 1 ((r : Int) + 1) s)]) ∧ Below w.heap.size w w' := by
  have hok : okA 1 ((r : Int) + 1) s := ⟨by omega, by omega, fun e => by omega, fun e => by omega⟩
  have hC := fun wx => clueRiver 1 ((r : Int) + 1) 0 s wx hv hz hok
  unfold ClueP at hC
  have C := Lib.hid hC
  have hne : ¬ (s.size : Int) = 0 := by omega
  clear hok hC
  generalize cval 1 ((r : Int) + 1) s = cv at *
  go_enter Try.func55, Try.ntmps55
  go_wp2_with fail
  refine (C.out _).mono ?_
  rintro e w1 ⟨rfl, hb⟩
  have X := Lib.hid (((Blk.new w #[.int .i64 0, .int .i64 0, .int .i64 0] 26).alloc _).below hb (by simp; try omega))
  have HB := Lib.hid (Below.trans (by (repeat (first | exact Below.refl _ _ | (refine Below.alloc ?_ (by first | omega | (simp; try omega)) _) | apply Below.drew | apply below_drewN))) (hb.mono (by simp; try omega)) : Below w.heap.size w w1)
  obtain ⟨y0, y1, y2, yl⟩ := X.out.three
  have f0 := X.out.fr 0
  have f1 := X.out.fr 1
  have f2 := X.out.fr 2
  clear hb
  go_wp2
  refine bodyPost_ret (v := .agg #[.int .i64 1, .int .i64 ((r : Int) + 1), .int .i64 cv]) (by simp [results, Try.results55, go_sem, y0, y1, y2]) rfl ⟨rfl, ?_⟩
  exact ((HB.out.setCell (Nat.le_refl _) _).setCell (Nat.le_refl _) _).setCell (Nat.le_refl _) _
theorem madeClue_2 (y r : Nat) (s : ByteArray) (w : World) (hv : isRv s = true) (h1 : 1 ≤ s.size) (hz : s.size ≤ 8) (hy : y ≤ 10006) (hr : (y : Int) % 9 = (r : Int)) (hrl : r < 9) :
    Calls Try.prog 55 #[.string s, .int .i64 2, .int .i64 (y : Int)] w fun e w' => e = .returned (.agg #[.int .i64 2, .int .i64 ((r : Int) + 1), .int .i64 (cval 2 ((r : Int) + 1) s)]) ∧ Below w.heap.size w w' := by
  have hok : okA 2 ((r : Int) + 1) s := ⟨by omega, by omega, fun e => by omega, fun e => by omega⟩
  have hC := fun wx => clueRiver 2 ((r : Int) + 1) 0 s wx hv hz hok
  unfold ClueP at hC
  have C := Lib.hid hC
  have hne : ¬ (s.size : Int) = 0 := by omega
  clear hok hC
  generalize cval 2 ((r : Int) + 1) s = cv at *
  go_enter Try.func55, Try.ntmps55
  go_wp2_with fail
  refine (C.out _).mono ?_
  rintro e w1 ⟨rfl, hb⟩
  have X := Lib.hid (((Blk.new w #[.int .i64 0, .int .i64 0, .int .i64 0] 26).alloc _).below hb (by simp; try omega))
  have HB := Lib.hid (Below.trans (by (repeat (first | exact Below.refl _ _ | (refine Below.alloc ?_ (by first | omega | (simp; try omega)) _) | apply Below.drew | apply below_drewN))) (hb.mono (by simp; try omega)) : Below w.heap.size w w1)
  obtain ⟨y0, y1, y2, yl⟩ := X.out.three
  have f0 := X.out.fr 0
  have f1 := X.out.fr 1
  have f2 := X.out.fr 2
  clear hb
  go_wp2
  refine bodyPost_ret (v := .agg #[.int .i64 2, .int .i64 ((r : Int) + 1), .int .i64 cv]) (by simp [results, Try.results55, go_sem, y0, y1, y2]) rfl ⟨rfl, ?_⟩
  exact ((HB.out.setCell (Nat.le_refl _) _).setCell (Nat.le_refl _) _).setCell (Nat.le_refl _) _
theorem madeClue_3 (y r : Nat) (s : ByteArray) (w : World) (hv : isRv s = true) (h1 : 1 ≤ s.size) (hz : s.size ≤ 8) (hy : y ≤ 10006)  :
    Calls Try.prog 55 #[.string s, .int .i64 3, .int .i64 (y : Int)] w fun e w' => e = .returned (.agg #[.int .i64 3, .int .i64 0, .int .i64 (cval 3 0 s)]) ∧ Below w.heap.size w w' := by
  have hok : okA 3 0 s := ⟨by omega, by omega, fun e => by omega, fun e => by omega⟩
  have hC := fun wx => clueRiver 3 0 0 s wx hv hz hok
  unfold ClueP at hC
  have C := Lib.hid hC
  have hne : ¬ (s.size : Int) = 0 := by omega
  clear hok hC
  generalize cval 3 0 s = cv at *
  go_enter Try.func55, Try.ntmps55
  go_wp2_with fail
  refine (C.out _).mono ?_
  rintro e w1 ⟨rfl, hb⟩
  have X := Lib.hid (((Blk.new w #[.int .i64 0, .int .i64 0, .int .i64 0] 26).alloc _).below hb (by simp; try omega))
  have HB := Lib.hid (Below.trans (by (repeat (first | exact Below.refl _ _ | (refine Below.alloc ?_ (by first | omega | (simp; try omega)) _) | apply Below.drew | apply below_drewN))) (hb.mono (by simp; try omega)) : Below w.heap.size w w1)
  obtain ⟨y0, y1, y2, yl⟩ := X.out.three
  have f0 := X.out.fr 0
  have f1 := X.out.fr 1
  have f2 := X.out.fr 2
  clear hb
  go_wp2
  refine bodyPost_ret (v := .agg #[.int .i64 3, .int .i64 0, .int .i64 cv]) (by simp [results, Try.results55, go_sem, y0, y1, y2]) rfl ⟨rfl, ?_⟩
  exact ((HB.out.setCell (Nat.le_refl _) _).setCell (Nat.le_refl _) _).setCell (Nat.le_refl _) _
theorem madeClue_4 (y r : Nat) (s : ByteArray) (w : World) (hv : isRv s = true) (h1 : 1 ≤ s.size) (hz : s.size ≤ 8) (hy : y ≤ 10006) (hr : (y : Int) % 9 = (r : Int)) (hrl : r < 9) :
    Calls Try.prog 55 #[.string s, .int .i64 4, .int .i64 (y : Int)] w fun e w' => e = .returned (.agg #[.int .i64 4, .int .i64 ((r : Int) + 1), .int .i64 (cval 4 ((r : Int) + 1) s)]) ∧ Below w.heap.size w w' := by
  have hok : okA 4 ((r : Int) + 1) s := ⟨by omega, by omega, fun e => by omega, fun e => by omega⟩
  have hC := fun wx => clueRiver 4 ((r : Int) + 1) 0 s wx hv hz hok
  unfold ClueP at hC
  have C := Lib.hid hC
  have hne : ¬ (s.size : Int) = 0 := by omega
  clear hok hC
  generalize cval 4 ((r : Int) + 1) s = cv at *
  go_enter Try.func55, Try.ntmps55
  go_wp2_with fail
  refine (C.out _).mono ?_
  rintro e w1 ⟨rfl, hb⟩
  have X := Lib.hid (((Blk.new w #[.int .i64 0, .int .i64 0, .int .i64 0] 26).alloc _).below hb (by simp; try omega))
  have HB := Lib.hid (Below.trans (by (repeat (first | exact Below.refl _ _ | (refine Below.alloc ?_ (by first | omega | (simp; try omega)) _) | apply Below.drew | apply below_drewN))) (hb.mono (by simp; try omega)) : Below w.heap.size w w1)
  obtain ⟨y0, y1, y2, yl⟩ := X.out.three
  have f0 := X.out.fr 0
  have f1 := X.out.fr 1
  have f2 := X.out.fr 2
  clear hb
  go_wp2
  refine bodyPost_ret (v := .agg #[.int .i64 4, .int .i64 ((r : Int) + 1), .int .i64 cv]) (by simp [results, Try.results55, go_sem, y0, y1, y2]) rfl ⟨rfl, ?_⟩
  exact ((HB.out.setCell (Nat.le_refl _) _).setCell (Nat.le_refl _) _).setCell (Nat.le_refl _) _
theorem madeClue_5 (y r : Nat) (s : ByteArray) (w : World) (hv : isRv s = true) (h1 : 1 ≤ s.size) (hz : s.size ≤ 8) (hy : y ≤ 10006)  :
    Calls Try.prog 55 #[.string s, .int .i64 5, .int .i64 (y : Int)] w fun e w' => e = .returned (.agg #[.int .i64 5, .int .i64 0, .int .i64 (cval 5 0 s)]) ∧ Below w.heap.size w w' := by
  have hok : okA 5 0 s := ⟨by omega, by omega, fun e => by omega, fun e => by omega⟩
  have hC := fun wx => clueRiver 5 0 0 s wx hv hz hok
  unfold ClueP at hC
  have C := Lib.hid hC
  have hne : ¬ (s.size : Int) = 0 := by omega
  clear hok hC
  generalize cval 5 0 s = cv at *
  go_enter Try.func55, Try.ntmps55
  go_wp2_with fail
  refine (C.out _).mono ?_
  rintro e w1 ⟨rfl, hb⟩
  have X := Lib.hid (((Blk.new w #[.int .i64 0, .int .i64 0, .int .i64 0] 26).alloc _).below hb (by simp; try omega))
  have HB := Lib.hid (Below.trans (by (repeat (first | exact Below.refl _ _ | (refine Below.alloc ?_ (by first | omega | (simp; try omega)) _) | apply Below.drew | apply below_drewN))) (hb.mono (by simp; try omega)) : Below w.heap.size w w1)
  obtain ⟨y0, y1, y2, yl⟩ := X.out.three
  have f0 := X.out.fr 0
  have f1 := X.out.fr 1
  have f2 := X.out.fr 2
  clear hb
  go_wp2
  refine bodyPost_ret (v := .agg #[.int .i64 5, .int .i64 0, .int .i64 cv]) (by simp [results, Try.results55, go_sem, y0, y1, y2]) rfl ⟨rfl, ?_⟩
  exact ((HB.out.setCell (Nat.le_refl _) _).setCell (Nat.le_refl _) _).setCell (Nat.le_refl _) _
theorem madeClue (k y : Nat) (s : ByteArray) (w : World) (hk : k ≤ 5) (hv : isRv s = true) (h1 : 1 ≤ s.size) (hz : s.size ≤ 8) (hy : y ≤ 10006) :
    Calls Try.prog 55 #[.string s, .int .i64 (k : Int), .int .i64 (y : Int)] w fun e w' => e = .returned (.agg #[.int .i64 (mkC k y s).1, .int .i64 (mkC k y s).2.1, .int .i64 (mkC k y s).2.2]) ∧ Below w.heap.size w w' := by
  obtain rfl | rfl | rfl | rfl | rfl | rfl : k = 0 ∨ k = 1 ∨ k = 2 ∨ k = 3 ∨ k = 4 ∨ k = 5 := by omega
  · exact madeClue_0 y 0 s w hv h1 hz hy
  · exact madeClue_1 y (y % s.size) s w hv h1 hz hy rfl (Nat.mod_lt _ (by omega))
  · exact madeClue_2 y (y % 9) s w hv h1 hz hy rfl (Nat.mod_lt _ (by omega))
  · exact madeClue_3 y 0 s w hv h1 hz hy
  · exact madeClue_4 y (y % 9) s w hv h1 hz hy rfl (Nat.mod_lt _ (by omega))
  · exact madeClue_5 y 0 s w hv h1 hz hy
end Go.Proofs.Ytnmeomcoeknjoab
