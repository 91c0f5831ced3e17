/- Contracts of impl.withSign, impl.PutStone, impl.TakeStone, spec.rvWithout, spec.PutStone, spec.TakeStone. -/
import Derived.Test.YtfokgobmncbkfacStand
import Derived.Laws.IdiomStrings
import Derived.OwnWalk
import Derived.Deep.QuietTactic
import Derived.BigQuiet
import Derived.WalkSmall
import Derived.Outline
namespace Go.Proofs.Ytfokgobmncbkfac
set_option linter.unusedVariables false
open Go.RowKit

def setB (s : ByteArray) (k : Nat) (c : UInt8) : ByteArray := ⟨(s.data.toList.set (k - 1) c).toArray⟩

theorem setB_cells {s : ByteArray} {k cap : Nat} {c : UInt8} {w : World} {C : Array Value} {T : TypeId} (h0 : 1 ≤ k) (h1 : k ≤ s.size) (hC : C = bytesRow s cap) (hcap : s.size ≤ cap)
    (fr : Nat × Nat) : ∀ j (hj : j < (s.data.toList.set (k - 1) c).length), (((w.alloc (.cells C T fr)).setCell ⟨w.heap.size, k - 1, none⟩ (.int .u8 (c.toNat : Int))).drew).cell? ((⟨w.heap.size, 0, none⟩ : Addr).add j) = some (.int .u8 ((s.data.toList.set (k - 1) c)[j].toNat : Int)) := by
  intro j hj
  have hj' : j < s.data.size := by simpa using hj
  have hold : (w.alloc (.cells C T fr)).cell? ⟨w.heap.size, j, none⟩ = some (.int .u8 (s.data[j].toNat : Int)) := by
    rw [World.cell?_alloc_mark, hC]; exact bytesRow_at s cap j hj'
  show ((w.alloc (.cells C T fr)).setCell ⟨w.heap.size, k - 1, none⟩ (.int .u8 (c.toNat : Int))).cell? _ = _
  have ea : (⟨w.heap.size, 0, none⟩ : Addr).add j = ⟨w.heap.size, j, none⟩ := by simp [Addr.add]; omega
  rw [ea, List.getElem_set]
  by_cases e : k - 1 = j
  · subst e
    rw [if_pos rfl, World.cell?_setCell_same _ _ _ hold]
  · rw [if_neg e, World.cell?_setCell_other, hold]
    · rfl
    · intro h; injection h; omega

set_option maxHeartbeats 400000 in
theorem withSign (s : ByteArray) (k : Nat) (c : UInt8) (w : World) (hs : s.size ≤ 1048576) (h0 : 1 ≤ k) (h1 : k ≤ s.size) :
    Calls Try.prog 35 #[.string s, .int .i64 k, .int .u8 (c.toNat : Int)] w fun e w' => e = .returned (.string (setB s k c)) ∧ Below w.heap.size w w' := by
  have hcv := run_bytes_of_string (P := Try.prog) w 9 49 5 s Try.underlying9 Try.underlying49 Try.underlying5
  have hcap := grownCap_ge w s.size 0 5
  generalize grownCap w s.size 0 5 = cap at hcv hcap
  obtain ⟨C, hC⟩ : ∃ C, C = bytesRow s cap := ⟨_, rfl⟩
  rw [← hC] at hcv
  have hkd : k - 1 < s.data.size := by show k - 1 < s.size; omega
  have hc0 : (w.alloc (.cells C 5 (C.size, C.size + 1))).cell? ⟨w.heap.size, k - 1, none⟩ = some (.int .u8 (s.data[k - 1].toNat : Int)) := by
    rw [World.cell?_alloc_mark, hC]; exact bytesRow_at s cap (k - 1) hkd
  have hCs : s.size ≤ C.size := by rw [hC]; simp [bytesRow]
  have hz0 : (w.alloc (.cells C 5 (C.size, C.size + 1))).frozen? ⟨w.heap.size, k - 1, none⟩ = false := by
    rw [World.frozen?_alloc_mark]; simp; omega
  have hb := run_convert_bytes_back (P := Try.prog) ((w.alloc (.cells C 5 (C.size, C.size + 1))).setCell ⟨w.heap.size, k - 1, none⟩ (.int .u8 (c.toNat : Int))).drew 49 9 5 ⟨w.heap.size, 0, none⟩ cap (s.data.toList.set (k - 1) c) Try.underlying49 Try.underlying5 Try.underlying9
    (setB_cells h0 h1 hC hcap _)
  have hl : (s.data.toList.set (k - 1) c).length = s.size := by simp
  rw [hl] at hb
  have HC := Lib.hid hC
  have HL := Lib.hid hl
  clear hC hl
  have hbel : Below w.heap.size w ((w.alloc (.cells C 5 (C.size, C.size + 1))).setCell ⟨w.heap.size, k - 1, none⟩ (.int .u8 (c.toNat : Int))).drew := (((Below.refl _ _).alloc (Nat.le_refl _) _).setCell (Nat.le_refl _) _).drew
  have HB := Lib.hid hbel
  clear hbel
  go_enter Try.func35, Try.ntmps35
  go_wp2
  go_ret
  exact ⟨rfl, HB.out⟩
theorem withSign_o (s : ByteArray) (k : Nat) (w : World) (hs : s.size ≤ 1048576) (h0 : 1 ≤ k) (h1 : k ≤ s.size) :
    Calls Try.prog 35 #[.string s, .int .i64 k, .int .u8 111] w fun e w' => e = .returned (.string (setB s k 111)) ∧ Below w.heap.size w w' := withSign s k 111 w hs h0 h1
theorem withSign_w (s : ByteArray) (k : Nat) (w : World) (hs : s.size ≤ 1048576) (h0 : 1 ≤ k) (h1 : k ≤ s.size) :
    Calls Try.prog 35 #[.string s, .int .i64 k, .int .u8 46] w fun e w' => e = .returned (.string (setB s k 46)) ∧ Below w.heap.size w w' := withSign s k 46 w hs h0 h1

/-- what PutStone (x: a stone is there already: false; c: its sign) and TakeStone (true) answer -/
def signV (x : Bool) (c : UInt8) (s : ByteArray) (p : Int) : Value :=
  if isRv s && inB p 1 s.size && (stn s p.toNat == x) then .tuple #[.string (setB s p.toNat c), .bool true] else .tuple #[.string ⟨#[]⟩, .bool false]
theorem signV_1 {x c s p} (h : isRv s = false) : signV x c s p = .tuple #[.string ⟨#[]⟩, .bool false] := by simp [signV, h]
theorem signV_2 {x c s p} (h : inB p 1 s.size = false) : signV x c s p = .tuple #[.string ⟨#[]⟩, .bool false] := by simp [signV, h]
theorem signV_3 {x c s} {k : Nat} (h : stn s k = !x) : signV x c s k = .tuple #[.string ⟨#[]⟩, .bool false] := by cases x <;> simp [signV, h]
theorem signV_4 {x c s} {k : Nat} (h1 : isRv s = true) (h2 : inB k 1 s.size = true) (h : stn s k = x) : signV x c s k = .tuple #[.string (setB s k c), .bool true] := by simp [signV, h1, h2, h]
theorem signV_form (x c a p) : ∃ s y, signV x c a p = .tuple #[.string s, .bool y] := by
  unfold signV; split <;> exact ⟨_, _, rfl⟩
theorem size_of_isRv {s : ByteArray} (h : isRv s = true) : 1 ≤ s.size ∧ s.size ≤ 40 := by
  simp [isRv] at h; exact ⟨h.1.1, h.1.2⟩

theorem implPut (s : ByteArray) (p : Int) (w : World) (hs : s.size ≤ 1048576) :
    Calls Try.prog 17 #[.string s, .int .i64 p] w fun e w' => e = .returned (signV false 111 s p) ∧ Below w.heap.size w w' := by
  have hm : s.size ≤ maxLen := by unfold maxLen; omega
  cases h1 : isRv s
  · have J := Lib.hid (signV_1 (x := false) (c := 111) (p := p) h1)
    have G := Lib.hid h1
    clear h1
    go_enter Try.func17, Try.ntmps17
    go_wp2_with (go_at_call 32; refine (implIsRiver _ _ hm).mono ?_; rintro e w' ⟨rfl, rfl⟩; rw [G.out])
    go_ret2
    exact ⟨ret_v J.out.symm, Below.refl _ _⟩
  cases h2 : inB p 1 s.size
  · have J := Lib.hid (signV_2 (x := false) (c := 111) h2)
    have G := Lib.hid h1
    have G2 := Lib.hid h2
    clear h1 h2
    go_enter Try.func17, Try.ntmps17
    go_wp2_with (first | (go_at_call 32; refine (implIsRiver _ _ hm).mono ?_; rintro e w' ⟨rfl, rfl⟩; rw [G.out]) | (go_at_call 33; refine (isInRiver _ _ _ hm).mono ?_; rintro e w' ⟨rfl, rfl⟩; rw [G2.out]))
    go_ret2
    exact ⟨ret_v J.out.symm, Below.refl _ _⟩
  have hp : 1 ≤ p ∧ p ≤ s.size := by simpa [inB] using h2
  obtain ⟨k, rfl⟩ := Int.eq_ofNat_of_zero_le (show 0 ≤ p by omega)
  cases h3 : stn s k
  · have J := Lib.hid (signV_4 (x := false) (c := 111) h1 h2 h3)
    have G := Lib.hid h1
    have G2 := Lib.hid h2
    have G3 := Lib.hid h3
    clear h1 h2 h3
    go_enter Try.func17, Try.ntmps17
    go_wp2_with (first | (go_at_call 32; refine (implIsRiver _ _ hm).mono ?_; rintro e w' ⟨rfl, rfl⟩; rw [G.out]) | (go_at_call 33; refine (isInRiver _ _ _ hm).mono ?_; rintro e w' ⟨rfl, rfl⟩; rw [G2.out]) | (go_at_call 34; refine (isStoneAt _ _ _ hm).mono ?_; rintro e w' ⟨rfl, rfl⟩; rw [G3.out]) | (go_at_call 35; refine (withSign_o s k _ hs (by omega) (by omega)).mono ?_; rintro e w' ⟨rfl, hbel⟩))
    go_ret2
    exact ⟨ret_v J.out.symm, hbel⟩
  · have J := Lib.hid (signV_3 (x := false) (c := 111) h3)
    have G := Lib.hid h1
    have G2 := Lib.hid h2
    have G3 := Lib.hid h3
    clear h1 h2 h3
    go_enter Try.func17, Try.ntmps17
    go_wp2_with (first | (go_at_call 32; refine (implIsRiver _ _ hm).mono ?_; rintro e w' ⟨rfl, rfl⟩; rw [G.out]) | (go_at_call 33; refine (isInRiver _ _ _ hm).mono ?_; rintro e w' ⟨rfl, rfl⟩; rw [G2.out]) | (go_at_call 34; refine (isStoneAt _ _ _ hm).mono ?_; rintro e w' ⟨rfl, rfl⟩; rw [G3.out]))
    go_ret2
    exact ⟨ret_v J.out.symm, Below.refl _ _⟩

theorem implTake (s : ByteArray) (p : Int) (w : World) (hs : s.size ≤ 1048576) :
    Calls Try.prog 19 #[.string s, .int .i64 p] w fun e w' => e = .returned (signV true 46 s p) ∧ Below w.heap.size w w' := by
  have hm : s.size ≤ maxLen := by unfold maxLen; omega
  cases h1 : isRv s
  · have J := Lib.hid (signV_1 (x := true) (c := 46) (p := p) h1)
    have G := Lib.hid h1
    clear h1
    go_enter Try.func19, Try.ntmps19
    go_wp2_with (go_at_call 32; refine (implIsRiver _ _ hm).mono ?_; rintro e w' ⟨rfl, rfl⟩; rw [G.out])
    go_ret2
    exact ⟨ret_v J.out.symm, Below.refl _ _⟩
  cases h2 : inB p 1 s.size
  · have hp : p < 1 ∨ (s.size : Int) < p := by
      have : ¬ (1 ≤ p ∧ p ≤ s.size) := fun h => by simp [inB, h] at h2
      omega
    have J := Lib.hid (signV_2 (x := true) (c := 46) h2)
    have G := Lib.hid h1
    clear h1 h2
    have HP := Lib.hid hp
    clear hp
    go_enter Try.func19, Try.ntmps19
    go_wp2_with (first | (go_at_call 32; refine (implIsRiver _ _ hm).mono ?_; rintro e w' ⟨rfl, rfl⟩; rw [G.out]) | (go_at_call 34; refine (isStoneAt_out _ _ _ hm HP.out).mono ?_; rintro e w' ⟨rfl, rfl⟩))
    go_ret2
    exact ⟨ret_v J.out.symm, Below.refl _ _⟩
  have hp : 1 ≤ p ∧ p ≤ s.size := by simpa [inB] using h2
  obtain ⟨k, rfl⟩ := Int.eq_ofNat_of_zero_le (show 0 ≤ p by omega)
  cases h3 : stn s k
  · have J := Lib.hid (signV_3 (x := true) (c := 46) h3)
    have G := Lib.hid h1
    have G3 := Lib.hid h3
    clear h1 h2 h3
    go_enter Try.func19, Try.ntmps19
    go_wp2_with (first | (go_at_call 32; refine (implIsRiver _ _ hm).mono ?_; rintro e w' ⟨rfl, rfl⟩; rw [G.out]) | (go_at_call 34; refine (isStoneAt _ _ _ hm).mono ?_; rintro e w' ⟨rfl, rfl⟩; rw [G3.out]))
    go_ret2
    exact ⟨ret_v J.out.symm, Below.refl _ _⟩
  · have J := Lib.hid (signV_4 (x := true) (c := 46) h1 h2 h3)
    have G := Lib.hid h1
    have G3 := Lib.hid h3
    clear h1 h2 h3
    go_enter Try.func19, Try.ntmps19
    go_wp2_with (first | (go_at_call 32; refine (implIsRiver _ _ hm).mono ?_; rintro e w' ⟨rfl, rfl⟩; rw [G.out]) | (go_at_call 34; refine (isStoneAt _ _ _ hm).mono ?_; rintro e w' ⟨rfl, rfl⟩; rw [G3.out]) | (go_at_call 35; refine (withSign_w s k _ hs (by omega) (by omega)).mono ?_; rintro e w' ⟨rfl, hbel⟩))
    go_ret2
    exact ⟨ret_v J.out.symm, hbel⟩

theorem setB_cat {s : ByteArray} {k : Nat} {c : UInt8} (h0 : 1 ≤ k) (h1 : k ≤ s.size) : s.extract 0 (k - 1) ++ ⟨#[c]⟩ ++ s.extract k s.size = setB s k c := by
  apply ByteArray.ext
  apply Array.toList_inj.1
  have e : k - 1 < s.data.toList.length := by simp; omega
  have e2 : s.data.toList.drop k = (s.data.toList.drop k).take (s.data.size - k) := (List.take_of_length_le (by simp)).symm
  simp only [ByteArray.data_append, Array.toList_append, ByteArray.data_extract, Array.toList_extract, List.extract_eq_take_drop, setB, List.drop_zero, Nat.sub_zero]
  rw [List.set_eq_take_append_cons_drop, if_pos e, show k - 1 + 1 = k from by omega]
  rw [show s.size - k = s.data.size - k from rfl, ← e2]
  simp

theorem specWithout (s : ByteArray) (k : Nat) (w : World) (hs : s.size ≤ 1048576) (h0 : 1 ≤ k) (h1 : k ≤ s.size) :
    Calls Try.prog 36 #[.string s, .int .i64 k] w fun e w' => e = .returned (.string (setB s k 46)) ∧ Below w.heap.size w w' := by
  have J := Lib.hid (setB_cat (c := 46) h0 h1)
  go_enter Try.func36, Try.ntmps36
  go_wp2
  go_quiet (fail)
  go_wp2
  go_ret
  exact ⟨ret_v (congrArg Value.string J.out), below_drewN (Below.refl _ _) _⟩

theorem specPut (s : ByteArray) (p : Int) (w : World) (hs : s.size ≤ 1048576) :
    Calls Try.prog 16 #[.string s, .int .i64 p] w fun e w' => e = .returned (signV false 111 s p) ∧ Below w.heap.size w w' := by
  have hm : s.size ≤ maxLen := by unfold maxLen; omega
  cases h1 : isRv s
  · have J := Lib.hid (signV_1 (x := false) (c := 111) (p := p) h1)
    have G := Lib.hid h1
    clear h1
    go_enter Try.func16, Try.ntmps16
    go_wp2_with (go_at_call 29; refine (specRvGood _ _ hm).mono ?_; rintro e w' ⟨rfl, rfl⟩; rw [G.out])
    go_ret2
    exact ⟨ret_v J.out.symm, Below.refl _ _⟩
  cases h2 : inB p 1 s.size
  · have J := Lib.hid (signV_2 (x := false) (c := 111) h2)
    have G := Lib.hid h1
    have G2 := Lib.hid h2
    clear h1 h2
    go_enter Try.func16, Try.ntmps16
    go_wp2_with (first | (go_at_call 29; refine (specRvGood _ _ hm).mono ?_; rintro e w' ⟨rfl, rfl⟩; rw [G.out]) | (go_at_call 30; refine (l1In _ _ _ _).mono ?_; rintro e w' ⟨rfl, rfl⟩; rw [G2.out]))
    go_ret2
    exact ⟨ret_v J.out.symm, Below.refl _ _⟩
  have hp : 1 ≤ p ∧ p ≤ s.size := by simpa [inB] using h2
  obtain ⟨k, rfl⟩ := Int.eq_ofNat_of_zero_le (show 0 ≤ p by omega)
  have h4 : stand s k = stn s k := stand_in (by omega) (by omega)
  cases h3 : stn s k
  · have J := Lib.hid (signV_4 (x := false) (c := 111) h1 h2 h3)
    have G := Lib.hid h1
    have G2 := Lib.hid h2
    have G3 := Lib.hid (h4.trans h3)
    have C := Lib.hid (setB_cat (c := 111) (s := s) (k := k) (by omega) (by omega))
    clear h1 h2 h3 h4
    go_enter Try.func16, Try.ntmps16
    go_wp2_with (first | (go_at_call 29; refine (specRvGood _ _ hm).mono ?_; rintro e w' ⟨rfl, rfl⟩; rw [G.out]) | (go_at_call 30; refine (l1In _ _ _ _).mono ?_; rintro e w' ⟨rfl, rfl⟩; rw [G2.out]) | (go_at_call 31; refine (rvStand _ _ _ hs (by omega)).mono ?_; rintro e w' ⟨rfl, rfl⟩; rw [G3.out]))
    go_quiet (fail)
    go_wp2
    go_ret2
    exact ⟨ret_v (by rw [J.out, ← C.out]; rfl), below_drewN (Below.refl _ _) _⟩
  · have J := Lib.hid (signV_3 (x := false) (c := 111) h3)
    have G := Lib.hid h1
    have G2 := Lib.hid h2
    have G3 := Lib.hid (h4.trans h3)
    clear h1 h2 h3 h4
    go_enter Try.func16, Try.ntmps16
    go_wp2_with (first | (go_at_call 29; refine (specRvGood _ _ hm).mono ?_; rintro e w' ⟨rfl, rfl⟩; rw [G.out]) | (go_at_call 30; refine (l1In _ _ _ _).mono ?_; rintro e w' ⟨rfl, rfl⟩; rw [G2.out]) | (go_at_call 31; refine (rvStand _ _ _ hs (by omega)).mono ?_; rintro e w' ⟨rfl, rfl⟩; rw [G3.out]))
    go_ret2
    exact ⟨ret_v J.out.symm, Below.refl _ _⟩

theorem specTake (s : ByteArray) (p : Int) (w : World) (hs : s.size ≤ 1048576) :
    Calls Try.prog 18 #[.string s, .int .i64 p] w fun e w' => e = .returned (signV true 46 s p) ∧ Below w.heap.size w w' := by
  have hm : s.size ≤ maxLen := by unfold maxLen; omega
  cases h1 : isRv s
  · have J := Lib.hid (signV_1 (x := true) (c := 46) (p := p) h1)
    have G := Lib.hid h1
    clear h1
    go_enter Try.func18, Try.ntmps18
    go_wp2_with (go_at_call 29; refine (specRvGood _ _ hm).mono ?_; rintro e w' ⟨rfl, rfl⟩; rw [G.out])
    go_ret2
    exact ⟨ret_v J.out.symm, Below.refl _ _⟩
  cases h2 : inB p 1 s.size
  · have J := Lib.hid (signV_2 (x := true) (c := 46) h2)
    have G := Lib.hid h1
    have G2 := Lib.hid h2
    clear h1 h2
    go_enter Try.func18, Try.ntmps18
    go_wp2_with (first | (go_at_call 29; refine (specRvGood _ _ hm).mono ?_; rintro e w' ⟨rfl, rfl⟩; rw [G.out]) | (go_at_call 30; refine (l1In _ _ _ _).mono ?_; rintro e w' ⟨rfl, rfl⟩; rw [G2.out]))
    go_ret2
    exact ⟨ret_v J.out.symm, Below.refl _ _⟩
  have hp : 1 ≤ p ∧ p ≤ s.size := by simpa [inB] using h2
  obtain ⟨k, rfl⟩ := Int.eq_ofNat_of_zero_le (show 0 ≤ p by omega)
  have h4 : stand s k = stn s k := stand_in (by omega) (by omega)
  cases h3 : stn s k
  · have J := Lib.hid (signV_3 (x := true) (c := 46) h3)
    have G := Lib.hid h1
    have G2 := Lib.hid h2
    have G3 := Lib.hid (h4.trans h3)
    have C := Lib.hid (setB_cat (c := 46) (s := s) (k := k) (by omega) (by omega))
    clear h1 h2 h3 h4
    go_enter Try.func18, Try.ntmps18
    go_wp2_with (first | (go_at_call 29; refine (specRvGood _ _ hm).mono ?_; rintro e w' ⟨rfl, rfl⟩; rw [G.out]) | (go_at_call 30; refine (l1In _ _ _ _).mono ?_; rintro e w' ⟨rfl, rfl⟩; rw [G2.out]) | (go_at_call 31; refine (rvStand _ _ _ hs (by omega)).mono ?_; rintro e w' ⟨rfl, rfl⟩; rw [G3.out]))
    go_ret2
    exact ⟨ret_v J.out.symm, Below.refl _ _⟩
  · have J := Lib.hid (signV_4 (x := true) (c := 46) h1 h2 h3)
    have G := Lib.hid h1
    have G2 := Lib.hid h2
    have G3 := Lib.hid (h4.trans h3)
    clear h1 h2 h3 h4
    go_enter Try.func18, Try.ntmps18
    go_wp2_with (first | (go_at_call 29; refine (specRvGood _ _ hm).mono ?_; rintro e w' ⟨rfl, rfl⟩; rw [G.out]) | (go_at_call 30; refine (l1In _ _ _ _).mono ?_; rintro e w' ⟨rfl, rfl⟩; rw [G2.out]) | (go_at_call 31; refine (rvStand _ _ _ hs (by omega)).mono ?_; rintro e w' ⟨rfl, rfl⟩; rw [G3.out]) | (go_at_call 36; refine (specWithout s k _ hs (by omega) (by omega)).mono ?_; rintro e w' ⟨rfl, hbel⟩))
    go_ret2
    exact ⟨ret_v J.out.symm, hbel⟩
end Go.Proofs.Ytfokgobmncbkfac
