/- MakeStronger, both sides; spec.siMore, impl.withSign. -/
import Derived.Test.YtmlokapbholeoacSp
import Derived.Test.YtmlokapbholeoacStand
import Derived.Test.YtmlokapbholeoacNu
import Derived.Laws.IdiomStrings
import Derived.OwnWalk
import Derived.Deep.QuietTactic
import Derived.Deep.RegionWith
import Derived.BigQuiet
import Derived.WalkSmall
import Derived.Outline
namespace Go.Proofs.Ytmlokapbholeoac
set_option linter.unusedVariables false
open Go.RowKit

def setB (s : ByteArray) (k : Nat) (c : UInt8) : ByteArray := ⟨(s.data.toList.set (k - 1) c).toArray⟩

theorem setB_cat {s : ByteArray} {k : Nat} {c : UInt8} (h0 : 1 ≤ k) (h1 : k ≤ s.size) : s.extract 0 (k - 1) ++ ⟨#[c]⟩ ++ s.extract k s.size = setB s k c := by
  apply ByteArray.ext
  apply Array.toList_inj.1
  have e : k - 1 < s.data.toList.length := by simp; omega
  have e2 : s.data.toList.drop k = (s.data.toList.drop k).take (s.data.size - k) := (List.take_of_length_le (by simp)).symm
  simp only [ByteArray.data_append, Array.toList_append, ByteArray.data_extract, Array.toList_extract, List.extract_eq_take_drop, setB, List.drop_zero, Nat.sub_zero]
  rw [List.set_eq_take_append_cons_drop, if_pos e, show k - 1 + 1 = k from by omega]
  rw [show s.size - k = s.data.size - k from rfl, ← e2]
  simp

theorem setB_cells {s : ByteArray} {k cap : Nat} {c : UInt8} {w : World} {C : Array Value} {T : TypeId} (h0 : 1 ≤ k) (h1 : k ≤ s.size) (hC : C = bytesRow s cap) (hcap : s.size ≤ cap)
    (fr : Nat × Nat) : ∀ j (hj : j < (s.data.toList.set (k - 1) c).length), (((w.alloc (.cells C T fr)).setCell ⟨w.heap.size, k - 1, none⟩ (.int .u8 (c.toNat : Int))).drew).cell? ((⟨w.heap.size, 0, none⟩ : Addr).add j) = some (.int .u8 ((s.data.toList.set (k - 1) c)[j].toNat : Int)) := by
  intro j hj
  have hj' : j < s.data.size := by simpa using hj
  have hold : (w.alloc (.cells C T fr)).cell? ⟨w.heap.size, j, none⟩ = some (.int .u8 (s.data[j].toNat : Int)) := by
    rw [World.cell?_alloc_mark, hC]; exact bytesRow_at s cap j hj'
  show ((w.alloc (.cells C T fr)).setCell ⟨w.heap.size, k - 1, none⟩ (.int .u8 (c.toNat : Int))).cell? _ = _
  have ea : (⟨w.heap.size, 0, none⟩ : Addr).add j = ⟨w.heap.size, j, none⟩ := by simp [Addr.add]; omega
  rw [ea, List.getElem_set]
  by_cases e : k - 1 = j
  · subst e
    rw [if_pos rfl, World.cell?_setCell_same _ _ _ hold]
  · rw [if_neg e, World.cell?_setCell_other, hold]
    · rfl
    · intro h; injection h; omega

set_option maxHeartbeats 400000 in
theorem withSign (s : ByteArray) (k : Nat) (c : UInt8) (w : World) (hs : s.size ≤ 1048576) (h0 : 1 ≤ k) (h1 : k ≤ s.size) :
    Calls Try.prog 40 #[.string s, .int .i64 k, .int .u8 (c.toNat : Int)] w fun e w' => e = .returned (.string (setB s k c)) ∧ Below w.heap.size w w' := by
  have hcv := run_bytes_of_string (P := Try.prog) w 9 40 5 s Try.underlying9 Try.underlying40 Try.underlying5
  have hcap := grownCap_ge w s.size 0 5
  generalize grownCap w s.size 0 5 = cap at hcv hcap
  obtain ⟨C, hC⟩ : ∃ C, C = bytesRow s cap := ⟨_, rfl⟩
  rw [← hC] at hcv
  have hkd : k - 1 < s.data.size := by show k - 1 < s.size; omega
  have hc0 : (w.alloc (.cells C 5 (C.size, C.size + 1))).cell? ⟨w.heap.size, k - 1, none⟩ = some (.int .u8 (s.data[k - 1].toNat : Int)) := by
    rw [World.cell?_alloc_mark, hC]; exact bytesRow_at s cap (k - 1) hkd
  have hCs : s.size ≤ C.size := by rw [hC]; simp [bytesRow]
  have hz0 : (w.alloc (.cells C 5 (C.size, C.size + 1))).frozen? ⟨w.heap.size, k - 1, none⟩ = false := by
    rw [World.frozen?_alloc_mark]; simp; omega
  have hb := run_convert_bytes_back (P := Try.prog) ((w.alloc (.cells C 5 (C.size, C.size + 1))).setCell ⟨w.heap.size, k - 1, none⟩ (.int .u8 (c.toNat : Int))).drew 40 9 5 ⟨w.heap.size, 0, none⟩ cap (s.data.toList.set (k - 1) c) Try.underlying40 Try.underlying5 Try.underlying9
    (setB_cells h0 h1 hC hcap _)
  have hl : (s.data.toList.set (k - 1) c).length = s.size := by simp
  rw [hl] at hb
  have HC := Lib.hid hC
  have HL := Lib.hid hl
  clear hC hl
  have hbel : Below w.heap.size w ((w.alloc (.cells C 5 (C.size, C.size + 1))).setCell ⟨w.heap.size, k - 1, none⟩ (.int .u8 (c.toNat : Int))).drew := (((Below.refl _ _).alloc (Nat.le_refl _) _).setCell (Nat.le_refl _) _).drew
  have HB := Lib.hid hbel
  clear hbel
  go_enter Try.func40, Try.ntmps40
  go_wp2
  go_ret
  exact ⟨rfl, HB.out⟩

/-- the digit at a place made greater -/
def moreB (s : ByteArray) (k n : Nat) : ByteArray := setB s (k + 1) (dg n)
def moreV (s : ByteArray) (k n : Nat) : Value := if n ≤ 9 then .tuple #[.string (moreB s k n), .bool true] else .tuple #[.string ⟨#[]⟩, .bool false]
theorem moreV_no {s : ByteArray} {k n : Nat} (h : 9 < n) : moreV s k n = .tuple #[.string ⟨#[]⟩, .bool false] := by
  unfold moreV; rw [if_neg (by omega)]
theorem moreV_yes {s : ByteArray} {k n : Nat} (h : n ≤ 9) : moreV s k n = .tuple #[.string (moreB s k n), .bool true] := by
  unfold moreV; rw [if_pos h]
def strV (s : ByteArray) (p b : Int) : Value := if isSt s && inB p 1 s.size && inB b 1 9 then moreV s (p.toNat - 1) (dD s (p.toNat - 1) + b.toNat) else .tuple #[.string ⟨#[]⟩, .bool false]
theorem strV_form (s : ByteArray) (p b : Int) : ∃ x z, strV s p b = .tuple #[.string x, .bool z] := by
  unfold strV moreV; split
  · split <;> exact ⟨_, _, rfl⟩
  · exact ⟨_, _, rfl⟩
theorem strV_1 {s : ByteArray} {p b : Int} (h : isSt s = false) : strV s p b = .tuple #[.string ⟨#[]⟩, .bool false] := by simp [strV, h]
theorem strV_2 {s : ByteArray} {p b : Int} (h : inB p 1 s.size = false) : strV s p b = .tuple #[.string ⟨#[]⟩, .bool false] := by simp [strV, h]
theorem strV_3 {s : ByteArray} {p b : Int} (h : inB b 1 9 = false) : strV s p b = .tuple #[.string ⟨#[]⟩, .bool false] := by simp [strV, h]
theorem strV_4 {s : ByteArray} {k b : Nat} (h : isSt s = true) (h1 : k < s.size) (h2 : 1 ≤ b) (h3 : b ≤ 9) : strV s ((k : Int) + 1) (b : Int) = moreV s k (dD s k + b) := by
  have e1 : inB ((k : Int) + 1) 1 s.size = true := inB_yes (by omega) (by omega)
  have e2 : inB (b : Int) 1 9 = true := inB_yes (by omega) (by omega)
  simp [strV, h, e1, e2]
theorem dg_nat {n : Nat} (h : n ≤ 9) : (dg n).toNat = 48 + n := by unfold dg; simp; omega
theorem withSignZ (s : ByteArray) (k : Nat) (z : Int) (c : UInt8) (w : World) (hz : z = (c.toNat : Int)) (hs : s.size ≤ 1048576) (h1 : k < s.size) :
    Calls Try.prog 40 #[.string s, .int .i64 ((k : Int) + 1), .int .u8 z] w fun e w' => e = .returned (.string (setB s (k + 1) c)) ∧ Below w.heap.size w w' := by
  subst hz
  exact withSign s (k + 1) c w hs (by omega) (by omega)
set_option maxHeartbeats 1000000 in
theorem implStr (s : ByteArray) (p b : Int) (w : World) (hs : s.size ≤ 1048576) (hbw : -9223372036854775808 ≤ b ∧ b ≤ 9223372036854775807) :
    Calls Try.prog 24 #[.string s, .int .i64 p, .int .i64 b] w fun e w' => e = .returned (strV s p b) ∧ Below w.heap.size w w' := by
  have hm : s.size ≤ maxLen := by unfold maxLen; omega
  cases h : isSt s
  · have J := Lib.hid (strV_1 (p := p) (b := b) h)
    have G := Lib.hid h
    clear h
    go_enter Try.func24, Try.ntmps24
    go_wp2_with (go_at_call 37; refine (implIsStrong _ _ hm).mono ?_; rintro e w' ⟨rfl, rfl⟩; rw [G.out])
    go_ret2
    exact ⟨ret_v J.out.symm, Below.refl _ _⟩
  have G := Lib.hid h
  cases h2 : inB p 1 s.size
  · have J := Lib.hid (strV_2 (s := s) (b := b) h2)
    have G2 := Lib.hid h2
    clear h h2
    go_enter Try.func24, Try.ntmps24
    go_wp2_with (first
      | (go_at_call 37; refine (implIsStrong _ _ hm).mono ?_; rintro e w' ⟨rfl, rfl⟩; rw [G.out])
      | (go_at_call 38; refine (isInRiver _ _ _ hm).mono ?_; rintro e w' ⟨rfl, rfl⟩; rw [G2.out]))
    go_ret2
    exact ⟨ret_v J.out.symm, Below.refl _ _⟩
  have G2 := Lib.hid h2
  by_cases h3 : b < 1
  · have J := Lib.hid (strV_3 (s := s) (p := p) (inB_no (.inl h3)))
    clear h h2
    go_enter Try.func24, Try.ntmps24
    go_wp2_with (first
      | (go_at_call 37; refine (implIsStrong _ _ hm).mono ?_; rintro e w' ⟨rfl, rfl⟩; rw [G.out])
      | (go_at_call 38; refine (isInRiver _ _ _ hm).mono ?_; rintro e w' ⟨rfl, rfl⟩; rw [G2.out]))
    go_ret2
    exact ⟨ret_v J.out.symm, Below.refl _ _⟩
  obtain ⟨z1, z2, hd⟩ := isSt_in h
  have hp : 1 ≤ p ∧ p ≤ s.size := by simpa [inB] using h2
  obtain ⟨k, rfl⟩ : ∃ k : Nat, p = (k : Int) + 1 := ⟨(p - 1).toNat, by omega⟩
  obtain ⟨m, rfl⟩ : ∃ m : Nat, b = (m : Int) := ⟨b.toNat, by omega⟩
  have hk : k < s.size := by omega
  have C := Lib.hid (fun wx => stepsAt s ((k : Int) + 1) k wx rfl hd hk hs)
  have hx := dD_byte hd hk
  have hl := dD_le hd k
  by_cases h4 : 9 < dD s k + m
  · have J : Hid (strV s ((k : Int) + 1) (m : Int) = .tuple #[.string ⟨#[]⟩, .bool false]) := Lib.hid (by
      by_cases h5 : m ≤ 9
      · rw [strV_4 h hk (by omega) h5, moreV_no h4]
      · exact strV_3 (inB_no (.inr (by omega))))
    have h4' : 9 - (dD s k : Int) < m := by omega
    generalize dD s k = c at *
    clear h h2 hd hx
    go_enter Try.func24, Try.ntmps24
    go_wp2_with (first
      | (go_at_call 37; refine (implIsStrong _ _ hm).mono ?_; rintro e w' ⟨rfl, rfl⟩; rw [G.out])
      | (go_at_call 38; refine (isInRiver _ _ _ hm).mono ?_; rintro e w' ⟨rfl, rfl⟩; rw [G2.out])
      | (go_at_call 39; refine (C.out _).mono ?_; rintro e w' ⟨rfl, rfl⟩))
    go_ret2
    exact ⟨ret_v J.out.symm, Below.refl _ _⟩
  · have J := Lib.hid ((strV_4 (s := s) (k := k) (b := m) h hk (by omega) (by omega)).trans (moreV_yes (s := s) (k := k) (n := dD s k + m) (by omega)))
    have h4' : ¬ 9 - (dD s k : Int) < m := by omega
    have hn := dg_nat (n := dD s k + m) (by omega)
    have W := Lib.hid (fun wx => withSignZ s k (48 + (dD s k : Int) + m) (dg (dD s k + m)) wx (by rw [hn]; omega) hs hk)
    have k1 : (k : Int) < s.size := by omega
    have e1 : (k : Int) + 1 - 1 = k := by omega
    have hm9 : m ≤ 9 := by omega
    unfold moreB at J
    generalize dg (dD s k + m) = q at *
    generalize dD s k = c at *
    clear h h2 hd hn
    go_enter Try.func24, Try.ntmps24
    go_wp2_with (first
      | (go_at_call 37; refine (implIsStrong _ _ hm).mono ?_; rintro e w' ⟨rfl, rfl⟩; rw [G.out])
      | (go_at_call 38; refine (isInRiver _ _ _ hm).mono ?_; rintro e w' ⟨rfl, rfl⟩; rw [G2.out])
      | (go_at_call 39; refine (C.out _).mono ?_; rintro e w' ⟨rfl, rfl⟩)
      | (go_at_call 40; refine (W.out _).mono ?_; rintro e w' ⟨rfl, hb⟩))
    go_ret2
    exact ⟨ret_v J.out.symm, hb⟩
end Go.Proofs.Ytmlokapbholeoac
