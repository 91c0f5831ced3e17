/- spec.l1Split at any byte. -/
import Derived.Test.YtcpipacombnhdaaDoorPrd
import Derived.Test.YtcpipacombnhdaaDoorSg
namespace Go.Proofs.YtcpipacombnhdaaDoor
set_option linter.unusedVariables false
open Go.RowKit

theorem sp_dash {d : UInt8} {l : List UInt8} {f k : Nat} (hf : f ≤ k) (hk : k < l.length) (hd : l[k] = d) (hn : d ∉ (l.drop f).take (k - f)) : spc d (l.drop f) = (l.drop f).take (k - f) :: spc d (l.drop (k + 1)) := by
  have e : l.drop f = (l.drop f).take (k - f) ++ d :: l.drop (k + 1) := by
    have h1 := (List.take_append_drop (k - f) (l.drop f)).symm
    rw [List.drop_drop, show f + (k - f) = k by omega, List.drop_eq_getElem_cons hk, hd] at h1
    exact h1
  have h2 := spc_app d ((l.drop f).take (k - f)) (l.drop (k + 1)) hn
  rw [← e] at h2
  exact h2
theorem sp_more {d : UInt8} {l : List UInt8} {f k : Nat} (hf : f ≤ k) (hk : k < l.length) (hd : l[k] ≠ d) (hn : d ∉ (l.drop f).take (k - f)) : d ∉ (l.drop f).take (k + 1 - f) := by
  have hkf : k - f < (l.drop f).length := by simp; omega
  rw [show k + 1 - f = (k - f) + 1 by omega, List.take_succ_eq_append_getElem hkf, List.mem_append]
  rintro (h | h)
  · exact hn h
  · have e : (l.drop f)[k - f] = l[k] := by rw [List.getElem_drop]; congr 1; omega
    rw [e] at h
    exact hd (List.mem_singleton.1 h).symm
theorem sp_end {d : UInt8} {l : List UInt8} {f : Nat} (hn : d ∉ (l.drop f).take (l.length - f)) : spc d (l.drop f) = [l.drop f] := by
  rw [List.take_of_length_le (by simp)] at hn
  exact spc_word d _ hn
theorem ext_list (s : ByteArray) (a b : Nat) (h : a ≤ b) : (s.extract a b).data.toList = (s.data.toList.drop a).take (b - a) := Lib.extract_data s a b
set_option maxHeartbeats 4000000 in
theorem l1Split (s : ByteArray) (d : UInt8) (q : Int) (hq : (d.toNat : Int) = q) (w : World) (hs : s.size ≤ 1048576) :
    Calls Tryd.prog 41 #[.string s, .int .u8 q] w fun e w' => ∃ v W, e = .returned v ∧ Strg w' w.heap.size v W ∧ W.map (·.data.toList) = spc d s.data.toList ∧ Below w.heap.size w w' := by
  have SZ : s.data.toList.length = s.size := by rw [Array.length_toList]; rfl
  have HSZ := Lib.hid SZ
  clear SZ
  have HQ := Lib.hid hq
  clear hq
  go_enter Tryd.func41, Tryd.ntmps41
  go_wp2
  go_loopw [5, 6, 7] (fun o fr i wr => ∃ (k f : Nat) (D : List ByteArray), f ≤ k ∧ k ≤ s.size ∧ i = .int .i64 k ∧ fr = .int .i64 f ∧ Hid (Strg wr w.heap.size o D) ∧ Hid (D.length ≤ k ∧ D.map (·.data.toList) ++ spc d (s.data.toList.drop f) = spc d s.data.toList ∧ d ∉ (s.data.toList.drop f).take (k - f)) ∧ Hid (Below w.heap.size w wr)) (fun _ _ i _ => s.size - (intOf i).toNat)
  case atStart => exact ⟨0, 0, [], Nat.le_refl _, Nat.zero_le _, rfl, rfl, Lib.hid (World.ownsRow_nil _ _ _ _), Lib.hid ⟨Nat.zero_le _, by simp, by simp⟩, Lib.hid (Below.refl _ _)⟩
  case round =>
    obtain ⟨k, f, D, hf, hk, rfl, rfl, hS, hD, hB⟩ := hrel
    have hle := hB.out.size
    by_cases hlt : k < s.size
    · have hlt' : (k : Int) < s.size := by omega
      have hkl : k < s.data.toList.length := by rw [HSZ.out]; exact hlt
      have hel : s.data.toList[k] = s[k]'hlt := rfl
      by_cases hd : ((s[k]'hlt).toNat : Int) = q
      · have hd8 : s[k]'hlt = d := by
          apply UInt8.toNat_inj.1
          have := HQ.out
          omega
        have X := Lib.hid (sp_dash hf hkl (by rw [hel]; exact hd8) hD.out.2.2)
        have EX := Lib.hid (ext_list s f k hf)
        have D2 := Lib.hid (show (D ++ [s.extract f k]).length ≤ k + 1 ∧ (D ++ [s.extract f k]).map (·.data.toList) ++ spc d (s.data.toList.drop (k + 1)) = spc d s.data.toList ∧ d ∉ (s.data.toList.drop (k + 1)).take (k + 1 - (k + 1)) from ⟨by simp; exact hD.out.1, by
          rw [← hD.out.2.1, X.out, List.map_append, List.append_assoc]
          simp, by simp⟩)
        have hDl : D.length < 16777216 := by have := hD.out.1; omega
        have hfi : (f : Int) ≤ (k : Int) := by omega
        clear hD hd8 hel hkl
        go_wp2_with (at_builtin; refine wpList_appS wr rfl _ _ rfl w.heap.size _ D rfl hS.out (s.extract f k) wr.heap.size rfl rfl hDl hle rfl ?_; intro v' w2 hS3 hb3 hg3; have S3 := Lib.hid hS3; have B3 := Lib.hid (hB.out.trans hb3); clear hS3 hb3 hg3)
        go_roundw
        case rel => exact ⟨k + 1, k + 1, D ++ [s.extract f k], Nat.le_refl _, by omega, by go_num, by go_num, S3, D2, B3⟩
        case measure => (simp [intOf]; try omega)
      · have hd8 : s[k]'hlt ≠ d := fun e => hd (by rw [e]; exact HQ.out)
        have D2 := Lib.hid (show D.length ≤ k + 1 ∧ D.map (·.data.toList) ++ spc d (s.data.toList.drop f) = spc d s.data.toList ∧ d ∉ (s.data.toList.drop f).take (k + 1 - f) from ⟨by have := hD.out.1; omega, hD.out.2.1, sp_more hf hkl (by rw [hel]; exact hd8) hD.out.2.2⟩)
        clear hD hd8 hel hkl
        go_wp2
        go_roundw
        case rel => exact ⟨k + 1, f, D, by omega, by omega, by go_num, rfl, hS, D2, hB⟩
        case measure => (simp [intOf]; try omega)
    · obtain rfl : k = s.size := by omega
      have X := Lib.hid (sp_end (l := s.data.toList) (f := f) (by have := hD.out.2.2; rw [HSZ.out]; exact this))
      have EX := Lib.hid (ext_list s f s.size hf)
      have D2 := Lib.hid (show (D ++ [s.extract f s.size]).map (·.data.toList) = spc d s.data.toList by
        rw [← hD.out.2.1, X.out, List.map_append]
        simp only [List.map_cons, List.map_nil, EX.out]
        rw [List.take_of_length_le (by simp [HSZ.out])])
      have hDl : D.length < 16777216 := by have := hD.out.1; omega
      have hfi : (f : Int) ≤ (s.size : Int) := by omega
      clear hD
      go_wp2_with (at_builtin; refine wpList_appS wr rfl _ _ rfl w.heap.size _ D rfl hS.out (s.extract f s.size) wr.heap.size rfl rfl hDl hle rfl ?_; intro v' w2 hS3 hb3 hg3; have S3 := Lib.hid hS3; have B3 := Lib.hid (hB.out.trans hb3); clear hS3 hb3 hg3)
      go_ret
      exact ⟨_, _, rfl, S3.out, D2.out, B3.out⟩
end Go.Proofs.YtcpipacombnhdaaDoor
