/- The laid table of the powers of ten; strconv.Itoa, strings.Join. -/
import Derived.Test.YtcpipacombnhdaaDoorSg
import Derived.Test.YtcpipacombnhdaaDoorNum
import Derived.Test.YtcpipacombnhdaaDoorShelfW
import Derived.Lib.Join
import Derived.Lib.LaidTab
namespace Go.Proofs.YtcpipacombnhdaaDoor
set_option linter.unusedVariables false
open Go.RowKit

theorem Tryd.gPow : Tryd.prog.globalNamed "internal/strconv.uint64pow10" = some 3 := by kernel_rfl
theorem varBelow {P : Program} {B g : Nat} {W W' : World} {n : String} {cs : Array Value} (h : Below B W W') (hg : P.globalNamed n = some g) (hgB : g < B) (hv : W.var? P n = some cs) : W'.var? P n = some cs := by
  unfold World.var? at hv ⊢
  simp only [hg, Option.bind_some] at hv ⊢
  rw [h.block g hgB]
  exact hv
/-- the table of the powers of ten is laid -/
def Pow (w : World) : Prop := Lib.TabIs Tryd.prog w "internal/strconv.uint64pow10" .u64 Lib.pow10Tab ∧ 3 < w.heap.size
theorem Pow.below {w w' : World} (h : Pow w) (hb : Below w.heap.size w w') : Pow w' := ⟨varBelow hb Tryd.gPow h.2 h.1, Nat.lt_of_lt_of_le h.2 hb.size⟩
theorem grow_below (w : World) (k : Nat) (os : Array Obj) : Below w.heap.size w (Go.Sort.grow (w.drewN k) os) := by
  refine ⟨rfl, rfl, rfl, by simp [Go.Sort.grow], fun j hj => ?_⟩
  simp only [Go.Sort.grow]
  rw [Array.getElem?_append_left (by simpa using hj)]
  rfl
theorem itoa (n : Nat) (w : World) (h : n ≤ 1000000) (hP : Pow w) :
    Calls Tryd.prog 20 #[.int .i64 (n : Int)] w fun e w' => e = .returned (.string (bs (Lib.decDigits n))) ∧ Below w.heap.size w w' := by
  refine (Tryd.strconv_Itoa (n : Int) (by omega) (by omega) w hP.1).mono ?_
  rintro e w' ⟨rfl, k, os, rfl⟩
  refine ⟨?_, grow_below w k os⟩
  have e : Lib.itoa (n : Int) = Lib.decDigits n := by unfold Lib.itoa; rw [if_neg (by omega)]; simp
  rw [e]; rfl
/-- strings.Join at a separator of one byte -/
theorem joinS (v : Value) (l : List ByteArray) (c : UInt8) (B : Nat) (w : World) (hS : Strg w B v l) (h1 : l.length ≤ 1000) (hlen : (Lib.join (l.map (·.data.toList)) [c]).length ≤ 100000) :
    Calls Tryd.prog 21 #[v, .string ⟨#[c]⟩] w fun e w' => e = .returned (.string (bs (Lib.join (l.map (·.data.toList)) [c]))) ∧ Below w.heap.size w w' := by
  by_cases h0 : 0 < l.length
  · obtain ⟨g, n, cap, rfl, rfl, hnc, hcm, hB, hg, hc⟩ := hS.form h0
    exact Tryd.strings_Join g 0 cap l ⟨#[c]⟩ w (fun j x hj => by
      have hjl : j < l.length := (List.getElem?_eq_some_iff.1 hj).1
      rw [Nat.zero_add, hc j hjl]
      simp only [gs, List.getD_eq_getElem?_getD, hj]; rfl) hg (by omega) hnc (Nat.le_trans hlen (by decide))
  · obtain rfl : l = [] := List.length_eq_zero_iff.1 (by omega)
    obtain ⟨a, c2, rfl⟩ : ∃ a c2, v = .slice a 0 c2 := by
      rcases hS.2 with ⟨rfl, _⟩ | ⟨g, cap, cur, rfl, _⟩
      · exact ⟨none, 0, rfl⟩
      · exact ⟨_, _, rfl⟩
    refine (Tryd.strings_Join_none a c2 ⟨#[c]⟩ w).mono ?_
    rintro e w' ⟨rfl, rfl⟩
    exact ⟨rfl, Below.refl _ _⟩
end Go.Proofs.YtcpipacombnhdaaDoor
