/- strings.Cut, strconv.Atoi; impl.ParseCorner. -/
import Derived.Test.YtcpipacombnhdaaDoorPcs
namespace Go.Proofs.YtcpipacombnhdaaDoor
set_option linter.unusedVariables false
open Go.RowKit

/-- what the walk asks of the package's variables -/
def Lb (w : World) : Prop := Pow w ∧ (0 < w.heap.size ∧ ∃ m, w.cell? ⟨0, 0, none⟩ = some (.int .i64 m)) ∧ (1 < w.heap.size ∧ ∃ tp p, w.var? Tryd.prog "strconv.ErrSyntax" = some #[.iface tp p]) ∧ 2 < w.heap.size ∧ ∃ tp p, w.var? Tryd.prog "strconv.ErrRange" = some #[.iface tp p]
theorem Tryd.gSyn : Tryd.prog.globalNamed "strconv.ErrSyntax" = some 1 := by kernel_rfl
theorem Tryd.gRan : Tryd.prog.globalNamed "strconv.ErrRange" = some 2 := by kernel_rfl
theorem Lb.below {w w' : World} (h : Lb w) (hb : Below w.heap.size w w') : Lb w' := by
  obtain ⟨h1, ⟨h2, m, h3⟩, ⟨h4, t4, p4, h5⟩, h6, t5, p5, h7⟩ := h
  have hs := hb.size
  exact ⟨h1.below hb, ⟨by omega, m, (hb.cell (p := ⟨0, 0, none⟩) h2).trans h3⟩, ⟨by omega, t4, p4, varBelow hb Tryd.gSyn h4 h5⟩, by omega, t5, p5, varBelow hb Tryd.gRan h6 h7⟩
/-- how strconv.Atoi ends -/
def Ok (x : ByteArray) (z : Int) : Prop := Lib.atoiAll x.data.toList = .ok z
theorem atoiOk (x : ByteArray) (z : Int) (w : World) (hs : x.size ≤ 1048576) (h : Ok x z) :
    Calls Tryd.prog 25 #[.string x] w fun e w' => e = .returned (.tuple #[.int .i64 z, .nilIface]) ∧ Below w.heap.size w w' := by
  refine (Tryd.strconv_Atoi_ok x (by omega) z h w).mono ?_
  rintro e w' ⟨rfl, rfl | ⟨t, rfl⟩⟩
  · exact ⟨rfl, Below.refl _ _⟩
  · exact ⟨rfl, Lib.bytesWorld_below _ _ _⟩
theorem atoiNo (x : ByteArray) (w : World) (hs : x.size ≤ 1048576) (hL : Lb w) (h : ∀ z, ¬ Ok x z) :
    Calls Tryd.prog 25 #[.string x] w fun e w' => ∃ z t a, e = .returned (.tuple #[.int .i64 z, .iface t (.pointer (some a))]) ∧ Below w.heap.size w w' := by
  obtain ⟨_, _, ⟨_, t4, p4, h4⟩, _, t5, p5, h5⟩ := hL
  cases hx : Lib.atoiAll x.data.toList with
  | ok z => exact absurd hx (h z)
  | «syntax» =>
    refine (Tryd.strconv_Atoi_syntax_var x (by omega) hx t4 p4 w h4).mono ?_
    rintro e w' ⟨N, rfl, _, _, hb⟩
    exact ⟨_, _, _, rfl, hb⟩
  | range =>
    refine (Tryd.strconv_Atoi_range_var x (by omega) hx t5 p5 w h5).mono ?_
    rintro e w' ⟨N, rfl, _, _, hb⟩
    exact ⟨_, _, _, rfl, hb⟩
theorem cut_le (l sep : List UInt8) : (Lib.cut l sep).1.length ≤ l.length ∧ (Lib.cut l sep).2.1.length ≤ l.length := by
  unfold Lib.cut
  split
  · exact ⟨by simp only [List.length_take]; omega, by simp only [List.length_drop]; omega⟩
  · exact ⟨Nat.le_refl _, Nat.zero_le _⟩
def cutP (s : ByteArray) : ByteArray := ⟨(Lib.cut s.data.toList [120]).1.toArray⟩
def cutQ (s : ByteArray) : ByteArray := ⟨(Lib.cut s.data.toList [120]).2.1.toArray⟩
theorem cut_sz (s : ByteArray) : (cutP s).size ≤ s.size ∧ (cutQ s).size ≤ s.size := by
  have h := cut_le s.data.toList [120]
  have z3 : s.data.toList.length = s.size := by rw [Array.length_toList]; rfl
  have z1 : (cutP s).size = (Lib.cut s.data.toList [120]).1.length := by simp [cutP, ByteArray.size]
  have z2 : (cutQ s).size = (Lib.cut s.data.toList [120]).2.1.length := by simp [cutQ, ByteArray.size]
  omega
theorem cutC (s : ByteArray) (w : World) (hs : s.size ≤ 1048576) (hL : Lb w) :
    Calls Tryd.prog 24 #[.string s, .string ⟨#[120]⟩] w fun e w' => ∃ b, e = .returned (.tuple #[.string (cutP s), .string (cutQ s), .bool b]) ∧ Below w.heap.size w w' := by
  obtain ⟨_, ⟨_, m, hm⟩, _⟩ := hL
  refine (Tryd.strings_Cut s ⟨#[120]⟩ m w (by omega) hm).mono ?_
  rintro e w' ⟨rfl, n, rfl⟩
  exact ⟨_, rfl, below_drewN (Below.refl _ _) n⟩
theorem isC_cut {s : ByteArray} (h : isC s = true) : ∃ a b : Nat, isCn (a : Int) (b : Int) = true ∧ bs (ctx (a : Int) (b : Int)) = s ∧ cpr s = ((a : Int), (b : Int)) ∧ Ok (cutP s) a ∧ Ok (cutQ s) b := by
  obtain ⟨a, b, h1, h2, h3⟩ := isC_in h
  have hin := isCn_in h1
  have hd : s.data.toList = ctx (a : Int) (b : Int) := by rw [← h2]; simp [bs]
  have hc : Lib.cut s.data.toList [120] = (Lib.decDigits a, Lib.decDigits b, true) := by
    rw [hd]; unfold ctx
    rw [Int.toNat_natCast, Int.toNat_natCast, List.append_assoc, List.singleton_append, cut_app _ _ _ (dec_not a (by decide))]
  refine ⟨a, b, h1, h2, h3, ?_, ?_⟩
  · unfold Ok cutP
    rw [hc]
    simpa using atoi_dec (n := a) (by omega)
  · unfold Ok cutQ
    rw [hc]
    simpa using atoi_dec (n := b) (by omega)
theorem Ok.eq {x : ByteArray} {y z : Int} (h : Ok x y) (h' : Ok x z) : y = z := by
  unfold Ok at h h'
  rw [h] at h'
  injection h'
theorem neqW {a b : ByteArray} (h : ¬ a = b) : (a.toList == b.toList) = false := by
  rw [ByteArray.toList_eq, ByteArray.toList_eq]
  apply Bool.eq_false_iff.2
  intro e
  exact h (ByteArray.ext (Array.toList_inj.1 (by simpa using e)))
end Go.Proofs.YtcpipacombnhdaaDoor
