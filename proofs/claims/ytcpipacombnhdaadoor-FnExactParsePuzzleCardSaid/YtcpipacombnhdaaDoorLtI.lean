/- What ParseIsles's row lists as laid; what that and the world's shape give a walk; a world that meets it. -/
import Derived.Test.YtcpipacombnhdaaDoorPci
import Derived.Test.YtcpipacombnhdaaDoorLtW
import Derived.Deep.DeepLaidRun
namespace Go.Proofs.YtcpipacombnhdaaDoor
set_option linter.unusedVariables false
open Go.ChangeShapes Go.WideShapes Go.RowKit

theorem andShaped {H : Type} {enc : TypeId × Value → H} {f : FuncId} {fn : Func} {a : Assume} {C : Checked} {os : Os} {s : ChangeSpec} {conds : List PathCond} {apart fresh handsOn again : Bool} {X : World → Array Value → Prop}
    (hX : ∀ (w w' : World) (args : Array Value), w.heap = w'.heap → X w args → X w' args)
    (own : ownKnob C.prog.godebug = none) (started : os.Started) (noInit : C.prog.inits.idxOf? f = none) (hfn : C.prog.funcs[f]? = some fn)
    (witness : ∃ (w : World) (tape : Tape) (i : Input), w.os = os ∧ (w.forCall tape i).Shaped C.prog ∧ i.vars = [] ∧ Input.okWide C.prog (w.forCall tape i) .any w.heap.size f i ∧
      ((s.pre enc C.prog fn conds apart (w.forCall tape i).memory i.args ∧ X (w.forCall tape i).memory i.args) ∧ sizedMet enc C.prog fn (OpenSpec.ofChange s) apart (w.forCall tape i).memory i.args) ∧ a.holds C.prog (lone (Frame.enter C.prog f i.args .normal) [] (w.forCall tape i)))
    (walk : ∀ (W : World) (base : Nat) (args : Array Value) (ds gs : List (DataW H)) (before : List MemPlace),
      (∀ (j : Nat) t v, fn.params[j]? = some t → args[j]? = some v → Value.okWide C.prog W .any base t v) →
      DataW.Whole enc C.prog fn.params.toList s.vars apart W args.toList ds gs before → X W args → W.ShapedOpen C.prog →
      Calls C.prog f args W fun e W' => ∃ v, e = .returned v ∧ s.post enc C.prog fn apart fresh handsOn again W args v W') :
    ReturnsInHanded a C os f .any (fun w args => (s.pre enc C.prog fn conds apart w args ∧ X w args) ∧ sizedMet enc C.prog fn (OpenSpec.ofChange s) apart w args) (s.post enc C.prog fn apart fresh handsOn again) := by
  refine returnsInHanded_of_calls own started noInit witness ?_
  intro w tape i _ hsh _ hok hpre _
  obtain ⟨_, _, _, fn', hfn', _, _, _, _, hval⟩ := hok
  obtain rfl : fn' = fn := Option.some.inj (hfn'.symm.trans hfn)
  obtain ⟨⟨⟨ds, gs, before, hw, _⟩, hx⟩, _⟩ := hpre
  refine (walk (w.forCall tape i) w.heap.size i.args ds gs before hval (DataW.Whole.of_heap (w' := w.forCall tape i) (by rfl) hw) (hX _ _ _ (by rfl) hx) hsh).mono fun e W' ⟨v, he, hp⟩ => ?_
  subst he
  exact ChangeSpec.post_blind hp

theorem Tryd.gSynType : (Tryd.prog.globals[1]?).map (·.type) = some 52 := by kernel_rfl
theorem Tryd.gRanType : (Tryd.prog.globals[2]?).map (·.type) = some 52 := by kernel_rfl
theorem Tryd.cellsES : Tryd.prog.cellsOf 124 = 1 := by kernel_rfl
theorem Tryd.cellsStr : Tryd.prog.cellsOf 9 = 1 := by kernel_rfl
theorem Tryd.star : "*" ++ "errors.errorString" = "*errors.errorString" := by decide
theorem Tryd.rowES (u : TypeId) (h : Tryd.prog.typeName? 3 u = some "*errors.errorString") : u = 122 :=
  typeName_ptr_named (nm := "errors.errorString") (by rw [Tryd.star]; kernel_rfl) (by kernel_rfl) (by decide) u (by rw [Tryd.star]; exact h)
theorem var_lt {P : Program} {g : Nat} {W : World} {n : String} {cs : Array Value} (hg : P.globalNamed n = some g) (hv : W.var? P n = some cs) : g < W.heap.size := by
  unfold World.var? at hv
  simp only [hg, Option.bind_some] at hv
  by_cases h : g < W.heap.size
  · exact h
  · rw [Array.getElem?_eq_none (by omega)] at hv; cases hv
def laidI : List (String × DataW Unit) := [("math/bits.deBruijn32tab", Rows.laid_math_bits_deBruijn32tab), ("math/bits.deBruijn64tab", Rows.laid_math_bits_deBruijn64tab), ("internal/strconv.uint64pow10", Rows.laid_internal_strconv_uint64pow10), ("unicode/utf8.acceptRanges", Rows.laid_unicode_utf8_acceptRanges), ("strconv.ErrRange", Rows.laid_strconv_ErrRange), ("strconv.ErrSyntax", Rows.laid_strconv_ErrSyntax), ("unicode/utf8.first", Rows.laid_unicode_utf8_first)]
theorem laidI_of {W : World} (h : laidMetH Tryd.prog laidI W) (hS : W.ShapedOpen Tryd.prog) : Lb W := by
  have h' : laidMet Tryd.prog laidI W := h
  have h3 : laidMet Tryd.prog (("internal/strconv.uint64pow10", Lib.tabData .u64 Lib.pow10Tab) :: laidI.drop 3) W := h'.tail.tail
  have T : Lib.TabIs Tryd.prog W "internal/strconv.uint64pow10" .u64 Lib.pow10Tab := Lib.tabIs_of_head Tryd.gPow Tryd.gPowType Tryd.underlying115 Tryd.underlying95 (by kernel_rfl) (by kernel_rfl) h3
  obtain ⟨m, hm⟩ := Tryd.laysM145.s1_3 W hS
  have hR : laidMet Tryd.prog (laidI.drop 4) W := h'.tail.tail.tail.tail
  have hY : laidMet Tryd.prog (laidI.drop 5) W := h'.tail.tail.tail.tail.tail
  obtain ⟨pr, sr, hvr, _, _, _⟩ := laid_sentinel hR Tryd.gRan Tryd.gRanType Tryd.underlying52 Tryd.rowES Tryd.underlying122 Tryd.underlying124 rfl rfl Tryd.underlying9 Tryd.cellsES Tryd.cellsStr
  obtain ⟨py, sy, hvy, _, _, _⟩ := laid_sentinel hY Tryd.gSyn Tryd.gSynType Tryd.underlying52 Tryd.rowES Tryd.underlying122 Tryd.underlying124 rfl rfl Tryd.underlying9 Tryd.cellsES Tryd.cellsStr
  exact ⟨⟨T, World.block_lt_of_cell? W _ (T.cell Tryd.gPow 0 (by decide))⟩, ⟨World.block_lt_of_cell? W _ hm, m, hm⟩, ⟨var_lt Tryd.gSyn hvy, _, _, hvy⟩, var_lt Tryd.gRan hvr, _, _, hvr⟩
abbrev msgY : ByteArray := { data := #[105, 110, 118, 97, 108, 105, 100, 32, 115, 121, 110, 116, 97, 120] }
abbrev msgR : ByteArray := { data := #[118, 97, 108, 117, 101, 32, 111, 117, 116, 32, 111, 102, 32, 114, 97, 110, 103, 101] }
noncomputable def lowI : Nat := (World.holding Tryd.prog default ⟨#[], #[], []⟩).heap.size
def put (cs : Array Value) : Obj → Obj
  | .cells _ t frozen => .cells cs t frozen
  | o => o
def u8s (l : List Nat) : Array Value := (l.map fun z : Nat => Value.int .u8 (z : Int)).toArray
noncomputable def laidWorldI (os : Os) : World :=
  let w0 := World.holding Tryd.prog os ⟨#[.cells #[.string msgY] 124, .cells #[.string msgR] 124], #[], []⟩
  { w0 with heap := (((((((w0.heap.modify 1 (put #[.iface 122 (.pointer (some ⟨lowI, 0, none⟩))])).modify 2 (put #[.iface 122 (.pointer (some ⟨lowI + 1, 0, none⟩))])).modify 3 (put (Lib.pow10Tab.map fun z => Value.int .u64 z).toArray)).modify 4 (put (u8s Go.Pinned.utf8FirstZ))).modify 5 (put (u8s [128, 191, 160, 191, 128, 159, 144, 191, 128, 143, 0, 0, 0, 0, 0, 0, 0, 0, 0, 0, 0, 0, 0, 0, 0, 0, 0, 0, 0, 0, 0, 0]))).modify 6 (put (u8s [0, 1, 28, 2, 29, 14, 24, 3, 30, 22, 20, 15, 25, 17, 4, 8, 31, 27, 13, 23, 21, 19, 16, 7, 26, 12, 18, 6, 11, 5, 10, 9]))).modify 7 (put (u8s [0, 1, 56, 2, 57, 49, 28, 3, 61, 58, 42, 50, 38, 29, 17, 4, 62, 47, 59, 36, 45, 43, 51, 22, 53, 39, 33, 30, 24, 18, 12, 5, 63, 55, 48, 27, 60, 41, 37, 16, 46, 35, 44, 21, 52, 32, 23, 11, 54, 26, 40, 15, 34, 20, 31, 10, 25, 14, 19, 9, 13, 8, 7, 6]))) }
theorem laidWorld_metI (os : Os) (args : Array Value) : laidMetH Tryd.prog laidI ((laidWorldI os).forCall (fun _ _ => 0) ⟨#[], args, []⟩).memory :=
  (laidMet_of_run3 8 (by kernel_rfl) (by kernel_rfl) (by kernel_rfl) : laidMet Tryd.prog laidI _)
end Go.Proofs.YtcpipacombnhdaaDoor
