/- What the rows' cell 'laid' gives a walk (the two package variables' cells), and a world that meets it. -/
import Derived.Test.YteoggpollgkfiaaDoorRows
import Derived.Test.YteoggpollgkfiaaDoorLand
import Derived.ChangeSame
import Derived.ChangeVars
import Derived.JoinedOf
import Derived.RowKit
import Derived.RowKitTokens
import Derived.LaidLaws
import Derived.LaidHandle
import Derived.Stop.Joined
import Derived.Stop.ErrReads
import Derived.Stop.LaidErr
import Derived.WalkSmall
namespace Go.Proofs.YteoggpollgkfiaaDoor
set_option linter.unusedVariables false
open Go.ChangeShapes Go.WideShapes Go.RowKit

theorem Tryd.own : ownKnob Tryd.prog.godebug = none := by kernel_rfl
theorem Tryd.em : Tryd.prog.globalNamed "loop.example/g01352/impl.errNoMove" = some 0 := by kernel_rfl
theorem Tryd.et : Tryd.prog.globalNamed "errors.errorType" = some 1 := by kernel_rfl
theorem Tryd.emType : (Tryd.prog.globals[0]?).map (·.type) = some 67 := by kernel_rfl
theorem Tryd.rt : (Tryd.prog.cutTypes.find? (·.1 == "internal/reflectlite.rtype")).map (·.2) = some 113 := by kernel_rfl
theorem Tryd.typesSize : Tryd.prog.types.size = 263 - 100 := by kernel_rfl
theorem Tryd.oneRow : ((List.range (263 - 100)).filter fun t => Tryd.prog.rowNamed t [101, 114, 114, 111, 114]) = [67] := by kernel_rfl
theorem Tryd.cellsES : Tryd.prog.cellsOf 151 = 1 := by kernel_rfl
theorem Tryd.cellsStr : Tryd.prog.cellsOf 9 = 1 := by kernel_rfl
theorem Tryd.star : "*" ++ "errors.errorString" = "*errors.errorString" := by decide
theorem Tryd.rowES (u : TypeId) (h : Tryd.prog.typeName? 3 u = some "*errors.errorString") : u = 131 :=
  typeName_ptr_named (nm := "errors.errorString") (by rw [Tryd.star]; kernel_rfl) (by kernel_rfl) (by decide) u (by rw [Tryd.star]; exact h)

def laidList : List (String × DataW Unit) := [("errors.errorType", Rows.laid_errors_errorType), ("loop.example/g01352/impl.errNoMove", Rows.laid_loop_example_g01352_impl_errNoMove)]

theorem laid_of {W : World} (h : laidMetH Tryd.prog laidList W) : ∃ p, Laid W p ∧ W.var? Tryd.prog "loop.example/g01352/impl.errNoMove" = some #[.iface 131 (.pointer (some p))] := by
  have h' : laidMet Tryd.prog [("loop.example/g01352/impl.errNoMove", Rows.laid_loop_example_g01352_impl_errNoMove)] W ∧ handlesMet Tryd.prog [("errors.errorType", Rows.laid_errors_errorType)] W := h
  obtain ⟨name, u, ty, e1, e2, e3, e4, e5⟩ := h'.2 _ (List.mem_singleton.2 rfl)
  have en : name = [101, 114, 114, 111, 114] := (Option.some.inj e1).symm
  subst en
  obtain rfl := Option.some.inj (Tryd.rt.symm.trans e2)
  have hm : ty ∈ (List.range (263 - 100)).filter fun t => Tryd.prog.rowNamed t [101, 114, 114, 111, 114] := List.mem_filter.2 ⟨List.mem_range.2 (by rw [← Tryd.typesSize]; exact e3), e4⟩
  rw [Tryd.oneRow] at hm
  obtain rfl := List.mem_singleton.1 hm
  have hh : typeHandle Tryd.prog 67 = .pointer (some ⟨2, 67, none⟩) := by kernel_rfl
  rw [hh] at e5
  obtain ⟨p, s, hv, hc, hs, hz⟩ := laid_sentinel h'.1 Tryd.em Tryd.emType Tryd.underlying67 Tryd.rowES Tryd.underlying131 Tryd.underlying151 rfl rfl Tryd.underlying9 Tryd.cellsES Tryd.cellsStr
  have c1 : W.cell? ⟨1, 0, none⟩ = some (.iface 113 (.agg #[.pointer (some ⟨2, 67, none⟩)])) := by simpa using World.var?_cell Tryd.et e5 0
  refine ⟨p, ⟨by simpa using World.var?_cell Tryd.em hv 0, c1, World.block_lt_of_cell? W _ c1⟩, hv⟩

abbrev msgS : ByteArray := { data := #[110, 111, 32, 115, 117, 99, 104, 32, 109, 111, 118, 101] }
noncomputable def low : Nat := (World.holding Tryd.prog default ⟨#[], #[], []⟩).heap.size
noncomputable def laidWorld (os : Os) : World :=
  let w0 := World.holding Tryd.prog os ⟨#[.cells #[.string msgS] 151], #[], []⟩
  { w0 with heap := (w0.heap.modify 0 fun
      | .cells _ t frozen => .cells #[.iface 131 (.pointer (some ⟨low, 0, none⟩))] t frozen
      | o => o).modify 1 fun
      | .cells _ t frozen => .cells #[.iface 113 (.agg #[.pointer (some ⟨2, 67, none⟩)])] t frozen
      | o => o }
theorem laidWorld_met (os : Os) (args : Array Value) : laidMetH Tryd.prog laidList ((laidWorld os).forCall (fun _ _ => 0) ⟨#[], args, []⟩).memory :=
  laidMetH_of_parts (laidMet_of_run (ps := [.cell 0 0, .cell low 0]) 8 (by kernel_rfl) (by kernel_rfl) (by kernel_rfl)) (by kernel_rfl)
theorem vars_read {H : Type} (enc : TypeId × Value → H) {W : World} {x0 : Value} (h0 : W.var? Tryd.prog "loop.example/g01352/impl.errNoMove" = some #[x0]) (i0 : IsIface x0) (sp : Nat → Bool) :
    DataW.TrodVars enc Tryd.prog W sp ["loop.example/g01352/impl.errNoMove"] [tok enc x0] [.cell 0 0] :=
  ⟨0, 67, #[x0], 1, [], [], Tryd.em, Tryd.emType, h0, trod_held Tryd.underlying67 i0 0, rfl, rfl⟩
theorem vars_below {W W' : World} {x0 : Value} (h0 : W.var? Tryd.prog "loop.example/g01352/impl.errNoMove" = some #[x0]) (hb : Below W.heap.size W W') (h1 : 1 < W.heap.size) : W'.var? Tryd.prog "loop.example/g01352/impl.errNoMove" = some #[x0] :=
  var?_below hb Tryd.em (by omega) h0
end Go.Proofs.YteoggpollgkfiaaDoor
