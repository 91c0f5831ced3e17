/- FnExactPrimeLeans: for every input the law returns true; each argument reads behind the call as it read before. No condition. -/
import Derived.Test.YtfkdkhoihlkgcabPn
import Derived.Test.YtfkdkhoihlkgcabRows
import Derived.WalkKit
import Derived.ProofKit
import Derived.OpenShut
import Derived.ShutString
import Derived.ChangeOld
import Derived.Below
import Derived.WalkSpells
import Derived.WalkLawsBesides
import Derived.Lib.Hide
namespace Go.Proofs.Ytfkdkhoihlkgcab.fnExactPrimeLeansDone
open Go.ChangeShapes Go.WideShapes Go.ChangeAt Go.RowKit
open Go.ChangeMaps (open_string shut_string)
set_option linter.unusedVariables false

theorem own : ownKnob Try.prog.godebug = none := by kernel_rfl
theorem laidOut : laidOutB Try.prog = true := by kernel_rfl

set_option maxHeartbeats 4000000 in
theorem walk (a0 : Int) (w0 : (Lit.int .i64 a0).wf = true) (W0 : World) :
    Calls Try.prog 9 #[.int .i64 a0] W0 fun e w' => e = .returned (.bool true) ∧ Below W0.heap.size W0 w' := by
  have i0 : -9223372036854775808 ≤ a0 ∧ a0 ≤ 9223372036854775807 := by simpa [Lit.wf, IntKind.min, IntKind.max, IntKind.signed, IntKind.bits] using w0
  clear w0
  have S := fun wx => specPrime a0 wx
  have I := fun wx => implPrime a0 wx
  have Z1 := upL_len true a0
  have Z2 := upL_row true a0
  have Z3 := upL_tot true a0
  generalize upL true a0 = zss at *
  generalize isPl a0 = ok at *
  have HS := Lib.hid S
  have HI := Lib.hid I
  have HR := Lib.hid Z2
  have hzz : zss.length ≤ 100000 := by omega
  obtain ⟨t, ht⟩ : ∃ t, t = totS zss := ⟨_, rfl⟩
  have HTT := Lib.hid ht
  rw [← ht] at Z3
  have hp : ¬ (1 + (t : Int) < 0) := by omega
  clear S I Z2 ht
  go_enter Try.func9, Try.ntmps9
  have B := Lib.hid (Below.refl W0.heap.size W0)
  go_wp2_with fail
  refine (HS.out _).mono ?_
  rintro e W2 ⟨v0, rfl, ⟨us0, hl0⟩, hb2⟩
  have R0 := Lib.hid hl0.rd
  have C2 := Lib.hid (hb2 : Below W0.heap.size W0 W2)
  have s2 := hb2.size
  obtain ⟨va0, vc0, rfl⟩ := hl0.form
  clear hl0 hb2
  go_wp2_with fail
  refine (HI.out _).mono ?_
  rintro e W4 ⟨v1, rfl, ⟨us1, hl1⟩, hb4⟩
  have s4 := hb4.size
  have C4 := Lib.hid (C2.out.trans (hb4.mono (by omega)))
  have E4 := Lib.hid ((Below.refl _ W2 : Below W2.heap.size W2 W2).trans (hb4.mono (by omega)))
  have L1 := Lib.hid hl1
  obtain ⟨va1, vc1, rfl⟩ := hl1.form
  clear hl1 hb4
  go_wp2_with fail
  refine (eqIntSS_same _ _ zss W4 L1.out.rd (R0.out.below E4.out) (by omega) (fun j => by have := HR.out j; omega)).mono ?_
  rintro e W5 ⟨rfl, hb5⟩
  have s5 := hb5.size
  have C5 := Lib.hid (C4.out.trans (hb5.mono (by omega)))
  have E5 := Lib.hid (E4.out.trans (hb5.mono (by omega)))
  have L5 := Lib.hid (L1.out.below hb5)
  clear hb5 L1
  go_wp2_with fail
  refine (markIntSS _ zss us1 W2.heap.size W5 L5.out (by omega) (by omega) (fun j => HR.out j) (by rw [← HTT.out]; omega)).mono ?_
  rw [← HTT.out]
  rintro e W6 ⟨rfl, hl6, hb6⟩
  have s6 := hb6.size
  have C6 := Lib.hid (C5.out.trans (hb6.mono (by omega)))
  have E6 := Lib.hid (E5.out.trans (hb6.mono (by omega)))
  have R1 := Lib.hid hl6.rd
  clear hb6 hl6 L5
  go_wp2_with fail
  refine (heldIntSS _ zss W6 R1.out (by omega) (fun j => HR.out j) (by rw [← HTT.out]; omega)).mono ?_
  rw [← HTT.out]
  rintro e w' ⟨rfl, rfl⟩
  go_wp2_with fail
  refine (HI.out _).mono ?_
  rintro e W8 ⟨v2, rfl, ⟨us2, hl2⟩, hb8⟩
  have s8 := hb8.size
  have C8 := Lib.hid (C6.out.trans (hb8.mono (by omega)))
  have E8 := Lib.hid (E6.out.trans (hb8.mono (by omega)))
  have G8 := Lib.hid ((Below.refl _ W6 : Below W6.heap.size W6 W6).trans (hb8.mono (by omega)))
  have R2 := Lib.hid hl2.rd
  obtain ⟨va2, vc2, rfl⟩ := hl2.form
  clear hl2 hb8
  go_wp2_with fail
  refine (eqIntSS_same _ _ zss W8 R2.out (R0.out.below E8.out) (by omega) (fun j => by have := HR.out j; omega)).mono ?_
  rintro e W9 ⟨rfl, hb9⟩
  have s9 := hb9.size
  have C9 := Lib.hid (C8.out.trans (hb9.mono (by omega)))
  have G9 := Lib.hid (G8.out.trans (hb9.mono (by omega)))
  clear hb9
  go_wp2_with fail
  refine (heldIntSS _ zss W9 (R1.out.below G9.out) (by omega) (fun j => HR.out j) (by rw [← HTT.out]; omega)).mono ?_
  rw [← HTT.out]
  rintro e w' ⟨rfl, rfl⟩
  go_wp2
  go_ret
  exact ⟨rfl, B.out.trans (C9.out.mono B.out.size)⟩

set_option maxRecDepth 100000 in
theorem lifted (os : Os) (started : os.Started) (H : Type) (enc : TypeId × Value → H) :
    ReturnsInHanded {} Try.checked os 9 .any (Rows.fnExactPrimeLeansSpec.pre6 enc Try.prog Try.f9 Rows.fnExactPrimeLeansRow.domain false) (Rows.fnExactPrimeLeansSpec.post enc Try.prog Try.f9 false true false false) := by
  refine returnsInHanded_of_change (C := Try.checked) own started (by kernel_rfl) Try.func9
    (ChangeSpec.witness6 (enc := enc) (C := Try.checked) false ⟨#[], #[.int .i64 0], []⟩ 8 (by kernel_rfl) (by kernel_rfl) (by kernel_rfl) (by kernel_rfl)) ?_
  intro W base args ds gs before hval0 hW hcnd _
  have hval : ∀ (j : Nat) t v, Try.f9.params[j]? = some t → args[j]? = some v → Value.okWide Try.prog W .any base t v := hval0
  have hW' := hW
  obtain ⟨p, q, hA0, hV, rfl, hfz, hnd⟩ := hW
  have hA : DataW.TrodAll enc Try.prog W 0 (fun _ => true) true Try.f9.params.toList args.toList ds p := hA0
  rw [Try.params9] at hA hval
  obtain ⟨v0, vs0, d0, ds0, p0, q0, hargs, rfl, rfl, h0, r0⟩ := trodAll_cons hA
  obtain ⟨rfl, rfl, rfl⟩ := trodAll_nil r0
  obtain rfl : args = #[v0] := by cases args; simp_all
  obtain ⟨rfl, rfl⟩ := trodVars_none hV
  obtain ⟨a0, rfl, rfl, rfl, w0⟩ := open_int Try.underlying3 (hval 0 3 v0 rfl rfl) h0
  clear hA0 hval0
  refine (walk a0 w0 W ).mono fun e W' ⟨he, bel⟩ => ?_
  subst he
  exact ⟨_, rfl, _, _, _, [], _, [], hW', trodAll_mk1 (shut_bool Try.underlying4 _), (trodAll_cons_mk (shut_int Try.underlying3 w0) trodAll_mk0), rfl, bel.frame _, fun h => by cases h⟩

theorem over : Rows.fnExactPrimeLeansRow.holds Try.pinned (OpenSpec.ofChange Rows.fnExactPrimeLeansSpec) :=
  OpenClaim.holds_of_wide 9 Try.f9 rfl rfl rfl rfl rfl rfl rfl ⟨rfl, rfl, rfl, rfl, rfl⟩ rfl rfl rfl rfl rfl (by kernel_rfl) Try.func9 (by kernel_rfl)
    (of_decide_eq_true (by kernel_rfl)) (by unfold Func.isWrapper; first | (rw [if_pos (by decide +kernel)]; kernel_rfl) | (rw [if_neg (by decide +kernel)]; exact ⟨rfl, rfl⟩))
    (fun os started H enc _ => lifted os started H enc)

theorem proved : Rows.FnExactPrimeLeansSaid := over
#print axioms proved
end Go.Proofs.Ytfkdkhoihlkgcab.fnExactPrimeLeansDone
