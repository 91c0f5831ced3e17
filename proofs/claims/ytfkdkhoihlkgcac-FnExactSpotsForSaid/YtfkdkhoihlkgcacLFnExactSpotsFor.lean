/- FnExactSpotsFor: for every input the law returns true; each argument reads behind the call as it read before. No condition. -/
import Derived.Test.YtfkdkhoihlkgcacSsi
import Derived.Test.YtfkdkhoihlkgcacRows
import Derived.WalkKit
import Derived.ProofKit
import Derived.OpenShut
import Derived.ShutString
import Derived.ChangeOld
import Derived.Below
import Derived.WalkSpells
import Derived.WalkLawsBesides
import Derived.Lib.Hide
namespace Go.Proofs.Ytfkdkhoihlkgcac.fnExactSpotsForDone
open Go.ChangeShapes Go.WideShapes Go.ChangeAt Go.RowKit
open Go.ChangeMaps (open_string shut_string)
set_option linter.unusedVariables false

theorem own : ownKnob Try.prog.godebug = none := by kernel_rfl
theorem laidOut : laidOutB Try.prog = true := by kernel_rfl

set_option maxHeartbeats 4000000 in
theorem walk (x0 y0 : Int) (a1 : Int) (w1 : (Lit.int .i64 a1).wf = true) (W0 : World) :
    Calls Try.prog 3 #[.agg #[.int .i64 x0, .int .i64 y0], .int .i64 a1] W0 fun e w' => e = .returned (.bool true) ∧ Below W0.heap.size W0 w' := by
  have i1 : -9223372036854775808 ≤ a1 ∧ a1 ≤ 9223372036854775807 := by simpa [Lit.wf, IntKind.min, IntKind.max, IntKind.signed, IntKind.bits] using w1
  clear w1
  have S := fun wx => specSpots x0 y0 a1 wx
  have I := fun wx => implSpots x0 y0 a1 wx
  have Z1 := spL_len x0 y0 a1
  have Z2 := spL_row x0 y0 a1
  have Z3 := spL_tot x0 y0 a1
  generalize spL x0 y0 a1 = zss at *
  generalize spF x0 y0 a1 = ok at *
  have HS := Lib.hid S
  have HI := Lib.hid I
  have HR := Lib.hid Z2
  have hzz : zss.length ≤ 100000 := by omega
  obtain ⟨t, ht⟩ : ∃ t, t = totS zss := ⟨_, rfl⟩
  have HTT := Lib.hid ht
  rw [← ht] at Z3
  have hp : ¬ (1 + (t : Int) < 0) := by omega
  clear S I Z2 ht
  go_enter Try.func3, Try.ntmps3
  go_wp2_with fail
  refine (toCorner x0 y0 _).mono ?_
  rintro e W1 ⟨rfl, hb1⟩
  have X := Lib.hid ((Blk.new W0 #[.int .i64 x0, .int .i64 y0] 23).below hb1 (by simp))
  have B := Lib.hid (Below.trans (by (repeat (first | exact Below.refl _ _ | (refine Below.alloc ?_ (by first | omega | (simp; try omega)) _) | apply Below.drew | apply below_drewN))) (hb1.mono (by simp; try omega)) : Below W0.heap.size W0 W1)
  have l1 : W0.heap.size < W1.heap.size := X.out.lt
  clear hb1
  go_wp2_with fail
  refine (HS.out _).mono ?_
  rintro e W2 ⟨v0, rfl, ⟨us0, hl0⟩, hb2⟩
  have R0 := Lib.hid hl0.rd
  have C2 := Lib.hid (hb2 : Below W1.heap.size W1 W2)
  have s2 := hb2.size
  obtain ⟨va0, vc0, rfl⟩ := hl0.form
  clear hl0 hb2
  obtain ⟨c0, c1, l0⟩ := (X.out.below C2.out l1).two
  go_wp2_with fail
  refine (toCorner x0 y0 _).mono ?_
  rintro e W3 ⟨rfl, hb3⟩
  have s3 := hb3.size
  have C3 := Lib.hid (C2.out.trans (hb3.mono (by omega)))
  have E3 := Lib.hid (hb3)
  clear hb3 c0 c1 l0
  go_wp2_with fail
  refine (HI.out _).mono ?_
  rintro e W4 ⟨v1, rfl, ⟨us1, hl1⟩, hb4⟩
  have s4 := hb4.size
  have C4 := Lib.hid (C3.out.trans (hb4.mono (by omega)))
  have E4 := Lib.hid ((E3.out : Below W2.heap.size W2 W3).trans (hb4.mono (by omega)))
  have L1 := Lib.hid hl1
  obtain ⟨va1, vc1, rfl⟩ := hl1.form
  clear hl1 hb4
  go_wp2_with fail
  refine (eqIntSS_same _ _ zss W4 L1.out.rd (R0.out.below E4.out) (by omega) (fun j => by have := HR.out j; omega)).mono ?_
  rintro e W5 ⟨rfl, hb5⟩
  have s5 := hb5.size
  have C5 := Lib.hid (C4.out.trans (hb5.mono (by omega)))
  have E5 := Lib.hid (E4.out.trans (hb5.mono (by omega)))
  have L5 := Lib.hid (L1.out.below hb5)
  clear hb5 L1
  go_wp2_with fail
  refine (markIntSS _ zss us1 W3.heap.size W5 L5.out (by omega) (by omega) (fun j => HR.out j) (by rw [← HTT.out]; omega)).mono ?_
  rw [← HTT.out]
  rintro e W6 ⟨rfl, hl6, hb6⟩
  have s6 := hb6.size
  have C6 := Lib.hid (C5.out.trans (hb6.mono (by omega)))
  have E6 := Lib.hid (E5.out.trans (hb6.mono (by omega)))
  have R1 := Lib.hid hl6.rd
  clear hb6 hl6 L5
  go_wp2_with fail
  refine (heldIntSS _ zss W6 R1.out (by omega) (fun j => HR.out j) (by rw [← HTT.out]; omega)).mono ?_
  rw [← HTT.out]
  rintro e w' ⟨rfl, rfl⟩
  obtain ⟨c0, c1, l0⟩ := (X.out.below C6.out l1).two
  go_wp2_with fail
  refine (toCorner x0 y0 _).mono ?_
  rintro e W7 ⟨rfl, hb7⟩
  have s7 := hb7.size
  have C7 := Lib.hid (C6.out.trans (hb7.mono (by omega)))
  have E7 := Lib.hid (E6.out.trans (hb7.mono (by omega)))
  have G7 := Lib.hid hb7
  clear hb7 c0 c1 l0
  go_wp2_with fail
  refine (HI.out _).mono ?_
  rintro e W8 ⟨v2, rfl, ⟨us2, hl2⟩, hb8⟩
  have s8 := hb8.size
  have C8 := Lib.hid (C7.out.trans (hb8.mono (by omega)))
  have E8 := Lib.hid (E7.out.trans (hb8.mono (by omega)))
  have G8 := Lib.hid ((G7.out : Below W6.heap.size W6 W7).trans (hb8.mono (by omega)))
  have R2 := Lib.hid hl2.rd
  obtain ⟨va2, vc2, rfl⟩ := hl2.form
  clear hl2 hb8
  go_wp2_with fail
  refine (eqIntSS_same _ _ zss W8 R2.out (R0.out.below E8.out) (by omega) (fun j => by have := HR.out j; omega)).mono ?_
  rintro e W9 ⟨rfl, hb9⟩
  have s9 := hb9.size
  have C9 := Lib.hid (C8.out.trans (hb9.mono (by omega)))
  have G9 := Lib.hid (G8.out.trans (hb9.mono (by omega)))
  clear hb9
  go_wp2_with fail
  refine (heldIntSS _ zss W9 (R1.out.below G9.out) (by omega) (fun j => HR.out j) (by rw [← HTT.out]; omega)).mono ?_
  rw [← HTT.out]
  rintro e w' ⟨rfl, rfl⟩
  go_wp2
  go_ret
  exact ⟨rfl, B.out.trans (C9.out.mono B.out.size)⟩

set_option maxRecDepth 100000 in
theorem lifted (os : Os) (started : os.Started) (H : Type) (enc : TypeId × Value → H) :
    ReturnsInHanded {} Try.checked os 3 .any (Rows.fnExactSpotsForSpec.pre6 enc Try.prog Try.f3 Rows.fnExactSpotsForRow.domain false) (Rows.fnExactSpotsForSpec.post enc Try.prog Try.f3 false true false false) := by
  refine returnsInHanded_of_change (C := Try.checked) own started (by kernel_rfl) Try.func3
    (ChangeSpec.witness6 (enc := enc) (C := Try.checked) false ⟨#[], #[.agg #[.int .i64 0, .int .i64 0], .int .i64 0], []⟩ 8 (by kernel_rfl) (by kernel_rfl) (by kernel_rfl) (by kernel_rfl)) ?_
  intro W base args ds gs before hval0 hW hcnd _
  have hval : ∀ (j : Nat) t v, Try.f3.params[j]? = some t → args[j]? = some v → Value.okWide Try.prog W .any base t v := hval0
  have hW' := hW
  obtain ⟨p, q, hA0, hV, rfl, hfz, hnd⟩ := hW
  have hA : DataW.TrodAll enc Try.prog W 0 (fun _ => true) true Try.f3.params.toList args.toList ds p := hA0
  rw [Try.params3] at hA hval
  obtain ⟨v0, vs0, d0, ds0, p0, q0, hargs, rfl, rfl, h0, r0⟩ := trodAll_cons hA
  obtain ⟨v1, vs1, d1, ds1, p1, q1, rfl, rfl, rfl, h1, r1⟩ := trodAll_cons r0
  obtain ⟨rfl, rfl, rfl⟩ := trodAll_nil r1
  obtain rfl : args = #[v0, v1] := by cases args; simp_all
  obtain ⟨rfl, rfl⟩ := trodVars_none hV
  have k0 := h0
  have lt0 : ∀ x ∈ p0, x.block < W.heap.size := by obtain ⟨m, hm⟩ := k0; exact DataW.trod_lt m _ _ _ hm
  obtain ⟨x0, y0, rfl, ux0, uy0⟩ := openCorner (hval 0 23 v0 rfl rfl) h0
  obtain ⟨a1, rfl, rfl, rfl, w1⟩ := open_int Try.underlying3 (hval 1 3 v1 rfl rfl) h1
  clear hA0 hval0
  refine (walk x0 y0 a1  w1 W ).mono fun e W' ⟨he, bel⟩ => ?_
  subst he
  exact ⟨_, rfl, _, _, _, [], _, [], hW', trodAll_mk1 (shut_bool Try.underlying4 _), (trodAll_cons_mk (Below.trod laidOut (by kernel_rfl) (of_decide_eq_true (by kernel_rfl)) k0 bel lt0) (trodAll_cons_mk (shut_int Try.underlying3 w1) trodAll_mk0)), rfl, bel.frame _, fun h => by cases h⟩

theorem over : Rows.fnExactSpotsForRow.holds Try.pinned (OpenSpec.ofChange Rows.fnExactSpotsForSpec) :=
  OpenClaim.holds_of_wide 3 Try.f3 rfl rfl rfl rfl rfl rfl rfl ⟨rfl, rfl, rfl, rfl, rfl⟩ rfl rfl rfl rfl rfl (by kernel_rfl) Try.func3 (by kernel_rfl)
    (of_decide_eq_true (by kernel_rfl)) (by unfold Func.isWrapper; first | (rw [if_pos (by decide +kernel)]; kernel_rfl) | (rw [if_neg (by decide +kernel)]; exact ⟨rfl, rfl⟩))
    (fun os started H enc _ => lifted os started H enc)

theorem proved : Rows.FnExactSpotsForSaid := over
#print axioms proved
end Go.Proofs.Ytfkdkhoihlkgcac.fnExactSpotsForDone
