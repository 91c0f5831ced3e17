/- FnExactOrderOfRank: for every input the law returns true; each argument reads behind the call as it read before. No condition. -/
import Derived.Test.YthdmmliipmmfbabOw
import Derived.Test.YthdmmliipmmfbabRows
import Derived.WalkKit
import Derived.ProofKit
import Derived.OpenShut
import Derived.ShutString
import Derived.ChangeOld
import Derived.Below
import Derived.WalkSpells
import Derived.WalkLawsBesides
import Derived.Lib.Hide
namespace Go.Proofs.Ythdmmliipmmfbab.fnExactOrderOfRankDone
open Go.ChangeShapes Go.WideShapes Go.ChangeAt Go.RowKit
open Go.ChangeMaps (open_string shut_string)
set_option linter.unusedVariables false

theorem own : ownKnob Try.prog.godebug = none := by kernel_rfl
theorem laidOut : laidOutB Try.prog = true := by kernel_rfl

set_option maxHeartbeats 4000000 in
theorem walk (a0 : Int) (a1 : Int) (w0 : (Lit.int .i64 a0).wf = true) (w1 : (Lit.int .i64 a1).wf = true) (W0 : World)  :
    Calls Try.prog 5 #[.int .i64 a0, .int .i64 a1] W0 fun e w' => e = .returned (.bool true) ∧ Below W0.heap.size W0 w' := by
  have i0 : -9223372036854775808 ≤ a0 ∧ a0 ≤ 9223372036854775807 := by simpa [Lit.wf, IntKind.min, IntKind.max, IntKind.signed, IntKind.bits] using w0
  clear w0
  have i1 : -9223372036854775808 ≤ a1 ∧ a1 ≤ 9223372036854775807 := by simpa [Lit.wf, IntKind.min, IntKind.max, IntKind.signed, IntKind.bits] using w1
  clear w1
  have hzl : (orL a0 a1).length ≤ 16777216 := (by have := orL_len a0 a1; omega)
  generalize hzs : (orL a0 a1) = zs at hzl
  generalize hok : (orB a0 a1) = ok
  have HZ := Lib.hid hzs
  have HO := Lib.hid hok
  have HZL := Lib.hid hzl
  clear hzs hok hzl
  go_enter Try.func5, Try.ntmps5
  have B0 := Lib.hid (Below.refl W0.heap.size W0)
  have S0 : Hid (W0.heap.size ≤ W0.heap.size) := Lib.hid (Nat.le_refl _)
  go_wp2_with fail
  refine (specOr a0 a1 W0 i1.2).mono ?_
  rw [HZ.out, HO.out]
  rintro e W1 ⟨r0, rfl, hI1, hb1⟩
  have T1 : Hid (W0.heap.size ≤ W1.heap.size) := Lib.hid hb1.size
  have S1 : Hid (W0.heap.size ≤ W1.heap.size) := Lib.hid (Nat.le_trans S0.out T1.out)
  have B1 := Lib.hid (B0.out.trans (hb1.mono S0.out))
  clear B0
  clear hb1
  have LTr0 : Hid (∀ b, r0.ownBlock = some b → W0.heap.size ≤ b ∧ b < W1.heap.size) := Lib.hid (fun b h => World.ownsRow.lt hI1 b h)
  have r0_1 := Lib.hid hI1
  clear hI1
  go_wp2_with fail
  refine (implOr a0 a1 W1 i1.2).mono ?_
  rw [HZ.out, HO.out]
  rintro e W2 ⟨r1, rfl, hI2, hb2⟩
  have T2 : Hid (W1.heap.size ≤ W2.heap.size) := Lib.hid hb2.size
  have S2 : Hid (W0.heap.size ≤ W2.heap.size) := Lib.hid (Nat.le_trans S1.out T2.out)
  have B2 := Lib.hid (B1.out.trans (hb2.mono S1.out))
  clear B1
  have r0_2 := Lib.hid (r0_1.out.below hb2)
  clear r0_1
  clear hb2
  have LTr1 : Hid (∀ b, r1.ownBlock = some b → W1.heap.size ≤ b ∧ b < W2.heap.size) := Lib.hid (fun b h => World.ownsRow.lt hI2 b h)
  have r1_2 := Lib.hid hI2
  clear hI2
  go_wp2_with fail
  refine (eqIntS_same r1 r0 zs W2 r1_2.out.rd r0_2.out.rd HZL.out).mono ?_
  rintro e W3 ⟨rfl, hb3⟩
  have T3 : Hid (W2.heap.size ≤ W3.heap.size) := Lib.hid hb3.size
  have S3 : Hid (W0.heap.size ≤ W3.heap.size) := Lib.hid (Nat.le_trans S2.out T3.out)
  have B3 := Lib.hid (B2.out.trans (hb3.mono S2.out))
  clear B2
  have r0_3 := Lib.hid (r0_2.out.below hb3)
  clear r0_2
  have r1_3 := Lib.hid (r1_2.out.below hb3)
  clear r1_2
  clear hb3
  have hZ := HZL.out
  go_wp2_with fail
  refine (markIntS r1 zs W1.heap.size W3 r1_3.out hZ (1) (by omega) (by omega)).mono ?_
  rintro e W4 ⟨rfl, hm4, hg4⟩
  have T4 : Hid (W3.heap.size ≤ W4.heap.size) := Lib.hid hg4.size
  have S4 : Hid (W0.heap.size ≤ W4.heap.size) := Lib.hid (Nat.le_trans S3.out T4.out)
  have B4 := Lib.hid (B3.out.grown hg4 S3.out (fun b h => Nat.le_trans S1.out (LTr1.out b h).1))
  clear B3 r1_3
  have r1_4 := Lib.hid hm4
  have r0_4 := Lib.hid (r0_3.out.kept hg4 (apart_old LTr1.out LTr0.out (by (have := T1.out); (have := T2.out); (have := T3.out); omega)))
  clear r0_3
  clear hm4 hg4
  go_wp2_with fail
  refine (heldIntS r1 zs.length W4 1 r1_4.out.rd hZ (by decide) (by decide)).mono ?_
  rintro e w' ⟨rfl, rfl⟩
  go_wp2_with fail
  refine (implOr a0 a1 W4 i1.2).mono ?_
  rw [HZ.out, HO.out]
  rintro e W5 ⟨r2, rfl, hI5, hb5⟩
  have T5 : Hid (W4.heap.size ≤ W5.heap.size) := Lib.hid hb5.size
  have S5 : Hid (W0.heap.size ≤ W5.heap.size) := Lib.hid (Nat.le_trans S4.out T5.out)
  have B5 := Lib.hid (B4.out.trans (hb5.mono S4.out))
  clear B4
  have r0_5 := Lib.hid (r0_4.out.below hb5)
  clear r0_4
  have r1_5 := Lib.hid (r1_4.out.below hb5)
  clear r1_4
  clear hb5
  have LTr2 : Hid (∀ b, r2.ownBlock = some b → W4.heap.size ≤ b ∧ b < W5.heap.size) := Lib.hid (fun b h => World.ownsRow.lt hI5 b h)
  have r2_5 := Lib.hid hI5
  clear hI5
  go_wp2_with fail
  refine (eqIntS_same r2 r0 zs W5 r2_5.out.rd r0_5.out.rd hZ).mono ?_
  rintro e W6 ⟨rfl, hb6⟩
  have T6 : Hid (W5.heap.size ≤ W6.heap.size) := Lib.hid hb6.size
  have S6 : Hid (W0.heap.size ≤ W6.heap.size) := Lib.hid (Nat.le_trans S5.out T6.out)
  have B6 := Lib.hid (B5.out.trans (hb6.mono S5.out))
  clear B5
  have r0_6 := Lib.hid (r0_5.out.below hb6)
  clear r0_5
  have r1_6 := Lib.hid (r1_5.out.below hb6)
  clear r1_5
  have r2_6 := Lib.hid (r2_5.out.below hb6)
  clear r2_5
  clear hb6
  go_wp2_with fail
  refine (heldIntS r1 zs.length W6 1 r1_6.out.rd hZ (by decide) (by decide)).mono ?_
  rintro e w' ⟨rfl, rfl⟩
  go_wp2
  go_ret
  exact ⟨rfl, B6.out⟩

set_option maxRecDepth 100000 in
theorem lifted (os : Os) (started : os.Started) (H : Type) (enc : TypeId × Value → H) :
    ReturnsInHanded {} Try.checked os 5 .any (Rows.fnExactOrderOfRankSpec.pre6 enc Try.prog Try.f5 Rows.fnExactOrderOfRankRow.domain false) (Rows.fnExactOrderOfRankSpec.post enc Try.prog Try.f5 false true false false) := by
  refine returnsInHanded_of_change (C := Try.checked) own started (by kernel_rfl) Try.func5
    (ChangeSpec.witness6 (enc := enc) (C := Try.checked) false ⟨#[], #[.int .i64 0, .int .i64 0], []⟩ 8 (by kernel_rfl) (by kernel_rfl) (by kernel_rfl) (by kernel_rfl)) ?_
  intro W base args ds gs before hval0 hW hcnd _
  have hval : ∀ (j : Nat) t v, Try.f5.params[j]? = some t → args[j]? = some v → Value.okWide Try.prog W .any base t v := hval0
  have hW' := hW
  obtain ⟨p, q, hA0, hV, rfl, hfz, hnd⟩ := hW
  have hA : DataW.TrodAll enc Try.prog W 0 (fun _ => true) true Try.f5.params.toList args.toList ds p := hA0
  rw [Try.params5] at hA hval
  obtain ⟨v0, vs0, d0, ds0, p0, q0, hargs, rfl, rfl, h0, r0⟩ := trodAll_cons hA
  obtain ⟨v1, vs1, d1, ds1, p1, q1, rfl, rfl, rfl, h1, r1⟩ := trodAll_cons r0
  obtain ⟨rfl, rfl, rfl⟩ := trodAll_nil r1
  obtain rfl : args = #[v0, v1] := by cases args; simp_all
  obtain ⟨rfl, rfl⟩ := trodVars_none hV
  obtain ⟨a0, rfl, rfl, rfl, w0⟩ := open_int Try.underlying3 (hval 0 3 v0 rfl rfl) h0
  obtain ⟨a1, rfl, rfl, rfl, w1⟩ := open_int Try.underlying3 (hval 1 3 v1 rfl rfl) h1
  clear hA0 hval0
  refine (walk a0 a1 w0 w1 W ).mono fun e W' ⟨he, bel⟩ => ?_
  subst he
  exact ⟨_, rfl, _, _, _, [], _, [], hW', trodAll_mk1 (shut_bool Try.underlying4 _), (trodAll_cons_mk (shut_int Try.underlying3 w0) (trodAll_cons_mk (shut_int Try.underlying3 w1) trodAll_mk0)), rfl, bel.frame _, fun h => by cases h⟩

theorem over : Rows.fnExactOrderOfRankRow.holds Try.pinned (OpenSpec.ofChange Rows.fnExactOrderOfRankSpec) :=
  OpenClaim.holds_of_wide 5 Try.f5 rfl rfl rfl rfl rfl rfl rfl ⟨rfl, rfl, rfl, rfl, rfl⟩ rfl rfl rfl rfl rfl (by kernel_rfl) Try.func5 (by kernel_rfl)
    (of_decide_eq_true (by kernel_rfl)) (by unfold Func.isWrapper; first | (rw [if_pos (by decide +kernel)]; kernel_rfl) | (rw [if_neg (by decide +kernel)]; exact ⟨rfl, rfl⟩))
    (fun os started H enc _ => lifted os started H enc)

theorem proved : Rows.FnExactOrderOfRankSaid := over
#print axioms proved
end Go.Proofs.Ythdmmliipmmfbab.fnExactOrderOfRankDone
