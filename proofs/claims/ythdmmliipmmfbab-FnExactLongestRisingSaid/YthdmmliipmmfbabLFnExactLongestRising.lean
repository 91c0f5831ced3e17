/- FnExactLongestRising: for every input the law returns true; each argument reads behind the call as it read before. No condition. -/
import Derived.Test.YthdmmliipmmfbabRi4
import Derived.Test.YthdmmliipmmfbabRows
import Derived.WalkKit
import Derived.ProofKit
import Derived.OpenShut
import Derived.ShutString
import Derived.ChangeOld
import Derived.Below
import Derived.WalkSpells
import Derived.WalkLawsBesides
import Derived.Lib.Hide
namespace Go.Proofs.Ythdmmliipmmfbab.fnExactLongestRisingDone
open Go.ChangeShapes Go.WideShapes Go.ChangeAt Go.RowKit
open Go.ChangeMaps (open_string shut_string)
set_option linter.unusedVariables false

theorem own : ownKnob Try.prog.godebug = none := by kernel_rfl
theorem laidOut : laidOutB Try.prog = true := by kernel_rfl

set_option maxHeartbeats 4000000 in
theorem walk (a0 : Option Addr) (len0 cap0 : Nat) (z0 : List Int)  (W0 : World) (w0 : IsRow .i64 W0 a0 len0 cap0 z0) :
    Calls Try.prog 8 #[.slice a0 len0 cap0] W0 fun e w' => e = .returned (.bool true) ∧ Below W0.heap.size W0 w' := by
  obtain ⟨hr0, hl0, hbd0⟩ := w0.rd
  have HW0 := Lib.hid w0
  clear w0
  have hcm0 : len0 ≤ 9223372036854775807 := by
    rcases HW0.out with ⟨rfl, rfl, rfl, rfl⟩ | ⟨x, rfl, h1, h2, _⟩
    · omega
    · unfold maxLen at h2; omega
  by_cases hbl0 : 1048576 < len0
  · go_enter Try.func8, Try.ntmps8
    go_wp2
    go_ret
    exact ⟨rfl, Below.refl _ _⟩
  generalize z0.take len0 = s0 at *
  have hgt0 : ∀ j, -9223372036854775808 ≤ gt s0 j ∧ gt s0 j ≤ 9223372036854775807 := gt_bound hbd0
  have hln0 : s0.length ≤ 1048576 := by omega
  have HG0 := Lib.hid hgt0
  have HL0 := Lib.hid hln0
  have R0 := Lib.hid hr0
  clear hbd0 hgt0 hl0 hln0 hr0
  have hzl : (lrL s0).length ≤ 16777216 := (by have := lrL_len s0; omega)
  generalize hzs : (lrL s0) = zs at hzl
  generalize hok : (isOrd s0) = ok
  have HZ := Lib.hid hzs
  have HO := Lib.hid hok
  have HZL := Lib.hid hzl
  clear hzs hok hzl
  go_enter Try.func8, Try.ntmps8
  have B0 := Lib.hid (Below.refl W0.heap.size W0)
  have S0 : Hid (W0.heap.size ≤ W0.heap.size) := Lib.hid (Nat.le_refl _)
  go_wp2_with fail
  refine (toIntS _ s0 W0 (R0.out.below B0.out) HL0.out).mono ?_
  rintro e W1 ⟨p0, rfl, hI1, hb1⟩
  have T1 : Hid (W0.heap.size ≤ W1.heap.size) := Lib.hid hb1.size
  have S1 : Hid (W0.heap.size ≤ W1.heap.size) := Lib.hid (Nat.le_trans S0.out T1.out)
  have B1 := Lib.hid (B0.out.trans (hb1.mono S0.out))
  clear B0
  clear hb1
  have LTp0 : Hid (∀ b, p0.ownBlock = some b → W0.heap.size ≤ b ∧ b < W1.heap.size) := Lib.hid (fun b h => World.ownsRow.lt hI1 b h)
  have p0_1 := Lib.hid hI1
  clear hI1
  go_wp2_with fail
  refine (specLr p0 s0 W1 p0_1.out.rd HL0.out).mono ?_
  rw [HZ.out, HO.out]
  rintro e W2 ⟨r0, rfl, hI2, hb2⟩
  have T2 : Hid (W1.heap.size ≤ W2.heap.size) := Lib.hid hb2.size
  have S2 : Hid (W0.heap.size ≤ W2.heap.size) := Lib.hid (Nat.le_trans S1.out T2.out)
  have B2 := Lib.hid (B1.out.trans (hb2.mono S1.out))
  clear B1
  clear p0_1
  clear hb2
  have LTr0 : Hid (∀ b, r0.ownBlock = some b → W1.heap.size ≤ b ∧ b < W2.heap.size) := Lib.hid (fun b h => World.ownsRow.lt hI2 b h)
  have r0_2 := Lib.hid hI2
  clear hI2
  go_wp2_with fail
  refine (toIntS _ s0 W2 (R0.out.below B2.out) HL0.out).mono ?_
  rintro e W3 ⟨x0, rfl, hI3, hb3⟩
  have T3 : Hid (W2.heap.size ≤ W3.heap.size) := Lib.hid hb3.size
  have S3 : Hid (W0.heap.size ≤ W3.heap.size) := Lib.hid (Nat.le_trans S2.out T3.out)
  have B3 := Lib.hid (B2.out.trans (hb3.mono S2.out))
  clear B2
  have r0_3 := Lib.hid (r0_2.out.below hb3)
  clear r0_2
  clear hb3
  have LTx0 : Hid (∀ b, x0.ownBlock = some b → W2.heap.size ≤ b ∧ b < W3.heap.size) := Lib.hid (fun b h => World.ownsRow.lt hI3 b h)
  have x0_3 := Lib.hid hI3
  clear hI3
  go_wp2_with fail
  refine (implLr x0 s0 W3 x0_3.out.rd HL0.out).mono ?_
  rw [HZ.out, HO.out]
  rintro e W4 ⟨r1, rfl, hI4, hb4⟩
  have T4 : Hid (W3.heap.size ≤ W4.heap.size) := Lib.hid hb4.size
  have S4 : Hid (W0.heap.size ≤ W4.heap.size) := Lib.hid (Nat.le_trans S3.out T4.out)
  have B4 := Lib.hid (B3.out.trans (hb4.mono S3.out))
  clear B3
  have r0_4 := Lib.hid (r0_3.out.below hb4)
  clear r0_3
  have x0_4 := Lib.hid (x0_3.out.below hb4)
  clear x0_3
  clear hb4
  have LTr1 : Hid (∀ b, r1.ownBlock = some b → W3.heap.size ≤ b ∧ b < W4.heap.size) := Lib.hid (fun b h => World.ownsRow.lt hI4 b h)
  have r1_4 := Lib.hid hI4
  clear hI4
  go_wp2_with fail
  refine (eqIntS_same r1 r0 zs W4 r1_4.out.rd r0_4.out.rd HZL.out).mono ?_
  rintro e W5 ⟨rfl, hb5⟩
  have T5 : Hid (W4.heap.size ≤ W5.heap.size) := Lib.hid hb5.size
  have S5 : Hid (W0.heap.size ≤ W5.heap.size) := Lib.hid (Nat.le_trans S4.out T5.out)
  have B5 := Lib.hid (B4.out.trans (hb5.mono S4.out))
  clear B4
  have r0_5 := Lib.hid (r0_4.out.below hb5)
  clear r0_4
  have x0_5 := Lib.hid (x0_4.out.below hb5)
  clear x0_4
  have r1_5 := Lib.hid (r1_4.out.below hb5)
  clear r1_4
  clear hb5
  go_wp2_with fail
  refine (toIntS _ s0 W5 (R0.out.below B5.out) HL0.out).mono ?_
  rintro e W6 ⟨y0, rfl, hI6, hb6⟩
  have T6 : Hid (W5.heap.size ≤ W6.heap.size) := Lib.hid hb6.size
  have S6 : Hid (W0.heap.size ≤ W6.heap.size) := Lib.hid (Nat.le_trans S5.out T6.out)
  have B6 := Lib.hid (B5.out.trans (hb6.mono S5.out))
  clear B5
  have r0_6 := Lib.hid (r0_5.out.below hb6)
  clear r0_5
  have x0_6 := Lib.hid (x0_5.out.below hb6)
  clear x0_5
  have r1_6 := Lib.hid (r1_5.out.below hb6)
  clear r1_5
  clear hb6
  have LTy0 : Hid (∀ b, y0.ownBlock = some b → W5.heap.size ≤ b ∧ b < W6.heap.size) := Lib.hid (fun b h => World.ownsRow.lt hI6 b h)
  have y0_6 := Lib.hid hI6
  clear hI6
  go_wp2_with fail
  refine (eqIntS_same x0 y0 s0 W6 x0_6.out.rd y0_6.out.rd (by have := HL0.out; omega)).mono ?_
  rintro e W7 ⟨rfl, hb7⟩
  have T7 : Hid (W6.heap.size ≤ W7.heap.size) := Lib.hid hb7.size
  have S7 : Hid (W0.heap.size ≤ W7.heap.size) := Lib.hid (Nat.le_trans S6.out T7.out)
  have B7 := Lib.hid (B6.out.trans (hb7.mono S6.out))
  clear B6
  have r0_7 := Lib.hid (r0_6.out.below hb7)
  clear r0_6
  have x0_7 := Lib.hid (x0_6.out.below hb7)
  clear x0_6
  have r1_7 := Lib.hid (r1_6.out.below hb7)
  clear r1_6
  clear y0_6
  clear hb7
  have hL0 := HL0.out
  have hZ := HZL.out
  go_wp2_with fail
  refine (markIntS x0 s0 W2.heap.size W7 x0_7.out (by omega) (1) (by omega) (by omega)).mono ?_
  rintro e W8 ⟨rfl, hm8, hg8⟩
  have T8 : Hid (W7.heap.size ≤ W8.heap.size) := Lib.hid hg8.size
  have S8 : Hid (W0.heap.size ≤ W8.heap.size) := Lib.hid (Nat.le_trans S7.out T8.out)
  have B8 := Lib.hid (B7.out.grown hg8 S7.out (fun b h => Nat.le_trans S2.out (LTx0.out b h).1))
  clear B7 x0_7
  have x0_8 := Lib.hid hm8
  have r0_8 := Lib.hid (r0_7.out.kept hg8 (apart_old LTx0.out LTr0.out (by (have := T1.out); (have := T2.out); (have := T3.out); (have := T4.out); (have := T5.out); (have := T6.out); (have := T7.out); omega)))
  clear r0_7
  have r1_8 := Lib.hid (r1_7.out.kept hg8 (apart_new LTx0.out LTr1.out (by (have := T1.out); (have := T2.out); (have := T3.out); (have := T4.out); (have := T5.out); (have := T6.out); (have := T7.out); omega)))
  clear r1_7
  clear hm8 hg8
  clear x0_8
  go_wp2_with fail
  refine (eqIntS_same r1 r0 zs W8 r1_8.out.rd r0_8.out.rd hZ).mono ?_
  rintro e W9 ⟨rfl, hb9⟩
  have T9 : Hid (W8.heap.size ≤ W9.heap.size) := Lib.hid hb9.size
  have S9 : Hid (W0.heap.size ≤ W9.heap.size) := Lib.hid (Nat.le_trans S8.out T9.out)
  have B9 := Lib.hid (B8.out.trans (hb9.mono S8.out))
  clear B8
  have r0_9 := Lib.hid (r0_8.out.below hb9)
  clear r0_8
  have r1_9 := Lib.hid (r1_8.out.below hb9)
  clear r1_8
  clear hb9
  go_wp2_with fail
  refine (markIntS r1 zs W3.heap.size W9 r1_9.out hZ (1) (by omega) (by omega)).mono ?_
  rintro e W10 ⟨rfl, hm10, hg10⟩
  have T10 : Hid (W9.heap.size ≤ W10.heap.size) := Lib.hid hg10.size
  have S10 : Hid (W0.heap.size ≤ W10.heap.size) := Lib.hid (Nat.le_trans S9.out T10.out)
  have B10 := Lib.hid (B9.out.grown hg10 S9.out (fun b h => Nat.le_trans S3.out (LTr1.out b h).1))
  clear B9 r1_9
  have r1_10 := Lib.hid hm10
  have r0_10 := Lib.hid (r0_9.out.kept hg10 (apart_old LTr1.out LTr0.out (by (have := T1.out); (have := T2.out); (have := T3.out); (have := T4.out); (have := T5.out); (have := T6.out); (have := T7.out); (have := T8.out); (have := T9.out); omega)))
  clear r0_9
  clear hm10 hg10
  go_wp2_with fail
  refine (heldIntS r1 zs.length W10 1 r1_10.out.rd hZ (by decide) (by decide)).mono ?_
  rintro e w' ⟨rfl, rfl⟩
  go_wp2_with fail
  refine (toIntS _ s0 W10 (R0.out.below B10.out) HL0.out).mono ?_
  rintro e W11 ⟨q0, rfl, hI11, hb11⟩
  have T11 : Hid (W10.heap.size ≤ W11.heap.size) := Lib.hid hb11.size
  have S11 : Hid (W0.heap.size ≤ W11.heap.size) := Lib.hid (Nat.le_trans S10.out T11.out)
  have B11 := Lib.hid (B10.out.trans (hb11.mono S10.out))
  clear B10
  have r0_11 := Lib.hid (r0_10.out.below hb11)
  clear r0_10
  have r1_11 := Lib.hid (r1_10.out.below hb11)
  clear r1_10
  clear hb11
  have LTq0 : Hid (∀ b, q0.ownBlock = some b → W10.heap.size ≤ b ∧ b < W11.heap.size) := Lib.hid (fun b h => World.ownsRow.lt hI11 b h)
  have q0_11 := Lib.hid hI11
  clear hI11
  go_wp2_with fail
  refine (implLr q0 s0 W11 q0_11.out.rd HL0.out).mono ?_
  rw [HZ.out, HO.out]
  rintro e W12 ⟨r2, rfl, hI12, hb12⟩
  have T12 : Hid (W11.heap.size ≤ W12.heap.size) := Lib.hid hb12.size
  have S12 : Hid (W0.heap.size ≤ W12.heap.size) := Lib.hid (Nat.le_trans S11.out T12.out)
  have B12 := Lib.hid (B11.out.trans (hb12.mono S11.out))
  clear B11
  have r0_12 := Lib.hid (r0_11.out.below hb12)
  clear r0_11
  have r1_12 := Lib.hid (r1_11.out.below hb12)
  clear r1_11
  clear q0_11
  clear hb12
  have LTr2 : Hid (∀ b, r2.ownBlock = some b → W11.heap.size ≤ b ∧ b < W12.heap.size) := Lib.hid (fun b h => World.ownsRow.lt hI12 b h)
  have r2_12 := Lib.hid hI12
  clear hI12
  go_wp2_with fail
  refine (eqIntS_same r2 r0 zs W12 r2_12.out.rd r0_12.out.rd hZ).mono ?_
  rintro e W13 ⟨rfl, hb13⟩
  have T13 : Hid (W12.heap.size ≤ W13.heap.size) := Lib.hid hb13.size
  have S13 : Hid (W0.heap.size ≤ W13.heap.size) := Lib.hid (Nat.le_trans S12.out T13.out)
  have B13 := Lib.hid (B12.out.trans (hb13.mono S12.out))
  clear B12
  have r0_13 := Lib.hid (r0_12.out.below hb13)
  clear r0_12
  have r1_13 := Lib.hid (r1_12.out.below hb13)
  clear r1_12
  have r2_13 := Lib.hid (r2_12.out.below hb13)
  clear r2_12
  clear hb13
  go_wp2_with fail
  refine (heldIntS r1 zs.length W13 1 r1_13.out.rd hZ (by decide) (by decide)).mono ?_
  rintro e w' ⟨rfl, rfl⟩
  go_wp2
  go_ret
  exact ⟨rfl, B13.out⟩

set_option maxRecDepth 100000 in
theorem lifted (os : Os) (started : os.Started) (H : Type) (enc : TypeId × Value → H) :
    ReturnsInHanded {} Try.checked os 8 .any (Rows.fnExactLongestRisingSpec.pre6 enc Try.prog Try.f8 Rows.fnExactLongestRisingRow.domain false) (Rows.fnExactLongestRisingSpec.post enc Try.prog Try.f8 false true false false) := by
  refine returnsInHanded_of_change (C := Try.checked) own started (by kernel_rfl) Try.func8
    (ChangeSpec.witness6 (enc := enc) (C := Try.checked) false ⟨#[], #[.slice none 0 0], []⟩ 8 (by kernel_rfl) (by kernel_rfl) (by kernel_rfl) (by kernel_rfl)) ?_
  intro W base args ds gs before hval0 hW hcnd _
  have hval : ∀ (j : Nat) t v, Try.f8.params[j]? = some t → args[j]? = some v → Value.okWide Try.prog W .any base t v := hval0
  have hW' := hW
  obtain ⟨p, q, hA0, hV, rfl, hfz, hnd⟩ := hW
  have hA : DataW.TrodAll enc Try.prog W 0 (fun _ => true) true Try.f8.params.toList args.toList ds p := hA0
  rw [Try.params8] at hA hval
  obtain ⟨v0, vs0, d0, ds0, p0, q0, hargs, rfl, rfl, h0, r0⟩ := trodAll_cons hA
  obtain ⟨rfl, rfl, rfl⟩ := trodAll_nil r0
  obtain rfl : args = #[v0] := by cases args; simp_all
  obtain ⟨rfl, rfl⟩ := trodVars_none hV
  obtain ⟨a0, len0, cap0, rfl⟩ := okWide_slice Try.underlying22 (hval 0 22 v0 rfl rfl)
  have k0 := h0
  have lt0 : ∀ x ∈ p0, x.block < W.heap.size := by obtain ⟨m, hm⟩ := k0; exact DataW.trod_lt m _ _ _ hm
  obtain ⟨z0, w0⟩ : ∃ zs, IsRow .i64 W a0 len0 cap0 zs := by
    obtain ⟨fuel, hf⟩ := h0
    rcases open_ints Try.underlying22 Try.underlying3 (by kernel_rfl) hf with ⟨hcs, _⟩ | ⟨x, l, c, zs, hcs, _, hl, hm, hz, _, hcell, hwz⟩
    · simp [Value.cells] at hcs
      obtain ⟨rfl, rfl, rfl⟩ := hcs
      exact ⟨[], .inl ⟨rfl, rfl, rfl, rfl⟩⟩
    · simp [Value.cells] at hcs
      obtain ⟨rfl, rfl, rfl⟩ := hcs
      exact ⟨zs, .inr ⟨_, rfl, hl, hm, by simpa using hz, hcell, hwz⟩⟩
  clear hA0 hval0
  refine (walk a0 len0 cap0 z0  W w0).mono fun e W' ⟨he, bel⟩ => ?_
  subst he
  exact ⟨_, rfl, _, _, _, [], _, [], hW', trodAll_mk1 (shut_bool Try.underlying4 _), (trodAll_cons_mk (Below.trod laidOut (by kernel_rfl) (of_decide_eq_true (by kernel_rfl)) k0 bel lt0) trodAll_mk0), rfl, bel.frame _, fun h => by cases h⟩

theorem over : Rows.fnExactLongestRisingRow.holds Try.pinned (OpenSpec.ofChange Rows.fnExactLongestRisingSpec) :=
  OpenClaim.holds_of_wide 8 Try.f8 rfl rfl rfl rfl rfl rfl rfl ⟨rfl, rfl, rfl, rfl, rfl⟩ rfl rfl rfl rfl rfl (by kernel_rfl) Try.func8 (by kernel_rfl)
    (of_decide_eq_true (by kernel_rfl)) (by unfold Func.isWrapper; first | (rw [if_pos (by decide +kernel)]; kernel_rfl) | (rw [if_neg (by decide +kernel)]; exact ⟨rfl, rfl⟩))
    (fun os started H enc _ => lifted os started H enc)

theorem proved : Rows.FnExactLongestRisingSaid := over
#print axioms proved
end Go.Proofs.Ythdmmliipmmfbab.fnExactLongestRisingDone
