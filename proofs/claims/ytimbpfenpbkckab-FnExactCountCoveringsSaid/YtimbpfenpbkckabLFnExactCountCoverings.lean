/- FnExactCountCoverings: for every input the law returns true; each argument reads behind the call as it read before. No condition. -/
import Derived.Test.YtimbpfenpbkckabCk
import Derived.Test.YtimbpfenpbkckabRows
import Derived.WalkKit
import Derived.ProofKit
import Derived.OpenShut
import Derived.ShutString
import Derived.ChangeOld
import Derived.Below
import Derived.WalkSpells
import Derived.WalkLawsBesides
import Derived.Lib.Hide
namespace Go.Proofs.Ytimbpfenpbkckab.fnExactCountCoveringsDone
open Go.ChangeShapes Go.WideShapes Go.ChangeAt Go.RowKit
open Go.ChangeMaps (open_string shut_string)
set_option linter.unusedVariables false

theorem own : ownKnob Try.prog.godebug = none := by kernel_rfl
theorem laidOut : laidOutB Try.prog = true := by kernel_rfl

set_option maxHeartbeats 4000000 in
theorem walk (a0 : Option Addr) (len0 cap0 : Nat) (z0 : List Int) (a1 : Option Addr) (len1 cap1 : Nat) (z1 : List Int) (a2 : Int) (w2 : (Lit.int .i64 a2).wf = true) (W0 : World) (w0 : IsRow .i64 W0 a0 len0 cap0 z0) (w1 : IsRow .i64 W0 a1 len1 cap1 z1) :
    Calls Try.prog 8 #[.slice a0 len0 cap0, .slice a1 len1 cap1, .int .i64 a2] W0 fun e w' => e = .returned (.bool true) ∧ Below W0.heap.size W0 w' := by
  have i2 : -9223372036854775808 ≤ a2 ∧ a2 ≤ 9223372036854775807 := by simpa [Lit.wf, IntKind.min, IntKind.max, IntKind.signed, IntKind.bits] using w2
  clear w2
  obtain ⟨hr0, hl0, hbd0⟩ := w0.rd
  have HW0 := Lib.hid w0
  clear w0
  have hcm0 : len0 ≤ 9223372036854775807 := by
    rcases HW0.out with ⟨rfl, rfl, rfl, rfl⟩ | ⟨x, rfl, h1, h2, _⟩
    · omega
    · unfold maxLen at h2; omega
  by_cases hbl0 : 1048576 < len0
  · go_enter Try.func8, Try.ntmps8
    go_wp2
    go_ret
    exact ⟨rfl, Below.refl _ _⟩
  obtain ⟨hr1, hl1, hbd1⟩ := w1.rd
  have HW1 := Lib.hid w1
  clear w1
  have hcm1 : len1 ≤ 9223372036854775807 := by
    rcases HW1.out with ⟨rfl, rfl, rfl, rfl⟩ | ⟨x, rfl, h1, h2, _⟩
    · omega
    · unfold maxLen at h2; omega
  by_cases hbl1 : 1048576 < len1
  · go_enter Try.func8, Try.ntmps8
    go_wp2
    go_ret
    exact ⟨rfl, Below.refl _ _⟩
  generalize z0.take len0 = s0 at *
  have hgt0 : ∀ j, -9223372036854775808 ≤ gt s0 j ∧ gt s0 j ≤ 9223372036854775807 := gt_bound hbd0
  have hln0 : s0.length ≤ 1048576 := by omega
  have HG0 := Lib.hid hgt0
  have HL0 := Lib.hid hln0
  have R0 := Lib.hid hr0
  clear hbd0 hgt0 hl0 hln0 hr0
  generalize z1.take len1 = s1 at *
  have hgt1 : ∀ j, -9223372036854775808 ≤ gt s1 j ∧ gt s1 j ≤ 9223372036854775807 := gt_bound hbd1
  have hln1 : s1.length ≤ 1048576 := by omega
  have HG1 := Lib.hid hgt1
  have HL1 := Lib.hid hln1
  have R1 := Lib.hid hr1
  clear hbd1 hgt1 hl1 hln1 hr1
  obtain ⟨x, y, hv0⟩ := countV_form s0 s1 a2
  have HV := Lib.hid hv0
  clear hv0
  go_enter Try.func8, Try.ntmps8
  have B0 := Lib.hid (Below.refl W0.heap.size W0)
  have S0 : Hid (W0.heap.size ≤ W0.heap.size) := Lib.hid (Nat.le_refl _)
  go_wp2_with fail
  refine (toIntS _ s0 W0 (R0.out.below B0.out) HL0.out).mono ?_
  rintro e W1 ⟨p0, rfl, hI1, hb1⟩
  have T1 : Hid (W0.heap.size ≤ W1.heap.size) := Lib.hid hb1.size
  have S1 : Hid (W0.heap.size ≤ W1.heap.size) := Lib.hid (Nat.le_trans S0.out T1.out)
  have B1 := Lib.hid (B0.out.trans (hb1.mono S0.out))
  clear B0
  clear hb1
  have LTp0 : Hid (∀ b, p0.ownBlock = some b → W0.heap.size ≤ b ∧ b < W1.heap.size) := Lib.hid (fun b h => World.ownsRow.lt hI1 b h)
  have p0_1 := Lib.hid hI1
  clear hI1
  go_wp2_with fail
  refine (toIntS _ s1 W1 (R1.out.below B1.out) HL1.out).mono ?_
  rintro e W2 ⟨p1, rfl, hI2, hb2⟩
  have T2 : Hid (W1.heap.size ≤ W2.heap.size) := Lib.hid hb2.size
  have S2 : Hid (W0.heap.size ≤ W2.heap.size) := Lib.hid (Nat.le_trans S1.out T2.out)
  have B2 := Lib.hid (B1.out.trans (hb2.mono S1.out))
  clear B1
  have p0_2 := Lib.hid (p0_1.out.below hb2)
  clear p0_1
  clear hb2
  have LTp1 : Hid (∀ b, p1.ownBlock = some b → W1.heap.size ≤ b ∧ b < W2.heap.size) := Lib.hid (fun b h => World.ownsRow.lt hI2 b h)
  have p1_2 := Lib.hid hI2
  clear hI2
  go_wp2_with fail
  refine (specCount p0 p1 s0 s1 a2 W2 p0_2.out.rd HL0.out p1_2.out.rd HL1.out).mono ?_
  rw [HV.out]
  rintro e W3 ⟨rfl, hb3⟩
  have T3 : Hid (W2.heap.size ≤ W3.heap.size) := Lib.hid hb3.size
  have S3 : Hid (W0.heap.size ≤ W3.heap.size) := Lib.hid (Nat.le_trans S2.out T3.out)
  have B3 := Lib.hid (B2.out.trans (hb3.mono S2.out))
  clear B2
  clear p0_2
  clear p1_2
  clear hb3
  go_wp2_with fail
  refine (toIntS _ s0 W3 (R0.out.below B3.out) HL0.out).mono ?_
  rintro e W4 ⟨x0, rfl, hI4, hb4⟩
  have T4 : Hid (W3.heap.size ≤ W4.heap.size) := Lib.hid hb4.size
  have S4 : Hid (W0.heap.size ≤ W4.heap.size) := Lib.hid (Nat.le_trans S3.out T4.out)
  have B4 := Lib.hid (B3.out.trans (hb4.mono S3.out))
  clear B3
  clear hb4
  have LTx0 : Hid (∀ b, x0.ownBlock = some b → W3.heap.size ≤ b ∧ b < W4.heap.size) := Lib.hid (fun b h => World.ownsRow.lt hI4 b h)
  have x0_4 := Lib.hid hI4
  clear hI4
  go_wp2_with fail
  refine (toIntS _ s1 W4 (R1.out.below B4.out) HL1.out).mono ?_
  rintro e W5 ⟨x1, rfl, hI5, hb5⟩
  have T5 : Hid (W4.heap.size ≤ W5.heap.size) := Lib.hid hb5.size
  have S5 : Hid (W0.heap.size ≤ W5.heap.size) := Lib.hid (Nat.le_trans S4.out T5.out)
  have B5 := Lib.hid (B4.out.trans (hb5.mono S4.out))
  clear B4
  have x0_5 := Lib.hid (x0_4.out.below hb5)
  clear x0_4
  clear hb5
  have LTx1 : Hid (∀ b, x1.ownBlock = some b → W4.heap.size ≤ b ∧ b < W5.heap.size) := Lib.hid (fun b h => World.ownsRow.lt hI5 b h)
  have x1_5 := Lib.hid hI5
  clear hI5
  go_wp2_with fail
  refine (implCount x0 x1 s0 s1 a2 W5 x0_5.out.rd HL0.out x1_5.out.rd HL1.out).mono ?_
  rw [HV.out]
  rintro e W6 ⟨rfl, hb6⟩
  have T6 : Hid (W5.heap.size ≤ W6.heap.size) := Lib.hid hb6.size
  have S6 : Hid (W0.heap.size ≤ W6.heap.size) := Lib.hid (Nat.le_trans S5.out T6.out)
  have B6 := Lib.hid (B5.out.trans (hb6.mono S5.out))
  clear B5
  have x0_6 := Lib.hid (x0_5.out.below hb6)
  clear x0_5
  have x1_6 := Lib.hid (x1_5.out.below hb6)
  clear x1_5
  clear hb6
  go_wp2_with fail
  refine (toIntS _ s0 W6 (R0.out.below B6.out) HL0.out).mono ?_
  rintro e W7 ⟨y0, rfl, hI7, hb7⟩
  have T7 : Hid (W6.heap.size ≤ W7.heap.size) := Lib.hid hb7.size
  have S7 : Hid (W0.heap.size ≤ W7.heap.size) := Lib.hid (Nat.le_trans S6.out T7.out)
  have B7 := Lib.hid (B6.out.trans (hb7.mono S6.out))
  clear B6
  have x0_7 := Lib.hid (x0_6.out.below hb7)
  clear x0_6
  have x1_7 := Lib.hid (x1_6.out.below hb7)
  clear x1_6
  clear hb7
  have LTy0 : Hid (∀ b, y0.ownBlock = some b → W6.heap.size ≤ b ∧ b < W7.heap.size) := Lib.hid (fun b h => World.ownsRow.lt hI7 b h)
  have y0_7 := Lib.hid hI7
  clear hI7
  go_wp2_with fail
  refine (eqIntS_same x0 y0 s0 W7 x0_7.out.rd y0_7.out.rd (by have := HL0.out; omega)).mono ?_
  rintro e W8 ⟨rfl, hb8⟩
  have T8 : Hid (W7.heap.size ≤ W8.heap.size) := Lib.hid hb8.size
  have S8 : Hid (W0.heap.size ≤ W8.heap.size) := Lib.hid (Nat.le_trans S7.out T8.out)
  have B8 := Lib.hid (B7.out.trans (hb8.mono S7.out))
  clear B7
  have x0_8 := Lib.hid (x0_7.out.below hb8)
  clear x0_7
  have x1_8 := Lib.hid (x1_7.out.below hb8)
  clear x1_7
  clear y0_7
  clear hb8
  go_wp2_with fail
  refine (toIntS _ s1 W8 (R1.out.below B8.out) HL1.out).mono ?_
  rintro e W9 ⟨y1, rfl, hI9, hb9⟩
  have T9 : Hid (W8.heap.size ≤ W9.heap.size) := Lib.hid hb9.size
  have S9 : Hid (W0.heap.size ≤ W9.heap.size) := Lib.hid (Nat.le_trans S8.out T9.out)
  have B9 := Lib.hid (B8.out.trans (hb9.mono S8.out))
  clear B8
  have x0_9 := Lib.hid (x0_8.out.below hb9)
  clear x0_8
  have x1_9 := Lib.hid (x1_8.out.below hb9)
  clear x1_8
  clear hb9
  have LTy1 : Hid (∀ b, y1.ownBlock = some b → W8.heap.size ≤ b ∧ b < W9.heap.size) := Lib.hid (fun b h => World.ownsRow.lt hI9 b h)
  have y1_9 := Lib.hid hI9
  clear hI9
  go_wp2_with fail
  refine (eqIntS_same x1 y1 s1 W9 x1_9.out.rd y1_9.out.rd (by have := HL1.out; omega)).mono ?_
  rintro e W10 ⟨rfl, hb10⟩
  have T10 : Hid (W9.heap.size ≤ W10.heap.size) := Lib.hid hb10.size
  have S10 : Hid (W0.heap.size ≤ W10.heap.size) := Lib.hid (Nat.le_trans S9.out T10.out)
  have B10 := Lib.hid (B9.out.trans (hb10.mono S9.out))
  clear B9
  have x0_10 := Lib.hid (x0_9.out.below hb10)
  clear x0_9
  have x1_10 := Lib.hid (x1_9.out.below hb10)
  clear x1_9
  clear y1_9
  clear hb10
  go_wp2
  go_ret
  exact ⟨rfl, B10.out⟩

set_option maxRecDepth 100000 in
theorem lifted (os : Os) (started : os.Started) (H : Type) (enc : TypeId × Value → H) :
    ReturnsInHanded {} Try.checked os 8 .any (Rows.fnExactCountCoveringsSpec.pre6 enc Try.prog Try.f8 Rows.fnExactCountCoveringsRow.domain false) (Rows.fnExactCountCoveringsSpec.post enc Try.prog Try.f8 false true false false) := by
  refine returnsInHanded_of_change (C := Try.checked) own started (by kernel_rfl) Try.func8
    (ChangeSpec.witness6 (enc := enc) (C := Try.checked) false ⟨#[], #[.slice none 0 0, .slice none 0 0, .int .i64 0], []⟩ 8 (by kernel_rfl) (by kernel_rfl) (by kernel_rfl) (by kernel_rfl)) ?_
  intro W base args ds gs before hval0 hW hcnd _
  have hval : ∀ (j : Nat) t v, Try.f8.params[j]? = some t → args[j]? = some v → Value.okWide Try.prog W .any base t v := hval0
  have hW' := hW
  obtain ⟨p, q, hA0, hV, rfl, hfz, hnd⟩ := hW
  have hA : DataW.TrodAll enc Try.prog W 0 (fun _ => true) true Try.f8.params.toList args.toList ds p := hA0
  rw [Try.params8] at hA hval
  obtain ⟨v0, vs0, d0, ds0, p0, q0, hargs, rfl, rfl, h0, r0⟩ := trodAll_cons hA
  obtain ⟨v1, vs1, d1, ds1, p1, q1, rfl, rfl, rfl, h1, r1⟩ := trodAll_cons r0
  obtain ⟨v2, vs2, d2, ds2, p2, q2, rfl, rfl, rfl, h2, r2⟩ := trodAll_cons r1
  obtain ⟨rfl, rfl, rfl⟩ := trodAll_nil r2
  obtain rfl : args = #[v0, v1, v2] := by cases args; simp_all
  obtain ⟨rfl, rfl⟩ := trodVars_none hV
  obtain ⟨a0, len0, cap0, rfl⟩ := okWide_slice Try.underlying22 (hval 0 22 v0 rfl rfl)
  have k0 := h0
  have lt0 : ∀ x ∈ p0, x.block < W.heap.size := by obtain ⟨m, hm⟩ := k0; exact DataW.trod_lt m _ _ _ hm
  obtain ⟨z0, w0⟩ : ∃ zs, IsRow .i64 W a0 len0 cap0 zs := by
    obtain ⟨fuel, hf⟩ := h0
    rcases open_ints Try.underlying22 Try.underlying3 (by kernel_rfl) hf with ⟨hcs, _⟩ | ⟨x, l, c, zs, hcs, _, hl, hm, hz, _, hcell, hwz⟩
    · simp [Value.cells] at hcs
      obtain ⟨rfl, rfl, rfl⟩ := hcs
      exact ⟨[], .inl ⟨rfl, rfl, rfl, rfl⟩⟩
    · simp [Value.cells] at hcs
      obtain ⟨rfl, rfl, rfl⟩ := hcs
      exact ⟨zs, .inr ⟨_, rfl, hl, hm, by simpa using hz, hcell, hwz⟩⟩
  obtain ⟨a1, len1, cap1, rfl⟩ := okWide_slice Try.underlying22 (hval 1 22 v1 rfl rfl)
  have k1 := h1
  have lt1 : ∀ x ∈ p1, x.block < W.heap.size := by obtain ⟨m, hm⟩ := k1; exact DataW.trod_lt m _ _ _ hm
  obtain ⟨z1, w1⟩ : ∃ zs, IsRow .i64 W a1 len1 cap1 zs := by
    obtain ⟨fuel, hf⟩ := h1
    rcases open_ints Try.underlying22 Try.underlying3 (by kernel_rfl) hf with ⟨hcs, _⟩ | ⟨x, l, c, zs, hcs, _, hl, hm, hz, _, hcell, hwz⟩
    · simp [Value.cells] at hcs
      obtain ⟨rfl, rfl, rfl⟩ := hcs
      exact ⟨[], .inl ⟨rfl, rfl, rfl, rfl⟩⟩
    · simp [Value.cells] at hcs
      obtain ⟨rfl, rfl, rfl⟩ := hcs
      exact ⟨zs, .inr ⟨_, rfl, hl, hm, by simpa using hz, hcell, hwz⟩⟩
  obtain ⟨a2, rfl, rfl, rfl, w2⟩ := open_int Try.underlying3 (hval 2 3 v2 rfl rfl) h2
  clear hA0 hval0
  refine (walk a0 len0 cap0 z0 a1 len1 cap1 z1 a2 w2 W w0 w1).mono fun e W' ⟨he, bel⟩ => ?_
  subst he
  exact ⟨_, rfl, _, _, _, [], _, [], hW', trodAll_mk1 (shut_bool Try.underlying4 _), (trodAll_cons_mk (Below.trod laidOut (by kernel_rfl) (of_decide_eq_true (by kernel_rfl)) k0 bel lt0) (trodAll_cons_mk (Below.trod laidOut (by kernel_rfl) (of_decide_eq_true (by kernel_rfl)) k1 bel lt1) (trodAll_cons_mk (shut_int Try.underlying3 w2) trodAll_mk0))), rfl, bel.frame _, fun h => by cases h⟩

theorem over : Rows.fnExactCountCoveringsRow.holds Try.pinned (OpenSpec.ofChange Rows.fnExactCountCoveringsSpec) :=
  OpenClaim.holds_of_wide 8 Try.f8 rfl rfl rfl rfl rfl rfl rfl ⟨rfl, rfl, rfl, rfl, rfl⟩ rfl rfl rfl rfl rfl (by kernel_rfl) Try.func8 (by kernel_rfl)
    (of_decide_eq_true (by kernel_rfl)) (by unfold Func.isWrapper; first | (rw [if_pos (by decide +kernel)]; kernel_rfl) | (rw [if_neg (by decide +kernel)]; exact ⟨rfl, rfl⟩))
    (fun os started H enc _ => lifted os started H enc)

theorem proved : Rows.FnExactCountCoveringsSaid := over
#print axioms proved
end Go.Proofs.Ytimbpfenpbkckab.fnExactCountCoveringsDone
