/- FnExactIsTideWay: for every input the law returns true; each argument reads behind the call as it read before. No condition. -/
import Derived.Test.YtmlokapbholeoacTw
import Derived.Test.YtmlokapbholeoacRows
import Derived.WalkKit
import Derived.ProofKit
import Derived.OpenShut
import Derived.ShutString
import Derived.ChangeOld
import Derived.Below
import Derived.WalkSpells
import Derived.WalkLawsBesides
import Derived.Lib.Hide
namespace Go.Proofs.Ytmlokapbholeoac.fnExactIsTideWayDone
open Go.ChangeShapes Go.WideShapes Go.ChangeAt Go.RowKit
open Go.ChangeMaps (open_string shut_string)
set_option linter.unusedVariables false

theorem own : ownKnob Try.prog.godebug = none := by kernel_rfl
theorem laidOut : laidOutB Try.prog = true := by kernel_rfl

set_option maxHeartbeats 4000000 in
theorem walk (a0 : ByteArray) (a1 : ByteArray) (a2 : Int) (a3 : Int) (a4 : Option Addr) (len4 cap4 : Nat) (z4 : List Int) (w0 : a0.size ≤ maxLen) (w1 : a1.size ≤ maxLen) (w2 : (Lit.int .i64 a2).wf = true) (w3 : (Lit.int .i64 a3).wf = true) (W0 : World) (w4 : IsRow .i64 W0 a4 len4 cap4 z4) :
    Calls Try.prog 6 #[.string a0, .string a1, .int .i64 a2, .int .i64 a3, .slice a4 len4 cap4] W0 fun e w' => e = .returned (.bool true) ∧ Below W0.heap.size W0 w' := by
  unfold maxLen at w0 w1
  have i2 : -9223372036854775808 ≤ a2 ∧ a2 ≤ 9223372036854775807 := by simpa [Lit.wf, IntKind.min, IntKind.max, IntKind.signed, IntKind.bits] using w2
  clear w2
  have i3 : -9223372036854775808 ≤ a3 ∧ a3 ≤ 9223372036854775807 := by simpa [Lit.wf, IntKind.min, IntKind.max, IntKind.signed, IntKind.bits] using w3
  clear w3
  by_cases hb0 : 1048576 < a0.size
  · go_enter Try.func6, Try.ntmps6
    go_wp2
    go_ret
    exact ⟨rfl, Below.refl _ _⟩
  by_cases hb1 : 1048576 < a1.size
  · go_enter Try.func6, Try.ntmps6
    go_wp2
    go_ret
    exact ⟨rfl, Below.refl _ _⟩
  obtain ⟨hr4, hl4, hbd4⟩ := w4.rd
  have HW4 := Lib.hid w4
  clear w4
  have hcm4 : len4 ≤ 9223372036854775807 := by
    rcases HW4.out with ⟨rfl, rfl, rfl, rfl⟩ | ⟨x, rfl, h1, h2, _⟩
    · omega
    · unfold maxLen at h2; omega
  by_cases hbl4 : 1048576 < len4
  · go_enter Try.func6, Try.ntmps6
    go_wp2
    go_ret
    exact ⟨rfl, Below.refl _ _⟩
  generalize z4.take len4 = s4 at *
  have hgt4 : ∀ j, -9223372036854775808 ≤ gt s4 j ∧ gt s4 j ≤ 9223372036854775807 := gt_bound hbd4
  have hln4 : s4.length ≤ 1048576 := by omega
  have HG4 := Lib.hid hgt4
  have HL4 := Lib.hid hln4
  have R4 := Lib.hid hr4
  clear hbd4 hgt4 hl4 hln4 hr4
  obtain ⟨x, y, hv0⟩ := itwV_form a0 a1 a2 a3 s4
  have HV := Lib.hid hv0
  clear hv0
  go_enter Try.func6, Try.ntmps6
  have B0 := Lib.hid (Below.refl W0.heap.size W0)
  have S0 : Hid (W0.heap.size ≤ W0.heap.size) := Lib.hid (Nat.le_refl _)
  go_wp2_with fail
  refine (toIntS _ s4 W0 (R4.out.below B0.out) HL4.out).mono ?_
  rintro e W1 ⟨p4, rfl, hI1, hb1⟩
  have T1 : Hid (W0.heap.size ≤ W1.heap.size) := Lib.hid hb1.size
  have S1 : Hid (W0.heap.size ≤ W1.heap.size) := Lib.hid (Nat.le_trans S0.out T1.out)
  have B1 := Lib.hid (B0.out.trans (hb1.mono S0.out))
  clear B0
  clear hb1
  have LTp4 : Hid (∀ b, p4.ownBlock = some b → W0.heap.size ≤ b ∧ b < W1.heap.size) := Lib.hid (fun b h => World.ownsRow.lt hI1 b h)
  have p4_1 := Lib.hid hI1
  clear hI1
  go_wp2_with fail
  refine (specItw a0 a1 a2 a3 p4 s4 W1 (by omega) p4_1.out.rd HL4.out).mono ?_
  rw [HV.out]
  rintro e W2 ⟨rfl, hb2⟩
  have T2 : Hid (W1.heap.size ≤ W2.heap.size) := Lib.hid hb2.size
  have S2 : Hid (W0.heap.size ≤ W2.heap.size) := Lib.hid (Nat.le_trans S1.out T2.out)
  have B2 := Lib.hid (B1.out.trans (hb2.mono S1.out))
  clear B1
  clear p4_1
  clear hb2
  go_wp2_with fail
  refine (toIntS _ s4 W2 (R4.out.below B2.out) HL4.out).mono ?_
  rintro e W3 ⟨x4, rfl, hI3, hb3⟩
  have T3 : Hid (W2.heap.size ≤ W3.heap.size) := Lib.hid hb3.size
  have S3 : Hid (W0.heap.size ≤ W3.heap.size) := Lib.hid (Nat.le_trans S2.out T3.out)
  have B3 := Lib.hid (B2.out.trans (hb3.mono S2.out))
  clear B2
  clear hb3
  have LTx4 : Hid (∀ b, x4.ownBlock = some b → W2.heap.size ≤ b ∧ b < W3.heap.size) := Lib.hid (fun b h => World.ownsRow.lt hI3 b h)
  have x4_3 := Lib.hid hI3
  clear hI3
  go_wp2_with fail
  refine (implItw a0 a1 a2 a3 x4 s4 W3 (by omega) x4_3.out.rd HL4.out).mono ?_
  rw [HV.out]
  rintro e W4 ⟨rfl, hb4⟩
  have T4 : Hid (W3.heap.size ≤ W4.heap.size) := Lib.hid hb4.size
  have S4 : Hid (W0.heap.size ≤ W4.heap.size) := Lib.hid (Nat.le_trans S3.out T4.out)
  have B4 := Lib.hid (B3.out.trans (hb4.mono S3.out))
  clear B3
  have x4_4 := Lib.hid (x4_3.out.below hb4)
  clear x4_3
  clear hb4
  go_wp2_with fail
  refine (toIntS _ s4 W4 (R4.out.below B4.out) HL4.out).mono ?_
  rintro e W5 ⟨y4, rfl, hI5, hb5⟩
  have T5 : Hid (W4.heap.size ≤ W5.heap.size) := Lib.hid hb5.size
  have S5 : Hid (W0.heap.size ≤ W5.heap.size) := Lib.hid (Nat.le_trans S4.out T5.out)
  have B5 := Lib.hid (B4.out.trans (hb5.mono S4.out))
  clear B4
  have x4_5 := Lib.hid (x4_4.out.below hb5)
  clear x4_4
  clear hb5
  have LTy4 : Hid (∀ b, y4.ownBlock = some b → W4.heap.size ≤ b ∧ b < W5.heap.size) := Lib.hid (fun b h => World.ownsRow.lt hI5 b h)
  have y4_5 := Lib.hid hI5
  clear hI5
  go_wp2_with fail
  refine (eqIntS_same x4 y4 s4 W5 x4_5.out.rd y4_5.out.rd (by have := HL4.out; omega)).mono ?_
  rintro e W6 ⟨rfl, hb6⟩
  have T6 : Hid (W5.heap.size ≤ W6.heap.size) := Lib.hid hb6.size
  have S6 : Hid (W0.heap.size ≤ W6.heap.size) := Lib.hid (Nat.le_trans S5.out T6.out)
  have B6 := Lib.hid (B5.out.trans (hb6.mono S5.out))
  clear B5
  have x4_6 := Lib.hid (x4_5.out.below hb6)
  clear x4_5
  clear y4_5
  clear hb6
  go_wp2
  go_ret
  exact ⟨rfl, B6.out⟩

set_option maxRecDepth 100000 in
theorem lifted (os : Os) (started : os.Started) (H : Type) (enc : TypeId × Value → H) :
    ReturnsInHanded {} Try.checked os 6 .any (Rows.fnExactIsTideWaySpec.pre6 enc Try.prog Try.f6 Rows.fnExactIsTideWayRow.domain false) (Rows.fnExactIsTideWaySpec.post enc Try.prog Try.f6 false true false false) := by
  refine returnsInHanded_of_change (C := Try.checked) own started (by kernel_rfl) Try.func6
    (ChangeSpec.witness6 (enc := enc) (C := Try.checked) false ⟨#[], #[.string ByteArray.empty, .string ByteArray.empty, .int .i64 0, .int .i64 0, .slice none 0 0], []⟩ 8 (by kernel_rfl) (by kernel_rfl) (by kernel_rfl) (by kernel_rfl)) ?_
  intro W base args ds gs before hval0 hW hcnd _
  have hval : ∀ (j : Nat) t v, Try.f6.params[j]? = some t → args[j]? = some v → Value.okWide Try.prog W .any base t v := hval0
  have hW' := hW
  obtain ⟨p, q, hA0, hV, rfl, hfz, hnd⟩ := hW
  have hA : DataW.TrodAll enc Try.prog W 0 (fun _ => true) true Try.f6.params.toList args.toList ds p := hA0
  rw [Try.params6] at hA hval
  obtain ⟨v0, vs0, d0, ds0, p0, q0, hargs, rfl, rfl, h0, r0⟩ := trodAll_cons hA
  obtain ⟨v1, vs1, d1, ds1, p1, q1, rfl, rfl, rfl, h1, r1⟩ := trodAll_cons r0
  obtain ⟨v2, vs2, d2, ds2, p2, q2, rfl, rfl, rfl, h2, r2⟩ := trodAll_cons r1
  obtain ⟨v3, vs3, d3, ds3, p3, q3, rfl, rfl, rfl, h3, r3⟩ := trodAll_cons r2
  obtain ⟨v4, vs4, d4, ds4, p4, q4, rfl, rfl, rfl, h4, r4⟩ := trodAll_cons r3
  obtain ⟨rfl, rfl, rfl⟩ := trodAll_nil r4
  obtain rfl : args = #[v0, v1, v2, v3, v4] := by cases args; simp_all
  obtain ⟨rfl, rfl⟩ := trodVars_none hV
  obtain ⟨a0, rfl, rfl, rfl, w0⟩ := open_string Try.underlying9 (hval 0 9 v0 rfl rfl) h0
  obtain ⟨a1, rfl, rfl, rfl, w1⟩ := open_string Try.underlying9 (hval 1 9 v1 rfl rfl) h1
  obtain ⟨a2, rfl, rfl, rfl, w2⟩ := open_int Try.underlying3 (hval 2 3 v2 rfl rfl) h2
  obtain ⟨a3, rfl, rfl, rfl, w3⟩ := open_int Try.underlying3 (hval 3 3 v3 rfl rfl) h3
  obtain ⟨a4, len4, cap4, rfl⟩ := okWide_slice Try.underlying29 (hval 4 29 v4 rfl rfl)
  have k4 := h4
  have lt4 : ∀ x ∈ p4, x.block < W.heap.size := by obtain ⟨m, hm⟩ := k4; exact DataW.trod_lt m _ _ _ hm
  obtain ⟨z4, w4⟩ : ∃ zs, IsRow .i64 W a4 len4 cap4 zs := by
    obtain ⟨fuel, hf⟩ := h4
    rcases open_ints Try.underlying29 Try.underlying3 (by kernel_rfl) hf with ⟨hcs, _⟩ | ⟨x, l, c, zs, hcs, _, hl, hm, hz, _, hcell, hwz⟩
    · simp [Value.cells] at hcs
      obtain ⟨rfl, rfl, rfl⟩ := hcs
      exact ⟨[], .inl ⟨rfl, rfl, rfl, rfl⟩⟩
    · simp [Value.cells] at hcs
      obtain ⟨rfl, rfl, rfl⟩ := hcs
      exact ⟨zs, .inr ⟨_, rfl, hl, hm, by simpa using hz, hcell, hwz⟩⟩
  clear hA0 hval0
  refine (walk a0 a1 a2 a3 a4 len4 cap4 z4 w0 w1 w2 w3 W w4).mono fun e W' ⟨he, bel⟩ => ?_
  subst he
  exact ⟨_, rfl, _, _, _, [], _, [], hW', trodAll_mk1 (shut_bool Try.underlying4 _), (trodAll_cons_mk (shut_string Try.underlying9 w0) (trodAll_cons_mk (shut_string Try.underlying9 w1) (trodAll_cons_mk (shut_int Try.underlying3 w2) (trodAll_cons_mk (shut_int Try.underlying3 w3) (trodAll_cons_mk (Below.trod laidOut (by kernel_rfl) (of_decide_eq_true (by kernel_rfl)) k4 bel lt4) trodAll_mk0))))), rfl, bel.frame _, fun h => by cases h⟩

theorem over : Rows.fnExactIsTideWayRow.holds Try.pinned (OpenSpec.ofChange Rows.fnExactIsTideWaySpec) :=
  OpenClaim.holds_of_wide 6 Try.f6 rfl rfl rfl rfl rfl rfl rfl ⟨rfl, rfl, rfl, rfl, rfl⟩ rfl rfl rfl rfl rfl (by kernel_rfl) Try.func6 (by kernel_rfl)
    (of_decide_eq_true (by kernel_rfl)) (by unfold Func.isWrapper; first | (rw [if_pos (by decide +kernel)]; kernel_rfl) | (rw [if_neg (by decide +kernel)]; exact ⟨rfl, rfl⟩))
    (fun os started H enc _ => lifted os started H enc)

theorem proved : Rows.FnExactIsTideWaySaid := over
#print axioms proved
end Go.Proofs.Ytmlokapbholeoac.fnExactIsTideWayDone
