/- FnExactCanPlankRiver: for every input the law returns true; each argument reads behind the call as it read before. No condition. -/
import Derived.Test.YtimbpfenpbkckabCr
import Derived.Test.YtimbpfenpbkckabRows
import Derived.WalkKit
import Derived.ProofKit
import Derived.OpenShut
import Derived.ShutString
import Derived.ChangeOld
import Derived.Below
import Derived.WalkSpells
import Derived.WalkLawsBesides
import Derived.Lib.Hide
namespace Go.Proofs.Ytimbpfenpbkckab.fnExactCanPlankRiverDone
open Go.ChangeShapes Go.WideShapes Go.ChangeAt Go.RowKit
open Go.ChangeMaps (open_string shut_string)
set_option linter.unusedVariables false

theorem own : ownKnob Try.prog.godebug = none := by kernel_rfl
theorem laidOut : laidOutB Try.prog = true := by kernel_rfl

set_option maxHeartbeats 4000000 in
theorem walk (a0 : ByteArray) (a1 : Int) (a2 : Option Addr) (len2 cap2 : Nat) (z2 : List Int) (a3 : Int) (w0 : a0.size ≤ maxLen) (w1 : (Lit.int .i64 a1).wf = true) (w3 : (Lit.int .i64 a3).wf = true) (W0 : World) (w2 : IsRow .i64 W0 a2 len2 cap2 z2) :
    Calls Try.prog 10 #[.string a0, .int .i64 a1, .slice a2 len2 cap2, .int .i64 a3] W0 fun e w' => e = .returned (.bool true) ∧ Below W0.heap.size W0 w' := by
  unfold maxLen at w0
  have i1 : -9223372036854775808 ≤ a1 ∧ a1 ≤ 9223372036854775807 := by simpa [Lit.wf, IntKind.min, IntKind.max, IntKind.signed, IntKind.bits] using w1
  clear w1
  have i3 : -9223372036854775808 ≤ a3 ∧ a3 ≤ 9223372036854775807 := by simpa [Lit.wf, IntKind.min, IntKind.max, IntKind.signed, IntKind.bits] using w3
  clear w3
  by_cases hb0 : 1048576 < a0.size
  · go_enter Try.func10, Try.ntmps10
    go_wp2
    go_ret
    exact ⟨rfl, Below.refl _ _⟩
  obtain ⟨hr2, hl2, hbd2⟩ := w2.rd
  have HW2 := Lib.hid w2
  clear w2
  have hcm2 : len2 ≤ 9223372036854775807 := by
    rcases HW2.out with ⟨rfl, rfl, rfl, rfl⟩ | ⟨x, rfl, h1, h2, _⟩
    · omega
    · unfold maxLen at h2; omega
  by_cases hbl2 : 1048576 < len2
  · go_enter Try.func10, Try.ntmps10
    go_wp2
    go_ret
    exact ⟨rfl, Below.refl _ _⟩
  generalize z2.take len2 = s2 at *
  have hgt2 : ∀ j, -9223372036854775808 ≤ gt s2 j ∧ gt s2 j ≤ 9223372036854775807 := gt_bound hbd2
  have hln2 : s2.length ≤ 1048576 := by omega
  have HG2 := Lib.hid hgt2
  have HL2 := Lib.hid hln2
  have R2 := Lib.hid hr2
  clear hbd2 hgt2 hl2 hln2 hr2
  obtain ⟨x, y, hv0⟩ := canRV_form a0 a1 s2 a3
  have HV := Lib.hid hv0
  clear hv0
  go_enter Try.func10, Try.ntmps10
  have B0 := Lib.hid (Below.refl W0.heap.size W0)
  have S0 : Hid (W0.heap.size ≤ W0.heap.size) := Lib.hid (Nat.le_refl _)
  go_wp2_with fail
  refine (toIntS _ s2 W0 (R2.out.below B0.out) HL2.out).mono ?_
  rintro e W1 ⟨p2, rfl, hI1, hb1⟩
  have T1 : Hid (W0.heap.size ≤ W1.heap.size) := Lib.hid hb1.size
  have S1 : Hid (W0.heap.size ≤ W1.heap.size) := Lib.hid (Nat.le_trans S0.out T1.out)
  have B1 := Lib.hid (B0.out.trans (hb1.mono S0.out))
  clear B0
  clear hb1
  have LTp2 : Hid (∀ b, p2.ownBlock = some b → W0.heap.size ≤ b ∧ b < W1.heap.size) := Lib.hid (fun b h => World.ownsRow.lt hI1 b h)
  have p2_1 := Lib.hid hI1
  clear hI1
  go_wp2_with fail
  refine (specCanR a0 a1 p2 s2 a3 W1 (by omega) p2_1.out.rd HL2.out).mono ?_
  rw [HV.out]
  rintro e W2 ⟨rfl, hb2⟩
  have T2 : Hid (W1.heap.size ≤ W2.heap.size) := Lib.hid hb2.size
  have S2 : Hid (W0.heap.size ≤ W2.heap.size) := Lib.hid (Nat.le_trans S1.out T2.out)
  have B2 := Lib.hid (B1.out.trans (hb2.mono S1.out))
  clear B1
  clear p2_1
  clear hb2
  go_wp2_with fail
  refine (toIntS _ s2 W2 (R2.out.below B2.out) HL2.out).mono ?_
  rintro e W3 ⟨x2, rfl, hI3, hb3⟩
  have T3 : Hid (W2.heap.size ≤ W3.heap.size) := Lib.hid hb3.size
  have S3 : Hid (W0.heap.size ≤ W3.heap.size) := Lib.hid (Nat.le_trans S2.out T3.out)
  have B3 := Lib.hid (B2.out.trans (hb3.mono S2.out))
  clear B2
  clear hb3
  have LTx2 : Hid (∀ b, x2.ownBlock = some b → W2.heap.size ≤ b ∧ b < W3.heap.size) := Lib.hid (fun b h => World.ownsRow.lt hI3 b h)
  have x2_3 := Lib.hid hI3
  clear hI3
  go_wp2_with fail
  refine (implCanR a0 a1 x2 s2 a3 W3 (by omega) x2_3.out.rd HL2.out).mono ?_
  rw [HV.out]
  rintro e W4 ⟨rfl, hb4⟩
  have T4 : Hid (W3.heap.size ≤ W4.heap.size) := Lib.hid hb4.size
  have S4 : Hid (W0.heap.size ≤ W4.heap.size) := Lib.hid (Nat.le_trans S3.out T4.out)
  have B4 := Lib.hid (B3.out.trans (hb4.mono S3.out))
  clear B3
  have x2_4 := Lib.hid (x2_3.out.below hb4)
  clear x2_3
  clear hb4
  go_wp2_with fail
  refine (toIntS _ s2 W4 (R2.out.below B4.out) HL2.out).mono ?_
  rintro e W5 ⟨y2, rfl, hI5, hb5⟩
  have T5 : Hid (W4.heap.size ≤ W5.heap.size) := Lib.hid hb5.size
  have S5 : Hid (W0.heap.size ≤ W5.heap.size) := Lib.hid (Nat.le_trans S4.out T5.out)
  have B5 := Lib.hid (B4.out.trans (hb5.mono S4.out))
  clear B4
  have x2_5 := Lib.hid (x2_4.out.below hb5)
  clear x2_4
  clear hb5
  have LTy2 : Hid (∀ b, y2.ownBlock = some b → W4.heap.size ≤ b ∧ b < W5.heap.size) := Lib.hid (fun b h => World.ownsRow.lt hI5 b h)
  have y2_5 := Lib.hid hI5
  clear hI5
  go_wp2_with fail
  refine (eqIntS_same x2 y2 s2 W5 x2_5.out.rd y2_5.out.rd (by have := HL2.out; omega)).mono ?_
  rintro e W6 ⟨rfl, hb6⟩
  have T6 : Hid (W5.heap.size ≤ W6.heap.size) := Lib.hid hb6.size
  have S6 : Hid (W0.heap.size ≤ W6.heap.size) := Lib.hid (Nat.le_trans S5.out T6.out)
  have B6 := Lib.hid (B5.out.trans (hb6.mono S5.out))
  clear B5
  have x2_6 := Lib.hid (x2_5.out.below hb6)
  clear x2_5
  clear y2_5
  clear hb6
  go_wp2
  go_ret
  exact ⟨rfl, B6.out⟩

set_option maxRecDepth 100000 in
theorem lifted (os : Os) (started : os.Started) (H : Type) (enc : TypeId × Value → H) :
    ReturnsInHanded {} Try.checked os 10 .any (Rows.fnExactCanPlankRiverSpec.pre6 enc Try.prog Try.f10 Rows.fnExactCanPlankRiverRow.domain false) (Rows.fnExactCanPlankRiverSpec.post enc Try.prog Try.f10 false true false false) := by
  refine returnsInHanded_of_change (C := Try.checked) own started (by kernel_rfl) Try.func10
    (ChangeSpec.witness6 (enc := enc) (C := Try.checked) false ⟨#[], #[.string ByteArray.empty, .int .i64 0, .slice none 0 0, .int .i64 0], []⟩ 8 (by kernel_rfl) (by kernel_rfl) (by kernel_rfl) (by kernel_rfl)) ?_
  intro W base args ds gs before hval0 hW hcnd _
  have hval : ∀ (j : Nat) t v, Try.f10.params[j]? = some t → args[j]? = some v → Value.okWide Try.prog W .any base t v := hval0
  have hW' := hW
  obtain ⟨p, q, hA0, hV, rfl, hfz, hnd⟩ := hW
  have hA : DataW.TrodAll enc Try.prog W 0 (fun _ => true) true Try.f10.params.toList args.toList ds p := hA0
  rw [Try.params10] at hA hval
  obtain ⟨v0, vs0, d0, ds0, p0, q0, hargs, rfl, rfl, h0, r0⟩ := trodAll_cons hA
  obtain ⟨v1, vs1, d1, ds1, p1, q1, rfl, rfl, rfl, h1, r1⟩ := trodAll_cons r0
  obtain ⟨v2, vs2, d2, ds2, p2, q2, rfl, rfl, rfl, h2, r2⟩ := trodAll_cons r1
  obtain ⟨v3, vs3, d3, ds3, p3, q3, rfl, rfl, rfl, h3, r3⟩ := trodAll_cons r2
  obtain ⟨rfl, rfl, rfl⟩ := trodAll_nil r3
  obtain rfl : args = #[v0, v1, v2, v3] := by cases args; simp_all
  obtain ⟨rfl, rfl⟩ := trodVars_none hV
  obtain ⟨a0, rfl, rfl, rfl, w0⟩ := open_string Try.underlying9 (hval 0 9 v0 rfl rfl) h0
  obtain ⟨a1, rfl, rfl, rfl, w1⟩ := open_int Try.underlying3 (hval 1 3 v1 rfl rfl) h1
  obtain ⟨a2, len2, cap2, rfl⟩ := okWide_slice Try.underlying22 (hval 2 22 v2 rfl rfl)
  have k2 := h2
  have lt2 : ∀ x ∈ p2, x.block < W.heap.size := by obtain ⟨m, hm⟩ := k2; exact DataW.trod_lt m _ _ _ hm
  obtain ⟨z2, w2⟩ : ∃ zs, IsRow .i64 W a2 len2 cap2 zs := by
    obtain ⟨fuel, hf⟩ := h2
    rcases open_ints Try.underlying22 Try.underlying3 (by kernel_rfl) hf with ⟨hcs, _⟩ | ⟨x, l, c, zs, hcs, _, hl, hm, hz, _, hcell, hwz⟩
    · simp [Value.cells] at hcs
      obtain ⟨rfl, rfl, rfl⟩ := hcs
      exact ⟨[], .inl ⟨rfl, rfl, rfl, rfl⟩⟩
    · simp [Value.cells] at hcs
      obtain ⟨rfl, rfl, rfl⟩ := hcs
      exact ⟨zs, .inr ⟨_, rfl, hl, hm, by simpa using hz, hcell, hwz⟩⟩
  obtain ⟨a3, rfl, rfl, rfl, w3⟩ := open_int Try.underlying3 (hval 3 3 v3 rfl rfl) h3
  clear hA0 hval0
  refine (walk a0 a1 a2 len2 cap2 z2 a3 w0 w1 w3 W w2).mono fun e W' ⟨he, bel⟩ => ?_
  subst he
  exact ⟨_, rfl, _, _, _, [], _, [], hW', trodAll_mk1 (shut_bool Try.underlying4 _), (trodAll_cons_mk (shut_string Try.underlying9 w0) (trodAll_cons_mk (shut_int Try.underlying3 w1) (trodAll_cons_mk (Below.trod laidOut (by kernel_rfl) (of_decide_eq_true (by kernel_rfl)) k2 bel lt2) (trodAll_cons_mk (shut_int Try.underlying3 w3) trodAll_mk0)))), rfl, bel.frame _, fun h => by cases h⟩

theorem over : Rows.fnExactCanPlankRiverRow.holds Try.pinned (OpenSpec.ofChange Rows.fnExactCanPlankRiverSpec) :=
  OpenClaim.holds_of_wide 10 Try.f10 rfl rfl rfl rfl rfl rfl rfl ⟨rfl, rfl, rfl, rfl, rfl⟩ rfl rfl rfl rfl rfl (by kernel_rfl) Try.func10 (by kernel_rfl)
    (of_decide_eq_true (by kernel_rfl)) (by unfold Func.isWrapper; first | (rw [if_pos (by decide +kernel)]; kernel_rfl) | (rw [if_neg (by decide +kernel)]; exact ⟨rfl, rfl⟩))
    (fun os started H enc _ => lifted os started H enc)

theorem proved : Rows.FnExactCanPlankRiverSaid := over
#print axioms proved
end Go.Proofs.Ytimbpfenpbkckab.fnExactCanPlankRiverDone
