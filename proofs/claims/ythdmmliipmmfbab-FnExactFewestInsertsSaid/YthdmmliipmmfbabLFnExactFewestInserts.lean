/- FnExactFewestInserts: for every input the law returns true; each argument reads behind the call as it read before. No condition. -/
import Derived.Test.YthdmmliipmmfbabRi4
import Derived.Test.YthdmmliipmmfbabRows
import Derived.WalkKit
import Derived.ProofKit
import Derived.OpenShut
import Derived.ShutString
import Derived.ChangeOld
import Derived.Below
import Derived.WalkSpells
import Derived.WalkLawsBesides
import Derived.Lib.Hide
namespace Go.Proofs.Ythdmmliipmmfbab.fnExactFewestInsertsDone
open Go.ChangeShapes Go.WideShapes Go.ChangeAt Go.RowKit
open Go.ChangeMaps (open_string shut_string)
set_option linter.unusedVariables false

theorem own : ownKnob Try.prog.godebug = none := by kernel_rfl
theorem laidOut : laidOutB Try.prog = true := by kernel_rfl

set_option maxHeartbeats 4000000 in
theorem walk (a0 : Option Addr) (len0 cap0 : Nat) (z0 : List Int)  (W0 : World) (w0 : IsRow .i64 W0 a0 len0 cap0 z0) :
    Calls Try.prog 9 #[.slice a0 len0 cap0] W0 fun e w' => e = .returned (.bool true) ∧ Below W0.heap.size W0 w' := by
  obtain ⟨hr0, hl0, hbd0⟩ := w0.rd
  have HW0 := Lib.hid w0
  clear w0
  have hcm0 : len0 ≤ 9223372036854775807 := by
    rcases HW0.out with ⟨rfl, rfl, rfl, rfl⟩ | ⟨x, rfl, h1, h2, _⟩
    · omega
    · unfold maxLen at h2; omega
  by_cases hbl0 : 1048576 < len0
  · go_enter Try.func9, Try.ntmps9
    go_wp2
    go_ret
    exact ⟨rfl, Below.refl _ _⟩
  generalize z0.take len0 = s0 at *
  have hgt0 : ∀ j, -9223372036854775808 ≤ gt s0 j ∧ gt s0 j ≤ 9223372036854775807 := gt_bound hbd0
  have hln0 : s0.length ≤ 1048576 := by omega
  have HG0 := Lib.hid hgt0
  have HL0 := Lib.hid hln0
  have R0 := Lib.hid hr0
  clear hbd0 hgt0 hl0 hln0 hr0
  obtain ⟨x, y, hv0⟩ := ansV_form (isOrd s0) ((s0.length : Int) - ((RS s0 0 0).length : Int))
  have HV := Lib.hid hv0
  clear hv0
  go_enter Try.func9, Try.ntmps9
  have B0 := Lib.hid (Below.refl W0.heap.size W0)
  have S0 : Hid (W0.heap.size ≤ W0.heap.size) := Lib.hid (Nat.le_refl _)
  go_wp2_with fail
  refine (toIntS _ s0 W0 (R0.out.below B0.out) HL0.out).mono ?_
  rintro e W1 ⟨p0, rfl, hI1, hb1⟩
  have T1 : Hid (W0.heap.size ≤ W1.heap.size) := Lib.hid hb1.size
  have S1 : Hid (W0.heap.size ≤ W1.heap.size) := Lib.hid (Nat.le_trans S0.out T1.out)
  have B1 := Lib.hid (B0.out.trans (hb1.mono S0.out))
  clear B0
  clear hb1
  have LTp0 : Hid (∀ b, p0.ownBlock = some b → W0.heap.size ≤ b ∧ b < W1.heap.size) := Lib.hid (fun b h => World.ownsRow.lt hI1 b h)
  have p0_1 := Lib.hid hI1
  clear hI1
  go_wp2_with fail
  refine (specFi p0 s0 W1 p0_1.out.rd HL0.out).mono ?_
  rw [HV.out]
  rintro e W2 ⟨rfl, hb2⟩
  have T2 : Hid (W1.heap.size ≤ W2.heap.size) := Lib.hid hb2.size
  have S2 : Hid (W0.heap.size ≤ W2.heap.size) := Lib.hid (Nat.le_trans S1.out T2.out)
  have B2 := Lib.hid (B1.out.trans (hb2.mono S1.out))
  clear B1
  clear p0_1
  clear hb2
  go_wp2_with fail
  refine (toIntS _ s0 W2 (R0.out.below B2.out) HL0.out).mono ?_
  rintro e W3 ⟨x0, rfl, hI3, hb3⟩
  have T3 : Hid (W2.heap.size ≤ W3.heap.size) := Lib.hid hb3.size
  have S3 : Hid (W0.heap.size ≤ W3.heap.size) := Lib.hid (Nat.le_trans S2.out T3.out)
  have B3 := Lib.hid (B2.out.trans (hb3.mono S2.out))
  clear B2
  clear hb3
  have LTx0 : Hid (∀ b, x0.ownBlock = some b → W2.heap.size ≤ b ∧ b < W3.heap.size) := Lib.hid (fun b h => World.ownsRow.lt hI3 b h)
  have x0_3 := Lib.hid hI3
  clear hI3
  go_wp2_with fail
  refine (implFi x0 s0 W3 x0_3.out.rd HL0.out).mono ?_
  rw [HV.out]
  rintro e W4 ⟨rfl, hb4⟩
  have T4 : Hid (W3.heap.size ≤ W4.heap.size) := Lib.hid hb4.size
  have S4 : Hid (W0.heap.size ≤ W4.heap.size) := Lib.hid (Nat.le_trans S3.out T4.out)
  have B4 := Lib.hid (B3.out.trans (hb4.mono S3.out))
  clear B3
  have x0_4 := Lib.hid (x0_3.out.below hb4)
  clear x0_3
  clear hb4
  go_wp2_with fail
  refine (toIntS _ s0 W4 (R0.out.below B4.out) HL0.out).mono ?_
  rintro e W5 ⟨y0, rfl, hI5, hb5⟩
  have T5 : Hid (W4.heap.size ≤ W5.heap.size) := Lib.hid hb5.size
  have S5 : Hid (W0.heap.size ≤ W5.heap.size) := Lib.hid (Nat.le_trans S4.out T5.out)
  have B5 := Lib.hid (B4.out.trans (hb5.mono S4.out))
  clear B4
  have x0_5 := Lib.hid (x0_4.out.below hb5)
  clear x0_4
  clear hb5
  have LTy0 : Hid (∀ b, y0.ownBlock = some b → W4.heap.size ≤ b ∧ b < W5.heap.size) := Lib.hid (fun b h => World.ownsRow.lt hI5 b h)
  have y0_5 := Lib.hid hI5
  clear hI5
  go_wp2_with fail
  refine (eqIntS_same x0 y0 s0 W5 x0_5.out.rd y0_5.out.rd (by have := HL0.out; omega)).mono ?_
  rintro e W6 ⟨rfl, hb6⟩
  have T6 : Hid (W5.heap.size ≤ W6.heap.size) := Lib.hid hb6.size
  have S6 : Hid (W0.heap.size ≤ W6.heap.size) := Lib.hid (Nat.le_trans S5.out T6.out)
  have B6 := Lib.hid (B5.out.trans (hb6.mono S5.out))
  clear B5
  have x0_6 := Lib.hid (x0_5.out.below hb6)
  clear x0_5
  clear y0_5
  clear hb6
  go_wp2
  go_ret
  exact ⟨rfl, B6.out⟩

set_option maxRecDepth 100000 in
theorem lifted (os : Os) (started : os.Started) (H : Type) (enc : TypeId × Value → H) :
    ReturnsInHanded {} Try.checked os 9 .any (Rows.fnExactFewestInsertsSpec.pre6 enc Try.prog Try.f9 Rows.fnExactFewestInsertsRow.domain false) (Rows.fnExactFewestInsertsSpec.post enc Try.prog Try.f9 false true false false) := by
  refine returnsInHanded_of_change (C := Try.checked) own started (by kernel_rfl) Try.func9
    (ChangeSpec.witness6 (enc := enc) (C := Try.checked) false ⟨#[], #[.slice none 0 0], []⟩ 8 (by kernel_rfl) (by kernel_rfl) (by kernel_rfl) (by kernel_rfl)) ?_
  intro W base args ds gs before hval0 hW hcnd _
  have hval : ∀ (j : Nat) t v, Try.f9.params[j]? = some t → args[j]? = some v → Value.okWide Try.prog W .any base t v := hval0
  have hW' := hW
  obtain ⟨p, q, hA0, hV, rfl, hfz, hnd⟩ := hW
  have hA : DataW.TrodAll enc Try.prog W 0 (fun _ => true) true Try.f9.params.toList args.toList ds p := hA0
  rw [Try.params9] at hA hval
  obtain ⟨v0, vs0, d0, ds0, p0, q0, hargs, rfl, rfl, h0, r0⟩ := trodAll_cons hA
  obtain ⟨rfl, rfl, rfl⟩ := trodAll_nil r0
  obtain rfl : args = #[v0] := by cases args; simp_all
  obtain ⟨rfl, rfl⟩ := trodVars_none hV
  obtain ⟨a0, len0, cap0, rfl⟩ := okWide_slice Try.underlying22 (hval 0 22 v0 rfl rfl)
  have k0 := h0
  have lt0 : ∀ x ∈ p0, x.block < W.heap.size := by obtain ⟨m, hm⟩ := k0; exact DataW.trod_lt m _ _ _ hm
  obtain ⟨z0, w0⟩ : ∃ zs, IsRow .i64 W a0 len0 cap0 zs := by
    obtain ⟨fuel, hf⟩ := h0
    rcases open_ints Try.underlying22 Try.underlying3 (by kernel_rfl) hf with ⟨hcs, _⟩ | ⟨x, l, c, zs, hcs, _, hl, hm, hz, _, hcell, hwz⟩
    · simp [Value.cells] at hcs
      obtain ⟨rfl, rfl, rfl⟩ := hcs
      exact ⟨[], .inl ⟨rfl, rfl, rfl, rfl⟩⟩
    · simp [Value.cells] at hcs
      obtain ⟨rfl, rfl, rfl⟩ := hcs
      exact ⟨zs, .inr ⟨_, rfl, hl, hm, by simpa using hz, hcell, hwz⟩⟩
  clear hA0 hval0
  refine (walk a0 len0 cap0 z0  W w0).mono fun e W' ⟨he, bel⟩ => ?_
  subst he
  exact ⟨_, rfl, _, _, _, [], _, [], hW', trodAll_mk1 (shut_bool Try.underlying4 _), (trodAll_cons_mk (Below.trod laidOut (by kernel_rfl) (of_decide_eq_true (by kernel_rfl)) k0 bel lt0) trodAll_mk0), rfl, bel.frame _, fun h => by cases h⟩

theorem over : Rows.fnExactFewestInsertsRow.holds Try.pinned (OpenSpec.ofChange Rows.fnExactFewestInsertsSpec) :=
  OpenClaim.holds_of_wide 9 Try.f9 rfl rfl rfl rfl rfl rfl rfl ⟨rfl, rfl, rfl, rfl, rfl⟩ rfl rfl rfl rfl rfl (by kernel_rfl) Try.func9 (by kernel_rfl)
    (of_decide_eq_true (by kernel_rfl)) (by unfold Func.isWrapper; first | (rw [if_pos (by decide +kernel)]; kernel_rfl) | (rw [if_neg (by decide +kernel)]; exact ⟨rfl, rfl⟩))
    (fun os started H enc _ => lifted os started H enc)

theorem proved : Rows.FnExactFewestInsertsSaid := over
#print axioms proved
end Go.Proofs.Ythdmmliipmmfbab.fnExactFewestInsertsDone
