/- FnExactLeapAlong: for every input the law returns true; each argument reads behind the call as it read before. No condition. -/
import Derived.Test.YtfokgobmncbkfacAlong
import Derived.Test.YtfokgobmncbkfacRows
import Derived.WalkKit
import Derived.ProofKit
import Derived.OpenShut
import Derived.ShutString
import Derived.ChangeOld
import Derived.Below
import Derived.WalkSpells
import Derived.WalkLawsBesides
import Derived.Lib.Hide
namespace Go.Proofs.Ytfokgobmncbkfac.fnExactLeapAlongDone
open Go.ChangeShapes Go.WideShapes Go.ChangeAt Go.RowKit
open Go.ChangeMaps (open_string shut_string)
set_option linter.unusedVariables false

theorem own : ownKnob Try.prog.godebug = none := by kernel_rfl
theorem laidOut : laidOutB Try.prog = true := by kernel_rfl

set_option maxHeartbeats 1000000 in
theorem walk (a0 : ByteArray) (a1 : Option Addr) (n c : Nat) (z1 : List Int) (w0 : a0.size ≤ maxLen) (w : World) (w1 : IsRow .i64 w a1 n c z1) :
    Calls Try.prog 7 #[.string a0, .slice a1 n c] w fun e w' => e = .returned (.bool true) ∧ Below w.heap.size w w' := by
  unfold maxLen at w0
  obtain ⟨hr, hl, hbd⟩ := w1.rd
  have HW1 := Lib.hid w1
  clear w1
  by_cases hb : 1048576 < a0.size
  · go_enter Try.func7, Try.ntmps7
    go_wp2
    go_ret
    exact ⟨rfl, Below.refl _ _⟩
  by_cases hb1 : 1048576 < n
  · have hcm : n ≤ c ∧ c ≤ maxLen := by
      rcases HW1.out with ⟨rfl, rfl, rfl, rfl⟩ | ⟨x, rfl, h1, h2, _⟩
      · exact ⟨Nat.le_refl _, Nat.zero_le _⟩
      · exact ⟨h1, h2⟩
    have hcm2 : n ≤ 9223372036854775807 := by have := hcm; unfold maxLen at this; omega
    clear hcm
    go_enter Try.func7, Try.ntmps7
    go_wp2
    go_ret
    exact ⟨rfl, Below.refl _ _⟩
  · generalize z1.take n = zs at *
    have hgt : ∀ j, -9223372036854775808 ≤ gt zs j ∧ gt zs j ≤ 9223372036854775807 := by
      intro j
      by_cases hj : j < zs.length
      · have e : gt zs j = zs[j] := by simp [gt, hj]
        rw [e]; exact hbd _ (List.getElem_mem _)
      · have e : gt zs j = 0 := by simp [gt, hj]
        rw [e]; omega
    have hln : zs.length ≤ 1048576 := by omega
    obtain ⟨x, y, hv0⟩ := alongV_form a0 zs
    have hv := Lib.hid hv0
    have HG := Lib.hid hgt
    have HL := Lib.hid hln
    clear hv0 hbd hgt hl hln
    go_enter Try.func7, Try.ntmps7
    go_wp2_with fail
    refine (toIntS _ zs _ hr HL.out).mono ?_
    rintro e w1 ⟨u1, rfl, hI1, hb1⟩
    go_wp2_with fail
    refine (specAlong a0 u1 zs _ (by omega) hI1.rd HL.out HG.out).mono ?_
    rintro e w' ⟨rfl, rfl⟩
    rw [hv.out]
    go_wp2_with fail
    refine (toIntS _ zs _ (hr.below hb1) HL.out).mono ?_
    rintro e w2 ⟨u2, rfl, hI2, hb2⟩
    go_wp2_with fail
    refine (implAlong a0 u2 zs _ (by omega) hI2.rd HL.out HG.out).mono ?_
    rintro e w3 ⟨rfl, hb3⟩
    rw [hv.out]
    go_wp2_with fail
    refine (toIntS _ zs _ ((hr.below hb1).below (hb2.trans (hb3.mono hb2.size))) HL.out).mono ?_
    rintro e w4 ⟨u3, rfl, hI3, hb4⟩
    go_wp2_with fail
    refine (eqIntS_same u2 u3 zs _ ((hI2.rd.below hb3).below hb4) hI3.rd (by have := HL.out; omega)).mono ?_
    rintro e w5 ⟨rfl, hb5⟩
    have s1 := hb1.size
    have s2 := hb2.size
    have s3 := hb3.size
    have s4 := hb4.size
    go_wp2
    go_ret
    exact ⟨rfl, (((hb1.trans (hb2.mono s1)).trans (hb3.mono (by omega))).trans (hb4.mono (by omega))).trans (hb5.mono (by omega))⟩

set_option maxRecDepth 100000 in
theorem lifted (os : Os) (started : os.Started) (H : Type) (enc : TypeId × Value → H) :
    ReturnsInHanded {} Try.checked os 7 .any (Rows.fnExactLeapAlongSpec.pre6 enc Try.prog Try.f7 Rows.fnExactLeapAlongRow.domain false) (Rows.fnExactLeapAlongSpec.post enc Try.prog Try.f7 false true false false) := by
  refine returnsInHanded_of_change (C := Try.checked) own started (by kernel_rfl) Try.func7
    (ChangeSpec.witness6 (enc := enc) (C := Try.checked) false ⟨#[], #[.string ByteArray.empty, .slice none 0 0], []⟩ 8 (by kernel_rfl) (by kernel_rfl) (by kernel_rfl) (by kernel_rfl)) ?_
  intro W base args ds gs before hval0 hW hcnd _
  have hval : ∀ (j : Nat) t v, Try.f7.params[j]? = some t → args[j]? = some v → Value.okWide Try.prog W .any base t v := hval0
  have hW' := hW
  obtain ⟨p, q, hA0, hV, rfl, hfz, hnd⟩ := hW
  have hA : DataW.TrodAll enc Try.prog W 0 (fun _ => true) true Try.f7.params.toList args.toList ds p := hA0
  rw [Try.params7] at hA hval
  obtain ⟨v0, vs0, d0, ds0, p0, q0, hargs, rfl, rfl, h0, r0⟩ := trodAll_cons hA
  obtain ⟨v1, vs1, d1, ds1, p1, q1, rfl, rfl, rfl, h1, r1⟩ := trodAll_cons r0
  obtain ⟨rfl, rfl, rfl⟩ := trodAll_nil r1
  obtain rfl : args = #[v0, v1] := by cases args; simp_all
  obtain ⟨rfl, rfl⟩ := trodVars_none hV
  obtain ⟨a0, rfl, rfl, rfl, w0⟩ := open_string Try.underlying9 (hval 0 9 v0 rfl rfl) h0
  obtain ⟨a1, len1, cap1, rfl⟩ := okWide_slice Try.underlying25 (hval 1 25 v1 rfl rfl)
  have k1 := h1
  have lt1 : ∀ x ∈ p1, x.block < W.heap.size := by obtain ⟨m, hm⟩ := k1; exact DataW.trod_lt m _ _ _ hm
  obtain ⟨z1, w1⟩ : ∃ zs, IsRow .i64 W a1 len1 cap1 zs := by
    obtain ⟨fuel, hf⟩ := h1
    rcases open_ints Try.underlying25 Try.underlying3 (by kernel_rfl) hf with ⟨hcs, _⟩ | ⟨x, l, c, zs, hcs, _, hl, hm, hz, _, hcell, hwz⟩
    · simp [Value.cells] at hcs
      obtain ⟨rfl, rfl, rfl⟩ := hcs
      exact ⟨[], .inl ⟨rfl, rfl, rfl, rfl⟩⟩
    · simp [Value.cells] at hcs
      obtain ⟨rfl, rfl, rfl⟩ := hcs
      exact ⟨zs, .inr ⟨_, rfl, hl, hm, by simpa using hz, hcell, hwz⟩⟩
  clear hA0 hval0
  refine (walk a0 a1 len1 cap1 z1 w0 W w1).mono fun e W' ⟨he, bel⟩ => ?_
  subst he
  exact ⟨_, rfl, _, _, _, [], _, [], hW', trodAll_mk1 (shut_bool Try.underlying4 _), (trodAll_cons_mk (shut_string Try.underlying9 w0) (trodAll_cons_mk (Below.trod laidOut (by kernel_rfl) (of_decide_eq_true (by kernel_rfl)) k1 bel lt1) trodAll_mk0)), rfl, bel.frame _, fun h => by cases h⟩

theorem over : Rows.fnExactLeapAlongRow.holds Try.pinned (OpenSpec.ofChange Rows.fnExactLeapAlongSpec) :=
  OpenClaim.holds_of_wide 7 Try.f7 rfl rfl rfl rfl rfl rfl rfl ⟨rfl, rfl, rfl, rfl, rfl⟩ rfl rfl rfl rfl rfl (by kernel_rfl) Try.func7 (by kernel_rfl)
    (of_decide_eq_true (by kernel_rfl)) (by unfold Func.isWrapper; first | (rw [if_pos (by decide +kernel)]; kernel_rfl) | (rw [if_neg (by decide +kernel)]; exact ⟨rfl, rfl⟩))
    (fun os started H enc _ => lifted os started H enc)

theorem proved : Rows.FnExactLeapAlongSaid := over
#print axioms proved
end Go.Proofs.Ytfokgobmncbkfac.fnExactLeapAlongDone
