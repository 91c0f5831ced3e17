/- FnExactEarliestWay: for every input the law returns true; each argument reads behind the call as it read before. No condition. -/
import Derived.Test.YtmlokapbholeoabUj
import Derived.Test.YtmlokapbholeoabRows
import Derived.WalkKit
import Derived.ProofKit
import Derived.OpenShut
import Derived.ShutString
import Derived.ChangeOld
import Derived.Below
import Derived.WalkSpells
import Derived.WalkLawsBesides
import Derived.Lib.Hide
namespace Go.Proofs.Ytmlokapbholeoab.fnExactEarliestWayDone
open Go.ChangeShapes Go.WideShapes Go.ChangeAt Go.RowKit
open Go.ChangeMaps (open_string shut_string)
set_option linter.unusedVariables false

theorem own : ownKnob Try.prog.godebug = none := by kernel_rfl
theorem laidOut : laidOutB Try.prog = true := by kernel_rfl

set_option maxHeartbeats 1000000 in
theorem walk (a0 : ByteArray) (a1 : ByteArray) (a2 : Int) (a3 : Int) (w0 : a0.size ≤ maxLen) (w1 : a1.size ≤ maxLen) (w2 : (Lit.int .i64 a2).wf = true) (w3 : (Lit.int .i64 a3).wf = true) (w : World) :
    Calls Try.prog 5 #[.string a0, .string a1, .int .i64 a2, .int .i64 a3] w fun e w' => e = .returned (.bool true) ∧ Below w.heap.size w w' := by
  unfold maxLen at w0 w1
  by_cases hb0 : 1048576 < a0.size
  · go_enter Try.func5, Try.ntmps5
    go_wp2
    go_ret
    exact ⟨rfl, Below.refl _ _⟩
  by_cases hb1 : 1048576 < a1.size
  · go_enter Try.func5, Try.ntmps5
    go_wp2
    go_ret
    exact ⟨rfl, Below.refl _ _⟩
  have hl : (ewL a0 a1 a2 a3).length ≤ 16777216 := (by have := ewL_len a0 a1 a2 a3; omega)
  generalize hzs : (ewL a0 a1 a2 a3) = zs at hl
  generalize hok : (ewB a0 a1 a2 a3) = ok
  have HZ := Lib.hid hzs
  have HO := Lib.hid hok
  clear hzs hok
  have S := fun wx => specEw a0 a1 a2 a3 wx (by omega)
  have I := fun wx => implEw a0 a1 a2 a3 wx (by omega)
  rw [HZ.out, HO.out] at S I
  have HS := Lib.hid S
  have HI := Lib.hid I
  clear S I
  go_enter Try.func5, Try.ntmps5
  go_wp2_with fail
  refine (HS.out _).mono ?_
  rintro e w1 ⟨v0, rfl, hI0, hb0⟩
  go_wp2_with fail
  refine (HI.out _).mono ?_
  rintro e w2 ⟨v1, rfl, hI1, hb1⟩
  have r0 : Rd w2 v0 zs := hI0.rd.below hb1
  go_wp2_with fail
  refine (eqIntS_same v1 v0 zs w2 hI1.rd r0 hl).mono ?_
  rintro e w3 ⟨rfl, hb2⟩
  have lt0 : ∀ b, v0.ownBlock = some b → b < w1.heap.size := fun b h => (World.ownsRow.lt hI0 b h).2
  have ge1 : ∀ b, v1.ownBlock = some b → w1.heap.size ≤ b := fun b h => (World.ownsRow.lt hI1 b h).1
  go_wp2_with fail
  refine (markIntS v1 zs w1.heap.size w3 (hI1.below hb2) hl 1 (by decide) (by decide)).mono ?_
  rintro e w4 ⟨rfl, hm, hg⟩
  have r4 : Rd w4 v0 zs := (r0.below hb2).grown lt0 hg (fun b h => ge1 b h)
  have s1 := hb0.size
  have s2 := hb1.size
  have s3 := hb2.size
  have s4 := hg.size
  have b4 : Below w.heap.size w w4 := ((hb0.trans (hb1.mono hb0.size)).trans (hb2.mono (by omega))).grown hg (by omega) (fun b h => Nat.le_trans s1 (ge1 b h))
  clear hI0 hI1 hb0 hb1 hb2 r0 lt0 ge1 hg
  obtain ⟨n, hn⟩ : ∃ n, n = zs.length := ⟨_, rfl⟩
  rw [← hn] at hl hm ⊢
  have HN := Lib.hid hn
  clear hn
  go_wp2_with fail
  refine (heldIntS v1 n w4 1 hm.rd hl (by decide) (by decide)).mono ?_
  rintro e w' ⟨rfl, rfl⟩
  go_wp2_with fail
  refine (HI.out _).mono ?_
  rintro e w5 ⟨v2, rfl, hI2, hb5⟩
  go_wp2_with fail
  refine (eqIntS_same v2 v0 zs w5 hI2.rd (r4.below hb5) (by have := HN.out; omega)).mono ?_
  rintro e w6 ⟨rfl, hb6⟩
  go_wp2_with fail
  refine (heldIntS v1 n w6 1 ((hm.rd.below hb5).below hb6) hl (by decide) (by decide)).mono ?_
  rintro e w' ⟨rfl, rfl⟩
  have b6 : Below w.heap.size w w6 := (b4.trans (hb5.mono b4.size)).trans (hb6.mono (Nat.le_trans b4.size hb5.size))
  go_wp2
  go_ret
  exact ⟨rfl, b6⟩

set_option maxRecDepth 100000 in
theorem lifted (os : Os) (started : os.Started) (H : Type) (enc : TypeId × Value → H) :
    ReturnsInHanded {} Try.checked os 5 .any (Rows.fnExactEarliestWaySpec.pre6 enc Try.prog Try.f5 Rows.fnExactEarliestWayRow.domain false) (Rows.fnExactEarliestWaySpec.post enc Try.prog Try.f5 false true false false) := by
  refine returnsInHanded_of_change (C := Try.checked) own started (by kernel_rfl) Try.func5
    (ChangeSpec.witness6 (enc := enc) (C := Try.checked) false ⟨#[], #[.string ByteArray.empty, .string ByteArray.empty, .int .i64 0, .int .i64 0], []⟩ 8 (by kernel_rfl) (by kernel_rfl) (by kernel_rfl) (by kernel_rfl)) ?_
  intro W base args ds gs before hval0 hW hcnd _
  have hval : ∀ (j : Nat) t v, Try.f5.params[j]? = some t → args[j]? = some v → Value.okWide Try.prog W .any base t v := hval0
  have hW' := hW
  obtain ⟨p, q, hA0, hV, rfl, hfz, hnd⟩ := hW
  have hA : DataW.TrodAll enc Try.prog W 0 (fun _ => true) true Try.f5.params.toList args.toList ds p := hA0
  rw [Try.params5] at hA hval
  obtain ⟨v0, vs0, d0, ds0, p0, q0, hargs, rfl, rfl, h0, r0⟩ := trodAll_cons hA
  obtain ⟨v1, vs1, d1, ds1, p1, q1, rfl, rfl, rfl, h1, r1⟩ := trodAll_cons r0
  obtain ⟨v2, vs2, d2, ds2, p2, q2, rfl, rfl, rfl, h2, r2⟩ := trodAll_cons r1
  obtain ⟨v3, vs3, d3, ds3, p3, q3, rfl, rfl, rfl, h3, r3⟩ := trodAll_cons r2
  obtain ⟨rfl, rfl, rfl⟩ := trodAll_nil r3
  obtain rfl : args = #[v0, v1, v2, v3] := by cases args; simp_all
  obtain ⟨rfl, rfl⟩ := trodVars_none hV
  obtain ⟨a0, rfl, rfl, rfl, w0⟩ := open_string Try.underlying9 (hval 0 9 v0 rfl rfl) h0
  obtain ⟨a1, rfl, rfl, rfl, w1⟩ := open_string Try.underlying9 (hval 1 9 v1 rfl rfl) h1
  obtain ⟨a2, rfl, rfl, rfl, w2⟩ := open_int Try.underlying3 (hval 2 3 v2 rfl rfl) h2
  obtain ⟨a3, rfl, rfl, rfl, w3⟩ := open_int Try.underlying3 (hval 3 3 v3 rfl rfl) h3
  clear hA0 hval0
  refine (walk a0 a1 a2 a3 w0 w1 w2 w3 W ).mono fun e W' ⟨he, bel⟩ => ?_
  subst he
  exact ⟨_, rfl, _, _, _, [], _, [], hW', trodAll_mk1 (shut_bool Try.underlying4 _), (trodAll_cons_mk (shut_string Try.underlying9 w0) (trodAll_cons_mk (shut_string Try.underlying9 w1) (trodAll_cons_mk (shut_int Try.underlying3 w2) (trodAll_cons_mk (shut_int Try.underlying3 w3) trodAll_mk0)))), rfl, bel.frame _, fun h => by cases h⟩

theorem over : Rows.fnExactEarliestWayRow.holds Try.pinned (OpenSpec.ofChange Rows.fnExactEarliestWaySpec) :=
  OpenClaim.holds_of_wide 5 Try.f5 rfl rfl rfl rfl rfl rfl rfl ⟨rfl, rfl, rfl, rfl, rfl⟩ rfl rfl rfl rfl rfl (by kernel_rfl) Try.func5 (by kernel_rfl)
    (of_decide_eq_true (by kernel_rfl)) (by unfold Func.isWrapper; first | (rw [if_pos (by decide +kernel)]; kernel_rfl) | (rw [if_neg (by decide +kernel)]; exact ⟨rfl, rfl⟩))
    (fun os started H enc _ => lifted os started H enc)

theorem proved : Rows.FnExactEarliestWaySaid := over
#print axioms proved
end Go.Proofs.Ytmlokapbholeoab.fnExactEarliestWayDone
