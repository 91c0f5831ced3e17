/- FnExactMakePuzzle: for every input the law returns true; each argument reads behind the call as it read before. No condition. -/
import Derived.Test.YtnmeomcoeknjoabKmm
import Derived.Test.YtnmeomcoeknjoabRows
import Derived.WalkKit
import Derived.ProofKit
import Derived.OpenShut
import Derived.ShutString
import Derived.ChangeOld
import Derived.Below
import Derived.WalkSpells
import Derived.WalkLawsBesides
import Derived.Lib.Hide
namespace Go.Proofs.Ytnmeomcoeknjoab.fnExactMakePuzzleDone
open Go.ChangeShapes Go.WideShapes Go.ChangeAt Go.RowKit
open Go.ChangeMaps (open_string shut_string)
set_option linter.unusedVariables false

theorem own : ownKnob Try.prog.godebug = none := by kernel_rfl
theorem laidOut : laidOutB Try.prog = true := by kernel_rfl

-- clues:
set_option maxRecDepth 100000 in
set_option maxHeartbeats 8000000 in
theorem walk (a0 : ByteArray) (a1 a2 : Int) (w0 : a0.size ≤ maxLen) (w1 : (Lit.int .i64 a1).wf = true) (w2 : (Lit.int .i64 a2).wf = true) (W0 : World) :
    Calls Try.prog 9 #[.string a0, .int .i64 a1, .int .i64 a2] W0 fun e w' => e = .returned (.bool true) ∧ Below W0.heap.size W0 w' := by
  unfold maxLen at w0
  clear w1 w2
  by_cases hb0 : 1048576 < a0.size
  · go_enter Try.func9, Try.ntmps9
    go_wp2
    go_ret
    exact ⟨rfl, Below.refl _ _⟩
  have HS0 := Lib.hid (show a0.size ≤ 1048576 by omega)
  have hzl : (mpL a0 a1 a2).length ≤ 16777216 := by have := mpL_len a0 a1 a2; omega
  generalize hon : (mpN a0 a1 a2) = on
  generalize hzs : (mpL a0 a1 a2) = obs at hzl
  generalize hok : (mpOK a0 a1 a2) = ok
  have HN := Lib.hid hon
  have HZ := Lib.hid hzs
  have HO := Lib.hid hok
  have HZL := Lib.hid hzl
  clear hon hzs hok hzl
  have T := Lib.hid (Below.refl W0.heap.size W0)
  go_enter Try.func9, Try.ntmps9
  go_wp2_with fail
  refine (specMake a0 a1 a2 _ HS0.out).mono ?_
  rw [HN.out, HZ.out, HO.out]
  rintro e W1 ⟨r0, rfl, hI, hb⟩
  obtain ⟨r0a, r0n, r0c, rfl⟩ := hI.form
  have T_ := Lib.hid (T.out.trans (hb.mono T.out.size))
  clear T
  have T := T_
  clear T_
  have ZW1 : Hid (W0.heap.size ≤ W1.heap.size) := Lib.hid hb.size
  clear hb
  have LTr0 : Hid (∀ b, (Value.slice r0a r0n r0c).ownBlock = some b → W0.heap.size ≤ b ∧ b < W1.heap.size) := Lib.hid (fun b h => hI.lt b h)
  have Ir0 := Lib.hid hI
  clear hI
  go_wp2_with fail
  refine (implMake a0 a1 a2 _ HS0.out).mono ?_
  rw [HN.out, HZ.out, HO.out]
  rintro e W2 ⟨r1, rfl, hI, hb⟩
  obtain ⟨r1a, r1n, r1c, rfl⟩ := hI.form
  have XSn := Lib.hid ((Blk.new W1 #[.int .i64 on, .slice r0a r0n r0c] 38).below hb (by simp))
  have hbx : Below W1.heap.size W1 W2 := Below.trans (by (repeat (first | exact Below.refl _ _ | (refine Below.alloc ?_ (by first | omega | (simp; try omega)) _) | apply Below.drew | apply below_drewN))) (hb.mono (by simp; try omega))
  clear hb
  have ZXS : Hid (W1.heap.size < W2.heap.size) := Lib.hid XSn.out.lt
  have hL9 : ∀ b, (Value.slice r1a r1n r1c).ownBlock = some b → W1.heap.size + 1 ≤ b ∧ b < W2.heap.size := fun b h => by have h9 := hI.lt b h; simp at h9; exact ⟨by omega, by omega⟩
  have hIx := Brs.mono (B := W1.heap.size) hI (by simp; try omega)
  clear hI
  have hI := hIx
  clear hIx
  have T_ := Lib.hid (T.out.trans (hbx.mono T.out.size))
  clear T
  have T := T_
  clear T_
  have Ir0_ := Lib.hid (Ir0.out.below hbx)
  clear Ir0
  have Ir0 := Ir0_
  clear Ir0_
  have ZW2 : Hid (W1.heap.size ≤ W2.heap.size) := Lib.hid hbx.size
  clear hbx
  have XS := XSn
  clear XSn
  have LTr1 := Lib.hid hL9
  clear hL9
  have Ir1 := Lib.hid hI
  clear hI
  obtain ⟨cXS, dXS, lXS⟩ := XS.out.two
  go_wp2_with fail
  refine (eqPuzzle_same on _ _ obs _ (Ir1.out.rd.below (by (repeat (first | exact Below.refl _ _ | (refine Below.alloc ?_ (by first | omega | (simp; try omega)) _) | apply Below.drew | apply below_drewN)))) (Ir0.out.rd.below (by (repeat (first | exact Below.refl _ _ | (refine Below.alloc ?_ (by first | omega | (simp; try omega)) _) | apply Below.drew | apply below_drewN)))) HZL.out).mono ?_
  rintro e W3 ⟨rfl, hb⟩
  clear cXS dXS lXS
  have XRn := Lib.hid ((Blk.new W2 #[.int .i64 on, .slice r1a r1n r1c] 38).below hb (by simp))
  have hbx : Below W2.heap.size W2 W3 := Below.trans (by (repeat (first | exact Below.refl _ _ | (refine Below.alloc ?_ (by first | omega | (simp; try omega)) _) | apply Below.drew | apply below_drewN))) (hb.mono (by simp; try omega))
  clear hb
  have ZXR : Hid (W2.heap.size < W3.heap.size) := Lib.hid XRn.out.lt
  have T_ := Lib.hid (T.out.trans (hbx.mono T.out.size))
  clear T
  have T := T_
  clear T_
  have Ir0_ := Lib.hid (Ir0.out.below hbx)
  clear Ir0
  have Ir0 := Ir0_
  clear Ir0_
  have XS_ := Lib.hid (XS.out.below hbx XS.out.lt)
  clear XS
  have XS := XS_
  clear XS_
  have Ir1_ := Lib.hid (Ir1.out.below hbx)
  clear Ir1
  have Ir1 := Ir1_
  clear Ir1_
  have ZW3 : Hid (W2.heap.size ≤ W3.heap.size) := Lib.hid hbx.size
  clear hbx
  have XR := XRn
  clear XRn
  obtain ⟨cXR, dXR, lXR⟩ := XR.out.two
  have hZL := HZL.out
  go_wp2_with fail
  refine (markPuzzle on _ obs _ _ Ir1.out HZL.out 1 (by decide) (by decide)).mono ?_
  rintro e W4 ⟨rfl, hm, hg⟩
  clear Ir1
  clear cXR dXR lXR
  have T_ := Lib.hid (T.out.grown hg T.out.size (fun b h => by have := (LTr1.out b h).1; (have := ZW1.out); (have := ZW2.out); (have := ZXS.out); (have := ZW3.out); (have := ZXR.out); omega))
  clear T
  have T := T_
  clear T_
  have Ir0_ := Lib.hid (Ir0.out.kept hg (apart_old LTr1.out LTr0.out (by (have := ZW1.out); (have := ZW2.out); (have := ZXS.out); (have := ZW3.out); (have := ZXR.out); omega)))
  have XS_ := Lib.hid (XS.out.kept hg (fun e => by have := (LTr1.out _ e.symm).1; (have := ZW1.out); (have := ZW2.out); (have := ZXS.out); (have := ZW3.out); (have := ZXR.out); omega))
  have XR_ := Lib.hid (XR.out.kept hg (fun e => by have := (LTr1.out _ e.symm).2; (have := ZW1.out); (have := ZW2.out); (have := ZXS.out); (have := ZW3.out); (have := ZXR.out); omega))
  clear Ir0
  have Ir0 := Ir0_
  clear Ir0_
  clear XS
  have XS := XS_
  clear XS_
  clear XR
  have XR := XR_
  clear XR_
  have ZW4 : Hid (W3.heap.size ≤ W4.heap.size) := Lib.hid hg.size
  clear hg
  have Im := Lib.hid hm
  clear hm
  obtain ⟨cXR, dXR, lXR⟩ := XR.out.two
  go_wp2_with fail
  refine (heldPuzzle on _ obs.length _ 1 Im.out.rd HZL.out (by decide) (by decide)).mono ?_
  rintro e W5 ⟨rfl, hb⟩
  clear cXR dXR lXR
  have T_ := Lib.hid (T.out.trans (hb.mono T.out.size))
  clear T
  have T := T_
  clear T_
  have Ir0_ := Lib.hid (Ir0.out.below hb)
  clear Ir0
  have Ir0 := Ir0_
  clear Ir0_
  have XS_ := Lib.hid (XS.out.below hb XS.out.lt)
  clear XS
  have XS := XS_
  clear XS_
  have XR_ := Lib.hid (XR.out.below hb XR.out.lt)
  clear XR
  have XR := XR_
  clear XR_
  have Im_ := Lib.hid (Im.out.below hb)
  clear Im
  have Im := Im_
  clear Im_
  have ZW5 : Hid (W4.heap.size ≤ W5.heap.size) := Lib.hid hb.size
  clear hb
  go_wp2_with fail
  refine (implMake a0 a1 a2 _ HS0.out).mono ?_
  rw [HN.out, HZ.out, HO.out]
  rintro e W6 ⟨r2, rfl, hI, hb⟩
  obtain ⟨r2a, r2n, r2c, rfl⟩ := hI.form
  have T_ := Lib.hid (T.out.trans (hb.mono T.out.size))
  clear T
  have T := T_
  clear T_
  have Ir0_ := Lib.hid (Ir0.out.below hb)
  clear Ir0
  have Ir0 := Ir0_
  clear Ir0_
  have XS_ := Lib.hid (XS.out.below hb XS.out.lt)
  clear XS
  have XS := XS_
  clear XS_
  have XR_ := Lib.hid (XR.out.below hb XR.out.lt)
  clear XR
  have XR := XR_
  clear XR_
  have Im_ := Lib.hid (Im.out.below hb)
  clear Im
  have Im := Im_
  clear Im_
  have ZW6 : Hid (W5.heap.size ≤ W6.heap.size) := Lib.hid hb.size
  clear hb
  have LTr2 : Hid (∀ b, (Value.slice r2a r2n r2c).ownBlock = some b → W5.heap.size ≤ b ∧ b < W6.heap.size) := Lib.hid (fun b h => hI.lt b h)
  have Ir2 := Lib.hid hI
  clear hI
  obtain ⟨cXS, dXS, lXS⟩ := XS.out.two
  go_wp2_with fail
  refine (eqPuzzle_same on _ _ obs _ (Ir2.out.rd.below (by (repeat (first | exact Below.refl _ _ | (refine Below.alloc ?_ (by first | omega | (simp; try omega)) _) | apply Below.drew | apply below_drewN)))) (Ir0.out.rd.below (by (repeat (first | exact Below.refl _ _ | (refine Below.alloc ?_ (by first | omega | (simp; try omega)) _) | apply Below.drew | apply below_drewN)))) HZL.out).mono ?_
  rintro e W7 ⟨rfl, hb⟩
  clear cXS dXS lXS
  have XQn := Lib.hid ((Blk.new W6 #[.int .i64 on, .slice r2a r2n r2c] 38).below hb (by simp))
  have hbx : Below W6.heap.size W6 W7 := Below.trans (by (repeat (first | exact Below.refl _ _ | (refine Below.alloc ?_ (by first | omega | (simp; try omega)) _) | apply Below.drew | apply below_drewN))) (hb.mono (by simp; try omega))
  clear hb
  have ZXQ : Hid (W6.heap.size < W7.heap.size) := Lib.hid XQn.out.lt
  have T_ := Lib.hid (T.out.trans (hbx.mono T.out.size))
  clear T
  have T := T_
  clear T_
  have Ir0_ := Lib.hid (Ir0.out.below hbx)
  clear Ir0
  have Ir0 := Ir0_
  clear Ir0_
  have XS_ := Lib.hid (XS.out.below hbx XS.out.lt)
  clear XS
  have XS := XS_
  clear XS_
  have XR_ := Lib.hid (XR.out.below hbx XR.out.lt)
  clear XR
  have XR := XR_
  clear XR_
  have Im_ := Lib.hid (Im.out.below hbx)
  clear Im
  have Im := Im_
  clear Im_
  have Ir2_ := Lib.hid (Ir2.out.below hbx)
  clear Ir2
  have Ir2 := Ir2_
  clear Ir2_
  have ZW7 : Hid (W6.heap.size ≤ W7.heap.size) := Lib.hid hbx.size
  clear hbx
  have XQ := XQn
  clear XQn
  obtain ⟨cXR, dXR, lXR⟩ := XR.out.two
  go_wp2_with fail
  refine (heldPuzzle on _ obs.length _ 1 Im.out.rd HZL.out (by decide) (by decide)).mono ?_
  rintro e W8 ⟨rfl, hb⟩
  clear cXR dXR lXR
  have T_ := Lib.hid (T.out.trans (hb.mono T.out.size))
  clear T
  have T := T_
  clear T_
  have Ir0_ := Lib.hid (Ir0.out.below hb)
  clear Ir0
  have Ir0 := Ir0_
  clear Ir0_
  have XS_ := Lib.hid (XS.out.below hb XS.out.lt)
  clear XS
  have XS := XS_
  clear XS_
  have XR_ := Lib.hid (XR.out.below hb XR.out.lt)
  clear XR
  have XR := XR_
  clear XR_
  have Im_ := Lib.hid (Im.out.below hb)
  clear Im
  have Im := Im_
  clear Im_
  have Ir2_ := Lib.hid (Ir2.out.below hb)
  clear Ir2
  have Ir2 := Ir2_
  clear Ir2_
  have XQ_ := Lib.hid (XQ.out.below hb XQ.out.lt)
  clear XQ
  have XQ := XQ_
  clear XQ_
  have ZW8 : Hid (W7.heap.size ≤ W8.heap.size) := Lib.hid hb.size
  clear hb
  go_wp2
  go_ret
  exact ⟨rfl, T.out⟩

set_option maxRecDepth 100000 in
theorem lifted (os : Os) (started : os.Started) (H : Type) (enc : TypeId × Value → H) :
    ReturnsInHanded {} Try.checked os 9 .any (Rows.fnExactMakePuzzleSpec.pre6 enc Try.prog Try.f9 Rows.fnExactMakePuzzleRow.domain false) (Rows.fnExactMakePuzzleSpec.post enc Try.prog Try.f9 false true false false) := by
  refine returnsInHanded_of_change (C := Try.checked) own started (by kernel_rfl) Try.func9
    (ChangeSpec.witness6 (enc := enc) (C := Try.checked) false ⟨#[], #[.string ByteArray.empty, .int .i64 0, .int .i64 0], []⟩ 8 (by kernel_rfl) (by kernel_rfl) (by kernel_rfl) (by kernel_rfl)) ?_
  intro W base args ds gs before hval0 hW hcnd _
  have hval : ∀ (j : Nat) t v, Try.f9.params[j]? = some t → args[j]? = some v → Value.okWide Try.prog W .any base t v := hval0
  have hW' := hW
  obtain ⟨p, q, hA0, hV, rfl, hfz, hnd⟩ := hW
  have hA : DataW.TrodAll enc Try.prog W 0 (fun _ => true) true Try.f9.params.toList args.toList ds p := hA0
  rw [Try.params9] at hA hval
  obtain ⟨v0, vs0, d0, ds0, p0, q0, hargs, rfl, rfl, h0, r0⟩ := trodAll_cons hA
  obtain ⟨v1, vs1, d1, ds1, p1, q1, rfl, rfl, rfl, h1, r1⟩ := trodAll_cons r0
  obtain ⟨v2, vs2, d2, ds2, p2, q2, rfl, rfl, rfl, h2, r2⟩ := trodAll_cons r1
  obtain ⟨rfl, rfl, rfl⟩ := trodAll_nil r2
  obtain rfl : args = #[v0, v1, v2] := by cases args; simp_all
  obtain ⟨rfl, rfl⟩ := trodVars_none hV
  obtain ⟨a0, rfl, rfl, rfl, w0⟩ := open_string Try.underlying9 (hval 0 9 v0 rfl rfl) h0
  obtain ⟨a1, rfl, rfl, rfl, w1⟩ := open_int Try.underlying3 (hval 1 3 v1 rfl rfl) h1
  obtain ⟨a2, rfl, rfl, rfl, w2⟩ := open_int Try.underlying3 (hval 2 3 v2 rfl rfl) h2
  clear hA0 hval0
  refine (walk a0 a1 a2 w0 w1 w2 W ).mono fun e W' ⟨he, bel⟩ => ?_
  subst he
  exact ⟨_, rfl, _, _, _, [], _, [], hW', trodAll_mk1 (shut_bool Try.underlying4 _), (trodAll_cons_mk (shut_string Try.underlying9 w0) (trodAll_cons_mk (shut_int Try.underlying3 w1) (trodAll_cons_mk (shut_int Try.underlying3 w2) trodAll_mk0))), rfl, bel.frame _, fun h => by cases h⟩

theorem over : Rows.fnExactMakePuzzleRow.holds Try.pinned (OpenSpec.ofChange Rows.fnExactMakePuzzleSpec) :=
  OpenClaim.holds_of_wide 9 Try.f9 rfl rfl rfl rfl rfl rfl rfl ⟨rfl, rfl, rfl, rfl, rfl⟩ rfl rfl rfl rfl rfl (by kernel_rfl) Try.func9 (by kernel_rfl)
    (of_decide_eq_true (by kernel_rfl)) (by unfold Func.isWrapper; first | (rw [if_pos (by decide +kernel)]; kernel_rfl) | (rw [if_neg (by decide +kernel)]; exact ⟨rfl, rfl⟩))
    (fun os started H enc _ => lifted os started H enc)

theorem proved : Rows.FnExactMakePuzzleSaid := over
#print axioms proved
end Go.Proofs.Ytnmeomcoeknjoab.fnExactMakePuzzleDone
