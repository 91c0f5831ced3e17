/- FnExactParsePuzzle: for every input the law returns true; each argument reads behind the call as it read before. No condition. -/
import Derived.Test.YtcpipacombnhdaaDoorKpi
import Derived.Test.YtcpipacombnhdaaDoorKpz
import Derived.Test.YtcpipacombnhdaaDoorKo
import Derived.Test.YtcpipacombnhdaaDoorLtI
import Derived.Test.YtcpipacombnhdaaDoorLtI
import Derived.Test.YtcpipacombnhdaaDoorTie
import Derived.Test.YtcpipacombnhdaaDoorCards
import Derived.SevenTiedAt
import Derived.Test.YtcpipacombnhdaaDoorRows
import Derived.WalkKit
import Derived.ProofKit
import Derived.OpenShut
import Derived.ShutString
import Derived.ChangeOld
import Derived.Below
import Derived.WalkSpells
import Derived.WalkLawsBesides
import Derived.Lib.Hide
namespace Go.Proofs.YtcpipacombnhdaaDoor.fnExactParsePuzzleDone
open Go.ChangeShapes Go.WideShapes Go.ChangeAt Go.RowKit
open Go.ChangeMaps (open_string shut_string)
set_option linter.unusedVariables false

theorem laidOut : laidOutB Tryd.prog = true := by kernel_rfl

set_option maxRecDepth 100000 in
set_option maxHeartbeats 8000000 in
theorem walk (a0 : ByteArray) (w0 : a0.size ≤ maxLen) (W0 : World) (P0 : Hid (Lb W0)) :
    Calls Tryd.prog 4 #[.string a0] W0 fun e w' => e = .returned (.bool true) ∧ Below W0.heap.size W0 w' := by
  unfold maxLen at w0
  by_cases hb0 : 1048576 < a0.size
  · go_enter Tryd.func4, Tryd.ntmps4
    go_wp2
    go_ret
    exact ⟨rfl, Below.refl _ _⟩
  have HS0 := Lib.hid (show a0.size ≤ 1048576 by omega)
  have hzl : (pL a0).length ≤ 16777216 := by have := pL_len a0; omega
  generalize hon : (pN a0) = on
  generalize hzs : (pL a0) = obs at hzl
  generalize hok : (pOK a0) = ok
  have HN := Lib.hid hon
  have HZ := Lib.hid hzs
  have HO := Lib.hid hok
  have HZL := Lib.hid hzl
  clear hon hzs hok hzl
  have T := Lib.hid (Below.refl W0.heap.size W0)
  go_enter Tryd.func4, Tryd.ntmps4
  go_wp2_with fail
  refine (specParseIsles a0 _ HS0.out).mono ?_
  rw [HN.out, HZ.out, HO.out]
  rintro e W1 ⟨r0, rfl, hI, hb⟩
  obtain ⟨r0a, r0n, r0c, rfl⟩ := hI.form
  have T_ := Lib.hid (T.out.trans (hb.mono T.out.size))
  clear T
  have T := T_
  clear T_
  have ZW1 : Hid (W0.heap.size ≤ W1.heap.size) := Lib.hid hb.size
  clear hb
  have LTr0 : Hid (∀ b, (Value.slice r0a r0n r0c).ownBlock = some b → W0.heap.size ≤ b ∧ b < W1.heap.size) := Lib.hid (fun b h => hI.lt b h)
  have Ir0 := Lib.hid hI
  clear hI
  go_wp2_with fail
  refine (implParseIsles a0 _ HS0.out (P0.out.below (by first | with_reducible exact T.out | exact Below.alloc T.out (by have := T.out.size; omega) _))).mono ?_
  rw [HN.out, HZ.out, HO.out]
  rintro e W2 ⟨r1, rfl, hI, hb⟩
  obtain ⟨r1a, r1n, r1c, rfl⟩ := hI.form
  have XSn := Lib.hid ((Blk.new W1 #[.int .i64 on, .slice r0a r0n r0c] 30).below hb (by simp))
  have hbx : Below W1.heap.size W1 W2 := Below.trans (by (repeat (first | exact Below.refl _ _ | (refine Below.alloc ?_ (by first | omega | (simp; try omega)) _) | apply Below.drew | apply below_drewN))) (hb.mono (by simp; try omega))
  clear hb
  have ZXS : Hid (W1.heap.size < W2.heap.size) := Lib.hid XSn.out.lt
  have hL9 : ∀ b, (Value.slice r1a r1n r1c).ownBlock = some b → W1.heap.size + 1 ≤ b ∧ b < W2.heap.size := fun b h => by have h9 := hI.lt b h; simp at h9; exact ⟨by omega, by omega⟩
  have hIx := Brs.mono (B := W1.heap.size) hI (by simp; try omega)
  clear hI
  have hI := hIx
  clear hIx
  have T_ := Lib.hid (T.out.trans (hbx.mono T.out.size))
  clear T
  have T := T_
  clear T_
  have Ir0_ := Lib.hid (Ir0.out.below hbx)
  clear Ir0
  have Ir0 := Ir0_
  clear Ir0_
  have ZW2 : Hid (W1.heap.size ≤ W2.heap.size) := Lib.hid hbx.size
  clear hbx
  have XS := XSn
  clear XSn
  have LTr1 := Lib.hid hL9
  clear hL9
  have Ir1 := Lib.hid hI
  clear hI
  obtain ⟨cXS, dXS, lXS⟩ := XS.out.two
  go_wp2_with fail
  refine (eqPuzzle_same on _ _ obs _ (Ir1.out.rd.below (by (repeat (first | exact Below.refl _ _ | (refine Below.alloc ?_ (by first | omega | (simp; try omega)) _) | apply Below.drew | apply below_drewN)))) (Ir0.out.rd.below (by (repeat (first | exact Below.refl _ _ | (refine Below.alloc ?_ (by first | omega | (simp; try omega)) _) | apply Below.drew | apply below_drewN)))) HZL.out).mono ?_
  rintro e W3 ⟨rfl, hb⟩
  clear cXS dXS lXS
  have XRn := Lib.hid ((Blk.new W2 #[.int .i64 on, .slice r1a r1n r1c] 30).below hb (by simp))
  have hbx : Below W2.heap.size W2 W3 := Below.trans (by (repeat (first | exact Below.refl _ _ | (refine Below.alloc ?_ (by first | omega | (simp; try omega)) _) | apply Below.drew | apply below_drewN))) (hb.mono (by simp; try omega))
  clear hb
  have ZXR : Hid (W2.heap.size < W3.heap.size) := Lib.hid XRn.out.lt
  have T_ := Lib.hid (T.out.trans (hbx.mono T.out.size))
  clear T
  have T := T_
  clear T_
  have Ir0_ := Lib.hid (Ir0.out.below hbx)
  clear Ir0
  have Ir0 := Ir0_
  clear Ir0_
  have XS_ := Lib.hid (XS.out.below hbx XS.out.lt)
  clear XS
  have XS := XS_
  clear XS_
  have Ir1_ := Lib.hid (Ir1.out.below hbx)
  clear Ir1
  have Ir1 := Ir1_
  clear Ir1_
  have ZW3 : Hid (W2.heap.size ≤ W3.heap.size) := Lib.hid hbx.size
  clear hbx
  have XR := XRn
  clear XRn
  obtain ⟨cXR, dXR, lXR⟩ := XR.out.two
  have hZL := HZL.out
  go_wp2_with fail
  refine (markPuzzle on _ obs _ _ Ir1.out HZL.out 1 (by decide) (by decide)).mono ?_
  rintro e W4 ⟨rfl, hm, hg⟩
  clear Ir1
  clear cXR dXR lXR
  have T_ := Lib.hid (T.out.grown hg T.out.size (fun b h => by have := (LTr1.out b h).1; (have := ZW1.out); (have := ZW2.out); (have := ZXS.out); (have := ZW3.out); (have := ZXR.out); omega))
  clear T
  have T := T_
  clear T_
  have Ir0_ := Lib.hid (Ir0.out.kept hg (apart_old LTr1.out LTr0.out (by (have := ZW1.out); (have := ZW2.out); (have := ZXS.out); (have := ZW3.out); (have := ZXR.out); omega)))
  have XS_ := Lib.hid (XS.out.kept hg (fun e => by have := (LTr1.out _ e.symm).1; (have := ZW1.out); (have := ZW2.out); (have := ZXS.out); (have := ZW3.out); (have := ZXR.out); omega))
  have XR_ := Lib.hid (XR.out.kept hg (fun e => by have := (LTr1.out _ e.symm).2; (have := ZW1.out); (have := ZW2.out); (have := ZXS.out); (have := ZW3.out); (have := ZXR.out); omega))
  clear Ir0
  have Ir0 := Ir0_
  clear Ir0_
  clear XS
  have XS := XS_
  clear XS_
  clear XR
  have XR := XR_
  clear XR_
  have ZW4 : Hid (W3.heap.size ≤ W4.heap.size) := Lib.hid hg.size
  clear hg
  have Im := Lib.hid hm
  clear hm
  obtain ⟨cXR, dXR, lXR⟩ := XR.out.two
  go_wp2_with fail
  refine (heldPuzzle on _ obs.length _ 1 Im.out.rd HZL.out (by decide) (by decide)).mono ?_
  rintro e W5 ⟨rfl, hb⟩
  clear cXR dXR lXR
  have T_ := Lib.hid (T.out.trans (hb.mono T.out.size))
  clear T
  have T := T_
  clear T_
  have Ir0_ := Lib.hid (Ir0.out.below hb)
  clear Ir0
  have Ir0 := Ir0_
  clear Ir0_
  have XS_ := Lib.hid (XS.out.below hb XS.out.lt)
  clear XS
  have XS := XS_
  clear XS_
  have XR_ := Lib.hid (XR.out.below hb XR.out.lt)
  clear XR
  have XR := XR_
  clear XR_
  have Im_ := Lib.hid (Im.out.below hb)
  clear Im
  have Im := Im_
  clear Im_
  have ZW5 : Hid (W4.heap.size ≤ W5.heap.size) := Lib.hid hb.size
  clear hb
  go_wp2_with fail
  refine (implParseIsles a0 _ HS0.out (P0.out.below (by first | with_reducible exact T.out | exact Below.alloc T.out (by have := T.out.size; omega) _))).mono ?_
  rw [HN.out, HZ.out, HO.out]
  rintro e W6 ⟨r2, rfl, hI, hb⟩
  obtain ⟨r2a, r2n, r2c, rfl⟩ := hI.form
  have T_ := Lib.hid (T.out.trans (hb.mono T.out.size))
  clear T
  have T := T_
  clear T_
  have Ir0_ := Lib.hid (Ir0.out.below hb)
  clear Ir0
  have Ir0 := Ir0_
  clear Ir0_
  have XS_ := Lib.hid (XS.out.below hb XS.out.lt)
  clear XS
  have XS := XS_
  clear XS_
  have XR_ := Lib.hid (XR.out.below hb XR.out.lt)
  clear XR
  have XR := XR_
  clear XR_
  have Im_ := Lib.hid (Im.out.below hb)
  clear Im
  have Im := Im_
  clear Im_
  have ZW6 : Hid (W5.heap.size ≤ W6.heap.size) := Lib.hid hb.size
  clear hb
  have LTr2 : Hid (∀ b, (Value.slice r2a r2n r2c).ownBlock = some b → W5.heap.size ≤ b ∧ b < W6.heap.size) := Lib.hid (fun b h => hI.lt b h)
  have Ir2 := Lib.hid hI
  clear hI
  obtain ⟨cXS, dXS, lXS⟩ := XS.out.two
  go_wp2_with fail
  refine (eqPuzzle_same on _ _ obs _ (Ir2.out.rd.below (by (repeat (first | exact Below.refl _ _ | (refine Below.alloc ?_ (by first | omega | (simp; try omega)) _) | apply Below.drew | apply below_drewN)))) (Ir0.out.rd.below (by (repeat (first | exact Below.refl _ _ | (refine Below.alloc ?_ (by first | omega | (simp; try omega)) _) | apply Below.drew | apply below_drewN)))) HZL.out).mono ?_
  rintro e W7 ⟨rfl, hb⟩
  clear cXS dXS lXS
  have XQn := Lib.hid ((Blk.new W6 #[.int .i64 on, .slice r2a r2n r2c] 30).below hb (by simp))
  have hbx : Below W6.heap.size W6 W7 := Below.trans (by (repeat (first | exact Below.refl _ _ | (refine Below.alloc ?_ (by first | omega | (simp; try omega)) _) | apply Below.drew | apply below_drewN))) (hb.mono (by simp; try omega))
  clear hb
  have ZXQ : Hid (W6.heap.size < W7.heap.size) := Lib.hid XQn.out.lt
  have T_ := Lib.hid (T.out.trans (hbx.mono T.out.size))
  clear T
  have T := T_
  clear T_
  have Ir0_ := Lib.hid (Ir0.out.below hbx)
  clear Ir0
  have Ir0 := Ir0_
  clear Ir0_
  have XS_ := Lib.hid (XS.out.below hbx XS.out.lt)
  clear XS
  have XS := XS_
  clear XS_
  have XR_ := Lib.hid (XR.out.below hbx XR.out.lt)
  clear XR
  have XR := XR_
  clear XR_
  have Im_ := Lib.hid (Im.out.below hbx)
  clear Im
  have Im := Im_
  clear Im_
  have Ir2_ := Lib.hid (Ir2.out.below hbx)
  clear Ir2
  have Ir2 := Ir2_
  clear Ir2_
  have ZW7 : Hid (W6.heap.size ≤ W7.heap.size) := Lib.hid hbx.size
  clear hbx
  have XQ := XQn
  clear XQn
  obtain ⟨cXR, dXR, lXR⟩ := XR.out.two
  go_wp2_with fail
  refine (heldPuzzle on _ obs.length _ 1 Im.out.rd HZL.out (by decide) (by decide)).mono ?_
  rintro e W8 ⟨rfl, hb⟩
  clear cXR dXR lXR
  have T_ := Lib.hid (T.out.trans (hb.mono T.out.size))
  clear T
  have T := T_
  clear T_
  have Ir0_ := Lib.hid (Ir0.out.below hb)
  clear Ir0
  have Ir0 := Ir0_
  clear Ir0_
  have XS_ := Lib.hid (XS.out.below hb XS.out.lt)
  clear XS
  have XS := XS_
  clear XS_
  have XR_ := Lib.hid (XR.out.below hb XR.out.lt)
  clear XR
  have XR := XR_
  clear XR_
  have Im_ := Lib.hid (Im.out.below hb)
  clear Im
  have Im := Im_
  clear Im_
  have Ir2_ := Lib.hid (Ir2.out.below hb)
  clear Ir2
  have Ir2 := Ir2_
  clear Ir2_
  have XQ_ := Lib.hid (XQ.out.below hb XQ.out.lt)
  clear XQ
  have XQ := XQ_
  clear XQ_
  have ZW8 : Hid (W7.heap.size ≤ W8.heap.size) := Lib.hid hb.size
  clear hb
  go_wp2
  go_ret
  exact ⟨rfl, T.out⟩

set_option maxRecDepth 100000 in
theorem lifted (os : Os) (started : os.Started) (H : Type) (enc : TypeId × Value → H) :
    ReturnsInHanded {} Tryd.checked os 4 .any (fun w args => (Rows.fnExactParsePuzzleSpec.pre enc Tryd.prog Tryd.f4 [] false w args ∧ laidMetH Tryd.prog laidI w) ∧ sizedMet enc Tryd.prog Tryd.f4 (OpenSpec.ofChange Rows.fnExactParsePuzzleSpec) false w args)
      (Rows.fnExactParsePuzzleSpec.post enc Tryd.prog Tryd.f4 false true false false) := by
  refine andShaped (C := Tryd.checked) (X := fun w _ => laidMetH Tryd.prog laidI w) (fun _ _ _ hh h => h.of_heap hh) Tryd.own started (by kernel_rfl) Tryd.func4
    (ChangeSpec.witness_at (enc := enc) (C := Tryd.checked) (os := os) (X := fun w _ => laidMetH Tryd.prog laidI w) false (laidWorldI os) #[.string ByteArray.empty] 8 rfl (by kernel_rfl) (by kernel_rfl) (by kernel_rfl) (by kernel_rfl) (by kernel_rfl) (laidWorld_metI os _)) ?_
  intro W base args ds gs before hval0 hW hL hSh
  have hval : ∀ (j : Nat) t v, Tryd.f4.params[j]? = some t → args[j]? = some v → Value.okWide Tryd.prog W .any base t v := hval0
  have hW' := hW
  obtain ⟨p, q, hA0, hV0, rfl, hfz, hnd⟩ := hW
  have hA : DataW.TrodAll enc Tryd.prog W 0 (fun _ => true) true Tryd.f4.params.toList args.toList ds p := hA0
  rw [Tryd.params4] at hA hval
  obtain ⟨v0, vs0, d0, ds0, p0, q0, hargs, rfl, rfl, h0, r0⟩ := trodAll_cons hA
  obtain ⟨rfl, rfl, rfl⟩ := trodAll_nil r0
  obtain rfl : args = #[v0] := by cases args; simp_all
  have hLd := laidI_of hL hSh
  obtain ⟨rfl, rfl⟩ := trodVars_none hV0
  obtain ⟨a0, rfl, rfl, rfl, w0⟩ := open_string Tryd.underlying9 (hval 0 9 v0 rfl rfl) h0
  clear hA0 hval0 hV0
  refine (walk a0 w0 W (Lib.hid hLd) ).mono fun e W' ⟨he, bel⟩ => ?_
  subst he
  exact ⟨_, rfl, _, _, _, [], _, [], hW', trodAll_mk1 (shut_bool Tryd.underlying4 _), (trodAll_cons_mk (shut_string Tryd.underlying9 w0) trodAll_mk0), rfl, bel.frame _, fun h => by cases h⟩

theorem over : Rows.fnExactParsePuzzleRow.holds Tryd.pinned (OpenSpec.ofChange Rows.fnExactParsePuzzleSpec) :=
  OpenClaim.holds_of_wide 4 Tryd.f4 rfl rfl rfl rfl rfl rfl rfl ⟨rfl, rfl, rfl, rfl, rfl⟩ rfl rfl rfl rfl rfl (by kernel_rfl) Tryd.func4 (by kernel_rfl)
    (of_decide_eq_true (by kernel_rfl)) (by unfold Func.isWrapper; first | (rw [if_pos (by decide +kernel)]; kernel_rfl) | (rw [if_neg (by decide +kernel)]; exact ⟨rfl, rfl⟩))
    (fun os started H enc _ => lifted os started H enc)

theorem proved : Rows.FnExactParsePuzzleCardSaid :=
  Claim7.holds_tied_plain_at .later [] [.data, .data, .data, .data, .sentinel, .sentinel, .pinned] true (true, "7b9ee3ab33d57efdac86114ca44cbdf984daa8fcba81b9c0e7bc4f609f54e1c8") true
    over (fun _ h => by cases h) (by kernel_rfl) (fun _ h => by cases h) fnExactParsePuzzle_row_tie rfl ⟨rfl, rfl⟩ (by kernel_rfl) rfl
    (fun f fn hf hfn => by
      obtain rfl : f = 4 := Option.some.inj ((show Tryd.prog.funcNamed "loop.example/g01352/laws.FnExactParsePuzzle" = some 4 by kernel_rfl).symm.trans hf) |>.symm
      obtain rfl : fn = Tryd.f4 := (Option.some.inj (Tryd.func4.symm.trans hfn)).symm
      exact ⟨by kernel_rfl, fun j t ht => by
        rw [Tryd.params4] at ht
        have h3 : t = 9 := by
          rcases j with _ | j
          · simpa using ht.symm
          simp at ht
        rcases h3 with rfl
        · exact (show Tryd.prog.wantsStandIn 9 = false by kernel_rfl)
        ⟩)
    (by kernel_rfl)
#print axioms proved
end Go.Proofs.YtcpipacombnhdaaDoor.fnExactParsePuzzleDone
