/- FnExactSureSigns: for every input the law returns true; each argument reads behind the call as it read before. No condition. -/
import Derived.Test.YtnmeomcoeknjoabKsv
import Derived.Test.YtnmeomcoeknjoabKo
import Derived.Test.YtnmeomcoeknjoabRows
import Derived.WalkKit
import Derived.ProofKit
import Derived.OpenShut
import Derived.ShutString
import Derived.ChangeOld
import Derived.Below
import Derived.WalkSpells
import Derived.WalkLawsBesides
import Derived.Lib.Hide
namespace Go.Proofs.Ytnmeomcoeknjoab.fnExactSureSignsDone
open Go.ChangeShapes Go.WideShapes Go.ChangeAt Go.RowKit
open Go.ChangeMaps (open_string shut_string)
set_option linter.unusedVariables false

theorem own : ownKnob Try.prog.godebug = none := by kernel_rfl
theorem laidOut : laidOutB Try.prog = true := by kernel_rfl

set_option maxRecDepth 100000 in
set_option maxHeartbeats 8000000 in
theorem walk (n0 : Int) (a0 : Option Addr) (len0 cap0 : Nat) (bs0 : List Br)  (W0 : World) (w0 : RdB W0 (.slice a0 len0 cap0) bs0) (m0 : len0 ≤ 9223372036854775807) :
    Calls Try.prog 7 #[.agg #[.int .i64 n0, .slice a0 len0 cap0]] W0 fun e w' => e = .returned (.bool true) ∧ Below W0.heap.size W0 w' := by
  have R0 := Lib.hid w0
  have hlen : len0 = bs0.length := by obtain ⟨_, _, _, e, h, _⟩ := w0; injection e with e1 e2 e3; omega
  clear w0
  by_cases hbl : 1048576 < len0
  · clear hlen
    go_enter Try.func7, Try.ntmps7
    go_wp2_with fail
    refine (szPuzzle_no _ _ len0 _ _ _ rfl hbl m0).mono ?_
    rintro e W1 ⟨rfl, hb1⟩
    have T := Lib.hid (Below.trans (by (repeat (first | exact Below.refl _ _ | (refine Below.alloc ?_ (by first | omega | (simp; try omega)) _) | apply Below.drew | apply below_drewN))) (hb1.mono (by simp; try omega)) : Below W0.heap.size W0 W1)
    clear hb1
    go_wp2
    go_ret
    exact ⟨rfl, T.out⟩
  have hle : len0 ≤ 1048576 := by omega
  have hbn : bs0.length ≤ 1048576 := by omega
  have HBN := Lib.hid hbn
  clear hbl hlen m0 hbn
  obtain ⟨x, y, hv0⟩ := ssV_form n0 bs0
  have HV := Lib.hid hv0
  clear hv0
  go_enter Try.func7, Try.ntmps7
  go_wp2_with fail
  refine (szPuzzle _ _ len0 _ _ _ rfl hle).mono ?_
  rintro e W1 ⟨rfl, hb⟩
  have XA := Lib.hid ((Blk.new W0 #[.int .i64 n0, .slice a0 len0 cap0] 31).below hb (by simp))
  have T := Lib.hid (Below.trans (by (repeat (first | exact Below.refl _ _ | (refine Below.alloc ?_ (by first | omega | (simp; try omega)) _) | apply Below.drew | apply below_drewN))) (hb.mono (by simp; try omega)) : Below W0.heap.size W0 W1)
  clear hb
  obtain ⟨ca, da, la⟩ := XA.out.two
  go_wp2_with fail
  refine (toPuzzle n0 _ bs0 _ (R0.out.below T.out) HBN.out).mono ?_
  rintro e W2 ⟨u0, rfl, hI, hb⟩
  clear ca da la
  have T_ := Lib.hid (T.out.trans (hb.mono T.out.size))
  clear T
  have T := T_
  clear T_
  have XA_ := Lib.hid (XA.out.below hb XA.out.lt)
  clear XA
  have XA := XA_
  clear XA_
  clear hb
  have Iu0 := Lib.hid hI
  have LTu0 : Hid (∀ b, u0.ownBlock = some b → W1.heap.size ≤ b ∧ b < W2.heap.size) := Lib.hid (fun b h => hI.lt b h)
  clear hI
  go_wp2_with fail
  refine (specSure n0 _ bs0 _ Iu0.out.rd HBN.out).mono ?_
  rw [HV.out]
  rintro e W3 ⟨rfl, hb⟩
  have T_ := Lib.hid (T.out.trans (hb.mono T.out.size))
  clear T
  have T := T_
  clear T_
  have XA_ := Lib.hid (XA.out.below hb XA.out.lt)
  clear XA
  have XA := XA_
  clear XA_
  have Iu0_ := Lib.hid (Iu0.out.below hb)
  clear Iu0
  have Iu0 := Iu0_
  clear Iu0_
  clear hb
  clear Iu0
  obtain ⟨ca, da, la⟩ := XA.out.two
  go_wp2_with fail
  refine (toPuzzle n0 _ bs0 _ (R0.out.below T.out) HBN.out).mono ?_
  rintro e W4 ⟨u1, rfl, hI, hb⟩
  clear ca da la
  have T_ := Lib.hid (T.out.trans (hb.mono T.out.size))
  clear T
  have T := T_
  clear T_
  have XA_ := Lib.hid (XA.out.below hb XA.out.lt)
  clear XA
  have XA := XA_
  clear XA_
  clear hb
  have Iu1 := Lib.hid hI
  have LTu1 : Hid (∀ b, u1.ownBlock = some b → W3.heap.size ≤ b ∧ b < W4.heap.size) := Lib.hid (fun b h => hI.lt b h)
  clear hI
  obtain ⟨p1, q1, r1x, rfl⟩ := Iu1.out.form
  go_wp2_with fail
  refine (implSure n0 _ bs0 _ (Iu1.out.rd.below ((Below.refl _ _).alloc (Nat.le_refl _) _)) HBN.out).mono ?_
  rw [HV.out]
  rintro e W5 ⟨rfl, hb⟩
  have XXn := Lib.hid ((Blk.new W4 #[.int .i64 n0, .slice p1 q1 r1x] 38).below hb (by simp))
  have hbx : Below W4.heap.size W4 W5 := Below.trans (by (repeat (first | exact Below.refl _ _ | (refine Below.alloc ?_ (by first | omega | (simp; try omega)) _) | apply Below.drew | apply below_drewN))) (hb.mono (by simp; try omega))
  clear hb
  have T_ := Lib.hid (T.out.trans (hbx.mono T.out.size))
  clear T
  have T := T_
  clear T_
  have XA_ := Lib.hid (XA.out.below hbx XA.out.lt)
  clear XA
  have XA := XA_
  clear XA_
  have Iu1_ := Lib.hid (Iu1.out.below hbx)
  clear Iu1
  have Iu1 := Iu1_
  clear Iu1_
  clear hbx
  have XX := XXn
  clear XXn
  obtain ⟨ca, da, la⟩ := XA.out.two
  obtain ⟨cx, dx, lx⟩ := XX.out.two
  go_wp2_with fail
  go_cut [39] (fun sx wx => sx = .bool false ∧ Hid (Below W5.heap.size W5 wx))
  case first =>
    go_region_with (first
      | (go_at_call 15; refine (toPuzzle n0 _ bs0 _ (R0.out.below (T.out.trans (by (repeat (first | exact Below.refl _ _ | (refine Below.alloc ?_ (by first | omega | (simp; try omega)) _) | apply Below.drew | apply below_drewN))))) HBN.out).mono ?_; rintro e wy ⟨uy, rfl, hIy, hby⟩; have HBy := Lib.hid (Below.trans (by (repeat (first | exact Below.refl _ _ | (refine Below.alloc ?_ (by first | omega | (simp; try omega)) _) | apply Below.drew | apply below_drewN))) (hby.mono (by first | omega | (simp; try omega))) : Below W5.heap.size W5 wy); have Iy := Lib.hid hIy.rd; clear hIy hby; obtain ⟨cxy, dxy, lxy⟩ := (XX.out.below HBy.out XX.out.lt).two)
      | (go_at_call 18; refine (eqPuzzle_same n0 _ _ bs0 _ (Iu1.out.rd.below (HBy.out.trans (by have := HBy.out.size; (repeat (first | exact Below.refl _ _ | (refine Below.alloc ?_ (by first | omega | (simp; try omega)) _) | apply Below.drew | apply below_drewN))))) (Iy.out.below (by (repeat (first | exact Below.refl _ _ | (refine Below.alloc ?_ (by first | omega | (simp; try omega)) _) | apply Below.drew | apply below_drewN)))) (by have := HBN.out; omega)).mono ?_; rintro e wz ⟨rfl, hbz⟩; have HBz := Lib.hid (HBy.out.trans (Below.trans (by have := HBy.out.size; (repeat (first | exact Below.refl _ _ | (refine Below.alloc ?_ (by first | omega | (simp; try omega)) _) | apply Below.drew | apply below_drewN))) (hbz.mono (by have := HBy.out.size; first | omega | (simp; try omega)))) : Below W5.heap.size W5 wz); clear hbz))
    all_goals
      go_wp2_with fail
      go_meet
      exact ⟨rfl, HBz⟩
  case rest =>
    obtain ⟨rfl, HBc⟩ := hcut
    have hb := HBc.out
    clear ca da la
    clear cx dx lx
    clear HBc
    have T_ := Lib.hid (T.out.trans (hb.mono T.out.size))
    clear T
    have T := T_
    clear T_
    have XA_ := Lib.hid (XA.out.below hb XA.out.lt)
    clear XA
    have XA := XA_
    clear XA_
    have Iu1_ := Lib.hid (Iu1.out.below hb)
    clear Iu1
    have Iu1 := Iu1_
    clear Iu1_
    have XX_ := Lib.hid (XX.out.below hb XX.out.lt)
    clear XX
    have XX := XX_
    clear XX_
    clear hb
    go_wp2
    go_ret
    exact ⟨rfl, T.out⟩

set_option maxRecDepth 100000 in
theorem lifted (os : Os) (started : os.Started) (H : Type) (enc : TypeId × Value → H) :
    ReturnsInHanded {} Try.checked os 7 .any (Rows.fnExactSureSignsSpec.pre6 enc Try.prog Try.f7 Rows.fnExactSureSignsRow.domain false) (Rows.fnExactSureSignsSpec.post enc Try.prog Try.f7 false true false false) := by
  refine returnsInHanded_of_change (C := Try.checked) own started (by kernel_rfl) Try.func7
    (ChangeSpec.witness6 (enc := enc) (C := Try.checked) false ⟨#[], #[.agg #[.int .i64 0, .slice none 0 0]], []⟩ 8 (by kernel_rfl) (by kernel_rfl) (by kernel_rfl) (by kernel_rfl)) ?_
  intro W base args ds gs before hval0 hW hcnd _
  have hval : ∀ (j : Nat) t v, Try.f7.params[j]? = some t → args[j]? = some v → Value.okWide Try.prog W .any base t v := hval0
  have hW' := hW
  obtain ⟨p, q, hA0, hV, rfl, hfz, hnd⟩ := hW
  have hA : DataW.TrodAll enc Try.prog W 0 (fun _ => true) true Try.f7.params.toList args.toList ds p := hA0
  rw [Try.params7] at hA hval
  obtain ⟨v0, vs0, d0, ds0, p0, q0, hargs, rfl, rfl, h0, r0⟩ := trodAll_cons hA
  obtain ⟨rfl, rfl, rfl⟩ := trodAll_nil r0
  obtain rfl : args = #[v0] := by cases args; simp_all
  obtain ⟨rfl, rfl⟩ := trodVars_none hV
  have k0 := h0
  have lt0 : ∀ x ∈ p0, x.block < W.heap.size := by obtain ⟨m, hm⟩ := k0; exact DataW.trod_lt m _ _ _ hm
  obtain ⟨n0, a0, len0, cap0, bs0, rfl, w0, m0⟩ := openPuzzle (hval 0 31 v0 rfl rfl) h0
  clear hA0 hval0
  refine (walk n0 a0 len0 cap0 bs0  W w0 m0).mono fun e W' ⟨he, bel⟩ => ?_
  subst he
  exact ⟨_, rfl, _, _, _, [], _, [], hW', trodAll_mk1 (shut_bool Try.underlying4 _), (trodAll_cons_mk (Below.trod laidOut (by kernel_rfl) (of_decide_eq_true (by kernel_rfl)) k0 bel lt0) trodAll_mk0), rfl, bel.frame _, fun h => by cases h⟩

theorem over : Rows.fnExactSureSignsRow.holds Try.pinned (OpenSpec.ofChange Rows.fnExactSureSignsSpec) :=
  OpenClaim.holds_of_wide 7 Try.f7 rfl rfl rfl rfl rfl rfl rfl ⟨rfl, rfl, rfl, rfl, rfl⟩ rfl rfl rfl rfl rfl (by kernel_rfl) Try.func7 (by kernel_rfl)
    (of_decide_eq_true (by kernel_rfl)) (by unfold Func.isWrapper; first | (rw [if_pos (by decide +kernel)]; kernel_rfl) | (rw [if_neg (by decide +kernel)]; exact ⟨rfl, rfl⟩))
    (fun os started H enc _ => lifted os started H enc)

theorem proved : Rows.FnExactSureSignsSaid := over
#print axioms proved
end Go.Proofs.Ytnmeomcoeknjoab.fnExactSureSignsDone
