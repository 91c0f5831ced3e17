/- FnExactHarderPuzzle: for every input the law returns true; each argument reads behind the call as it read before. No condition. -/
import Derived.Test.YtnmeomcoeknjoacKzm
import Derived.Test.YtnmeomcoeknjoacKo
import Derived.Test.YtnmeomcoeknjoacRows
import Derived.WalkKit
import Derived.ProofKit
import Derived.OpenShut
import Derived.ShutString
import Derived.ChangeOld
import Derived.Below
import Derived.WalkSpells
import Derived.WalkLawsBesides
import Derived.Lib.Hide
namespace Go.Proofs.Ytnmeomcoeknjoac.fnExactHarderPuzzleDone
open Go.ChangeShapes Go.WideShapes Go.ChangeAt Go.RowKit
open Go.ChangeMaps (open_string shut_string)
set_option linter.unusedVariables false

theorem own : ownKnob Try.prog.godebug = none := by kernel_rfl
theorem laidOut : laidOutB Try.prog = true := by kernel_rfl

set_option maxRecDepth 100000 in
set_option maxHeartbeats 8000000 in
theorem walk (n0 : Int) (a0 : Option Addr) (len0 cap0 : Nat) (bs0 : List Br)  (W0 : World) (w0 : RdB W0 (.slice a0 len0 cap0) bs0) (m0 : len0 ≤ 9223372036854775807) :
    Calls Try.prog 6 #[.agg #[.int .i64 n0, .slice a0 len0 cap0]] W0 fun e w' => e = .returned (.bool true) ∧ Below W0.heap.size W0 w' := by
  have R0 := Lib.hid w0
  have hlen : len0 = bs0.length := by obtain ⟨_, _, _, e, h, _⟩ := w0; injection e with e1 e2 e3; omega
  clear w0
  by_cases hbl : 1048576 < len0
  · clear hlen
    go_enter Try.func6, Try.ntmps6
    go_wp2_with fail
    refine (szPuzzle_no _ _ len0 _ _ _ rfl hbl m0).mono ?_
    rintro e W1 ⟨rfl, hb1⟩
    have T := Lib.hid (Below.trans (by (repeat (first | exact Below.refl _ _ | (refine Below.alloc ?_ (by first | omega | (simp; try omega)) _) | apply Below.drew | apply below_drewN))) (hb1.mono (by simp; try omega)) : Below W0.heap.size W0 W1)
    clear hb1
    go_wp2
    go_ret
    exact ⟨rfl, T.out⟩
  have hle : len0 ≤ 1048576 := by omega
  have hbn : bs0.length ≤ 1048576 := by omega
  have HBN := Lib.hid hbn
  clear hbl hlen m0 hbn
  have hzl : (hpL n0 bs0).length ≤ 16777216 := (by have := hpL_len n0 bs0; omega)
  generalize hon : (hpN n0 bs0) = on
  generalize hzs : (hpL n0 bs0) = obs at hzl
  generalize hok : (hpOK n0 bs0) = ok
  have HN := Lib.hid hon
  have HZ := Lib.hid hzs
  have HO := Lib.hid hok
  have HZL := Lib.hid hzl
  clear hon hzs hok hzl
  go_enter Try.func6, Try.ntmps6
  go_wp2_with fail
  refine (szPuzzle _ _ len0 _ _ _ rfl hle).mono ?_
  rintro e W1 ⟨rfl, hb⟩
  have XA := Lib.hid ((Blk.new W0 #[.int .i64 n0, .slice a0 len0 cap0] 24).below hb (by simp))
  have T := Lib.hid (Below.trans (by (repeat (first | exact Below.refl _ _ | (refine Below.alloc ?_ (by first | omega | (simp; try omega)) _) | apply Below.drew | apply below_drewN))) (hb.mono (by simp; try omega)) : Below W0.heap.size W0 W1)
  clear hb
  have ZA : Hid (W0.heap.size < W1.heap.size) := Lib.hid XA.out.lt
  have ZW1 : Hid (W0.heap.size ≤ W1.heap.size) := Lib.hid T.out.size
  obtain ⟨cXA, dXA, lXA⟩ := XA.out.two
  go_wp2_with fail
  refine (toPuzzle n0 _ bs0 _ (R0.out.below T.out) HBN.out).mono ?_
  rintro e W2 ⟨u0, rfl, hI, hb⟩
  obtain ⟨u0a, u0n, u0c, rfl⟩ := hI.form
  clear cXA dXA lXA
  have T_ := Lib.hid (T.out.trans (hb.mono T.out.size))
  clear T
  have T := T_
  clear T_
  have XA_ := Lib.hid (XA.out.below hb XA.out.lt)
  clear XA
  have XA := XA_
  clear XA_
  have ZW2 : Hid (W1.heap.size ≤ W2.heap.size) := Lib.hid hb.size
  clear hb
  have LTu0 : Hid (∀ b, (Value.slice u0a u0n u0c).ownBlock = some b → W1.heap.size ≤ b ∧ b < W2.heap.size) := Lib.hid (fun b h => hI.lt b h)
  have Iu0 := Lib.hid hI
  clear hI
  go_wp2_with fail
  refine (specHar n0 _ bs0 _ Iu0.out.rd HBN.out).mono ?_
  rw [HN.out, HZ.out, HO.out]
  rintro e W3 ⟨r0, rfl, hI, hb⟩
  obtain ⟨r0a, r0n, r0c, rfl⟩ := hI.form
  have T_ := Lib.hid (T.out.trans (hb.mono T.out.size))
  clear T
  have T := T_
  clear T_
  have XA_ := Lib.hid (XA.out.below hb XA.out.lt)
  clear XA
  have XA := XA_
  clear XA_
  have Iu0_ := Lib.hid (Iu0.out.below hb)
  clear Iu0
  have Iu0 := Iu0_
  clear Iu0_
  have ZW3 : Hid (W2.heap.size ≤ W3.heap.size) := Lib.hid hb.size
  clear hb
  have LTr0 : Hid (∀ b, (Value.slice r0a r0n r0c).ownBlock = some b → W2.heap.size ≤ b ∧ b < W3.heap.size) := Lib.hid (fun b h => hI.lt b h)
  have Ir0 := Lib.hid hI
  clear hI
  clear Iu0
  obtain ⟨cXA, dXA, lXA⟩ := XA.out.two
  go_wp2_with fail
  refine (toPuzzle n0 _ bs0 _ (R0.out.below (T.out.trans (by (repeat (first | exact Below.refl _ _ | (refine Below.alloc ?_ (by first | omega | (simp; try omega)) _) | apply Below.drew | apply below_drewN))))) HBN.out).mono ?_
  rintro e W4 ⟨u1, rfl, hI, hb⟩
  obtain ⟨u1a, u1n, u1c, rfl⟩ := hI.form
  clear cXA dXA lXA
  have XSn := Lib.hid ((Blk.new W3 #[.int .i64 on, .slice r0a r0n r0c] 31).below hb (by simp))
  have hbx : Below W3.heap.size W3 W4 := Below.trans (by (repeat (first | exact Below.refl _ _ | (refine Below.alloc ?_ (by first | omega | (simp; try omega)) _) | apply Below.drew | apply below_drewN))) (hb.mono (by simp; try omega))
  clear hb
  have ZXS : Hid (W3.heap.size < W4.heap.size) := Lib.hid XSn.out.lt
  have hL9 : ∀ b, (Value.slice u1a u1n u1c).ownBlock = some b → W3.heap.size + 1 ≤ b ∧ b < W4.heap.size := fun b h => by have h9 := hI.lt b h; simp at h9; exact ⟨by omega, by omega⟩
  have hIx := Brs.mono (B := W3.heap.size) hI (by simp; try omega)
  clear hI
  have hI := hIx
  clear hIx
  have T_ := Lib.hid (T.out.trans (hbx.mono T.out.size))
  clear T
  have T := T_
  clear T_
  have XA_ := Lib.hid (XA.out.below hbx XA.out.lt)
  clear XA
  have XA := XA_
  clear XA_
  have Ir0_ := Lib.hid (Ir0.out.below hbx)
  clear Ir0
  have Ir0 := Ir0_
  clear Ir0_
  have ZW4 : Hid (W3.heap.size ≤ W4.heap.size) := Lib.hid hbx.size
  clear hbx
  have XS := XSn
  clear XSn
  have LTu1 := Lib.hid hL9
  clear hL9
  have Iu1 := Lib.hid hI
  clear hI
  go_wp2_with fail
  refine (implHar n0 _ bs0 _ (Iu1.out.rd.below (by (repeat (first | exact Below.refl _ _ | (refine Below.alloc ?_ (by first | omega | (simp; try omega)) _) | apply Below.drew | apply below_drewN)))) HBN.out).mono ?_
  rw [HN.out, HZ.out, HO.out]
  rintro e W5 ⟨r1, rfl, hI, hb⟩
  obtain ⟨r1a, r1n, r1c, rfl⟩ := hI.form
  have XXn := Lib.hid ((Blk.new W4 #[.int .i64 n0, .slice u1a u1n u1c] 31).below hb (by simp))
  have hbx : Below W4.heap.size W4 W5 := Below.trans (by (repeat (first | exact Below.refl _ _ | (refine Below.alloc ?_ (by first | omega | (simp; try omega)) _) | apply Below.drew | apply below_drewN))) (hb.mono (by simp; try omega))
  clear hb
  have ZXX : Hid (W4.heap.size < W5.heap.size) := Lib.hid XXn.out.lt
  have hL9 : ∀ b, (Value.slice r1a r1n r1c).ownBlock = some b → W4.heap.size + 1 ≤ b ∧ b < W5.heap.size := fun b h => by have h9 := hI.lt b h; simp at h9; exact ⟨by omega, by omega⟩
  have hIx := Brs.mono (B := W4.heap.size) hI (by simp; try omega)
  clear hI
  have hI := hIx
  clear hIx
  have T_ := Lib.hid (T.out.trans (hbx.mono T.out.size))
  clear T
  have T := T_
  clear T_
  have XA_ := Lib.hid (XA.out.below hbx XA.out.lt)
  clear XA
  have XA := XA_
  clear XA_
  have Ir0_ := Lib.hid (Ir0.out.below hbx)
  clear Ir0
  have Ir0 := Ir0_
  clear Ir0_
  have XS_ := Lib.hid (XS.out.below hbx XS.out.lt)
  clear XS
  have XS := XS_
  clear XS_
  have Iu1_ := Lib.hid (Iu1.out.below hbx)
  clear Iu1
  have Iu1 := Iu1_
  clear Iu1_
  have ZW5 : Hid (W4.heap.size ≤ W5.heap.size) := Lib.hid hbx.size
  clear hbx
  have XX := XXn
  clear XXn
  have LTr1 := Lib.hid hL9
  clear hL9
  have Ir1 := Lib.hid hI
  clear hI
  obtain ⟨cXS, dXS, lXS⟩ := XS.out.two
  go_wp2_with fail
  refine (eqPuzzle_same on _ _ obs _ (Ir1.out.rd.below (by (repeat (first | exact Below.refl _ _ | (refine Below.alloc ?_ (by first | omega | (simp; try omega)) _) | apply Below.drew | apply below_drewN)))) (Ir0.out.rd.below (by (repeat (first | exact Below.refl _ _ | (refine Below.alloc ?_ (by first | omega | (simp; try omega)) _) | apply Below.drew | apply below_drewN)))) HZL.out).mono ?_
  rintro e W6 ⟨rfl, hb⟩
  clear cXS dXS lXS
  have XRn := Lib.hid ((Blk.new W5 #[.int .i64 on, .slice r1a r1n r1c] 31).below hb (by simp))
  have hbx : Below W5.heap.size W5 W6 := Below.trans (by (repeat (first | exact Below.refl _ _ | (refine Below.alloc ?_ (by first | omega | (simp; try omega)) _) | apply Below.drew | apply below_drewN))) (hb.mono (by simp; try omega))
  clear hb
  have ZXR : Hid (W5.heap.size < W6.heap.size) := Lib.hid XRn.out.lt
  have T_ := Lib.hid (T.out.trans (hbx.mono T.out.size))
  clear T
  have T := T_
  clear T_
  have XA_ := Lib.hid (XA.out.below hbx XA.out.lt)
  clear XA
  have XA := XA_
  clear XA_
  have Ir0_ := Lib.hid (Ir0.out.below hbx)
  clear Ir0
  have Ir0 := Ir0_
  clear Ir0_
  have XS_ := Lib.hid (XS.out.below hbx XS.out.lt)
  clear XS
  have XS := XS_
  clear XS_
  have Iu1_ := Lib.hid (Iu1.out.below hbx)
  clear Iu1
  have Iu1 := Iu1_
  clear Iu1_
  have XX_ := Lib.hid (XX.out.below hbx XX.out.lt)
  clear XX
  have XX := XX_
  clear XX_
  have Ir1_ := Lib.hid (Ir1.out.below hbx)
  clear Ir1
  have Ir1 := Ir1_
  clear Ir1_
  have ZW6 : Hid (W5.heap.size ≤ W6.heap.size) := Lib.hid hbx.size
  clear hbx
  have XR := XRn
  clear XRn
  obtain ⟨cXA, dXA, lXA⟩ := XA.out.two
  obtain ⟨cXX, dXX, lXX⟩ := XX.out.two
  go_wp2_with fail
  go_cut [45] (fun sx wx => sx = .bool false ∧ Hid (Below W6.heap.size W6 wx))
  case first =>
    go_region_with (first
      | (go_at_call 9; refine (toPuzzle n0 _ bs0 _ (R0.out.below (T.out.trans (by (repeat (first | exact Below.refl _ _ | (refine Below.alloc ?_ (by first | omega | (simp; try omega)) _) | apply Below.drew | apply below_drewN))))) HBN.out).mono ?_; rintro e wy ⟨uy, rfl, hIy, hby⟩; have HBy := Lib.hid (Below.trans (by (repeat (first | exact Below.refl _ _ | (refine Below.alloc ?_ (by first | omega | (simp; try omega)) _) | apply Below.drew | apply below_drewN))) (hby.mono (by first | omega | (simp; try omega))) : Below W6.heap.size W6 wy); have Iy := Lib.hid hIy.rd; clear hIy hby; obtain ⟨cxy, dxy, lxy⟩ := (XX.out.below HBy.out XX.out.lt).two)
      | (go_at_call 12; refine (eqPuzzle_same n0 _ _ bs0 _ (Iu1.out.rd.below (HBy.out.trans (by have := HBy.out.size; (repeat (first | exact Below.refl _ _ | (refine Below.alloc ?_ (by first | omega | (simp; try omega)) _) | apply Below.drew | apply below_drewN))))) (Iy.out.below (by (repeat (first | exact Below.refl _ _ | (refine Below.alloc ?_ (by first | omega | (simp; try omega)) _) | apply Below.drew | apply below_drewN)))) (by have := HBN.out; omega)).mono ?_; rintro e wz ⟨rfl, hbz⟩; have HBz := Lib.hid (HBy.out.trans (Below.trans (by have := HBy.out.size; (repeat (first | exact Below.refl _ _ | (refine Below.alloc ?_ (by first | omega | (simp; try omega)) _) | apply Below.drew | apply below_drewN))) (hbz.mono (by have := HBy.out.size; first | omega | (simp; try omega)))) : Below W6.heap.size W6 wz); clear hbz))
    all_goals
      go_wp2_with fail
      go_meet
      exact ⟨rfl, HBz⟩
  case rest =>
    obtain ⟨rfl, HBc⟩ := hcut
    have hb := HBc.out
    clear cXA dXA lXA
    clear cXX dXX lXX
    clear HBc
    have T_ := Lib.hid (T.out.trans (hb.mono T.out.size))
    clear T
    have T := T_
    clear T_
    have XA_ := Lib.hid (XA.out.below hb XA.out.lt)
    clear XA
    have XA := XA_
    clear XA_
    have Ir0_ := Lib.hid (Ir0.out.below hb)
    clear Ir0
    have Ir0 := Ir0_
    clear Ir0_
    have XS_ := Lib.hid (XS.out.below hb XS.out.lt)
    clear XS
    have XS := XS_
    clear XS_
    have Iu1_ := Lib.hid (Iu1.out.below hb)
    clear Iu1
    have Iu1 := Iu1_
    clear Iu1_
    have XX_ := Lib.hid (XX.out.below hb XX.out.lt)
    clear XX
    have XX := XX_
    clear XX_
    have Ir1_ := Lib.hid (Ir1.out.below hb)
    clear Ir1
    have Ir1 := Ir1_
    clear Ir1_
    have XR_ := Lib.hid (XR.out.below hb XR.out.lt)
    clear XR
    have XR := XR_
    clear XR_
    have Zwc : Hid (W6.heap.size ≤ wc.heap.size) := Lib.hid hb.size
    clear hb
    obtain ⟨cXX, dXX, lXX⟩ := XX.out.two
    go_wp2_with fail
    refine (markPuzzle n0 _ bs0 _ _ Iu1.out (by have := HBN.out; omega) 1 (by decide) (by decide)).mono ?_
    rintro e W7 ⟨rfl, hmx, hg⟩
    clear hmx
    clear cXX dXX lXX
    have XXlt := Lib.hid XX.out.lt
    have T_ := Lib.hid (T.out.grown hg T.out.size (fun b h => by have := (LTu1.out b h).1; (have := ZA.out); (have := ZW1.out); (have := ZW2.out); (have := ZW3.out); (have := ZW4.out); (have := ZXS.out); (have := ZW5.out); (have := ZXX.out); (have := ZW6.out); (have := ZXR.out); (have := Zwc.out); omega))
    clear T
    have T := T_
    clear T_
    have XA_ := Lib.hid (XA.out.kept hg (fun e => by have := (LTu1.out _ e.symm).1; (have := ZA.out); (have := ZW1.out); (have := ZW2.out); (have := ZW3.out); (have := ZW4.out); (have := ZXS.out); (have := ZW5.out); (have := ZXX.out); (have := ZW6.out); (have := ZXR.out); (have := Zwc.out); omega))
    have Ir0_ := Lib.hid (Ir0.out.kept hg (apart_old LTu1.out LTr0.out (by (have := ZA.out); (have := ZW1.out); (have := ZW2.out); (have := ZW3.out); (have := ZW4.out); (have := ZXS.out); (have := ZW5.out); (have := ZXX.out); (have := ZW6.out); (have := ZXR.out); (have := Zwc.out); omega)))
    have XS_ := Lib.hid (XS.out.kept hg (fun e => by have := (LTu1.out _ e.symm).1; (have := ZA.out); (have := ZW1.out); (have := ZW2.out); (have := ZW3.out); (have := ZW4.out); (have := ZXS.out); (have := ZW5.out); (have := ZXX.out); (have := ZW6.out); (have := ZXR.out); (have := Zwc.out); omega))
    have Ir1_ := Lib.hid (Ir1.out.kept hg (apart_new LTu1.out LTr1.out (by (have := ZA.out); (have := ZW1.out); (have := ZW2.out); (have := ZW3.out); (have := ZW4.out); (have := ZXS.out); (have := ZW5.out); (have := ZXX.out); (have := ZW6.out); (have := ZXR.out); (have := Zwc.out); omega)))
    have XR_ := Lib.hid (XR.out.kept hg (fun e => by have := (LTu1.out _ e.symm).2; (have := ZA.out); (have := ZW1.out); (have := ZW2.out); (have := ZW3.out); (have := ZW4.out); (have := ZXS.out); (have := ZW5.out); (have := ZXX.out); (have := ZW6.out); (have := ZXR.out); (have := Zwc.out); omega))
    clear XA
    have XA := XA_
    clear XA_
    clear Ir0
    have Ir0 := Ir0_
    clear Ir0_
    clear XS
    have XS := XS_
    clear XS_
    clear Iu1
    clear XX
    clear Ir1
    have Ir1 := Ir1_
    clear Ir1_
    clear XR
    have XR := XR_
    clear XR_
    have ZW7 : Hid (wc.heap.size ≤ W7.heap.size) := Lib.hid hg.size
    clear hg
    have hBN := HBN.out
    obtain ⟨cXS, dXS, lXS⟩ := XS.out.two
    obtain ⟨cXR, dXR, lXR⟩ := XR.out.two
    go_wp2_with fail
    refine (eqPuzzle_same on _ _ obs _ Ir1.out.rd Ir0.out.rd HZL.out).mono ?_
    rintro e W8 ⟨rfl, hb⟩
    clear cXS dXS lXS
    clear cXR dXR lXR
    have T_ := Lib.hid (T.out.trans (hb.mono T.out.size))
    clear T
    have T := T_
    clear T_
    have XA_ := Lib.hid (XA.out.below hb XA.out.lt)
    clear XA
    have XA := XA_
    clear XA_
    have Ir0_ := Lib.hid (Ir0.out.below hb)
    clear Ir0
    have Ir0 := Ir0_
    clear Ir0_
    have XS_ := Lib.hid (XS.out.below hb XS.out.lt)
    clear XS
    have XS := XS_
    clear XS_
    have Ir1_ := Lib.hid (Ir1.out.below hb)
    clear Ir1
    have Ir1 := Ir1_
    clear Ir1_
    have XR_ := Lib.hid (XR.out.below hb XR.out.lt)
    clear XR
    have XR := XR_
    clear XR_
    have ZW8 : Hid (W7.heap.size ≤ W8.heap.size) := Lib.hid hb.size
    clear hb
    obtain ⟨cXR, dXR, lXR⟩ := XR.out.two
    go_wp2_with fail
    refine (markPuzzle on _ obs _ _ Ir1.out HZL.out 1 (by decide) (by decide)).mono ?_
    rintro e W9 ⟨rfl, hm, hg⟩
    clear Ir1
    clear cXR dXR lXR
    have T_ := Lib.hid (T.out.grown hg T.out.size (fun b h => by have := (LTr1.out b h).1; (have := ZA.out); (have := ZW1.out); (have := ZW2.out); (have := ZW3.out); (have := ZW4.out); (have := ZXS.out); (have := ZW5.out); (have := ZXX.out); (have := ZW6.out); (have := ZXR.out); (have := Zwc.out); (have := ZW7.out); (have := ZW8.out); omega))
    clear T
    have T := T_
    clear T_
    have XA_ := Lib.hid (XA.out.kept hg (fun e => by have := (LTr1.out _ e.symm).1; (have := ZA.out); (have := ZW1.out); (have := ZW2.out); (have := ZW3.out); (have := ZW4.out); (have := ZXS.out); (have := ZW5.out); (have := ZXX.out); (have := ZW6.out); (have := ZXR.out); (have := Zwc.out); (have := ZW7.out); (have := ZW8.out); omega))
    have Ir0_ := Lib.hid (Ir0.out.kept hg (apart_old LTr1.out LTr0.out (by (have := ZA.out); (have := ZW1.out); (have := ZW2.out); (have := ZW3.out); (have := ZW4.out); (have := ZXS.out); (have := ZW5.out); (have := ZXX.out); (have := ZW6.out); (have := ZXR.out); (have := Zwc.out); (have := ZW7.out); (have := ZW8.out); omega)))
    have XS_ := Lib.hid (XS.out.kept hg (fun e => by have := (LTr1.out _ e.symm).1; (have := ZA.out); (have := ZW1.out); (have := ZW2.out); (have := ZW3.out); (have := ZW4.out); (have := ZXS.out); (have := ZW5.out); (have := ZXX.out); (have := ZW6.out); (have := ZXR.out); (have := Zwc.out); (have := ZW7.out); (have := ZW8.out); omega))
    have XR_ := Lib.hid (XR.out.kept hg (fun e => by have := (LTr1.out _ e.symm).2; (have := ZA.out); (have := ZW1.out); (have := ZW2.out); (have := ZW3.out); (have := ZW4.out); (have := ZXS.out); (have := ZW5.out); (have := ZXX.out); (have := ZW6.out); (have := ZXR.out); (have := Zwc.out); (have := ZW7.out); (have := ZW8.out); omega))
    clear XA
    have XA := XA_
    clear XA_
    clear Ir0
    have Ir0 := Ir0_
    clear Ir0_
    clear XS
    have XS := XS_
    clear XS_
    clear XR
    have XR := XR_
    clear XR_
    have ZW9 : Hid (W8.heap.size ≤ W9.heap.size) := Lib.hid hg.size
    clear hg
    have Im := Lib.hid hm
    clear hm
    have hZL := HZL.out
    obtain ⟨cXR, dXR, lXR⟩ := XR.out.two
    go_wp2_with fail
    refine (heldPuzzle on _ obs.length _ 1 Im.out.rd HZL.out (by decide) (by decide)).mono ?_
    rintro e W10 ⟨rfl, hb⟩
    clear cXR dXR lXR
    have T_ := Lib.hid (T.out.trans (hb.mono T.out.size))
    clear T
    have T := T_
    clear T_
    have XA_ := Lib.hid (XA.out.below hb XA.out.lt)
    clear XA
    have XA := XA_
    clear XA_
    have Ir0_ := Lib.hid (Ir0.out.below hb)
    clear Ir0
    have Ir0 := Ir0_
    clear Ir0_
    have XS_ := Lib.hid (XS.out.below hb XS.out.lt)
    clear XS
    have XS := XS_
    clear XS_
    have XR_ := Lib.hid (XR.out.below hb XR.out.lt)
    clear XR
    have XR := XR_
    clear XR_
    have Im_ := Lib.hid (Im.out.below hb)
    clear Im
    have Im := Im_
    clear Im_
    have ZW10 : Hid (W9.heap.size ≤ W10.heap.size) := Lib.hid hb.size
    clear hb
    obtain ⟨cXA, dXA, lXA⟩ := XA.out.two
    go_wp2_with fail
    refine (toPuzzle n0 _ bs0 _ (R0.out.below T.out) HBN.out).mono ?_
    rintro e W11 ⟨u2, rfl, hI, hb⟩
    obtain ⟨u2a, u2n, u2c, rfl⟩ := hI.form
    clear cXA dXA lXA
    have T_ := Lib.hid (T.out.trans (hb.mono T.out.size))
    clear T
    have T := T_
    clear T_
    have XA_ := Lib.hid (XA.out.below hb XA.out.lt)
    clear XA
    have XA := XA_
    clear XA_
    have Ir0_ := Lib.hid (Ir0.out.below hb)
    clear Ir0
    have Ir0 := Ir0_
    clear Ir0_
    have XS_ := Lib.hid (XS.out.below hb XS.out.lt)
    clear XS
    have XS := XS_
    clear XS_
    have XR_ := Lib.hid (XR.out.below hb XR.out.lt)
    clear XR
    have XR := XR_
    clear XR_
    have Im_ := Lib.hid (Im.out.below hb)
    clear Im
    have Im := Im_
    clear Im_
    have ZW11 : Hid (W10.heap.size ≤ W11.heap.size) := Lib.hid hb.size
    clear hb
    have LTu2 : Hid (∀ b, (Value.slice u2a u2n u2c).ownBlock = some b → W10.heap.size ≤ b ∧ b < W11.heap.size) := Lib.hid (fun b h => hI.lt b h)
    have Iu2 := Lib.hid hI
    clear hI
    go_wp2_with fail
    refine (implHar n0 _ bs0 _ Iu2.out.rd HBN.out).mono ?_
    rw [HN.out, HZ.out, HO.out]
    rintro e W12 ⟨r2, rfl, hI, hb⟩
    obtain ⟨r2a, r2n, r2c, rfl⟩ := hI.form
    have T_ := Lib.hid (T.out.trans (hb.mono T.out.size))
    clear T
    have T := T_
    clear T_
    have XA_ := Lib.hid (XA.out.below hb XA.out.lt)
    clear XA
    have XA := XA_
    clear XA_
    have Ir0_ := Lib.hid (Ir0.out.below hb)
    clear Ir0
    have Ir0 := Ir0_
    clear Ir0_
    have XS_ := Lib.hid (XS.out.below hb XS.out.lt)
    clear XS
    have XS := XS_
    clear XS_
    have XR_ := Lib.hid (XR.out.below hb XR.out.lt)
    clear XR
    have XR := XR_
    clear XR_
    have Im_ := Lib.hid (Im.out.below hb)
    clear Im
    have Im := Im_
    clear Im_
    have Iu2_ := Lib.hid (Iu2.out.below hb)
    clear Iu2
    have Iu2 := Iu2_
    clear Iu2_
    have ZW12 : Hid (W11.heap.size ≤ W12.heap.size) := Lib.hid hb.size
    clear hb
    have LTr2 : Hid (∀ b, (Value.slice r2a r2n r2c).ownBlock = some b → W11.heap.size ≤ b ∧ b < W12.heap.size) := Lib.hid (fun b h => hI.lt b h)
    have Ir2 := Lib.hid hI
    clear hI
    clear Iu2
    obtain ⟨cXS, dXS, lXS⟩ := XS.out.two
    go_wp2_with fail
    refine (eqPuzzle_same on _ _ obs _ (Ir2.out.rd.below (by (repeat (first | exact Below.refl _ _ | (refine Below.alloc ?_ (by first | omega | (simp; try omega)) _) | apply Below.drew | apply below_drewN)))) (Ir0.out.rd.below (by (repeat (first | exact Below.refl _ _ | (refine Below.alloc ?_ (by first | omega | (simp; try omega)) _) | apply Below.drew | apply below_drewN)))) HZL.out).mono ?_
    rintro e W13 ⟨rfl, hb⟩
    clear cXS dXS lXS
    have XQn := Lib.hid ((Blk.new W12 #[.int .i64 on, .slice r2a r2n r2c] 31).below hb (by simp))
    have hbx : Below W12.heap.size W12 W13 := Below.trans (by (repeat (first | exact Below.refl _ _ | (refine Below.alloc ?_ (by first | omega | (simp; try omega)) _) | apply Below.drew | apply below_drewN))) (hb.mono (by simp; try omega))
    clear hb
    have ZXQ : Hid (W12.heap.size < W13.heap.size) := Lib.hid XQn.out.lt
    have T_ := Lib.hid (T.out.trans (hbx.mono T.out.size))
    clear T
    have T := T_
    clear T_
    have XA_ := Lib.hid (XA.out.below hbx XA.out.lt)
    clear XA
    have XA := XA_
    clear XA_
    have Ir0_ := Lib.hid (Ir0.out.below hbx)
    clear Ir0
    have Ir0 := Ir0_
    clear Ir0_
    have XS_ := Lib.hid (XS.out.below hbx XS.out.lt)
    clear XS
    have XS := XS_
    clear XS_
    have XR_ := Lib.hid (XR.out.below hbx XR.out.lt)
    clear XR
    have XR := XR_
    clear XR_
    have Im_ := Lib.hid (Im.out.below hbx)
    clear Im
    have Im := Im_
    clear Im_
    have Ir2_ := Lib.hid (Ir2.out.below hbx)
    clear Ir2
    have Ir2 := Ir2_
    clear Ir2_
    have ZW13 : Hid (W12.heap.size ≤ W13.heap.size) := Lib.hid hbx.size
    clear hbx
    have XQ := XQn
    clear XQn
    obtain ⟨cXR, dXR, lXR⟩ := XR.out.two
    go_wp2_with fail
    refine (heldPuzzle on _ obs.length _ 1 Im.out.rd HZL.out (by decide) (by decide)).mono ?_
    rintro e W14 ⟨rfl, hb⟩
    clear cXR dXR lXR
    have T_ := Lib.hid (T.out.trans (hb.mono T.out.size))
    clear T
    have T := T_
    clear T_
    have XA_ := Lib.hid (XA.out.below hb XA.out.lt)
    clear XA
    have XA := XA_
    clear XA_
    have Ir0_ := Lib.hid (Ir0.out.below hb)
    clear Ir0
    have Ir0 := Ir0_
    clear Ir0_
    have XS_ := Lib.hid (XS.out.below hb XS.out.lt)
    clear XS
    have XS := XS_
    clear XS_
    have XR_ := Lib.hid (XR.out.below hb XR.out.lt)
    clear XR
    have XR := XR_
    clear XR_
    have Im_ := Lib.hid (Im.out.below hb)
    clear Im
    have Im := Im_
    clear Im_
    have Ir2_ := Lib.hid (Ir2.out.below hb)
    clear Ir2
    have Ir2 := Ir2_
    clear Ir2_
    have XQ_ := Lib.hid (XQ.out.below hb XQ.out.lt)
    clear XQ
    have XQ := XQ_
    clear XQ_
    have ZW14 : Hid (W13.heap.size ≤ W14.heap.size) := Lib.hid hb.size
    clear hb
    go_wp2
    go_ret
    exact ⟨rfl, T.out⟩

set_option maxRecDepth 100000 in
theorem lifted (os : Os) (started : os.Started) (H : Type) (enc : TypeId × Value → H) :
    ReturnsInHanded {} Try.checked os 6 .any (Rows.fnExactHarderPuzzleSpec.pre6 enc Try.prog Try.f6 Rows.fnExactHarderPuzzleRow.domain false) (Rows.fnExactHarderPuzzleSpec.post enc Try.prog Try.f6 false true false false) := by
  refine returnsInHanded_of_change (C := Try.checked) own started (by kernel_rfl) Try.func6
    (ChangeSpec.witness6 (enc := enc) (C := Try.checked) false ⟨#[], #[.agg #[.int .i64 0, .slice none 0 0]], []⟩ 8 (by kernel_rfl) (by kernel_rfl) (by kernel_rfl) (by kernel_rfl)) ?_
  intro W base args ds gs before hval0 hW hcnd _
  have hval : ∀ (j : Nat) t v, Try.f6.params[j]? = some t → args[j]? = some v → Value.okWide Try.prog W .any base t v := hval0
  have hW' := hW
  obtain ⟨p, q, hA0, hV, rfl, hfz, hnd⟩ := hW
  have hA : DataW.TrodAll enc Try.prog W 0 (fun _ => true) true Try.f6.params.toList args.toList ds p := hA0
  rw [Try.params6] at hA hval
  obtain ⟨v0, vs0, d0, ds0, p0, q0, hargs, rfl, rfl, h0, r0⟩ := trodAll_cons hA
  obtain ⟨rfl, rfl, rfl⟩ := trodAll_nil r0
  obtain rfl : args = #[v0] := by cases args; simp_all
  obtain ⟨rfl, rfl⟩ := trodVars_none hV
  have k0 := h0
  have lt0 : ∀ x ∈ p0, x.block < W.heap.size := by obtain ⟨m, hm⟩ := k0; exact DataW.trod_lt m _ _ _ hm
  obtain ⟨n0, a0, len0, cap0, bs0, rfl, w0, m0⟩ := openPuzzle (hval 0 24 v0 rfl rfl) h0
  clear hA0 hval0
  refine (walk n0 a0 len0 cap0 bs0  W w0 m0).mono fun e W' ⟨he, bel⟩ => ?_
  subst he
  exact ⟨_, rfl, _, _, _, [], _, [], hW', trodAll_mk1 (shut_bool Try.underlying4 _), (trodAll_cons_mk (Below.trod laidOut (by kernel_rfl) (of_decide_eq_true (by kernel_rfl)) k0 bel lt0) trodAll_mk0), rfl, bel.frame _, fun h => by cases h⟩

theorem over : Rows.fnExactHarderPuzzleRow.holds Try.pinned (OpenSpec.ofChange Rows.fnExactHarderPuzzleSpec) :=
  OpenClaim.holds_of_wide 6 Try.f6 rfl rfl rfl rfl rfl rfl rfl ⟨rfl, rfl, rfl, rfl, rfl⟩ rfl rfl rfl rfl rfl (by kernel_rfl) Try.func6 (by kernel_rfl)
    (of_decide_eq_true (by kernel_rfl)) (by unfold Func.isWrapper; first | (rw [if_pos (by decide +kernel)]; kernel_rfl) | (rw [if_neg (by decide +kernel)]; exact ⟨rfl, rfl⟩))
    (fun os started H enc _ => lifted os started H enc)

theorem proved : Rows.FnExactHarderPuzzleSaid := over
#print axioms proved
end Go.Proofs.Ytnmeomcoeknjoac.fnExactHarderPuzzleDone
