/- FnExactAddClue: for every input the law returns true; each argument reads behind the call as it read before. No condition. -/
import Derived.Test.YtnmeomcoeknjoaaKh
import Derived.Test.YtnmeomcoeknjoaaKla
import Derived.Test.YtnmeomcoeknjoaaRows
import Derived.WalkKit
import Derived.ProofKit
import Derived.OpenShut
import Derived.ShutString
import Derived.ChangeOld
import Derived.Below
import Derived.WalkSpells
import Derived.WalkLawsBesides
import Derived.Lib.Hide
namespace Go.Proofs.Ytnmeomcoeknjoaa.fnExactAddClueDone
open Go.ChangeShapes Go.WideShapes Go.ChangeAt Go.RowKit
open Go.ChangeMaps (open_string shut_string)
set_option linter.unusedVariables false

theorem own : ownKnob Try.prog.godebug = none := by kernel_rfl
theorem laidOut : laidOutB Try.prog = true := by kernel_rfl

set_option maxRecDepth 100000 in
set_option maxHeartbeats 8000000 in
theorem walk (n0 : Int) (a0 : Option Addr) (len0 cap0 : Nat) (bs0 : List Br) (x1 y1 z1 : Int)  (W0 : World) (w0 : RdB W0 (.slice a0 len0 cap0) bs0) (m0 : len0 ≤ 9223372036854775807) :
    Calls Try.prog 6 #[.agg #[.int .i64 n0, .slice a0 len0 cap0], .agg #[.int .i64 x1, .int .i64 y1, .int .i64 z1]] W0 fun e w' => e = .returned (.bool true) ∧ Below W0.heap.size W0 w' := by
  have R0 := Lib.hid w0
  have hlen : len0 = bs0.length := by obtain ⟨_, _, _, e, h, _⟩ := w0; injection e with e1 e2 e3; omega
  clear w0
  by_cases hbl : 1048576 < len0
  · clear hlen
    go_enter Try.func6, Try.ntmps6
    go_wp2_with fail
    refine (szPuzzle_no _ _ len0 _ _ _ rfl hbl m0).mono ?_
    rintro e W1 ⟨rfl, hb1⟩
    have T := Lib.hid (Below.trans (by (repeat (first | exact Below.refl _ _ | (refine Below.alloc ?_ (by first | omega | (simp; try omega)) _) | apply Below.drew | apply below_drewN))) (hb1.mono (by simp; try omega)) : Below W0.heap.size W0 W1)
    clear hb1
    go_wp2
    go_ret
    exact ⟨rfl, T.out⟩
  have hle : len0 ≤ 1048576 := by omega
  have hbn : bs0.length ≤ 1048576 := by omega
  have HBN := Lib.hid hbn
  clear hbl hlen m0 hbn
  have hzl : (addL n0 bs0 (x1, y1, z1)).length ≤ 16777216 := (by have := addL_len n0 bs0 (x1, y1, z1); omega)
  generalize hon : (addN n0 bs0 (x1, y1, z1)) = on
  generalize hzs : (addL n0 bs0 (x1, y1, z1)) = obs at hzl
  generalize hok : (addOK n0 bs0 (x1, y1, z1)) = ok
  have HN := Lib.hid hon
  have HZ := Lib.hid hzs
  have HO := Lib.hid hok
  have HZL := Lib.hid hzl
  clear hon hzs hok hzl
  go_enter Try.func6, Try.ntmps6
  go_wp2_with fail
  refine (szPuzzle _ _ len0 _ _ _ rfl hle).mono ?_
  rintro e W1 ⟨rfl, hb⟩
  have XA := Lib.hid (((Blk.new W0 #[.int .i64 n0, .slice a0 len0 cap0] 30).alloc _).below hb (by simp; try omega))
  have XD := Lib.hid (((Blk.new (W0.alloc (.cells #[.int .i64 n0, .slice a0 len0 cap0] 30)) #[.int .i64 x1, .int .i64 y1, .int .i64 z1] 23).at_ (g' := W0.heap.size + 1) (by simp)).below hb (by simp))
  have T := Lib.hid (Below.trans (by (repeat (first | exact Below.refl _ _ | (refine Below.alloc ?_ (by first | omega | (simp; try omega)) _) | apply Below.drew | apply below_drewN))) (hb.mono (by simp; try omega)) : Below W0.heap.size W0 W1)
  clear hb
  have ZA : Hid (W0.heap.size < W1.heap.size) := Lib.hid XA.out.lt
  have ZW1 : Hid (W0.heap.size ≤ W1.heap.size) := Lib.hid T.out.size
  have ZD : Hid (W0.heap.size + 1 < W1.heap.size) := Lib.hid XD.out.lt
  go_wp2_with fail
  go_cut [6, 7] (fun sb so wx => ∃ b ra rn rc, sb = .pointer (some ⟨b, 0, none⟩) ∧ so = .bool ok ∧ Hid (CutB W1 wx b on (.slice ra rn rc) obs))
  case first =>
    have KA := Lib.hid XA.out
    have KD := Lib.hid XD.out
    have BB := Lib.hid (Below.refl W1.heap.size W1)
    have tW := T.out.size
    have kaL := XA.out.lt
    have kdL := XD.out.lt
    go_region_held3 (fun w' => w'.cell? ⟨W0.heap.size, 0, none⟩ = some (.int .i64 n0) ∧ w'.cell? ⟨W0.heap.size, 1, none⟩ = some (.slice a0 len0 cap0) ∧ w'.cell? ⟨W0.heap.size + 1, 0, none⟩ = some (.int .i64 x1) ∧ w'.cell? ⟨W0.heap.size + 1, 1, none⟩ = some (.int .i64 y1) ∧ w'.cell? ⟨W0.heap.size + 1, 2, none⟩ = some (.int .i64 z1)) (first | exact kp5 KA.out KD.out | exact kp5 KA.out.drew KD.out.drew | exact kp5 (KA.out.alloc _) (KD.out.alloc _) | exact kp5 (KA.out.alloc _).drew (KD.out.alloc _).drew | exact kp5 (far2 KA.out XW kaL) (far2 KD.out XW kdL)) (first
      | (go_at_call 13; refine (toPuzzle n0 _ bs0 _ (R0.out.below (bel2 (bel2 T.out BB.out) (by (repeat (first | exact Below.refl _ _ | (refine Below.alloc ?_ (by first | omega | (simp; try omega)) _) | apply Below.drew | apply below_drewN))))) HBN.out).mono ?_; rintro e wi ⟨uu, rfl, hI, hb⟩; have KAn := Lib.hid (KA.out.below (bel1 (by (repeat (first | exact Below.refl _ _ | (refine Below.alloc ?_ (by first | omega | (simp; try omega)) _) | apply Below.drew | apply below_drewN))) hb) KA.out.lt); have KDn := Lib.hid (KD.out.below (bel1 (by (repeat (first | exact Below.refl _ _ | (refine Below.alloc ?_ (by first | omega | (simp; try omega)) _) | apply Below.drew | apply below_drewN))) hb) KD.out.lt); have BBn := Lib.hid (bel3 BB.out (by (repeat (first | exact Below.refl _ _ | (refine Below.alloc ?_ (by first | omega | (simp; try omega)) _) | apply Below.drew | apply below_drewN))) hb); have BO := Lib.hid BB.out.size; clear BB KA KD; have BB := BBn; have KA := KAn; have KD := KDn; clear BBn KAn KDn; (try (have IU := Lib.hid (IU.out.below (bel1 (by (repeat (first | exact Below.refl _ _ | (refine Below.alloc ?_ (by first | omega | (simp; try omega)) _) | apply Below.drew | apply below_drewN))) hb)))); (try (have X := Lib.hid (X.out.below (bel1 (by (repeat (first | exact Below.refl _ _ | (refine Below.alloc ?_ (by first | omega | (simp; try omega)) _) | apply Below.drew | apply below_drewN))) hb) X.out.lt))); (try (have X := Lib.hid ((Blk.drew (Blk.new _ #[.int .i64 0, .slice none 0 0] 35)).below hb (by simp)); have XW := BO)); (try (have X := Lib.hid ((Blk.new _ #[.int .i64 0, .slice none 0 0] 35).below hb (by simp)); have XW := BO)); clear BO; have IU := Lib.hid hI.rd; clear hI hb; skip)
      | (go_at_call 9; refine (toClue x1 y1 z1 _).mono ?_; rintro e wb ⟨rfl, hb⟩; have KAn := Lib.hid (KA.out.below (bel1 (by (repeat (first | exact Below.refl _ _ | (refine Below.alloc ?_ (by first | omega | (simp; try omega)) _) | apply Below.drew | apply below_drewN))) hb) KA.out.lt); have KDn := Lib.hid (KD.out.below (bel1 (by (repeat (first | exact Below.refl _ _ | (refine Below.alloc ?_ (by first | omega | (simp; try omega)) _) | apply Below.drew | apply below_drewN))) hb) KD.out.lt); have BBn := Lib.hid (bel3 BB.out (by (repeat (first | exact Below.refl _ _ | (refine Below.alloc ?_ (by first | omega | (simp; try omega)) _) | apply Below.drew | apply below_drewN))) hb); have BO := Lib.hid BB.out.size; clear BB KA KD; have BB := BBn; have KA := KAn; have KD := KDn; clear BBn KAn KDn; (try (have IU := Lib.hid (IU.out.below (bel1 (by (repeat (first | exact Below.refl _ _ | (refine Below.alloc ?_ (by first | omega | (simp; try omega)) _) | apply Below.drew | apply below_drewN))) hb)))); (try (have X := Lib.hid (X.out.below (bel1 (by (repeat (first | exact Below.refl _ _ | (refine Below.alloc ?_ (by first | omega | (simp; try omega)) _) | apply Below.drew | apply below_drewN))) hb) X.out.lt))); (try (have X := Lib.hid ((Blk.drew (Blk.new _ #[.int .i64 0, .slice none 0 0] 35)).below hb (by simp)); have XW := BO)); (try (have X := Lib.hid ((Blk.new _ #[.int .i64 0, .slice none 0 0] 35).below hb (by simp)); have XW := BO)); clear BO; clear hb; skip)
      | (go_at_call 20; refine (specAdd n0 _ bs0 x1 y1 z1 _ (IU.out.below (by (repeat (first | exact Below.refl _ _ | (refine Below.alloc ?_ (by first | omega | (simp; try omega)) _) | apply Below.drew | apply below_drewN)))) HBN.out).mono ?_; rw [HN.out, HZ.out, HO.out]; rintro e wr ⟨rr, rfl, hI, hb⟩; obtain ⟨ra, rn, rc, rfl⟩ := hI.form; have HI := Lib.hid (brs_from BB.out (by (repeat (first | exact Below.refl _ _ | (refine Below.alloc ?_ (by first | omega | (simp; try omega)) _) | apply Below.drew | apply below_drewN))) hI); (try (have APX := Lib.hid (ap_old hI (by (repeat (first | exact Below.refl _ _ | (refine Below.alloc ?_ (by first | omega | (simp; try omega)) _) | apply Below.drew | apply below_drewN))) X.out.lt))); (try (have APX := Lib.hid (ap_new hI))); (try (have APX := Lib.hid (ap_newD hI))); have KAn := Lib.hid (KA.out.below (bel1 (by (repeat (first | exact Below.refl _ _ | (refine Below.alloc ?_ (by first | omega | (simp; try omega)) _) | apply Below.drew | apply below_drewN))) hb) KA.out.lt); have KDn := Lib.hid (KD.out.below (bel1 (by (repeat (first | exact Below.refl _ _ | (refine Below.alloc ?_ (by first | omega | (simp; try omega)) _) | apply Below.drew | apply below_drewN))) hb) KD.out.lt); have BBn := Lib.hid (bel3 BB.out (by (repeat (first | exact Below.refl _ _ | (refine Below.alloc ?_ (by first | omega | (simp; try omega)) _) | apply Below.drew | apply below_drewN))) hb); have BO := Lib.hid BB.out.size; clear BB KA KD; have BB := BBn; have KA := KAn; have KD := KDn; clear BBn KAn KDn; (try (have IU := Lib.hid (IU.out.below (bel1 (by (repeat (first | exact Below.refl _ _ | (refine Below.alloc ?_ (by first | omega | (simp; try omega)) _) | apply Below.drew | apply below_drewN))) hb)))); (try (have X := Lib.hid (X.out.below (bel1 (by (repeat (first | exact Below.refl _ _ | (refine Below.alloc ?_ (by first | omega | (simp; try omega)) _) | apply Below.drew | apply below_drewN))) hb) X.out.lt))); (try (have X := Lib.hid ((Blk.drew (Blk.new _ #[.int .i64 0, .slice none 0 0] 35)).below hb (by simp)); have XW := BO)); (try (have X := Lib.hid ((Blk.new _ #[.int .i64 0, .slice none 0 0] 35).below hb (by simp)); have XW := BO)); clear BO; have LT := Lib.hid (own_in HI.out); (try (obtain ⟨ex, fx, gx⟩ := X.out.two)); (try (have x0 := X.out.fr 0)); (try (have x1 := X.out.fr 1)); clear hI hb; skip))
    all_goals
      go_wp2_with fail
      go_meet
      first
        | exact ⟨_, _, _, _, rfl, rfl, Lib.hid (cutB_new BB.out HI.out LT.out)⟩
        | exact ⟨_, _, _, _, rfl, rfl, Lib.hid (cutB_old BB.out HI.out X.out XW.out APX.out)⟩
  case rest =>
    obtain ⟨r0b, r0a, r0n, r0c, rfl, rfl, HC⟩ := hcut
    obtain ⟨W2, hwc⟩ : ∃ w9, w9 = wc := ⟨_, rfl⟩
    rw [← hwc] at HC ⊢
    clear hwc
    have hb := HC.out.2.2.2.2
    have T_ := Lib.hid (T.out.trans (hb.mono T.out.size))
    clear T
    have T := T_
    clear T_
    have XA_ := Lib.hid (XA.out.below hb XA.out.lt)
    clear XA
    have XA := XA_
    clear XA_
    have XD_ := Lib.hid (XD.out.below hb XD.out.lt)
    clear XD
    have XD := XD_
    clear XD_
    have ZW2 : Hid (W1.heap.size ≤ W2.heap.size) := Lib.hid hb.size
    clear hb
    have XS := Lib.hid HC.out.1
    have ZXSl : Hid (W1.heap.size ≤ r0b) := Lib.hid HC.out.2.1
    have ZXS : Hid (r0b < W2.heap.size) := Lib.hid XS.out.lt
    have Ir0 := Lib.hid HC.out.2.2.1
    have APr0 := Lib.hid HC.out.2.2.2.1
    have LTr0 : Hid (∀ b, (Value.slice r0a r0n r0c).ownBlock = some b → W1.heap.size ≤ b ∧ b < W2.heap.size) := Lib.hid (fun b h => Ir0.out.lt b h)
    clear HC
    obtain ⟨cXA, dXA, lXA⟩ := XA.out.two
    go_wp2_with fail
    refine (toPuzzle n0 _ bs0 _ (R0.out.below T.out) HBN.out).mono ?_
    rintro e W3 ⟨u1, rfl, hI, hb⟩
    obtain ⟨u1a, u1n, u1c, rfl⟩ := hI.form
    clear cXA dXA lXA
    have T_ := Lib.hid (T.out.trans (hb.mono T.out.size))
    clear T
    have T := T_
    clear T_
    have XA_ := Lib.hid (XA.out.below hb XA.out.lt)
    clear XA
    have XA := XA_
    clear XA_
    have XD_ := Lib.hid (XD.out.below hb XD.out.lt)
    clear XD
    have XD := XD_
    clear XD_
    have XS_ := Lib.hid (XS.out.below hb XS.out.lt)
    clear XS
    have XS := XS_
    clear XS_
    have Ir0_ := Lib.hid (Ir0.out.below hb)
    clear Ir0
    have Ir0 := Ir0_
    clear Ir0_
    have ZW3 : Hid (W2.heap.size ≤ W3.heap.size) := Lib.hid hb.size
    clear hb
    have LTu1 : Hid (∀ b, (Value.slice u1a u1n u1c).ownBlock = some b → W2.heap.size ≤ b ∧ b < W3.heap.size) := Lib.hid (fun b h => hI.lt b h)
    have Iu1 := Lib.hid hI
    clear hI
    go_wp2_with fail
    have XXn := Lib.hid (Blk.new W3 #[.int .i64 n0, .slice u1a u1n u1c] 35)
    have hbx : Below W3.heap.size W3 (W3.alloc (.cells #[.int .i64 n0, .slice u1a u1n u1c] 35)) := (Below.refl _ _).alloc (Nat.le_refl _) _
    have zx : (W3.alloc (.cells #[.int .i64 n0, .slice u1a u1n u1c] 35)).heap.size = W3.heap.size + 1 := by simp
    have ZXX := Lib.hid (show W3.heap.size < (W3.alloc (.cells #[.int .i64 n0, .slice u1a u1n u1c] 35)).heap.size by omega)
    clear zx
    generalize W3.alloc (.cells #[.int .i64 n0, .slice u1a u1n u1c] 35) = W4 at *
    have T_ := Lib.hid (T.out.trans (hbx.mono T.out.size))
    clear T
    have T := T_
    clear T_
    have XA_ := Lib.hid (XA.out.below hbx XA.out.lt)
    clear XA
    have XA := XA_
    clear XA_
    have XD_ := Lib.hid (XD.out.below hbx XD.out.lt)
    clear XD
    have XD := XD_
    clear XD_
    have XS_ := Lib.hid (XS.out.below hbx XS.out.lt)
    clear XS
    have XS := XS_
    clear XS_
    have Ir0_ := Lib.hid (Ir0.out.below hbx)
    clear Ir0
    have Ir0 := Ir0_
    clear Ir0_
    have Iu1_ := Lib.hid (Iu1.out.below hbx)
    clear Iu1
    have Iu1 := Iu1_
    clear Iu1_
    have ZW4 : Hid (W3.heap.size ≤ W4.heap.size) := Lib.hid hbx.size
    clear hbx
    have XX := XXn
    clear XXn
    go_cut [9, 10] (fun sb so wx => ∃ b ra rn rc, sb = .pointer (some ⟨b, 0, none⟩) ∧ so = .bool ok ∧ Hid (CutB W4 wx b on (.slice ra rn rc) obs))
    case first =>
      have KA := Lib.hid XX.out
      have KD := Lib.hid XD.out
      have BB := Lib.hid (Below.refl W4.heap.size W4)
      have tW := T.out.size
      have kaL := XX.out.lt
      have kdL := XD.out.lt
      have IU := Lib.hid Iu1.out.rd
      go_region_held3 (fun w' => w'.cell? ⟨W3.heap.size, 0, none⟩ = some (.int .i64 n0) ∧ w'.cell? ⟨W3.heap.size, 1, none⟩ = some (.slice u1a u1n u1c) ∧ w'.cell? ⟨W0.heap.size + 1, 0, none⟩ = some (.int .i64 x1) ∧ w'.cell? ⟨W0.heap.size + 1, 1, none⟩ = some (.int .i64 y1) ∧ w'.cell? ⟨W0.heap.size + 1, 2, none⟩ = some (.int .i64 z1)) (first | exact kp5 KA.out KD.out | exact kp5 KA.out.drew KD.out.drew | exact kp5 (KA.out.alloc _) (KD.out.alloc _) | exact kp5 (KA.out.alloc _).drew (KD.out.alloc _).drew | exact kp5 (far2 KA.out XW kaL) (far2 KD.out XW kdL)) (first
        | (go_at_call 9; refine (toClue x1 y1 z1 _).mono ?_; rintro e wb ⟨rfl, hb⟩; have KAn := Lib.hid (KA.out.below (bel1 (by (repeat (first | exact Below.refl _ _ | (refine Below.alloc ?_ (by first | omega | (simp; try omega)) _) | apply Below.drew | apply below_drewN))) hb) KA.out.lt); have KDn := Lib.hid (KD.out.below (bel1 (by (repeat (first | exact Below.refl _ _ | (refine Below.alloc ?_ (by first | omega | (simp; try omega)) _) | apply Below.drew | apply below_drewN))) hb) KD.out.lt); have BBn := Lib.hid (bel3 BB.out (by (repeat (first | exact Below.refl _ _ | (refine Below.alloc ?_ (by first | omega | (simp; try omega)) _) | apply Below.drew | apply below_drewN))) hb); have BO := Lib.hid BB.out.size; clear BB KA KD; have BB := BBn; have KA := KAn; have KD := KDn; clear BBn KAn KDn; (try (have IU := Lib.hid (IU.out.below (bel1 (by (repeat (first | exact Below.refl _ _ | (refine Below.alloc ?_ (by first | omega | (simp; try omega)) _) | apply Below.drew | apply below_drewN))) hb)))); (try (have X := Lib.hid (X.out.below (bel1 (by (repeat (first | exact Below.refl _ _ | (refine Below.alloc ?_ (by first | omega | (simp; try omega)) _) | apply Below.drew | apply below_drewN))) hb) X.out.lt))); (try (have X := Lib.hid ((Blk.drew (Blk.new _ #[.int .i64 0, .slice none 0 0] 35)).below hb (by simp)); have XW := BO)); (try (have X := Lib.hid ((Blk.new _ #[.int .i64 0, .slice none 0 0] 35).below hb (by simp)); have XW := BO)); clear BO; clear hb; skip)
        | (go_at_call 21; refine (implAdd n0 _ bs0 x1 y1 z1 _ (IU.out.below (by (repeat (first | exact Below.refl _ _ | (refine Below.alloc ?_ (by first | omega | (simp; try omega)) _) | apply Below.drew | apply below_drewN)))) HBN.out).mono ?_; rw [HN.out, HZ.out, HO.out]; rintro e wr ⟨rr, rfl, hI, hb⟩; obtain ⟨ra, rn, rc, rfl⟩ := hI.form; have HI := Lib.hid (brs_from BB.out (by (repeat (first | exact Below.refl _ _ | (refine Below.alloc ?_ (by first | omega | (simp; try omega)) _) | apply Below.drew | apply below_drewN))) hI); (try (have APX := Lib.hid (ap_old hI (by (repeat (first | exact Below.refl _ _ | (refine Below.alloc ?_ (by first | omega | (simp; try omega)) _) | apply Below.drew | apply below_drewN))) X.out.lt))); (try (have APX := Lib.hid (ap_new hI))); (try (have APX := Lib.hid (ap_newD hI))); have KAn := Lib.hid (KA.out.below (bel1 (by (repeat (first | exact Below.refl _ _ | (refine Below.alloc ?_ (by first | omega | (simp; try omega)) _) | apply Below.drew | apply below_drewN))) hb) KA.out.lt); have KDn := Lib.hid (KD.out.below (bel1 (by (repeat (first | exact Below.refl _ _ | (refine Below.alloc ?_ (by first | omega | (simp; try omega)) _) | apply Below.drew | apply below_drewN))) hb) KD.out.lt); have BBn := Lib.hid (bel3 BB.out (by (repeat (first | exact Below.refl _ _ | (refine Below.alloc ?_ (by first | omega | (simp; try omega)) _) | apply Below.drew | apply below_drewN))) hb); have BO := Lib.hid BB.out.size; clear BB KA KD; have BB := BBn; have KA := KAn; have KD := KDn; clear BBn KAn KDn; (try (have IU := Lib.hid (IU.out.below (bel1 (by (repeat (first | exact Below.refl _ _ | (refine Below.alloc ?_ (by first | omega | (simp; try omega)) _) | apply Below.drew | apply below_drewN))) hb)))); (try (have X := Lib.hid (X.out.below (bel1 (by (repeat (first | exact Below.refl _ _ | (refine Below.alloc ?_ (by first | omega | (simp; try omega)) _) | apply Below.drew | apply below_drewN))) hb) X.out.lt))); (try (have X := Lib.hid ((Blk.drew (Blk.new _ #[.int .i64 0, .slice none 0 0] 35)).below hb (by simp)); have XW := BO)); (try (have X := Lib.hid ((Blk.new _ #[.int .i64 0, .slice none 0 0] 35).below hb (by simp)); have XW := BO)); clear BO; have LT := Lib.hid (own_in HI.out); (try (obtain ⟨ex, fx, gx⟩ := X.out.two)); (try (have x0 := X.out.fr 0)); (try (have x1 := X.out.fr 1)); clear hI hb; skip))
      all_goals
        go_wp2_with fail
        go_meet
        first
          | exact ⟨_, _, _, _, rfl, rfl, Lib.hid (cutB_new BB.out HI.out LT.out)⟩
          | exact ⟨_, _, _, _, rfl, rfl, Lib.hid (cutB_old BB.out HI.out X.out XW.out APX.out)⟩
    case rest =>
      obtain ⟨r1b, r1a, r1n, r1c, rfl, rfl, HC⟩ := hcut
      obtain ⟨W5, hwc⟩ : ∃ w9, w9 = wc := ⟨_, rfl⟩
      rw [← hwc] at HC ⊢
      clear hwc
      have hb := HC.out.2.2.2.2
      have T_ := Lib.hid (T.out.trans (hb.mono T.out.size))
      clear T
      have T := T_
      clear T_
      have XA_ := Lib.hid (XA.out.below hb XA.out.lt)
      clear XA
      have XA := XA_
      clear XA_
      have XD_ := Lib.hid (XD.out.below hb XD.out.lt)
      clear XD
      have XD := XD_
      clear XD_
      have XS_ := Lib.hid (XS.out.below hb XS.out.lt)
      clear XS
      have XS := XS_
      clear XS_
      have Ir0_ := Lib.hid (Ir0.out.below hb)
      clear Ir0
      have Ir0 := Ir0_
      clear Ir0_
      have Iu1_ := Lib.hid (Iu1.out.below hb)
      clear Iu1
      have Iu1 := Iu1_
      clear Iu1_
      have XX_ := Lib.hid (XX.out.below hb XX.out.lt)
      clear XX
      have XX := XX_
      clear XX_
      have ZW5 : Hid (W4.heap.size ≤ W5.heap.size) := Lib.hid hb.size
      clear hb
      have XR := Lib.hid HC.out.1
      have ZXRl : Hid (W4.heap.size ≤ r1b) := Lib.hid HC.out.2.1
      have ZXR : Hid (r1b < W5.heap.size) := Lib.hid XR.out.lt
      have Ir1 := Lib.hid HC.out.2.2.1
      have APr1 := Lib.hid HC.out.2.2.2.1
      have LTr1 : Hid (∀ b, (Value.slice r1a r1n r1c).ownBlock = some b → W4.heap.size ≤ b ∧ b < W5.heap.size) := Lib.hid (fun b h => Ir1.out.lt b h)
      clear HC
      obtain ⟨cXS, dXS, lXS⟩ := XS.out.two
      obtain ⟨cXR, dXR, lXR⟩ := XR.out.two
      go_wp2_with fail
      refine (eqPuzzle_same on _ _ obs _ Ir1.out.rd Ir0.out.rd HZL.out).mono ?_
      rintro e W6 ⟨rfl, hb⟩
      clear cXS dXS lXS
      clear cXR dXR lXR
      have T_ := Lib.hid (T.out.trans (hb.mono T.out.size))
      clear T
      have T := T_
      clear T_
      have XA_ := Lib.hid (XA.out.below hb XA.out.lt)
      clear XA
      have XA := XA_
      clear XA_
      have XD_ := Lib.hid (XD.out.below hb XD.out.lt)
      clear XD
      have XD := XD_
      clear XD_
      have XS_ := Lib.hid (XS.out.below hb XS.out.lt)
      clear XS
      have XS := XS_
      clear XS_
      have Ir0_ := Lib.hid (Ir0.out.below hb)
      clear Ir0
      have Ir0 := Ir0_
      clear Ir0_
      have Iu1_ := Lib.hid (Iu1.out.below hb)
      clear Iu1
      have Iu1 := Iu1_
      clear Iu1_
      have XX_ := Lib.hid (XX.out.below hb XX.out.lt)
      clear XX
      have XX := XX_
      clear XX_
      have XR_ := Lib.hid (XR.out.below hb XR.out.lt)
      clear XR
      have XR := XR_
      clear XR_
      have Ir1_ := Lib.hid (Ir1.out.below hb)
      clear Ir1
      have Ir1 := Ir1_
      clear Ir1_
      have ZW6 : Hid (W5.heap.size ≤ W6.heap.size) := Lib.hid hb.size
      clear hb
      obtain ⟨cXA, dXA, lXA⟩ := XA.out.two
      obtain ⟨cXX, dXX, lXX⟩ := XX.out.two
      go_wp2_with fail
      go_cut [51] (fun sx wx => sx = .bool false ∧ Hid (Below W6.heap.size W6 wx))
      case first =>
        go_region_with (first
          | (go_at_call 13; refine (toPuzzle n0 _ bs0 _ (R0.out.below (T.out.trans (by (repeat (first | exact Below.refl _ _ | (refine Below.alloc ?_ (by first | omega | (simp; try omega)) _) | apply Below.drew | apply below_drewN))))) HBN.out).mono ?_; rintro e wy ⟨uy, rfl, hIy, hby⟩; have HBy := Lib.hid (Below.trans (by (repeat (first | exact Below.refl _ _ | (refine Below.alloc ?_ (by first | omega | (simp; try omega)) _) | apply Below.drew | apply below_drewN))) (hby.mono (by first | omega | (simp; try omega))) : Below W6.heap.size W6 wy); have Iy := Lib.hid hIy.rd; clear hIy hby; obtain ⟨cxy, dxy, lxy⟩ := (XX.out.below HBy.out XX.out.lt).two)
          | (go_at_call 15; refine (eqPuzzle_same n0 _ _ bs0 _ (Iu1.out.rd.below (HBy.out.trans (by have := HBy.out.size; (repeat (first | exact Below.refl _ _ | (refine Below.alloc ?_ (by first | omega | (simp; try omega)) _) | apply Below.drew | apply below_drewN))))) (Iy.out.below (by (repeat (first | exact Below.refl _ _ | (refine Below.alloc ?_ (by first | omega | (simp; try omega)) _) | apply Below.drew | apply below_drewN)))) (by have := HBN.out; omega)).mono ?_; rintro e wz ⟨rfl, hbz⟩; have HBz := Lib.hid (HBy.out.trans (Below.trans (by have := HBy.out.size; (repeat (first | exact Below.refl _ _ | (refine Below.alloc ?_ (by first | omega | (simp; try omega)) _) | apply Below.drew | apply below_drewN))) (hbz.mono (by have := HBy.out.size; first | omega | (simp; try omega)))) : Below W6.heap.size W6 wz); clear hbz))
        all_goals
          go_wp2_with fail
          go_meet
          exact ⟨rfl, HBz⟩
      case rest =>
        obtain ⟨rfl, HBc⟩ := hcut
        obtain ⟨W7, hwc⟩ : ∃ w9, w9 = wc := ⟨_, rfl⟩
        rw [← hwc] at HBc ⊢
        clear hwc
        have hb := HBc.out
        clear cXA dXA lXA
        clear cXX dXX lXX
        clear HBc
        have T_ := Lib.hid (T.out.trans (hb.mono T.out.size))
        clear T
        have T := T_
        clear T_
        have XA_ := Lib.hid (XA.out.below hb XA.out.lt)
        clear XA
        have XA := XA_
        clear XA_
        have XD_ := Lib.hid (XD.out.below hb XD.out.lt)
        clear XD
        have XD := XD_
        clear XD_
        have XS_ := Lib.hid (XS.out.below hb XS.out.lt)
        clear XS
        have XS := XS_
        clear XS_
        have Ir0_ := Lib.hid (Ir0.out.below hb)
        clear Ir0
        have Ir0 := Ir0_
        clear Ir0_
        have Iu1_ := Lib.hid (Iu1.out.below hb)
        clear Iu1
        have Iu1 := Iu1_
        clear Iu1_
        have XX_ := Lib.hid (XX.out.below hb XX.out.lt)
        clear XX
        have XX := XX_
        clear XX_
        have XR_ := Lib.hid (XR.out.below hb XR.out.lt)
        clear XR
        have XR := XR_
        clear XR_
        have Ir1_ := Lib.hid (Ir1.out.below hb)
        clear Ir1
        have Ir1 := Ir1_
        clear Ir1_
        have ZW7 : Hid (W6.heap.size ≤ W7.heap.size) := Lib.hid hb.size
        clear hb
        obtain ⟨cXX, dXX, lXX⟩ := XX.out.two
        go_wp2_with fail
        refine (markPuzzle n0 _ bs0 _ _ Iu1.out (by have := HBN.out; omega) 1 (by decide) (by decide)).mono ?_
        rintro e W8 ⟨rfl, hmx, hg⟩
        clear hmx
        clear cXX dXX lXX
        have T_ := Lib.hid (T.out.grown hg T.out.size (fun b h => by have := (LTu1.out b h).1; (have := ZA.out); (have := ZW1.out); (have := ZD.out); (have := ZW2.out); (have := ZXSl.out); (have := ZXS.out); (have := ZW3.out); (have := ZW4.out); (have := ZXX.out); (have := ZW5.out); (have := ZXRl.out); (have := ZXR.out); (have := ZW6.out); (have := ZW7.out); omega))
        clear T
        have T := T_
        clear T_
        have XA_ := Lib.hid (XA.out.kept hg (fun e => by have := (LTu1.out _ e.symm); (have := ZA.out); (have := ZW1.out); (have := ZD.out); (have := ZW2.out); (have := ZXSl.out); (have := ZXS.out); (have := ZW3.out); (have := ZW4.out); (have := ZXX.out); (have := ZW5.out); (have := ZXRl.out); (have := ZXR.out); (have := ZW6.out); (have := ZW7.out); omega))
        have XD_ := Lib.hid (XD.out.kept hg (fun e => by have := (LTu1.out _ e.symm); (have := ZA.out); (have := ZW1.out); (have := ZD.out); (have := ZW2.out); (have := ZXSl.out); (have := ZXS.out); (have := ZW3.out); (have := ZW4.out); (have := ZXX.out); (have := ZW5.out); (have := ZXRl.out); (have := ZXR.out); (have := ZW6.out); (have := ZW7.out); omega))
        have XS_ := Lib.hid (XS.out.kept hg (fun e => by have := (LTu1.out _ e.symm); (have := ZA.out); (have := ZW1.out); (have := ZD.out); (have := ZW2.out); (have := ZXSl.out); (have := ZXS.out); (have := ZW3.out); (have := ZW4.out); (have := ZXX.out); (have := ZW5.out); (have := ZXRl.out); (have := ZXR.out); (have := ZW6.out); (have := ZW7.out); omega))
        have Ir0_ := Lib.hid (Ir0.out.kept hg (apart_old LTu1.out LTr0.out (by (have := ZA.out); (have := ZW1.out); (have := ZD.out); (have := ZW2.out); (have := ZXSl.out); (have := ZXS.out); (have := ZW3.out); (have := ZW4.out); (have := ZXX.out); (have := ZW5.out); (have := ZXRl.out); (have := ZXR.out); (have := ZW6.out); (have := ZW7.out); omega)))
        have XR_ := Lib.hid (XR.out.kept hg (fun e => by have := (LTu1.out _ e.symm); (have := ZA.out); (have := ZW1.out); (have := ZD.out); (have := ZW2.out); (have := ZXSl.out); (have := ZXS.out); (have := ZW3.out); (have := ZW4.out); (have := ZXX.out); (have := ZW5.out); (have := ZXRl.out); (have := ZXR.out); (have := ZW6.out); (have := ZW7.out); omega))
        have Ir1_ := Lib.hid (Ir1.out.kept hg (apart_new LTu1.out LTr1.out (by (have := ZA.out); (have := ZW1.out); (have := ZD.out); (have := ZW2.out); (have := ZXSl.out); (have := ZXS.out); (have := ZW3.out); (have := ZW4.out); (have := ZXX.out); (have := ZW5.out); (have := ZXRl.out); (have := ZXR.out); (have := ZW6.out); (have := ZW7.out); omega)))
        clear XA
        have XA := XA_
        clear XA_
        clear XD
        have XD := XD_
        clear XD_
        clear XS
        have XS := XS_
        clear XS_
        clear Ir0
        have Ir0 := Ir0_
        clear Ir0_
        clear Iu1
        clear XX
        clear XR
        have XR := XR_
        clear XR_
        clear Ir1
        have Ir1 := Ir1_
        clear Ir1_
        have ZW8 : Hid (W7.heap.size ≤ W8.heap.size) := Lib.hid hg.size
        clear hg
        have hBN := HBN.out
        obtain ⟨cXS, dXS, lXS⟩ := XS.out.two
        obtain ⟨cXR, dXR, lXR⟩ := XR.out.two
        go_wp2_with fail
        refine (eqPuzzle_same on _ _ obs _ Ir1.out.rd Ir0.out.rd HZL.out).mono ?_
        rintro e W9 ⟨rfl, hb⟩
        clear cXS dXS lXS
        clear cXR dXR lXR
        have T_ := Lib.hid (T.out.trans (hb.mono T.out.size))
        clear T
        have T := T_
        clear T_
        have XA_ := Lib.hid (XA.out.below hb XA.out.lt)
        clear XA
        have XA := XA_
        clear XA_
        have XD_ := Lib.hid (XD.out.below hb XD.out.lt)
        clear XD
        have XD := XD_
        clear XD_
        have XS_ := Lib.hid (XS.out.below hb XS.out.lt)
        clear XS
        have XS := XS_
        clear XS_
        have Ir0_ := Lib.hid (Ir0.out.below hb)
        clear Ir0
        have Ir0 := Ir0_
        clear Ir0_
        have XR_ := Lib.hid (XR.out.below hb XR.out.lt)
        clear XR
        have XR := XR_
        clear XR_
        have Ir1_ := Lib.hid (Ir1.out.below hb)
        clear Ir1
        have Ir1 := Ir1_
        clear Ir1_
        have ZW9 : Hid (W8.heap.size ≤ W9.heap.size) := Lib.hid hb.size
        clear hb
        obtain ⟨cXR, dXR, lXR⟩ := XR.out.two
        go_wp2_with fail
        refine (markPuzzle on _ obs _ _ Ir1.out HZL.out 1 (by decide) (by decide)).mono ?_
        rintro e W10 ⟨rfl, hm, hg⟩
        clear Ir1
        clear cXR dXR lXR
        have T_ := Lib.hid (T.out.grown hg T.out.size (fun b h => by have := (LTr1.out b h).1; (have := ZA.out); (have := ZW1.out); (have := ZD.out); (have := ZW2.out); (have := ZXSl.out); (have := ZXS.out); (have := ZW3.out); (have := ZW4.out); (have := ZXX.out); (have := ZW5.out); (have := ZXRl.out); (have := ZXR.out); (have := ZW6.out); (have := ZW7.out); (have := ZW8.out); (have := ZW9.out); omega))
        clear T
        have T := T_
        clear T_
        have XA_ := Lib.hid (XA.out.kept hg (fun e => by have := (LTr1.out _ e.symm); (have := ZA.out); (have := ZW1.out); (have := ZD.out); (have := ZW2.out); (have := ZXSl.out); (have := ZXS.out); (have := ZW3.out); (have := ZW4.out); (have := ZXX.out); (have := ZW5.out); (have := ZXRl.out); (have := ZXR.out); (have := ZW6.out); (have := ZW7.out); (have := ZW8.out); (have := ZW9.out); omega))
        have XD_ := Lib.hid (XD.out.kept hg (fun e => by have := (LTr1.out _ e.symm); (have := ZA.out); (have := ZW1.out); (have := ZD.out); (have := ZW2.out); (have := ZXSl.out); (have := ZXS.out); (have := ZW3.out); (have := ZW4.out); (have := ZXX.out); (have := ZW5.out); (have := ZXRl.out); (have := ZXR.out); (have := ZW6.out); (have := ZW7.out); (have := ZW8.out); (have := ZW9.out); omega))
        have XS_ := Lib.hid (XS.out.kept hg (fun e => by have := (LTr1.out _ e.symm); (have := ZA.out); (have := ZW1.out); (have := ZD.out); (have := ZW2.out); (have := ZXSl.out); (have := ZXS.out); (have := ZW3.out); (have := ZW4.out); (have := ZXX.out); (have := ZW5.out); (have := ZXRl.out); (have := ZXR.out); (have := ZW6.out); (have := ZW7.out); (have := ZW8.out); (have := ZW9.out); omega))
        have Ir0_ := Lib.hid (Ir0.out.kept hg (apart_old LTr1.out LTr0.out (by (have := ZA.out); (have := ZW1.out); (have := ZD.out); (have := ZW2.out); (have := ZXSl.out); (have := ZXS.out); (have := ZW3.out); (have := ZW4.out); (have := ZXX.out); (have := ZW5.out); (have := ZXRl.out); (have := ZXR.out); (have := ZW6.out); (have := ZW7.out); (have := ZW8.out); (have := ZW9.out); omega)))
        have XR_ := Lib.hid (XR.out.kept hg (fun e => APr1.out _ e.symm rfl))
        clear XA
        have XA := XA_
        clear XA_
        clear XD
        have XD := XD_
        clear XD_
        clear XS
        have XS := XS_
        clear XS_
        clear Ir0
        have Ir0 := Ir0_
        clear Ir0_
        clear XR
        have XR := XR_
        clear XR_
        have ZW10 : Hid (W9.heap.size ≤ W10.heap.size) := Lib.hid hg.size
        clear hg
        have Im := Lib.hid hm
        clear hm
        have hZL := HZL.out
        obtain ⟨cXR, dXR, lXR⟩ := XR.out.two
        go_wp2_with fail
        refine (heldPuzzle on _ obs.length _ 1 Im.out.rd HZL.out (by decide) (by decide)).mono ?_
        rintro e W11 ⟨rfl, hb⟩
        clear cXR dXR lXR
        have T_ := Lib.hid (T.out.trans (hb.mono T.out.size))
        clear T
        have T := T_
        clear T_
        have XA_ := Lib.hid (XA.out.below hb XA.out.lt)
        clear XA
        have XA := XA_
        clear XA_
        have XD_ := Lib.hid (XD.out.below hb XD.out.lt)
        clear XD
        have XD := XD_
        clear XD_
        have XS_ := Lib.hid (XS.out.below hb XS.out.lt)
        clear XS
        have XS := XS_
        clear XS_
        have Ir0_ := Lib.hid (Ir0.out.below hb)
        clear Ir0
        have Ir0 := Ir0_
        clear Ir0_
        have XR_ := Lib.hid (XR.out.below hb XR.out.lt)
        clear XR
        have XR := XR_
        clear XR_
        have Im_ := Lib.hid (Im.out.below hb)
        clear Im
        have Im := Im_
        clear Im_
        have ZW11 : Hid (W10.heap.size ≤ W11.heap.size) := Lib.hid hb.size
        clear hb
        go_wp2_with fail
        go_cut [14, 15] (fun sb so wx => ∃ b ra rn rc, sb = .pointer (some ⟨b, 0, none⟩) ∧ so = .bool ok ∧ Hid (CutB W11 wx b on (.slice ra rn rc) obs))
        case first =>
          have KA := Lib.hid XA.out
          have KD := Lib.hid XD.out
          have BB := Lib.hid (Below.refl W11.heap.size W11)
          have tW := T.out.size
          have kaL := XA.out.lt
          have kdL := XD.out.lt
          go_region_held3 (fun w' => w'.cell? ⟨W0.heap.size, 0, none⟩ = some (.int .i64 n0) ∧ w'.cell? ⟨W0.heap.size, 1, none⟩ = some (.slice a0 len0 cap0) ∧ w'.cell? ⟨W0.heap.size + 1, 0, none⟩ = some (.int .i64 x1) ∧ w'.cell? ⟨W0.heap.size + 1, 1, none⟩ = some (.int .i64 y1) ∧ w'.cell? ⟨W0.heap.size + 1, 2, none⟩ = some (.int .i64 z1)) (first | exact kp5 KA.out KD.out | exact kp5 KA.out.drew KD.out.drew | exact kp5 (KA.out.alloc _) (KD.out.alloc _) | exact kp5 (KA.out.alloc _).drew (KD.out.alloc _).drew | exact kp5 (far2 KA.out XW kaL) (far2 KD.out XW kdL)) (first
            | (go_at_call 13; refine (toPuzzle n0 _ bs0 _ (R0.out.below (bel2 (bel2 T.out BB.out) (by (repeat (first | exact Below.refl _ _ | (refine Below.alloc ?_ (by first | omega | (simp; try omega)) _) | apply Below.drew | apply below_drewN))))) HBN.out).mono ?_; rintro e wi ⟨uu, rfl, hI, hb⟩; have KAn := Lib.hid (KA.out.below (bel1 (by (repeat (first | exact Below.refl _ _ | (refine Below.alloc ?_ (by first | omega | (simp; try omega)) _) | apply Below.drew | apply below_drewN))) hb) KA.out.lt); have KDn := Lib.hid (KD.out.below (bel1 (by (repeat (first | exact Below.refl _ _ | (refine Below.alloc ?_ (by first | omega | (simp; try omega)) _) | apply Below.drew | apply below_drewN))) hb) KD.out.lt); have BBn := Lib.hid (bel3 BB.out (by (repeat (first | exact Below.refl _ _ | (refine Below.alloc ?_ (by first | omega | (simp; try omega)) _) | apply Below.drew | apply below_drewN))) hb); have BO := Lib.hid BB.out.size; clear BB KA KD; have BB := BBn; have KA := KAn; have KD := KDn; clear BBn KAn KDn; (try (have IU := Lib.hid (IU.out.below (bel1 (by (repeat (first | exact Below.refl _ _ | (refine Below.alloc ?_ (by first | omega | (simp; try omega)) _) | apply Below.drew | apply below_drewN))) hb)))); (try (have X := Lib.hid (X.out.below (bel1 (by (repeat (first | exact Below.refl _ _ | (refine Below.alloc ?_ (by first | omega | (simp; try omega)) _) | apply Below.drew | apply below_drewN))) hb) X.out.lt))); (try (have X := Lib.hid ((Blk.drew (Blk.new _ #[.int .i64 0, .slice none 0 0] 35)).below hb (by simp)); have XW := BO)); (try (have X := Lib.hid ((Blk.new _ #[.int .i64 0, .slice none 0 0] 35).below hb (by simp)); have XW := BO)); clear BO; have IU := Lib.hid hI.rd; clear hI hb; skip)
            | (go_at_call 9; refine (toClue x1 y1 z1 _).mono ?_; rintro e wb ⟨rfl, hb⟩; have KAn := Lib.hid (KA.out.below (bel1 (by (repeat (first | exact Below.refl _ _ | (refine Below.alloc ?_ (by first | omega | (simp; try omega)) _) | apply Below.drew | apply below_drewN))) hb) KA.out.lt); have KDn := Lib.hid (KD.out.below (bel1 (by (repeat (first | exact Below.refl _ _ | (refine Below.alloc ?_ (by first | omega | (simp; try omega)) _) | apply Below.drew | apply below_drewN))) hb) KD.out.lt); have BBn := Lib.hid (bel3 BB.out (by (repeat (first | exact Below.refl _ _ | (refine Below.alloc ?_ (by first | omega | (simp; try omega)) _) | apply Below.drew | apply below_drewN))) hb); have BO := Lib.hid BB.out.size; clear BB KA KD; have BB := BBn; have KA := KAn; have KD := KDn; clear BBn KAn KDn; (try (have IU := Lib.hid (IU.out.below (bel1 (by (repeat (first | exact Below.refl _ _ | (refine Below.alloc ?_ (by first | omega | (simp; try omega)) _) | apply Below.drew | apply below_drewN))) hb)))); (try (have X := Lib.hid (X.out.below (bel1 (by (repeat (first | exact Below.refl _ _ | (refine Below.alloc ?_ (by first | omega | (simp; try omega)) _) | apply Below.drew | apply below_drewN))) hb) X.out.lt))); (try (have X := Lib.hid ((Blk.drew (Blk.new _ #[.int .i64 0, .slice none 0 0] 35)).below hb (by simp)); have XW := BO)); (try (have X := Lib.hid ((Blk.new _ #[.int .i64 0, .slice none 0 0] 35).below hb (by simp)); have XW := BO)); clear BO; clear hb; skip)
            | (go_at_call 21; refine (implAdd n0 _ bs0 x1 y1 z1 _ (IU.out.below (by (repeat (first | exact Below.refl _ _ | (refine Below.alloc ?_ (by first | omega | (simp; try omega)) _) | apply Below.drew | apply below_drewN)))) HBN.out).mono ?_; rw [HN.out, HZ.out, HO.out]; rintro e wr ⟨rr, rfl, hI, hb⟩; obtain ⟨ra, rn, rc, rfl⟩ := hI.form; have HI := Lib.hid (brs_from BB.out (by (repeat (first | exact Below.refl _ _ | (refine Below.alloc ?_ (by first | omega | (simp; try omega)) _) | apply Below.drew | apply below_drewN))) hI); (try (have APX := Lib.hid (ap_old hI (by (repeat (first | exact Below.refl _ _ | (refine Below.alloc ?_ (by first | omega | (simp; try omega)) _) | apply Below.drew | apply below_drewN))) X.out.lt))); (try (have APX := Lib.hid (ap_new hI))); (try (have APX := Lib.hid (ap_newD hI))); have KAn := Lib.hid (KA.out.below (bel1 (by (repeat (first | exact Below.refl _ _ | (refine Below.alloc ?_ (by first | omega | (simp; try omega)) _) | apply Below.drew | apply below_drewN))) hb) KA.out.lt); have KDn := Lib.hid (KD.out.below (bel1 (by (repeat (first | exact Below.refl _ _ | (refine Below.alloc ?_ (by first | omega | (simp; try omega)) _) | apply Below.drew | apply below_drewN))) hb) KD.out.lt); have BBn := Lib.hid (bel3 BB.out (by (repeat (first | exact Below.refl _ _ | (refine Below.alloc ?_ (by first | omega | (simp; try omega)) _) | apply Below.drew | apply below_drewN))) hb); have BO := Lib.hid BB.out.size; clear BB KA KD; have BB := BBn; have KA := KAn; have KD := KDn; clear BBn KAn KDn; (try (have IU := Lib.hid (IU.out.below (bel1 (by (repeat (first | exact Below.refl _ _ | (refine Below.alloc ?_ (by first | omega | (simp; try omega)) _) | apply Below.drew | apply below_drewN))) hb)))); (try (have X := Lib.hid (X.out.below (bel1 (by (repeat (first | exact Below.refl _ _ | (refine Below.alloc ?_ (by first | omega | (simp; try omega)) _) | apply Below.drew | apply below_drewN))) hb) X.out.lt))); (try (have X := Lib.hid ((Blk.drew (Blk.new _ #[.int .i64 0, .slice none 0 0] 35)).below hb (by simp)); have XW := BO)); (try (have X := Lib.hid ((Blk.new _ #[.int .i64 0, .slice none 0 0] 35).below hb (by simp)); have XW := BO)); clear BO; have LT := Lib.hid (own_in HI.out); (try (obtain ⟨ex, fx, gx⟩ := X.out.two)); (try (have x0 := X.out.fr 0)); (try (have x1 := X.out.fr 1)); clear hI hb; skip))
          all_goals
            go_wp2_with fail
            go_meet
            first
              | exact ⟨_, _, _, _, rfl, rfl, Lib.hid (cutB_new BB.out HI.out LT.out)⟩
              | exact ⟨_, _, _, _, rfl, rfl, Lib.hid (cutB_old BB.out HI.out X.out XW.out APX.out)⟩
        case rest =>
          obtain ⟨r2b, r2a, r2n, r2c, rfl, rfl, HC⟩ := hcut
          obtain ⟨W12, hwc⟩ : ∃ w9, w9 = wc := ⟨_, rfl⟩
          rw [← hwc] at HC ⊢
          clear hwc
          have hb := HC.out.2.2.2.2
          have T_ := Lib.hid (T.out.trans (hb.mono T.out.size))
          clear T
          have T := T_
          clear T_
          have XA_ := Lib.hid (XA.out.below hb XA.out.lt)
          clear XA
          have XA := XA_
          clear XA_
          have XD_ := Lib.hid (XD.out.below hb XD.out.lt)
          clear XD
          have XD := XD_
          clear XD_
          have XS_ := Lib.hid (XS.out.below hb XS.out.lt)
          clear XS
          have XS := XS_
          clear XS_
          have Ir0_ := Lib.hid (Ir0.out.below hb)
          clear Ir0
          have Ir0 := Ir0_
          clear Ir0_
          have XR_ := Lib.hid (XR.out.below hb XR.out.lt)
          clear XR
          have XR := XR_
          clear XR_
          have Im_ := Lib.hid (Im.out.below hb)
          clear Im
          have Im := Im_
          clear Im_
          have ZW12 : Hid (W11.heap.size ≤ W12.heap.size) := Lib.hid hb.size
          clear hb
          have XQ := Lib.hid HC.out.1
          have ZXQl : Hid (W11.heap.size ≤ r2b) := Lib.hid HC.out.2.1
          have ZXQ : Hid (r2b < W12.heap.size) := Lib.hid XQ.out.lt
          have Ir2 := Lib.hid HC.out.2.2.1
          have APr2 := Lib.hid HC.out.2.2.2.1
          have LTr2 : Hid (∀ b, (Value.slice r2a r2n r2c).ownBlock = some b → W11.heap.size ≤ b ∧ b < W12.heap.size) := Lib.hid (fun b h => Ir2.out.lt b h)
          clear HC
          obtain ⟨cXS, dXS, lXS⟩ := XS.out.two
          obtain ⟨cXQ, dXQ, lXQ⟩ := XQ.out.two
          go_wp2_with fail
          refine (eqPuzzle_same on _ _ obs _ Ir2.out.rd Ir0.out.rd HZL.out).mono ?_
          rintro e W13 ⟨rfl, hb⟩
          clear cXS dXS lXS
          clear cXQ dXQ lXQ
          have T_ := Lib.hid (T.out.trans (hb.mono T.out.size))
          clear T
          have T := T_
          clear T_
          have XA_ := Lib.hid (XA.out.below hb XA.out.lt)
          clear XA
          have XA := XA_
          clear XA_
          have XD_ := Lib.hid (XD.out.below hb XD.out.lt)
          clear XD
          have XD := XD_
          clear XD_
          have XS_ := Lib.hid (XS.out.below hb XS.out.lt)
          clear XS
          have XS := XS_
          clear XS_
          have Ir0_ := Lib.hid (Ir0.out.below hb)
          clear Ir0
          have Ir0 := Ir0_
          clear Ir0_
          have XR_ := Lib.hid (XR.out.below hb XR.out.lt)
          clear XR
          have XR := XR_
          clear XR_
          have Im_ := Lib.hid (Im.out.below hb)
          clear Im
          have Im := Im_
          clear Im_
          have XQ_ := Lib.hid (XQ.out.below hb XQ.out.lt)
          clear XQ
          have XQ := XQ_
          clear XQ_
          have Ir2_ := Lib.hid (Ir2.out.below hb)
          clear Ir2
          have Ir2 := Ir2_
          clear Ir2_
          have ZW13 : Hid (W12.heap.size ≤ W13.heap.size) := Lib.hid hb.size
          clear hb
          obtain ⟨cXR, dXR, lXR⟩ := XR.out.two
          go_wp2_with fail
          refine (heldPuzzle on _ obs.length _ 1 Im.out.rd HZL.out (by decide) (by decide)).mono ?_
          rintro e W14 ⟨rfl, hb⟩
          clear cXR dXR lXR
          have T_ := Lib.hid (T.out.trans (hb.mono T.out.size))
          clear T
          have T := T_
          clear T_
          have XA_ := Lib.hid (XA.out.below hb XA.out.lt)
          clear XA
          have XA := XA_
          clear XA_
          have XD_ := Lib.hid (XD.out.below hb XD.out.lt)
          clear XD
          have XD := XD_
          clear XD_
          have XS_ := Lib.hid (XS.out.below hb XS.out.lt)
          clear XS
          have XS := XS_
          clear XS_
          have Ir0_ := Lib.hid (Ir0.out.below hb)
          clear Ir0
          have Ir0 := Ir0_
          clear Ir0_
          have XR_ := Lib.hid (XR.out.below hb XR.out.lt)
          clear XR
          have XR := XR_
          clear XR_
          have Im_ := Lib.hid (Im.out.below hb)
          clear Im
          have Im := Im_
          clear Im_
          have XQ_ := Lib.hid (XQ.out.below hb XQ.out.lt)
          clear XQ
          have XQ := XQ_
          clear XQ_
          have Ir2_ := Lib.hid (Ir2.out.below hb)
          clear Ir2
          have Ir2 := Ir2_
          clear Ir2_
          have ZW14 : Hid (W13.heap.size ≤ W14.heap.size) := Lib.hid hb.size
          clear hb
          go_wp2
          go_ret
          exact ⟨rfl, T.out⟩

set_option maxRecDepth 100000 in
theorem lifted (os : Os) (started : os.Started) (H : Type) (enc : TypeId × Value → H) :
    ReturnsInHanded {} Try.checked os 6 .any (Rows.fnExactAddClueSpec.pre6 enc Try.prog Try.f6 Rows.fnExactAddClueRow.domain false) (Rows.fnExactAddClueSpec.post enc Try.prog Try.f6 false true false false) := by
  refine returnsInHanded_of_change (C := Try.checked) own started (by kernel_rfl) Try.func6
    (ChangeSpec.witness6 (enc := enc) (C := Try.checked) false ⟨#[], #[.agg #[.int .i64 0, .slice none 0 0], .agg #[.int .i64 0, .int .i64 0, .int .i64 0]], []⟩ 8 (by kernel_rfl) (by kernel_rfl) (by kernel_rfl) (by kernel_rfl)) ?_
  intro W base args ds gs before hval0 hW hcnd _
  have hval : ∀ (j : Nat) t v, Try.f6.params[j]? = some t → args[j]? = some v → Value.okWide Try.prog W .any base t v := hval0
  have hW' := hW
  obtain ⟨p, q, hA0, hV, rfl, hfz, hnd⟩ := hW
  have hA : DataW.TrodAll enc Try.prog W 0 (fun _ => true) true Try.f6.params.toList args.toList ds p := hA0
  rw [Try.params6] at hA hval
  obtain ⟨v0, vs0, d0, ds0, p0, q0, hargs, rfl, rfl, h0, r0⟩ := trodAll_cons hA
  obtain ⟨v1, vs1, d1, ds1, p1, q1, rfl, rfl, rfl, h1, r1⟩ := trodAll_cons r0
  obtain ⟨rfl, rfl, rfl⟩ := trodAll_nil r1
  obtain rfl : args = #[v0, v1] := by cases args; simp_all
  obtain ⟨rfl, rfl⟩ := trodVars_none hV
  have k0 := h0
  have lt0 : ∀ x ∈ p0, x.block < W.heap.size := by obtain ⟨m, hm⟩ := k0; exact DataW.trod_lt m _ _ _ hm
  obtain ⟨n0, a0, len0, cap0, bs0, rfl, w0, m0⟩ := openPuzzle (hval 0 30 v0 rfl rfl) h0
  have k1 := h1
  have lt1 : ∀ x ∈ p1, x.block < W.heap.size := by obtain ⟨m, hm⟩ := k1; exact DataW.trod_lt m _ _ _ hm
  obtain ⟨x1, y1, z1, rfl⟩ := openClue (hval 1 23 v1 rfl rfl) h1
  clear hA0 hval0
  refine (walk n0 a0 len0 cap0 bs0 x1 y1 z1  W w0 m0).mono fun e W' ⟨he, bel⟩ => ?_
  subst he
  exact ⟨_, rfl, _, _, _, [], _, [], hW', trodAll_mk1 (shut_bool Try.underlying4 _), (trodAll_cons_mk (Below.trod laidOut (by kernel_rfl) (of_decide_eq_true (by kernel_rfl)) k0 bel lt0) (trodAll_cons_mk (Below.trod laidOut (by kernel_rfl) (of_decide_eq_true (by kernel_rfl)) k1 bel lt1) trodAll_mk0)), rfl, bel.frame _, fun h => by cases h⟩

theorem over : Rows.fnExactAddClueRow.holds Try.pinned (OpenSpec.ofChange Rows.fnExactAddClueSpec) :=
  OpenClaim.holds_of_wide 6 Try.f6 rfl rfl rfl rfl rfl rfl rfl ⟨rfl, rfl, rfl, rfl, rfl⟩ rfl rfl rfl rfl rfl (by kernel_rfl) Try.func6 (by kernel_rfl)
    (of_decide_eq_true (by kernel_rfl)) (by unfold Func.isWrapper; first | (rw [if_pos (by decide +kernel)]; kernel_rfl) | (rw [if_neg (by decide +kernel)]; exact ⟨rfl, rfl⟩))
    (fun os started H enc _ => lifted os started H enc)

theorem proved : Rows.FnExactAddClueSaid := over
#print axioms proved
end Go.Proofs.Ytnmeomcoeknjoaa.fnExactAddClueDone
