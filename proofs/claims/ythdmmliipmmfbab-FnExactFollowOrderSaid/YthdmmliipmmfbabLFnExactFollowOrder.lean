/- FnExactFollowOrder: for every input the law returns true; each argument reads behind the call as it read before. No condition. -/
import Derived.Test.YthdmmliipmmfbabOe
import Derived.Test.YthdmmliipmmfbabRows
import Derived.WalkKit
import Derived.ProofKit
import Derived.OpenShut
import Derived.ShutString
import Derived.ChangeOld
import Derived.Below
import Derived.WalkSpells
import Derived.WalkLawsBesides
import Derived.Lib.Hide
namespace Go.Proofs.Ythdmmliipmmfbab.fnExactFollowOrderDone
open Go.ChangeShapes Go.WideShapes Go.ChangeAt Go.RowKit
open Go.ChangeMaps (open_string shut_string)
set_option linter.unusedVariables false

theorem own : ownKnob Try.prog.godebug = none := by kernel_rfl
theorem laidOut : laidOutB Try.prog = true := by kernel_rfl

set_option maxHeartbeats 4000000 in
theorem walk (a0 : Option Addr) (len0 cap0 : Nat) (z0 : List Int) (a1 : Option Addr) (len1 cap1 : Nat) (z1 : List Int)  (W0 : World) (w0 : IsRow .i64 W0 a0 len0 cap0 z0) (w1 : IsRow .i64 W0 a1 len1 cap1 z1) :
    Calls Try.prog 3 #[.slice a0 len0 cap0, .slice a1 len1 cap1] W0 fun e w' => e = .returned (.bool true) ∧ Below W0.heap.size W0 w' := by
  obtain ⟨hr0, hl0, hbd0⟩ := w0.rd
  have HW0 := Lib.hid w0
  clear w0
  have hcm0 : len0 ≤ 9223372036854775807 := by
    rcases HW0.out with ⟨rfl, rfl, rfl, rfl⟩ | ⟨x, rfl, h1, h2, _⟩
    · omega
    · unfold maxLen at h2; omega
  by_cases hbl0 : 1048576 < len0
  · go_enter Try.func3, Try.ntmps3
    go_wp2
    go_ret
    exact ⟨rfl, Below.refl _ _⟩
  obtain ⟨hr1, hl1, hbd1⟩ := w1.rd
  have HW1 := Lib.hid w1
  clear w1
  have hcm1 : len1 ≤ 9223372036854775807 := by
    rcases HW1.out with ⟨rfl, rfl, rfl, rfl⟩ | ⟨x, rfl, h1, h2, _⟩
    · omega
    · unfold maxLen at h2; omega
  by_cases hbl1 : 1048576 < len1
  · go_enter Try.func3, Try.ntmps3
    go_wp2
    go_ret
    exact ⟨rfl, Below.refl _ _⟩
  generalize z0.take len0 = s0 at *
  have hgt0 : ∀ j, -9223372036854775808 ≤ gt s0 j ∧ gt s0 j ≤ 9223372036854775807 := gt_bound hbd0
  have hln0 : s0.length ≤ 1048576 := by omega
  have HG0 := Lib.hid hgt0
  have HL0 := Lib.hid hln0
  have R0 := Lib.hid hr0
  clear hbd0 hgt0 hl0 hln0 hr0
  generalize z1.take len1 = s1 at *
  have hgt1 : ∀ j, -9223372036854775808 ≤ gt s1 j ∧ gt s1 j ≤ 9223372036854775807 := gt_bound hbd1
  have hln1 : s1.length ≤ 1048576 := by omega
  have HG1 := Lib.hid hgt1
  have HL1 := Lib.hid hln1
  have R1 := Lib.hid hr1
  clear hbd1 hgt1 hl1 hln1 hr1
  have hzl : (folL s0 s1).length ≤ 16777216 := (by have := folL_len s0 s1; omega)
  generalize hzs : (folL s0 s1) = zs at hzl
  generalize hok : (folB s0 s1) = ok
  have HZ := Lib.hid hzs
  have HO := Lib.hid hok
  have HZL := Lib.hid hzl
  clear hzs hok hzl
  go_enter Try.func3, Try.ntmps3
  have B0 := Lib.hid (Below.refl W0.heap.size W0)
  have S0 : Hid (W0.heap.size ≤ W0.heap.size) := Lib.hid (Nat.le_refl _)
  go_wp2_with fail
  refine (toIntS _ s0 W0 (R0.out.below B0.out) HL0.out).mono ?_
  rintro e W1 ⟨p0, rfl, hI1, hb1⟩
  have T1 : Hid (W0.heap.size ≤ W1.heap.size) := Lib.hid hb1.size
  have S1 : Hid (W0.heap.size ≤ W1.heap.size) := Lib.hid (Nat.le_trans S0.out T1.out)
  have B1 := Lib.hid (B0.out.trans (hb1.mono S0.out))
  clear B0
  clear hb1
  have LTp0 : Hid (∀ b, p0.ownBlock = some b → W0.heap.size ≤ b ∧ b < W1.heap.size) := Lib.hid (fun b h => World.ownsRow.lt hI1 b h)
  have p0_1 := Lib.hid hI1
  clear hI1
  go_wp2_with fail
  refine (toIntS _ s1 W1 (R1.out.below B1.out) HL1.out).mono ?_
  rintro e W2 ⟨p1, rfl, hI2, hb2⟩
  have T2 : Hid (W1.heap.size ≤ W2.heap.size) := Lib.hid hb2.size
  have S2 : Hid (W0.heap.size ≤ W2.heap.size) := Lib.hid (Nat.le_trans S1.out T2.out)
  have B2 := Lib.hid (B1.out.trans (hb2.mono S1.out))
  clear B1
  have p0_2 := Lib.hid (p0_1.out.below hb2)
  clear p0_1
  clear hb2
  have LTp1 : Hid (∀ b, p1.ownBlock = some b → W1.heap.size ≤ b ∧ b < W2.heap.size) := Lib.hid (fun b h => World.ownsRow.lt hI2 b h)
  have p1_2 := Lib.hid hI2
  clear hI2
  go_wp2_with fail
  refine (specFollow p0 p1 s0 s1 W2 p0_2.out.rd HL0.out p1_2.out.rd HL1.out).mono ?_
  rw [HZ.out, HO.out]
  rintro e W3 ⟨r0, rfl, hI3, hb3⟩
  have T3 : Hid (W2.heap.size ≤ W3.heap.size) := Lib.hid hb3.size
  have S3 : Hid (W0.heap.size ≤ W3.heap.size) := Lib.hid (Nat.le_trans S2.out T3.out)
  have B3 := Lib.hid (B2.out.trans (hb3.mono S2.out))
  clear B2
  clear p0_2
  clear p1_2
  clear hb3
  have LTr0 : Hid (∀ b, r0.ownBlock = some b → W2.heap.size ≤ b ∧ b < W3.heap.size) := Lib.hid (fun b h => World.ownsRow.lt hI3 b h)
  have r0_3 := Lib.hid hI3
  clear hI3
  go_wp2_with fail
  refine (toIntS _ s0 W3 (R0.out.below B3.out) HL0.out).mono ?_
  rintro e W4 ⟨x0, rfl, hI4, hb4⟩
  have T4 : Hid (W3.heap.size ≤ W4.heap.size) := Lib.hid hb4.size
  have S4 : Hid (W0.heap.size ≤ W4.heap.size) := Lib.hid (Nat.le_trans S3.out T4.out)
  have B4 := Lib.hid (B3.out.trans (hb4.mono S3.out))
  clear B3
  have r0_4 := Lib.hid (r0_3.out.below hb4)
  clear r0_3
  clear hb4
  have LTx0 : Hid (∀ b, x0.ownBlock = some b → W3.heap.size ≤ b ∧ b < W4.heap.size) := Lib.hid (fun b h => World.ownsRow.lt hI4 b h)
  have x0_4 := Lib.hid hI4
  clear hI4
  go_wp2_with fail
  refine (toIntS _ s1 W4 (R1.out.below B4.out) HL1.out).mono ?_
  rintro e W5 ⟨x1, rfl, hI5, hb5⟩
  have T5 : Hid (W4.heap.size ≤ W5.heap.size) := Lib.hid hb5.size
  have S5 : Hid (W0.heap.size ≤ W5.heap.size) := Lib.hid (Nat.le_trans S4.out T5.out)
  have B5 := Lib.hid (B4.out.trans (hb5.mono S4.out))
  clear B4
  have r0_5 := Lib.hid (r0_4.out.below hb5)
  clear r0_4
  have x0_5 := Lib.hid (x0_4.out.below hb5)
  clear x0_4
  clear hb5
  have LTx1 : Hid (∀ b, x1.ownBlock = some b → W4.heap.size ≤ b ∧ b < W5.heap.size) := Lib.hid (fun b h => World.ownsRow.lt hI5 b h)
  have x1_5 := Lib.hid hI5
  clear hI5
  go_wp2_with fail
  refine (implFollow x0 x1 s0 s1 W5 x0_5.out.rd HL0.out x1_5.out.rd HL1.out).mono ?_
  rw [HZ.out, HO.out]
  rintro e W6 ⟨r1, rfl, hI6, hb6⟩
  have T6 : Hid (W5.heap.size ≤ W6.heap.size) := Lib.hid hb6.size
  have S6 : Hid (W0.heap.size ≤ W6.heap.size) := Lib.hid (Nat.le_trans S5.out T6.out)
  have B6 := Lib.hid (B5.out.trans (hb6.mono S5.out))
  clear B5
  have r0_6 := Lib.hid (r0_5.out.below hb6)
  clear r0_5
  have x0_6 := Lib.hid (x0_5.out.below hb6)
  clear x0_5
  have x1_6 := Lib.hid (x1_5.out.below hb6)
  clear x1_5
  clear hb6
  have LTr1 : Hid (∀ b, r1.ownBlock = some b → W5.heap.size ≤ b ∧ b < W6.heap.size) := Lib.hid (fun b h => World.ownsRow.lt hI6 b h)
  have r1_6 := Lib.hid hI6
  clear hI6
  go_wp2_with fail
  refine (eqIntS_same r1 r0 zs W6 r1_6.out.rd r0_6.out.rd HZL.out).mono ?_
  rintro e W7 ⟨rfl, hb7⟩
  have T7 : Hid (W6.heap.size ≤ W7.heap.size) := Lib.hid hb7.size
  have S7 : Hid (W0.heap.size ≤ W7.heap.size) := Lib.hid (Nat.le_trans S6.out T7.out)
  have B7 := Lib.hid (B6.out.trans (hb7.mono S6.out))
  clear B6
  have r0_7 := Lib.hid (r0_6.out.below hb7)
  clear r0_6
  have x0_7 := Lib.hid (x0_6.out.below hb7)
  clear x0_6
  have x1_7 := Lib.hid (x1_6.out.below hb7)
  clear x1_6
  have r1_7 := Lib.hid (r1_6.out.below hb7)
  clear r1_6
  clear hb7
  go_wp2_with fail
  refine (toIntS _ s0 W7 (R0.out.below B7.out) HL0.out).mono ?_
  rintro e W8 ⟨y0, rfl, hI8, hb8⟩
  have T8 : Hid (W7.heap.size ≤ W8.heap.size) := Lib.hid hb8.size
  have S8 : Hid (W0.heap.size ≤ W8.heap.size) := Lib.hid (Nat.le_trans S7.out T8.out)
  have B8 := Lib.hid (B7.out.trans (hb8.mono S7.out))
  clear B7
  have r0_8 := Lib.hid (r0_7.out.below hb8)
  clear r0_7
  have x0_8 := Lib.hid (x0_7.out.below hb8)
  clear x0_7
  have x1_8 := Lib.hid (x1_7.out.below hb8)
  clear x1_7
  have r1_8 := Lib.hid (r1_7.out.below hb8)
  clear r1_7
  clear hb8
  have LTy0 : Hid (∀ b, y0.ownBlock = some b → W7.heap.size ≤ b ∧ b < W8.heap.size) := Lib.hid (fun b h => World.ownsRow.lt hI8 b h)
  have y0_8 := Lib.hid hI8
  clear hI8
  go_wp2_with fail
  refine (eqIntS_same x0 y0 s0 W8 x0_8.out.rd y0_8.out.rd (by have := HL0.out; omega)).mono ?_
  rintro e W9 ⟨rfl, hb9⟩
  have T9 : Hid (W8.heap.size ≤ W9.heap.size) := Lib.hid hb9.size
  have S9 : Hid (W0.heap.size ≤ W9.heap.size) := Lib.hid (Nat.le_trans S8.out T9.out)
  have B9 := Lib.hid (B8.out.trans (hb9.mono S8.out))
  clear B8
  have r0_9 := Lib.hid (r0_8.out.below hb9)
  clear r0_8
  have x0_9 := Lib.hid (x0_8.out.below hb9)
  clear x0_8
  have x1_9 := Lib.hid (x1_8.out.below hb9)
  clear x1_8
  have r1_9 := Lib.hid (r1_8.out.below hb9)
  clear r1_8
  clear y0_8
  clear hb9
  go_wp2_with fail
  refine (toIntS _ s1 W9 (R1.out.below B9.out) HL1.out).mono ?_
  rintro e W10 ⟨y1, rfl, hI10, hb10⟩
  have T10 : Hid (W9.heap.size ≤ W10.heap.size) := Lib.hid hb10.size
  have S10 : Hid (W0.heap.size ≤ W10.heap.size) := Lib.hid (Nat.le_trans S9.out T10.out)
  have B10 := Lib.hid (B9.out.trans (hb10.mono S9.out))
  clear B9
  have r0_10 := Lib.hid (r0_9.out.below hb10)
  clear r0_9
  have x0_10 := Lib.hid (x0_9.out.below hb10)
  clear x0_9
  have x1_10 := Lib.hid (x1_9.out.below hb10)
  clear x1_9
  have r1_10 := Lib.hid (r1_9.out.below hb10)
  clear r1_9
  clear hb10
  have LTy1 : Hid (∀ b, y1.ownBlock = some b → W9.heap.size ≤ b ∧ b < W10.heap.size) := Lib.hid (fun b h => World.ownsRow.lt hI10 b h)
  have y1_10 := Lib.hid hI10
  clear hI10
  go_wp2_with fail
  refine (eqIntS_same x1 y1 s1 W10 x1_10.out.rd y1_10.out.rd (by have := HL1.out; omega)).mono ?_
  rintro e W11 ⟨rfl, hb11⟩
  have T11 : Hid (W10.heap.size ≤ W11.heap.size) := Lib.hid hb11.size
  have S11 : Hid (W0.heap.size ≤ W11.heap.size) := Lib.hid (Nat.le_trans S10.out T11.out)
  have B11 := Lib.hid (B10.out.trans (hb11.mono S10.out))
  clear B10
  have r0_11 := Lib.hid (r0_10.out.below hb11)
  clear r0_10
  have x0_11 := Lib.hid (x0_10.out.below hb11)
  clear x0_10
  have x1_11 := Lib.hid (x1_10.out.below hb11)
  clear x1_10
  have r1_11 := Lib.hid (r1_10.out.below hb11)
  clear r1_10
  clear y1_10
  clear hb11
  have hL0 := HL0.out
  have hL1 := HL1.out
  have hZ := HZL.out
  go_wp2_with fail
  refine (markIntS x0 s0 W3.heap.size W11 x0_11.out (by omega) (1) (by omega) (by omega)).mono ?_
  rintro e W12 ⟨rfl, hm12, hg12⟩
  have T12 : Hid (W11.heap.size ≤ W12.heap.size) := Lib.hid hg12.size
  have S12 : Hid (W0.heap.size ≤ W12.heap.size) := Lib.hid (Nat.le_trans S11.out T12.out)
  have B12 := Lib.hid (B11.out.grown hg12 S11.out (fun b h => Nat.le_trans S3.out (LTx0.out b h).1))
  clear B11 x0_11
  have x0_12 := Lib.hid hm12
  have r0_12 := Lib.hid (r0_11.out.kept hg12 (apart_old LTx0.out LTr0.out (by (have := T1.out); (have := T2.out); (have := T3.out); (have := T4.out); (have := T5.out); (have := T6.out); (have := T7.out); (have := T8.out); (have := T9.out); (have := T10.out); (have := T11.out); omega)))
  clear r0_11
  have x1_12 := Lib.hid (x1_11.out.kept hg12 (apart_new LTx0.out LTx1.out (by (have := T1.out); (have := T2.out); (have := T3.out); (have := T4.out); (have := T5.out); (have := T6.out); (have := T7.out); (have := T8.out); (have := T9.out); (have := T10.out); (have := T11.out); omega)))
  clear x1_11
  have r1_12 := Lib.hid (r1_11.out.kept hg12 (apart_new LTx0.out LTr1.out (by (have := T1.out); (have := T2.out); (have := T3.out); (have := T4.out); (have := T5.out); (have := T6.out); (have := T7.out); (have := T8.out); (have := T9.out); (have := T10.out); (have := T11.out); omega)))
  clear r1_11
  clear hm12 hg12
  go_wp2_with fail
  refine (markIntS x1 s1 W4.heap.size W12 x1_12.out (by omega) (1 + (s0.length : Int)) (by omega) (by omega)).mono ?_
  rintro e W13 ⟨rfl, hm13, hg13⟩
  have T13 : Hid (W12.heap.size ≤ W13.heap.size) := Lib.hid hg13.size
  have S13 : Hid (W0.heap.size ≤ W13.heap.size) := Lib.hid (Nat.le_trans S12.out T13.out)
  have B13 := Lib.hid (B12.out.grown hg13 S12.out (fun b h => Nat.le_trans S4.out (LTx1.out b h).1))
  clear B12 x1_12
  have x1_13 := Lib.hid hm13
  have r0_13 := Lib.hid (r0_12.out.kept hg13 (apart_old LTx1.out LTr0.out (by (have := T1.out); (have := T2.out); (have := T3.out); (have := T4.out); (have := T5.out); (have := T6.out); (have := T7.out); (have := T8.out); (have := T9.out); (have := T10.out); (have := T11.out); (have := T12.out); omega)))
  clear r0_12
  have x0_13 := Lib.hid (x0_12.out.kept hg13 (apart_old LTx1.out LTx0.out (by (have := T1.out); (have := T2.out); (have := T3.out); (have := T4.out); (have := T5.out); (have := T6.out); (have := T7.out); (have := T8.out); (have := T9.out); (have := T10.out); (have := T11.out); (have := T12.out); omega)))
  clear x0_12
  have r1_13 := Lib.hid (r1_12.out.kept hg13 (apart_new LTx1.out LTr1.out (by (have := T1.out); (have := T2.out); (have := T3.out); (have := T4.out); (have := T5.out); (have := T6.out); (have := T7.out); (have := T8.out); (have := T9.out); (have := T10.out); (have := T11.out); (have := T12.out); omega)))
  clear r1_12
  clear hm13 hg13
  clear x0_13
  clear x1_13
  go_wp2_with fail
  refine (eqIntS_same r1 r0 zs W13 r1_13.out.rd r0_13.out.rd hZ).mono ?_
  rintro e W14 ⟨rfl, hb14⟩
  have T14 : Hid (W13.heap.size ≤ W14.heap.size) := Lib.hid hb14.size
  have S14 : Hid (W0.heap.size ≤ W14.heap.size) := Lib.hid (Nat.le_trans S13.out T14.out)
  have B14 := Lib.hid (B13.out.trans (hb14.mono S13.out))
  clear B13
  have r0_14 := Lib.hid (r0_13.out.below hb14)
  clear r0_13
  have r1_14 := Lib.hid (r1_13.out.below hb14)
  clear r1_13
  clear hb14
  go_wp2_with fail
  refine (markIntS r1 zs W5.heap.size W14 r1_14.out hZ (1) (by omega) (by omega)).mono ?_
  rintro e W15 ⟨rfl, hm15, hg15⟩
  have T15 : Hid (W14.heap.size ≤ W15.heap.size) := Lib.hid hg15.size
  have S15 : Hid (W0.heap.size ≤ W15.heap.size) := Lib.hid (Nat.le_trans S14.out T15.out)
  have B15 := Lib.hid (B14.out.grown hg15 S14.out (fun b h => Nat.le_trans S5.out (LTr1.out b h).1))
  clear B14 r1_14
  have r1_15 := Lib.hid hm15
  have r0_15 := Lib.hid (r0_14.out.kept hg15 (apart_old LTr1.out LTr0.out (by (have := T1.out); (have := T2.out); (have := T3.out); (have := T4.out); (have := T5.out); (have := T6.out); (have := T7.out); (have := T8.out); (have := T9.out); (have := T10.out); (have := T11.out); (have := T12.out); (have := T13.out); (have := T14.out); omega)))
  clear r0_14
  clear hm15 hg15
  go_wp2_with fail
  refine (heldIntS r1 zs.length W15 1 r1_15.out.rd hZ (by decide) (by decide)).mono ?_
  rintro e w' ⟨rfl, rfl⟩
  go_wp2_with fail
  refine (toIntS _ s0 W15 (R0.out.below B15.out) HL0.out).mono ?_
  rintro e W16 ⟨q0, rfl, hI16, hb16⟩
  have T16 : Hid (W15.heap.size ≤ W16.heap.size) := Lib.hid hb16.size
  have S16 : Hid (W0.heap.size ≤ W16.heap.size) := Lib.hid (Nat.le_trans S15.out T16.out)
  have B16 := Lib.hid (B15.out.trans (hb16.mono S15.out))
  clear B15
  have r0_16 := Lib.hid (r0_15.out.below hb16)
  clear r0_15
  have r1_16 := Lib.hid (r1_15.out.below hb16)
  clear r1_15
  clear hb16
  have LTq0 : Hid (∀ b, q0.ownBlock = some b → W15.heap.size ≤ b ∧ b < W16.heap.size) := Lib.hid (fun b h => World.ownsRow.lt hI16 b h)
  have q0_16 := Lib.hid hI16
  clear hI16
  go_wp2_with fail
  refine (toIntS _ s1 W16 (R1.out.below B16.out) HL1.out).mono ?_
  rintro e W17 ⟨q1, rfl, hI17, hb17⟩
  have T17 : Hid (W16.heap.size ≤ W17.heap.size) := Lib.hid hb17.size
  have S17 : Hid (W0.heap.size ≤ W17.heap.size) := Lib.hid (Nat.le_trans S16.out T17.out)
  have B17 := Lib.hid (B16.out.trans (hb17.mono S16.out))
  clear B16
  have r0_17 := Lib.hid (r0_16.out.below hb17)
  clear r0_16
  have r1_17 := Lib.hid (r1_16.out.below hb17)
  clear r1_16
  have q0_17 := Lib.hid (q0_16.out.below hb17)
  clear q0_16
  clear hb17
  have LTq1 : Hid (∀ b, q1.ownBlock = some b → W16.heap.size ≤ b ∧ b < W17.heap.size) := Lib.hid (fun b h => World.ownsRow.lt hI17 b h)
  have q1_17 := Lib.hid hI17
  clear hI17
  go_wp2_with fail
  refine (implFollow q0 q1 s0 s1 W17 q0_17.out.rd HL0.out q1_17.out.rd HL1.out).mono ?_
  rw [HZ.out, HO.out]
  rintro e W18 ⟨r2, rfl, hI18, hb18⟩
  have T18 : Hid (W17.heap.size ≤ W18.heap.size) := Lib.hid hb18.size
  have S18 : Hid (W0.heap.size ≤ W18.heap.size) := Lib.hid (Nat.le_trans S17.out T18.out)
  have B18 := Lib.hid (B17.out.trans (hb18.mono S17.out))
  clear B17
  have r0_18 := Lib.hid (r0_17.out.below hb18)
  clear r0_17
  have r1_18 := Lib.hid (r1_17.out.below hb18)
  clear r1_17
  clear q0_17
  clear q1_17
  clear hb18
  have LTr2 : Hid (∀ b, r2.ownBlock = some b → W17.heap.size ≤ b ∧ b < W18.heap.size) := Lib.hid (fun b h => World.ownsRow.lt hI18 b h)
  have r2_18 := Lib.hid hI18
  clear hI18
  go_wp2_with fail
  refine (eqIntS_same r2 r0 zs W18 r2_18.out.rd r0_18.out.rd hZ).mono ?_
  rintro e W19 ⟨rfl, hb19⟩
  have T19 : Hid (W18.heap.size ≤ W19.heap.size) := Lib.hid hb19.size
  have S19 : Hid (W0.heap.size ≤ W19.heap.size) := Lib.hid (Nat.le_trans S18.out T19.out)
  have B19 := Lib.hid (B18.out.trans (hb19.mono S18.out))
  clear B18
  have r0_19 := Lib.hid (r0_18.out.below hb19)
  clear r0_18
  have r1_19 := Lib.hid (r1_18.out.below hb19)
  clear r1_18
  have r2_19 := Lib.hid (r2_18.out.below hb19)
  clear r2_18
  clear hb19
  go_wp2_with fail
  refine (heldIntS r1 zs.length W19 1 r1_19.out.rd hZ (by decide) (by decide)).mono ?_
  rintro e w' ⟨rfl, rfl⟩
  go_wp2
  go_ret
  exact ⟨rfl, B19.out⟩

set_option maxRecDepth 100000 in
theorem lifted (os : Os) (started : os.Started) (H : Type) (enc : TypeId × Value → H) :
    ReturnsInHanded {} Try.checked os 3 .any (Rows.fnExactFollowOrderSpec.pre6 enc Try.prog Try.f3 Rows.fnExactFollowOrderRow.domain false) (Rows.fnExactFollowOrderSpec.post enc Try.prog Try.f3 false true false false) := by
  refine returnsInHanded_of_change (C := Try.checked) own started (by kernel_rfl) Try.func3
    (ChangeSpec.witness6 (enc := enc) (C := Try.checked) false ⟨#[], #[.slice none 0 0, .slice none 0 0], []⟩ 8 (by kernel_rfl) (by kernel_rfl) (by kernel_rfl) (by kernel_rfl)) ?_
  intro W base args ds gs before hval0 hW hcnd _
  have hval : ∀ (j : Nat) t v, Try.f3.params[j]? = some t → args[j]? = some v → Value.okWide Try.prog W .any base t v := hval0
  have hW' := hW
  obtain ⟨p, q, hA0, hV, rfl, hfz, hnd⟩ := hW
  have hA : DataW.TrodAll enc Try.prog W 0 (fun _ => true) true Try.f3.params.toList args.toList ds p := hA0
  rw [Try.params3] at hA hval
  obtain ⟨v0, vs0, d0, ds0, p0, q0, hargs, rfl, rfl, h0, r0⟩ := trodAll_cons hA
  obtain ⟨v1, vs1, d1, ds1, p1, q1, rfl, rfl, rfl, h1, r1⟩ := trodAll_cons r0
  obtain ⟨rfl, rfl, rfl⟩ := trodAll_nil r1
  obtain rfl : args = #[v0, v1] := by cases args; simp_all
  obtain ⟨rfl, rfl⟩ := trodVars_none hV
  obtain ⟨a0, len0, cap0, rfl⟩ := okWide_slice Try.underlying22 (hval 0 22 v0 rfl rfl)
  have k0 := h0
  have lt0 : ∀ x ∈ p0, x.block < W.heap.size := by obtain ⟨m, hm⟩ := k0; exact DataW.trod_lt m _ _ _ hm
  obtain ⟨z0, w0⟩ : ∃ zs, IsRow .i64 W a0 len0 cap0 zs := by
    obtain ⟨fuel, hf⟩ := h0
    rcases open_ints Try.underlying22 Try.underlying3 (by kernel_rfl) hf with ⟨hcs, _⟩ | ⟨x, l, c, zs, hcs, _, hl, hm, hz, _, hcell, hwz⟩
    · simp [Value.cells] at hcs
      obtain ⟨rfl, rfl, rfl⟩ := hcs
      exact ⟨[], .inl ⟨rfl, rfl, rfl, rfl⟩⟩
    · simp [Value.cells] at hcs
      obtain ⟨rfl, rfl, rfl⟩ := hcs
      exact ⟨zs, .inr ⟨_, rfl, hl, hm, by simpa using hz, hcell, hwz⟩⟩
  obtain ⟨a1, len1, cap1, rfl⟩ := okWide_slice Try.underlying22 (hval 1 22 v1 rfl rfl)
  have k1 := h1
  have lt1 : ∀ x ∈ p1, x.block < W.heap.size := by obtain ⟨m, hm⟩ := k1; exact DataW.trod_lt m _ _ _ hm
  obtain ⟨z1, w1⟩ : ∃ zs, IsRow .i64 W a1 len1 cap1 zs := by
    obtain ⟨fuel, hf⟩ := h1
    rcases open_ints Try.underlying22 Try.underlying3 (by kernel_rfl) hf with ⟨hcs, _⟩ | ⟨x, l, c, zs, hcs, _, hl, hm, hz, _, hcell, hwz⟩
    · simp [Value.cells] at hcs
      obtain ⟨rfl, rfl, rfl⟩ := hcs
      exact ⟨[], .inl ⟨rfl, rfl, rfl, rfl⟩⟩
    · simp [Value.cells] at hcs
      obtain ⟨rfl, rfl, rfl⟩ := hcs
      exact ⟨zs, .inr ⟨_, rfl, hl, hm, by simpa using hz, hcell, hwz⟩⟩
  clear hA0 hval0
  refine (walk a0 len0 cap0 z0 a1 len1 cap1 z1  W w0 w1).mono fun e W' ⟨he, bel⟩ => ?_
  subst he
  exact ⟨_, rfl, _, _, _, [], _, [], hW', trodAll_mk1 (shut_bool Try.underlying4 _), (trodAll_cons_mk (Below.trod laidOut (by kernel_rfl) (of_decide_eq_true (by kernel_rfl)) k0 bel lt0) (trodAll_cons_mk (Below.trod laidOut (by kernel_rfl) (of_decide_eq_true (by kernel_rfl)) k1 bel lt1) trodAll_mk0)), rfl, bel.frame _, fun h => by cases h⟩

theorem over : Rows.fnExactFollowOrderRow.holds Try.pinned (OpenSpec.ofChange Rows.fnExactFollowOrderSpec) :=
  OpenClaim.holds_of_wide 3 Try.f3 rfl rfl rfl rfl rfl rfl rfl ⟨rfl, rfl, rfl, rfl, rfl⟩ rfl rfl rfl rfl rfl (by kernel_rfl) Try.func3 (by kernel_rfl)
    (of_decide_eq_true (by kernel_rfl)) (by unfold Func.isWrapper; first | (rw [if_pos (by decide +kernel)]; kernel_rfl) | (rw [if_neg (by decide +kernel)]; exact ⟨rfl, rfl⟩))
    (fun os started H enc _ => lifted os started H enc)

theorem proved : Rows.FnExactFollowOrderSaid := over
#print axioms proved
end Go.Proofs.Ythdmmliipmmfbab.fnExactFollowOrderDone
