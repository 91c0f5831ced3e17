/- FnExactFirstDesk: for every input the law returns true; each argument reads behind the call as it read before. No condition. -/
import Derived.Test.YtcpipacombnhdaaFd
import Derived.Test.YtcpipacombnhdaaRows
import Derived.WalkKit
import Derived.ProofKit
import Derived.OpenShut
import Derived.ShutString
import Derived.ChangeOld
import Derived.Below
import Derived.WalkSpells
import Derived.WalkLawsBesides
import Derived.Lib.Hide
namespace Go.Proofs.Ytcpipacombnhdaa.fnExactFirstDeskDone
open Go.ChangeShapes Go.WideShapes Go.ChangeAt Go.RowKit
open Go.ChangeMaps (open_string shut_string)
set_option linter.unusedVariables false

theorem own : ownKnob Try.prog.godebug = none := by kernel_rfl
theorem laidOut : laidOutB Try.prog = true := by kernel_rfl

set_option maxRecDepth 20000 in
set_option maxHeartbeats 8000000 in
theorem walk (W0 : World) :
    Calls Try.prog 3 #[] W0 fun e w' => e = .returned (.bool true) ∧ Below W0.heap.size W0 w' := by
  have FS := Lib.hid (fun w => specFirst w)
  have FI := Lib.hid (fun w => implFirst w)
  go_enter Try.func3, Try.ntmps3
  go_wp2_with fail
  refine (FS.out _).mono ?_
  rintro e W1 ⟨au, ao, rfl, hU, hO, hne, hb⟩
  unfold fdV
  have B1 := Lib.hid (Below.alloc hb hb.size (.cells #[.string ⟨#[46, 111, 46, 46, 111]⟩, .string ⟨#[114, 114, 46, 108, 108]⟩, .int .i64 4, .slice (some ⟨au, 0, none⟩) 4 4, .slice (some ⟨ao, 0, none⟩) 3 3] 27))
  have XA := Lib.hid (Blk.new W1 #[.string ⟨#[46, 111, 46, 46, 111]⟩, .string ⟨#[114, 114, 46, 108, 108]⟩, .int .i64 4, .slice (some ⟨au, 0, none⟩) 4 4, .slice (some ⟨ao, 0, none⟩) 3 3] 27)
  have AU := Lib.hid (hU.below ((Below.refl _ _).alloc (Nat.le_refl _) (.cells #[.string ⟨#[46, 111, 46, 46, 111]⟩, .string ⟨#[114, 114, 46, 108, 108]⟩, .int .i64 4, .slice (some ⟨au, 0, none⟩) 4 4, .slice (some ⟨ao, 0, none⟩) 3 3] 27)))
  have AO := Lib.hid (hO.below ((Below.refl _ _).alloc (Nat.le_refl _) (.cells #[.string ⟨#[46, 111, 46, 46, 111]⟩, .string ⟨#[114, 114, 46, 108, 108]⟩, .int .i64 4, .slice (some ⟨au, 0, none⟩) 4 4, .slice (some ⟨ao, 0, none⟩) 3 3] 27)))
  have aul := World.ownsRow.lt hU au rfl
  have aol := World.ownsRow.lt hO ao rfl
  have z1 : W0.heap.size ≤ W1.heap.size := hb.size
  clear hU hO hne hb
  go_wp2_with fail
  generalize hW2 : W1.alloc (.cells #[.string ⟨#[46, 111, 46, 46, 111]⟩, .string ⟨#[114, 114, 46, 108, 108]⟩, .int .i64 4, .slice (some ⟨au, 0, none⟩) 4 4, .slice (some ⟨ao, 0, none⟩) 3 3] 27) = W2 at *
  have z2 : W1.heap.size + 1 = W2.heap.size := by rw [← hW2]; simp
  clear hW2
  refine (FI.out _).mono ?_
  rintro e W3 ⟨bu, bo, rfl, hU, hO, hne, hb⟩
  unfold fdV
  have bul := World.ownsRow.lt hU bu rfl
  have bol := World.ownsRow.lt hO bo rfl
  have z3 : W2.heap.size ≤ W3.heap.size := hb.size
  have B3 := Lib.hid (Below.alloc (B1.out.trans (hb.mono B1.out.size)) (Nat.le_trans B1.out.size hb.size) (.cells #[.string ⟨#[46, 111, 46, 46, 111]⟩, .string ⟨#[114, 114, 46, 108, 108]⟩, .int .i64 4, .slice (some ⟨bu, 0, none⟩) 4 4, .slice (some ⟨bo, 0, none⟩) 3 3] 27))
  have XA3 := Lib.hid ((XA.out.below hb XA.out.lt).alloc (.cells #[.string ⟨#[46, 111, 46, 46, 111]⟩, .string ⟨#[114, 114, 46, 108, 108]⟩, .int .i64 4, .slice (some ⟨bu, 0, none⟩) 4 4, .slice (some ⟨bo, 0, none⟩) 3 3] 27))
  have AU3 := Lib.hid ((AU.out.below hb).below ((Below.refl _ _).alloc (Nat.le_refl _) (.cells #[.string ⟨#[46, 111, 46, 46, 111]⟩, .string ⟨#[114, 114, 46, 108, 108]⟩, .int .i64 4, .slice (some ⟨bu, 0, none⟩) 4 4, .slice (some ⟨bo, 0, none⟩) 3 3] 27)))
  have AO3 := Lib.hid ((AO.out.below hb).below ((Below.refl _ _).alloc (Nat.le_refl _) (.cells #[.string ⟨#[46, 111, 46, 46, 111]⟩, .string ⟨#[114, 114, 46, 108, 108]⟩, .int .i64 4, .slice (some ⟨bu, 0, none⟩) 4 4, .slice (some ⟨bo, 0, none⟩) 3 3] 27)))
  have XB3 := Lib.hid (Blk.new W3 #[.string ⟨#[46, 111, 46, 46, 111]⟩, .string ⟨#[114, 114, 46, 108, 108]⟩, .int .i64 4, .slice (some ⟨bu, 0, none⟩) 4 4, .slice (some ⟨bo, 0, none⟩) 3 3] 27)
  have BU3 := Lib.hid (hU.below ((Below.refl _ _).alloc (Nat.le_refl _) (.cells #[.string ⟨#[46, 111, 46, 46, 111]⟩, .string ⟨#[114, 114, 46, 108, 108]⟩, .int .i64 4, .slice (some ⟨bu, 0, none⟩) 4 4, .slice (some ⟨bo, 0, none⟩) 3 3] 27)))
  have BO3 := Lib.hid (hO.below ((Below.refl _ _).alloc (Nat.le_refl _) (.cells #[.string ⟨#[46, 111, 46, 46, 111]⟩, .string ⟨#[114, 114, 46, 108, 108]⟩, .int .i64 4, .slice (some ⟨bu, 0, none⟩) 4 4, .slice (some ⟨bo, 0, none⟩) 3 3] 27)))
  have HNE := Lib.hid hne
  obtain ⟨a0, a1, a2, a3, a4, al⟩ := (XA.out.below hb XA.out.lt).five
  clear hU hO hb hne B1 XA AU AO
  go_wp2_with fail
  clear a0 a1 a2 a3 a4 al
  generalize hW4 : W3.alloc (.cells #[.string ⟨#[46, 111, 46, 46, 111]⟩, .string ⟨#[114, 114, 46, 108, 108]⟩, .int .i64 4, .slice (some ⟨bu, 0, none⟩) 4 4, .slice (some ⟨bo, 0, none⟩) 3 3] 27) = W4 at *
  have z4 : W3.heap.size + 1 = W4.heap.size := by rw [← hW4]; simp
  clear hW4
  obtain ⟨a0, a1, a2, a3, a4, al⟩ := XA3.out.five
  obtain ⟨b0, b1, b2, b3, b4, bl⟩ := XB3.out.five
  refine (eqDesk_same _ _ 4 _ _ _ _ fdB fdZ W4 BU3.out.rd AU3.out.rd (by decide) BO3.out.rd AO3.out.rd (by decide)).mono ?_
  rintro e W5 ⟨rfl, hb⟩
  have B5 := Lib.hid (B3.out.trans (hb.mono B3.out.size))
  have XA5 := Lib.hid (XA3.out.below hb XA3.out.lt)
  have AU5 := Lib.hid (AU3.out.below hb)
  have AO5 := Lib.hid (AO3.out.below hb)
  have XB5 := Lib.hid (XB3.out.below hb XB3.out.lt)
  have BU5 := Lib.hid (BU3.out.below hb)
  have BO5 := Lib.hid (BO3.out.below hb)
  have z5 : W4.heap.size ≤ W5.heap.size := hb.size
  clear hb B3 XA3 AU3 AO3 XB3 BU3 BO3 a0 a1 a2 a3 a4 al b0 b1 b2 b3 b4 bl
  obtain ⟨a0, a1, a2, a3, a4, al⟩ := XA5.out.five
  obtain ⟨b0, b1, b2, b3, b4, bl⟩ := XB5.out.five
  go_wp2_with fail
  have hb5 : W2.heap.size ≤ W5.heap.size := by omega
  refine (markFd bu bo W2.heap.size W5 BU5.out BO5.out HNE.out hb5).mono ?_
  rintro e W6 ⟨rfl, hU, hO, hb, hk⟩
  have B6 := Lib.hid (B5.out.trans (hb.mono (by omega)))
  have z6 : W5.heap.size ≤ W6.heap.size := hb.size
  have XA6 := Lib.hid (XA5.out.below hb (by omega))
  have XB6 : Hid (Blk W6 W3.heap.size _) := Lib.hid (by obtain ⟨T, h⟩ := XB5.out; exact ⟨T, (hk _ (by omega) (by omega) (by omega)).trans h⟩)
  have AU6 : Hid (Brs W6 W0.heap.size (.slice (some ⟨au, 0, none⟩) 4 4) fdB) := Lib.hid (row_keep AU5.out (fun g hg => by have e : some au = some g := hg; simp at e; exact hk g (by omega) (by omega) (by omega)))
  have AO6 : Hid (Ints W6 W0.heap.size (.slice (some ⟨ao, 0, none⟩) 3 3) fdZ) := Lib.hid (row_keep AO5.out (fun g hg => by have e : some ao = some g := hg; simp at e; exact hk g (by omega) (by omega) (by omega)))
  have BU6 := Lib.hid hU
  have BO6 := Lib.hid hO
  clear hU hO hb hk B5 XA5 XB5 AU5 AO5 BU5 BO5 a0 a1 a2 a3 a4 al b0 b1 b2 b3 b4 bl hb5
  obtain ⟨b0, b1, b2, b3, b4, bl⟩ := XB6.out.five
  go_wp2_with fail
  refine (heldFd bu bo W6 BU6.out.rd BO6.out.rd).mono ?_
  rintro e W7 ⟨rfl, hb⟩
  have B7 := Lib.hid (B6.out.trans (hb.mono B6.out.size))
  have XA7 := Lib.hid (XA6.out.below hb XA6.out.lt)
  have XB7 := Lib.hid (XB6.out.below hb XB6.out.lt)
  have AU7 := Lib.hid (AU6.out.below hb)
  have AO7 := Lib.hid (AO6.out.below hb)
  have BU7 := Lib.hid (BU6.out.below hb)
  have BO7 := Lib.hid (BO6.out.below hb)
  have z7 : W6.heap.size ≤ W7.heap.size := hb.size
  clear hb B6 XA6 XB6 AU6 AO6 BU6 BO6 b0 b1 b2 b3 b4 bl
  go_wp2_with fail
  refine (FI.out _).mono ?_
  rintro e W8 ⟨cu, co, rfl, hU, hO, hne, hb⟩
  unfold fdV
  have B9 := Lib.hid (Below.alloc (B7.out.trans (hb.mono B7.out.size)) (Nat.le_trans B7.out.size hb.size) (.cells #[.string ⟨#[46, 111, 46, 46, 111]⟩, .string ⟨#[114, 114, 46, 108, 108]⟩, .int .i64 4, .slice (some ⟨cu, 0, none⟩) 4 4, .slice (some ⟨co, 0, none⟩) 3 3] 27))
  have XA9 := Lib.hid ((XA7.out.below hb XA7.out.lt).alloc (.cells #[.string ⟨#[46, 111, 46, 46, 111]⟩, .string ⟨#[114, 114, 46, 108, 108]⟩, .int .i64 4, .slice (some ⟨cu, 0, none⟩) 4 4, .slice (some ⟨co, 0, none⟩) 3 3] 27))
  have XB9 := Lib.hid ((XB7.out.below hb XB7.out.lt).alloc (.cells #[.string ⟨#[46, 111, 46, 46, 111]⟩, .string ⟨#[114, 114, 46, 108, 108]⟩, .int .i64 4, .slice (some ⟨cu, 0, none⟩) 4 4, .slice (some ⟨co, 0, none⟩) 3 3] 27))
  have AU9 := Lib.hid ((AU7.out.below hb).below ((Below.refl _ _).alloc (Nat.le_refl _) (.cells #[.string ⟨#[46, 111, 46, 46, 111]⟩, .string ⟨#[114, 114, 46, 108, 108]⟩, .int .i64 4, .slice (some ⟨cu, 0, none⟩) 4 4, .slice (some ⟨co, 0, none⟩) 3 3] 27)))
  have AO9 := Lib.hid ((AO7.out.below hb).below ((Below.refl _ _).alloc (Nat.le_refl _) (.cells #[.string ⟨#[46, 111, 46, 46, 111]⟩, .string ⟨#[114, 114, 46, 108, 108]⟩, .int .i64 4, .slice (some ⟨cu, 0, none⟩) 4 4, .slice (some ⟨co, 0, none⟩) 3 3] 27)))
  have BU9 := Lib.hid ((BU7.out.below hb).below ((Below.refl _ _).alloc (Nat.le_refl _) (.cells #[.string ⟨#[46, 111, 46, 46, 111]⟩, .string ⟨#[114, 114, 46, 108, 108]⟩, .int .i64 4, .slice (some ⟨cu, 0, none⟩) 4 4, .slice (some ⟨co, 0, none⟩) 3 3] 27)))
  have BO9 := Lib.hid ((BO7.out.below hb).below ((Below.refl _ _).alloc (Nat.le_refl _) (.cells #[.string ⟨#[46, 111, 46, 46, 111]⟩, .string ⟨#[114, 114, 46, 108, 108]⟩, .int .i64 4, .slice (some ⟨cu, 0, none⟩) 4 4, .slice (some ⟨co, 0, none⟩) 3 3] 27)))
  have CU9 := Lib.hid (hU.below ((Below.refl _ _).alloc (Nat.le_refl _) (.cells #[.string ⟨#[46, 111, 46, 46, 111]⟩, .string ⟨#[114, 114, 46, 108, 108]⟩, .int .i64 4, .slice (some ⟨cu, 0, none⟩) 4 4, .slice (some ⟨co, 0, none⟩) 3 3] 27)))
  have CO9 := Lib.hid (hO.below ((Below.refl _ _).alloc (Nat.le_refl _) (.cells #[.string ⟨#[46, 111, 46, 46, 111]⟩, .string ⟨#[114, 114, 46, 108, 108]⟩, .int .i64 4, .slice (some ⟨cu, 0, none⟩) 4 4, .slice (some ⟨co, 0, none⟩) 3 3] 27)))
  obtain ⟨a0, a1, a2, a3, a4, al⟩ := (XA7.out.below hb XA7.out.lt).five
  clear hU hO hb hne B7 XA7 XB7 AU7 AO7 BU7 BO7
  go_wp2_with fail
  clear a0 a1 a2 a3 a4 al
  generalize W8.alloc (.cells #[.string ⟨#[46, 111, 46, 46, 111]⟩, .string ⟨#[114, 114, 46, 108, 108]⟩, .int .i64 4, .slice (some ⟨cu, 0, none⟩) 4 4, .slice (some ⟨co, 0, none⟩) 3 3] 27) = W9 at *
  refine (eqDesk_same _ _ 4 _ _ _ _ fdB fdZ W9 CU9.out.rd AU9.out.rd (by decide) CO9.out.rd AO9.out.rd (by decide)).mono ?_
  rintro e W10 ⟨rfl, hb⟩
  have B10 := Lib.hid (B9.out.trans (hb.mono B9.out.size))
  have XB10 := Lib.hid (XB9.out.below hb XB9.out.lt)
  have BU10 := Lib.hid (BU9.out.below hb)
  have BO10 := Lib.hid (BO9.out.below hb)
  clear hb B9 XA9 XB9 AU9 AO9 BU9 BO9 CU9 CO9
  obtain ⟨b0, b1, b2, b3, b4, bl⟩ := XB10.out.five
  go_wp2_with fail
  refine (heldFd bu bo W10 BU10.out.rd BO10.out.rd).mono ?_
  rintro e W11 ⟨rfl, hb⟩
  go_wp2
  go_ret
  exact ⟨rfl, B10.out.trans (hb.mono B10.out.size)⟩

set_option maxRecDepth 100000 in
theorem lifted (os : Os) (started : os.Started) (H : Type) (enc : TypeId × Value → H) :
    ReturnsInHanded {} Try.checked os 3 .any (Rows.fnExactFirstDeskSpec.pre6 enc Try.prog Try.f3 Rows.fnExactFirstDeskRow.domain false) (Rows.fnExactFirstDeskSpec.post enc Try.prog Try.f3 false true false false) := by
  refine returnsInHanded_of_change (C := Try.checked) own started (by kernel_rfl) Try.func3
    (ChangeSpec.witness6 (enc := enc) (C := Try.checked) false ⟨#[], #[], []⟩ 8 (by kernel_rfl) (by kernel_rfl) (by kernel_rfl) (by kernel_rfl)) ?_
  intro W base args ds gs before hval0 hW hcnd _
  have hval : ∀ (j : Nat) t v, Try.f3.params[j]? = some t → args[j]? = some v → Value.okWide Try.prog W .any base t v := hval0
  have hW' := hW
  obtain ⟨p, q, hA0, hV, rfl, hfz, hnd⟩ := hW
  have hA : DataW.TrodAll enc Try.prog W 0 (fun _ => true) true Try.f3.params.toList args.toList ds p := hA0
  rw [Try.params3] at hA hval
  obtain ⟨hargs, rfl, rfl⟩ := trodAll_nil hA
  obtain rfl : args = #[] := by cases args; simp_all
  obtain ⟨rfl, rfl⟩ := trodVars_none hV
  clear hA0 hval0
  refine (walk   W ).mono fun e W' ⟨he, bel⟩ => ?_
  subst he
  exact ⟨_, rfl, _, _, _, [], _, [], hW', trodAll_mk1 (shut_bool Try.underlying4 _), trodAll_mk0, rfl, bel.frame _, fun h => by cases h⟩

theorem over : Rows.fnExactFirstDeskRow.holds Try.pinned (OpenSpec.ofChange Rows.fnExactFirstDeskSpec) :=
  OpenClaim.holds_of_wide 3 Try.f3 rfl rfl rfl rfl rfl rfl rfl ⟨rfl, rfl, rfl, rfl, rfl⟩ rfl rfl rfl rfl rfl (by kernel_rfl) Try.func3 (by kernel_rfl)
    (of_decide_eq_true (by kernel_rfl)) (by unfold Func.isWrapper; first | (rw [if_pos (by decide +kernel)]; kernel_rfl) | (rw [if_neg (by decide +kernel)]; exact ⟨rfl, rfl⟩))
    (fun os started H enc _ => lifted os started H enc)

theorem proved : Rows.FnExactFirstDeskSaid := over
#print axioms proved
end Go.Proofs.Ytcpipacombnhdaa.fnExactFirstDeskDone
