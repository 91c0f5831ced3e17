/- FnExactIsDesk: for every input the law returns true; each argument reads behind the call as it read before. No condition. -/
import Derived.Test.YtcpipacombnhdaaDk
import Derived.Test.YtcpipacombnhdaaRows
import Derived.WalkKit
import Derived.ProofKit
import Derived.OpenShut
import Derived.ShutString
import Derived.ChangeOld
import Derived.Below
import Derived.WalkSpells
import Derived.WalkLawsBesides
import Derived.Lib.Hide
namespace Go.Proofs.Ytcpipacombnhdaa.fnExactIsDeskDone
open Go.ChangeShapes Go.WideShapes Go.ChangeAt Go.RowKit
open Go.ChangeMaps (open_string shut_string)
set_option linter.unusedVariables false

theorem own : ownKnob Try.prog.godebug = none := by kernel_rfl
theorem laidOut : laidOutB Try.prog = true := by kernel_rfl

set_option maxRecDepth 20000 in
set_option maxHeartbeats 4000000 in
theorem walk (s q : ByteArray) (n : Int) (a : Option Addr) (len cap : Nat) (bs : List Br) (a2 : Option Addr) (len2 cap2 : Nat) (z : List Int) (W0 : World) (ws : s.size ≤ maxLen) (wq : q.size ≤ maxLen) (hR : RdB W0 (.slice a len cap) bs) (hm : len ≤ 9223372036854775807) (hz : IsRow .i64 W0 a2 len2 cap2 z) :
    Calls Try.prog 4 #[.agg #[.string s, .string q, .int .i64 n, .slice a len cap, .slice a2 len2 cap2]] W0 fun e w' => e = .returned (.bool true) ∧ Below W0.heap.size W0 w' := by
  have hlen : len = bs.length := by
    obtain ⟨_, l, _, e, h, _⟩ := hR
    injection e with _ e2 _
    rw [e2]; exact h
  have hm2 : len2 ≤ 9223372036854775807 := by
    rcases hz with ⟨_, h, _, _⟩ | ⟨x, _, h1, h2, _⟩
    · omega
    · unfold maxLen at h2; omega
  obtain ⟨hZ, hzl, _⟩ := hz.rd
  generalize z.take len2 = zs at hZ hzl
  have HW := Lib.hid ws
  have HQ := Lib.hid wq
  have HR := Lib.hid hR
  have HZ := Lib.hid hZ
  have HL := Lib.hid hlen
  have HL2 := Lib.hid hzl
  have X0 := Lib.hid (Blk.new W0 #[.string s, .string q, .int .i64 n, .slice a len cap, .slice a2 len2 cap2] 36)
  have B0 := Lib.hid ((Below.refl W0.heap.size W0).alloc (Nat.le_refl _) (.cells #[.string s, .string q, .int .i64 n, .slice a len cap, .slice a2 len2 cap2] 36))
  have SZ := Lib.hid (fun wx => szDesk s q n a a2 len cap len2 cap2 wx (by unfold maxLen at ws; omega) (by unfold maxLen at wq; omega) hm hm2)
  clear ws wq hR hm hz hlen hm2 hZ hzl
  go_enter Try.func4, Try.ntmps4
  go_wp2_with fail
  generalize W0.alloc (.cells #[.string s, .string q, .int .i64 n, .slice a len cap, .slice a2 len2 cap2] 36) = W1 at *
  refine (SZ.out _).mono ?_
  rintro e W2 ⟨l, rfl, hl, hb⟩
  have B2 := Lib.hid (B0.out.trans (hb.mono B0.out.size))
  have X2 := Lib.hid (X0.out.below hb X0.out.lt)
  clear hb SZ B0 X0
  by_cases hneg : l < 0
  · clear hl
    go_wp2
    go_ret
    exact ⟨rfl, B2.out⟩
  obtain ⟨c1, c2, c3, c4⟩ := hl (by omega)
  have TD := Lib.hid (fun wx (h : Below W0.heap.size W0 wx) => toDesk s q n a a2 len cap len2 cap2 bs zs wx (HR.out.below h) (by have := HL.out; omega) (HZ.out.below h) (by have := HL2.out; omega))
  have LB := Lib.hid (show bs.length ≤ 1048576 by have := HL.out; omega)
  have LZ := Lib.hid (show zs.length ≤ 1048576 by have := HL2.out; omega)
  clear hl c1 c2 c3 c4
  obtain ⟨x0, x1, x2, x3, x4, xl⟩ := X2.out.five
  go_wp2_with fail
  refine (TD.out _ B2.out).mono ?_
  rintro e W3 ⟨u, o, rfl, hu, ho, hb⟩
  have B3 := Lib.hid (B2.out.trans (hb.mono B2.out.size))
  have X3 := Lib.hid (X2.out.below hb X2.out.lt)
  have U3 := Lib.hid hu
  have O3 := Lib.hid ho
  clear hb hu ho B2 X2 x0 x1 x2 x3 x4 xl
  go_wp2_with fail
  refine (specIsDesk s q n u o bs zs _ HW.out HQ.out U3.out LB.out O3.out LZ.out).mono ?_
  rintro e W4 ⟨rfl, hb⟩
  have B4 := Lib.hid (B3.out.trans (hb.mono B3.out.size))
  have X4 := Lib.hid (X3.out.below hb X3.out.lt)
  clear hb U3 O3 B3 X3
  obtain ⟨x0, x1, x2, x3, x4, xl⟩ := X4.out.five
  go_wp2_with fail
  refine (TD.out _ B4.out).mono ?_
  rintro e W5 ⟨u, o, rfl, hu, ho, hb⟩
  have B5 := Lib.hid (B4.out.trans (hb.mono B4.out.size))
  have X5 := Lib.hid (X4.out.below hb X4.out.lt)
  obtain ⟨ua, ul, uc, rfl, hux⟩ := id hu
  obtain ⟨oa, ol, oc, rfl, hox⟩ := ho.cells
  clear hux hox
  have B6 := Lib.hid (B5.out.alloc B5.out.size (.cells #[.string s, .string q, .int .i64 n, .slice ua ul uc, .slice oa ol oc] 27))
  have X6 := Lib.hid (X5.out.alloc (.cells #[.string s, .string q, .int .i64 n, .slice ua ul uc, .slice oa ol oc] 27))
  have Y6 := Lib.hid (Blk.new W5 #[.string s, .string q, .int .i64 n, .slice ua ul uc, .slice oa ol oc] 27)
  have U6 := Lib.hid (hu.below ((Below.refl _ _).alloc (Nat.le_refl _) (.cells #[.string s, .string q, .int .i64 n, .slice ua ul uc, .slice oa ol oc] 27)))
  have O6 := Lib.hid (ho.below ((Below.refl _ _).alloc (Nat.le_refl _) (.cells #[.string s, .string q, .int .i64 n, .slice ua ul uc, .slice oa ol oc] 27)))
  clear hb hu ho B4 X4 B5 X5 x0 x1 x2 x3 x4 xl
  go_wp2_with fail
  generalize W5.alloc (.cells #[.string s, .string q, .int .i64 n, .slice ua ul uc, .slice oa ol oc] 27) = W6 at *
  refine (implIsDesk s q n _ _ bs zs _ HW.out HQ.out U6.out LB.out O6.out LZ.out).mono ?_
  rintro e W7 ⟨rfl, hb⟩
  have B7 := Lib.hid (B6.out.trans (hb.mono B6.out.size))
  have X7 := Lib.hid (X6.out.below hb X6.out.lt)
  have Y7 := Lib.hid (Y6.out.below hb Y6.out.lt)
  have U7 := Lib.hid (U6.out.below hb)
  have O7 := Lib.hid (O6.out.below hb)
  clear hb B6 X6 Y6 U6 O6
  obtain ⟨x0, x1, x2, x3, x4, xl⟩ := X7.out.five
  obtain ⟨y0, y1, y2, y3, y4, yl⟩ := Y7.out.five
  have EQ := Lib.hid (fun u2 o2 wx (h : Below W7.heap.size W7 wx) (h2 : RdB wx u2 bs) (h3 : Rd wx o2 zs) => eqDesk_same s q n (.slice ua ul uc) u2 (.slice oa ol oc) o2 bs zs wx (U7.out.below h) h2 (by have := LB.out; omega) (O7.out.below h) h3 (by have := LZ.out; omega))
  go_wp2_with fail
  go_region_held3 (fun W => (W.cell? ⟨W0.heap.size, 0, none⟩ = some (.string s) ∧ W.cell? ⟨W0.heap.size, 1, none⟩ = some (.string q) ∧ W.cell? ⟨W0.heap.size, 2, none⟩ = some (.int .i64 n) ∧ W.cell? ⟨W0.heap.size, 3, none⟩ = some (.slice a len cap) ∧ W.cell? ⟨W0.heap.size, 4, none⟩ = some (.slice a2 len2 cap2)) ∧ (W.cell? ⟨W5.heap.size, 0, none⟩ = some (.string s) ∧ W.cell? ⟨W5.heap.size, 1, none⟩ = some (.string q) ∧ W.cell? ⟨W5.heap.size, 2, none⟩ = some (.int .i64 n) ∧ W.cell? ⟨W5.heap.size, 3, none⟩ = some (.slice ua ul uc) ∧ W.cell? ⟨W5.heap.size, 4, none⟩ = some (.slice oa ol oc))) (first | with_reducible exact dk10 X9.out Y9.out | with_reducible exact dk10 X8.out Y8.out | with_reducible exact dk10 X7.out Y7.out | with_reducible exact dk10 X7.out.drew Y7.out.drew) (first
    | (go_at_call 12; (with_reducible refine (TD.out _ (B7.out.trans (Below.mono (B := W7.heap.size) (by (repeat (first | exact Below.refl _ _ | (refine Below.alloc ?_ (by first | omega | (simp; try omega)) _) | apply Below.drew | apply below_drewN))) B7.out.size))).mono ?_); rintro e W8 ⟨u2, o2, rfl, hu, ho, hb⟩; have D8 := Lib.hid (Below.trans (by (repeat (first | exact Below.refl _ _ | (refine Below.alloc ?_ (by first | omega | (simp; try omega)) _) | apply Below.drew | apply below_drewN))) (hb.mono (by first | exact Nat.le_refl _ | (simp; try omega))) : Below W7.heap.size W7 W8); have X8 := Lib.hid (X7.out.below D8.out X7.out.lt); have Y8 := Lib.hid (Y7.out.below D8.out Y7.out.lt); have U8 := Lib.hid hu; have O8 := Lib.hid ho; clear hb hu ho; skip)
    | (go_at_call 7; (with_reducible refine (EQ.out u2 o2 W8 D8.out U8.out O8.out).mono ?_); rintro e W9 ⟨rfl, hb⟩; have D9 := Lib.hid (D8.out.trans (hb.mono D8.out.size)); have X9 := Lib.hid (X7.out.below D9.out X7.out.lt); have Y9 := Lib.hid (Y7.out.below D9.out Y7.out.lt); clear hb; skip)
    | fail)
  all_goals
    go_wp2
    go_ret
    exact ⟨rfl, B7.out.trans (D9.out.mono B7.out.size)⟩

set_option maxRecDepth 100000 in
theorem lifted (os : Os) (started : os.Started) (H : Type) (enc : TypeId × Value → H) :
    ReturnsInHanded {} Try.checked os 4 .any (Rows.fnExactIsDeskSpec.pre6 enc Try.prog Try.f4 Rows.fnExactIsDeskRow.domain false) (Rows.fnExactIsDeskSpec.post enc Try.prog Try.f4 false true false false) := by
  refine returnsInHanded_of_change (C := Try.checked) own started (by kernel_rfl) Try.func4
    (ChangeSpec.witness6 (enc := enc) (C := Try.checked) false ⟨#[], #[.agg #[.string ByteArray.empty, .string ByteArray.empty, .int .i64 0, .slice none 0 0, .slice none 0 0]], []⟩ 8 (by kernel_rfl) (by kernel_rfl) (by kernel_rfl) (by kernel_rfl)) ?_
  intro W base args ds gs before hval0 hW hcnd _
  have hval : ∀ (j : Nat) t v, Try.f4.params[j]? = some t → args[j]? = some v → Value.okWide Try.prog W .any base t v := hval0
  have hW' := hW
  obtain ⟨p, q, hA0, hV, rfl, hfz, hnd⟩ := hW
  have hA : DataW.TrodAll enc Try.prog W 0 (fun _ => true) true Try.f4.params.toList args.toList ds p := hA0
  rw [Try.params4] at hA hval
  obtain ⟨v0, vs0, d0, ds0, p0, q0, hargs, rfl, rfl, h0, r0⟩ := trodAll_cons hA
  obtain ⟨rfl, rfl, rfl⟩ := trodAll_nil r0
  obtain rfl : args = #[v0] := by cases args; simp_all
  obtain ⟨rfl, rfl⟩ := trodVars_none hV
  have k0 := h0
  have lt0 : ∀ x ∈ p0, x.block < W.heap.size := by obtain ⟨m, hm⟩ := k0; exact DataW.trod_lt m _ _ _ hm
  obtain ⟨s0, t0, n0, a0, len0, cap0, bs0, o0, lenb0, capb0, z0, rfl, ws0, wt0, w0, m0, wz0⟩ := openDesk (hval 0 36 v0 rfl rfl) h0
  clear hA0 hval0
  refine (walk s0 t0 n0 a0 len0 cap0 bs0 o0 lenb0 capb0 z0  W ws0 wt0 w0 m0 wz0).mono fun e W' ⟨he, bel⟩ => ?_
  subst he
  exact ⟨_, rfl, _, _, _, [], _, [], hW', trodAll_mk1 (shut_bool Try.underlying4 _), (trodAll_cons_mk (Below.trod laidOut (by kernel_rfl) (of_decide_eq_true (by kernel_rfl)) k0 bel lt0) trodAll_mk0), rfl, bel.frame _, fun h => by cases h⟩

theorem over : Rows.fnExactIsDeskRow.holds Try.pinned (OpenSpec.ofChange Rows.fnExactIsDeskSpec) :=
  OpenClaim.holds_of_wide 4 Try.f4 rfl rfl rfl rfl rfl rfl rfl ⟨rfl, rfl, rfl, rfl, rfl⟩ rfl rfl rfl rfl rfl (by kernel_rfl) Try.func4 (by kernel_rfl)
    (of_decide_eq_true (by kernel_rfl)) (by unfold Func.isWrapper; first | (rw [if_pos (by decide +kernel)]; kernel_rfl) | (rw [if_neg (by decide +kernel)]; exact ⟨rfl, rfl⟩))
    (fun os started H enc _ => lifted os started H enc)

theorem proved : Rows.FnExactIsDeskSaid := over
#print axioms proved
end Go.Proofs.Ytcpipacombnhdaa.fnExactIsDeskDone
