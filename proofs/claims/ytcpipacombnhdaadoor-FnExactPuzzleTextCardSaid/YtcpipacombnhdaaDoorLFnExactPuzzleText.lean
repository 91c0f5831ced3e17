/- FnExactPuzzleText: for every input the law returns true; each argument reads behind the call as it read before. No condition. -/
import Derived.Test.YtcpipacombnhdaaDoorKty
import Derived.Test.YtcpipacombnhdaaDoorKo
import Derived.Test.YtcpipacombnhdaaDoorLtW
import Derived.Test.YtcpipacombnhdaaDoorTie
import Derived.Test.YtcpipacombnhdaaDoorCards
import Derived.SevenTiedAt
import Derived.Test.YtcpipacombnhdaaDoorRows
import Derived.WalkKit
import Derived.ProofKit
import Derived.OpenShut
import Derived.ShutString
import Derived.ChangeOld
import Derived.Below
import Derived.WalkSpells
import Derived.WalkLawsBesides
import Derived.Lib.Hide
namespace Go.Proofs.YtcpipacombnhdaaDoor.fnExactPuzzleTextDone
open Go.ChangeShapes Go.WideShapes Go.ChangeAt Go.RowKit
open Go.ChangeMaps (open_string shut_string)
set_option linter.unusedVariables false

theorem laidOut : laidOutB Tryd.prog = true := by kernel_rfl

set_option maxRecDepth 100000 in
set_option maxHeartbeats 8000000 in
theorem walk (n0 : Int) (a0 : Option Addr) (len0 cap0 : Nat) (bs0 : List Br)  (W0 : World) (P0 : Hid (Pow W0)) (w0 : RdB W0 (.slice a0 len0 cap0) bs0) (m0 : len0 ≤ 9223372036854775807) :
    Calls Tryd.prog 3 #[.agg #[.int .i64 n0, .slice a0 len0 cap0]] W0 fun e w' => e = .returned (.bool true) ∧ Below W0.heap.size W0 w' := by
  have R0 := Lib.hid w0
  have hlen : len0 = bs0.length := by obtain ⟨_, _, _, e, h, _⟩ := w0; injection e with e1 e2 e3; omega
  clear w0
  by_cases hbl : 1048576 < len0
  · clear hlen
    go_enter Tryd.func3, Tryd.ntmps3
    go_wp2_with fail
    refine (szPuzzle_no _ _ len0 _ _ _ rfl hbl m0).mono ?_
    rintro e W1 ⟨rfl, hb1⟩
    have T := Lib.hid (Below.trans (by (repeat (first | exact Below.refl _ _ | (refine Below.alloc ?_ (by first | omega | (simp; try omega)) _) | apply Below.drew | apply below_drewN))) (hb1.mono (by simp; try omega)) : Below W0.heap.size W0 W1)
    clear hb1
    go_wp2
    go_ret
    exact ⟨rfl, T.out⟩
  have hle : len0 ≤ 1048576 := by omega
  have hbn : bs0.length ≤ 1048576 := by omega
  have HBN := Lib.hid hbn
  clear hbl hlen m0 hbn
  obtain ⟨x, y, hv0⟩ := itxV_form n0 bs0
  have HV := Lib.hid hv0
  clear hv0
  go_enter Tryd.func3, Tryd.ntmps3
  go_wp2_with fail
  refine (szPuzzle _ _ len0 _ _ _ rfl hle).mono ?_
  rintro e W1 ⟨rfl, hb⟩
  have XA := Lib.hid ((Blk.new W0 #[.int .i64 n0, .slice a0 len0 cap0] 24).below hb (by simp))
  have T := Lib.hid (Below.trans (by (repeat (first | exact Below.refl _ _ | (refine Below.alloc ?_ (by first | omega | (simp; try omega)) _) | apply Below.drew | apply below_drewN))) (hb.mono (by simp; try omega)) : Below W0.heap.size W0 W1)
  clear hb
  obtain ⟨ca, da, la⟩ := XA.out.two
  go_wp2_with fail
  refine (toPuzzle n0 _ bs0 _ (R0.out.below T.out) HBN.out).mono ?_
  rintro e W2 ⟨u0, rfl, hI, hb⟩
  clear ca da la
  have T_ := Lib.hid (T.out.trans (hb.mono T.out.size))
  clear T
  have T := T_
  clear T_
  have XA_ := Lib.hid (XA.out.below hb XA.out.lt)
  clear XA
  have XA := XA_
  clear XA_
  clear hb
  have Iu0 := Lib.hid hI
  have LTu0 : Hid (∀ b, u0.ownBlock = some b → W1.heap.size ≤ b ∧ b < W2.heap.size) := Lib.hid (fun b h => hI.lt b h)
  clear hI
  go_wp2_with fail
  refine (specText n0 _ bs0 _ Iu0.out.rd HBN.out).mono ?_
  rw [HV.out]
  rintro e W3 ⟨rfl, hb⟩
  have T_ := Lib.hid (T.out.trans (hb.mono T.out.size))
  clear T
  have T := T_
  clear T_
  have XA_ := Lib.hid (XA.out.below hb XA.out.lt)
  clear XA
  have XA := XA_
  clear XA_
  have Iu0_ := Lib.hid (Iu0.out.below hb)
  clear Iu0
  have Iu0 := Iu0_
  clear Iu0_
  clear hb
  clear Iu0
  obtain ⟨ca, da, la⟩ := XA.out.two
  go_wp2_with fail
  refine (toPuzzle n0 _ bs0 _ (R0.out.below T.out) HBN.out).mono ?_
  rintro e W4 ⟨u1, rfl, hI, hb⟩
  clear ca da la
  have T_ := Lib.hid (T.out.trans (hb.mono T.out.size))
  clear T
  have T := T_
  clear T_
  have XA_ := Lib.hid (XA.out.below hb XA.out.lt)
  clear XA
  have XA := XA_
  clear XA_
  clear hb
  have Iu1 := Lib.hid hI
  have LTu1 : Hid (∀ b, u1.ownBlock = some b → W3.heap.size ≤ b ∧ b < W4.heap.size) := Lib.hid (fun b h => hI.lt b h)
  clear hI
  obtain ⟨p1, q1, r1x, rfl⟩ := Iu1.out.form
  go_wp2_with fail
  refine (implText n0 _ bs0 _ (Iu1.out.rd.below ((Below.refl _ _).alloc (Nat.le_refl _) _)) HBN.out (P0.out.below (by first | with_reducible exact T.out | exact Below.alloc T.out (by have := T.out.size; omega) _))).mono ?_
  rw [HV.out]
  rintro e W5 ⟨rfl, hb⟩
  have XXn := Lib.hid ((Blk.new W4 #[.int .i64 n0, .slice p1 q1 r1x] 30).below hb (by simp))
  have hbx : Below W4.heap.size W4 W5 := Below.trans (by (repeat (first | exact Below.refl _ _ | (refine Below.alloc ?_ (by first | omega | (simp; try omega)) _) | apply Below.drew | apply below_drewN))) (hb.mono (by simp; try omega))
  clear hb
  have T_ := Lib.hid (T.out.trans (hbx.mono T.out.size))
  clear T
  have T := T_
  clear T_
  have XA_ := Lib.hid (XA.out.below hbx XA.out.lt)
  clear XA
  have XA := XA_
  clear XA_
  have Iu1_ := Lib.hid (Iu1.out.below hbx)
  clear Iu1
  have Iu1 := Iu1_
  clear Iu1_
  clear hbx
  have XX := XXn
  clear XXn
  obtain ⟨ca, da, la⟩ := XA.out.two
  obtain ⟨cx, dx, lx⟩ := XX.out.two
  go_wp2_with fail
  go_cut [39] (fun sx wx => sx = .bool false ∧ Hid (Below W5.heap.size W5 wx))
  case first =>
    go_region_with (first
      | (go_at_call 7; refine (toPuzzle n0 _ bs0 _ (R0.out.below (T.out.trans (by (repeat (first | exact Below.refl _ _ | (refine Below.alloc ?_ (by first | omega | (simp; try omega)) _) | apply Below.drew | apply below_drewN))))) HBN.out).mono ?_; rintro e wy ⟨uy, rfl, hIy, hby⟩; have HBy := Lib.hid (Below.trans (by (repeat (first | exact Below.refl _ _ | (refine Below.alloc ?_ (by first | omega | (simp; try omega)) _) | apply Below.drew | apply below_drewN))) (hby.mono (by first | omega | (simp; try omega))) : Below W5.heap.size W5 wy); have Iy := Lib.hid hIy.rd; clear hIy hby; obtain ⟨cxy, dxy, lxy⟩ := (XX.out.below HBy.out XX.out.lt).two)
      | (go_at_call 9; refine (eqPuzzle_same n0 _ _ bs0 _ (Iu1.out.rd.below (HBy.out.trans (by have := HBy.out.size; (repeat (first | exact Below.refl _ _ | (refine Below.alloc ?_ (by first | omega | (simp; try omega)) _) | apply Below.drew | apply below_drewN))))) (Iy.out.below (by (repeat (first | exact Below.refl _ _ | (refine Below.alloc ?_ (by first | omega | (simp; try omega)) _) | apply Below.drew | apply below_drewN)))) (by have := HBN.out; omega)).mono ?_; rintro e wz ⟨rfl, hbz⟩; have HBz := Lib.hid (HBy.out.trans (Below.trans (by have := HBy.out.size; (repeat (first | exact Below.refl _ _ | (refine Below.alloc ?_ (by first | omega | (simp; try omega)) _) | apply Below.drew | apply below_drewN))) (hbz.mono (by have := HBy.out.size; first | omega | (simp; try omega)))) : Below W5.heap.size W5 wz); clear hbz))
    all_goals
      go_wp2_with fail
      go_meet
      exact ⟨rfl, HBz⟩
  case rest =>
    obtain ⟨rfl, HBc⟩ := hcut
    have hb := HBc.out
    clear ca da la
    clear cx dx lx
    clear HBc
    have T_ := Lib.hid (T.out.trans (hb.mono T.out.size))
    clear T
    have T := T_
    clear T_
    have XA_ := Lib.hid (XA.out.below hb XA.out.lt)
    clear XA
    have XA := XA_
    clear XA_
    have Iu1_ := Lib.hid (Iu1.out.below hb)
    clear Iu1
    have Iu1 := Iu1_
    clear Iu1_
    have XX_ := Lib.hid (XX.out.below hb XX.out.lt)
    clear XX
    have XX := XX_
    clear XX_
    clear hb
    go_wp2
    go_ret
    exact ⟨rfl, T.out⟩

set_option maxRecDepth 100000 in
theorem lifted (os : Os) (started : os.Started) (H : Type) (enc : TypeId × Value → H) :
    ReturnsInHanded {} Tryd.checked os 3 .any (fun w args => (Rows.fnExactPuzzleTextSpec.pre enc Tryd.prog Tryd.f3 [] false w args ∧ laidMetH Tryd.prog laidT w) ∧ sizedMet enc Tryd.prog Tryd.f3 (OpenSpec.ofChange Rows.fnExactPuzzleTextSpec) false w args)
      (Rows.fnExactPuzzleTextSpec.post enc Tryd.prog Tryd.f3 false true false false) := by
  refine returnsInHanded_of_change_and (C := Tryd.checked) (X := fun w _ => laidMetH Tryd.prog laidT w) (fun _ _ _ hh h => h.of_heap hh) Tryd.own started (by kernel_rfl) Tryd.func3
    (ChangeSpec.witness_at (enc := enc) (C := Tryd.checked) (os := os) (X := fun w _ => laidMetH Tryd.prog laidT w) false (laidWorldT os) #[.agg #[.int .i64 0, .slice none 0 0]] 8 rfl (by kernel_rfl) (by kernel_rfl) (by kernel_rfl) (by kernel_rfl) (by kernel_rfl) (laidWorld_metT os _)) ?_
  intro W base args ds gs before hval0 hW _ _ hL _
  have hval : ∀ (j : Nat) t v, Tryd.f3.params[j]? = some t → args[j]? = some v → Value.okWide Tryd.prog W .any base t v := hval0
  have hW' := hW
  obtain ⟨p, q, hA0, hV0, rfl, hfz, hnd⟩ := hW
  have hA : DataW.TrodAll enc Tryd.prog W 0 (fun _ => true) true Tryd.f3.params.toList args.toList ds p := hA0
  rw [Tryd.params3] at hA hval
  obtain ⟨v0, vs0, d0, ds0, p0, q0, hargs, rfl, rfl, h0, r0⟩ := trodAll_cons hA
  obtain ⟨rfl, rfl, rfl⟩ := trodAll_nil r0
  obtain rfl : args = #[v0] := by cases args; simp_all
  have hLd := laid_of hL
  obtain ⟨rfl, rfl⟩ := trodVars_none hV0
  have k0 := h0
  have lt0 : ∀ x ∈ p0, x.block < W.heap.size := by obtain ⟨m, hm⟩ := k0; exact DataW.trod_lt m _ _ _ hm
  obtain ⟨n0, a0, len0, cap0, bs0, rfl, w0, m0⟩ := openPuzzle (hval 0 24 v0 rfl rfl) h0
  clear hA0 hval0 hV0
  refine (walk n0 a0 len0 cap0 bs0  W (Lib.hid hLd) w0 m0).mono fun e W' ⟨he, bel⟩ => ?_
  subst he
  exact ⟨_, rfl, _, _, _, [], _, [], hW', trodAll_mk1 (shut_bool Tryd.underlying4 _), (trodAll_cons_mk (Below.trod laidOut (by kernel_rfl) (of_decide_eq_true (by kernel_rfl)) k0 bel lt0) trodAll_mk0), rfl, bel.frame _, fun h => by cases h⟩

theorem over : Rows.fnExactPuzzleTextRow.holds Tryd.pinned (OpenSpec.ofChange Rows.fnExactPuzzleTextSpec) :=
  OpenClaim.holds_of_wide 3 Tryd.f3 rfl rfl rfl rfl rfl rfl rfl ⟨rfl, rfl, rfl, rfl, rfl⟩ rfl rfl rfl rfl rfl (by kernel_rfl) Tryd.func3 (by kernel_rfl)
    (of_decide_eq_true (by kernel_rfl)) (by unfold Func.isWrapper; first | (rw [if_pos (by decide +kernel)]; kernel_rfl) | (rw [if_neg (by decide +kernel)]; exact ⟨rfl, rfl⟩))
    (fun os started H enc _ => lifted os started H enc)

theorem proved : Rows.FnExactPuzzleTextCardSaid :=
  Claim7.holds_tied_plain_at .later [] [.data, .data, .data] true (true, "7b9ee3ab33d57efdac86114ca44cbdf984daa8fcba81b9c0e7bc4f609f54e1c8") true
    over (fun _ h => by cases h) (by kernel_rfl) (fun _ h => by cases h) fnExactPuzzleText_row_tie rfl ⟨rfl, rfl⟩ (by kernel_rfl) rfl
    (fun f fn hf hfn => by
      obtain rfl : f = 3 := Option.some.inj ((show Tryd.prog.funcNamed "loop.example/g01352/laws.FnExactPuzzleText" = some 3 by kernel_rfl).symm.trans hf) |>.symm
      obtain rfl : fn = Tryd.f3 := (Option.some.inj (Tryd.func3.symm.trans hfn)).symm
      exact ⟨by kernel_rfl, fun j t ht => by
        rw [Tryd.params3] at ht
        have h3 : t = 24 := by
          rcases j with _ | j
          · simpa using ht.symm
          simp at ht
        rcases h3 with rfl
        · exact (show Tryd.prog.wantsStandIn 24 = false by kernel_rfl)
        ⟩)
    (by kernel_rfl)
#print axioms proved
end Go.Proofs.YtcpipacombnhdaaDoor.fnExactPuzzleTextDone
