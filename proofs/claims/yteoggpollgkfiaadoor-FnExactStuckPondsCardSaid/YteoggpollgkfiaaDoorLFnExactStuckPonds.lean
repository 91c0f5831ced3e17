/- FnExactStuckPonds: for every input the law returns true; each argument reads behind the call as it read before. No condition. -/
import Derived.Test.YteoggpollgkfiaaDoorSl2
import Derived.Test.YteoggpollgkfiaaDoorLaid
import Derived.Test.YteoggpollgkfiaaDoorTie
import Derived.Test.YteoggpollgkfiaaDoorCards
import Derived.SevenTiedAt
import Derived.Test.YteoggpollgkfiaaDoorRows
import Derived.WalkKit
import Derived.ProofKit
import Derived.OpenShut
import Derived.ShutString
import Derived.ChangeOld
import Derived.Below
import Derived.WalkSpells
import Derived.WalkLawsBesides
import Derived.Lib.Hide
namespace Go.Proofs.YteoggpollgkfiaaDoor.fnExactStuckPondsDone
open Go.ChangeShapes Go.WideShapes Go.ChangeAt Go.RowKit
open Go.ChangeMaps (open_string shut_string)
set_option linter.unusedVariables false

theorem laidOut : laidOutB Tryd.prog = true := by kernel_rfl

set_option maxHeartbeats 4000000 in
theorem walk (a0 : ByteArray) (p : Addr) (w0 : a0.size ≤ maxLen) (w : World) (hL : Laid w p) :
    Calls Tryd.prog 7 #[.string a0] w fun e w' => e = .returned (.bool true) ∧ Below w.heap.size w w' := by
  unfold maxLen at w0
  by_cases hb0 : 1048576 < a0.size
  · go_enter Tryd.func7, Tryd.ntmps7
    go_wp2
    go_ret
    exact ⟨rfl, Below.refl _ _⟩
  have hl : (skL a0).length ≤ 16777216 := skL_len a0
  have S := fun wx => specStk a0 wx (by omega)
  have I := fun wx (h : Laid wx p) => implStk a0 p wx (by omega) h
  generalize skL a0 = zs at *
  generalize isPd a0 = ok at *
  have HS := Lib.hid S
  have HI := Lib.hid I
  have L0 := Lib.hid hL
  clear S I hL
  go_enter Tryd.func7, Tryd.ntmps7
  go_wp2_with fail
  refine (HS.out _).mono ?_
  rintro e w1 ⟨v0, rfl, hI0, hb1⟩
  have L1 := Lib.hid (L0.out.below hb1)
  go_wp2_with fail
  refine (HI.out _ L1.out).mono ?_
  rintro e w2 ⟨v1, rfl, hI1, hb2⟩
  have r0 : RdS w2 v0 zs := hI0.rd.below hb2
  go_wp2_with fail
  refine (eqStrS_same v1 v0 zs w2 hI1.rd r0 hl).mono ?_
  rintro e w3 ⟨rfl, hb3⟩
  have s1 := hb1.size
  have s2 := hb2.size
  have s3 := hb3.size
  have MK := Lib.hid (markStrS v1 zs w1.heap.size w3 (hI1.below hb3) hl (by omega) 1 (by decide) (by decide))
  go_wp2_with fail
  refine Calls.mono (show Calls Tryd.prog 22 #[v1, .int .i64 1] w3 _ from MK.out) ?_
  rintro e w4 ⟨rfl, hm, hg, _⟩
  have b14 : Below w1.heap.size w1 w4 := (hb2.trans (hb3.mono s2)).trans hg
  have r4 : RdS w4 v0 zs := hI0.rd.below b14
  have b4 : Below w.heap.size w w4 := hb1.trans (b14.mono s1)
  have L4 := Lib.hid (L0.out.below b4)
  clear hI0 hI1 hb1 hb2 hb3 r0 hg b14 L1 MK s1 s2 s3
  obtain ⟨n, hn⟩ : ∃ n, n = zs.length := ⟨_, rfl⟩
  rw [← hn] at hl hm ⊢
  have HN := Lib.hid hn
  clear hn
  have HM := Lib.hid hm.rd
  have HB4 := Lib.hid b4
  have HR4 := Lib.hid r4
  have HD := Lib.hid (fun W (h : RdS W v1 (mks 1 n)) => (show Calls Tryd.prog 23 #[v1, .int .i64 1] W _ from heldStrS v1 n W 1 h hl (by decide) (by decide)))
  clear hm b4 r4
  go_wp2_with fail
  refine (HD.out _ HM.out).mono ?_
  rintro e w5 ⟨rfl, hb5⟩
  have L5 := Lib.hid (L4.out.below hb5)
  go_wp2_with fail
  refine (HI.out _ L5.out).mono ?_
  rintro e w6 ⟨v2, rfl, hI2, hb6⟩
  have r6 : RdS w6 v0 zs := (HR4.out.below hb5).below hb6
  have M6 := Lib.hid ((HM.out.below hb5).below hb6)
  go_wp2_with fail
  refine (eqStrS_same v2 v0 zs w6 hI2.rd r6 (by have := HN.out; omega)).mono ?_
  rintro e w7 ⟨rfl, hb7⟩
  have M7 := Lib.hid (M6.out.below hb7)
  go_wp2_with fail
  refine (HD.out _ M7.out).mono ?_
  rintro e w8 ⟨rfl, hb8⟩
  have s4 := HB4.out.size
  have s5 := hb5.size
  have s6 := hb6.size
  have s7 := hb7.size
  have b8 : Below w.heap.size w w8 := (((HB4.out.trans (hb5.mono s4)).trans (hb6.mono (by omega))).trans (hb7.mono (by omega))).trans (hb8.mono (by omega))
  clear hb5 hb6 hb7 hb8
  go_wp2
  go_ret
  exact ⟨rfl, b8⟩

set_option maxRecDepth 100000 in
theorem lifted (os : Os) (started : os.Started) (H : Type) (enc : TypeId × Value → H) :
    ReturnsInHanded {} Tryd.checked os 7 .any (fun w args => (Rows.fnExactStuckPondsSpec.pre enc Tryd.prog Tryd.f7 [] false w args ∧ laidMetH Tryd.prog laidList w) ∧ sizedMet enc Tryd.prog Tryd.f7 (OpenSpec.ofChange Rows.fnExactStuckPondsSpec) false w args)
      (Rows.fnExactStuckPondsSpec.post enc Tryd.prog Tryd.f7 false true false false) := by
  refine returnsInHanded_of_change_and (C := Tryd.checked) (X := fun w _ => laidMetH Tryd.prog laidList w) (fun _ _ _ hh h => h.of_heap hh) Tryd.own started (by kernel_rfl) Tryd.func7
    (ChangeSpec.witness_at (enc := enc) (C := Tryd.checked) (os := os) (X := fun w _ => laidMetH Tryd.prog laidList w) false (laidWorld os) #[.string ByteArray.empty] 8 rfl (by kernel_rfl) (by kernel_rfl) (by kernel_rfl) (by kernel_rfl) (by kernel_rfl) (laidWorld_met os _)) ?_
  intro W base args ds gs before hval0 hW _ _ hL _
  have hval : ∀ (j : Nat) t v, Tryd.f7.params[j]? = some t → args[j]? = some v → Value.okWide Tryd.prog W .any base t v := hval0
  have hW' := hW
  obtain ⟨p, q, hA0, hV0, rfl, hfz, hnd⟩ := hW
  have hA : DataW.TrodAll enc Tryd.prog W 0 (fun _ => true) true Tryd.f7.params.toList args.toList ds p := hA0
  have hV : DataW.TrodVars enc Tryd.prog W (fun _ => true) ["loop.example/g01352/impl.errNoMove"] gs q := hV0
  rw [Tryd.params7] at hA hval
  obtain ⟨v0, vs0, d0, ds0, p0, q0, hargs, rfl, rfl, h0, r0⟩ := trodAll_cons hA
  obtain ⟨rfl, rfl, rfl⟩ := trodAll_nil r0
  obtain rfl : args = #[v0] := by cases args; simp_all
  obtain ⟨pm, hLd, hvar⟩ := laid_of hL
  obtain ⟨rfl, rfl⟩ := hV.unique (vars_read enc hvar trivial _)
  obtain ⟨a0, rfl, rfl, rfl, w0⟩ := open_string Tryd.underlying9 (hval 0 9 v0 rfl rfl) h0
  clear hA0 hval0 hV0
  refine (walk a0 pm w0 W hLd ).mono fun e W' ⟨he, bel⟩ => ?_
  subst he
  exact ⟨_, rfl, _, _, _, [], _, [.cell 0 0], hW', trodAll_mk1 (shut_bool Tryd.underlying4 _), (trodAll_cons_mk (shut_string Tryd.underlying9 w0) trodAll_mk0), vars_read enc (vars_below hvar bel hLd.2.2) trivial _, bel.frame _, fun h => by cases h⟩

theorem over : Rows.fnExactStuckPondsRow.holds Tryd.pinned (OpenSpec.ofChange Rows.fnExactStuckPondsSpec) :=
  OpenClaim.holds_of_wide 7 Tryd.f7 rfl rfl rfl rfl rfl rfl rfl ⟨rfl, rfl, rfl, rfl, rfl⟩ rfl rfl rfl rfl rfl (by kernel_rfl) Tryd.func7 (by kernel_rfl)
    (of_decide_eq_true (by kernel_rfl)) (by unfold Func.isWrapper; first | (rw [if_pos (by decide +kernel)]; kernel_rfl) | (rw [if_neg (by decide +kernel)]; exact ⟨rfl, rfl⟩))
    (fun os started H enc _ => lifted os started H enc)

theorem proved : Rows.FnExactStuckPondsCardSaid :=
  Claim7.holds_tied_plain_at .later [] [.handle, .sentinel] true (true, "44dc01d671d1c961bde44ffc3d258b8e60b2fe1dbfeeb727c2160aaca87bc004") true
    over (fun _ h => by cases h) (by kernel_rfl) (fun _ h => by cases h) fnExactStuckPonds_row_tie rfl ⟨rfl, rfl⟩ (by kernel_rfl) rfl
    (fun f fn hf hfn => by
      obtain rfl : f = 7 := Option.some.inj ((show Tryd.prog.funcNamed "loop.example/g01352/laws.FnExactStuckPonds" = some 7 by kernel_rfl).symm.trans hf) |>.symm
      obtain rfl : fn = Tryd.f7 := (Option.some.inj (Tryd.func7.symm.trans hfn)).symm
      exact ⟨by kernel_rfl, fun j t ht => by
        rw [Tryd.params7] at ht
        have h3 : t = 9 := by
          rcases j with _ | j
          · simpa using ht.symm
          simp at ht
        rcases h3 with rfl
        · exact (show Tryd.prog.wantsStandIn 9 = false by kernel_rfl)
        ⟩)
    (by kernel_rfl)
#print axioms proved
end Go.Proofs.YteoggpollgkfiaaDoor.fnExactStuckPondsDone
