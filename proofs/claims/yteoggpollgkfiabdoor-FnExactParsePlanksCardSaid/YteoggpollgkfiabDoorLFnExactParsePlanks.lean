/- FnExactParsePlanks: for every input the law returns true; each argument reads behind the call as it read before. No condition. -/
import Derived.Test.YteoggpollgkfiabDoorIp
import Derived.Test.YteoggpollgkfiabDoorLtP
import Derived.Test.YteoggpollgkfiabDoorTie
import Derived.Test.YteoggpollgkfiabDoorCards
import Derived.SevenTiedAt
import Derived.Test.YteoggpollgkfiabDoorRows
import Derived.WalkKit
import Derived.ProofKit
import Derived.OpenShut
import Derived.ShutString
import Derived.ChangeOld
import Derived.Below
import Derived.WalkSpells
import Derived.WalkLawsBesides
import Derived.Lib.Hide
namespace Go.Proofs.YteoggpollgkfiabDoor.fnExactParsePlanksDone
open Go.ChangeShapes Go.WideShapes Go.ChangeAt Go.RowKit
open Go.ChangeMaps (open_string shut_string)
set_option linter.unusedVariables false

theorem laidOut : laidOutB Tryd.prog = true := by kernel_rfl

set_option maxHeartbeats 4000000 in
theorem walk (a0 : ByteArray) (w0 : a0.size ≤ maxLen) (w : World) (P0 : Hid (Lb w)) :
    Calls Tryd.prog 4 #[.string a0] w fun e w' => e = .returned (.bool true) ∧ Below w.heap.size w w' := by
  unfold maxLen at w0
  by_cases hb0 : 1048576 < a0.size
  · go_enter Tryd.func4, Tryd.ntmps4
    go_wp2
    go_ret
    exact ⟨rfl, Below.refl _ _⟩
  have hl : (pL a0).length ≤ 16777216 := pL_len a0
  have S := fun wx => specParse a0 wx (by omega)
  have I := fun wx (h : Lb wx) => implParse a0 wx (by omega) h
  generalize pL a0 = zs at *
  generalize isTx a0 = ok at *
  have HS := Lib.hid S
  have HI := Lib.hid I
  clear S I
  go_enter Tryd.func4, Tryd.ntmps4
  go_wp2_with fail
  refine (HS.out _).mono ?_
  rintro e w1 ⟨v0, rfl, hI0, hb0⟩
  have L1 := Lib.hid (P0.out.below hb0)
  go_wp2_with fail
  refine (HI.out _ L1.out).mono ?_
  rintro e w2 ⟨v1, rfl, hI1, hb1⟩
  have r0 : Rd w2 v0 zs := hI0.rd.below hb1
  go_wp2_with fail
  refine (eqIntS_same v1 v0 zs w2 hI1.rd r0 hl).mono ?_
  rintro e w3 ⟨rfl, hb2⟩
  have lt0 : ∀ b, v0.ownBlock = some b → b < w1.heap.size := fun b h => (World.ownsRow.lt hI0 b h).2
  have ge1 : ∀ b, v1.ownBlock = some b → w1.heap.size ≤ b := fun b h => (World.ownsRow.lt hI1 b h).1
  go_wp2_with fail
  refine (markIntS v1 zs w1.heap.size w3 (hI1.below hb2) hl 1 (by decide) (by decide)).mono ?_
  rintro e w4 ⟨rfl, hm, hg⟩
  have r4 : Rd w4 v0 zs := (r0.below hb2).grown lt0 hg (fun b h => ge1 b h)
  have s1 := hb0.size
  have s2 := hb1.size
  have s3 := hb2.size
  have s4 := hg.size
  have b4 : Below w.heap.size w w4 := ((hb0.trans (hb1.mono hb0.size)).trans (hb2.mono (by omega))).grown hg (by omega) (fun b h => Nat.le_trans s1 (ge1 b h))
  have L4 := Lib.hid (P0.out.below b4)
  clear hI0 hI1 hb0 hb1 hb2 r0 lt0 ge1 hg L1
  obtain ⟨n, hn⟩ : ∃ n, n = zs.length := ⟨_, rfl⟩
  rw [← hn] at hl hm ⊢
  have HN := Lib.hid hn
  clear hn
  go_wp2_with fail
  refine (heldIntS v1 n w4 1 hm.rd hl (by decide) (by decide)).mono ?_
  rintro e w' ⟨rfl, rfl⟩
  go_wp2_with fail
  refine (HI.out _ L4.out).mono ?_
  rintro e w5 ⟨v2, rfl, hI2, hb5⟩
  go_wp2_with fail
  refine (eqIntS_same v2 v0 zs w5 hI2.rd (r4.below hb5) (by have := HN.out; omega)).mono ?_
  rintro e w6 ⟨rfl, hb6⟩
  go_wp2_with fail
  refine (heldIntS v1 n w6 1 ((hm.rd.below hb5).below hb6) hl (by decide) (by decide)).mono ?_
  rintro e w' ⟨rfl, rfl⟩
  have b6 : Below w.heap.size w w6 := (b4.trans (hb5.mono b4.size)).trans (hb6.mono (Nat.le_trans b4.size hb5.size))
  go_wp2
  go_ret
  exact ⟨rfl, b6⟩

set_option maxRecDepth 100000 in
theorem lifted (os : Os) (started : os.Started) (H : Type) (enc : TypeId × Value → H) :
    ReturnsInHanded {} Tryd.checked os 4 .any (fun w args => (Rows.fnExactParsePlanksSpec.pre enc Tryd.prog Tryd.f4 [] false w args ∧ laidMetH Tryd.prog laidP w) ∧ sizedMet enc Tryd.prog Tryd.f4 (OpenSpec.ofChange Rows.fnExactParsePlanksSpec) false w args)
      (Rows.fnExactParsePlanksSpec.post enc Tryd.prog Tryd.f4 false true false false) := by
  refine andShaped (C := Tryd.checked) (X := fun w _ => laidMetH Tryd.prog laidP w) (fun _ _ _ hh h => h.of_heap hh) Tryd.own started (by kernel_rfl) Tryd.func4
    (ChangeSpec.witness_at (enc := enc) (C := Tryd.checked) (os := os) (X := fun w _ => laidMetH Tryd.prog laidP w) false (laidWorldP os) #[.string ByteArray.empty] 8 rfl (by kernel_rfl) (by kernel_rfl) (by kernel_rfl) (by kernel_rfl) (by kernel_rfl) (laidWorld_metP os _)) ?_
  intro W base args ds gs before hval0 hW hL hSh
  have hval : ∀ (j : Nat) t v, Tryd.f4.params[j]? = some t → args[j]? = some v → Value.okWide Tryd.prog W .any base t v := hval0
  have hW' := hW
  obtain ⟨p, q, hA0, hV0, rfl, hfz, hnd⟩ := hW
  have hA : DataW.TrodAll enc Tryd.prog W 0 (fun _ => true) true Tryd.f4.params.toList args.toList ds p := hA0
  rw [Tryd.params4] at hA hval
  obtain ⟨v0, vs0, d0, ds0, p0, q0, hargs, rfl, rfl, h0, r0⟩ := trodAll_cons hA
  obtain ⟨rfl, rfl, rfl⟩ := trodAll_nil r0
  obtain rfl : args = #[v0] := by cases args; simp_all
  have hLd := laidP_of hL hSh
  obtain ⟨rfl, rfl⟩ := trodVars_none hV0
  obtain ⟨a0, rfl, rfl, rfl, w0⟩ := open_string Tryd.underlying9 (hval 0 9 v0 rfl rfl) h0
  clear hA0 hval0 hV0
  refine (walk a0 w0 W (Lib.hid hLd) ).mono fun e W' ⟨he, bel⟩ => ?_
  subst he
  exact ⟨_, rfl, _, _, _, [], _, [], hW', trodAll_mk1 (shut_bool Tryd.underlying4 _), (trodAll_cons_mk (shut_string Tryd.underlying9 w0) trodAll_mk0), rfl, bel.frame _, fun h => by cases h⟩

theorem over : Rows.fnExactParsePlanksRow.holds Tryd.pinned (OpenSpec.ofChange Rows.fnExactParsePlanksSpec) :=
  OpenClaim.holds_of_wide 4 Tryd.f4 rfl rfl rfl rfl rfl rfl rfl ⟨rfl, rfl, rfl, rfl, rfl⟩ rfl rfl rfl rfl rfl (by kernel_rfl) Tryd.func4 (by kernel_rfl)
    (of_decide_eq_true (by kernel_rfl)) (by unfold Func.isWrapper; first | (rw [if_pos (by decide +kernel)]; kernel_rfl) | (rw [if_neg (by decide +kernel)]; exact ⟨rfl, rfl⟩))
    (fun os started H enc _ => lifted os started H enc)

theorem proved : Rows.FnExactParsePlanksCardSaid :=
  Claim7.holds_tied_plain_at .later [] [.data, .data, .data, .data, .sentinel, .sentinel, .pinned] true (true, "dfaada9e7177519f6a7f8f93958f364a12ece077a45ec72e5865601eb11f8fb7") true
    over (fun _ h => by cases h) (by kernel_rfl) (fun _ h => by cases h) fnExactParsePlanks_row_tie rfl ⟨rfl, rfl⟩ (by kernel_rfl) rfl
    (fun f fn hf hfn => by
      obtain rfl : f = 4 := Option.some.inj ((show Tryd.prog.funcNamed "loop.example/g01352/laws.FnExactParsePlanks" = some 4 by kernel_rfl).symm.trans hf) |>.symm
      obtain rfl : fn = Tryd.f4 := (Option.some.inj (Tryd.func4.symm.trans hfn)).symm
      exact ⟨by kernel_rfl, fun j t ht => by
        rw [Tryd.params4] at ht
        have h3 : t = 9 := by
          rcases j with _ | j
          · simpa using ht.symm
          simp at ht
        rcases h3 with rfl
        · exact (show Tryd.prog.wantsStandIn 9 = false by kernel_rfl)
        ⟩)
    (by kernel_rfl)
#print axioms proved
end Go.Proofs.YteoggpollgkfiabDoor.fnExactParsePlanksDone
