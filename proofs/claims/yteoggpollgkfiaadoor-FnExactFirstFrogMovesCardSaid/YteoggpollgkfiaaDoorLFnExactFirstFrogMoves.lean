/- FnExactFirstFrogMoves: for every input the law returns true; each argument reads behind the call as it read before. No condition. -/
import Derived.Test.YteoggpollgkfiaaDoorFi
import Derived.Test.YteoggpollgkfiaaDoorLaid
import Derived.Test.YteoggpollgkfiaaDoorTie
import Derived.Test.YteoggpollgkfiaaDoorCards
import Derived.SevenTiedAt
import Derived.Test.YteoggpollgkfiaaDoorRows
import Derived.WalkKit
import Derived.ProofKit
import Derived.OpenShut
import Derived.ShutString
import Derived.ChangeOld
import Derived.Below
import Derived.WalkSpells
import Derived.WalkLawsBesides
import Derived.Lib.Hide
namespace Go.Proofs.YteoggpollgkfiaaDoor.fnExactFirstFrogMovesDone
open Go.ChangeShapes Go.WideShapes Go.ChangeAt Go.RowKit
open Go.ChangeMaps (open_string shut_string)
set_option linter.unusedVariables false

theorem laidOut : laidOutB Tryd.prog = true := by kernel_rfl

set_option maxHeartbeats 2000000 in
theorem walk (a0 : ByteArray) (a1 : ByteArray) (p : Addr) (w0 : a0.size ≤ maxLen) (w1 : a1.size ≤ maxLen) (w : World) (hL : Laid w p)  :
    Calls Tryd.prog 4 #[.string a0, .string a1] w fun e w' => e = .returned (.bool true) ∧ Below w.heap.size w w' := by
  unfold maxLen at w0 w1
  by_cases hb0 : 1048576 < a0.size
  · go_enter Tryd.func4, Tryd.ntmps4
    go_wp2
    go_ret
    exact ⟨rfl, Below.refl _ _⟩
  by_cases hb1 : 1048576 < a1.size
  · go_enter Tryd.func4, Tryd.ntmps4
    go_wp2
    go_ret
    exact ⟨rfl, Below.refl _ _⟩
  have hl : (firL a0 a1).length ≤ 16777216 := (by have := firL_len a0 a1; omega)
  generalize hzs : (firL a0 a1) = zs at hl
  generalize hok : (firB a0 a1) = ok
  have HZ := Lib.hid hzs
  have HO := Lib.hid hok
  clear hzs hok
  have S := fun wx => specFirst a0 a1 wx (by omega)
  have I := fun wx (h : Laid wx p) => implFirst a0 a1 p wx (by omega) h
  rw [HZ.out, HO.out] at S
  simp only [HZ.out, HO.out] at I
  have HS := Lib.hid S
  have HI := Lib.hid I
  have L0 := Lib.hid hL
  clear S I hL
  go_enter Tryd.func4, Tryd.ntmps4
  go_wp2_with fail
  refine (HS.out _).mono ?_
  rintro e w1 ⟨v0, rfl, hI0, hb0⟩
  have L1 := Lib.hid (L0.out.below hb0)
  go_wp2_with fail
  refine (HI.out _ L1.out).mono ?_
  rintro e w2 ⟨v1, rfl, hI1, hb1⟩
  have r0 : Rd w2 v0 zs := hI0.rd.below hb1
  have bA := hb0.trans (hb1.mono hb0.size)
  go_wp2_with fail
  refine (eqIntS_same v1 v0 zs w2 hI1.rd r0 hl).mono ?_
  rintro e w3 ⟨rfl, hb2⟩
  have lt0 : ∀ b, v0.ownBlock = some b → b < w1.heap.size := fun b h => (World.ownsRow.lt hI0 b h).2
  have ge1 : ∀ b, v1.ownBlock = some b → w1.heap.size ≤ b := fun b h => (World.ownsRow.lt hI1 b h).1
  go_wp2_with fail
  refine (markIntS v1 zs w1.heap.size w3 (hI1.below hb2) hl 1 (by decide) (by decide)).mono ?_
  rintro e w4 ⟨rfl, hm, hg⟩
  have r4 : Rd w4 v0 zs := (r0.below hb2).grown lt0 hg (fun b h => ge1 b h)
  have s1 := hb0.size
  have s2 := hb1.size
  have s3 := hb2.size
  have s4 := hg.size
  have b4 : Below w.heap.size w w4 := ((hb0.trans (hb1.mono hb0.size)).trans (hb2.mono (by omega))).grown hg (by omega) (fun b h => Nat.le_trans s1 (ge1 b h))
  have L4 := Lib.hid (L0.out.below b4)
  clear hI0 hI1 hb0 hb1 hb2 r0 lt0 ge1 hg bA L1
  obtain ⟨n, hn⟩ : ∃ n, n = zs.length := ⟨_, rfl⟩
  rw [← hn] at hl hm ⊢
  have HN := Lib.hid hn
  clear hn
  go_wp2_with fail
  refine (heldIntS v1 n w4 1 hm.rd hl (by decide) (by decide)).mono ?_
  rintro e w' ⟨rfl, rfl⟩
  go_wp2_with fail
  refine (HI.out _ L4.out).mono ?_
  rintro e w5 ⟨v2, rfl, hI2, hb5⟩
  go_wp2_with fail
  refine (eqIntS_same v2 v0 zs w5 hI2.rd (r4.below hb5) (by have := HN.out; omega)).mono ?_
  rintro e w6 ⟨rfl, hb6⟩
  go_wp2_with fail
  refine (heldIntS v1 n w6 1 ((hm.rd.below hb5).below hb6) hl (by decide) (by decide)).mono ?_
  rintro e w' ⟨rfl, rfl⟩
  have b6 : Below w.heap.size w w6 := (b4.trans (hb5.mono b4.size)).trans (hb6.mono (Nat.le_trans b4.size hb5.size))
  go_wp2
  go_ret
  exact ⟨rfl, b6⟩

set_option maxRecDepth 100000 in
theorem lifted (os : Os) (started : os.Started) (H : Type) (enc : TypeId × Value → H) :
    ReturnsInHanded {} Tryd.checked os 4 .any (fun w args => (Rows.fnExactFirstFrogMovesSpec.pre enc Tryd.prog Tryd.f4 [] false w args ∧ laidMetH Tryd.prog laidList w) ∧ sizedMet enc Tryd.prog Tryd.f4 (OpenSpec.ofChange Rows.fnExactFirstFrogMovesSpec) false w args)
      (Rows.fnExactFirstFrogMovesSpec.post enc Tryd.prog Tryd.f4 false true false false) := by
  refine returnsInHanded_of_change_and (C := Tryd.checked) (X := fun w _ => laidMetH Tryd.prog laidList w) (fun _ _ _ hh h => h.of_heap hh) Tryd.own started (by kernel_rfl) Tryd.func4
    (ChangeSpec.witness_at (enc := enc) (C := Tryd.checked) (os := os) (X := fun w _ => laidMetH Tryd.prog laidList w) false (laidWorld os) #[.string ByteArray.empty, .string ByteArray.empty] 8 rfl (by kernel_rfl) (by kernel_rfl) (by kernel_rfl) (by kernel_rfl) (by kernel_rfl) (laidWorld_met os _)) ?_
  intro W base args ds gs before hval0 hW _ _ hL _
  have hval : ∀ (j : Nat) t v, Tryd.f4.params[j]? = some t → args[j]? = some v → Value.okWide Tryd.prog W .any base t v := hval0
  have hW' := hW
  obtain ⟨p, q, hA0, hV0, rfl, hfz, hnd⟩ := hW
  have hA : DataW.TrodAll enc Tryd.prog W 0 (fun _ => true) true Tryd.f4.params.toList args.toList ds p := hA0
  have hV : DataW.TrodVars enc Tryd.prog W (fun _ => true) ["loop.example/g01352/impl.errNoMove"] gs q := hV0
  rw [Tryd.params4] at hA hval
  obtain ⟨v0, vs0, d0, ds0, p0, q0, hargs, rfl, rfl, h0, r0⟩ := trodAll_cons hA
  obtain ⟨v1, vs1, d1, ds1, p1, q1, rfl, rfl, rfl, h1, r1⟩ := trodAll_cons r0
  obtain ⟨rfl, rfl, rfl⟩ := trodAll_nil r1
  obtain rfl : args = #[v0, v1] := by cases args; simp_all
  obtain ⟨pm, hLd, hvar⟩ := laid_of hL
  obtain ⟨rfl, rfl⟩ := hV.unique (vars_read enc hvar trivial _)
  obtain ⟨a0, rfl, rfl, rfl, w0⟩ := open_string Tryd.underlying9 (hval 0 9 v0 rfl rfl) h0
  obtain ⟨a1, rfl, rfl, rfl, w1⟩ := open_string Tryd.underlying9 (hval 1 9 v1 rfl rfl) h1
  clear hA0 hval0 hV0
  refine (walk a0 a1 pm w0 w1 W hLd ).mono fun e W' ⟨he, bel⟩ => ?_
  subst he
  exact ⟨_, rfl, _, _, _, [], _, [.cell 0 0], hW', trodAll_mk1 (shut_bool Tryd.underlying4 _), (trodAll_cons_mk (shut_string Tryd.underlying9 w0) (trodAll_cons_mk (shut_string Tryd.underlying9 w1) trodAll_mk0)), vars_read enc (vars_below hvar bel hLd.2.2) trivial _, bel.frame _, fun h => by cases h⟩

theorem over : Rows.fnExactFirstFrogMovesRow.holds Tryd.pinned (OpenSpec.ofChange Rows.fnExactFirstFrogMovesSpec) :=
  OpenClaim.holds_of_wide 4 Tryd.f4 rfl rfl rfl rfl rfl rfl rfl ⟨rfl, rfl, rfl, rfl, rfl⟩ rfl rfl rfl rfl rfl (by kernel_rfl) Tryd.func4 (by kernel_rfl)
    (of_decide_eq_true (by kernel_rfl)) (by unfold Func.isWrapper; first | (rw [if_pos (by decide +kernel)]; kernel_rfl) | (rw [if_neg (by decide +kernel)]; exact ⟨rfl, rfl⟩))
    (fun os started H enc _ => lifted os started H enc)

theorem proved : Rows.FnExactFirstFrogMovesCardSaid :=
  Claim7.holds_tied_plain_at .later [] [.handle, .sentinel] true (true, "44dc01d671d1c961bde44ffc3d258b8e60b2fe1dbfeeb727c2160aaca87bc004") true
    over (fun _ h => by cases h) (by kernel_rfl) (fun _ h => by cases h) fnExactFirstFrogMoves_row_tie rfl ⟨rfl, rfl⟩ (by kernel_rfl) rfl
    (fun f fn hf hfn => by
      obtain rfl : f = 4 := Option.some.inj ((show Tryd.prog.funcNamed "loop.example/g01352/laws.FnExactFirstFrogMoves" = some 4 by kernel_rfl).symm.trans hf) |>.symm
      obtain rfl : fn = Tryd.f4 := (Option.some.inj (Tryd.func4.symm.trans hfn)).symm
      exact ⟨by kernel_rfl, fun j t ht => by
        rw [Tryd.params4] at ht
        have h3 : t = 9 ∨ t = 9 := by
          rcases j with _ | j
          · exact Or.inl (by simpa using ht.symm)
          rcases j with _ | j
          · exact Or.inr ((by simpa using ht.symm))
          simp at ht
        rcases h3 with rfl | rfl
        · exact (show Tryd.prog.wantsStandIn 9 = false by kernel_rfl)
        · exact (show Tryd.prog.wantsStandIn 9 = false by kernel_rfl)
        ⟩)
    (by kernel_rfl)
#print axioms proved
end Go.Proofs.YteoggpollgkfiaaDoor.fnExactFirstFrogMovesDone
