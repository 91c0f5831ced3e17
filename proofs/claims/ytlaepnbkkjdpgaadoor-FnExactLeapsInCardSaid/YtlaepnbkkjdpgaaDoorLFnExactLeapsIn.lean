/- FnExactLeapsIn: for every input the law returns true; each argument reads behind the call as it read before. No condition. -/
import Derived.Test.YtlaepnbkkjdpgaaDoorPlay
import Derived.Test.YtlaepnbkkjdpgaaDoorLaid
import Derived.Test.YtlaepnbkkjdpgaaDoorTie
import Derived.Test.YtlaepnbkkjdpgaaDoorCards
import Derived.SevenTiedAt
import Derived.Test.YtlaepnbkkjdpgaaDoorRows
import Derived.WalkKit
import Derived.ProofKit
import Derived.OpenShut
import Derived.ShutString
import Derived.ChangeOld
import Derived.Below
import Derived.WalkSpells
import Derived.WalkLawsBesides
import Derived.Lib.Hide
namespace Go.Proofs.YtlaepnbkkjdpgaaDoor.fnExactLeapsInDone
open Go.ChangeShapes Go.WideShapes Go.ChangeAt Go.RowKit
open Go.ChangeMaps (open_string shut_string)
set_option linter.unusedVariables false

theorem laidOut : laidOutB Tryd.prog = true := by kernel_rfl

set_option maxHeartbeats 2000000 in
theorem walk (a0 : ByteArray) (a1 : Option Addr) (n c : Nat) (z1 : List Int) (p : Addr) (w0 : a0.size ≤ maxLen) (w : World) (hL : Laid w p) (w1 : IsRow .i64 w a1 n c z1) :
    Calls Tryd.prog 7 #[.string a0, .slice a1 n c] w fun e w' => e = .returned (.bool true) ∧ Below w.heap.size w w' := by
  unfold maxLen at w0
  obtain ⟨hr, hl, hbd⟩ := w1.rd
  have HW1 := Lib.hid w1
  have L0 := Lib.hid hL
  clear w1 hL
  by_cases hb : 1048576 < a0.size
  · go_enter Tryd.func7, Tryd.ntmps7
    go_wp2
    go_ret
    exact ⟨rfl, Below.refl _ _⟩
  by_cases hb1 : 1048576 < n
  · have hcm : n ≤ c ∧ c ≤ maxLen := by
      rcases HW1.out with ⟨rfl, rfl, rfl, rfl⟩ | ⟨x, rfl, h1, h2, _⟩
      · exact ⟨Nat.le_refl _, Nat.zero_le _⟩
      · exact ⟨h1, h2⟩
    have hcm2 : n ≤ 9223372036854775807 := by have := hcm; unfold maxLen at this; omega
    clear hcm
    go_enter Tryd.func7, Tryd.ntmps7
    go_wp2
    go_ret
    exact ⟨rfl, Below.refl _ _⟩
  · generalize z1.take n = zs at *
    have hln : zs.length ≤ 1048576 := by omega
    have HL := Lib.hid hln
    clear hbd hl hln
    have S := fun wx u (h : Rd wx u zs) => specLeapsIn a0 u zs wx (by omega) h HL.out
    have I := fun wx u (h : Rd wx u zs) (hl : Laid wx p) => implLeapsIn a0 u zs p wx (by omega) hl h HL.out
    obtain ⟨x, hx⟩ : ∃ x, x = (plM a0 zs : Int) := ⟨_, rfl⟩
    obtain ⟨y, hy⟩ : ∃ y, y = plB a0 zs := ⟨_, rfl⟩
    simp only [← hx, ← hy] at S I
    have HS := Lib.hid S
    have HI := Lib.hid I
    clear S I hx hy
    go_enter Tryd.func7, Tryd.ntmps7
    go_wp2_with fail
    refine (toIntS _ zs _ hr HL.out).mono ?_
    rintro e w1 ⟨u1, rfl, hI1, hb1⟩
    go_wp2_with fail
    refine (HS.out _ u1 hI1.rd).mono ?_
    rintro e w2 ⟨rfl, hb2⟩
    have hbA := hb1.trans (hb2.mono hb1.size)
    go_wp2_with fail
    refine (toIntS _ zs _ (hr.below hbA) HL.out).mono ?_
    rintro e w3 ⟨u2, rfl, hI2, hb3⟩
    have hbB := hbA.trans (hb3.mono hbA.size)
    go_wp2_with fail
    refine (HI.out _ u2 hI2.rd (L0.out.below hbB)).mono ?_
    rintro e w4 ⟨rfl, hb4⟩
    have hbC := hbB.trans (hb4.mono hbB.size)
    go_wp2_with fail
    refine (toIntS _ zs _ (hr.below hbC) HL.out).mono ?_
    rintro e w5 ⟨u3, rfl, hI3, hb5⟩
    have hbD := hbC.trans (hb5.mono hbC.size)
    go_wp2_with fail
    refine (eqIntS_same u2 u3 zs _ ((hI2.rd.below hb4).below hb5) hI3.rd (by have := HL.out; omega)).mono ?_
    rintro e w6 ⟨rfl, hb6⟩
    have hbE := hbD.trans (hb6.mono hbD.size)
    go_wp2
    go_ret
    exact ⟨rfl, hbE⟩

set_option maxRecDepth 100000 in
theorem lifted (os : Os) (started : os.Started) (H : Type) (enc : TypeId × Value → H) :
    ReturnsInHanded {} Tryd.checked os 7 .any (fun w args => (Rows.fnExactLeapsInSpec.pre enc Tryd.prog Tryd.f7 [] false w args ∧ laidMetH Tryd.prog laidList w) ∧ sizedMet enc Tryd.prog Tryd.f7 (OpenSpec.ofChange Rows.fnExactLeapsInSpec) false w args)
      (Rows.fnExactLeapsInSpec.post enc Tryd.prog Tryd.f7 false true false false) := by
  refine returnsInHanded_of_change_and (C := Tryd.checked) (X := fun w _ => laidMetH Tryd.prog laidList w) (fun _ _ _ hh h => h.of_heap hh) Tryd.own started (by kernel_rfl) Tryd.func7
    (ChangeSpec.witness_at (enc := enc) (C := Tryd.checked) (os := os) (X := fun w _ => laidMetH Tryd.prog laidList w) false (laidWorld os) #[.string ByteArray.empty, .slice none 0 0] 8 rfl (by kernel_rfl) (by kernel_rfl) (by kernel_rfl) (by kernel_rfl) (by kernel_rfl) (laidWorld_met os _)) ?_
  intro W base args ds gs before hval0 hW _ _ hL _
  have hval : ∀ (j : Nat) t v, Tryd.f7.params[j]? = some t → args[j]? = some v → Value.okWide Tryd.prog W .any base t v := hval0
  have hW' := hW
  obtain ⟨p, q, hA0, hV0, rfl, hfz, hnd⟩ := hW
  have hA : DataW.TrodAll enc Tryd.prog W 0 (fun _ => true) true Tryd.f7.params.toList args.toList ds p := hA0
  have hV : DataW.TrodVars enc Tryd.prog W (fun _ => true) ["loop.example/g01352/impl.errNoMove"] gs q := hV0
  rw [Tryd.params7] at hA hval
  obtain ⟨v0, vs0, d0, ds0, p0, q0, hargs, rfl, rfl, h0, r0⟩ := trodAll_cons hA
  obtain ⟨v1, vs1, d1, ds1, p1, q1, rfl, rfl, rfl, h1, r1⟩ := trodAll_cons r0
  obtain ⟨rfl, rfl, rfl⟩ := trodAll_nil r1
  obtain rfl : args = #[v0, v1] := by cases args; simp_all
  obtain ⟨pm, hLd, hvar⟩ := laid_of hL
  obtain ⟨rfl, rfl⟩ := hV.unique (vars_read enc hvar trivial _)
  obtain ⟨a0, rfl, rfl, rfl, w0⟩ := open_string Tryd.underlying9 (hval 0 9 v0 rfl rfl) h0
  obtain ⟨a1, len1, cap1, rfl⟩ := okWide_slice Tryd.underlying22 (hval 1 22 v1 rfl rfl)
  have k1 := h1
  have lt1 : ∀ x ∈ p1, x.block < W.heap.size := by obtain ⟨m, hm⟩ := k1; exact DataW.trod_lt m _ _ _ hm
  obtain ⟨z1, w1⟩ : ∃ zs, IsRow .i64 W a1 len1 cap1 zs := by
    obtain ⟨fuel, hf⟩ := h1
    rcases open_ints Tryd.underlying22 Tryd.underlying3 (by kernel_rfl) hf with ⟨hcs, _⟩ | ⟨x, l, c, zs, hcs, _, hl, hm, hz, _, hcell, hwz⟩
    · simp [Value.cells] at hcs
      obtain ⟨rfl, rfl, rfl⟩ := hcs
      exact ⟨[], .inl ⟨rfl, rfl, rfl, rfl⟩⟩
    · simp [Value.cells] at hcs
      obtain ⟨rfl, rfl, rfl⟩ := hcs
      exact ⟨zs, .inr ⟨_, rfl, hl, hm, by simpa using hz, hcell, hwz⟩⟩
  clear hA0 hval0 hV0
  refine (walk a0 a1 len1 cap1 z1 pm w0 W hLd w1).mono fun e W' ⟨he, bel⟩ => ?_
  subst he
  exact ⟨_, rfl, _, _, _, [], _, [.cell 0 0], hW', trodAll_mk1 (shut_bool Tryd.underlying4 _), (trodAll_cons_mk (shut_string Tryd.underlying9 w0) (trodAll_cons_mk (Below.trod laidOut (by kernel_rfl) (of_decide_eq_true (by kernel_rfl)) k1 bel lt1) trodAll_mk0)), vars_read enc (vars_below hvar bel hLd.2.2) trivial _, bel.frame _, fun h => by cases h⟩

theorem over : Rows.fnExactLeapsInRow.holds Tryd.pinned (OpenSpec.ofChange Rows.fnExactLeapsInSpec) :=
  OpenClaim.holds_of_wide 7 Tryd.f7 rfl rfl rfl rfl rfl rfl rfl ⟨rfl, rfl, rfl, rfl, rfl⟩ rfl rfl rfl rfl rfl (by kernel_rfl) Tryd.func7 (by kernel_rfl)
    (of_decide_eq_true (by kernel_rfl)) (by unfold Func.isWrapper; first | (rw [if_pos (by decide +kernel)]; kernel_rfl) | (rw [if_neg (by decide +kernel)]; exact ⟨rfl, rfl⟩))
    (fun os started H enc _ => lifted os started H enc)

theorem proved : Rows.FnExactLeapsInCardSaid :=
  Claim7.holds_tied_plain_at .later [] [.handle, .sentinel] true (true, "8801129da10af3df768fa0346f364176c6c55ef15584b9f30bf877b6c3b21f01") true
    over (fun _ h => by cases h) (by kernel_rfl) (fun _ h => by cases h) fnExactLeapsIn_row_tie rfl ⟨rfl, rfl⟩ (by kernel_rfl) rfl
    (fun f fn hf hfn => by
      obtain rfl : f = 7 := Option.some.inj ((show Tryd.prog.funcNamed "loop.example/g01352/laws.FnExactLeapsIn" = some 7 by kernel_rfl).symm.trans hf) |>.symm
      obtain rfl : fn = Tryd.f7 := (Option.some.inj (Tryd.func7.symm.trans hfn)).symm
      exact ⟨by kernel_rfl, fun j t ht => by
        rw [Tryd.params7] at ht
        have h3 : t = 9 ∨ t = 22 := by
          rcases j with _ | j
          · exact Or.inl (by simpa using ht.symm)
          rcases j with _ | j
          · exact Or.inr ((by simpa using ht.symm))
          simp at ht
        rcases h3 with rfl | rfl
        · exact (show Tryd.prog.wantsStandIn 9 = false by kernel_rfl)
        · exact (show Tryd.prog.wantsStandIn 22 = false by kernel_rfl)
        ⟩)
    (by kernel_rfl)
#print axioms proved
end Go.Proofs.YtlaepnbkkjdpgaaDoor.fnExactLeapsInDone
