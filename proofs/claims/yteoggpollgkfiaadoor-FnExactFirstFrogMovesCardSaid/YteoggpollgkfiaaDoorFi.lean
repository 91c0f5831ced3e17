/- impl.movesLeftTo; FewestFrogMoves, FirstFrogMoves: impl. -/
import Derived.Test.YteoggpollgkfiaaDoorMl
import Derived.Test.YteoggpollgkfiaaDoorFs
namespace Go.Proofs.YteoggpollgkfiaaDoor
set_option linter.unusedVariables false
open Go.RowKit

theorem lMove_zero {B : Int → Int → Bool} {p : ByteArray} {st : LSt} (h : ∀ c, st.2 c = false → st.1 c = 0) (i : Nat) : ∀ c, (lMove B p st i).2 c = false → (lMove B p st i).1 c = 0 := by
  intro c hc
  unfold lMove at hc ⊢
  split at hc
  · rename_i h1
    rw [if_pos h1]
    by_cases e : c = p
    · subst e
      simp [putL] at hc
    · have e1 : (putL st p (st.1 (goes p i) + 1)).2 c = st.2 c := by show (decide (c = p) || st.2 c) = st.2 c; simp [e]
      rw [e1] at hc
      show (if c = p then _ else st.1 c) = 0
      rw [if_neg e]; exact h c hc
  · rename_i h1
    rw [if_neg h1]; exact h c hc
theorem lFold_zero {B : Int → Int → Bool} {p : ByteArray} : ∀ (l : List Nat) (st : LSt), (∀ c, st.2 c = false → st.1 c = 0) → ∀ c, (l.foldl (lMove B p) st).2 c = false → (l.foldl (lMove B p) st).1 c = 0
  | [], _, h => h
  | i :: l, st, h => lFold_zero l _ (lMove_zero h i)
theorem lAll_zero {E : ByteArray → Bool} {B : Int → Int → Bool} : ∀ (L : List ByteArray) (c : ByteArray), (lAll E B L).2 c = false → (lAll E B L).1 c = 0
  | [], _, _ => rfl
  | p :: L, c, hc => by
    have hc2 : (lPond E B p (lAll E B L)).2 c = false := hc
    show (lPond E B p (lAll E B L)).1 c = 0
    unfold lPond at hc2 ⊢
    split at hc2
    · rename_i h1
      rw [if_pos h1]
      by_cases e : c = p
      · subst e
        simp [putL] at hc2
      · have e1 : (putL (lAll E B L) p 0).2 c = (lAll E B L).2 c := by show (decide (c = p) || _) = _; simp [e]
        rw [e1] at hc2
        show (if c = p then _ else (lAll E B L).1 c) = 0
        rw [if_neg e]; exact lAll_zero L c hc2
    · rename_i h1
      rw [if_neg h1]
      exact lFold_zero _ _ (lAll_zero L) c hc2
set_option maxHeartbeats 1000000 in
theorem leftTo (s G : ByteArray) (p : Addr) (w : World) (hps : isPd s = true) (R : List ByteArray) (hR : reach s = R) (hL : Laid w p) :
    Calls Tryd.prog 29 #[.string s, .string G] w fun e w' => ∃ b N, e = .returned (.map (some b)) ∧ IMap w' b N (lAll (isG G) lessI R).1 (lAll (isG G) lessI R).2 ∧ Below w.heap.size w w' := by
  have hb := (Below.refl w.heap.size w).alloc (Nat.le_refl _) (.cells #[.string G] 9)
  have HC := Lib.hid (movesLeftTo s p (w.alloc (.cells #[.string G] 9)) hps R hR (hL.below hb) G w.heap.size (by simp) (by simp))
  have HB := Lib.hid hb
  generalize lAll (isG G) lessI R = st at *
  clear hR hL hb hps
  go_enter Tryd.func29, Tryd.ntmps29
  go_wp2_with (go_at_call 34; refine HC.out.mono ?_; rintro e w' ⟨b, rfl, hbl, ⟨N, hM⟩, hb2⟩)
  go_ret
  exact ⟨b, N, rfl, hM, HB.out.trans (hb2.mono HB.out.size)⟩
theorem told {s G : ByteArray} {R : List ByteArray} (hps : isPd s = true) (hR : reach s = R) : (G ∈ R → (lAll (isG G) lessI R).2 s = true ∧ (lAll (isG G) lessI R).1 s = pot G - pot s) ∧ (¬ G ∈ R → (lAll (isG G) lessI R).2 s = false ∧ (lAll (isG G) lessI R).1 s = 0) := by
  have hri : ∀ q, q ∈ R ↔ ∃ l, runM s l = some q := fun q => by rw [← hR]; exact reach_iff hps
  have hT := lAll_tells (G := G) (chain_of hps hR) s ((hri s).2 ⟨[], rfl⟩)
  refine ⟨fun h => ?_, fun h => ?_⟩
  · have h1 := hT.1.2 ((hri G).1 h)
    exact ⟨h1, hT.2 h1⟩
  · have h1 : (lAll (isG G) lessI R).2 s = false := by
      cases h2 : (lAll (isG G) lessI R).2 s with
      | false => rfl
      | true => exact absurd ((hri G).2 (hT.1.1 h2)) h
    exact ⟨h1, lAll_zero _ _ h1⟩
set_option maxHeartbeats 2000000 in
theorem implFewest (s g : ByteArray) (p : Addr) (w : World) (hs : s.size ≤ 1048576 ∧ g.size ≤ 1048576) (hL : Laid w p) :
    Calls Tryd.prog 9 #[.string s, .string g] w fun e w' => e = .returned (fewV s g) ∧ Below w.heap.size w w' := by
  have hm : s.size ≤ maxLen := by unfold maxLen; omega
  have hm2 : g.size ≤ maxLen := by unfold maxLen; omega
  cases h1 : bothP s g
  · have J := Lib.hid (fewV_no h1)
    have G := Lib.hid h1
    clear h1
    go_enter Tryd.func9, Tryd.ntmps9
    go_wp2_with (go_at_call 28; refine (implBoth _ _ _ hm hm2).mono ?_; rintro e w' ⟨rfl, rfl⟩; rw [G.out])
    go_ret2
    exact ⟨ret_v J.out.symm, Below.refl _ _⟩
  · have G := Lib.hid h1
    have hps := (both_in h1).1
    have j1 := fun h => fewV_in (s := s) (g := g) h1 h
    have j2 := fun h => fewV_out (s := s) (g := g) h
    have HT := Lib.hid (fun (R : List ByteArray) (hR : reach s = R) => told (s := s) (G := g) hps hR)
    obtain ⟨R, hR⟩ : ∃ R, reach s = R := ⟨_, rfl⟩
    have hT := HT.out R hR
    have HC := Lib.hid (leftTo s g p w hps R hR hL)
    rw [hR] at j1 j2
    have HV : Hid (fewV s g = .tuple #[.int .i64 ((lAll (isG g) lessI R).1 s), .bool ((lAll (isG g) lessI R).2 s)]) := Lib.hid (by
      by_cases h : g ∈ R
      · rw [j1 h, (hT.1 h).1, (hT.1 h).2]
      · rw [j2 h, (hT.2 h).1, (hT.2 h).2])
    generalize lAll (isG g) lessI R = st at *
    clear h1 hR hL hT HT j1 j2
    go_enter Tryd.func9, Tryd.ntmps9
    go_wp2_with (first
      | (go_at_call 28; refine (implBoth _ _ _ hm hm2).mono ?_; rintro e w' ⟨rfl, rfl⟩; rw [G.out])
      | (go_at_call 29; refine HC.out.mono ?_; rintro e w1 ⟨b, N, rfl, hM, hb1⟩; have hlk := hM.getok (c := s) hm; have HB := Lib.hid hb1; clear hM hb1))
    go_ret2
    exact ⟨ret_v HV.out.symm, HB.out⟩
set_option maxHeartbeats 2000000 in
theorem implFirst (s g : ByteArray) (p : Addr) (w : World) (hs : s.size ≤ 1048576 ∧ g.size ≤ 1048576) (hL : Laid w p) :
    Calls Tryd.prog 11 #[.string s, .string g] w fun e w' => ∃ v, e = .returned (.tuple #[v, .bool (firB s g)]) ∧ Ints w' w.heap.size v (firL s g) ∧ Below w.heap.size w w' := by
  have hm : s.size ≤ maxLen := by unfold maxLen; omega
  have hm2 : g.size ≤ maxLen := by unfold maxLen; omega
  cases h1 : bothP s g
  · have J := Lib.hid (firB_no h1)
    have G := Lib.hid h1
    clear h1
    go_enter Tryd.func11, Tryd.ntmps11
    go_wp2_with (go_at_call 28; refine (implBoth _ _ _ hm hm2).mono ?_; rintro e w' ⟨rfl, rfl⟩; rw [G.out])
    go_ret2
    exact ⟨_, by rw [J.out.1]; rfl, by rw [J.out.2]; exact World.ownsRow_nil _ _ _ _, Below.refl _ _⟩
  · have G := Lib.hid h1
    have hps := (both_in h1).1
    have j1 := fun h => firB_in (s := s) (g := g) h1 h
    have j2 := fun h => firB_out (s := s) (g := g) h
    have HT := Lib.hid (fun (R : List ByteArray) (hR : reach s = R) => told (s := s) (G := g) hps hR)
    obtain ⟨R, hR⟩ : ∃ R, reach s = R := ⟨_, rfl⟩
    obtain ⟨T, hT0⟩ : ∃ T, reachT s = T := ⟨_, rfl⟩
    have hT := HT.out R hR
    have hri : ∀ q, q ∈ R ↔ ∃ l, runM s l = some q := fun q => by rw [← hR]; exact reach_iff hps
    have hFI := fun (h : g ∈ R) (m : Nat) (hm : (m : Int) = pot g - pot s) => first_is hps hR hT0 h hm
    have HC := Lib.hid (leftTo s g p w hps R hR hL)
    rw [hR] at j1 j2
    rw [hT0] at j1
    have HL := Lib.hid hL
    by_cases h : g ∈ R
    · obtain ⟨l, hl⟩ := (hri g).1 h
      have hpo := (runM_pot hps hl).2.2
      have hp0 := pot_bd hps
      have hp1 := pot_bd (both_in h1).2
      have HI := Lib.hid (hFI h l.length (by omega))
      have J := Lib.hid (j1 h)
      have HFA := Lib.hid (fun b N w1 (h1 : Laid w1 p) (h2 : IMap w1 b N (lAll (isG g) lessI R).1 (lAll (isG g) lessI R).2) => firstAlong s b N _ _ l.length p w1 hps h1 h2 (by rw [(hT.1 h).2]; omega) (by omega))
      have hg := (hT.1 h).1
      generalize lAll (isG g) lessI R = st at *
      clear h1 hR hL hT HT j1 j2 hri hFI hl hpo hp0 hp1 h hT0
      go_enter Tryd.func11, Tryd.ntmps11
      go_wp2_with (first
        | (go_at_call 28; refine (implBoth _ _ _ hm hm2).mono ?_; rintro e w' ⟨rfl, rfl⟩; rw [G.out])
        | (go_at_call 29; refine HC.out.mono ?_; rintro e w1 ⟨b, N, rfl, hM, hb1⟩; have hlk := hM.getok (c := s) hm; rw [hg] at hlk; have HM := Lib.hid hM; have HB := Lib.hid hb1; clear hM hb1)
        | (go_at_call 30; refine (HFA.out _ N _ (HL.out.below HB.out) HM.out).mono ?_; rintro e w2 ⟨v, rfl, hI, hb2⟩; have HI2 := Lib.hid hI; have HB2 := Lib.hid hb2; clear hI hb2))
      go_ret2
      exact ⟨_, by rw [J.out.1]; rfl, by rw [J.out.2, ← HI.out]; exact ints_mono' HI2.out HB.out.size, HB.out.trans (HB2.out.mono HB.out.size)⟩
    · have J := Lib.hid (j2 h)
      have hg := (hT.2 h).1
      generalize lAll (isG g) lessI R = st at *
      clear h1 hR hL hT HT j1 j2 hri hFI h hT0
      go_enter Tryd.func11, Tryd.ntmps11
      go_wp2_with (first
        | (go_at_call 28; refine (implBoth _ _ _ hm hm2).mono ?_; rintro e w' ⟨rfl, rfl⟩; rw [G.out])
        | (go_at_call 29; refine HC.out.mono ?_; rintro e w1 ⟨b, N, rfl, hM, hb1⟩; have hlk := hM.getok (c := s) hm; rw [hg] at hlk; have HB := Lib.hid hb1; clear hM hb1))
      go_ret2
      exact ⟨_, by rw [J.out.1]; rfl, by rw [J.out.2]; exact World.ownsRow_nil _ _ _ _, HB.out⟩
theorem firL_len (s g : ByteArray) : (firL s g).length ≤ 200 := by
  unfold firL
  split
  · rename_i h
    unfold firB at h
    rw [Bool.and_eq_true] at h
    have hps := (both_in h.1).1
    have hg := (both_in h.1).2
    have hm := memB_iff.1 h.2
    have hv := reachT_inv s
    obtain ⟨R, hR⟩ : ∃ R, reach s = R := ⟨_, rfl⟩
    obtain ⟨T, hT0⟩ : ∃ T, reachT s = T := ⟨_, rfl⟩
    rw [hR, hT0] at hv
    rw [hR] at hm ⊢
    rw [hT0]
    have hl := hv.wl_len hps (idxL_mem.2 hm)
    rw [idxL_get hm] at hl
    have h1 := pot_bd hps
    have h2 := pot_bd hg
    rw [asI_len]
    omega
  · simp
end Go.Proofs.YteoggpollgkfiaaDoor
