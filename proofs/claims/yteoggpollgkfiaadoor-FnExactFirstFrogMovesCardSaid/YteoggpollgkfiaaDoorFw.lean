/- FewestFrogMoves and FirstFrogMoves, spec. -/
import Derived.Test.YteoggpollgkfiaaDoorInv
import Derived.Test.YteoggpollgkfiaaDoorCw
namespace Go.Proofs.YteoggpollgkfiaaDoor
set_option linter.unusedVariables false
open Go.RowKit

def fewV (s g : ByteArray) : Value := if bothP s g && memB (reach s) g then .tuple #[.int .i64 (pot g - pot s), .bool true] else .tuple #[.int .i64 0, .bool false]
theorem fewV_no {s g : ByteArray} (h : bothP s g = false) : fewV s g = .tuple #[.int .i64 0, .bool false] := by simp [fewV, h]
theorem fewV_out {s g : ByteArray} (h2 : ¬ g ∈ reach s) : fewV s g = .tuple #[.int .i64 0, .bool false] := by
  unfold fewV; rw [memB_no h2, Bool.and_false]; rfl
theorem fewV_in {s g : ByteArray} (h : bothP s g = true) (h2 : g ∈ reach s) : fewV s g = .tuple #[.int .i64 (pot g - pot s), .bool true] := by
  unfold fewV; rw [memB_iff.2 h2, h]; rfl
theorem fewV_form (s g : ByteArray) : ∃ x y, fewV s g = .tuple #[.int .i64 x, .bool y] := by unfold fewV; split <;> exact ⟨_, _, rfl⟩
theorem specReachF (s : ByteArray) (w : World) (L : List ByteArray) (T : T3) (hp : isPd s = true) (hL : reach s = L) (hT : reachT s = T) :
    Calls Tryd.prog 25 #[.string s] w fun e w' => ∃ v6 v7 v8 v9, e = .returned (.tuple #[v6, v7, v8, v9]) ∧ Strg w' w.heap.size v6 L ∧ Ints w' w.heap.size v7 T.1 ∧ Ints w' w.heap.size v8 T.2.1 ∧ Below w.heap.size w w' := by
  subst hL
  subst hT
  exact (specReach s w hp).mono fun e w' ⟨v6, v7, v8, v9, he, h1, h2, h3, h4, h5⟩ => ⟨v6, v7, v8, v9, he, h1, h2, h3, h5⟩

set_option maxHeartbeats 2000000 in
set_option maxRecDepth 100000 in
theorem specFewest (s g : ByteArray) (w : World) (hs : s.size ≤ 1048576 ∧ g.size ≤ 1048576) :
    Calls Tryd.prog 8 #[.string s, .string g] w fun e w' => e = .returned (fewV s g) ∧ Below w.heap.size w w' := by
  have hm : s.size ≤ maxLen := by unfold maxLen; omega
  have hm2 : g.size ≤ maxLen := by unfold maxLen; omega
  cases h1 : bothP s g
  · have J := Lib.hid (fewV_no h1)
    have G := Lib.hid h1
    clear h1
    go_enter Tryd.func8, Tryd.ntmps8
    go_wp2_with (go_at_call 24; refine (specBoth _ _ _ hm hm2).mono ?_; rintro e w' ⟨rfl, rfl⟩; rw [G.out])
    go_ret2
    exact ⟨ret_v J.out.symm, Below.refl _ _⟩
  · have G := Lib.hid h1
    have hps := (both_in h1).1
    have hp := reach_pos s
    have hl := reach_len hps
    have hinv := reachT_inv s
    have j1 := fun h => fewV_in (s := s) (g := g) h1 h
    have j2 := fun h => fewV_out (s := s) (g := g) h
    obtain ⟨L, hL⟩ : ∃ L, reach s = L := ⟨_, rfl⟩
    obtain ⟨T, hT⟩ : ∃ T, reachT s = T := ⟨_, rfl⟩
    rw [hL] at hp hl hinv j1 j2
    rw [hT] at hinv
    have HP := Lib.hid (fun wx => specReachF s wx L T hps hL hT)
    have HA := Lib.hid (fun B v w h => specAt B v L g w h hp (by omega))
    clear h1 hL hT
    have l1 : T.1.length = L.length := hinv.1.1
    have l2 : T.2.1.length = L.length := hinv.1.2.1
    by_cases hmem : g ∈ L
    · have hi := idxL_mem.2 hmem
      have hwl := hinv.way_len hps hi
      rw [idxL_get hmem] at hwl
      have J := Lib.hid (j1 hmem)
      have AT := Lib.hid (atI_in hmem)
      have HW := Lib.hid (fun B v7 v8 k wx h7 h8 hk => specWay B v7 v8 T.1 T.2.1 k wx h7 h8 hk (by omega) hinv.less (by omega))
      clear j1 j2 hmem hps hinv
      generalize idxL L g = ix at *
      have hix : ix < T.1.length := by omega
      generalize pot g - pot s = d at *
      have HWL := Lib.hid hwl
      clear hwl
      go_enter Tryd.func8, Tryd.ntmps8
      go_wp2_with (first
        | (go_at_call 24; refine (specBoth _ _ _ hm hm2).mono ?_; rintro e w' ⟨rfl, rfl⟩; rw [G.out])
        | (go_at_call 25; refine (HP.out _).mono ?_; rintro e w1 ⟨v6, v7, v8, v9, rfl, hS, h7, h8, hb1⟩; have HS := Lib.hid hS; have H7 := Lib.hid h7; have H8 := Lib.hid h8; have HB := Lib.hid hb1; have hle1 := hb1.size; clear hb1 hS h7 h8)
        | (go_at_call 26; (with_reducible refine (HA.out _ _ _ HS.out).mono ?_); rintro e w' ⟨rfl, rfl⟩; rw [AT.out])
        | (go_at_call 27; (with_reducible refine (HW.out _ _ _ ix _ H7.out H8.out hix).mono ?_); rintro e w2 ⟨v, rfl, hI, hb2⟩; (obtain ⟨a', n', cap', rfl, hn'⟩ := hI.any); have HN := Lib.hid hn'; have HB2 := Lib.hid (HB.out.trans (hb2.mono hle1)); clear hI hb2 hn'))
      go_ret2
      exact ⟨ret_v (by rw [J.out, ← HWL.out, ← HN.out]; rfl), HB2.out⟩
    · have J := Lib.hid (j2 hmem)
      have AT := Lib.hid (atI_out hmem)
      clear j1 j2 hmem hps hinv
      go_enter Tryd.func8, Tryd.ntmps8
      go_wp2_with (first
        | (go_at_call 24; refine (specBoth _ _ _ hm hm2).mono ?_; rintro e w' ⟨rfl, rfl⟩; rw [G.out])
        | (go_at_call 25; refine (HP.out _).mono ?_; rintro e w1 ⟨v6, v7, v8, v9, rfl, hS, _, _, hb1⟩; have HS := Lib.hid hS; have HB := Lib.hid hb1; clear hb1 hS)
        | (go_at_call 26; (with_reducible refine (HA.out _ _ _ HS.out).mono ?_); rintro e w' ⟨rfl, rfl⟩; rw [AT.out]))
      go_ret2
      exact ⟨ret_v (by rw [J.out]; rfl), HB.out⟩
end Go.Proofs.YteoggpollgkfiaaDoor
