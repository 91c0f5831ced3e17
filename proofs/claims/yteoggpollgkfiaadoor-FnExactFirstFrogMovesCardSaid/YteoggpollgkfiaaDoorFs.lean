/- FirstFrogMoves, spec. -/
import Derived.Test.YteoggpollgkfiaaDoorFw
import Derived.Test.YteoggpollgkfiaaDoorLft
namespace Go.Proofs.YteoggpollgkfiaaDoor
set_option linter.unusedVariables false
open Go.RowKit

def firB (s g : ByteArray) : Bool := bothP s g && memB (reach s) g
def firL (s g : ByteArray) : List Int := if firB s g = true then asI (wl (reachT s) (idxL (reach s) g)) else []
theorem firB_no {s g : ByteArray} (h : bothP s g = false) : firB s g = false ∧ firL s g = [] := by
  have : firB s g = false := by unfold firB; rw [h]; rfl
  exact ⟨this, by unfold firL; rw [this]; rfl⟩
theorem firB_out {s g : ByteArray} (h : ¬ g ∈ reach s) : firB s g = false ∧ firL s g = [] := by
  have : firB s g = false := by unfold firB; rw [memB_no h, Bool.and_false]
  exact ⟨this, by unfold firL; rw [this]; rfl⟩
theorem firB_in {s g : ByteArray} (h : bothP s g = true) (h2 : g ∈ reach s) : firB s g = true ∧ firL s g = asI (wl (reachT s) (idxL (reach s) g)) := by
  have : firB s g = true := by unfold firB; rw [memB_iff.2 h2, h]; rfl
  exact ⟨this, by unfold firL; rw [if_pos this]⟩

set_option maxHeartbeats 2000000 in
set_option maxRecDepth 100000 in
theorem specFirst (s g : ByteArray) (w : World) (hs : s.size ≤ 1048576 ∧ g.size ≤ 1048576) :
    Calls Tryd.prog 10 #[.string s, .string g] w fun e w' => ∃ v, e = .returned (.tuple #[v, .bool (firB s g)]) ∧ Ints w' w.heap.size v (firL s g) ∧ Below w.heap.size w w' := by
  have hm : s.size ≤ maxLen := by unfold maxLen; omega
  have hm2 : g.size ≤ maxLen := by unfold maxLen; omega
  cases h1 : bothP s g
  · have J := Lib.hid (firB_no h1)
    have G := Lib.hid h1
    clear h1
    go_enter Tryd.func10, Tryd.ntmps10
    go_wp2_with (go_at_call 24; refine (specBoth _ _ _ hm hm2).mono ?_; rintro e w' ⟨rfl, rfl⟩; rw [G.out])
    go_ret2
    exact ⟨_, ret_w (by rw [J.out.1]; rfl), by rw [J.out.2]; exact World.ownsRow_nil _ _ _ _, Below.refl _ _⟩
  · have G := Lib.hid h1
    have hps := (both_in h1).1
    have hp := reach_pos s
    have hl := reach_len hps
    have hinv := reachT_inv s
    have j1 := fun h => firB_in (s := s) (g := g) h1 h
    have j2 := fun h => firB_out (s := s) (g := g) h
    obtain ⟨L, hL⟩ : ∃ L, reach s = L := ⟨_, rfl⟩
    obtain ⟨T, hT⟩ : ∃ T, reachT s = T := ⟨_, rfl⟩
    rw [hL] at hp hl hinv j1 j2
    rw [hT] at hinv j1
    have HP := Lib.hid (fun wx => specReachF s wx L T hps hL hT)
    have HA := Lib.hid (fun B v w h => specAt B v L g w h hp (by omega))
    clear h1 hL hT
    have l1 : T.1.length = L.length := hinv.1.1
    have l2 : T.2.1.length = L.length := hinv.1.2.1
    by_cases hmem : g ∈ L
    · have hi := idxL_mem.2 hmem
      have hwl := (hinv.wl hi).1
      have J := Lib.hid (j1 hmem)
      have AT := Lib.hid (atI_in hmem)
      have HW := Lib.hid (fun B v7 v8 k wx h7 h8 hk => specWay B v7 v8 T.1 T.2.1 k wx h7 h8 hk (by omega) hinv.less (by omega))
      clear j1 j2 hmem hps hinv
      generalize idxL L g = ix at *
      have hix : ix < T.1.length := by omega
      have HWL := Lib.hid hwl
      clear hwl
      go_enter Tryd.func10, Tryd.ntmps10
      go_wp2_with (first
        | (go_at_call 24; refine (specBoth _ _ _ hm hm2).mono ?_; rintro e w' ⟨rfl, rfl⟩; rw [G.out])
        | (go_at_call 25; refine (HP.out _).mono ?_; rintro e w1 ⟨v6, v7, v8, v9, rfl, hS, h7, h8, hb1⟩; have HS := Lib.hid hS; have H7 := Lib.hid h7; have H8 := Lib.hid h8; have HB := Lib.hid hb1; have hle1 := hb1.size; clear hb1 hS h7 h8)
        | (go_at_call 26; (with_reducible refine (HA.out _ _ _ HS.out).mono ?_); rintro e w' ⟨rfl, rfl⟩; rw [AT.out])
        | (go_at_call 27; (with_reducible refine (HW.out _ _ _ ix _ H7.out H8.out hix).mono ?_); rintro e w2 ⟨v, rfl, hI, hb2⟩; have HI := Lib.hid hI; have HB2 := Lib.hid (HB.out.trans (hb2.mono hle1)); clear hI hb2))
      go_ret2
      exact ⟨_, ret_w (by rw [J.out.1]; rfl), by rw [J.out.2, ← HWL.out]; exact ints_mono' HI.out hle1, HB2.out⟩
    · have J := Lib.hid (j2 hmem)
      have AT := Lib.hid (atI_out hmem)
      clear j1 j2 hmem hps hinv
      go_enter Tryd.func10, Tryd.ntmps10
      go_wp2_with (first
        | (go_at_call 24; refine (specBoth _ _ _ hm hm2).mono ?_; rintro e w' ⟨rfl, rfl⟩; rw [G.out])
        | (go_at_call 25; refine (HP.out _).mono ?_; rintro e w1 ⟨v6, v7, v8, v9, rfl, hS, _, _, hb1⟩; have HS := Lib.hid hS; have HB := Lib.hid hb1; clear hb1 hS)
        | (go_at_call 26; (with_reducible refine (HA.out _ _ _ HS.out).mono ?_); rintro e w' ⟨rfl, rfl⟩; rw [AT.out]))
      go_ret2
      exact ⟨_, ret_w (by rw [J.out.1]; rfl), by rw [J.out.2]; exact World.ownsRow_nil _ _ _ _, HB.out⟩
end Go.Proofs.YteoggpollgkfiaaDoor
