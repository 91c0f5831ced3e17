/- Lists of parts of lists: a part reads its block's first cells; marking them. -/
import Derived.Test.YtfkdkhoihlkgcabRws
namespace Go.Proofs.Ytfkdkhoihlkgcab
set_option linter.unusedVariables false
open Go.RowKit

/-- the slice v of the call's own holds zs in the first cells of a block, that may be longer -/
def IntV (w : World) (B : Nat) (v : Value) (zs : List Int) : Prop :=
  ∃ g cap cur, v = .slice (some ⟨g, 0, none⟩) zs.length cap ∧ B ≤ g ∧ w.heap[g]? = some (.cells cur 3 (0, 0)) ∧ zs.length ≤ cap ∧ cap ≤ maxLen ∧ zs.length ≤ cur.size ∧ ∀ j, j < zs.length → cur[j]? = some (.int .i64 (gt zs j))
theorem IntV.below {w w' : World} {B : Nat} {v : Value} {zs : List Int} (h : IntV w B v zs) (hb : Below w.heap.size w w') : IntV w' B v zs := by
  obtain ⟨g, cap, cur, e, h1, h2, r⟩ := h
  exact ⟨g, cap, cur, e, h1, (hb.block g (Array.getElem?_eq_some_iff.1 h2).1).trans h2, r⟩
theorem IntV.mono {w : World} {B B' : Nat} {v : Value} {zs : List Int} (h : IntV w B' v zs) (hB : B ≤ B') : IntV w B v zs := by
  obtain ⟨g, cap, cur, e, h1, r⟩ := h
  exact ⟨g, cap, cur, e, Nat.le_trans hB h1, r⟩
theorem IntV.lt {w : World} {B : Nat} {v : Value} {zs : List Int} (h : IntV w B v zs) : ∀ k, v.ownBlock = some k → B ≤ k ∧ k < w.heap.size := by
  obtain ⟨g, cap, cur, rfl, h1, h2, r⟩ := h
  intro k hk
  have e : g = k := by simpa [Value.ownBlock] using hk
  subst e
  exact ⟨h1, (Array.getElem?_eq_some_iff.1 h2).1⟩
theorem IntV.row {w : World} {B : Nat} {v : Value} {zs : List Int} (h : IntV w B v zs) {k : Nat} (hk : v.ownBlock = some k) : ∃ cs fr, w.heap[k]? = some (.cells cs 3 fr) := by
  obtain ⟨g, cap, cur, rfl, h1, h2, r⟩ := h
  have e : g = k := by simpa [Value.ownBlock] using hk
  subst e
  exact ⟨_, _, h2⟩
theorem IntV.kept {w w' : World} {B : Nat} {v : Value} {zs : List Int} {row : Option Nat} (h : IntV w B v zs) (hg : w.grownBy w' row) (hr : v.ownBlock = none ∨ v.ownBlock ≠ row) : IntV w' B v zs := by
  obtain ⟨g, cap, cur, rfl, h1, h2, r⟩ := h
  refine ⟨g, cap, cur, rfl, h1, (hg.block g (Array.getElem?_eq_some_iff.1 h2).1 ?_).trans h2, r⟩
  rcases hr with e | e
  · cases e
  · exact e
theorem IntV.rd {w : World} {B : Nat} {v : Value} {zs : List Int} (h : IntV w B v zs) : Rd w v zs := by
  obtain ⟨g, cap, cur, rfl, h1, h2, h3, h4, h5, h6⟩ := h
  refine .inr ⟨g, 0, cap, rfl, (Array.getElem?_eq_some_iff.1 h2).1, h3, h4, fun j hj => ?_⟩
  have h7 : Blk w g cur := ⟨_, h2⟩
  rw [Nat.zero_add, h7.cell j]
  exact h6 j hj
theorem IntV.of {w : World} {B : Nat} {v : Value} {zs : List Int} (h : Ints w B v zs) (hne : zs ≠ []) : IntV w B v zs := by
  rcases h.2 with ⟨rfl, h0⟩ | ⟨g, cap, cur, rfl, hb, hg, hnc, hcm, hcs, ht⟩
  · exact absurd (List.length_eq_zero_iff.1 h0) hne
  · refine ⟨g, cap, cur, rfl, hb, hg, hnc, hcm, by omega, fun j hj => ?_⟩
    have h7 : Blk w g cur := ⟨_, hg⟩
    rw [← h7.cell j]
    rcases h.rd with ⟨_, h8⟩ | ⟨b, off, cap', e, _, _, _, hc⟩
    · exact absurd h8 hne
    · injection e with e1 e2 e3
      injection e1 with e1
      injection e1 with e1 e4
      subst e1
      have := hc j hj
      rwa [← e4, Nat.zero_add] at this
/-- the first two of it -/
theorem IntV.part {w : World} {B : Nat} {v : Value} {a b c : Int} (h : IntV w B v [a, b, c]) : ∃ g cap, v = .slice (some ⟨g, 0, none⟩) 3 cap ∧ 3 ≤ cap ∧ IntV w B (.slice (some ⟨g, 0, none⟩) 2 2) [a, b] := by
  obtain ⟨g, cap, cur, rfl, h1, h2, h3, h4, h5, h6⟩ := h
  refine ⟨g, cap, rfl, h3, g, 2, cur, rfl, h1, h2, Nat.le_refl _, by unfold maxLen; omega, by simp at h5 ⊢; omega, fun j hj => ?_⟩
  have h01 : j = 0 ∨ j = 1 := by simp at hj; omega
  rcases h01 with rfl | rfl
  · exact h6 0 (by simp)
  · exact h6 1 (by simp)
set_option maxHeartbeats 1000000 in
theorem markIntV (v : Value) (zs : List Int) (B : Nat) (w : World) (h : IntV w B v zs) (hn : zs.length ≤ 16777216) (k : Int) (h0 : 0 ≤ k) (h1 : k ≤ 1000000000) :
    Calls Try.prog 40 #[v, .int .i64 k] w fun e w' => e = .returned (.int .i64 (k + zs.length)) ∧ IntV w' B v (marks k zs.length) ∧ w.grownBy w' v.ownBlock := by
  obtain ⟨g, cap, cur, rfl, hb, hg, hnc, hcm, hcs, hcell⟩ := h
  generalize zs.length = n at *
  clear hcell
  have H0 := Lib.hid (show ∃ cur' : Array Value, w.heap[g]? = some (.cells cur' 3 (0, 0)) ∧ n ≤ cur'.size ∧ ∀ t, t < 0 → cur'[t]? = some (.int .i64 (k + (t : Nat))) from ⟨cur, hg, hcs, fun t ht => absurd ht (Nat.not_lt_zero _)⟩)
  clear hg hcs
  unfold maxLen at hcm
  go_enter Try.func40, Try.ntmps40
  go_wp2
  go_loopw [1, 5] (fun q i wr => ∃ j : Nat, j ≤ n ∧ i = .int .i64 j ∧ q = .int .i64 (k + j) ∧ Hid (∃ cur' : Array Value, wr.heap[g]? = some (.cells cur' 3 (0, 0)) ∧ n ≤ cur'.size ∧ ∀ t, t < j → cur'[t]? = some (.int .i64 (k + (t : Nat)))) ∧ Hid (w.grownBy wr (some g))) (fun _ i _ => n - (intOf i).toNat)
  case atStart => exact ⟨0, Nat.zero_le _, rfl, by simp, H0, Lib.hid (World.grownBy.refl _ _)⟩
  case round =>
    clear H0
    obtain ⟨j, hj, rfl, rfl, HS, HG⟩ := hrel
    by_cases hlt : j < n
    · obtain ⟨cur', hc1, hc2, hc3⟩ := HS.out
      have hbk : Blk wr g cur' := ⟨_, hc1⟩
      have hj' : j < cur'.size := by omega
      have hx := (hbk.cell j).trans (Array.getElem?_eq_getElem hj')
      have hf := hbk.fr j
      have hlt' : (j : Int) < n := by omega
      have NX := Lib.hid (show ∃ cur2 : Array Value, (wr.setCell ⟨g, j, none⟩ (.int .i64 (k + j))).heap[g]? = some (.cells cur2 3 (0, 0)) ∧ n ≤ cur2.size ∧ ∀ t, t < j + 1 → cur2[t]? = some (.int .i64 (k + (t : Nat))) from by
        refine ⟨_, heap_setCell_same wr g j cur' 3 (.int .i64 (k + j)) hc1, by simpa using hc2, fun t ht => ?_⟩
        by_cases e : t = j
        · subst e; simp [hj']
        · rw [Array.getElem?_setIfInBounds_ne (fun h => e h.symm)]; exact hc3 t (by omega))
      have NG := Lib.hid (HG.out.trans (show wr.grownBy (wr.setCell ⟨g, j, none⟩ (.int .i64 (k + j))) (some g) from ⟨rfl, rfl, rfl, by simp [World.setCell], fun k2 _ hk => Below.heap_setCell _ _ _ k2 (fun e => hk (by rw [e]))⟩))
      clear hc1 hc2 hc3 hbk HS HG
      go_wp2
      go_roundw
      case rel => exact ⟨j + 1, by omega, by go_num, by go_num, NX, NG⟩
      case measure => simp [intOf]; omega
    · obtain rfl : j = n := by omega
      go_wp2
      go_ret
      obtain ⟨cur', hc1, hc2, hc3⟩ := HS.out
      refine ⟨rfl, ⟨g, cap, cur', by rw [marks_len], hb, hc1, by rw [marks_len]; exact hnc, by unfold maxLen; omega, by rw [marks_len]; exact hc2, fun t ht => ?_⟩, HG.out⟩
      rw [marks_len] at ht
      rw [marks_at k _ t ht]
      exact hc3 t ht
end Go.Proofs.Ytfkdkhoihlkgcab
