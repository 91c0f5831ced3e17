/- Lists of parts of lists that a call has made: what they read as; laws.markIntSS. -/
import Derived.Test.YtfkdkhoihlkgcabVw
namespace Go.Proofs.Ytfkdkhoihlkgcab
set_option linter.unusedVariables false
open Go.RowKit

theorem rowV_ne {w : World} {B B' n : Nat} {v u : Value} {us : List Value} {zs : List Int} (h : w.ownsRow B 41 1 v n us) (hI : IntV w B' u zs) : u.ownBlock = none ∨ u.ownBlock ≠ v.ownBlock := by
  right
  obtain ⟨g', cap', cur', rfl, hb', hg', _⟩ := hI
  rcases h.2 with ⟨rfl, _⟩ | ⟨g, cap, cur, rfl, hb, hg, _⟩
  · intro e; cases e
  intro e
  have e2 : g' = g := by simpa [Value.ownBlock] using e
  subst e2
  rw [hg] at hg'
  injection hg' with hg'
  injection hg' with _ h5
  exact absurd h5 (by decide)
theorem rowV_ne' {w : World} {B B' n : Nat} {v u : Value} {us : List Value} {zs : List Int} (h : w.ownsRow B 41 1 v n us) (hI : IntV w B' u zs) : v.ownBlock = none ∨ v.ownBlock ≠ u.ownBlock := by
  rcases rowV_ne h hI with e | e
  · cases hv : v.ownBlock with
    | none => exact .inl rfl
    | some k => right; rw [e]; simp
  · exact .inr fun e2 => e e2.symm
def LsV (w : World) (B : Nat) (v : Value) (zss : List (List Int)) (us : List Value) : Prop :=
  w.ownsRow B 41 1 v zss.length us ∧ (∀ j, j < zss.length → IntV w B (gu us j) (gl zss j)) ∧ ∀ i j k, i < j → j < zss.length → (gu us i).ownBlock = some k → (gu us j).ownBlock ≠ some k
theorem LsV.len {w : World} {B : Nat} {v : Value} {zss : List (List Int)} {us : List Value} (h : LsV w B v zss us) : us.length = zss.length := by have := h.1.1; omega
theorem LsV.below {w w' : World} {B : Nat} {v : Value} {zss : List (List Int)} {us : List Value} (h : LsV w B v zss us) (hb : Below w.heap.size w w') : LsV w' B v zss us :=
  ⟨rowS_below h.1 hb, fun j hj => (h.2.1 j hj).below hb, h.2.2⟩
theorem LsV.mono {w : World} {B B' : Nat} {v : Value} {zss : List (List Int)} {us : List Value} (h : LsV w B' v zss us) (hB : B ≤ B') : LsV w B v zss us := by
  refine ⟨⟨h.1.1, ?_⟩, fun j hj => IntV.mono (h.2.1 j hj) hB, h.2.2⟩
  rcases h.1.2 with h2 | ⟨g, cap, cur, e, h1, r⟩
  · exact .inl h2
  · exact .inr ⟨g, cap, cur, e, Nat.le_trans hB h1, r⟩
theorem LsV.form {w : World} {B : Nat} {v : Value} {zss : List (List Int)} {us : List Value} (h : LsV w B v zss us) : ∃ a c, v = .slice a zss.length c := by
  rcases h.1.2 with ⟨rfl, h0⟩ | ⟨g, cap, cur, rfl, _⟩
  · exact ⟨_, _, by rw [h0]⟩
  · exact ⟨_, _, rfl⟩
theorem LsV.at {w : World} {B : Nat} {v : Value} {zss : List (List Int)} {us : List Value} (h : LsV w B v zss us) {j : Nat} (hj : j < zss.length) :
    ∃ g c, v = .slice (some ⟨g, 0, none⟩) zss.length c ∧ B ≤ g ∧ g < w.heap.size ∧ w.cell? ⟨g, j, none⟩ = some (gu us j) := by
  have h' := h.1
  rcases h'.2 with ⟨rfl, h0⟩ | ⟨g, cap, cur, rfl, hb, hg, _⟩
  · omega
  · refine ⟨g, cap, rfl, hb, (Array.getElem?_eq_some_iff.1 hg).1, ?_⟩
    rw [World.ownsRow.cellAt h' j (by omega)]
    exact gu_at (by rw [h.len]; exact hj)
theorem LsV.rd {w : World} {B : Nat} {v : Value} {zss : List (List Int)} {us : List Value} (h : LsV w B v zss us) : RdS w v zss := by
  have h' := h.1
  have hn : zss.length ≤ maxLen := by
    rcases h'.2 with ⟨_, h0⟩ | ⟨g, cap, cur, _, _, _, hc, hm, _⟩
    · rw [h0]; unfold maxLen; omega
    · exact Nat.le_trans hc hm
  obtain ⟨a, c, hv⟩ := h.form
  refine ⟨a, _, c, hv, rfl, hn, fun j hj => ?_⟩
  obtain ⟨g, c', hv2, _, hg, hc⟩ := h.at hj
  rw [hv] at hv2
  injection hv2 with e1 _ _
  exact ⟨g, gu us j, e1, hg, hc, (h.2.1 j hj).rd⟩
theorem LsV.blk {w : World} {B : Nat} {v : Value} {zss : List (List Int)} {us : List Value} (h : LsV w B v zss us) {j k : Nat} (hj : j < zss.length) (hk : (gu us j).ownBlock = some k) : B ≤ k ∧ k < w.heap.size := IntV.lt (h.2.1 j hj) k hk
theorem LsV.set {w w' : World} {B : Nat} {v : Value} {zss : List (List Int)} {us : List Value} (h : LsV w B v zss us) {j : Nat} (hj : j < zss.length) {zs : List Int} (hI : IntV w' B (gu us j) zs) (hg : w.grownBy w' (gu us j).ownBlock) : LsV w' B v (zss.set j zs) us := by
  refine ⟨?_, fun i hi => ?_, fun i i' k hii hi hk => h.2.2 i i' k hii (by simpa using hi) hk⟩
  · rw [List.length_set]
    exact World.ownsRow.kept h.1 hg (rowV_ne' h.1 (h.2.1 j hj))
  · have hi' : i < zss.length := by simpa using hi
    by_cases e : i = j
    · subst e
      have : gl (zss.set i zs) i = zs := by simp [gl, hi']
      rw [this]; exact hI
    · have : gl (zss.set j zs) i = gl zss i := by
        have e2 : j ≠ i := fun h => e h.symm
        simp [gl, e2]
      rw [this]
      refine (h.2.1 i hi').kept hg ?_
      cases hk : (gu us i).ownBlock with
      | none => exact .inl rfl
      | some k =>
        refine .inr fun e3 => ?_
        rcases Nat.lt_or_gt_of_ne e with h1 | h1
        · exact h.2.2 i j k h1 hj hk e3.symm
        · exact h.2.2 j i k h1 hi' e3.symm hk
set_option maxHeartbeats 1000000 in
theorem markIntVV (v : Value) (zss : List (List Int)) (us : List Value) (B : Nat) (w : World) (h : LsV w B v zss us) (hB : B ≤ w.heap.size) (hn : zss.length ≤ 100000) (hl : ∀ j, (gl zss j).length ≤ 1000) (ht : totS zss ≤ 1000000) :
    Calls Try.prog 21 #[v, .int .i64 1] w fun e w' => e = .returned (.int .i64 (1 + totS zss)) ∧ LsV w' B v (marksS 1 zss) us ∧ Below B w w' := by
  obtain ⟨a, c, hv⟩ := h.form
  obtain ⟨n, hnz⟩ : ∃ n, n = zss.length := ⟨_, rfl⟩
  rw [← hnz] at hv hn
  have H := Lib.hid h
  have HL := Lib.hid hl
  have HT := Lib.hid ht
  have HV := Lib.hid hv
  have HN := Lib.hid hnz
  have HB0 := Lib.hid hB
  have H0 : Hid (LsV w B v (halfS 1 zss 0) us) := Lib.hid (by rw [halfS_zero]; exact h)
  subst hv
  clear h hl ht hnz hB
  go_enter Try.func21, Try.ntmps21
  go_wp2
  go_loopw [1, 5] (fun q i wr => ∃ j : Nat, j ≤ n ∧ i = .int .i64 j ∧ q = .int .i64 (1 + (totS (zss.take j) : Int)) ∧ Hid (LsV wr B (.slice a n c) (halfS 1 zss j) us) ∧ Hid (Below B w wr)) (fun _ i _ => n - (intOf i).toNat)
  case atStart => exact ⟨0, Nat.zero_le _, rfl, by simp [totS], H0, Lib.hid (Below.refl _ _)⟩
  case round =>
    clear H0
    obtain ⟨j, hj, rfl, rfl, HS, HBw⟩ := hrel
    have htb := totS_le zss j
    have htb2 := HT.out
    have hsz := HBw.out.size
    by_cases hlt : j < n
    · have hjz : j < zss.length := by have := HN.out; omega
      have hjh : j < (halfS 1 zss j).length := by rw [halfS_len _ _ _ (by omega)]; exact hjz
      obtain ⟨g, c', hvv, hg1, hg2, hcell⟩ := HS.out.at hjh
      injection hvv with e1 e2 e3
      subst e1 e3
      clear e2
      have hI := HS.out.2.1 j hjh
      rw [halfS_at _ _ _ hjz] at hI
      have hlj := HL.out j
      have M := fun k h0 h1 => markIntV (gu us j) (gl zss j) B wr hI (by omega) k h0 h1
      have R := Lib.hid (totS_succ zss j hjz)
      have NX := fun (w' : World) (hI' : IntV w' B (gu us j) (marks (1 + totS (zss.take j)) (gl zss j).length)) (hg' : wr.grownBy w' (gu us j).ownBlock) => (by
        have := HS.out.set hjh hI' hg'
        rwa [halfS_next 1 zss j hjz] at this : LsV w' B (.slice (some ⟨g, 0, none⟩) n c) (halfS 1 zss (j + 1)) us)
      have OB := fun b hb => (IntV.lt hI b hb).1
      obtain ⟨ua, un, uc, hu, hq⟩ := hI.rd.cells
      clear hq
      rw [hu] at hcell M NX OB
      have HNX := Lib.hid NX
      have HOB := Lib.hid OB
      have hlt' : (j : Int) < n := by omega
      have HB1 := HB0.out
      clear NX OB hI hu
      generalize htt : totS (zss.take j) = t at *
      have HTT := Lib.hid htt
      clear htt
      generalize hll : (gl zss j).length = m at *
      have HLL := Lib.hid hll
      have HM := Lib.hid (M (1 + (t : Int)) (by omega) (by omega))
      clear hll M
      go_wp2_with (go_at_call 40; (with_reducible refine HM.out.mono ?_); rintro e w' ⟨rfl, hm, hg'⟩)
      go_roundw
      case rel => exact ⟨j + 1, by omega, by go_num, by rw [R.out]; congr 1; omega, Lib.hid (HNX.out _ hm hg'), Lib.hid (HBw.out.grown hg' (Nat.le_trans HB1 hsz) HOB.out)⟩
      case measure => (simp [intOf]; try omega)
    · obtain rfl : j = n := by omega
      have hn0 := HN.out
      have RT := Lib.hid (show totS (zss.take j) = totS zss by rw [hn0, List.take_length])
      go_wp2
      go_ret
      refine ⟨by rw [RT.out]; rfl, ?_, HBw.out⟩
      have := HS.out
      rwa [hn0, halfS_all, ← hn0] at this
end Go.Proofs.Ytfkdkhoihlkgcab
