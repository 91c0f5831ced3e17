/- Slices of lists of ints that a call has made: what they read as; laws.eqIntSS, markIntSS, heldIntSS; append. -/
import Derived.Test.YtfkdkhoihlkgcabSl
import Derived.Test.YtfkdkhoihlkgcabBk
import Derived.Laws.OwnMore
namespace Go.Proofs.Ytfkdkhoihlkgcab
set_option linter.unusedVariables false
open Go.RowKit

theorem Try.infoRowI : (Try.prog.info? 41).map (fun i => (i.zero, i.size, i.bytes)) = some (some (.slice none 0 0), 1, 24) := by kernel_rfl
def gl (zss : List (List Int)) (j : Nat) : List Int := zss.getD j []
def gu (us : List Value) (j : Nat) : Value := us.getD j undef
/-- the slice v of the call's own holds the slices us, which hold zss and share no block -/
def Lst (w : World) (B : Nat) (v : Value) (zss : List (List Int)) (us : List Value) : Prop :=
  w.ownsRow B 41 1 v zss.length us ∧ (∀ j, j < zss.length → Ints w B (gu us j) (gl zss j)) ∧ ∀ i j k, i < j → j < zss.length → (gu us i).ownBlock = some k → (gu us j).ownBlock ≠ some k
/-- the slice v reads as zss -/
def RdS (w : World) (v : Value) (zss : List (List Int)) : Prop :=
  ∃ a n c, v = .slice a n c ∧ n = zss.length ∧ n ≤ maxLen ∧ ∀ j, j < n → ∃ b u, a = some ⟨b, 0, none⟩ ∧ b < w.heap.size ∧ w.cell? ⟨b, j, none⟩ = some u ∧ Rd w u (gl zss j)
theorem Lst.len {w : World} {B : Nat} {v : Value} {zss : List (List Int)} {us : List Value} (h : Lst w B v zss us) : us.length = zss.length := by have := h.1.1; omega
theorem Lst.nil (w : World) (B : Nat) : Lst w B (.slice none 0 0) [] [] := ⟨World.ownsRow_nil _ _ _ _, fun j hj => absurd hj (Nat.not_lt_zero _), fun i j k _ hj => absurd hj (Nat.not_lt_zero _)⟩
theorem rowS_below {w w' : World} {B n : Nat} {v : Value} {us : List Value} (h : w.ownsRow B 41 1 v n us) (hb : Below w.heap.size w w') : w'.ownsRow B 41 1 v n us := by
  refine ⟨h.1, ?_⟩
  rcases h.2 with h2 | ⟨g, cap, cur, e, h1, hg, h3, h4, h5, h6⟩
  · exact .inl h2
  · exact .inr ⟨g, cap, cur, e, h1, (hb.block g (Array.getElem?_eq_some_iff.1 hg).1).trans hg, h3, h4, h5, h6⟩
theorem Lst.below {w w' : World} {B : Nat} {v : Value} {zss : List (List Int)} {us : List Value} (h : Lst w B v zss us) (hb : Below w.heap.size w w') : Lst w' B v zss us :=
  ⟨rowS_below h.1 hb, fun j hj => (h.2.1 j hj).below hb, h.2.2⟩
theorem Lst.mono {w : World} {B B' : Nat} {v : Value} {zss : List (List Int)} {us : List Value} (h : Lst w B' v zss us) (hB : B ≤ B') : Lst w B v zss us := by
  refine ⟨⟨h.1.1, ?_⟩, fun j hj => ints_mono' (h.2.1 j hj) hB, h.2.2⟩
  rcases h.1.2 with h2 | ⟨g, cap, cur, e, h1, r⟩
  · exact .inl h2
  · exact .inr ⟨g, cap, cur, e, Nat.le_trans hB h1, r⟩
/-- a slice of lists and one of ints share no block -/
theorem rowS_ne {w : World} {B B' n : Nat} {v u : Value} {us : List Value} {zs : List Int} (h : w.ownsRow B 41 1 v n us) (hI : Ints w B' u zs) : u.ownBlock = none ∨ u.ownBlock ≠ v.ownBlock := by
  rcases hI.2 with ⟨rfl, _⟩ | ⟨g', cap', cur', rfl, hb', hg', _⟩
  · exact .inl rfl
  right
  rcases h.2 with ⟨rfl, _⟩ | ⟨g, cap, cur, rfl, hb, hg, _⟩
  · intro e; cases e
  intro e
  have e2 : g' = g := by simpa [Value.ownBlock] using e
  subst e2
  rw [hg] at hg'
  injection hg' with hg'
  injection hg' with _ h5
  exact absurd h5 (by decide)
theorem rowS_ne' {w : World} {B B' n : Nat} {v u : Value} {us : List Value} {zs : List Int} (h : w.ownsRow B 41 1 v n us) (hI : Ints w B' u zs) : v.ownBlock = none ∨ v.ownBlock ≠ u.ownBlock := by
  rcases rowS_ne h hI with e | e
  · cases hv : v.ownBlock with
    | none => exact .inl rfl
    | some k => right; rw [e]; simp
  · exact .inr fun e2 => e e2.symm
theorem Lst.form {w : World} {B : Nat} {v : Value} {zss : List (List Int)} {us : List Value} (h : Lst w B v zss us) : ∃ a c, v = .slice a zss.length c := by
  rcases h.1.2 with ⟨rfl, h0⟩ | ⟨g, cap, cur, rfl, _⟩
  · exact ⟨_, _, by rw [h0]⟩
  · exact ⟨_, _, rfl⟩
theorem gu_at {us : List Value} {j : Nat} (h : j < us.length) : us[j]? = some (gu us j) := by simp [gu, h]
theorem Lst.at {w : World} {B : Nat} {v : Value} {zss : List (List Int)} {us : List Value} (h : Lst w B v zss us) {j : Nat} (hj : j < zss.length) :
    ∃ g c, v = .slice (some ⟨g, 0, none⟩) zss.length c ∧ B ≤ g ∧ g < w.heap.size ∧ w.cell? ⟨g, j, none⟩ = some (gu us j) := by
  have h' := h.1
  rcases h'.2 with ⟨rfl, h0⟩ | ⟨g, cap, cur, rfl, hb, hg, _⟩
  · omega
  · refine ⟨g, cap, rfl, hb, (Array.getElem?_eq_some_iff.1 hg).1, ?_⟩
    rw [World.ownsRow.cellAt h' j (by omega)]
    exact gu_at (by rw [h.len]; exact hj)
theorem Lst.rd {w : World} {B : Nat} {v : Value} {zss : List (List Int)} {us : List Value} (h : Lst w B v zss us) : RdS w v zss := by
  have h' := h.1
  have hn : zss.length ≤ maxLen := by
    rcases h'.2 with ⟨_, h0⟩ | ⟨g, cap, cur, _, _, _, hc, hm, _⟩
    · rw [h0]; unfold maxLen; omega
    · exact Nat.le_trans hc hm
  obtain ⟨a, c, hv⟩ := h.form
  refine ⟨a, _, c, hv, rfl, hn, fun j hj => ?_⟩
  obtain ⟨g, c', hv2, _, hg, hc⟩ := h.at hj
  rw [hv] at hv2
  injection hv2 with e1 _ _
  exact ⟨g, gu us j, e1, hg, hc, (h.2.1 j hj).rd⟩
theorem RdS.below {w w' : World} {v : Value} {zss : List (List Int)} (h : RdS w v zss) (hb : Below w.heap.size w w') : RdS w' v zss := by
  obtain ⟨a, n, c, rfl, hn, hm, hj⟩ := h
  refine ⟨a, n, c, rfl, hn, hm, fun j hjn => ?_⟩
  obtain ⟨b, u, e, hlt, hc, hR⟩ := hj j hjn
  exact ⟨b, u, e, Nat.lt_of_lt_of_le hlt hb.size, (hb.cell (p := ⟨b, j, none⟩) hlt).trans hc, hR.below hb⟩
theorem Lst.blk {w : World} {B : Nat} {v : Value} {zss : List (List Int)} {us : List Value} (h : Lst w B v zss us) {j k : Nat} (hj : j < zss.length) (hk : (gu us j).ownBlock = some k) : B ≤ k ∧ k < w.heap.size := World.ownsRow.lt (h.2.1 j hj) k hk
/-- one of the lists is written -/
theorem Lst.set {w w' : World} {B : Nat} {v : Value} {zss : List (List Int)} {us : List Value} (h : Lst w B v zss us) {j : Nat} (hj : j < zss.length) {zs : List Int} (hI : Ints w' B (gu us j) zs) (hg : w.grownBy w' (gu us j).ownBlock) : Lst w' B v (zss.set j zs) us := by
  refine ⟨?_, fun i hi => ?_, fun i i' k hii hi hk => h.2.2 i i' k hii (by simpa using hi) hk⟩
  · rw [List.length_set]
    exact World.ownsRow.kept h.1 hg (rowS_ne' h.1 (h.2.1 j hj))
  · have hi' : i < zss.length := by simpa using hi
    by_cases e : i = j
    · subst e
      have : gl (zss.set i zs) i = zs := by simp [gl, hi']
      rw [this]; exact hI
    · have : gl (zss.set j zs) i = gl zss i := by
        have e2 : j ≠ i := fun h => e h.symm
        simp [gl, e2]
      rw [this]
      refine (h.2.1 i hi').kept hg ?_
      cases hk : (gu us i).ownBlock with
      | none => exact .inl rfl
      | some k =>
        refine .inr fun e3 => ?_
        rcases Nat.lt_or_gt_of_ne e with h1 | h1
        · exact h.2.2 i j k h1 hj hk e3.symm
        · exact h.2.2 j i k h1 hi' e3.symm hk
set_option maxHeartbeats 1000000 in
theorem eqIntSS_same (v1 v2 : Value) (zss : List (List Int)) (w : World) (h1 : RdS w v1 zss) (h2 : RdS w v2 zss) (hn : zss.length ≤ 16777216) (hl : ∀ j, (gl zss j).length ≤ 16777216) :
    Calls Try.prog 20 #[v1, v2] w fun e w' => e = .returned (.bool true) ∧ Below w.heap.size w w' := by
  obtain ⟨a1, n1, c1, rfl, hn1, _, hc1⟩ := h1
  obtain ⟨a2, n2, c2, rfl, hn2, _, hc2⟩ := h2
  obtain rfl : n1 = n2 := by omega
  have H1 := Lib.hid hc1
  have H2 := Lib.hid hc2
  have HL := Lib.hid hl
  have HN := Lib.hid hn1
  have hnn : n1 ≤ 16777216 := by omega
  clear hc1 hc2 hl hn2 hn hn1
  go_enter Try.func20, Try.ntmps20
  go_wp2
  go_loopw [5] (fun i wr => ∃ k : Nat, k ≤ n1 ∧ i = .int .i64 k ∧ Hid (Below w.heap.size w wr)) (fun i _ => n1 - (intOf i).toNat)
  case atStart => exact ⟨0, Nat.zero_le _, rfl, Lib.hid (Below.refl _ _)⟩
  case round =>
    obtain ⟨k, hk, rfl, HB⟩ := hrel
    by_cases hlt : k < n1
    · obtain ⟨b1, u1, rfl, hb1, hx1, hR1⟩ := H1.out k hlt
      obtain ⟨b2, u2, rfl, hb2, hx2, hR2⟩ := H2.out k hlt
      have g1 := (HB.out.cell (p := ⟨b1, k, none⟩) hb1).trans hx1
      have g2 := (HB.out.cell (p := ⟨b2, k, none⟩) hb2).trans hx2
      have hlt' : (k : Int) < n1 := by omega
      have EQ := Lib.hid (fun (W : World) (hb : Below w.heap.size w W) => eqIntS_same u1 u2 (gl zss k) W (hR1.below hb) (hR2.below hb) (HL.out k))
      obtain ⟨ua1, un1, uc1, rfl, hq1⟩ := hR1.cells
      obtain ⟨ua2, un2, uc2, rfl, hq2⟩ := hR2.cells
      clear hq1 hq2
      have HBd := Lib.hid HB.out.drew
      clear hx1 hx2 hR1 hR2
      go_wp2
      go_region_held3 (fun W => W.cell? ⟨b1, k, none⟩ = some (.slice ua1 un1 uc1) ∧ W.cell? ⟨b2, k, none⟩ = some (.slice ua2 un2 uc2)) (first | exact ⟨g1, g2⟩ | exact ⟨(D3.out.cell (p := ⟨b1, k, none⟩) (Nat.lt_of_lt_of_le hb1 HB.out.size)).trans g1, (D3.out.cell (p := ⟨b2, k, none⟩) (Nat.lt_of_lt_of_le hb2 HB.out.size)).trans g2⟩) (first
        | (go_at_call 39; (with_reducible refine (EQ.out _ HBd.out).mono ?_); rintro e w3 ⟨rfl, hb3⟩; have D3 := Lib.hid (show Below wr.heap.size wr w3 from (Below.refl _ _).drew.trans hb3); clear hb3))
      go_wp2
      go_roundw
      case rel => exact ⟨k + 1, by omega, by go_num, Lib.hid (HB.out.trans (D3.out.mono HB.out.size))⟩
      case measure => (simp [intOf]; try omega)
    · obtain rfl : k = n1 := by omega
      go_wp2
      go_ret
      exact ⟨rfl, HB.out⟩
/-- the sum of all lengths -/
def totS : List (List Int) → Nat
  | [] => 0
  | zs :: r => zs.length + totS r
def marksS : Int → List (List Int) → List (List Int)
  | _, [] => []
  | k, zs :: r => marks k zs.length :: marksS (k + zs.length) r
theorem totS_app (a b : List (List Int)) : totS (a ++ b) = totS a + totS b := by
  induction a with
  | nil => simp [totS]
  | cons x a ih => simp [totS, ih]; omega
theorem marksS_len (k : Int) (zss : List (List Int)) : (marksS k zss).length = zss.length := by
  induction zss generalizing k with
  | nil => rfl
  | cons x a ih => simp [marksS, ih]
theorem marksS_at (k : Int) (zss : List (List Int)) (j : Nat) (h : j < zss.length) : gl (marksS k zss) j = marks (k + totS (zss.take j)) (gl zss j).length := by
  induction zss generalizing k j with
  | nil => simp at h
  | cons x a ih =>
    cases j with
    | zero => simp [marksS, gl, totS]
    | succ j =>
      have := ih (k + x.length) j (by simpa using h)
      simp only [marksS, gl, List.getD_cons_succ, List.take_succ_cons, totS] at *
      rw [this]
      congr 1
      push_cast; omega
theorem totS_succ (zss : List (List Int)) (j : Nat) (h : j < zss.length) : totS (zss.take (j + 1)) = totS (zss.take j) + (gl zss j).length := by
  rw [List.take_succ_eq_append_getElem h, totS_app]
  simp [totS, gl, h]
theorem totS_le (zss : List (List Int)) (j : Nat) : totS (zss.take j) ≤ totS zss := by
  have := totS_app (zss.take j) (zss.drop j)
  rw [List.take_append_drop] at this
  omega
/-- the first j lists marked -/
def halfS (k : Int) (zss : List (List Int)) (j : Nat) : List (List Int) := (marksS k zss).take j ++ zss.drop j
theorem halfS_len (k : Int) (zss : List (List Int)) (j : Nat) (h : j ≤ zss.length) : (halfS k zss j).length = zss.length := by
  simp [halfS, marksS_len]; omega
theorem halfS_zero (k : Int) (zss : List (List Int)) : halfS k zss 0 = zss := by simp [halfS]
theorem halfS_all (k : Int) (zss : List (List Int)) : halfS k zss zss.length = marksS k zss := by simp [halfS, marksS_len, List.take_of_length_le]
theorem halfS_at (k : Int) (zss : List (List Int)) (j : Nat) (h : j < zss.length) : gl (halfS k zss j) j = gl zss j := by
  simp only [halfS, gl, List.getD_eq_getElem?_getD]
  rw [List.getElem?_append_right (by simp [marksS_len]; omega)]
  simp only [List.length_take, marksS_len, Nat.min_eq_left (Nat.le_of_lt h), Nat.sub_self, List.getElem?_drop, Nat.add_zero]
theorem halfS_next (k : Int) (zss : List (List Int)) (j : Nat) (h : j < zss.length) : (halfS k zss j).set j (marks (k + totS (zss.take j)) (gl zss j).length) = halfS k zss (j + 1) := by
  have hm : j < (marksS k zss).length := by rw [marksS_len]; exact h
  have e := marksS_at k zss j h
  simp only [halfS]
  rw [List.set_append_right _ _ (by simp [marksS_len]; omega), List.drop_eq_getElem_cons h, List.take_succ_eq_append_getElem hm]
  simp only [List.length_take, marksS_len, Nat.min_eq_left (Nat.le_of_lt h), Nat.sub_self, List.set_cons_zero, List.append_assoc, List.singleton_append]
  congr 2
  rw [← e]
  simp [gl, hm]
set_option maxHeartbeats 1000000 in
theorem markIntSS (v : Value) (zss : List (List Int)) (us : List Value) (B : Nat) (w : World) (h : Lst w B v zss us) (hB : B ≤ w.heap.size) (hn : zss.length ≤ 100000) (hl : ∀ j, (gl zss j).length ≤ 1000) (ht : totS zss ≤ 1000000) :
    Calls Try.prog 21 #[v, .int .i64 1] w fun e w' => e = .returned (.int .i64 (1 + totS zss)) ∧ Lst w' B v (marksS 1 zss) us ∧ Below B w w' := by
  obtain ⟨a, c, hv⟩ := h.form
  obtain ⟨n, hnz⟩ : ∃ n, n = zss.length := ⟨_, rfl⟩
  rw [← hnz] at hv hn
  have H := Lib.hid h
  have HL := Lib.hid hl
  have HT := Lib.hid ht
  have HV := Lib.hid hv
  have HN := Lib.hid hnz
  have HB0 := Lib.hid hB
  have H0 : Hid (Lst w B v (halfS 1 zss 0) us) := Lib.hid (by rw [halfS_zero]; exact h)
  subst hv
  clear h hl ht hnz hB
  go_enter Try.func21, Try.ntmps21
  go_wp2
  go_loopw [1, 5] (fun q i wr => ∃ j : Nat, j ≤ n ∧ i = .int .i64 j ∧ q = .int .i64 (1 + (totS (zss.take j) : Int)) ∧ Hid (Lst wr B (.slice a n c) (halfS 1 zss j) us) ∧ Hid (Below B w wr)) (fun _ i _ => n - (intOf i).toNat)
  case atStart => exact ⟨0, Nat.zero_le _, rfl, by simp [totS], H0, Lib.hid (Below.refl _ _)⟩
  case round =>
    clear H0
    obtain ⟨j, hj, rfl, rfl, HS, HBw⟩ := hrel
    have htb := totS_le zss j
    have htb2 := HT.out
    have hsz := HBw.out.size
    by_cases hlt : j < n
    · have hjz : j < zss.length := by have := HN.out; omega
      have hjh : j < (halfS 1 zss j).length := by rw [halfS_len _ _ _ (by omega)]; exact hjz
      obtain ⟨g, c', hvv, hg1, hg2, hcell⟩ := HS.out.at hjh
      injection hvv with e1 e2 e3
      subst e1 e3
      clear e2
      have hI := HS.out.2.1 j hjh
      rw [halfS_at _ _ _ hjz] at hI
      have hlj := HL.out j
      have M := fun k h0 h1 => markIntS (gu us j) (gl zss j) B wr hI (by omega) k h0 h1
      have R := Lib.hid (totS_succ zss j hjz)
      have NX := fun (w' : World) (hI' : Ints w' B (gu us j) (marks (1 + totS (zss.take j)) (gl zss j).length)) (hg' : wr.grownBy w' (gu us j).ownBlock) => (by
        have := HS.out.set hjh hI' hg'
        rwa [halfS_next 1 zss j hjz] at this : Lst w' B (.slice (some ⟨g, 0, none⟩) n c) (halfS 1 zss (j + 1)) us)
      have OB := fun b hb => (World.ownsRow.lt hI b hb).1
      obtain ⟨ua, un, uc, hu, hq⟩ := hI.rd.cells
      clear hq
      rw [hu] at hcell M NX OB
      have HNX := Lib.hid NX
      have HOB := Lib.hid OB
      have hlt' : (j : Int) < n := by omega
      have HB1 := HB0.out
      clear NX OB hI hu
      generalize htt : totS (zss.take j) = t at *
      have HTT := Lib.hid htt
      clear htt
      generalize hll : (gl zss j).length = m at *
      have HLL := Lib.hid hll
      have HM := Lib.hid (M (1 + (t : Int)) (by omega) (by omega))
      clear hll M
      go_wp2_with (go_at_call 40; (with_reducible refine HM.out.mono ?_); rintro e w' ⟨rfl, hm, hg'⟩)
      go_roundw
      case rel => exact ⟨j + 1, by omega, by go_num, by rw [R.out]; congr 1; omega, Lib.hid (HNX.out _ hm hg'), Lib.hid (HBw.out.grown hg' (Nat.le_trans HB1 hsz) HOB.out)⟩
      case measure => (simp [intOf]; try omega)
    · obtain rfl : j = n := by omega
      have hn0 := HN.out
      have RT := Lib.hid (show totS (zss.take j) = totS zss by rw [hn0, List.take_length])
      go_wp2
      go_ret
      refine ⟨by rw [RT.out]; rfl, ?_, HBw.out⟩
      have := HS.out
      rwa [hn0, halfS_all, ← hn0] at this
set_option maxHeartbeats 1000000 in
theorem heldIntSS (v : Value) (zss : List (List Int)) (w : World) (h : RdS w v (marksS 1 zss)) (hn : zss.length ≤ 100000) (hl : ∀ j, (gl zss j).length ≤ 1000) (ht : totS zss ≤ 1000000) :
    Calls Try.prog 22 #[v, .int .i64 1] w fun e w' => e = .returned (.int .i64 (1 + totS zss)) ∧ w = w' := by
  obtain ⟨a, n, c, rfl, hnz, _, hc⟩ := h
  rw [marksS_len] at hnz
  have HC := Lib.hid hc
  have HL := Lib.hid hl
  have HT := Lib.hid ht
  have HN := Lib.hid hnz
  have hn1 : n ≤ 100000 := by omega
  clear hc hl ht hnz hn
  go_enter Try.func22, Try.ntmps22
  go_wp2
  go_loop [1, 5] (fun q i => ∃ j : Nat, j ≤ n ∧ i = .int .i64 j ∧ q = .int .i64 (1 + (totS (zss.take j) : Int))) (fun _ i => n - (intOf i).toNat)
  case atStart => exact ⟨0, Nat.zero_le _, rfl, by simp [totS]⟩
  case round =>
    obtain ⟨j, hj, rfl, rfl⟩ := hrel
    have htb := totS_le zss j
    have htb2 := HT.out
    by_cases hlt : j < n
    · have hjz : j < zss.length := by have := HN.out; omega
      obtain ⟨b, u, rfl, hb, hcell, hR⟩ := HC.out j hlt
      rw [marksS_at _ _ _ hjz] at hR
      have hlj := HL.out j
      have R := Lib.hid (totS_succ zss j hjz)
      have M := heldIntS u (gl zss j).length w (1 + (totS (zss.take j) : Int)) hR (by omega) (by omega) (by omega)
      obtain ⟨ua, un, uc, rfl, hq⟩ := hR.cells
      clear hq
      have hlt' : (j : Int) < n := by omega
      generalize htt : totS (zss.take j) = t at *
      have HTT := Lib.hid htt
      clear htt hR
      generalize hll : (gl zss j).length = m at *
      have HLL := Lib.hid hll
      have HM := Lib.hid M
      clear hll M
      have hp : ¬ (1 + (t : Int) + m < 0) := by omega
      go_wp2_with (go_at_call 41; (with_reducible refine HM.out.mono ?_); rintro e w' ⟨rfl, rfl⟩)
      go_round
      case rel => exact ⟨j + 1, by omega, by go_num, by rw [R.out]; congr 1; omega⟩
      case measure => (simp [intOf]; try omega)
    · obtain rfl : j = n := by omega
      have hn0 := HN.out
      have RT := Lib.hid (show totS (zss.take j) = totS zss by rw [hn0, List.take_length])
      go_wp2
      go_ret
      first | exact ⟨rfl, rfl⟩ | exact ⟨by rw [RT.out]; rfl, rfl⟩
end Go.Proofs.Ytfkdkhoihlkgcab
