/- WholeLeans, both sides. -/
import Derived.Test.YtfkdkhoihlkgcabLw
import Derived.Test.YtfkdkhoihlkgcabVl
namespace Go.Proofs.Ytfkdkhoihlkgcab
set_option linter.unusedVariables false
open Go.RowKit

theorem LsV.of {w : World} {B : Nat} {v : Value} {zss : List (List Int)} {us : List Value} (h : Lst w B v zss us) (hne : ∀ j, j < zss.length → gl zss j ≠ []) : LsV w B v zss us :=
  ⟨h.1, fun j hj => IntV.of (h.2.1 j hj) (hne j hj), h.2.2⟩
theorem gu_set {us : List Value} {j i : Nat} {u : Value} (hj : j < us.length) : gu (us.set j u) i = if i = j then u else gu us i := by
  by_cases e : i = j
  · subst e; simp [gu, hj]
  · rw [if_neg e]
    have e2 : j ≠ i := fun h => e h.symm
    simp [gu, e2]
/-- one of the lists takes another's place, that lies in the same block -/
theorem LsV.put {w : World} {B g n c : Nat} {zss : List (List Int)} {us : List Value} (h : LsV w B (.slice (some ⟨g, 0, none⟩) n c) zss us) (hn : n = zss.length) {j : Nat} (hj : j < zss.length) {u' : Value} {zs' : List Int} (hI : IntV w B u' zs') (hb : u'.ownBlock = (gu us j).ownBlock) :
    LsV (w.setCell ⟨g, j, none⟩ u') B (.slice (some ⟨g, 0, none⟩) n c) (zss.set j zs') (us.set j u') ∧ w.grownBy (w.setCell ⟨g, j, none⟩ u') (some g) := by
  subst hn
  obtain ⟨s1, s2⟩ := World.ownsRow.stored h.1 j u'
  have hl := h.len
  have hju : j < us.length := by omega
  have hob : ∀ i, i < zss.length → (gu (us.set j u') i).ownBlock = (gu us i).ownBlock := fun i hi => by
    rw [gu_set hju]
    split
    · rename_i e; rw [e]; exact hb
    · rfl
  refine ⟨⟨by rw [List.length_set]; exact s1, fun i hi => ?_, fun i i' k hii hi' hk => ?_⟩, s2⟩
  · have hi' : i < zss.length := by simpa using hi
    rw [gu_set hju]
    by_cases e : i = j
    · subst e
      rw [if_pos rfl, show gl (zss.set i zs') i = zs' by simp [gl, hi']]
      exact hI.kept s2 (rowV_ne h.1 hI)
    · rw [if_neg e]
      have e2 : j ≠ i := fun h => e h.symm
      rw [show gl (zss.set j zs') i = gl zss i by simp [gl, e2]]
      exact (h.2.1 i hi').kept s2 (rowV_ne h.1 (h.2.1 i hi'))
  · have hi2 : i' < zss.length := by simpa using hi'
    rw [hob i (by omega)] at hk
    rw [hob i' hi2]
    exact h.2.2 i i' k hii hi2 hk
def wlL (p : Int) : List (List Int) := if isPl p then (lns p).map l2 else []
theorem wlL_no {p : Int} (h : isPl p = false) : wlL p = [] := by simp [wlL, h]
theorem wlL_yes {p : Int} (h : isPl p = true) : wlL p = (lns p).map l2 := by simp [wlL, h]
theorem wlL_len (p : Int) : (wlL p).length ≤ 1000 := by
  have := lns_len p
  unfold wlL; split
  · simp; omega
  · simp
theorem gl_map_le {α : Type} {f : α → List Int} {m : Nat} (hf : ∀ s, (f s).length ≤ m) (l : List α) (j : Nat) : (gl (l.map f) j).length ≤ m := by
  simp only [gl, List.getD_eq_getElem?_getD, List.getElem?_map]
  cases h : l[j]? with
  | none => simp
  | some s => simpa using hf s
theorem wlL_row (p : Int) (j : Nat) : (gl (wlL p) j).length ≤ 1000 := by
  unfold wlL; split
  · have := gl_map_le (f := l2) (m := 2) (fun s => by simp [l2]) (lns p) j; omega
  · simp [gl]
theorem totS_map_le {α : Type} {f : α → List Int} {m : Nat} (hf : ∀ s, (f s).length ≤ m) (l : List α) : totS (l.map f) ≤ m * l.length := by
  induction l with
  | nil => simp [totS]
  | cons s l ih => have := hf s; simp only [List.map_cons, totS, List.length_cons]; rw [Nat.mul_succ]; omega
theorem wlL_tot (p : Int) : totS (wlL p) ≤ 1000000 := by
  unfold wlL; split
  · have := totS_map_le (f := l2) (m := 2) (fun s => by simp [l2]) (lns p); have := lns_len p; omega
  · simp [totS]
def LstC (B : Nat) (zss : List (List Int)) (ok : Bool) (w : World) (e : Ending) (w' : World) : Prop := ∃ v, e = .returned (.tuple #[v, .bool ok]) ∧ (∃ us, Lst w' B v zss us) ∧ Below w.heap.size w w'
def LsVC (B : Nat) (zss : List (List Int)) (ok : Bool) (w : World) (e : Ending) (w' : World) : Prop := ∃ v, e = .returned (.tuple #[v, .bool ok]) ∧ (∃ us, LsV w' B v zss us) ∧ Below w.heap.size w w'
theorem specWhole (p : Int) (w : World) : Calls Try.prog 18 #[.int .i64 p] w (LstC w.heap.size (wlL p) (isPl p) w) := by
  have HA := Lib.hid (fun wx => cnPlank p wx)
  cases h : isPl p
  · have JL := Lib.hid (wlL_no h)
    rw [h] at HA
    clear h
    go_enter Try.func18, Try.ntmps18
    go_wp2_with (go_at_call 27; (with_reducible refine (HA.out _).mono ?_); rintro e w' ⟨rfl, rfl⟩)
    go_ret2
    exact ⟨_, rfl, ⟨[], by rw [JL.out]; exact Lst.nil _ _⟩, Below.refl _ _⟩
  · have JL := Lib.hid (wlL_yes h)
    have LL := Lib.hid (fun wx => cnLeans p wx (isPl_in h))
    rw [h] at HA
    clear h
    go_enter Try.func18, Try.ntmps18
    go_wp2_with (first
      | (go_at_call 27; (with_reducible refine (HA.out _).mono ?_); rintro e w' ⟨rfl, rfl⟩)
      | (go_at_call 37; refine (LL.out _).mono ?_; rintro e w2 ⟨v, rfl, ⟨us, hl⟩, hb⟩))
    go_ret2
    exact ⟨_, rfl, ⟨us, by rw [JL.out]; exact hl⟩, hb⟩
/-- the first j leans told by two, the others by three -/
def wlH (p : Int) (L : List (Int × Int)) (j : Nat) : List (List Int) := (L.take j).map l2 ++ (L.drop j).map (l3 p)
theorem wlH_len (p : Int) (L : List (Int × Int)) (j : Nat) : (wlH p L j).length = L.length := by simp [wlH]; omega
theorem wlH_at (p : Int) (L : List (Int × Int)) (j : Nat) (h : j < L.length) : gl (wlH p L j) j = l3 p L[j] := by
  simp only [wlH, gl, List.getD_eq_getElem?_getD]
  rw [List.getElem?_append_right (by simp; omega)]
  simp only [List.length_map, List.length_take, Nat.min_eq_left (Nat.le_of_lt h), Nat.sub_self, List.getElem?_map, List.getElem?_drop, Nat.add_zero]
  simp [h]
theorem wlH_next (p : Int) (L : List (Int × Int)) (j : Nat) (h : j < L.length) : (wlH p L j).set j (l2 L[j]) = wlH p L (j + 1) := by
  simp only [wlH]
  rw [List.set_append_right _ _ (by simp; omega), List.drop_eq_getElem_cons h, List.take_succ_eq_append_getElem h]
  simp only [List.length_map, List.length_take, Nat.min_eq_left (Nat.le_of_lt h), Nat.sub_self, List.map_cons, List.set_cons_zero, List.map_append, List.map_nil, List.append_assoc, List.singleton_append]
set_option maxHeartbeats 2000000 in
theorem implWhole (p : Int) (w : World) : Calls Try.prog 19 #[.int .i64 p] w (LsVC w.heap.size (wlL p) (isPl p) w) := by
  have HA := Lib.hid (fun wx => isLong p wx)
  cases h : isPl p
  · have JL := Lib.hid (wlL_no h)
    rw [h] at HA
    clear h
    go_enter Try.func19, Try.ntmps19
    go_wp2_with (go_at_call 28; (with_reducible refine (HA.out _).mono ?_); rintro e w' ⟨rfl, rfl⟩)
    go_ret2
    exact ⟨_, rfl, ⟨[], by rw [JL.out]; exact LsV.of (Lst.nil _ _) (fun j hj => absurd hj (Nat.not_lt_zero _))⟩, Below.refl _ _⟩
  · have JL := Lib.hid (wlL_yes h)
    have LL := Lib.hid (fun wx => leansOf p wx (isPl_in h))
    rw [h] at HA
    clear h
    have hll := lns_len p
    go_enter Try.func19, Try.ntmps19
    go_wp2_with fail
    refine (HA.out _).mono ?_
    rintro e w' ⟨rfl, rfl⟩
    go_wp2_with fail
    refine (LL.out _).mono ?_
    rintro e w2 ⟨v, rfl, ⟨us, hl⟩, hb⟩
    have hv := LsV.of hl (fun j hj => by
      simp only [gl, List.getD_eq_getElem?_getD, List.getElem?_map]
      have : j < (lns p).length := by simpa using hj
      simp [this, l3])
    generalize lns p = L at *
    have H0 := Lib.hid (show LsV w2 w.heap.size v (wlH p L 0) us by simpa [wlH] using hv)
    obtain ⟨va, vc, hvv⟩ := hl.form
    rw [show (L.map (l3 p)).length = L.length by simp] at hvv
    obtain ⟨n, hn⟩ : ∃ n, n = L.length := ⟨_, rfl⟩
    rw [← hn] at hvv hll
    subst hvv
    have HB := Lib.hid hb
    have HN := Lib.hid hn
    clear hl hv hn hb LL HA
    go_wp2
    go_loopw [14] (fun i wr => ∃ (j : Nat) (us : List Value), j ≤ n ∧ i = .int .i64 j ∧ Hid (LsV wr w.heap.size (.slice va n vc) (wlH p L j) us) ∧ Hid (Below w.heap.size w wr)) (fun i _ => n - (intOf i).toNat)
    case atStart => exact ⟨0, us, Nat.zero_le _, rfl, H0, HB⟩
    case round =>
      clear H0 HB
      obtain ⟨j, us, hj, rfl, HV, HB⟩ := hrel
      have hsz := HB.out.size
      by_cases hlt : j < n
      · have hjL : j < L.length := by have := HN.out; omega
        have hjh : j < (wlH p L j).length := by rw [wlH_len]; exact hjL
        obtain ⟨g, c', e0, hg1, hg2, hcell⟩ := (show ∃ g c', (Value.slice va n vc) = .slice (some ⟨g, 0, none⟩) (wlH p L j).length c' ∧ w.heap.size ≤ g ∧ g < wr.heap.size ∧ wr.cell? ⟨g, j, none⟩ = some (gu us j) from HV.out.at hjh)
        injection e0 with e1 e2 e3
        subst e1 e3
        have hI := HV.out.2.1 j hjh
        rw [wlH_at p L j hjL] at hI
        obtain ⟨gj, cj, hu, hcj, hP⟩ := IntV.part hI
        have NX := HV.out.put (by rw [wlH_len]; exact HN.out) hjh hP (by rw [hu]; rfl)
        rw [show [L[j].1, L[j].2] = l2 L[j] from rfl, wlH_next p L j hjL] at NX
        have hf := World.ownsRow.frozenAt (by have := HV.out.1; rw [← e2] at this; exact this) j
        rw [hu] at hcell
        have NX1 := Lib.hid NX.1
        have NB := Lib.hid (HB.out.grown NX.2 hsz (fun k e => by cases e; exact hg1))
        have hlt' : (j : Int) < n := by omega
        clear NX hP hI hu e2 HV HB
        go_wp2
        go_roundw
        case rel => exact ⟨j + 1, _, by omega, by go_num, NX1, NB⟩
        case measure => (simp [intOf]; try omega)
      · obtain rfl : j = n := by omega
        have HV2 := Lib.hid (show LsV wr w.heap.size (.slice va j vc) (wlL p) us by have := HV.out; rwa [HN.out, show wlH p L L.length = L.map l2 by simp [wlH], ← JL.out, ← HN.out] at this)
        clear HV
        go_wp2
        go_ret2
        exact ⟨_, rfl, ⟨us, HV2.out⟩, HB.out⟩
end Go.Proofs.Ytfkdkhoihlkgcab
