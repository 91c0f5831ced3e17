/- PrimeLeans, impl's side: slices.DeleteFunc at lists of lists. -/
import Derived.Test.YtfkdkhoihlkgcabLx
import Derived.Lib.SliceRun
namespace Go.Proofs.Ytfkdkhoihlkgcab
set_option linter.unusedVariables false
open Go.RowKit

def putL (xs : List Value) (o : Nat) : List Value → List Value
  | [] => xs
  | v :: r => putL (xs.set o v) (o + 1) r
theorem putL_len (vs : List Value) : ∀ (xs : List Value) (o : Nat), (putL xs o vs).length = xs.length := by
  induction vs with
  | nil => intro xs o; rfl
  | cons v r ih => intro xs o; unfold putL; rw [ih, List.length_set]
theorem putL_eq (vs : List Value) : ∀ (xs : List Value) (o : Nat), o + vs.length ≤ xs.length → putL xs o vs = xs.take o ++ vs ++ xs.drop (o + vs.length) := by
  induction vs with
  | nil => intro xs o h; simp [putL]
  | cons v r ih =>
    intro xs o h
    rw [List.length_cons] at h
    unfold putL
    rw [ih _ _ (by rw [List.length_set]; omega), List.take_succ_eq_append_getElem (by rw [List.length_set]; omega), List.getElem_set_self, List.take_set_of_le (Nat.le_refl _), List.drop_set_of_lt (by omega), List.length_cons]
    simp [Nat.add_assoc, Nat.add_comm 1]
theorem row_cells {B g n cap : Nat} {e : TypeId} {s : Nat} (vs : List Value) : ∀ {w : World} {xs : List Value} (o : Nat), w.ownsRow B e s (.slice (some ⟨g, 0, none⟩) n cap) n xs →
    (w.setCells g o vs).ownsRow B e s (.slice (some ⟨g, 0, none⟩) n cap) n (putL xs o vs) ∧ w.grownBy (w.setCells g o vs) (some g) := by
  induction vs with
  | nil => intro w xs o h; exact ⟨h, World.grownBy.refl _ _⟩
  | cons v r ih =>
    intro w xs o h
    have h1 := World.ownsRow.stored h o v
    have h2 := ih (o + 1) h1.1
    exact ⟨h2.1, h1.2.trans h2.2⟩
theorem row_shrink {w : World} {B g n n' cap : Nat} {e : TypeId} {s : Nat} {xs : List Value} (h : w.ownsRow B e s (.slice (some ⟨g, 0, none⟩) n cap) n xs) (hn : n' ≤ n) :
    w.ownsRow B e s (.slice (some ⟨g, 0, none⟩) n' cap) n' (xs.take (n' * s)) := by
  have hm : n' * s ≤ n * s := Nat.mul_le_mul_right s hn
  rcases h.2 with ⟨e1, _⟩ | ⟨g', cap', cur, e1, hb, hg, hnc, hcm, hcs, ht⟩
  · cases e1
  · injection e1 with e1 _ e2
    subst e2
    refine ⟨by rw [List.length_take, h.1]; omega, .inr ⟨g', cap, cur, by rw [e1], hb, hg, by omega, hcm, hcs, ?_⟩⟩
    rw [← ht, List.take_take]
    congr 1
    omega

theorem Try.zeroI : ∀ w, (zeroValue 41).run Try.prog w = .ok (.slice none 0 0) w := by
  obtain ⟨i0, hi, hz0, -, -⟩ := info_parts Try.infoRowI
  intro w
  simp [zeroValue, typeInfo, hi, hz0]
/-- whether the first two numbers of a list have no common divisor -/
def keepR (r : List Int) : Bool := Nat.gcd (gt r 0).toNat (gt r 1).toNat == 1
theorem ltG_prime (n : Nat) : ltG true n = (ltG false n).filter keepR := by
  induction n with
  | zero => rfl
  | succ n ih =>
    simp only [ltG, List.filter_append, gok_no]
    have e : keepR ∘ l3 ((n : Int) + 1) = gok true := by
      funext s
      show (Nat.gcd s.1.toNat s.2.toNat == 1) = (!true || decide (Nat.gcd s.1.toNat s.2.toNat = 1))
      rw [Bool.eq_iff_iff]; simp
    rw [ih, List.filter_map, e]
def okR (r : List Int) : Prop := r.length = 3 ∧ (1 ≤ gt r 0 ∧ gt r 0 ≤ 200) ∧ 0 ≤ gt r 1 ∧ gt r 1 ≤ 200
theorem ltG_ok (pr : Bool) (n : Nat) (hn : n ≤ 200) : ∀ r ∈ ltG pr n, okR r := by
  induction n with
  | zero => intro r h; cases h
  | succ n ih =>
    intro r h
    simp only [ltG, List.mem_append, List.mem_map] at h
    rcases h with h | ⟨s, hs, rfl⟩
    · exact ih (by omega) r h
    · have := lns_in (p := (n : Int) + 1) (by omega) (List.mem_filter.1 hs).1
      exact ⟨rfl, by show 1 ≤ s.1 ∧ s.1 ≤ 200; omega, by show 0 ≤ s.2 ∧ s.2 ≤ 200; omega⟩
def kx (zss : List (List Int)) (j : Nat) : List Nat := (List.range j).filter fun i => keepR (gl zss i)
theorem kx_yes {zss : List (List Int)} {j : Nat} (h : keepR (gl zss j) = true) : kx zss (j + 1) = kx zss j ++ [j] := by simp [kx, List.range_succ, h]
theorem kx_no {zss : List (List Int)} {j : Nat} (h : keepR (gl zss j) = false) : kx zss (j + 1) = kx zss j := by simp [kx, List.range_succ, h]
theorem kx_len (zss : List (List Int)) (j : Nat) : (kx zss j).length ≤ j := by have := List.length_filter_le (fun i => keepR (gl zss i)) (List.range j); simpa [kx] using this
theorem kx_pre {zss : List (List Int)} {k : Nat} (h : ∀ j, j < k → keepR (gl zss j) = true) : kx zss k = List.range k := by
  rw [kx, List.filter_eq_self]
  intro a ha
  exact h a (List.mem_range.1 ha)
theorem range_gl (zss : List (List Int)) : (List.range zss.length).map (gl zss) = zss := by
  apply List.ext_getElem
  · simp
  · intro i h1 h2
    simp [gl, h2]
theorem kx_all (zss : List (List Int)) : (kx zss zss.length).map (gl zss) = zss.filter keepR := by
  conv => rhs; rw [← range_gl zss, List.filter_map]
  rfl
theorem kx_mem {zss : List (List Int)} {j i : Nat} (h : i ∈ kx zss j) : i < j := List.mem_range.1 (List.mem_filter.1 h).1
theorem kx_up (zss : List (List Int)) (j : Nat) : (kx zss j).Pairwise (· < ·) := List.pairwise_lt_range.filter _
def mixU (ks us : List Value) : List Value := ks ++ us.drop ks.length
theorem mixU_len {ks us : List Value} (h : ks.length ≤ us.length) : (mixU ks us).length = us.length := by simp [mixU]; omega
theorem mixU_get {ks us : List Value} {j : Nat} (h : ks.length ≤ j) : (mixU ks us)[j]? = us[j]? := by
  rw [mixU, List.getElem?_append_right h, List.getElem?_drop]
  congr 1
  omega
theorem mixU_set {ks us : List Value} (h : ks.length < us.length) (u : Value) : (mixU ks us).set ks.length u = mixU (ks ++ [u]) us := by
  simp only [mixU]
  rw [List.set_append_right _ _ (Nat.le_refl _), Nat.sub_self, List.drop_eq_getElem_cons h, List.set_cons_zero, List.length_append, List.append_assoc]
  rfl
theorem mixU_take (ks us : List Value) : (mixU ks us).take ks.length = ks := by simp [mixU]
theorem mixU_pre {us : List Value} {k : Nat} (h : k ≤ us.length) : mixU ((List.range k).map (gu us)) us = us := by
  have e : (List.range k).map (gu us) = us.take k := by
    apply List.ext_getElem
    · simp; omega
    · intro i h1 h2
      have : i < us.length := by simp at h1; omega
      simp [gu, this]
  rw [e, mixU, List.length_take, Nat.min_eq_left h, List.take_append_drop]
theorem Lst.row0 {w : World} {B g n c : Nat} {zss : List (List Int)} {us : List Value} (h : Lst w B (.slice (some ⟨g, 0, none⟩) n c) zss us) : B ≤ g ∧ g < w.heap.size := World.ownsRow.lt h.1 g rfl
/-- the kept ones alone -/
theorem Lst.kx {w w' : World} {B g cap L : Nat} {zss : List (List Int)} {us : List Value} (h : Lst w B (.slice (some ⟨g, 0, none⟩) L cap) zss us) (hg : w.grownBy w' (some g))
    (hv : w'.ownsRow B 41 1 (.slice (some ⟨g, 0, none⟩) (Go.Proofs.Ytfkdkhoihlkgcab.kx zss zss.length).length cap) (Go.Proofs.Ytfkdkhoihlkgcab.kx zss zss.length).length ((Go.Proofs.Ytfkdkhoihlkgcab.kx zss zss.length).map (gu us))) :
    Lst w' B (.slice (some ⟨g, 0, none⟩) (Go.Proofs.Ytfkdkhoihlkgcab.kx zss zss.length).length cap) (zss.filter keepR) ((Go.Proofs.Ytfkdkhoihlkgcab.kx zss zss.length).map (gu us)) := by
  rw [← kx_all]
  have hm := fun i => kx_mem (zss := zss) (j := zss.length) (i := i)
  have hp := kx_up zss zss.length
  generalize Go.Proofs.Ytfkdkhoihlkgcab.kx zss zss.length = I at *
  have eu : ∀ i (hi : i < I.length), gu (I.map (gu us)) i = gu us I[i] := fun i hi => by simp [gu, hi]
  have el : ∀ i (hi : i < I.length), gl (I.map (gl zss)) i = gl zss I[i] := fun i hi => by simp [gl, hi]
  refine ⟨by rw [List.length_map]; exact hv, fun j hj => ?_, fun i j k hij hj hk => ?_⟩
  · have hj' : j < I.length := by simpa using hj
    rw [eu j hj', el j hj']
    have h1 := h.2.1 I[j] (hm _ (List.getElem_mem hj'))
    exact h1.kept hg (rowS_ne h.1 h1)
  · have hj' : j < I.length := by simpa using hj
    have hi' : i < I.length := by omega
    rw [eu i hi'] at hk
    rw [eu j hj']
    exact h.2.2 I[i] I[j] k (List.pairwise_iff_getElem.1 hp i j hi' hj' hij) (hm _ (List.getElem_mem hj')) hk
set_option maxHeartbeats 1000000 in
theorem gcdD (n d : Nat) (w : World) (hn : n ≤ 1000) (hd : d ≤ 1000) :
    Calls Try.prog 45 #[.int .i64 n, .int .i64 d] w fun e w' => e = .returned (.int .i64 (Nat.gcd n d)) ∧ ∃ m, w' = w.drewN m := by
  go_enter Try.func45, Try.ntmps45
  go_wp2
  go_loopw [0, 1] (fun a b wr => ∃ x y : Nat, a = .int .i64 x ∧ b = .int .i64 y ∧ x ≤ 1000 ∧ y ≤ 1000 ∧ Hid (Nat.gcd x y = Nat.gcd n d) ∧ Hid (∃ m, wr = w.drewN m)) (fun _ b _ => (intOf b).toNat)
  case atStart => exact ⟨n, d, rfl, rfl, hn, hd, Lib.hid rfl, Lib.hid ⟨0, rfl⟩⟩
  case round =>
    obtain ⟨x, y, rfl, rfl, hx, hy, HG, hB⟩ := hrel
    by_cases h0 : y = 0
    · subst h0
      have R := Lib.hid (show x = Nat.gcd n d from (Nat.gcd_zero_right x).symm.trans HG.out)
      go_wp2
      go_ret
      exact ⟨ret_v (by rw [← R.out]; rfl), hB.out⟩
    · have hy0 : 0 < y := by omega
      have hm : x % y < y := Nat.mod_lt _ hy0
      have hi : ((y : Int) != 0) = true := by simp; omega
      have hi2 : (y : Int) ≠ 0 := by omega
      have R := Lib.hid ((gcd_step x y).trans HG.out)
      go_wp2
      go_quiet (fail)
      have hB2 : Hid (∃ m, wr.drewN nq = w.drewN m) := Lib.hid (by obtain ⟨m, hm⟩ := hB.out; exact ⟨m + nq, by rw [hm, World.drewN_drewN]⟩)
      go_wp2
      go_roundw
      case rel => exact ⟨y, x % y, rfl, by push_cast; rfl, hy, by omega, R, hB2⟩
      case measure => (rw [show (x : Int) % (y : Int) = ((x % y : Nat) : Int) from by push_cast; rfl]; simp [intOf]; omega)
set_option maxHeartbeats 1000000 in
theorem delP (u : Value) (r : List Int) (w : World) (hR : Rd w u r) (hr : okR r) :
    Calls Try.prog 44 #[u] w fun e w' => e = .returned (.bool !keepR r) ∧ Below w.heap.size w w' := by
  obtain ⟨h1, h2, h3⟩ := hr
  rcases hR with ⟨_, h0⟩ | ⟨b, off, cap, rfl, hb, hc, hm, hh⟩
  · subst h0; cases h1
  rw [h1] at hc hh ⊢
  have c0 := hh 0 (by omega)
  have c1 := hh 1 (by omega)
  rw [Nat.add_zero] at c0
  have K : Hid (keepR r = (Nat.gcd (gt r 0).toNat (gt r 1).toNat == 1)) := Lib.hid rfl
  generalize gt r 0 = x at *
  generalize gt r 1 = y at *
  obtain ⟨x, rfl⟩ : ∃ n : Nat, x = (n : Int) := ⟨x.toNat, by omega⟩
  obtain ⟨y, rfl⟩ : ∃ n : Nat, y = (n : Int) := ⟨y.toNat, by omega⟩
  rw [Int.toNat_natCast, Int.toNat_natCast] at K
  have GD0 := fun (k : Nat) => gcdD x y (w.drewN k) (by omega) (by omega)
  have hgp : 0 < Nat.gcd x y := Nat.gcd_pos_of_pos_left _ (by omega)
  have hgx : Nat.gcd x y ≤ x := Nat.gcd_le_left _ (by omega)
  obtain ⟨d, hd0⟩ : ∃ d, Nat.gcd x y = d := ⟨_, rfl⟩
  simp only [hd0] at GD0
  rw [hd0] at K hgp hgx
  have GD := Lib.hid GD0
  clear hh hd0 GD0
  go_enter Try.func44, Try.ntmps44
  go_wp2
  go_quiet ((go_at_call 45; exact Calls.quiet_of (GD.out _)))
  go_wp2
  go_ret
  refine ⟨ret_bool ?_, below_drewN (Below.refl _ _) _⟩
  rw [K.out]
  by_cases hd : d = 1
  · subst hd; rfl
  · have : (1 : Int) < (d : Int) := by omega
    simp [hd, this]
end Go.Proofs.Ytfkdkhoihlkgcab
