/- Where one can be an hour later: spec.tdStep. -/
import Derived.Test.YtmlokapbholeoabTa
import Derived.Test.YtmlokapbholeoabBo
import Derived.Test.YtmlokapbholeoabTv
import Derived.Deep.CutRange
import Derived.Deep.DeepCutAuto
namespace Go.Proofs.Ytmlokapbholeoab
set_option linter.unusedVariables false
open Go.RowKit

/-- whether one of i places from lo on is told -/
def orF (f : Nat → Bool) (lo : Nat) : Nat → Bool
  | 0 => false
  | i + 1 => orF f lo i || f (lo + i)
theorem orF_iff {f : Nat → Bool} {lo : Nat} : ∀ {i : Nat}, orF f lo i = true ↔ ∃ j, j < i ∧ f (lo + j) = true
  | 0 => by simp [orF]
  | i + 1 => by
    simp only [orF, Bool.or_eq_true, orF_iff (i := i)]
    constructor
    · rintro (⟨j, hj, h⟩ | h)
      · exact ⟨j, by omega, h⟩
      · exact ⟨i, by omega, h⟩
    · rintro ⟨j, hj, h⟩
      by_cases e : j = i
      · subst e; exact .inr h
      · exact .inl ⟨j, by omega, h⟩
theorem orF_near {h : ByteArray} {f : Nat → Bool} {L p : Nat} : orF f (p - L) (cnt h L p) = (List.range (h.size + 2)).any fun q => f q && near L p q := by
  rw [Bool.eq_iff_iff, orF_iff, List.any_eq_true]
  constructor
  · rintro ⟨j, hj, hf⟩
    refine ⟨p - L + j, List.mem_range.2 (by unfold cnt at hj; omega), ?_⟩
    rw [hf, near_iff.2 (by unfold cnt at hj; omega)]; rfl
  · rintro ⟨q, hq, hf⟩
    have hq' := List.mem_range.1 hq
    simp only [Bool.and_eq_true] at hf
    have hn := near_iff.1 hf.2
    refine ⟨q - (p - L), by unfold cnt; omega, ?_⟩
    rw [show p - L + (q - (p - L)) = q from by omega]; exact hf.1
/-- whether one can be at a place at the hour x, from where one can be before -/
def stF (h t : ByteArray) (f : Nat → Bool) (L x p : Nat) : Bool := dry h t p x && orF f (p - L) (cnt h L p)
theorem stF_rc (h t : ByteArray) (L s k p : Nat) : stF h t (rc h t L s k) L (s + k + 1) p = rc h t L s (k + 1) p := by
  unfold stF; rw [orF_near]; rfl
/-- the first p places are done, the place p has asked m -/
def nbF (h t : ByteArray) (f : Nat → Bool) (L x p m : Nat) (j : Nat) : Bool := if j < p then stF h t f L x j else if j = p then orF f (p - L) m else false
theorem nbF_put {h t : ByteArray} {f : Nat → Bool} {L x p m : Nat} (i : Nat) : (if i = p then (orF f (p - L) m || f (p - L + m)) else nbF h t f L x p m i) = nbF h t f L x p (m + 1) i := by
  unfold nbF
  by_cases e : i = p
  · rw [if_pos e, if_neg (by omega), if_pos e]; rfl
  · rw [if_neg e, if_neg e]; simp only [e, if_false]
theorem nbF_end {h t : ByteArray} {f : Nat → Bool} {L x p m : Nat} (e : stF h t f L x p = orF f (p - L) m) (i : Nat) : nbF h t f L x p m i = nbF h t f L x (p + 1) 0 i := by
  unfold nbF
  by_cases c : i < p
  · simp only [c, show i < p + 1 by omega, if_true]
  · by_cases c2 : i = p
    · subst c2; rw [if_neg c, if_pos rfl, if_pos (by omega), e]
    · rw [if_neg c, if_neg c2, if_neg (by omega)]; simp [orF]
theorem l1MostU (y : Int) (lo : Nat) (w : World) (h : (y < 0 ∧ lo = 0) ∨ (0 ≤ y ∧ y = lo)) :
    Calls Try.prog 33 #[.int .i64 0, .int .i64 y] w fun e w' => e = .returned (.int .i64 lo) ∧ w = w' := by
  rcases h with ⟨h, rfl⟩ | ⟨h, rfl⟩
  · go_enter Try.func33, Try.ntmps33
    go_wp2
    go_ret
    exact ⟨rfl, rfl⟩
  · have h2 : ¬ ((lo : Int) < 0) := by omega
    go_enter Try.func33, Try.ntmps33
    go_wp2
    go_ret
    exact ⟨rfl, rfl⟩
set_option maxHeartbeats 4000000 in
theorem tdStep (h t : ByteArray) (f : Nat → Bool) (l x c fr : Nat) (X : Int) (w : World) (hX : X = x) (hg : good h t = true) (hfr : fr = h.size + 1) (hl : l ≤ 100) (hx : x ≤ 100000)
    (hcl : c < w.heap.size) (hc : ∀ j, j < fr + 1 → w.cell? ⟨c, j, none⟩ = some (.bool (f j))) :
    Calls Try.prog 43 #[.string h, .string t, .int .i64 (l : Int), .int .i64 X, .slice (some ⟨c, 0, none⟩) (fr + 1) (fr + 1)] w fun e w' => ∃ d, e = .returned (.slice (some ⟨d, 0, none⟩) (fr + 1) (fr + 1)) ∧
      Bools w' w.heap.size (.slice (some ⟨d, 0, none⟩) (fr + 1) (fr + 1)) (fl (fr + 1) (stF h t f l (x + 1))) ∧ Below w.heap.size w w' := by
  obtain ⟨⟨z1, z2, _⟩, ⟨z3, z4, _⟩⟩ := good_in hg
  have hf1 : 2 ≤ fr ∧ fr ≤ 15 := by omega
  have HG := Lib.hid hg
  have HX := Lib.hid hX
  have HC := Lib.hid hc
  have HF := Lib.hid hfr
  have hxb : 0 ≤ X ∧ X ≤ 100000 := by omega
  clear hg hX hc hfr
  go_enter Try.func43, Try.ntmps43
  go_wp2_with (at_make; refine wpList_mkB rfl _ _ rfl w.heap.size (fr + 1) _ rfl rfl (by simp) (by omega) (Nat.le_refl _) ?_; intro w3 hI3 hb3 hg3)
  obtain ⟨d, hd⟩ : ∃ d, d = w.heap.size := ⟨_, rfl⟩
  rw [← hd] at hI3 hb3 ⊢
  rw [fl_rep] at hI3
  have I0 : Bools w3 d (.slice (some ⟨d, 0, none⟩) (fr + 1) (fr + 1)) (fl (fr + 1) (nbF h t f l (x + 1) 0 0)) := by
    rw [show fl (fr + 1) (nbF h t f l (x + 1) 0 0) = fl (fr + 1) (fun _ => false) from fl_ext fun j _ => by unfold nbF; simp [orF]]; exact hI3
  have HI1 := Lib.hid I0
  have HB3 := Lib.hid hb3
  have HD := Lib.hid hd
  rw [← hd] at hcl
  clear hI3 hb3 hg3 I0 hd
  go_loopw [19] (fun i wr => ∃ p : Nat, p ≤ fr + 1 ∧ i = .int .i64 p ∧ Hid (Bools wr d (.slice (some ⟨d, 0, none⟩) (fr + 1) (fr + 1)) (fl (fr + 1) (nbF h t f l (x + 1) p 0))) ∧ Hid (Below d w wr)) (fun i _ => fr + 1 - (intOf i).toNat)
  case atStart => exact ⟨0, by omega, rfl, HI1, HB3⟩
  case round =>
    clear HI1 HB3
    obtain ⟨p, hp, rfl, HI1, HB3⟩ := hrel
    by_cases hlp : p < fr + 1
    · obtain ⟨lo, hlo⟩ : ∃ lo, lo = p - l := ⟨_, rfl⟩
      have HLO2 := Lib.hid (show ((p : Int) - l < 0 ∧ lo = 0) ∨ (0 ≤ (p : Int) - l ∧ (p : Int) - l = lo) by omega)
      have HLO := Lib.hid hlo
      have hlp' : (p : Int) < fr + 1 := by omega
      have hlo3 : lo ≤ p := by omega
      obtain ⟨n, hn⟩ : ∃ n, n = cnt h l p := ⟨_, rfl⟩
      have HN := Lib.hid hn
      have hln : ∀ m, (lo + m < fr + 1 ∧ lo + m ≤ p + l) ↔ m < n := by intro m; rw [hlo, hn]; unfold cnt; have := HF.out; omega
      have HLN := Lib.hid hln
      clear hlo hn hln
      go_wp2_with (go_at_call 33; refine (l1MostU _ lo _ HLO2.out).mono ?_; rintro e w' ⟨rfl, rfl⟩)
      obtain ⟨wp, rfl⟩ : ∃ wp : World, wp = wr := ⟨_, rfl⟩
      go_loopw [13] (fun b wr => ∃ m : Nat, m ≤ n ∧ b = .int .i64 ((lo : Int) + m) ∧ Hid (dry h t p (x + 1) = true ∨ m = 0) ∧ Hid (Bools wr d (.slice (some ⟨d, 0, none⟩) (fr + 1) (fr + 1)) (fl (fr + 1) (nbF h t f l (x + 1) p m))) ∧ Hid (Below d w wr)) (fun b _ => lo + n - (intOf b).toNat)
      case atStart => exact ⟨0, Nat.zero_le _, by simp, Lib.hid (.inr rfl), HI1, HB3⟩
      case round =>
        clear HI1 HB3
        obtain ⟨m, hm, rfl, hdm, HI1, HB3⟩ := hrel
        by_cases hgo : m < n
        · have hg0 := (HLN.out m).2 hgo
          have hg1 : (lo : Int) + m < fr + 1 := by omega
          have hg2 : (lo : Int) + m ≤ (p : Int) + l := by omega
          have DR := Lib.hid (fun wx => tdDry h t p (x + 1) (p : Int) (X + 1) wx rfl (by have := HX.out; omega) HG.out (by have := HF.out; omega) (by omega))
          cases hdr : dry h t p (x + 1)
          · have hm0 : m = 0 := by
              rcases hdm.out with h1 | h1
              · rw [hdr] at h1; exact Bool.noConfusion h1
              · exact h1
            subst hm0
            rw [hdr] at DR
            have E := Lib.hid (fun i => nbF_end (h := h) (t := t) (f := f) (L := l) (x := x + 1) (p := p) (m := 0) (by simp [stF, hdr, orF]) i)
            have I2 := Lib.hid (show Bools wr d _ (fl (fr + 1) (nbF h t f l (x + 1) (p + 1) 0)) by rw [← fl_ext fun i _ => E.out i]; exact HI1.out)
            clear hdm hdr
            go_wp2_with (go_at_call 48; refine (DR.out _).mono ?_; rintro e w4 ⟨rfl, r, rfl⟩)
            go_roundw
            case rel => exact ⟨p + 1, by omega, by go_num, Lib.hid (I2.out.below (below_drewN (Below.refl _ _) _)), Lib.hid (below_drewN HB3.out _)⟩
            case measure => (simp [intOf]; try omega)
          · rw [hdr] at DR
            have E := Lib.hid (fun i => nbF_put (h := h) (t := t) (f := f) (L := l) (x := x + 1) (p := p) (m := m) i)
            have hn1 : nbF h t f l (x + 1) p m p = orF f (p - l) m := by unfold nbF; rw [if_neg (by omega), if_pos rfl]
            have N1 := Lib.hid hn1
            have hpi : (0 : Int) ≤ p := by omega
            have hmi : (0 : Int) ≤ (lo : Int) + m := by omega
            have hmn : ((lo : Int) + m).toNat = lo + m := by omega
            have HDR := Lib.hid hdr
            have HG0 := Lib.hid hg0
            clear hdm hdr hn1 hg0
            go_wp2_with fail
            refine (DR.out _).mono ?_
            rintro e w4 ⟨rfl, r, hw4⟩
            have B4 := Lib.hid (by rw [hw4]; exact below_drewN HB3.out _ : Below d w w4)
            have BW := Lib.hid (by rw [hw4]; exact below_drewN (Below.refl _ _) _ : Below wr.heap.size wr w4)
            clear hw4
            have HI4 := HI1.out.below BW.out
            have cp := HI4.at_ hlp
            have fp := HI4.fr_ p
            have cq : w4.cell? ⟨c, lo + m, none⟩ = some (.bool (f (lo + m))) := (B4.out.cell (p := ⟨c, lo + m, none⟩) hcl).trans (HC.out _ (by have := HG0.out; omega))
            rw [N1.out] at cp
            have S := HI4.put p (orF f (p - l) m || f (p - l + m))
            rw [fl_ext fun i _ => E.out i] at S
            have S1 := Lib.hid S.1
            have hdw := HI4.blk
            have S3 := Lib.hid (B4.out.grown S.2 (by have := B4.out.size; have := HD.out; omega) (by intro j hj; cases hj; exact Nat.le_refl _))
            have hlo0 := HLO.out
            rw [← hlo0] at cp S1 S3
            clear HI4 S HI1 HB3 hlo0 E N1
            generalize f (lo + m) = y at *
            generalize orF f lo m = u at *
            cases u <;> cases y
            all_goals
              go_wp2
              go_roundw
              case rel => exact ⟨m + 1, by omega, by go_num, Lib.hid (.inl (by first | exact HDR.out | trivial)), S1, S3⟩
              case measure => (simp [intOf]; try omega)
        · have E := Lib.hid (fun i => nbF_end (h := h) (t := t) (f := f) (L := l) (x := x + 1) (p := p) (m := m) (by
            obtain rfl : m = n := by omega
            cases hdr : dry h t p (x + 1)
            · rcases hdm.out with h1 | h1
              · rw [hdr] at h1; exact Bool.noConfusion h1
              · rw [h1]; simp [stF, hdr, orF]
            · rw [HN.out]; simp [stF, hdr]) i)
          have I2 := Lib.hid (show Bools wr d _ (fl (fr + 1) (nbF h t f l (x + 1) (p + 1) 0)) by rw [← fl_ext fun i _ => E.out i]; exact HI1.out)
          have hng : ¬ (lo + m < fr + 1 ∧ lo + m ≤ p + l) := fun c => hgo ((HLN.out m).1 c)
          by_cases hg2 : (lo : Int) + m < fr + 1
          · have hg3 : ¬ ((lo : Int) + m ≤ (p : Int) + l) := by omega
            clear hng hgo hdm
            go_wp2
            go_roundw
            case rel => exact ⟨p + 1, by omega, by go_num, I2, HB3⟩
            case measure => (simp [intOf]; try omega)
          · clear hng hgo hdm
            go_wp2
            go_roundw
            case rel => exact ⟨p + 1, by omega, by go_num, I2, HB3⟩
            case measure => (simp [intOf]; try omega)
    · obtain rfl : p = fr + 1 := by omega
      have I2 := Lib.hid (show Bools wr d _ (fl (fr + 1) (stF h t f l (x + 1))) from (by
        rw [← fl_ext (f := nbF h t f l (x + 1) (fr + 1) 0) fun i hi => by unfold nbF; rw [if_pos hi]]; exact HI1.out))
      have hlp' : ¬ ((fr : Int) + 1 < (fr : Int) + 1) := by omega
      clear HI1
      go_wp2
      go_ret
      exact ⟨_, rfl, by rw [← HD.out]; exact I2.out, by rw [← HD.out]; exact HB3.out⟩
end Go.Proofs.Ytmlokapbholeoab
