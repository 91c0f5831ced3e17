/- isBoth, TollBetween, BridgesBetween: spec. -/
import Derived.Test.YtdmgpbhbgeknfabIu
namespace Go.Proofs.Ytdmgpbhbgeknfab
set_option linter.unusedVariables false
open Go.RowKit

/-- there are isles and two islands with a way -/
def bothB (n : Int) (bs : List Br) (f t : Int) : Bool := askI n bs f && inB t 0 (n - 1) && same n.toNat bs f.toNat t.toNat
theorem bothB_in {n : Int} {bs : List Br} {f t : Int} (h : bothB n bs f t = true) : ∃ m i j : Nat, n = m ∧ f = i ∧ t = j ∧ 1 ≤ m ∧ m ≤ 7 ∧ bs.length ≤ 14 ∧ Good m bs ∧ i < m ∧ j < m ∧ same m bs i j = true := by
  unfold bothB at h
  rw [Bool.and_eq_true, Bool.and_eq_true, inB_iff] at h
  obtain ⟨m, i, rfl, rfl, h1, h2, h3, h4, h5⟩ := askI_in h.1.1
  have h6 := h.1.2
  refine ⟨m, i, t.toNat, rfl, rfl, by omega, h1, h2, h3, h4, h5, by omega, ?_⟩
  have := h.2
  simpa using this
set_option maxHeartbeats 2000000 in
theorem isBoth (n : Int) (v : Value) (bs : List Br) (f t : Int) (w : World) (h : RdB w v bs) (hl : bs.length ≤ 1048576) :
    Calls Try.prog 17 #[.agg #[.int .i64 n, v], .int .i64 f, .int .i64 t] w fun e w' => e = .returned (.bool (bothB n bs f t)) ∧ Below w.heap.size w w' := by
  have H := Lib.hid h
  obtain ⟨a, l, c, rfl, tt⟩ := h
  clear tt
  have E := Lib.hid (show bothB n bs f t = (askI n bs f && inB t 0 (n - 1) && same n.toNat bs f.toNat t.toNat) from rfl)
  cases hg : askI n bs f
  · rw [hg] at E
    have G := Lib.hid hg
    clear hg
    go_enter Try.func17, Try.ntmps17
    go_wp2_with fail
    refine (isAsked n _ bs f _ (H.out.below (by (repeat (first | exact Below.refl _ _ | (refine Below.alloc ?_ (by first | omega | (simp; try omega)) _) | apply Below.drew | apply below_drewN)))) hl).mono ?_
    rw [G.out]
    rintro e w1 ⟨rfl, hb⟩
    have HB := Lib.hid (Below.trans (by (repeat (first | exact Below.refl _ _ | (refine Below.alloc ?_ (by first | omega | (simp; try omega)) _) | apply Below.drew | apply below_drewN))) (hb.mono (by simp; try omega)) : Below w.heap.size w w1)
    clear hb
    go_wp2
    go_ret
    exact ⟨ret_bool (by rw [E.out]; rfl), HB.out⟩
  obtain ⟨m, i, rfl, rfl, hm1, hm7, hl14, hgd, him⟩ := askI_in hg
  rw [hg] at E
  have G := Lib.hid hg
  have HGd := Lib.hid hgd
  clear hg hgd
  cases hi : inB t 0 ((m : Int) - 1)
  · rw [hi] at E
    have GI := Lib.hid hi
    clear hi
    go_enter Try.func17, Try.ntmps17
    go_wp2_with fail
    refine (isAsked _ _ bs _ _ (H.out.below (by (repeat (first | exact Below.refl _ _ | (refine Below.alloc ?_ (by first | omega | (simp; try omega)) _) | apply Below.drew | apply below_drewN)))) hl).mono ?_
    rw [G.out]
    rintro e w1 ⟨rfl, hb⟩
    have HB := Lib.hid (Below.trans (by (repeat (first | exact Below.refl _ _ | (refine Below.alloc ?_ (by first | omega | (simp; try omega)) _) | apply Below.drew | apply below_drewN))) (hb.mono (by simp; try omega)) : Below w.heap.size w w1)
    obtain ⟨c0, c1, l0⟩ := ((Blk.new w #[.int .i64 m, .slice a l c] 31).below hb (by simp)).two
    clear hb
    go_wp2_with fail
    refine (l1In _ _ _ _).mono ?_
    rw [GI.out]
    rintro e w2 ⟨rfl, rfl⟩
    go_wp2
    go_ret
    exact ⟨ret_bool (by rw [E.out]; rfl), HB.out⟩
  · obtain ⟨j, rfl⟩ := Int.eq_ofNat_of_zero_le (inB_iff.1 hi).1
    have hjm : j < m := by have := (inB_iff.1 hi).2; omega
    rw [hi] at E
    have GI := Lib.hid hi
    have TR := Lib.hid (tl_reach HGd.out hm7 true hjm him)
    have TO := Lib.hid (tl_ok HGd.out true hjm)
    have hlow := TO.out.low i him
    unfold big at hlow
    clear hi
    go_enter Try.func17, Try.ntmps17
    go_wp2_with fail
    refine (isAsked _ _ bs _ _ (H.out.below (by (repeat (first | exact Below.refl _ _ | (refine Below.alloc ?_ (by first | omega | (simp; try omega)) _) | apply Below.drew | apply below_drewN)))) hl).mono ?_
    rw [G.out]
    rintro e w1 ⟨rfl, hb⟩
    have HB := Lib.hid (Below.trans (by (repeat (first | exact Below.refl _ _ | (refine Below.alloc ?_ (by first | omega | (simp; try omega)) _) | apply Below.drew | apply below_drewN))) (hb.mono (by simp; try omega)) : Below w.heap.size w w1)
    obtain ⟨c0, c1, l0⟩ := ((Blk.new w #[.int .i64 m, .slice a l c] 31).below hb (by simp)).two
    clear hb
    go_wp2_with fail
    refine (l1In _ _ _ _).mono ?_
    rw [GI.out]
    rintro e w2 ⟨rfl, rfl⟩
    go_wp2_with fail
    refine (isTolls m _ bs j true _ (H.out.below HB.out) HGd.out hm7 hl14 hjm).mono ?_
    rintro e w3 ⟨g, c2, rfl, hI, hb⟩
    have d1 := hI.cell TO.out.len.symm i him
    have HB3 := Lib.hid (HB.out.trans (hb.mono HB.out.size))
    have hiI : (i : Int) < m := by omega
    have E2 : Hid (bothB m bs i j = decide (gt (tl m bs true j) i < 1000000)) := Lib.hid (by
      rw [E.out, Bool.eq_iff_iff]
      have := TR.out
      unfold big at this
      simp [this])
    generalize gt (tl m bs true j) i = x at *
    clear hI hb c0 c1 l0
    go_wp2
    go_ret
    exact ⟨ret_bool (by rw [E2.out]), HB3.out⟩
/-- the least toll of a way and whether there is one; p: each bridge counts 1 -/
def tollV (n : Int) (bs : List Br) (p : Bool) (f t : Int) : Value := if bothB n bs f t then .tuple #[.int .i64 (gt (tl n.toNat bs p t.toNat) f.toNat), .bool true] else .tuple #[.int .i64 0, .bool false]
theorem tollV_no {n : Int} {bs : List Br} {p : Bool} {f t : Int} (h : bothB n bs f t = false) : tollV n bs p f t = .tuple #[.int .i64 0, .bool false] := by simp [tollV, h]
theorem tollV_yes {m i j : Nat} {bs : List Br} {p : Bool} (h : bothB m bs i j = true) : tollV m bs p i j = .tuple #[.int .i64 (gt (tl m bs p j) i), .bool true] := by simp [tollV, h]
theorem tollV_form (n : Int) (bs : List Br) (p : Bool) (f t : Int) : ∃ x y, tollV n bs p f t = .tuple #[.int .i64 x, .bool y] := by
  unfold tollV; split <;> exact ⟨_, _, rfl⟩
end Go.Proofs.Ytdmgpbhbgeknfab
