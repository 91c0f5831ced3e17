/- LeftByClues, NeedlessClues: impl. -/
import Derived.Test.YtnmeomcoeknjoacKzg
namespace Go.Proofs.Ytnmeomcoeknjoac
set_option linter.unusedVariables false
set_option maxRecDepth 100000
open Go.RowKit

def lftTo (n : Nat) (cs : List Br) (j : Nat) : List Int := (List.range j).map fun k => (cntS n (cs.take k) : Int)
theorem lftTo_s (n : Nat) (cs : List Br) (j : Nat) : lftTo n cs (j + 1) = lftTo n cs j ++ [(cntS n (cs.take j) : Int)] := by simp [lftTo, List.range_succ]
theorem lftTo_len (n : Nat) (cs : List Br) (j : Nat) : (lftTo n cs j).length = j := by simp [lftTo]
def lftL (m : Int) (cs : List Br) : List Int := if isPz m cs then lftTo m.toNat cs (cs.length + 1) else []
theorem lftL_no {m : Int} {cs : List Br} (h : isPz m cs = false) : lftL m cs = [] := by simp [lftL, h]
theorem lftL_yes {n : Nat} {cs : List Br} (h : isPz (n : Int) cs = true) : lftL (n : Int) cs = lftTo n cs (cs.length + 1) := by simp [lftL, h]
theorem lftL_len (m : Int) (cs : List Br) : (lftL m cs).length ≤ 7 := by
  unfold lftL
  split
  · rename_i h
    have := (isPz_iff.1 h)
    rw [lftTo_len]; omega
  · simp
def ndlTo (n : Nat) (cs : List Br) (j : Nat) : List Int := ((List.range j).filter fun k => decide (cntS n (cs.eraseIdx k) = cntS n cs)).map fun (k : Nat) => (k : Int)
theorem ndlTo_yes {n j : Nat} {cs : List Br} (h : cntS n (cs.eraseIdx j) = cntS n cs) : ndlTo n cs (j + 1) = ndlTo n cs j ++ [(j : Int)] := by simp [ndlTo, List.range_succ, List.filter_append, h]
theorem ndlTo_no {n j : Nat} {cs : List Br} (h : ¬ cntS n (cs.eraseIdx j) = cntS n cs) : ndlTo n cs (j + 1) = ndlTo n cs j := by simp [ndlTo, List.range_succ, List.filter_append, h]
theorem ndlTo_len (n : Nat) (cs : List Br) (j : Nat) : (ndlTo n cs j).length ≤ j := by
  unfold ndlTo
  rw [List.length_map]
  exact Nat.le_trans (List.length_filter_le _ _) (by simp)
def ndlL (m : Int) (cs : List Br) : List Int := if isPz m cs then ndlTo m.toNat cs cs.length else []
theorem ndlL_no {m : Int} {cs : List Br} (h : isPz m cs = false) : ndlL m cs = [] := by simp [ndlL, h]
theorem ndlL_yes {n : Nat} {cs : List Br} (h : isPz (n : Int) cs = true) : ndlL (n : Int) cs = ndlTo n cs cs.length := by simp [ndlL, h]
theorem ndlL_len (m : Int) (cs : List Br) : (ndlL m cs).length ≤ 7 := by
  unfold ndlL
  split
  · rename_i h
    have := (isPz_iff.1 h)
    have := ndlTo_len m.toNat cs cs.length
    omega
  · simp
def IntP (B : Nat) (l : List Int) (ok : Bool) (w : World) (e : Ending) (w' : World) : Prop := ∃ u, e = .returned (.tuple #[u, .bool ok]) ∧ Ints w' B u l ∧ Below w.heap.size w w'
theorem ints_nil_ (w : World) (B : Nat) : Ints w B (.slice none 0 0) [] := World.ownsRow_nil _ _ _ _
theorem ints_mono_ {w : World} {B B' : Nat} {v : Value} {l : List Int} (h : Ints w B v l) (hb : B' ≤ B) : Ints w B' v l := by
  refine ⟨h.1, ?_⟩
  rcases h.2 with h2 | ⟨g, cap, cur, e, h1, r⟩
  · exact .inl h2
  · exact .inr ⟨g, cap, cur, e, Nat.le_trans hb h1, r⟩
set_option maxHeartbeats 4000000 in
theorem implLft (m : Int) (v : Value) (cs : List Br) (w : World) (h : RdB w v cs) (hl : cs.length ≤ 1048576) :
    Calls Try.prog 17 #[.agg #[.int .i64 m, v]] w (IntP w.heap.size (lftL m cs) (isPz m cs) w) := by
  have HR := Lib.hid h
  obtain ⟨a, N, c, rfl, hN, _, _, hcell⟩ := h
  have HN := Lib.hid hN
  clear hN hcell
  cases hp : isPz m cs
  · have G := Lib.hid hp
    have E := Lib.hid (lftL_no hp)
    clear hp
    go_enter Try.func17, Try.ntmps17
    go_wp2_with (go_at_call 28; refine (implIsPz m _ cs _ (HR.out.below (by (repeat (first | exact Below.refl _ _ | (refine Below.alloc ?_ (by first | omega | (simp; try omega)) _) | apply Below.drew | apply below_drewN)))) hl).mono ?_; rw [G.out]; rintro e w1 ⟨rfl, hb⟩)
    go_ret2
    exact ⟨_, rfl, by rw [E.out]; exact ints_nil_ _ _, Below.trans (by (repeat (first | exact Below.refl _ _ | (refine Below.alloc ?_ (by first | omega | (simp; try omega)) _) | apply Below.drew | apply below_drewN))) (hb.mono (by simp; try omega))⟩
  · obtain ⟨n, rfl, hn, h6, hc⟩ := isPz_nat hp
    have G := Lib.hid hp
    have E := Lib.hid (lftL_yes hp)
    have X0 := Lib.hid (Blk.new w #[.int .i64 (n : Int), .slice a N c] 31)
    have C := Lib.hid (fun wx hr => riversOf n (.slice a N c) cs wx hr hn h6 hc)
    have hNb : N ≤ 6 := by have := HN.out; omega
    have H6 := Lib.hid h6
    clear hp hc h6
    go_enter Try.func17, Try.ntmps17
    go_wp2_with fail
    refine (implIsPz (n : Int) _ cs _ (HR.out.below (by (repeat (first | exact Below.refl _ _ | (refine Below.alloc ?_ (by first | omega | (simp; try omega)) _) | apply Below.drew | apply below_drewN)))) hl).mono ?_
    rw [G.out]
    rintro e w1 ⟨rfl, hb⟩
    have HX := Lib.hid (X0.out.below hb (by simp))
    have HB := Lib.hid (Below.trans (by (repeat (first | exact Below.refl _ _ | (refine Below.alloc ?_ (by first | omega | (simp; try omega)) _) | apply Below.drew | apply below_drewN))) (hb.mono (by simp; try omega)) : Below w.heap.size w w1)
    obtain ⟨x0, x1, xl⟩ := HX.out.two
    have hle := HB.out.size
    clear hb
    go_wp2_with fail
    refine (C.out _ (HR.out.below HB.out)).mono ?_
    rintro e w2 ⟨u, rfl, hI, ⟨g, gc, rfl⟩, hb2⟩
    obtain ⟨P, hP⟩ : ∃ P, P = 2 ^ n := ⟨_, rfl⟩
    have hP8 : P ≤ 256 := by rw [hP]; exact pow_8 hn.2
    rw [← hP] at hI ⊢
    have HP := Lib.hid hP
    have HI := Lib.hid hI
    have HX2 := Lib.hid (HX.out.below hb2 HX.out.lt)
    have HB2 := Lib.hid (HB.out.trans (hb2.mono hle))
    clear hI hb2 x0 x1 xl hle hP
    obtain ⟨x0, x1, xl⟩ := HX2.out.two
    go_wp2_with fail
    clear x0 x1 xl
    go_loopw [5, 6, 16] (fun o _ i wr => ∃ j : Nat, j ≤ N + 1 ∧ i = .int .i64 (j : Int) ∧ Hid (Ints wr w2.heap.size o (lftTo n cs j)) ∧ Hid (Below w2.heap.size w2 wr)) (fun _ _ i _ => N + 1 - (intOf i).toNat)
    case atStart => exact ⟨0, Nat.zero_le _, rfl, Lib.hid (ints_nil_ _ _), Lib.hid (Below.refl _ _)⟩
    case round =>
      obtain ⟨j, hj, rfl, HO, HQ⟩ := hrel
      have hqle := HQ.out.size
      have HBQ := Lib.hid (HB2.out.trans (HQ.out.mono HB2.out.size))
      by_cases hlt : j < N + 1
      · have hlt' : (j : Int) < (N : Int) + 1 := by omega
        have FC := Lib.hid (fun wx => firstClues j wx (by omega))
        have CF := Lib.hid (fun wx hI => countFit n P g gc w1.heap.size cs (first j) wx hP8 hI)
        have e := cntA_first (n := n) (m := j) H6.out (by have := HN.out; omega)
        rw [← HP.out] at e
        rw [e] at CF
        have ES := Lib.hid (lftTo_s n cs j)
        have hc1 := cntS_pow n (cs.take j)
        rw [← HP.out] at hc1
        have hll := lftTo_len n cs j
        clear e
        generalize cntS n (cs.take j) = cnt at *
        generalize lftTo n cs j = zs at *
        go_wp2_with fail
        refine (FC.out _).mono ?_
        rintro e w3 ⟨rfl, hb3⟩
        have HQ3 := Lib.hid (HQ.out.trans (hb3.mono hqle))
        have D3 := Lib.hid hb3
        clear hb3
        go_wp2_with fail
        refine (CF.out _ (HI.out.below HQ3.out)).mono ?_
        rintro e w4 ⟨rfl, hb4⟩
        have HQ4 := Lib.hid (HQ3.out.trans (hb4.mono HQ3.out.size))
        have HO4 := Lib.hid ((HO.out.below D3.out).below hb4)
        have hle4 := HQ4.out.size
        clear hb4
        go_wp2_with (at_builtin; refine wpList_app w4 rfl _ _ rfl w2.heap.size _ zs rfl HO4.out (cnt : Int) rfl (by omega) hle4 rfl ?_; intro v' w5 hI5 hb5 hg5; have HO5 := Lib.hid hI5; have HQ5 := Lib.hid (HQ4.out.trans hb5); clear hI5 hb5 hg5)
        go_roundw
        case rel => exact ⟨j + 1, by omega, by go_num, Lib.hid (by rw [ES.out]; exact HO5.out), HQ5⟩
        case measure => (simp [intOf]; try omega)
      · obtain rfl : j = N + 1 := by omega
        have HE := Lib.hid (show lftL (n : Int) cs = lftTo n cs (N + 1) by rw [E.out, HN.out])
        go_wp2
        go_ret2
        exact ⟨_, rfl, by rw [HE.out]; exact ints_mono_ HO.out HB2.out.size, HBQ.out⟩
end Go.Proofs.Ytnmeomcoeknjoac
