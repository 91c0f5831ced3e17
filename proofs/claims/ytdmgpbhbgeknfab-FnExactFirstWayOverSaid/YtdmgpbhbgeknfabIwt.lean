/- FirstWayOver: spec. -/
import Derived.Test.YtdmgpbhbgeknfabIws
namespace Go.Proofs.Ytdmgpbhbgeknfab
set_option linter.unusedVariables false
open Go.RowKit

theorem isWay (m : Nat) (v : Value) (bs : List Br) (dst : Nat) (hg : Good m bs) (hm : m ≤ 7) (hl : bs.length ≤ 14) (f : Nat) :
    ∀ (way : List Nat) (at_ : Nat) (vb : Value) (left : Int) (w : World), RdB w v bs → m ≤ way.length + f → way.Nodup → (∀ x ∈ way, x < m) → way.getLast? = some at_ → 0 ≤ left → left ≤ 7000 → Rd w vb (idx way) →
      Calls Try.prog 18 #[.agg #[.int .i64 m, v], vb, .int .i64 dst, .int .i64 left] w (WayS (wayF m bs dst f way at_ left) w) := by
  induction f with
  | zero =>
    intro way at_ vb left w h hf hn hlt hat hl0 hl7 hI
    have hmem := List.mem_of_getLast? hat
    refine isWayStep m v bs dst hg hm hl way at_ vb left w h (Nat.le_trans (nodup_le hn hlt) hm) hat (hlt _ hmem) hl0 hl7 hI (fun _ => none) _ (fun h1 h2 => ?_) (fun h1 h2 => ?_) (fun hc => ?_) (fun next hnx hno _ => absurd (all_on hn hlt (by omega) hnx) hno)
    · subst h1 h2; exact wayF_end
    · subst h1; exact wayF_dead hmem (fun h => h2 h.2)
    · rw [wayF_0 (fun h => hc h.1)]
      exact (scanW_none _ _ fun k => by unfold fW; split <;> rfl).symm
  | succ f ih =>
    intro way at_ vb left w h hf hn hlt hat hl0 hl7 hI
    have hmem := List.mem_of_getLast? hat
    refine isWayStep m v bs dst hg hm hl way at_ vb left w h (Nat.le_trans (nodup_le hn hlt) hm) hat (hlt _ hmem) hl0 hl7 hI (fun next => wayF m bs dst f (way ++ [next]) next (left - ltl bs at_ next)) _ (fun h1 h2 => ?_) (fun h1 h2 => ?_) (fun hc => ?_) (fun next hnx hno hle u w1 hB1 hI1 => ?_)
    · subst h1 h2; exact wayF_end
    · subst h1; exact wayF_dead hmem (fun h => h2 h.2)
    · exact wayF_s (fun h => hc h.1)
    · have := ltl_in hg at_ next
      refine ih (way ++ [next]) next u _ w1 (h.below hB1) (by simp; omega) ?_ ?_ (getLast_snoc' _ _) (by omega) (by omega) hI1
      · rw [List.nodup_append]
        exact ⟨hn, by simp, fun x hx y hy => by simp at hy; subst hy; exact fun e => hno (e ▸ hx)⟩
      · intro x hx
        rcases List.mem_append.1 hx with hx | hx
        · exact hlt x hx
        · simp at hx; omega
theorem rd_one {w : World} {b i : Nat} (h : w.cell? ⟨b, 0, none⟩ = some (.int .i64 i)) (hb : b < w.heap.size) : Rd w (.slice (some ⟨b, 0, none⟩) 1 1) (idx [i]) :=
  .inr ⟨b, 0, 1, rfl, hb, Nat.le_refl _, by unfold maxLen; omega, fun j hj => by
    have : j = 0 := by simp [idx] at hj; omega
    subst this
    simpa [idx, gt] using h⟩
theorem rd_blk {w : World} {b i : Nat} (h : Blk w b #[.int .i64 i]) : Rd w (.slice (some ⟨b, 0, none⟩) 1 1) (idx [i]) := rd_one (h.cell 0) h.lt
set_option maxRecDepth 100000 in
set_option maxHeartbeats 4000000 in
theorem specWay (n : Int) (v : Value) (bs : List Br) (f t : Int) (w : World) (h : RdB w v bs) (hl : bs.length ≤ 1048576) :
    Calls Try.prog 6 #[.agg #[.int .i64 n, v], .int .i64 f, .int .i64 t] w fun e w' => ∃ u, e = .returned (.tuple #[u, .bool (bothB n bs f t)]) ∧ Ints w' w.heap.size u (idx (wayZ n bs f t)) ∧ Below w.heap.size w w' := by
  have H := Lib.hid h
  obtain ⟨a, l, c, rfl, tt⟩ := h
  clear tt
  cases hg : bothB n bs f t
  · have Z := Lib.hid (wayZ_no hg)
    have G := Lib.hid hg
    clear hg
    go_enter Try.func6, Try.ntmps6
    go_wp2_with fail
    refine (isBoth n _ bs f t _ (H.out.below (by (repeat (first | exact Below.refl _ _ | (refine Below.alloc ?_ (by first | omega | (simp; try omega)) _) | apply Below.drew | apply below_drewN)))) hl).mono ?_
    rw [G.out]
    rintro e w1 ⟨rfl, hb⟩
    have HB := Lib.hid (Below.trans (by (repeat (first | exact Below.refl _ _ | (refine Below.alloc ?_ (by first | omega | (simp; try omega)) _) | apply Below.drew | apply below_drewN))) (hb.mono (by simp; try omega)) : Below w.heap.size w w1)
    clear hb
    go_wp2
    go_ret2
    exact ⟨_, rfl, by rw [Z.out]; exact World.ownsRow_nil _ _ _ _, HB.out⟩
  · obtain ⟨m, i, j, rfl, rfl, rfl, hm1, hm7, hl14, hgd, hi, hj, hs⟩ := bothB_in hg
    have Z := Lib.hid (wayZ_yes hg)
    have G := Lib.hid hg
    obtain ⟨r, hr⟩ := wayF_least hgd hm7 hi hj hs
    have hT0 : 0 ≤ gt (tl m bs false j) i ∧ gt (tl m bs false j) i ≤ 7000 := by
      have h1 := (tl_ok hgd false hj).wk i hi ((tl_reach hgd hm7 false hj hi).2 hs)
      obtain ⟨T, hT⟩ := Wk.of_grp hgd (p := false) hj hi hs
      have h2 := tl_small hgd false hj hi hT
      exact ⟨h1.pos hgd, by omega⟩
    have HGd := Lib.hid hgd
    have HR := Lib.hid hr
    have hiI : (i : Int) < m := by omega
    clear hg hgd hs hr
    go_enter Try.func6, Try.ntmps6
    go_wp2_with fail
    refine (isBoth _ _ bs _ _ _ (H.out.below (by (repeat (first | exact Below.refl _ _ | (refine Below.alloc ?_ (by first | omega | (simp; try omega)) _) | apply Below.drew | apply below_drewN)))) hl).mono ?_
    rw [G.out]
    rintro e w1 ⟨rfl, hb⟩
    have HB := Lib.hid (Below.trans (by (repeat (first | exact Below.refl _ _ | (refine Below.alloc ?_ (by first | omega | (simp; try omega)) _) | apply Below.drew | apply below_drewN))) (hb.mono (by simp; try omega)) : Below w.heap.size w w1)
    have XB := Lib.hid ((Blk.new w #[.int .i64 m, .slice a l c] 31).below hb (by simp))
    obtain ⟨c0, c1, l0⟩ := XB.out.two
    have hsz := HB.out.size
    clear hb
    go_wp2_with fail
    have V1 := Lib.hid XB.out.drew
    have BD := Lib.hid HB.out.drew
    have NB := Lib.hid (Blk.new w1 #[.int .i64 i] 3).drew
    have hdA : Below w1.heap.size w1 (w1.alloc (.cells #[.int .i64 i] 3)).drew := by (repeat (first | exact Below.refl _ _ | (refine Below.alloc ?_ (by first | omega | (simp; try omega)) _) | apply Below.drew | apply below_drewN))
    have BA := Lib.hid (HB.out.trans (hdA.mono hsz))
    have XA := Lib.hid (XB.out.below hdA XB.out.lt)
    clear hdA
    go_region_with (first
      | (go_at_call 19; refine (isTolls m _ bs j false _ (H.out.below (HB.out.trans (Below.mono (by (repeat (first | exact Below.refl _ _ | (refine Below.alloc ?_ (by first | omega | (simp; try omega)) _) | apply Below.drew | apply below_drewN)) : Below w1.heap.size w1 _) hsz))) HGd.out hm7 hl14 hj).mono ?_; rintro e w2 ⟨g, c2, rfl, hI2, hb2⟩; have tc := hI2.cell (by rw [tl_len]) i hi; have gw := hI2.blk.2; have D2 := Lib.hid (Below.trans (by (repeat (first | exact Below.refl _ _ | (refine Below.alloc ?_ (by first | omega | (simp; try omega)) _) | apply Below.drew | apply below_drewN))) (hb2.mono (by first | omega | exact Nat.le_refl _ | (simp; try omega))) : Below w1.heap.size w1 w2); (try (have N2 := Lib.hid (NB.out.below hb2 NB.out.lt))); have B2 := Lib.hid (HB.out.trans (D2.out.mono hsz)); have X2 := Lib.hid (XB.out.below D2.out XB.out.lt); obtain ⟨p0, p1, p2⟩ := X2.out.two; clear hI2 hb2)
      | (go_at_call 18; (with_reducible refine (isWay m _ bs j HGd.out hm7 hl14 6 [i] i (.slice (some ⟨w1.heap.size, 0, none⟩) 1 1) _ w2 (H.out.below B2.out) (by simp; omega) (by simp) (by simp; omega) (by simp) hT0.1 hT0.2 (rd_blk N2.out)).mono ?_); rw [HR.out]; rintro e w4 hW; obtain ⟨u4, rfl, hI4, hb4⟩ := wayS_some' hW; clear hW; have B4 := Lib.hid (B2.out.trans (hb4.mono B2.out.size)); have I4 := Lib.hid (ints_mono' hI4 B2.out.size); clear hI4 hb4)
      | (go_at_call 18; (with_reducible refine (isWay m _ bs j HGd.out hm7 hl14 6 [i] i (.slice (some ⟨w2.heap.size, 0, none⟩) 1 1) _ (w2.alloc (.cells #[.int .i64 i] 3)) (H.out.below (B2.out.alloc B2.out.size _)) (by simp; omega) (by simp) (by simp; omega) (by simp) hT0.1 hT0.2 (rd_blk (Blk.new w2 #[.int .i64 i] 3))).mono ?_); rw [HR.out]; rintro e w4 hW; obtain ⟨u4, rfl, hI4, hb4⟩ := wayS_some' hW; clear hW; have BB := Lib.hid (B2.out.alloc B2.out.size (.cells #[.int .i64 i] 3)); have B4 := Lib.hid (BB.out.trans (hb4.mono BB.out.size)); have I4 := Lib.hid (ints_mono' hI4 BB.out.size); clear hI4 hb4)
      | fail)
    all_goals
      have Z2 := Lib.hid (show wayZ m bs i j = r by rw [Z.out, HR.out]; rfl)
      go_wp2
      go_ret2
      exact ⟨_, rfl, by rw [Z2.out]; exact I4.out, B4.out⟩
end Go.Proofs.Ytdmgpbhbgeknfab
