/- BridgesBetween: impl. -/
import Derived.Test.YtihdajiikonijabIx2
import Derived.Test.YtihdajiikonijabIa
import Derived.StillTailTactics
namespace Go.Proofs.Ytihdajiikonijab
set_option linter.unusedVariables false
open Go.RowKit

/-- each toll one -/
def ev (bs : List Br) : List Br := bs.map fun b => (b.1, b.2.1, 1)
theorem ev_len (bs : List Br) : (ev bs).length = bs.length := by simp [ev]
theorem Good.ev {m : Nat} {bs : List Br} (h : Good m bs) : Good m (ev bs) := by
  intro b hb
  simp only [Go.Proofs.Ytihdajiikonijab.ev, List.mem_map] at hb
  obtain ⟨c, hc, rfl⟩ := hb
  have := h c hc
  exact ⟨this.1, this.2.1, this.2.2.1, by show (0 : Int) ≤ 1; omega, by show (1 : Int) ≤ 1000; omega⟩
theorem lab_ev (m : Nat) (bs : List Br) : lab m (ev bs) = lab m bs := by
  unfold lab ev; rw [List.foldl_map]; rfl
theorem same_ev (m : Nat) (bs : List Br) (i j : Nat) : same m (ev bs) i j = same m bs i j := by
  unfold same; rw [lab_ev]
theorem tl_ev (m : Nat) (bs : List Br) (s : Nat) : tl m (ev bs) false s = tl m bs true s := by
  have r1 : ∀ out, rnd false (ev bs) out = rnd true bs out := by
    intro out; unfold rnd ev; rw [List.foldl_map]; rfl
  have r2 : ∀ k out, rnds false (ev bs) k out = rnds true bs k out := by
    intro k out
    induction k with
    | zero => rfl
    | succ k ih => unfold rnds; rw [r1, ih]
  unfold tl; rw [r2]
theorem areIs_ev {n : Int} {bs : List Br} (h : areIs n bs = true) : areIs n (ev bs) = true := by
  obtain ⟨h1, h2, h3, h4⟩ := areIs_iff.1 h
  refine areIs_iff.2 ⟨h1, h2, by rw [ev_len]; exact h3, fun b hb => ?_⟩
  simp only [ev, List.mem_map] at hb
  obtain ⟨c, hc, rfl⟩ := hb
  have := isBr_iff.1 (h4 c hc)
  exact isBr_iff.2 ⟨this.1, this.2.1, this.2.2.1, by show (0 : Int) ≤ 1; omega, by show (1 : Int) ≤ 1000; omega⟩
theorem tollV_ev {n : Int} {bs : List Br} (h : areIs n bs = true) (f t : Int) : tollV n (ev bs) false f t = tollV n bs true f t := by
  unfold tollV bothB askI
  rw [areIs_ev h, h, same_ev, tl_ev]
/-- the first k tolls are one -/
def evTo (bs : List Br) (k : Nat) : List Br := (ev bs).take k ++ bs.drop k
theorem evTo_len (bs : List Br) (k : Nat) (h : k ≤ bs.length) : (evTo bs k).length = bs.length := by simp [evTo, ev]; omega
theorem evTo_0 (bs : List Br) : evTo bs 0 = bs := by simp [evTo]
theorem evTo_all (bs : List Br) : evTo bs bs.length = ev bs := by
  unfold evTo; rw [List.drop_length, List.append_nil, List.take_of_length_le (by rw [ev_len]; exact Nat.le_refl _)]
theorem evTo_get {bs : List Br} {k : Nat} (h : k < bs.length) : gb (evTo bs k) k = gb bs k := by
  have hl : ((ev bs).take k).length = k := by simp [ev]; omega
  unfold gb evTo
  rw [List.getD_eq_getElem?_getD, List.getElem?_append_right (by omega), hl, Nat.sub_self, List.getElem?_drop, Nat.add_zero, ← List.getD_eq_getElem?_getD]
theorem evTo_set {bs : List Br} {k : Nat} (h : k < bs.length) : (evTo bs k).set k ((gb bs k).1, (gb bs k).2.1, 1) = evTo bs (k + 1) := by
  have hl : ((ev bs).take k).length = k := by simp [ev]; omega
  have e1 : (ev bs).take (k + 1) = (ev bs).take k ++ [((gb bs k).1, (gb bs k).2.1, 1)] := by
    rw [List.take_succ_eq_append_getElem (by rw [ev_len]; exact h)]
    simp [ev, gb, h]
  unfold evTo
  rw [List.set_append_right _ _ (by omega), hl, Nat.sub_self, e1, List.append_assoc, List.drop_eq_getElem_cons h]
  rfl
theorem bcs_set2 {bs : List Br} {j : Nat} (hj : j < bs.length) (z : Int) : (bcs bs).set (j * 3 + 2) (.int .i64 z) = bcs (bs.set j ((gb bs j).1, (gb bs j).2.1, z)) := by
  have h := bcs_at bs j hj
  rw [← bcs_set]
  have e0 : (bcs bs).set (j * 3) (.int .i64 (gb bs j).1) = bcs bs := by
    apply List.ext_getElem?
    intro i
    rw [List.getElem?_set]
    split
    · rename_i e; subst e; rw [h.1]; simp [(List.getElem?_eq_some_iff.1 h.1).1]
    · rfl
  have e1 : (bcs bs).set (j * 3 + 1) (.int .i64 (gb bs j).2.1) = bcs bs := by
    apply List.ext_getElem?
    intro i
    rw [List.getElem?_set]
    split
    · rename_i e; subst e; rw [h.2.1]; simp [(List.getElem?_eq_some_iff.1 h.2.1).1]
    · rfl
  rw [e0, e1]
theorem Brs.set2 {w : World} {B g n cap : Nat} {bs : List Br} (h : Brs w B (.slice (some ⟨g, 0, none⟩) n cap) bs) (hn : n = bs.length) (j : Nat) (hj : j < n) (z : Int) :
    Brs (w.setCell ⟨g, j * 3 + 2, none⟩ (.int .i64 z)) B (.slice (some ⟨g, 0, none⟩) n cap) (bs.set j ((gb bs j).1, (gb bs j).2.1, z)) ∧ w.grownBy (w.setCell ⟨g, j * 3 + 2, none⟩ (.int .i64 z)) (some g) := by
  subst hn
  have h1 := World.ownsRow.stored h (j * 3 + 2) (.int .i64 z)
  refine ⟨?_, h1.2⟩
  unfold Brs
  rw [List.length_set, ← bcs_set2 hj]
  exact h1.1
theorem Brs.some_ {w : World} {B : Nat} {v : Value} {bs : List Br} (h : Brs w B v bs) (hn : 0 < bs.length) : ∃ g cap, v = .slice (some ⟨g, 0, none⟩) bs.length cap := by
  rcases h.2 with ⟨rfl, h0⟩ | ⟨g, cap, cur, rfl, _⟩
  · omega
  · exact ⟨_, _, rfl⟩
theorem Brs.len {w : World} {B : Nat} {v : Value} {bs : List Br} (h : Brs w B v bs) : ∃ a c, v = .slice a bs.length c := by
  rcases h.2 with ⟨rfl, h0⟩ | ⟨g, cap, cur, rfl, _⟩
  · exact ⟨_, _, by rw [h0]⟩
  · exact ⟨_, _, rfl⟩

theorem brs_fin1 {w w2 : World} {B : Nat} {n : Int} {u : Value} {bs : List Br} {T : TypeId} (hB : Below w.heap.size w w2) (hI : Brs w2 B u bs) (hz : w.heap.size ≤ B) (lt : ∀ k, u.ownBlock = some k → B ≤ k ∧ k < w2.heap.size) :
    Blk (w2.alloc (.cells #[.int .i64 n, u] T)) w2.heap.size #[.int .i64 n, u] ∧ w.heap.size ≤ w2.heap.size ∧ Brs (w2.alloc (.cells #[.int .i64 n, u] T)) w.heap.size u bs ∧ (∀ k, u.ownBlock = some k → k ≠ w2.heap.size) ∧ Below w.heap.size w (w2.alloc (.cells #[.int .i64 n, u] T)) :=
  ⟨Blk.new _ _ _, hB.size, World.ownsRow.alloc (hI.mono hz) _, fun k hk => by have := lt k hk; omega, hB.alloc hB.size _⟩
theorem brs_fin2 {w w2 : World} {B b8 : Nat} {n : Int} {u x y : Value} {bs : List Br} (hB : Below w.heap.size w w2) (hI : Brs w2 B u bs) (hX : Blk w2 b8 #[x, y]) (hz : w.heap.size ≤ b8) (hb : b8 < B) (lt : ∀ k, u.ownBlock = some k → B ≤ k ∧ k < w2.heap.size) :
    Blk ((w2.setCell ⟨b8, 0, none⟩ (.int .i64 n)).setCell ⟨b8, 1, none⟩ u) b8 #[.int .i64 n, u] ∧ w.heap.size ≤ b8 ∧ Brs ((w2.setCell ⟨b8, 0, none⟩ (.int .i64 n)).setCell ⟨b8, 1, none⟩ u) w.heap.size u bs ∧ (∀ k, u.ownBlock = some k → k ≠ b8) ∧ Below w.heap.size w ((w2.setCell ⟨b8, 0, none⟩ (.int .i64 n)).setCell ⟨b8, 1, none⟩ u) :=
  ⟨(hX.set 0 _).set 1 _, hz, ((hI.far (by simpa using hb) _).far (by simpa using hb) _).mono (by omega), fun k hk => by have := lt k hk; omega, (hB.setCell (by simpa using hz) _).setCell (by simpa using hz) _⟩
set_option maxRecDepth 100000 in
set_option maxHeartbeats 2000000 in
theorem implBrs (n : Int) (v : Value) (bs : List Br) (f t : Int) (w : World) (h : RdB w v bs) (hl : bs.length ≤ 1048576) :
    Calls Try.prog 22 #[.agg #[.int .i64 n, v], .int .i64 f, .int .i64 t] w fun e w' => e = .returned (tollV n bs true f t) ∧ Below w.heap.size w w' := by
  have H := Lib.hid h
  obtain ⟨a, l, c, rfl, tt⟩ := h
  clear tt
  cases hg : areIs n bs
  · rw [tollV_no (by unfold bothB askI; rw [hg]; rfl)]
    have G := Lib.hid hg
    clear hg
    go_enter Try.func22, Try.ntmps22
    go_wp2_with fail
    refine (implAreIs n _ bs _ (H.out.below (by (repeat (first | exact Below.refl _ _ | (refine Below.alloc ?_ (by first | omega | (simp; try omega)) _) | apply Below.drew | apply below_drewN)))) hl).mono ?_
    rw [G.out]
    rintro e w1 ⟨rfl, hb⟩
    have HB := Lib.hid (Below.trans (by (repeat (first | exact Below.refl _ _ | (refine Below.alloc ?_ (by first | omega | (simp; try omega)) _) | apply Below.drew | apply below_drewN))) (hb.mono (by simp; try omega)) : Below w.heap.size w w1)
    clear hb
    go_wp2
    go_ret2
    exact ⟨rfl, HB.out⟩
  obtain ⟨tx, ty, ht⟩ := tollV_form n bs true f t
  have TE := Lib.hid ((tollV_ev hg f t).trans ht)
  rw [ht]
  have G := Lib.hid hg
  have hl14 := (areIs_iff.1 hg).2.2.1
  clear hg ht
  go_enter Try.func22, Try.ntmps22
  go_wp2_with fail
  refine (implAreIs n _ bs _ (H.out.below (by (repeat (first | exact Below.refl _ _ | (refine Below.alloc ?_ (by first | omega | (simp; try omega)) _) | apply Below.drew | apply below_drewN)))) hl).mono ?_
  rw [G.out]
  rintro e w1 ⟨rfl, hb⟩
  have HB := Lib.hid (Below.trans (by (repeat (first | exact Below.refl _ _ | (refine Below.alloc ?_ (by first | omega | (simp; try omega)) _) | apply Below.drew | apply below_drewN))) (hb.mono (by simp; try omega)) : Below w.heap.size w w1)
  have XB := Lib.hid ((Blk.new w #[.int .i64 n, .slice a l c] 30).below hb (by simp))
  obtain ⟨c0, c1, l0⟩ := XB.out.two
  clear hb
  go_wp2_with fail
  go_cut [8] (fun s8 wx => ∃ b8 u, s8 = .pointer (some ⟨b8, 0, none⟩) ∧ Hid (Blk wx b8 #[.int .i64 n, u] ∧ w.heap.size ≤ b8 ∧ Brs wx w.heap.size u bs ∧ (∀ k, u.ownBlock = some k → k ≠ b8) ∧ Below w.heap.size w wx))
  case first =>
    have hz := HB.out.size
    go_region_with (go_at_call 43; refine (cloneB _ bs _ (H.out.below (HB.out.trans (by (repeat (first | exact Below.refl _ _ | (refine Below.alloc ?_ (by first | omega | (simp; try omega)) _) | apply Below.drew | apply below_drewN))))) hl).mono ?_; rintro e w2 ⟨u, rfl, hI, hb⟩; obtain ⟨ua, uc, rfl⟩ := hI.len; have HBy := Lib.hid (Below.trans (by (repeat (first | exact Below.refl _ _ | (refine Below.alloc ?_ (by first | omega | (simp; try omega)) _) | apply Below.drew | apply below_drewN))) (hb.mono (by first | omega | (simp; try omega))) : Below w1.heap.size w1 w2); obtain ⟨cx, dx, lx⟩ := (XB.out.below HBy.out XB.out.lt).two; have LT := Lib.hid hI.lt; have HI := Lib.hid hI; try (have X := Lib.hid ((Blk.drew (Blk.new w1 #[.int .i64 0, .slice none 0 0] 30)).below hb (by simp)); have x0 := X.out.fr 0; have x1 := X.out.fr 1; obtain ⟨ex, fx, gx⟩ := X.out.two); clear hb hI)
    all_goals
      have HW2 := Lib.hid (HB.out.trans (HBy.out.mono hz))
      clear HBy cx dx lx c0 c1 l0
      go_wp2_with fail
      go_meet
      first
        | exact ⟨_, _, rfl, Lib.hid (brs_fin1 HW2.out HI.out hz LT.out)⟩
        | exact ⟨_, _, rfl, Lib.hid (brs_fin1 HW2.out HI.out (by simp; omega) LT.out)⟩
        | exact ⟨_, _, rfl, Lib.hid (brs_fin2 HW2.out HI.out X.out hz (by simp) LT.out)⟩
  case rest =>
    obtain ⟨b8, u, rfl, HC⟩ := hcut
    have zb := HC.out.2.1
    clear c0 c1 l0
    obtain ⟨ua, uc, rfl⟩ := HC.out.2.2.1.len
    have HW := Lib.hid HC.out.2.2.2.2
    have sw := HW.out.size
    obtain ⟨c0, c1, l0⟩ := HC.out.1.two
    have hne := HC.out.2.2.2.1
    have HNE := Lib.hid hne
    clear hne
    go_wp2_with fail
    clear c0 c1 l0
    go_loopw [22] (fun i wr => ∃ k : Nat, k ≤ bs.length ∧ i = .int .i64 k ∧ Hid (Blk wr b8 #[.int .i64 n, .slice ua bs.length uc] ∧ Brs wr w.heap.size (.slice ua bs.length uc) (evTo bs k) ∧ Below w.heap.size w wr)) (fun i _ => bs.length - (intOf i).toNat)
    case atStart => exact ⟨0, Nat.zero_le _, rfl, Lib.hid ⟨HC.out.1, by rw [evTo_0]; exact HC.out.2.2.1, HW.out⟩⟩
    case round =>
      obtain ⟨k, hk, rfl, HR⟩ := hrel
      obtain ⟨c0, c1, l0⟩ := HR.out.1.two
      have sr := HR.out.2.2.size
      by_cases hlt : k < bs.length
      · have hlt' : (k : Int) < bs.length := by omega
        obtain ⟨g, cap, e⟩ := HR.out.2.1.some_ (by rw [evTo_len bs k hk]; omega)
        injection e with e1 e2 e3
        subst e1
        clear e2 e3
        have hnb := HNE.out g rfl
        have hgw := HR.out.2.1.blk
        have d2 := (HR.out.2.1.at0 (evTo_len bs k hk).symm k hlt).2.2
        have f2 := HR.out.2.1.frz (evTo_len bs k hk).symm (k * 3 + 2)
        have S := HR.out.2.1.set2 (evTo_len bs k hk).symm k hlt 1
        rw [evTo_get hlt, evTo_set hlt] at S
        have SS := Lib.hid S
        have HBn := Lib.hid (HR.out.2.2.grown S.2 sr (by intro q hq; cases hq; exact hgw.1))
        have HXn := Lib.hid (HR.out.1.far (p := ⟨g, k * 3 + 2, none⟩) (by simp; omega) (.int .i64 1))
        clear S hnb
        generalize (gb (evTo bs k) k).2.2 = z at d2
        go_wp2
        go_roundw
        case rel => exact ⟨k + 1, by omega, by go_num, Lib.hid ⟨HXn.out, SS.out.1, HBn.out⟩⟩
        case measure => (simp [intOf]; try omega)
      · obtain rfl : k = bs.length := by omega
        have HRd := Lib.hid HR.out.2.1.rd
        rw [evTo_all] at HRd
        have HB9 := Lib.hid HR.out.2.2
        clear HR HC
        go_wp2_with fail
        refine (implToll n _ (ev bs) f t _ HRd.out (by rw [ev_len]; exact hl)).mono ?_
        rw [TE.out]
        rintro e w9 ⟨rfl, hb⟩
        have HBz := Lib.hid (HB9.out.trans (hb.mono sr))
        clear hb
        go_wp2
        go_ret2
        exact ⟨rfl, HBz.out⟩
end Go.Proofs.Ytihdajiikonijab
