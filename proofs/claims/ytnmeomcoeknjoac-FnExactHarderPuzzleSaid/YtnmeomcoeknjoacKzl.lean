/- HarderPuzzle: plain and spec (written by gen_kzl.py). -/
import Derived.Test.YtnmeomcoeknjoacKzk
namespace Go.Proofs.Ytnmeomcoeknjoac
set_option linter.unusedVariables false
set_option maxRecDepth 100000
open Go.RowKit

/-- the clues that stay of the first so many -/
def hsel (n : Nat) (cs : List Br) : Nat → List Br
  | 0 => []
  | j + 1 => if cntS n (hsel n cs j ++ cs.drop (j + 1)) = 1 then hsel n cs j else hsel n cs j ++ [gb cs j]
theorem hsel_len (n : Nat) (cs : List Br) : ∀ j, (hsel n cs j).length ≤ j
  | 0 => by simp [hsel]
  | j + 1 => by
    have := hsel_len n cs j
    unfold hsel
    split
    · omega
    · simp; omega
theorem hsel_mem {n : Nat} {cs : List Br} : ∀ j, j ≤ cs.length → ∀ c ∈ hsel n cs j, c ∈ cs
  | 0, _ => by simp [hsel]
  | j + 1, hj => by
    intro c hc
    unfold hsel at hc
    split at hc
    · exact hsel_mem j (by omega) c hc
    · rcases List.mem_append.1 hc with h | h
      · exact hsel_mem j (by omega) c h
      · rw [List.mem_singleton.1 h]; exact gb_mem (by omega)
theorem hsel_yes {n j : Nat} {cs : List Br} (h : cntS n (hsel n cs j ++ cs.drop (j + 1)) = 1) : hsel n cs (j + 1) = hsel n cs j := by
  show (if _ then _ else _) = _; rw [if_pos h]
theorem hsel_no {n j : Nat} {cs : List Br} (h : ¬ cntS n (hsel n cs j ++ cs.drop (j + 1)) = 1) : hsel n cs (j + 1) = hsel n cs j ++ [gb cs j] := by
  show (if _ then _ else _) = _; rw [if_neg h]
theorem drop_gb {cs : List Br} {j : Nat} (h : j < cs.length) : cs.drop j = gb cs j :: cs.drop (j + 1) := by
  rw [List.drop_eq_getElem_cons h]; simp [gb, h]
/-- spec's clues -/
def hcl (n : Nat) (cs : List Br) (j : Nat) : List Br := hsel n cs j ++ cs.drop j
theorem hcl_erase {n j : Nat} {cs : List Br} (h : j < cs.length) : (hcl n cs j).eraseIdx (hsel n cs j).length = hsel n cs j ++ cs.drop (j + 1) := by
  unfold hcl
  rw [drop_gb h, List.eraseIdx_append_of_length_le (Nat.le_refl _), Nat.sub_self]
  rfl
theorem hcl_no {n j : Nat} {cs : List Br} (hj : j < cs.length) (h : ¬ cntS n (hsel n cs j ++ cs.drop (j + 1)) = 1) : hcl n cs (j + 1) = hcl n cs j := by
  unfold hcl
  rw [hsel_no h, drop_gb hj]; simp
theorem hcl_yes {n j : Nat} {cs : List Br} (h : cntS n (hsel n cs j ++ cs.drop (j + 1)) = 1) : hcl n cs (j + 1) = hsel n cs j ++ cs.drop (j + 1) := by
  unfold hcl
  rw [hsel_yes h]
theorem hcl_len {n j : Nat} {cs : List Br} (hj : j ≤ cs.length) : (hcl n cs j).length = (hsel n cs j).length + (cs.length - j) := by simp [hcl]
theorem hcl_mem {n j : Nat} {cs : List Br} (hj : j ≤ cs.length) : ∀ c ∈ hcl n cs j, c ∈ cs := by
  intro c hc
  rcases List.mem_append.1 hc with h | h
  · exact hsel_mem j hj c h
  · exact List.mem_of_mem_drop h
theorem hcl_end (n : Nat) (cs : List Br) : hcl n cs cs.length = hsel n cs cs.length := by simp [hcl]
def lenV : Value → Nat
  | .slice _ n _ => n
  | _ => 0
def hpOK (m : Int) (cs : List Br) : Bool := isPz m cs && decide (cntS m.toNat cs = 1)
def hpN (m : Int) (cs : List Br) : Int := if hpOK m cs then m else 0
def hpL (m : Int) (cs : List Br) : List Br := if hpOK m cs then hsel m.toNat cs cs.length else []
theorem hpOK_in {m : Int} {cs : List Br} (h : hpOK m cs = true) : isPz m cs = true ∧ cntS m.toNat cs = 1 := by simpa [hpOK] using h
theorem hpL_len (m : Int) (cs : List Br) : (hpL m cs).length ≤ 6 := by
  unfold hpL
  split
  · rename_i h
    have := (isPz_iff.1 (hpOK_in h).1).2.2.1
    have := hsel_len m.toNat cs cs.length
    omega
  · simp
theorem one_eq {n : Nat} {cs : List Br} : (((sols n cs).length : Int) == 1) = decide (cntS n cs = 1) := by
  have e : (sols n cs).length = cntS n cs := rfl
  rw [e]
  by_cases h : cntS n cs = 1
  · simp [h]
  · have : ¬ ((cntS n cs : Nat) : Int) = 1 := by omega
    simp [h, this]
set_option maxHeartbeats 4000000 in
theorem specHar (n : Int) (v : Value) (bs : List Br) (w : World) (h : RdB w v bs) (hl : bs.length ≤ 1048576) :
    Calls Try.prog 20 #[.agg #[.int .i64 n, v]] w fun e w' => ∃ u, e = .returned (.tuple #[.agg #[.int .i64 (hpN n bs), u], .bool (hpOK n bs)]) ∧ Brs w' w.heap.size u (hpL n bs) ∧ Below w.heap.size w w' := by
  have H := Lib.hid h
  obtain ⟨a, l, c, rfl, hnz, t⟩ := h
  have HN := Lib.hid hnz
  clear t hnz
  obtain ⟨W0, hW0⟩ : ∃ W, W = (w.alloc (.cells #[.int .i64 n, .slice a l c] 31)).alloc (.cells #[.int .i64 0, .slice none 0 0] 31) := ⟨_, rfl⟩
  have X1 := Lib.hid (show Blk W0 w.heap.size #[.int .i64 n, .slice a l c] by rw [hW0]; exact (Blk.new w _ _).alloc _)
  have X2 := Lib.hid (show Blk W0 (w.heap.size + 1) #[.int .i64 0, .slice none 0 0] by rw [hW0]; exact (Blk.new (w.alloc (.cells #[.int .i64 n, .slice a l c] 31)) _ _).at_ (by simp))
  have B0 := Lib.hid (show Below w.heap.size w W0 by rw [hW0]; (repeat (first | exact Below.refl _ _ | (refine Below.alloc ?_ (by first | omega | (simp; try omega)) _) | apply Below.drew | apply below_drewN)))
  have HW0 := Lib.hid hW0
  clear hW0
  have s0 := B0.out.size
  have FAIL : Hid (∀ w1 : World, Below w.heap.size w w1 → Blk w1 (w.heap.size + 1) #[.int .i64 0, .slice none 0 0] → hpOK n bs = false → ∃ u, (Ending.returned (.tuple #[.agg #[.int .i64 0, .slice none 0 0], .bool false]) : Ending) = .returned (.tuple #[.agg #[.int .i64 (hpN n bs), u], .bool (hpOK n bs)]) ∧ Brs ((w1.setCell ⟨w.heap.size + 1, 0, none⟩ (.int .i64 0)).setCell ⟨w.heap.size + 1, 1, none⟩ (.slice none 0 0)) w.heap.size u (hpL n bs) ∧ Below w.heap.size w ((w1.setCell ⟨w.heap.size + 1, 0, none⟩ (.int .i64 0)).setCell ⟨w.heap.size + 1, 1, none⟩ (.slice none 0 0))) := Lib.hid (fun w1 hb hx hf => by
    refine ⟨.slice none 0 0, by rw [show hpN n bs = 0 by simp [hpN, hf], hf], ?_, (hb.setCell (by simp) _).setCell (by simp) _⟩
    rw [show hpL n bs = [] by simp [hpL, hf]]
    exact Brs.nil _ _)
  cases hg : isPz n bs
  · have OKF := Lib.hid (show hpOK n bs = false by unfold hpOK; rw [hg]; rfl)
    have G := Lib.hid hg
    clear hg
    go_enter Try.func20, Try.ntmps20
    go_wp2_with fail
    rw [← HW0.out]
    clear HW0
    refine (pzGood_ n _ bs _ (H.out.below B0.out) hl).mono ?_
    rw [G.out]
    rintro e w1 ⟨rfl, hb⟩
    have HB := Lib.hid (B0.out.trans (hb.mono s0))
    have Y2 := Lib.hid (X2.out.below hb X2.out.lt)
    clear hb
    obtain ⟨y0, y1, y2⟩ := Y2.out.two
    have f0 := Y2.out.fr 0
    have f1 := Y2.out.fr 1
    go_wp2
    have q0 : (World.setCell _ ⟨w.heap.size + 1, 0, none⟩ (.int .i64 0)).cell? ⟨w.heap.size + 1, 0, none⟩ = some (.int .i64 0) := ((Y2.out.set 0 (.int .i64 0)).cell 0).trans (by simp)
    have p0 : ((World.setCell _ ⟨w.heap.size + 1, 0, none⟩ (.int .i64 0)).setCell ⟨w.heap.size + 1, 1, none⟩ (.slice none 0 0)).cell? ⟨w.heap.size + 1, 0, none⟩ = some (.int .i64 0) := (((Y2.out.set 0 (.int .i64 0)).set 1 (.slice none 0 0)).cell 0).trans (by simp)
    have p1 : ((World.setCell _ ⟨w.heap.size + 1, 0, none⟩ (.int .i64 0)).setCell ⟨w.heap.size + 1, 1, none⟩ (.slice none 0 0)).cell? ⟨w.heap.size + 1, 1, none⟩ = some (.slice none 0 0) := (((Y2.out.set 0 (.int .i64 0)).set 1 (.slice none 0 0)).cell 1).trans (by simp)
    refine bodyPost_ret (v := .tuple #[.agg #[.int .i64 0, .slice none 0 0], .bool false]) (by simp [results, Try.results20, go_sem, p0, p1]) rfl ?_
    exact FAIL.out _ HB.out Y2.out OKF.out
  obtain ⟨m, rfl, hn, h6, hc⟩ := isPz_nat hg
  have G := Lib.hid hg
  have hll : l ≤ 6 := by have := HN.out; omega
  have PS := Lib.hid (fun u ds wx hr (hd : ds.length ≤ 6) (hm : ∀ d ∈ ds, d ∈ bs) => pzSolved m u ds wx hr hn (by omega) (fun d hd => hc d (hm d hd)))
  have DO : Hid (hpOK m bs = decide (cntS m bs = 1)) := Lib.hid (by unfold hpOK; rw [hg]; rfl)
  have H6 := Lib.hid h6
  clear hg hc
  cases hs : decide (cntS m bs = 1)
  · have OKF := Lib.hid (show hpOK m bs = false by rw [DO.out]; exact hs)
    have S := Lib.hid (fun wx hr => PS.out (.slice a l c) bs wx hr h6 (fun d hd => hd))
    rw [one_eq, hs] at S
    clear hs h6
    go_enter Try.func20, Try.ntmps20
    go_wp2_with fail
    rw [← HW0.out]
    clear HW0
    refine (pzGood_ _ _ bs _ (H.out.below B0.out) hl).mono ?_
    rw [G.out]
    rintro e w1 ⟨rfl, hb⟩
    have HB1 := Lib.hid (B0.out.trans (hb.mono s0))
    have Y1 := Lib.hid (X1.out.below hb X1.out.lt)
    have Z2 := Lib.hid (X2.out.below hb X2.out.lt)
    obtain ⟨z0, z1, z2⟩ := Y1.out.two
    have sb := HB1.out.size
    clear hb
    go_wp2_with fail
    refine (S.out _ (H.out.below HB1.out)).mono ?_
    rintro e w2 ⟨rfl, hb⟩
    have HB := Lib.hid (HB1.out.trans (hb.mono sb))
    have Y2 := Lib.hid (Z2.out.below hb Z2.out.lt)
    clear hb z0 z1 z2
    obtain ⟨y0, y1, y2⟩ := Y2.out.two
    have f0 := Y2.out.fr 0
    have f1 := Y2.out.fr 1
    go_wp2
    have q0 : (World.setCell _ ⟨w.heap.size + 1, 0, none⟩ (.int .i64 0)).cell? ⟨w.heap.size + 1, 0, none⟩ = some (.int .i64 0) := ((Y2.out.set 0 (.int .i64 0)).cell 0).trans (by simp)
    have p0 : ((World.setCell _ ⟨w.heap.size + 1, 0, none⟩ (.int .i64 0)).setCell ⟨w.heap.size + 1, 1, none⟩ (.slice none 0 0)).cell? ⟨w.heap.size + 1, 0, none⟩ = some (.int .i64 0) := (((Y2.out.set 0 (.int .i64 0)).set 1 (.slice none 0 0)).cell 0).trans (by simp)
    have p1 : ((World.setCell _ ⟨w.heap.size + 1, 0, none⟩ (.int .i64 0)).setCell ⟨w.heap.size + 1, 1, none⟩ (.slice none 0 0)).cell? ⟨w.heap.size + 1, 1, none⟩ = some (.slice none 0 0) := (((Y2.out.set 0 (.int .i64 0)).set 1 (.slice none 0 0)).cell 1).trans (by simp)
    refine bodyPost_ret (v := .tuple #[.agg #[.int .i64 0, .slice none 0 0], .bool false]) (by simp [results, Try.results20, go_sem, p0, p1]) rfl ?_
    exact FAIL.out _ HB.out Y2.out OKF.out
  · have OKT := Lib.hid (show hpOK m bs = true by rw [DO.out]; exact hs)
    have S := Lib.hid (fun wx hr => PS.out (.slice a l c) bs wx hr h6 (fun d hd => hd))
    rw [one_eq, hs] at S
    clear hs h6
    go_enter Try.func20, Try.ntmps20
    go_wp2_with fail
    rw [← HW0.out]
    clear HW0
    refine (pzGood_ _ _ bs _ (H.out.below B0.out) hl).mono ?_
    rw [G.out]
    rintro e w1 ⟨rfl, hb⟩
    have HB1 := Lib.hid (B0.out.trans (hb.mono s0))
    have Y1 := Lib.hid (X1.out.below hb X1.out.lt)
    have Z2 := Lib.hid (X2.out.below hb X2.out.lt)
    obtain ⟨z0, z1, z2⟩ := Y1.out.two
    have sb := HB1.out.size
    clear hb
    go_wp2_with fail
    refine (S.out _ (H.out.below HB1.out)).mono ?_
    rintro e w2 ⟨rfl, hb⟩
    have HB := Lib.hid (HB1.out.trans (hb.mono sb))
    have A1 := Lib.hid (Y1.out.below hb Y1.out.lt)
    have Y2 := Lib.hid (Z2.out.below hb Z2.out.lt)
    have sb2 := HB.out.size
    clear hb z0 z1 z2
    obtain ⟨z0, z1, z2⟩ := (A1.out.alloc (.cells #[] 60)).two
    have HR2 := Lib.hid (H.out.below (HB.out.alloc sb2 (.cells #[] 60)))
    have E0 := Lib.hid (Brs.empty w2 w2.heap.size (Nat.le_refl _))
    have hlb : bs.length ≤ 6 := H6.out
    go_wp2_with (at_builtin; refine wpList_catB _ rfl _ _ rfl w2.heap.size _ [] rfl E0.out _ bs rfl HR2.out (by simp; omega) (by simp) ?_; intro v4 w4 hI4 hb4 hg4; have HI4 := Lib.hid hI4; have B4 := Lib.hid (((Below.refl w2.heap.size w2).alloc (Nat.le_refl _) (.cells #[] 60)).trans hb4); clear hI4 hb4 hg4)
    clear z0 z1 z2
    go_loopw [4, 5] (fun o i wr => ∃ j : Nat, j ≤ l ∧ i = .int .i64 ((hsel m bs j).length : Int) ∧ Hid (Brs wr w2.heap.size o (hcl m bs j)) ∧ Hid (Below w2.heap.size w2 wr)) (fun o i wr => lenV o - (intOf i).toNat)
    case atStart => exact ⟨0, Nat.zero_le _, rfl, HI4, B4⟩
    case round =>
      obtain ⟨j, hj, rfl, HO, HQ⟩ := hrel
      have hqle := HQ.out.size
      have HBQ := Lib.hid (HB.out.trans (HQ.out.mono sb2))
      have XQ := Lib.hid (A1.out.below HQ.out A1.out.lt)
      have Y2Q := Lib.hid (Y2.out.below HQ.out Y2.out.lt)
      obtain ⟨oa, oc, rfl⟩ := HO.out.len
      have hln := hcl_len (n := m) (cs := bs) (j := j) (by have := HN.out; omega)
      have hs6 := hsel_len m bs j
      by_cases hlt : j < l
      · have hjl : j < bs.length := by have := HN.out; omega
        have ER := Lib.hid (hcl_erase (n := m) hjl)
        have CY := Lib.hid (fun h => And.intro (hsel_yes (n := m) (cs := bs) (j := j) h) (hcl_yes (n := m) (cs := bs) (j := j) h))
        have CN := Lib.hid (fun h => And.intro (hsel_no (n := m) (cs := bs) (j := j) h) (hcl_no (n := m) hjl h))
        have hnl : (hsel m bs j ++ bs.drop (j + 1)).length ≤ 6 := by simp; omega
        have hnm : ∀ d ∈ hsel m bs j ++ bs.drop (j + 1), d ∈ bs := fun d hd => by
          rcases List.mem_append.1 hd with h | h
          · exact hsel_mem j (by omega) d h
          · exact List.mem_of_mem_drop h
        have PS2 := Lib.hid (fun u wx hr => PS.out u (hsel m bs j ++ bs.drop (j + 1)) wx hr hnl hnm)
        rw [one_eq] at PS2
        have hn1 : (hsel m bs j ++ bs.drop (j + 1)).length + 1 = (hcl m bs j).length := by rw [hln]; simp; omega
        generalize hsel m bs j ++ bs.drop (j + 1) = nx at *
        clear hnm
        have hkk : (hsel m bs j).length < (hcl m bs j).length := by omega
        have hq6 : (hcl m bs j).length ≤ 6 := by omega
        have PW := Lib.hid (fun wx hr => pzWithout (.slice oa (hcl m bs j).length oc) (hcl m bs j) (hsel m bs j).length wx hr hkk hq6)
        rw [ER.out] at PW
        clear hln hs6 hn1
        generalize hsel m bs j = s at *
        generalize hcl m bs j = q at *
        have hkk' : (s.length : Int) < (q.length : Int) := by omega
        have hN1 := Lib.hid hnl
        clear hnl
        go_wp2_with fail
        refine (PW.out _ HO.out.rd).mono ?_
        rintro e w5 ⟨u, rfl, hU, hb⟩
        have HU := Lib.hid (hU.mono hqle)
        have HQ5 := Lib.hid (HQ.out.trans (hb.mono hqle))
        have HO5 := Lib.hid (HO.out.below hb)
        have XQ5 := Lib.hid (XQ.out.below hb XQ.out.lt)
        obtain ⟨na, nc, rfl⟩ := hU.len
        clear hU hb
        obtain ⟨z0, z1, z2⟩ := XQ5.out.two
        go_wp2_with fail
        refine (PS2.out _ _ HU.out.rd).mono ?_
        rintro e w6 ⟨rfl, hb⟩
        have HU6 := Lib.hid (HU.out.below hb)
        have HO6 := Lib.hid (HO5.out.below hb)
        have HQ6 := Lib.hid (HQ5.out.trans (hb.mono HQ5.out.size))
        clear hb z0 z1 z2
        cases hx : decide (cntS m nx = 1)
        · have E := Lib.hid (CN.out (by simpa using hx))
          have hsl : (s ++ [gb bs j]).length = s.length + 1 := by simp
          have HSL := Lib.hid hsl
          clear hsl CY CN hx
          go_wp2
          go_roundw
          case rel => exact ⟨j + 1, by omega, by rw [E.out.1, HSL.out]; go_num, by rw [E.out.2]; exact HO6, HQ6⟩
          case measure => (simp [intOf, lenV]; try omega)
        · have E := Lib.hid (CY.out (by simpa using hx))
          have HNX := Lib.hid (show nx.length + 1 = q.length by have := ER.out; rw [← this, List.length_eraseIdx]; simp [hkk]; omega)
          clear CY CN hx
          go_wp2
          go_roundw
          case rel => exact ⟨j + 1, by omega, by rw [E.out.1], by rw [E.out.2]; exact HU6, HQ6⟩
          case measure => (have := HNX.out; simp [intOf, lenV]; try omega)
      · obtain rfl : j = l := by omega
        have hle : ¬ ((hsel m bs j).length : Int) < ((hcl m bs j).length : Int) := by have := HN.out; omega
        have EL := Lib.hid (show hpL m bs = hcl m bs j by rw [HN.out, hcl_end]; simp [hpL, OKT.out])
        generalize hcl m bs j = q at *
        clear hln hs6
        have Y2lt : w.heap.size + 1 < w2.heap.size := Y2.out.lt
        have Y2 := Lib.hid Y2Q.out
        obtain ⟨z0, z1, z2⟩ := XQ.out.two
        obtain ⟨y0, y1, y2⟩ := Y2.out.two
        have f0 := Y2.out.fr 0
        have f1 := Y2.out.fr 1
        go_wp2
        have q0 : (World.setCell _ ⟨w.heap.size + 1, 0, none⟩ (.int .i64 (m : Int))).cell? ⟨w.heap.size + 1, 0, none⟩ = some (.int .i64 (m : Int)) := ((Y2.out.set 0 (.int .i64 (m : Int))).cell 0).trans (by simp)
        have p0 : ((World.setCell _ ⟨w.heap.size + 1, 0, none⟩ (.int .i64 (m : Int))).setCell ⟨w.heap.size + 1, 1, none⟩ (.slice oa q.length oc)).cell? ⟨w.heap.size + 1, 0, none⟩ = some (.int .i64 (m : Int)) := (((Y2.out.set 0 (.int .i64 (m : Int))).set 1 (.slice oa q.length oc)).cell 0).trans (by simp)
        have p1 : ((World.setCell _ ⟨w.heap.size + 1, 0, none⟩ (.int .i64 (m : Int))).setCell ⟨w.heap.size + 1, 1, none⟩ (.slice oa q.length oc)).cell? ⟨w.heap.size + 1, 1, none⟩ = some (.slice oa q.length oc) := (((Y2.out.set 0 (.int .i64 (m : Int))).set 1 (.slice oa q.length oc)).cell 1).trans (by simp)
        refine bodyPost_ret (v := .tuple #[.agg #[.int .i64 m, .slice oa q.length oc], .bool true]) (by simp [results, Try.results20, go_sem, p0, p1]) rfl ?_
        refine ⟨_, by rw [show hpN m bs = m by simp [hpN, OKT.out], OKT.out], ?_, (HBQ.out.setCell (by simp) _).setCell (by simp) _⟩
        rw [EL.out]
        exact ((HO.out.far (p := ⟨w.heap.size + 1, 0, none⟩) Y2lt _).far (p := ⟨w.heap.size + 1, 1, none⟩) Y2lt _).mono sb2
end Go.Proofs.Ytnmeomcoeknjoac
