/- As many gaps as planks can cover: the least first (spec) and the widest first (impl) come to the same; MostCovered. -/
import Derived.Test.YtimbpfenpbkckabMc
namespace Go.Proofs.Ytimbpfenpbkckab
set_option linter.unusedVariables false
open Go.RowKit Go.Shelf

/-- with the last c planks, i gaps being covered: the least gap that is left by the shortest plank that spans it -/
def sF (G P : List Int) (t : Int) : Nat → Nat → Nat
  | 0, i => i
  | c + 1, i => if i < G.length then (if gt G i + t ≤ gt P (P.length - (c + 1)) then sF G P t c (i + 1) else sF G P t c i) else i
theorem sF_hit {G P : List Int} {t : Int} {c i : Nat} (h : i < G.length) (h2 : gt G i + t ≤ gt P (P.length - (c + 1))) : sF G P t (c + 1) i = sF G P t c (i + 1) := by simp [sF, h, h2]
theorem sF_miss {G P : List Int} {t : Int} {c i : Nat} (h : i < G.length) (h2 : ¬ gt G i + t ≤ gt P (P.length - (c + 1))) : sF G P t (c + 1) i = sF G P t c i := by simp [sF, h, h2]
theorem sF_end {G P : List Int} {t : Int} {c i : Nat} (h : ¬ i < G.length) : sF G P t c i = i := by
  cases c with
  | zero => rfl
  | succ c => simp [sF, h]
/-- with the first q planks and the first r gaps: the widest gap by the longest plank -/
def dF (G P : List Int) (t : Int) : Nat → Nat → Nat
  | 0, _ => 0
  | r + 1, q => if 0 < q ∧ gt G r + t ≤ gt P (q - 1) then 1 + dF G P t r (q - 1) else dF G P t r q
theorem dF_hit {G P : List Int} {t : Int} {r q : Nat} (h : 0 < q) (h2 : gt G r + t ≤ gt P (q - 1)) : dF G P t (r + 1) q = 1 + dF G P t r (q - 1) := by simp [dF, h, h2]
theorem dF_miss {G P : List Int} {t : Int} {r q : Nat} (h2 : ¬ (0 < q ∧ gt G r + t ≤ gt P (q - 1))) : dF G P t (r + 1) q = dF G P t r q := by
  show (if 0 < q ∧ gt G r + t ≤ gt P (q - 1) then 1 + dF G P t r (q - 1) else dF G P t r q) = _
  rw [if_neg h2]
theorem sF_ge (G P : List Int) (t : Int) : ∀ c i, i ≤ sF G P t c i
  | 0, i => Nat.le_refl _
  | c + 1, i => by
    have h1 := sF_ge G P t c i; have h2 := sF_ge G P t c (i + 1)
    unfold sF
    split
    · split <;> omega
    · exact Nat.le_refl _
theorem sF_iff {G P : List Int} {t : Int} (hP : P.Pairwise (· ≤ ·)) : ∀ (c i k : Nat), i + c ≤ P.length → i ≤ G.length → i ≤ k →
    (k ≤ sF G P t c i ↔ k ≤ G.length ∧ k - i ≤ c ∧ ∀ j, i ≤ j → j < k → gt G j + t ≤ gt P (P.length - k + j))
  | 0, i, k, hc, hi, hk => by
    show k ≤ i ↔ _
    constructor
    · intro h
      exact ⟨by omega, by omega, fun j h1 h2 => by omega⟩
    · rintro ⟨h1, h2, _⟩; omega
  | c + 1, i, k, hc, hi, hk => by
    have hge := sF_ge G P t c (i + 1)
    by_cases h : i < G.length
    · by_cases h2 : gt G i + t ≤ gt P (P.length - (c + 1))
      · rw [sF_hit h h2]
        by_cases hki : k = i
        · subst hki
          exact ⟨fun _ => ⟨hi, by omega, fun j h1 h2 => by omega⟩, fun _ => by omega⟩
        · rw [sF_iff hP c (i + 1) k (by omega) (by omega) (by omega)]
          constructor
          · rintro ⟨a, b, d⟩
            refine ⟨a, by omega, fun j h1 h3 => ?_⟩
            by_cases e : j = i
            · subst e
              exact Int.le_trans h2 (asc_le hP (by omega) (by omega))
            · exact d j (by omega) h3
          · rintro ⟨a, b, d⟩
            exact ⟨a, by omega, fun j h1 h3 => d j (by omega) h3⟩
      · rw [sF_miss h h2, sF_iff hP c i k (by omega) hi hk]
        constructor
        · rintro ⟨a, b, d⟩; exact ⟨a, by omega, d⟩
        · rintro ⟨a, b, d⟩
          refine ⟨a, ?_, d⟩
          rcases Nat.lt_or_ge c (k - i) with h3 | h3
          · exfalso
            have := d i (Nat.le_refl _) (by omega)
            rw [show P.length - k + i = P.length - (c + 1) by omega] at this
            exact h2 this
          · exact h3
    · rw [sF_end h]
      constructor
      · intro h1; exact ⟨by omega, by omega, fun j h1 h2 => by omega⟩
      · rintro ⟨a, _, _⟩; omega
theorem dF_iff {G P : List Int} {t : Int} (hG : G.Pairwise (· ≤ ·)) : ∀ (r q k : Nat), r ≤ G.length → q ≤ P.length →
    (k ≤ dF G P t r q ↔ k ≤ r ∧ k ≤ q ∧ ∀ j, j < k → gt G j + t ≤ gt P (q - k + j))
  | 0, q, k, hr, hq => by
    show k ≤ 0 ↔ _
    constructor
    · intro h; exact ⟨h, by omega, fun j h1 => by omega⟩
    · rintro ⟨a, _, _⟩; exact a
  | r + 1, q, k, hr, hq => by
    by_cases h : 0 < q ∧ gt G r + t ≤ gt P (q - 1)
    · rw [dF_hit h.1 h.2]
      cases k with
      | zero => exact ⟨fun _ => ⟨by omega, by omega, fun j h1 => by omega⟩, fun _ => by omega⟩
      | succ k =>
        have ih := dF_iff (t := t) hG (P := P) r (q - 1) k (by omega) (by omega)
        constructor
        · intro h1
          obtain ⟨a, b, d⟩ := ih.1 (by omega)
          refine ⟨by omega, by omega, fun j h3 => ?_⟩
          by_cases e : j = k
          · subst e
            rw [show q - (j + 1) + j = q - 1 by omega]
            exact Int.le_trans (Int.add_le_add_right (asc_le hG (show j ≤ r by omega) (by omega)) t) h.2
          · have := d j (by omega)
            rwa [show q - 1 - k + j = q - (k + 1) + j by omega] at this
        · rintro ⟨a, b, d⟩
          have := ih.2 ⟨by omega, by omega, fun j h3 => by
            have := d j (by omega)
            rwa [show q - (k + 1) + j = q - 1 - k + j by omega] at this⟩
          omega
    · rw [dF_miss h, dF_iff hG r q k (by omega) hq]
      constructor
      · rintro ⟨a, b, d⟩; exact ⟨by omega, b, d⟩
      · rintro ⟨a, b, d⟩
        refine ⟨?_, b, d⟩
        rcases Nat.lt_or_ge r k with h3 | h3
        · exfalso
          have := d r (by omega)
          rw [show q - k + r = q - 1 by omega] at this
          exact h ⟨by omega, this⟩
        · exact h3
theorem sF_dF {G P : List Int} {t : Int} (hG : G.Pairwise (· ≤ ·)) (hP : P.Pairwise (· ≤ ·)) : sF G P t P.length 0 = dF G P t G.length P.length := by
  have h : ∀ k, k ≤ sF G P t P.length 0 ↔ k ≤ dF G P t G.length P.length := by
    intro k
    rw [sF_iff hP _ _ _ (by omega) (Nat.zero_le _) (Nat.zero_le _), dF_iff hG _ _ _ (Nat.le_refl _) (Nat.le_refl _)]
    constructor
    · rintro ⟨a, b, d⟩; exact ⟨a, by omega, fun j h => d j (Nat.zero_le _) h⟩
    · rintro ⟨a, b, d⟩; exact ⟨a, by omega, fun j _ h => d j h⟩
  exact Nat.le_antisymm ((h _).1 (Nat.le_refl _)) ((h _).2 (Nat.le_refl _))
/-- as many gaps as planks can cover -/
def mostN (gs ps : List Int) (r : Int) : Nat := sF (asc gs) (asc ps) (2 * r) ps.length 0
theorem mostN_d (gs ps : List Int) (r : Int) : mostN gs ps r = dF (asc gs) (asc ps) (2 * r) gs.length ps.length := by
  have := sF_dF (t := 2 * r) (asc_asc gs) (asc_asc ps)
  rw [asc_len, asc_len] at this
  exact this
theorem mostN_le (gs ps : List Int) (r : Int) : mostN gs ps r ≤ gs.length := by
  rw [mostN_d]
  exact ((dF_iff (t := 2 * r) (asc_asc gs) (P := asc ps) gs.length ps.length _ (by rw [asc_len]; omega) (by rw [asc_len]; omega)).1 (Nat.le_refl _)).1
def mostV (gs ps : List Int) (r : Int) : Value := if asks gs ps r then .tuple #[.int .i64 (mostN gs ps r : Int), .bool true] else .tuple #[.int .i64 0, .bool false]
theorem mostV_no {gs ps : List Int} {r : Int} (h : asks gs ps r = false) : mostV gs ps r = .tuple #[.int .i64 0, .bool false] := by simp [mostV, h]
theorem mostV_yes {gs ps : List Int} {r : Int} (h : asks gs ps r = true) : mostV gs ps r = .tuple #[.int .i64 (mostN gs ps r : Int), .bool true] := by simp [mostV, h]
theorem mostV_form (gs ps : List Int) (r : Int) : ∃ x y, mostV gs ps r = .tuple #[.int .i64 x, .bool y] := by
  unfold mostV; split <;> exact ⟨_, _, rfl⟩
theorem asks_in' {gs ps : List Int} {r : Int} (h : asks gs ps r = true) : arePl gs = true ∧ arePl ps = true ∧ 0 ≤ r ∧ r ≤ 10 := by
  unfold asks at h
  rw [Bool.and_eq_true, Bool.and_eq_true, inB_iff] at h
  exact ⟨h.1.1, h.1.2, h.2.1, h.2.2⟩
theorem Rd.cellsC {w : World} {v : Value} {zs : List Int} (h : Rd w v zs) (hp : 0 < zs.length) : ∃ b off n c, v = .slice (some ⟨b, off, none⟩) n c ∧ n = zs.length ∧ n ≤ c ∧ c ≤ maxLen ∧ b < w.heap.size ∧ ∀ j, j < n → w.cell? ⟨b, off + j, none⟩ = some (.int .i64 (gt zs j)) := by
  rcases h with ⟨⟨a, c, rfl⟩, rfl⟩ | ⟨b, off, cap, rfl, hb, hc, hm, hh⟩
  · simp at hp
  · exact ⟨b, off, _, _, rfl, rfl, hc, hm, hb, hh⟩
theorem gt_drop (l : List Int) (k j : Nat) : gt (l.drop k) j = gt l (k + j) := by
  simp [gt, List.getD_eq_getElem?_getD, List.getElem?_drop]

set_option maxHeartbeats 4000000 in
theorem plMost (v u : Value) (gs ps : List Int) (r : Int) (w : World) (h : Rd w v gs) (h2 : Rd w u ps) (hg : gs.length ≤ 100) (hgb : ∀ j, 0 ≤ gt (asc gs) j ∧ gt (asc gs) j ≤ 100) (hp : arePl ps = true) (hr : 0 ≤ r ∧ r ≤ 10) :
    Calls Try.prog 32 #[v, u, .int .i64 r] w fun e w' => e = .returned (.int .i64 (mostN gs ps r : Int)) ∧ Below w.heap.size w w' := by
  have hin := arePl_in hp
  have HS1 := Lib.hid (plSorted u ps w h2 (by omega))
  have HS2 := Lib.hid (fun w1 (hb : Below w.heap.size w w1) => plSorted v gs w1 (h.below hb) (by omega))
  have M0 := Lib.hid (show mostN gs ps r = sF (asc gs) (asc ps) (2 * r) ps.length 0 from rfl)
  have HGB := Lib.hid hgb
  have HPB := Lib.hid (asc_any' hp)
  obtain ⟨n, hnz⟩ : ∃ n, n = ps.length := ⟨_, rfl⟩
  obtain ⟨m, hmz⟩ : ∃ m, m = gs.length := ⟨_, rfl⟩
  have HN := Lib.hid (show n = (asc ps).length by rw [asc_len, hnz])
  have HM := Lib.hid (show m = (asc gs).length by rw [asc_len, hmz])
  have n7 : 1 ≤ n ∧ n ≤ 7 := by omega
  have m7 : m ≤ 100 := by omega
  rw [← hnz] at M0
  clear h h2 hp hin hnz hmz hgb hg
  go_enter Try.func32, Try.ntmps32
  go_wp2_with (first
    | (go_at_call 39; (with_reducible refine HS1.out.mono ?_); rintro e w1 ⟨u1, rfl, hI1, hb1⟩; have HI1 := Lib.hid hI1.rd; have HB1 := Lib.hid hb1; clear hI1 hb1)
    | (go_at_call 39; (with_reducible refine (HS2.out w1 HB1.out).mono ?_); rintro e w2 ⟨u2, rfl, hI2, hb2⟩; obtain ⟨a2, m2, c2, rfl, hm2, hcl2⟩ := hI2.rd.cells; have HM2 := Lib.hid (hm2.trans HM.out.symm); have HCL := Lib.hid hcl2; have HB2 := Lib.hid hb2; clear hcl2 hI2 hb2 hm2))
  obtain rfl : m2 = m := HM2.out
  have HL0 := Lib.hid (show Rd w2 u1 ((asc ps).drop 0) by rw [List.drop_zero]; exact HI1.out.below HB2.out)
  have HBz := Lib.hid (HB1.out.trans (HB2.out.mono HB1.out.size))
  clear HI1
  go_loop [7, 8, 17] (fun x lv i => ∃ (k j : Nat), k ≤ m2 ∧ j ≤ n ∧ i = .int .i64 k ∧ x = .int .i64 k ∧ Hid (Rd w2 lv ((asc ps).drop j)) ∧ Hid (mostN gs ps r = sF (asc gs) (asc ps) (2 * r) (n - j) k)) (fun _ _ i => m2 - (intOf i).toNat)
  case atStart => exact ⟨0, 0, Nat.zero_le _, Nat.zero_le _, rfl, rfl, HL0, M0⟩
  case round =>
    obtain ⟨k, j, hk, hj, rfl, rfl, HL, HS⟩ := hrel
    by_cases hlt : k < m2
    · obtain ⟨b, off, rfl, hbw, hc⟩ := HCL.out k hlt
      have hx := HGB.out k
      have hlt' : (k : Int) < m2 := by omega
      have hkG := Lib.hid (show k < (asc gs).length by rw [← HM.out]; exact hlt)
      rcases Nat.lt_or_ge j n with hjn | hjn
      · obtain ⟨lb, lo, ln, lc, rfl, hln, hlc, hlm, hlw, hcl⟩ := HL.out.cellsC (by simp; have := HN.out; omega)
        have hln2 : ln = n - j := by rw [hln]; simp; have := HN.out; omega
        have HCL2 := Lib.hid hcl
        have HLN := Lib.hid hln2
        unfold maxLen at hlm
        clear hcl hln hln2
        generalize hgk : gt (asc gs) k = x at *
        have HGK := Lib.hid hgk
        clear hgk
        have hln7 : ln ≤ 7 := by have := HLN.out; omega
        go_wp2
        go_loop [11] (fun q => ∃ y : Nat, y ≤ ln ∧ q = .int .i64 y ∧ Hid (mostN gs ps r = sF (asc gs) (asc ps) (2 * r) (n - j - y) k)) (fun q => ln - (intOf q).toNat)
        case atStart => exact ⟨0, Nat.zero_le _, rfl, HS⟩
        case round =>
          obtain ⟨y, hy, rfl, HY⟩ := hrel
          by_cases hyl : y < ln
          · have hyl' : (y : Int) < ln := by omega
            have hcy := HCL2.out y hyl
            rw [gt_drop] at hcy
            have hpy := HPB.out (j + y)
            have HIX := Lib.hid (show (asc ps).length - (n - j - (y + 1) + 1) = j + y by rw [← HN.out]; have := HLN.out; omega)
            have HIY := Lib.hid (show n - j - y = n - j - (y + 1) + 1 by have := HLN.out; omega)
            generalize hpp : gt (asc ps) (j + y) = z at *
            have HPP := Lib.hid hpp
            clear hpp
            by_cases hs : x + 2 * r ≤ z
            · have R : Hid (mostN gs ps r = sF (asc gs) (asc ps) (2 * r) (n - j - (y + 1)) (k + 1)) := Lib.hid (by rw [HY.out, HIY.out]; exact sF_hit hkG.out (by rw [HIX.out, HPP.out, HGK.out]; exact hs))
              by_cases hce : lc ≤ y + 1
              · have hyn : y + 1 = ln := by omega
                have HR2 : Hid (∀ c', Rd w2 (.slice (some ⟨lb, lo, none⟩) (ln - (y + 1)) c') ((asc ps).drop (j + (y + 1)))) := Lib.hid (by
                  intro c'; rw [show ln - (y + 1) = 0 by omega]; exact .inl ⟨⟨_, _, rfl⟩, List.drop_eq_nil_of_le (by rw [← HN.out]; have := HLN.out; omega)⟩)
                have hyb : ¬ ((y : Int) = ln) := by omega
                clear hyn
                go_wp2_with (first
                  | (go_at_call 50; refine (plSpans _ _ _ _ (by omega) hr).mono ?_; rintro e w' ⟨rfl, rfl⟩))
                go_round
                case rel => exact ⟨k + 1, j + (y + 1), by omega, by have := HLN.out; omega, by go_num, by go_num, Lib.hid (HR2.out _), Lib.hid (by rw [R.out]; congr 1; have := HLN.out; omega)⟩
                case measure => (simp [intOf]; try omega)
              · have HR2 : Hid (Rd w2 (.slice (some ⟨lb, lo + (y + 1), none⟩) (ln - (y + 1)) (lc - (y + 1))) ((asc ps).drop (j + (y + 1)))) := Lib.hid (by
                  have e : ((asc ps).drop (j + (y + 1))).length = ln - (y + 1) := by simp; rw [← HN.out]; have := HLN.out; omega
                  refine .inr ⟨lb, lo + (y + 1), lc - (y + 1), by rw [e], hlw, by rw [e]; omega, by unfold maxLen; omega, fun i hi => ?_⟩
                  rw [e] at hi
                  have := HCL2.out (y + 1 + i) (by omega)
                  rw [gt_drop] at this ⊢
                  rw [show lo + (y + 1) + i = lo + (y + 1 + i) by omega, this]
                  congr 3; omega)
                have hyb : ¬ ((y : Int) = ln) := by omega
                have hyc : (y : Int) + 1 ≤ lc := by omega
                go_wp2_with (first
                  | (go_at_call 50; refine (plSpans _ _ _ _ (by omega) hr).mono ?_; rintro e w' ⟨rfl, rfl⟩))
                go_round
                case rel => exact ⟨k + 1, j + (y + 1), by omega, by have := HLN.out; omega, by go_num, by go_num, HR2, Lib.hid (by rw [R.out]; congr 1; have := HLN.out; omega)⟩
                case measure => (simp [intOf]; try omega)
            · have R : Hid (mostN gs ps r = sF (asc gs) (asc ps) (2 * r) (n - j - (y + 1)) k) := Lib.hid (by rw [HY.out, HIY.out]; exact sF_miss hkG.out (by rw [HIX.out, HPP.out, HGK.out]; exact hs))
              have HD := Lib.hid (decide_eq_false hs)
              go_wp2_with (first
                | (go_at_call 50; refine (plSpans _ _ _ _ (by omega) hr).mono ?_; rintro e w' ⟨rfl, rfl⟩; rw [HD.out]))
              go_round
              case rel => exact ⟨y + 1, by omega, by go_num, R⟩
              case measure => (simp [intOf]; try omega)
          · obtain rfl : y = ln := by omega
            have R := Lib.hid (HY.out.trans (by rw [show n - j - y = 0 by have := HLN.out; omega]; rfl : _ = k))
            go_wp2
            go_ret
            exact ⟨ret_w (by rw [R.out]; rfl), HBz.out⟩
      · obtain rfl : j = n := by omega
        have hnil : (asc ps).drop j = [] := List.drop_eq_nil_of_le (by have := HN.out; omega)
        obtain ⟨la, ln, lc, rfl, hln, _⟩ := HL.out.cells
        rw [hnil] at hln
        obtain rfl : ln = 0 := hln
        have R := Lib.hid (HS.out.trans (by rw [Nat.sub_self]; rfl : _ = k))
        clear hnil
        go_wp2
        go_loop [11] (fun q => q = .int .i64 0) (fun _ => 0)
        case atStart => rfl
        case round =>
          obtain rfl := hrel
          go_wp2
          go_ret
          exact ⟨ret_w (by rw [R.out]; rfl), HBz.out⟩
    · obtain rfl : k = m2 := by omega
      have R := Lib.hid (HS.out.trans (sF_end (by have := HM.out; omega)))
      go_wp2
      go_ret
      exact ⟨ret_w (by rw [R.out]; rfl), HBz.out⟩
set_option maxHeartbeats 1000000 in
theorem specMost (v u : Value) (gs ps : List Int) (r : Int) (w : World) (h : Rd w v gs) (hn : gs.length ≤ 1048576) (h2 : Rd w u ps) (hn2 : ps.length ≤ 1048576) :
    Calls Try.prog 11 #[v, u, .int .i64 r] w fun e w' => e = .returned (mostV gs ps r) ∧ Below w.heap.size w w' := by
  have HA := Lib.hid (plAsked v u gs ps r w h hn h2 hn2)
  cases hk : asks gs ps r
  · have J := Lib.hid (mostV_no hk)
    rw [hk] at HA
    clear h h2 hk
    go_enter Try.func11, Try.ntmps11
    go_wp2_with (go_at_call 31; refine HA.out.mono ?_; rintro e w' ⟨rfl, rfl⟩)
    go_ret2
    exact ⟨ret_v J.out.symm, Below.refl _ _⟩
  · have J := Lib.hid (mostV_yes hk)
    rw [hk] at HA
    obtain ⟨hg, hp, hr0, hr1⟩ := asks_in' hk
    have HM := Lib.hid (plMost v u gs ps r w h h2 (by have := arePl_in hg; omega) (asc_any' hg) hp ⟨hr0, hr1⟩)
    clear h h2 hk hg hp
    go_enter Try.func11, Try.ntmps11
    go_wp2_with (first
      | (go_at_call 31; refine HA.out.mono ?_; rintro e w' ⟨rfl, rfl⟩)
      | (go_at_call 32; refine HM.out.mono ?_; rintro e w1 ⟨rfl, hb⟩))
    go_ret2
    exact ⟨ret_v J.out.symm, hb⟩
set_option maxHeartbeats 2000000 in
theorem implMost (v u : Value) (gs ps : List Int) (r : Int) (w : World) (h : Rd w v gs) (hn : gs.length ≤ 1048576) (h2 : Rd w u ps) (hn2 : ps.length ≤ 1048576) :
    Calls Try.prog 13 #[v, u, .int .i64 r] w fun e w' => e = .returned (mostV gs ps r) ∧ Below w.heap.size w w' := by
  have HA := Lib.hid (implAsks v u gs ps r w h hn h2 hn2)
  cases hk : asks gs ps r
  · have J := Lib.hid (mostV_no hk)
    rw [hk] at HA
    clear h h2 hk
    go_enter Try.func13, Try.ntmps13
    go_wp2_with (go_at_call 33; refine HA.out.mono ?_; rintro e w' ⟨rfl, rfl⟩)
    go_ret2
    exact ⟨ret_v J.out.symm, Below.refl _ _⟩
  have J := Lib.hid (mostV_yes hk)
  rw [hk] at HA
  obtain ⟨hg, hp, hr⟩ := asks_in' hk
  have hgi := arePl_in hg
  have hpi := arePl_in hp
  have HS1 := Lib.hid (greatestFirst u ps w h2 (by omega) (by omega))
  have HS2 := Lib.hid (fun w1 (hb : Below w.heap.size w w1) => greatestFirst v gs w1 (h.below hb) (by omega) (by omega))
  have HGB := Lib.hid (asc_any' hg)
  have HPB := Lib.hid (asc_any' hp)
  obtain ⟨n, hnz⟩ : ∃ n, n = ps.length := ⟨_, rfl⟩
  obtain ⟨m, hmz⟩ : ∃ m, m = gs.length := ⟨_, rfl⟩
  have M0 := Lib.hid (show mostN gs ps r = dF (asc gs) (asc ps) (2 * r) m n by rw [hnz, hmz]; exact mostN_d gs ps r)
  have HN := Lib.hid hnz
  have HM := Lib.hid hmz
  have n7 : 1 ≤ n ∧ n ≤ 7 := by omega
  have m7 : 1 ≤ m ∧ m ≤ 7 := by omega
  clear h h2 hk hg hp hgi hpi hnz hmz hn hn2
  go_enter Try.func13, Try.ntmps13
  go_wp2_with (first
    | (go_at_call 33; refine HA.out.mono ?_; rintro e w' ⟨rfl, rfl⟩)
    | (go_at_call 34; (with_reducible refine HS1.out.mono ?_); rintro e w1 ⟨u1, rfl, hI1, hb1⟩; obtain ⟨g1, n1, c1, rfl, hn1, _, _, _, hgw1, hcl1⟩ := hI1.form (by rw [dsc_len]; have := HN.out; omega); have HN1 := Lib.hid (hn1.trans ((dsc_len ps).trans HN.out.symm)); have HCL1 := Lib.hid hcl1; have HB1 := Lib.hid hb1; clear hI1 hb1 hcl1 hn1)
    | (go_at_call 34; (with_reducible refine (HS2.out w1 HB1.out).mono ?_); rintro e w2 ⟨u2, rfl, hI2, hb2⟩; obtain ⟨g2, n2, c2, rfl, hn2, _, _, _, hgw2, hcl2⟩ := hI2.form (by rw [dsc_len]; have := HM.out; omega); have HN2 := Lib.hid (hn2.trans ((dsc_len gs).trans HM.out.symm)); have HCL2 := Lib.hid hcl2; have HB2 := Lib.hid hb2; clear hI2 hb2 hcl2 hn2))
  obtain rfl : n1 = n := HN1.out
  obtain rfl : n2 = m := HN2.out
  have HBz := Lib.hid (HB1.out.trans (HB2.out.mono HB1.out.size))
  go_loopw [9, 22] (fun x i wr => ∃ (a c : Nat), a ≤ n2 ∧ c ≤ n1 ∧ i = .int .i64 a ∧ x = .int .i64 c ∧ Hid (mostN gs ps r = c + dF (asc gs) (asc ps) (2 * r) (n2 - a) (n1 - c)) ∧ Hid (Below w2.heap.size w2 wr)) (fun _ i _ => n2 - (intOf i).toNat)
  case atStart => exact ⟨0, 0, Nat.zero_le _, Nat.zero_le _, rfl, rfl, Lib.hid (by rw [Nat.zero_add]; exact M0.out), Lib.hid (Below.refl _ _)⟩
  case round =>
    obtain ⟨a, c, ha, hc, rfl, rfl, HS, hb⟩ := hrel
    by_cases hlt : a < n2
    · have hlt' : (a : Int) < n2 := by omega
      have hca := (hb.out.cell (p := ⟨g2, a, none⟩) hgw2).trans (HCL2.out a hlt)
      rw [dsc_gt (by have := HM.out; omega), ← HM.out] at hca
      have HR1 := Lib.hid (show n2 - a = n2 - 1 - a + 1 by omega)
      have hxb := HGB.out (n2 - 1 - a)
      generalize hx0 : gt (asc gs) (n2 - 1 - a) = x at *
      have HX := Lib.hid hx0
      clear hx0
      have HGW := Lib.hid hgw2
      by_cases hcn : c < n1
      · have hcn' : (c : Int) < n1 := by omega
        have hcp := ((HB2.out.trans (hb.out.mono HB2.out.size)).cell (p := ⟨g1, c, none⟩) hgw1).trans (HCL1.out c hcn)
        rw [dsc_gt (by have := HN.out; omega), ← HN.out] at hcp
        have hpb := HPB.out (n1 - 1 - c)
        generalize hp0 : gt (asc ps) (n1 - 1 - c) = z at *
        have HP := Lib.hid hp0
        clear hp0
        by_cases hs : x + 2 * r ≤ z
        · have R : Hid (mostN gs ps r = c + 1 + dF (asc gs) (asc ps) (2 * r) (n2 - (a + 1)) (n1 - (c + 1))) := Lib.hid (by
            rw [HS.out, HR1.out, dF_hit (by omega) (by rw [show n1 - c - 1 = n1 - 1 - c by omega, HP.out, HX.out]; exact hs), show n2 - 1 - a = n2 - (a + 1) by omega, show n1 - c - 1 = n1 - (c + 1) by omega]; omega)
          have hd1 : decide ((c : Int) < n1) = true := decide_eq_true hcn'
          go_wp2
          go_quiet (first | (go_at_call 35; exact (lengthFor _ _ _ (by omega) hr).mono (fun _ _ h => ⟨h.1, _, h.2.symm⟩)))
          go_wp2
          go_roundw
          case rel => exact ⟨a + 1, c + 1, by omega, by omega, by go_num, by go_num, R, Lib.hid (below_drewN hb.out _)⟩
          case measure => (simp [intOf]; try omega)
        · have R : Hid (mostN gs ps r = c + dF (asc gs) (asc ps) (2 * r) (n2 - (a + 1)) (n1 - c)) := Lib.hid (by
            rw [HS.out, HR1.out, dF_miss (fun h => hs (by have := h.2; rwa [show n1 - c - 1 = n1 - 1 - c by omega, HP.out, HX.out] at this)), show n2 - 1 - a = n2 - (a + 1) by omega])
          have hd1 : decide ((c : Int) < n1) = true := decide_eq_true hcn'
          go_wp2
          go_quiet (first | (go_at_call 35; exact (lengthFor _ _ _ (by omega) hr).mono (fun _ _ h => ⟨h.1, _, h.2.symm⟩)))
          go_wp2
          go_roundw
          case rel => exact ⟨a + 1, c, by omega, by omega, by go_num, by go_num, R, Lib.hid (below_drewN hb.out _)⟩
          case measure => (simp [intOf]; try omega)
      · have R : Hid (mostN gs ps r = c + dF (asc gs) (asc ps) (2 * r) (n2 - (a + 1)) (n1 - c)) := Lib.hid (by
          rw [HS.out, HR1.out, dF_miss (fun h => absurd h.1 (by omega)), show n2 - 1 - a = n2 - (a + 1) by omega])
        have hd1 : decide ((c : Int) < n1) = false := decide_eq_false (by omega)
        go_wp2
        go_quiet (fail)
        go_wp2
        go_roundw
        case rel => exact ⟨a + 1, c, by omega, by omega, by go_num, by go_num, R, Lib.hid (below_drewN hb.out _)⟩
        case measure => (simp [intOf]; try omega)
    · obtain rfl : a = n2 := by omega
      have R : Hid (mostN gs ps r = c) := Lib.hid (by rw [HS.out, Nat.sub_self]; rfl)
      go_wp2
      go_ret2
      exact ⟨ret_v (by rw [J.out, R.out]; rfl), HBz.out.trans (hb.out.mono HBz.out.size)⟩
end Go.Proofs.Ytimbpfenpbkckab
