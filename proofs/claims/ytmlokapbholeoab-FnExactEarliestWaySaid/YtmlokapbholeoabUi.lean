/- EarliestWay: the way, plain; spec's side. -/
import Derived.Test.YtmlokapbholeoabUh
import Derived.Test.YtmlokapbholeoabUa
namespace Go.Proofs.Ytmlokapbholeoab
set_option linter.unusedVariables false
open Go.RowKit

/-- the first place from lo on that is told, if one of the next k is -/
def nxt (f : Nat → Bool) : Nat → Nat → Nat
  | lo, 0 => lo
  | lo, k + 1 => if f lo = true then lo else nxt f (lo + 1) k
theorem nxt_at {f : Nat → Bool} : ∀ {k lo r : Nat}, f (lo + r) = true → (∀ i, i < r → f (lo + i) = false) → r ≤ k → nxt f lo k = lo + r
  | 0, lo, r, _, _, h3 => by obtain rfl : r = 0 := by omega
                             rfl
  | k + 1, lo, 0, h1, _, _ => by unfold nxt; rw [if_pos (by simpa using h1)]; rfl
  | k + 1, lo, r + 1, h1, h2, h3 => by
    unfold nxt
    rw [if_neg (by have := h2 0 (by omega); rw [Nat.add_zero] at this; rw [this]; simp)]
    rw [nxt_at (r := r) (by rw [show lo + 1 + r = lo + (r + 1) by omega]; exact h1) (fun i hi => by rw [show lo + 1 + i = lo + (i + 1) by omega]; exact h2 _ (by omega)) (by omega)]
    omega
theorem first_ex {f : Nat → Bool} {lo : Nat} (d : Nat) : f (lo + d) = true → ∃ r, r ≤ d ∧ f (lo + r) = true ∧ ∀ i, i < r → f (lo + i) = false := by
  induction d using Nat.strongRecOn with
  | _ d ih =>
    intro g
    by_cases c : ∃ i, i < d ∧ f (lo + i) = true
    · obtain ⟨i, hi, gi⟩ := c
      obtain ⟨r, h1, h2, h3⟩ := ih i hi gi
      exact ⟨r, by omega, h2, h3⟩
    · refine ⟨d, Nat.le_refl _, g, fun i hi => ?_⟩
      cases e : f (lo + i)
      · rfl
      · exact absurd ⟨i, hi, e⟩ c
/-- the place of the first way i hours behind its start, N hours before e -/
def wy (h t : ByteArray) (l e N : Nat) : Nat → Nat
  | 0 => 0
  | i + 1 => nxt (bk h t l e (N - (i + 1))) (wy h t l e N i - l) (h.size + 2)
theorem wy_ok {h t : ByteArray} {l e N : Nat} (h0 : bk h t l e N 0 = true) : ∀ i, i ≤ N → bk h t l e (N - i) (wy h t l e N i) = true ∧ wy h t l e N i ≤ h.size + 1 ∧
    (i < N → ∃ r, wy h t l e N (i + 1) = wy h t l e N i - l + r ∧ bk h t l e (N - (i + 1)) (wy h t l e N i - l + r) = true ∧ (∀ a, a < r → bk h t l e (N - (i + 1)) (wy h t l e N i - l + a) = false) ∧ wy h t l e N i - l + r ≤ h.size + 1)
  | 0, hi => by
    refine ⟨h0, Nat.zero_le _, fun hlt => wy_go h0 (Nat.zero_le _) hlt⟩
  | i + 1, hi => by
    obtain ⟨_, _, h3⟩ := wy_ok h0 i (by omega)
    obtain ⟨r, e1, e2, _, e4⟩ := h3 (by omega)
    have a1 : bk h t l e (N - (i + 1)) (wy h t l e N (i + 1)) = true := by rw [e1]; exact e2
    have a2 : wy h t l e N (i + 1) ≤ h.size + 1 := by rw [e1]; exact e4
    exact ⟨a1, a2, fun hlt => wy_go a1 a2 hlt⟩
where
  wy_go {h t : ByteArray} {l e N i : Nat} (a1 : bk h t l e (N - i) (wy h t l e N i) = true) (a2 : wy h t l e N i ≤ h.size + 1) (hlt : i < N) :
      ∃ r, wy h t l e N (i + 1) = wy h t l e N i - l + r ∧ bk h t l e (N - (i + 1)) (wy h t l e N i - l + r) = true ∧ (∀ a, a < r → bk h t l e (N - (i + 1)) (wy h t l e N i - l + a) = false) ∧ wy h t l e N i - l + r ≤ h.size + 1 := by
    rw [show N - i = (N - (i + 1)) + 1 by omega] at a1
    obtain ⟨_, q, q1, q2, q3⟩ := stF_iff.1 (show stF h t (bk h t l e (N - (i + 1))) l (e - (N - (i + 1)) - 1) (wy h t l e N i) = true from a1)
    have q4 := near_iff.1 q3
    obtain ⟨r, r1, r2, r3⟩ := first_ex (f := bk h t l e (N - (i + 1))) (lo := wy h t l e N i - l) (q - (wy h t l e N i - l)) (by
      rw [show wy h t l e N i - l + (q - (wy h t l e N i - l)) = q by omega]; exact q2)
    exact ⟨r, nxt_at r2 r3 (by omega), r2, r3, by omega⟩
theorem fl_succ {α : Type} (k : Nat) (f : Nat → α) : fl (k + 1) f = fl k f ++ [f k] := by simp [fl, List.range_succ]
def ewB (h t : ByteArray) (L X : Int) : Bool := askd h t L X && decide (0 ≤ arV h t L.toNat X.toNat (h.size + 1))
def ewL (h t : ByteArray) (L X : Int) : List Int := if ewB h t L X then fl ((arV h t L.toNat X.toNat (h.size + 1)).toNat - X.toNat + 1) (fun i => (wy h t L.toNat (arV h t L.toNat X.toNat (h.size + 1)).toNat ((arV h t L.toNat X.toNat (h.size + 1)).toNat - X.toNat) i : Int)) else []
theorem ewL_len (h t : ByteArray) (L X : Int) : (ewL h t L X).length ≤ 1000 := by
  unfold ewL; split
  · rename_i g
    simp only [ewB, Bool.and_eq_true] at g
    obtain ⟨hl, x0, x1⟩ := askd_in g.1
    have := arV_bd h t L.toNat X.toNat (h.size + 1) (lpd_in hl).1
    rw [fl_len]; omega
  · simp
/-- what is told of a way that is there -/
theorem ew_yes {h t : ByteArray} {l s e : Nat} (ha : askd h t l s = true) (hz : arV h t l s (h.size + 1) = (e : Int)) : s ≤ e ∧ e ≤ 2000 ∧ ewB h t l s = true ∧ ewL h t l s = fl (e - s + 1) (fun i => (wy h t l e (e - s) i : Int)) ∧ bk h t l e (e - s) 0 = true := by
  obtain ⟨hl, x0, x1⟩ := askd_in ha
  obtain ⟨hg, _⟩ := lpd_in hl
  have hb := arV_bd h t l s (h.size + 1) hg
  have hge := arV_ge (h := h) (t := t) (L := l) (s := s) (p := h.size + 1) (by omega)
  have e1 : ewB h t l s = true := by simp [ewB, ha, hz]
  refine ⟨by omega, by omega, e1, ?_, ?_⟩
  · unfold ewL; rw [if_pos e1]; simp only [Int.toNat_natCast, hz]
  · rw [bk_ok (by omega), okS_arV (by have := (good_in hg).2.1; omega) (by omega)]; omega
theorem ew_no {h t : ByteArray} {L X : Int} (g : ewB h t L X = false) : ewL h t L X = [] := by simp [ewL, g]
theorem Tab.cap {w : World} {B g n cap fr lo : Nat} {F : Nat → Nat → Bool} (h : Tab w B (.slice (some ⟨g, 0, none⟩) n cap) n fr lo F) (hn : 0 < n) : n ≤ cap := by
  obtain ⟨g', cap', e, h1, _⟩ := h.form hn
  injection e with e1 e2 e3
  omega
set_option maxHeartbeats 4000000 in
theorem specEw (h t : ByteArray) (L X : Int) (w : World) (hs : h.size ≤ 1048576 ∧ t.size ≤ 1048576) :
    Calls Try.prog 17 #[.string h, .string t, .int .i64 L, .int .i64 X] w fun e w' => ∃ v, e = .returned (.tuple #[v, .bool (ewB h t L X)]) ∧ Ints w' w.heap.size v (ewL h t L X) ∧ Below w.heap.size w w' := by
  have A := fun wx => tdAsked h t L X wx hs.1 hs.2
  cases ha : askd h t L X
  · have e0 : ewB h t L X = false := by simp [ewB, ha]
    rw [ew_no e0, e0]
    rw [ha] at A
    have HA := Lib.hid A
    clear A ha e0
    refine Calls.intsNoU ?_
    go_enter Try.func17, Try.ntmps17
    go_wp2_with (go_at_call 27; refine (HA.out _).mono ?_; rintro e w' ⟨rfl, rfl⟩)
    go_ret2
    exact ⟨rfl, Below.refl _ _⟩
  · obtain ⟨hl, x0, x1⟩ := askd_in ha
    obtain ⟨hg, l0, l1⟩ := lpd_in hl
    obtain ⟨s, rfl⟩ : ∃ s : Nat, X = s := ⟨X.toNat, by omega⟩
    obtain ⟨l, rfl⟩ : ∃ l : Nat, L = l := ⟨L.toNat, by omega⟩
    have D := Lib.hid (fun wx => tdEnd h t l s wx hg (by omega) (by omega))
    have ha2 := ha
    rw [ha] at A
    have HA := Lib.hid A
    clear A ha
    by_cases hz : 0 ≤ arV h t l s (h.size + 1)
    · obtain ⟨e, he⟩ : ∃ e : Nat, arV h t l s (h.size + 1) = e := ⟨(arV h t l s (h.size + 1)).toNat, by omega⟩
      obtain ⟨hse, he2, e1, e2, e3⟩ := ew_yes ha2 he
      rw [e1, e2]
      obtain ⟨N, hN⟩ : ∃ N, N = e - s := ⟨_, rfl⟩
      rw [← hN] at e3 ⊢
      rw [he] at D
      have TB := Lib.hid (fun wx => tdBack h t l s e wx hg (by omega) hse (by omega))
      have WY := Lib.hid (fun i (hi : i < N) => (wy_ok e3 i (by omega)).2.2 hi)
      have WB := Lib.hid (fun i (hi : i ≤ N) => (wy_ok e3 i hi).2.1)
      have HN := Lib.hid hN
      obtain ⟨⟨z1, z2, _⟩, _⟩ := good_in hg
      have hNb : N ≤ 2000 := by omega
      have hez : ¬ (e : Int) < 0 := by omega
      clear hz he e1 e2 ha2 hg hl hN
      go_enter Try.func17, Try.ntmps17
      go_wp2_with (first
        | (go_at_call 27; refine (HA.out _).mono ?_; rintro r w' ⟨rfl, rfl⟩)
        | (go_at_call 31; refine (D.out _).mono ?_; rintro r w1 ⟨rfl, hb1⟩))
      refine (TB.out _).mono ?_
      rintro r w2 ⟨g, cap, n, hn, rfl, T, hb2⟩
      obtain rfl : n = N + 1 := by have := HN.out; omega
      have hcap := T.cap (by omega)
      have ROW := Lib.hid (fun j (hj : j < N) => T.row (j := j + 1) (Nat.zero_le _) (by omega))
      have B2 := Lib.hid (hb1.trans (hb2.mono hb1.size))
      have s2 : w.heap.size ≤ w2.heap.size := B2.out.size
      have I0 : Ints (w2.alloc (.cells #[.int .i64 0] 3)) w2.heap.size (.slice (some ⟨w2.heap.size, 0, none⟩) 1 1) (fl 1 (fun i => (wy h t l e N i : Int))) := row_lit (Nat.le_refl _)
      have HI0 := Lib.hid I0
      have BB0 := Lib.hid ((Below.refl w2.heap.size w2).alloc (Nat.le_refl _) (.cells #[.int .i64 0] 3))
      have hN1 : 1 ≤ N := by
        by_cases c : N = 0
        · exfalso
          have := e3
          rw [c] at this
          simp [bk] at this
        · omega
      have hcap1 : ¬ cap = 1 := by omega
      have hnp : 0 < N + 1 := by omega
      have hnp2 : (1 : Int) ≤ ((N + 1 : Nat) : Int) := by omega
      clear T hb1 hb2 I0 hn e3
      go_wp2
      have hd0 : decide ((e : Int) < 0) = false := by simp
      try simp only [hd0]
      clear hd0
      obtain ⟨b, hb⟩ : ∃ b, b = w2.heap.size := ⟨_, rfl⟩
      have HBB := Lib.hid hb
      rw [← hb] at HI0 BB0 s2 ⊢
      have RW := Lib.hid (show ∀ j, j < N → ∃ c, w2.cell? ⟨g, j + 1, none⟩ = some (rowV (h.size + 1) c) ∧ (∀ p, p < h.size + 1 + 1 → w2.cell? ⟨c, p, none⟩ = some (.bool (bk h t l e (N - (j + 1)) p))) ∧ c < b ∧ g < b from by
        rw [hb]; exact ROW.out)
      clear ROW hb
      go_loopw [12, 13, 40] (fun v p q wr => ∃ k : Nat, k ≤ N ∧ q = .int .i64 k ∧ p = .int .i64 (wy h t l e N k : Int) ∧ Hid (Ints wr b v (fl (k + 1) (fun i => (wy h t l e N i : Int)))) ∧ Hid (Below b w2 wr)) (fun _ _ q _ => N - (intOf q).toNat)
      case atStart => exact ⟨0, Nat.zero_le _, rfl, rfl, HI0, BB0⟩
      case round =>
        clear HI0 BB0
        obtain ⟨k, hk, rfl, rfl, HI, HB⟩ := hrel
        by_cases hlt : k < N
        · have hlt' : (k : Int) < N := by omega
          have hk0 : (0 : Int) ≤ k := by omega
          obtain ⟨r, q1, q2, q3, q4⟩ := WY.out k hlt
          obtain ⟨c, cr, cf, hcw, hgw⟩ := RW.out k hlt
          have hpb := WB.out k hk
          have cr1 : ∀ W, Below b w2 W → W.cell? ⟨g, 1 + k, none⟩ = some (.slice (some ⟨c, 0, none⟩) (h.size + 1 + 1) (h.size + 1 + 1)) := fun W hW => (hW.cell (p := ⟨g, 1 + k, none⟩) hgw).trans (by rw [Nat.add_comm 1 k]; exact cr)
          have CR1 := Lib.hid cr1
          have CF := Lib.hid (fun W (hW : Below b w2 W) p hp => (hW.cell (p := ⟨c, p, none⟩) hcw).trans (cf p hp))
          have ck := CR1.out _ HB.out
          have WN := Lib.hid (show (wy h t l e N (k + 1) : Int) = ((wy h t l e N k - l : Nat) : Int) + r by rw [q1]; push_cast; rfl)
          clear cr cf cr1 q1
          generalize bk h t l e (N - (k + 1)) = f at *
          have HI2 := Lib.hid (show Ints wr b _ _ from HI.out)
          obtain ⟨p, hp⟩ : ∃ p, p = wy h t l e N k := ⟨_, rfl⟩
          simp only [← hp] at q2 q3 q4 hpb WN ⊢
          have HP := Lib.hid hp
          obtain ⟨lo, hlo⟩ : ∃ lo, lo = p - l := ⟨_, rfl⟩
          have HLO2 := Lib.hid (show ((p : Int) - l < 0 ∧ lo = 0) ∨ (0 ≤ (p : Int) - l ∧ (p : Int) - l = lo) by omega)
          simp only [← hlo] at q2 q3 q4 WN
          have Q2 := Lib.hid q2
          have Q3 := Lib.hid q3
          clear hp hlo q2 q3
          go_wp2_with (go_at_call 33; refine (l1MostU _ lo _ HLO2.out).mono ?_; rintro r w' ⟨rfl, rfl⟩)
          obtain ⟨wp, rfl⟩ : ∃ wp : World, wp = wr := ⟨_, rfl⟩
          go_loopw [16] (fun q wr => ∃ a : Nat, a ≤ r ∧ q = .int .i64 ((lo : Int) + a) ∧ wr = wp) (fun q _ => lo + r - (intOf q).toNat)
          case atStart => exact ⟨0, Nat.zero_le _, by simp, by first | rfl | trivial⟩
          case round =>
            obtain ⟨a, ha, rfl, rfl⟩ := hrel
            have hmi : (0 : Int) ≤ (lo : Int) + a := by omega
            have hmn : ((lo : Int) + a).toNat = lo + a := by omega
            have hml : (lo : Int) + a < (h.size : Int) + 1 + 1 := by omega
            have hml2 : lo + a < h.size + 1 + 1 := by omega
            have cq := CF.out _ HB.out (lo + a) hml2
            by_cases hra : a < r
            · rw [Q3.out a hra] at cq
              go_wp2
              go_roundw
              case rel => exact ⟨a + 1, by omega, by go_num, by first | rfl | trivial⟩
              case measure => (simp [intOf]; try omega)
            · obtain rfl : a = r := by omega
              rw [Q2.out] at cq
              have hlen : (fl (k + 1) (fun i => (wy h t l e N i : Int))).length = k + 1 := fl_len _ _
              have FS := Lib.hid (fl_succ (k + 1) (fun i => (wy h t l e N i : Int)))
              clear HI
              go_wp2_with (at_builtin; go_loud (refine wpList_app wr rfl _ _ rfl b _ (fl (k + 1) (fun i => (wy h t l e N i : Int))) rfl HI2.out ((lo : Int) + a) rfl (by rw [hlen]; omega) (by have := HB.out.size; have := HBB.out; omega) rfl ?_; intro v' w3 hI3 hb3 hg3))
              go_roundw
              case rel => exact ⟨k + 1, by omega, by go_num, by rw [WN.out], Lib.hid (by rw [FS.out, WN.out]; exact hI3), Lib.hid (HB.out.trans (hb3.mono (by have := HB.out.size; have := HBB.out; omega)))⟩
              case measure => (simp [intOf]; try omega)
        · obtain rfl : k = N := by omega
          have HI2 := Lib.hid HI.out
          clear HI
          go_wp2
          go_ret2
          exact ⟨_, rfl, ints_mono' HI2.out (by have := s2; omega), B2.out.trans (HB.out.mono s2)⟩
    · have e0 : ewB h t l s = false := by simp [ewB, hz]
      rw [ew_no e0, e0]
      have hz' : arV h t l s (h.size + 1) < 0 := by omega
      generalize arV h t l s (h.size + 1) = y at *
      clear ha2 hg hl e0
      refine Calls.intsNoU ?_
      go_enter Try.func17, Try.ntmps17
      go_wp2_with (first
        | (go_at_call 27; refine (HA.out _).mono ?_; rintro e w' ⟨rfl, rfl⟩)
        | (go_at_call 31; refine (D.out _).mono ?_; rintro e w2 ⟨rfl, hb2⟩))
      go_ret2
      exact ⟨rfl, hb2⟩
end Go.Proofs.Ytmlokapbholeoab
