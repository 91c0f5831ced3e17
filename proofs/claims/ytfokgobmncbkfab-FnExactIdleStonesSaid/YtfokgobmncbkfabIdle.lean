/- IdleStones, impl and spec. -/
import Derived.Test.YtfokgobmncbkfabCan
import Derived.Test.YtfokgobmncbkfabReachM
import Derived.Test.YtfokgobmncbkfabStones
namespace Go.Proofs.Ytfokgobmncbkfab
set_option linter.unusedVariables false
open Go.RowKit

def idleL (s : ByteArray) (L : Int) : List Int := if asked s L then (if canB s L then [] else stones s) else []
theorem idleL_no {s : ByteArray} {L : Int} (h : asked s L = false) : idleL s L = [] := by simp [idleL, h]
theorem idleL_can {s : ByteArray} {L : Int} (h : canB s L = true) : idleL s L = [] := by simp [idleL, h]
theorem idleL_yes {s : ByteArray} {L : Int} (h : asked s L = true) (h2 : canB s L = false) : idleL s L = stones s := by simp [idleL, h, h2]
theorem idleL_len (s : ByteArray) (L : Int) : (idleL s L).length ≤ 40 := by
  unfold idleL; split
  · split
    · simp
    · exact stones_len s
  · simp

set_option maxHeartbeats 1000000 in
theorem implIdle (s : ByteArray) (L : Int) (w : World) (hs : s.size ≤ 1048576) :
    Calls Try.prog 23 #[.string s, .int .i64 L] w (IntsPost w.heap.size (idleL s L) (asked s L) w) := by
  have C := fun wx => implCan s L wx hs
  cases h1 : asked s L
  · rw [canV_no h1] at C
    have HC := Lib.hid C
    have J := Lib.hid (idleL_no h1)
    clear h1 C
    go_enter Try.func23, Try.ntmps23
    go_wp2_with (go_at_call 41; refine (HC.out _).mono ?_; rintro e w1 ⟨rfl, hb1⟩)
    go_ret2
    exact ⟨_, rfl, by rw [J.out]; exact World.ownsRow_nil _ _ _ _, hb1⟩
  · rw [canV_yes h1] at C
    cases h2 : canB s L
    · rw [h2] at C
      have HC := Lib.hid C
      have J := Lib.hid (idleL_yes h1 h2)
      have hrv := (asked_out h1).1
      have I := fun wx => implStones s wx hs
      rw [hrv] at I
      have HI := Lib.hid I
      clear h1 h2 C I hrv
      go_enter Try.func23, Try.ntmps23
      go_wp2_with (first
        | (go_at_call 41; refine (HC.out _).mono ?_; rintro e w1 ⟨rfl, hb1⟩)
        | (go_at_call 43; refine (HI.out _).mono ?_; rintro e w2 ⟨v, rfl, hI, hb2⟩))
      go_ret2
      exact ⟨_, rfl, by rw [J.out]; exact ints_mono' hI hb1.size, hb1.trans (hb2.mono hb1.size)⟩
    · rw [h2] at C
      have HC := Lib.hid C
      have J := Lib.hid (idleL_can h2)
      clear h1 h2 C
      go_enter Try.func23, Try.ntmps23
      go_wp2_with (go_at_call 41; refine (HC.out _).mono ?_; rintro e w1 ⟨rfl, hb1⟩)
      go_ret2
      exact ⟨_, rfl, by rw [J.out]; exact World.ownsRow_nil _ _ _ _, hb1⟩

def idlTo (s : ByteArray) (c : Bool) (k : Nat) : List Int := if c then [] else stonesTo s k
theorem idlTo_len (s : ByteArray) (c : Bool) (k : Nat) : (idlTo s c k).length ≤ k := by
  unfold idlTo; split
  · simp
  · exact stonesTo_len s k
theorem idlTo_no {s : ByteArray} {c : Bool} {k : Nat} (h : stn s (k + 1) = false ∨ c = true) : idlTo s c (k + 1) = idlTo s c k := by
  unfold idlTo
  rcases h with h | h
  · rw [stonesTo_no h]
  · simp [h]
theorem idlTo_yes {s : ByteArray} {k : Nat} (h : stn s (k + 1) = true) : idlTo s false (k + 1) = idlTo s false k ++ [(k : Int) + 1] := by
  simp [idlTo, stonesTo_yes h]

set_option maxHeartbeats 2000000 in
theorem specIdle (s : ByteArray) (L : Int) (w : World) (hs : s.size ≤ 1048576) :
    Calls Try.prog 22 #[.string s, .int .i64 L] w (IntsPost w.heap.size (idleL s L) (asked s L) w) := by
  cases h1 : asked s L
  · have J := Lib.hid (idleL_no h1)
    have G := Lib.hid h1
    clear h1
    go_enter Try.func22, Try.ntmps22
    go_wp2_with (go_at_call 24; refine (specAsked _ _ _ hs).mono ?_; rintro e w' ⟨rfl, rfl⟩; rw [G.out])
    go_ret2
    exact ⟨_, rfl, by rw [J.out]; exact World.ownsRow_nil _ _ _ _, Below.refl _ _⟩
  · obtain ⟨hrv, hz1, hz2, hl1, hl2⟩ := asked_out h1
    obtain ⟨l, rfl⟩ := Int.eq_ofNat_of_zero_le (show 0 ≤ L by omega)
    have hcb : canB s l = decide (gapLen s (s.size + 1) ≤ l) := by unfold canB; rw [decide_eq_decide]; omega
    have J : Hid (idleL s l = idlTo s (canB s l) s.size) := Lib.hid (by
      cases h2 : canB s l
      · rw [idleL_yes h1 h2, stones_yes hrv]; rfl
      · rw [idleL_can h2]; rfl)
    have HID : ∀ p, p ≤ s.size + 1 → stand s p = true → ((gb (reaches s l) p = true ∧ 0 ≤ gt (lefts s l) p) ↔ canB s l = true) := fun p hp h => by
      rw [idle_iff s l p hp h, hcb, decide_eq_true_eq]
    have HH := Lib.hid HID
    have G := Lib.hid h1
    have hlr : (reaches s l).length = s.size + 2 := by rw [reaches, rch_len]
    have hll : (lefts s l).length = s.size + 2 := by rw [lefts, lvl_len]
    have hlb := lvl_small s l (s.size + 1) (s.size + 1)
    have HLB := Lib.hid (show ∀ j, -1 ≤ gt (lefts s l) j ∧ gt (lefts s l) j ≤ 41 from fun j => by have := hlb j; unfold lefts; omega)
    have HR := Lib.hid hlr
    have HL := Lib.hid hll
    clear h1 HID hcb hlr hll hlb hrv
    generalize canB s l = c at *
    go_enter Try.func22, Try.ntmps22
    go_wp2_with (first
      | (go_at_call 24; refine (specAsked _ _ _ hs).mono ?_; rintro e w' ⟨rfl, rfl⟩; rw [G.out])
      | (go_at_call 31; refine (specReach s l _ hz1 hz2 (by omega) (by omega)).mono ?_; rintro e w1 ⟨v1, rfl, hB, hb1⟩; obtain ⟨g1, n1, cap1, rfl, hn1, _, hg1, hc1⟩ := hB.form (by rw [HR.out]; omega); clear hB; have HN1 := Lib.hid (And.intro hn1 hc1); clear hn1 hc1)
      | (go_at_call 42; refine (specRvLeft s l _ hz1 hz2 (by omega) (by omega)).mono ?_; rintro e w2 ⟨v2, rfl, hI, hb2⟩; obtain ⟨g2, n2, cap2, rfl, hn2, _, _, hgB2, hg2, hc2⟩ := hI.form (by rw [HL.out]; omega); clear hI; have HN2 := Lib.hid (And.intro hn2 hc2); clear hn2 hc2))
    have s1 := hb1.size
    have s2 := hb2.size
    have hn1 : n1 = s.size + 2 := by rw [HN1.out.1, HR.out]
    have hn2 : n2 = s.size + 2 := by rw [HN2.out.1, HL.out]
    have hC1 : ∀ j, j < s.size + 2 → w2.cell? ⟨g1, j, none⟩ = some (.bool (gb (reaches s l) j)) := fun j hj => (hb2.cell (p := ⟨g1, j, none⟩) hg1).trans (HN1.out.2 j (by omega))
    have hC2 : ∀ j, j < s.size + 2 → w2.cell? ⟨g2, j, none⟩ = some (.int .i64 (gt (lefts s l) j)) := fun j hj => HN2.out.2 j (by omega)
    have HC1 := Lib.hid hC1
    have HC2 := Lib.hid hC2
    have hna : s.size + 2 ≤ n1 := by omega
    have hnb : s.size + 2 ≤ n2 := by omega
    have HNN := Lib.hid (And.intro hn1 hn2)
    clear hC1 hC2 hn1 hn2 HN1 HN2
    go_loopw [8, 9] (fun v i wr => ∃ k : Nat, k ≤ s.size ∧ i = .int .i64 ((k : Int) + 1) ∧ Ints wr w2.heap.size v (idlTo s c k) ∧ Below w2.heap.size w2 wr) (fun _ i _ => s.size + 1 - (intOf i).toNat)
    case atStart => exact ⟨0, Nat.zero_le _, rfl, by unfold idlTo; cases c <;> exact World.ownsRow_nil _ _ _ _, Below.refl _ _⟩
    case round =>
      obtain ⟨k, hk, rfl, hI, hbr⟩ := hrel
      have hle := hbr.size
      by_cases hlt : k < s.size
      · have hlen := idlTo_len s c k
        cases h2 : stn s (k + 1)
        · have R := Lib.hid (idlTo_no (c := c) (.inl h2))
          have G2 := Lib.hid ((stand_in (by omega) (by omega)).trans h2)
          clear h2
          go_wp2_with (go_at_call 39; refine (rvStand s (k + 1) _ hs (by omega)).mono ?_; rintro e w' ⟨rfl, rfl⟩; rw [G2.out])
          go_roundw
          case rel => exact ⟨k + 1, by omega, by go_num, by rw [R.out]; exact hI, hbr⟩
          case measure => (simp [intOf]; try omega)
        · have hst := (stand_in (by omega) (by omega)).trans h2
          have G2 := Lib.hid hst
          have hid := HH.out (k + 1) (by omega) hst
          have c1 := (hbr.cell (p := ⟨g1, k + 1, none⟩) (show g1 < w2.heap.size by omega)).trans (HC1.out (k + 1) (by omega))
          have c2 := (hbr.cell (p := ⟨g2, k + 1, none⟩) (show g2 < w2.heap.size by omega)).trans (HC2.out (k + 1) (by omega))
          have hxb := HLB.out (k + 1)
          generalize gb (reaches s l) (k + 1) = x at *
          generalize gt (lefts s l) (k + 1) = y at *
          have i1 : (k : Int) + 1 < n1 := by omega
          have i2 : (k : Int) + 1 < n2 := by omega
          cases c
          · have R := Lib.hid (idlTo_yes h2)
            have hx : ¬ (x = true ∧ 0 ≤ y) := fun h => by have := hid.1 h; cases this
            clear h2 hst hid
            cases x
            · clear hx
              go_wp2_with (first
                | (go_at_call 39; refine (rvStand s (k + 1) _ hs (by omega)).mono ?_; rintro e w' ⟨rfl, rfl⟩; rw [G2.out])
                | (at_builtin; refine wpList_app wr rfl _ _ rfl w2.heap.size _ (idlTo s false k) rfl hI ((k : Int) + 1) rfl (by omega) hle rfl ?_; intro v' w3 hI3 hb3 hg3))
              go_roundw
              case rel => exact ⟨k + 1, by omega, by go_num, by rw [R.out]; exact hI3, hbr.trans hb3⟩
              case measure => (simp [intOf]; try omega)
            · have hy : y < 0 := by
                rcases Int.lt_or_le y 0 with h | h
                · exact h
                · exact absurd ⟨rfl, h⟩ hx
              clear hx
              go_wp2_with (first
                | (go_at_call 39; refine (rvStand s (k + 1) _ hs (by omega)).mono ?_; rintro e w' ⟨rfl, rfl⟩; rw [G2.out])
                | (at_builtin; refine wpList_app wr rfl _ _ rfl w2.heap.size _ (idlTo s false k) rfl hI ((k : Int) + 1) rfl (by omega) hle rfl ?_; intro v' w3 hI3 hb3 hg3))
              go_roundw
              case rel => exact ⟨k + 1, by omega, by go_num, by rw [R.out]; exact hI3, hbr.trans hb3⟩
              case measure => (simp [intOf]; try omega)
          · have R := Lib.hid (idlTo_no (s := s) (k := k) (c := true) (.inr rfl))
            obtain ⟨rfl, hy⟩ := hid.2 rfl
            have hy2 : ¬ y < 0 := by omega
            clear h2 hst hid
            go_wp2_with (go_at_call 39; refine (rvStand s (k + 1) _ hs (by omega)).mono ?_; rintro e w' ⟨rfl, rfl⟩; rw [G2.out])
            go_roundw
            case rel => exact ⟨k + 1, by omega, by go_num, by rw [R.out]; exact hI, hbr⟩
            case measure => (simp [intOf]; try omega)
      · obtain rfl : k = s.size := by omega
        go_wp2
        go_ret2
        exact ⟨_, rfl, by rw [J.out]; exact ints_mono' hI (by omega), (hb1.trans (hb2.mono s1)).trans (hbr.mono (by omega))⟩
end Go.Proofs.Ytfokgobmncbkfab
