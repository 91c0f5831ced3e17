/- CanGroupCross, LeapForGroup, both sides. -/
import Derived.Test.YtihdhgkknfohaabSc
namespace Go.Proofs.Ytihdhgkknfohaab
set_option linter.unusedVariables false
open Go.RowKit

/-- so many can cross -/
def canB (s : ByteArray) (l : Nat) (g : Int) : Bool := decide (s.size < l) || decide (g ≤ (nar s l).1)
theorem canB_far {s : ByteArray} {l : Nat} {g : Int} (h : s.size < l) : canB s l g = true := by simp [canB, h]
theorem canB_in {s : ByteArray} {l : Nat} {g : Int} (h : ¬ s.size < l) : canB s l g = decide (g ≤ (nar s l).1) := by simp [canB, h]
set_option maxHeartbeats 1000000 in
theorem siCan (s : ByteArray) (l : Nat) (g : Int) (w : World) (hd : AllD s) (hs : s.size ≤ 20) (hl : 1 ≤ l) (hl2 : l ≤ 21) :
    Calls Try.prog 36 #[.string s, .int .i64 (l : Int), .int .i64 g] w fun e w' => e = .returned (.bool (canB s l g)) ∧ w = w' := by
  by_cases h : s.size < l
  · have J := Lib.hid (canB_far (g := g) h)
    have h' : (s.size : Int) < l := by omega
    clear hd
    go_enter Try.func36, Try.ntmps36
    go_wp2
    go_ret
    exact ⟨ret_bool J.out.symm, rfl⟩
  · have J := Lib.hid (canB_in (g := g) h)
    have h' : ¬ (s.size : Int) < l := by omega
    have C := Lib.hid (fun wx => siNarrow s l wx hd hs hl hl2)
    clear hd
    go_enter Try.func36, Try.ntmps36
    go_wp2_with (go_at_call 28; refine (C.out _).mono ?_; rintro e w' ⟨rfl, rfl⟩)
    go_ret
    exact ⟨ret_bool J.out.symm, rfl⟩
set_option maxHeartbeats 1000000 in
theorem canGroupCross (s : ByteArray) (l : Nat) (g : Int) (w : World) (hd : AllD s) (hs : s.size ≤ 20) (hl : 1 ≤ l) (hl2 : l ≤ 21) :
    Calls Try.prog 38 #[.string s, .int .i64 (l : Int), .int .i64 g] w fun e w' => e = .returned (.bool (canB s l g)) ∧ Below w.heap.size w w' := by
  have C := fun wx => narrowest s l wx hd hs hl hl2
  unfold rp at C
  by_cases h : s.size < l
  · have J := Lib.hid (canB_far (g := g) h)
    rw [nar_off h] at C
    have e : nI ((-1 : Int), 0) = 0 := rfl
    rw [e] at C
    have HC := Lib.hid C
    clear hd C e
    go_enter Try.func38, Try.ntmps38
    go_wp2_with (first
      | (go_at_call 30; refine (HC.out _).mono ?_; rintro e w2 ⟨rfl, hb2⟩; have HB := Lib.hid hb2; have hs2 := hb2.size; clear hb2)
      | (go_at_call 33; refine (isNone_yes _).mono ?_; rintro e w' ⟨rfl, rfl⟩))
    go_ret
    refine ⟨ret_bool J.out.symm, HB.out.trans ?_⟩
    refine Below.mono (B := w2.heap.size) ?_ hs2
    (repeat (first | exact Below.refl _ _ | (refine Below.alloc ?_ (by first | omega | (simp; try omega)) _) | apply Below.drew | apply below_drewN))
  · have hn := nar_in hd (l := l) (by omega)
    have J := Lib.hid (canB_in (g := g) h)
    generalize nar s l = b at *
    obtain ⟨x, y⟩ := b
    simp only at hn J
    have e : nI (x, y) = x := by unfold nI; rw [if_neg]; simp only; omega
    rw [e] at C
    have hy : (y : Int) ≠ 0 := by omega
    have HC := Lib.hid C
    clear hd C e
    go_enter Try.func38, Try.ntmps38
    go_wp2_with (first
      | (go_at_call 30; refine (HC.out _).mono ?_; rintro e w2 ⟨rfl, hb2⟩; have HB := Lib.hid hb2; have hs2 := hb2.size; clear hb2)
      | (go_at_call 33; refine (isNone_no _ _ _ hy).mono ?_; rintro e w' ⟨rfl, rfl⟩)
      | (go_at_call 31; refine (partSumX _ _ _).mono ?_; rintro e w' ⟨rfl, rfl⟩))
    go_ret
    refine ⟨ret_bool J.out.symm, HB.out.trans ?_⟩
    refine Below.mono (B := w2.heap.size) ?_ hs2
    (repeat (first | exact Below.refl _ _ | (refine Below.alloc ?_ (by first | omega | (simp; try omega)) _) | apply Below.drew | apply below_drewN))
def canV (s : ByteArray) (L g : Int) : Value := if stA s L && inB g 1 100 then .tuple #[.bool (canB s L.toNat g), .bool true] else .tuple #[.bool false, .bool false]
theorem canV_form (s : ByteArray) (L g : Int) : ∃ x z, canV s L g = .tuple #[.bool x, .bool z] := by unfold canV; split <;> exact ⟨_, _, rfl⟩
theorem canV_1 {s : ByteArray} {L g : Int} (h : stA s L = false) : canV s L g = .tuple #[.bool false, .bool false] := by simp [canV, h]
theorem canV_2 {s : ByteArray} {L g : Int} (h : inB g 1 100 = false) : canV s L g = .tuple #[.bool false, .bool false] := by simp [canV, h]
theorem canV_3 {s : ByteArray} {l : Nat} {g : Int} (h : stA s (l : Int) = true) (h2 : inB g 1 100 = true) : canV s (l : Int) g = .tuple #[.bool (canB s l g), .bool true] := by simp [canV, h, h2]
theorem specCan5 (s : ByteArray) (L g : Int) (w : World) (hs : s.size ≤ 1048576) :
    Calls Try.prog 14 #[.string s, .int .i64 L, .int .i64 g] w fun e w' => e = .returned (canV s L g) ∧ Below w.heap.size w w' := by
  cases h : stA s L
  · have J := Lib.hid (canV_1 (g := g) h)
    have G := Lib.hid h
    clear h
    go_enter Try.func14, Try.ntmps14
    go_wp2_with (go_at_call 34; refine (siAsked _ _ _ hs).mono ?_; rintro e w' ⟨rfl, rfl⟩; rw [G.out])
    go_ret2
    exact ⟨ret_v J.out.symm, Below.refl _ _⟩
  cases h2 : inB g 1 100
  · have J := Lib.hid (canV_2 (s := s) (L := L) h2)
    have G := Lib.hid h
    have G2 := Lib.hid h2
    clear h h2
    go_enter Try.func14, Try.ntmps14
    go_wp2_with (first
      | (go_at_call 34; refine (siAsked _ _ _ hs).mono ?_; rintro e w' ⟨rfl, rfl⟩; rw [G.out])
      | (go_at_call 35; refine (siGroup _ _).mono ?_; rintro e w' ⟨rfl, rfl⟩; rw [G2.out]))
    go_ret2
    exact ⟨ret_v J.out.symm, Below.refl _ _⟩
  · obtain ⟨h1, h3, h4⟩ := stA_in h
    obtain ⟨z1, z2, hd⟩ := isSt_in h1
    obtain ⟨l, rfl⟩ : ∃ l : Nat, L = (l : Int) := ⟨L.toNat, by omega⟩
    have J := Lib.hid (canV_3 h h2)
    have C := Lib.hid (fun wx => siCan s l g wx hd z2 (by omega) (by omega))
    have G := Lib.hid h
    have G2 := Lib.hid h2
    clear h h2 h1 hd
    go_enter Try.func14, Try.ntmps14
    go_wp2_with (first
      | (go_at_call 34; refine (siAsked _ _ _ hs).mono ?_; rintro e w' ⟨rfl, rfl⟩; rw [G.out])
      | (go_at_call 35; refine (siGroup _ _).mono ?_; rintro e w' ⟨rfl, rfl⟩; rw [G2.out])
      | (go_at_call 36; refine (C.out _).mono ?_; rintro e w2 ⟨rfl, rfl⟩))
    go_ret2
    exact ⟨ret_v J.out.symm, Below.refl _ _⟩
theorem implCan5 (s : ByteArray) (L g : Int) (w : World) (hs : s.size ≤ 1048576) :
    Calls Try.prog 15 #[.string s, .int .i64 L, .int .i64 g] w fun e w' => e = .returned (canV s L g) ∧ Below w.heap.size w w' := by
  cases h : stA s L
  · have J := Lib.hid (canV_1 (g := g) h)
    have G := Lib.hid h
    clear h
    go_enter Try.func15, Try.ntmps15
    go_wp2_with (go_at_call 29; refine (isStrongWithLeap _ _ _ hs).mono ?_; rintro e w' ⟨rfl, rfl⟩; rw [G.out])
    go_ret2
    exact ⟨ret_v J.out.symm, Below.refl _ _⟩
  cases h2 : inB g 1 100
  · have J := Lib.hid (canV_2 (s := s) (L := L) h2)
    have G := Lib.hid h
    have G2 := Lib.hid h2
    clear h h2
    go_enter Try.func15, Try.ntmps15
    go_wp2_with (first
      | (go_at_call 29; refine (isStrongWithLeap _ _ _ hs).mono ?_; rintro e w' ⟨rfl, rfl⟩; rw [G.out])
      | (go_at_call 37; refine (isGroup _ _).mono ?_; rintro e w' ⟨rfl, rfl⟩; rw [G2.out]))
    go_ret2
    exact ⟨ret_v J.out.symm, Below.refl _ _⟩
  · obtain ⟨h1, h3, h4⟩ := stA_in h
    obtain ⟨z1, z2, hd⟩ := isSt_in h1
    obtain ⟨l, rfl⟩ : ∃ l : Nat, L = (l : Int) := ⟨L.toNat, by omega⟩
    have J := Lib.hid (canV_3 h h2)
    have C := Lib.hid (fun wx => canGroupCross s l g wx hd z2 (by omega) (by omega))
    have G := Lib.hid h
    have G2 := Lib.hid h2
    clear h h2 h1 hd
    go_enter Try.func15, Try.ntmps15
    go_wp2_with (first
      | (go_at_call 29; refine (isStrongWithLeap _ _ _ hs).mono ?_; rintro e w' ⟨rfl, rfl⟩; rw [G.out])
      | (go_at_call 37; refine (isGroup _ _).mono ?_; rintro e w' ⟨rfl, rfl⟩; rw [G2.out])
      | (go_at_call 38; refine (C.out _).mono ?_; rintro e w2 ⟨rfl, hb2⟩))
    go_ret2
    exact ⟨ret_v J.out.symm, hb2⟩
/-- the least length of leaps from one on, in so many tries, for which so many can cross -/
def lfF (s : ByteArray) (g : Int) : Nat → Nat → Nat
  | 0, l => l
  | f + 1, l => if canB s l g then l else lfF s g f (l + 1)
def lfg (s : ByteArray) (g : Int) : Nat := lfF s g s.size 1
theorem lfF_hit {s : ByteArray} {g : Int} {l : Nat} (h : canB s l g = true) : ∀ f, lfF s g f l = l
  | 0 => rfl
  | f + 1 => by simp [lfF, h]
theorem lfF_miss {s : ByteArray} {g : Int} {l : Nat} (h : canB s l g = false) (hl : l ≤ s.size) : lfF s g (s.size + 1 - l) l = lfF s g (s.size + 1 - (l + 1)) (l + 1) := by
  rw [show s.size + 1 - l = (s.size + 1 - (l + 1)) + 1 from by omega]
  simp [lfF, h]
def lfgV (s : ByteArray) (g : Int) : Value := if isSt s && inB g 1 100 then .tuple #[.int .i64 (lfg s g : Int), .bool true] else .tuple #[.int .i64 0, .bool false]
theorem lfgV_form (s : ByteArray) (g : Int) : ∃ x z, lfgV s g = .tuple #[.int .i64 x, .bool z] := by unfold lfgV; split <;> exact ⟨_, _, rfl⟩
theorem lfgV_1 {s : ByteArray} {g : Int} (h : isSt s = false) : lfgV s g = .tuple #[.int .i64 0, .bool false] := by simp [lfgV, h]
theorem lfgV_2 {s : ByteArray} {g : Int} (h : inB g 1 100 = false) : lfgV s g = .tuple #[.int .i64 0, .bool false] := by simp [lfgV, h]
theorem lfgV_3 {s : ByteArray} {g : Int} (h : isSt s = true) (h2 : inB g 1 100 = true) : lfgV s g = .tuple #[.int .i64 (lfg s g : Int), .bool true] := by simp [lfgV, h, h2]
set_option maxHeartbeats 1000000 in
theorem specLfg (s : ByteArray) (g : Int) (w : World) (hs : s.size ≤ 1048576) :
    Calls Try.prog 16 #[.string s, .int .i64 g] w fun e w' => e = .returned (lfgV s g) ∧ Below w.heap.size w w' := by
  cases h : isSt s
  · have J := Lib.hid (lfgV_1 (g := g) h)
    have G := Lib.hid h
    clear h
    go_enter Try.func16, Try.ntmps16
    go_wp2_with (go_at_call 39; refine (siGood _ _ (by unfold maxLen; omega)).mono ?_; rintro e w' ⟨rfl, rfl⟩; rw [G.out])
    go_ret2
    exact ⟨ret_v J.out.symm, Below.refl _ _⟩
  cases h2 : inB g 1 100
  · have J := Lib.hid (lfgV_2 (s := s) h2)
    have G := Lib.hid h
    have G2 := Lib.hid h2
    clear h h2
    go_enter Try.func16, Try.ntmps16
    go_wp2_with (first
      | (go_at_call 39; refine (siGood _ _ (by unfold maxLen; omega)).mono ?_; rintro e w' ⟨rfl, rfl⟩; rw [G.out])
      | (go_at_call 35; refine (siGroup _ _).mono ?_; rintro e w' ⟨rfl, rfl⟩; rw [G2.out]))
    go_ret2
    exact ⟨ret_v J.out.symm, Below.refl _ _⟩
  · obtain ⟨z1, z2, hd⟩ := isSt_in h
    have J := Lib.hid (lfgV_3 h h2)
    have HD := Lib.hid hd
    have G := Lib.hid h
    have G2 := Lib.hid h2
    clear h h2 hd
    go_enter Try.func16, Try.ntmps16
    go_wp2_with (first
      | (go_at_call 39; refine (siGood _ _ (by unfold maxLen; omega)).mono ?_; rintro e w' ⟨rfl, rfl⟩; rw [G.out])
      | (go_at_call 35; refine (siGroup _ _).mono ?_; rintro e w' ⟨rfl, rfl⟩; rw [G2.out]))
    go_loop [6] (fun i => ∃ l : Nat, 1 ≤ l ∧ l ≤ s.size + 1 ∧ i = .int .i64 (l : Int) ∧ Hid (lfF s g (s.size + 1 - l) l = lfg s g)) (fun i => s.size + 1 - (intOf i).toNat)
    case atStart => exact ⟨1, by omega, by omega, rfl, Lib.hid rfl⟩
    case round =>
      obtain ⟨l, hl1, hl2, rfl, HL⟩ := hrel
      have C := Lib.hid (siCan s l g w HD.out z2 (by omega) (by omega))
      cases hc : canB s l g
      · have hls : l ≤ s.size := by
          by_cases e : s.size < l
          · rw [canB_far e] at hc; cases hc
          · omega
        have R := Lib.hid ((lfF_miss hc hls).symm.trans HL.out)
        rw [hc] at C
        clear hc
        go_wp2_with (go_at_call 36; refine C.out.mono ?_; rintro e w2 ⟨rfl, rfl⟩)
        go_round
        case rel => exact ⟨l + 1, by omega, by omega, by go_num, R⟩
        case measure => (simp [intOf]; try omega)
      · have R := Lib.hid ((lfF_hit hc _).symm.trans HL.out)
        rw [hc] at C
        clear hc
        go_wp2_with (go_at_call 36; refine C.out.mono ?_; rintro e w2 ⟨rfl, rfl⟩)
        go_ret2
        exact ⟨ret_v (by rw [J.out, ← R.out]; rfl), Below.refl _ _⟩
set_option maxHeartbeats 1000000 in
theorem implLfg (s : ByteArray) (g : Int) (w : World) (hs : s.size ≤ 1048576) :
    Calls Try.prog 17 #[.string s, .int .i64 g] w fun e w' => e = .returned (lfgV s g) ∧ Below w.heap.size w w' := by
  cases h : isSt s
  · have J := Lib.hid (lfgV_1 (g := g) h)
    have G := Lib.hid h
    clear h
    go_enter Try.func17, Try.ntmps17
    go_wp2_with (go_at_call 40; refine (implIsStrong _ _ (by unfold maxLen; omega)).mono ?_; rintro e w' ⟨rfl, rfl⟩; rw [G.out])
    go_ret2
    exact ⟨ret_v J.out.symm, Below.refl _ _⟩
  cases h2 : inB g 1 100
  · have J := Lib.hid (lfgV_2 (s := s) h2)
    have G := Lib.hid h
    have G2 := Lib.hid h2
    clear h h2
    go_enter Try.func17, Try.ntmps17
    go_wp2_with (first
      | (go_at_call 40; refine (implIsStrong _ _ (by unfold maxLen; omega)).mono ?_; rintro e w' ⟨rfl, rfl⟩; rw [G.out])
      | (go_at_call 37; refine (isGroup _ _).mono ?_; rintro e w' ⟨rfl, rfl⟩; rw [G2.out]))
    go_ret2
    exact ⟨ret_v J.out.symm, Below.refl _ _⟩
  · obtain ⟨z1, z2, hd⟩ := isSt_in h
    have J := Lib.hid (lfgV_3 h h2)
    have HD := Lib.hid hd
    have G := Lib.hid h
    have G2 := Lib.hid h2
    clear h h2 hd
    go_enter Try.func17, Try.ntmps17
    go_wp2_with (first
      | (go_at_call 40; refine (implIsStrong _ _ (by unfold maxLen; omega)).mono ?_; rintro e w' ⟨rfl, rfl⟩; rw [G.out])
      | (go_at_call 37; refine (isGroup _ _).mono ?_; rintro e w' ⟨rfl, rfl⟩; rw [G2.out]))
    go_loopw [6] (fun i wr => ∃ l : Nat, 1 ≤ l ∧ l ≤ s.size + 1 ∧ i = .int .i64 (l : Int) ∧ Hid (lfF s g (s.size + 1 - l) l = lfg s g) ∧ Hid (Below w.heap.size w wr)) (fun i _ => s.size + 1 - (intOf i).toNat)
    case atStart => exact ⟨1, by omega, by omega, rfl, Lib.hid rfl, Lib.hid (Below.refl _ _)⟩
    case round =>
      obtain ⟨l, hl1, hl2, rfl, HL, HB⟩ := hrel
      have C := Lib.hid (canGroupCross s l g wr HD.out z2 (by omega) (by omega))
      cases hc : canB s l g
      · have hls : l ≤ s.size := by
          by_cases e : s.size < l
          · rw [canB_far e] at hc; cases hc
          · omega
        have R := Lib.hid ((lfF_miss hc hls).symm.trans HL.out)
        rw [hc] at C
        clear hc
        go_wp2_with (go_at_call 38; refine C.out.mono ?_; rintro e w2 ⟨rfl, hb2⟩)
        go_roundw
        case rel => exact ⟨l + 1, by omega, by omega, by go_num, R, Lib.hid (HB.out.trans (hb2.mono HB.out.size))⟩
        case measure => (simp [intOf]; try omega)
      · have R := Lib.hid ((lfF_hit hc _).symm.trans HL.out)
        rw [hc] at C
        clear hc
        go_wp2_with (go_at_call 38; refine C.out.mono ?_; rintro e w2 ⟨rfl, hb2⟩)
        go_ret2
        exact ⟨ret_v (by rw [J.out, ← R.out]; rfl), HB.out.trans (hb2.mono HB.out.size)⟩
end Go.Proofs.Ytihdhgkknfohaab
