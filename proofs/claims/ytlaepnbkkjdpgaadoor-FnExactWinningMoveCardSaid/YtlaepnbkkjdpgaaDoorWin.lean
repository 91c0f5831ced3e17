/- The game of two players: who wins; spec.fgWinning, fgWins, DoesRightWin, WinningMove. -/
import Derived.Test.YtlaepnbkkjdpgaaDoorPot
namespace Go.Proofs.YtlaepnbkkjdpgaaDoor
set_option linter.unusedVariables false
open Go.RowKit

/-- whether the frog on a stone is one of the player to the right (r), or to the left -/
def own (s : ByteArray) (i : Nat) (r : Bool) : Bool := decide (sg s i = 114) == r
def firstI (l : List Nat) (p : Nat → Bool) : Int := match l.find? p with | some i => (i : Int) | none => -1
theorem firstI_cons (a : Nat) (l : List Nat) (p : Nat → Bool) : firstI (a :: l) p = if p a = true then (a : Int) else firstI l p := by
  unfold firstI
  rw [List.find?_cons]
  cases h : p a <;> simp
theorem firstI_congr {p q : Nat → Bool} : ∀ {l : List Nat}, (∀ i ∈ l, p i = q i) → firstI l p = firstI l q
  | [], _ => rfl
  | a :: l, h => by
    rw [firstI_cons, firstI_cons, h a (by simp), firstI_congr (l := l) fun i hi => h i (by simp [hi])]
theorem firstI_hit {p : Nat → Bool} : ∀ {l : List Nat} {k : Nat}, k < l.length → (∀ j, j < k → p (l.getD j 0) = false) → p (l.getD k 0) = true → firstI l p = (l.getD k 0 : Int)
  | [], k, hk, _, _ => by simp at hk
  | a :: l, 0, _, _, h2 => by
    rw [firstI_cons]
    have : p a = true := h2
    rw [if_pos this]; rfl
  | a :: l, k + 1, hk, h, h2 => by
    have h0 : p a = false := h 0 (by omega)
    rw [firstI_cons, h0, if_neg (by decide)]
    exact firstI_hit (l := l) (k := k) (by simpa using hk) (fun j hj => h (j + 1) (by omega)) h2
theorem firstI_miss {p : Nat → Bool} : ∀ {l : List Nat}, (∀ j, j < l.length → p (l.getD j 0) = false) → firstI l p = -1
  | [], _ => rfl
  | a :: l, h => by
    have h0 : p a = false := h 0 (by simp)
    rw [firstI_cons, h0, if_neg (by decide)]
    exact firstI_miss (l := l) fun j hj => h (j + 1) (by simpa using hj)
def winF : Nat → ByteArray → Bool → Int
  | 0, _, _ => -1
  | n + 1, s, r => firstI (moves s) (fun i => own s i r && !decide (0 ≤ winF n (goes s i) (!r)))
/-- the first move by which the player whose turn it is wins, or -1 -/
def win (s : ByteArray) (r : Bool) : Int := winF (82 - pot s).toNat s r
def winP (s : ByteArray) (r : Bool) (i : Nat) : Bool := own s i r && !decide (0 ≤ win (goes s i) (!r))
theorem win_eq {s : ByteArray} (hp : isPd s = true) (r : Bool) : win s r = firstI (moves s) (winP s r) := by
  obtain ⟨m, hm⟩ : ∃ m, (82 - pot s).toNat = m + 1 := ⟨(81 - pot s).toNat, by have := pot_bd hp; omega⟩
  unfold win
  rw [hm]
  show firstI _ _ = _
  refine firstI_congr fun i hi => ?_
  have h1 := pot_goes hp hi
  have h2 : (82 - pot (goes s i)).toNat = m := by omega
  unfold winP win
  rw [h2]
theorem winP_own {s : ByteArray} {r : Bool} {i : Nat} (h : own s i r = true) : winP s r i = !decide (0 ≤ win (goes s i) (!r)) := by simp [winP, h]
theorem winP_not {s : ByteArray} {r : Bool} {i : Nat} (h : own s i r = false) : winP s r i = false := by simp [winP, h]
theorem until_succ {l : List Nat} {p : Nat → Bool} {k : Nat} (h : ∀ j, j < k → p (l.getD j 0) = false) (h2 : p (l.getD k 0) = false) : ∀ j, j < k + 1 → p (l.getD j 0) = false := by
  intro j hj
  by_cases e : j = k
  · subst e; exact h2
  · exact h j (by omega)
theorem goes_fall {s : ByteArray} (hp : isPd s = true) {i n : Nat} (hi : i ∈ moves s) (hn : (82 - pot s).toNat ≤ n + 1) : (82 - pot (goes s i)).toNat ≤ n := by
  have h1 := pot_goes hp hi
  omega
theorem movesT {q : ByteArray} {i : Nat} (h : i ∈ moves q) : ∃ t : Nat, toI q i = t ∧ mvB q i t = goes q i := by
  obtain ⟨t, ht⟩ := Int.eq_ofNat_of_zero_le (mvTo_mem q _ i h).2
  exact ⟨t, ht, by unfold goes; rw [ht]; rfl⟩
theorem goesP {q : ByteArray} (hq : isPd q = true) {i : Nat} (h : i ∈ moves q) : isPd (goes q i) = true ∧ (goes q i).size = q.size :=
  ⟨isPd_mv hq (mvTo_mem q _ i h).1 _, mvB_size _ _ _⟩
theorem Ints.formA {w : World} {B : Nat} {v : Value} {zs : List Int} (h : Ints w B v zs) :
    ∃ a n cap, v = .slice a n cap ∧ n = zs.length ∧ ∀ w', Below w.heap.size w w' → ∀ j, j < n → ∃ g, a = some ⟨g, 0, none⟩ ∧ w'.cell? ⟨g, j, none⟩ = some (.int .i64 (gt zs j)) := by
  by_cases hp : 0 < zs.length
  · obtain ⟨g, n, cap, rfl, hn, _, _, _, hg, hc⟩ := h.form hp
    exact ⟨_, _, _, rfl, hn, fun w' hb j hj => ⟨g, rfl, (hb.cell hg).trans (hc j hj)⟩⟩
  · rcases h.2 with ⟨rfl, h0⟩ | ⟨g, cap, cur, rfl, _⟩
    · exact ⟨_, _, _, rfl, h0.symm, fun w' hb j hj => absurd hj (Nat.not_lt_zero _)⟩
    · exact ⟨_, _, _, rfl, rfl, fun w' hb j hj => absurd hj (by omega)⟩
theorem gt_asI {l : List Nat} {k : Nat} (h : k < l.length) : gt (asI l) k = ((l.getD k 0 : Nat) : Int) := by
  unfold gt asI
  rw [List.getD_eq_getElem?_getD, List.getElem?_map, List.getD_eq_getElem?_getD, List.getElem?_eq_getElem h]; rfl

theorem specWins (s : ByteArray) (r : Bool) (w : World) (h : Calls Tryd.prog 39 #[.string s, .bool r] w fun e w' => e = .returned (.int .i64 (win s r)) ∧ Below w.heap.size w w') :
    Calls Tryd.prog 37 #[.string s, .bool r] w fun e w' => e = .returned (.bool (decide (0 ≤ win s r))) ∧ Below w.heap.size w w' := by
  have H := Lib.hid h
  clear h
  generalize win s r = x at *
  go_enter Tryd.func37, Tryd.ntmps37
  go_wp2_with (go_at_call 39; refine H.out.mono ?_; rintro e w' ⟨rfl, hb⟩; have HB := Lib.hid hb; clear hb)
  go_ret
  exact ⟨rfl, HB.out⟩
set_option maxHeartbeats 2000000 in
theorem specWinning : ∀ (n : Nat) (s : ByteArray) (r : Bool) (w : World), isPd s = true → (82 - pot s).toNat ≤ n →
    Calls Tryd.prog 39 #[.string s, .bool r] w fun e w' => e = .returned (.int .i64 (win s r)) ∧ Below w.heap.size w w'
  | 0, s, r, w, hp, hn => by have := pot_bd hp; omega
  | n + 1, s, r, w, hp, hn => by
    have ih := specWinning n
    have HW := Lib.hid (fun x (hx : x ∈ moves s) wx => specWins (goes s x) (!r) wx (ih (goes s x) (!r) wx (goesP hp hx).1 (goes_fall hp hx hn)))
    have HE := Lib.hid (win_eq hp r)
    have HP := Lib.hid hp
    obtain ⟨z1, z2, hal⟩ := isPd_in hp
    clear ih hp hn hal
    generalize win s r = res at *
    go_enter Tryd.func39, Tryd.ntmps39
    go_wp2_with (go_at_call 29; refine (specMoves s _ HP.out).mono ?_; rintro e w1 ⟨v, rfl, hI, hb1⟩; obtain ⟨a, nn, cap, rfl, hnn, hc⟩ := hI.formA; have HNN := Lib.hid (hnn.trans (asI_len _)); have HC := Lib.hid hc; have HB1 := Lib.hid hb1; have hle := hb1.size; clear hI hb1 hnn hc)
    have hn9 : nn ≤ 9 := by
      have h1 : nn = (moves s).length := HNN.out
      have h2 : (moves s).length ≤ s.size := mvTo_len s s.size
      omega
    go_loopw [10] (fun i wr => ∃ k : Nat, k ≤ nn ∧ i = .int .i64 k ∧ Hid (∀ j, j < k → winP s r ((moves s).getD j 0) = false) ∧ Hid (Below w1.heap.size w1 wr)) (fun i _ => nn - (intOf i).toNat)
    case atStart => exact ⟨0, Nat.zero_le _, rfl, Lib.hid (fun j hj => absurd hj (Nat.not_lt_zero _)), Lib.hid (Below.refl _ _)⟩
    case round =>
      obtain ⟨k, hk, rfl, hun, hB⟩ := hrel
      have hleB := hB.out.size
      by_cases hlt : k < nn
      · have hkm : k < (moves s).length := by rw [← HNN.out]; exact hlt
        obtain ⟨g, rfl, hcell⟩ := HC.out _ hB.out k hlt
        rw [gt_asI hkm] at hcell
        have hxm : (moves s).getD k 0 ∈ moves s := by
          rw [List.getD_eq_getElem?_getD, List.getElem?_eq_getElem hkm]; exact List.getElem_mem _
        have hxs := (mvTo_mem s _ _ hxm).1
        have HX := Lib.hid (fun wx => HW.out _ hxm wx)
        obtain ⟨t, hto, hmv⟩ := movesT hxm
        have HTO := Lib.hid hto
        have HMV := Lib.hid hmv
        have HHIT := Lib.hid (fun h => firstI_hit (p := winP s r) hkm hun.out h)
        have HUN := Lib.hid (fun h => until_succ (p := winP s r) (k := k) hun.out h)
        have HOW := Lib.hid (fun h => winP_own (s := s) (r := r) (i := (moves s).getD k 0) h)
        have HNO := Lib.hid (fun h => winP_not (s := s) (r := r) (i := (moves s).getD k 0) h)
        clear hxm hto hmv
        have hki : (k : Int) < nn := by omega
        generalize (moves s).getD k 0 = x at *
        have hsg := sg_get hxs
        have HOD := Lib.hid (show own s x r = (decide (sg s x = 114) == r) from rfl)
        rw [hsg] at HOD
        by_cases ho : own s x r = true
        · have hw := HOW.out ho
          have ho2 : (((s[x].toNat : Int) == 114) == r) = true := by
            rw [← ho, HOD.out]; congr 1
          by_cases hwin : 0 ≤ win (goes s x) (!r)
          · rw [decide_eq_true hwin] at hw HX
            have R := Lib.hid (HUN.out hw)
            clear hw ho hwin hsg
            go_wp2_with (first
              | (go_at_call 33; refine (specMove s x t _ HP.out HTO.out).mono ?_; rintro e w2 ⟨rfl, hb2⟩; rw [HMV.out]; have HB2 := Lib.hid (hB.out.trans (hb2.mono hleB)); have hle2 := hb2.size; clear hb2)
              | (go_at_call 37; refine (HX.out _).mono ?_; rintro e w3 ⟨rfl, hb3⟩; have HB3 := Lib.hid (HB2.out.trans (hb3.mono (Nat.le_trans hleB hle2))); clear hb3))
            go_roundw
            case rel => exact ⟨k + 1, by omega, by go_num, R, HB3⟩
            case measure => (simp [intOf]; try omega)
          · rw [decide_eq_false hwin] at hw HX
            have R := Lib.hid (HHIT.out hw)
            clear hw ho hwin hsg
            go_wp2_with (first
              | (go_at_call 33; refine (specMove s x t _ HP.out HTO.out).mono ?_; rintro e w2 ⟨rfl, hb2⟩; rw [HMV.out]; have HB2 := Lib.hid (hB.out.trans (hb2.mono hleB)); have hle2 := hb2.size; clear hb2)
              | (go_at_call 37; refine (HX.out _).mono ?_; rintro e w3 ⟨rfl, hb3⟩; have HB3 := Lib.hid (HB2.out.trans (hb3.mono (Nat.le_trans hleB hle2))); clear hb3))
            go_ret
            exact ⟨ret_w (by rw [HE.out, R.out]; rfl), HB1.out.trans (HB3.out.mono hle)⟩
        · have ho' : own s x r = false := by simpa using ho
          have R := Lib.hid (HUN.out (HNO.out ho'))
          have ho2 : (((s[x].toNat : Int) == 114) == r) = false := by
            rw [← ho', HOD.out]; congr 1
          clear ho ho' hsg
          go_wp2_with fail
          go_roundw
          case rel => exact ⟨k + 1, by omega, by go_num, R, hB⟩
          case measure => (simp [intOf]; try omega)
      · obtain rfl : k = nn := by omega
        have R := Lib.hid (firstI_miss (p := winP s r) (l := moves s) (fun j hj => hun.out j (by rw [HNN.out]; exact hj)))
        go_wp2
        go_ret
        exact ⟨ret_w (by rw [HE.out, R.out]; rfl), HB1.out.trans (hB.out.mono hle)⟩

def drwV (s : ByteArray) (f : Bool) : Value := if isPd s then .tuple #[.bool (decide (0 ≤ win s f) == f), .bool true] else .tuple #[.bool false, .bool false]
theorem drwV_no {s : ByteArray} {f : Bool} (h : isPd s = false) : drwV s f = .tuple #[.bool false, .bool false] := by simp [drwV, h]
theorem drwV_yes {s : ByteArray} {f : Bool} (h : isPd s = true) : drwV s f = .tuple #[.bool (decide (0 ≤ win s f) == f), .bool true] := by simp [drwV, h]
theorem drwV_form (s : ByteArray) (f : Bool) : ∃ x y, drwV s f = .tuple #[.bool x, .bool y] := by unfold drwV; split <;> exact ⟨_, _, rfl⟩
def wmV (s : ByteArray) (r : Bool) : Value := if isPd s then (if 0 ≤ win s r then .tuple #[.int .i64 (win s r), .bool true] else .tuple #[.int .i64 0, .bool false]) else .tuple #[.int .i64 0, .bool false]
theorem wmV_no {s : ByteArray} {r : Bool} (h : isPd s = false) : wmV s r = .tuple #[.int .i64 0, .bool false] := by simp [wmV, h]
theorem wmV_yes {s : ByteArray} {r : Bool} (h : isPd s = true) (h2 : 0 ≤ win s r) : wmV s r = .tuple #[.int .i64 (win s r), .bool true] := by simp [wmV, h, h2]
theorem wmV_none {s : ByteArray} {r : Bool} (h : isPd s = true) (h2 : ¬ 0 ≤ win s r) : wmV s r = .tuple #[.int .i64 0, .bool false] := by simp [wmV, h, h2]
theorem wmV_form (s : ByteArray) (r : Bool) : ∃ x y, wmV s r = .tuple #[.int .i64 x, .bool y] := by
  unfold wmV; split
  · split <;> exact ⟨_, _, rfl⟩
  · exact ⟨_, _, rfl⟩
theorem specDrw (s : ByteArray) (f : Bool) (w : World) (hs : s.size ≤ 1048576) :
    Calls Tryd.prog 24 #[.string s, .bool f] w fun e w' => e = .returned (drwV s f) ∧ Below w.heap.size w w' := by
  have hm : s.size ≤ maxLen := by unfold maxLen; omega
  cases h1 : isPd s
  · have J := Lib.hid (drwV_no (f := f) h1)
    have G := Lib.hid h1
    clear h1
    go_enter Tryd.func24, Tryd.ntmps24
    go_wp2_with (go_at_call 28; refine (specFgGood _ _ hm).mono ?_; rintro e w' ⟨rfl, rfl⟩; rw [G.out])
    go_ret2
    exact ⟨ret_v J.out.symm, Below.refl _ _⟩
  · have J := Lib.hid (drwV_yes (f := f) h1)
    have G := Lib.hid h1
    have HW := Lib.hid (fun r wx => specWins s r wx (specWinning _ s r wx h1 (Nat.le_refl _)))
    clear h1
    cases f
    · have HF := Lib.hid (HW.out false)
      clear HW
      generalize win s false = x at *
      go_enter Tryd.func24, Tryd.ntmps24
      go_wp2_with (first
        | (go_at_call 28; refine (specFgGood _ _ hm).mono ?_; rintro e w' ⟨rfl, rfl⟩; rw [G.out])
        | (go_at_call 37; refine (HF.out _).mono ?_; rintro e w1 ⟨rfl, hb⟩; have HB := Lib.hid hb; clear hb))
      go_ret2
      exact ⟨ret_v (by rw [J.out]; simp), HB.out⟩
    · have HF := Lib.hid (HW.out true)
      clear HW
      generalize win s true = x at *
      go_enter Tryd.func24, Tryd.ntmps24
      go_wp2_with (first
        | (go_at_call 28; refine (specFgGood _ _ hm).mono ?_; rintro e w' ⟨rfl, rfl⟩; rw [G.out])
        | (go_at_call 37; refine (HF.out _).mono ?_; rintro e w1 ⟨rfl, hb⟩; have HB := Lib.hid hb; clear hb))
      go_ret2
      exact ⟨ret_v (by rw [J.out]; simp), HB.out⟩
theorem specWm (s : ByteArray) (r : Bool) (w : World) (hs : s.size ≤ 1048576) :
    Calls Tryd.prog 26 #[.string s, .bool r] w fun e w' => e = .returned (wmV s r) ∧ Below w.heap.size w w' := by
  have hm : s.size ≤ maxLen := by unfold maxLen; omega
  cases h1 : isPd s
  · have J := Lib.hid (wmV_no (r := r) h1)
    have G := Lib.hid h1
    clear h1
    go_enter Tryd.func26, Tryd.ntmps26
    go_wp2_with (go_at_call 28; refine (specFgGood _ _ hm).mono ?_; rintro e w' ⟨rfl, rfl⟩; rw [G.out])
    go_ret2
    exact ⟨ret_v J.out.symm, Below.refl _ _⟩
  · have G := Lib.hid h1
    have HW := Lib.hid (fun wx => specWinning _ s r wx h1 (Nat.le_refl _))
    by_cases h2 : 0 ≤ win s r
    · have J := Lib.hid (wmV_yes h1 h2)
      clear h1
      generalize win s r = x at *
      go_enter Tryd.func26, Tryd.ntmps26
      go_wp2_with (first
        | (go_at_call 28; refine (specFgGood _ _ hm).mono ?_; rintro e w' ⟨rfl, rfl⟩; rw [G.out])
        | (go_at_call 39; refine (HW.out _).mono ?_; rintro e w1 ⟨rfl, hb⟩; have HB := Lib.hid hb; clear hb))
      go_ret2
      exact ⟨ret_v J.out.symm, HB.out⟩
    · have J := Lib.hid (wmV_none h1 h2)
      clear h1
      generalize win s r = x at *
      go_enter Tryd.func26, Tryd.ntmps26
      go_wp2_with (first
        | (go_at_call 28; refine (specFgGood _ _ hm).mono ?_; rintro e w' ⟨rfl, rfl⟩; rw [G.out])
        | (go_at_call 39; refine (HW.out _).mono ?_; rintro e w1 ⟨rfl, hb⟩; have HB := Lib.hid hb; clear hb))
      go_ret2
      exact ⟨ret_v J.out.symm, HB.out⟩
end Go.Proofs.YtlaepnbkkjdpgaaDoor
