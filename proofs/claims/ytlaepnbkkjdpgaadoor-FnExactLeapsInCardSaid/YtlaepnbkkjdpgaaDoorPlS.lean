/- Moves one after the other: plain; spec.l1Most, spec.l1Abs, spec.fgPlay. -/
import Derived.Test.YtlaepnbkkjdpgaaDoorMvs
namespace Go.Proofs.YtlaepnbkkjdpgaaDoor
set_option linter.unusedVariables false
open Go.RowKit

theorem sg_mv {s : ByteArray} {i t j : Nat} (hj : j < s.size) : sg (mvB s i t) j = if t = j then sg s i else if i = j then 46 else sg s j := by
  have hj' : j < s.data.toList.length := by simpa using hj
  have e : (mvB s i t).data.toList = mvL s.data.toList i t := by simp [mvB]
  unfold sg
  rw [e]
  unfold mvL
  rw [List.getD_eq_getElem?_getD, List.getElem?_set]
  by_cases h1 : t = j
  · subst h1
    rw [if_pos rfl, if_pos (by rw [List.length_set]; exact hj'), if_pos rfl]; rfl
  · rw [if_neg h1, if_neg h1, List.getElem?_set]
    by_cases h2 : i = j
    · subst h2
      rw [if_pos rfl, if_pos hj', if_pos rfl]; rfl
    · rw [if_neg h2, if_neg h2, ← List.getD_eq_getElem?_getD]
theorem isPd_mv {s : ByteArray} (h : isPd s = true) {i : Nat} (hi : i < s.size) (t : Nat) : isPd (mvB s i t) = true := by
  obtain ⟨h1, h2, h3⟩ := isPd_in h
  refine isPd_all (by rw [mvB_size]; exact h1) (by rw [mvB_size]; exact h2) fun j hj => ?_
  rw [← sg_get hj]
  have hj' : j < s.size := by rw [mvB_size] at hj; exact hj
  rw [sg_mv hj']
  unfold fsg
  split
  · have := isPd_sg h hi; omega
  · split
    · exact .inr (.inr rfl)
    · have := isPd_sg h hj'; omega
/-- the pond behind a move, wherever it is told -/
def goI (s : ByteArray) (i : Int) : ByteArray := mvB s i.toNat (toI s i).toNat
theorem isPd_goI {s : ByteArray} (h : isPd s = true) {i : Int} (hi : 0 ≤ toI s i) : isPd (goI s i) = true := by
  have := toI_in hi
  exact isPd_mv h (by omega) _
/-- a move is a leap -/
def leapB (s : ByteArray) (i : Int) : Bool := toI s i - i == 2 || toI s i - i == -2
def b2n (b : Bool) : Nat := if b then 1 else 0
/-- the pond and the leaps behind the first j moves -/
def stP (s : ByteArray) (l : List Int) : Nat → Option (ByteArray × Nat)
  | 0 => some (s, 0)
  | j + 1 => match stP s l j with
    | none => none
    | some (q, n) => if 0 ≤ toI q (gt l j) then some (goI q (gt l j), n + b2n (leapB q (gt l j))) else none
theorem stP_yes {s : ByteArray} {l : List Int} {j : Nat} {q : ByteArray} {n : Nat} (h : stP s l j = some (q, n)) (hg : 0 ≤ toI q (gt l j)) : stP s l (j + 1) = some (goI q (gt l j), n + b2n (leapB q (gt l j))) := by
  simp [stP, h, hg]
theorem stP_no {s : ByteArray} {l : List Int} {j : Nat} {q : ByteArray} {n : Nat} (h : stP s l j = some (q, n)) (hg : ¬ 0 ≤ toI q (gt l j)) : stP s l (j + 1) = none := by
  simp [stP, h, hg]
theorem stP_none {s : ByteArray} {l : List Int} {j : Nat} (h : stP s l j = none) : ∀ k, stP s l (j + k) = none
  | 0 => h
  | k + 1 => by
    have := stP_none h k
    show stP s l ((j + k) + 1) = none
    simp [stP, this]
def playR (s : ByteArray) (l : List Int) : Option (ByteArray × Nat) := stP s l l.length
theorem playR_none {s : ByteArray} {l : List Int} {j : Nat} (hj : j ≤ l.length) (h : stP s l j = none) : playR s l = none := by
  unfold playR
  have := stP_none h (l.length - j)
  rwa [show j + (l.length - j) = l.length from by omega] at this

def absI (n : Int) : Int := if n < 0 then -n else n
theorem absI_leap (s : ByteArray) (i : Int) : (absI (toI s i - i) == 2) = leapB s i := by
  unfold absI leapB
  rw [Bool.eq_iff_iff]
  simp only [Bool.or_eq_true, beq_iff_eq]
  split <;> omega

theorem l1Most (a b : Int) (w : World) : Calls Tryd.prog 56 #[.int .i64 a, .int .i64 b] w fun e w' => e = .returned (.int .i64 (if b < a then a else b)) ∧ w = w' := by
  by_cases h : b < a
  · go_enter Tryd.func56, Tryd.ntmps56
    go_wp2
    go_ret
    exact ⟨by simp, rfl⟩
  · go_enter Tryd.func56, Tryd.ntmps56
    go_wp2
    go_ret
    exact ⟨by simp, rfl⟩
theorem l1Abs (n : Int) (w : World) (h1 : -1000 ≤ n) (h2 : n ≤ 1000) : Calls Tryd.prog 47 #[.int .i64 n] w fun e w' => e = .returned (.int .i64 (absI n)) ∧ w = w' := by
  have J := Lib.hid (show (if -n < n then n else -n) = absI n by unfold absI; split <;> split <;> omega)
  go_enter Tryd.func47, Tryd.ntmps47
  go_wp2_with (go_at_call 56; refine (l1Most _ _ _).mono ?_; rintro e w' ⟨rfl, rfl⟩; rw [J.out])
  go_ret
  exact ⟨rfl, rfl⟩

def playV (r : Option (ByteArray × Nat)) : Value := match r with
  | some (q, n) => .tuple #[.string q, .int .i64 n, .bool true]
  | none => .tuple #[.string ⟨#[]⟩, .int .i64 0, .bool false]
set_option maxHeartbeats 2000000 in
theorem specPlay (s : ByteArray) (v : Value) (l : List Int) (w : World) (hp : isPd s = true) (h : Rd w v l) (hl : l.length ≤ 1048576) :
    Calls Tryd.prog 35 #[.string s, v] w fun e w' => e = .returned (playV (playR s l)) ∧ Below w.heap.size w w' := by
  obtain ⟨n, hn⟩ : ∃ n, n = l.length := ⟨_, rfl⟩
  obtain ⟨a, cap, rfl, hcell⟩ : ∃ a cap, v = .slice a n cap ∧ ∀ j, j < n → ∃ b off, a = some ⟨b, off, none⟩ ∧ b < w.heap.size ∧ w.cell? ⟨b, off + j, none⟩ = some (.int .i64 (gt l j)) := by
    rcases h with ⟨⟨a, c, rfl⟩, rfl⟩ | ⟨b, off, cap, rfl, hb, hc, hm, hh⟩
    · obtain rfl : n = 0 := hn
      exact ⟨_, _, rfl, fun j hj => absurd hj (Nat.not_lt_zero _)⟩
    · rw [← hn] at *
      exact ⟨_, _, rfl, fun j hj => ⟨b, off, rfl, hb, hh j hj⟩⟩
  rw [← hn] at hl
  have HC := Lib.hid hcell
  have HN := Lib.hid hn
  have HP := Lib.hid hp
  clear hcell h hn hp
  go_enter Tryd.func35, Tryd.ntmps35
  go_wp2
  go_loopw [0, 7, 13] (fun pd lp i wr => ∃ (j m : Nat) (q : ByteArray), j ≤ n ∧ m ≤ j ∧ i = .int .i64 j ∧ pd = .string q ∧ lp = .int .i64 m ∧ Hid (stP s l j = some (q, m)) ∧ Hid (isPd q = true) ∧ Below w.heap.size w wr) (fun _ _ i _ => n - (intOf i).toNat)
  case atStart => exact ⟨0, 0, s, Nat.zero_le _, Nat.le_refl _, rfl, rfl, rfl, Lib.hid rfl, HP, Below.refl _ _⟩
  case round =>
    obtain ⟨j, m, q, hj, hm, rfl, rfl, rfl, HS, HQ, hbw⟩ := hrel
    have hle := hbw.size
    by_cases hlt : j < n
    · obtain ⟨b, off, rfl, hbl, hc⟩ := HC.out j hlt
      have hc := (hbw.cell (p := ⟨b, off + j, none⟩) hbl).trans hc
      have HB := Lib.hid hbw
      have HYES := Lib.hid (fun hg => stP_yes HS.out hg)
      have HNO := Lib.hid (fun hg => stP_no HS.out hg)
      have HPD := Lib.hid (fun hg => isPd_goI (i := gt l j) HQ.out hg)
      have HTB := Lib.hid (toI_bd q (gt l j))
      have HIN := Lib.hid (fun hg => toI_in (s := q) (i := gt l j) hg)
      have HZ := (isPd_in HQ.out).2.1
      clear hbw
      generalize gt l j = x at *
      by_cases hg : 0 ≤ toI q x
      · have S := Lib.hid (HYES.out hg)
        have P2 := Lib.hid (HPD.out hg)
        obtain ⟨hx0, hx1⟩ := HIN.out hg
        have ht1 := HTB.out.2
        have AL := Lib.hid (absI_leap q x)
        obtain ⟨k, rfl⟩ := Int.eq_ofNat_of_zero_le hx0
        obtain ⟨t, ht⟩ := Int.eq_ofNat_of_zero_le hg
        have HT := Lib.hid ht
        have hG : mvB q k t = goI q k := by unfold goI; rw [ht]; rfl
        have HG := Lib.hid hG
        have AL2 := AL.out
        rw [ht] at ht1 AL2
        have AL3 := Lib.hid AL2
        clear hg hG ht HYES HNO HPD HIN HTB AL AL2
        cases hlp : leapB q k
        · have LP := Lib.hid hlp
          have at2 := AL3.out
          rw [hlp] at at2
          clear hlp
          go_wp2_with (first
            | (go_at_call 32; refine (specTo q _ _ HQ.out).mono ?_; rintro e w2 ⟨rfl, hb2⟩; rw [HT.out]; have HB2 := Lib.hid (HB.out.trans (hb2.mono hle)); have hle2 := hb2.size; clear hb2)
            | (go_at_call 47; refine (l1Abs _ _ (by omega) (by omega)).mono ?_; rintro e w' ⟨rfl, rfl⟩)
            | (go_at_call 33; refine (specMove q k t _ HQ.out HT.out).mono ?_; rintro e w3 ⟨rfl, hb3⟩; rw [HG.out]; have HB3 := Lib.hid (HB2.out.trans (hb3.mono (Nat.le_trans hle hle2))); clear hb3))
          go_roundw
          case rel => exact ⟨j + 1, m, goI q k, by omega, by omega, by go_num, rfl, rfl, Lib.hid (by rw [S.out, LP.out]; rfl), P2, HB3.out⟩
          case measure => (simp [intOf]; try omega)
        · have LP := Lib.hid hlp
          have at2 := AL3.out
          rw [hlp] at at2
          clear hlp
          go_wp2_with (first
            | (go_at_call 32; refine (specTo q _ _ HQ.out).mono ?_; rintro e w2 ⟨rfl, hb2⟩; rw [HT.out]; have HB2 := Lib.hid (HB.out.trans (hb2.mono hle)); have hle2 := hb2.size; clear hb2)
            | (go_at_call 47; refine (l1Abs _ _ (by omega) (by omega)).mono ?_; rintro e w' ⟨rfl, rfl⟩)
            | (go_at_call 33; refine (specMove q k t _ HQ.out HT.out).mono ?_; rintro e w3 ⟨rfl, hb3⟩; rw [HG.out]; have HB3 := Lib.hid (HB2.out.trans (hb3.mono (Nat.le_trans hle hle2))); clear hb3))
          go_roundw
          case rel => exact ⟨j + 1, m + 1, goI q k, by omega, by omega, by go_num, rfl, by go_num, Lib.hid (by rw [S.out, LP.out]; rfl), P2, HB3.out⟩
          case measure => (simp [intOf]; try omega)
      · have R := Lib.hid (playR_none (by have := HN.out; omega) (HNO.out hg))
        clear HYES HNO HPD HIN HTB
        go_wp2_with (go_at_call 32; refine (specTo q _ _ HQ.out).mono ?_; rintro e w2 ⟨rfl, hb2⟩; have HB2 := Lib.hid (HB.out.trans (hb2.mono hle)); clear hb2)
        go_ret3
        exact ⟨ret_v (by rw [R.out]; rfl), HB2.out⟩
    · obtain rfl : j = n := by omega
      have R := Lib.hid (show playR s l = some (q, m) by unfold playR; rw [← HN.out]; exact HS.out)
      go_wp2
      go_ret3
      exact ⟨ret_v (by rw [R.out]; rfl), hbw⟩
end Go.Proofs.YtlaepnbkkjdpgaaDoor
