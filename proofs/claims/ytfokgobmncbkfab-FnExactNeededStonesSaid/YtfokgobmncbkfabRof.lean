/- ReachOf, impl and spec. -/
import Derived.Test.YtfokgobmncbkfabReachM
import Derived.Test.YtfokgobmncbkfabLL
import Derived.Test.YtfokgobmncbkfabAsk
namespace Go.Proofs.Ytfokgobmncbkfab
set_option linter.unusedVariables false
open Go.RowKit

/-- where one stands behind the first j leaps -/
def pe (l : List (Nat × Nat)) (j : Nat) : Nat := if j = 0 then 0 else (l.getD (j - 1) (0, 0)).2
theorem pe_0 (l : List (Nat × Nat)) : pe l 0 = 0 := rfl
theorem pe_succ (l : List (Nat × Nat)) (j : Nat) : pe l (j + 1) = (l.getD j (0, 0)).2 := by simp [pe]
theorem getD_app_left {l : List (Nat × Nat)} {p : Nat × Nat} {j : Nat} (h : j < l.length) : (l ++ [p]).getD j (0, 0) = l.getD j (0, 0) := by
  simp [List.getD_eq_getElem?_getD, List.getElem?_append_left h]
theorem pe_app {l : List (Nat × Nat)} {p : Nat × Nat} {j : Nat} (h : j ≤ l.length) : pe (l ++ [p]) j = pe l j := by
  cases j with
  | zero => rfl
  | succ j => rw [pe_succ, pe_succ, getD_app_left (by omega)]
theorem prTo_chain (s : ByteArray) : ∀ k, (∀ j, j < (prTo s k).length → ((prTo s k).getD j (0, 0)).1 = pe (prTo s k) j) ∧ lastTo s k = pe (prTo s k) (prTo s k).length
  | 0 => ⟨fun j hj => by simp [prTo] at hj, rfl⟩
  | k + 1 => by
    have ih := prTo_chain s k
    cases h : stand s (k + 1)
    · rw [prTo_no h, lastTo_no h]; exact ih
    · rw [prTo_yes h, lastTo_yes h]
      refine ⟨fun j hj => ?_, ?_⟩
      · simp at hj
        rw [pe_app (by omega)]
        by_cases e : j = (prTo s k).length
        · subst e
          rw [← ih.2]; simp
        · rw [getD_app_left (by omega)]; exact ih.1 j (by omega)
      · rw [List.length_append, List.length_singleton, pe_succ]; simp
theorem str_getD {s : ByteArray} {j : Nat} (h : j < (strides s).length) : (strides s).getD j (0, 0) ∈ strides s := by
  have e : (strides s).getD j (0, 0) = (strides s)[j] := by simp [h]
  rw [e]; exact List.getElem_mem _
theorem str_fst {s : ByteArray} {j : Nat} (h : j < (strides s).length) : ((strides s).getD j (0, 0)).1 = pe (strides s) j := (prTo_chain s _).1 j h
theorem str_last (s : ByteArray) : pe (strides s) (strides s).length = s.size + 1 := by
  have := (prTo_chain s (s.size + 1)).2
  rw [lastTo_yes (stand_far s)] at this
  exact this.symm
theorem pe_lt {s : ByteArray} {j : Nat} (h : j < (strides s).length) : pe (strides s) j < pe (strides s) (j + 1) := by
  rw [← str_fst h, pe_succ]; exact (strides_lt s _ (str_getD h)).1
theorem pe_mono {s : ByteArray} {i j : Nat} (h : i ≤ j) (hj : j ≤ (strides s).length) : pe (strides s) i ≤ pe (strides s) j := by
  induction j with
  | zero => obtain rfl : i = 0 := by omega
            exact Nat.le_refl _
  | succ j ih =>
    by_cases e : i = j + 1
    · subst e; exact Nat.le_refl _
    · have := ih (by omega) (by omega)
      have := pe_lt (s := s) (j := j) (by omega)
      omega
theorem pe_stand {s : ByteArray} {j : Nat} (hj : j ≤ (strides s).length) : stand s (pe (strides s) j) = true := by
  cases j with
  | zero => exact stand_0 s
  | succ j => rw [pe_succ]; exact (prTo_next s _ _ (str_getD (by omega))).2.1
/-- the first j leaps are short enough: one comes to where they lead -/
theorem pe_to {s : ByteArray} {l j : Nat} (hj : j ≤ (strides s).length) (h : ∀ i, i < j → ((strides s).getD i (0, 0)).2 - ((strides s).getD i (0, 0)).1 ≤ l) : OkTo s l (pe (strides s) j) := by
  intro y y1 y2 y3
  obtain ⟨x, x1, x2, x3⟩ := prev_stand s y y1
  have hpf : pe (strides s) j ≤ s.size + 1 := by rw [← str_last]; exact pe_mono hj (Nat.le_refl _)
  obtain ⟨z, hz⟩ := strides_all s x (by omega) x2
  have z1 := strides_lt s _ hz
  have z2 := prTo_next s _ _ hz
  simp only at z1 z2
  have hzy : z = y := by
    have := not_between x3 z2.2.1 z1.1
    have := not_between z2.2.2 y3 x1
    omega
  subst hzy
  obtain ⟨i, hi, e⟩ := List.getElem_of_mem hz
  have e' : (strides s).getD i (0, 0) = (x, z) := by simp [hi, e]
  have hij : i < j := by
    rcases Nat.lt_or_ge i j with h1 | h1
    · exact h1
    · have a1 := pe_mono (s := s) h1 (Nat.le_of_lt hi)
      have a2 := str_fst hi
      rw [e'] at a2
      simp only at a2
      omega
  have := h i hij
  rw [e'] at this
  simp only at this
  exact ⟨x, x1, by omega, x2⟩

/-- the last of the first n bools that is true -/
def farT (bs : List Bool) : Nat → Nat
  | 0 => 0
  | k + 1 => if gb bs k then k else farT bs k
theorem farT_le (bs : List Bool) : ∀ n, farT bs n ≤ n
  | 0 => Nat.le_refl _
  | n + 1 => by unfold farT; have := farT_le bs n; split <;> omega
theorem farT_eq {bs : List Bool} {p : Nat} : ∀ n, p < n → gb bs p = true → (∀ q, p < q → q < n → gb bs q = false) → farT bs n = p
  | 0, h, _, _ => by omega
  | n + 1, h, h1, h2 => by
    unfold farT
    by_cases e : p = n
    · subst e; simp [h1]
    · have hn := h2 n (by omega) (by omega)
      simp only [hn]
      exact farT_eq n (by omega) h1 (fun q q1 q2 => h2 q q1 (by omega))
def rof (s : ByteArray) (l : Nat) : Nat := farT (reaches s l) (s.size + 2)
theorem rof_end {s : ByteArray} {l : Nat} (h : ∀ i, i < (strides s).length → ((strides s).getD i (0, 0)).2 - ((strides s).getD i (0, 0)).1 ≤ l) : rof s l = s.size + 1 := by
  refine farT_eq _ (by omega) ?_ (fun q q1 q2 => by omega)
  rw [reaches_ok s l _ (Nat.le_refl _)]
  refine ⟨stand_far s, ?_⟩
  have := pe_to (s := s) (l := l) (Nat.le_refl _) h
  rwa [str_last] at this
theorem rof_break {s : ByteArray} {l j : Nat} (hj : j < (strides s).length) (h : ∀ i, i < j → ((strides s).getD i (0, 0)).2 - ((strides s).getD i (0, 0)).1 ≤ l)
    (hb : l < ((strides s).getD j (0, 0)).2 - ((strides s).getD j (0, 0)).1) : rof s l = pe (strides s) j := by
  have h1 := strides_lt s _ (str_getD hj)
  have h2 := prTo_next s _ _ (str_getD hj)
  have h3 := str_fst hj
  refine farT_eq _ (by omega) ?_ (fun q q1 q2 => ?_)
  · rw [reaches_ok s l _ (by omega)]
    exact ⟨pe_stand (Nat.le_of_lt hj), pe_to (Nat.le_of_lt hj) h⟩
  · cases hq : gb (reaches s l) q
    · rfl
    · exfalso
      rw [reaches_ok s l q (by omega)] at hq
      have q3 := not_between h2.2.2 hq.1 (by omega)
      obtain ⟨x, x1, x2, x3⟩ := hq.2 _ (by omega) q3 h2.2.1
      have : x ≤ ((strides s).getD j (0, 0)).1 := by
        rcases Nat.lt_or_ge ((strides s).getD j (0, 0)).1 x with h4 | h4
        · have := not_between h2.2.2 x3 h4; omega
        · exact h4
      omega

def rofV (s : ByteArray) (L : Int) : Value := if asked s L then .tuple #[.int .i64 (rof s L.toNat : Int), .bool true] else .tuple #[.int .i64 0, .bool false]
theorem rofV_no {s : ByteArray} {L : Int} (h : asked s L = false) : rofV s L = .tuple #[.int .i64 0, .bool false] := by simp [rofV, h]
theorem rofV_yes {s : ByteArray} {l : Nat} (h : asked s l = true) : rofV s l = .tuple #[.int .i64 (rof s l : Int), .bool true] := by simp [rofV, h]
theorem rofV_form (s : ByteArray) (L : Int) : ∃ x y, rofV s L = .tuple #[.int .i64 x, .bool y] := by
  unfold rofV; split <;> exact ⟨_, _, rfl⟩

set_option maxHeartbeats 1000000 in
theorem specRof (s : ByteArray) (L : Int) (w : World) (hs : s.size ≤ 1048576) :
    Calls Try.prog 13 #[.string s, .int .i64 L] w fun e w' => e = .returned (rofV s L) ∧ Below w.heap.size w w' := by
  cases h1 : asked s L
  · have J := Lib.hid (rofV_no h1)
    have G := Lib.hid h1
    clear h1
    go_enter Try.func13, Try.ntmps13
    go_wp2_with (go_at_call 24; refine (specAsked _ _ _ hs).mono ?_; rintro e w' ⟨rfl, rfl⟩; rw [G.out])
    go_ret2
    exact ⟨ret_v J.out.symm, Below.refl _ _⟩
  · obtain ⟨hrv, hz1, hz2, hl1, hl2⟩ := asked_out h1
    obtain ⟨l, rfl⟩ := Int.eq_ofNat_of_zero_le (show 0 ≤ L by omega)
    have J := Lib.hid (rofV_yes h1)
    have HR := Lib.hid (show (reaches s l).length = s.size + 2 by rw [reaches, rch_len])
    have HF := Lib.hid (show rof s l = farT (reaches s l) (s.size + 2) from rfl)
    have G := Lib.hid h1
    clear h1
    go_enter Try.func13, Try.ntmps13
    go_wp2_with (first
      | (go_at_call 24; refine (specAsked _ _ _ hs).mono ?_; rintro e w' ⟨rfl, rfl⟩; rw [G.out])
      | (go_at_call 31; refine (specReach s l _ hz1 hz2 (by omega) (by omega)).mono ?_; rintro e w1 ⟨v1, rfl, hB, hb1⟩; obtain ⟨g1, n1, cap1, rfl, hn1, _, hg1, hc1⟩ := hB.form (by rw [HR.out]; omega); clear hB; have HN1 := Lib.hid (And.intro hn1 hc1); have hnn : n1 ≤ 42 := (by rw [hn1, HR.out]; omega); clear hn1 hc1))
    generalize reaches s l = bs at *
    go_loop [6, 17] (fun f i => ∃ k : Nat, k ≤ n1 ∧ i = .int .i64 k ∧ f = .int .i64 (farT bs k)) (fun _ i => n1 - (intOf i).toNat)
    case atStart => exact ⟨0, Nat.zero_le _, rfl, rfl⟩
    case round =>
      obtain ⟨k, hk, rfl, rfl⟩ := hrel
      by_cases hlt : k < n1
      · have c1 := HN1.out.2 k hlt
        have E := Lib.hid (show farT bs (k + 1) = if gb bs k then k else farT bs k from rfl)
        have hle := farT_le bs k
        generalize gb bs k = x at *
        cases x
        · have E2 := Lib.hid (show farT bs (k + 1) = farT bs k from E.out)
          clear E
          go_wp2
          go_round
          case rel => exact ⟨k + 1, by omega, by go_num, by rw [E2.out]⟩
          case measure => (simp [intOf]; try omega)
        · have E2 := Lib.hid (show farT bs (k + 1) = k from E.out)
          clear E
          go_wp2
          go_round
          case rel => exact ⟨k + 1, by omega, by go_num, by rw [E2.out]⟩
          case measure => (simp [intOf]; try omega)
      · obtain rfl : k = n1 := by omega
        go_wp2
        go_ret2
        exact ⟨ret_v (by rw [J.out, HF.out, ← HR.out, ← HN1.out.1]; rfl), hb1⟩

set_option maxHeartbeats 2000000 in
theorem implRof (s : ByteArray) (L : Int) (w : World) (hs : s.size ≤ 1048576) :
    Calls Try.prog 14 #[.string s, .int .i64 L] w fun e w' => e = .returned (rofV s L) ∧ Below w.heap.size w w' := by
  cases h1 : asked s L
  · have J := Lib.hid (rofV_no h1)
    have G := Lib.hid h1
    clear h1
    go_enter Try.func14, Try.ntmps14
    go_wp2_with (go_at_call 27; refine (implAsked _ _ _ hs).mono ?_; rintro e w' ⟨rfl, rfl⟩; rw [G.out])
    go_ret2
    exact ⟨ret_v J.out.symm, Below.refl _ _⟩
  · obtain ⟨hrv, hz1, hz, hl1, hl2⟩ := asked_out h1
    obtain ⟨l, rfl⟩ := Int.eq_ofNat_of_zero_le (show 0 ≤ L by omega)
    have J := Lib.hid (rofV_yes h1)
    have G := Lib.hid h1
    clear h1
    go_enter Try.func14, Try.ntmps14
    go_wp2_with (first
      | (go_at_call 27; refine (implAsked _ _ _ hs).mono ?_; rintro e w' ⟨rfl, rfl⟩; rw [G.out])
      | (go_at_call 32; refine (stridesOf s _ hz).mono ?_; rintro e w1 ⟨v, rfl, hI, hb1⟩; obtain ⟨a, n, cap, rfl, hn0, hcell0⟩ := hI.form; have HN := Lib.hid hn0; have HC := Lib.hid hcell0; clear hn0 hcell0 hI))
    have hnb : n ≤ 41 := by have := strides_len s; have := HN.out; omega
    have hsz := hb1.size
    go_loopw [6, 16] (fun q i wr => ∃ j : Nat, j ≤ n ∧ i = .int .i64 j ∧ q = .int .i64 (pe (strides s) j) ∧ (∀ i, i < j → ((strides s).getD i (0, 0)).2 - ((strides s).getD i (0, 0)).1 ≤ l) ∧ Below w1.heap.size w1 wr) (fun _ i _ => n - (intOf i).toNat)
    case atStart => exact ⟨0, Nat.zero_le _, rfl, rfl, fun i hi => absurd hi (Nat.not_lt_zero _), Below.refl _ _⟩
    case round =>
      obtain ⟨j, hj, rfl, rfl, hall, hb⟩ := hrel
      have hle := hb.size
      have HA := Lib.hid hall
      clear hall
      by_cases hlt : j < n
      · have hjl : j < (strides s).length := by have := HN.out; omega
        obtain ⟨g, rfl, hg1, hg2, hc0, hc1⟩ := HC.out j hlt
        have hpb := strides_lt s _ (str_getD hjl)
        have HB := Lib.hid (fun hb => rof_break (l := l) hjl HA.out hb)
        have HP := Lib.hid (pe_succ (strides s) j)
        have HJ := Lib.hid hjl
        have HALL := Lib.hid (show ((strides s).getD j (0, 0)).2 - ((strides s).getD j (0, 0)).1 ≤ l → ∀ i, i < j + 1 → ((strides s).getD i (0, 0)).2 - ((strides s).getD i (0, 0)).1 ≤ l from fun h i hi => by
          by_cases e : i = j
          · subst e; exact h
          · exact HA.out i (by omega))
        have hc0 := (hb.cell (p := ⟨g, j * 2, none⟩) hg2).trans hc0
        have hc1 := (hb.cell (p := ⟨g, j * 2 + 1, none⟩) hg2).trans hc1
        clear hjl HC
        generalize hp : (strides s).getD j (0, 0) = p at hc0 hc1 hpb HB HP HALL
        have HPP := Lib.hid hp
        obtain ⟨x, y⟩ := p
        simp only at hc0 hc1 hpb
        have hpe : pe (strides s) j ≤ s.size + 1 := by rw [← str_last]; exact pe_mono (Nat.le_of_lt HJ.out) (Nat.le_refl _)
        generalize pe (strides s) j = q at *
        clear hp
        by_cases hbk : l < y - x
        · have R := Lib.hid (HB.out hbk)
          have hbi : (l : Int) < (y : Int) - x := by omega
          clear HB HALL
          go_wp2_with (go_at_call 33; refine (length _ _ _ (by omega) (by omega)).mono ?_; rintro e w' ⟨rfl, rfl⟩)
          go_ret2
          exact ⟨ret_v (by rw [J.out, R.out]; rfl), ((hb1.trans (hb.mono hsz)).alloc (by omega) _).alloc (by simp; omega) _⟩
        · have hbi : ¬ (l : Int) < (y : Int) - x := by omega
          have R := Lib.hid (HALL.out (by simp only; omega))
          clear HB HALL
          go_wp2_with (go_at_call 33; refine (length _ _ _ (by omega) (by omega)).mono ?_; rintro e w' ⟨rfl, rfl⟩)
          go_roundw
          case rel => exact ⟨j + 1, by omega, by go_num, by rw [HP.out], R.out, (hb.alloc hle _).alloc (by simp; omega) _⟩
          case measure => (simp [intOf]; try omega)
      · obtain rfl : j = n := by omega
        have R := Lib.hid ((rof_end (fun i hi => HA.out i (by have := HN.out; omega))).trans (by rw [HN.out, str_last] : pe (strides s) j = s.size + 1).symm)
        clear HC
        go_wp2
        go_ret2
        exact ⟨ret_v (by rw [J.out, R.out]; rfl), hb1.trans (hb.mono hsz)⟩
end Go.Proofs.Ytfokgobmncbkfab
