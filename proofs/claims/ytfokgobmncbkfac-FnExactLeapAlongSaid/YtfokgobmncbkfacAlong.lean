/- LeapAlong, impl and spec. -/
import Derived.Test.YtfokgobmncbkfacMap
namespace Go.Proofs.Ytfokgobmncbkfac
set_option linter.unusedVariables false
open Go.RowKit

/-- where leaps lead from a place -/
def la (s : ByteArray) (p : Nat) : List Int → Option Nat
  | [] => some p
  | n :: r => if 1 ≤ n ∧ standI s (p + n) = true then la s (p + n.toNat) r else none
theorem la_no {s : ByteArray} {p : Nat} {n : Int} {r : List Int} (h : n < 1 ∨ standI s (p + n) = false) : la s p (n :: r) = none := by
  have : ¬ (1 ≤ n ∧ standI s (p + n) = true) := by
    rintro ⟨h1, h2⟩
    rcases h with h | h
    · omega
    · rw [h2] at h; cases h
  simp [la, this]
theorem la_yes {s : ByteArray} {p : Nat} {n : Int} {r : List Int} (h : 1 ≤ n) (h2 : standI s (p + n) = true) : la s p (n :: r) = la s (p + n.toNat) r := by simp [la, h, h2]
def laO : Option Nat → Value
  | some p => .tuple #[.int .i64 (p : Int), .bool true]
  | none => .tuple #[.int .i64 0, .bool false]
def alongV (s : ByteArray) (zs : List Int) : Value := if isRv s ∧ zs.length ≤ 41 then laO (la s 0 zs) else laO none
theorem alongV_no {s : ByteArray} {zs : List Int} (h : isRv s = false) : alongV s zs = laO none := by simp [alongV, h]
theorem alongV_no2 {s : ByteArray} {zs : List Int} (h : 41 < zs.length) : alongV s zs = laO none := by
  have : ¬ (zs.length ≤ 41) := by omega
  simp [alongV, this]
theorem alongV_yes {s : ByteArray} {zs : List Int} (h : isRv s = true) (h2 : zs.length ≤ 41) : alongV s zs = laO (la s 0 zs) := by simp [alongV, h, h2]
theorem alongV_form (s : ByteArray) (zs : List Int) : ∃ x y, alongV s zs = .tuple #[.int .i64 x, .bool y] := by
  unfold alongV; split
  · cases la s 0 zs <;> exact ⟨_, _, rfl⟩
  · exact ⟨_, _, rfl⟩
theorem drop_gt (zs : List Int) (j : Nat) (h : j < zs.length) : zs.drop j = gt zs j :: zs.drop (j + 1) := by
  rw [List.drop_eq_getElem_cons h]; simp [gt, h]
theorem standI_far {s : ByteArray} {c : Int} (h : c < 0 ∨ (s.size : Int) + 1 < c) : standI s c = false := by
  unfold standI
  rcases h with h | h
  · simp; intro h2; omega
  · have e1 : (c.toNat == 0) = false := by simp; omega
    have e2 : (c.toNat == s.size + 1) = false := by simp; omega
    simp [stand, e1, e2, stn_out (p := c.toNat) (s := s) (by omega)]

theorem Rd.cells {w : World} {v : Value} {zs : List Int} (h : Rd w v zs) : ∃ a n c, v = .slice a n c ∧ n = zs.length ∧ ∀ j, j < n → ∃ b off, a = some ⟨b, off, none⟩ ∧ b < w.heap.size ∧ w.cell? ⟨b, off + j, none⟩ = some (.int .i64 (gt zs j)) := by
  rcases h with ⟨⟨a, c, rfl⟩, rfl⟩ | ⟨b, off, cap, rfl, hb, hc, hm, hh⟩
  · exact ⟨_, _, _, rfl, rfl, fun j hj => absurd hj (Nat.not_lt_zero _)⟩
  · exact ⟨_, _, _, rfl, rfl, fun j hj => ⟨b, off, rfl, hb, hh j hj⟩⟩

set_option maxHeartbeats 2000000 in
theorem specAlong (s : ByteArray) (v : Value) (zs : List Int) (w : World) (hs : s.size ≤ 1048576) (h : Rd w v zs) (hn : zs.length ≤ 1048576) (hw : ∀ j, -9223372036854775808 ≤ gt zs j ∧ gt zs j ≤ 9223372036854775807) :
    Calls Try.prog 20 #[.string s, v] w fun e w' => e = .returned (alongV s zs) ∧ w = w' := by
  have hm : s.size ≤ maxLen := by unfold maxLen; omega
  obtain ⟨a, n, c, rfl, hnz, hcell⟩ := h.cells
  rw [← hnz] at hn
  have HN := Lib.hid hnz
  have HC := Lib.hid hcell
  have HW := Lib.hid hw
  clear h hcell hw
  cases h1 : isRv s
  · have J := Lib.hid (alongV_no (zs := zs) h1)
    have G := Lib.hid h1
    clear h1 hnz
    go_enter Try.func20, Try.ntmps20
    go_wp2_with (go_at_call 29; refine (specRvGood _ _ hm).mono ?_; rintro e w' ⟨rfl, rfl⟩; rw [G.out])
    go_ret2
    exact ⟨ret_v J.out.symm, rfl⟩
  by_cases h2 : 41 < n
  · have J := Lib.hid (alongV_no2 (s := s) (zs := zs) (by omega))
    have G := Lib.hid h1
    clear h1 hnz
    go_enter Try.func20, Try.ntmps20
    go_wp2_with (go_at_call 29; refine (specRvGood _ _ hm).mono ?_; rintro e w' ⟨rfl, rfl⟩; rw [G.out])
    go_ret2
    exact ⟨ret_v J.out.symm, rfl⟩
  · have hz : s.size ≤ 40 := by simp [isRv] at h1; omega
    have J := Lib.hid (alongV_yes h1 (zs := zs) (by omega))
    have G := Lib.hid h1
    clear h1 hnz
    go_enter Try.func20, Try.ntmps20
    go_wp2_with (go_at_call 29; refine (specRvGood _ _ hm).mono ?_; rintro e w' ⟨rfl, rfl⟩; rw [G.out])
    go_loop [6, 23] (fun q i => ∃ j p : Nat, j ≤ n ∧ p ≤ s.size + 1 ∧ i = .int .i64 j ∧ q = .int .i64 p ∧ la s 0 zs = la s p (zs.drop j)) (fun _ i => n - (intOf i).toNat)
    case atStart => exact ⟨0, 0, Nat.zero_le _, Nat.zero_le _, rfl, rfl, rfl⟩
    case round =>
      obtain ⟨j, p, hj, hp, rfl, rfl, hla⟩ := hrel
      by_cases hlt : j < n
      · obtain ⟨b, off, rfl, _, hc⟩ := HC.out j hlt
        have hx := HW.out j
        rw [drop_gt zs j (by have := HN.out; omega)] at hla
        generalize gt zs j = x at *
        have HLA := Lib.hid hla
        clear hla
        by_cases hb : x < 1 ∨ (s.size : Int) + 1 - p < x
        · have g := inB_no (n := x) (lo := 1) (hi := (s.size : Int) + 1 - p) hb
          have R := Lib.hid (HLA.out.trans (la_no (by
            rcases hb with h | h
            · exact .inl h
            · exact .inr (standI_far (by omega)))))
          have HX := Lib.hid hx
          clear hb hx
          go_wp2_with (go_at_call 30; refine (l1In _ _ _ _).mono ?_; rintro e w' ⟨rfl, rfl⟩)
          go_ret2
          exact ⟨ret_v (by rw [J.out, R.out]; rfl), rfl⟩
        · have g := inB_yes (n := x) (lo := 1) (hi := (s.size : Int) + 1 - p) (by omega) (by omega)
          obtain ⟨m, rfl⟩ := Int.eq_ofNat_of_zero_le (show 0 ≤ x by omega)
          have hm1 : 1 ≤ m := by omega
          have hm2 : p + m ≤ s.size + 1 := by omega
          have e : standI s ((p : Int) + m) = stand s (p + m) := by
            rw [show (p : Int) + m = ((p + m : Nat) : Int) from by omega]; exact standI_nat s (p + m)
          clear hb hx
          cases hst : stand s (p + m)
          · have R := Lib.hid (HLA.out.trans (la_no (.inr (by rw [e]; exact hst))))
            have G2 := Lib.hid hst
            clear hst e
            go_wp2_with (first | (go_at_call 30; refine (l1In _ _ _ _).mono ?_; rintro e w' ⟨rfl, rfl⟩) | (go_at_call 31; refine (rvStand s (p + m) _ hs (by omega)).mono ?_; rintro e w' ⟨rfl, rfl⟩; rw [G2.out]))
            go_ret2
            exact ⟨ret_v (by rw [J.out, R.out]; rfl), rfl⟩
          · have R := Lib.hid (HLA.out.trans (la_yes (by omega) (by rw [e]; exact hst)))
            have G2 := Lib.hid hst
            clear hst e
            go_wp2_with (first | (go_at_call 30; refine (l1In _ _ _ _).mono ?_; rintro e w' ⟨rfl, rfl⟩) | (go_at_call 31; refine (rvStand s (p + m) _ hs (by omega)).mono ?_; rintro e w' ⟨rfl, rfl⟩; rw [G2.out]))
            go_round
            case rel => exact ⟨j + 1, p + m, by omega, by omega, by go_num, by go_num, by rw [R.out]; rfl⟩
            case measure => (simp [intOf]; try omega)
      · obtain rfl : j = n := by omega
        rw [List.drop_eq_nil_of_le (by have := HN.out; omega)] at hla
        have R := Lib.hid hla
        clear hla
        go_wp2
        go_ret2
        exact ⟨ret_v (by rw [J.out, R.out]; rfl), rfl⟩

theorem wrap_far {s : ByteArray} {p : Nat} {x : Int} (hz : s.size ≤ 40) (hp : p ≤ 41) (h0 : 1000 < x) (h1 : x ≤ 9223372036854775807) : standI s (wrap64 ((p : Int) + x)) = false ∧ (Lit.int .i64 (wrap64 ((p : Int) + x))).wf = true := by
  have hb : wrap64 ((p : Int) + x) < 0 ∨ (s.size : Int) + 1 < wrap64 ((p : Int) + x) := by unfold wrap64; omega
  refine ⟨standI_far hb, wf64 ?_ ?_⟩ <;> (unfold wrap64; omega)

set_option maxHeartbeats 2000000 in
theorem implAlong (s : ByteArray) (v : Value) (zs : List Int) (w : World) (hs : s.size ≤ 1048576) (h : Rd w v zs) (hn : zs.length ≤ 1048576) (hw : ∀ j, -9223372036854775808 ≤ gt zs j ∧ gt zs j ≤ 9223372036854775807) :
    Calls Try.prog 22 #[.string s, v] w fun e w' => e = .returned (alongV s zs) ∧ Below w.heap.size w w' := by
  have hm : s.size ≤ maxLen := by unfold maxLen; omega
  obtain ⟨a, n, c, rfl, hnz, hcell⟩ := h.cells
  rw [← hnz] at hn
  have HN := Lib.hid hnz
  have HC := Lib.hid hcell
  have HW := Lib.hid hw
  clear h hcell hw
  cases h1 : isRv s
  · have J := Lib.hid (alongV_no (zs := zs) h1)
    have G := Lib.hid h1
    clear h1 hnz
    go_enter Try.func22, Try.ntmps22
    go_wp2_with (go_at_call 32; refine (implIsRiver _ _ hm).mono ?_; rintro e w' ⟨rfl, rfl⟩; rw [G.out])
    go_ret2
    exact ⟨ret_v J.out.symm, Below.refl _ _⟩
  by_cases h2 : 41 < n
  · have J := Lib.hid (alongV_no2 (s := s) (zs := zs) (by omega))
    have G := Lib.hid h1
    clear h1 hnz
    go_enter Try.func22, Try.ntmps22
    go_wp2_with (go_at_call 32; refine (implIsRiver _ _ hm).mono ?_; rintro e w' ⟨rfl, rfl⟩; rw [G.out])
    go_ret2
    exact ⟨ret_v J.out.symm, Below.refl _ _⟩
  · have hz : s.size ≤ 40 := by simp [isRv] at h1; omega
    have J := Lib.hid (alongV_yes h1 (zs := zs) (by omega))
    have G := Lib.hid h1
    clear h1 hnz
    go_enter Try.func22, Try.ntmps22
    go_wp2_with (first
      | (go_at_call 32; refine (implIsRiver _ _ hm).mono ?_; rintro e w' ⟨rfl, rfl⟩; rw [G.out])
      | (go_at_call 37; refine (standing s _ hz).mono ?_; rintro e w1 ⟨b, N, rfl, hb, hN, hM, hbel⟩))
    go_loop [7, 22] (fun q i => ∃ j p : Nat, j ≤ n ∧ p ≤ s.size + 1 ∧ i = .int .i64 j ∧ q = .int .i64 p ∧ la s 0 zs = la s p (zs.drop j)) (fun _ i => n - (intOf i).toNat)
    case atStart => exact ⟨0, 0, Nat.zero_le _, Nat.zero_le _, rfl, rfl, rfl⟩
    case round =>
      obtain ⟨j, p, hj, hp, rfl, rfl, hla⟩ := hrel
      by_cases hlt : j < n
      · obtain ⟨b2, off, rfl, hbl, hc0⟩ := HC.out j hlt
        have hc := (hbel.cell (p := ⟨b2, off + j, none⟩) hbl).trans hc0
        have hx := HW.out j
        rw [drop_gt zs j (by have := HN.out; omega)] at hla
        generalize gt zs j = x at *
        have HLA := Lib.hid hla
        clear hla hc0
        by_cases hb1 : x < 1
        · have R := Lib.hid (HLA.out.trans (la_no (.inl hb1)))
          clear hx
          go_wp2
          go_ret2
          exact ⟨ret_v (by rw [J.out, R.out]; rfl), hbel⟩
        by_cases hb2 : 1000 < x
        · obtain ⟨q1, q2⟩ := wrap_far hz (by omega : p ≤ 41) hb2 hx.2
          have hlk := hM.get q2
          rw [q1] at hlk
          have R := Lib.hid (HLA.out.trans (la_no (.inr (standI_far (by omega)))))
          clear hx q1 q2
          go_wp2
          go_ret2
          exact ⟨ret_v (by rw [J.out, R.out]; rfl), hbel⟩
        · clear hx
          obtain ⟨m, rfl⟩ := Int.eq_ofNat_of_zero_le (show 0 ≤ x by omega)
          have hm1 : 1 ≤ m := by omega
          have hm2 : m ≤ 1000 := by omega
          have hlk := hM.get (c := (p : Int) + m) (wf64 (by omega) (by omega))
          cases hst : standI s ((p : Int) + m)
          · rw [hst] at hlk
            have R := Lib.hid (HLA.out.trans (la_no (.inr hst)))
            clear hst hM
            go_wp2
            go_ret2
            exact ⟨ret_v (by rw [J.out, R.out]; rfl), hbel⟩
          · rw [hst] at hlk
            have R := Lib.hid (HLA.out.trans (la_yes (by omega) hst))
            have hpm : p + m ≤ s.size + 1 := by
              rcases Nat.lt_or_ge (s.size + 1) (p + m) with h | h
              · rw [standI_far (by omega)] at hst; cases hst
              · exact h
            clear hst
            go_wp2
            go_round
            case rel => exact ⟨j + 1, p + m, by omega, by omega, by go_num, by go_num, by rw [R.out]; rfl⟩
            case measure => (simp [intOf]; try omega)
      · obtain rfl : j = n := by omega
        rw [List.drop_eq_nil_of_le (by have := HN.out; omega)] at hla
        have R := Lib.hid hla
        clear hla
        go_wp2
        go_ret2
        exact ⟨ret_v (by rw [J.out, R.out]; rfl), hbel⟩
end Go.Proofs.Ytfokgobmncbkfac
