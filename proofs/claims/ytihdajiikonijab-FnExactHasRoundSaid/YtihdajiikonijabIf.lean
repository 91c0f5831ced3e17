/- Farthest and center islands, both sides. -/
import Derived.Test.YtihdajiikonijabIx2
namespace Go.Proofs.Ytihdajiikonijab
set_option linter.unusedVariables false
open Go.RowKit

/-- one island more: the farthest so far, and its toll -/
def farS (m : Nat) (bs : List Br) (s : Nat) (q : Int × Int) (k : Nat) : Int × Int :=
  if q.2 < gt (tl m bs false s) k ∨ (gt (tl m bs false s) k = q.2 ∧ (k : Int) < q.1) then ((k : Int), gt (tl m bs false s) k) else q
def farL (m : Nat) (bs : List Br) (s : Nat) (l : List Nat) : Int × Int := l.foldl (farS m bs s) ((s : Int), 0)
theorem farL_snoc (m : Nat) (bs : List Br) (s : Nat) (l : List Nat) (k : Nat) : farL m bs s (l ++ [k]) = farS m bs s (farL m bs s l) k := by simp [farL, List.foldl_append]
theorem farS_yes {m : Nat} {bs : List Br} {s : Nat} {q : Int × Int} {k : Nat} (h : q.2 < gt (tl m bs false s) k ∨ (gt (tl m bs false s) k = q.2 ∧ (k : Int) < q.1)) : farS m bs s q k = ((k : Int), gt (tl m bs false s) k) := by unfold farS; rw [if_pos h]
theorem farS_no {m : Nat} {bs : List Br} {s : Nat} {q : Int × Int} {k : Nat} (h : ¬ (q.2 < gt (tl m bs false s) k ∨ (gt (tl m bs false s) k = q.2 ∧ (k : Int) < q.1))) : farS m bs s q k = q := by unfold farS; rw [if_neg h]
theorem farL_in {m : Nat} {bs : List Br} (hg : Good m bs) {s : Nat} (hs : s < m) : ∀ l : List Nat, (∀ x ∈ l, x < m) → 0 ≤ (farL m bs s l).1 ∧ (farL m bs s l).1 < m ∧ 0 ≤ (farL m bs s l).2 ∧ (farL m bs s l).2 ≤ big := by
  have key : ∀ (l : List Nat) (q : Int × Int), (∀ x ∈ l, x < m) → (0 ≤ q.1 ∧ q.1 < m ∧ 0 ≤ q.2 ∧ q.2 ≤ big) → 0 ≤ (l.foldl (farS m bs s) q).1 ∧ (l.foldl (farS m bs s) q).1 < m ∧ 0 ≤ (l.foldl (farS m bs s) q).2 ∧ (l.foldl (farS m bs s) q).2 ≤ big := by
    intro l
    induction l with
    | nil => intro q _ h; exact h
    | cons x l ih =>
      intro q hx hq
      rw [List.foldl_cons]
      refine ih _ (fun y hy => hx y (List.mem_cons_of_mem _ hy)) ?_
      have hxm := hx x (by simp)
      have := (tl_ok hg false hs).low x hxm
      unfold farS
      split
      · exact ⟨by simp, by simpa using hxm, this.1, this.2⟩
      · exact hq
  exact fun l hl => key l _ hl ⟨by simp, by simpa using hs, Int.le_refl _, by show (0 : Int) ≤ 1000000; omega⟩
/-- the farthest island of a group, and its toll -/
def far (m : Nat) (bs : List Br) (s : Nat) : Int × Int := farL m bs s (grpTo m bs s m)
theorem grpTo_lt {m : Nat} {bs : List Br} {s k : Nat} (hk : k ≤ m) : ∀ x ∈ grpTo m bs s k, x < m := by
  intro x hx
  unfold grpTo at hx
  have := List.mem_range.1 (List.mem_filter.1 hx).1
  omega
set_option maxHeartbeats 4000000 in
theorem isFarthest (m : Nat) (v : Value) (bs : List Br) (s : Nat) (w : World) (h : RdB w v bs) (hg : Good m bs) (hm : m ≤ 7) (hl : bs.length ≤ 14) (hs : s < m) :
    Calls Try.prog 45 #[.agg #[.int .i64 m, v], .int .i64 s] w fun e w' => e = .returned (.tuple #[.int .i64 (far m bs s).1, .int .i64 (far m bs s).2]) ∧ Below w.heap.size w w' := by
  have H := Lib.hid h
  obtain ⟨a, l, c, rfl, tt⟩ := h
  have HG := Lib.hid hg
  clear tt hg
  go_enter Try.func45, Try.ntmps45
  go_wp2_with fail
  refine (isTolls m _ bs s false _ (H.out.below (by (repeat (first | exact Below.refl _ _ | (refine Below.alloc ?_ (by first | omega | (simp; try omega)) _) | apply Below.drew | apply below_drewN)))) HG.out hm hl hs).mono ?_
  rintro e w1 ⟨g, c2, rfl, hI, hb⟩
  have HB := Lib.hid (Below.trans (by (repeat (first | exact Below.refl _ _ | (refine Below.alloc ?_ (by first | omega | (simp; try omega)) _) | apply Below.drew | apply below_drewN))) (hb.mono (by simp; try omega)) : Below w.heap.size w w1)
  have TO := Lib.hid (tl_ok HG.out false hs)
  have HC := Lib.hid (fun j (hj : j < m) => hI.cell TO.out.len.symm j hj)
  have HE := Lib.hid (show farL m bs s (grpTo m bs s m) = far m bs s from rfl)
  clear hI hb
  go_wp2
  go_loop [6, 7, 15] (fun b f i => ∃ k : Nat, k ≤ m ∧ i = .int .i64 k ∧ b = .int .i64 (farL m bs s (grpTo m bs s k)).1 ∧ f = .int .i64 (farL m bs s (grpTo m bs s k)).2) (fun _ _ i => m - (intOf i).toNat)
  case atStart => exact ⟨0, Nat.zero_le _, rfl, rfl, rfl⟩
  case round =>
    obtain ⟨k, hk, rfl, rfl, rfl⟩ := hrel
    by_cases hlt : k < m
    · have hlt' : (k : Int) < m := by omega
      have d := HC.out k hlt
      have hd := TO.out.low k hlt
      have hq := farL_in HG.out hs (grpTo m bs s k) (grpTo_lt hk)
      have HR := tl_reach HG.out hm false hs hlt
      have S := Lib.hid (grpTo_s m bs s k)
      have FY := Lib.hid (fun h => farS_yes (m := m) (bs := bs) (s := s) (q := farL m bs s (grpTo m bs s k)) (k := k) h)
      have FN := Lib.hid (fun h => farS_no (m := m) (bs := bs) (s := s) (q := farL m bs s (grpTo m bs s k)) (k := k) h)
      have FS := Lib.hid (farL_snoc m bs s (grpTo m bs s k) k)
      generalize hq0 : farL m bs s (grpTo m bs s k) = q at *
      have HQ := Lib.hid hq0
      clear hq0
      generalize gt (tl m bs false s) k = x at *
      obtain ⟨q1, q2⟩ := q
      simp only at FY FN hq
      unfold big at hd hq HR
      cases hsm : same m bs k s
      · rw [hsm] at HR S
        have hx : ¬ x < 1000000 := by simpa using HR
        have R := Lib.hid (show grpTo m bs s (k + 1) = grpTo m bs s k from by rw [S.out]; simp)
        clear S FY FN FS HR hsm
        go_wp2
        go_round
        case rel => exact ⟨k + 1, by omega, by go_num, by rw [R.out, HQ.out], by rw [R.out, HQ.out]⟩
        case measure => (simp [intOf]; try omega)
      · rw [hsm] at HR S
        have hx : x < 1000000 := by simpa using HR
        have R := Lib.hid (show grpTo m bs s (k + 1) = grpTo m bs s k ++ [k] from by rw [S.out]; simp)
        clear S HR hsm
        by_cases h1 : q2 < x
        · have F := Lib.hid (FS.out.trans (FY.out (.inl h1)))
          clear FY FN FS
          go_wp2
          go_round
          case rel => exact ⟨k + 1, by omega, by go_num, by rw [R.out, F.out], by rw [R.out, F.out]⟩
          case measure => (simp [intOf]; try omega)
        by_cases h2 : x = q2
        · have D : (x == q2) = true := by simpa using h2
          by_cases h3 : (k : Int) < q1
          · have F := Lib.hid (FS.out.trans (FY.out (.inr ⟨h2, h3⟩)))
            clear FY FN FS h2
            go_wp2
            go_round
            case rel => exact ⟨k + 1, by omega, by go_num, by rw [R.out, F.out], by rw [R.out, F.out]⟩
            case measure => (simp [intOf]; try omega)
          · have F := Lib.hid (FS.out.trans (FN.out (by omega)))
            clear FY FN FS h2
            go_wp2
            go_round
            case rel => exact ⟨k + 1, by omega, by go_num, by rw [R.out, F.out], by rw [R.out, F.out]⟩
            case measure => (simp [intOf]; try omega)
        · have D : (x == q2) = false := by simpa using h2
          have F := Lib.hid (FS.out.trans (FN.out (by omega)))
          clear FY FN FS h2
          go_wp2
          go_round
          case rel => exact ⟨k + 1, by omega, by go_num, by rw [R.out, F.out], by rw [R.out, F.out]⟩
          case measure => (simp [intOf]; try omega)
    · obtain rfl : k = m := by omega
      go_wp2
      go_ret2
      rw [← HE.out]
      exact ⟨rfl, HB.out⟩

set_option maxHeartbeats 4000000 in
theorem farthestFrom (m : Nat) (v : Value) (bs : List Br) (s : Nat) (w : World) (h : RdB w v bs) (hg : Good m bs) (hm : m ≤ 7) (hl : bs.length ≤ 14) (hs : s < m) :
    Calls Try.prog 46 #[.agg #[.int .i64 m, v], .int .i64 s] w fun e w' => e = .returned (.tuple #[.int .i64 (far m bs s).1, .int .i64 (far m bs s).2]) ∧ Below w.heap.size w w' := by
  have H := Lib.hid h
  obtain ⟨a, l, c, rfl, tt⟩ := h
  have HG := Lib.hid hg
  clear tt hg
  go_enter Try.func46, Try.ntmps46
  go_wp2_with fail
  refine (tollsFrom m _ bs s _ (H.out.below (by (repeat (first | exact Below.refl _ _ | (refine Below.alloc ?_ (by first | omega | (simp; try omega)) _) | apply Below.drew | apply below_drewN)))) HG.out hm hl hs).mono ?_
  rintro e w1 ⟨b, f, rfl, hT, hf, hb⟩
  have HB := Lib.hid (Below.trans (by (repeat (first | exact Below.refl _ _ | (refine Below.alloc ?_ (by first | omega | (simp; try omega)) _) | apply Below.drew | apply below_drewN))) (hb.mono (by simp; try omega)) : Below w.heap.size w w1)
  obtain ⟨c0, c1, l0⟩ := ((Blk.new w #[.int .i64 m, .slice a l c] 30).below hb (by simp)).two
  have HT := Lib.hid hT
  have HF := Lib.hid hf
  clear hb hT hf
  go_wp2_with fail
  refine (groupWith m _ bs s _ (H.out.below HB.out) HG.out hm hl hs).mono ?_
  rintro e w2 ⟨u, rfl, hI, hb⟩
  have HB2 := Lib.hid (HB.out.trans (hb.mono HB.out.size))
  have HT2 := Lib.hid (HT.out.below hb)
  have TO := Lib.hid (tl_ok HG.out false hs)
  have hjl : s ∈ groupL m bs s := groupL_mem.2 ⟨hs, same_refl _ _ _⟩
  have HM : Hid (∀ x ∈ groupL m bs s, x < m ∧ same m bs x s = true) := Lib.hid (fun x hx => groupL_mem.1 hx)
  have HE := Lib.hid (show farL m bs s (groupL m bs s) = far m bs s from rfl)
  generalize groupL m bs s = L at *
  obtain ⟨g, n1, cap, rfl, hn1, _, _, hgB, hgw, hcell⟩ := hI.form (by rw [idx_len]; exact List.length_pos_of_mem hjl)
  rw [idx_len] at hn1
  have HN1 := Lib.hid hn1
  have HC := Lib.hid hcell
  have hn17 : n1 ≤ 9223372036854775807 := by unfold maxLen at *; omega
  clear hI hb hcell hn1 hjl c0 c1 l0
  go_wp2
  go_loop [7, 8, 20] (fun b f i => ∃ k : Nat, k ≤ n1 ∧ i = .int .i64 k ∧ b = .int .i64 (farL m bs s (L.take k)).1 ∧ f = .int .i64 (farL m bs s (L.take k)).2) (fun _ _ i => n1 - (intOf i).toNat)
  case atStart => exact ⟨0, Nat.zero_le _, rfl, rfl, rfl⟩
  case round =>
    obtain ⟨k, hk, rfl, rfl, rfl⟩ := hrel
    by_cases hlt : k < n1
    · have hlt' : (k : Int) < n1 := by omega
      have hkl : k < L.length := by have := HN1.out; omega
      have d := HC.out k hlt
      have hlg : gt (idx L) k = ((L[k] : Nat) : Int) := by
        rw [idx_gt, List.getD_eq_getElem?_getD, List.getElem?_eq_getElem hkl]; rfl
      have hx7 := HM.out L[k] (List.getElem_mem _)
      have HTK := Lib.hid (List.take_succ_eq_append_getElem hkl)
      rw [hlg] at d
      generalize L[k] = j at *
      clear hlg
      have hj9 : j < 1000 := by omega
      have HFJ := Lib.hid ((HF.out j hx7.1).trans (show tlO m bs s j = some (gt (tl m bs false s) j) by unfold tlO; rw [if_pos hx7.2]))
      have hd := TO.out.low j hx7.1
      have hq := farL_in HG.out hs (L.take k) (fun x hx => (HM.out x (List.mem_of_mem_take hx)).1)
      have FY := Lib.hid (fun h => farS_yes (m := m) (bs := bs) (s := s) (q := farL m bs s (L.take k)) (k := j) h)
      have FN := Lib.hid (fun h => farS_no (m := m) (bs := bs) (s := s) (q := farL m bs s (L.take k)) (k := j) h)
      have FS := Lib.hid (farL_snoc m bs s (L.take k) j)
      have hj0 : (0 : Int) ≤ j := by omega
      have hjm := hx7.1
      clear hx7
      generalize hq0 : farL m bs s (L.take k) = q at *
      have HQ := Lib.hid hq0
      clear hq0
      generalize gt (tl m bs false s) j = x at *
      obtain ⟨q1, q2⟩ := q
      simp only at FY FN hq
      unfold big at hd hq
      have HFG := Lib.hid (show (f j).getD 0 = x by rw [HFJ.out]; rfl)
      by_cases h1 : q2 < x
      · have F := Lib.hid (FS.out.trans (FY.out (.inl h1)))
        clear FY FN FS
        go_wp2_with (at_lookup; refine wpList_look0T rfl HT2.out j hj9 _ _ rfl rfl rfl ?_; rw [HFG.out])
        go_round
        case rel => exact ⟨k + 1, by omega, by go_num, by rw [HTK.out, F.out], by rw [HTK.out, F.out]⟩
        case measure => (simp [intOf]; try omega)
      by_cases h2 : x = q2
      · have D : (x == q2) = true := by simpa using h2
        by_cases h3 : (j : Int) < q1
        · have F := Lib.hid (FS.out.trans (FY.out (.inr ⟨h2, h3⟩)))
          clear FY FN FS h2
          go_wp2_with (at_lookup; refine wpList_look0T rfl HT2.out j hj9 _ _ rfl rfl rfl ?_; rw [HFG.out])
          go_round
          case rel => exact ⟨k + 1, by omega, by go_num, by rw [HTK.out, F.out], by rw [HTK.out, F.out]⟩
          case measure => (simp [intOf]; try omega)
        · have F := Lib.hid (FS.out.trans (FN.out (by omega)))
          clear FY FN FS h2
          go_wp2_with (at_lookup; refine wpList_look0T rfl HT2.out j hj9 _ _ rfl rfl rfl ?_; rw [HFG.out])
          go_round
          case rel => exact ⟨k + 1, by omega, by go_num, by rw [HTK.out, F.out], by rw [HTK.out, F.out]⟩
          case measure => (simp [intOf]; try omega)
      · have D : (x == q2) = false := by simpa using h2
        have F := Lib.hid (FS.out.trans (FN.out (by omega)))
        clear FY FN FS h2
        go_wp2_with (at_lookup; refine wpList_look0T rfl HT2.out j hj9 _ _ rfl rfl rfl ?_; rw [HFG.out])
        go_round
        case rel => exact ⟨k + 1, by omega, by go_num, by rw [HTK.out, F.out], by rw [HTK.out, F.out]⟩
        case measure => (simp [intOf]; try omega)
    · obtain rfl : k = n1 := by omega
      have HTK := Lib.hid (show L.take k = L from List.take_of_length_le (by have := HN1.out; omega))
      go_wp2
      go_ret2
      rw [HTK.out, ← HE.out]
      exact ⟨rfl, HB2.out⟩
end Go.Proofs.Ytihdajiikonijab
