/- Orders: which lists they are; slices.Contains at ints; impl.IsOrder, spec.ptGood, spec.IsOrder. -/
import Derived.Test.YtcpipacombnhdaaRv
import Derived.Test.YtcpipacombnhdaaSl
import Derived.Test.YtcpipacombnhdaaPk
namespace Go.Proofs.Ytcpipacombnhdaa
set_option linter.unusedVariables false
open Go.RowKit

theorem perm_of_sub : ∀ {l zs : List Int}, l.Nodup → (∀ x ∈ l, x ∈ zs) → zs.length ≤ l.length → l.Perm zs
  | [], zs, _, _, h => by
    obtain rfl : zs = [] := List.length_eq_zero_iff.1 (by simpa using h)
    exact List.Perm.refl _
  | a :: l, zs, hn, hs, hl => by
    have ha := hs a (by simp)
    have hp := List.perm_cons_erase ha
    obtain ⟨h1, h2⟩ := List.nodup_cons.1 hn
    have : l.Perm (zs.erase a) := perm_of_sub h2 (fun x hx => by
        have hne : x ≠ a := fun e => h1 (e ▸ hx)
        exact (List.mem_erase_of_ne hne).2 (hs x (by simp [hx]))) (by rw [List.length_erase_of_mem ha]; simp at hl; omega)
    exact (this.cons a).trans hp.symm
/-- the boats 1, 2, .. -/
def rng (n : Nat) : List Int := (List.range n).map fun (j : Nat) => ((j : Int) + 1)
theorem rng_len (n : Nat) : (rng n).length = n := by simp [rng]
theorem rng_nodup (n : Nat) : (rng n).Nodup := by
  unfold rng List.Nodup
  rw [List.pairwise_map]
  exact List.pairwise_lt_range.imp (by intro a b h; omega)
theorem rng_mem (n : Nat) (x : Int) : x ∈ rng n ↔ 1 ≤ x ∧ x ≤ n := by
  unfold rng
  rw [List.mem_map]
  constructor
  · rintro ⟨j, hj, rfl⟩
    have := List.mem_range.1 hj
    omega
  · intro h
    exact ⟨(x - 1).toNat, List.mem_range.2 (by omega), by omega⟩
/-- an order -/
def isOrd (zs : List Int) : Bool := inB (zs.length : Int) 1 8 && (zs.all fun n => inB n 1 (zs.length : Int)) && decide zs.Nodup
theorem isOrd_iff {zs : List Int} : isOrd zs = true ↔ (1 ≤ zs.length ∧ zs.length ≤ 8) ∧ (∀ x ∈ zs, 1 ≤ x ∧ x ≤ (zs.length : Int)) ∧ zs.Nodup := by
  unfold isOrd
  rw [Bool.and_eq_true, Bool.and_eq_true, inB_iff, List.all_eq_true, decide_eq_true_iff]
  constructor
  · rintro ⟨⟨h1, h2⟩, h3⟩
    exact ⟨by omega, fun x hx => inB_iff.1 (h2 x hx), h3⟩
  · rintro ⟨h1, h2, h3⟩
    exact ⟨⟨by omega, fun x hx => inB_iff.2 (h2 x hx)⟩, h3⟩
theorem isOrd_perm {zs : List Int} (h : isOrd zs = true) : zs.Perm (rng zs.length) := by
  obtain ⟨_, h2, h3⟩ := isOrd_iff.1 h
  exact perm_of_sub h3 (fun x hx => (rng_mem _ _).2 (h2 x hx)) (by rw [rng_len]; exact Nat.le_refl _)
theorem isOrd_has {zs : List Int} (h : isOrd zs = true) {x : Int} (h1 : 1 ≤ x) (h2 : x ≤ zs.length) : x ∈ zs :=
  (isOrd_perm h).mem_iff.2 ((rng_mem _ _).2 ⟨h1, h2⟩)
theorem isOrd_of {zs : List Int} (h1 : 1 ≤ zs.length) (h2 : zs.length ≤ 8) (h : ∀ j, j < zs.length → zs.contains ((j : Int) + 1) = true) : isOrd zs = true := by
  have hp : (rng zs.length).Perm zs := perm_of_sub (rng_nodup _) (fun x hx => by
    have := (rng_mem _ _).1 hx
    have h3 := h (x - 1).toNat (by omega)
    have e : (((x - 1).toNat : Nat) : Int) + 1 = x := by omega
    rw [e] at h3
    exact List.contains_iff_mem.1 h3) (by rw [rng_len]; exact Nat.le_refl _)
  exact isOrd_iff.2 ⟨⟨h1, h2⟩, fun x hx => (rng_mem _ _).1 (hp.mem_iff.2 hx), hp.nodup_iff.1 (rng_nodup _)⟩
theorem isOrd_not {zs : List Int} {k : Nat} (hk : k < zs.length) (h : zs.contains ((k : Int) + 1) = false) : isOrd zs = false := by
  cases hb : isOrd zs
  · rfl
  · have h2 := isOrd_has hb (x := (k : Int) + 1) (by omega) (by omega)
    rw [List.contains_iff_mem.2 h2] at h
    cases h
theorem isOrd_far {zs : List Int} (h : inB (zs.length : Int) 1 8 = false) : isOrd zs = false := by unfold isOrd; rw [h]; rfl
theorem isOrd_all {zs : List Int} (h : (zs.all fun n => inB n 1 (zs.length : Int)) = false) : isOrd zs = false := by unfold isOrd; rw [h]; simp
theorem isOrd_at {zs : List Int} (h : isOrd zs = true) {j : Nat} (hj : j < zs.length) : 1 ≤ gt zs j ∧ gt zs j ≤ (zs.length : Int) := (isOrd_iff.1 h).2.1 _ (gt_mem hj)
theorem isOrd_len {zs : List Int} (h : isOrd zs = true) : 1 ≤ zs.length ∧ zs.length ≤ 8 := (isOrd_iff.1 h).1
theorem isOrd_any {zs : List Int} (h : isOrd zs = true) (j : Nat) : 0 ≤ gt zs j ∧ gt zs j ≤ 8 := by
  have hl := isOrd_len h
  by_cases hj : j < zs.length
  · have := isOrd_at h hj; omega
  · have e : gt zs j = 0 := by simp [gt, hj]
    omega
theorem take_snoc {zs : List Int} {k : Nat} (h : k < zs.length) : zs.take (k + 1) = zs.take k ++ [gt zs k] := by
  rw [List.take_succ_eq_append_getElem h]
  simp [gt, h]
theorem nd_step {zs : List Int} {k : Nat} (h : k < zs.length) (hn : (zs.take k).Nodup) (hc : (zs.take k).contains (gt zs k) = false) : (zs.take (k + 1)).Nodup := by
  rw [take_snoc h, List.nodup_append]
  refine ⟨hn, by simp, ?_⟩
  intro a ha b hb e
  have hb' : b = gt zs k := by simpa using hb
  subst hb'
  subst e
  rw [List.contains_iff_mem.2 ha] at hc
  cases hc
theorem nd_not {zs : List Int} {k : Nat} (h : k < zs.length) (hc : (zs.take k).contains (gt zs k) = true) : isOrd zs = false := by
  cases hb : isOrd zs
  · rfl
  · have hn := (isOrd_iff.1 hb).2.2
    have h1 : (zs.take (k + 1)).Nodup := hn.sublist (List.take_sublist _ _)
    rw [take_snoc h, List.nodup_append] at h1
    exact absurd rfl (h1.2.2 _ (List.contains_iff_mem.1 hc) (gt zs k) (by simp))
theorem isOrd_nd {zs : List Int} (h1 : inB (zs.length : Int) 1 8 = true) (h2 : (zs.all fun n => inB n 1 (zs.length : Int)) = true) (h3 : (zs.take zs.length).Nodup) : isOrd zs = true := by
  rw [List.take_length] at h3
  unfold isOrd; rw [h1, h2]; simpa using h3

/-- what reads, with its cells -/
theorem Rd.openP {w : World} {v : Value} {zs : List Int} (h : Rd w v zs) (hp : 0 < zs.length) : ∃ b off n c, v = .slice (some ⟨b, off, none⟩) n c ∧ n = zs.length ∧ n ≤ c ∧ c ≤ 9223372036854775807 ∧ b < w.heap.size ∧ ∀ j, j < n → w.cell? ⟨b, off + j, none⟩ = some (.int .i64 (gt zs j)) := by
  rcases h with ⟨⟨a, c, rfl⟩, rfl⟩ | ⟨b, off, cap, rfl, hb, hc, hm, hh⟩
  · simp at hp
  · exact ⟨b, off, _, _, rfl, rfl, hc, by unfold maxLen at hm; omega, hb, hh⟩
theorem Rd.takeR {w : World} {b off n c : Nat} {zs : List Int} (h : Rd w (.slice (some ⟨b, off, none⟩) n c) zs) (k : Nat) (hk : k ≤ n) : Rd w (.slice (some ⟨b, off, none⟩) k c) (zs.take k) := by
  rcases h with ⟨⟨a, c', e⟩, rfl⟩ | ⟨b', off', cap, e, hb, hc, hm, hh⟩
  · injection e with e1 e2 e3
    obtain rfl : k = 0 := by omega
    exact .inl ⟨⟨_, _, rfl⟩, by simp⟩
  · injection e with e1 e2 e3
    injection e1 with e1
    injection e1 with e4 e5 e6
    subst e4 e5 e2 e3
    have hl : (zs.take k).length = k := by simp; omega
    refine .inr ⟨b, off, c, by rw [hl], hb, by omega, hm, fun j hj => ?_⟩
    rw [hl] at hj
    rw [hh j (by omega)]
    simp only [gt, List.getD_eq_getElem?_getD, List.getElem?_take, if_pos hj]
theorem Rd.dropR {w : World} {b off n c : Nat} {zs : List Int} (h : Rd w (.slice (some ⟨b, off, none⟩) n c) zs) (k : Nat) (hk : k ≤ n) : Rd w (.slice (some ⟨b, off + k, none⟩) (n - k) (c - k)) (zs.drop k) := by
  rcases h with ⟨⟨a, c', e⟩, rfl⟩ | ⟨b', off', cap, e, hb, hc, hm, hh⟩
  · injection e with e1 e2 e3
    obtain rfl : k = 0 := by omega
    subst e2
    exact .inl ⟨⟨_, _, rfl⟩, by simp⟩
  · injection e with e1 e2 e3
    injection e1 with e1
    injection e1 with e4 e5 e6
    subst e4 e5 e2 e3
    have hl : (zs.drop k).length = zs.length - k := by simp
    refine .inr ⟨b, off + k, c - k, by rw [hl], hb, by omega, by omega, fun j hj => ?_⟩
    rw [hl] at hj
    rw [Nat.add_assoc, hh (k + j) (by omega)]
    simp only [gt, List.getD_eq_getElem?_getD, List.getElem?_drop]
theorem hasZ_iff (zs : List Int) (x : Int) : zs.contains x = true ↔ ∃ j, j < zs.length ∧ gt zs j = x := by
  rw [List.contains_iff_mem]
  constructor
  · intro h
    obtain ⟨j, hj, e⟩ := List.getElem_of_mem h
    exact ⟨j, hj, by simp [gt, hj, e]⟩
  · rintro ⟨j, hj, rfl⟩
    exact gt_mem hj
set_option maxHeartbeats 1000000 in
theorem l1HasZ (v : Value) (zs : List Int) (x : Int) (w : World) (h : Rd w v zs) (hn : zs.length ≤ 1048576) :
    Calls Try.prog 45 #[v, .int .i64 x] w fun e w' => e = .returned (.bool (zs.contains x)) ∧ w = w' := by
  obtain ⟨a, n, c, rfl, hnz, hcell⟩ := h.cells
  rw [← hnz] at hn
  have HC := Lib.hid hcell
  have HN := Lib.hid hnz
  have hh := hasZ_iff zs x
  generalize zs.contains x = r at *
  have HI := Lib.hid hh
  clear h hcell hnz hh
  go_enter Try.func45, Try.ntmps45
  go_wp2
  go_loop [9] (fun i => ∃ j : Nat, j ≤ n ∧ i = .int .i64 j ∧ Hid (∀ q, q < j → gt zs q ≠ x)) (fun i => n - (intOf i).toNat)
  case atStart => exact ⟨0, Nat.zero_le _, rfl, Lib.hid fun q hq => absurd hq (Nat.not_lt_zero _)⟩
  case round =>
    obtain ⟨j, hj, rfl, HA⟩ := hrel
    by_cases hlt : j < n
    · obtain ⟨b, off, rfl, hbw, hc⟩ := HC.out j hlt
      have hlt' : (j : Int) < n := by omega
      by_cases he : gt zs j = x
      · have R := Lib.hid (HI.out.2 ⟨j, by have := HN.out; omega, he⟩)
        rw [he] at hc
        go_wp2
        go_ret
        exact ⟨ret_bool R.out.symm, rfl⟩
      · have R : Hid (∀ q, q < j + 1 → gt zs q ≠ x) := Lib.hid (fun q hq => by
          by_cases e : q = j
          · subst e; exact he
          · exact HA.out q (by omega))
        generalize gt zs j = y at *
        have he2 : (y == x) = false := by simpa using he
        go_wp2
        go_round
        case rel => exact ⟨j + 1, by omega, by go_num, R⟩
        case measure => (simp [intOf]; try omega)
    · obtain rfl : j = n := by omega
      have R : Hid (r = false) := Lib.hid (by
        cases hc : r with
        | false => rfl
        | true =>
          obtain ⟨q, hq, e⟩ := HI.out.1 hc
          exact absurd e (HA.out q (by have := HN.out; omega)))
      go_wp2
      go_ret
      exact ⟨ret_bool R.out.symm, rfl⟩
set_option maxHeartbeats 1000000 in
theorem indexZ (v : Value) (zs : List Int) (x : Int) (w : World) (h : Rd w v zs) (hn : zs.length ≤ 1048576) :
    Calls Try.prog 47 #[v, .int .i64 x] w fun e w' => ∃ r : Int, e = .returned (.int .i64 r) ∧ (0 ≤ r ↔ zs.contains x = true) ∧ w = w' := by
  obtain ⟨a, n, c, rfl, hnz, hcell⟩ := h.cells
  rw [← hnz] at hn
  have HC := Lib.hid hcell
  have HN := Lib.hid hnz
  have hh := hasZ_iff zs x
  generalize zs.contains x = r at *
  have HI := Lib.hid hh
  clear h hcell hnz hh
  go_enter Try.func47, Try.ntmps47
  go_wp2
  go_loop [5, 8] (fun _ i => ∃ j : Nat, j ≤ n ∧ i = .int .i64 j ∧ Hid (∀ q, q < j → gt zs q ≠ x)) (fun _ i => n - (intOf i).toNat)
  case atStart => exact ⟨0, Nat.zero_le _, rfl, Lib.hid fun q hq => absurd hq (Nat.not_lt_zero _)⟩
  case round =>
    obtain ⟨j, hj, rfl, HA⟩ := hrel
    by_cases hlt : j < n
    · obtain ⟨b, off, rfl, hbw, hc⟩ := HC.out j hlt
      have hlt' : (j : Int) < n := by omega
      by_cases he : gt zs j = x
      · have R := Lib.hid (HI.out.2 ⟨j, by have := HN.out; omega, he⟩)
        rw [he] at hc
        go_wp2
        go_ret
        exact ⟨_, rfl, by rw [R.out]; simp, rfl⟩
      · have R : Hid (∀ q, q < j + 1 → gt zs q ≠ x) := Lib.hid (fun q hq => by
          by_cases e : q = j
          · subst e; exact he
          · exact HA.out q (by omega))
        generalize gt zs j = y at *
        have he2 : (x == y) = false := by simpa using fun e => he e.symm
        go_wp2
        go_round
        case rel => exact ⟨j + 1, by omega, by go_num, R⟩
        case measure => (simp [intOf]; try omega)
    · obtain rfl : j = n := by omega
      have R : Hid (r = false) := Lib.hid (by
        cases hc : r with
        | false => rfl
        | true =>
          obtain ⟨q, hq, e⟩ := HI.out.1 hc
          exact absurd e (HA.out q (by have := HN.out; omega)))
      go_wp2
      go_ret
      exact ⟨_, rfl, by rw [R.out]; simp, rfl⟩
theorem containsZ (v : Value) (zs : List Int) (x : Int) (w : World) (h : Rd w v zs) (hn : zs.length ≤ 1048576) :
    Calls Try.prog 40 #[v, .int .i64 x] w fun e w' => e = .returned (.bool (zs.contains x)) ∧ w = w' := by
  have C := Lib.hid (indexZ v zs x w h hn)
  generalize zs.contains x = r at *
  clear h hn
  go_enter Try.func40, Try.ntmps40
  go_wp2_with fail
  refine C.out.mono ?_
  rintro e w' ⟨p, rfl, hp, rfl⟩
  by_cases h0 : 0 ≤ p
  · have R := Lib.hid (hp.1 h0)
    clear hp
    go_wp2
    go_ret
    exact ⟨ret_bool R.out.symm, rfl⟩
  · have R := Lib.hid (show r = false by cases r; rfl; exact absurd (hp.2 rfl) h0)
    clear hp
    go_wp2
    go_ret
    exact ⟨ret_bool (by rw [R.out]; simp; omega), rfl⟩
theorem isBoatCount (n : Int) (w : World) :
    Calls Try.prog 39 #[.int .i64 n] w fun e w' => e = .returned (.bool (inB n 1 8)) ∧ w = w' := by
  by_cases h1 : 1 ≤ n
  · by_cases h2 : n ≤ 8
    · go_enter Try.func39, Try.ntmps39
      go_wp2
      go_ret
      exact ⟨ret_bool (by simp [inB]; omega), rfl⟩
    · go_enter Try.func39, Try.ntmps39
      go_wp2
      go_ret
      exact ⟨ret_bool (by simp [inB]; omega), rfl⟩
  · go_enter Try.func39, Try.ntmps39
    go_wp2
    go_ret
    exact ⟨ret_bool (by simp [inB]; omega), rfl⟩
set_option maxHeartbeats 1000000 in
theorem implIsOrder (v : Value) (zs : List Int) (w : World) (h : Rd w v zs) (hn : zs.length ≤ 1048576) :
    Calls Try.prog 28 #[v] w fun e w' => e = .returned (.bool (isOrd zs)) ∧ w = w' := by
  obtain ⟨a, n, c, rfl, hnz, _⟩ := h.cells
  have HC := Lib.hid (fun x wx (hx : Rd wx (.slice a n c) zs) => containsZ _ zs x wx hx hn)
  have HR := Lib.hid h
  have HN := Lib.hid hnz
  clear h hn
  cases hb : inB (n : Int) 1 8
  · have R := Lib.hid (isOrd_far (by rw [← hnz]; exact hb))
    have G := Lib.hid hb
    clear hb hnz
    go_enter Try.func28, Try.ntmps28
    go_wp2_with (go_at_call 39; refine (isBoatCount _ _).mono ?_; rintro e w' ⟨rfl, rfl⟩; rw [G.out])
    go_ret
    exact ⟨ret_bool R.out.symm, rfl⟩
  · have G := Lib.hid hb
    have g := inB_iff.1 hb
    clear hb hnz
    go_enter Try.func28, Try.ntmps28
    go_wp2_with (go_at_call 39; refine (isBoatCount _ _).mono ?_; rintro e w' ⟨rfl, rfl⟩; rw [G.out])
    go_loop [3] (fun i => ∃ k : Nat, k ≤ n ∧ i = .int .i64 ((k : Int) + 1) ∧ Hid (∀ j, j < k → zs.contains ((j : Int) + 1) = true)) (fun i => n + 1 - (intOf i).toNat)
    case atStart => exact ⟨0, Nat.zero_le _, rfl, Lib.hid fun q hq => absurd hq (Nat.not_lt_zero _)⟩
    case round =>
      obtain ⟨k, hk, rfl, HA⟩ := hrel
      by_cases hlt : k < n
      · have B1 := Lib.hid (fun g => isOrd_not (zs := zs) (k := k) (by have := HN.out; omega) g)
        have B2 : Hid (zs.contains ((k : Int) + 1) = true → ∀ j, j < k + 1 → zs.contains ((j : Int) + 1) = true) := Lib.hid (fun g j hj => by
          by_cases e : j = k
          · subst e; exact g
          · exact HA.out j (by omega))
        cases hc : zs.contains ((k : Int) + 1)
        · have R := Lib.hid (B1.out hc)
          have G2 := Lib.hid hc
          clear hc B1 B2
          go_wp2_with (go_at_call 40; refine (HC.out _ _ HR.out).mono ?_; rintro e w' ⟨rfl, rfl⟩; rw [G2.out])
          go_ret
          exact ⟨ret_bool R.out.symm, rfl⟩
        · have R := Lib.hid (B2.out hc)
          have G2 := Lib.hid hc
          clear hc B1 B2
          go_wp2_with (go_at_call 40; refine (HC.out _ _ HR.out).mono ?_; rintro e w' ⟨rfl, rfl⟩; rw [G2.out])
          go_round
          case rel => exact ⟨k + 1, by omega, by go_num, R⟩
          case measure => (simp [intOf]; try omega)
      · obtain rfl : k = n := by omega
        have R := Lib.hid (isOrd_of (zs := zs) (by have := HN.out; omega) (by have := HN.out; omega) (fun j hj => HA.out j (by have := HN.out; omega)))
        go_wp2
        go_ret
        exact ⟨ret_bool R.out.symm, rfl⟩
set_option maxHeartbeats 1000000 in
theorem ptGood (v : Value) (zs : List Int) (w : World) (h : Rd w v zs) (hn : zs.length ≤ 1048576) :
    Calls Try.prog 36 #[v] w fun e w' => e = .returned (.bool (isOrd zs)) ∧ w = w' := by
  obtain ⟨a, n, c, rfl, hnz, _⟩ := h.cells
  have HR := Lib.hid h
  have HN := Lib.hid hnz
  have HA := Lib.hid (l1All _ zs 1 (n : Int) w h hn)
  have HH := Lib.hid (fun ys vv x wx (hx : Rd wx vv ys) (hl : ys.length ≤ 1048576) => l1HasZ vv ys x wx hx hl)
  cases hb : inB (n : Int) 1 8
  · have R := Lib.hid (isOrd_far (by rw [← hnz]; exact hb))
    have G := Lib.hid hb
    clear hb hnz h hn
    go_enter Try.func36, Try.ntmps36
    go_wp2_with (go_at_call 42; refine (l1In _ _ _ _).mono ?_; rintro e w' ⟨rfl, rfl⟩; rw [G.out])
    go_ret
    exact ⟨ret_bool R.out.symm, rfl⟩
  cases ha : (zs.all fun x => inB x 1 (n : Int))
  · have R := Lib.hid (isOrd_all (zs := zs) (by rw [← hnz]; exact ha))
    have G := Lib.hid hb
    have G2 := Lib.hid ha
    clear hb hnz ha h hn
    go_enter Try.func36, Try.ntmps36
    go_wp2_with (first | (go_at_call 42; refine (l1In _ _ _ _).mono ?_; rintro e w' ⟨rfl, rfl⟩; rw [G.out]) | (go_at_call 44; refine HA.out.mono ?_; rintro e w' ⟨rfl, rfl⟩; rw [G2.out]))
    go_ret
    exact ⟨ret_bool R.out.symm, rfl⟩
  · have G := Lib.hid hb
    have G2 := Lib.hid ha
    have g := inB_iff.1 hb
    obtain ⟨b, off, n', c', hv, hn', hcap, hcm, hbw, hcell⟩ := h.openP (by omega)
    injection hv with e1 e2 e3
    subst e1 e2 e3
    have HC := Lib.hid hcell
    have HE : Hid ((zs.take n).Nodup → isOrd zs = true) := Lib.hid (fun hd => isOrd_nd (by rw [← hnz]; exact hb) (by rw [← hnz]; exact ha) (by rw [← hnz]; exact hd))
    clear hb hnz ha h hn hcell hn'
    go_enter Try.func36, Try.ntmps36
    go_wp2_with (first | (go_at_call 42; refine (l1In _ _ _ _).mono ?_; rintro e w' ⟨rfl, rfl⟩; rw [G.out]) | (go_at_call 44; refine HA.out.mono ?_; rintro e w' ⟨rfl, rfl⟩; rw [G2.out]))
    go_loop [18] (fun i => ∃ k : Nat, k ≤ n ∧ i = .int .i64 k ∧ Hid ((zs.take k).Nodup)) (fun i => n - (intOf i).toNat)
    case atStart => exact ⟨0, Nat.zero_le _, rfl, Lib.hid (by simp)⟩
    case round =>
      obtain ⟨k, hk, rfl, HD⟩ := hrel
      by_cases hlt : k < n
      · have hc := HC.out k hlt
        have hlt' : (k : Int) < n := by omega
        have hkc : (k : Int) ≤ c := by omega
        have B1 := Lib.hid (fun g => nd_not (zs := zs) (k := k) (by have := HN.out; omega) g)
        have B2 := Lib.hid (fun g => nd_step (zs := zs) (k := k) (by have := HN.out; omega) HD.out g)
        have HT := Lib.hid (HH.out (zs.take k) (.slice (some ⟨b, off, none⟩) k c) (gt zs k) w (HR.out.takeR k hk) (by simp; omega))
        generalize gt zs k = x at *
        cases hx : (zs.take k).contains x
        · have R := Lib.hid (B2.out hx)
          have G3 := Lib.hid hx
          clear hx B1 B2
          go_wp2_with (go_at_call 45; refine HT.out.mono ?_; rintro e w' ⟨rfl, rfl⟩; rw [G3.out])
          go_round
          case rel => exact ⟨k + 1, by omega, by go_num, R⟩
          case measure => (simp [intOf]; try omega)
        · have R := Lib.hid (B1.out hx)
          have G3 := Lib.hid hx
          clear hx B1 B2
          go_wp2_with (go_at_call 45; refine HT.out.mono ?_; rintro e w' ⟨rfl, rfl⟩; rw [G3.out])
          go_ret
          exact ⟨ret_bool R.out.symm, rfl⟩
      · obtain rfl : k = n := by omega
        have R := Lib.hid (HE.out HD.out)
        go_wp2
        go_ret
        exact ⟨ret_bool R.out.symm, rfl⟩
end Go.Proofs.Ytcpipacombnhdaa
