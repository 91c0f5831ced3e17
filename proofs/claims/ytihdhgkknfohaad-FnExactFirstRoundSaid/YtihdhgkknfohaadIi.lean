/- Islands by impl: isAt, across, isNextTo, islandsOf, areIslesWith; slices.Contains and slices.Sort at ints. -/
import Derived.Test.YtihdhgkknfohaadIh
import Derived.Test.YtihdhgkknfohaadIm
import Derived.Test.YtihdhgkknfohaadShelfI
namespace Go.Proofs.Ytihdhgkknfohaad
set_option linter.unusedVariables false
open Go.RowKit

def atB (x y i : Int) : Bool := decide (x = i) || decide (y = i)
theorem isAt (x y z i : Int) (w : World) :
    Calls Try.prog 23 #[.agg #[.int .i64 x, .int .i64 y, .int .i64 z], .int .i64 i] w fun e w' => e = .returned (.bool (atB x y i)) ∧ Below w.heap.size w w' := by
  by_cases h1 : x = i
  · have R := Lib.hid (show atB x y i = true by simp [atB, h1])
    have D : (x == i) = true := by simpa using h1
    generalize atB x y i = r at *
    clear h1
    go_enter Try.func23, Try.ntmps23
    go_wp2
    go_ret
    refine ⟨ret_bool R.out.symm, ?_⟩
    (repeat (first | exact Below.refl _ _ | (refine Below.alloc ?_ (by first | omega | (simp; try omega)) _) | apply Below.drew | apply below_drewN))
  · have D : (x == i) = false := by simpa using h1
    by_cases h2 : y = i
    · have R := Lib.hid (show atB x y i = true by simp [atB, h2])
      have D2 : (y == i) = true := by simpa using h2
      generalize atB x y i = r at *
      clear h1 h2
      go_enter Try.func23, Try.ntmps23
      go_wp2
      go_ret
      refine ⟨ret_bool R.out.symm, ?_⟩
      (repeat (first | exact Below.refl _ _ | (refine Below.alloc ?_ (by first | omega | (simp; try omega)) _) | apply Below.drew | apply below_drewN))
    · have R := Lib.hid (show atB x y i = false by simp [atB, h1, h2])
      have D2 : (y == i) = false := by simpa using h2
      generalize atB x y i = r at *
      clear h1 h2
      go_enter Try.func23, Try.ntmps23
      go_wp2
      go_ret
      refine ⟨ret_bool R.out.symm, ?_⟩
      (repeat (first | exact Below.refl _ _ | (refine Below.alloc ?_ (by first | omega | (simp; try omega)) _) | apply Below.drew | apply below_drewN))
theorem across (x y z i : Int) (w : World) (hx : 0 ≤ x ∧ x ≤ 1000) (hy : 0 ≤ y ∧ y ≤ 1000) (hi : 0 ≤ i ∧ i ≤ 1000) :
    Calls Try.prog 26 #[.agg #[.int .i64 x, .int .i64 y, .int .i64 z], .int .i64 i] w fun e w' => e = .returned (.int .i64 (x + y - i)) ∧ Below w.heap.size w w' := by
  go_enter Try.func26, Try.ntmps26
  go_wp2
  go_ret
  refine ⟨rfl, ?_⟩
  (repeat (first | exact Below.refl _ _ | (refine Below.alloc ?_ (by first | omega | (simp; try omega)) _) | apply Below.drew | apply below_drewN))
theorem has_iff (zs : List Int) (x : Int) : zs.contains x = true ↔ ∃ j, j < zs.length ∧ gt zs j = x := by
  rw [List.contains_iff_mem]
  constructor
  · intro h
    obtain ⟨j, hj, e⟩ := List.getElem_of_mem h
    exact ⟨j, hj, by simp [gt, hj, e]⟩
  · rintro ⟨j, hj, rfl⟩
    exact gt_mem hj
def posI (zs : List Int) (x : Int) : Int := if zs.contains x then 0 else -1
set_option maxHeartbeats 1000000 in
theorem indexI (v : Value) (zs : List Int) (x : Int) (w : World) (h : Rd w v zs) (hn : zs.length ≤ 1048576) :
    Calls Try.prog 51 #[v, .int .i64 x] w fun e w' => ∃ r : Int, e = .returned (.int .i64 r) ∧ (0 ≤ r ↔ zs.contains x = true) ∧ w = w' := by
  obtain ⟨a, n, c, rfl, hnz, hcell⟩ := h.cells
  rw [← hnz] at hn
  have HC := Lib.hid hcell
  have HN := Lib.hid hnz
  have hh := has_iff zs x
  generalize zs.contains x = r at *
  have HI := Lib.hid hh
  clear h hcell hnz hh
  go_enter Try.func51, Try.ntmps51
  go_wp2
  go_loop [5, 8] (fun _ i => ∃ j : Nat, j ≤ n ∧ i = .int .i64 j ∧ Hid (∀ q, q < j → gt zs q ≠ x)) (fun _ i => n - (intOf i).toNat)
  case atStart => exact ⟨0, Nat.zero_le _, rfl, Lib.hid fun q hq => absurd hq (Nat.not_lt_zero _)⟩
  case round =>
    obtain ⟨j, hj, rfl, HA⟩ := hrel
    by_cases hlt : j < n
    · obtain ⟨b, off, rfl, hbw, hc⟩ := HC.out j hlt
      have hlt' : (j : Int) < n := by omega
      by_cases he : gt zs j = x
      · have R := Lib.hid (HI.out.2 ⟨j, by have := HN.out; omega, he⟩)
        rw [he] at hc
        go_wp2
        go_ret
        exact ⟨_, rfl, by rw [R.out]; simp, rfl⟩
      · have R : Hid (∀ q, q < j + 1 → gt zs q ≠ x) := Lib.hid (fun q hq => by
          by_cases e : q = j
          · subst e; exact he
          · exact HA.out q (by omega))
        generalize gt zs j = y at *
        have he2 : (x == y) = false := by simpa using fun e => he e.symm
        go_wp2
        go_round
        case rel => exact ⟨j + 1, by omega, by go_num, R⟩
        case measure => (simp [intOf]; try omega)
    · obtain rfl : j = n := by omega
      have R : Hid (r = false) := Lib.hid (by
        cases hc : r with
        | false => rfl
        | true =>
          obtain ⟨q, hq, e⟩ := HI.out.1 hc
          exact absurd e (HA.out q (by have := HN.out; omega)))
      go_wp2
      go_ret
      exact ⟨_, rfl, by rw [R.out]; simp, rfl⟩
theorem containsI (v : Value) (zs : List Int) (x : Int) (w : World) (h : Rd w v zs) (hn : zs.length ≤ 1048576) :
    Calls Try.prog 41 #[v, .int .i64 x] w fun e w' => e = .returned (.bool (zs.contains x)) ∧ w = w' := by
  have C := Lib.hid (indexI v zs x w h hn)
  generalize zs.contains x = r at *
  clear h hn
  go_enter Try.func41, Try.ntmps41
  go_wp2_with fail
  refine C.out.mono ?_
  rintro e w' ⟨p, rfl, hp, rfl⟩
  by_cases h0 : 0 ≤ p
  · have R := Lib.hid (hp.1 h0)
    clear hp
    go_wp2
    go_ret
    exact ⟨ret_bool R.out.symm, rfl⟩
  · have R := Lib.hid (show r = false by cases r; rfl; exact absurd (hp.2 rfl) h0)
    clear hp
    go_wp2
    go_ret
    exact ⟨ret_bool (by rw [R.out]; simp; omega), rfl⟩

/-- island i is next to one of g -/
def nextTo (bs : List Br) (i : Nat) (g : List Nat) : Bool := bs.any fun b => atB b.1 b.2.1 i && (idx g).contains (b.1 + b.2.1 - i)
theorem idx_mem (l : List Nat) (k : Nat) : (idx l).contains (k : Int) = true ↔ k ∈ l := by
  rw [List.contains_iff_mem]
  unfold idx
  rw [List.mem_map]
  exact ⟨fun ⟨a, h, e⟩ => by have : a = k := by omega
                             subst this; exact h, fun h => ⟨k, h, rfl⟩⟩
theorem next_yes {bs : List Br} {k : Nat} {i : Nat} {g : List Nat} (hk : k < bs.length) (h : (atB (gb bs k).1 (gb bs k).2.1 i && (idx g).contains ((gb bs k).1 + (gb bs k).2.1 - i)) = true) : nextTo bs i g = true := by
  unfold nextTo
  rw [List.any_eq_true]
  exact ⟨_, gb_mem hk, h⟩
theorem next_no {bs : List Br} {i : Nat} {g : List Nat} (h : ∀ k, k < bs.length → (atB (gb bs k).1 (gb bs k).2.1 i && (idx g).contains ((gb bs k).1 + (gb bs k).2.1 - i)) = false) : nextTo bs i g = false := by
  unfold nextTo
  rw [List.any_eq_false]
  intro b hb
  obtain ⟨k, hk, rfl⟩ := mem_gb hb
  rw [h k hk]; simp
theorem next_same {m : Nat} {bs : List Br} (hg : Good m bs) {i i0 : Nat} {g : List Nat} (hs : ∀ j, j ∈ g → same m bs j i0 = true) (h : nextTo bs i g = true) : same m bs i i0 = true := by
  unfold nextTo at h
  rw [List.any_eq_true] at h
  obtain ⟨b, hb, h⟩ := h
  rw [Bool.and_eq_true] at h
  have hv := hg b hb
  have hbr := same_br hg hb
  obtain ⟨h1, h2⟩ := h
  unfold atB at h1
  rw [Bool.or_eq_true, decide_eq_true_eq, decide_eq_true_eq] at h1
  rcases h1 with e | e
  · have h3 : b.1 + b.2.1 - (i : Int) = ((b.2.1.toNat : Nat) : Int) := by omega
    rw [h3, idx_mem] at h2
    have e2 : b.1.toNat = i := by omega
    rw [e2] at hbr
    exact same_trans hbr (hs _ h2)
  · have h3 : b.1 + b.2.1 - (i : Int) = ((b.1.toNat : Nat) : Int) := by omega
    rw [h3, idx_mem] at h2
    have e2 : b.2.1.toNat = i := by omega
    rw [e2] at hbr
    exact same_trans (same_symm hbr) (hs _ h2)
theorem next_closed {m : Nat} {bs : List Br} (hg : Good m bs) {g : List Nat} (h : ∀ j, j < m → j ∉ g → nextTo bs j g = false) : ∀ b ∈ bs, (b.1.toNat ∈ g ↔ b.2.1.toNat ∈ g) := by
  intro b hb
  have hv := hg b hb
  constructor
  · intro h1
    apply Classical.byContradiction
    intro h2
    have := h b.2.1.toNat (by omega) h2
    unfold nextTo at this
    rw [List.any_eq_false] at this
    refine this b hb ?_
    have h3 : b.1 + b.2.1 - ((b.2.1.toNat : Nat) : Int) = ((b.1.toNat : Nat) : Int) := by omega
    rw [h3, (idx_mem g _).2 h1]
    simp [atB]; right; omega
  · intro h1
    apply Classical.byContradiction
    intro h2
    have := h b.1.toNat (by omega) h2
    unfold nextTo at this
    rw [List.any_eq_false] at this
    refine this b hb ?_
    have h3 : b.1 + b.2.1 - ((b.1.toNat : Nat) : Int) = ((b.2.1.toNat : Nat) : Int) := by omega
    rw [h3, (idx_mem g _).2 h1]
    simp [atB]; left; omega

/-- the bridge k leads from island i to one of g -/
def nx (bs : List Br) (i : Nat) (g : List Nat) (k : Nat) : Bool := atB (gb bs k).1 (gb bs k).2.1 i && (idx g).contains ((gb bs k).1 + (gb bs k).2.1 - i)
theorem nx_yes {bs : List Br} {i : Nat} {g : List Nat} {k : Nat} (hk : k < bs.length) (h : nx bs i g k = true) : nextTo bs i g = true := next_yes hk h
theorem nx_no {bs : List Br} {i : Nat} {g : List Nat} (h : ∀ k, k < bs.length → nx bs i g k = false) : nextTo bs i g = false := next_no h
set_option maxHeartbeats 4000000 in
theorem isNextTo (m : Nat) (v u : Value) (bs : List Br) (i : Nat) (g : List Nat) (w : World) (h : RdB w v bs) (h2 : Rd w u (idx g)) (hg : Good m bs) (hm : m ≤ 7) (hl : bs.length ≤ 14) (hi : i < m) (hgl : g.length ≤ 1000) :
    Calls Try.prog 48 #[.agg #[.int .i64 m, v], .int .i64 i, u] w fun e w' => e = .returned (.bool (nextTo bs i g)) ∧ Below w.heap.size w w' := by
  obtain ⟨a, l, c, rfl, hnz, _, _, hcell⟩ := h
  rw [← hnz] at hl
  have HN := Lib.hid hnz
  have HC := Lib.hid hcell
  have HG := Lib.hid hg
  have HR := Lib.hid h2
  clear hcell hnz hg h2
  have hB0 := Lib.hid ((Below.refl w.heap.size w).alloc (Nat.le_refl _) (.cells #[.int .i64 m, .slice a l c] 31))
  go_enter Try.func48, Try.ntmps48
  go_wp2
  go_loopw [12] (fun q wr => ∃ k : Nat, k ≤ l ∧ q = .int .i64 k ∧ Hid (∀ j, j < k → nx bs i g j = false) ∧ Below w.heap.size w wr) (fun q _ => l - (intOf q).toNat)
  case atStart => exact ⟨0, Nat.zero_le _, rfl, Lib.hid fun j h => absurd h (Nat.not_lt_zero _), hB0.out⟩
  case round =>
    obtain ⟨k, hk, rfl, HA, hbel⟩ := hrel
    have hsz := hbel.size
    by_cases hlt : k < l
    · obtain ⟨b, off, rfl, hbw, hc⟩ := HC.out k hlt
      obtain ⟨c0, c1, c2⟩ := hc.below hbw hbel
      have hlt' : (k : Int) < l := by omega
      have hv := HG.out.at (j := k) (by have := HN.out; omega)
      have HY := Lib.hid (fun h => nx_yes (bs := bs) (i := i) (g := g) (k := k) (by have := HN.out; omega) h)
      have HX := Lib.hid (show nx bs i g k = (atB (gb bs k).1 (gb bs k).2.1 i && (idx g).contains ((gb bs k).1 + (gb bs k).2.1 - i)) from rfl)
      have HS := Lib.hid (fun (h : nx bs i g k = false) => (fun j hj => by
        by_cases e : j = k
        · subst e; exact h
        · exact HA.out j (by omega) : ∀ j, j < k + 1 → nx bs i g j = false))
      generalize gb bs k = q at *
      obtain ⟨x, y, z⟩ := q
      simp only at hv HX c0 c1 c2
      have HB := Lib.hid hbel
      clear hc hbel
      go_wp2_with fail
      refine (isAt x y z i _).mono ?_
      rintro e w1 ⟨rfl, hb1⟩
      have HB1 := Lib.hid (HB.out.trans (Below.trans (by (repeat (first | exact Below.refl _ _ | (refine Below.alloc ?_ (by first | omega | (simp; try omega)) _) | apply Below.drew | apply below_drewN))) (hb1.mono (by simp; omega))) : Below w.heap.size w w1)
      have hsz1 := HB1.out.size
      obtain ⟨d0, d1, d2⟩ : w1.cell? ⟨wr.heap.size, 0, none⟩ = some (.int .i64 x) ∧ w1.cell? ⟨wr.heap.size, 1, none⟩ = some (.int .i64 y) ∧ w1.cell? ⟨wr.heap.size, 2, none⟩ = some (.int .i64 z) := by
        have X := (Blk.new wr #[.int .i64 x, .int .i64 y, .int .i64 z] 45).below hb1 (by simp)
        exact ⟨X.cell 0, X.cell 1, X.cell 2⟩
      clear hb1
      cases ha : atB x y i
      · rw [ha, Bool.false_and] at HX
        have R := Lib.hid (HS.out HX.out)
        have HAT := Lib.hid ha
        clear ha HX HY HS
        go_wp2
        go_roundw
        case rel => exact ⟨k + 1, by omega, by go_num, R, HB1.out⟩
        case measure => (simp [intOf]; try omega)
      · rw [ha, Bool.true_and] at HX
        have HAT := Lib.hid ha
        clear ha
        go_wp2_with fail
        refine (across x y z i _ (by omega) (by omega) (by omega)).mono ?_
        rintro e w2 ⟨rfl, hb2⟩
        have HB2 := Lib.hid (HB1.out.trans (hb2.mono hsz1))
        clear hb2 d0 d1 d2
        go_wp2_with fail
        refine (containsI u (idx g) (x + y - i) _ (HR.out.below HB2.out) (by rw [idx_len]; omega)).mono ?_
        rintro e w3 ⟨rfl, rfl⟩
        have HX2 := Lib.hid HX.out.symm
        rw [HX2.out]
        cases hx : nx bs i g k
        · have R := Lib.hid (HS.out hx)
          clear hx HY HS
          go_wp2
          go_roundw
          case rel => exact ⟨k + 1, by omega, by go_num, R, HB2.out⟩
          case measure => (simp [intOf]; try omega)
        · have R := Lib.hid (HY.out hx)
          clear hx HY HS
          go_wp2
          go_ret
          exact ⟨ret_bool R.out.symm, HB2.out⟩
    · obtain rfl : k = l := by omega
      have R := Lib.hid (nx_no (bs := bs) (i := i) (g := g) (fun j hj => HA.out j (by have := HN.out; omega)))
      go_wp2
      go_ret
      exact ⟨ret_bool R.out.symm, hbel⟩
end Go.Proofs.Ytihdhgkknfohaad
