/- OrderOfRank, impl and spec. -/
import Derived.Test.YthdmmliipmmfbabOg
import Derived.Test.YthdmmliipmmfbabOk
import Derived.Test.YthdmmliipmmfbabOst
import Derived.Test.YthdmmliipmmfbabIfi
import Derived.Test.YthdmmliipmmfbabOe
import Derived.Deep.RegionHeld3
import Derived.Deep.RegionWith
namespace Go.Proofs.Ythdmmliipmmfbab
set_option linter.unusedVariables false
open Go.RowKit

/-- all but the place i -/
def wo1 (zs : List Int) (i : Nat) : List Int := zs.take i ++ zs.drop (i + 1)
theorem wo1_len {zs : List Int} {i : Nat} (h : i < zs.length) : (wo1 zs i).length = zs.length - 1 := by simp [wo1]; omega
def fac : Nat → Nat
  | 0 => 1
  | k + 1 => (k + 1) * fac k
theorem fac_pos : ∀ k, 0 < fac k
  | 0 => by decide
  | k + 1 => Nat.mul_pos (by omega) (fac_pos k)
theorem fac_le : ∀ {a b : Nat}, a ≤ b → fac a ≤ fac b := by
  intro a b h
  induction b with
  | zero => obtain rfl : a = 0 := by omega
            exact Nat.le_refl _
  | succ b ih =>
    by_cases e : a = b + 1
    · subst e; exact Nat.le_refl _
    · exact Nat.le_trans (ih (by omega)) (by rw [fac]; exact Nat.le_mul_of_pos_left _ (by omega))
theorem fac_8 {k : Nat} (h : k ≤ 8) : fac k ≤ 40320 := Nat.le_trans (fac_le h) (by decide)
/-- the digit of the place p -/
def dgR (n r p : Nat) : Nat := r / fac (n - 1 - p) % (n - p)
theorem dgR_lt {n r p : Nat} (h : p < n) : dgR n r p < n - p := Nat.mod_lt _ (by omega)
theorem dgR_alt {n r p : Nat} (h : p < n) : dgR n r p = r % fac (n - p) / fac (n - 1 - p) := by
  unfold dgR
  obtain ⟨k, hk⟩ : ∃ k, n - p = k + 1 := ⟨n - p - 1, by omega⟩
  rw [hk, show n - 1 - p = k by omega, fac, Nat.mul_comm, Nat.mod_mul_right_div_self]
/-- what is left behind p places -/
def lfR (n r : Nat) : Nat → List Int
  | 0 => rng n
  | p + 1 => wo1 (lfR n r p) (dgR n r p)
theorem lfR_len {n r : Nat} : ∀ p, p ≤ n → (lfR n r p).length = n - p
  | 0, _ => by rw [lfR, rng_len]; omega
  | p + 1, h => by
    have h1 := lfR_len (n := n) (r := r) p (by omega)
    rw [lfR, wo1_len (by rw [h1]; exact dgR_lt (by omega)), h1]; omega
def orF (n r p : Nat) : Int := gt (lfR n r p) (dgR n r p)
def orB (b r : Int) : Bool := inB b 1 8 && decide (0 ≤ r) && decide (r < (fac b.toNat : Int))
def orL (b r : Int) : List Int := if orB b r then fl b.toNat (orF b.toNat r.toNat) else []
theorem orL_no {b r : Int} (h : orB b r = false) : orL b r = [] := by simp [orL, h]
theorem orL_yes {b r : Int} (h : orB b r = true) : orL b r = fl b.toNat (orF b.toNat r.toNat) := by simp [orL, h]
theorem orL_len (b r : Int) : (orL b r).length ≤ 8 := by
  cases h : orB b r
  · rw [orL_no h]; simp
  · rw [orL_yes h, fl_len]
    simp only [orB, Bool.and_eq_true] at h
    have := inB_iff.1 h.1.1
    omega
theorem rng_fl (n : Nat) : rng n = fl n (fun j => (j : Int) + 1) := rfl
theorem idx_fl (n : Nat) : idx (List.range n) = fl n (fun j => (j : Int)) := rfl
theorem rem_nat (x n : Nat) : ((x : Int)).tmod (n : Int) = ((x % n : Nat) : Int) := rfl
theorem quo_nat (x n : Nat) : ((x : Int)).tdiv (n : Int) = ((x / n : Nat) : Int) := rfl
set_option maxHeartbeats 1000000 in
theorem rightOrder (n : Nat) (w : World) (hn : n ≤ 1000) :
    Calls Try.prog 36 #[.int .i64 n] w fun e w' => ∃ g c, e = .returned (.slice (some ⟨g, 0, none⟩) n c) ∧ Ints w' w.heap.size (.slice (some ⟨g, 0, none⟩) n c) (rng n) ∧ Below w.heap.size w w' := by
  have C := Lib.hid (firstIndices n w hn)
  obtain ⟨d, hd⟩ : ∃ d, d = w.heap.size := ⟨_, rfl⟩
  have HD := Lib.hid hd
  go_enter Try.func36, Try.ntmps36
  go_wp2_with fail
  refine C.out.mono ?_
  rintro e w1 ⟨g, c, rfl, hI, hb⟩
  rw [← hd] at hI hb
  rw [idx_fl] at hI
  have hgd := hI.blk.1
  have I0 : Ints w1 d (.slice (some ⟨g, 0, none⟩) n c) (fl n (fun j => if j < 0 then (j : Int) + 1 else (j : Int))) := by
    rw [show fl n (fun j => if j < 0 then (j : Int) + 1 else (j : Int)) = fl n (fun j => (j : Int)) from fl_ext fun j _ => by simp]; exact hI
  have HI := Lib.hid I0
  have HB := Lib.hid hb
  clear hI hb I0 hd C
  go_wp2
  go_loopw [9] (fun i wr => ∃ k : Nat, k ≤ n ∧ i = .int .i64 k ∧ Hid (Ints wr d (.slice (some ⟨g, 0, none⟩) n c) (fl n (fun j => if j < k then (j : Int) + 1 else (j : Int)))) ∧ Hid (Below d w wr)) (fun i _ => n - (intOf i).toNat)
  case atStart => exact ⟨0, Nat.zero_le _, rfl, HI, HB⟩
  case round =>
    clear HI HB
    obtain ⟨k, hk, rfl, HI, HB⟩ := hrel
    by_cases hlt : k < n
    · have hlt' : (k : Int) < n := by omega
      have c1 := HI.out.at_ hlt
      have f1 := HI.out.fr_ k
      rw [if_neg (Nat.lt_irrefl k)] at c1
      have S := HI.out.put k ((k : Int) + 1)
      rw [show fl n (fun i => if i = k then (k : Int) + 1 else if i < k then (i : Int) + 1 else (i : Int)) = fl n (fun j => if j < k + 1 then (j : Int) + 1 else (j : Int)) from fl_ext fun i _ => by
        by_cases e : i = k
        · subst e; rw [if_pos rfl, if_pos (by omega)]
        · rw [if_neg e]; by_cases c : i < k
          · rw [if_pos c, if_pos (by omega)]
          · rw [if_neg c, if_neg (by omega)]] at S
      have hle := HB.out.size
      have SS := Lib.hid (And.intro S.1 (HB.out.grown S.2 (by have := HD.out; omega) (by intro j hj; cases hj; exact hgd)))
      clear S hle
      go_wp2
      go_roundw
      case rel => exact ⟨k + 1, by omega, by go_num, Lib.hid SS.out.1, Lib.hid SS.out.2⟩
      case measure => (simp [intOf]; try omega)
    · obtain rfl : k = n := by omega
      have E := Lib.hid (show fl k (fun j => if j < k then (j : Int) + 1 else (j : Int)) = rng k from (fl_ext fun j hj => by rw [if_pos hj]).trans (rng_fl k).symm)
      go_wp2
      go_ret
      exact ⟨_, _, rfl, by rw [← HD.out, ← E.out]; exact HI.out, by rw [← HD.out]; exact HB.out⟩
/-- the digits that are laid down so far -/
def lsD (n r j p : Nat) : Int := if n ≤ p + j then (dgR n r p : Int) else 0
set_option maxHeartbeats 4000000 in
theorem implOr (b r : Int) (w : World) (hr : r ≤ 9223372036854775807) :
    Calls Try.prog 19 #[.int .i64 b, .int .i64 r] w (IntsQ w.heap.size (orL b r) (orB b r) w) := by
  have E := Lib.hid (show orB b r = (inB b 1 8 && decide (0 ≤ r) && decide (r < (fac b.toNat : Int))) from rfl)
  have JN := Lib.hid (fun hx => orL_no (b := b) (r := r) hx)
  have JY := Lib.hid (fun hx => orL_yes (b := b) (r := r) hx)
  generalize orB b r = t at *
  generalize orL b r = z at *
  have HB := Lib.hid (isBoatCount b w)
  cases hb : inB b 1 8
  · have J := Lib.hid (show t = false from E.out.trans (by simp [hb]))
    have J2 := Lib.hid (JN.out J.out)
    rw [hb] at HB
    clear hb E JN JY
    go_enter Try.func19, Try.ntmps19
    go_wp2_with (go_at_call 35; refine HB.out.mono ?_; rintro e w' ⟨rfl, rfl⟩)
    go_ret2
    exact ⟨_, by rw [J.out] <;> rfl, by rw [J2.out]; exact World.ownsRow_nil _ _ _ _, Below.refl _ _⟩
  rw [hb] at HB
  have hb' := inB_iff.1 hb
  by_cases h0 : r < 0
  · have J := Lib.hid (show t = false from E.out.trans (by simp [hb]; omega))
    have J2 := Lib.hid (JN.out J.out)
    clear hb E JN JY
    go_enter Try.func19, Try.ntmps19
    go_wp2_with (go_at_call 35; refine HB.out.mono ?_; rintro e w' ⟨rfl, rfl⟩)
    go_ret2
    exact ⟨_, by rw [J.out] <;> rfl, by rw [J2.out]; exact World.ownsRow_nil _ _ _ _, Below.refl _ _⟩
  obtain ⟨n, rfl⟩ : ∃ n : Nat, b = n := ⟨b.toNat, by omega⟩
  obtain ⟨q, rfl⟩ : ∃ q : Nat, r = q := ⟨r.toNat, by omega⟩
  simp only [Int.toNat_natCast] at E JY
  have h0' : ¬ (q : Int) < 0 := by omega
  obtain ⟨d, hd⟩ : ∃ d, d = w.heap.size := ⟨_, rfl⟩
  have HD := Lib.hid hd
  have hnn : 1 ≤ n ∧ n ≤ 8 := by omega
  clear h0
  go_enter Try.func19, Try.ntmps19
  go_upto_region 4 with (first
    | (go_at_call 35; refine HB.out.mono ?_; rintro e w' ⟨rfl, rfl⟩)
    | (at_make; refine wpList_mk rfl _ _ rfl w.heap.size n _ rfl rfl rfl (by omega) (Nat.le_refl _) ?_; intro w1 hI hb1 hg1))
  rw [← hd] at hI hb1 ⊢
  rw [fl_rep] at hI
  have HI0 := Lib.hid (show Ints w1 d (.slice (some ⟨d, 0, none⟩) n n) (fl n (lsD n q 0)) by
    rw [show fl n (lsD n q 0) = fl n (fun _ => 0) from fl_ext fun j hj => by unfold lsD; rw [if_neg (by omega)]]; exact hI)
  have HB0 := Lib.hid hb1
  clear hI hb1 hg1 hd
  go_wp2
  go_loopw [1, 7] (fun x i wr => ∃ j : Nat, j ≤ n ∧ i = .int .i64 ((n : Int) - 1 - j) ∧ x = .int .i64 ((q / fac j : Nat) : Int) ∧ Hid (Ints wr d (.slice (some ⟨d, 0, none⟩) n n) (fl n (lsD n q j))) ∧ Hid (Below d w wr)) (fun _ i _ => (intOf i + 1).toNat)
  case atStart => exact ⟨0, Nat.zero_le _, by simp, by simp [fac], HI0, HB0⟩
  case round =>
    clear HI0 HB0
    obtain ⟨j, hj, rfl, rfl, HI, HBW⟩ := hrel
    by_cases hlt : j < n
    · obtain ⟨p, hp⟩ : ∃ p, p = n - 1 - j := ⟨_, rfl⟩
      have hpi : (n : Int) - 1 - j = (p : Int) := by omega
      have hpn : p < n := by omega
      obtain ⟨R, hR⟩ : ∃ R : Int, R = ((q / fac j : Nat) : Int) := ⟨_, rfl⟩
      obtain ⟨D, hD⟩ : ∃ D : Int, D = ((j + 1 : Nat) : Int) := ⟨_, rfl⟩
      have hdg : dgR n q p = q / fac j % (j + 1) := by unfold dgR; rw [show n - 1 - p = j by omega, show n - p = j + 1 by omega]
      obtain ⟨x, hx⟩ : ∃ x, x = dgR n q p := ⟨_, rfl⟩
      obtain ⟨y, hy⟩ : ∃ y, y = q / fac (j + 1) := ⟨_, rfl⟩
      have hxl : x < n := by rw [hx]; exact Nat.lt_of_lt_of_le (dgR_lt hpn) (by omega)
      have m1 : Int.tmod R D = (x : Int) := by rw [hR, hD, rem_nat, ← hdg, hx]
      have m2 : Int.tdiv R D = (y : Int) := by rw [hR, hD, quo_nat, hy, Nat.div_div_eq_div_mul, fac, Nat.mul_comm]
      have hyq : (y : Int) ≤ 9223372036854775807 := by
        have : q / fac (j + 1) ≤ q := Nat.div_le_self _ _
        omega
      have hRq : 0 ≤ R ∧ R ≤ 9223372036854775807 := by
        have h3 : q / fac j ≤ q := Nat.div_le_self _ _
        rw [hR]
        generalize q / fac j = R0 at *
        omega
      have w1' : IntKind.i64.wrap (x : Int) = (x : Int) := IntWalk.i64_in _ (by omega)
      have w2' : IntKind.i64.wrap (y : Int) = (y : Int) := IntWalk.i64_in _ (by omega)
      have m3 : ¬ D = 0 := by omega
      have m4 : (n : Int) - (p : Int) = D := by omega
      have cf := HI.out.fr_ p
      have ce := HI.out.at_ hpn
      have S := HI.out.put p (x : Int)
      rw [show fl n (fun i => if i = p then (x : Int) else lsD n q j i) = fl n (lsD n q (j + 1)) from fl_ext fun i hi => by
        unfold lsD
        by_cases e : i = p
        · rw [if_pos e, if_pos (by omega), hx, e]
        · rw [if_neg e]
          by_cases c : n ≤ i + j
          · rw [if_pos c, if_pos (by omega)]
          · rw [if_neg c, if_neg (by omega)]] at S
      have hle := HBW.out.size
      have SS := Lib.hid (And.intro S.1 (HBW.out.grown S.2 (by have := HD.out; omega) (by intro j hj; cases hj; exact Nat.le_refl _)))
      have HP := Lib.hid hp
      have HY := Lib.hid hy
      have hpi2 : (p : Int) < n := by omega
      have hlt2 : 0 ≤ (n : Int) - 1 - j := by omega
      rw [hpi, ← hR]
      clear S hle hp hy hx hdg hR hD hlt2 hpi
      generalize lsD n q j p = l0 at *
      go_wp2
      go_roundw
      case rel => exact ⟨j + 1, by omega, (by congr 1; have := HP.out; omega), by rw [← HY.out], Lib.hid SS.out.1, Lib.hid SS.out.2⟩
      case measure => (simp [intOf]; try omega)
    · obtain rfl : j = n := by omega
      have hx : (j : Int) - 1 - j = -1 := by omega
      rw [hx]
      clear hx
      by_cases hqf : q < fac j
      · have h00 : q / fac j = 0 := Nat.div_eq_of_lt hqf
        rw [h00]
        have J := Lib.hid (show t = true from E.out.trans (by rw [hb]; simp; omega))
        have J2 := Lib.hid (JY.out J.out)
        have CR := Lib.hid (fun W => rightOrder j W (by omega))
        clear h00 E JN JY
        go_wp2_with fail
        refine (CR.out _).mono ?_
        rintro e w2 ⟨g, c, rfl, hI2, hb2⟩
        have hs0 := HBW.out.size
        have hs2 := hb2.size
        have HIL := Lib.hid (show Ints w2 d (.slice (some ⟨d, 0, none⟩) j j) (fl j (fun p => (dgR j q p : Int))) by
          rw [show fl j (fun p => (dgR j q p : Int)) = fl j (lsD j q j) from fl_ext fun i hi => by unfold lsD; rw [if_pos (by omega)]]
          exact HI.out.below hb2)
        have HBL := Lib.hid (HBW.out.trans (hb2.mono (by have := HD.out; omega)))
        have hgl := hI2.blk
        obtain ⟨d2, hd2⟩ : ∃ d2, d2 = wr.heap.size := ⟨_, rfl⟩
        rw [← hd2] at hI2 hgl hs2
        have HD2 := Lib.hid hd2
        have hdd : d < d2 := by have := HI.out.blk; omega
        have HIR := Lib.hid hI2
        obtain ⟨d3, hd3⟩ : ∃ d3, d3 = w2.heap.size := ⟨_, rfl⟩
        have HD3 := Lib.hid hd3
        rw [← hd3] at hgl hs2
        clear hI2 hb2 hd2 hd3 HI HBW hs0
        go_wp2
        go_loopw [8, 9, 46] (fun l o i wr => ∃ p : Nat, p ≤ j ∧ i = .int .i64 p ∧ l = .slice (some ⟨g, 0, none⟩) (j - p) c ∧ Hid (Ints wr d2 (.slice (some ⟨g, 0, none⟩) (j - p) c) (lfR j q p)) ∧ Hid (Ints wr d3 o (fl p (orF j q))) ∧ Hid (Ints wr d (.slice (some ⟨d, 0, none⟩) j j) (fl j (fun p => (dgR j q p : Int)))) ∧ Hid (Below d w wr) ∧ d3 ≤ wr.heap.size) (fun _ _ i _ => j - (intOf i).toNat)
        case atStart => exact ⟨0, Nat.zero_le _, rfl, rfl, HIR, Lib.hid (World.ownsRow_nil _ _ _ _), HIL, HBL, by have := HD3.out; omega⟩
        case round =>
          clear HIR HIL HBL
          obtain ⟨p, hp, rfl, rfl, HIR, HO, HIL, HBL, hs3⟩ := hrel
          by_cases hlp : p < j
          · have hlp' : (p : Int) < j := by omega
            have hx1 := dgR_lt (r := q) hlp
            have cd := HIL.out.at_ hlp
            have hll := lfR_len (n := j) (r := q) p (by omega)
            obtain ⟨m, hm⟩ : ∃ m, m = j - p := ⟨_, rfl⟩
            rw [← hm] at HIR hx1 hll ⊢
            have hxm : (dgR j q p : Int) < m := by omega
            have cl := HIR.out.cell hll.symm (dgR j q p) hx1
            have EO := Lib.hid (show gt (lfR j q p) (dgR j q p) = orF j q p from rfl)
            have T := Lib.hid (fl_snoc p (orF j q))
            have EL := Lib.hid (show lfR j q (p + 1) = (lfR j q p).take (dgR j q p) ++ (lfR j q p).drop (dgR j q p + 1) from rfl)
            have HLL := Lib.hid hll
            have hfl : (fl p (orF j q)).length < 16777216 := by rw [fl_len]; omega
            have HM := Lib.hid hm
            have hm8 : m ≤ 8 := by omega
            clear hm
            generalize lfR j q p = L at *
            generalize dgR j q p = x at *
            generalize gt L x = y at *
            clear hll
            have hgb := HIR.out.blk
            have hle3 := hs3
            have hxi0 : (0 : Int) ≤ (x : Int) := by omega
            go_wp2_with (at_builtin; refine wpList_app wr rfl _ _ rfl d3 _ (fl p (orF j q)) rfl HO.out y rfl hfl hle3 rfl ?_; intro o' w4 hO4 hb4 hg4)
            have hs4 := hb4.size
            have HIR4 := HIR.out.kept hg4 (.inr (HO.out.apart hgl.2))
            have HIL4 := Lib.hid (HIL.out.kept hg4 (.inr (HO.out.apart (g := d) (by omega))))
            have HBL4 := Lib.hid (HBL.out.grown hg4 (by have := HD3.out; have := HBL.out.size; have := HD.out; omega) (fun b hb => Nat.le_trans (by omega) (HO.out.lt_ b hb).1))
            have HO4 := Lib.hid hO4
            have DZ := Lib.hid (delZ g m c x (x : Int) ((x : Int) + 1) L d2 w4 HIR4 HLL.out.symm (by omega) hx1 rfl rfl)
            have hwl := wo1_len (zs := L) (i := x) (by rw [HLL.out]; exact hx1)
            have HWL := Lib.hid hwl
            have hmm : m - 1 = j - (p + 1) := by have := HM.out; omega
            have HMM := Lib.hid hmm
            clear hO4 hb4 hg4 HIR4 HIR HO HIL HBL hwl hmm
            go_wp2_with fail
            refine DZ.out.mono ?_
            rintro e w5 ⟨rfl, hI5, hg5⟩
            have hs5 := hg5.size
            have P5 := Lib.hid (show Ints w5 d2 (.slice (some ⟨g, 0, none⟩) (m - 1) c) (wo1 L x) by
              have : m - 1 + 1 = m := by omega
              refine Ints.preZ (z := 0) ?_ (by rw [HWL.out, HLL.out])
              rw [this]; exact hI5)
            have O5 := Lib.hid (HO4.out.kept hg5 (.inr (fun e => HO4.out.apart (by omega) e.symm)))
            have L5 := Lib.hid (HIL4.out.kept hg5 (.inr (by intro e; have : d = g := Option.some.inj e; omega)))
            have B5 := Lib.hid (HBL4.out.grown hg5 (by have := HBL4.out.size; have := HD.out; omega) (by intro k hk; cases hk; omega))
            clear hI5 hg5 HO4 HIL4 HBL4
            go_wp2
            go_roundw
            case rel => exact ⟨p + 1, by omega, by go_num, by rw [HMM.out], Lib.hid (by rw [← HMM.out, EL.out]; exact P5.out), Lib.hid (by rw [← T.out, ← EO.out]; exact O5.out), L5, B5, by omega⟩
            case measure => (simp [intOf]; try omega)
          · obtain rfl : p = j := by omega
            have hs5 := HD3.out
            go_wp2
            go_ret2
            exact ⟨_, by rw [J.out] <;> rfl, by rw [J2.out, ← HD.out]; exact ints_mono' HO.out (by omega), by rw [← HD.out]; exact HBL.out⟩
      · have h00 : 0 < q / fac j := Nat.div_pos (by omega) (fac_pos j)
        have J := Lib.hid (show t = false from E.out.trans (by rw [hb]; simp; omega))
        have J2 := Lib.hid (JN.out J.out)
        have h01 : (0 : Int) < ((q / fac j : Nat) : Int) := by omega
        clear E JN JY
        generalize q / fac j = R at *
        go_wp2
        go_ret2
        exact ⟨_, by rw [J.out] <;> rfl, by rw [J2.out]; exact World.ownsRow_nil _ _ _ _, by rw [← HD.out]; exact HBW.out⟩
end Go.Proofs.Ythdmmliipmmfbab
