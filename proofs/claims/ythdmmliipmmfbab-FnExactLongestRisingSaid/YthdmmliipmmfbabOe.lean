/- FollowOrder, impl and spec. -/
import Derived.Test.YthdmmliipmmfbabOc
import Derived.Deep.CutRange
import Derived.Deep.DeepCutAuto
import Derived.RegionTactic
import Derived.BigRegion
namespace Go.Proofs.Ythdmmliipmmfbab
set_option linter.unusedVariables false
open Go.RowKit

/-- a list of the call's own, and whether there is one -/
def IntsQ (B : Nat) (zs : List Int) (ok : Bool) (w : World) (e : Ending) (w' : World) : Prop := ∃ v, e = .returned (.tuple #[v, .bool ok]) ∧ Ints w' B v zs ∧ Below B w w'
theorem fl_snoc {α : Type} (k : Nat) (f : Nat → α) : fl k f ++ [f k] = fl (k + 1) f := by simp [fl, List.range_succ]
def folF (a b : List Int) (j : Nat) : Int := gt b ((gt a j).toNat - 1)
def fol (a b : List Int) : List Int := fl a.length (folF a b)
def folB (a b : List Int) : Bool := isOrd a && isOrd b && a.length == b.length
def folL (a b : List Int) : List Int := if folB a b then fol a b else []
theorem folL_no {a b : List Int} (h : folB a b = false) : folL a b = [] := by simp [folL, h]
theorem folL_yes {a b : List Int} (h : folB a b = true) : folL a b = fol a b := by simp [folL, h]
theorem folL_len (a b : List Int) : (folL a b).length ≤ 8 := by
  cases h : folB a b
  · rw [folL_no h]; simp
  · rw [folL_yes h]
    simp only [folB, Bool.and_eq_true] at h
    have := isOrd_len h.1.1
    simp [fol, fl]; omega
set_option maxHeartbeats 2000000 in
theorem implFollow (v u : Value) (a b : List Int) (w : World) (h : Rd w v a) (hn : a.length ≤ 1048576) (h2 : Rd w u b) (hn2 : b.length ≤ 1048576) :
    Calls Try.prog 12 #[v, u] w (IntsQ w.heap.size (folL a b) (folB a b) w) := by
  have HA := Lib.hid (implIsOrder v a w h hn)
  have HB := Lib.hid (implIsOrder u b w h2 hn2)
  have E := Lib.hid (show folB a b = (isOrd a && isOrd b && a.length == b.length) from rfl)
  have JN := Lib.hid (fun hx => folL_no (a := a) (b := b) hx)
  have JY := Lib.hid (fun hx => folL_yes (a := a) (b := b) hx)
  generalize folB a b = t at *
  generalize folL a b = z at *
  cases hp : isOrd a
  · have J := Lib.hid (show t = false from E.out.trans (by simp [hp]))
    have J2 := Lib.hid (JN.out J.out)
    rw [hp] at HA
    clear h h2 hp E JN JY
    go_enter Try.func12, Try.ntmps12
    go_wp2_with (go_at_call 30; refine HA.out.mono ?_; rintro e w' ⟨rfl, rfl⟩)
    go_ret2
    exact ⟨_, by rw [J.out] <;> rfl, by rw [J2.out]; exact World.ownsRow_nil _ _ _ _, Below.refl _ _⟩
  cases hq : isOrd b
  · have J := Lib.hid (show t = false from E.out.trans (by simp [hq]))
    have J2 := Lib.hid (JN.out J.out)
    rw [hp] at HA
    rw [hq] at HB
    clear h h2 hp hq E JN JY
    go_enter Try.func12, Try.ntmps12
    go_wp2_with (first
      | (go_at_call 30; (with_reducible refine HA.out.mono ?_); clear HA; rintro e w' ⟨rfl, rfl⟩)
      | (go_at_call 30; (with_reducible refine HB.out.mono ?_); rintro e w' ⟨rfl, rfl⟩))
    go_ret2
    exact ⟨_, by rw [J.out] <;> rfl, by rw [J2.out]; exact World.ownsRow_nil _ _ _ _, Below.refl _ _⟩
  have hl := isOrd_len hp
  have hl2 := isOrd_len hq
  have HAT := Lib.hid (fun j (hj : j < a.length) => isOrd_at hp hj)
  obtain ⟨b1, o1, n, c1, rfl, hnz, hnc, hc9, hbw, hcell⟩ := h.openP (by omega)
  obtain ⟨b2, o2, m, c2, rfl, hmz, hmc, hc92, hbw2, hcell2⟩ := h2.openP (by omega)
  rw [hp] at HA
  rw [hq] at HB
  rw [← hnz, ← hmz, hp, hq] at E
  rw [← hnz] at HAT hl
  rw [← hmz] at hl2
  have HC := Lib.hid hcell
  have HC2 := Lib.hid hcell2
  have JF := Lib.hid (show fol a b = fl n (folF a b) by rw [hnz]; rfl)
  clear h h2 hcell hcell2 hnz hmz hp hq hn hn2
  by_cases hnm : n = m
  · have hnm' : (n : Int) = m := by omega
    have J := Lib.hid (show t = true from E.out.trans (by simp [hnm]))
    have J2 := Lib.hid ((JY.out J.out).trans JF.out)
    have g1 : ((n : Int) == m) = true := by simpa using hnm'
    have g2 : ((n : Int) != m) = false := by simpa using hnm'
    have HNM := Lib.hid hnm
    obtain ⟨d, hd⟩ : ∃ d, d = w.heap.size := ⟨_, rfl⟩
    have HD := Lib.hid hd
    have hb1d : b1 < d := by omega
    have hb2d : b2 < d := by omega
    clear E JN JY JF hnm hnm'
    go_enter Try.func12, Try.ntmps12
    go_upto_region 4 with (first
      | (go_at_call 30; (with_reducible refine HA.out.mono ?_); clear HA; rintro e w' ⟨rfl, rfl⟩)
      | (go_at_call 30; (with_reducible refine HB.out.mono ?_); rintro e w' ⟨rfl, rfl⟩)
      | (at_make; refine wpList_mk rfl _ _ rfl w.heap.size n _ rfl rfl rfl (by omega) (Nat.le_refl _) ?_; intro w1 hI hb1 hg1))
    rw [← hd] at hI hb1 ⊢
    rw [fl_rep] at hI
    have I0 : Ints w1 d (.slice (some ⟨d, 0, none⟩) n n) (fl n (fun j => if j < 0 then folF a b j else 0)) := by
      rw [show fl n (fun j => if j < 0 then folF a b j else 0) = fl n (fun _ => 0) from fl_ext fun j _ => by simp]; exact hI
    have HI0 := Lib.hid I0
    have HB0 := Lib.hid hb1
    clear hI hb1 hg1 I0 hd g1 g2
    go_wp2
    go_loopw [29] (fun i wr => ∃ k : Nat, k ≤ n ∧ i = .int .i64 k ∧ Hid (Ints wr d (.slice (some ⟨d, 0, none⟩) n n) (fl n (fun j => if j < k then folF a b j else 0))) ∧ Hid (Below d w wr)) (fun i _ => n - (intOf i).toNat)
    case atStart => exact ⟨0, Nat.zero_le _, rfl, HI0, HB0⟩
    case round =>
      clear HI0 HB0
      obtain ⟨k, hk, rfl, HI, HBW⟩ := hrel
      by_cases hlt : k < n
      · have hlt' : (k : Int) < n := by omega
        have ck := (HBW.out.cell (p := ⟨b1, o1 + k, none⟩) hb1d).trans (HC.out k hlt)
        have hx := HAT.out k hlt
        obtain ⟨y, hy⟩ : ∃ y : Nat, gt a k = (y : Int) + 1 := ⟨(gt a k).toNat - 1, by omega⟩
        have hym : y < m := by have := HNM.out; omega
        have cy := (HBW.out.cell (p := ⟨b2, o2 + y, none⟩) hb2d).trans (HC2.out y hym)
        rw [hy] at ck
        have EF : folF a b k = gt b y := by unfold folF; rw [hy]; congr 1
        have hyi : (y : Int) < m := by omega
        have cf := HI.out.fr_ k
        have ce := HI.out.at_ hlt
        simp only [Nat.lt_irrefl, if_false] at ce
        have S := HI.out.put k (gt b y)
        rw [show fl n (fun i => if i = k then gt b y else if i < k then folF a b i else 0) = fl n (fun j => if j < k + 1 then folF a b j else 0) from fl_ext fun i _ => by
          by_cases e : i = k
          · subst e; rw [if_pos rfl, if_pos (by omega), EF]
          · rw [if_neg e]; by_cases c : i < k
            · rw [if_pos c, if_pos (by omega)]
            · rw [if_neg c, if_neg (by omega)]] at S
        have hle := HBW.out.size
        have SS := Lib.hid (And.intro S.1 (HBW.out.grown S.2 (by have := HD.out; omega) (by intro j hj; cases hj; exact Nat.le_refl _)))
        clear S hle EF hy hx
        generalize gt b y = x at *
        go_wp2
        go_roundw
        case rel => exact ⟨k + 1, by omega, by go_num, Lib.hid SS.out.1, Lib.hid SS.out.2⟩
        case measure => (simp [intOf]; try omega)
      · obtain rfl : k = n := by omega
        have E2 := Lib.hid (show fl k (fun j => if j < k then folF a b j else 0) = fl k (folF a b) from fl_ext fun j hj => by rw [if_pos hj])
        go_wp2
        go_ret2
        exact ⟨_, by rw [J.out] <;> rfl, by rw [← HD.out, J2.out, ← E2.out]; exact HI.out, by rw [← HD.out]; exact HBW.out⟩
  · have J := Lib.hid (show t = false from E.out.trans (by simp [hnm]))
    have J2 := Lib.hid (JN.out J.out)
    have g1 : ((n : Int) == m) = false := by simp; omega
    have g2 : ((n : Int) != m) = true := by simp; omega
    have hnm' : ¬ ((n : Int) = m) := by omega
    clear E JN JY JF hnm
    go_enter Try.func12, Try.ntmps12
    go_wp2_with (first
      | (go_at_call 30; (with_reducible refine HA.out.mono ?_); clear HA; rintro e w' ⟨rfl, rfl⟩)
      | (go_at_call 30; (with_reducible refine HB.out.mono ?_); rintro e w' ⟨rfl, rfl⟩))
    go_ret2
    exact ⟨_, by rw [J.out] <;> rfl, by rw [J2.out]; exact World.ownsRow_nil _ _ _ _, Below.refl _ _⟩
set_option maxHeartbeats 2000000 in
theorem ptFollow (v u : Value) (a b : List Int) (w : World) (h : Rd w v a) (h2 : Rd w u b) (ho : isOrd a = true) (hl : a.length = b.length) :
    Calls Try.prog 29 #[v, u] w fun e w' => ∃ z, e = .returned z ∧ Ints w' w.heap.size z (fol a b) ∧ Below w.heap.size w w' := by
  have hl1 := isOrd_len ho
  have HAT := Lib.hid (fun j (hj : j < a.length) => isOrd_at ho hj)
  obtain ⟨b1, o1, n, c1, rfl, hnz, hnc, hc9, hbw, hcell⟩ := h.openP (by omega)
  obtain ⟨b2, o2, m, c2, rfl, hmz, hmc, hc92, hbw2, hcell2⟩ := h2.openP (by omega)
  obtain rfl : n = m := by omega
  rw [← hnz] at HAT hl1
  have HC := Lib.hid hcell
  have HC2 := Lib.hid hcell2
  have JF := Lib.hid (show fol a b = fl n (folF a b) by rw [hnz]; rfl)
  obtain ⟨d, hd⟩ : ∃ d, d = w.heap.size := ⟨_, rfl⟩
  have HD := Lib.hid hd
  have hb1d : b1 < d := by omega
  have hb2d : b2 < d := by omega
  clear h h2 hcell hcell2 hnz hmz hl ho hd
  go_enter Try.func29, Try.ntmps29
  go_wp2
  go_loopw [5, 10] (fun o i wr => ∃ k : Nat, k ≤ n ∧ i = .int .i64 k ∧ Hid (Ints wr d o (fl k (folF a b))) ∧ Hid (Below d w wr)) (fun _ i _ => n - (intOf i).toNat)
  case atStart => exact ⟨0, Nat.zero_le _, rfl, Lib.hid (World.ownsRow_nil _ _ _ _), Lib.hid (Below.refl _ _)⟩
  case round =>
    obtain ⟨k, hk, rfl, HI, HBW⟩ := hrel
    by_cases hlt : k < n
    · have hlt' : (k : Int) < n := by omega
      have ck := (HBW.out.cell (p := ⟨b1, o1 + k, none⟩) hb1d).trans (HC.out k hlt)
      have hx := HAT.out k hlt
      obtain ⟨y, hy⟩ : ∃ y : Nat, gt a k = (y : Int) + 1 := ⟨(gt a k).toNat - 1, by omega⟩
      have hym : y < n := by omega
      have cy := (HBW.out.cell (p := ⟨b2, o2 + y, none⟩) hb2d).trans (HC2.out y hym)
      rw [hy] at ck
      have EF := Lib.hid (show folF a b k = gt b y by unfold folF; rw [hy]; congr 1)
      have hyi : (y : Int) < n := by omega
      have hle := HBW.out.size
      have hle2 : d ≤ wr.heap.size := by have := HD.out; omega
      have hfl : (fl k (folF a b)).length < 16777216 := by rw [fl_len]; omega
      have T := Lib.hid (fl_snoc k (folF a b))
      clear hle hy hx
      generalize gt b y = x at *
      go_wp2_with (at_builtin; refine wpList_app wr rfl _ _ rfl d _ (fl k (folF a b)) rfl HI.out x rfl hfl hle2 rfl ?_; intro v' w2 hI2 hb2 hg2)
      go_roundw
      case rel => exact ⟨k + 1, by omega, by go_num, Lib.hid (by rw [← T.out, EF.out]; exact hI2), Lib.hid (HBW.out.trans hb2)⟩
      case measure => (simp [intOf]; try omega)
    · obtain rfl : k = n := by omega
      go_wp2
      go_ret
      exact ⟨_, rfl, by rw [← HD.out, JF.out]; exact HI.out, by rw [← HD.out]; exact HBW.out⟩
set_option maxHeartbeats 2000000 in
theorem specFollow (v u : Value) (a b : List Int) (w : World) (h : Rd w v a) (hn : a.length ≤ 1048576) (h2 : Rd w u b) (hn2 : b.length ≤ 1048576) :
    Calls Try.prog 10 #[v, u] w (IntsQ w.heap.size (folL a b) (folB a b) w) := by
  have HA := Lib.hid (ptGood v a w h hn)
  have HB := Lib.hid (ptGood u b w h2 hn2)
  have E := Lib.hid (show folB a b = (isOrd a && isOrd b && a.length == b.length) from rfl)
  have JN := Lib.hid (fun hx => folL_no (a := a) (b := b) hx)
  have JY := Lib.hid (fun hx => folL_yes (a := a) (b := b) hx)
  generalize folB a b = t at *
  generalize folL a b = z at *
  cases hp : isOrd a
  · have J := Lib.hid (show t = false from E.out.trans (by simp [hp]))
    have J2 := Lib.hid (JN.out J.out)
    rw [hp] at HA
    clear h h2 hp E JN JY
    go_enter Try.func10, Try.ntmps10
    go_wp2_with (go_at_call 28; refine HA.out.mono ?_; rintro e w' ⟨rfl, rfl⟩)
    go_ret2
    exact ⟨_, by rw [J.out] <;> rfl, by rw [J2.out]; exact World.ownsRow_nil _ _ _ _, Below.refl _ _⟩
  cases hq : isOrd b
  · have J := Lib.hid (show t = false from E.out.trans (by simp [hq]))
    have J2 := Lib.hid (JN.out J.out)
    rw [hp] at HA
    rw [hq] at HB
    clear h h2 hp hq E JN JY
    go_enter Try.func10, Try.ntmps10
    go_wp2_with (first
      | (go_at_call 28; (with_reducible refine HA.out.mono ?_); clear HA; rintro e w' ⟨rfl, rfl⟩)
      | (go_at_call 28; (with_reducible refine HB.out.mono ?_); rintro e w' ⟨rfl, rfl⟩))
    go_ret2
    exact ⟨_, by rw [J.out] <;> rfl, by rw [J2.out]; exact World.ownsRow_nil _ _ _ _, Below.refl _ _⟩
  have HF := Lib.hid (fun hl => ptFollow v u a b w h h2 hp hl)
  have hl := isOrd_len hp
  obtain ⟨a1, n, c1, rfl, hnz, _⟩ := h.cells
  obtain ⟨a2, m, c2, rfl, hmz, _⟩ := h2.cells
  rw [hp] at HA
  rw [hq] at HB
  rw [← hnz, ← hmz, hp, hq] at E
  by_cases hnm : n = m
  · have hnm' : (n : Int) = m := by omega
    have J := Lib.hid (show t = true from E.out.trans (by simp [hnm]))
    have J2 := Lib.hid (JY.out J.out)
    have g1 : ((n : Int) == m) = true := by simpa using hnm'
    have g2 : ((n : Int) != m) = false := by simpa using hnm'
    have HF2 := Lib.hid (HF.out (by omega))
    clear E JN JY HF hnm hnm' h h2 hnz hmz hp hq hn hn2 hl
    go_enter Try.func10, Try.ntmps10
    go_wp2_with (first
      | (go_at_call 28; (with_reducible refine HA.out.mono ?_); clear HA; rintro e w' ⟨rfl, rfl⟩)
      | (go_at_call 28; (with_reducible refine HB.out.mono ?_); rintro e w' ⟨rfl, rfl⟩)
      | (go_at_call 29; refine HF2.out.mono ?_; rintro e w1 ⟨q, rfl, hI, hb⟩))
    go_ret2
    exact ⟨_, by rw [J.out] <;> rfl, by rw [J2.out]; exact hI, hb⟩
  · have J := Lib.hid (show t = false from E.out.trans (by simp [hnm]))
    have J2 := Lib.hid (JN.out J.out)
    have g1 : ((n : Int) == m) = false := by simp; omega
    have g2 : ((n : Int) != m) = true := by simp; omega
    have hnm' : ¬ ((n : Int) = m) := by omega
    clear E JN JY HF hnm h h2 hnz hmz hp hq hn hn2 hl
    go_enter Try.func10, Try.ntmps10
    go_wp2_with (first
      | (go_at_call 28; (with_reducible refine HA.out.mono ?_); clear HA; rintro e w' ⟨rfl, rfl⟩)
      | (go_at_call 28; (with_reducible refine HB.out.mono ?_); rintro e w' ⟨rfl, rfl⟩))
    go_ret2
    exact ⟨_, by rw [J.out] <;> rfl, by rw [J2.out]; exact World.ownsRow_nil _ _ _ _, Below.refl _ _⟩
end Go.Proofs.Ythdmmliipmmfbab
