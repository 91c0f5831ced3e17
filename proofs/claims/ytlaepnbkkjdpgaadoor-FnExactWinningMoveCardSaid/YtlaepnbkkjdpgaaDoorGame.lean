/- impl.doesTurnWin, firstWinning, DoesRightWin, WinningMove. -/
import Derived.Test.YtlaepnbkkjdpgaaDoorTm
import Derived.Test.YtlaepnbkkjdpgaaDoorMo
import Derived.Test.YtlaepnbkkjdpgaaDoorLand
namespace Go.Proofs.YtlaepnbkkjdpgaaDoor
set_option linter.unusedVariables false
open Go.RowKit Go.Maps

theorem Laid.grown {w w' : World} {p : Addr} {b : Nat} (h : Laid w p) (hg : w.grownBy w' (some b)) (hb : 2 ≤ b) : Laid w' p :=
  ⟨hg.cell h.1 (by show some 0 ≠ some b; intro e; injection e; omega), hg.cell h.2.1 (by show some 1 ≠ some b; intro e; injection e; omega), Nat.lt_of_lt_of_le h.2.2 hg.size⟩
theorem gr_below {w w' : World} {b : Nat} (hb : Below w.heap.size w w') : w.grownBy w' (some b) := ⟨hb.os, hb.tape, hb.output, hb.size, fun i hi _ => hb.block i hi⟩
theorem gr_trans {u v w : World} {b : Nat} (h : u.grownBy v (some b)) (h2 : v.grownBy w (some b)) : u.grownBy w (some b) :=
  ⟨h2.os.trans h.os, h2.tape.trans h.tape, h2.output.trans h.output, Nat.le_trans h.size h2.size, fun i hi hne => (h2.block i (Nat.lt_of_lt_of_le hi h.size) hne).trans (h.block i hi hne)⟩
/-- block X holds a turn -/
def TB (w : World) (X : Nat) (s : ByteArray) (r : Bool) : Prop := w.cell? ⟨X, 0, none⟩ = some (.string s) ∧ w.cell? ⟨X, 1, none⟩ = some (.bool r)
theorem TB.grown {w w' : World} {X b : Nat} {s : ByteArray} {r : Bool} (h : TB w X s r) (hg : w.grownBy w' (some b)) (hb : X ≠ b) : TB w' X s r :=
  ⟨hg.cell h.1 (by show some X ≠ some b; intro e; injection e; omega), hg.cell h.2 (by show some X ≠ some b; intro e; injection e; omega)⟩
theorem mvKept {w w' : World} {B : Nat} {v : Value} {q : ByteArray} {l : List Nat} {r : Option Nat} (h : Moves w B v q l) (hg : w.grownBy w' r) (hr : v.ownBlock = none ∨ v.ownBlock ≠ r) : Moves w' B v q l := World.ownsRow.kept h hg hr
theorem mvCells {w : World} {B n cap : Nat} {a : Option Addr} {q : ByteArray} {l : List Nat} (h : Moves w B (.slice a n cap) q l) {j : Nat} (hj : j < l.length) :
    ∃ g, a = some ⟨g, 0, none⟩ ∧ g < w.heap.size ∧ w.cell? ⟨g, j * 2, none⟩ = some (.int .i64 (l.getD j 0 : Int)) ∧ w.cell? ⟨g, j * 2 + 1, none⟩ = some (.string (goes q (l.getD j 0))) := by
  obtain ⟨a', n', cap', e, hn, hc⟩ := h.form
  injection e with e1 e2 e3
  subst e1
  obtain ⟨g, e4, _, h2, h3⟩ := hc j (by omega)
  exact ⟨g, e4, h2, h3⟩
theorem TMap.neM {w : World} {b z B : Nat} {K : List (ByteArray × Bool)} {v : Value} {q : ByteArray} {l : List Nat} (h : TMap w b z K) (hI : Moves w B v q l) : v.ownBlock = none ∨ v.ownBlock ≠ some b := by
  right
  intro e
  obtain ⟨⟨D, h1, _⟩, _⟩ := h
  obtain ⟨es, clock, hb, _⟩ := h1
  rcases hI.2 with ⟨rfl, _⟩ | ⟨g', cap, cur, rfl, _, hg, _⟩
  · cases e
  · have e2 : g' = b := by injection e
    subst e2
    rw [hg] at hb
    cases hb
theorem wpList_putT {ops : Array Oper} {rest : List Oper} {o : Oper} {a : Act} {Q : Exit → Act → World → Prop} {W : World} {b z : Nat} {K : List (ByteArray × Bool)} (hg : o.guard = none) (h : TMap W b z K) (hz : z ≤ 9) {s : ByteArray} (hp : isPd s = true) (hsz : s.size = z) {r : Bool} (hn : ¬ (s, r) ∈ K) (y : Bool) (hy : y = decide (0 ≤ win s r))
    (m x v : Operand) (hop : o.op = Op.mapUpdate 57 m x v) (hm : a.eval m = .map (some b)) (hx : a.eval x = .agg #[.string s, .bool r]) (hv : a.eval v = .bool y)
    (hK : ∀ w', TMap w' b z ((s, r) :: K) → W.grownBy w' (some b) → wpList Tryd.prog ops Q rest (a.put o.dst undef) w') : wpList Tryd.prog ops Q (o :: rest) a W := by
  subst hy
  refine wpList_plain hg fun K' hK' => ?_
  obtain ⟨w', r1, r2, r3⟩ := h.put hz hp hsz hn
  unfold Oper.wp
  simp [execOp, hop, hm, hx, hv, r1, Result.andThen]
  exact hK' _ _ (hK w' r2 r3)

def fwI (s : ByteArray) (r : Bool) : Int := if 0 ≤ win s r then win s r else 0
def FwPost (s : ByteArray) (r : Bool) (b z : Nat) (K : List (ByteArray × Bool)) (w : World) (e : Ending) (w' : World) : Prop :=
  e = .returned (.tuple #[.int .i64 (fwI s r), .bool (decide (0 ≤ win s r))]) ∧ ∃ K', TMap w' b z K' ∧ (∀ x ∈ K', x ∈ K ∨ pot s < pot x.1) ∧ w.grownBy w' (some b)
def TwPost (s : ByteArray) (r : Bool) (b z : Nat) (K : List (ByteArray × Bool)) (w : World) (e : Ending) (w' : World) : Prop :=
  e = .returned (.bool (decide (0 ≤ win s r))) ∧ ∃ K', TMap w' b z K' ∧ (∀ x ∈ K', x ∈ K ∨ pot s ≤ pot x.1) ∧ w.grownBy w' (some b)

set_option maxHeartbeats 2000000 in
theorem turnWin (s : ByteArray) (r : Bool) (b z : Nat) (K : List (ByteArray × Bool)) (p : Addr) (w : World) (hp : isPd s = true) (hz : s.size = z) (hL : Laid w p) (hM : TMap w b z K) (hb : 2 ≤ b)
    (ih : ∀ w, Laid w p → TMap w b z K → Calls Tryd.prog 40 #[tk s r, .map (some b)] w (FwPost s r b z K w)) :
    Calls Tryd.prog 38 #[tk s r, .map (some b)] w (TwPost s r b z K w) := by
  have z2 := (isPd_in hp).2.1
  have hsm : s.size ≤ maxLen := by unfold maxLen; omega
  have hbA : Below w.heap.size w (w.alloc (.cells #[.string s, .bool r] 56)) := (Below.refl _ _).alloc (Nat.le_refl _) _
  have MA := hM.below hbA
  have LA := hL.below hbA
  have hlk := MA.getok (s := s) hsm r
  have hlt := hM.lt
  have TA : TB (w.alloc (.cells #[.string s, .bool r] 56)) w.heap.size s r := ⟨by simp, by simp⟩
  have IH := Lib.hid (ih _ LA MA)
  have HTA := Lib.hid TA
  have HMA := Lib.hid MA
  have HBA := Lib.hid hbA
  have HP := Lib.hid hp
  clear hM hL MA LA hbA TA ih hp
  unfold tk
  by_cases hm : memT K s r = true
  · rw [hm, Bool.true_and] at hlk
    clear hm
    generalize hy : decide (0 ≤ win s r) = y at hlk
    have HY := Lib.hid hy
    clear hy
    go_enter Tryd.func38, Tryd.ntmps38
    go_wp2_with fail
    go_ret
    exact ⟨ret_w (by rw [HY.out]; rfl), K, HMA.out, fun x hx => .inl hx, gr_below HBA.out⟩
  · have hm' : memT K s r = false := by simpa using hm
    have hnK : ¬ (s, r) ∈ K := fun h => hm (memT_iff.2 h)
    rw [hm', Bool.false_and] at hlk
    clear hm hm'
    go_enter Tryd.func38, Tryd.ntmps38
    go_wp2_with (first
      | (go_at_call 40; refine IH.out.mono ?_; rintro e w1 ⟨rfl, K1, hM1, hK1, hg1⟩; have T1 := HTA.out.grown hg1 (by omega); have c0 := T1.1; have c1 := T1.2; have HM1 := Lib.hid hM1; have HG1 := Lib.hid hg1; have HK1 := Lib.hid hK1; have hn1 : ¬ (s, r) ∈ K1 := (fun h => (hK1 _ h).elim hnK (fun h2 => absurd h2 (Int.lt_irrefl _))); clear hM1 hg1 hK1 T1)
      | (at_mapUpdate; refine wpList_putT rfl HM1.out (by omega) HP.out hz hn1 _ rfl _ _ _ rfl rfl rfl rfl ?_; intro w2 hM2 hg2; have HM2 := Lib.hid hM2; have HG2 := Lib.hid (gr_trans HG1.out hg2); clear hM2 hg2))
    go_ret
    exact ⟨rfl, (s, r) :: K1, HM2.out, fun x hx => by
      rcases List.mem_cons.1 hx with rfl | hx
      · exact .inr (Int.le_refl _)
      · exact (HK1.out x hx).elim .inl (fun h => .inr (Int.le_of_lt h)), gr_trans (gr_below HBA.out) HG2.out⟩

theorem fwI_miss {s : ByteArray} {r : Bool} (h : win s r = -1) : fwI s r = 0 ∧ decide (0 ≤ win s r) = false := by
  unfold fwI; rw [h]; exact ⟨by decide, by decide⟩
theorem fwI_hit {s : ByteArray} {r : Bool} {k : Nat} (h : win s r = (k : Int)) : fwI s r = k ∧ decide (0 ≤ win s r) = true := by
  unfold fwI; rw [h]; exact ⟨if_pos (by omega), decide_eq_true (by omega)⟩

set_option maxHeartbeats 4000000 in
set_option maxRecDepth 100000 in
theorem firstWin : ∀ (n : Nat) (s : ByteArray) (r : Bool) (b z : Nat) (K : List (ByteArray × Bool)) (p : Addr) (w : World), isPd s = true → s.size = z → (82 - pot s).toNat ≤ n → Laid w p → TMap w b z K → 2 ≤ b →
    Calls Tryd.prog 40 #[tk s r, .map (some b)] w (FwPost s r b z K w)
  | 0, s, r, b, z, K, p, w, hp, hz, hn, _, _, _ => by have := pot_bd hp; omega
  | n + 1, s, r, b, z, K, p, w, hp, hz, hn, hL, hM, hb => by
    have IH := Lib.hid (fun x (hx : x ∈ moves s) K wx (hLx : Laid wx p) (hMx : TMap wx b z K) => turnWin (goes s x) (!r) b z K p wx (goesP hp hx).1 ((goesP hp hx).2.trans hz) hLx hMx hb
      (fun w2 hL2 hM2 => firstWin n (goes s x) (!r) b z K p w2 (goesP hp hx).1 ((goesP hp hx).2.trans hz) (goes_fall hp hx hn) hL2 hM2 hb))
    have PG := Lib.hid (fun x (hx : x ∈ moves s) => pot_goes hp hx)
    have HE := Lib.hid (win_eq hp r)
    have HP := Lib.hid hp
    have z2 := (isPd_in hp).2.1
    have hbA : Below w.heap.size w (w.alloc (.cells #[.string s, .bool r] 56)) := (Below.refl _ _).alloc (Nat.le_refl _) _
    have hlt := hM.lt
    have HLA := Lib.hid (hL.below hbA)
    have HMA := Lib.hid (hM.below hbA)
    have HTA := Lib.hid (show TB (w.alloc (.cells #[.string s, .bool r] 56)) w.heap.size s r from ⟨by simp, by simp⟩)
    have HGA := Lib.hid (gr_below (b := b) hbA)
    clear hp hn hL hM hbA hz
    unfold tk
    go_enter Tryd.func40, Tryd.ntmps40
    go_wp2_with (go_at_call 31; refine (movesOf s p _ HP.out HLA.out).mono ?_; rintro e w1 ⟨vm, rfl, hMv, hb3⟩; obtain ⟨a', n', cap', rfl, hn', _⟩ := hMv.form; have HMv := Lib.hid hMv; have HN' := Lib.hid hn'; have M1 := Lib.hid (HMA.out.below hb3); have T1 := Lib.hid (HTA.out.grown (b := b) (gr_below hb3) (by omega)); have G1 := Lib.hid (gr_trans HGA.out (gr_below hb3)); have L1 := Lib.hid (HLA.out.below hb3); clear hMv hb3 hn')
    have hml : (moves s).length ≤ s.size := mvTo_len s s.size
    have hn9 : n' ≤ 9 := by have := HN'.out; omega
    have hw1 : b < w1.heap.size := M1.out.lt
    clear HMA HTA HGA HLA
    go_loopw [13] (fun i wr => ∃ (k : Nat) (K1 : List (ByteArray × Bool)), k ≤ n' ∧ i = .int .i64 k ∧ Hid (∀ j, j < k → winP s r ((moves s).getD j 0) = false) ∧ Hid (TMap wr b z K1) ∧ Hid (∀ x ∈ K1, x ∈ K ∨ pot s < pot x.1) ∧ Hid (Moves wr 0 (.slice a' n' cap') s (moves s)) ∧ Hid (TB wr w.heap.size s r) ∧ Hid (Laid wr p) ∧ Hid (w.grownBy wr (some b))) (fun i _ => n' - (intOf i).toNat)
    case atStart => exact ⟨0, K, Nat.zero_le _, rfl, Lib.hid (fun j hj => absurd hj (Nat.not_lt_zero _)), M1, Lib.hid (fun x hx => .inl hx), Lib.hid (moves_mono HMv.out (Nat.zero_le _)), T1, L1, G1⟩
    case round =>
      clear M1 T1 G1 L1 HMv
      obtain ⟨k, K1, hk, rfl, hun, hM, hK1, hMv, hT, hLr, hG⟩ := hrel
      have hltr := hM.out.lt
      have hgsz := hG.out.size
      by_cases hlt2 : k < n'
      · have hkm : k < (moves s).length := by rw [← HN'.out]; exact hlt2
        obtain ⟨g', rfl, hg', hc0, hc1⟩ := mvCells hMv.out (j := k) hkm
        have hxm : (moves s).getD k 0 ∈ moves s := by
          rw [List.getD_eq_getElem?_getD, List.getElem?_eq_getElem hkm]; exact List.getElem_mem _
        have hxs := (mvTo_mem s _ _ hxm).1
        have HX := Lib.hid (fun K wx h1 h2 => IH.out _ hxm K wx h1 h2)
        have HPG := Lib.hid (PG.out _ hxm)
        have HHIT := Lib.hid (fun h => firstI_hit (p := winP s r) hkm hun.out h)
        have HUN := Lib.hid (fun h => until_succ (p := winP s r) (k := k) hun.out h)
        have HOW := Lib.hid (fun h => winP_own (s := s) (r := r) (i := (moves s).getD k 0) h)
        have HNO := Lib.hid (fun h => winP_not (s := s) (r := r) (i := (moves s).getD k 0) h)
        clear hxm
        have hki : (k : Int) < n' := by omega
        generalize (moves s).getD k 0 = x at *
        have hsg := sg_get hxs
        have HOD := Lib.hid (show own s x r = (decide (sg s x = 114) == r) from rfl)
        rw [hsg] at HOD
        have hxi : (x : Int) < s.size := by omega
        have hbA : Below wr.heap.size wr (wr.alloc (.cells #[.int .i64 (x : Int), .string (goes s x)] 45)).drew := ((Below.refl wr.heap.size wr).alloc (Nat.le_refl _) _).drew
        have MA := Lib.hid (hM.out.below hbA)
        have VA := Lib.hid (hMv.out.below hbA)
        have LA := Lib.hid (hLr.out.below hbA)
        have TA := Lib.hid (hT.out.grown (b := b) (gr_below hbA) (by omega))
        have GA := Lib.hid (gr_trans hG.out (gr_below hbA))
        have D0 := Lib.hid (show (wr.alloc (.cells #[.int .i64 (x : Int), .string (goes s x)] 45)).drew.cell? ⟨wr.heap.size, 0, none⟩ = some (.int .i64 (x : Int)) by simp)
        have t0 := (hT.out.grown (b := b) (gr_below (hbA.drew)) (by omega)).1
        have t1 := (hT.out.grown (b := b) (gr_below (hbA.drew)) (by omega)).2
        have q0 : (wr.alloc (.cells #[.int .i64 (x : Int), .string (goes s x)] 45)).cell? ⟨w.heap.size, 0, none⟩ = some (.string s) := TA.out.1
        have q1 : (wr.alloc (.cells #[.int .i64 (x : Int), .string (goes s x)] 45)).cell? ⟨w.heap.size, 1, none⟩ = some (.bool r) := TA.out.2
        clear hbA t0 t1
        generalize goes s x = y at *
        by_cases ho : own s x r = true
        · have hw := HOW.out ho
          have ho2 : (((s[x].toNat : Int) == 114) == r) = true := by
            rw [← ho, HOD.out]; congr 1
          by_cases hwin : 0 ≤ win y (!r)
          · rw [decide_eq_true hwin] at hw
            have HWD := Lib.hid (decide_eq_true hwin)
            have R := Lib.hid (HUN.out hw)
            clear hw ho hwin hsg
            go_wp2_with fail
            go_region
            go_wp2_with (go_at_call 38; refine (HX.out K1 _ LA.out MA.out).mono ?_; rintro e w3 ⟨rfl, K3, hM3, hK3, hg3⟩; rw [HWD.out]; have HM3 := Lib.hid hM3; have HK3 := Lib.hid hK3; have T3 := Lib.hid (TA.out.grown hg3 (by omega)); have L3 := Lib.hid (LA.out.grown hg3 hb); have V3 := Lib.hid (mvKept VA.out hg3 (MA.out.neM VA.out)); have G3 := Lib.hid (gr_trans GA.out hg3); clear hM3 hK3 hg3)
            go_roundw
            case rel => exact ⟨k + 1, K3, by omega, by go_num, R, HM3, Lib.hid (fun x hx => (HK3.out x hx).elim (hK1.out x) (fun h => .inr (by have := HPG.out; omega))), V3, T3, L3, G3⟩
            case measure => (simp [intOf]; try omega)
          · rw [decide_eq_false hwin] at hw
            have HWD := Lib.hid (decide_eq_false hwin)
            have R := Lib.hid (fwI_hit (HE.out.trans (HHIT.out hw)))
            clear hw ho hwin hsg
            go_wp2_with fail
            go_region
            go_wp2_with (go_at_call 38; refine (HX.out K1 _ LA.out MA.out).mono ?_; rintro e w3 ⟨rfl, K3, hM3, hK3, hg3⟩; rw [HWD.out]; have HM3 := Lib.hid hM3; have HK3 := Lib.hid hK3; have d0 := hg3.cell D0.out (by show some wr.heap.size ≠ some b; intro e; injection e; omega); have G3 := Lib.hid (gr_trans GA.out hg3); clear hM3 hK3 hg3)
            go_ret2
            exact ⟨ret_w (by rw [R.out.1, R.out.2]; rfl), K3, HM3.out, fun x hx => (HK3.out x hx).elim (hK1.out x) (fun h => .inr (by have := HPG.out; omega)), G3.out⟩
        · have ho' : own s x r = false := by simpa using ho
          have R := Lib.hid (HUN.out (HNO.out ho'))
          have ho2 : (((s[x].toNat : Int) == 114) == r) = false := by
            rw [← ho', HOD.out]; congr 1
          clear ho ho' hsg
          go_wp2_with fail
          go_region
          go_wp2_with fail
          go_roundw
          case rel => exact ⟨k + 1, K1, by omega, by go_num, R, MA, hK1, VA, TA, LA, GA⟩
          case measure => (simp [intOf]; try omega)
      · obtain rfl : k = n' := by omega
        have R := Lib.hid (fwI_miss (HE.out.trans (firstI_miss (p := winP s r) (l := moves s) (fun j hj => hun.out j (by rw [HN'.out]; exact hj)))))
        go_wp2
        go_ret2
        exact ⟨ret_w (by rw [R.out.1, R.out.2]; rfl), K1, hM.out, hK1.out, hG.out⟩
end Go.Proofs.YtlaepnbkkjdpgaaDoor
