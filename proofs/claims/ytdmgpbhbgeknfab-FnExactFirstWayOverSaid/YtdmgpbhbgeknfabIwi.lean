/- FirstWayOver: impl (leastToll, firstWayOn). -/
import Derived.Test.YtdmgpbhbgeknfabIx2
import Derived.Test.YtdmgpbhbgeknfabIwp
import Derived.Test.YtdmgpbhbgeknfabIwq
namespace Go.Proofs.Ytdmgpbhbgeknfab
set_option linter.unusedVariables false
open Go.RowKit

/-- a bridge goes from i to j -/
def goB (x y : Int) (i j : Nat) : Bool := atB x y i && decide (x + y - i = (j : Int))
theorem goB_jn {m : Nat} {bs : List Br} (hg : Good m bs) {k : Nat} (hk : k < bs.length) (i j : Nat) : jn i j (gb bs k) = goB (gb bs k).1 (gb bs k).2.1 i j := by
  have := hg.at hk
  rw [Bool.eq_iff_iff, jn_iff]
  simp only [goB, atB, Bool.and_eq_true, Bool.or_eq_true, decide_eq_true_eq]
  omega
theorem lt_s (bs : List Br) (i j k : Nat) : ltTo bs i j (k + 1) = if jn i j (gb bs k) then min (ltTo bs i j k) (gb bs k).2.2 else ltTo bs i j k := rfl
/-- what leastToll hands back -/
def ltV (t : Int) : Int := if t < big then t else 0
def ltF (t : Int) : Bool := decide (t < big)
theorem ltVF {z : Int} (h : z ≤ 1000) : ltV z = z ∧ ltF z = true := by
  have : z < big := by unfold big; omega
  simp [ltV, ltF, this]
set_option maxHeartbeats 4000000 in
theorem leastToll (m : Nat) (v : Value) (bs : List Br) (i j : Nat) (w : World) (h : RdB w v bs) (hg : Good m bs) (hm : m ≤ 7) (hl : bs.length ≤ 14) (hi : i < m) :
    Calls Try.prog 45 #[.agg #[.int .i64 m, v], .int .i64 i, .int .i64 j] w fun e w' => e = .returned (.tuple #[.int .i64 (ltV (ltl bs i j)), .bool (ltF (ltl bs i j))]) ∧ Below w.heap.size w w' := by
  obtain ⟨a, l, c, rfl, hnz, _, _, hcell⟩ := h
  rw [← hnz] at hl
  have HN := Lib.hid hnz
  have HC := Lib.hid hcell
  have HG := Lib.hid hg
  clear hcell hnz hg
  have hB0 := Lib.hid ((Below.refl w.heap.size w).alloc (Nat.le_refl _) (.cells #[.int .i64 m, .slice a l c] 31))
  go_enter Try.func45, Try.ntmps45
  go_wp2
  go_loopw [8, 9, 15] (fun t f q wr => ∃ k : Nat, k ≤ l ∧ q = .int .i64 k ∧ t = .int .i64 (ltV (ltTo bs i j k)) ∧ f = .bool (ltF (ltTo bs i j k)) ∧ Below w.heap.size w wr) (fun _ _ q _ => l - (intOf q).toNat)
  case atStart => exact ⟨0, Nat.zero_le _, rfl, rfl, rfl, hB0.out⟩
  case round =>
    obtain ⟨k, hk, rfl, rfl, rfl, hbel⟩ := hrel
    have hsz := hbel.size
    by_cases hlt : k < l
    · obtain ⟨b, off, rfl, hbw, hc⟩ := HC.out k hlt
      obtain ⟨c0, c1, c2⟩ := hc.below hbw hbel
      have hlt' : (k : Int) < l := by omega
      have hv := HG.out.at (j := k) (by have := HN.out; omega)
      have D := Lib.hid (show ltTo bs i j (k + 1) = if goB (gb bs k).1 (gb bs k).2.1 i j then min (ltTo bs i j k) (gb bs k).2.2 else ltTo bs i j k by rw [lt_s, goB_jn HG.out (by have := HN.out; omega)])
      have hP := ltTo_pos HG.out i j k (by have := HN.out; omega)
      have hQ := ltTo_le bs i j k
      generalize gb bs k = q at *
      obtain ⟨x, y, z⟩ := q
      simp only at hv D c0 c1 c2
      have HB := Lib.hid hbel
      clear hc hbel
      obtain ⟨t1, ht1⟩ : ∃ t1, ltTo bs i j (k + 1) = t1 := ⟨_, rfl⟩
      rw [ht1] at D
      have HT := Lib.hid ht1
      clear ht1
      generalize ltTo bs i j k = t at *
      go_wp2_with fail
      refine (isAt x y z i _).mono ?_
      rintro e w1 ⟨rfl, hb1⟩
      have HB1 := Lib.hid (HB.out.trans (Below.trans (by (repeat (first | exact Below.refl _ _ | (refine Below.alloc ?_ (by first | omega | (simp; try omega)) _) | apply Below.drew | apply below_drewN))) (hb1.mono (by simp; omega))) : Below w.heap.size w w1)
      have hsz1 := HB1.out.size
      have X := Lib.hid ((Blk.new wr #[.int .i64 x, .int .i64 y, .int .i64 z] 54).below hb1 (by simp))
      obtain ⟨d0, d1, d2⟩ : w1.cell? ⟨wr.heap.size, 0, none⟩ = some (.int .i64 x) ∧ w1.cell? ⟨wr.heap.size, 1, none⟩ = some (.int .i64 y) ∧ w1.cell? ⟨wr.heap.size, 2, none⟩ = some (.int .i64 z) := ⟨X.out.cell 0, X.out.cell 1, X.out.cell 2⟩
      clear hb1
      cases ha : atB x y i
      · have R := Lib.hid (show t1 = t by rw [D.out]; simp [goB, ha])
        have HAT := Lib.hid ha
        clear ha D
        go_wp2
        go_roundw
        case rel => exact ⟨k + 1, by omega, by go_num, by rw [HT.out, R.out], by rw [HT.out, R.out], HB1.out⟩
        case measure => (simp [intOf]; try omega)
      · have HAT := Lib.hid ha
        have G := Lib.hid (show goB x y i j = decide (x + y - i = (j : Int)) by simp [goB, ha])
        clear ha
        go_wp2_with fail
        refine (across x y z i _ (by omega) (by omega) (by omega)).mono ?_
        rintro e w2 ⟨rfl, hb2⟩
        have HB2 := Lib.hid (HB1.out.trans (hb2.mono hsz1))
        have X2 := Lib.hid (X.out.below hb2 X.out.lt)
        clear hb2 d0 d1 d2
        obtain ⟨d0, d1, d2⟩ : w2.cell? ⟨wr.heap.size, 0, none⟩ = some (.int .i64 x) ∧ w2.cell? ⟨wr.heap.size, 1, none⟩ = some (.int .i64 y) ∧ w2.cell? ⟨wr.heap.size, 2, none⟩ = some (.int .i64 z) := ⟨X2.out.cell 0, X2.out.cell 1, X2.out.cell 2⟩
        by_cases hx : x + y - i = (j : Int)
        · have hxb : (x + y - i == (j : Int)) = true := by simpa using hx
          rw [hx] at hxb ⊢
          have D2 := Lib.hid (show t1 = min t z by rw [D.out, G.out, decide_eq_true hx]; rfl)
          clear D
          by_cases hf : t < big
          · have hF := Lib.hid (show ltF t = true by simp [ltF, hf])
            have hV := Lib.hid (show ltV t = t by simp [ltV, hf])
            rw [hF.out, hV.out]
            by_cases hz : z < t
            · have R := Lib.hid (show ltV t1 = z ∧ ltF t1 = true by rw [D2.out, show min t z = z by omega]; exact ltVF hv.2.2.2.2)
              clear D2 hx hf
              go_wp2
              go_roundw
              case rel => exact ⟨k + 1, by omega, by go_num, by rw [HT.out, R.out.1], by rw [HT.out, R.out.2], HB2.out⟩
              case measure => (simp [intOf]; try omega)
            · have R := Lib.hid (show ltV t1 = t ∧ ltF t1 = true by rw [D2.out, show min t z = t by omega]; exact ⟨hV.out, hF.out⟩)
              clear D2 hx hf
              go_wp2
              go_roundw
              case rel => exact ⟨k + 1, by omega, by go_num, by rw [HT.out, R.out.1], by rw [HT.out, R.out.2], HB2.out⟩
              case measure => (simp [intOf]; try omega)
          · have hF := Lib.hid (show ltF t = false by simp [ltF, hf])
            have hV := Lib.hid (show ltV t = 0 by simp [ltV, hf])
            rw [hF.out, hV.out]
            have R := Lib.hid (show ltV t1 = z ∧ ltF t1 = true by rw [D2.out, show min t z = z by unfold big at hf; omega]; exact ltVF hv.2.2.2.2)
            clear D2 hx hf
            go_wp2
            go_roundw
            case rel => exact ⟨k + 1, by omega, by go_num, by rw [HT.out, R.out.1], by rw [HT.out, R.out.2], HB2.out⟩
            case measure => (simp [intOf]; try omega)
        · have hxb : (x + y - i == (j : Int)) = false := by simpa using hx
          have R := Lib.hid (show t1 = t by rw [D.out, G.out, decide_eq_false hx]; rfl)
          clear D
          go_wp2
          go_roundw
          case rel => exact ⟨k + 1, by omega, by go_num, by rw [HT.out, R.out], by rw [HT.out, R.out], HB2.out⟩
          case measure => (simp [intOf]; try omega)
    · obtain rfl : k = l := by omega
      have R := Lib.hid (show ltTo bs i j k = ltl bs i j by rw [HN.out]; rfl)
      go_wp2
      go_ret2
      exact ⟨by rw [R.out]; rfl, hbel⟩
/-- what firstWayOn leaves behind -/
def WayPost (w0 w : World) (vw : Value) (way : List Nat) (r : Option (List Nat)) (e : Ending) (w' : World) : Prop :=
  Below w0.heap.size w0 w' ∧ w.grownBy w' vw.ownBlock ∧ match r with
    | some z => ∃ a n c, e = .returned (.slice (some a) n c) ∧ Ints w' w0.heap.size (.slice (some a) n c) (idx z)
    | none => e = .returned (.slice none 0 0) ∧ Ints w' w0.heap.size vw (idx way)
theorem idx_snoc' (l : List Nat) (x : Nat) : idx l ++ [(x : Int)] = idx (l ++ [x]) := by simp [idx]
theorem kpW {W : World} {s : Nat} {p q : Value} (h : Blk W s #[p, q]) : W.cell? ⟨s, 0, none⟩ = some p ∧ W.cell? ⟨s, 1, none⟩ = some q := ⟨h.cell 0, h.cell 1⟩
theorem below_own {w w' : World} (h : Below w.heap.size w w') (r : Option Nat) : w.grownBy w' r := ⟨h.os, h.tape, h.output, h.size, fun k hk _ => h.block k hk⟩
/-- one step of the search -/
def fW (bs : List Br) (at_ : Nat) (left : Int) (way : List Nat) (R : Nat → Option (List Nat)) (next : Nat) : Option (List Nat) := if left < ltl bs at_ next ∨ next ∈ way then none else R next
theorem ltV_in {m : Nat} {bs : List Br} (hg : Good m bs) (i j : Nat) : 0 ≤ ltV (ltl bs i j) ∧ ltV (ltl bs i j) ≤ big ∧ 0 ≤ ltl bs i j ∧ ltl bs i j ≤ big := by
  have := ltl_in hg i j
  unfold ltV
  split <;> omega
theorem scan_skip {f : Nat → Option (List Nat)} {k m : Nat} (hk : k < m) (h : f k = none) : scanW f k (m - k) = scanW f (k + 1) (m - (k + 1)) := by
  rw [show m - k = (m - (k + 1)) + 1 by omega]; exact scanW_no h
theorem scan_hit {f : Nat → Option (List Nat)} {k m : Nat} {r : List Nat} (hk : k < m) (h : f k = some r) : scanW f k (m - k) = some r := by
  rw [show m - k = (m - (k + 1)) + 1 by omega]; exact scanW_at h
theorem wayPost_none {w0 w w' : World} {vw : Value} {way : List Nat} {e : Ending} (he : e = .returned (.slice none 0 0)) (hB : Below w0.heap.size w0 w') (hI : Ints w' w0.heap.size vw (idx way)) (hG : w.grownBy w' vw.ownBlock) : WayPost w0 w vw way none e w' := ⟨hB, hG, he, hI⟩
theorem wayPost_some {w0 w w' : World} {vw : Value} {way z : List Nat} {e : Ending} {a : Addr} {n c : Nat} (he : e = .returned (.slice (some a) n c)) (hB : Below w0.heap.size w0 w') (hG : w.grownBy w' vw.ownBlock) (hI : Ints w' w0.heap.size (.slice (some a) n c) (idx z)) : WayPost w0 w vw way (some z) e w' := ⟨hB, hG, a, n, c, he, hI⟩
set_option maxRecDepth 100000 in
set_option maxHeartbeats 1000000 in
theorem wayStep (m : Nat) (v : Value) (bs : List Br) (dst : Nat) (w0 : World) (h : RdB w0 v bs) (hg : Good m bs) (hm : m ≤ 7) (hl : bs.length ≤ 14) (hdst : dst < m)
    (way : List Nat) (at_ : Nat) (vw : Value) (left : Int) (w : World) (hn : way.Nodup) (hlt : ∀ x ∈ way, x < m) (hat : way.getLast? = some at_) (hl0 : 0 ≤ left) (hl7 : left ≤ 7000) (hB : Below w0.heap.size w0 w) (hI : Ints w w0.heap.size vw (idx way))
    (R : Nat → Option (List Nat)) (res : Option (List Nat)) (hend : at_ = dst ∧ left = 0 → res = some way) (hres : ¬ (at_ = dst ∧ left = 0) → res = scanW (fW bs at_ left way R) 0 m)
    (REC : ∀ next, next < m → next ∉ way → ltl bs at_ next ≤ left → ∀ (u : Value) (w1 : World), Below w0.heap.size w0 w1 → Ints w1 w0.heap.size u (idx (way ++ [next])) → Calls Try.prog 22 #[.agg #[.int .i64 m, v], u, .int .i64 dst, .int .i64 (left - ltl bs at_ next)] w1 (WayPost w0 w1 u (way ++ [next]) (R next))) :
    Calls Try.prog 22 #[.agg #[.int .i64 m, v], vw, .int .i64 dst, .int .i64 left] w (WayPost w0 w vw way res) := by
  have RC := Lib.hid REC
  have H := Lib.hid h
  obtain ⟨a, l, c, rfl, tt⟩ := h
  have HG := Lib.hid hg
  clear tt hg REC
  have hwp : 0 < way.length := by cases way with | nil => simp at hat | cons x t => simp
  obtain ⟨g, n, cap, rfl, hnl, hnc, hcm, hBg, hgw, hcell⟩ := hI.form (by rw [idx_len]; exact hwp)
  rw [idx_len] at hnl
  have HI := Lib.hid hI
  have HBl := Lib.hid hB
  have HNL := Lib.hid hnl
  have hat7 : at_ < m := hlt at_ (List.mem_of_getLast? hat)
  have hlast : w.cell? ⟨g, n - 1, none⟩ = some (.int .i64 at_) := by
    rw [hcell (n - 1) (by omega), idx_gt, hnl]
    rw [List.getLast?_eq_getElem?] at hat
    rw [List.getD_eq_getElem?_getD, hat]; rfl
  have hn7 : n ≤ 7 := by rw [hnl]; have := nodup_le hn hlt; omega
  have hw1 : ((n : Int) - 1).toNat = n - 1 := by omega
  have hw2 : 0 ≤ (n : Int) - 1 ∧ (n : Int) - 1 < n := by omega
  have hw3 : (n : Int) - 1 = ((n - 1 : Nat) : Int) := by omega
  have hsB := hB.size
  clear hnl hn hlt hat hI hB hcell hnc hcm
  have BX := Lib.hid (Blk.new w #[.int .i64 m, .slice a l c] 31)
  have IW := Lib.hid (HI.out.below ((Below.refl w.heap.size w).alloc (Nat.le_refl _) (.cells #[.int .i64 m, .slice a l c] 31)))
  have BW := Lib.hid (HBl.out.alloc hsB (.cells #[.int .i64 m, .slice a l c] 31))
  have GW := Lib.hid (World.grownBy_alloc w (.cells #[.int .i64 m, .slice a l c] 31) (some g))
  by_cases hc : at_ = dst ∧ left = 0
  · have RE := Lib.hid (hend hc)
    obtain ⟨rfl, rfl⟩ := hc
    clear hend hres
    have hE : ((at_ : Int) == (at_ : Int)) = true := by simp
    go_enter Try.func22, Try.ntmps22
    go_wp2
    go_ret
    rw [RE.out]
    exact wayPost_some rfl BW.out GW.out IW.out
  have RS := Lib.hid (hres hc)
  clear hend hres
  have hc2 : (at_ ≠ dst ∧ ((at_ : Int) == (dst : Int)) = false) ∨ (at_ = dst ∧ ((at_ : Int) == (dst : Int)) = true ∧ (left == 0) = false ∧ ¬ left = 0) := by
    by_cases e : at_ = dst
    · right; refine ⟨e, by simp [e], ?_, fun h => hc ⟨e, h⟩⟩
      have : ¬ left = 0 := fun h => hc ⟨e, h⟩
      simpa using this
    · left; refine ⟨e, ?_⟩
      have : ¬ (at_ : Int) = dst := by omega
      simpa using this
  clear hc
  have hgne : some w.heap.size ≠ some g := by intro e; cases e; omega
  have HGNE := Lib.hid hgne
  clear hgne
  rcases hc2 with ⟨hne, hD⟩ | ⟨heq, hD, hL1, hL2⟩
  all_goals
    try (have hneI : ¬ (at_ : Int) = dst := by omega)
    try subst heq
    try clear hne
    go_enter Try.func22, Try.ntmps22
    go_wp2_with fail
    go_loopw [30] (fun q wr => ∃ k : Nat, k ≤ m ∧ q = .int .i64 k ∧ Hid (res = scanW (fW bs at_ left way R) k (m - k)) ∧ Hid (Below w0.heap.size w0 wr) ∧ Hid (Ints wr w0.heap.size (.slice (some ⟨g, 0, none⟩) n cap) (idx way)) ∧ Hid (Blk wr w.heap.size #[.int .i64 m, .slice a l c]) ∧ Hid (w.grownBy wr (some g))) (fun q _ => m - (intOf q).toNat)
    case atStart => exact ⟨0, Nat.zero_le _, rfl, RS, BW, IW, BX, GW⟩
    case round =>
      obtain ⟨k, hk, rfl, HS, HBr, HIr, HX, HGr⟩ := hrel
      have hsz := HBr.out.size
      have hszw := HGr.out.size
      obtain ⟨c0, c1, l0⟩ := HX.out.two
      by_cases hlt : k < m
      · have hlt' : (k : Int) < m := by omega
        go_wp2_with fail
        refine (leastToll m _ bs at_ k _ (H.out.below HBr.out) HG.out hm hl hat7).mono ?_
        rintro e w1 ⟨rfl, hb1⟩
        have B1 := Lib.hid (HBr.out.trans (hb1.mono hsz))
        have I1 := Lib.hid (HIr.out.below hb1)
        have X1 := Lib.hid (HX.out.below hb1 l0)
        have G1 := Lib.hid (HGr.out.trans ((below_own hb1 (some g))))
        clear hb1 c0 c1 l0
        have TV := ltV_in HG.out at_ k
        have TV2 : 0 ≤ ltl bs at_ k ∧ ltl bs at_ k ≤ big := ⟨TV.2.2.1, TV.2.2.2⟩
        have SK := Lib.hid (fun (hf : fW bs at_ left way R k = none) => HS.out.trans (scan_skip hlt hf))
        have SH := Lib.hid (fun r (hf : fW bs at_ left way R k = some r) => HS.out.trans (scan_hit hlt hf))
        have FN := Lib.hid (show (left < ltl bs at_ k ∨ k ∈ way) → fW bs at_ left way R k = none from fun h => if_pos h)
        have FG := Lib.hid (show ¬ (left < ltl bs at_ k ∨ k ∈ way) → fW bs at_ left way R k = R k from fun h => if_neg h)
        have RCk := Lib.hid (RC.out k hlt)
        clear HS HBr HIr HX HGr
        generalize ltl bs at_ k = t at *
        by_cases hf : t < big
        · have hV : ltV t = t := by simp [ltV, hf]
          have hF : ltF t = true := by simp [ltF, hf]
          rw [hV, hF]
          clear hV hF TV
          have hfb : t < 1000000 := hf
          clear hf
          have ht0 : 0 ≤ t := TV2.1
          by_cases h1 : left < t
          · have RX := Lib.hid (SK.out (FN.out (.inl h1)))
            clear SK SH FN FG RCk
            go_wp2
            go_roundw
            case rel => exact ⟨k + 1, by omega, by go_num, RX, B1, I1, X1, G1⟩
            case measure => (simp [intOf]; try omega)
          have hle : t ≤ left := by omega
          go_wp2_with fail
          refine (containsI _ (idx way) (k : Int) _ I1.out.rd (by rw [idx_len]; have := HNL.out; omega)).mono ?_
          rintro e w' ⟨rfl, rfl⟩
          cases hk2 : (idx way).contains (k : Int)
          case true =>
            have RX := Lib.hid (SK.out (FN.out (.inr ((idx_mem way k).1 hk2))))
            clear SK SH FN FG RCk hk2
            go_wp2
            go_roundw
            case rel => exact ⟨k + 1, by omega, by go_num, RX, B1, I1, X1, G1⟩
            case measure => (simp [intOf]; try omega)
          have hnot : k ∉ way := fun hm => by rw [(idx_mem way k).2 hm] at hk2; cases hk2
          have FK := Lib.hid (FG.out (by rintro (h | h); omega; exact hnot h))
          have hwr : IntKind.i64.wrap (left - t) = left - t := by rw [IntKind.wrap_i64]; omega
          clear hk2 FG FN h1
          cases hR : R k with
          | none =>
            have RX := Lib.hid (SK.out (FK.out.trans hR))
            rw [hR] at RCk
            clear hR FK SK SH
            go_wp2_with fail
            have V1 := Lib.hid X1.out.drew
            have NB := Lib.hid (Blk.new w1 #[.int .i64 k] 3).drew
            have hdA : Below w1.heap.size w1 (w1.alloc (.cells #[.int .i64 k] 3)).drew := by (repeat (first | exact Below.refl _ _ | (refine Below.alloc ?_ (by first | omega | (simp; try omega)) _) | apply Below.drew | apply below_drewN))
            have BA := Lib.hid (B1.out.trans (hdA.mono B1.out.size))
            have IA := Lib.hid (I1.out.below hdA)
            have XA := Lib.hid (X1.out.below hdA X1.out.lt)
            have GA := Lib.hid (G1.out.trans (below_own hdA (some g)))
            clear hdA
            go_region_held3 (fun w' => w'.cell? ⟨w.heap.size, 0, none⟩ = some (.int .i64 (m : Int)) ∧ w'.cell? ⟨w.heap.size, 1, none⟩ = some (.slice a l c)) (first | exact kpW V1.out | exact kpW XA.out | exact kpW X2.out | exact kpW X3.out) (first
              | (refine step_appW rfl (.tmp 53) (.tmp 55) rfl w0.heap.size (.slice (some ⟨g, 0, none⟩) n cap) (idx way) ?_ IA.out ?_ w1.heap.size (k : Int) ?_ (NB.out.cell 0) ?_ BA.out.size (n + 1) ?_ (idx (way ++ [k])) (idx_snoc' way k) ?_; (· simp [Act.eval]); (· (rw [idx_len]; exact hwp)); (· simp [Act.eval]); (· (rw [idx_len]; have := HNL.out; omega)); (· (rw [idx_len, HNL.out])); intro g2 cap2 w2 hI2 hb2 hg2 hbk; have B2 := Lib.hid (BA.out.trans hb2); have I2 := Lib.hid hI2; have X2 := Lib.hid (XA.out.kept hg2 HGNE.out); have BK := Lib.hid hbk; clear hI2 hb2 hg2 hbk; skip)
              | (go_at_call 22; (with_reducible refine (RCk.out hnot hle _ w2 B2.out I2.out).mono ?_); rintro e w3 ⟨hb3, hg3, rfl, hI3⟩; have G3 := Lib.hid (BK.out.1 _ hg3); have X3 := Lib.hid (XA.out.kept G3.out HGNE.out); have B3 := Lib.hid hb3; have I3 := Lib.hid hI3; have IB := Lib.hid (BK.out.2 _ hI3 hg3); clear hb3 hg3 hI3; skip))
            go_wp2
            go_roundw
            case rel => exact ⟨k + 1, by omega, by go_num, RX, B3, IB, X3, Lib.hid (GA.out.trans G3.out)⟩
            case measure => (simp [intOf]; try omega)
          | some z =>
            have RX := Lib.hid (SH.out z (FK.out.trans hR))
            rw [hR] at RCk
            clear hR FK SK SH
            have E := Lib.run_eql_slice_nil (P := Try.prog)
            go_wp2_with fail
            have V1 := Lib.hid X1.out.drew
            have NB := Lib.hid (Blk.new w1 #[.int .i64 k] 3).drew
            have hdA : Below w1.heap.size w1 (w1.alloc (.cells #[.int .i64 k] 3)).drew := by (repeat (first | exact Below.refl _ _ | (refine Below.alloc ?_ (by first | omega | (simp; try omega)) _) | apply Below.drew | apply below_drewN))
            have BA := Lib.hid (B1.out.trans (hdA.mono B1.out.size))
            have IA := Lib.hid (I1.out.below hdA)
            have XA := Lib.hid (X1.out.below hdA X1.out.lt)
            have GA := Lib.hid (G1.out.trans (below_own hdA (some g)))
            clear hdA
            go_region_held3 (fun w' => w'.cell? ⟨w.heap.size, 0, none⟩ = some (.int .i64 (m : Int)) ∧ w'.cell? ⟨w.heap.size, 1, none⟩ = some (.slice a l c)) (first | exact kpW V1.out | exact kpW XA.out | exact kpW X2.out | exact kpW X3.out) (first
              | (refine step_appW rfl (.tmp 53) (.tmp 55) rfl w0.heap.size (.slice (some ⟨g, 0, none⟩) n cap) (idx way) ?_ IA.out ?_ w1.heap.size (k : Int) ?_ (NB.out.cell 0) ?_ BA.out.size (n + 1) ?_ (idx (way ++ [k])) (idx_snoc' way k) ?_; (· simp [Act.eval]); (· (rw [idx_len]; exact hwp)); (· simp [Act.eval]); (· (rw [idx_len]; have := HNL.out; omega)); (· (rw [idx_len, HNL.out])); intro g2 cap2 w2 hI2 hb2 hg2 hbk; have B2 := Lib.hid (BA.out.trans hb2); have I2 := Lib.hid hI2; have X2 := Lib.hid (XA.out.kept hg2 HGNE.out); have BK := Lib.hid hbk; clear hI2 hb2 hg2 hbk; skip)
              | (go_at_call 22; (with_reducible refine (RCk.out hnot hle _ w2 B2.out I2.out).mono ?_); rintro e w3 ⟨hb3, hg3, ⟨ab, ao, asp⟩, n3, c3, rfl, hI3⟩; have G3 := Lib.hid (BK.out.1 _ hg3); have X3 := Lib.hid (XA.out.kept G3.out HGNE.out); have B3 := Lib.hid hb3; have I3 := Lib.hid hI3;  clear hb3 hg3 hI3; skip))
            go_wp2
            go_ret
            rw [RX.out]
            exact wayPost_some rfl B3.out (GA.out.trans G3.out) I3.out
        · have hV : ltV t = 0 := by simp [ltV, hf]
          have hF : ltF t = false := by simp [ltF, hf]
          rw [hV, hF]
          have RX := Lib.hid (SK.out (FN.out (.inl (by unfold big at hf; omega))))
          clear SK SH FN FG RCk hV hF hf TV
          go_wp2
          go_roundw
          case rel => exact ⟨k + 1, by omega, by go_num, RX, B1, I1, X1, G1⟩
          case measure => (simp [intOf]; try omega)
      · obtain rfl : k = m := by omega
        have RN := Lib.hid (show res = none by rw [HS.out, Nat.sub_self]; rfl)
        go_wp2
        go_ret
        rw [RN.out]
        exact wayPost_none rfl HBr.out HIr.out HGr.out
theorem getLast_snoc' (l : List Nat) (x : Nat) : (l ++ [x]).getLast? = some x := by simp
theorem firstWayOn (m : Nat) (v : Value) (bs : List Br) (dst : Nat) (w0 : World) (h : RdB w0 v bs) (hg : Good m bs) (hm : m ≤ 7) (hl : bs.length ≤ 14) (hdst : dst < m) (f : Nat) :
    ∀ (way : List Nat) (at_ : Nat) (vw : Value) (left : Int) (w : World), m ≤ way.length + f → way.Nodup → (∀ x ∈ way, x < m) → way.getLast? = some at_ → 0 ≤ left → left ≤ 7000 → Below w0.heap.size w0 w → Ints w w0.heap.size vw (idx way) →
      Calls Try.prog 22 #[.agg #[.int .i64 m, v], vw, .int .i64 dst, .int .i64 left] w (WayPost w0 w vw way (wayF m bs dst f way at_ left)) := by
  induction f with
  | zero =>
    intro way at_ vw left w hf hn hlt hat hl0 hl7 hB hI
    refine wayStep m v bs dst w0 h hg hm hl hdst way at_ vw left w hn hlt hat hl0 hl7 hB hI (fun _ => none) _ (fun hc => ?_) (fun hc => ?_) (fun next hnx hno _ => absurd (all_on hn hlt (by omega) hnx) hno)
    · obtain ⟨rfl, rfl⟩ := hc; exact wayF_end
    · rw [wayF_0 hc]
      exact (scanW_none _ _ fun k => by unfold fW; split <;> rfl).symm
  | succ f ih =>
    intro way at_ vw left w hf hn hlt hat hl0 hl7 hB hI
    refine wayStep m v bs dst w0 h hg hm hl hdst way at_ vw left w hn hlt hat hl0 hl7 hB hI (fun next => wayF m bs dst f (way ++ [next]) next (left - ltl bs at_ next)) _ (fun hc => ?_) (fun hc => ?_) (fun next hnx hno hle u w1 hB1 hI1 => ?_)
    · obtain ⟨rfl, rfl⟩ := hc; exact wayF_end
    · exact wayF_s hc
    · have := ltl_in hg at_ next
      refine ih (way ++ [next]) next u _ w1 (by simp; omega) ?_ ?_ (getLast_snoc' _ _) (by omega) (by omega) hB1 hI1
      · rw [List.nodup_append]
        exact ⟨hn, by simp, fun x hx y hy => by simp at hy; subst hy; exact fun e => hno (e ▸ hx)⟩
      · intro x hx
        rcases List.mem_append.1 hx with hx | hx
        · exact hlt x hx
        · simp at hx; omega
def wayZ (n : Int) (bs : List Br) (f t : Int) : List Nat := if bothB n bs f t then (wayF n.toNat bs t.toNat 6 [f.toNat] f.toNat (gt (tl n.toNat bs false t.toNat) f.toNat)).getD [] else []
theorem wayZ_no {n : Int} {bs : List Br} {f t : Int} (h : bothB n bs f t = false) : wayZ n bs f t = [] := by simp [wayZ, h]
theorem wayZ_yes {m i j : Nat} {bs : List Br} (h : bothB m bs i j = true) : wayZ m bs i j = (wayF m bs j 6 [i] i (gt (tl m bs false j) i)).getD [] := by simp [wayZ, h]
theorem wayZ_len (n : Int) (bs : List Br) (f t : Int) : (wayZ n bs f t).length ≤ 7 := by
  unfold wayZ
  split
  · cases h : wayF n.toNat bs t.toNat 6 [f.toNat] f.toNat (gt (tl n.toNat bs false t.toNat) f.toNat) with
    | none => simp
    | some r => have := (wayF_len h).1; simpa using this
  · simp
set_option maxRecDepth 100000 in
set_option maxHeartbeats 2000000 in
theorem implWay (n : Int) (v : Value) (bs : List Br) (f t : Int) (w : World) (h : RdB w v bs) (hl : bs.length ≤ 1048576) :
    Calls Try.prog 8 #[.agg #[.int .i64 n, v], .int .i64 f, .int .i64 t] w fun e w' => ∃ u, e = .returned (.tuple #[u, .bool (bothB n bs f t)]) ∧ Ints w' w.heap.size u (idx (wayZ n bs f t)) ∧ Below w.heap.size w w' := by
  have H := Lib.hid h
  obtain ⟨a, l, c, rfl, tt⟩ := h
  clear tt
  cases hg : bothB n bs f t
  · have Z := Lib.hid (wayZ_no hg)
    have TV := Lib.hid (tollV_no (p := false) hg)
    clear hg
    go_enter Try.func8, Try.ntmps8
    go_wp2_with fail
    refine (implToll n _ bs f t _ (H.out.below (by (repeat (first | exact Below.refl _ _ | (refine Below.alloc ?_ (by first | omega | (simp; try omega)) _) | apply Below.drew | apply below_drewN)))) hl).mono ?_
    rw [TV.out]
    rintro e w1 ⟨rfl, hb⟩
    have HB := Lib.hid (Below.trans (by (repeat (first | exact Below.refl _ _ | (refine Below.alloc ?_ (by first | omega | (simp; try omega)) _) | apply Below.drew | apply below_drewN))) (hb.mono (by simp; try omega)) : Below w.heap.size w w1)
    clear hb
    go_wp2
    go_ret2
    exact ⟨_, rfl, by rw [Z.out]; exact World.ownsRow_nil _ _ _ _, HB.out⟩
  · obtain ⟨m, i, j, rfl, rfl, rfl, hm1, hm7, hl14, hgd, hi, hj, hs⟩ := bothB_in hg
    have Z := Lib.hid (wayZ_yes hg)
    have TV := Lib.hid (tollV_yes (p := false) hg)
    obtain ⟨r, hr⟩ := wayF_least hgd hm7 hi hj hs
    have hpos := (wayF_len hr).2
    have hT0 : 0 ≤ gt (tl m bs false j) i ∧ gt (tl m bs false j) i ≤ 7000 := by
      have h1 := (tl_ok hgd false hj).wk i hi ((tl_reach hgd hm7 false hj hi).2 hs)
      obtain ⟨T, hT⟩ := Wk.of_grp hgd (p := false) hj hi hs
      have h2 := tl_small hgd false hj hi hT
      exact ⟨h1.pos hgd, by omega⟩
    have HGd := Lib.hid hgd
    have HR := Lib.hid hr
    clear hg hgd hs hr
    generalize gt (tl m bs false j) i = T at *
    go_enter Try.func8, Try.ntmps8
    go_wp2_with fail
    refine (implToll _ _ bs _ _ _ (H.out.below (by (repeat (first | exact Below.refl _ _ | (refine Below.alloc ?_ (by first | omega | (simp; try omega)) _) | apply Below.drew | apply below_drewN)))) hl).mono ?_
    rw [TV.out]
    rintro e w1 ⟨rfl, hb⟩
    have HB := Lib.hid (Below.trans (by (repeat (first | exact Below.refl _ _ | (refine Below.alloc ?_ (by first | omega | (simp; try omega)) _) | apply Below.drew | apply below_drewN))) (hb.mono (by simp; try omega)) : Below w.heap.size w w1)
    have XB := Lib.hid ((Blk.new w #[.int .i64 m, .slice a l c] 31).below hb (by simp))
    obtain ⟨c0, c1, l0⟩ := XB.out.two
    have hsz := HB.out.size
    clear hb
    go_wp2_with fail
    refine (firstWayOn m _ bs j w1 (H.out.below HB.out) HGd.out hm7 hl14 hj 6 [i] i (.slice (some ⟨w1.heap.size, 0, none⟩) 1 1) T _ (by simp; omega) (by simp) (by simp; omega) (by simp) hT0.1 hT0.2 (by (repeat (first | exact Below.refl _ _ | (refine Below.alloc ?_ (by first | omega | (simp; try omega)) _) | apply Below.drew | apply below_drewN))) (World.ownsRow_lit (base := w1.heap.size) (e := 3) (size := 1) w1 #[.int .i64 i] 1 (Nat.le_refl _) (by unfold maxLen; omega) rfl)).mono ?_
    rw [HR.out]
    rintro e w2 ⟨hb, hg, ap, nn, cc, rfl, hI⟩
    have HI := Lib.hid (ints_mono' hI hsz)
    have HB2 := Lib.hid (HB.out.trans (hb.mono hsz))
    have Z2 := Lib.hid (show wayZ m bs i j = r by rw [Z.out, HR.out]; rfl)
    clear hI hb hg c0 c1 l0
    go_wp2
    go_ret2
    exact ⟨_, rfl, by rw [Z2.out]; exact HI.out, HB2.out⟩
end Go.Proofs.Ytdmgpbhbgeknfab
