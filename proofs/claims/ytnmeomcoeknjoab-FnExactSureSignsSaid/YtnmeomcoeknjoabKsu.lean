/- SureSigns, plain and spec (written by gen_ksu.py). -/
import Derived.Test.YtnmeomcoeknjoabKzd
import Derived.Laws.DeepStrings4
namespace Go.Proofs.Ytnmeomcoeknjoab
set_option linter.unusedVariables false
set_option maxRecDepth 100000
open Go.RowKit

def gb8 (s : ByteArray) (i : Nat) : UInt8 := s.data.toList.getD i 0
/-- the sign at a place that the first rivers have, or ? -/
def suR (l : List ByteArray) (i : Nat) : Nat → UInt8
  | 0 => gb8 (gs l 0) i
  | j + 1 => if suR l i j = gb8 (gs l (j + 1)) i then suR l i j else 63
theorem suR_same {l : List ByteArray} {i k : Nat} (h : ∀ j, j ≤ k → gb8 (gs l j) i = gb8 (gs l 0) i) : suR l i k = gb8 (gs l 0) i := by
  induction k with
  | zero => rfl
  | succ k ih =>
    have e := ih (fun j hj => h j (by omega))
    rw [suR, e, h (k + 1) (Nat.le_refl _), if_pos rfl]
theorem suR_63 {l : List ByteArray} {i j : Nat} (h : suR l i j = 63) : ∀ d, (∀ q, q ≤ j + d → gb8 (gs l q) i ≠ 63) → suR l i (j + d) = 63
  | 0, _ => h
  | d + 1, hn => by
    have e := suR_63 h d (fun q hq => hn q (by omega))
    show (if suR l i (j + d) = gb8 (gs l (j + d + 1)) i then suR l i (j + d) else 63) = 63
    rw [e, if_neg (fun x => hn (j + d + 1) (by omega) x.symm)]
theorem suR_diff {l : List ByteArray} {i k j : Nat} (hj : j ≤ k) (h : ∀ q, q < j → gb8 (gs l q) i = gb8 (gs l 0) i) (hd : gb8 (gs l j) i ≠ gb8 (gs l 0) i) (hn : ∀ q, q ≤ k → gb8 (gs l q) i ≠ 63) : suR l i k = 63 := by
  obtain ⟨d, rfl⟩ : ∃ d, k = j + d := ⟨k - j, by omega⟩
  refine suR_63 ?_ d hn
  cases j with
  | zero => exact absurd rfl hd
  | succ j =>
    have e := suR_same (l := l) (i := i) (k := j) (fun q hq => h q (by omega))
    show (if suR l i j = gb8 (gs l (j + 1)) i then suR l i j else 63) = 63
    rw [e, if_neg (fun x => hd x.symm)]
def suL (l : List ByteArray) (k i : Nat) : List UInt8 := (List.range i).map fun q => suR l q k
theorem suL_len (l : List ByteArray) (k i : Nat) : (suL l k i).length = i := by simp [suL]
theorem suL_succ (l : List ByteArray) (k i : Nat) : suL l k (i + 1) = suL l k i ++ [suR l i k] := by simp [suL, List.range_succ]
def ssV (m : Int) (cs : List Br) : Value := if 0 < (solL m cs).length then .tuple #[.string ⟨(suL (solL m cs) ((solL m cs).length - 1) m.toNat).toArray⟩, .bool true] else .tuple #[.string ⟨#[]⟩, .bool false]
theorem ssV_no {m : Int} {cs : List Br} (h : isPz m cs = false) : ssV m cs = .tuple #[.string ⟨#[]⟩, .bool false] := by simp [ssV, solL, h]
theorem ssV_0 {n : Nat} {cs : List Br} (h : isPz (n : Int) cs = true) (h0 : (sols n cs).length = 0) : ssV (n : Int) cs = .tuple #[.string ⟨#[]⟩, .bool false] := by
  unfold ssV; rw [solL_yes h, if_neg (by omega)]
theorem ssV_1 {n : Nat} {cs : List Br} (h : isPz (n : Int) cs = true) (h0 : 0 < (sols n cs).length) : ssV (n : Int) cs = .tuple #[.string ⟨(suL (sols n cs) ((sols n cs).length - 1) n).toArray⟩, .bool true] := by
  unfold ssV; rw [solL_yes h, if_pos h0]; rfl
theorem ssV_form (m : Int) (cs : List Br) : ∃ x y, ssV m cs = .tuple #[.string x, .bool y] := by unfold ssV; split <;> exact ⟨_, _, rfl⟩
theorem gs_mem {l : List ByteArray} {j : Nat} (h : j < l.length) : gs l j ∈ l := by
  unfold gs; rw [List.getD_eq_getElem?_getD, List.getElem?_eq_getElem h]; exact List.getElem_mem h
theorem sols_63 {n : Nat} {cs : List Br} {s : ByteArray} (h : s ∈ sols n cs) {i : Nat} (hi : i < n) : gb8 s i ≠ 63 := by
  simp only [sols, solN, List.mem_filter, List.mem_map] at h
  obtain ⟨⟨k, _, rfl⟩, _⟩ := h
  unfold gb8
  rw [List.getD_eq_getElem?_getD]
  show ((rvL n k)[i]?).getD 0 ≠ 63
  rw [rvL_at hi]
  unfold sgB
  split <;> decide
theorem ext1 {s : ByteArray} {i : Nat} (h : i < s.size) : s.extract i (i + 1) = ⟨#[gb8 s i]⟩ := by
  have e : i < s.data.toList.length := by simpa using h
  apply ByteArray.ext
  apply Array.toList_inj.1
  rw [ByteArray.data_extract, Array.toList_extract, List.extract_eq_take_drop, show i + 1 - i = 1 from by omega, List.drop_eq_getElem_cons e]
  unfold gb8
  rw [List.getD_eq_getElem?_getD, List.getElem?_eq_getElem e]
  rfl
theorem lst_size {o : ByteArray} {l : List UInt8} (h : o.data.toList = l) : o.size = l.length := by
  subst h; simp
theorem lst_snoc {o : ByteArray} {l : List UInt8} (c : UInt8) (h : o.data.toList = l) : (o ++ ⟨#[c]⟩).data.toList = l ++ [c] := by
  rw [ByteArray.data_append, Array.toList_append, h]
theorem lst_end {o : ByteArray} {l : List UInt8} (h : o.data.toList = l) : o = ⟨l.toArray⟩ := by
  apply ByteArray.ext
  apply Array.toList_inj.1
  rw [h]
theorem Strg.cells_ {w : World} {B : Nat} {a : Option Addr} {k c : Nat} {l : List ByteArray} (h : Strg w B (.slice a k c) l) (h0 : 0 < l.length) : ∃ g, a = some ⟨g, 0, none⟩ ∧ k = l.length ∧ l.length ≤ c ∧ ∀ j, j < l.length → w.cell? ⟨g, j, none⟩ = some (.string (gs l j)) := by
  obtain ⟨g, n, cap, e, hn, hc, _, _, _, hh⟩ := h.form h0
  injection e with e1 e2 e3
  subst e1 e2 e3
  exact ⟨g, rfl, hn, by omega, fun j hj => hh j (by omega)⟩
set_option maxHeartbeats 4000000 in
theorem specSure (m : Int) (v : Value) (cs : List Br) (w : World) (h : RdB w v cs) (hl : cs.length ≤ 1048576) :
    Calls Try.prog 26 #[.agg #[.int .i64 m, v]] w fun e w' => e = .returned (ssV m cs) ∧ Below w.heap.size w w' := by
  have HR := Lib.hid h
  obtain ⟨a, N, c, rfl, hN, _, _, hcell⟩ := h
  clear hN hcell
  cases hp : isPz m cs
  · have G := Lib.hid hp
    rw [ssV_no hp]
    clear hp
    go_enter Try.func26, Try.ntmps26
    go_wp2_with (go_at_call 40; refine (pzGood m _ cs _ (HR.out.below (by (repeat (first | exact Below.refl _ _ | (refine Below.alloc ?_ (by first | omega | (simp; try omega)) _) | apply Below.drew | apply below_drewN))))).mono ?_; rw [G.out]; rintro e w1 ⟨rfl, hb⟩)
    go_ret2
    exact ⟨rfl, Below.trans (by (repeat (first | exact Below.refl _ _ | (refine Below.alloc ?_ (by first | omega | (simp; try omega)) _) | apply Below.drew | apply below_drewN))) (hb.mono (by simp; try omega))⟩
  · obtain ⟨n, rfl, hn, h6, hc⟩ := isPz_nat hp
    have G := Lib.hid hp
    have C := Lib.hid (fun wx hr => pzAll n (.slice a N c) cs wx hr hn (by omega) hc)
    have hlen := sols_len cs hn.2
    by_cases h0 : 0 < (sols n cs).length
    · rw [ssV_1 hp h0]
      have HSZ := Lib.hid (show ∀ j, j < (sols n cs).length → (gs (sols n cs) j).size = n from fun j hj => sols_mem (gs_mem hj))
      have HNQ := Lib.hid (show ∀ j, j < (sols n cs).length → ∀ i, i < n → gb8 (gs (sols n cs) j) i ≠ 63 from fun j hj i hi => sols_63 (gs_mem hj) hi)
      clear hp hc h6
      generalize sols n cs = l at *
      go_enter Try.func26, Try.ntmps26
      go_wp2_with fail
      refine (pzGood (n : Int) _ cs _ (HR.out.below (by (repeat (first | exact Below.refl _ _ | (refine Below.alloc ?_ (by first | omega | (simp; try omega)) _) | apply Below.drew | apply below_drewN))))).mono ?_
      rw [G.out]
      rintro e w1 ⟨rfl, hb⟩
      have HX := Lib.hid ((Blk.new w #[.int .i64 (n : Int), .slice a N c] 38).below hb (by simp))
      have HB := Lib.hid (Below.trans (by (repeat (first | exact Below.refl _ _ | (refine Below.alloc ?_ (by first | omega | (simp; try omega)) _) | apply Below.drew | apply below_drewN))) (hb.mono (by simp; try omega)) : Below w.heap.size w w1)
      obtain ⟨x0, x1, xl⟩ := HX.out.two
      have hle := HB.out.size
      clear hb
      go_wp2_with fail
      refine (C.out _ (HR.out.below HB.out)).mono ?_
      rintro e w2 ⟨u, rfl, hI, hb2⟩
      have HI := Lib.hid hI
      have HB2 := Lib.hid (HB.out.trans (hb2.mono hle))
      have HX2 := Lib.hid (HX.out.below hb2 HX.out.lt)
      obtain ⟨ua, uc, rfl⟩ := hI.len_
      clear hI hb2 x0 x1 xl
      obtain ⟨x0, x1, xl⟩ := HX2.out.two
      obtain ⟨g, rfl, _, huc, hcells⟩ := HI.out.cells_ h0
      have HCL := Lib.hid hcells
      clear hcells
      have h0' : ¬ (l.length : Int) = 0 := by omega
      have h0'' : (0 : Int) < l.length := by omega
      go_wp2
      go_loopw [5, 6] (fun o i wr => ∃ (k : Nat) (b : ByteArray), k ≤ n ∧ i = .int .i64 (k : Int) ∧ o = .string b ∧ Hid (b.data.toList = suL l (l.length - 1) k) ∧ wr = w2) (fun _ i _ => n - (intOf i).toNat)
      case atStart => exact ⟨0, ⟨#[]⟩, Nat.zero_le _, rfl, rfl, Lib.hid rfl, rfl⟩
      case round =>
        obtain ⟨k, b, hk, rfl, rfl, HO, rfl⟩ := hrel
        have hsz := lst_size HO.out
        rw [suL_len] at hsz
        have b1 : b.size + 1 ≤ 100 := by omega
        by_cases hlt : k < n
        · have hlt' : (k : Int) < n := by omega
          have hc0 := HCL.out 0 h0
          have hz0 := HSZ.out 0 h0
          have HSI := Lib.hid (show ∀ c, suR l k (l.length - 1) = c → (b ++ ⟨#[c]⟩).data.toList = suL l (l.length - 1) (k + 1) from fun c hc => by rw [lst_snoc c HO.out, suL_succ, hc])
          obtain ⟨c0, hc0e⟩ : ∃ c0, c0 = gb8 (gs l 0) k := ⟨_, rfl⟩
          have HC0 := Lib.hid hc0e
          have he0 := ext1 (s := gs l 0) (i := k) (by omega)
          rw [← hc0e] at he0
          clear hc0e hsz
          generalize hr0 : gs l 0 = r0 at *
          have HR0 := Lib.hid hr0
          clear hr0
          have hk1 : (k : Int) + 1 ≤ r0.size := by omega
          go_wp2
          go_loopw [7, 36] (fun s j wq => ∃ q : Nat, q ≤ l.length ∧ j = .int .i64 (q : Int) ∧ s = .string ⟨#[c0]⟩ ∧ Hid (∀ p, p < q → gb8 (gs l p) k = c0) ∧ wq = wr) (fun _ j _ => l.length - (intOf j).toNat)
          case atStart => exact ⟨0, Nat.zero_le _, rfl, by first | rw [he0] | simp, Lib.hid (fun p hp => by omega), rfl⟩
          case round =>
            obtain ⟨q, hq, rfl, rfl, HQ, rfl⟩ := hrel
            by_cases hlq : q < l.length
            · have hlq' : (q : Int) < l.length := by omega
              have hcq := HCL.out q hlq
              have hzq := HSZ.out q hlq
              have heq := ext1 (s := gs l q) (i := k) (by omega)
              by_cases hd : gb8 (gs l q) k = c0
              · have HQ2 := Lib.hid (show ∀ p, p < q + 1 → gb8 (gs l p) k = c0 from fun p hp => by
                  by_cases e : p = q
                  · rw [e]; exact hd
                  · exact HQ.out p (by omega))
                rw [hd] at heq
                clear hd
                generalize gs l q = rq at *
                have hk2 : (k : Int) + 1 ≤ rq.size := by omega
                go_wp2
                go_roundw
                case rel => exact ⟨q + 1, by omega, by go_num, rfl, HQ2, trivial⟩
                case measure => (simp [intOf]; try omega)
              · have HS63 := Lib.hid (HSI.out 63 (suR_diff (j := q) (by omega) (fun p hp => by rw [HQ.out p hp, HC0.out, HR0.out]) (by rw [HR0.out, ← HC0.out]; exact hd) (fun p hp => HNQ.out p (by omega) k hlt)))
                have hdb : (gb8 (gs l q) k == c0) = false := by simp [hd]
                clear hd
                generalize gb8 (gs l q) k = cq at *
                generalize gs l q = rq at *
                have hk2 : (k : Int) + 1 ≤ rq.size := by omega
                go_wp2
                go_roundw
                case rel => exact ⟨k + 1, _, by omega, by go_num, rfl, HS63, trivial⟩
                case measure => (simp [intOf]; try omega)
            · obtain rfl : q = l.length := by omega
              have HSX := Lib.hid (HSI.out c0 (by rw [suR_same (fun j hj => by rw [HQ.out j (by omega), HC0.out, HR0.out]), HR0.out, HC0.out]))
              go_wp2
              go_roundw
              case rel => exact ⟨k + 1, _, by omega, by go_num, rfl, HSX, trivial⟩
              case measure => (simp [intOf]; try omega)
        · obtain rfl : k = n := by omega
          have J := Lib.hid (lst_end HO.out)
          clear hsz
          go_wp2
          go_ret2
          exact ⟨by rw [← J.out]; rfl, HB2.out⟩
    · rw [ssV_0 hp (by omega)]
      have hz : (sols n cs).length = 0 := by omega
      clear hp hc h6
      generalize sols n cs = l at *
      go_enter Try.func26, Try.ntmps26
      go_wp2_with fail
      refine (pzGood (n : Int) _ cs _ (HR.out.below (by (repeat (first | exact Below.refl _ _ | (refine Below.alloc ?_ (by first | omega | (simp; try omega)) _) | apply Below.drew | apply below_drewN))))).mono ?_
      rw [G.out]
      rintro e w1 ⟨rfl, hb⟩
      have HX := Lib.hid ((Blk.new w #[.int .i64 (n : Int), .slice a N c] 38).below hb (by simp))
      have HB := Lib.hid (Below.trans (by (repeat (first | exact Below.refl _ _ | (refine Below.alloc ?_ (by first | omega | (simp; try omega)) _) | apply Below.drew | apply below_drewN))) (hb.mono (by simp; try omega)) : Below w.heap.size w w1)
      obtain ⟨x0, x1, xl⟩ := HX.out.two
      have hle := HB.out.size
      clear hb
      go_wp2_with fail
      refine (C.out _ (HR.out.below HB.out)).mono ?_
      rintro e w2 ⟨u, rfl, hI, hb2⟩
      have HI := Lib.hid hI
      have HB2 := Lib.hid (HB.out.trans (hb2.mono hle))
      have HX2 := Lib.hid (HX.out.below hb2 HX.out.lt)
      obtain ⟨ua, uc, rfl⟩ := hI.len_
      clear hI hb2 x0 x1 xl
      obtain ⟨x0, x1, xl⟩ := HX2.out.two
      have HZ := Lib.hid hz
      rw [hz]
      clear hz h0 HI
      go_wp2
      go_ret2
      exact ⟨rfl, HB2.out⟩
end Go.Proofs.Ytnmeomcoeknjoab
