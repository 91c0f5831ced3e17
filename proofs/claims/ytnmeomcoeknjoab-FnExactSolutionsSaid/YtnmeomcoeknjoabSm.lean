/- Slices of strings that are read; laws.markText, eqStringS, markStringS, heldStringS; append(s, x...) at strings. -/
import Derived.Test.YtnmeomcoeknjoabSg
import Derived.Lib.ItoaNum
import Derived.Laws.Concat
import Derived.Laws.AppendOwnNone
import Derived.Deep.RegionWith
namespace Go.Proofs.Ytnmeomcoeknjoab
set_option linter.unusedVariables false
open Go.RowKit

def bs (l : List UInt8) : ByteArray := ⟨l.toArray⟩
theorem bs_app (x y : List UInt8) : bs x ++ bs y = bs (x ++ y) := ByteArray.mk_append_mk x y
/-- the digit k -/
def dg (k : Nat) : UInt8 := UInt8.ofNat (48 + k)
theorem bs_size (l : List UInt8) : (bs l).size = l.length := by simp [bs, ByteArray.size]
theorem dig_step {n : Nat} (h : ¬ n < 10) : Lib.decDigits n = Lib.decDigits (n / 10) ++ [dg (n % 10)] := by rw [Lib.decDigits, dif_neg h]; rfl
theorem dig_len10 {n : Nat} (h : n ≤ 1000000000) : (Lib.decDigits n).length ≤ 11 := by
  rw [Lib.decDigits_length]
  have a1 : ∀ u, u < 10 → Lib.nDigits u ≤ 1 := fun u h => by rw [Lib.nDigits_small h]; exact Nat.le_refl _
  have st : ∀ (k b : Nat), (∀ u, u < b → Lib.nDigits u ≤ k) → ∀ u, u < 10 * b → Lib.nDigits u ≤ k + 1 := by
    intro k b hk u hu
    rw [Lib.nDigits]
    split
    · omega
    · have := hk (u / 10) (by omega); omega
  exact st 10 10000000000 (st 9 1000000000 (st 8 100000000 (st 7 10000000 (st 6 1000000 (st 5 100000 (st 4 10000 (st 3 1000 (st 2 100 (st 1 10 a1))))))))) n (by omega)
theorem oneByte (w : World) (b x k : Nat) (hk : k < 256) (h : w.cell? ⟨b, 0, none⟩ = some (.int .u8 (k : Int))) :
    (convert 71 9 (.slice (some ⟨b, 0, none⟩) 1 x)).run Try.prog w = .ok (.string (bs [UInt8.ofNat k])) w := by
  refine run_convert_bytes_back (P := Try.prog) w 71 9 5 ⟨b, 0, none⟩ x [UInt8.ofNat k] Try.underlying71 Try.underlying5 Try.underlying9 fun j hj => ?_
  obtain rfl : j = 0 := by simpa using hj
  have e : ((UInt8.ofNat k).toNat : Int) = (k : Int) := by
    have : (UInt8.ofNat k).toNat = k := by simp; omega
    rw [this]
  show w.cell? ⟨b, (0 + (0 : Nat) : Int).toNat, none⟩ = _
  rw [show (0 + (0 : Nat) : Int).toNat = 0 from rfl, h]
  simp
  omega
/-- the mark of the number k -/
def mk (k : Nat) : ByteArray := bs (109 :: Lib.decDigits k)
set_option maxHeartbeats 1000000 in
theorem markText (K : Nat) (w : World) (h0 : 0 < K) (h1 : K ≤ 1000000000) :
    Calls Try.prog 49 #[.int .i64 (K : Int)] w fun e w' => e = .returned (.string (mk K)) ∧ Below w.heap.size w w' := by
  have hK : ¬ (K : Int) ≤ 0 := by omega
  have hd13 := dig_len10 h1
  have HLEN := Lib.hid (show ∀ (k : Nat) (l : List UInt8), (if k = 0 then l = Lib.decDigits K else Lib.decDigits k ++ l = Lib.decDigits K) → l.length ≤ 1000 from fun k l h => by
    split at h
    · subst h; omega
    · have := congrArg List.length h
      rw [List.length_append] at this
      omega)
  clear hd13
  go_enter Try.func49, Try.ntmps49
  go_wp2
  go_loopw [0, 3] (fun q o wr => ∃ (k : Nat) (l : List UInt8), q = .int .i64 k ∧ o = .string (bs l) ∧ k ≤ K ∧ Hid (if k = 0 then l = Lib.decDigits K else Lib.decDigits k ++ l = Lib.decDigits K) ∧ Hid (Below w.heap.size w wr)) (fun q _ _ => (intOf q).toNat)
  case atStart => exact ⟨K, [], rfl, rfl, Nat.le_refl _, Lib.hid (by rw [if_neg (by omega), List.append_nil]), Lib.hid (Below.refl _ _)⟩
  case round =>
    obtain ⟨k, l, rfl, rfl, hk, HD, hB⟩ := hrel
    have hl : l.length ≤ 1000 := HLEN.out k l HD.out
    by_cases hk0 : k = 0
    · subst hk0
      have D := Lib.hid (show l = Lib.decDigits K by have := HD.out; rwa [if_pos rfl] at this)
      have hs1 := bs_size l
      clear HD
      go_wp2
      go_ret
      exact ⟨ret_w (by unfold mk; rw [← D.out]; show Value.string (bs [109] ++ bs l) = _; rw [bs_app]; rfl), hB.out⟩
    · obtain ⟨q, hq⟩ : ∃ q : Int, q = (k : Int) := ⟨_, rfl⟩
      have hki : 0 < q := by omega
      have hr : 0 ≤ q % 10 ∧ q % 10 < 10 := by omega
      have hc : (convert 71 9 (.slice (some ⟨wr.heap.size, 0, none⟩) 1 1)).run Try.prog (wr.alloc (.cells #[.int .u8 (48 + q % 10)] 5)) = .ok (.string (bs [dg (k % 10)])) (wr.alloc (.cells #[.int .u8 (48 + q % 10)] 5)) := by
        rw [show 48 + q % 10 = ((48 + k % 10 : Nat) : Int) by omega]
        exact oneByte _ _ 1 (48 + k % 10) (by omega) (by simp)
      have hs1 := bs_size l
      have hs2 := bs_size [dg (k % 10)]
      have HA := Lib.hid (bs_app [dg (k % 10)] l)
      have D := Lib.hid (show if k / 10 = 0 then dg (k % 10) :: l = Lib.decDigits K else Lib.decDigits (k / 10) ++ (dg (k % 10) :: l) = Lib.decDigits K by
        have h := HD.out
        rw [if_neg hk0] at h
        by_cases h10 : k < 10
        · rw [if_pos (by omega), ← h, Lib.decDigits_one h10, show k % 10 = k by omega]; rfl
        · rw [if_neg (by omega), ← h, dig_step h10]; simp)
      have B2 := Lib.hid (hB.out.alloc hB.out.size (.cells #[.int .u8 (48 + q % 10)] 5))
      have HK := Lib.hid (show k / 10 ≤ K ∧ k / 10 < k ∧ q / 10 = ((k / 10 : Nat) : Int) ∧ q.toNat = k by omega)
      have hq9 : q ≤ 1000000000 := by omega
      rw [← hq]
      generalize dg (k % 10) = d at *
      clear HD hB hK h0 h1 hk hk0 hq
      go_wp2
      go_roundw
      case rel => exact ⟨k / 10, d :: l, by rw [HK.out.2.2.1], by rw [HA.out]; rfl, HK.out.1, D, B2⟩
      case measure => (have := HK.out; simp [intOf]; try omega)

/-- the slice v of strings reads as l -/
def RdS (w : World) (v : Value) (l : List ByteArray) : Prop :=
  ((∃ a c, v = .slice a 0 c) ∧ l = []) ∨
  ∃ b off cap, v = .slice (some ⟨b, off, none⟩) l.length cap ∧ b < w.heap.size ∧ l.length ≤ cap ∧ cap ≤ maxLen ∧ ∀ j, j < l.length → w.cell? ⟨b, off + j, none⟩ = some (.string (gs l j))
theorem Strg.rd {w : World} {B : Nat} {v : Value} {l : List ByteArray} (h : Strg w B v l) : RdS w v l := by
  by_cases h0 : l.length = 0
  · refine .inl ⟨?_, List.length_eq_zero_iff.1 h0⟩
    rcases h.2 with ⟨rfl, _⟩ | ⟨g, cap, cur, rfl, _⟩
    · exact ⟨_, _, rfl⟩
    · rw [h0]; exact ⟨_, _, rfl⟩
  · obtain ⟨g, n, cap, rfl, rfl, hnc, hcm, hB, hg, hc⟩ := h.form (by omega)
    exact .inr ⟨g, 0, cap, rfl, hg, hnc, hcm, fun j hj => by rw [Nat.zero_add]; exact hc j hj⟩
theorem RdS.below {w w' : World} {v : Value} {l : List ByteArray} (h : RdS w v l) (hb : Below w.heap.size w w') : RdS w' v l := by
  rcases h with h | ⟨b, off, cap, e, hlt, hc, hm, hh⟩
  · exact .inl h
  · exact .inr ⟨b, off, cap, e, Nat.lt_of_lt_of_le hlt hb.size, hc, hm, fun j hj => (hb.cell (p := ⟨b, off + j, none⟩) hlt).trans (hh j hj)⟩
theorem RdS.grown {w w' : World} {v : Value} {l : List ByteArray} {B : Nat} {r : Option Nat} (h : RdS w v l) (hlt : ∀ b, v.ownBlock = some b → b < B) (hg : w.grownBy w' r) (hr : ∀ b, r = some b → B ≤ b) : RdS w' v l := by
  rcases h with h | ⟨b, off, cap, rfl, hlt', hc, hm, hh⟩
  · exact .inl h
  · refine .inr ⟨b, off, cap, rfl, Nat.lt_of_lt_of_le hlt' hg.size, hc, hm, fun j hj => ?_⟩
    refine (World.cell?_of_block (w := w) (a := ⟨b, off + j, none⟩) (hg.block b hlt' ?_)).trans (hh j hj)
    intro e
    have h1 := hlt b rfl
    have h2 := hr b e.symm
    omega
theorem RdS.part {w : World} {B g n cap : Nat} {l : List ByteArray} (h : Strg w B (.slice (some ⟨g, 0, none⟩) n cap) l) (hn : n = l.length) (hp : 0 < l.length) (lo m c' : Nat) (hlo : lo + m ≤ n) (hc1 : m ≤ c') (hc2 : c' ≤ maxLen) :
    RdS w (.slice (some ⟨g, lo, none⟩) m c') ((l.drop lo).take m) := by
  have hl : ((l.drop lo).take m).length = m := by simp; omega
  obtain ⟨g', n', cap', e, _, _, _, _, hg, hc⟩ := h.form hp
  have e1 : g' = g := by injection e with e1 _ _; injection e1 with e1; injection e1 with e1 _; exact e1.symm
  have e2 : n' = n := by injection e with _ e2 _; exact e2.symm
  subst e1 e2
  refine .inr ⟨g', lo, c', by rw [hl], hg, by rw [hl]; exact hc1, hc2, fun j hj => ?_⟩
  rw [hl] at hj
  rw [hc (lo + j) (by omega)]
  simp only [gs, List.getD_eq_getElem?_getD, List.getElem?_take, List.getElem?_drop, if_pos hj]

set_option maxHeartbeats 400000 in
/-- two slices that read alike are told equal -/
theorem eqStrS_same (v1 v2 : Value) (zs : List ByteArray) (w : World) (h1 : RdS w v1 zs) (h2 : RdS w v2 zs) (hn : zs.length ≤ 16777216) :
    Calls Try.prog 17 #[v1, v2] w fun e w' => e = .returned (.bool true) ∧ Below w.heap.size w w' := by
  by_cases h0 : zs.length = 0
  · obtain ⟨a1, c1, rfl⟩ : ∃ a c, v1 = .slice a 0 c := by
      rcases h1 with ⟨⟨a, c, rfl⟩, _⟩ | ⟨b, off, cap, rfl, _⟩
      · exact ⟨_, _, rfl⟩
      · rw [h0]; exact ⟨_, _, rfl⟩
    obtain ⟨a2, c2, rfl⟩ : ∃ a c, v2 = .slice a 0 c := by
      rcases h2 with ⟨⟨a, c, rfl⟩, _⟩ | ⟨b, off, cap, rfl, _⟩
      · exact ⟨_, _, rfl⟩
      · rw [h0]; exact ⟨_, _, rfl⟩
    clear h1 h2 h0
    go_enter Try.func17, Try.ntmps17
    go_wp2
    go_loopw [5] (fun i wr => i = .int .i64 0 ∧ wr = w) (fun _ _ => 0)
    case atStart => exact ⟨rfl, rfl⟩
    case round =>
      obtain ⟨rfl, rfl⟩ := hrel
      go_wp2
      go_ret
      exact ⟨rfl, Below.refl _ _⟩
  · rcases h1 with ⟨_, rfl⟩ | ⟨b1, o1, c1, rfl, hb1, hc1, hm1, hh1⟩
    · exact absurd rfl h0
    rcases h2 with ⟨_, rfl⟩ | ⟨b2, o2, c2, rfl, hb2, hc2, hm2, hh2⟩
    · exact absurd rfl h0
    obtain ⟨n, hnz⟩ : ∃ n, n = zs.length := ⟨_, rfl⟩
    rw [← hnz] at hn h0 hh1 hh2 ⊢
    clear hnz hc1 hm1 hc2 hm2
    have HH1 := Lib.hid hh1
    have HH2 := Lib.hid hh2
    clear hh1 hh2
    go_enter Try.func17, Try.ntmps17
    go_wp2
    go_loopw [5] (fun i wr => ∃ k : Nat, k ≤ n ∧ i = .int .i64 k ∧ Below w.heap.size w wr) (fun i _ => n - (intOf i).toNat)
    case atStart => exact ⟨0, Nat.zero_le _, rfl, Below.refl _ _⟩
    case round =>
      obtain ⟨k, hk, rfl, hbel⟩ := hrel
      by_cases hlt : k < n
      · have g1 : wr.cell? ⟨b1, o1 + k, none⟩ = some (.string (gs zs k)) := (hbel.cell (p := ⟨b1, o1 + k, none⟩) hb1).trans (HH1.out k hlt)
        have g2 : wr.cell? ⟨b2, o2 + k, none⟩ = some (.string (gs zs k)) := (hbel.cell (p := ⟨b2, o2 + k, none⟩) hb2).trans (HH2.out k hlt)
        have hlt' : (k : Int) < n := by omega
        go_wp2
        go_quiet (fail)
        go_wp2
        go_roundw
        case rel => exact ⟨k + 1, by omega, by go_num, below_drewN hbel _⟩
        case measure => simp [intOf]; omega
      · go_wp2
        go_ret
        exact ⟨rfl, hbel⟩
/-- the marks from k on -/
def mks (k n : Nat) : List ByteArray := (List.range n).map fun j => mk (k + j)
theorem mks_len (k n : Nat) : (mks k n).length = n := by simp [mks]
theorem mks_at {k n j : Nat} (h : j < n) : gs (mks k n) j = mk (k + j) := by simp [gs, mks, h]
theorem mks_s (k n : Nat) : mks k (n + 1) = mks k n ++ [mk (k + n)] := by simp [mks, List.range_succ]
theorem mks_set (zs : List ByteArray) (k j : Nat) (h : j < zs.length) : (strs (mks k j ++ zs.drop j)).set j (.string (mk (k + j))) = strs (mks k (j + 1) ++ zs.drop (j + 1)) := by
  rw [mks_s, List.drop_eq_getElem_cons h]
  simp only [strs, List.map_append, List.map_cons, List.append_assoc]
  rw [List.set_append_right _ _ (by simp [mks])]
  simp [mks]
set_option maxHeartbeats 1000000 in
theorem markStrS (v : Value) (zs : List ByteArray) (B : Nat) (w : World) (h : Strg w B v zs) (hn : zs.length ≤ 16777216) (hB : B ≤ w.heap.size) (k : Nat) (h0 : 1 ≤ k) (h1 : k ≤ 100000000) :
    Calls Try.prog 20 #[v, .int .i64 (k : Int)] w fun e w' => e = .returned (.int .i64 ((k + zs.length : Nat) : Int)) ∧ Strg w' B v (mks k zs.length) ∧ Below B w w' ∧ (∀ c, v.ownBlock ≠ some c → c < w.heap.size → w'.heap[c]? = w.heap[c]?) := by
  by_cases hz : zs.length = 0
  · have hz0 : zs = [] := List.length_eq_zero_iff.1 hz
    subst hz0
    obtain ⟨a, c, rfl⟩ : ∃ a c, v = .slice a 0 c := by
      rcases h.2 with ⟨rfl, _⟩ | ⟨g, cap, cur, rfl, _⟩
      · exact ⟨_, _, rfl⟩
      · exact ⟨_, _, rfl⟩
    have H := Lib.hid h
    clear h hz
    go_enter Try.func20, Try.ntmps20
    go_wp2
    go_loopw [1, 5] (fun q i wr => i = .int .i64 0 ∧ q = .int .i64 (k : Int) ∧ wr = w) (fun _ _ _ => 0)
    case atStart => exact ⟨rfl, rfl, rfl⟩
    case round =>
      obtain ⟨rfl, rfl, rfl⟩ := hrel
      go_wp2
      go_ret
      exact ⟨by simp, H.out, Below.refl _ _, fun _ _ _ => rfl⟩
  · obtain ⟨g, n, cap, rfl, hnz, hnc, hcm, hBg, hg, hcc⟩ := h.form (by omega)
    unfold maxLen at hcm
    have HN := Lib.hid hnz
    rw [← hnz] at hn ⊢
    have hst : (w.ownsRow B 9 1 (.slice (some ⟨g, 0, none⟩) n cap) n (strs (mks k 0 ++ zs.drop 0))) := by
      have h' := h
      unfold Strg at h'
      rw [← hnz] at h'
      exact h'
    have HS := Lib.hid hst
    clear hst h hcc hnz hz
    go_enter Try.func20, Try.ntmps20
    go_wp2
    go_loopw [1, 5] (fun q i wr => ∃ j : Nat, j ≤ n ∧ i = .int .i64 j ∧ q = .int .i64 ((k : Int) + j) ∧ Hid (wr.ownsRow B 9 1 (.slice (some ⟨g, 0, none⟩) n cap) n (strs (mks k j ++ zs.drop j))) ∧ Hid (Below B w wr) ∧ Hid (∀ c, some g ≠ some c → c < w.heap.size → wr.heap[c]? = w.heap[c]?)) (fun _ i _ => n - (intOf i).toNat)
    case atStart => exact ⟨0, Nat.zero_le _, rfl, by simp, HS, Lib.hid (Below.refl _ _), Lib.hid (fun _ _ _ => rfl)⟩
    case round =>
      obtain ⟨j, hj, rfl, rfl, hown, hgr, hk⟩ := hrel
      have hle := hgr.out.size
      by_cases hlt : j < n
      · have hlt' : (j : Int) < n := by omega
        have M := Lib.hid (fun W => markText (k + j) W (by omega) (by omega))
        have hfit : (k : Int) + j = ((k + j : Nat) : Int) := by omega
        have HF := Lib.hid hfit
        have MS := Lib.hid (mks_set zs k j (by have := HN.out; omega))
        have hl : j < (strs (mks k j ++ zs.drop j)).length := by simp [strs, mks]; have := HN.out; omega
        have HL := Lib.hid hl
        clear hfit hl
        go_wp2_with (go_at_call 49; rw [HF.out]; refine (M.out _).mono ?_; rintro e w1 ⟨rfl, hb1⟩; have O1 := World.ownsRow.kept hown.out (⟨hb1.os, hb1.tape, hb1.output, hb1.size, fun i hi _ => hb1.block i hi⟩ : wr.grownBy w1 none) (.inr (by intro e2; cases e2)); have hf1 := World.ownsRow.frozenAt O1 j; obtain ⟨x1, hx1⟩ : ∃ x, w1.cell? ⟨g, j, none⟩ = some x := ⟨_, (World.ownsRow.cellAt O1 j (by omega)).trans (List.getElem?_eq_getElem HL.out)⟩; have SS := Lib.hid (World.ownsRow.stored O1 j (.string (mk (k + j)))); have B1 := Lib.hid (((hgr.out.trans (hb1.mono (Nat.le_trans hB hle))).setCell (p := ⟨g, j, none⟩) hBg (.string (mk (k + j))))); have K1 := Lib.hid (show ∀ c, some g ≠ some c → c < w.heap.size → (w1.setCell ⟨g, j, none⟩ (.string (mk (k + j)))).heap[c]? = w.heap[c]? from fun c h1 h2 => ((Below.heap_setCell _ _ _ c (fun e3 => h1 (by rw [e3]))).trans (hb1.block c (Nat.lt_of_lt_of_le h2 hle))).trans (hk.out c h1 h2)); clear O1 hb1)
        go_roundw
        case rel => exact ⟨j + 1, by omega, by go_num, by go_num, by rw [← MS.out]; exact Lib.hid SS.out.1, B1, K1⟩
        case measure => simp [intOf]; omega
      · obtain rfl : j = n := by omega
        go_wp2
        go_ret
        refine ⟨rfl, ?_, hgr.out, fun c h1 h2 => hk.out c h1 h2⟩
        have hd : zs.drop j = [] := List.drop_eq_nil_of_le (by have := HN.out; omega)
        have ho := hown.out
        rw [hd, List.append_nil] at ho
        unfold Strg
        rw [mks_len]
        exact ho
set_option maxRecDepth 20000 in
set_option maxHeartbeats 4000000 in
theorem heldStrS (v : Value) (n : Nat) (w : World) (k : Nat) (h : RdS w v (mks k n)) (hn : n ≤ 16777216) (h0 : 1 ≤ k) (h1 : k ≤ 100000000) :
    Calls Try.prog 21 #[v, .int .i64 (k : Int)] w fun e w' => e = .returned (.int .i64 ((k + n : Nat) : Int)) ∧ Below w.heap.size w w' := by
  rcases h with ⟨⟨a, c, rfl⟩, hz⟩ | ⟨b, off, cap, hv, hb, hc, hm, hh⟩
  · have hz0 : n = 0 := by have := congrArg List.length hz; simpa [mks] using this
    subst hz0
    clear hz
    go_enter Try.func21, Try.ntmps21
    go_wp2
    go_loopw [1, 5] (fun q i wr => i = .int .i64 0 ∧ q = .int .i64 (k : Int) ∧ wr = w) (fun _ _ _ => 0)
    case atStart => exact ⟨rfl, rfl, rfl⟩
    case round =>
      obtain ⟨rfl, rfl, rfl⟩ := hrel
      go_wp2
      go_ret
      exact ⟨by simp, Below.refl _ _⟩
  · rw [mks_len] at hv hh hc
    subst hv
    have hh' : ∀ j, j < n → w.cell? ⟨b, off + j, none⟩ = some (.string (mk (k + j))) := fun j hj => by rw [hh j hj, mks_at hj]
    have HH := Lib.hid hh'
    clear hh hh' hc hm
    go_enter Try.func21, Try.ntmps21
    go_wp2
    go_loopw [1, 5] (fun q i wr => ∃ j : Nat, j ≤ n ∧ i = .int .i64 j ∧ q = .int .i64 ((k : Int) + j) ∧ Hid (Below w.heap.size w wr)) (fun _ i _ => n - (intOf i).toNat)
    case atStart => exact ⟨0, Nat.zero_le _, rfl, by simp, Lib.hid (Below.refl _ _)⟩
    case round =>
      obtain ⟨j, hj, rfl, rfl, hB⟩ := hrel
      have hle := hB.out.size
      by_cases hlt : j < n
      · have g1 : wr.cell? ⟨b, off + j, none⟩ = some (.string (mk (k + j))) := (hB.out.cell (p := ⟨b, off + j, none⟩) hb).trans (HH.out j hlt)
        have HB2 := Lib.hid (Nat.lt_of_lt_of_le hb hle)
        have hlt' : (j : Int) < n := by omega
        have hfit : (k : Int) + j = ((k + j : Nat) : Int) := by omega
        have HF := Lib.hid (fun W => (show Calls Try.prog 49 #[.int .i64 ((k : Int) + j)] W fun e w' => e = .returned (.string (mk (k + j))) ∧ Below W.heap.size W w' by rw [hfit]; exact markText (k + j) W (by omega) (by omega)))
        clear hfit
        generalize mk (k + j) = m at *
        go_wp2
        go_region_with (go_at_call 49; refine (HF.out _).mono ?_; rintro e w1 ⟨rfl, hb1⟩; try (have g2 := (hb1.cell (p := ⟨b, off + j, none⟩) HB2.out).trans g1))
        all_goals
          have B2 := Lib.hid (hB.out.trans ((Below.refl wr.heap.size wr).drew.trans hb1 |>.mono hle))
          clear hb1
          go_wp2
          go_roundw
          case rel => exact ⟨j + 1, by omega, by go_num, by go_num, B2⟩
          case measure => simp [intOf]; omega
      · obtain rfl : j = n := by omega
        go_wp2
        go_ret
        exact ⟨rfl, hB.out⟩
theorem markG {w w' : World} {B : Nat} {v : Value} (hb : Below B w w') (hk : ∀ c, v.ownBlock ≠ some c → c < w.heap.size → w'.heap[c]? = w.heap[c]?) : w.grownBy w' v.ownBlock :=
  ⟨hb.os, hb.tape, hb.output, hb.size, fun i hi h => hk i (fun e => h e.symm) hi⟩
theorem Strg.lt {w : World} {B : Nat} {v : Value} {l : List ByteArray} (h : Strg w B v l) (b : Nat) (e : v.ownBlock = some b) : B ≤ b ∧ b < w.heap.size := World.ownsRow.lt h b e
end Go.Proofs.Ytnmeomcoeknjoab
