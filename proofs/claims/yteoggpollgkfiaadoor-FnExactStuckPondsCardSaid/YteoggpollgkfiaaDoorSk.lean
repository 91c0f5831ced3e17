/- StuckPonds, impl and spec. -/
import Derived.Test.YteoggpollgkfiaaDoorHl
import Derived.Test.YteoggpollgkfiaaDoorPr
import Derived.Test.YteoggpollgkfiaaDoorShelfS
namespace Go.Proofs.YteoggpollgkfiaaDoor
set_option linter.unusedVariables false
open Go.RowKit

theorem sorted_below {w : World} {B g : Nat} (hB : B ≤ g) (hw : B ≤ w.heap.size) (d : Array (List UInt8)) (q : Nat) (os : Array Obj) : Below B w (Go.Sort.grow (Go.Sort.putRow Go.Proofs.encStr (Go.Sort.ahead w q) g 0 d) os) := by
  refine ⟨rfl, rfl, rfl, ?_, fun k hk => ?_⟩
  · simp [Go.Sort.grow, Go.Sort.putRow, Go.Sort.mapBlock, Go.Sort.ahead]
  · simp only [Go.Sort.grow, Go.Sort.putRow, Go.Sort.mapBlock, Go.Sort.ahead]
    rw [Array.getElem?_append_left (by simp; omega), Array.getElem?_modify, if_neg (by omega)]
theorem sorted_strs {w : World} {B g n cap : Nat} {l : List ByteArray} (h : Strg w B (.slice (some ⟨g, 0, none⟩) n cap) l) (hn : n = l.length) (l' : List ByteArray) (hl : l'.length = l.length) (q : Nat) (os : Array Obj) :
    Strg (Go.Sort.grow (Go.Sort.putRow Go.Proofs.encStr (Go.Sort.ahead w q) g 0 (l'.map (·.data.toList)).toArray) os) B (.slice (some ⟨g, 0, none⟩) n cap) l' := by
  subst hn
  have h0 := h
  rcases h0.2 with ⟨e, _⟩ | ⟨g', cap', cur, e, hBg, hg, hnc, hcm, hcs, ht⟩
  · cases e
  · have e1 : g' = g := by injection e with e1 _ _; injection e1 with e1; injection e1 with e1 _; exact e1.symm
    have e2 : cap' = cap := by injection e with _ _ e2; exact e2.symm
    subst e1 e2
    have hgs : g' < w.heap.size := (Array.getElem?_eq_some_iff.1 hg).1
    have hsz : cur.size = cap' := by simpa using hcs
    refine ⟨by simp [strs], .inr ⟨g', cap', Go.Sort.putCells Go.Proofs.encStr 0 (l'.map (·.data.toList)).toArray cur, by rw [hl], hBg, ?_, by rw [hl]; exact hnc, hcm, by simp [Go.Sort.putCells, hsz], ?_⟩⟩
    · simp only [Go.Sort.grow, Go.Sort.putRow, Go.Sort.mapBlock, Go.Sort.ahead]
      rw [Array.getElem?_append_left (by simp; exact hgs)]
      simp only [Array.getElem?_modify, if_pos, hg, Option.map_some, Go.Sort.onCells]
    · apply List.ext_getElem
      · simp [strs, Go.Sort.putCells]
        omega
      · intro i h1 h2
        have hi : i < l'.length := by simpa [strs] using h2
        rw [List.getElem_take]
        simp [Go.Sort.putCells, strs, hi]
theorem sortS (v : Value) (l : List ByteArray) (B : Nat) (w : World) (h : Strg w B v l) (hl : l.length ≤ 1000000) (hB : B ≤ w.heap.size) :
    Calls Tryd.prog 41 #[v] w fun e w' => e = .returned (.tuple #[]) ∧ Strg w' B v (srt l) ∧ Below B w w' := by
  by_cases h0 : l.length = 0
  · obtain rfl := List.length_eq_zero_iff.1 h0
    obtain ⟨a, c, rfl⟩ : ∃ a c, v = .slice a 0 c := by
      rcases h.2 with ⟨rfl, _⟩ | ⟨g, cap, cur, rfl, _⟩
      · exact ⟨_, _, rfl⟩
      · exact ⟨_, _, rfl⟩
    refine (Tryd.slices_Sort_string_none a c w).mono ?_
    rintro e w' ⟨rfl, rfl⟩
    exact ⟨rfl, h, Below.refl _ _⟩
  · obtain ⟨g, n, cap, rfl, hn, hnc, hcm, hBg, hg, hc⟩ := h.form (by omega)
    have hfz : ∀ j, w.frozen? ⟨g, j, none⟩ = false := by
      subst hn
      exact fun j => World.ownsRow.frozenAt h j
    have hH : Go.Sort.Holds Go.Proofs.encStr w g 0 (l.map (·.data.toList)).toArray := by
      intro j hj
      have hj' : j < l.length := by simpa using hj
      rw [Nat.zero_add]
      refine ⟨?_, hfz j⟩
      rw [hc j (by omega)]
      simp [gs, hj']
    have C := Tryd.slices_Sort_string g 0 cap (l.map (·.data.toList)) w hH hg (by simp; omega)
    rw [List.length_map, ← hn] at C
    refine C.mono ?_
    rintro e w' ⟨rfl, q, os, rfl⟩
    rw [srt_sort]
    exact ⟨rfl, sorted_strs h hn (srt l) (srt_len l) q os, sorted_below hBg hB _ q os⟩
/-- the stuck ponds that are reached -/
def skL (s : ByteArray) : List ByteArray := if isPd s then srt (stkTo (reach s) (reach s).length) else []
theorem skL_no {s : ByteArray} (h : isPd s = false) : skL s = [] := by simp [skL, h]
theorem skL_yes {s : ByteArray} (h : isPd s = true) {L : List ByteArray} (hL : reach s = L) : skL s = srt (stkTo L L.length) := by subst hL; unfold skL; rw [if_pos h]
theorem skL_len (s : ByteArray) : (skL s).length ≤ 16777216 := by
  cases h : isPd s
  · rw [skL_no h]; exact Nat.zero_le _
  · obtain ⟨L, hL⟩ : ∃ L, reach s = L := ⟨_, rfl⟩
    rw [skL_yes h hL, srt_len]
    have h1 := stkTo_len L L.length
    have h2 := reach_len h
    rw [hL] at h2
    omega
theorem reach_pd {s : ByteArray} (h : isPd s = true) : ∀ q ∈ reach s, isPd q = true := fun q hq => ((bfs_pds h 262145).2 q hq).1
set_option maxHeartbeats 2000000 in
theorem implStk (s : ByteArray) (p : Addr) (w : World) (hs : s.size ≤ 1048576) (hL : Laid w p) :
    Calls Tryd.prog 20 #[.string s] w fun e w' => ∃ v, e = .returned (.tuple #[v, .bool (isPd s)]) ∧ Strg w' w.heap.size v (skL s) ∧ Below w.heap.size w w' := by
  have hm : s.size ≤ maxLen := by unfold maxLen; omega
  cases h1 : isPd s
  · have J := Lib.hid (skL_no h1)
    have G := Lib.hid h1
    clear h1
    go_enter Tryd.func20, Tryd.ntmps20
    go_wp2_with (go_at_call 33; refine (implIsPond _ _ hm).mono ?_; rintro e w' ⟨rfl, rfl⟩; rw [G.out])
    go_ret2
    exact ⟨_, rfl, by rw [J.out]; exact World.ownsRow_nil _ _ _ _, Below.refl _ _⟩
  · have G := Lib.hid h1
    have HL := Lib.hid hL
    obtain ⟨L, hLr⟩ : ∃ L, reach s = L := ⟨_, rfl⟩
    have J := Lib.hid (skL_yes h1 hLr)
    have hp := reach_pos s
    have hl := reach_len h1
    have PD := Lib.hid (reach_pd h1)
    have HP := Lib.hid (fun wx (h : Laid wx p) => pondsFrom s p wx G.out h)
    rw [hLr] at hp hl PD HP
    clear h1 hL hLr
    go_enter Tryd.func20, Tryd.ntmps20
    go_wp2_with (first
      | (go_at_call 33; refine (implIsPond _ _ hm).mono ?_; rintro e w' ⟨rfl, rfl⟩; rw [G.out])
      | (go_at_call 40; refine (HP.out _ HL.out).mono ?_; rintro e w1 ⟨v, rfl, hS, hb⟩; obtain ⟨g, n, cap, rfl, hn, hnc, hcm, hB0, hg, hc⟩ := hS.form hp; have HN := Lib.hid hn; have HC := Lib.hid hc; have HB1 := Lib.hid hb; clear hS hn hnc hcm hc hb))
    have L1 := Lib.hid (HL.out.below HB1.out)
    have hn2 : n ≤ 262144 := by have := HN.out; omega
    clear hp hl
    go_loopw [4, 13] (fun o i wr => ∃ j : Nat, j ≤ n ∧ i = .int .i64 j ∧ Hid (Strg wr w1.heap.size o (stkTo L j)) ∧ Hid (Below w1.heap.size w1 wr)) (fun _ i _ => n - (intOf i).toNat)
    case atStart => exact ⟨0, Nat.zero_le _, rfl, Lib.hid (World.ownsRow_nil _ _ _ _), Lib.hid (Below.refl _ _)⟩
    case round =>
      obtain ⟨j, hj, rfl, hS, hB⟩ := hrel
      have hle := hB.out.size
      by_cases hlt : j < n
      · have hlt' : (j : Int) < n := by omega
        have hjL : j < L.length := by have := HN.out; omega
        have c := (hB.out.cell (p := ⟨g, j, none⟩) hg).trans (HC.out j hlt)
        have hq : isPd (gs L j) = true := PD.out _ (by have e : gs L j = L[j] := by simp [gs, hjL]
                                                       rw [e]; exact List.getElem_mem _)
        have I := Lib.hid (fun W (h : Laid W p) => isStk (gs L j) p W hq h)
        have L2 := Lib.hid (L1.out.below hB.out)
        have hlen : (stkTo L j).length < 16777216 := by have := stkTo_len L j; have := HN.out; omega
        have HLEN := Lib.hid hlen
        have HLE := Lib.hid hle
        cases hst : stk (gs L j)
        · have T := Lib.hid (stkTo_no hjL hst)
          have GS := Lib.hid hst
          clear hst hq hlen hjL
          generalize gs L j = q at *
          go_wp2_with (go_at_call 35; refine (I.out _ L2.out).mono ?_; rintro e w2 ⟨rfl, hb2⟩; rw [GS.out]; have B2 := Lib.hid (hB.out.trans (hb2.mono HLE.out)); have S2 := Lib.hid (hS.out.below hb2); clear hb2)
          go_roundw
          case rel => exact ⟨j + 1, by omega, by go_num, by rw [T.out]; exact S2, B2⟩
          case measure => (simp [intOf]; try omega)
        · have T := Lib.hid (stkTo_yes hjL hst)
          have GS := Lib.hid hst
          clear hst hq hlen hjL
          generalize gs L j = q at *
          go_wp2_with (first
            | (go_at_call 35; refine (I.out _ L2.out).mono ?_; rintro e w2 ⟨rfl, hb2⟩; rw [GS.out]; have B2 := Lib.hid (hB.out.trans (hb2.mono HLE.out)); have S2 := Lib.hid (hS.out.below hb2); clear hb2)
            | (at_builtin; refine wpList_appS w2 rfl _ _ rfl w1.heap.size _ (stkTo L j) rfl S2.out q w2.heap.size rfl rfl HLEN.out B2.out.size rfl ?_; intro v' w3 hS3 hb3 hg3; have S3 := Lib.hid hS3; have B3 := Lib.hid (B2.out.trans hb3); clear hS3 hb3 hg3))
          go_roundw
          case rel => exact ⟨j + 1, by omega, by go_num, by rw [T.out]; exact S3, B3⟩
          case measure => (simp [intOf]; try omega)
      · obtain rfl : j = n := by omega
        have Z := Lib.hid (fun v W h => sortS v (stkTo L j) w1.heap.size W h (by have := stkTo_len L j; have := HN.out; omega))
        have JJ := Lib.hid (show skL s = srt (stkTo L j) by rw [J.out, HN.out])
        go_wp2_with (go_at_call 41; refine (Z.out _ _ hS.out hle).mono ?_; rintro e w2 ⟨rfl, hS2, hb2⟩)
        go_ret2
        exact ⟨_, rfl, by rw [JJ.out]; exact strg_mono hS2 HB1.out.size, HB1.out.trans ((hB.out.trans hb2).mono HB1.out.size)⟩
end Go.Proofs.YteoggpollgkfiaaDoor
