/- Counts of the rivers that fit: impl.countFitting, clueSet.without; plain counts for lists of clues. -/
import Derived.Test.YtnmeomcoeknjoacKzb
namespace Go.Proofs.Ytnmeomcoeknjoac
set_option linter.unusedVariables false
set_option maxRecDepth 100000
open Go.RowKit

theorem Blk.seven_ {w : World} {g : Nat} {v0 v1 v2 v3 v4 v5 v6 : Value} (h : Blk w g #[v0, v1, v2, v3, v4, v5, v6]) : w.cell? ⟨g, 0, none⟩ = some v0 ∧ w.cell? ⟨g, 1, none⟩ = some v1 ∧ w.cell? ⟨g, 2, none⟩ = some v2 ∧ w.cell? ⟨g, 3, none⟩ = some v3 ∧ w.cell? ⟨g, 4, none⟩ = some v4 ∧ w.cell? ⟨g, 5, none⟩ = some v5 ∧ w.cell? ⟨g, 6, none⟩ = some v6 :=
  ⟨h.cell 0, h.cell 1, h.cell 2, h.cell 3, h.cell 4, h.cell 5, h.cell 6⟩
theorem isPz_nat {m : Int} {cs : List Br} (h : isPz m cs = true) : ∃ n : Nat, m = n ∧ (1 ≤ n ∧ n ≤ 8) ∧ cs.length ≤ 6 ∧ ∀ c ∈ cs, isCl (n : Int) c = true := by
  obtain ⟨h1, h2, h3, h4⟩ := isPz_iff.1 h
  obtain ⟨n, rfl⟩ : ∃ n : Nat, m = n := ⟨m.toNat, by omega⟩
  exact ⟨n, rfl, by omega, h3, h4⟩
theorem Strg.len_ {w : World} {B : Nat} {v : Value} {l : List ByteArray} (h : Strg w B v l) : ∃ a c, v = .slice a l.length c := by
  rcases h.2 with ⟨rfl, h0⟩ | ⟨g, cap, cur, rfl, _⟩
  · exact ⟨_, _, by rw [h0]⟩
  · exact ⟨_, _, rfl⟩
/-- without one of the clues -/
def wo (f : Nat → Bool) (k : Nat) (i : Nat) : Bool := if i = k then false else f i
def lone (k : Nat) (i : Nat) : Bool := if i = k then true else false
theorem cntA_wo {n k : Nat} {cs : List Br} (h6 : cs.length ≤ 6) (hk : k < cs.length) : cntA n cs (wo (first cs.length) k) (2 ^ n) = cntS n (cs.eraseIdx k) := by
  refine cntA_list h6 (fun q hq => ?_) (fun d hd => ?_)
  · have h1 : q ≠ k := by intro e; subst e; simp [wo] at hq
    have h2 : q < cs.length := by simpa [wo, h1, first] using hq
    refine ⟨h2, ?_⟩
    rw [List.mem_eraseIdx_iff_getElem]
    exact ⟨q, h2, h1, by simp [gb, h2]⟩
  · rw [List.mem_eraseIdx_iff_getElem] at hd
    obtain ⟨q, h2, h1, e⟩ := hd
    exact ⟨q, by simp [wo, h1, first, h2], by simp [gb, h2, e]⟩
theorem cntA_lone {n k : Nat} {cs : List Br} (h6 : cs.length ≤ 6) (hk : k < cs.length) : cntA n cs (lone k) (2 ^ n) = cntS n [gb cs k] := by
  refine cntA_list h6 (fun q hq => ?_) (fun d hd => ?_)
  · have h1 : q = k := by by_cases e : q = k; exact e; simp [lone, e] at hq
    subst h1
    exact ⟨hk, by simp⟩
  · simp at hd
    exact ⟨k, by simp [lone], hd.symm⟩
theorem cntA_all {n N : Nat} {cs : List Br} (h6 : cs.length ≤ 6) (hN : N = cs.length) : cntA n cs (first N) (2 ^ n) = cntS n cs := by
  have := cntA_first (n := n) (m := N) h6 (by omega)
  rw [hN, List.take_length] at this
  rw [hN]; exact this
set_option maxHeartbeats 4000000 in
theorem countFit (n P g gc B : Nat) (cs : List Br) (ask : Nat → Bool) (w : World) (hP : P ≤ 256) (h : HRs w B (.slice (some ⟨g, 0, none⟩) P gc) P (rvN n) (fun i => fitK cs (rvN n i))) :
    Calls Try.prog 31 #[.slice (some ⟨g, 0, none⟩) P gc, .agg (a6 ask)] w fun e w' => e = .returned (.int .i64 (cntA n cs ask P : Int)) ∧ Below w.heap.size w w' := by
  have HI := Lib.hid h
  have hgl := h.blk.2
  clear h
  have X0 := Lib.hid (Blk.new w (a6 ask) 51)
  have B0 := Lib.hid (show Below w.heap.size w (w.alloc (.cells (a6 ask) 51)) by (repeat (first | exact Below.refl _ _ | (refine Below.alloc ?_ (by first | omega | (simp; try omega)) _) | apply Below.drew | apply below_drewN)))
  unfold a6 at *
  go_enter Try.func31, Try.ntmps31
  go_wp2
  generalize w.alloc (.cells #[.bool (ask 0), .bool (ask 1), .bool (ask 2), .bool (ask 3), .bool (ask 4), .bool (ask 5)] 51) = W1 at *
  go_loopw [5, 10] (fun c i wr => ∃ k : Nat, k ≤ P ∧ i = .int .i64 (k : Int) ∧ c = .int .i64 (cntA n cs ask k : Int) ∧ Hid (Blk wr w.heap.size #[.bool (ask 0), .bool (ask 1), .bool (ask 2), .bool (ask 3), .bool (ask 4), .bool (ask 5)]) ∧ Hid (Below w.heap.size w wr)) (fun _ i _ => P - (intOf i).toNat)
  case atStart => exact ⟨0, Nat.zero_le _, rfl, rfl, X0, B0⟩
  case round =>
    obtain ⟨k, hk, rfl, rfl, HX, HB⟩ := hrel
    have hle := HB.out.size
    by_cases hlt : k < P
    · have hlt' : (k : Int) < P := by omega
      obtain ⟨c0, c1, c2, c3, c4, c5, c6⟩ := (HI.out.below HB.out).seven hlt
      obtain ⟨q0, q1, q2, q3, q4, q5⟩ := a6_blk (f := ask) HX.out
      have hxl := HX.out.lt
      have HY := Lib.hid (cntA_yes (n := n) (m := k) (cs := cs) (ask := ask))
      have HNO := Lib.hid (cntA_no (n := n) (m := k) (cs := cs) (ask := ask))
      have hcl := cntA_le n cs ask k
      have hcl2 : (cntA n cs ask k : Int) ≤ 256 := by omega
      generalize fitK cs (rvN n k) = f at *
      generalize rvN n k = r at *
      have HFA := Lib.hid (fun wx => fitsAll r f ask wx)
      cases hfa : askOK ask f
      all_goals
        first
          | have E2 := Lib.hid (HY.out hfa)
          | have E2 := Lib.hid (HNO.out hfa)
        rw [hfa] at HFA
        clear HY HNO hfa
        go_wp2_with fail
        refine (HFA.out _).mono ?_
        rintro e w2 ⟨rfl, hb2⟩
        have HX2 := Lib.hid ((HX.out.alloc (.cells #[.string r, .bool (f 0), .bool (f 1), .bool (f 2), .bool (f 3), .bool (f 4), .bool (f 5)] 71)).below hb2 (by simp; omega))
        have HB2 := Lib.hid (HB.out.trans (Below.trans (by (repeat (first | exact Below.refl _ _ | (refine Below.alloc ?_ (by first | omega | (simp; try omega)) _) | apply Below.drew | apply below_drewN))) (hb2.mono (by simp; try omega))) : Below w.heap.size w w2)
        clear hb2 c0 c1 c2 c3 c4 c5 c6 q0 q1 q2 q3 q4 q5
        go_wp2
        go_roundw
        case rel => exact ⟨k + 1, by omega, by go_num, by rw [E2.out]; try rfl, HX2, HB2⟩
        case measure => (simp [intOf]; try omega)
    · obtain rfl : k = P := by omega
      go_wp2
      go_ret
      exact ⟨rfl, HB.out⟩
theorem without6 (f : Nat → Bool) (k : Nat) (w : World) (hk : k < 6) :
    Calls Try.prog 32 #[.agg (a6 f), .int .i64 (k : Int)] w fun e w' => e = .returned (.agg (a6 (wo f k))) ∧ Below w.heap.size w w' := by
  unfold a6
  rcases lt6 hk with rfl | rfl | rfl | rfl | rfl | rfl
  · go_enter Try.func32, Try.ntmps32
    go_wp2
    exact bodyPost_ret (v := .agg #[.bool false, .bool (f 1), .bool (f 2), .bool (f 3), .bool (f 4), .bool (f 5)]) (by simp [results, Try.results32, go_sem]) rfl ⟨rfl, by (repeat (first | exact Below.refl _ _ | (refine Below.alloc ?_ (by first | omega | (simp; try omega)) _) | apply Below.drew | apply below_drewN))⟩
  · go_enter Try.func32, Try.ntmps32
    go_wp2
    exact bodyPost_ret (v := .agg #[.bool (f 0), .bool false, .bool (f 2), .bool (f 3), .bool (f 4), .bool (f 5)]) (by simp [results, Try.results32, go_sem]) rfl ⟨rfl, by (repeat (first | exact Below.refl _ _ | (refine Below.alloc ?_ (by first | omega | (simp; try omega)) _) | apply Below.drew | apply below_drewN))⟩
  · go_enter Try.func32, Try.ntmps32
    go_wp2
    exact bodyPost_ret (v := .agg #[.bool (f 0), .bool (f 1), .bool false, .bool (f 3), .bool (f 4), .bool (f 5)]) (by simp [results, Try.results32, go_sem]) rfl ⟨rfl, by (repeat (first | exact Below.refl _ _ | (refine Below.alloc ?_ (by first | omega | (simp; try omega)) _) | apply Below.drew | apply below_drewN))⟩
  · go_enter Try.func32, Try.ntmps32
    go_wp2
    exact bodyPost_ret (v := .agg #[.bool (f 0), .bool (f 1), .bool (f 2), .bool false, .bool (f 4), .bool (f 5)]) (by simp [results, Try.results32, go_sem]) rfl ⟨rfl, by (repeat (first | exact Below.refl _ _ | (refine Below.alloc ?_ (by first | omega | (simp; try omega)) _) | apply Below.drew | apply below_drewN))⟩
  · go_enter Try.func32, Try.ntmps32
    go_wp2
    exact bodyPost_ret (v := .agg #[.bool (f 0), .bool (f 1), .bool (f 2), .bool (f 3), .bool false, .bool (f 5)]) (by simp [results, Try.results32, go_sem]) rfl ⟨rfl, by (repeat (first | exact Below.refl _ _ | (refine Below.alloc ?_ (by first | omega | (simp; try omega)) _) | apply Below.drew | apply below_drewN))⟩
  · go_enter Try.func32, Try.ntmps32
    go_wp2
    exact bodyPost_ret (v := .agg #[.bool (f 0), .bool (f 1), .bool (f 2), .bool (f 3), .bool (f 4), .bool false]) (by simp [results, Try.results32, go_sem]) rfl ⟨rfl, by (repeat (first | exact Below.refl _ _ | (refine Below.alloc ?_ (by first | omega | (simp; try omega)) _) | apply Below.drew | apply below_drewN))⟩
end Go.Proofs.Ytnmeomcoeknjoac
