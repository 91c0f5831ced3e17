/- stride.length, impl.longestStride. -/
import Derived.Test.YtnmeomcoeknjoabStr
import Derived.Deep.RegionHeld3
import Derived.Test.YtnmeomcoeknjoabBox
namespace Go.Proofs.Ytnmeomcoeknjoab
set_option linter.unusedVariables false
set_option maxRecDepth 100000
open Go.RowKit

theorem length (a b : Nat) (w : World) (ha : a ≤ 1000) (hb : b ≤ 1000) :
    Calls Try.prog 89 #[.agg #[.int .i64 a, .int .i64 b]] w fun e w' => e = .returned (.int .i64 ((b : Int) - a)) ∧ w.alloc (.cells #[.int .i64 a, .int .i64 b] 110) = w' := by
  go_enter Try.func89, Try.ntmps89
  go_wp2
  go_ret
  exact ⟨rfl, rfl⟩

theorem lg_take {l : List (Nat × Nat)} {j : Nat} (h : j < l.length) : lg (l.take (j + 1)) = lgStep (lg (l.take j)) (l.getD j (0, 0)) := by
  rw [List.take_succ_eq_append_getElem h, lg_snoc]; simp [h]
theorem lgStep_yes {b p : Nat × Nat} (h : b.2 - b.1 < p.2 - p.1) : lgStep b p = p := by simp [lgStep, h]
theorem lgStep_no {b p : Nat × Nat} (h : ¬ b.2 - b.1 < p.2 - p.1) : lgStep b p = b := by simp [lgStep, h]
theorem take_lt {l : List (Nat × Nat)} {m : Nat} (h : ∀ p ∈ l, p.1 < p.2 ∧ p.2 ≤ m) (j : Nat) : (lg (l.take j)).1 ≤ (lg (l.take j)).2 ∧ (lg (l.take j)).2 ≤ m :=
  lg_mem _ m fun p hp => h p (List.mem_of_mem_take hp)
theorem getD_lt {l : List (Nat × Nat)} {m : Nat} (h : ∀ p ∈ l, p.1 < p.2 ∧ p.2 ≤ m) {j : Nat} (hj : j < l.length) : (l.getD j (0, 0)).1 < (l.getD j (0, 0)).2 ∧ (l.getD j (0, 0)).2 ≤ m := by
  have e : l.getD j (0, 0) = l[j] := by simp [hj]
  rw [e]; exact h _ (List.getElem_mem _)

set_option maxHeartbeats 2000000 in
theorem longest (s : ByteArray) (w : World) (hz : s.size ≤ 40) :
    Calls Try.prog 88 #[.string s] w fun e w' => e = .returned (.agg #[.int .i64 ((lg (strides s)).1 : Int), .int .i64 ((lg (strides s)).2 : Int)]) ∧ Below w.heap.size w w' := by
  go_enter Try.func88, Try.ntmps88
  go_wp2_with (go_at_call 98; refine (stridesOf s _ hz).mono ?_; rintro e w1 ⟨v, rfl, hI, hb1⟩; obtain ⟨a, n, cap, rfl, hn0, hcell0⟩ := hI.form; have HN := Lib.hid hn0; have HC := Lib.hid hcell0; clear hn0 hcell0 hI)
  have X2 : Box2 w1 w.heap.size (.int .i64 0) (.int .i64 0) := ((Box2.new w _ _ _).alloc _).below hb1
  have X3 : Box2 w1 (w.heap.size + 1) (.int .i64 0) (.int .i64 0) := by
    have := (Box2.new (w.alloc (.cells #[.int .i64 0, .int .i64 0] 110)) (.int .i64 0) (.int .i64 0) 110).below hb1
    simpa using this
  have hB : Below w.heap.size w w1 := (((Below.refl _ _).alloc (Nat.le_refl _) _).alloc (by simp) _).trans (hb1.mono (by simp; omega))
  have hsz : w.heap.size + 2 ≤ w1.heap.size := by have := hb1.size; simp at this; omega
  have hcell : ∀ j, j < n → ∃ g, a = some ⟨g, 0, none⟩ ∧ w.heap.size + 2 ≤ g ∧ g < w1.heap.size ∧ w1.cell? ⟨g, j * 2, none⟩ = some (.int .i64 (((strides s).getD j (0, 0)).1 : Int)) ∧ w1.cell? ⟨g, j * 2 + 1, none⟩ = some (.int .i64 (((strides s).getD j (0, 0)).2 : Int)) := by
    intro j hj
    obtain ⟨g, e, h1, r⟩ := HC.out j hj
    exact ⟨g, e, by simp at h1; omega, r⟩
  have HC2 := Lib.hid hcell
  have hnb : n ≤ 41 := by have := strides_len s; have := HN.out; omega
  have hsl := strides_lt s
  clear HC hb1 hcell
  generalize hls : strides s = l at *
  have HLS := Lib.hid hls
  clear hls
  have HSL := Lib.hid hsl
  clear hsl
  generalize hBB : w.heap.size = B at *
  have HBB := Lib.hid hBB
  clear hBB
  go_loopw [9] (fun i wr => ∃ j : Nat, j ≤ n ∧ i = .int .i64 j ∧ Box2 wr B (.int .i64 0) (.int .i64 0) ∧ Box2 wr (B + 1) (.int .i64 ((lg (l.take j)).1 : Int)) (.int .i64 ((lg (l.take j)).2 : Int)) ∧ w1.grownBy wr (some (B + 1))) (fun i _ => n - (intOf i).toNat)
  case atStart => exact ⟨0, Nat.zero_le _, rfl, X2, X3, World.grownBy.refl _ _⟩
  case round =>
    clear X2 X3
    obtain ⟨j, hj, rfl, X2, X3, hgr⟩ := hrel
    have hlb := take_lt HSL.out j
    by_cases hlt : j < n
    · have hst := Lib.hid (lg_take (l := l) (j := j) (by have := HN.out; omega))
      have hpb := getD_lt HSL.out (j := j) (by have := HN.out; omega)
      obtain ⟨g, rfl, hg1, hg2, hc0, hc1⟩ := HC2.out j hlt
      have hne : some g ≠ some (B + 1) := by intro e; injection e; omega
      have hc0 := hgr.cell hc0 hne
      have hc1 := hgr.cell hc1 hne
      generalize l.getD j (0, 0) = p at *
      generalize lg (l.take j) = q at *
      obtain ⟨p1, p2⟩ := p
      obtain ⟨q1, q2⟩ := q
      simp only at hc0 hc1 hlb hpb X3
      have y0 := X3.cell0
      have y1 := X3.cell1
      have hB1 : B + 1 < wr.heap.size := X3.lt
      have hgw : g < wr.heap.size := Nat.lt_of_lt_of_le hg2 hgr.size
      clear HC2 HN HLS
      by_cases hb : q2 - q1 < p2 - p1
      · have hbi : (q2 : Int) - q1 < (p2 : Int) - p1 := by omega
        have R := Lib.hid (hst.out.trans (lgStep_yes (b := (q1, q2)) (p := (p1, p2)) hb))
        clear hst
        go_wp2
        go_cut [17] (fun s17 wx => s17 = .bool true ∧ Box2 wx B (.int .i64 0) (.int .i64 0) ∧ Box2 wx (B + 1) (.int .i64 (q1 : Int)) (.int .i64 (q2 : Int)) ∧ Box2 wx wr.heap.size (.int .i64 (p1 : Int)) (.int .i64 (p2 : Int)) ∧ w1.grownBy wx (some (B + 1)))
        case first =>
          go_region_held3 (fun w' => w'.cell? ⟨B + 1, 0, none⟩ = some (.int .i64 (q1 : Int)) ∧ w'.cell? ⟨B + 1, 1, none⟩ = some (.int .i64 (q2 : Int)) ∧ w'.cell? ⟨wr.heap.size, 0, none⟩ = some (.int .i64 (p1 : Int)) ∧ w'.cell? ⟨wr.heap.size, 1, none⟩ = some (.int .i64 (p2 : Int))) (exact four (by repeat (first | exact X3 | apply Box2.drew | apply Box2.alloc)) (by repeat (first | exact Box2.new _ _ _ _ | apply Box2.drew | apply Box2.alloc))) (first
            | (go_at_call 89; refine (length _ _ _ (by omega) (by omega)).mono ?_; rintro e w' ⟨rfl, rfl⟩))
          go_wp2_with fail
          go_meet
          refine ⟨?_, ?_, ?_, ?_, ?_⟩
          · first | rfl | simpa using hbi
          · repeat (first | exact X2 | apply Box2.drew | apply Box2.alloc)
          · repeat (first | exact X3 | apply Box2.drew | apply Box2.alloc)
          · repeat (first | exact Box2.new _ _ _ _ | apply Box2.drew | apply Box2.alloc)
          · repeat (first | exact hgr | apply grown_drew | apply grown_alloc)
        case rest =>
          obtain ⟨rfl, Z2, Z3, Z4, hgz⟩ := hcut
          clear X2 X3 hc0 hc1 y0 y1
          have y0 := Z4.cell0
          have y1 := Z4.cell1
          have z0 := Z3.cell0
          have z1 := Z3.cell1
          have z2 := Z3.fr 0
          have z3 := Z3.fr 1
          have R1 := Z3.set (.int .i64 (p1 : Int)) (.int .i64 (p2 : Int))
          have R2 := set2_grown wc (B + 1) (.int .i64 (p1 : Int)) (.int .i64 (p2 : Int))
          have HR := Lib.hid (And.intro (Z2.kept R2 (by intro e; injection e; omega)) (And.intro R1 (hgz.trans R2)))
          clear R1 R2 Z2 Z3 Z4 hgz
          go_wp2
          go_roundw
          case rel => exact ⟨j + 1, by omega, by go_num, HR.out.1, by rw [R.out]; exact HR.out.2.1, HR.out.2.2⟩
          case measure => (simp [intOf]; try omega)
      · have hbi : ¬ (q2 : Int) - q1 < (p2 : Int) - p1 := by omega
        have R := Lib.hid (hst.out.trans (lgStep_no (b := (q1, q2)) (p := (p1, p2)) hb))
        clear hst
        go_wp2
        go_cut [17] (fun s17 wx => s17 = .bool false ∧ Box2 wx B (.int .i64 0) (.int .i64 0) ∧ Box2 wx (B + 1) (.int .i64 (q1 : Int)) (.int .i64 (q2 : Int)) ∧ Box2 wx wr.heap.size (.int .i64 (p1 : Int)) (.int .i64 (p2 : Int)) ∧ w1.grownBy wx (some (B + 1)))
        case first =>
          go_region_held3 (fun w' => w'.cell? ⟨B + 1, 0, none⟩ = some (.int .i64 (q1 : Int)) ∧ w'.cell? ⟨B + 1, 1, none⟩ = some (.int .i64 (q2 : Int)) ∧ w'.cell? ⟨wr.heap.size, 0, none⟩ = some (.int .i64 (p1 : Int)) ∧ w'.cell? ⟨wr.heap.size, 1, none⟩ = some (.int .i64 (p2 : Int))) (exact four (by repeat (first | exact X3 | apply Box2.drew | apply Box2.alloc)) (by repeat (first | exact Box2.new _ _ _ _ | apply Box2.drew | apply Box2.alloc))) (first
            | (go_at_call 89; refine (length _ _ _ (by omega) (by omega)).mono ?_; rintro e w' ⟨rfl, rfl⟩))
          go_wp2_with fail
          go_meet
          refine ⟨?_, ?_, ?_, ?_, ?_⟩
          · first | rfl | simpa using hbi
          · repeat (first | exact X2 | apply Box2.drew | apply Box2.alloc)
          · repeat (first | exact X3 | apply Box2.drew | apply Box2.alloc)
          · repeat (first | exact Box2.new _ _ _ _ | apply Box2.drew | apply Box2.alloc)
          · repeat (first | exact hgr | apply grown_drew | apply grown_alloc)
        case rest =>
          obtain ⟨rfl, Z2, Z3, Z4, hgz⟩ := hcut
          clear X2 X3 hc0 hc1 y0 y1
          go_wp2
          go_roundw
          case rel => exact ⟨j + 1, by omega, by go_num, Z2, by rw [R.out]; exact Z3, hgz⟩
          case measure => (simp [intOf]; try omega)
    · obtain rfl : j = n := by omega
      have e := Lib.hid (show l.take j = l from List.take_of_length_le (by have := HN.out; omega))
      have y0 := X3.cell0
      have y1 := X3.cell1
      have z0 := X2.cell0
      have z1 := X2.cell1
      have z2 := X2.fr 0
      have z3 := X2.fr 1
      have R1 := X2.set (.int .i64 ((lg (l.take j)).1 : Int)) (.int .i64 ((lg (l.take j)).2 : Int))
      have R2 := set2_grown wr B (.int .i64 ((lg (l.take j)).1 : Int)) (.int .i64 ((lg (l.take j)).2 : Int))
      have hBw := (hB.grown hgr (by omega) (by intro k hk; cases hk; omega)).grown R2 (by have := hgr.size; omega) (by intro k hk; cases hk; exact Nat.le_refl _)
      have r0 := R1.cell0
      have r1 := R1.cell1
      have HW := Lib.hid hBw
      clear R1 R2 hBw hgr hB X2 X3 HC2
      go_wp2
      refine bodyPost_ret (v := .agg #[.int .i64 ((lg (l.take j)).1 : Int), .int .i64 ((lg (l.take j)).2 : Int)]) (by simp [results, Try.results88, go_sem, r0, r1]) rfl ⟨?_, ?_⟩
      · rw [HLS.out, e.out]
      · rw [HBB.out]; exact HW.out
end Go.Proofs.Ytnmeomcoeknjoab
