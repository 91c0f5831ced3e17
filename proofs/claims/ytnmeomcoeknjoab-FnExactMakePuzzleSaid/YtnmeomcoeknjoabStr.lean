/- Leaps from one standing place to the next: lists; spec.rvGap; impl.stridesOf, stride.length, longestStride. -/
import Derived.Test.YtnmeomcoeknjoabMap
namespace Go.Proofs.Ytnmeomcoeknjoab
set_option linter.unusedVariables false
set_option maxRecDepth 100000
open Go.RowKit

/-- the last place up to k on which one can stand -/
def lastTo (s : ByteArray) : Nat → Nat
  | 0 => 0
  | k + 1 => if stand s (k + 1) then k + 1 else lastTo s k
theorem lastTo_le (s : ByteArray) : ∀ k, lastTo s k ≤ k
  | 0 => Nat.le_refl _
  | k + 1 => by unfold lastTo; split; exact Nat.le_refl _; have := lastTo_le s k; omega
theorem lastTo_yes {s : ByteArray} {k : Nat} (h : stand s (k + 1) = true) : lastTo s (k + 1) = k + 1 := by simp [lastTo, h]
theorem lastTo_no {s : ByteArray} {k : Nat} (h : stand s (k + 1) = false) : lastTo s (k + 1) = lastTo s k := by simp [lastTo, h]
/-- the leaps from each standing place to the next one, up to k -/
def prTo (s : ByteArray) : Nat → List (Nat × Nat)
  | 0 => []
  | k + 1 => if stand s (k + 1) then prTo s k ++ [(lastTo s k, k + 1)] else prTo s k
theorem prTo_yes {s : ByteArray} {k : Nat} (h : stand s (k + 1) = true) : prTo s (k + 1) = prTo s k ++ [(lastTo s k, k + 1)] := by simp [prTo, h]
theorem prTo_no {s : ByteArray} {k : Nat} (h : stand s (k + 1) = false) : prTo s (k + 1) = prTo s k := by simp [prTo, h]
theorem prTo_len (s : ByteArray) : ∀ k, (prTo s k).length ≤ k
  | 0 => Nat.le_refl _
  | k + 1 => by unfold prTo; have := prTo_len s k; split <;> simp <;> omega
theorem prTo_lt (s : ByteArray) : ∀ k, ∀ p ∈ prTo s k, p.1 < p.2 ∧ p.2 ≤ k
  | 0 => by simp [prTo]
  | k + 1 => by
    intro p hp
    have ih := prTo_lt s k
    have hl := lastTo_le s k
    unfold prTo at hp
    split at hp
    · rcases List.mem_append.1 hp with h | h
      · have := ih p h; omega
      · simp at h; subst h; simp; omega
    · have := ih p hp; omega
def strides (s : ByteArray) : List (Nat × Nat) := prTo s (s.size + 1)
theorem strides_len (s : ByteArray) : (strides s).length ≤ s.size + 1 := prTo_len s _
theorem strides_lt (s : ByteArray) : ∀ p ∈ strides s, p.1 < p.2 ∧ p.2 ≤ s.size + 1 := prTo_lt s _

def lgStep (b p : Nat × Nat) : Nat × Nat := if b.2 - b.1 < p.2 - p.1 then p else b
def lg (l : List (Nat × Nat)) : Nat × Nat := l.foldl lgStep (0, 0)
theorem lg_snoc (l : List (Nat × Nat)) (p : Nat × Nat) : lg (l ++ [p]) = lgStep (lg l) p := by simp [lg, List.foldl_append]
theorem lg_mem (l : List (Nat × Nat)) (m : Nat) (h : ∀ p ∈ l, p.1 < p.2 ∧ p.2 ≤ m) : (lg l).1 ≤ (lg l).2 ∧ (lg l).2 ≤ m := by
  unfold lg
  suffices ∀ (l : List (Nat × Nat)) (b : Nat × Nat), b.1 ≤ b.2 ∧ b.2 ≤ m → (∀ p ∈ l, p.1 < p.2 ∧ p.2 ≤ m) → (l.foldl lgStep b).1 ≤ (l.foldl lgStep b).2 ∧ (l.foldl lgStep b).2 ≤ m from this l (0, 0) ⟨Nat.le_refl _, Nat.zero_le _⟩ h
  intro l
  induction l with
  | nil => intro b hb _; exact hb
  | cons p l ih =>
    intro b hb hl
    refine ih _ ?_ (fun q hq => hl q (List.mem_cons_of_mem _ hq))
    have := hl p (List.mem_cons_self ..)
    unfold lgStep; split <;> omega
/-- the longest gap: its length and where it begins -/
def gapLen (s : ByteArray) (k : Nat) : Nat := (lg (prTo s k)).2 - (lg (prTo s k)).1
def gapAt (s : ByteArray) (k : Nat) : Nat := (lg (prTo s k)).1
theorem gap_le (s : ByteArray) (k : Nat) : gapLen s k ≤ k ∧ gapAt s k ≤ k := by
  have := lg_mem (prTo s k) k (prTo_lt s k)
  unfold gapLen gapAt; omega
theorem gap_no {s : ByteArray} {k : Nat} (h : stand s (k + 1) = false) : gapLen s (k + 1) = gapLen s k ∧ gapAt s (k + 1) = gapAt s k := by
  unfold gapLen gapAt; rw [prTo_no h]; exact ⟨rfl, rfl⟩
theorem gap_more {s : ByteArray} {k : Nat} (h : stand s (k + 1) = true) (h2 : gapLen s k < k + 1 - lastTo s k) : gapLen s (k + 1) = k + 1 - lastTo s k ∧ gapAt s (k + 1) = lastTo s k := by
  unfold gapLen gapAt at *; rw [prTo_yes h, lg_snoc]
  simp [lgStep, h2]
theorem gap_same {s : ByteArray} {k : Nat} (h : stand s (k + 1) = true) (h2 : ¬ gapLen s k < k + 1 - lastTo s k) : gapLen s (k + 1) = gapLen s k ∧ gapAt s (k + 1) = gapAt s k := by
  unfold gapLen gapAt at *; rw [prTo_yes h, lg_snoc]
  simp [lgStep, h2]

set_option maxHeartbeats 1000000 in
theorem specGap (s : ByteArray) (w : World) (hz : s.size ≤ 40) :
    Calls Try.prog 70 #[.string s] w fun e w' => e = .returned (.tuple #[.int .i64 (gapLen s (s.size + 1)), .int .i64 (gapAt s (s.size + 1))]) ∧ w = w' := by
  have hs : s.size ≤ 1048576 := by omega
  go_enter Try.func70, Try.ntmps70
  go_wp2_with fail
  go_loop [4, 5, 6, 7] (fun m f l i => ∃ k : Nat, k ≤ s.size + 1 ∧ i = .int .i64 ((k : Int) + 1) ∧ m = .int .i64 (gapLen s k) ∧ f = .int .i64 (gapAt s k) ∧ l = .int .i64 (lastTo s k)) (fun _ _ _ i => s.size + 3 - (intOf i).toNat)
  case atStart => exact ⟨0, Nat.zero_le _, rfl, rfl, rfl, rfl⟩
  case round =>
    obtain ⟨k, hk, rfl, rfl, rfl, rfl⟩ := hrel
    have hg := gap_le s k
    have hl := lastTo_le s k
    by_cases hlt : k < s.size + 1
    · cases hst : stand s (k + 1)
      · have R := Lib.hid (gap_no hst)
        have R2 := Lib.hid (lastTo_no hst)
        have G := Lib.hid hst
        clear hst
        go_wp2_with (go_at_call 67; refine (rvStand s (k + 1) _ hs (by omega)).mono ?_; rintro e w' ⟨rfl, rfl⟩; rw [G.out])
        go_round
        case rel => exact ⟨k + 1, by omega, by go_num, by rw [R.out.1], by rw [R.out.2], by rw [R2.out]⟩
        case measure => (simp [intOf]; try omega)
      · have R2 := Lib.hid (lastTo_yes hst)
        have G := Lib.hid hst
        by_cases hb : gapLen s k < k + 1 - lastTo s k
        · have R := Lib.hid (gap_more hst hb)
          clear hst
          generalize gapLen s k = x at *
          generalize gapAt s k = y at *
          generalize lastTo s k = z at *
          have hb2 : (x : Int) < (k : Int) + 1 - z := by omega
          go_wp2_with (go_at_call 67; refine (rvStand s (k + 1) _ hs (by omega)).mono ?_; rintro e w' ⟨rfl, rfl⟩; rw [G.out])
          go_round
          case rel => exact ⟨k + 1, by omega, by go_num, by rw [R.out.1]; congr 1; omega, by rw [R.out.2], by rw [R2.out]; rfl⟩
          case measure => (simp [intOf]; try omega)
        · have R := Lib.hid (gap_same hst hb)
          clear hst
          generalize gapLen s k = x at *
          generalize gapAt s k = y at *
          generalize lastTo s k = z at *
          have hb2 : ¬ (x : Int) < (k : Int) + 1 - z := by omega
          go_wp2_with (go_at_call 67; refine (rvStand s (k + 1) _ hs (by omega)).mono ?_; rintro e w' ⟨rfl, rfl⟩; rw [G.out])
          go_round
          case rel => exact ⟨k + 1, by omega, by go_num, by rw [R.out.1], by rw [R.out.2], by rw [R2.out]; rfl⟩
          case measure => (simp [intOf]; try omega)
    · obtain rfl : k = s.size + 1 := by omega
      go_wp2
      go_ret2
      exact ⟨rfl, rfl⟩

theorem Try.infoStride : (Try.prog.info? 110).map (fun i => (i.zero, i.size, i.bytes)) = some (some (.agg #[.int .i64 0, .int .i64 0]), 2, 16) := by kernel_rfl
def prs (l : List (Nat × Nat)) : List Value := l.flatMap fun p => [.int .i64 (p.1 : Int), .int .i64 (p.2 : Int)]
theorem prs_len (l : List (Nat × Nat)) : (prs l).length = l.length * 2 := by
  induction l with
  | nil => rfl
  | cons p l ih => simp [prs] at *; omega
theorem prs_snoc (l : List (Nat × Nat)) (a b : Nat) : prs l ++ [.int .i64 (a : Int), .int .i64 (b : Int)] = prs (l ++ [(a, b)]) := by simp [prs]
theorem prs_at (l : List (Nat × Nat)) (j : Nat) (h : j < l.length) : (prs l)[j * 2]? = some (.int .i64 (l[j].1 : Int)) ∧ (prs l)[j * 2 + 1]? = some (.int .i64 (l[j].2 : Int)) := by
  induction l generalizing j with
  | nil => simp at h
  | cons p l ih =>
    cases j with
    | zero => simp [prs]
    | succ j =>
      have := ih j (by simpa using h)
      have e : prs (p :: l) = [.int .i64 (p.1 : Int), .int .i64 (p.2 : Int)] ++ prs l := by simp [prs]
      rw [e, List.getElem?_append_right (by simp; omega), List.getElem?_append_right (by simp; omega)]
      simp only [List.length_cons, List.length_nil, List.getElem_cons_succ]
      rw [show (j + 1) * 2 - (0 + 1 + 1) = j * 2 from by omega, show (j + 1) * 2 + 1 - (0 + 1 + 1) = j * 2 + 1 from by omega]
      exact this
/-- the slice v of leaps, of the call's own -/
def Strs (w : World) (B : Nat) (v : Value) (l : List (Nat × Nat)) : Prop := w.ownsRow B 110 2 v l.length (prs l)

theorem wpList_app2 {ops : Array Oper} {rest : List Oper} {o : Oper} {a : Act} {Q : Exit → Act → World → Prop} {W : World} (w0 : World) (hgd : o.guard = none) (s x : Operand)
    (ho : o.op = .call { callee := .builtin .append, args := #[s, x], argTypes := #[122, 122] })
    (B : Nat) (v : Value) (zs : List (Nat × Nat)) (hs : a.eval s = v) (hI : Strs w0 B v zs) (y z : Nat) (hx : a.eval x = .slice (some ⟨w0.heap.size, 0, none⟩) 1 1) (hl : zs.length < 16777216) (hB : B ≤ w0.heap.size) (hW : W = w0.alloc (.cells #[.int .i64 (y : Int), .int .i64 (z : Int)] 110))
    (h : ∀ v' w', Strs w' B v' (zs ++ [(y, z)]) → Below B w0 w' → w0.grownBy w' v.ownBlock → wpList Try.prog ops Q rest (a.put o.dst v') w') : wpList Try.prog ops Q (o :: rest) a W := by
  subst hW
  obtain ⟨i0, hi, hz0, hz1, hz2⟩ := info_parts Try.infoStride
  have hlt : ∀ b, v.ownBlock = some b → B ≤ b := fun b hb => (World.ownsRow.lt hI b hb).1
  refine wpList_append_own _ hgd s x 122 ho B 110 i0 (.agg #[.int .i64 0, .int .i64 0]) 2 16 Try.underlying122 hi hz0 hz1 hz2 rfl (by decide) v zs.length (prs zs) hs (World.ownsRow.alloc hI _) ⟨w0.heap.size, 0, none⟩ 1 1 [.int .i64 (y : Int), .int .i64 (z : Int)] hx rfl
    (cell_two_new _ _ _ _) (by intro u hu; simp at hu; rcases hu with rfl | rfl <;> rfl) (by unfold maxLen; omega) (by omega) (by simp; omega) ?_
  intro v' w' h1 h2 _
  refine h v' w' ?_ (((Below.refl _ _).alloc hB _).grown h2 (by simp; omega) hlt) ((World.grownBy_alloc _ _ _).trans h2)
  unfold Strs
  rw [prs_snoc] at h1
  simpa using h1

theorem Strs.form {w : World} {B : Nat} {v : Value} {zs : List (Nat × Nat)} (h : Strs w B v zs) :
    ∃ a n cap, v = .slice a n cap ∧ n = zs.length ∧ ∀ j, j < n → ∃ g, a = some ⟨g, 0, none⟩ ∧ B ≤ g ∧ g < w.heap.size ∧ w.cell? ⟨g, j * 2, none⟩ = some (.int .i64 ((zs.getD j (0, 0)).1 : Int)) ∧ w.cell? ⟨g, j * 2 + 1, none⟩ = some (.int .i64 ((zs.getD j (0, 0)).2 : Int)) := by
  have h' := h
  rcases h.2 with ⟨rfl, h0⟩ | ⟨g, cap, cur, rfl, hb, hg, hnc, hcm, hcs, ht⟩
  · exact ⟨_, _, _, rfl, h0.symm, fun j hj => absurd hj (Nat.not_lt_zero _)⟩
  · refine ⟨_, _, _, rfl, rfl, fun j hj => ⟨g, rfl, hb, (Array.getElem?_eq_some_iff.1 hg).1, ?_, ?_⟩⟩
    · rw [World.ownsRow.cellAt h' (j * 2) (by omega), (prs_at zs j hj).1]; simp [hj]
    · rw [World.ownsRow.cellAt h' (j * 2 + 1) (by omega), (prs_at zs j hj).2]; simp [hj]

theorem standI_succ (s : ByteArray) (k : Nat) : standI s ((k : Int) + 1) = stand s (k + 1) := by
  rw [show (k : Int) + 1 = ((k + 1 : Nat) : Int) from by omega]; exact standI_nat s (k + 1)
theorem str_mono {w : World} {B B' : Nat} {v : Value} {l : List (Nat × Nat)} (h : Strs w B' v l) (hb : B ≤ B') : Strs w B v l := by
  refine ⟨h.1, ?_⟩
  rcases h.2 with h2 | ⟨g, cap, cur, e, h1, r⟩
  · exact .inl h2
  · exact .inr ⟨g, cap, cur, e, Nat.le_trans hb h1, r⟩

def StrPost (s : ByteArray) (w : World) (e : Ending) (w' : World) : Prop := ∃ v, e = .returned v ∧ Strs w' w.heap.size v (strides s) ∧ Below w.heap.size w w'

set_option maxHeartbeats 2000000 in
theorem stridesOf (s : ByteArray) (w : World) (hz : s.size ≤ 40) :
    Calls Try.prog 98 #[.string s] w (StrPost s w) := by
  have hs : s.size ≤ 1048576 := by omega
  go_enter Try.func98, Try.ntmps98
  go_wp2_with (go_at_call 95; refine (standing s _ hz).mono ?_; rintro e w1 ⟨b, N, rfl, hb, hN, hM, hbel⟩)
  have hbg := hM.lt
  have hgB := hbel.size
  go_loopw [4, 5, 6] (fun v f i wr => ∃ k : Nat, k ≤ s.size + 1 ∧ i = .int .i64 ((k : Int) + 1) ∧ f = .int .i64 (lastTo s k) ∧ Strs wr w1.heap.size v (prTo s k) ∧ Below w1.heap.size w1 wr) (fun _ _ i _ => s.size + 3 - (intOf i).toNat)
  case atStart => exact ⟨0, Nat.zero_le _, rfl, rfl, World.ownsRow_nil _ _ _ _, Below.refl _ _⟩
  case round =>
    obtain ⟨k, hk, rfl, rfl, hI, hbr⟩ := hrel
    have hl := lastTo_le s k
    have hn := prTo_len s k
    have hle := hbr.size
    have hMr := hM.below hbr
    by_cases hlt : k < s.size + 1
    · have hlk := hMr.get (c := (k : Int) + 1) (wf64 (by omega) (by omega))
      rw [standI_succ] at hlk
      cases hst : stand s (k + 1)
      · rw [hst] at hlk
        have R := Lib.hid (prTo_no hst)
        have R2 := Lib.hid (lastTo_no hst)
        clear hst hM hMr
        go_wp2_with (go_at_call 96; refine (farBank _ _ hs).mono ?_; rintro e w' ⟨rfl, rfl⟩)
        go_roundw
        case rel => exact ⟨k + 1, by omega, by go_num, by rw [R2.out], by rw [R.out]; exact hI, hbr⟩
        case measure => (simp [intOf]; try omega)
      · rw [hst] at hlk
        have R := Lib.hid (prTo_yes hst)
        have R2 := Lib.hid (lastTo_yes hst)
        clear hst hM hMr
        go_wp2_with (first | (go_at_call 96; refine (farBank _ _ hs).mono ?_; rintro e w' ⟨rfl, rfl⟩) | (at_builtin; refine wpList_app2 wr rfl _ _ rfl w1.heap.size _ (prTo s k) rfl hI (lastTo s k) (k + 1) rfl (by omega) hle rfl ?_; intro v' w2 hI2 hb2 hg2))
        go_roundw
        case rel => exact ⟨k + 1, by omega, by go_num, by rw [R2.out]; rfl, by rw [R.out]; exact hI2, hbr.trans hb2⟩
        case measure => (simp [intOf]; try omega)
    · obtain rfl : k = s.size + 1 := by omega
      go_wp2_with (go_at_call 96; refine (farBank _ _ hs).mono ?_; rintro e w' ⟨rfl, rfl⟩)
      go_ret
      exact ⟨_, rfl, str_mono hI hgB, hbel.trans (hbr.mono hgB)⟩
end Go.Proofs.Ytnmeomcoeknjoab
