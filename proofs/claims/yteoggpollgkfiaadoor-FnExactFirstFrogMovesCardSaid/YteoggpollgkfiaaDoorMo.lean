/- impl.movesOf: the slice of all moves with the ponds behind them. -/
import Derived.Test.YteoggpollgkfiaaDoorMvs
namespace Go.Proofs.YteoggpollgkfiaaDoor
set_option linter.unusedVariables false
open Go.RowKit

theorem Tryd.infoMove : (Tryd.prog.info? 54).map (fun i => (i.zero, i.size, i.bytes)) = some (some (.agg #[.int .i64 0, .string ⟨#[]⟩]), 2, 24) := by kernel_rfl
def fms (s : ByteArray) (l : List Nat) : List Value := l.flatMap fun i : Nat => [.int .i64 (i : Int), .string (goes s i)]
theorem fms_len (s : ByteArray) (l : List Nat) : (fms s l).length = l.length * 2 := by
  induction l with
  | nil => rfl
  | cons p l ih => simp [fms] at *; omega
theorem fms_snoc (s : ByteArray) (l : List Nat) (a : Nat) : fms s l ++ [.int .i64 (a : Int), .string (goes s a)] = fms s (l ++ [a]) := by simp [fms]
theorem fms_at (s : ByteArray) (l : List Nat) (j : Nat) (h : j < l.length) : (fms s l)[j * 2]? = some (.int .i64 (l[j] : Int)) ∧ (fms s l)[j * 2 + 1]? = some (.string (goes s l[j])) := by
  induction l generalizing j with
  | nil => simp at h
  | cons p l ih =>
    cases j with
    | zero => simp [fms]
    | succ j =>
      have := ih j (by simpa using h)
      have e : fms s (p :: l) = [.int .i64 (p : Int), .string (goes s p)] ++ fms s l := by simp [fms]
      rw [e, List.getElem?_append_right (by simp; omega), List.getElem?_append_right (by simp; omega)]
      simp only [List.length_cons, List.length_nil, List.getElem_cons_succ]
      rw [show (j + 1) * 2 - (0 + 1 + 1) = j * 2 from by omega, show (j + 1) * 2 + 1 - (0 + 1 + 1) = j * 2 + 1 from by omega]
      exact this
/-- the slice v of moves in s, of the call's own -/
def Moves (w : World) (B : Nat) (v : Value) (s : ByteArray) (l : List Nat) : Prop := w.ownsRow B 54 2 v l.length (fms s l)
theorem Moves.below {w w' : World} {B : Nat} {v : Value} {s : ByteArray} {l : List Nat} (h : Moves w B v s l) (hb : Below w.heap.size w w') : Moves w' B v s l := by
  refine ⟨h.1, ?_⟩
  rcases h.2 with h2 | ⟨g, cap, cur, e, h1, hg, h3, h4, h5, h6⟩
  · exact .inl h2
  · exact .inr ⟨g, cap, cur, e, h1, (hb.block g (Array.getElem?_eq_some_iff.1 hg).1).trans hg, h3, h4, h5, h6⟩

theorem wpList_appM {ops : Array Oper} {rest : List Oper} {o : Oper} {a : Act} {Q : Exit → Act → World → Prop} {W : World} (w0 : World) (hgd : o.guard = none) (x y : Operand)
    (ho : o.op = .call { callee := .builtin .append, args := #[x, y], argTypes := #[51, 51] })
    (B : Nat) (v : Value) (s : ByteArray) (zs : List Nat) (hs : a.eval x = v) (hI : Moves w0 B v s zs) (i : Nat) (hx : a.eval y = .slice (some ⟨w0.heap.size, 0, none⟩) 1 1) (hl : zs.length < 16777216) (hB : B ≤ w0.heap.size) (hW : W = w0.alloc (.cells #[.int .i64 (i : Int), .string (goes s i)] 54))
    (h : ∀ v' w', Moves w' B v' s (zs ++ [i]) → Below B w0 w' → w0.grownBy w' v.ownBlock → wpList Tryd.prog ops Q rest (a.put o.dst v') w') : wpList Tryd.prog ops Q (o :: rest) a W := by
  subst hW
  obtain ⟨i0, hi, hz0, hz1, hz2⟩ := info_parts Tryd.infoMove
  have hlt : ∀ b, v.ownBlock = some b → B ≤ b := fun b hb => (World.ownsRow.lt hI b hb).1
  refine wpList_append_own _ hgd x y 51 ho B 54 i0 (.agg #[.int .i64 0, .string ⟨#[]⟩]) 2 24 Tryd.underlying51 hi hz0 hz1 hz2 rfl (by decide) v zs.length (fms s zs) hs (World.ownsRow.alloc hI _) ⟨w0.heap.size, 0, none⟩ 1 1 [.int .i64 (i : Int), .string (goes s i)] hx rfl
    (cell_two_new _ _ _ _) (by intro u hu; simp at hu; rcases hu with rfl | rfl <;> rfl) (by unfold maxLen; omega) (by omega) (by simp; omega) ?_
  intro v' w' h1 h2 _
  refine h v' w' ?_ (((Below.refl _ _).alloc hB _).grown h2 (by simp; omega) hlt) ((World.grownBy_alloc _ _ _).trans h2)
  unfold Moves
  rw [fms_snoc] at h1
  simpa using h1

/-- what a reader of the slice needs: each element's two cells -/
theorem Moves.form {w : World} {B : Nat} {v : Value} {s : ByteArray} {zs : List Nat} (h : Moves w B v s zs) :
    ∃ a n cap, v = .slice a n cap ∧ n = zs.length ∧ ∀ j, j < n → ∃ g, a = some ⟨g, 0, none⟩ ∧ B ≤ g ∧ g < w.heap.size ∧ w.cell? ⟨g, j * 2, none⟩ = some (.int .i64 (zs.getD j 0 : Int)) ∧ w.cell? ⟨g, j * 2 + 1, none⟩ = some (.string (goes s (zs.getD j 0))) := by
  have h' := h
  rcases h.2 with ⟨rfl, h0⟩ | ⟨g, cap, cur, rfl, hb, hg, hnc, hcm, hcs, ht⟩
  · exact ⟨_, _, _, rfl, h0.symm, fun j hj => absurd hj (Nat.not_lt_zero _)⟩
  · refine ⟨_, _, _, rfl, rfl, fun j hj => ⟨g, rfl, hb, (Array.getElem?_eq_some_iff.1 hg).1, ?_, ?_⟩⟩
    · rw [World.ownsRow.cellAt h' (j * 2) (by omega), (fms_at s zs j hj).1]; simp [hj]
    · rw [World.ownsRow.cellAt h' (j * 2 + 1) (by omega), (fms_at s zs j hj).2]; simp [hj]
theorem moves_mono {w : World} {B B' : Nat} {v : Value} {s : ByteArray} {l : List Nat} (h : Moves w B' v s l) (hb : B ≤ B') : Moves w B v s l := by
  refine ⟨h.1, ?_⟩
  rcases h.2 with h2 | ⟨g, cap, cur, e, h1, r⟩
  · exact .inl h2
  · exact .inr ⟨g, cap, cur, e, Nat.le_trans hb h1, r⟩

theorem landing_yes (s : ByteArray) (i : Int) (p : Addr) (w : World) (hp : isPd s = true) (hL : Laid w p) (h : 0 ≤ toI s i) :
    Calls Tryd.prog 52 #[.string s, .int .i64 i] w fun e w' => e = .returned (.tuple #[.int .i64 (toI s i), .nilIface]) ∧ Below w.heap.size w w' :=
  (landing s i p w hp hL).mono fun e w' ⟨hc, hb⟩ => by
    rcases hc with ⟨_, he⟩ | ⟨h0, _⟩
    · exact ⟨he, hb⟩
    · omega
def Failed (p : Addr) (w : World) (e : Ending) (w' : World) : Prop := ∃ ev, ErrIs p ev ∧ e = .returned (.tuple #[.int .i64 0, ev]) ∧ Below w.heap.size w w'
theorem landing_no (s : ByteArray) (i : Int) (p : Addr) (w : World) (hp : isPd s = true) (hL : Laid w p) (h : ¬ 0 ≤ toI s i) :
    Calls Tryd.prog 52 #[.string s, .int .i64 i] w (Failed p w) :=
  (landing s i p w hp hL).mono fun e w' ⟨hc, hb⟩ => by
    rcases hc with ⟨h0, _⟩ | ⟨_, ev, h1, h2⟩
    · omega
    · exact ⟨ev, h1, h2, hb⟩
theorem is_err (ev : Value) (p : Addr) (w : World) (hL : Laid w p) (h : ErrIs p ev) :
    Calls Tryd.prog 53 #[ev, .iface 131 (.pointer (some p))] w fun e w' => e = .returned (.bool true) ∧ Below w.heap.size w w' := by
  rcases h with rfl | ⟨c, rfl⟩
  · exact (is_same p w).mono fun e w' ⟨he, hw⟩ => ⟨he, by rw [← hw]; exact Below.refl _ _⟩
  · exact (is_taken c p w hL.2.2 hL.1).mono fun e w' ⟨he, hw⟩ => ⟨he, by rw [hw]; exact (Below.refl _ _).alloc (Nat.le_refl _) _⟩

set_option maxHeartbeats 2000000 in
theorem movesOf (s : ByteArray) (p : Addr) (w : World) (hp : isPd s = true) (hL : Laid w p) :
    Calls Tryd.prog 45 #[.string s] w fun e w' => ∃ v, e = .returned v ∧ Moves w' w.heap.size v s (moves s) ∧ Below w.heap.size w w' := by
  obtain ⟨z1, z2, hal⟩ := isPd_in hp
  clear hal
  have HP := Lib.hid hp
  have HL := Lib.hid hL
  clear hp hL
  go_enter Tryd.func45, Tryd.ntmps45
  go_wp2_with fail
  go_loopw [3, 9] (fun v i wr => ∃ k : Nat, k ≤ s.size ∧ i = .int .i64 k ∧ Moves wr w.heap.size v s (mvTo s k) ∧ Below w.heap.size w wr) (fun _ i _ => s.size - (intOf i).toNat)
  case atStart => exact ⟨0, Nat.zero_le _, rfl, World.ownsRow_nil _ _ _ _, Below.refl _ _⟩
  case round =>
    obtain ⟨k, hk, rfl, hI, hbw⟩ := hrel
    have hle := hbw.size
    have LR := Lib.hid (HL.out.below hbw)
    have HI := Lib.hid hI
    have HB := Lib.hid hbw
    have hl := mvTo_len s k
    clear hI hbw
    by_cases hlt : k < s.size
    · by_cases hgo : 0 ≤ toI s k
      · have R := Lib.hid (mvTo_yes hgo)
        have hbd := toI_bd s k
        obtain ⟨t, ht⟩ := Int.eq_ofNat_of_zero_le hgo
        have hly := fun wx (h : Laid wx p) => landing_yes s k p wx HP.out h hgo
        rw [ht] at hly
        have HLY := Lib.hid hly
        have hG : mvB s k t = goes s k := by unfold goes; rw [ht]; rfl
        have HG := Lib.hid hG
        have ht2 : t < s.size := by omega
        clear hly hG hgo ht hbd
        go_wp2_with (first
          | (go_at_call 52; refine (HLY.out _ LR.out).mono ?_; rintro e w2 ⟨rfl, hb2⟩; have hle2 := hb2.size; have L2 := Lib.hid (LR.out.below hb2); have HI2 := Lib.hid (HI.out.below hb2); have HB2 := Lib.hid (HB.out.trans (hb2.mono hle)); have hg2 := L2.out.1; clear hb2)
          | (go_at_call 53; refine (is_nil p _).mono ?_; rintro e w' ⟨rfl, rfl⟩)
          | (go_at_call 54; refine (withMoved s k t _ z2 hlt ht2).mono ?_; rintro e w3 ⟨rfl, hb3⟩; rw [HG.out]; have hle3 := hb3.size; have HI3 := Lib.hid (HI2.out.below hb3); have HB3 := Lib.hid (HB2.out.trans (hb3.mono (Nat.le_trans hle hle2))); clear hb3)
          | (at_builtin; refine wpList_appM w3 rfl _ _ rfl w.heap.size _ s (mvTo s k) rfl HI3.out k rfl (by omega) (by omega) rfl ?_; intro v' w4 hI4 hb4 hg4; have HB4 := Lib.hid (HB3.out.trans hb4); clear hb4))
        go_roundw
        case rel => exact ⟨k + 1, by omega, by go_num, by rw [R.out]; exact hI4, HB4.out⟩
        case measure => (simp [intOf]; try omega)
      · have R := Lib.hid (mvTo_no hgo)
        have HLN := Lib.hid (fun wx (h : Laid wx p) => landing_no s k p wx HP.out h hgo)
        clear hgo
        go_wp2_with (first
          | (go_at_call 52; refine (HLN.out _ LR.out).mono ?_; rintro e w2 ⟨ev, hev, rfl, hb2⟩; have HEV := Lib.hid hev; have hle2 := hb2.size; have L2 := Lib.hid (LR.out.below hb2); have HI2 := Lib.hid (HI.out.below hb2); have HB2 := Lib.hid (HB.out.trans (hb2.mono hle)); have hg2 := L2.out.1; clear hb2 hev)
          | (go_at_call 53; refine (is_err ev p _ L2.out HEV.out).mono ?_; rintro e w3 ⟨rfl, hb3⟩; have HI3 := Lib.hid (HI2.out.below hb3); have HB3 := Lib.hid (HB2.out.trans (hb3.mono (Nat.le_trans hle hle2))); clear hb3))
        go_roundw
        case rel => exact ⟨k + 1, by omega, by go_num, by rw [R.out]; exact HI3.out, HB3.out⟩
        case measure => (simp [intOf]; try omega)
    · obtain rfl : k = s.size := by omega
      go_wp2
      go_ret
      exact ⟨_, rfl, HI.out, HB.out⟩
end Go.Proofs.YteoggpollgkfiaaDoor
