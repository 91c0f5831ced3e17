/- NeededStones, impl and spec. -/
import Derived.Test.YtfokgobmncbkfabNeedM
import Derived.Test.YtfokgobmncbkfabCan
import Derived.Test.YtfokgobmncbkfabStones
import Derived.RegionTactic
namespace Go.Proofs.Ytfokgobmncbkfab
set_option linter.unusedVariables false
open Go.RowKit

def needL (s : ByteArray) (L : Int) : List Int := if asked s L ∧ canB s L = true then ndTo s L.toNat s.size else []
def needB (s : ByteArray) (L : Int) : Bool := asked s L && canB s L
theorem need_1 {s : ByteArray} {L : Int} (h : asked s L = false) : needL s L = [] ∧ needB s L = false := by simp [needL, needB, h]
theorem need_2 {s : ByteArray} {L : Int} (h : canB s L = false) : needL s L = [] ∧ needB s L = false := by simp [needL, needB, h]
theorem need_3 {s : ByteArray} {l : Nat} (h : asked s l = true) (h2 : canB s l = true) : needL s l = ndTo s l s.size ∧ needB s l = true := by simp [needL, needB, h, h2]
theorem needL_len (s : ByteArray) (L : Int) : (needL s L).length ≤ 40 := by
  unfold needL; split
  · rename_i h; have := ndTo_len s L.toNat s.size; have := (asked_out h.1).2.2.1; omega
  · simp
theorem asked_setB {s : ByteArray} {L : Int} {p : Nat} (h : asked s L = true) : asked (setB s p 46) L = true := by
  unfold asked at h ⊢
  rw [Bool.and_eq_true] at h ⊢
  exact ⟨setB_isRv h.1, h.2⟩
theorem canB_nat (s : ByteArray) (l : Nat) : canB s l = decide (gapLen s (s.size + 1) ≤ l) := by unfold canB; rw [decide_eq_decide]; omega

/-- 'append(s, z)' behind other new blocks: the new cell's block is told by its number -/
theorem wpList_app' {ops : Array Oper} {rest : List Oper} {o : Oper} {a : Act} {Q : Exit → Act → World → Prop} {W : World} (w0 : World) (hgd : o.guard = none) (s x : Operand)
    (ho : o.op = .call { callee := .builtin .append, args := #[s, x], argTypes := #[30, 30] })
    (B : Nat) (v : Value) (zs : List Int) (hs : a.eval s = v) (hI : Ints w0 B v zs) (z : Int) (nb : Nat) (hx : a.eval x = .slice (some ⟨nb, 0, none⟩) 1 1) (hnb : nb = w0.heap.size) (hl : zs.length < 16777216) (hB : B ≤ w0.heap.size) (hW : W = w0.alloc (.cells #[.int .i64 z] 3))
    (h : ∀ v' w', Ints w' B v' (zs ++ [z]) → Below B w0 w' → w0.grownBy w' v.ownBlock → wpList Try.prog ops Q rest (a.put o.dst v') w') : wpList Try.prog ops Q (o :: rest) a W := by
  subst hnb
  exact wpList_app w0 hgd s x ho B v zs hs hI z hx hl hB hW h

set_option maxHeartbeats 2000000 in
theorem specNeed (s : ByteArray) (L : Int) (w : World) (hs : s.size ≤ 1048576) :
    Calls Try.prog 17 #[.string s, .int .i64 L] w (IntsPost w.heap.size (needL s L) (needB s L) w) := by
  cases h1 : asked s L
  · have J := Lib.hid (need_1 h1)
    have G := Lib.hid h1
    clear h1
    go_enter Try.func17, Try.ntmps17
    go_wp2_with (go_at_call 24; refine (specAsked _ _ _ hs).mono ?_; rintro e w' ⟨rfl, rfl⟩; rw [G.out])
    go_ret2
    exact ⟨_, by rw [J.out.2]; rfl, by rw [J.out.1]; exact World.ownsRow_nil _ _ _ _, Below.refl _ _⟩
  have hC := fun wx => specCan s L wx h1
  rw [canB_left h1] at hC
  cases h2 : canB s L
  · have J := Lib.hid (need_2 h2)
    rw [h2] at hC
    have G := Lib.hid h1
    have HC := Lib.hid hC
    clear h1 h2 hC
    go_enter Try.func17, Try.ntmps17
    go_wp2_with (first
      | (go_at_call 24; refine (specAsked _ _ _ hs).mono ?_; rintro e w' ⟨rfl, rfl⟩; rw [G.out])
      | (go_at_call 38; refine (HC.out _).mono ?_; rintro e w1 ⟨rfl, hb1⟩))
    go_ret2
    exact ⟨_, by rw [J.out.2]; rfl, by rw [J.out.1]; exact World.ownsRow_nil _ _ _ _, hb1⟩
  · obtain ⟨hrv, hz1, hz2, hl1, hl2⟩ := asked_out h1
    obtain ⟨l, rfl⟩ := Int.eq_ofNat_of_zero_le (show 0 ≤ L by omega)
    rw [h2] at hC
    have J := Lib.hid (need_3 h1 h2)
    have G := Lib.hid h1
    have HC := Lib.hid hC
    have HCW : Hid (∀ p wx, Calls Try.prog 38 #[.string (setB s p 46), .int .i64 l] wx fun e w' => e = .returned (.bool (decide (gapLen (setB s p 46) (s.size + 1) ≤ l))) ∧ Below wx.heap.size wx w') := Lib.hid (fun p wx => by
      have := specCan (setB s p 46) l wx (asked_setB h1)
      rw [canB_left (asked_setB h1), canB_nat, setB_size] at this
      exact this)
    clear h1 h2 hC hrv
    go_enter Try.func17, Try.ntmps17
    go_wp2_with (first
      | (go_at_call 24; refine (specAsked _ _ _ hs).mono ?_; rintro e w' ⟨rfl, rfl⟩; rw [G.out])
      | (go_at_call 38; refine (HC.out _).mono ?_; rintro e w1 ⟨rfl, hb1⟩))
    have s1 := hb1.size
    go_loopw [6, 7] (fun v i wr => ∃ k : Nat, k ≤ s.size ∧ i = .int .i64 ((k : Int) + 1) ∧ Ints wr w1.heap.size v (ndTo s l k) ∧ Below w1.heap.size w1 wr) (fun _ i _ => s.size + 1 - (intOf i).toNat)
    case atStart => exact ⟨0, Nat.zero_le _, rfl, World.ownsRow_nil _ _ _ _, Below.refl _ _⟩
    case round =>
      obtain ⟨k, hk, rfl, hI, hbr⟩ := hrel
      have hle := hbr.size
      by_cases hlt : k < s.size
      · have hlen := ndTo_len s l k
        cases h2 : stn s (k + 1)
        · have R := Lib.hid (ndTo_no (s := s) (l := l) (k := k) (by simp [ned, h2]))
          have G2 := Lib.hid ((stand_in (by omega) (by omega)).trans h2)
          clear h2
          go_wp2_with (go_at_call 39; refine (rvStand s (k + 1) _ hs (by omega)).mono ?_; rintro e w' ⟨rfl, rfl⟩; rw [G2.out])
          go_roundw
          case rel => exact ⟨k + 1, by omega, by go_num, by rw [R.out]; exact hI, hbr⟩
          case measure => (simp [intOf]; try omega)
        · have G2 := Lib.hid ((stand_in (by omega) (by omega)).trans h2)
          have hcw := HCW.out (k + 1)
          cases h3 : decide (gapLen (setB s (k + 1) 46) (s.size + 1) ≤ l)
          · have R := Lib.hid (ndTo_yes (s := s) (l := l) (k := k) (by simp only [ned, h2, h3]; rfl))
            rw [h3] at hcw
            have HW := Lib.hid hcw
            clear h2 h3 hcw
            go_wp2_with (first
              | (go_at_call 39; refine (rvStand s (k + 1) _ hs (by omega)).mono ?_; rintro e w' ⟨rfl, rfl⟩; rw [G2.out])
              | (go_at_call 40; refine (specWithout s (k + 1) _ hs (by omega) (by omega)).mono ?_; rintro e w3 ⟨rfl, hb3⟩)
              | (go_at_call 38; refine (HW.out _).mono ?_; rintro e w4 ⟨rfl, hb4⟩)
              | (at_builtin; refine wpList_app w4 rfl _ _ rfl w1.heap.size _ (ndTo s l k) rfl ((hI.below hb3).below hb4) ((k : Int) + 1) rfl (by omega) (Nat.le_trans hle (Nat.le_trans hb3.size hb4.size)) rfl ?_; intro v' w5 hI5 hb5 hg5))
            go_roundw
            case rel => exact ⟨k + 1, by omega, by go_num, by rw [R.out]; exact hI5, ((hbr.trans (hb3.mono hle)).trans (hb4.mono (Nat.le_trans hle hb3.size))).trans hb5⟩
            case measure => (simp [intOf]; try omega)
          · have R := Lib.hid (ndTo_no (s := s) (l := l) (k := k) (by simp only [ned, h2, h3]; rfl))
            rw [h3] at hcw
            have HW := Lib.hid hcw
            clear h2 h3 hcw
            go_wp2_with (first
              | (go_at_call 39; refine (rvStand s (k + 1) _ hs (by omega)).mono ?_; rintro e w' ⟨rfl, rfl⟩; rw [G2.out])
              | (go_at_call 40; refine (specWithout s (k + 1) _ hs (by omega) (by omega)).mono ?_; rintro e w3 ⟨rfl, hb3⟩)
              | (go_at_call 38; refine (HW.out _).mono ?_; rintro e w4 ⟨rfl, hb4⟩))
            go_roundw
            case rel => exact ⟨k + 1, by omega, by go_num, by rw [R.out]; exact (hI.below hb3).below hb4, (hbr.trans (hb3.mono hle)).trans (hb4.mono (Nat.le_trans hle hb3.size))⟩
            case measure => (simp [intOf]; try omega)
      · obtain rfl : k = s.size := by omega
        go_wp2
        go_ret2
        exact ⟨_, by rw [J.out.2]; rfl, by rw [J.out.1]; exact ints_mono' hI s1, hb1.trans (hbr.mono s1)⟩

set_option maxHeartbeats 2000000 in
theorem implNeed (s : ByteArray) (L : Int) (w : World) (hs : s.size ≤ 1048576) :
    Calls Try.prog 18 #[.string s, .int .i64 L] w (IntsPost w.heap.size (needL s L) (needB s L) w) := by
  have C := fun wx => implCan s L wx hs
  cases h1 : asked s L
  · rw [canV_no h1] at C
    have HC := Lib.hid C
    have J := Lib.hid (need_1 h1)
    clear h1 C
    go_enter Try.func18, Try.ntmps18
    go_wp2_with (go_at_call 41; refine (HC.out _).mono ?_; rintro e w1 ⟨rfl, hb1⟩)
    go_ret2
    exact ⟨_, by rw [J.out.2]; rfl, by rw [J.out.1]; exact World.ownsRow_nil _ _ _ _, hb1⟩
  rw [canV_yes h1] at C
  cases h2 : canB s L
  · rw [h2] at C
    have HC := Lib.hid C
    have J := Lib.hid (need_2 h2)
    clear h1 h2 C
    go_enter Try.func18, Try.ntmps18
    go_wp2_with (go_at_call 41; refine (HC.out _).mono ?_; rintro e w1 ⟨rfl, hb1⟩)
    go_ret2
    exact ⟨_, by rw [J.out.2]; rfl, by rw [J.out.1]; exact World.ownsRow_nil _ _ _ _, hb1⟩
  · obtain ⟨hrv, hz1, hz2, hl1, hl2⟩ := asked_out h1
    obtain ⟨l, rfl⟩ := Int.eq_ofNat_of_zero_le (show 0 ≤ L by omega)
    rw [h2] at C
    have HC := Lib.hid C
    have J := Lib.hid (need_3 h1 h2)
    have hok : OkFrom s l (s.size + 1) 0 := by rw [← gap_ok]; rw [canB_nat] at h2; simpa using h2
    have HOK := Lib.hid hok
    have hpos : 0 < (strides s).length := by
      obtain ⟨y, hy⟩ := strides_all s 0 (by omega) (stand_0 s)
      exact List.length_pos_of_mem hy
    clear h1 h2 C hok
    go_enter Try.func18, Try.ntmps18
    go_wp2_with (first
      | (go_at_call 41; refine (HC.out _).mono ?_; rintro e w1 ⟨rfl, hb1⟩)
      | (go_at_call 32; refine (stridesOf s _ hz2).mono ?_; rintro e w2 ⟨v, rfl, hI, hb2⟩; obtain ⟨a, n, cap, rfl, hn0, hcell0⟩ := hI.form; have HN := Lib.hid hn0; have HCC := Lib.hid hcell0; clear hn0 hcell0 hI))
    have hnb : n ≤ 41 := by have := strides_len s; have := HN.out; omega
    have hn1 : 1 ≤ n := by have := HN.out; omega
    have s1 := hb1.size
    have s2 := hb2.size
    go_loopw [9, 10] (fun v i wr => ∃ j : Nat, j + 1 ≤ n ∧ i = .int .i64 ((j : Int) + 1) ∧ Ints wr w2.heap.size v (ndTo s l (pe (strides s) (j + 1) - 1)) ∧ Below w2.heap.size w2 wr) (fun _ i _ => n + 1 - (intOf i).toNat)
    case atStart => exact ⟨0, by omega, rfl, by rw [nd_start s l hpos]; exact World.ownsRow_nil _ _ _ _, Below.refl _ _⟩
    case round =>
      obtain ⟨j, hj, rfl, hI, hb⟩ := hrel
      have hle := hb.size
      by_cases hlt : j + 1 < n
      · have hjl : j + 1 < (strides s).length := by have := HN.out; omega
        obtain ⟨g, rfl, hg1, hg2, hc0, _⟩ := HCC.out j (by omega)
        obtain ⟨g', hgg, _, _, hd0, hd1⟩ := HCC.out (j + 1) hlt
        have hgg2 : g = g' := by injection hgg with e; injection e
        subst hgg2
        clear hgg
        have hst := pe_stone hjl
        have hn := ned_iff hjl HOK.out hst.2
        have hstep := nd_step (l := l) hjl
        have hf := str_fst hjl
        have p1 := strides_lt s _ (str_getD (s := s) (j := j) (by omega))
        have p2 := strides_lt s _ (str_getD hjl)
        have hc0 := (hb.cell (p := ⟨g, j * 2, none⟩) hg2).trans hc0
        have hd0 := (hb.cell (p := ⟨g, (j + 1) * 2, none⟩) hg2).trans hd0
        have hd1 := (hb.cell (p := ⟨g, (j + 1) * 2 + 1, none⟩) hg2).trans hd1
        have hlen := ndTo_len s l (pe (strides s) (j + 1) - 1)
        rw [hf] at hd0
        have HJL := Lib.hid hjl
        clear hjl hf
        generalize pe (strides s) (j + 1) = q at *
        generalize ((strides s).getD j (0, 0)).1 = x at *
        generalize ((strides s).getD (j + 1) (0, 0)).2 = y at *
        have HJL2 := Lib.hid hstep
        have HND := Lib.hid hn
        have hq2 : q - 1 ≤ 40 := by omega
        have hgw : g < wr.heap.size := by omega
        have i1 : (j : Int) < n := by omega
        have i2 : (j : Int) + 1 < n := by omega
        clear hstep hn HCC
        go_wp2
        go_cut [11] (fun s11 wx => ∃ b8, s11 = .pointer (some ⟨b8, 0, none⟩) ∧ SBox wx b8 (.int .i64 (x : Int)) (.int .i64 (y : Int)) ∧ wr.grownBy wx none)
        case first =>
          go_region
          go_wp2_with fail
          go_meet
          refine ⟨_, rfl, ?_, ?_⟩
          · exact heap_alloc_new wr _
          · repeat (first | exact World.grownBy.refl _ _ | apply grown_drew | apply grown_alloc)
        case rest =>
          obtain ⟨b8, rfl, hsb, hgx⟩ := hcut
          have z0 := hsb.two.cell0
          have z1 := hsb.two.cell1
          have hIx := hI.kept hgx (Classical.em _)
          have hbx := hb.grown hgx hle (by intro k hk; cases hk)
          have hlx := hgx.size
          have e0 := hgx.cell hd0 (by simp)
          have e1 := hgx.cell hd1 (by simp)
          have hgw2 : g < wc.heap.size := by omega
          clear hI hb hd0 hd1 hc0 hsb hgx
          by_cases hnd : l < y - x
          · have R := Lib.hid (show ndTo s l (pe (strides s) (j + 1 + 1) - 1) = ndTo s l (q - 1) ++ [(q : Int)] by rw [HJL2.out, HND.out, decide_eq_true hnd]; rfl)
            have hni : (l : Int) < (y : Int) - x := by omega
            go_wp2_with (first
              | (go_at_call 33; refine (length _ _ _ (by omega) (by omega)).mono ?_; rintro e w' ⟨rfl, rfl⟩)
              | (at_builtin; refine wpList_app' _ rfl _ _ rfl w2.heap.size _ (ndTo s l (q - 1)) rfl (World.ownsRow.alloc hIx _) (q : Int) (wc.heap.size + 1) rfl (by simp) (by omega) (by simp; omega) rfl ?_; intro v' w5 hI5 hb5 hg5))
            go_roundw
            case rel => first | exact ⟨j + 1, by omega, by go_num, by rw [R.out]; exact hI5, (hbx.alloc (by omega) _).trans hb5⟩ | ((repeat apply Exists.intro); exact ⟨⟨j + 1, by omega, by go_num, by rw [R.out]; exact hI5, (hbx.alloc (by omega) _).trans hb5⟩, rfl⟩)
            case measure => (simp [intOf]; try omega)
          · have R := Lib.hid (show ndTo s l (pe (strides s) (j + 1 + 1) - 1) = ndTo s l (q - 1) by rw [HJL2.out, HND.out, decide_eq_false hnd]; simp)
            have hni : ¬ (l : Int) < (y : Int) - x := by omega
            go_wp2_with (go_at_call 33; refine (length _ _ _ (by omega) (by omega)).mono ?_; rintro e w' ⟨rfl, rfl⟩)
            go_roundw
            case rel => exact ⟨j + 1, by omega, by go_num, by rw [R.out]; exact World.ownsRow.alloc hIx _, hbx.alloc (by omega) _⟩
            case measure => (simp [intOf]; try omega)
      · obtain rfl : n = j + 1 := by omega
        have hI2 := hI
        rw [HN.out, nd_end] at hI2
        have HI := Lib.hid hI2
        clear hI hI2 HCC
        go_wp2
        go_ret2
        exact ⟨_, by rw [J.out.2]; rfl, by rw [J.out.1]; exact ints_mono' HI.out (by omega), (hb1.trans (hb2.mono s1)).trans (hb.mono (by omega))⟩
end Go.Proofs.Ytfokgobmncbkfab
