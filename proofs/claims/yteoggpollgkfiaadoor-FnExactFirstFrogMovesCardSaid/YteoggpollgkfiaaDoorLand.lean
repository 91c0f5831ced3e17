/- impl.checkFree, impl.landingOf: the stone to which a frog goes, or an error. -/
import Derived.Test.YteoggpollgkfiaaDoorTo
import Derived.Test.YteoggpollgkfiaaDoorErr
namespace Go.Proofs.YteoggpollgkfiaaDoor
set_option linter.unusedVariables false
open Go.RowKit

theorem Laid.below {w w' : World} {p : Addr} (h : Laid w p) (hb : Below w.heap.size w w') : Laid w' p :=
  ⟨(hb.cell (p := ⟨0, 0, none⟩) (by have := h.2.2; show 0 < _; omega)).trans h.1, (hb.cell (p := ⟨1, 0, none⟩) h.2.2).trans h.2.1, Nat.lt_of_lt_of_le h.2.2 hb.size⟩
theorem Laid.alloc {w : World} {p : Addr} (h : Laid w p) (o : Obj) : Laid (w.alloc o) p := h.below ((Below.refl _ _).alloc (Nat.le_refl _) o)

theorem checkFree_out (s : ByteArray) (i : Int) (p : Addr) (w : World) (hz : s.size ≤ 9) (hL : Laid w p) (h : i < 0 ∨ (s.size : Int) ≤ i) :
    Calls Tryd.prog 69 #[.string s, .int .i64 i] w fun e w' => e = .returned (.iface 131 (.pointer (some p))) ∧ w = w' := by
  have hg := hL.1
  clear hL
  by_cases h0 : i < 0
  · clear h
    go_enter Tryd.func69, Tryd.ntmps69
    go_wp2
    go_ret
    exact ⟨rfl, rfl⟩
  · have h1 : ¬ i < (s.size : Int) := by omega
    have h2 : (s.size : Int) ≤ i := by omega
    clear h
    go_enter Tryd.func69, Tryd.ntmps69
    go_wp2
    go_ret
    exact ⟨rfl, rfl⟩
theorem checkFree_free (s : ByteArray) (i : Int) (k : Nat) (w : World) (hz : s.size ≤ 9) (hi : i = k) (hk : k < s.size) (h : sg s k = 46) :
    Calls Tryd.prog 69 #[.string s, .int .i64 i] w fun e w' => e = .returned .nilIface ∧ w = w' := by
  subst hi
  rw [sg_get hk] at h
  go_enter Tryd.func69, Tryd.ntmps69
  go_wp2
  go_ret
  exact ⟨rfl, rfl⟩
theorem checkFree_taken (s : ByteArray) (i : Int) (k : Nat) (c : Int) (w : World) (hz : s.size ≤ 9) (hi : i = k) (hk : k < s.size) (h : sg s k = c) (hc : c ≠ 46) :
    Calls Tryd.prog 69 #[.string s, .int .i64 i] w fun e w' => e = .returned (.iface 87 (.agg #[.int .u8 c])) ∧ w = w' := by
  subst hi
  rw [sg_get hk] at h
  subst h
  have hd : ((s[k].toNat : Int) != 46) = true := by simpa using hc
  clear hc
  go_enter Tryd.func69, Tryd.ntmps69
  go_wp2
  go_ret
  exact ⟨rfl, rfl⟩

theorem as_hit' (c : Int) (b : Nat) (old : Value) (p : Addr) (w : World) (hL : Laid w p) (ht0 : w.cell? ⟨b, 0, none⟩ = some old) (hf0 : w.frozen? ⟨b, 0, none⟩ = false) :
    Calls Tryd.prog 70 #[.iface 87 (.agg #[.int .u8 c]), .iface 89 (.pointer (some ⟨b, 0, none⟩))] w fun ev w' => ev = .returned (.bool true) ∧ w'.cell? ⟨b, 0, none⟩ = some (.int .u8 c) ∧ Below b w w' := by
  have hlt : b < w.heap.size := World.block_lt_of_cell? w _ ht0
  refine (as_hit c ⟨b, 0, none⟩ old w hL.2.1 hL.2.2 ht0 hf0).mono ?_
  rintro e w' ⟨he, rfl⟩
  refine ⟨he, ?_, ?_⟩
  · refine World.cell?_setCell_same (u := old) _ _ _ ?_
    rw [World.cell?_alloc_lt _ _ ⟨b, 0, none⟩ (by simp; omega), World.cell?_alloc_lt _ _ ⟨b, 0, none⟩ (by simp; omega), World.cell?_alloc_lt _ _ ⟨b, 0, none⟩ (by simp; omega), World.cell?_alloc_lt _ _ ⟨b, 0, none⟩ hlt]; exact ht0
  · exact ((((((Below.refl b w).alloc (by omega) _).alloc (by simp; omega) _).alloc (by simp; omega) _).alloc (by simp; omega) _).setCell (Nat.le_refl _) _)
theorem as_miss' (q t p : Addr) (w : World) (hL : Laid w p) :
    Calls Tryd.prog 70 #[.iface 131 (.pointer (some q)), .iface 89 (.pointer (some t))] w fun ev w' => ev = .returned (.bool false) ∧ Below w.heap.size w w' := by
  refine (as_miss q t w hL.2.1 hL.2.2).mono ?_
  rintro e w' ⟨he, rfl⟩
  exact ⟨he, (((Below.refl w.heap.size w).alloc (by omega) _).alloc (by simp) _).alloc (by simp; omega) _⟩

def ErrIs (p : Addr) (ev : Value) : Prop := ev = .iface 131 (.pointer (some p)) ∨ ∃ c : Int, ev = .iface 87 (.agg #[.int .u8 c])
def LandPost (s : ByteArray) (i : Int) (p : Addr) (w : World) (e : Ending) (w' : World) : Prop :=
  (0 ≤ toI s i ∧ e = .returned (.tuple #[.int .i64 (toI s i), .nilIface]) ∨ toI s i < 0 ∧ ∃ ev, ErrIs p ev ∧ e = .returned (.tuple #[.int .i64 0, ev])) ∧ Below w.heap.size w w'
theorem LandPost.go {s : ByteArray} {i n : Int} {p : Addr} {w w' : World} (h : toI s i = n) (h0 : 0 ≤ n) (hb : Below w.heap.size w w') : LandPost s i p w (.returned (.tuple #[.int .i64 n, .nilIface])) w' :=
  ⟨.inl ⟨by omega, by rw [h]⟩, hb⟩
theorem LandPost.no1 {s : ByteArray} {i : Int} {p : Addr} {w w' : World} (h : toI s i = -1) (hb : Below w.heap.size w w') : LandPost s i p w (.returned (.tuple #[.int .i64 0, .iface 131 (.pointer (some p))])) w' :=
  ⟨.inr ⟨by omega, _, .inl rfl, rfl⟩, hb⟩
theorem LandPost.no2 {s : ByteArray} {i c : Int} {p : Addr} {w w' : World} (h : toI s i = -1) (hb : Below w.heap.size w w') : LandPost s i p w (.returned (.tuple #[.int .i64 0, .iface 87 (.agg #[.int .u8 c])])) w' :=
  ⟨.inr ⟨by omega, _, .inr ⟨c, rfl⟩, rfl⟩, hb⟩
theorem new_below {w w1 : World} {o : Obj} (h : Below w.heap.size (w.alloc o) w1) : Below w.heap.size w w1 := ((Below.refl _ w).alloc (Nat.le_refl _) o).trans h
theorem new_below' {w w1 : World} {o : Obj} (h : Below (w.alloc o).heap.size (w.alloc o) w1) : Below w.heap.size w w1 := ((Below.refl _ w).alloc (Nat.le_refl _) o).trans (h.mono (by simp))

theorem landing_o (s : ByteArray) (i : Int) (p : Addr) (w : World) (hp : isPd s = true) (hL : Laid w p) (h : i < 0 ∨ (s.size : Int) ≤ i) :
    Calls Tryd.prog 52 #[.string s, .int .i64 i] w (LandPost s i p w) := by
  obtain ⟨z1, z2, hal⟩ := isPd_in hp
  clear hal hp
  have R := Lib.hid (toI_out h)
  have hg := hL.1
  clear hL
  by_cases h0 : i < 0
  · clear h
    go_enter Tryd.func52, Tryd.ntmps52
    go_wp2
    go_quiet (fail)
    go_wp2
    go_ret2
    exact LandPost.no1 R.out (bel_drewN _ _)
  · have h1 : ¬ i < (s.size : Int) := by omega
    have h2 : (s.size : Int) ≤ i := by omega
    clear h
    go_enter Tryd.func52, Tryd.ntmps52
    go_wp2
    go_quiet (fail)
    go_wp2
    go_ret2
    exact LandPost.no1 R.out (bel_drewN _ _)
theorem landing_f (s : ByteArray) (k : Nat) (p : Addr) (w : World) (hp : isPd s = true) (hL : Laid w p) (hk : k < s.size) (h : sg s k = 46) :
    Calls Tryd.prog 52 #[.string s, .int .i64 k] w (LandPost s k p w) := by
  obtain ⟨z1, z2, hal⟩ := isPd_in hp
  clear hal hp
  have R := Lib.hid ((toI_nat hk).trans (toN_free h))
  have hg := hL.1
  rw [sg_get hk] at h
  clear hL
  go_enter Tryd.func52, Tryd.ntmps52
  go_wp2
  go_quiet (fail)
  go_wp2
  go_ret2
  exact LandPost.no1 R.out (bel_drewN _ _)

set_option maxHeartbeats 4000000 in
theorem landing_r (s : ByteArray) (k : Nat) (p : Addr) (w : World) (hp : isPd s = true) (hL : Laid w p) (hk : k < s.size) (h : sg s k = 114) :
    Calls Tryd.prog 52 #[.string s, .int .i64 k] w (LandPost s k p w) := by
  obtain ⟨z1, z2, hal⟩ := isPd_in hp
  clear hal
  have HT := Lib.hid (toI_nat hk)
  have HG := Lib.hid h
  have HP := Lib.hid hp
  rw [sg_get hk] at h
  have LA := Lib.hid (hL.alloc (.cells #[.int .u8 0] 87))
  have L0 := Lib.hid hL
  have c0 : (w.alloc (.cells #[.int .u8 0] 87)).cell? ⟨w.heap.size, 0, none⟩ = some (.int .u8 0) := by simp
  have f0 : (w.alloc (.cells #[.int .u8 0] 87)).frozen? ⟨w.heap.size, 0, none⟩ = false := by simp
  have C0 := Lib.hid c0
  have F0 := Lib.hid f0
  clear hp hL c0 f0
  by_cases h1 : k + 1 < s.size
  · have hk1 : k + 1 < s.size := by omega
    rcases isPd_sg HP.out hk1 with h2 | h2 | h2
    · have R := Lib.hid (HT.out.trans (toN_r3 HG.out (fun h => by have := h.2; omega) (fun h => h.2.2 h2)))
      have H2 := Lib.hid h2
      clear h2
      go_enter Tryd.func52, Tryd.ntmps52
      go_wp2_with (first
        | (go_at_call 68; refine (heading_r _).mono ?_; rintro e w' ⟨rfl, rfl⟩)
        | (go_at_call 69; ((with_reducible refine (checkFree_taken s _ (k + 1) 114 _ z2 (by omega) hk1 H2.out (by decide)).mono ?_); rintro e w' ⟨rfl, rfl⟩))
        | (go_at_call 70; refine (as_hit' 114 _ _ p _ LA.out C0.out F0.out).mono ?_; rintro e w1 ⟨rfl, hc, hb⟩; have LB := Lib.hid (L0.out.below (new_below hb))))
      go_ret2
      exact LandPost.no2 R.out (new_below hb)
    · have H2 := Lib.hid h2
      by_cases h3 : k + 2 < s.size
      · have hk2 : k + 2 < s.size := by omega
        rcases isPd_sg HP.out hk2 with h4 | h4 | h4
        · have R := Lib.hid (HT.out.trans (toN_r3 HG.out (fun h => by have := h.2; omega) (fun h => by have := h.2.1; omega)))
          have H4 := Lib.hid h4
          clear h2 h4
          go_enter Tryd.func52, Tryd.ntmps52
          go_wp2_with (first
            | (go_at_call 68; refine (heading_r _).mono ?_; rintro e w' ⟨rfl, rfl⟩)
            | (go_at_call 69; ((with_reducible refine (checkFree_taken s _ (k + 1) 108 _ z2 (by omega) hk1 H2.out (by decide)).mono ?_); rintro e w' ⟨rfl, rfl⟩))
            | (go_at_call 70; refine (as_hit' 108 _ _ p _ LA.out C0.out F0.out).mono ?_; rintro e w1 ⟨rfl, hc, hb⟩; have LB := Lib.hid (L0.out.below (new_below hb)))
            | (go_at_call 69; ((with_reducible refine (checkFree_taken s _ (k + 2) 114 _ z2 (by omega) hk2 H4.out (by decide)).mono ?_); rintro e w' ⟨rfl, rfl⟩)))
          go_ret2
          exact LandPost.no2 R.out (new_below hb)
        · have R := Lib.hid (HT.out.trans (toN_r3 HG.out (fun h => by have := h.2; omega) (fun h => by have := h.2.1; omega)))
          have H4 := Lib.hid h4
          clear h2 h4
          go_enter Tryd.func52, Tryd.ntmps52
          go_wp2_with (first
            | (go_at_call 68; refine (heading_r _).mono ?_; rintro e w' ⟨rfl, rfl⟩)
            | (go_at_call 69; ((with_reducible refine (checkFree_taken s _ (k + 1) 108 _ z2 (by omega) hk1 H2.out (by decide)).mono ?_); rintro e w' ⟨rfl, rfl⟩))
            | (go_at_call 70; refine (as_hit' 108 _ _ p _ LA.out C0.out F0.out).mono ?_; rintro e w1 ⟨rfl, hc, hb⟩; have LB := Lib.hid (L0.out.below (new_below hb)))
            | (go_at_call 69; ((with_reducible refine (checkFree_taken s _ (k + 2) 108 _ z2 (by omega) hk2 H4.out (by decide)).mono ?_); rintro e w' ⟨rfl, rfl⟩)))
          go_ret2
          exact LandPost.no2 R.out (new_below hb)
        · have R := Lib.hid (HT.out.trans (toN_r2 HG.out h3 h4 (by omega) (by omega)))
          have H4 := Lib.hid h4
          clear h2 h4
          go_enter Tryd.func52, Tryd.ntmps52
          go_wp2_with (first
            | (go_at_call 68; refine (heading_r _).mono ?_; rintro e w' ⟨rfl, rfl⟩)
            | (go_at_call 69; ((with_reducible refine (checkFree_taken s _ (k + 1) 108 _ z2 (by omega) hk1 H2.out (by decide)).mono ?_); rintro e w' ⟨rfl, rfl⟩))
            | (go_at_call 70; refine (as_hit' 108 _ _ p _ LA.out C0.out F0.out).mono ?_; rintro e w1 ⟨rfl, hc, hb⟩; have LB := Lib.hid (L0.out.below (new_below hb)))
            | (go_at_call 69; ((with_reducible refine (checkFree_free s _ (k + 2) _ z2 (by omega) hk2 H4.out).mono ?_); rintro e w' ⟨rfl, rfl⟩)))
          go_ret2
          exact LandPost.go (by have := R.out; omega) (by omega) (new_below hb)
      · have R := Lib.hid (HT.out.trans (toN_r3 HG.out (fun h => by have := h.2; omega) (fun h => h3 h.1)))
        clear h2
        go_enter Tryd.func52, Tryd.ntmps52
        go_wp2_with (first
          | (go_at_call 68; refine (heading_r _).mono ?_; rintro e w' ⟨rfl, rfl⟩)
          | (go_at_call 69; ((with_reducible refine (checkFree_taken s _ (k + 1) 108 _ z2 (by omega) hk1 H2.out (by decide)).mono ?_); rintro e w' ⟨rfl, rfl⟩))
          | (go_at_call 70; refine (as_hit' 108 _ _ p _ LA.out C0.out F0.out).mono ?_; rintro e w1 ⟨rfl, hc, hb⟩; have LB := Lib.hid (L0.out.below (new_below hb)))
          | (go_at_call 69; ((with_reducible refine (checkFree_out s _ p _ z2 LB.out (by omega)).mono ?_); rintro e w' ⟨rfl, rfl⟩)))
        go_ret2
        exact LandPost.no1 R.out (new_below hb)
    · have R := Lib.hid (HT.out.trans (toN_r1 HG.out h1 h2))
      have H2 := Lib.hid h2
      clear h2
      go_enter Tryd.func52, Tryd.ntmps52
      go_wp2_with (first
        | (go_at_call 68; refine (heading_r _).mono ?_; rintro e w' ⟨rfl, rfl⟩)
        | (go_at_call 69; ((with_reducible refine (checkFree_free s _ (k + 1) _ z2 (by omega) hk1 H2.out).mono ?_); rintro e w' ⟨rfl, rfl⟩))
        | (go_at_call 70; refine (as_nil _ _).mono ?_; rintro e w' ⟨rfl, rfl⟩))
      go_ret2
      exact LandPost.go (by have := R.out; omega) (by omega) ((Below.refl _ _).alloc (Nat.le_refl _) _)
  · have R := Lib.hid (HT.out.trans (toN_r3 HG.out (fun h => h1 h.1) (fun h => h1 (by omega))))
    go_enter Tryd.func52, Tryd.ntmps52
    go_wp2_with (first
      | (go_at_call 68; refine (heading_r _).mono ?_; rintro e w' ⟨rfl, rfl⟩)
      | (go_at_call 69; ((with_reducible refine (checkFree_out s _ p _ z2 L0.out (by omega)).mono ?_); rintro e w' ⟨rfl, rfl⟩))
      | (go_at_call 70; refine (as_miss' _ _ p _ LA.out).mono ?_; rintro e w1 ⟨rfl, hb⟩))
    go_ret2
    exact LandPost.no1 R.out (new_below' hb)

set_option maxHeartbeats 4000000 in
theorem landing_l (s : ByteArray) (k : Nat) (p : Addr) (w : World) (hp : isPd s = true) (hL : Laid w p) (hk : k < s.size) (h : sg s k = 108) :
    Calls Tryd.prog 52 #[.string s, .int .i64 k] w (LandPost s k p w) := by
  obtain ⟨z1, z2, hal⟩ := isPd_in hp
  clear hal
  have HT := Lib.hid (toI_nat hk)
  have HG := Lib.hid h
  have HP := Lib.hid hp
  rw [sg_get hk] at h
  have LA := Lib.hid (hL.alloc (.cells #[.int .u8 0] 87))
  have L0 := Lib.hid hL
  have c0 : (w.alloc (.cells #[.int .u8 0] 87)).cell? ⟨w.heap.size, 0, none⟩ = some (.int .u8 0) := by simp
  have f0 : (w.alloc (.cells #[.int .u8 0] 87)).frozen? ⟨w.heap.size, 0, none⟩ = false := by simp
  have C0 := Lib.hid c0
  have F0 := Lib.hid f0
  clear hp hL c0 f0
  by_cases h1 : 1 ≤ k
  · have hk1 : k - 1 < s.size := by omega
    rcases isPd_sg HP.out hk1 with h2 | h2 | h2
    · have H2 := Lib.hid h2
      by_cases h3 : 2 ≤ k
      · have hk2 : k - 2 < s.size := by omega
        rcases isPd_sg HP.out hk2 with h4 | h4 | h4
        · have R := Lib.hid (HT.out.trans (toN_l3 HG.out (fun h => by have := h.2; omega) (fun h => by have := h.2.1; omega)))
          have H4 := Lib.hid h4
          clear h2 h4
          go_enter Tryd.func52, Tryd.ntmps52
          go_wp2_with (first
            | (go_at_call 68; refine (heading_l _).mono ?_; rintro e w' ⟨rfl, rfl⟩)
            | (go_at_call 69; ((with_reducible refine (checkFree_taken s _ (k - 1) 114 _ z2 (by omega) hk1 H2.out (by decide)).mono ?_); rintro e w' ⟨rfl, rfl⟩))
            | (go_at_call 70; refine (as_hit' 114 _ _ p _ LA.out C0.out F0.out).mono ?_; rintro e w1 ⟨rfl, hc, hb⟩; have LB := Lib.hid (L0.out.below (new_below hb)))
            | (go_at_call 69; ((with_reducible refine (checkFree_taken s _ (k - 2) 114 _ z2 (by omega) hk2 H4.out (by decide)).mono ?_); rintro e w' ⟨rfl, rfl⟩)))
          go_ret2
          exact LandPost.no2 R.out (new_below hb)
        · have R := Lib.hid (HT.out.trans (toN_l3 HG.out (fun h => by have := h.2; omega) (fun h => by have := h.2.1; omega)))
          have H4 := Lib.hid h4
          clear h2 h4
          go_enter Tryd.func52, Tryd.ntmps52
          go_wp2_with (first
            | (go_at_call 68; refine (heading_l _).mono ?_; rintro e w' ⟨rfl, rfl⟩)
            | (go_at_call 69; ((with_reducible refine (checkFree_taken s _ (k - 1) 114 _ z2 (by omega) hk1 H2.out (by decide)).mono ?_); rintro e w' ⟨rfl, rfl⟩))
            | (go_at_call 70; refine (as_hit' 114 _ _ p _ LA.out C0.out F0.out).mono ?_; rintro e w1 ⟨rfl, hc, hb⟩; have LB := Lib.hid (L0.out.below (new_below hb)))
            | (go_at_call 69; ((with_reducible refine (checkFree_taken s _ (k - 2) 108 _ z2 (by omega) hk2 H4.out (by decide)).mono ?_); rintro e w' ⟨rfl, rfl⟩)))
          go_ret2
          exact LandPost.no2 R.out (new_below hb)
        · have R := Lib.hid (HT.out.trans (toN_l2 HG.out h3 h4 (by omega) (by omega)))
          have H4 := Lib.hid h4
          clear h2 h4
          go_enter Tryd.func52, Tryd.ntmps52
          go_wp2_with (first
            | (go_at_call 68; refine (heading_l _).mono ?_; rintro e w' ⟨rfl, rfl⟩)
            | (go_at_call 69; ((with_reducible refine (checkFree_taken s _ (k - 1) 114 _ z2 (by omega) hk1 H2.out (by decide)).mono ?_); rintro e w' ⟨rfl, rfl⟩))
            | (go_at_call 70; refine (as_hit' 114 _ _ p _ LA.out C0.out F0.out).mono ?_; rintro e w1 ⟨rfl, hc, hb⟩; have LB := Lib.hid (L0.out.below (new_below hb)))
            | (go_at_call 69; ((with_reducible refine (checkFree_free s _ (k - 2) _ z2 (by omega) hk2 H4.out).mono ?_); rintro e w' ⟨rfl, rfl⟩)))
          go_ret2
          exact LandPost.go (by have := R.out; omega) (by omega) (new_below hb)
      · have R := Lib.hid (HT.out.trans (toN_l3 HG.out (fun h => by have := h.2; omega) (fun h => h3 h.1)))
        clear h2
        go_enter Tryd.func52, Tryd.ntmps52
        go_wp2_with (first
          | (go_at_call 68; refine (heading_l _).mono ?_; rintro e w' ⟨rfl, rfl⟩)
          | (go_at_call 69; ((with_reducible refine (checkFree_taken s _ (k - 1) 114 _ z2 (by omega) hk1 H2.out (by decide)).mono ?_); rintro e w' ⟨rfl, rfl⟩))
          | (go_at_call 70; refine (as_hit' 114 _ _ p _ LA.out C0.out F0.out).mono ?_; rintro e w1 ⟨rfl, hc, hb⟩; have LB := Lib.hid (L0.out.below (new_below hb)))
          | (go_at_call 69; ((with_reducible refine (checkFree_out s _ p _ z2 LB.out (by omega)).mono ?_); rintro e w' ⟨rfl, rfl⟩)))
        go_ret2
        exact LandPost.no1 R.out (new_below hb)
    · have R := Lib.hid (HT.out.trans (toN_l3 HG.out (fun h => by have := h.2; omega) (fun h => h.2.2 h2)))
      have H2 := Lib.hid h2
      clear h2
      go_enter Tryd.func52, Tryd.ntmps52
      go_wp2_with (first
        | (go_at_call 68; refine (heading_l _).mono ?_; rintro e w' ⟨rfl, rfl⟩)
        | (go_at_call 69; ((with_reducible refine (checkFree_taken s _ (k - 1) 108 _ z2 (by omega) hk1 H2.out (by decide)).mono ?_); rintro e w' ⟨rfl, rfl⟩))
        | (go_at_call 70; refine (as_hit' 108 _ _ p _ LA.out C0.out F0.out).mono ?_; rintro e w1 ⟨rfl, hc, hb⟩; have LB := Lib.hid (L0.out.below (new_below hb))))
      go_ret2
      exact LandPost.no2 R.out (new_below hb)
    · have R := Lib.hid (HT.out.trans (toN_l1 HG.out h1 h2))
      have H2 := Lib.hid h2
      clear h2
      go_enter Tryd.func52, Tryd.ntmps52
      go_wp2_with (first
        | (go_at_call 68; refine (heading_l _).mono ?_; rintro e w' ⟨rfl, rfl⟩)
        | (go_at_call 69; ((with_reducible refine (checkFree_free s _ (k - 1) _ z2 (by omega) hk1 H2.out).mono ?_); rintro e w' ⟨rfl, rfl⟩))
        | (go_at_call 70; refine (as_nil _ _).mono ?_; rintro e w' ⟨rfl, rfl⟩))
      go_ret2
      exact LandPost.go (by have := R.out; omega) (by omega) ((Below.refl _ _).alloc (Nat.le_refl _) _)
  · have R := Lib.hid (HT.out.trans (toN_l3 HG.out (fun h => h1 h.1) (fun h => h1 (by omega))))
    go_enter Tryd.func52, Tryd.ntmps52
    go_wp2_with (first
      | (go_at_call 68; refine (heading_l _).mono ?_; rintro e w' ⟨rfl, rfl⟩)
      | (go_at_call 69; ((with_reducible refine (checkFree_out s _ p _ z2 L0.out (by omega)).mono ?_); rintro e w' ⟨rfl, rfl⟩))
      | (go_at_call 70; refine (as_miss' _ _ p _ LA.out).mono ?_; rintro e w1 ⟨rfl, hb⟩))
    go_ret2
    exact LandPost.no1 R.out (new_below' hb)

theorem landing (s : ByteArray) (i : Int) (p : Addr) (w : World) (hp : isPd s = true) (hL : Laid w p) :
    Calls Tryd.prog 52 #[.string s, .int .i64 i] w (LandPost s i p w) := by
  by_cases h : i < 0 ∨ (s.size : Int) ≤ i
  · exact landing_o s i p w hp hL h
  · obtain ⟨k, rfl⟩ := Int.eq_ofNat_of_zero_le (show 0 ≤ i by omega)
    have hk : k < s.size := by omega
    rcases isPd_sg hp hk with h | h | h
    · exact landing_r s k p w hp hL hk h
    · exact landing_l s k p w hp hL hk h
    · exact landing_f s k p w hp hL hk h
end Go.Proofs.YteoggpollgkfiaaDoor
