/- impl: hop, the deferred closure, throughDoor, isMoveList, playOf. -/
import Derived.Test.YtlaepnbkkjdpgaaDoorPlS
import Derived.Test.YtlaepnbkkjdpgaaDoorMo
import Derived.Test.YtlaepnbkkjdpgaaDoorClone
import Derived.Defers
import Derived.Recover
import Derived.Laws.Pointers
import Derived.RegionTactic
import Derived.ChangeAlike
namespace Go.Proofs.YtlaepnbkkjdpgaaDoor
set_option linter.unusedVariables false
open Go.RowKit Go.Stop

/-- block b holds a frogPlay, and may be written -/
def PB (w : World) (b : Nat) (q : ByteArray) (m : Int) : Prop := w.heap[b]? = some (.cells #[.string q, .int .i64 m] 49 (0, 0))
theorem PB.c0 {w : World} {b : Nat} {q : ByteArray} {m : Int} (h : PB w b q m) : w.cell? ⟨b, 0, none⟩ = some (.string q) := by unfold PB at h; simp [World.cell?, h]
theorem PB.c1 {w : World} {b : Nat} {q : ByteArray} {m : Int} (h : PB w b q m) : w.cell? ⟨b, 1, none⟩ = some (.int .i64 m) := by unfold PB at h; simp [World.cell?, h]
theorem PB.fr {w : World} {b : Nat} {q : ByteArray} {m : Int} (h : PB w b q m) (j : Nat) : w.frozen? ⟨b, j, none⟩ = false := by unfold PB at h; simp [World.frozen?, h]
theorem PB.lt {w : World} {b : Nat} {q : ByteArray} {m : Int} (h : PB w b q m) : b < w.heap.size := (Array.getElem?_eq_some_iff.1 h).1
theorem PB.below {w w' : World} {b : Nat} {q : ByteArray} {m : Int} (h : PB w b q m) (hb : Below w.heap.size w w') : PB w' b q m := (hb.block b h.lt).trans h
theorem PB.new (w : World) (q : ByteArray) (m : Int) : PB (w.alloc (.cells #[.string q, .int .i64 m] 49)) w.heap.size q m := heap_alloc_new w _
theorem PB.alloc {w : World} {b : Nat} {q : ByteArray} {m : Int} (h : PB w b q m) (o : Obj) : PB (w.alloc o) b q m := h.below ((Below.refl _ _).alloc (Nat.le_refl _) o)
theorem PB.drew {w : World} {b : Nat} {q : ByteArray} {m : Int} (h : PB w b q m) : PB w.drew b q m := h
theorem PB.set0 {w : World} {b : Nat} {q : ByteArray} {m : Int} (h : PB w b q m) (r : ByteArray) : PB (w.setCell ⟨b, 0, none⟩ (.string r)) b r m := by
  unfold PB at *; rw [heap_setCell_same w b 0 _ _ _ h]; rfl
theorem PB.set1 {w : World} {b : Nat} {q : ByteArray} {m : Int} (h : PB w b q m) (n : Int) : PB (w.setCell ⟨b, 1, none⟩ (.int .i64 n)) b q n := by
  unfold PB at *; rw [heap_setCell_same w b 1 _ _ _ h]; rfl
theorem PB.other {w : World} {b c : Nat} {q : ByteArray} {m : Int} (h : PB w b q m) (hne : b ≠ c) (j : Nat) (v : Value) : PB (w.setCell ⟨c, j, none⟩ v) b q m :=
  (Below.heap_setCell _ _ _ b (by intro e; exact hne e)).trans h

theorem leap_r {s : ByteArray} {k t : Nat} (h : sg s k = 114) (hk : k < s.size) (ht : toI s k = t) : ((t : Int) != (k : Int) + 1) = leapB s k := by
  unfold leapB
  rw [ht]
  rw [toI_nat hk] at ht
  unfold toN at ht
  rw [if_pos h] at ht
  rw [Bool.eq_iff_iff]
  simp only [bne_iff_ne, ne_eq, Bool.or_eq_true, beq_iff_eq]
  repeat' split at ht
  all_goals omega
theorem leap_l {s : ByteArray} {k t : Nat} (h : sg s k = 108) (hk : k < s.size) (ht : toI s k = t) : ((t : Int) != (k : Int) + -1) = leapB s k := by
  unfold leapB
  rw [ht]
  rw [toI_nat hk] at ht
  unfold toN at ht
  rw [if_neg (by omega), if_pos h] at ht
  rw [Bool.eq_iff_iff]
  simp only [bne_iff_ne, ne_eq, Bool.or_eq_true, beq_iff_eq]
  repeat' split at ht
  all_goals omega

def HopFail (p : Addr) (w : World) (e : Ending) (w' : World) : Prop := ∃ ev, ErrIs p ev ∧ e = .panicked [{ v := ev, recovered := false }] ∧ Below w.heap.size w w'
theorem ErrIs.form {p : Addr} {ev : Value} (h : ErrIs p ev) : ∃ t v, ev = .iface t v := by
  rcases h with rfl | ⟨c, rfl⟩ <;> exact ⟨_, _, rfl⟩

set_option maxHeartbeats 4000000 in
theorem hop_no (q : ByteArray) (m : Nat) (i : Int) (p : Addr) (w : World) (hp : isPd q = true) (hL : Laid w p) (hg : ¬ 0 ≤ toI q i) :
    Calls Tryd.prog 55 #[.agg #[.string q, .int .i64 m], .int .i64 i] w (HopFail p w) := by
  have LA := Lib.hid ((hL.alloc (.cells #[.string q, .int .i64 m] 49)).alloc (.cells #[.string ⟨#[]⟩, .int .i64 0] 49))
  have HP := Lib.hid hp
  have HG := Lib.hid hg
  clear hL hp hg
  go_enter Tryd.func55, Tryd.ntmps55
  go_wp2_with (go_at_call 42; refine (landing_no q i p _ HP.out LA.out HG.out).mono ?_; rintro e w2 ⟨ev, hev, rfl, hb2⟩; obtain ⟨et, evv, rfl⟩ := hev.form; have HEV := Lib.hid hev; have HB := Lib.hid (((Below.refl w.heap.size w).alloc (Nat.le_refl _) (.cells #[.string q, .int .i64 m] 49)).alloc (by simp) (.cells #[.string ⟨#[]⟩, .int .i64 0] 49) |>.trans (hb2.mono (by simp; omega))); clear hev hb2)
  exact ⟨rfl, ⟨_, HEV.out, rfl, HB.out⟩⟩
-- HOP
set_option maxHeartbeats 4000000 in
theorem hop_r (q : ByteArray) (m k t : Nat) (p : Addr) (w : World) (hp : isPd q = true) (hL : Laid w p) (hm : m ≤ 1000) (hk : k < q.size) (h : sg q k = 114) (hT : toI q k = t) :
    Calls Tryd.prog 55 #[.agg #[.string q, .int .i64 m], .int .i64 k] w fun e w' => e = .returned (.agg #[.string (goI q k), .int .i64 ((m + b2n (leapB q k) : Nat) : Int)]) ∧ Below w.heap.size w w' := by
  have LA := Lib.hid ((hL.alloc (.cells #[.string q, .int .i64 m] 49)).alloc (.cells #[.string ⟨#[]⟩, .int .i64 0] 49))
  have z2 := (isPd_in hp).2.1
  have ht2 : t < q.size := by have := (toI_bd q k).2; omega
  have HLP := Lib.hid (leap_r h hk hT)
  have hG : mvB q k t = goI q k := by unfold goI; rw [hT]; rfl
  have HG := Lib.hid hG
  have hly := fun wx (h : Laid wx p) => landing_yes q k p wx hp h (by omega)
  rw [hT] at hly
  have HLY := Lib.hid hly
  have PA := Lib.hid ((PB.new w q m).alloc (.cells #[.string ⟨#[]⟩, .int .i64 0] 49))
  have rA := PB.new (w.alloc (.cells #[.string q, .int .i64 m] 49)) ⟨#[]⟩ 0
  have eA : (w.alloc (.cells #[.string q, .int .i64 m] 49)).heap.size = w.heap.size + 1 := by simp
  rw [eA] at rA
  have RA := Lib.hid rA
  have hBA : Below w.heap.size w ((w.alloc (.cells #[.string q, .int .i64 m] 49)).alloc (.cells #[.string ⟨#[]⟩, .int .i64 0] 49)) := ((Below.refl w.heap.size w).alloc (Nat.le_refl _) _).alloc (by simp) _
  have HBA := Lib.hid hBA
  have hsA : w.heap.size + 2 = ((w.alloc (.cells #[.string q, .int .i64 m] 49)).alloc (.cells #[.string ⟨#[]⟩, .int .i64 0] 49)).heap.size := by simp
  have HSA := Lib.hid hsA
  rw [sg_get hk] at h
  clear hp hL hG hly rA eA hBA hsA hT
  generalize hgo : goI q k = g at *
  have HGO := Lib.hid hgo
  clear hgo
  cases hlp : leapB q k
  · have hq := HLP.out
    rw [hlp] at hq
    have HL2 := Lib.hid hlp
    clear hlp
    go_enter Tryd.func55, Tryd.ntmps55
    go_wp2_with (first
      | (go_at_call 42; refine (HLY.out _ LA.out).mono ?_; rintro e w2 ⟨rfl, hb2⟩; have P2 := PA.out.below hb2; have R2 := RA.out.below hb2; have HB2 := Lib.hid (HBA.out.trans (hb2.mono (by rw [← HSA.out]; omega))); have hle2 := hb2.size; rw [← HSA.out] at hle2; have c0 := P2.c0; have c1 := P2.c1; have f0 := P2.fr 0; have f1 := P2.fr 1; have HP3 := Lib.hid P2; have HR3 := Lib.hid R2; clear hb2 P2 R2)
      | (go_at_call 48; refine (heading_r _).mono ?_; rintro e w' ⟨rfl, rfl⟩)
      | (go_at_call 44; refine (withMoved q k t _ z2 hk ht2).mono ?_; rintro e w4 ⟨rfl, hb4⟩; rw [HG.out]; have P4 := HP3.out.below hb4; have R4 := HR3.out.below hb4; have HB4 := Lib.hid ((HB2.out).trans (hb4.mono (by omega))); have hle4 := hb4.size; have g0 := P4.c0; have gf0 := P4.fr 0; have P5 := P4.set0 g; have x0 := P5.c0; have x1 := P5.c1; have R5 := R4.other (c := w.heap.size) (by omega) 0 (.string g); have y0 := R5.c0; have yf0 := R5.fr 0; have R6 := R5.set0 g; have z1 := R6.c1; have zf1 := R6.fr 1; have R7 := R6.set1 ((m : Int)); have v0 := R7.c0; have v1 := R7.c1; have HV := Lib.hid (And.intro v0 v1); have HB7 := Lib.hid (((HB4.out.setCell (Nat.le_refl _) (p := ⟨w.heap.size, 0, none⟩) (.string g)).setCell (Nat.le_succ _) (p := ⟨w.heap.size + 1, 0, none⟩) (.string g)).setCell (Nat.le_succ _) (p := ⟨w.heap.size + 1, 1, none⟩) (.int .i64 ((m : Int)))); clear hb4 P4 R4 P5 R5 R6 R7 v0 v1))
    have v0 := HV.out.1
    have v1 := HV.out.2
    exact bodyPost_ret (v := .agg #[.string g, .int .i64 ((m : Int))]) (by simp [results, Tryd.results55, go_sem, v0, v1]) rfl ⟨rfl, HB7.out⟩
  · have hq := HLP.out
    rw [hlp] at hq
    have HL2 := Lib.hid hlp
    clear hlp
    go_enter Tryd.func55, Tryd.ntmps55
    go_wp2_with (first
      | (go_at_call 42; refine (HLY.out _ LA.out).mono ?_; rintro e w2 ⟨rfl, hb2⟩; have P2 := PA.out.below hb2; have R2 := RA.out.below hb2; have HB2 := Lib.hid (HBA.out.trans (hb2.mono (by rw [← HSA.out]; omega))); have hle2 := hb2.size; rw [← HSA.out] at hle2; have c0 := P2.c0; have c1 := P2.c1; have f0 := P2.fr 0; have f1 := P2.fr 1; have P3 := P2.set1 ((m : Int) + 1); have d0 := P3.c0; have d1 := P3.c1; have R3 := R2.other (c := w.heap.size) (by omega) 1 (.int .i64 ((m : Int) + 1)); have HP3 := Lib.hid P3; have HR3 := Lib.hid R3; clear P3 R3; clear hb2 P2 R2)
      | (go_at_call 48; refine (heading_r _).mono ?_; rintro e w' ⟨rfl, rfl⟩)
      | (go_at_call 44; refine (withMoved q k t _ z2 hk ht2).mono ?_; rintro e w4 ⟨rfl, hb4⟩; rw [HG.out]; have P4 := HP3.out.below hb4; have R4 := HR3.out.below hb4; have HB4 := Lib.hid ((HB2.out.setCell (Nat.le_refl _) (p := ⟨w.heap.size, 1, none⟩) (.int .i64 ((m : Int) + 1))).trans (hb4.mono (by rw [World.size_setCell]; omega))); have hle4 := hb4.size; rw [World.size_setCell] at hle4; have g0 := P4.c0; have gf0 := P4.fr 0; have P5 := P4.set0 g; have x0 := P5.c0; have x1 := P5.c1; have R5 := R4.other (c := w.heap.size) (by omega) 0 (.string g); have y0 := R5.c0; have yf0 := R5.fr 0; have R6 := R5.set0 g; have z1 := R6.c1; have zf1 := R6.fr 1; have R7 := R6.set1 ((m : Int) + 1); have v0 := R7.c0; have v1 := R7.c1; have HV := Lib.hid (And.intro v0 v1); have HB7 := Lib.hid (((HB4.out.setCell (Nat.le_refl _) (p := ⟨w.heap.size, 0, none⟩) (.string g)).setCell (Nat.le_succ _) (p := ⟨w.heap.size + 1, 0, none⟩) (.string g)).setCell (Nat.le_succ _) (p := ⟨w.heap.size + 1, 1, none⟩) (.int .i64 ((m : Int) + 1))); clear hb4 P4 R4 P5 R5 R6 R7 v0 v1))
    have v0 := HV.out.1
    have v1 := HV.out.2
    exact bodyPost_ret (v := .agg #[.string g, .int .i64 ((m : Int) + 1)]) (by simp [results, Tryd.results55, go_sem, v0, v1]) rfl ⟨rfl, HB7.out⟩

set_option maxHeartbeats 4000000 in
theorem hop_l (q : ByteArray) (m k t : Nat) (p : Addr) (w : World) (hp : isPd q = true) (hL : Laid w p) (hm : m ≤ 1000) (hk : k < q.size) (h : sg q k = 108) (hT : toI q k = t) :
    Calls Tryd.prog 55 #[.agg #[.string q, .int .i64 m], .int .i64 k] w fun e w' => e = .returned (.agg #[.string (goI q k), .int .i64 ((m + b2n (leapB q k) : Nat) : Int)]) ∧ Below w.heap.size w w' := by
  have LA := Lib.hid ((hL.alloc (.cells #[.string q, .int .i64 m] 49)).alloc (.cells #[.string ⟨#[]⟩, .int .i64 0] 49))
  have z2 := (isPd_in hp).2.1
  have ht2 : t < q.size := by have := (toI_bd q k).2; omega
  have HLP := Lib.hid (leap_l h hk hT)
  have hG : mvB q k t = goI q k := by unfold goI; rw [hT]; rfl
  have HG := Lib.hid hG
  have hly := fun wx (h : Laid wx p) => landing_yes q k p wx hp h (by omega)
  rw [hT] at hly
  have HLY := Lib.hid hly
  have PA := Lib.hid ((PB.new w q m).alloc (.cells #[.string ⟨#[]⟩, .int .i64 0] 49))
  have rA := PB.new (w.alloc (.cells #[.string q, .int .i64 m] 49)) ⟨#[]⟩ 0
  have eA : (w.alloc (.cells #[.string q, .int .i64 m] 49)).heap.size = w.heap.size + 1 := by simp
  rw [eA] at rA
  have RA := Lib.hid rA
  have hBA : Below w.heap.size w ((w.alloc (.cells #[.string q, .int .i64 m] 49)).alloc (.cells #[.string ⟨#[]⟩, .int .i64 0] 49)) := ((Below.refl w.heap.size w).alloc (Nat.le_refl _) _).alloc (by simp) _
  have HBA := Lib.hid hBA
  have hsA : w.heap.size + 2 = ((w.alloc (.cells #[.string q, .int .i64 m] 49)).alloc (.cells #[.string ⟨#[]⟩, .int .i64 0] 49)).heap.size := by simp
  have HSA := Lib.hid hsA
  rw [sg_get hk] at h
  clear hp hL hG hly rA eA hBA hsA hT
  generalize hgo : goI q k = g at *
  have HGO := Lib.hid hgo
  clear hgo
  cases hlp : leapB q k
  · have hq := HLP.out
    rw [hlp] at hq
    have HL2 := Lib.hid hlp
    clear hlp
    go_enter Tryd.func55, Tryd.ntmps55
    go_wp2_with (first
      | (go_at_call 42; refine (HLY.out _ LA.out).mono ?_; rintro e w2 ⟨rfl, hb2⟩; have P2 := PA.out.below hb2; have R2 := RA.out.below hb2; have HB2 := Lib.hid (HBA.out.trans (hb2.mono (by rw [← HSA.out]; omega))); have hle2 := hb2.size; rw [← HSA.out] at hle2; have c0 := P2.c0; have c1 := P2.c1; have f0 := P2.fr 0; have f1 := P2.fr 1; have HP3 := Lib.hid P2; have HR3 := Lib.hid R2; clear hb2 P2 R2)
      | (go_at_call 48; refine (heading_l _).mono ?_; rintro e w' ⟨rfl, rfl⟩)
      | (go_at_call 44; refine (withMoved q k t _ z2 hk ht2).mono ?_; rintro e w4 ⟨rfl, hb4⟩; rw [HG.out]; have P4 := HP3.out.below hb4; have R4 := HR3.out.below hb4; have HB4 := Lib.hid ((HB2.out).trans (hb4.mono (by omega))); have hle4 := hb4.size; have g0 := P4.c0; have gf0 := P4.fr 0; have P5 := P4.set0 g; have x0 := P5.c0; have x1 := P5.c1; have R5 := R4.other (c := w.heap.size) (by omega) 0 (.string g); have y0 := R5.c0; have yf0 := R5.fr 0; have R6 := R5.set0 g; have z1 := R6.c1; have zf1 := R6.fr 1; have R7 := R6.set1 ((m : Int)); have v0 := R7.c0; have v1 := R7.c1; have HV := Lib.hid (And.intro v0 v1); have HB7 := Lib.hid (((HB4.out.setCell (Nat.le_refl _) (p := ⟨w.heap.size, 0, none⟩) (.string g)).setCell (Nat.le_succ _) (p := ⟨w.heap.size + 1, 0, none⟩) (.string g)).setCell (Nat.le_succ _) (p := ⟨w.heap.size + 1, 1, none⟩) (.int .i64 ((m : Int)))); clear hb4 P4 R4 P5 R5 R6 R7 v0 v1))
    have v0 := HV.out.1
    have v1 := HV.out.2
    exact bodyPost_ret (v := .agg #[.string g, .int .i64 ((m : Int))]) (by simp [results, Tryd.results55, go_sem, v0, v1]) rfl ⟨rfl, HB7.out⟩
  · have hq := HLP.out
    rw [hlp] at hq
    have HL2 := Lib.hid hlp
    clear hlp
    go_enter Tryd.func55, Tryd.ntmps55
    go_wp2_with (first
      | (go_at_call 42; refine (HLY.out _ LA.out).mono ?_; rintro e w2 ⟨rfl, hb2⟩; have P2 := PA.out.below hb2; have R2 := RA.out.below hb2; have HB2 := Lib.hid (HBA.out.trans (hb2.mono (by rw [← HSA.out]; omega))); have hle2 := hb2.size; rw [← HSA.out] at hle2; have c0 := P2.c0; have c1 := P2.c1; have f0 := P2.fr 0; have f1 := P2.fr 1; have P3 := P2.set1 ((m : Int) + 1); have d0 := P3.c0; have d1 := P3.c1; have R3 := R2.other (c := w.heap.size) (by omega) 1 (.int .i64 ((m : Int) + 1)); have HP3 := Lib.hid P3; have HR3 := Lib.hid R3; clear P3 R3; clear hb2 P2 R2)
      | (go_at_call 48; refine (heading_l _).mono ?_; rintro e w' ⟨rfl, rfl⟩)
      | (go_at_call 44; refine (withMoved q k t _ z2 hk ht2).mono ?_; rintro e w4 ⟨rfl, hb4⟩; rw [HG.out]; have P4 := HP3.out.below hb4; have R4 := HR3.out.below hb4; have HB4 := Lib.hid ((HB2.out.setCell (Nat.le_refl _) (p := ⟨w.heap.size, 1, none⟩) (.int .i64 ((m : Int) + 1))).trans (hb4.mono (by rw [World.size_setCell]; omega))); have hle4 := hb4.size; rw [World.size_setCell] at hle4; have g0 := P4.c0; have gf0 := P4.fr 0; have P5 := P4.set0 g; have x0 := P5.c0; have x1 := P5.c1; have R5 := R4.other (c := w.heap.size) (by omega) 0 (.string g); have y0 := R5.c0; have yf0 := R5.fr 0; have R6 := R5.set0 g; have z1 := R6.c1; have zf1 := R6.fr 1; have R7 := R6.set1 ((m : Int) + 1); have v0 := R7.c0; have v1 := R7.c1; have HV := Lib.hid (And.intro v0 v1); have HB7 := Lib.hid (((HB4.out.setCell (Nat.le_refl _) (p := ⟨w.heap.size, 0, none⟩) (.string g)).setCell (Nat.le_succ _) (p := ⟨w.heap.size + 1, 0, none⟩) (.string g)).setCell (Nat.le_succ _) (p := ⟨w.heap.size + 1, 1, none⟩) (.int .i64 ((m : Int) + 1))); clear hb4 P4 R4 P5 R5 R6 R7 v0 v1))
    have v0 := HV.out.1
    have v1 := HV.out.2
    exact bodyPost_ret (v := .agg #[.string g, .int .i64 ((m : Int) + 1)]) (by simp [results, Tryd.results55, go_sem, v0, v1]) rfl ⟨rfl, HB7.out⟩
end Go.Proofs.YtlaepnbkkjdpgaaDoor
