/- impl.isMoveList, playOf, MoveFrog, PlayFrogs, LeapsIn; spec.MoveFrog, PlayFrogs, LeapsIn. -/
import Derived.Test.YtlaepnbkkjdpgaaDoorDoor
namespace Go.Proofs.YtlaepnbkkjdpgaaDoor
set_option linter.unusedVariables false
open Go.RowKit Go.Stop

def plR (s : ByteArray) (l : List Int) : Option (ByteArray × Nat) := if isPd s && decide (l.length ≤ 60) then playR s l else none
def plQ (s : ByteArray) (l : List Int) : ByteArray := match plR s l with | some (q, _) => q | none => ⟨#[]⟩
def plM (s : ByteArray) (l : List Int) : Nat := match plR s l with | some (_, m) => m | none => 0
def plB (s : ByteArray) (l : List Int) : Bool := (plR s l).isSome
theorem pl_none {s : ByteArray} {l : List Int} (h : plR s l = none) : plQ s l = ⟨#[]⟩ ∧ plM s l = 0 ∧ plB s l = false := by simp [plQ, plM, plB, h]
theorem pl_some {s : ByteArray} {l : List Int} {q : ByteArray} {m : Nat} (h : plR s l = some (q, m)) : plQ s l = q ∧ plM s l = m ∧ plB s l = true := by simp [plQ, plM, plB, h]
theorem plR_1 {s : ByteArray} {l : List Int} (h : isPd s = false) : plR s l = none := by simp [plR, h]
theorem plR_2 {s : ByteArray} {l : List Int} (h : ¬ l.length ≤ 60) : plR s l = none := by simp [plR, h]
theorem plR_3 {s : ByteArray} {l : List Int} (h : isPd s = true) (h2 : l.length ≤ 60) : plR s l = playR s l := by simp [plR, h, h2]

theorem Rd.form {w : World} {v : Value} {l : List Int} (h : Rd w v l) : ∃ a cap, v = .slice a l.length cap := by
  rcases h with ⟨⟨a, c, rfl⟩, rfl⟩ | ⟨b, off, cap, rfl, _⟩
  · exact ⟨_, _, rfl⟩
  · exact ⟨_, _, rfl⟩

theorem isMoveList (a : Option Addr) (n cap : Nat) (w : World) (hn : n ≤ 1048576) :
    Calls Tryd.prog 45 #[.slice a n cap] w fun e w' => e = .returned (.bool (decide (n ≤ 60))) ∧ w = w' := by
  by_cases h : n ≤ 60
  · have hd : decide ((n : Int) ≤ 60) = true := by simp; omega
    rw [decide_eq_true h]
    go_enter Tryd.func45, Tryd.ntmps45
    go_wp2
    go_ret
    exact ⟨rfl, rfl⟩
  · have hd : decide ((n : Int) ≤ 60) = false := by simp; omega
    rw [decide_eq_false h]
    go_enter Tryd.func45, Tryd.ntmps45
    go_wp2
    go_ret
    exact ⟨rfl, rfl⟩
def DoorNo (p : Addr) (w : World) (e : Ending) (w' : World) : Prop := ∃ ev, ErrIs p ev ∧ e = .returned (.tuple #[.agg #[.string ⟨#[]⟩, .int .i64 0], ev]) ∧ Below w.heap.size w w'

def PlayPost (s : ByteArray) (l : List Int) (w : World) (e : Ending) (w' : World) : Prop := e = .returned (.tuple #[.agg #[.string (plQ s l), .int .i64 (plM s l : Int)], .bool (plB s l)]) ∧ Below w.heap.size w w'
set_option maxHeartbeats 4000000 in
theorem playOf (s : ByteArray) (v : Value) (l : List Int) (p : Addr) (w : World) (hs : s.size ≤ 1048576) (hL : Laid w p) (h : Rd w v l) (hl : l.length ≤ 1048576) :
    Calls Tryd.prog 34 #[.string s, v] w (PlayPost s l w) := by
  have hm : s.size ≤ maxLen := by unfold maxLen; omega
  obtain ⟨a, cap, hv⟩ := h.form
  have PA := Lib.hid (PB.new w ⟨#[]⟩ 0)
  have HBA := Lib.hid (show Below w.heap.size w (w.alloc (.cells #[.string ⟨#[]⟩, .int .i64 0] 49)) from (Below.refl w.heap.size w).alloc (Nat.le_refl _) _)
  have HSA := Lib.hid (show w.heap.size + 1 = (w.alloc (.cells #[.string ⟨#[]⟩, .int .i64 0] 49)).heap.size by simp)
  cases h1 : isPd s
  · have J := Lib.hid (pl_none (plR_1 (l := l) h1))
    have G := Lib.hid h1
    have HV := Lib.hid hv
    have c0 := PA.out.c0
    have c1 := PA.out.c1
    clear h1 hv h hL
    go_enter Tryd.func34, Tryd.ntmps34
    go_wp2_with (go_at_call 30; refine (implIsPond _ _ hm).mono ?_; rintro e w' ⟨rfl, rfl⟩; rw [G.out])
    exact bodyPost_ret (v := .tuple #[.agg #[.string ⟨#[]⟩, .int .i64 0], .bool false]) (by simp [results, Tryd.results34, go_sem]) rfl ⟨ret_v (by rw [J.out.1, J.out.2.1, J.out.2.2]; rfl), HBA.out⟩
  by_cases h6 : l.length ≤ 60
  · have G := Lib.hid h1
    have D6 := Lib.hid (decide_eq_true h6)
    have LA := Lib.hid (hL.alloc (.cells #[.string ⟨#[]⟩, .int .i64 0] 49))
    have RA := Lib.hid (h.below ((Below.refl _ w).alloc (Nat.le_refl _) (.cells #[.string ⟨#[]⟩, .int .i64 0] 49)))
    clear hL h
    cases hr : playR s l with
    | some qm =>
      obtain ⟨q, m⟩ := qm
      have hdo : ∀ wx, Laid wx p → Rd wx v l → Calls Tryd.prog 46 #[.string s, v] wx fun e w' => e = .returned (.tuple #[.agg #[.string q, .int .i64 (m : Int)], .nilIface]) ∧ Below wx.heap.size wx w' := fun wx h1' h2' => (throughDoor s v l p wx h1 h1' h2' h6).mono fun e w' ⟨hc, hb⟩ => by
        rcases hc with ⟨q', m', e1, e2⟩ | ⟨e1, _⟩
        · rw [hr] at e1; injection e1 with e1; injection e1 with e3 e4; subst e3; subst e4; exact ⟨e2, hb⟩
        · rw [hr] at e1; cases e1
      have J := Lib.hid (pl_some ((plR_3 h1 h6).trans hr))
      have HD := Lib.hid (hdo _ LA.out RA.out)
      clear hdo hr h1 h6
      subst hv
      go_enter Tryd.func34, Tryd.ntmps34
      go_wp2_with (first
        | (go_at_call 30; refine (implIsPond _ _ hm).mono ?_; rintro e w' ⟨rfl, rfl⟩; rw [G.out])
        | (go_at_call 45; refine (isMoveList _ _ _ _ hl).mono ?_; rintro e w' ⟨rfl, rfl⟩; rw [D6.out])
        | (go_at_call 46; refine HD.out.mono ?_; rintro e w1 ⟨rfl, hb1⟩; have W6 := (PA.out.below hb1).alloc (.cells #[.string q, .int .i64 ((m : Int))] 49); have k0 := W6.c0; have kf0 := W6.fr 0; have A1 := W6.set0 q; have k1 := A1.c1; have kf1 := A1.fr 1; have A2 := A1.set1 ((m : Int)); have HX := Lib.hid (And.intro A2.c0 A2.c1); have HBB := Lib.hid ((((HBA.out.trans (hb1.mono (by rw [← HSA.out]; omega))).alloc (by have h1 := hb1.size; rw [← HSA.out] at h1; omega) (.cells #[.string q, .int .i64 ((m : Int))] 49)).setCell (p := ⟨w.heap.size, 0, none⟩) (Nat.le_refl _) (.string q)).setCell (p := ⟨w.heap.size, 1, none⟩) (Nat.le_refl _) (.int .i64 ((m : Int)))); have hlt1 := hb1.size; rw [← HSA.out] at hlt1; clear hb1 W6 A1 A2))
      go_region
      all_goals
        go_wp2
        obtain ⟨x0, x1⟩ := HX.out
        exact bodyPost_ret (v := .tuple #[.agg #[.string q, .int .i64 ((m : Int))], .bool true]) (by simp [results, Tryd.results34, go_sem, x0, x1]) rfl ⟨ret_v (by rw [J.out.1, J.out.2.1, J.out.2.2] <;> rfl), HBB.out.drew⟩
    | none =>
      have hdo : ∀ wx, Laid wx p → Rd wx v l → Calls Tryd.prog 46 #[.string s, v] wx (DoorNo p wx) := fun wx h1' h2' => (throughDoor s v l p wx h1 h1' h2' h6).mono fun e w' ⟨hc, hb⟩ => by
        rcases hc with ⟨q', m', e1, e2⟩ | ⟨_, ev, e1, e2⟩
        · rw [hr] at e1; cases e1
        · exact ⟨ev, e1, e2, hb⟩
      have J := Lib.hid (pl_none ((plR_3 h1 h6).trans hr))
      have HD := Lib.hid (hdo _ LA.out RA.out)
      clear hdo hr h1 h6
      subst hv
      go_enter Tryd.func34, Tryd.ntmps34
      go_wp2_with (first
        | (go_at_call 30; refine (implIsPond _ _ hm).mono ?_; rintro e w' ⟨rfl, rfl⟩; rw [G.out])
        | (go_at_call 45; refine (isMoveList _ _ _ _ hl).mono ?_; rintro e w' ⟨rfl, rfl⟩; rw [D6.out])
        | (go_at_call 46; refine HD.out.mono ?_; rintro e w1 ⟨ev, hev, rfl, hb1⟩; obtain ⟨et, evv, rfl⟩ := hev.form; clear hev; have W6 := (PA.out.below hb1).alloc (.cells #[.string ⟨#[]⟩, .int .i64 (0)] 49); have k0 := W6.c0; have kf0 := W6.fr 0; have A1 := W6.set0 ⟨#[]⟩; have k1 := A1.c1; have kf1 := A1.fr 1; have A2 := A1.set1 (0); have HX := Lib.hid (And.intro A2.c0 A2.c1); have HBB := Lib.hid ((((HBA.out.trans (hb1.mono (by rw [← HSA.out]; omega))).alloc (by have h1 := hb1.size; rw [← HSA.out] at h1; omega) (.cells #[.string ⟨#[]⟩, .int .i64 (0)] 49)).setCell (p := ⟨w.heap.size, 0, none⟩) (Nat.le_refl _) (.string ⟨#[]⟩)).setCell (p := ⟨w.heap.size, 1, none⟩) (Nat.le_refl _) (.int .i64 (0))); have hlt1 := hb1.size; rw [← HSA.out] at hlt1; clear hb1 W6 A1 A2))
      go_region
      all_goals
        go_wp2
        obtain ⟨x0, x1⟩ := HX.out
        exact bodyPost_ret (v := .tuple #[.agg #[.string ⟨#[]⟩, .int .i64 (0)], .bool false]) (by simp [results, Tryd.results34, go_sem, x0, x1]) rfl ⟨ret_v (by rw [J.out.1, J.out.2.1, J.out.2.2] <;> rfl), HBB.out.drew⟩
  · have J := Lib.hid (pl_none (plR_2 (s := s) h6))
    have G := Lib.hid h1
    have D6 := Lib.hid (decide_eq_false h6)
    have c0 := PA.out.c0
    have c1 := PA.out.c1
    clear h1 h6 h hL
    subst hv
    go_enter Tryd.func34, Tryd.ntmps34
    go_wp2_with (first
      | (go_at_call 30; refine (implIsPond _ _ hm).mono ?_; rintro e w' ⟨rfl, rfl⟩; rw [G.out])
      | (go_at_call 45; refine (isMoveList _ _ _ _ hl).mono ?_; rintro e w' ⟨rfl, rfl⟩; rw [D6.out]))
    exact bodyPost_ret (v := .tuple #[.agg #[.string ⟨#[]⟩, .int .i64 0], .bool false]) (by simp [results, Tryd.results34, go_sem]) rfl ⟨ret_v (by rw [J.out.1, J.out.2.1, J.out.2.2]; rfl), HBA.out⟩
set_option maxHeartbeats 2000000 in
theorem implPlayFrogs (s : ByteArray) (v : Value) (l : List Int) (p : Addr) (w : World) (hs : s.size ≤ 1048576) (hL : Laid w p) (h : Rd w v l) (hl : l.length ≤ 1048576) :
    Calls Tryd.prog 19 #[.string s, v] w fun e w' => e = .returned (.tuple #[.string (plQ s l), .bool (plB s l)]) ∧ Below w.heap.size w w' := by
  have HP := Lib.hid (playOf s v l p w hs hL h hl)
  clear hL h
  go_enter Tryd.func19, Tryd.ntmps19
  go_wp2_with (go_at_call 34; refine HP.out.mono ?_; rintro e w1 ⟨rfl, hb⟩; have hle := hb.size)
  go_ret2
  exact ⟨rfl, hb.alloc hle _⟩
set_option maxHeartbeats 2000000 in
theorem implLeapsIn (s : ByteArray) (v : Value) (l : List Int) (p : Addr) (w : World) (hs : s.size ≤ 1048576) (hL : Laid w p) (h : Rd w v l) (hl : l.length ≤ 1048576) :
    Calls Tryd.prog 23 #[.string s, v] w fun e w' => e = .returned (.tuple #[.int .i64 (plM s l : Int), .bool (plB s l)]) ∧ Below w.heap.size w w' := by
  have HP := Lib.hid (playOf s v l p w hs hL h hl)
  clear hL h
  go_enter Tryd.func23, Tryd.ntmps23
  go_wp2_with (go_at_call 34; refine HP.out.mono ?_; rintro e w1 ⟨rfl, hb⟩; have hle := hb.size)
  go_ret2
  exact ⟨rfl, hb.alloc hle _⟩
theorem rd_one (w : World) (i : Int) : Rd (w.alloc (.cells #[.int .i64 i] 3)) (.slice (some ⟨w.heap.size, 0, none⟩) 1 1) [i] :=
  .inr ⟨w.heap.size, 0, 1, rfl, by simp, Nat.le_refl _, by unfold maxLen; omega, fun j hj => by
    obtain rfl : j = 0 := by simpa using hj
    simp [gt]⟩
set_option maxHeartbeats 2000000 in
theorem implMoveFrog (s : ByteArray) (i : Int) (p : Addr) (w : World) (hs : s.size ≤ 1048576) (hL : Laid w p) :
    Calls Tryd.prog 16 #[.string s, .int .i64 i] w fun e w' => e = .returned (.tuple #[.string (plQ s [i]), .bool (plB s [i])]) ∧ Below w.heap.size w w' := by
  have HP := Lib.hid (playOf s _ [i] p _ hs (hL.alloc (.cells #[.int .i64 i] 3)) (rd_one w i) (by simp))
  have HBA := Lib.hid (show Below w.heap.size w (w.alloc (.cells #[.int .i64 i] 3)) from (Below.refl w.heap.size w).alloc (Nat.le_refl _) _)
  have HSA := Lib.hid (show w.heap.size + 1 = (w.alloc (.cells #[.int .i64 i] 3)).heap.size by simp)
  clear hL
  go_enter Tryd.func16, Tryd.ntmps16
  go_wp2_with (go_at_call 34; refine HP.out.mono ?_; rintro e w1 ⟨rfl, hb⟩; have hle := hb.size; rw [← HSA.out] at hle; have HB := Lib.hid (HBA.out.trans (hb.mono (by rw [← HSA.out]; omega))); clear hb)
  go_ret2
  exact ⟨rfl, HB.out.alloc (by omega) _⟩
set_option maxHeartbeats 2000000 in
theorem specPlayFrogs (s : ByteArray) (v : Value) (l : List Int) (w : World) (hs : s.size ≤ 1048576) (h : Rd w v l) (hl : l.length ≤ 1048576) :
    Calls Tryd.prog 17 #[.string s, v] w fun e w' => e = .returned (.tuple #[.string (plQ s l), .bool (plB s l)]) ∧ Below w.heap.size w w' := by
  have hm : s.size ≤ maxLen := by unfold maxLen; omega
  obtain ⟨a, cap, hv⟩ := h.form
  cases h1 : isPd s
  · have J := Lib.hid (pl_none (plR_1 (l := l) h1))
    have G := Lib.hid h1
    clear h1 h hv
    go_enter Tryd.func17, Tryd.ntmps17
    go_wp2_with (go_at_call 28; refine (specFgGood _ _ hm).mono ?_; rintro e w' ⟨rfl, rfl⟩; rw [G.out])
    go_ret2
    exact ⟨ret_v (by rw [J.out.1, J.out.2.2]; rfl), Below.refl _ _⟩
  by_cases h6 : l.length ≤ 60
  · have G := Lib.hid h1
    have R := Lib.hid (plR_3 (l := l) h1 h6)
    have HP := Lib.hid (specPlay s v l w h1 h hl)
    have h6i : ¬ (60 : Int) < (l.length : Int) := by omega
    clear h1 h
    cases hr : playR s l with
    | some qm =>
      obtain ⟨q, m⟩ := qm
      have J := Lib.hid (pl_some (R.out.trans hr))
      have HR := Lib.hid hr
      clear hr
      subst hv
      go_enter Tryd.func17, Tryd.ntmps17
      go_wp2_with (first
        | (go_at_call 28; refine (specFgGood _ _ hm).mono ?_; rintro e w' ⟨rfl, rfl⟩; rw [G.out])
        | (go_at_call 35; refine HP.out.mono ?_; rintro e w1 ⟨rfl, hb⟩; rw [HR.out]; unfold playV))
      go_ret2
      exact ⟨ret_v (by rw [J.out.1, J.out.2.2]; rfl), hb⟩
    | none =>
      have J := Lib.hid (pl_none (R.out.trans hr))
      have HR := Lib.hid hr
      clear hr
      subst hv
      go_enter Tryd.func17, Tryd.ntmps17
      go_wp2_with (first
        | (go_at_call 28; refine (specFgGood _ _ hm).mono ?_; rintro e w' ⟨rfl, rfl⟩; rw [G.out])
        | (go_at_call 35; refine HP.out.mono ?_; rintro e w1 ⟨rfl, hb⟩; rw [HR.out]; unfold playV))
      go_ret2
      exact ⟨ret_v (by rw [J.out.1, J.out.2.2]; rfl), hb⟩
  · have J := Lib.hid (pl_none (plR_2 (s := s) h6))
    have G := Lib.hid h1
    have h6i : (60 : Int) < (l.length : Int) := by omega
    clear h1 h6 h
    subst hv
    go_enter Tryd.func17, Tryd.ntmps17
    go_wp2_with (go_at_call 28; refine (specFgGood _ _ hm).mono ?_; rintro e w' ⟨rfl, rfl⟩; rw [G.out])
    go_ret2
    exact ⟨ret_v (by rw [J.out.1, J.out.2.2]; rfl), Below.refl _ _⟩
set_option maxHeartbeats 2000000 in
theorem specLeapsIn (s : ByteArray) (v : Value) (l : List Int) (w : World) (hs : s.size ≤ 1048576) (h : Rd w v l) (hl : l.length ≤ 1048576) :
    Calls Tryd.prog 22 #[.string s, v] w fun e w' => e = .returned (.tuple #[.int .i64 (plM s l : Int), .bool (plB s l)]) ∧ Below w.heap.size w w' := by
  have hm : s.size ≤ maxLen := by unfold maxLen; omega
  obtain ⟨a, cap, hv⟩ := h.form
  cases h1 : isPd s
  · have J := Lib.hid (pl_none (plR_1 (l := l) h1))
    have G := Lib.hid h1
    clear h1 h hv
    go_enter Tryd.func22, Tryd.ntmps22
    go_wp2_with (go_at_call 28; refine (specFgGood _ _ hm).mono ?_; rintro e w' ⟨rfl, rfl⟩; rw [G.out])
    go_ret2
    exact ⟨ret_v (by rw [J.out.2.1, J.out.2.2]; rfl), Below.refl _ _⟩
  by_cases h6 : l.length ≤ 60
  · have G := Lib.hid h1
    have R := Lib.hid (plR_3 (l := l) h1 h6)
    have HP := Lib.hid (specPlay s v l w h1 h hl)
    have h6i : ¬ (60 : Int) < (l.length : Int) := by omega
    clear h1 h
    cases hr : playR s l with
    | some qm =>
      obtain ⟨q, m⟩ := qm
      have J := Lib.hid (pl_some (R.out.trans hr))
      have HR := Lib.hid hr
      clear hr
      subst hv
      go_enter Tryd.func22, Tryd.ntmps22
      go_wp2_with (first
        | (go_at_call 28; refine (specFgGood _ _ hm).mono ?_; rintro e w' ⟨rfl, rfl⟩; rw [G.out])
        | (go_at_call 35; refine HP.out.mono ?_; rintro e w1 ⟨rfl, hb⟩; rw [HR.out]; unfold playV))
      go_ret2
      exact ⟨ret_v (by rw [J.out.2.1, J.out.2.2]; rfl), hb⟩
    | none =>
      have J := Lib.hid (pl_none (R.out.trans hr))
      have HR := Lib.hid hr
      clear hr
      subst hv
      go_enter Tryd.func22, Tryd.ntmps22
      go_wp2_with (first
        | (go_at_call 28; refine (specFgGood _ _ hm).mono ?_; rintro e w' ⟨rfl, rfl⟩; rw [G.out])
        | (go_at_call 35; refine HP.out.mono ?_; rintro e w1 ⟨rfl, hb⟩; rw [HR.out]; unfold playV))
      go_ret2
      exact ⟨ret_v (by rw [J.out.2.1, J.out.2.2]; rfl), hb⟩
  · have J := Lib.hid (pl_none (plR_2 (s := s) h6))
    have G := Lib.hid h1
    have h6i : (60 : Int) < (l.length : Int) := by omega
    clear h1 h6 h
    subst hv
    go_enter Tryd.func22, Tryd.ntmps22
    go_wp2_with (go_at_call 28; refine (specFgGood _ _ hm).mono ?_; rintro e w' ⟨rfl, rfl⟩; rw [G.out])
    go_ret2
    exact ⟨ret_v (by rw [J.out.2.1, J.out.2.2]; rfl), Below.refl _ _⟩

theorem one_yes {s : ByteArray} {i : Int} (h : isPd s = true) (hg : 0 ≤ toI s i) : plQ s [i] = goI s i ∧ plB s [i] = true := by
  have e : plR s [i] = some (goI s i, 0 + b2n (leapB s i)) := by
    rw [plR_3 h (by simp)]
    exact stP_yes (s := s) (l := [i]) (j := 0) rfl hg
  have := pl_some e
  exact ⟨this.1, this.2.2⟩
theorem one_no {s : ByteArray} {i : Int} (h : isPd s = true) (hg : ¬ 0 ≤ toI s i) : plQ s [i] = ⟨#[]⟩ ∧ plB s [i] = false := by
  have e : plR s [i] = none := by
    rw [plR_3 h (by simp)]
    exact stP_no (s := s) (l := [i]) (j := 0) rfl hg
  have := pl_none e
  exact ⟨this.1, this.2.2⟩
set_option maxHeartbeats 2000000 in
theorem specMoveFrog (s : ByteArray) (i : Int) (w : World) (hs : s.size ≤ 1048576) :
    Calls Tryd.prog 15 #[.string s, .int .i64 i] w fun e w' => e = .returned (.tuple #[.string (plQ s [i]), .bool (plB s [i])]) ∧ Below w.heap.size w w' := by
  have hm : s.size ≤ maxLen := by unfold maxLen; omega
  cases h1 : isPd s
  · have J := Lib.hid (pl_none (plR_1 (l := [i]) h1))
    have G := Lib.hid h1
    clear h1
    go_enter Tryd.func15, Tryd.ntmps15
    go_wp2_with (go_at_call 28; refine (specFgGood _ _ hm).mono ?_; rintro e w' ⟨rfl, rfl⟩; rw [G.out])
    go_ret2
    exact ⟨ret_v (by rw [J.out.1, J.out.2.2]; rfl), Below.refl _ _⟩
  by_cases hg : 0 ≤ toI s i
  · have J := Lib.hid (one_yes h1 hg)
    have G := Lib.hid h1
    obtain ⟨h0, h0'⟩ := toI_in hg
    obtain ⟨k, rfl⟩ := Int.eq_ofNat_of_zero_le h0
    obtain ⟨t, ht⟩ := Int.eq_ofNat_of_zero_le hg
    have HT := Lib.hid ht
    have HG := Lib.hid (show mvB s k t = goI s k by unfold goI; rw [ht]; rfl)
    clear h1 hg ht
    go_enter Tryd.func15, Tryd.ntmps15
    go_wp2_with (first
      | (go_at_call 28; refine (specFgGood _ _ hm).mono ?_; rintro e w' ⟨rfl, rfl⟩; rw [G.out])
      | (go_at_call 32; refine (specTo s _ _ G.out).mono ?_; rintro e w2 ⟨rfl, hb2⟩; rw [HT.out])
      | (go_at_call 33; refine (specMove s k t _ G.out HT.out).mono ?_; rintro e w3 ⟨rfl, hb3⟩; rw [HG.out]))
    go_ret2
    exact ⟨ret_v (by rw [J.out.1, J.out.2]; rfl), hb2.trans (hb3.mono hb2.size)⟩
  · have J := Lib.hid (one_no h1 hg)
    have G := Lib.hid h1
    clear h1
    go_enter Tryd.func15, Tryd.ntmps15
    go_wp2_with (first
      | (go_at_call 28; refine (specFgGood _ _ hm).mono ?_; rintro e w' ⟨rfl, rfl⟩; rw [G.out])
      | (go_at_call 32; refine (specTo s _ _ G.out).mono ?_; rintro e w2 ⟨rfl, hb2⟩))
    go_ret2
    exact ⟨ret_v (by rw [J.out.1, J.out.2]; rfl), hb2⟩
end Go.Proofs.YtlaepnbkkjdpgaaDoor
