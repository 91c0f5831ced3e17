/- spec.plJoin, spec.plFew; spec.FirstJoined, spec.FewestJoined. -/
import Derived.Test.YtimbpfenpbkckaaJm
import Derived.Test.YtimbpfenpbkckaaJl
import Derived.Test.YtimbpfenpbkckaaPre
namespace Go.Proofs.Ytimbpfenpbkckaa
set_option linter.unusedVariables false
open Go.RowKit

def gL (ps : List Int) (lap : Int) (k : Nat) : Int := gt ps k - lap
def JPost (B : Nat) (r : Option (List Nat)) (w : World) (e : Ending) (w' : World) : Prop :=
  ∃ u, e = .returned (.tuple #[u, .bool r.isSome]) ∧ Ints w' B u (idx (r.getD [])) ∧ Below B w w'
theorem scan_at {f : Nat → Option (List Nat)} {k c : Nat} {r : List Nat} (h : f k = some r) : scan f k (c + 1) = some r := by rw [scan_s, h]
theorem scan_no {f : Nat → Option (List Nat)} {k c : Nat} (h : f k = none) : scan f k (c + 1) = scan f (k + 1) c := by rw [scan_s, h]
set_option maxHeartbeats 2000000 in
theorem specJoin (ps : List Int) (lap : Int) (v : Value) (hp : arePl ps = true) (hlap : 0 ≤ lap ∧ lap ≤ 10) (hl : ∀ j, j < ps.length → lap < gt ps j) (m : Nat) :
    ∀ (w : World) (need : Int) (a : Nat), m ≤ 7 → Rd w v ps → a ≤ ps.length → -1000 + 110 * (m : Int) ≤ need → need ≤ 1000 →
      Calls Try.prog 67 #[.int .i64 need, v, .int .i64 lap, .int .i64 a, .int .i64 m] w (JPost w.heap.size (joinF ps.length (gL ps lap) m need a) w) := by
  induction m with
  | zero =>
    intro w need a _ h _ h1 h2
    have J := Lib.hid (joinF_0 ps.length (gL ps lap) need a)
    clear h
    by_cases hz : need ≤ 0
    · rw [if_pos hz] at J
      go_enter Try.func67, Try.ntmps67
      go_wp2
      go_ret2
      exact ⟨_, by rw [J.out]; rfl, by rw [J.out]; exact World.ownsRow_nil _ _ _ _, Below.refl _ _⟩
    · rw [if_neg hz] at J
      go_enter Try.func67, Try.ntmps67
      go_wp2
      go_ret2
      exact ⟨_, by rw [J.out]; rfl, by rw [J.out]; exact World.ownsRow_nil _ _ _ _, Below.refl _ _⟩
  | succ m ih =>
    intro w need a hm h ha h1 h2
    have IH := Lib.hid ih
    clear ih
    have HRd := Lib.hid h
    have hin := arePl_in hp
    obtain ⟨b, off, n, c, rfl, hnz, hb, hcell⟩ := h.cellsP (by omega)
    rw [← hnz] at ha hin hl
    have HC := Lib.hid hcell
    have HX := Lib.hid (arePl_any hp)
    have HLP := Lib.hid hl
    have n7 := hin.2.1
    have J := Lib.hid (joinF_s n (gL ps lap) m need a)
    have HLEN := Lib.hid (fun t nd x => joinF_len n (gL ps lap) m nd x t)
    rw [← hnz] at IH ⊢
    clear h hcell hin hl hnz hp
    obtain ⟨M, hM⟩ : ∃ M : Int, M = ((m + 1 : Nat) : Int) := ⟨_, rfl⟩
    rw [← hM]
    have hM1 : M - 1 = (m : Int) := by omega
    have hM2 : M ≠ 0 := by omega
    have hM3 : (M == 0) = false := by simpa using hM2
    have hM4 : 1 ≤ M ∧ M ≤ 7 := by omega
    clear hM
    go_enter Try.func67, Try.ntmps67
    go_wp2
    go_loopw [12] (fun i wr => ∃ k : Nat, a ≤ k ∧ k ≤ n ∧ i = .int .i64 k ∧ Hid (joinF n (gL ps lap) (m + 1) need a = scan (fun k => (joinF n (gL ps lap) m (need - gL ps lap k) (k + 1)).map (k :: ·)) k (n - k)) ∧ Below w.heap.size w wr) (fun i _ => n - (intOf i).toNat)
    case atStart => exact ⟨a, Nat.le_refl _, ha, rfl, J, Below.refl _ _⟩
    case round =>
      obtain ⟨k, hak, hk, rfl, HS, hbel⟩ := hrel
      have hle := hbel.size
      by_cases hlt : k < n
      · have hc := (hbel.cell (p := ⟨b, off + k, none⟩) hb).trans (HC.out k hlt)
        have hx := HX.out k
        have hg := HLP.out k hlt
        have hlt' : (k : Int) < n := by omega
        have hnk : n - k = (n - (k + 1)) + 1 := by omega
        have e : need - gL ps lap k = need - gt ps k + lap := by unfold gL; omega
        have I := fun wx hx => IH.out wx (need - gt ps k + lap) (k + 1) (by omega) hx (by omega) (by omega) (by omega)
        cases hr : joinF n (gL ps lap) m (need - gt ps k + lap) (k + 1) with
        | some t =>
          have R := Lib.hid (show joinF n (gL ps lap) (m + 1) need a = some (k :: t) by rw [HS.out, hnk]; refine scan_at ?_; rw [e, hr]; try rfl)
          have tl := HLEN.out _ _ _ hr
          rw [hr] at I
          have II := Lib.hid I
          clear I hr e HS J HLEN
          generalize gt ps k = x at *
          go_wp2_with (first
            | (go_at_call 67; (try rw [hM1]); refine (II.out _ (HRd.out.below hbel)).mono ?_; rintro e w2 ⟨u, rfl, hI, hb2⟩; have hI := hI; simp only [Option.getD_some] at hI)
            | (at_builtin; refine wpList_preI w2 rfl _ _ rfl wr.heap.size u (idx t) rfl hI (k : Int) rfl (by rw [idx_len]; omega) hb2.size rfl ?_; intro v' w3 hI3 hb3))
          go_ret2
          exact ⟨_, by rw [R.out]; rfl, by rw [R.out]; exact ints_mono' hI3 hle, (hbel.trans (hb2.mono hle)).trans (hb3.mono (Nat.le_trans hle hb2.size))⟩
        | none =>
          have R : Hid (joinF n (gL ps lap) (m + 1) need a = scan (fun k => (joinF n (gL ps lap) m (need - gL ps lap k) (k + 1)).map (k :: ·)) (k + 1) (n - (k + 1))) := Lib.hid (by rw [HS.out, hnk]; exact scan_no (by rw [e, hr]; try rfl))
          rw [hr] at I
          have II := Lib.hid I
          clear I hr e HS J HLEN
          generalize gt ps k = x at *
          go_wp2_with (first
            | (go_at_call 67; (try rw [hM1]); refine (II.out _ (HRd.out.below hbel)).mono ?_; rintro e w2 ⟨u, rfl, hI, hb2⟩))
          go_roundw
          case rel => exact ⟨k + 1, by omega, by omega, by go_num, R, hbel.trans (hb2.mono hle)⟩
          case measure => (simp [intOf]; try omega)
      · obtain rfl : k = n := by omega
        have R := Lib.hid (HS.out.trans (by rw [Nat.sub_self]; rfl : _ = none))
        clear HS
        go_wp2
        go_ret2
        exact ⟨_, by rw [R.out]; rfl, by rw [R.out]; exact World.ownsRow_nil _ _ _ _, hbel⟩
/-- the first list of as few as can be -/
def fewF (ps : List Int) (lap need : Int) : Nat → Nat → Option (List Nat)
  | _, 0 => none
  | m, c + 1 => match joinF ps.length (gL ps lap) m need 0 with
    | some r => some r
    | none => fewF ps lap need (m + 1) c
theorem fewF_at {ps : List Int} {lap need : Int} {m c : Nat} {r : List Nat} (h : joinF ps.length (gL ps lap) m need 0 = some r) : fewF ps lap need m (c + 1) = some r := by
  unfold fewF; rw [h]
theorem fewF_no {ps : List Int} {lap need : Int} {m c : Nat} (h : joinF ps.length (gL ps lap) m need 0 = none) : fewF ps lap need m (c + 1) = fewF ps lap need (m + 1) c := by
  conv => lhs; unfold fewF
  rw [h]
set_option maxHeartbeats 2000000 in
theorem specFew (ps : List Int) (gap rest lap : Int) (v : Value) (w : World) (h : Rd w v ps) (hp : arePl ps = true) (hlap : 0 ≤ lap ∧ lap ≤ 10) (hl : ∀ j, j < ps.length → lap < gt ps j) (hg : 1 ≤ gap ∧ gap ≤ 100) (hr : 0 ≤ rest ∧ rest ≤ 10) :
    Calls Try.prog 52 #[.int .i64 gap, v, .int .i64 rest, .int .i64 lap] w (JPost w.heap.size (fewF ps lap (gap + 2 * rest - lap) 1 ps.length) w) := by
  have HRd := Lib.hid h
  have HJ := Lib.hid (specJoin ps lap v hp hlap hl)
  have hin := arePl_in hp
  obtain ⟨b, off, n, c, rfl, hnz, hb, hcell⟩ := h.cellsP (by omega)
  rw [← hnz] at hin ⊢
  have HN := Lib.hid hnz
  have n7 := hin.2.1
  have HHIT := Lib.hid (fun m c r => fewF_at (ps := ps) (lap := lap) (need := gap + 2 * rest - lap) (m := m) (c := c) (r := r))
  have HMISS := Lib.hid (fun m c => fewF_no (ps := ps) (lap := lap) (need := gap + 2 * rest - lap) (m := m) (c := c))
  rw [← hnz] at HJ HHIT HMISS
  clear h hcell hin hl hp hnz
  go_enter Try.func52, Try.ntmps52
  go_wp2
  go_loopw [10] (fun i wr => ∃ k : Nat, k ≤ n ∧ i = .int .i64 ((k : Int) + 1) ∧ Hid (fewF ps lap (gap + 2 * rest - lap) 1 n = fewF ps lap (gap + 2 * rest - lap) (k + 1) (n - k)) ∧ Below w.heap.size w wr) (fun i _ => n + 2 - (intOf i).toNat)
  case atStart => exact ⟨0, Nat.zero_le _, rfl, Lib.hid rfl, Below.refl _ _⟩
  case round =>
    obtain ⟨k, hk, rfl, HS, hbel⟩ := hrel
    have hle := hbel.size
    by_cases hlt : k < n
    · have hnk : n - k = (n - (k + 1)) + 1 := by omega
      have I := fun wx hx => HJ.out (k + 1) wx (gap + 2 * rest - lap) 0 (by omega) hx (by omega) (by omega) (by omega)
      cases hr : joinF n (gL ps lap) (k + 1) (gap + 2 * rest - lap) 0 with
      | some t =>
        have R : Hid (fewF ps lap (gap + 2 * rest - lap) 1 n = some t) := Lib.hid (by rw [HS.out, hnk]; exact HHIT.out _ _ _ hr)
        rw [hr] at I
        have II := Lib.hid I
        clear I hr HS HHIT HMISS HJ
        go_wp2_with (first
          | (go_at_call 67; refine (II.out _ (HRd.out.below hbel)).mono ?_; rintro e w2 ⟨u, rfl, hI, hb2⟩))
        go_ret2
        exact ⟨_, by rw [R.out]; rfl, by rw [R.out]; exact ints_mono' hI hle, hbel.trans (hb2.mono hle)⟩
      | none =>
        have R : Hid (fewF ps lap (gap + 2 * rest - lap) 1 n = fewF ps lap (gap + 2 * rest - lap) (k + 1 + 1) (n - (k + 1))) := Lib.hid (by rw [HS.out, hnk]; exact HMISS.out _ _ hr)
        rw [hr] at I
        have II := Lib.hid I
        clear I hr HS HHIT
        go_wp2_with (first
          | (go_at_call 67; refine (II.out _ (HRd.out.below hbel)).mono ?_; rintro e w2 ⟨u, rfl, hI, hb2⟩))
        go_roundw
        case rel => exact ⟨k + 1, by omega, by go_num, R, hbel.trans (hb2.mono hle)⟩
        case measure => (simp [intOf]; try omega)
    · obtain rfl : k = n := by omega
      have R := Lib.hid (HS.out.trans (by rw [Nat.sub_self]; rfl : _ = none))
      clear HS
      go_wp2
      go_ret2
      exact ⟨_, by rw [R.out]; rfl, by rw [R.out]; exact World.ownsRow_nil _ _ _ _, hbel⟩
/-- what is asked for -/
def fewA (gap : Int) (ps : List Int) (rest lap : Int) : Bool := inB gap 1 100 && inB rest 0 10 && laps ps lap
def fewO (gap : Int) (ps : List Int) (rest lap : Int) : Option (List Nat) := if fewA gap ps rest lap then fewF ps lap (gap + 2 * rest - lap) 1 ps.length else none
theorem fewO_no {gap : Int} {ps : List Int} {rest lap : Int} (h : fewA gap ps rest lap = false) : fewO gap ps rest lap = none := by simp [fewO, h]
theorem fewO_yes {gap : Int} {ps : List Int} {rest lap : Int} (h : fewA gap ps rest lap = true) : fewO gap ps rest lap = fewF ps lap (gap + 2 * rest - lap) 1 ps.length := by simp [fewO, h]
theorem fewF_len (ps : List Int) (lap need : Int) : ∀ (c m : Nat) (r : List Nat), fewF ps lap need m c = some r → r.length ≤ m + c
  | 0, _, _, h => by cases h
  | c + 1, m, r, h => by
    unfold fewF at h
    split at h
    · rename_i t ht
      cases h
      have := joinF_len _ _ _ _ _ _ ht; omega
    · have := fewF_len ps lap need c (m + 1) r h; omega
theorem fewO_len {gap : Int} {ps : List Int} {rest lap : Int} : ((fewO gap ps rest lap).getD []).length ≤ 8 := by
  cases h : fewA gap ps rest lap
  · rw [fewO_no h]; simp
  · rw [fewO_yes h]
    have hl : laps ps lap = true := by unfold fewA at h; rw [Bool.and_eq_true] at h; exact h.2
    have := (arePl_in (laps_in hl).1).2.1
    cases h2 : fewF ps lap (gap + 2 * rest - lap) 1 ps.length with
    | none => simp
    | some r => have := fewF_len _ _ _ _ _ _ h2; simp; omega
theorem fewA_in {gap : Int} {ps : List Int} {rest lap : Int} (h : fewA gap ps rest lap = true) : (1 ≤ gap ∧ gap ≤ 100) ∧ (0 ≤ rest ∧ rest ≤ 10) ∧ laps ps lap = true := by
  unfold fewA at h
  rw [Bool.and_eq_true, Bool.and_eq_true, inB_iff, inB_iff] at h
  exact ⟨h.1.1, h.1.2, h.2⟩
def fewN (gap : Int) (ps : List Int) (rest lap : Int) : Value := .tuple #[.int .i64 (((fewO gap ps rest lap).getD []).length : Int), .bool (fewO gap ps rest lap).isSome]
def IntsJ (B : Nat) (zs : List Int) (ok : Bool) (w : World) (e : Ending) (w' : World) : Prop := ∃ v, e = .returned (.tuple #[v, .bool ok]) ∧ Ints w' B v zs ∧ Below B w w'

set_option maxHeartbeats 2000000 in
theorem specFirstJ (gap : Int) (v : Value) (ps : List Int) (rest lap : Int) (w : World) (h : Rd w v ps) (hn : ps.length ≤ 1048576) :
    Calls Try.prog 25 #[.int .i64 gap, v, .int .i64 rest, .int .i64 lap] w (IntsJ w.heap.size (idx ((fewO gap ps rest lap).getD [])) (fewO gap ps rest lap).isSome w) := by
  have HL := Lib.hid (plLap v ps lap w h hn)
  have E := Lib.hid (show fewA gap ps rest lap = (inB gap 1 100 && inB rest 0 10 && laps ps lap) from rfl)
  cases h1 : inB gap 1 100
  · have J := Lib.hid (fewO_no (E.out.trans (by simp [h1])))
    have G1 := Lib.hid h1
    clear h E h1
    go_enter Try.func25, Try.ntmps25
    go_wp2_with (first
      | (go_at_call 39; refine (l1In _ _ _ _).mono ?_; rintro e w' ⟨rfl, rfl⟩; rw [G1.out]))
    go_ret2
    exact ⟨_, by rw [J.out]; rfl, by rw [J.out]; exact World.ownsRow_nil _ _ _ _, Below.refl _ _⟩
  cases h2 : laps ps lap
  · have J := Lib.hid (fewO_no (E.out.trans (by simp [h1, h2])))
    have G1 := Lib.hid h1
    rw [h2] at HL
    clear h E h1 h2
    go_enter Try.func25, Try.ntmps25
    go_wp2_with (first
      | (go_at_call 39; refine (l1In _ _ _ _).mono ?_; rintro e w' ⟨rfl, rfl⟩; rw [G1.out])
      | (go_at_call 48; refine HL.out.mono ?_; rintro e w' ⟨rfl, rfl⟩))
    go_ret2
    exact ⟨_, by rw [J.out]; rfl, by rw [J.out]; exact World.ownsRow_nil _ _ _ _, Below.refl _ _⟩
  cases h3 : inB rest 0 10
  · have J := Lib.hid (fewO_no (E.out.trans (by simp [h1, h2, h3])))
    have G1 := Lib.hid h1
    rw [h2] at HL
    have G3 := Lib.hid h3
    clear h E h1 h2 h3
    go_enter Try.func25, Try.ntmps25
    go_wp2_with (first
      | (go_at_call 39; refine (l1In _ _ _ _).mono ?_; rintro e w' ⟨rfl, rfl⟩; rw [G1.out])
      | (go_at_call 48; refine HL.out.mono ?_; rintro e w' ⟨rfl, rfl⟩)
      | (go_at_call 40; refine (plRest _ _).mono ?_; rintro e w' ⟨rfl, rfl⟩; rw [G3.out]))
    go_ret2
    exact ⟨_, by rw [J.out]; rfl, by rw [J.out]; exact World.ownsRow_nil _ _ _ _, Below.refl _ _⟩
  have J := Lib.hid (fewO_yes (E.out.trans (by simp [h1, h2, h3] : _ = true)))
  have b1 := inB_iff.1 h1
  have b3 := inB_iff.1 h3
  obtain ⟨hp, hl0, hl1, hlp⟩ := laps_in h2
  have HF := Lib.hid (specFew ps gap rest lap v w h hp ⟨hl0, hl1⟩ hlp b1 b3)
  have G1 := Lib.hid h1
  have G3 := Lib.hid h3
  rw [h2] at HL
  clear h E h1 h2 h3 hp hlp
  go_enter Try.func25, Try.ntmps25
  go_wp2_with (first
    | (go_at_call 39; refine (l1In _ _ _ _).mono ?_; rintro e w' ⟨rfl, rfl⟩; rw [G1.out])
    | (go_at_call 48; refine HL.out.mono ?_; rintro e w' ⟨rfl, rfl⟩)
    | (go_at_call 40; refine (plRest _ _).mono ?_; rintro e w' ⟨rfl, rfl⟩; rw [G3.out])
    | (go_at_call 52; refine HF.out.mono ?_; rintro e w2 ⟨u, rfl, hI, hb2⟩))
  go_ret2
  exact ⟨_, by rw [J.out]; rfl, by rw [J.out]; exact hI, hb2⟩

set_option maxHeartbeats 2000000 in
theorem specFewN (gap : Int) (v : Value) (ps : List Int) (rest lap : Int) (w : World) (h : Rd w v ps) (hn : ps.length ≤ 1048576) :
    Calls Try.prog 23 #[.int .i64 gap, v, .int .i64 rest, .int .i64 lap] w (fun e w' => e = .returned (fewN gap ps rest lap) ∧ Below w.heap.size w w') := by
  have HL := Lib.hid (plLap v ps lap w h hn)
  have E := Lib.hid (show fewA gap ps rest lap = (inB gap 1 100 && inB rest 0 10 && laps ps lap) from rfl)
  cases h1 : inB gap 1 100
  · have J := Lib.hid (fewO_no (E.out.trans (by simp [h1])))
    have G1 := Lib.hid h1
    clear h E h1
    go_enter Try.func23, Try.ntmps23
    go_wp2_with (first
      | (go_at_call 39; refine (l1In _ _ _ _).mono ?_; rintro e w' ⟨rfl, rfl⟩; rw [G1.out]))
    go_ret2
    exact ⟨ret_v (by unfold fewN; rw [J.out]; rfl), Below.refl _ _⟩
  cases h2 : laps ps lap
  · have J := Lib.hid (fewO_no (E.out.trans (by simp [h1, h2])))
    have G1 := Lib.hid h1
    rw [h2] at HL
    clear h E h1 h2
    go_enter Try.func23, Try.ntmps23
    go_wp2_with (first
      | (go_at_call 39; refine (l1In _ _ _ _).mono ?_; rintro e w' ⟨rfl, rfl⟩; rw [G1.out])
      | (go_at_call 48; refine HL.out.mono ?_; rintro e w' ⟨rfl, rfl⟩))
    go_ret2
    exact ⟨ret_v (by unfold fewN; rw [J.out]; rfl), Below.refl _ _⟩
  cases h3 : inB rest 0 10
  · have J := Lib.hid (fewO_no (E.out.trans (by simp [h1, h2, h3])))
    have G1 := Lib.hid h1
    rw [h2] at HL
    have G3 := Lib.hid h3
    clear h E h1 h2 h3
    go_enter Try.func23, Try.ntmps23
    go_wp2_with (first
      | (go_at_call 39; refine (l1In _ _ _ _).mono ?_; rintro e w' ⟨rfl, rfl⟩; rw [G1.out])
      | (go_at_call 48; refine HL.out.mono ?_; rintro e w' ⟨rfl, rfl⟩)
      | (go_at_call 40; refine (plRest _ _).mono ?_; rintro e w' ⟨rfl, rfl⟩; rw [G3.out]))
    go_ret2
    exact ⟨ret_v (by unfold fewN; rw [J.out]; rfl), Below.refl _ _⟩
  have J := Lib.hid (fewO_yes (E.out.trans (by simp [h1, h2, h3] : _ = true)))
  have b1 := inB_iff.1 h1
  have b3 := inB_iff.1 h3
  obtain ⟨hp, hl0, hl1, hlp⟩ := laps_in h2
  have HF := Lib.hid (specFew ps gap rest lap v w h hp ⟨hl0, hl1⟩ hlp b1 b3)
  have G1 := Lib.hid h1
  have G3 := Lib.hid h3
  rw [h2] at HL
  clear h E h1 h2 h3 hp hlp
  go_enter Try.func23, Try.ntmps23
  go_wp2_with (first
    | (go_at_call 39; refine (l1In _ _ _ _).mono ?_; rintro e w' ⟨rfl, rfl⟩; rw [G1.out])
    | (go_at_call 48; refine HL.out.mono ?_; rintro e w' ⟨rfl, rfl⟩)
    | (go_at_call 40; refine (plRest _ _).mono ?_; rintro e w' ⟨rfl, rfl⟩; rw [G3.out])
    | (go_at_call 52; refine HF.out.mono ?_; rintro e w2 ⟨u, rfl, hI, hb2⟩; obtain ⟨a', n', c', rfl, hn', _⟩ := hI.rd.cells; have HN' := Lib.hid hn'; clear hn'))
  go_ret2
  exact ⟨ret_v (by unfold fewN; rw [J.out]; have e := HN'.out; rw [idx_len] at e; rw [← e]; rfl), hb2⟩
end Go.Proofs.Ytimbpfenpbkckaa
