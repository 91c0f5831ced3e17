/- FirstStrongCrossing, both sides; spec.siFirst. -/
import Derived.Test.YtihdhgkknfohaabSc
import Derived.Test.YtihdhgkknfohaabSr
import Derived.Test.YtihdhgkknfohaabFirst
namespace Go.Proofs.Ytihdhgkknfohaab
set_option linter.unusedVariables false
open Go.RowKit

theorem rvB_isRv {s : ByteArray} (h : isSt s = true) : isRv (rvB s) = true := by
  obtain ⟨h1, h2, hd⟩ := isSt_in h
  have hz : (rvB s).size = s.size := mapB_size _ _
  unfold isRv
  rw [hz]
  simp only [Bool.and_eq_true, decide_eq_true_eq]
  refine ⟨⟨h1, by omega⟩, ?_⟩
  rw [List.all_eq_true]
  intro x hx
  have hx' : x ∈ s.data.toList.map rvC := by simpa [rvB, mapB] using hx
  obtain ⟨y, _, rfl⟩ := List.mem_map.1 hx'
  unfold rvC sgn
  split <;> rfl
theorem rvB_size (s : ByteArray) : (rvB s).size = s.size := mapB_size _ _
theorem rvB_asked {s : ByteArray} {L : Int} (h : stA s L = true) : asked (rvB s) L = true := by
  obtain ⟨h1, h2, h3⟩ := stA_in h
  simp [asked, rvB_isRv h1, inB]; omega
def fscL (s : ByteArray) (L : Int) : List Int := if stA s L then firstL (rvB s) L else []
def fscB (s : ByteArray) (L : Int) : Bool := stA s L && firstB (rvB s) L
theorem fscL_no {s : ByteArray} {L : Int} (h : stA s L = false) : fscL s L = [] ∧ fscB s L = false := by simp [fscL, fscB, h]
theorem fscL_yes {s : ByteArray} {L : Int} (h : stA s L = true) : fscL s L = firstL (rvB s) L ∧ fscB s L = firstB (rvB s) L := by simp [fscL, fscB, h]
theorem fscL_len (s : ByteArray) (L : Int) : (fscL s L).length ≤ 43 := by
  unfold fscL; split
  · exact firstL_len _ _
  · simp
set_option maxHeartbeats 4000000 in
theorem siFirst (t : ByteArray) (L : Int) (w : World) (h0 : stA t L = true) :
    Calls Try.prog 41 #[.string t, .int .i64 L] w (IntsPost' w.heap.size (firstL (rvB t) L) (firstB (rvB t) L) w) := by
  have h1 := rvB_asked h0
  have hr := fun wx => siRiver t wx (by have := (isSt_in (stA_in h0).1).2.1; omega)
  have ht : t.size = (rvB t).size := (rvB_size t).symm
  generalize rvB t = s at *
  have HR := Lib.hid hr
  clear h0 hr
  have hp := leftL_pos h1
  obtain ⟨_, hz1, hz2, hl1, hl2⟩ := asked_out h1
  have LL := leftL_yes h1
  have hsm := leftL_small h1
  obtain ⟨l, rfl⟩ := Int.eq_ofNat_of_zero_le (show 0 ≤ L by omega)
  have hst : Steps (leftL s l) := by rw [LL]; exact lvl_steps s _ _ _
  have hlen : (leftL s l).length = s.size + 2 := by rw [LL, lefts, lvl_len]
  have hv := fun wx => specRvLeft s l wx hz1 hz2 (by omega) (by omega)
  rw [show lefts s l = leftL s l by rw [LL]; rfl] at hv
  have hbd : ∀ j, -1 ≤ gt (leftL s l) j ∧ gt (leftL s l) j ≤ 41 := fun j => by
    have := lvl_small s l (s.size + 1) (s.size + 1) j
    rw [LL]; unfold lefts; simp only [Int.toNat_natCast]; omega
  have J1 := fun h2 => firstL_2 (s := s) (L := l) h2
  have J2 := fun (r : Nat) h2 => firstL_3 (s := s) (L := l) h1 (r := r) h2
  clear h1 LL
  generalize leftL s l = zs at *
  have HV := Lib.hid hv
  have HST := Lib.hid hst
  have HBD := Lib.hid hbd
  have HLN := Lib.hid hlen
  clear hv hst hbd
  by_cases h2 : 0 ≤ gt zs 0
  · obtain ⟨r0, hr0⟩ := Int.eq_ofNat_of_zero_le h2
    have HJ := Lib.hid (J2 r0 hr0)
    have HR0 := Lib.hid (show gt zs 0 = (r0 : Int) from hr0)
    have hr41 : r0 ≤ 41 := by omega
    clear J1 J2 h2 hr0 hsm
    go_enter Try.func41, Try.ntmps41
    go_wp2_with (first
      | (go_at_call 53; refine (HR.out _).mono ?_; rintro e w' ⟨rfl, rfl⟩)
      | (go_at_call 52; refine (HV.out _).mono ?_; rintro e w2 ⟨v, rfl, hI, hb2⟩; obtain ⟨g, n, cap, rfl, hn, _, _, hg1, hg2, hcell⟩ := hI.form hp; have HCC := Lib.hid hcell; have c00 := hcell 0 (by omega); rw [HR0.out] at c00; have hn0 : 0 < n := (by omega); have HN := Lib.hid hn; clear hcell hI hn))
    all_goals
      have s2 := hb2.size
      have hn : n = s.size + 2 := by rw [HN.out, HLN.out]
      have HNN := Lib.hid hn
      have hnb : n ≤ 42 := by omega
      have hn2 : 2 ≤ n := by omega
      have H0 := Lib.hid (one_zero w2 w2.heap.size (Nat.le_refl _))
      have hB0 : Below w2.heap.size w2 (w2.alloc (.cells #[.int .i64 0] 3)) := (Below.refl _ _).alloc (Nat.le_refl _) _
      clear hn hlen hp
      go_loopw [7, 8] (fun v pl wr => ∃ (r p : Nat) (acc : List Int), p < n ∧ pl = .int .i64 p ∧ gt zs p = r ∧ acc ++ fc zs r p = 0 :: fc zs r0 0 ∧ Ints wr w2.heap.size v acc ∧ Below w2.heap.size w2 wr) (fun _ pl _ => n - (intOf pl).toNat)
      case atStart => exact ⟨r0, 0, [0], by omega, rfl, HR0.out, rfl, H0.out, hB0⟩
      case round =>
        obtain ⟨r, p, acc, hp, rfl, hgr, hacc, hI, hb⟩ := hrel
        have hal : acc.length ≤ 43 := by have := congrArg List.length hacc; simp [fc_len] at this; omega
        have cp := (hb.cell (p := ⟨g, p, none⟩) hg2).trans (HCC.out p hp)
        rw [hgr] at cp
        rcases r with _ | r
        · rw [show fc zs 0 p = [] from rfl, List.append_nil] at hacc
          have A := Lib.hid hacc
          clear hacc hgr
          go_wp2
          go_ret2
          exact ⟨_, by rw [HJ.out.2]; rfl, by rw [HJ.out.1, ← A.out]; exact ints_mono' hI (s2), hb2.trans (hb.mono s2)⟩
        · have cp' : wr.cell? ⟨g, p, none⟩ = some (.int .i64 ((r : Int) + 1)) := cp
          have hex := HST.out p r (by rw [hgr]; rfl)
          have A := Lib.hid (show acc ++ ((fi zs r (p + 1) : Int) :: fc zs r (fi zs r (p + 1))) = 0 :: fc zs r0 0 from hacc)
          have hr41' : r ≤ 41 := by have := HBD.out p; omega
          clear hacc hgr cp
          go_wp2
          obtain ⟨wo, rfl⟩ : ∃ wo : World, wo = wr := ⟨_, rfl⟩
          go_loopw [9] (fun nx wr => ∃ q : Nat, p < q ∧ nx = .int .i64 q ∧ fi zs r (p + 1) = fi zs r q ∧ (∃ q', q ≤ q' ∧ q' < n ∧ gt zs q' = r) ∧ Below wo.heap.size wo wr) (fun nx _ => n - (intOf nx).toNat)
          case atStart =>
            obtain ⟨q', h1, h2, h3⟩ := hex
            exact ⟨p + 1, by omega, rfl, rfl, ⟨q', by omega, by rw [HN.out]; exact h2, h3⟩, Below.refl _ _⟩
          case round =>
            clear hex
            obtain ⟨q, hq, rfl, hfi, ⟨q', h1, h2, h3⟩, hbi⟩ := hrel
            have hqn : q < n := by omega
            have s3 := hbi.size
            have s4 := hb.size
            have hbt := hb.trans (hbi.mono s4)
            have hII := hI.below hbi
            have c1 := (hbi.cell (p := ⟨g, p, none⟩) (show g < wo.heap.size by omega)).trans cp'
            have c2 := (hbt.cell (p := ⟨g, q, none⟩) hg2).trans (HCC.out q hqn)
            have hxb := HBD.out q
            have hqn' : (q : Int) < n := by omega
            have hpn' : (p : Int) < n := by omega
            by_cases hx : gt zs q = r
            · have F := Lib.hid (hfi.trans (fi_hit (by rw [← HN.out]; exact hqn) hx))
              have HX := Lib.hid hx
              rw [hx] at c2
              have ht : ((r : Int) != (r : Int) + 1 - 1) = false := by simp
              have HI := Lib.hid hII
              have HB := Lib.hid hbt
              clear hfi h3 hx hI hb hII hbt hbi cp' hxb
              have hsz : w2.heap.size ≤ wr.heap.size := by omega
              go_wp2
              go_quiet (fail)
              go_wp2_with (at_builtin; refine wpList_app _ rfl _ _ rfl w2.heap.size _ acc rfl (HI.out.below (below_drewN (Below.refl _ _) _)) (q : Int) rfl (by omega) hsz rfl ?_; intro v' w3 hI3 hb3 hg3)
              go_roundw
              case rel => exact ⟨r, q, acc ++ [(q : Int)], hqn, rfl, HX.out, by rw [← A.out, F.out]; simp, hI3, (below_drewN HB.out _).trans hb3⟩
              case measure => (simp [intOf]; try omega)
            · have F := Lib.hid (hfi.trans (fi_miss (by rw [← HN.out]; exact hqn) hx))
              have hq' : q ≠ q' := fun e => by subst e; exact hx h3
              have hx2 : ¬ (gt zs q = (r : Int) + 1 - 1) := by omega
              have ht : (gt zs q != (r : Int) + 1 - 1) = true := by simpa using hx2
              have H3 := Lib.hid h3
              have HI := Lib.hid hII
              have HB := Lib.hid hbt
              clear hfi h3 hI hb hII hbt cp' hx
              generalize gt zs q = x at *
              go_wp2
              go_quiet (fail)
              go_wp2
              go_roundw
              case rel => exact ⟨q + 1, by omega, by go_num, F.out, ⟨q', by omega, h2, H3.out⟩, below_drewN hbi _⟩
              case measure => (simp [intOf]; try omega)
  · have h3 : gt zs 0 < 0 := by omega
    have J := Lib.hid (J1 h3)
    have HX := Lib.hid h3
    clear J1 J2 h2
    generalize hx : gt zs 0 = x0 at *
    have HX0 := Lib.hid hx
    clear hx
    go_enter Try.func41, Try.ntmps41
    go_wp2_with (first
      | (go_at_call 53; refine (HR.out _).mono ?_; rintro e w' ⟨rfl, rfl⟩)
      | (go_at_call 52; refine (HV.out _).mono ?_; rintro e w2 ⟨v, rfl, hI, hb2⟩; obtain ⟨g, n, cap, rfl, hn, _, _, hg1, hg2, hcell⟩ := hI.form hp; have c00 := hcell 0 (by omega); rw [HX0.out] at c00; have hn0 : 0 < n := (by omega); clear hcell hI hn hlen))
    go_ret2
    exact ⟨_, by rw [J.out.2]; rfl, by rw [J.out.1]; exact World.ownsRow_nil _ _ _ _, hb2⟩
theorem specFsc (s : ByteArray) (L : Int) (w : World) (hs : s.size ≤ 1048576) :
    Calls Try.prog 18 #[.string s, .int .i64 L] w (IntsPost' w.heap.size (fscL s L) (fscB s L) w) := by
  cases h : stA s L
  · have J := Lib.hid (fscL_no h)
    have G := Lib.hid h
    clear h
    go_enter Try.func18, Try.ntmps18
    go_wp2_with (go_at_call 34; refine (siAsked _ _ _ hs).mono ?_; rintro e w' ⟨rfl, rfl⟩; rw [G.out])
    go_ret2
    exact ⟨_, by rw [J.out.2]; rfl, by rw [J.out.1]; exact World.ownsRow_nil _ _ _ _, Below.refl _ _⟩
  · have J := Lib.hid (fscL_yes h)
    have C := siFirst s L w h
    rw [← J.out.1, ← J.out.2] at C
    have HC := Lib.hid C
    have G := Lib.hid h
    clear h C
    go_enter Try.func18, Try.ntmps18
    go_wp2_with (first
      | (go_at_call 34; refine (siAsked _ _ _ hs).mono ?_; rintro e w' ⟨rfl, rfl⟩; rw [G.out])
      | (go_at_call 41; refine HC.out.mono ?_; rintro e w' ⟨v, rfl, hI, hb⟩))
    go_ret2
    exact ⟨_, rfl, hI, hb⟩
theorem implFsc (s : ByteArray) (L : Int) (w : World) (hs : s.size ≤ 1048576) :
    Calls Try.prog 19 #[.string s, .int .i64 L] w (IntsPost' w.heap.size (fscL s L) (fscB s L) w) := by
  cases h : stA s L
  · have J := Lib.hid (fscL_no h)
    have G := Lib.hid h
    clear h
    go_enter Try.func19, Try.ntmps19
    go_wp2_with (go_at_call 29; refine (isStrongWithLeap _ _ _ hs).mono ?_; rintro e w' ⟨rfl, rfl⟩; rw [G.out])
    go_ret2
    exact ⟨_, by rw [J.out.2]; rfl, by rw [J.out.1]; exact World.ownsRow_nil _ _ _ _, Below.refl _ _⟩
  · have J := Lib.hid (fscL_yes h)
    have C := fun wx => implFirst (rvB s) L wx (by rw [rvB_size]; exact hs)
    rw [← J.out.1, ← J.out.2] at C
    have HC := Lib.hid C
    have R := implRiverOf s w hs
    rw [rvofV_yes (stA_in h).1] at R
    have HR := Lib.hid R
    have G := Lib.hid h
    clear h C R
    go_enter Try.func19, Try.ntmps19
    go_wp2_with (first
      | (go_at_call 29; refine (isStrongWithLeap _ _ _ hs).mono ?_; rintro e w' ⟨rfl, rfl⟩; rw [G.out])
      | (go_at_call 42; refine HR.out.mono ?_; rintro e w1 ⟨rfl, hb1⟩)
      | (go_at_call 43; refine (HC.out _).mono ?_; rintro e w' ⟨v, rfl, hI, hb⟩))
    go_ret2
    exact ⟨_, rfl, ints_mono' hI hb1.size, hb1.trans (hb.mono hb1.size)⟩
end Go.Proofs.Ytihdhgkknfohaab
