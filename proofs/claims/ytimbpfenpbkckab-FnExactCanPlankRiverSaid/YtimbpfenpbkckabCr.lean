/- CanPlankRiver. -/
import Derived.Test.YtimbpfenpbkckabCl
import Derived.Test.YtimbpfenpbkckabGp
namespace Go.Proofs.Ytimbpfenpbkckab
set_option linter.unusedVariables false
open Go.RowKit Go.Shelf

theorem glP_in {L : Int} {l : List (Nat × Nat)} {n : Nat} (h : ∀ p ∈ l, p.1 < p.2 ∧ p.2 ≤ n) : ∀ x ∈ glP L l, 0 ≤ x ∧ x ≤ (n : Int) := by
  intro x hx
  unfold glP at hx
  obtain ⟨hx, _⟩ := List.mem_filter.1 hx
  obtain ⟨p, hp, rfl⟩ := List.mem_map.1 hx
  have := h p hp
  omega
theorem gapsL_in {s : ByteArray} {L : Int} (h : asked s L = true) : ∀ x ∈ gapsL s L, 0 ≤ x ∧ x ≤ 100 := by
  intro x hx
  rw [gapsL_yes h] at hx
  have h1 := glP_in (prTo_lt s (s.size + 1)) x hx
  have h2 := asked_out h
  omega
theorem gt_in {zs : List Int} (h : ∀ x ∈ zs, 0 ≤ x ∧ x ≤ 100) : ∀ j, 0 ≤ gt zs j ∧ gt zs j ≤ 100 := by
  intro j
  by_cases hj : j < zs.length
  · have e : gt zs j = zs[j] := by simp [gt, hj]
    rw [e]; exact h _ (List.getElem_mem _)
  · have e : gt zs j = 0 := by simp [gt, List.getD_eq_getElem?_getD, List.getElem?_eq_none (by omega : zs.length ≤ j)]
    rw [e]; omega
theorem asc_in {zs : List Int} (h : ∀ x ∈ zs, 0 ≤ x ∧ x ≤ 100) : ∀ j, 0 ≤ gt (asc zs) j ∧ gt (asc zs) j ≤ 100 := gt_in fun x hx => h x ((asc_perm zs).mem_iff.1 hx)
def rvOk (s : ByteArray) (L : Int) (ps : List Int) (r : Int) : Bool := asked s L && (arePl ps && (inB r 0 10 && decide ((gapsL s L).length ≤ 7)))
def canRV (s : ByteArray) (L : Int) (ps : List Int) (r : Int) : Value := if rvOk s L ps r then .tuple #[.bool !(covL (gapsL s L) ps r).isEmpty, .bool true] else .tuple #[.bool false, .bool false]
theorem canRV_no {s : ByteArray} {L : Int} {ps : List Int} {r : Int} (h : rvOk s L ps r = false) : canRV s L ps r = .tuple #[.bool false, .bool false] := by simp [canRV, h]
theorem canRV_yes {s : ByteArray} {L : Int} {ps : List Int} {r : Int} (h : rvOk s L ps r = true) : canRV s L ps r = .tuple #[.bool !(covL (gapsL s L) ps r).isEmpty, .bool true] := by simp [canRV, h]
theorem canRV_form (s : ByteArray) (L : Int) (ps : List Int) (r : Int) : ∃ x y, canRV s L ps r = .tuple #[.bool x, .bool y] := by
  unfold canRV; split <;> exact ⟨_, _, rfl⟩
set_option maxHeartbeats 2000000 in
theorem specCanR (s : ByteArray) (L : Int) (v : Value) (ps : List Int) (r : Int) (w : World) (hs : s.size ≤ 1048576) (h : Rd w v ps) (hn : ps.length ≤ 1048576) :
    Calls Try.prog 29 #[.string s, .int .i64 L, v, .int .i64 r] w fun e w' => e = .returned (canRV s L ps r) ∧ Below w.heap.size w w' := by
  have HA := Lib.hid (specAsked s L w hs)
  have HP := Lib.hid (plGood v ps w h hn)
  have HR := Lib.hid (plRest r w)
  cases h1 : asked s L
  · have J := Lib.hid (canRV_no (s := s) (L := L) (ps := ps) (r := r) (by simp [rvOk, h1]))
    rw [h1] at HA
    clear h h1
    go_enter Try.func29, Try.ntmps29
    go_wp2_with (go_at_call 47; refine HA.out.mono ?_; rintro e w' ⟨rfl, rfl⟩)
    go_ret2
    exact ⟨ret_v J.out.symm, Below.refl _ _⟩
  cases h2 : arePl ps
  · have J := Lib.hid (canRV_no (s := s) (L := L) (ps := ps) (r := r) (by simp [rvOk, h2]))
    rw [h1] at HA
    rw [h2] at HP
    clear h h1 h2
    go_enter Try.func29, Try.ntmps29
    go_wp2_with (first
      | (go_at_call 47; refine HA.out.mono ?_; rintro e w' ⟨rfl, rfl⟩)
      | (go_at_call 36; refine HP.out.mono ?_; rintro e w' ⟨rfl, rfl⟩))
    go_ret2
    exact ⟨ret_v J.out.symm, Below.refl _ _⟩
  cases h3 : inB r 0 10
  · have J := Lib.hid (canRV_no (s := s) (L := L) (ps := ps) (r := r) (by simp [rvOk, h3]))
    rw [h1] at HA
    rw [h2] at HP
    rw [h3] at HR
    clear h h1 h2 h3
    go_enter Try.func29, Try.ntmps29
    go_wp2_with (first
      | (go_at_call 47; refine HA.out.mono ?_; rintro e w' ⟨rfl, rfl⟩)
      | (go_at_call 36; refine HP.out.mono ?_; rintro e w' ⟨rfl, rfl⟩)
      | (go_at_call 38; refine HR.out.mono ?_; rintro e w' ⟨rfl, rfl⟩))
    go_ret2
    exact ⟨ret_v J.out.symm, Below.refl _ _⟩
  have ho := asked_out h1
  have hr := inB_iff.1 h3
  have HG := Lib.hid (plGaps s L w (by omega) (by omega))
  rw [← gapsL_yes h1] at HG
  have hgi := gapsL_in h1
  have hgl := gapsL_len s L
  by_cases h4 : (gapsL s L).length ≤ 7
  · have J := Lib.hid (canRV_yes (s := s) (L := L) (ps := ps) (r := r) (by simp [rvOk, h1, h2, h3, h4]))
    rw [← most_all] at J
    rw [h1] at HA
    rw [h2] at HP
    rw [h3] at HR
    have HM := Lib.hid (fun u w1 (hI : Rd w1 u (gapsL s L)) (hb : Below w.heap.size w w1) => plMost u v (gapsL s L) ps r w1 hI (h.below hb) (by omega) (asc_in hgi) h2 hr)
    generalize gapsL s L = gs at *
    clear h h1 h2 h3 hgi
    go_enter Try.func29, Try.ntmps29
    go_wp2_with (first
      | (go_at_call 47; refine HA.out.mono ?_; rintro e w' ⟨rfl, rfl⟩)
      | (go_at_call 36; refine HP.out.mono ?_; rintro e w' ⟨rfl, rfl⟩)
      | (go_at_call 38; refine HR.out.mono ?_; rintro e w' ⟨rfl, rfl⟩)
      | (go_at_call 48; refine HG.out.mono ?_; rintro e w1 ⟨u, rfl, hI, hb⟩; have HM1 := Lib.hid (HM.out u w1 hI.rd hb); have HB := Lib.hid hb; obtain ⟨ga, gn, gc, rfl, hgn, _⟩ := hI.rd.cells; have HN := Lib.hid hgn; have hg7 : (gn : Int) ≤ 7 := (by omega); clear hI hb hgn)
      | (go_at_call 32; refine HM1.out.mono ?_; rintro e w2 ⟨rfl, hb2⟩; have HB2 := Lib.hid hb2; clear hb2))
    go_ret2
    exact ⟨ret_v (by rw [J.out, ← HN.out]; rfl), HB.out.trans (HB2.out.mono HB.out.size)⟩
  · have J := Lib.hid (canRV_no (s := s) (L := L) (ps := ps) (r := r) (by simp [rvOk, h4]))
    rw [h1] at HA
    rw [h2] at HP
    rw [h3] at HR
    generalize gapsL s L = gs at *
    clear h h1 h2 h3 hgi
    go_enter Try.func29, Try.ntmps29
    go_wp2_with (first
      | (go_at_call 47; refine HA.out.mono ?_; rintro e w' ⟨rfl, rfl⟩)
      | (go_at_call 36; refine HP.out.mono ?_; rintro e w' ⟨rfl, rfl⟩)
      | (go_at_call 38; refine HR.out.mono ?_; rintro e w' ⟨rfl, rfl⟩)
      | (go_at_call 48; refine HG.out.mono ?_; rintro e w1 ⟨u, rfl, hI, hb⟩; have HB := Lib.hid hb; obtain ⟨ga, gn, gc, rfl, hgn, _⟩ := hI.rd.cells; have hg7 : 7 < (gn : Int) := (by omega); clear hI hb hgn))
    go_ret2
    exact ⟨ret_v J.out.symm, HB.out⟩
set_option maxHeartbeats 2000000 in
theorem implCanR (s : ByteArray) (L : Int) (v : Value) (ps : List Int) (r : Int) (w : World) (hs : s.size ≤ 1048576) (h : Rd w v ps) (hn : ps.length ≤ 1048576) :
    Calls Try.prog 30 #[.string s, .int .i64 L, v, .int .i64 r] w fun e w' => e = .returned (canRV s L ps r) ∧ Below w.heap.size w w' := by
  have HG := Lib.hid (implGaps s L w hs)
  have HP := Lib.hid (fun w1 (hb : Below w.heap.size w w1) => implArePl v ps w1 (h.below hb) hn)
  have hgl := gapsL_len s L
  cases h1 : asked s L
  · have J := Lib.hid (canRV_no (s := s) (L := L) (ps := ps) (r := r) (by simp [rvOk, h1]))
    rw [h1] at HG
    generalize gapsL s L = gs at *
    clear h h1
    go_enter Try.func30, Try.ntmps30
    go_wp2_with (go_at_call 49; refine HG.out.mono ?_; rintro e w1 ⟨u, rfl, hI, hb⟩)
    go_ret2
    exact ⟨ret_v J.out.symm, hb⟩
  have hgi := gapsL_in h1
  rw [h1] at HG
  by_cases h4 : (gapsL s L).length ≤ 7
  case neg =>
    have J := Lib.hid (canRV_no (s := s) (L := L) (ps := ps) (r := r) (by simp [rvOk, h4]))
    generalize gapsL s L = gs at *
    clear h h1 hgi
    go_enter Try.func30, Try.ntmps30
    go_wp2_with (go_at_call 49; refine HG.out.mono ?_; rintro e w1 ⟨u, rfl, hI, hb⟩; have HB := Lib.hid hb; obtain ⟨ga, gn, gc, rfl, hgn, _⟩ := hI.rd.cells; have hg7 : 7 < (gn : Int) := (by omega); clear hI hb hgn)
    go_ret2
    exact ⟨ret_v J.out.symm, HB.out⟩
  cases h2 : arePl ps
  · have J := Lib.hid (canRV_no (s := s) (L := L) (ps := ps) (r := r) (by simp [rvOk, h2]))
    rw [h2] at HP
    generalize gapsL s L = gs at *
    clear h h1 h2 hgi
    go_enter Try.func30, Try.ntmps30
    go_wp2_with (first
      | (go_at_call 49; refine HG.out.mono ?_; rintro e w1 ⟨u, rfl, hI, hb⟩; have HB := Lib.hid hb; obtain ⟨ga, gn, gc, rfl, hgn, _⟩ := hI.rd.cells; have hg7 : (gn : Int) ≤ 7 := (by omega); clear hI hb hgn)
      | (go_at_call 41; refine (HP.out _ HB.out).mono ?_; rintro e w' ⟨rfl, rfl⟩))
    go_ret2
    exact ⟨ret_v J.out.symm, HB.out⟩
  cases h3 : inB r 0 10
  · have J := Lib.hid (canRV_no (s := s) (L := L) (ps := ps) (r := r) (by simp [rvOk, h3]))
    rw [h2] at HP
    generalize gapsL s L = gs at *
    clear h h1 h2 hgi
    go_enter Try.func30, Try.ntmps30
    go_wp2_with (first
      | (go_at_call 49; refine HG.out.mono ?_; rintro e w1 ⟨u, rfl, hI, hb⟩; have HB := Lib.hid hb; obtain ⟨ga, gn, gc, rfl, hgn, _⟩ := hI.rd.cells; have hg7 : (gn : Int) ≤ 7 := (by omega); clear hI hb hgn)
      | (go_at_call 41; refine (HP.out _ HB.out).mono ?_; rintro e w' ⟨rfl, rfl⟩)
      | (go_at_call 42; refine (isRest r _).mono ?_; rw [h3]; rintro e w' ⟨rfl, rfl⟩))
    go_ret2
    exact ⟨ret_v J.out.symm, HB.out⟩
  have J := Lib.hid (canRV_yes (s := s) (L := L) (ps := ps) (r := r) (by simp [rvOk, h1, h2, h3, h4]))
  have hr := inB_iff.1 h3
  have hpi := arePl_in h2
  have HH := Lib.hid (fun u w1 (hI : Ints w1 w.heap.size u (gapsL s L)) (hb : Below w.heap.size w w1) => hasCov (gapsL s L) ps r u v w1 hI.rd (h.below hb) (fun k e => (World.ownsRow.lt hI k e).2) (fun k e => Nat.lt_of_lt_of_le (h.own hpi.1 k e) hb.size) (gt_in hgi) h2 hr h4)
  rw [h2] at HP
  generalize gapsL s L = gs at *
  clear h h1 h2 hgi hpi
  go_enter Try.func30, Try.ntmps30
  go_wp2_with (first
    | (go_at_call 49; refine HG.out.mono ?_; rintro e w1 ⟨u, rfl, hI, hb⟩; have HB := Lib.hid hb; have HH1 := Lib.hid (HH.out u w1 hI hb); obtain ⟨ga, gn, gc, rfl, hgn, _⟩ := hI.rd.cells; have hg7 : (gn : Int) ≤ 7 := (by omega); clear hI hb hgn)
    | (go_at_call 41; refine (HP.out _ HB.out).mono ?_; rintro e w' ⟨rfl, rfl⟩)
    | (go_at_call 42; refine (isRest r _).mono ?_; rw [h3]; rintro e w' ⟨rfl, rfl⟩)
    | (go_at_call 43; refine HH1.out.mono ?_; rintro e w2 ⟨rfl, hb2⟩; have HB2 := Lib.hid hb2; clear hb2))
  go_ret2
  exact ⟨ret_v J.out.symm, HB.out.trans (HB2.out.mono HB.out.size)⟩
end Go.Proofs.Ytimbpfenpbkckab
