/- CountCoverings, FirstCovering, LeastWood, CanCoverAll: what they tell; spec. -/
import Derived.Test.YtimbpfenpbkckabLk
namespace Go.Proofs.Ytimbpfenpbkckab
set_option linter.unusedVariables false
open Go.RowKit Go.Shelf

theorem covL_len {gs ps : List Int} {r : Int} (hk : asks gs ps r = true) : (covL gs ps r).length ≤ 823543 := by
  obtain ⟨hg, hp, _, _⟩ := asks_in' hk
  have h1 := covF_len ps (arePl_in hp).2.1 (gs.map (· + 2 * r)) []
  rw [List.length_map] at h1
  exact Nat.le_trans h1 (Nat.le_trans (Nat.pow_le_pow_right (by decide) (arePl_in hg).2.1) (by decide))
theorem covL_in {gs ps : List Int} {r : Int} {l : List Nat} (h : l ∈ covL gs ps r) : l.length = gs.length ∧ ∀ x ∈ l, x < ps.length := by
  have := covF_in ps _ _ l h
  rwa [List.length_map] at this
theorem covL_at {gs ps : List Int} {r : Int} {j : Nat} (h : j < (covL gs ps r).length) : ((covL gs ps r).getD j []).length = gs.length ∧ ∀ x ∈ (covL gs ps r).getD j [], x < ps.length := by
  have e : (covL gs ps r).getD j [] = (covL gs ps r)[j] := by simp [h]
  rw [e]; exact covL_in (List.getElem_mem _)

def countV (gs ps : List Int) (r : Int) : Value := if asks gs ps r then .tuple #[.int .i64 ((covL gs ps r).length : Int), .bool true] else .tuple #[.int .i64 0, .bool false]
theorem countV_no {gs ps : List Int} {r : Int} (h : asks gs ps r = false) : countV gs ps r = .tuple #[.int .i64 0, .bool false] := by simp [countV, h]
theorem countV_yes {gs ps : List Int} {r : Int} (h : asks gs ps r = true) : countV gs ps r = .tuple #[.int .i64 ((covL gs ps r).length : Int), .bool true] := by simp [countV, h]
theorem countV_form (gs ps : List Int) (r : Int) : ∃ x y, countV gs ps r = .tuple #[.int .i64 x, .bool y] := by
  unfold countV; split <;> exact ⟨_, _, rfl⟩
set_option maxHeartbeats 1000000 in
theorem specCount (v u : Value) (gs ps : List Int) (r : Int) (w : World) (h : Rd w v gs) (hn : gs.length ≤ 1048576) (h2 : Rd w u ps) (hn2 : ps.length ≤ 1048576) :
    Calls Try.prog 25 #[v, u, .int .i64 r] w fun e w' => e = .returned (countV gs ps r) ∧ Below w.heap.size w w' := by
  have HA := Lib.hid (plAsked v u gs ps r w h hn h2 hn2)
  cases hk : asks gs ps r
  · have J := Lib.hid (countV_no hk)
    rw [hk] at HA
    clear h h2 hk
    go_enter Try.func25, Try.ntmps25
    go_wp2_with (go_at_call 31; refine HA.out.mono ?_; rintro e w' ⟨rfl, rfl⟩)
    go_ret2
    exact ⟨ret_v J.out.symm, Below.refl _ _⟩
  · have J := Lib.hid (countV_yes hk)
    rw [hk] at HA
    have hl := covL_len hk
    have HC := Lib.hid (plAll gs ps r v u w h h2 hk)
    clear h h2 hk
    go_enter Try.func25, Try.ntmps25
    go_wp2_with (first
      | (go_at_call 31; refine HA.out.mono ?_; rintro e w' ⟨rfl, rfl⟩)
      | (go_at_call 44; refine HC.out.mono ?_; rintro e w1 ⟨x, rfl, hL, hb⟩; obtain ⟨a, n, cap, rfl, hnn, _⟩ := hL.form; have HN := Lib.hid hnn; have HB := Lib.hid hb; clear hL hb hnn))
    go_ret2
    exact ⟨ret_v (by rw [J.out, ← HN.out]; rfl), HB.out⟩

def covO (gs ps : List Int) (r : Int) : Option (List Nat) := if asks gs ps r then (covL gs ps r).head? else none
theorem covO_no {gs ps : List Int} {r : Int} (h : asks gs ps r = false) : covO gs ps r = none := by simp [covO, h]
theorem covO_yes {gs ps : List Int} {r : Int} (h : asks gs ps r = true) : covO gs ps r = (covL gs ps r).head? := by simp [covO, h]
theorem covO_len (gs ps : List Int) (r : Int) : ((covO gs ps r).getD []).length ≤ 7 := by
  cases h : asks gs ps r
  · rw [covO_no h]; simp
  · rw [covO_yes h]
    cases hl : covL gs ps r with
    | nil => simp
    | cons a l =>
      have := (covL_in (gs := gs) (ps := ps) (r := r) (l := a) (by rw [hl]; simp)).1
      have := (arePl_in (asks_in' h).1).2.1
      simp; omega
def IntsC (B : Nat) (zs : List Int) (ok : Bool) (w : World) (e : Ending) (w' : World) : Prop := ∃ v, e = .returned (.tuple #[v, .bool ok]) ∧ Ints w' B v zs ∧ Below B w w'
set_option maxHeartbeats 1000000 in
theorem specFirstC (v u : Value) (gs ps : List Int) (r : Int) (w : World) (h : Rd w v gs) (hn : gs.length ≤ 1048576) (h2 : Rd w u ps) (hn2 : ps.length ≤ 1048576) :
    Calls Try.prog 23 #[v, u, .int .i64 r] w (IntsC w.heap.size (idx ((covO gs ps r).getD [])) (covO gs ps r).isSome w) := by
  have HA := Lib.hid (plAsked v u gs ps r w h hn h2 hn2)
  cases hk : asks gs ps r
  · have J := Lib.hid (covO_no hk)
    rw [hk] at HA
    clear h h2 hk
    go_enter Try.func23, Try.ntmps23
    go_wp2_with (go_at_call 31; refine HA.out.mono ?_; rintro e w' ⟨rfl, rfl⟩)
    go_ret2
    exact ⟨_, by rw [J.out]; rfl, by rw [J.out]; exact World.ownsRow_nil _ _ _ _, Below.refl _ _⟩
  · have J := Lib.hid (covO_yes hk)
    rw [hk] at HA
    have hl := covL_len hk
    have HC := Lib.hid (plAll gs ps r v u w h h2 hk)
    generalize covL gs ps r = L at *
    clear h h2 hk
    cases L with
    | nil =>
      go_enter Try.func23, Try.ntmps23
      go_wp2_with (first
        | (go_at_call 31; refine HA.out.mono ?_; rintro e w' ⟨rfl, rfl⟩)
        | (go_at_call 44; refine HC.out.mono ?_; rintro e w1 ⟨x, rfl, hL, hb⟩; obtain ⟨a, n, cap, rfl, hnn, _⟩ := hL.form; obtain rfl : n = 0 := hnn; have HB := Lib.hid hb; clear hL hb))
      go_ret2
      exact ⟨_, by rw [J.out]; rfl, by rw [J.out]; exact World.ownsRow_nil _ _ _ _, HB.out⟩
    | cons l0 L =>
      have hl2 : L.length ≤ 823543 := by simp at hl; omega
      go_enter Try.func23, Try.ntmps23
      go_wp2_with (first
        | (go_at_call 31; refine HA.out.mono ?_; rintro e w' ⟨rfl, rfl⟩)
        | (go_at_call 44; refine HC.out.mono ?_; rintro e w1 ⟨x, rfl, hL, hb⟩; obtain ⟨a, n, cap, rfl, hnn, hcl⟩ := hL.form; obtain rfl : n = L.length + 1 := hnn; obtain ⟨g, y, rfl, _, hgw, hc0, hI0⟩ := hcl 0 (by omega); have HI := Lib.hid hI0; have HB := Lib.hid hb; clear hL hb hcl hI0))
      go_ret2
      exact ⟨_, by rw [J.out]; rfl, by rw [J.out]; exact HI.out, HB.out⟩
/-- the least wood of the first k -/
def lwTo (ps : List Int) (L : List (List Nat)) : Nat → Option Int
  | 0 => none
  | k + 1 => match lwTo ps L k with
    | none => some (woodL ps (L.getD k []))
    | some m => if woodL ps (L.getD k []) < m then some (woodL ps (L.getD k [])) else some m
theorem lwTo_n {ps : List Int} {L : List (List Nat)} {k : Nat} (h : lwTo ps L k = none) : lwTo ps L (k + 1) = some (woodL ps (L.getD k [])) := by simp [lwTo, h]
theorem lwTo_y {ps : List Int} {L : List (List Nat)} {k : Nat} {m : Int} (h : lwTo ps L k = some m) (h2 : woodL ps (L.getD k []) < m) : lwTo ps L (k + 1) = some (woodL ps (L.getD k [])) := by
  show (match lwTo ps L k with | none => _ | some m => _) = _
  rw [h]; simp only; rw [if_pos h2]
theorem lwTo_z {ps : List Int} {L : List (List Nat)} {k : Nat} {m : Int} (h : lwTo ps L k = some m) (h2 : ¬ woodL ps (L.getD k []) < m) : lwTo ps L (k + 1) = some m := by
  show (match lwTo ps L k with | none => _ | some m => _) = _
  rw [h]; simp only; rw [if_neg h2]
def lwV : Option Int → Value
  | some m => .tuple #[.int .i64 m, .bool true]
  | none => .tuple #[.int .i64 0, .bool false]
def leastV (gs ps : List Int) (r : Int) : Value := if asks gs ps r then lwV (lwTo ps (covL gs ps r) (covL gs ps r).length) else lwV none
theorem leastV_no {gs ps : List Int} {r : Int} (h : asks gs ps r = false) : leastV gs ps r = lwV none := by simp [leastV, h]
theorem leastV_yes {gs ps : List Int} {r : Int} (h : asks gs ps r = true) : leastV gs ps r = lwV (lwTo ps (covL gs ps r) (covL gs ps r).length) := by simp [leastV, h]
theorem leastV_form (gs ps : List Int) (r : Int) : ∃ x y, leastV gs ps r = .tuple #[.int .i64 x, .bool y] := by
  have : ∀ o, ∃ x y, lwV o = .tuple #[.int .i64 x, .bool y] := by intro o; cases o <;> exact ⟨_, _, rfl⟩
  unfold leastV; split <;> exact this _
def lwR (o : Option Int) (x : Value) : Prop := match o with
  | some m => x = .int .i64 m ∧ 0 ≤ m ∧ m ≤ 700
  | none => x = .int .i64 (-1)
theorem woodL_in {ps : List Int} {is : List Nat} (hp : arePl ps = true) (hl : is.length ≤ 7) : 0 ≤ woodL ps is ∧ woodL ps is ≤ 700 := by
  have := woodTo_in (is := is) (arePl_any hp) is.length
  unfold woodL; omega
set_option maxHeartbeats 4000000 in
theorem specLeast (v u : Value) (gs ps : List Int) (r : Int) (w : World) (h : Rd w v gs) (hn : gs.length ≤ 1048576) (h2 : Rd w u ps) (hn2 : ps.length ≤ 1048576) :
    Calls Try.prog 27 #[v, u, .int .i64 r] w fun e w' => e = .returned (leastV gs ps r) ∧ Below w.heap.size w w' := by
  have HA := Lib.hid (plAsked v u gs ps r w h hn h2 hn2)
  cases hk : asks gs ps r
  · have J := Lib.hid (leastV_no hk)
    rw [hk] at HA
    clear h h2 hk
    go_enter Try.func27, Try.ntmps27
    go_wp2_with (go_at_call 31; refine HA.out.mono ?_; rintro e w' ⟨rfl, rfl⟩)
    go_ret2
    exact ⟨ret_v J.out.symm, Below.refl _ _⟩
  have J := Lib.hid (leastV_yes hk)
  rw [hk] at HA
  have hl := covL_len hk
  obtain ⟨hg, hp, _, _⟩ := asks_in' hk
  have hgi := arePl_in hg
  have hpi := arePl_in hp
  have HC := Lib.hid (plAll gs ps r v u w h h2 hk)
  have HAT := Lib.hid (fun j hj => covL_at (gs := gs) (ps := ps) (r := r) (j := j) hj)
  have HWI := Lib.hid (fun is hh => woodL_in (ps := ps) (is := is) hp hh)
  have HWS := Lib.hid (fun is => woodTo_in (ps := ps) (is := is) (arePl_any hp))
  generalize covL gs ps r = L at *
  have HX := Lib.hid (arePl_any hp)
  obtain ⟨pb, po, pn, pc, rfl, hpn, hpw, hpc⟩ := h2.cellsP (by omega)
  have HPC := Lib.hid hpc
  have HPN := Lib.hid hpn
  have pn7 : pn ≤ 7 := by omega
  have hgl : gs.length ≤ 7 := hgi.2.1
  have HGL := Lib.hid hgl
  clear h h2 hk hg hp hgi hpi hpc hpn hgl hn hn2
  go_enter Try.func27, Try.ntmps27
  go_wp2_with (first
    | (go_at_call 31; refine HA.out.mono ?_; rintro e w' ⟨rfl, rfl⟩)
    | (go_at_call 44; refine HC.out.mono ?_; rintro e w1 ⟨x, rfl, hL, hb⟩; obtain ⟨a, n, cap, rfl, hnn, hcl⟩ := hL.form; have HN := Lib.hid hnn; have HCL := Lib.hid hcl; have HB := Lib.hid hb; have hnl : n ≤ 823543 := (by omega); clear hL hb hnn hcl))
  go_loop [8, 24] (fun x i => ∃ k : Nat, k ≤ n ∧ i = .int .i64 k ∧ lwR (lwTo ps L k) x) (fun _ i => n - (intOf i).toNat)
  case atStart => exact ⟨0, Nat.zero_le _, rfl, rfl⟩
  case round =>
    obtain ⟨k, hk, rfl, hR⟩ := hrel
    by_cases hlt : k < n
    · obtain ⟨g, y, rfl, _, hgw, hc, hI⟩ := HCL.out k hlt
      have hlt' : (k : Int) < n := by omega
      have hat := HAT.out k (by have := HN.out; omega)
      obtain ⟨ya, yn, yc, rfl, hyn, hyc⟩ := hI.rd.cells
      rw [idx_len] at hyn
      have hyn7 : yn ≤ 7 := by have := HGL.out; omega
      have HYN := Lib.hid hyn
      have HYC := Lib.hid hyc
      have HAT2 := Lib.hid hat
      have hwi := HWI.out (L.getD k []) (by have := HGL.out; omega)
      have HW2 := Lib.hid (HWS.out (L.getD k []))
      have HWL := Lib.hid (show woodL ps (L.getD k []) = woodTo ps (L.getD k []) yn by rw [hyn]; rfl)
      have HL1 := Lib.hid (fun h => lwTo_n (ps := ps) (L := L) (k := k) h)
      have HL2 := Lib.hid (fun m h hh => lwTo_y (ps := ps) (L := L) (k := k) (m := m) h hh)
      have HL3 := Lib.hid (fun m h hh => lwTo_z (ps := ps) (L := L) (k := k) (m := m) h hh)
      generalize hl0 : L.getD k [] = l0 at *
      clear hyn hyc hI hat hl0
      go_wp2
      go_loop [11, 30] (fun s i => ∃ q : Nat, q ≤ yn ∧ i = .int .i64 q ∧ s = .int .i64 (woodTo ps l0 q)) (fun _ i => yn - (intOf i).toNat)
      case atStart => exact ⟨0, Nat.zero_le _, rfl, rfl⟩
      case round =>
        obtain ⟨q, hq, rfl, rfl⟩ := hrel
        by_cases hqy : q < yn
        · obtain ⟨yb, yo, rfl, _, hcq⟩ := HYC.out q hqy
          have hqy' : (q : Int) < yn := by omega
          rw [idx_gt] at hcq
          have hidx : l0.getD q 0 < pn := by
            have h1 : q < l0.length := by have := HYN.out; omega
            have e : l0.getD q 0 = l0[q] := by simp [h1]
            rw [e, HPN.out]; exact HAT2.out.2 _ (List.getElem_mem _)
          have hcp := (HB.out.cell (p := ⟨pb, po + l0.getD q 0, none⟩) hpw).trans (HPC.out _ hidx)
          have hxx := HX.out (l0.getD q 0)
          have hww := HW2.out q
          have S := Lib.hid (woodTo_s ps l0 q)
          generalize l0.getD q 0 = i at *
          generalize gt ps i = x at *
          generalize woodTo ps l0 q = s at *
          have hii : (i : Int) < pn := by omega
          go_wp2
          go_round
          case rel => exact ⟨q + 1, by omega, by go_num, by rw [S.out]⟩
          case measure => (simp [intOf]; try omega)
        · obtain rfl : q = yn := by omega
          rw [HWL.out] at hwi HL1 HL2 HL3
          generalize woodTo ps l0 q = s at *
          cases ho : lwTo ps L k with
          | none =>
            rw [ho] at hR
            obtain rfl := hR
            have R := Lib.hid (HL1.out ho)
            clear ho HL1 HL2 HL3
            go_wp2
            go_round
            case rel => exact ⟨k + 1, by omega, by go_num, by rw [R.out]; exact ⟨rfl, hwi⟩⟩
            case measure => (simp [intOf]; try omega)
          | some m =>
            rw [ho] at hR
            obtain ⟨rfl, hm0, hm1⟩ := hR
            by_cases hs : s < m
            · have R := Lib.hid (HL2.out m ho hs)
              clear ho HL1 HL2 HL3
              go_wp2
              go_round
              case rel => exact ⟨k + 1, by omega, by go_num, by rw [R.out]; exact ⟨rfl, hwi⟩⟩
              case measure => (simp [intOf]; try omega)
            · have R := Lib.hid (HL3.out m ho (by omega))
              clear ho HL1 HL2 HL3
              go_wp2
              go_round
              case rel => exact ⟨k + 1, by omega, by go_num, by rw [R.out]; exact ⟨rfl, hm0, hm1⟩⟩
              case measure => (simp [intOf]; try omega)
    · obtain rfl : k = n := by omega
      rw [← HN.out] at J
      cases ho : lwTo ps L k with
      | none =>
        rw [ho] at hR J
        obtain rfl := hR
        clear ho
        go_wp2
        go_ret2
        exact ⟨ret_v (by rw [J.out]; rfl), HB.out⟩
      | some m =>
        rw [ho] at hR J
        obtain ⟨rfl, hm0, hm1⟩ := hR
        clear ho
        go_wp2
        go_ret2
        exact ⟨ret_v (by rw [J.out]; rfl), HB.out⟩
def canV2 (gs ps : List Int) (r : Int) : Value := if asks gs ps r then .tuple #[.bool !(covL gs ps r).isEmpty, .bool true] else .tuple #[.bool false, .bool false]
theorem canV2_no {gs ps : List Int} {r : Int} (h : asks gs ps r = false) : canV2 gs ps r = .tuple #[.bool false, .bool false] := by simp [canV2, h]
theorem canV2_yes {gs ps : List Int} {r : Int} (h : asks gs ps r = true) : canV2 gs ps r = .tuple #[.bool !(covL gs ps r).isEmpty, .bool true] := by simp [canV2, h]
theorem canV2_form (gs ps : List Int) (r : Int) : ∃ x y, canV2 gs ps r = .tuple #[.bool x, .bool y] := by
  unfold canV2; split <;> exact ⟨_, _, rfl⟩
theorem most_all (gs ps : List Int) (r : Int) : ((mostN gs ps r : Int) == (gs.length : Int)) = !(covL gs ps r).isEmpty := by
  rw [Bool.eq_iff_iff]
  have := covL_most gs ps r
  cases h : covL gs ps r with
  | nil => rw [h] at this; simp at this ⊢; omega
  | cons a l => rw [h] at this; simp at this ⊢; omega
set_option maxHeartbeats 1000000 in
theorem specCanC (v u : Value) (gs ps : List Int) (r : Int) (w : World) (h : Rd w v gs) (hn : gs.length ≤ 1048576) (h2 : Rd w u ps) (hn2 : ps.length ≤ 1048576) :
    Calls Try.prog 21 #[v, u, .int .i64 r] w fun e w' => e = .returned (canV2 gs ps r) ∧ Below w.heap.size w w' := by
  have HA := Lib.hid (plAsked v u gs ps r w h hn h2 hn2)
  cases hk : asks gs ps r
  · have J := Lib.hid (canV2_no hk)
    rw [hk] at HA
    clear h h2 hk
    go_enter Try.func21, Try.ntmps21
    go_wp2_with (go_at_call 31; refine HA.out.mono ?_; rintro e w' ⟨rfl, rfl⟩)
    go_ret2
    exact ⟨ret_v J.out.symm, Below.refl _ _⟩
  · have J := Lib.hid (canV2_yes hk)
    rw [hk] at HA
    rw [← most_all] at J
    obtain ⟨hg, hp, hr0, hr1⟩ := asks_in' hk
    have HM := Lib.hid (plMost v u gs ps r w h h2 (by have := arePl_in hg; omega) (asc_any' hg) hp ⟨hr0, hr1⟩)
    obtain ⟨a, n, c, rfl, hgn, _⟩ := h.cells
    rw [← hgn] at J
    clear h h2 hk hg hp hgn
    go_enter Try.func21, Try.ntmps21
    go_wp2_with (first
      | (go_at_call 31; refine HA.out.mono ?_; rintro e w' ⟨rfl, rfl⟩)
      | (go_at_call 32; refine HM.out.mono ?_; rintro e w1 ⟨rfl, hb⟩))
    go_ret2
    exact ⟨ret_v J.out.symm, hb⟩
end Go.Proofs.Ytimbpfenpbkckab
