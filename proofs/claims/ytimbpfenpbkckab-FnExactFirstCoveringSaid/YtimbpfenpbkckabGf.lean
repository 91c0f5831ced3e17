/- impl.greatestFirst: slices.Clone and slices.SortFunc by the library's own contracts; SortPlanks, impl and spec. -/
import Derived.Test.YtimbpfenpbkckabSo
import Derived.Test.YtimbpfenpbkckabShelfP
namespace Go.Proofs.Ytimbpfenpbkckab
set_option linter.unusedVariables false
open Go.RowKit Go.Shelf

def cmpI (x y : Int) : Int := if x < y then -1 else if y < x then 1 else 0
theorem isNaN (x : Int) (w : World) : Calls Try.prog 69 #[.int .i64 x] w fun e w' => e = .returned (.bool false) ∧ w = w' := by
  have h : (x != x) = false := by simp
  go_enter Try.func69, Try.ntmps69
  go_wp2
  go_ret
  exact ⟨by first | rfl | simp, rfl⟩
theorem cmpCompare (x y : Int) (w : World) : Calls Try.prog 55 #[.int .i64 x, .int .i64 y] w fun e w' => e = .returned (.int .i64 (cmpI x y)) ∧ w = w' := by
  by_cases h1 : x < y
  · have R := Lib.hid (show cmpI x y = -1 by simp [cmpI, h1])
    go_enter Try.func55, Try.ntmps55
    go_wp2_with (go_at_call 69; refine (isNaN _ _).mono ?_; rintro e w' ⟨rfl, rfl⟩)
    go_ret
    exact ⟨ret_w (by rw [R.out]; rfl), rfl⟩
  by_cases h2 : y < x
  · have R := Lib.hid (show cmpI x y = 1 by simp [cmpI, h1, h2])
    go_enter Try.func55, Try.ntmps55
    go_wp2_with (go_at_call 69; refine (isNaN _ _).mono ?_; rintro e w' ⟨rfl, rfl⟩)
    go_ret
    exact ⟨ret_w (by rw [R.out]; rfl), rfl⟩
  · have R := Lib.hid (show cmpI x y = 0 by simp [cmpI, h1, h2])
    go_enter Try.func55, Try.ntmps55
    go_wp2_with (go_at_call 69; refine (isNaN _ _).mono ?_; rintro e w' ⟨rfl, rfl⟩)
    go_ret
    exact ⟨ret_w (by rw [R.out]; rfl), rfl⟩
def encI (x : Int) : Value := .int .i64 x
def cfD (x y : Int) : Int := cmpI y x
theorem ltD (x y : Int) : ltOf cfD x y = decide (y < x) := by
  unfold ltOf cfD cmpI
  by_cases h : y < x
  · simp [h]
  · by_cases h2 : x < y
    · simp [h, h2]
    · simp [h, h2]
theorem swoD : Go.Sort.SWO (ltOf cfD) := {
  irrefl := fun x => by rw [ltD]; simp
  trans := fun x y z h1 h2 => by rw [ltD] at *; simp at *; omega
  ntrans := fun x y z h1 h2 => by rw [ltD] at *; simp at *; omega }
theorem closD (x y : Int) (W : World) : Calls Try.prog 54 #[.int .i64 x, .int .i64 y] W fun e w' => e = .returned (.int .i64 (cfD x y)) ∧ ∃ q, w' = W.drewN q := by
  have R := Lib.hid (show cfD x y = cmpI y x from rfl)
  generalize cfD x y = r at *
  go_enter Try.func54, Try.ntmps54
  go_wp2_with (go_at_call 55; refine (cmpCompare _ _ _).mono ?_; rintro e w' ⟨rfl, rfl⟩)
  go_ret
  exact ⟨ret_v (by rw [R.out]; rfl), 0, rfl⟩
theorem lenD (n : Nat) (W : World) (h : n ≤ 12) : Calls Try.prog 68 #[.int .u64 n] W fun e w' => (∃ l : Int, e = .returned (.int .i64 l)) ∧ w' = W :=
  (Any.bits_Len Try.bitsLay n W (by omega) (by omega)).mono fun _ _ ⟨he, hw⟩ => ⟨⟨_, he⟩, hw⟩
theorem cloneI (v : Value) (zs : List Int) (w : World) (h : Rd w v zs) (h1 : 0 < zs.length) (h2 : zs.length ≤ 1000) :
    Calls Try.prog 52 #[v] w fun e w' => ∃ u, e = .returned u ∧ Ints w' w.heap.size u zs ∧ Below w.heap.size w w' := by
  obtain ⟨b, off, n, c, rfl, hnz, hb, hcell⟩ := h.cellsP h1
  refine (Any.slices_Clone_int Try.cloneLay b off n c zs w (by omega) (by omega) (fun j hj => by rw [hcell j (by omega)]; rfl)).mono ?_
  rintro e w' ⟨u, rfl, hu, _, hbel⟩
  refine ⟨u, rfl, ?_, hbel⟩
  unfold Ints i64s
  rw [hnz, List.take_length] at hu
  exact hu
theorem putRow_ints {w : World} {B g n cap : Nat} {zs : List Int} (h : Ints w B (.slice (some ⟨g, 0, none⟩) n cap) zs) (hn : n = zs.length) (d : Array Int) (hd : d.size = n) (q : Nat) :
    Ints ((Go.Sort.putRow encI w g 0 d).drewN q) B (.slice (some ⟨g, 0, none⟩) n cap) d.toList := by
  subst hn
  have hH : Go.Sort.Holds encI w g 0 zs.toArray := by
    intro j hj
    have hj' : j < zs.length := by simpa using hj
    rw [Nat.zero_add]
    refine ⟨?_, h.frz rfl j⟩
    rw [h.cell rfl j hj', getElem!_pos zs.toArray j hj]
    simp [encI, gt, hj']
  have hc := Go.Sort.holds_putRow encI w g 0 zs.toArray d hH (by simpa using hd)
  have h0 := h
  rcases h0.2 with ⟨e, _⟩ | ⟨g', cap', cur, e, hBg, hg, hnc, hcm, hcs, ht⟩
  · cases e
  · have e1 : g' = g := by injection e with e1 _ _; injection e1 with e1; injection e1 with e1 _; exact e1.symm
    have e2 : cap' = cap := by injection e with _ _ e2; exact e2.symm
    subst e1 e2
    refine ⟨by simp [i64s], .inr ⟨g', cap', Go.Sort.putCells encI 0 d cur, ?_, hBg, ?_, by simp [hd]; exact hnc, hcm, by simp [Go.Sort.putCells]; simpa using hcs, ?_⟩⟩
    · simp [hd]
    · show (Go.Sort.putRow encI w g' 0 d).heap[g']? = _
      simp only [Go.Sort.putRow, Go.Sort.mapBlock, Array.getElem?_modify, if_pos, hg, Option.map_some, Go.Sort.onCells]
    · apply List.ext_getElem
      · simp [i64s, Go.Sort.putCells]
        rw [Nat.mul_one] at hcs
        omega
      · intro i h1 h2
        have hi : i < d.size := by simpa [i64s] using h2
        rw [List.getElem_take]
        simp [Go.Sort.putCells, i64s, hi, encI]
theorem putRow_below {w : World} {B g : Nat} (hB : B ≤ g) (d : Array Int) (q : Nat) : Below B w ((Go.Sort.putRow encI w g 0 d).drewN q) := by
  refine ⟨rfl, rfl, rfl, by simp, fun k hk => ?_⟩
  show (Go.Sort.putRow encI w g 0 d).heap[k]? = _
  simp only [Go.Sort.putRow, Go.Sort.mapBlock, Array.getElem?_modify]
  rw [if_neg (by omega)]
theorem sortD (B g n cap : Nat) (zs : List Int) (w : World) (h : Ints w B (.slice (some ⟨g, 0, none⟩) n cap) zs) (hn : n = zs.length) (hl : n ≤ 12) (hB : B ≤ g) :
    Calls Try.prog 53 #[.slice (some ⟨g, 0, none⟩) n cap, .func (.func 54) #[] #[]] w fun e w' =>
      e = .returned (.tuple #[]) ∧ Ints w' B (.slice (some ⟨g, 0, none⟩) n cap) (dsc zs) ∧ Below B w w' := by
  have eg : ∀ args w, (callFunc 54 args).run Try.prog w = .ok (.enter 54 args) w := enters_of Try.func54 (by kernel_rfl) rfl
  have hH : Go.Sort.Holds encI w g 0 zs.toArray := by
    intro j hj
    have hj' : j < zs.length := by simpa using hj
    rw [Nat.zero_add]
    refine ⟨?_, h.frz hn j⟩
    rw [h.cell hn j (by omega), getElem!_pos zs.toArray j hj]
    simp [encI, gt, hj']
  have hcon := Any.slices_SortFunc_small_sorted Try.sortLay encI (fun _ => rfl) cfD swoD 54 #[] g 0 cap zs.toArray w eg (fun _ _ _ _ x y => closD x y _) hH (by simp; omega) lenD
  have e0 : zs.toArray.size = n := by simp [hn]
  rw [e0] at hcon
  refine Calls.mono hcon ?_
  rintro e w' ⟨he, d', q, hp, hso, rfl⟩
  have hsz : d'.size = n := hp.1.trans e0
  have e1 : d'.toList = dsc zs := by
    refine dsc_is ?_ ?_
    · have := hp.2.2
      rw [Array.extract_eq_self_of_le (by omega), Array.extract_eq_self_of_le (by omega)] at this
      simpa using this
    · rw [List.pairwise_iff_getElem]
      intro i j hi hj hij
      have hi' : i < d'.size := by simpa using hi
      have hj' : j < d'.size := by simpa using hj
      have := hso i j (Nat.zero_le _) hij (by omega)
      rw [ltD, getElem!_pos d' j hj', getElem!_pos d' i hi'] at this
      have := of_decide_eq_false this
      simp only [Array.getElem_toList]
      omega
  refine ⟨he, ?_, putRow_below hB d' q⟩
  rw [← e1]
  exact putRow_ints h hn d' hsz q
set_option maxHeartbeats 1000000 in
theorem greatestFirst (v : Value) (zs : List Int) (w : World) (h : Rd w v zs) (h1 : 0 < zs.length) (h2 : zs.length ≤ 12) :
    Calls Try.prog 34 #[v] w fun e w' => ∃ u, e = .returned u ∧ Ints w' w.heap.size u (dsc zs) ∧ Below w.heap.size w w' := by
  have HC := Lib.hid (cloneI v zs w h h1 (by omega))
  clear h
  go_enter Try.func34, Try.ntmps34
  go_wp2_with (first
    | (go_at_call 52; refine HC.out.mono ?_; rintro e w1 ⟨u, rfl, hI1, hb1⟩; obtain ⟨g, n, cap, rfl, hn, hnc, hcm, hBg, hgw, hcl⟩ := hI1.form h1; have HS := Lib.hid (sortD w.heap.size g n cap zs w1 hI1 hn (by omega) hBg); have HB1 := Lib.hid hb1; clear hcl hI1 hb1 hn)
    | (go_at_call 53; refine HS.out.mono ?_; rintro e w2 ⟨rfl, hI2, hb2⟩))
  go_ret
  exact ⟨_, rfl, hI2, HB1.out.trans hb2⟩
end Go.Proofs.Ytimbpfenpbkckab
