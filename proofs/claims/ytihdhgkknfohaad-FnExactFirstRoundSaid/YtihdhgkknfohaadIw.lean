/- groupWith; GroupOf: impl. -/
import Derived.Test.YtihdhgkknfohaadIi
import Derived.Deep.LoopGhost
import Derived.WalkMore
import Derived.ScopeJumps
namespace Go.Proofs.Ytihdhgkknfohaad
set_option linter.unusedVariables false
open Go.RowKit

def srtI (zs : List Int) : List Int := zs.mergeSort fun x y => decide (x ≤ y)
theorem srtI_len (zs : List Int) : (srtI zs).length = zs.length := by simp [srtI]
theorem sortedI_below {w : World} {B g : Nat} (hB : B ≤ g) (hw : B ≤ w.heap.size) (d : Array Int) (q : Nat) (os : Array Obj) : Below B w (Go.Sort.grow (Go.Sort.putRow (Value.int .i64) (Go.Sort.ahead w q) g 0 d) os) := by
  refine ⟨rfl, rfl, rfl, ?_, fun k hk => ?_⟩
  · simp [Go.Sort.grow, Go.Sort.putRow, Go.Sort.mapBlock, Go.Sort.ahead]
  · simp only [Go.Sort.grow, Go.Sort.putRow, Go.Sort.mapBlock, Go.Sort.ahead]
    rw [Array.getElem?_append_left (by simp; omega), Array.getElem?_modify, if_neg (by omega)]
theorem sorted_ints {w : World} {B g n cap : Nat} {l : List Int} (h : Ints w B (.slice (some ⟨g, 0, none⟩) n cap) l) (hn : n = l.length) (l' : List Int) (hl : l'.length = l.length) (q : Nat) (os : Array Obj) :
    Ints (Go.Sort.grow (Go.Sort.putRow (Value.int .i64) (Go.Sort.ahead w q) g 0 l'.toArray) os) B (.slice (some ⟨g, 0, none⟩) n cap) l' := by
  subst hn
  have h0 := h
  rcases h0.2 with ⟨e, _⟩ | ⟨g', cap', cur, e, hBg, hg, hnc, hcm, hcs, ht⟩
  · cases e
  · have e1 : g' = g := by injection e with e1 _ _; injection e1 with e1; injection e1 with e1 _; exact e1.symm
    have e2 : cap' = cap := by injection e with _ _ e2; exact e2.symm
    subst e1 e2
    have hgs : g' < w.heap.size := (Array.getElem?_eq_some_iff.1 hg).1
    have hsz : cur.size = cap' := by simpa using hcs
    refine ⟨by simp [i64s], .inr ⟨g', cap', Go.Sort.putCells (Value.int .i64) 0 l'.toArray cur, by rw [hl], hBg, ?_, by rw [hl]; exact hnc, hcm, by simp [Go.Sort.putCells, hsz], ?_⟩⟩
    · simp only [Go.Sort.grow, Go.Sort.putRow, Go.Sort.mapBlock, Go.Sort.ahead]
      rw [Array.getElem?_append_left (by simp; exact hgs)]
      simp only [Array.getElem?_modify, if_pos, hg, Option.map_some, Go.Sort.onCells]
    · apply List.ext_getElem
      · simp [i64s, Go.Sort.putCells]
        omega
      · intro i h1 h2
        have hi : i < l'.length := by simpa [i64s] using h2
        rw [List.getElem_take]
        simp [Go.Sort.putCells, i64s, hi]
theorem sortI (v : Value) (l : List Int) (B : Nat) (w : World) (h : Ints w B v l) (hl : l.length ≤ 1000000) (hB : B ≤ w.heap.size) :
    Calls Try.prog 49 #[v] w fun e w' => e = .returned (.tuple #[]) ∧ Ints w' B v (srtI l) ∧ Below B w w' := by
  by_cases h0 : l.length = 0
  · obtain rfl := List.length_eq_zero_iff.1 h0
    obtain ⟨a, c, rfl⟩ : ∃ a c, v = .slice a 0 c := by
      rcases h.2 with ⟨rfl, _⟩ | ⟨g, cap, cur, rfl, _⟩
      · exact ⟨_, _, rfl⟩
      · exact ⟨_, _, rfl⟩
    refine (Try.slices_Sort_int_none a c w).mono ?_
    rintro e w' ⟨rfl, rfl⟩
    exact ⟨rfl, by rw [show srtI [] = [] from by simp [srtI]]; exact h, Below.refl _ _⟩
  · obtain ⟨g, n, cap, rfl, hn, hnc, hcm, hBg, hg, hc⟩ := h.form (by omega)
    have hfz : ∀ j, w.frozen? ⟨g, j, none⟩ = false := fun j => Ints.frz h hn j
    have hH : Go.Sort.Holds (Value.int .i64) w g 0 l.toArray := by
      intro j hj
      have hj' : j < l.length := by simpa using hj
      rw [Nat.zero_add]
      refine ⟨?_, hfz j⟩
      rw [hc j (by omega)]
      simp [gt, hj']
    have C := Try.slices_Sort_int g 0 cap l w hH hg (by omega)
    rw [← hn] at C
    refine C.mono ?_
    rintro e w' ⟨rfl, q, os, rfl⟩
    exact ⟨rfl, sorted_ints h hn (srtI l) (srtI_len l) q os, sortedI_below hBg hB _ q os⟩
/-- a list without doubles that has just the members of an increasing one is sorted to it -/
theorem srt_is {g L : List Nat} (h1 : g.Nodup) (h2 : L.Pairwise (· < ·)) (h : ∀ j, j ∈ g ↔ j ∈ L) : srtI (idx g) = idx L := by
  have hL : L.Nodup := h2.imp fun {a b} h => by omega
  have hp : g.Perm L := (List.perm_ext_iff_of_nodup h1 hL).2 h
  refine List.Perm.eq_of_pairwise (le := fun a b : Int => a ≤ b) (fun a b _ _ h1 h2 => Int.le_antisymm h1 h2) ?_ ?_ ?_
  · have := List.pairwise_mergeSort (le := fun x y : Int => decide (x ≤ y)) (fun a b c h1 h2 => by simp at *; omega) (fun a b => by simp; omega) (idx g)
    exact this.imp fun {a b} h => by simpa using h
  · unfold idx
    rw [List.pairwise_map]
    exact h2.imp fun {a b} h => by omega
  · exact (List.mergeSort_perm _ _).trans (hp.map _)
theorem groupL_asc (m : Nat) (bs : List Br) (i : Nat) : (groupL m bs i).Pairwise (· < ·) := by
  unfold groupL
  exact List.Pairwise.filter _ List.pairwise_lt_range

theorem isIslandOf (m : Nat) (a : Option Addr) (l c : Nat) (i : Int) (w : World) (hm : m ≤ 1000) :
    Calls Try.prog 36 #[.agg #[.int .i64 m, .slice a l c], .int .i64 i] w fun e w' => e = .returned (.bool (inB i 0 ((m : Int) - 1))) ∧ Below w.heap.size w w' := by
  by_cases h1 : 0 ≤ i
  · have R := Lib.hid (show inB i 0 ((m : Int) - 1) = decide (i < m) by (simp [inB, h1]; try omega))
    generalize inB i 0 ((m : Int) - 1) = r at *
    go_enter Try.func36, Try.ntmps36
    go_wp2
    go_ret
    refine ⟨ret_bool (by rw [R.out]), ?_⟩
    (repeat (first | exact Below.refl _ _ | (refine Below.alloc ?_ (by first | omega | (simp; try omega)) _) | apply Below.drew | apply below_drewN))
  · have R := Lib.hid (show inB i 0 ((m : Int) - 1) = false by (simp [inB]; try omega))
    generalize inB i 0 ((m : Int) - 1) = r at *
    go_enter Try.func36, Try.ntmps36
    go_wp2
    go_ret
    refine ⟨ret_bool (by rw [R.out] <;> simp <;> omega), ?_⟩
    (repeat (first | exact Below.refl _ _ | (refine Below.alloc ?_ (by first | omega | (simp; try omega)) _) | apply Below.drew | apply below_drewN))
theorem areIslesWith (n : Int) (v : Value) (bs : List Br) (i : Int) (w : World) (h : RdB w v bs) (hl : bs.length ≤ 1048576) :
    Calls Try.prog 18 #[.agg #[.int .i64 n, v], .int .i64 i] w fun e w' => e = .returned (.bool (askI n bs i)) ∧ Below w.heap.size w w' := by
  have H := Lib.hid h
  obtain ⟨a, m, c, rfl, t⟩ := h
  clear t
  have E := Lib.hid (show askI n bs i = (areIs n bs && inB i 0 (n - 1)) from rfl)
  cases hg : areIs n bs
  · rw [hg] at E
    have G := Lib.hid hg
    clear hg
    go_enter Try.func18, Try.ntmps18
    go_wp2_with fail
    refine (implAreIs n _ bs _ (H.out.below (by (repeat (first | exact Below.refl _ _ | (refine Below.alloc ?_ (by first | omega | (simp; try omega)) _) | apply Below.drew | apply below_drewN)))) hl).mono ?_
    rw [G.out]
    rintro e w1 ⟨rfl, hb⟩
    have HB := Lib.hid (Below.trans (by (repeat (first | exact Below.refl _ _ | (refine Below.alloc ?_ (by first | omega | (simp; try omega)) _) | apply Below.drew | apply below_drewN))) (hb.mono (by simp; try omega)) : Below w.heap.size w w1)
    clear hb
    go_wp2
    go_ret
    exact ⟨ret_bool (by rw [E.out]; rfl), HB.out⟩
  · rw [hg] at E
    obtain ⟨k, rfl, hk1, hk7, _⟩ := areIs_in hg
    have G := Lib.hid hg
    clear hg
    go_enter Try.func18, Try.ntmps18
    go_wp2_with fail
    refine (implAreIs _ _ bs _ (H.out.below (by (repeat (first | exact Below.refl _ _ | (refine Below.alloc ?_ (by first | omega | (simp; try omega)) _) | apply Below.drew | apply below_drewN)))) hl).mono ?_
    rw [G.out]
    rintro e w1 ⟨rfl, hb⟩
    have HB := Lib.hid (Below.trans (by (repeat (first | exact Below.refl _ _ | (refine Below.alloc ?_ (by first | omega | (simp; try omega)) _) | apply Below.drew | apply below_drewN))) (hb.mono (by simp; try omega)) : Below w.heap.size w w1)
    obtain ⟨c0, c1, l0⟩ := ((Blk.new w #[.int .i64 k, .slice a m c] 31).below hb (by simp)).two
    clear hb
    go_wp2_with fail
    refine (isIslandOf k a m c i _ (by omega)).mono ?_
    rintro e w2 ⟨rfl, hb2⟩
    have HB2 := Lib.hid (HB.out.trans (hb2.mono HB.out.size))
    clear hb2
    go_wp2
    go_ret
    exact ⟨ret_bool (by rw [E.out]; rfl), HB2.out⟩
set_option maxHeartbeats 1000000 in
theorem islandsOf (m : Nat) (a : Option Addr) (l c : Nat) (w : World) (hm : m ≤ 7) :
    Calls Try.prog 47 #[.agg #[.int .i64 m, .slice a l c]] w fun e w' => ∃ b, e = .returned (.map (some b)) ∧ w.heap.size ≤ b ∧ ISet w' b 7 (fun i => decide (i < m)) ∧ Below w.heap.size w w' := by
  have hmm := @run_makeMap Try.prog
  have X0 := ISet.made (w.alloc (.cells #[.int .i64 m, .slice a l c] 31))
  have B0 := Lib.hid (Below.alloc (by (repeat (first | exact Below.refl _ _ | (refine Below.alloc ?_ (by first | omega | (simp; try omega)) _) | apply Below.drew | apply below_drewN))) (by simp) (.map #[] 0) : Below w.heap.size w ((w.alloc (.cells #[.int .i64 m, .slice a l c] 31)).alloc (.map #[] 0)))
  go_enter Try.func47, Try.ntmps47
  go_wp2
  have hb0 : (w.alloc (.cells #[.int .i64 m, .slice a l c] 31)).heap.size = w.heap.size + 1 := by simp
  rw [hb0] at X0
  have X0 := Lib.hid X0
  clear hb0 hmm
  go_loopw [4, 8] (fun _ i wr => ∃ k : Nat, k ≤ m ∧ i = .int .i64 k ∧ ISet wr (w.heap.size + 1) k (fun i => decide (i < k)) ∧ Below w.heap.size w wr) (fun _ i _ => m - (intOf i).toNat)
  case atStart => exact ⟨0, Nat.zero_le _, rfl, X0.out.congr (fun j => by simp), B0.out⟩
  case round =>
    obtain ⟨k, hk, rfl, hS, hb⟩ := hrel
    by_cases hlt : k < m
    · have hlt' : (k : Int) < m := by omega
      have hsz := hb.size
      go_wp2_with (at_mapUpdate; refine wpList_putI rfl hS (by omega) k (by omega) _ _ _ rfl rfl rfl rfl ?_; intro w2 hS2 hg2)
      go_roundw
      case rel => exact ⟨k + 1, by omega, by go_num, hS2.congr (fun j => by rw [Bool.eq_iff_iff]; simp; omega), hb.grown hg2 hb.size (by intro j hj; cases hj; omega)⟩
      case measure => (simp [intOf]; try omega)
    · obtain rfl : k = m := by omega
      go_wp2
      go_ret
      exact ⟨_, rfl, by omega, by obtain ⟨D, h1, h2⟩ := hS; exact ⟨D, h1.mono (by omega), h2⟩, hb⟩
/-- as Q; by a goto to a label: J -/
def byLab (J : Nat → Act → World → Prop) (Q : Exit → Act → World → Prop) : Exit → Act → World → Prop
  | .goto l, a, w => J l a w
  | e, a, w => Q e a w
/-- a scope in which the run jumps back to labels; the first number of J goes down -/
theorem wp_scope_labs {P : Program} {a : Act} {w : World} {Q : Exit → Act → World → Prop} {c : Code} (J : Nat → Nat → Act → World → Prop)
    (hf : ∀ k l a w, J k l a w → ∃ r, findLabel c l = some r)
    (first : c.wp P (byLab (fun l a w => ∃ k, J k l a w) Q) a w)
    (pass : ∀ k l r a w, J k l a w → findLabel c l = some r → r.wp P (byLab (fun l' a' w' => ∃ k', k' < k ∧ J k' l' a' w') Q) a w) : (Code.scope c).wp P Q a w := by
  intro b k0 cs
  have hg : ∀ l r, findLabel c l = some r → gotoIn l (.inScope c :: k0) = some (.code r :: .inScope c :: k0) := fun l r h => by simp [gotoIn, h]
  have key : ∀ n l r a w, J n l a w → findLabel c l = some r → ∃ e a' w', Q e a' w' ∧ Arrives P (lone (b.at a (.code r :: .inScope c :: k0)) cs w) b k0 cs e a' w' := by
    intro n
    induction n using Nat.strongRecOn with
    | _ n ih =>
      intro l r a w hJ hr
      obtain ⟨e, a₁, w₁, hq, harr⟩ := pass n l r a w hJ hr b (.inScope c :: k0) cs
      cases e with
      | normal => exact ⟨.normal, a₁, w₁, hq, Steps.trans harr (.one step_inScope)⟩
      | exit id => exact ⟨.exit id, a₁, w₁, hq, fun k' hk => harr k' (by simp [exitTo, hk])⟩
      | goto l' =>
        obtain ⟨k', hlt, hJ'⟩ := hq
        obtain ⟨r', hr'⟩ := hf k' l' a₁ w₁ hJ'
        obtain ⟨e₂, a₂, w₂, hq₂, harr₂⟩ := ih k' hlt l' r' a₁ w₁ hJ' hr'
        exact ⟨e₂, a₂, w₂, hq₂, .of_steps (harr _ (hg _ _ hr')) harr₂⟩
      | ret => exact ⟨_, a₁, w₁, hq, harr⟩
      | panic ch => exact ⟨_, a₁, w₁, hq, harr⟩
      | outgrown => exact ⟨_, a₁, w₁, hq, harr⟩
  obtain ⟨e, a₁, w₁, hq, harr⟩ := first b (.inScope c :: k0) cs
  cases e with
  | normal => exact ⟨.normal, a₁, w₁, hq, .head step_scope (Steps.trans harr (.one step_inScope))⟩
  | exit id => exact ⟨.exit id, a₁, w₁, hq, fun k' hk => .head step_scope (harr k' (by simp [exitTo, hk]))⟩
  | goto l' =>
    obtain ⟨k', hJ'⟩ := hq
    obtain ⟨r', hr'⟩ := hf k' l' a₁ w₁ hJ'
    obtain ⟨e₂, a₂, w₂, hq₂, harr₂⟩ := key _ _ _ a₁ w₁ hJ' hr'
    exact ⟨e₂, a₂, w₂, hq₂, .of_steps (.head step_scope (harr _ (hg _ _ hr'))) harr₂⟩
  | ret => exact ⟨_, a₁, w₁, hq, .of_steps (.one step_scope) harr⟩
  | panic ch => exact ⟨_, a₁, w₁, hq, .of_steps (.one step_scope) harr⟩
  | outgrown => exact ⟨_, a₁, w₁, hq, .of_steps (.one step_scope) harr⟩


theorem ISet.ne {w : World} {b N B : Nat} {p : Nat → Bool} {v : Value} {zs : List Int} (h : ISet w b N p) (hI : Ints w B v zs) : some b ≠ v.ownBlock := by
  obtain ⟨D, h1, _⟩ := h
  obtain ⟨es, clock, hb, _⟩ := h1
  rcases hI.2 with ⟨rfl, _⟩ | ⟨g, cap, cur, rfl, _, hg, _⟩
  · intro e; cases e
  · intro e
    have e2 : b = g := by simpa [Value.ownBlock] using e
    subst e2
    rw [hb] at hg
    cases hg
theorem groupL_is {m : Nat} {bs : List Br} (hg : Good m bs) {i : Nat} (hi : i < m) {g : List Nat} (hn : g.Nodup) (hm : ∀ j, j ∈ g → j < m ∧ same m bs j i = true) (hin : i ∈ g) (hc : ∀ j, j < m → j ∉ g → nextTo bs j g = false) : srtI (idx g) = idx (groupL m bs i) := by
  refine srt_is hn (groupL_asc m bs i) fun j => ?_
  rw [groupL_mem]
  refine ⟨fun h => hm j h, fun h => ?_⟩
  have := same_inv hg (f := fun j => j ∈ g) (next_closed hg hc) h.1 hi h.2
  exact this.2 hin
/-- island j is none of g -/
def oth (m : Nat) (g : List Nat) (j : Nat) : Bool := decide (j < m) && !g.contains j
theorem oth_iff {m : Nat} {g : List Nat} {j : Nat} : oth m g j = true ↔ j < m ∧ j ∉ g := by simp [oth]
/-- what holds at the label: g: the group so far, in gv; the map b: the others -/
structure GrpSt (m : Nat) (bs : List Br) (i S : Nat) (w0 wr : World) (gv : Value) (b : Nat) (g : List Nat) : Prop where
  ints : Ints wr S gv (idx g)
  set : ISet wr b 7 (oth m g)
  nod : g.Nodup
  mem : ∀ j, j ∈ g → j < m ∧ same m bs j i = true
  self : i ∈ g
  bel : Below S w0 wr
  low : S ≤ b
  len : g.length + cnt (fun x => !g.contains x) m = m
theorem GrpSt.start {m : Nat} {bs : List Br} {i S : Nat} {w0 wr : World} {gv : Value} {b : Nat} (hi : i < m) (h1 : Ints wr S gv (idx [i])) (h2 : ISet wr b 7 (fun j => decide (j < m) && j != i)) (h3 : Below S w0 wr) (h4 : S ≤ b) : GrpSt m bs i S w0 wr gv b [i] where
  ints := h1
  set := h2.congr fun j => by rw [Bool.eq_iff_iff]; simp [oth]
  nod := by simp
  mem := fun j hj => by simp at hj; subst hj; exact ⟨hi, same_refl _ _ _⟩
  self := by simp
  bel := h3
  low := h4
  len := by
    have h5 : cnt (fun _ => true) m = cnt (fun x => !([i] : List Nat).contains x) m + 1 := cnt_less hi rfl (by simp) (fun k _ hne => by simp; exact hne)
    rw [cnt_all fun _ _ => rfl] at h5
    simp only [List.length_cons, List.length_nil]; omega
theorem GrpSt.step {m : Nat} {bs : List Br} {i S : Nat} {w0 wr w2 : World} {gv gv2 : Value} {b : Nat} {g : List Nat} {j : Nat} (h : GrpSt m bs i S w0 wr gv b g) (hg : Good m bs) (hj : j < m) (hn : j ∉ g) (hx : nextTo bs j g = true)
    (h1 : Ints w2 S gv2 (idx (g ++ [j]))) (h2 : ISet w2 b 7 (fun x => oth m g x && x != j)) (h3 : Below S w0 w2) : GrpSt m bs i S w0 w2 gv2 b (g ++ [j]) where
  ints := h1
  set := h2.congr fun x => by
    rw [Bool.eq_iff_iff]; simp [oth, and_assoc]
  nod := by rw [List.nodup_append]; exact ⟨h.nod, by simp, fun x hx2 y hy => by simp at hy; subst hy; intro e; subst e; exact hn hx2⟩
  mem := fun x hx2 => by
    rcases List.mem_append.1 hx2 with hx2 | hx2
    · exact h.mem x hx2
    · simp at hx2; subst hx2
      exact ⟨hj, next_same hg (fun y hy => (h.mem y hy).2) hx⟩
  self := List.mem_append_left _ h.self
  bel := h3
  low := h.low
  len := by
    have h5 : cnt (fun x => !g.contains x) m = cnt (fun x => !(g ++ [j]).contains x) m + 1 := cnt_less hj (by simpa using hn) (by simp) (fun k _ hne => by
      rw [Bool.eq_iff_iff]; simp; intro _; exact hne)
    have := h.len
    simp only [List.length_append, List.length_cons, List.length_nil]; omega
theorem GrpSt.left {m : Nat} {bs : List Br} {i S : Nat} {w0 wr : World} {gv : Value} {b : Nat} {g : List Nat} (h : GrpSt m bs i S w0 wr gv b g) : g.length ≤ m := by have := h.len; omega
set_option maxRecDepth 100000 in
set_option maxHeartbeats 4000000 in
theorem groupWith (m : Nat) (v : Value) (bs : List Br) (i : Nat) (w : World) (h : RdB w v bs) (hg : Good m bs) (hm : m ≤ 7) (hl : bs.length ≤ 14) (hi : i < m) :
    Calls Try.prog 38 #[.agg #[.int .i64 m, v], .int .i64 i] w fun e w' => ∃ u, e = .returned u ∧ Ints w' w.heap.size u (idx (groupL m bs i)) ∧ Below w.heap.size w w' := by
  have HR := Lib.hid h
  obtain ⟨a, l, c, rfl, t⟩ := h
  have HG := Lib.hid hg
  clear t hg
  have X0 := Lib.hid (Blk.new w #[.int .i64 m, .slice a l c] 31)
  have BW := Lib.hid ((Below.refl w.heap.size w).alloc (Nat.le_refl _) (.cells #[.int .i64 m, .slice a l c] 31))
  have hsz0 : (w.alloc (.cells #[.int .i64 m, .slice a l c] 31)).heap.size = w.heap.size + 1 := by simp
  go_enter Try.func38, Try.ntmps38
  go_wp2
  generalize hw0 : w.alloc (.cells #[.int .i64 m, .slice a l c] 31) = w0 at *
  have HSZ := Lib.hid hsz0
  clear hw0 hsz0
  refine wp_scope_labs (fun k l' a' wr => l' = 0 ∧ ∃ (gv : Value) (b : Nat) (g : List Nat) (u7 u8 u9 u10 u11 u12 u13 u14 u15 u16 u17 u18 u19 u20 u21 u22 u23 u24 u25 u26 u27 u28 u29 u30 u31 u32 : Value), a' = { tmps := #[.agg #[.int .i64 m, .slice a l c], .int .i64 i, .pointer (some ⟨w.heap.size, 0, none⟩), undef, .slice none 0 0, gv, .map (some b), u7, u8, u9, u10, u11, u12, u13, u14, u15, u16, u17, u18, u19, u20, u21, u22, u23, u24, u25, u26, u27, u28, u29, u30, u31, u32], defers := [] } ∧ GrpSt m bs i (w.heap.size + 1) w0 wr gv b g ∧ k = cnt (fun x => !g.contains x) m) ?hf ?first ?pass
  case hf =>
    rintro k l a' w' ⟨rfl, _⟩
    exact ⟨_, rfl⟩
  case first =>
    have HI1 := Lib.hid (World.ownsRow_lit (base := w.heap.size + 1) (e := 3) (size := 1) w0 #[.int .i64 i] 1 (by have := HSZ.out; omega) (by unfold maxLen; omega) rfl)
    obtain ⟨c0, c1, l0⟩ := X0.out.two
    go_wp2_with fail
    refine (islandsOf m a l c _ hm).mono ?_
    rintro e w1 ⟨b, rfl, hlow, hS, hb⟩
    have hI1 := HI1.out
    have HI2 := Lib.hid (show Ints w1 (w.heap.size + 1) (.slice (some ⟨w0.heap.size, 0, none⟩) 1 1) (idx [i]) from Ints.below hI1 hb)
    have HB1 := Lib.hid (Below.trans (B := w.heap.size + 1) (a := w0) (by have := HSZ.out; (repeat (first | exact Below.refl _ _ | (refine Below.alloc ?_ (by first | omega | (simp; try omega)) _) | apply Below.drew | apply below_drewN))) (hb.mono (by have := HSZ.out; simp; omega)))
    have HLow : Hid (w.heap.size + 1 ≤ b) := Lib.hid (by have := HSZ.out; simp at hlow; omega)
    clear hb hlow hI1 c0 c1 l0
    go_wp2_with (at_delete; refine wpList_delI rfl hS i (by omega) _ _ rfl rfl rfl ?_; intro w2 hS2 hg2)
    have G0 := Lib.hid (GrpSt.start (bs := bs) hi (HI2.out.kept hg2 (.inr (fun e => hS.ne HI2.out e.symm))) hS2 (HB1.out.grown hg2 (by have := HB1.out.size; have := HSZ.out; omega) (by intro k hk; cases hk; exact HLow.out)) HLow.out)
    clear hS hS2 hg2 HI2 HB1 HI1
    go_frame
    go_step3
    obtain ⟨g, hgi⟩ : ∃ g, g = [i] := ⟨_, rfl⟩
    rw [← hgi] at G0
    clear hgi
    generalize Value.slice (some ⟨w0.heap.size, 0, none⟩) 1 1 = gv at *
    have XB := Lib.hid (X0.out.below G0.out.bel (by omega))
    have HLw := Lib.hid G0.out.low
    have hgl := G0.out.left
    have hidx : (idx g).length ≤ 7 := by rw [idx_len]; omega
    go_wp2_with (at_range; refine wpList_rangeI rfl G0.out.set _ rfl rfl ?_; intro w3 cnt0 hrg hg3 hs3)
    go_frame
    have HRG := Lib.hid hrg
    have HB3 := Lib.hid ((Below.refl w2.heap.size w2).grown hg3 (Nat.le_refl _) (by intro k hk; cases hk))
    clear hrg hg3 hs3
    go_loopw [5, 7] (fun v5 _ wr => v5 = gv ∧ ∃ q cnt, IRng wr b w2.heap.size 7 (oth m g) q cnt ∧ Below w2.heap.size w2 wr ∧ Hid (∀ j, q j = true → oth m g j = true) ∧ Hid (∀ j, oth m g j = true → q j = false → nextTo bs j g = false)) (fun _ _ wr => wr.rangeLeft b w2.heap.size)
    case atStart => exact ⟨rfl, _, _, HRG.out, HB3.out, Lib.hid (fun j h => h), Lib.hid (fun j h h2 => by rw [h] at h2; cases h2)⟩
    case round =>
      obtain ⟨rfl, q, cnt, hR, hB, HQ, HN⟩ := hrel
      have hLE := hR.left_eq
      have HLE := Lib.hid hLE
      clear hLE
      go_wp2_with (at_next; refine wpList_nextI rfl _ rfl rfl hR ?_ ?_; all_goals (first | (intro j cv w4 cnt4 hqj hR4 hlt4 hg4 hs4 hen; have hB4 := hB.grown hg4 hB.size (by intro k hk; cases hk; exact Nat.le_refl _); obtain ⟨c0, c1, l0⟩ := (XB.out.below hB4 XB.out.lt).two) | (intro hdone)))
      · have E := Lib.hid (groupL_is HG.out hi G0.out.nod G0.out.mem G0.out.self (fun j h1 h2 => HN.out j (oth_iff.2 ⟨h1, h2⟩) (hdone j)))
        have HB := Lib.hid hB
        clear hdone hR hB HN HQ
        refine (sortI u5 (idx g) (w.heap.size + 1) _ (G0.out.ints.below HB.out) (by omega) (by have := G0.out.bel.size; have := HSZ.out; have := HB.out.size; omega)).mono ?_
        rw [E.out]
        rintro e w5 ⟨rfl, hI5, hb5⟩
        have HI5 := Lib.hid (ints_mono' hI5 (by omega : w.heap.size ≤ w.heap.size + 1))
        have HB5 := Lib.hid (BW.out.trans (((G0.out.bel.trans (HB.out.mono (by have := G0.out.bel.size; have := HSZ.out; omega))).trans hb5).mono (by omega)))
        clear hI5 hb5
        go_wp2
        simp only [byLab]
        go_ret
        exact ⟨_, rfl, HI5.out, HB5.out⟩
      · have hjm := (oth_iff.1 (HQ.out j hqj))
        have HJ := Lib.hid hjm.2
        have hjm1 := hjm.1
        have HQJ := Lib.hid hqj
        have HR4 := Lib.hid hR4
        have HB4 := Lib.hid hB4
        have hsz4 := hB4.size
        clear hjm hqj hR4 hB4 hg4 hR hB
        refine (isNextTo m _ u5 bs j g _ (HR.out.below (BW.out.trans ((G0.out.bel.trans (HB4.out.mono (by have := G0.out.bel.size; have := HSZ.out; omega))).mono (by omega)))) ((G0.out.ints.below HB4.out).rd) HG.out hm hl hjm1 (by omega)).mono ?_
        rintro e w5 ⟨rfl, hb5⟩
        have HR5 := Lib.hid (HR4.out.below hb5)
        have HB5 := Lib.hid (HB4.out.trans (hb5.mono hsz4))
        have hsz5 := HB5.out.size
        clear hb5 c0 c1 hen
        cases hx : nextTo bs j g
        · have HX := Lib.hid hx
          have HQ5 := Lib.hid (fun x (h : (q x && x != j) = true) => HQ.out x (by rw [Bool.and_eq_true] at h; exact h.1))
          have HN5 := Lib.hid (fun x (h1 : oth m g x = true) (h2 : (q x && x != j) = false) => (by
            by_cases e : x = j
            · subst e; exact HX.out
            · exact HN.out x h1 (by simpa [e] using h2) : nextTo bs x g = false))
          clear hx
          go_wp2
          go_roundw
          case rel => exact ⟨rfl, _, _, HR5.out, HB5.out, HQ5, HN5⟩
          case measure => rw [HR5.out.left_eq, HLE.out]; exact hlt4
        · have HX := Lib.hid hx
          have hS5 := HR5.out.set
          have hI5 := G0.out.ints.below HB5.out
          have hb0 := G0.out.bel.size
          have hb1 := HSZ.out
          have hsS : w.heap.size + 1 ≤ w5.heap.size := by omega
          have hil : (idx g).length < 16777216 := by omega
          have hj9 : j < 1000 := by omega
          clear hx HQ HN hb1
          go_wp2_with (first
            | (at_builtin; refine wpList_app w5 rfl _ _ rfl (w.heap.size + 1) _ (idx g) rfl hI5 (j : Int) rfl hil hsS rfl ?_; intro v6 w6 hI6 hb6 hg6; have hS6 := hS5.kept hg6 (hS5.ne hI5))
            | (at_delete; refine wpList_delI rfl hS6 j hj9 _ _ rfl rfl rfl ?_; intro w7 hS7 hg7))
          go_frame
          have G7 := Lib.hid (GrpSt.step G0.out HG.out hjm1 HJ.out HX.out (by rw [← idx_app]; exact hI6.kept hg7 (.inr (fun e => hS6.ne hI6 e.symm))) hS7 (((G0.out.bel.trans (HB5.out.mono (by have := G0.out.bel.size; have := HSZ.out; omega))).trans hb6).grown hg7 (by have := hb6.size; omega) (by intro k hk; cases hk; exact HLw.out)))
          go_step3
          exact ⟨_, rfl, v6, b, _, _, _, _, _, _, _, _, _, _, _, _, _, _, _, _, _, _, _, _, _, _, _, _, _, _, _, rfl, G7.out, rfl⟩
  case pass =>
    rintro k l' r a' wp ⟨rfl, gv, b, g, u7, u8, u9, u10, u11, u12, u13, u14, u15, u16, u17, u18, u19, u20, u21, u22, u23, u24, u25, u26, u27, u28, u29, u30, u31, u32, rfl, hG, rfl⟩ hr
    obtain rfl := Option.some.inj (hr.symm.trans rfl)
    have G0 := Lib.hid hG
    clear hr hG
    have XB := Lib.hid (X0.out.below G0.out.bel (by omega))
    have HLw := Lib.hid G0.out.low
    have hgl := G0.out.left
    have hidx : (idx g).length ≤ 7 := by rw [idx_len]; omega
    go_wp2_with (at_range; refine wpList_rangeI rfl G0.out.set _ rfl rfl ?_; intro w3 cnt0 hrg hg3 hs3)
    go_frame
    have HRG := Lib.hid hrg
    have HB3 := Lib.hid ((Below.refl wp.heap.size wp).grown hg3 (Nat.le_refl _) (by intro k hk; cases hk))
    clear hrg hg3 hs3
    go_loopw [5, 7] (fun v5 _ wr => v5 = gv ∧ ∃ q cnt, IRng wr b wp.heap.size 7 (oth m g) q cnt ∧ Below wp.heap.size wp wr ∧ Hid (∀ j, q j = true → oth m g j = true) ∧ Hid (∀ j, oth m g j = true → q j = false → nextTo bs j g = false)) (fun _ _ wr => wr.rangeLeft b wp.heap.size)
    case atStart => exact ⟨rfl, _, _, HRG.out, HB3.out, Lib.hid (fun j h => h), Lib.hid (fun j h h2 => by rw [h] at h2; cases h2)⟩
    case round =>
      obtain ⟨rfl, q, cnt, hR, hB, HQ, HN⟩ := hrel
      have hLE := hR.left_eq
      have HLE := Lib.hid hLE
      clear hLE
      go_wp2_with (at_next; refine wpList_nextI rfl _ rfl rfl hR ?_ ?_; all_goals (first | (intro j cv w4 cnt4 hqj hR4 hlt4 hg4 hs4 hen; have hB4 := hB.grown hg4 hB.size (by intro k hk; cases hk; exact Nat.le_refl _); obtain ⟨c0, c1, l0⟩ := (XB.out.below hB4 XB.out.lt).two) | (intro hdone)))
      · have E := Lib.hid (groupL_is HG.out hi G0.out.nod G0.out.mem G0.out.self (fun j h1 h2 => HN.out j (oth_iff.2 ⟨h1, h2⟩) (hdone j)))
        have HB := Lib.hid hB
        clear hdone hR hB HN HQ
        refine (sortI u5 (idx g) (w.heap.size + 1) _ (G0.out.ints.below HB.out) (by omega) (by have := G0.out.bel.size; have := HSZ.out; have := HB.out.size; omega)).mono ?_
        rw [E.out]
        rintro e w5 ⟨rfl, hI5, hb5⟩
        have HI5 := Lib.hid (ints_mono' hI5 (by omega : w.heap.size ≤ w.heap.size + 1))
        have HB5 := Lib.hid (BW.out.trans (((G0.out.bel.trans (HB.out.mono (by have := G0.out.bel.size; have := HSZ.out; omega))).trans hb5).mono (by omega)))
        clear hI5 hb5
        go_wp2
        simp only [byLab]
        go_ret
        exact ⟨_, rfl, HI5.out, HB5.out⟩
      · have hjm := (oth_iff.1 (HQ.out j hqj))
        have HJ := Lib.hid hjm.2
        have hjm1 := hjm.1
        have HQJ := Lib.hid hqj
        have HR4 := Lib.hid hR4
        have HB4 := Lib.hid hB4
        have hsz4 := hB4.size
        clear hjm hqj hR4 hB4 hg4 hR hB
        refine (isNextTo m _ u5 bs j g _ (HR.out.below (BW.out.trans ((G0.out.bel.trans (HB4.out.mono (by have := G0.out.bel.size; have := HSZ.out; omega))).mono (by omega)))) ((G0.out.ints.below HB4.out).rd) HG.out hm hl hjm1 (by omega)).mono ?_
        rintro e w5 ⟨rfl, hb5⟩
        have HR5 := Lib.hid (HR4.out.below hb5)
        have HB5 := Lib.hid (HB4.out.trans (hb5.mono hsz4))
        have hsz5 := HB5.out.size
        clear hb5 c0 c1 hen
        cases hx : nextTo bs j g
        · have HX := Lib.hid hx
          have HQ5 := Lib.hid (fun x (h : (q x && x != j) = true) => HQ.out x (by rw [Bool.and_eq_true] at h; exact h.1))
          have HN5 := Lib.hid (fun x (h1 : oth m g x = true) (h2 : (q x && x != j) = false) => (by
            by_cases e : x = j
            · subst e; exact HX.out
            · exact HN.out x h1 (by simpa [e] using h2) : nextTo bs x g = false))
          clear hx
          go_wp2
          go_roundw
          case rel => exact ⟨rfl, _, _, HR5.out, HB5.out, HQ5, HN5⟩
          case measure => rw [HR5.out.left_eq, HLE.out]; exact hlt4
        · have HX := Lib.hid hx
          have hS5 := HR5.out.set
          have hI5 := G0.out.ints.below HB5.out
          have hb0 := G0.out.bel.size
          have hb1 := HSZ.out
          have hsS : w.heap.size + 1 ≤ w5.heap.size := by omega
          have hil : (idx g).length < 16777216 := by omega
          have hj9 : j < 1000 := by omega
          clear hx HQ HN hb1
          go_wp2_with (first
            | (at_builtin; refine wpList_app w5 rfl _ _ rfl (w.heap.size + 1) _ (idx g) rfl hI5 (j : Int) rfl hil hsS rfl ?_; intro v6 w6 hI6 hb6 hg6; have hS6 := hS5.kept hg6 (hS5.ne hI5))
            | (at_delete; refine wpList_delI rfl hS6 j hj9 _ _ rfl rfl rfl ?_; intro w7 hS7 hg7))
          go_frame
          have G7 := Lib.hid (GrpSt.step G0.out HG.out hjm1 HJ.out HX.out (by rw [← idx_app]; exact hI6.kept hg7 (.inr (fun e => hS6.ne hI6 e.symm))) hS7 (((G0.out.bel.trans (HB5.out.mono (by have := G0.out.bel.size; have := HSZ.out; omega))).trans hb6).grown hg7 (by have := hb6.size; omega) (by intro k hk; cases hk; exact HLw.out)))
          go_step3
          exact ⟨_, (by have h1 := G7.out.len; have h2 := G0.out.len; simp only [List.length_append, List.length_cons, List.length_nil] at h1; omega), rfl, v6, b, _, _, _, _, _, _, _, _, _, _, _, _, _, _, _, _, _, _, _, _, _, _, _, _, _, _, _, rfl, G7.out, rfl⟩
end Go.Proofs.Ytihdhgkknfohaad
