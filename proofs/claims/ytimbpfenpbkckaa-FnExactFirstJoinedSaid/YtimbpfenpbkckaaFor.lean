/- slices.Max, slices.Min at slices of ints; PlankForAll, impl and spec. -/
import Derived.Test.YtimbpfenpbkckaaPk
namespace Go.Proofs.Ytimbpfenpbkckaa
set_option linter.unusedVariables false
open Go.RowKit

/-- the greatest of the first k numbers, none of which is negative -/
def mxTo (zs : List Int) : Nat → Int
  | 0 => 0
  | k + 1 => if mxTo zs k < gt zs k then gt zs k else mxTo zs k
theorem mxTo_in {zs : List Int} {b : Int} (h : ∀ j, 0 ≤ gt zs j ∧ gt zs j ≤ b) (hb : 0 ≤ b) : ∀ k, 0 ≤ mxTo zs k ∧ mxTo zs k ≤ b
  | 0 => ⟨Int.le_refl _, hb⟩
  | k + 1 => by
    have := mxTo_in h hb k; have := h k
    unfold mxTo; split <;> omega
theorem mxTo_1 {zs : List Int} (h : 0 ≤ gt zs 0) : mxTo zs 1 = gt zs 0 := by
  unfold mxTo mxTo; split <;> omega
theorem mxTo_s (zs : List Int) (k : Nat) : mxTo zs (k + 1) = if mxTo zs k < gt zs k then gt zs k else mxTo zs k := rfl

set_option maxHeartbeats 1000000 in
theorem maxOf (v : Value) (zs : List Int) (w : World) (h : Rd w v zs) (hp : arePl zs = true) :
    Calls Try.prog 47 #[v] w fun e w' => e = .returned (.int .i64 (mxTo zs zs.length)) ∧ w = w' := by
  obtain ⟨a, n, c, rfl, hnz, hcell⟩ := h.cells
  have hin := arePl_in hp
  have han := arePl_any hp
  have hmx := mxTo_in han (by omega)
  rw [← hnz] at hin ⊢
  obtain ⟨b, off, rfl, _, _⟩ := hcell 0 (by omega)
  have hcell' : ∀ j, j < n → w.cell? ⟨b, off + j, none⟩ = some (.int .i64 (gt zs j)) := by
    intro j hj
    obtain ⟨b', off', e, _, hc⟩ := hcell j hj
    cases e; exact hc
  have M1 := Lib.hid (mxTo_1 (han 0).1)
  have c0 := hcell' 0 (by omega)
  rw [Nat.add_zero, ← M1.out] at c0
  have n1 := hin.1
  have n7 := hin.2.1
  have HC := Lib.hid hcell'
  have HN := Lib.hid han
  have HM := Lib.hid hmx
  have h01 := hmx 1
  clear hcell hcell' h hp hin han hmx hnz
  go_enter Try.func47, Try.ntmps47
  go_wp2
  go_loop [3, 4] (fun m i => ∃ k : Nat, 1 ≤ k ∧ k ≤ n ∧ i = .int .i64 k ∧ m = .int .i64 (mxTo zs k)) (fun _ i => n - (intOf i).toNat)
  case atStart => exact ⟨1, by omega, by omega, rfl, rfl⟩
  case round =>
    obtain ⟨k, hk1, hk, rfl, rfl⟩ := hrel
    by_cases hlt : k < n
    · have hc := HC.out k hlt
      have hx := HN.out k
      have hy := HM.out k
      have R := Lib.hid (mxTo_s zs k)
      generalize gt zs k = x at *
      generalize mxTo zs k = y at *
      go_wp2
      go_round
      case rel => exact ⟨k + 1, by omega, by omega, by go_num, by rw [R.out]⟩
      case measure => (simp [intOf]; try omega)
    · obtain rfl : k = n := by omega
      go_wp2
      go_ret
      exact ⟨rfl, rfl⟩

/-- the first of the shortest of the first k planks that are long enough -/
def bestTo (need : Int) (ps : List Int) : Nat → Option Nat
  | 0 => none
  | k + 1 => match bestTo need ps k with
    | none => if need ≤ gt ps k then some k else none
    | some b => if need ≤ gt ps k ∧ gt ps k < gt ps b then some k else some b
theorem bestTo_lt (need : Int) (ps : List Int) : ∀ k b, bestTo need ps k = some b → b < k
  | 0, b, h => by cases h
  | k + 1, b, h => by
    unfold bestTo at h
    have ih := bestTo_lt need ps k
    split at h
    · split at h
      · cases h; omega
      · cases h
    · rename_i c hc
      have := ih c hc
      split at h <;> (cases h; omega)
theorem bestTo_n1 {need : Int} {ps : List Int} {k : Nat} (h : bestTo need ps k = none) (h2 : need ≤ gt ps k) : bestTo need ps (k + 1) = some k := by simp [bestTo, h, h2]
theorem bestTo_n2 {need : Int} {ps : List Int} {k : Nat} (h : bestTo need ps k = none) (h2 : ¬ need ≤ gt ps k) : bestTo need ps (k + 1) = none := by simp [bestTo, h, h2]
theorem bestTo_s1 {need : Int} {ps : List Int} {k b : Nat} (h : bestTo need ps k = some b) (h2 : need ≤ gt ps k) (h3 : gt ps k < gt ps b) : bestTo need ps (k + 1) = some k := by simp [bestTo, h, h2, h3]
theorem bestTo_s2 {need : Int} {ps : List Int} {k b : Nat} (h : bestTo need ps k = some b) (h2 : ¬ (need ≤ gt ps k ∧ gt ps k < gt ps b)) : bestTo need ps (k + 1) = some b := by simp [bestTo, h, h2]
def optV : Option Nat → Value
  | some b => .tuple #[.int .i64 (b : Int), .bool true]
  | none => .tuple #[.int .i64 0, .bool false]
def forV (gs ps : List Int) (r : Int) : Value := if asks gs ps r then optV (bestTo (mxTo gs gs.length + 2 * r) ps ps.length) else optV none
theorem forV_no {gs ps : List Int} {r : Int} (h : asks gs ps r = false) : forV gs ps r = optV none := by simp [forV, h]
theorem forV_yes {gs ps : List Int} {r : Int} (h : asks gs ps r = true) : forV gs ps r = optV (bestTo (mxTo gs gs.length + 2 * r) ps ps.length) := by simp [forV, h]
theorem forV_form (gs ps : List Int) (r : Int) : ∃ x y, forV gs ps r = .tuple #[.int .i64 x, .bool y] := by
  have : ∀ o, ∃ x y, optV o = .tuple #[.int .i64 x, .bool y] := by intro o; cases o <;> exact ⟨_, _, rfl⟩
  unfold forV; split <;> exact this _
theorem asks_in {gs ps : List Int} {r : Int} (h : asks gs ps r = true) : arePl gs = true ∧ arePl ps = true ∧ 0 ≤ r ∧ r ≤ 10 := by
  unfold asks at h
  rw [Bool.and_eq_true, Bool.and_eq_true, inB_iff] at h
  exact ⟨h.1.1, h.1.2, h.2.1, h.2.2⟩
def bR (o : Option Nat) (x f : Value) : Prop := match o with
  | some b => x = .int .i64 (b : Int) ∧ f = .bool true
  | none => x = .int .i64 0 ∧ f = .bool false
def bS (o : Option Nat) (x : Value) : Prop := match o with
  | some b => x = .int .i64 (b : Int)
  | none => x = .int .i64 (-1)
theorem Rd.cellsP {w : World} {v : Value} {zs : List Int} (h : Rd w v zs) (hp : 0 < zs.length) : ∃ b off n c, v = .slice (some ⟨b, off, none⟩) n c ∧ n = zs.length ∧ b < w.heap.size ∧ ∀ j, j < n → w.cell? ⟨b, off + j, none⟩ = some (.int .i64 (gt zs j)) := by
  rcases h with ⟨⟨a, c, rfl⟩, rfl⟩ | ⟨b, off, cap, rfl, hb, hc, hm, hh⟩
  · simp at hp
  · exact ⟨b, off, _, _, rfl, rfl, hb, hh⟩

set_option maxHeartbeats 2000000 in
theorem implFor (v u : Value) (gs ps : List Int) (r : Int) (w : World) (h : Rd w v gs) (hn : gs.length ≤ 1048576) (h2 : Rd w u ps) (hn2 : ps.length ≤ 1048576) :
    Calls Try.prog 20 #[v, u, .int .i64 r] w fun e w' => e = .returned (forV gs ps r) ∧ Below w.heap.size w w' := by
  have HA := Lib.hid (implAsks v u gs ps r w h hn h2 hn2)
  cases hk : asks gs ps r
  · have J := Lib.hid (forV_no hk)
    rw [hk] at HA
    clear h h2 hk
    go_enter Try.func20, Try.ntmps20
    go_wp2_with (go_at_call 46; refine HA.out.mono ?_; rintro e w' ⟨rfl, rfl⟩)
    go_ret2
    exact ⟨ret_v J.out.symm, Below.refl _ _⟩
  have J := Lib.hid (forV_yes hk)
  rw [hk] at HA
  obtain ⟨hg, hp, hr0, hr1⟩ := asks_in hk
  have HM := Lib.hid (maxOf v gs w h hg)
  have hmx := mxTo_in (arePl_any hg) (by omega) gs.length
  generalize mxTo gs gs.length = mx at *
  have hin := arePl_in hp
  obtain ⟨b, off, n, c, rfl, hnz, hb, hcell⟩ := h2.cellsP (by omega)
  rw [← hnz] at hin J
  have HC := Lib.hid hcell
  have HX := Lib.hid (arePl_any hp)
  have n7 := hin.2.1
  generalize hnd : mx + 2 * r = need at *
  clear h h2 hk hg hp hin hcell hnz hn hn2
  go_enter Try.func20, Try.ntmps20
  go_wp2_with (first
    | (go_at_call 46; refine HA.out.mono ?_; rintro e w' ⟨rfl, rfl⟩)
    | (go_at_call 47; refine HM.out.mono ?_; rintro e w' ⟨rfl, rfl⟩)
    | (go_at_call 43; refine (lengthFor _ _ _ (by omega) (by omega)).mono ?_; rintro e w' ⟨rfl, rfl⟩; rw [hnd]))
  clear HA HM
  go_loop [9, 10, 24] (fun x f i => ∃ k : Nat, k ≤ n ∧ i = .int .i64 k ∧ bR (bestTo need ps k) x f) (fun _ _ i => n - (intOf i).toNat)
  case atStart => exact ⟨0, Nat.zero_le _, rfl, rfl, rfl⟩
  case round =>
    obtain ⟨k, hk, rfl, hR⟩ := hrel
    by_cases hlt : k < n
    · have hlt' : (k : Int) < n := by omega
      have hc := HC.out k hlt
      have hx := HX.out k
      cases ho : bestTo need ps k with
      | none =>
        rw [ho] at hR
        obtain ⟨rfl, rfl⟩ := hR
        by_cases hf : need ≤ gt ps k
        · have R := Lib.hid (bestTo_n1 ho hf)
          generalize gt ps k = x at *
          clear ho
          go_wp2
          go_round
          case rel => exact ⟨k + 1, by omega, by go_num, by rw [R.out]; exact ⟨rfl, rfl⟩⟩
          case measure => (simp [intOf]; try omega)
        · have R := Lib.hid (bestTo_n2 ho hf)
          generalize gt ps k = x at *
          clear ho
          go_wp2
          go_round
          case rel => exact ⟨k + 1, by omega, by go_num, by rw [R.out]; exact ⟨rfl, rfl⟩⟩
          case measure => (simp [intOf]; try omega)
      | some d =>
        rw [ho] at hR
        obtain ⟨rfl, rfl⟩ := hR
        have hd := bestTo_lt need ps k d ho
        have hd2 : (d : Int) < n := by omega
        have hcd := HC.out d (by omega)
        have hdx := HX.out d
        by_cases hf : need ≤ gt ps k
        · by_cases hl : gt ps k < gt ps d
          · have R := Lib.hid (bestTo_s1 ho hf hl)
            generalize gt ps k = x at *
            generalize gt ps d = y at *
            clear ho
            go_wp2
            go_round
            case rel => exact ⟨k + 1, by omega, by go_num, by rw [R.out]; exact ⟨rfl, rfl⟩⟩
            case measure => (simp [intOf]; try omega)
          · have R := Lib.hid (bestTo_s2 ho (fun h => hl h.2))
            generalize gt ps k = x at *
            generalize gt ps d = y at *
            clear ho
            go_wp2
            go_round
            case rel => exact ⟨k + 1, by omega, by go_num, by rw [R.out]; exact ⟨rfl, rfl⟩⟩
            case measure => (simp [intOf]; try omega)
        · have R := Lib.hid (bestTo_s2 ho (fun h => hf h.1))
          generalize gt ps k = x at *
          generalize gt ps d = y at *
          clear ho
          go_wp2
          go_round
          case rel => exact ⟨k + 1, by omega, by go_num, by rw [R.out]; exact ⟨rfl, rfl⟩⟩
          case measure => (simp [intOf]; try omega)
    · obtain rfl : k = n := by omega
      cases ho : bestTo need ps k with
      | none =>
        rw [ho] at J hR
        obtain ⟨rfl, rfl⟩ := hR
        clear ho
        go_wp2
        go_ret2
        exact ⟨ret_v (by rw [J.out]; rfl), Below.refl _ _⟩
      | some d =>
        rw [ho] at J hR
        obtain ⟨rfl, rfl⟩ := hR
        clear ho
        go_wp2
        go_ret2
        exact ⟨ret_v (by rw [J.out]; rfl), Below.refl _ _⟩
theorem l1Most (a b : Int) (w : World) :
    Calls Try.prog 45 #[.int .i64 a, .int .i64 b] w fun e w' => e = .returned (.int .i64 (if b < a then a else b)) ∧ w = w' := by
  by_cases h : b < a
  · have R := Lib.hid (show (if b < a then a else b) = a from if_pos h)
    go_enter Try.func45, Try.ntmps45
    go_wp2
    go_ret
    exact ⟨ret_w (by first | rfl | (rw [R.out]; rfl)), rfl⟩
  · have R := Lib.hid (show (if b < a then a else b) = b from if_neg h)
    go_enter Try.func45, Try.ntmps45
    go_wp2
    go_ret
    exact ⟨ret_w (by first | rfl | (rw [R.out]; rfl)), rfl⟩
theorem mxTo_t (zs : List Int) (k : Nat) : mxTo zs (k + 1) = if gt zs k < mxTo zs k then mxTo zs k else gt zs k := by
  rw [mxTo_s]; split <;> split <;> omega
set_option maxHeartbeats 2000000 in
theorem specFor (v u : Value) (gs ps : List Int) (r : Int) (w : World) (h : Rd w v gs) (hn : gs.length ≤ 1048576) (h2 : Rd w u ps) (hn2 : ps.length ≤ 1048576) :
    Calls Try.prog 19 #[v, u, .int .i64 r] w fun e w' => e = .returned (forV gs ps r) ∧ Below w.heap.size w w' := by
  have HA := Lib.hid (plAsked v u gs ps r w h hn h2 hn2)
  cases hk : asks gs ps r
  · have J := Lib.hid (forV_no hk)
    rw [hk] at HA
    clear h h2 hk
    go_enter Try.func19, Try.ntmps19
    go_wp2_with (go_at_call 44; refine HA.out.mono ?_; rintro e w' ⟨rfl, rfl⟩)
    go_ret2
    exact ⟨ret_v J.out.symm, Below.refl _ _⟩
  have J := Lib.hid (forV_yes hk)
  rw [hk] at HA
  obtain ⟨hg, hp, hr0, hr1⟩ := asks_in hk
  have HMX := Lib.hid (mxTo_in (arePl_any hg) (by omega : (0:Int) ≤ 100))
  have hin := arePl_in hp
  have hin2 := arePl_in hg
  obtain ⟨b, off, n, c, rfl, hnz, hb, hcell⟩ := h2.cellsP (by omega)
  obtain ⟨b2, off2, n2, c2, rfl, hnz2, hb2, hcell2⟩ := h.cellsP (by omega)
  rw [← hnz] at hin J
  rw [← hnz2] at hin2 J
  have HC := Lib.hid hcell
  have HC2 := Lib.hid hcell2
  have HX := Lib.hid (arePl_any hp)
  have HX2 := Lib.hid (arePl_any hg)
  have n7 := hin.2.1
  have m7 := hin2.2.1
  clear h h2 hk hg hp hin hin2 hcell hcell2 hnz hnz2 hn hn2
  go_enter Try.func19, Try.ntmps19
  go_wp2_with (go_at_call 44; refine HA.out.mono ?_; rintro e w' ⟨rfl, rfl⟩)
  clear HA
  go_loop [8, 21] (fun x i => ∃ k : Nat, k ≤ n2 ∧ i = .int .i64 k ∧ x = .int .i64 (mxTo gs k)) (fun _ i => n2 - (intOf i).toNat)
  case atStart => exact ⟨0, Nat.zero_le _, rfl, rfl⟩
  case round =>
    obtain ⟨k, hk, rfl, rfl⟩ := hrel
    by_cases hlt : k < n2
    · have hlt' : (k : Int) < n2 := by omega
      have hc := HC2.out k hlt
      have hx := HX2.out k
      have R := Lib.hid (mxTo_t gs k)
      go_wp2_with (go_at_call 45; refine (l1Most _ _ _).mono ?_; rintro e w' ⟨rfl, rfl⟩; rw [← R.out])
      go_round
      case rel => exact ⟨k + 1, by omega, by go_num, rfl⟩
      case measure => (simp [intOf]; try omega)
    · obtain rfl : k = n2 := by omega
      have hmx := HMX.out k
      clear HMX HC2 HX2
      generalize mxTo gs k = mx at *
      generalize hnd : mx + 2 * r = need at *
      go_wp2
      go_loop [11, 31] (fun x i => ∃ k : Nat, k ≤ n ∧ i = .int .i64 k ∧ bS (bestTo need ps k) x) (fun _ i => n - (intOf i).toNat)
      case atStart => exact ⟨0, Nat.zero_le _, rfl, rfl⟩
      case round =>
        obtain ⟨k, hk, rfl, hR⟩ := hrel
        by_cases hlt : k < n
        · have hlt' : (k : Int) < n := by omega
          have hc := HC.out k hlt
          have hx := HX.out k
          cases ho : bestTo need ps k with
          | none =>
            rw [ho] at hR
            obtain rfl := hR
            by_cases hf : need ≤ gt ps k
            · have R := Lib.hid (bestTo_n1 ho hf)
              generalize gt ps k = x at *
              clear ho
              go_wp2_with (go_at_call 41; refine (plSpans _ _ _ _ (by omega) (by omega)).mono ?_; rintro e w' ⟨rfl, rfl⟩; rw [hnd])
              go_round
              case rel => exact ⟨k + 1, by omega, by go_num, by rw [R.out]; exact rfl⟩
              case measure => (simp [intOf]; try omega)
            · have R := Lib.hid (bestTo_n2 ho hf)
              generalize gt ps k = x at *
              clear ho
              go_wp2_with (go_at_call 41; refine (plSpans _ _ _ _ (by omega) (by omega)).mono ?_; rintro e w' ⟨rfl, rfl⟩; rw [hnd])
              go_round
              case rel => exact ⟨k + 1, by omega, by go_num, by rw [R.out]; exact rfl⟩
              case measure => (simp [intOf]; try omega)
          | some d =>
            rw [ho] at hR
            obtain rfl := hR
            have hd := bestTo_lt need ps k d ho
            have hd2 : (d : Int) < n := by omega
            have hcd := HC.out d (by omega)
            have hdx := HX.out d
            by_cases hf : need ≤ gt ps k
            · by_cases hl : gt ps k < gt ps d
              · have R := Lib.hid (bestTo_s1 ho hf hl)
                generalize gt ps k = x at *
                generalize gt ps d = y at *
                clear ho
                go_wp2_with (go_at_call 41; refine (plSpans _ _ _ _ (by omega) (by omega)).mono ?_; rintro e w' ⟨rfl, rfl⟩; rw [hnd])
                go_round
                case rel => exact ⟨k + 1, by omega, by go_num, by rw [R.out]; exact rfl⟩
                case measure => (simp [intOf]; try omega)
              · have R := Lib.hid (bestTo_s2 ho (fun h => hl h.2))
                generalize gt ps k = x at *
                generalize gt ps d = y at *
                clear ho
                go_wp2_with (go_at_call 41; refine (plSpans _ _ _ _ (by omega) (by omega)).mono ?_; rintro e w' ⟨rfl, rfl⟩; rw [hnd])
                go_round
                case rel => exact ⟨k + 1, by omega, by go_num, by rw [R.out]; exact rfl⟩
                case measure => (simp [intOf]; try omega)
            · have R := Lib.hid (bestTo_s2 ho (fun h => hf h.1))
              generalize gt ps k = x at *
              generalize gt ps d = y at *
              clear ho
              go_wp2_with (go_at_call 41; refine (plSpans _ _ _ _ (by omega) (by omega)).mono ?_; rintro e w' ⟨rfl, rfl⟩; rw [hnd])
              go_round
              case rel => exact ⟨k + 1, by omega, by go_num, by rw [R.out]; exact rfl⟩
              case measure => (simp [intOf]; try omega)
        · obtain rfl : k = n := by omega
          cases ho : bestTo need ps k with
          | none =>
            rw [ho] at J hR
            obtain rfl := hR
            clear ho
            go_wp2
            go_ret2
            exact ⟨ret_v (by rw [J.out]; rfl), Below.refl _ _⟩
          | some d =>
            rw [ho] at J hR
            obtain rfl := hR
            clear ho
            go_wp2
            go_ret2
            exact ⟨ret_v (by rw [J.out]; rfl), Below.refl _ _⟩
end Go.Proofs.Ytimbpfenpbkckaa
