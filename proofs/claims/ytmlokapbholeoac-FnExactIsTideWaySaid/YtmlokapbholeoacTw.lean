/- IsTideWay, both sides. -/
import Derived.Test.YtmlokapbholeoacTv
import Derived.Test.YtmlokapbholeoacPk
import Derived.Deep.RegionWith
import Derived.Deep.RegionHeld3
import Derived.Deep.RegionLaw
namespace Go.Proofs.Ytmlokapbholeoac
set_option linter.unusedVariables false
open Go.RowKit

/-- whether the k-th place of a list is well told -/
def okT (h t : ByteArray) (L s : Nat) (zs : List Int) (k : Nat) : Bool :=
  inB (gt zs k) 0 ((h.size : Int) + 1) && dry h t (gt zs k).toNat (s + k) && (k == 0 || (decide (gt zs k - gt zs (k - 1) ≤ L) && decide (gt zs (k - 1) - gt zs k ≤ L)))
/-- whether the first k places are -/
def wkT (h t : ByteArray) (L s : Nat) (zs : List Int) : Nat → Bool
  | 0 => true
  | k + 1 => wkT h t L s zs k && okT h t L s zs k
theorem wkT_no {h t : ByteArray} {L s : Nat} {zs : List Int} {k : Nat} (g : okT h t L s zs k = false) : ∀ n, k < n → wkT h t L s zs n = false
  | 0, hn => absurd hn (Nat.not_lt_zero _)
  | n + 1, hn => by
    unfold wkT
    by_cases e : k = n
    · subst e; simp [g]
    · rw [wkT_no g n (by omega)]; rfl
theorem wkT_in {h t : ByteArray} {L s : Nat} {zs : List Int} : ∀ {n : Nat}, wkT h t L s zs n = true → ∀ k, k < n → okT h t L s zs k = true
  | 0, _, k, hk => absurd hk (Nat.not_lt_zero _)
  | n + 1, g, k, hk => by
    simp only [wkT, Bool.and_eq_true] at g
    by_cases e : k = n
    · subst e; exact g.2
    · exact wkT_in g.1 k (by omega)
theorem wkT_yes {h t : ByteArray} {L s : Nat} {zs : List Int} {k : Nat} (g : wkT h t L s zs k = true) (g2 : okT h t L s zs k = true) : wkT h t L s zs (k + 1) = true := by simp [wkT, g, g2]
def itwB (h t : ByteArray) (L s : Nat) (zs : List Int) : Bool :=
  decide (0 < zs.length) && decide (gt zs 0 = 0) && decide (gt zs (zs.length - 1) = (h.size : Int) + 1) && wkT h t L s zs zs.length
def itwV (h t : ByteArray) (L X : Int) (zs : List Int) : Value :=
  if askd h t L X && decide (zs.length ≤ 1000) then .tuple #[.bool (itwB h t L.toNat X.toNat zs), .bool true] else .tuple #[.bool false, .bool false]
theorem itwV_no {h t : ByteArray} {L X : Int} {zs : List Int} (g : askd h t L X = false ∨ 1000 < zs.length) : itwV h t L X zs = .tuple #[.bool false, .bool false] := by
  unfold itwV; rcases g with g | g
  · simp [g]
  · rw [if_neg]; simp; omega
theorem itwV_yes {h t : ByteArray} {L X : Int} {zs : List Int} (g : askd h t L X = true) (g2 : zs.length ≤ 1000) : itwV h t L X zs = .tuple #[.bool (itwB h t L.toNat X.toNat zs), .bool true] := by
  simp [itwV, g, g2]
theorem itwV_form (h t : ByteArray) (L X : Int) (zs : List Int) : ∃ x y, itwV h t L X zs = .tuple #[.bool x, .bool y] := by
  unfold itwV; split <;> exact ⟨_, _, rfl⟩
theorem itwB_all {h t : ByteArray} {L s : Nat} {zs : List Int} (g : zs.all (fun n => inB n 0 ((h.size : Int) + 1)) = false) : itwB h t L s zs = false := by
  obtain ⟨x, hx, hb⟩ := List.all_eq_false.1 g
  obtain ⟨k, hk, rfl⟩ := List.getElem_of_mem hx
  have e : zs[k] = gt zs k := by simp [gt, hk]
  have : okT h t L s zs k = false := by
    rw [e] at hb
    simp only [okT]
    rw [show inB (gt zs k) 0 ((h.size : Int) + 1) = false by simpa using hb]; rfl
  simp [itwB, wkT_no this zs.length hk]
theorem all_gt {n : Int} {zs : List Int} (g : zs.all (fun x => inB x 0 n) = true) {k : Nat} (hk : k < zs.length) : 0 ≤ gt zs k ∧ gt zs k ≤ n := by
  have := List.all_eq_true.1 g zs[k] (List.getElem_mem _)
  have e : zs[k] = gt zs k := by simp [gt, hk]
  rw [e] at this
  simpa [inB] using this
theorem l1AbsT (x : Int) (w : World) (hx : -100000 ≤ x ∧ x ≤ 100000) :
    Calls Try.prog 30 #[.int .i64 x] w fun e w' => ∃ y, e = .returned (.int .i64 y) ∧ (y = x ∨ y = -x) ∧ x ≤ y ∧ -x ≤ y ∧ w = w' := by
  have M : ∀ a b wx, Calls Try.prog 34 #[.int .i64 a, .int .i64 b] wx fun e w' => e = .returned (.int .i64 (max a b)) ∧ wx = w' := by
    intro a b wx
    by_cases h : b < a
    all_goals
      go_enter Try.func34, Try.ntmps34
      go_wp2
      go_ret
      first | (rw [show max a b = a by omega]; exact ⟨rfl, rfl⟩) | (rw [show max a b = b by omega]; exact ⟨rfl, rfl⟩)
  have HM := Lib.hid M
  clear M
  go_enter Try.func30, Try.ntmps30
  go_wp2_with (go_at_call 34; refine (HM.out _ _ _).mono ?_; rintro e w' ⟨rfl, rfl⟩)
  go_ret
  exact ⟨_, rfl, by omega, by omega, by omega, rfl⟩
set_option maxHeartbeats 4000000 in
theorem specItw (h t : ByteArray) (L X : Int) (v : Value) (zs : List Int) (w : World) (hs : h.size ≤ 1048576 ∧ t.size ≤ 1048576) (hR : Rd w v zs) (hn : zs.length ≤ 1048576) :
    Calls Try.prog 14 #[.string h, .string t, .int .i64 L, .int .i64 X, v] w fun e w' => e = .returned (itwV h t L X zs) ∧ Below w.heap.size w w' := by
  have A := fun wx => tdAsked h t L X wx hs.1 hs.2
  have R0 := Lib.hid hR
  obtain ⟨n, hnz⟩ : ∃ n, n = zs.length := ⟨_, rfl⟩
  obtain ⟨a, cap, rfl, hcell⟩ : ∃ a cap, v = .slice a n cap ∧ ∀ j, j < n → ∃ b off, a = some ⟨b, off, none⟩ ∧ b < w.heap.size ∧ w.cell? ⟨b, off + j, none⟩ = some (.int .i64 (gt zs j)) := by
    obtain ⟨a, m, c, rfl, rfl, hc⟩ := hR.cells
    exact ⟨a, c, by rw [hnz], by rw [hnz]; exact hc⟩
  have HC := Lib.hid hcell
  have HN := Lib.hid hnz
  clear hcell hR
  cases ha : askd h t L X
  · have J := Lib.hid (itwV_no (zs := zs) (.inl ha))
    rw [ha] at A
    have HA := Lib.hid A
    clear A ha hnz hn
    go_enter Try.func14, Try.ntmps14
    go_wp2_with (go_at_call 27; refine (HA.out _).mono ?_; rintro e w' ⟨rfl, rfl⟩)
    go_ret2
    exact ⟨ret_v J.out.symm, Below.refl _ _⟩
  by_cases hbig : 1000 < n
  · have J := Lib.hid (itwV_no (h := h) (t := t) (L := L) (X := X) (zs := zs) (.inr (by omega)))
    have hb' : (1000 : Int) < n := by omega
    rw [ha] at A
    have HA := Lib.hid A
    clear A ha hnz hn
    go_enter Try.func14, Try.ntmps14
    go_wp2_with (go_at_call 27; refine (HA.out _).mono ?_; rintro e w' ⟨rfl, rfl⟩)
    go_ret2
    exact ⟨ret_v J.out.symm, Below.refl _ _⟩
  have J := Lib.hid (itwV_yes (zs := zs) ha (by omega))
  obtain ⟨hl, x0, x1⟩ := askd_in ha
  obtain ⟨hg, l0, l1⟩ := lpd_in hl
  obtain ⟨⟨z1, z2, _⟩, ⟨z3, z4, _⟩⟩ := good_in hg
  obtain ⟨s, hs0⟩ : ∃ s : Nat, s = X.toNat := ⟨_, rfl⟩
  obtain ⟨l, hl0⟩ : ∃ l : Nat, l = L.toNat := ⟨_, rfl⟩
  rw [← hs0, ← hl0] at J
  have HX : Hid (X = s) := Lib.hid (by omega)
  have HL : Hid (L = l) := Lib.hid (by omega)
  have HG := Lib.hid hg
  have hb' : ¬ (1000 : Int) < n := by omega
  rw [ha] at A
  have HA := Lib.hid A
  clear A ha hl hg hs0 hl0
  by_cases hz : n = 0
  · have J2 := Lib.hid (J.out.trans (show Value.tuple #[.bool (itwB h t l s zs), .bool true] = .tuple #[.bool false, .bool true] by simp [itwB, show zs.length = 0 by omega]))
    clear hnz hn J hb' hbig HC HN
    subst hz
    go_enter Try.func14, Try.ntmps14
    go_wp2_with (go_at_call 27; refine (HA.out _).mono ?_; rintro e w' ⟨rfl, rfl⟩)
    go_ret2
    exact ⟨ret_v J2.out.symm, Below.refl _ _⟩
  obtain ⟨b, off, rfl, hbl, hc0⟩ := HC.out 0 (by omega)
  obtain ⟨m, hm⟩ : ∃ m, m = n - 1 := ⟨_, rfl⟩
  have hcl := HC.out m (by omega)
  obtain ⟨b', off', e0, _, hcl⟩ := hcl
  obtain ⟨rfl, rfl⟩ : b = b' ∧ off = off' := by simpa using e0
  have HCC : Hid (∀ j, j < n → w.cell? ⟨b, off + j, none⟩ = some (.int .i64 (gt zs j))) := Lib.hid (fun j hj => by
    obtain ⟨b2, o2, e2, _, h2⟩ := HC.out j hj
    obtain ⟨rfl, rfl⟩ : b = b2 ∧ off = o2 := by simpa using e2
    exact h2)
  rw [show off + 0 = off from rfl] at hc0
  clear e0
  have hz' : ¬ (n : Int) = 0 := by omega
  have n1 : (0 : Int) < n := by omega
  have n2 : (n : Int) - 1 = (m : Int) := by omega
  have n3 : (m : Int) < n := by omega
  have n4 : (0 : Int) ≤ (m : Int) := by omega
  have HM := Lib.hid hm
  have HNM := Lib.hid (show zs.length - 1 = m by omega)
  clear hm
  by_cases h0 : gt zs 0 = 0
  case neg =>
    have J2 := Lib.hid (J.out.trans (show Value.tuple #[.bool (itwB h t l s zs), .bool true] = .tuple #[.bool false, .bool true] by simp [itwB, h0]))
    have h0' : (gt zs 0 != 0) = true := by simpa using h0
    clear hnz hn J h0
    generalize gt zs 0 = z0 at *
    go_enter Try.func14, Try.ntmps14
    go_wp2_with (go_at_call 27; refine (HA.out _).mono ?_; rintro e w' ⟨rfl, rfl⟩)
    go_ret2
    exact ⟨ret_v J2.out.symm, Below.refl _ _⟩
  case pos =>
    have h0' : (gt zs 0 != 0) = false := by simp [h0]
    by_cases h1 : gt zs m = (h.size : Int) + 1
    case neg =>
      have J2 := Lib.hid (J.out.trans (show Value.tuple #[.bool (itwB h t l s zs), .bool true] = .tuple #[.bool false, .bool true] by simp only [itwB, HNM.out]; simp [h1]))
      have h1' : (gt zs m != (h.size : Int) + 1) = true := by simpa using h1
      clear hnz hn J h0 h1
      generalize gt zs 0 = z0 at *
      generalize gt zs m = zl at *
      go_enter Try.func14, Try.ntmps14
      go_wp2_with (go_at_call 27; refine (HA.out _).mono ?_; rintro e w' ⟨rfl, rfl⟩)
      go_ret2
      exact ⟨ret_v J2.out.symm, Below.refl _ _⟩
    case pos =>
      have h1' : (gt zs m != (h.size : Int) + 1) = false := by simp [h1]
      have AL := l1All (.slice (some ⟨b, off, none⟩) n cap) zs 0 ((h.size : Int) + 1) w R0.out (by omega)
      cases hall : zs.all (fun x => inB x 0 ((h.size : Int) + 1))
      · have J2 := Lib.hid (J.out.trans (show Value.tuple #[.bool (itwB h t l s zs), .bool true] = .tuple #[.bool false, .bool true] by rw [itwB_all hall]))
        rw [hall] at AL
        have HAL := Lib.hid AL
        clear hnz hn J h0 h1 AL hall
        generalize gt zs 0 = z0 at *
        generalize gt zs m = zl at *
        go_enter Try.func14, Try.ntmps14
        go_wp2_with (first
          | (go_at_call 27; refine (HA.out _).mono ?_; rintro e w' ⟨rfl, rfl⟩)
          | (go_at_call 28; refine HAL.out.mono ?_; rintro e w' ⟨rfl, rfl⟩))
        go_ret2
        exact ⟨ret_v J2.out.symm, Below.refl _ _⟩
      · have IN := Lib.hid (fun k hk => all_gt hall (k := k) hk)
        have JB := Lib.hid (show itwB h t l s zs = wkT h t l s zs zs.length by simp only [itwB, HNM.out, h0, h1]; simp; omega)
        rw [hall] at AL
        have HAL := Lib.hid AL
        clear hn h0 h1 AL hall hnz
        generalize gt zs 0 = z0 at *
        generalize gt zs m = zl at *
        go_enter Try.func14, Try.ntmps14
        go_wp2_with (first
          | (go_at_call 27; refine (HA.out _).mono ?_; rintro e w' ⟨rfl, rfl⟩)
          | (go_at_call 28; refine HAL.out.mono ?_; rintro e w' ⟨rfl, rfl⟩))
        clear h0' h1' hcl hc0
        rw [show decide ((1000 : Int) < (n : Int)) = false by simp; omega, show ((n : Int) == 0) = false by simp; omega]
        go_loopw [56] (fun i wr => ∃ k : Nat, k ≤ n ∧ i = .int .i64 k ∧ Hid (wkT h t l s zs k = true) ∧ Hid (Below w.heap.size w wr)) (fun i _ => n - (intOf i).toNat)
        case atStart => exact ⟨0, Nat.zero_le _, rfl, Lib.hid rfl, Lib.hid (Below.refl _ _)⟩
        case round =>
          obtain ⟨k, hk, rfl, HW, HB⟩ := hrel
          by_cases hlt : k < n
          · have hlt' : (k : Int) < n := by omega
            have hcell : wr.cell? ⟨b, off + k, none⟩ = some (.int .i64 (gt zs k)) := (HB.out.cell (p := ⟨b, off + k, none⟩) hbl).trans (HCC.out k hlt)
            have hin := IN.out k (by rw [← HN.out]; exact hlt)
            have D := Lib.hid (fun wx => tdDry h t (gt zs k).toNat (s + k) (gt zs k) (X + k) wx (by omega) (by rw [HX.out]; omega) HG.out (by omega) (by have := HX.out; omega))
            have OK : Hid (okT h t l s zs k = (dry h t (gt zs k).toNat (s + k) && (k == 0 || (decide (gt zs k - gt zs (k - 1) ≤ l) && decide (gt zs (k - 1) - gt zs k ≤ l))))) := Lib.hid (by
              simp only [okT]; rw [inB_yes hin.1 hin.2]; rfl)
            cases hd : dry h t (gt zs k).toNat (s + k)
            · have F := Lib.hid (J.out.trans (show Value.tuple #[.bool (itwB h t l s zs), .bool true] = .tuple #[.bool false, .bool true] by rw [JB.out, wkT_no (by rw [OK.out, hd]; rfl) _ (by rw [← HN.out]; exact hlt)]))
              rw [hd] at D
              generalize gt zs k = p at *
              clear OK hd
              go_wp2_with (go_at_call 29; refine (D.out _).mono ?_; rintro e w2 ⟨rfl, q, rfl⟩)
              go_ret2
              exact ⟨ret_v F.out.symm, below_drewN HB.out _⟩
            · rw [hd] at D
              by_cases hk0 : k = 0
              · have W2 := Lib.hid (wkT_yes HW.out (by rw [OK.out, hd, hk0]; rfl))
                have hk1 : ¬ (0 : Int) < k := by omega
                generalize gt zs k = p at *
                clear OK hd hk0
                go_wp2_with (go_at_call 29; refine (D.out _).mono ?_; rintro e w2 ⟨rfl, q, rfl⟩)
                go_roundw
                case rel => exact ⟨k + 1, by omega, by go_num, W2, Lib.hid (below_drewN HB.out _)⟩
                case measure => (simp [intOf]; try omega)
              · have hin2 := IN.out (k - 1) (by rw [← HN.out]; omega)
                have hk1 : (0 : Int) < k := by omega
                obtain ⟨j, hj⟩ : ∃ j, j = k - 1 := ⟨_, rfl⟩
                have hkj : (k : Int) - 1 = (j : Int) := by omega
                have hj0 : (0 : Int) ≤ (j : Int) := by omega
                have hjn : (j : Int) < n := by omega
                rw [← hj] at OK hin2
                have hcj : wr.cell? ⟨b, off + j, none⟩ = some (.int .i64 (gt zs j)) := (HB.out.cell (p := ⟨b, off + j, none⟩) hbl).trans (HCC.out j (by omega))
                have OK2 : Hid (okT h t l s zs k = (decide (gt zs k - gt zs j ≤ l) && decide (gt zs j - gt zs k ≤ l))) := Lib.hid (by
                  rw [OK.out, hd, show (k == 0) = false by simp; omega]; rfl)
                have AB := Lib.hid (fun wx => l1AbsT (gt zs k - gt zs j) wx (by omega))
                clear OK hd hk0 hj
                by_cases hok : gt zs k - gt zs j ≤ l ∧ gt zs j - gt zs k ≤ l
                · have W2 := Lib.hid (wkT_yes HW.out (by rw [OK2.out]; simp [hok.1, hok.2]))
                  have H2 := Lib.hid hok
                  clear OK2 hok
                  generalize gt zs k = p at *
                  generalize gt zs j = p2 at *
                  go_wp2_with (first
                    | (go_at_call 29; refine (D.out _).mono ?_; rintro e w2 ⟨rfl, q, rfl⟩)
                    | (go_at_call 30; refine (AB.out _).mono ?_; rintro e w' ⟨y, rfl, hy1, hy2, hy3, rfl⟩; have hy4 : ¬ L < y := (by have := HL.out; have := H2.out; omega)))
                  go_roundw
                  case rel => exact ⟨k + 1, by omega, by go_num, W2, Lib.hid (below_drewN HB.out _)⟩
                  case measure => (simp [intOf]; try omega)
                · have F := Lib.hid (J.out.trans (show Value.tuple #[.bool (itwB h t l s zs), .bool true] = .tuple #[.bool false, .bool true] by rw [JB.out, wkT_no (by rw [OK2.out]; simp; omega) _ (by rw [← HN.out]; exact hlt)]))
                  have H2 := Lib.hid hok
                  clear OK2 hok
                  generalize gt zs k = p at *
                  generalize gt zs j = p2 at *
                  go_wp2_with (first
                    | (go_at_call 29; refine (D.out _).mono ?_; rintro e w2 ⟨rfl, q, rfl⟩)
                    | (go_at_call 30; refine (AB.out _).mono ?_; rintro e w' ⟨y, rfl, hy1, hy2, hy3, rfl⟩; have hy4 : L < y := (by have := HL.out; have := H2.out; omega)))
                  go_ret2
                  exact ⟨ret_v F.out.symm, below_drewN HB.out _⟩
          · obtain rfl : k = n := by omega
            have F := Lib.hid (J.out.trans (show Value.tuple #[.bool (itwB h t l s zs), .bool true] = .tuple #[.bool true, .bool true] by rw [JB.out, ← HN.out, HW.out]))
            go_wp2
            go_ret2
            exact ⟨ret_v F.out.symm, HB.out⟩
/-- the place before the k-th, or the near bank -/
def bfr (zs : List Int) (k : Nat) : Int := if k = 0 then 0 else gt zs (k - 1)
theorem okT_imp {h t : ByteArray} {l s : Nat} {zs : List Int} {k : Nat} {L : Int} (hL : L = l) (hk : k = 0 → gt zs 0 = 0) :
    okT h t l s zs k = (decide (max 0 (bfr zs k - L) ≤ gt zs k) && decide (gt zs k ≤ min (bfr zs k + L) ((h.size : Int) + 1)) && dry h t (gt zs k).toNat (s + k)) := by
  subst hL
  unfold okT bfr
  by_cases h0 : k = 0
  · have e := hk h0
    subst h0
    rw [e]
    have i1 : inB 0 0 ((h.size : Int) + 1) = true := inB_yes (by omega) (by omega)
    rw [i1]
    simp only [if_true]
    have d1 : decide (max 0 ((0 : Int) - (l : Int)) ≤ 0) = true := by simp; omega
    have d2 : decide ((0 : Int) ≤ min (0 + (l : Int)) ((h.size : Int) + 1)) = true := by simp; omega
    rw [d1, d2]
    simp
  · rw [if_neg h0, show (k == 0) = false by simp [h0]]
    generalize gt zs k = p
    generalize gt zs (k - 1) = q
    cases dry h t p.toNat (s + k)
    · simp
    · have e : (inB p 0 ((h.size : Int) + 1) && (decide (p - q ≤ l) && decide (q - p ≤ l))) = (decide (max 0 (q - (l : Int)) ≤ p) && decide (p ≤ min (q + l) ((h.size : Int) + 1))) := by
        rw [Bool.eq_iff_iff]
        simp only [inB, Bool.and_eq_true, decide_eq_true_eq]
        omega
      simp only [Bool.and_true, Bool.false_or]
      exact e
theorem okT_rng {h t : ByteArray} {l s : Nat} {zs : List Int} {k : Nat} (g : okT h t l s zs k = true) : 0 ≤ gt zs k ∧ gt zs k ≤ (h.size : Int) + 1 := by
  simp only [okT, Bool.and_eq_true] at g
  simpa [inB] using g.1.1
set_option maxHeartbeats 4000000 in
theorem implItw (h t : ByteArray) (L X : Int) (v : Value) (zs : List Int) (w : World) (hs : h.size ≤ 1048576 ∧ t.size ≤ 1048576) (hR : Rd w v zs) (hn : zs.length ≤ 1048576) :
    Calls Try.prog 16 #[.string h, .string t, .int .i64 L, .int .i64 X, v] w fun e w' => e = .returned (itwV h t L X zs) ∧ Below w.heap.size w w' := by
  have A := fun wx => isVAt h t L X wx hs.1 hs.2
  have HX0 := Lib.hid (Blk.new w #[.string h, .string t] 45)
  have B0 := Lib.hid ((Below.refl w.heap.size w).alloc (Nat.le_refl _) (.cells #[.string h, .string t] 45))
  obtain ⟨n, hnz⟩ : ∃ n, n = zs.length := ⟨_, rfl⟩
  obtain ⟨a, cap, rfl, hcell⟩ : ∃ a cap, v = .slice a n cap ∧ ∀ j, j < n → ∃ b off, a = some ⟨b, off, none⟩ ∧ b < w.heap.size ∧ w.cell? ⟨b, off + j, none⟩ = some (.int .i64 (gt zs j)) := by
    obtain ⟨a, m, c, rfl, rfl, hc⟩ := hR.cells
    exact ⟨a, c, by rw [hnz], by rw [hnz]; exact hc⟩
  have HC := Lib.hid hcell
  have HN := Lib.hid hnz
  clear hcell hR
  cases ha : askd h t L X
  · have J := Lib.hid (itwV_no (zs := zs) (.inl ha))
    rw [ha] at A
    have HA := Lib.hid A
    clear A ha hnz hn
    go_enter Try.func16, Try.ntmps16
    go_wp2_with fail
    refine (HA.out _).mono ?_
    rintro e w1 ⟨rfl, hb1⟩
    go_wp2
    go_ret2
    exact ⟨ret_v J.out.symm, B0.out.trans (hb1.mono (by simp))⟩
  by_cases hbig : 1000 < n
  · have J := Lib.hid (itwV_no (h := h) (t := t) (L := L) (X := X) (zs := zs) (.inr (by omega)))
    have hb' : (1000 : Int) < n := by omega
    rw [ha] at A
    have HA := Lib.hid A
    clear A ha hnz hn
    go_enter Try.func16, Try.ntmps16
    go_wp2_with fail
    refine (HA.out _).mono ?_
    rintro e w1 ⟨rfl, hb1⟩
    go_wp2
    go_ret2
    exact ⟨ret_v J.out.symm, B0.out.trans (hb1.mono (by simp))⟩
  have J := Lib.hid (itwV_yes (zs := zs) ha (by omega))
  obtain ⟨hl, x0, x1⟩ := askd_in ha
  obtain ⟨hg, l0, l1⟩ := lpd_in hl
  obtain ⟨⟨z1, z2, _⟩, ⟨z3, z4, _⟩⟩ := good_in hg
  obtain ⟨s, hs0⟩ : ∃ s : Nat, s = X.toNat := ⟨_, rfl⟩
  obtain ⟨l, hl0⟩ : ∃ l : Nat, l = L.toNat := ⟨_, rfl⟩
  rw [← hs0, ← hl0] at J
  have HX : Hid (X = s) := Lib.hid (by omega)
  have HL : Hid (L = l) := Lib.hid (by omega)
  have HG := Lib.hid hg
  have hb' : ¬ (1000 : Int) < n := by omega
  rw [ha] at A
  have HA := Lib.hid A
  clear A ha hl hg hs0 hl0
  by_cases hz : n = 0
  · have J2 := Lib.hid (J.out.trans (show Value.tuple #[.bool (itwB h t l s zs), .bool true] = .tuple #[.bool false, .bool true] by simp [itwB, show zs.length = 0 by omega]))
    clear hnz hn J hb' hbig HC HN
    subst hz
    go_enter Try.func16, Try.ntmps16
    go_wp2_with fail
    refine (HA.out _).mono ?_
    rintro e w1 ⟨rfl, hb1⟩
    go_wp2
    go_quiet (fail)
    go_wp2
    go_ret2
    exact ⟨ret_v J2.out.symm, below_drewN (B0.out.trans (hb1.mono (by simp))) _⟩
  obtain ⟨b, off, rfl, hbl, hc0⟩ := HC.out 0 (by omega)
  obtain ⟨m, hm⟩ : ∃ m, m = n - 1 := ⟨_, rfl⟩
  have HCC : Hid (∀ j, j < n → w.cell? ⟨b, off + j, none⟩ = some (.int .i64 (gt zs j))) := Lib.hid (fun j hj => by
    obtain ⟨b2, o2, e2, _, h2⟩ := HC.out j hj
    obtain ⟨rfl, rfl⟩ : b = b2 ∧ off = o2 := by simpa using e2
    exact h2)
  clear HC hc0
  have hz' : ((n : Int) == 0) = false := by simp; omega
  have n1 : (0 : Int) < n := by omega
  have n2 : (n : Int) - 1 = (m : Int) := by omega
  have n2' : (n : Int) + -1 = (m : Int) := by omega
  have W2 : IntKind.i64.wrap ((n : Int) - 1) = (m : Int) := by rw [n2]; exact IntWalk.i64_in _ (by omega)
  have n3 : (m : Int) < n := by omega
  have n4 : (0 : Int) ≤ (m : Int) := by omega
  have W3 : IntKind.i64.wrap (m : Int) = (m : Int) := IntWalk.i64_in _ (by omega)
  have W4 : IntKind.i64.wrap ((n : Int) + -1) = (m : Int) := by rw [n2']; exact W3
  have n5 : 0 < n := by omega
  have n6 : m < n := by omega
  have HM := Lib.hid hm
  have HNM := Lib.hid (show zs.length - 1 = m by omega)
  clear hm hz
  by_cases h0 : gt zs 0 = 0
  case neg =>
    have J2 := Lib.hid (J.out.trans (show Value.tuple #[.bool (itwB h t l s zs), .bool true] = .tuple #[.bool false, .bool true] by simp [itwB, h0]))
    have h0' : (gt zs 0 != 0) = true := by simpa using h0
    have C0 := Lib.hid (HCC.out 0 (by omega))
    clear hnz hn J h0
    generalize gt zs 0 = z0 at *
    go_enter Try.func16, Try.ntmps16
    go_wp2_with fail
    refine (HA.out _).mono ?_
    rintro e w1 ⟨rfl, hb1⟩
    have c0 : w1.cell? ⟨b, off, none⟩ = some (.int .i64 z0) := (hb1.cell (p := ⟨b, off, none⟩) (by simp; omega)).trans ((B0.out.cell (p := ⟨b, off, none⟩) hbl).trans C0.out)
    go_wp2
    go_quiet (fail)
    go_wp2
    go_ret2
    exact ⟨ret_v J2.out.symm, below_drewN (B0.out.trans (hb1.mono (by simp))) _⟩
  case pos =>
    have h0' : (gt zs 0 != 0) = false := by simp [h0]
    have H0 := Lib.hid h0
    have C0 := Lib.hid (HCC.out 0 (by omega))
    have CM := Lib.hid (HCC.out m (by have := HM.out; omega))
    have FB := Lib.hid (fun wx => farBankC h t wx hs.1)
    unfold cst at FB
    obtain ⟨fb, hfb⟩ : ∃ fb : Int, fb = (h.size : Int) + 1 := ⟨_, rfl⟩
    rw [← hfb] at FB
    have HFB := Lib.hid hfb
    clear hfb
    by_cases h1 : gt zs m = fb
    case neg =>
      have J2 := Lib.hid (J.out.trans (show Value.tuple #[.bool (itwB h t l s zs), .bool true] = .tuple #[.bool false, .bool true] by simp only [itwB, HNM.out]; rw [HFB.out] at h1; simp [h1]))
      have h1' : (gt zs m != fb) = true := by simpa using h1
      clear hnz hn J h0 h1
      generalize gt zs 0 = z0 at *
      generalize gt zs m = zl at *
      go_enter Try.func16, Try.ntmps16
      go_wp2_with fail
      refine (HA.out _).mono ?_
      rintro e w1 ⟨rfl, hb1⟩
      have X1 := Lib.hid (HX0.out.below hb1 (by simp))
      obtain ⟨d0, d1, dl⟩ := X1.out.two
      have s1 : w.heap.size + 1 ≤ w1.heap.size := by have := hb1.size; simpa using this
      have c0 : w1.cell? ⟨b, off, none⟩ = some (.int .i64 z0) := (hb1.cell (p := ⟨b, off, none⟩) (by simp; omega)).trans ((B0.out.cell (p := ⟨b, off, none⟩) hbl).trans C0.out)
      have cm : w1.cell? ⟨b, off + m, none⟩ = some (.int .i64 zl) := (hb1.cell (p := ⟨b, off + m, none⟩) (by simp; omega)).trans ((B0.out.cell (p := ⟨b, off + m, none⟩) hbl).trans CM.out)
      have B1 := Lib.hid (B0.out.trans (hb1.mono (by simp)))
      have hbl1 : b < w1.heap.size := by omega
      have KP := Lib.hid (fun W (hB : Below w1.heap.size w1 W) => (show W.cell? ⟨w.heap.size, 0, none⟩ = some (.string h) ∧ W.cell? ⟨w.heap.size, 1, none⟩ = some (.string t) ∧ W.cell? ⟨b, off, none⟩ = some (.int .i64 z0) ∧ W.cell? ⟨b, off + m, none⟩ = some (.int .i64 zl) from
        ⟨(hB.cell (p := ⟨w.heap.size, 0, none⟩) dl).trans d0, (hB.cell (p := ⟨w.heap.size, 1, none⟩) dl).trans d1, (hB.cell (p := ⟨b, off, none⟩) hbl1).trans c0, (hB.cell (p := ⟨b, off + m, none⟩) hbl1).trans cm⟩))
      clear hb1 c0 cm d0 d1
      go_wp2
      go_region_held3 (fun W => W.cell? ⟨w.heap.size, 0, none⟩ = some (.string h) ∧ W.cell? ⟨w.heap.size, 1, none⟩ = some (.string t) ∧ W.cell? ⟨b, off, none⟩ = some (.int .i64 z0) ∧ W.cell? ⟨b, off + m, none⟩ = some (.int .i64 zl)) (first | exact KP.out _ D3.out | exact KP.out _ (by (repeat (first | exact Below.refl _ _ | (refine Below.alloc ?_ (by first | omega | (simp; try omega)) _) | apply Below.drew | apply below_drewN)))) (first
        | (go_at_call 32; refine (FB.out _).mono ?_; rintro e w2 ⟨rfl, hb2⟩; have D3 := Lib.hid (Below.trans (by (repeat (first | exact Below.refl _ _ | (refine Below.alloc ?_ (by first | omega | (simp; try omega)) _) | apply Below.drew | apply below_drewN))) (hb2.mono (by simp; try omega)) : Below w1.heap.size w1 w2); clear hb2))
      all_goals
        go_wp2
        go_ret2
        exact ⟨ret_v J2.out.symm, B1.out.trans (D3.out.mono (by omega))⟩
    case pos =>
      have h1' : (gt zs m != fb) = false := by simp [h1]
      have JB := Lib.hid (show itwB h t l s zs = wkT h t l s zs zs.length by rw [HFB.out] at h1; simp only [itwB, HNM.out, h0, h1]; simp; omega)
      clear hnz hn h0 h1
      generalize hz0 : gt zs 0 = z0 at *
      generalize gt zs m = zl at *
      have HZ0 := Lib.hid hz0
      clear hz0
      go_enter Try.func16, Try.ntmps16
      go_wp2_with fail
      refine (HA.out _).mono ?_
      rintro e w1 ⟨rfl, hb1⟩
      have X1 := Lib.hid (HX0.out.below hb1 (by simp))
      obtain ⟨d0, d1, dl⟩ := X1.out.two
      have s1 : w.heap.size + 1 ≤ w1.heap.size := by have := hb1.size; simpa using this
      have c0 : w1.cell? ⟨b, off, none⟩ = some (.int .i64 z0) := (hb1.cell (p := ⟨b, off, none⟩) (by simp; omega)).trans ((B0.out.cell (p := ⟨b, off, none⟩) hbl).trans C0.out)
      have cm : w1.cell? ⟨b, off + m, none⟩ = some (.int .i64 zl) := (hb1.cell (p := ⟨b, off + m, none⟩) (by simp; omega)).trans ((B0.out.cell (p := ⟨b, off + m, none⟩) hbl).trans CM.out)
      have B1 := Lib.hid (B0.out.trans (hb1.mono (by simp)))
      have hbl1 : b < w1.heap.size := by omega
      have KP := Lib.hid (fun W (hB : Below w1.heap.size w1 W) => (show W.cell? ⟨w.heap.size, 0, none⟩ = some (.string h) ∧ W.cell? ⟨w.heap.size, 1, none⟩ = some (.string t) ∧ W.cell? ⟨b, off, none⟩ = some (.int .i64 z0) ∧ W.cell? ⟨b, off + m, none⟩ = some (.int .i64 zl) from
        ⟨(hB.cell (p := ⟨w.heap.size, 0, none⟩) dl).trans d0, (hB.cell (p := ⟨w.heap.size, 1, none⟩) dl).trans d1, (hB.cell (p := ⟨b, off, none⟩) hbl1).trans c0, (hB.cell (p := ⟨b, off + m, none⟩) hbl1).trans cm⟩))
      clear hb1 c0 cm d0 d1
      go_wp2
      go_region_held3 (fun W => W.cell? ⟨w.heap.size, 0, none⟩ = some (.string h) ∧ W.cell? ⟨w.heap.size, 1, none⟩ = some (.string t) ∧ W.cell? ⟨b, off, none⟩ = some (.int .i64 z0) ∧ W.cell? ⟨b, off + m, none⟩ = some (.int .i64 zl)) (first | exact KP.out _ D3.out | exact KP.out _ (by (repeat (first | exact Below.refl _ _ | (refine Below.alloc ?_ (by first | omega | (simp; try omega)) _) | apply Below.drew | apply below_drewN)))) (first
        | (go_at_call 32; refine (FB.out _).mono ?_; rintro e w2 ⟨rfl, hb2⟩; have D3 := Lib.hid (Below.trans (by (repeat (first | exact Below.refl _ _ | (refine Below.alloc ?_ (by first | omega | (simp; try omega)) _) | apply Below.drew | apply below_drewN))) (hb2.mono (by simp; try omega)) : Below w1.heap.size w1 w2); clear hb2))
      all_goals
        go_wp2
        have B2 := Lib.hid (B1.out.trans (D3.out.mono (by omega)))
        have X2 := Lib.hid (X1.out.below D3.out (by omega))
        have HCW := Lib.hid (fun j (hj : j < n) => (B2.out.cell (p := ⟨b, off + j, none⟩) hbl).trans (HCC.out j hj))
        have s2 : w1.heap.size ≤ w2.heap.size := D3.out.size
        have hbl2 : b < w2.heap.size := by omega
        have IMP := Lib.hid (fun k => okT_imp (h := h) (t := t) (s := s) (zs := zs) (k := k) HL.out (fun _ => HZ0.out.trans (by simpa using h0')))
        try rw [show decide ((1000 : Int) < (n : Int)) = false by simp; omega]
        try rw [show ((n : Int) == 0) = false by simp; omega]
        have DR := Lib.hid (fun p x P X wx (h1 : P = ((p : Nat) : Int)) (h2 : X = ((x : Nat) : Int)) (h3 : p ≤ h.size + 1) (h4 : x ≤ 1000000) => isDry h t p x P X wx h1 h2 HG.out h3 h4)
        unfold cst at DR
        have fbd : 2 ≤ fb ∧ fb ≤ 15 := by have := HFB.out; omega
        clear h0' h1' hz' n1 n2 n2' n3 n4 n5 n6 W2 W3 W4
        go_loopw [13, 51] (fun q i wr => ∃ k : Nat, k ≤ n ∧ i = .int .i64 k ∧ q = .int .i64 (bfr zs k) ∧ Hid (wkT h t l s zs k = true) ∧ Hid (Below w2.heap.size w2 wr)) (fun _ i _ => n - (intOf i).toNat)
        case atStart => exact ⟨0, Nat.zero_le _, rfl, rfl, Lib.hid rfl, Lib.hid (Below.refl _ _)⟩
        case round =>
          obtain ⟨k, hk, rfl, rfl, HW, HB⟩ := hrel
          by_cases hlt : k < n
          · have hlt' : (k : Int) < n := by omega
            have hcell : wr.cell? ⟨b, off + k, none⟩ = some (.int .i64 (gt zs k)) := (HB.out.cell (p := ⟨b, off + k, none⟩) hbl2).trans ((D3.out.cell (p := ⟨b, off + k, none⟩) hbl1).trans ((B1.out.cell (p := ⟨b, off + k, none⟩) hbl).trans (HCC.out k hlt)))
            have XR := Lib.hid (X2.out.below HB.out (by omega))
            obtain ⟨e0, e1, el⟩ := XR.out.two
            have hq : 0 ≤ bfr zs k ∧ bfr zs k ≤ (h.size : Int) + 1 := by
              unfold bfr
              by_cases hk0 : k = 0
              · rw [if_pos hk0]; omega
              · rw [if_neg hk0]; exact okT_rng (wkT_in HW.out (k - 1) (by omega))
            have OK := Lib.hid (IMP.out k)
            have NO := Lib.hid (fun (g : okT h t l s zs k = false) => J.out.trans (show Value.tuple #[.bool (itwB h t l s zs), .bool true] = .tuple #[.bool false, .bool true] by rw [JB.out, wkT_no g _ (by rw [← HN.out]; exact hlt)]))
            have YES := Lib.hid (fun (g : okT h t l s zs k = true) => wkT_yes HW.out g)
            have NB := Lib.hid (show bfr zs (k + 1) = gt zs k by simp [bfr])
            have hfbv := HFB.out
            rw [← hfbv] at hq
            have OK2 : Hid (okT h t l s zs k = (decide (max 0 (bfr zs k - L) ≤ gt zs k) && decide (gt zs k ≤ min (bfr zs k + L) fb) && dry h t (gt zs k).toNat (s + k))) := Lib.hid (by rw [hfbv]; exact OK.out)
            clear hfbv OK
            generalize bfr zs k = q at *
            have m1 : L < q ∨ q ≤ L := by omega
            have m2 : fb < q + L ∨ q + L ≤ fb := by omega
            rcases m1 with m1 | m1 <;> rcases m2 with m2 | m2
            all_goals
              by_cases c1 : gt zs k < max 0 (q - L)
              · have F := Lib.hid (NO.out (by rw [OK2.out, show decide (max 0 (q - L) ≤ gt zs k) = false by simp only [decide_eq_false_iff_not]; omega]; rfl))
                first
                  | (have c1' : gt zs k < 0 := by omega)
                  | (have c1' : gt zs k < q - L := by omega)
                clear OK2 NO YES NB c1
                generalize gt zs k = p at *
                go_wp2
                go_ret2
                exact ⟨ret_v F.out.symm, B2.out.trans (HB.out.mono (by omega))⟩
              first
                | (have c1' : ¬ gt zs k < q - L := by omega)
              have c0' : ¬ gt zs k < 0 := by omega
              by_cases c2 : min (q + L) fb < gt zs k
              · have F := Lib.hid (NO.out (by rw [OK2.out, show decide (gt zs k ≤ min (q + L) fb) = false by simp only [decide_eq_false_iff_not]; omega]; simp))
                first
                  | (have c2' : fb < gt zs k := by omega)
                  | (have c2' : q + L < gt zs k := by omega)
                clear OK2 NO YES NB c1 c2
                generalize gt zs k = p at *
                go_wp2_with fail
                refine (FB.out _).mono ?_
                rintro e w3 ⟨rfl, hb3⟩
                go_wp2
                go_ret2
                exact ⟨ret_v F.out.symm, B2.out.trans ((HB.out.trans (hb3.mono HB.out.size)).mono (by omega))⟩
              · have hp0 : 0 ≤ gt zs k ∧ gt zs k ≤ (h.size : Int) + 1 := by have := HFB.out; omega
                have D := Lib.hid (fun wx => DR.out (gt zs k).toNat (s + k) (gt zs k) (X + k) wx (by omega) (by have := HX.out; omega) (by omega) (by have := HX.out; omega))
                have OK3 : Hid (okT h t l s zs k = dry h t (gt zs k).toNat (s + k)) := Lib.hid (by
                  rw [OK2.out, show decide (max 0 (q - L) ≤ gt zs k) = true by simp only [decide_eq_true_eq]; omega, show decide (gt zs k ≤ min (q + L) fb) = true by simp only [decide_eq_true_eq]; omega]; rfl)
                have c2' : ¬ fb < gt zs k := by omega
                have c3' : ¬ q + L < gt zs k := by omega
                clear OK2 c1 c2 hp0
                cases hd : dry h t (gt zs k).toNat (s + k)
                · have F := Lib.hid (NO.out (OK3.out.trans hd))
                  rw [hd] at D
                  clear OK3 NO YES NB hd
                  generalize gt zs k = p at *
                  go_wp2_with fail
                  refine (FB.out _).mono ?_
                  rintro e w3 ⟨rfl, hb3⟩
                  obtain ⟨f0, f1, fl⟩ := (XR.out.below hb3 el).two
                  go_wp2_with fail
                  refine (D.out _).mono ?_
                  rintro e w4 ⟨rfl, hb4⟩
                  go_wp2
                  go_ret2
                  exact ⟨ret_v F.out.symm, B2.out.trans (((HB.out.trans (hb3.mono HB.out.size)).trans (hb4.mono (Nat.le_trans HB.out.size hb3.size))).mono (by omega))⟩
                · have W5 := Lib.hid (YES.out (OK3.out.trans hd))
                  rw [hd] at D
                  clear OK3 NO YES hd
                  generalize gt zs k = p at *
                  go_wp2_with fail
                  refine (FB.out _).mono ?_
                  rintro e w3 ⟨rfl, hb3⟩
                  obtain ⟨f0, f1, fl⟩ := (XR.out.below hb3 el).two
                  go_wp2_with fail
                  refine (D.out _).mono ?_
                  rintro e w4 ⟨rfl, hb4⟩
                  have B5 := Lib.hid ((HB.out.trans (hb3.mono HB.out.size)).trans (hb4.mono (Nat.le_trans HB.out.size hb3.size)))
                  clear hb3 hb4 f0 f1
                  go_wp2
                  go_roundw
                  case rel => exact ⟨k + 1, by omega, by go_num, by rw [NB.out], W5, B5⟩
                  case measure => (simp [intOf]; try omega)
          · obtain rfl : k = n := by omega
            have F := Lib.hid (J.out.trans (show Value.tuple #[.bool (itwB h t l s zs), .bool true] = .tuple #[.bool true, .bool true] by rw [JB.out, ← HN.out, HW.out]))
            go_wp2
            go_ret2
            exact ⟨ret_v F.out.symm, B2.out.trans (HB.out.mono (by omega))⟩
end Go.Proofs.Ytmlokapbholeoac
