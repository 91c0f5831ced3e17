/- BestSpot, both sides. -/
import Derived.Test.YtfkdkhoihlkgcacCct
import Derived.OwnWalk
namespace Go.Proofs.Ytfkdkhoihlkgcac
set_option linter.unusedVariables false
open Go.RowKit Go.Shelf

/-- the best so far, and one more -/
def bstep (x y : Int) (o : Option (Int × Int × Int)) (s : Int × Int) : Option (Int × Int × Int) :=
  match o with
  | none => some (s.1, s.2, nd x y s.1 s.2)
  | some b => if nd x y s.1 s.2 < b.2.2 then some (s.1, s.2, nd x y s.1 s.2) else some b
def bst (x y : Int) (l : List (Int × Int)) : Option (Int × Int × Int) := l.foldl (bstep x y) none
theorem bst_snoc (x y : Int) (l : List (Int × Int)) (s : Int × Int) : bst x y (l ++ [s]) = bstep x y (bst x y l) s := by simp [bst, List.foldl_append]
def o1 : Option (Int × Int × Int) → Int | none => 0 | some b => b.1
def o2 : Option (Int × Int × Int) → Int | none => 0 | some b => b.2.1
def o3 : Option (Int × Int × Int) → Int | none => 0 | some b => b.2.2
/-- the least need as spec has it: none is -1 -/
def o3s : Option (Int × Int × Int) → Int | none => -1 | some b => b.2.2
/-- what is the best of so many spots -/
structure BOk (o : Option (Int × Int × Int)) : Prop where
  a : ∀ b, o = some b → (1 ≤ b.1 ∧ b.1 ≤ 200) ∧ (1 ≤ b.2.1 ∧ b.2.1 ≤ 200) ∧ 0 ≤ b.2.2 ∧ b.2.2 ≤ 80000
theorem nd_bd {x y a b : Int} (h : isCn x y = true) (ha : 1 ≤ a ∧ a ≤ 200) (hb : 1 ≤ b ∧ b ≤ 200) : 0 ≤ nd x y a b ∧ nd x y a b ≤ 80000 := by
  have hcn := isCn_in h
  have v1 := sq_bd (d := 2 * x - a) (m := 200) (by omega) (by omega)
  have v2 := sq_bd (d := 2 * y - b) (m := 200) (by omega) (by omega)
  unfold nd; omega
theorem BOk.step {x y : Int} {o : Option (Int × Int × Int)} {s : Int × Int} (h : BOk o) (hc : isCn x y = true) (ha : 1 ≤ s.1 ∧ s.1 ≤ 200) (hb : 1 ≤ s.2 ∧ s.2 ≤ 200) : BOk (bstep x y o s) := by
  have hn := nd_bd hc ha hb
  refine ⟨fun b hb' => ?_⟩
  cases o with
  | none =>
    injection hb' with e
    subst e
    exact ⟨ha, hb, hn⟩
  | some o =>
    simp only [bstep] at hb'
    split at hb'
    · injection hb' with e
      subst e
      exact ⟨ha, hb, hn⟩
    · exact h.a b hb'
theorem bok_nil (x y : Int) : BOk (bst x y []) := ⟨fun b h => by cases h⟩
theorem bst_in {x y p : Int} (hc : isCn x y = true) (hp : 1 ≤ p ∧ p ≤ 200) {l : List (Int × Int)} (h : ∀ s ∈ l, Sp1 p s) : BOk (bst x y l) := by
  suffices H : ∀ (l : List (Int × Int)) o, BOk o → (∀ s ∈ l, Sp1 p s) → BOk (l.foldl (bstep x y) o) from H l none (bok_nil x y) h
  intro l
  induction l with
  | nil => exact fun o ho _ => ho
  | cons s l ih =>
    intro o ho hs
    have hb := Sp1.bd hp (hs s (List.mem_cons_self ..))
    exact ih _ (ho.step hc hb.1 hb.2) fun t ht => hs t (List.mem_cons_of_mem _ ht)
def bsF (x y p : Int) : Bool := isCn x y && isPl p
def bestVal (o : Option (Int × Int × Int)) : Value := .tuple #[.int .i64 (o1 o), .int .i64 (o2 o), .int .i64 (o3 o), .bool o.isSome]
def bestV (x y p : Int) : Value := if bsF x y p then bestVal (bst x y (spots p)) else bestVal none
theorem bestV_no {x y p : Int} (h : bsF x y p = false) : bestV x y p = .tuple #[.int .i64 0, .int .i64 0, .int .i64 0, .bool false] := by simp only [bestV, h]; rfl
theorem bestV_yes {x y p : Int} (h : bsF x y p = true) : bestV x y p = bestVal (bst x y (spots p)) := by simp only [bestV, h]; rfl
theorem bestV_form (x y p : Int) : ∃ a b c d, bestV x y p = .tuple #[.int .i64 a, .int .i64 b, .int .i64 c, .bool d] := by unfold bestV; split <;> exact ⟨_, _, _, _, rfl⟩
theorem bst_one (x y : Int) : bst x y (spots 1) = none := by
  have : spots 1 = [] := by unfold spots; rw [rowF_no (by omega)]
  rw [this]; rfl
theorem bstep_some (x y : Int) (o : Option (Int × Int × Int)) (s : Int × Int) : (bstep x y o s).isSome = true := by
  cases o with
  | none => rfl
  | some b => simp only [bstep]; split <;> rfl
theorem bst_some {x y p : Int} (hp : 1 < p ∧ p ≤ 200) : (bst x y (spots p)).isSome = true := by
  have hpp : 2 * 2 ≤ p * p := Int.mul_le_mul (by omega) (by omega) (by omega) (by omega)
  have e : ∃ r, spots p = (1, 1) :: r := by
    unfold spots
    rw [rowF_yes (n := 200) hp.1, colF_yes (n := 200) (show (1 : Int) * 1 + 1 * 1 ≤ p * p by omega)]
    exact ⟨_, rfl⟩
  obtain ⟨r, hr⟩ := e
  rw [hr]
  suffices H : ∀ (l : List (Int × Int)) o, o.isSome = true → (l.foldl (bstep x y) o).isSome = true from H r _ rfl
  intro l
  induction l with
  | nil => exact fun o ho => ho
  | cons s l ih => exact fun o ho => ih _ (bstep_some x y o s)
set_option maxHeartbeats 4000000 in
theorem specBest (x y p : Int) (w : World) :
    Calls Try.prog 15 #[.agg #[.int .i64 x, .int .i64 y], .int .i64 p] w fun e w' => e = .returned (bestV x y p) ∧ Below w.heap.size w w' := by
  have HG := Lib.hid (fun wx => cnGood x y wx)
  have HA := Lib.hid (fun wx => cnPlank p wx)
  have X1 := Lib.hid (Blk.new w #[.int .i64 x, .int .i64 y] 27)
  cases h : bsF x y p
  · have J := Lib.hid (bestV_no h)
    have H := Lib.hid (show (isCn x y && isPl p) = false from h)
    clear h
    generalize isCn x y = c at *
    generalize isPl p = q at *
    go_enter Try.func15, Try.ntmps15
    cases c <;> cases q
    all_goals
      first
      | exact absurd H.out (by decide)
      | (go_wp2_with (first
          | (go_at_call 19; (with_reducible refine (HG.out _).mono ?_); rintro e w1 ⟨rfl, hb⟩)
          | (go_at_call 20; (with_reducible refine (HA.out _).mono ?_); rintro e w' ⟨rfl, rfl⟩))
         refine bodyPost_ret (v := .tuple #[.int .i64 0, .int .i64 0, .int .i64 0, .bool false]) (by simp [results, Try.f15, go_sem]) rfl ?_
         exact ⟨ret_v J.out.symm, Below.trans (by (repeat (first | exact Below.refl _ _ | (refine Below.alloc ?_ (by first | omega | (simp; try omega)) _) | apply Below.drew | apply below_drewN))) (hb.mono (by simp; try omega))⟩)
  have J := Lib.hid (bestV_yes h)
  simp only [bsF, Bool.and_eq_true] at h
  have hp := isPl_in h.2
  have HC := Lib.hid h.1
  rw [h.1] at HG
  rw [h.2] at HA
  clear h
  by_cases hp1 : p = 1
  · subst hp1
    have J2 := Lib.hid (show bestV x y 1 = bestVal none by rw [J.out, bst_one])
    go_enter Try.func15, Try.ntmps15
    go_wp2_with (first
          | (go_at_call 19; (with_reducible refine (HG.out _).mono ?_); rintro e w1 ⟨rfl, hb⟩)
          | (go_at_call 20; (with_reducible refine (HA.out _).mono ?_); rintro e w' ⟨rfl, rfl⟩))
    refine bodyPost_ret (v := .tuple #[.int .i64 0, .int .i64 0, .int .i64 0, .bool false]) (by simp [results, Try.f15, go_sem]) rfl ?_
    exact ⟨ret_v J2.out.symm, Below.trans (by (repeat (first | exact Below.refl _ _ | (refine Below.alloc ?_ (by first | omega | (simp; try omega)) _) | apply Below.drew | apply below_drewN))) (hb.mono (by simp; try omega))⟩
  have hp2 : 1 < p := by omega
  have HSM := Lib.hid (bst_some (x := x) (y := y) ⟨hp2, hp.2⟩)
  have hpe : (p == 1) = false := by simpa using hp1
  have s3 := mul_bd (a := p) (b := p) (m := 200) (n := 200) (by omega) (by omega) (by omega) (by omega)
  go_enter Try.func15, Try.ntmps15
  go_wp2_with fail
  refine (HG.out _).mono ?_
  rintro e w1 ⟨rfl, hb1⟩
  have X2 := Lib.hid (X1.out.below hb1 (by simp))
  have D1 := Lib.hid (Below.trans (by (repeat (first | exact Below.refl _ _ | (refine Below.alloc ?_ (by first | omega | (simp; try omega)) _) | apply Below.drew | apply below_drewN))) (hb1.mono (by simp; try omega)) : Below w.heap.size w w1)
  have hlw : w.heap.size < w1.heap.size := X2.out.lt
  clear hb1 X1 HG
  go_wp2_with (go_at_call 20; (with_reducible refine (HA.out _).mono ?_); rintro e w' ⟨rfl, rfl⟩)
  go_loopw [8, 9, 10, 11] (fun xv yv lv av wr => ∃ (a : Int) (pre : List (Int × Int)), (1 ≤ a ∧ a ≤ 201) ∧ av = .int .i64 a ∧ xv = .int .i64 (o1 (bst x y pre)) ∧ yv = .int .i64 (o2 (bst x y pre)) ∧ lv = .int .i64 (o3s (bst x y pre)) ∧
    Hid (pre ++ rowF p (202 - a).toNat a = spots p) ∧ Hid (BOk (bst x y pre)) ∧ Hid (Below w1.heap.size w1 wr)) (fun _ _ _ av _ => 300 - (intOf av).toNat)
  case atStart => exact ⟨1, [], by omega, rfl, rfl, rfl, rfl, Lib.hid rfl, Lib.hid (bok_nil x y), Lib.hid (Below.refl _ _)⟩
  case round =>
    obtain ⟨a, pre, ha, rfl, rfl, rfl, rfl, HD, HO, HB⟩ := hrel
    by_cases hlt : a < p
    · have HR := Lib.hid (show pre ++ (colF p a (202 - 1 : Int).toNat 1 ++ rowF p (201 - a).toNat (a + 1)) = spots p by
        rw [← HD.out]
        obtain ⟨q, hq⟩ : ∃ q, (202 - a).toNat = q + 1 := ⟨(201 - a).toNat, by omega⟩
        have hq' : q = (201 - a).toNat := by omega
        rw [hq, rowF_yes hlt, hq']; rfl)
      go_wp2
      go_loopw [8, 9, 10, 12] (fun xv yv lv bv wr => ∃ (b : Int) (pre : List (Int × Int)), (1 ≤ b ∧ b ≤ 201) ∧ bv = .int .i64 b ∧ xv = .int .i64 (o1 (bst x y pre)) ∧ yv = .int .i64 (o2 (bst x y pre)) ∧ lv = .int .i64 (o3s (bst x y pre)) ∧
        Hid (pre ++ (colF p a (202 - b).toNat b ++ rowF p (201 - a).toNat (a + 1)) = spots p) ∧ Hid (BOk (bst x y pre)) ∧ Hid (Below w1.heap.size w1 wr)) (fun _ _ _ bv _ => 300 - (intOf bv).toNat)
      case atStart => exact ⟨1, pre, by omega, rfl, rfl, rfl, rfl, HR, HO, HB⟩
      case round =>
        clear HR HB HD HO
        obtain ⟨b, pre, hb, rfl, rfl, rfl, rfl, HD, HO, HB⟩ := hrel
        have s1 := mul_bd (a := a) (b := a) (m := 201) (n := 201) (by omega) (by omega) (by omega) (by omega)
        have s2 := mul_bd (a := b) (b := b) (m := 201) (n := 201) (by omega) (by omega) (by omega) (by omega)
        by_cases hcc : a * a + b * b ≤ p * p
        · have hb2 := sq_lt hp.1 (show b * b ≤ p * p by omega)
          have HN := Lib.hid (show colF p a (202 - b).toNat b = (a, b) :: colF p a (202 - (b + 1)).toNat (b + 1) by
            obtain ⟨q, hq⟩ : ∃ q, (202 - b).toNat = q + 1 := ⟨(201 - b).toNat, by omega⟩
            have hq' : q = (202 - (b + 1)).toNat := by omega
            rw [hq, colF_yes hcc, hq'])
          have HD' := Lib.hid (show pre ++ [(a, b)] ++ (colF p a (202 - (b + 1)).toNat (b + 1) ++ rowF p (201 - a).toNat (a + 1)) = spots p by
            rw [← HD.out, HN.out]; simp)
          have CN := Lib.hid (fun wx => cnNeeds x y a b wx HC.out (by simp [isPl]; omega) (by simp [isPl]; omega))
          have hnd := nd_bd HC.out (show 1 ≤ a ∧ a ≤ 200 by omega) (show 1 ≤ b ∧ b ≤ 200 by omega)
          have ST := Lib.hid (bst_snoc x y pre (a, b))
          have HO' := Lib.hid (show BOk (bst x y (pre ++ [(a, b)])) by rw [ST.out]; exact HO.out.step HC.out (by show 1 ≤ a ∧ a ≤ 200; omega) (by show 1 ≤ b ∧ b ≤ 200; omega))
          obtain ⟨c0, c1, c2⟩ := (X2.out.below HB.out (by omega)).two
          have hsz := HB.out.size
          clear HN HD
          have hoo := HO.out.a
          generalize bst x y pre = o at *
          cases o with
          | none =>
            have E1 := Lib.hid (show o1 (bst x y (pre ++ [(a, b)])) = a ∧ o2 (bst x y (pre ++ [(a, b)])) = b ∧ o3s (bst x y (pre ++ [(a, b)])) = nd x y a b by rw [ST.out]; exact ⟨rfl, rfl, rfl⟩)
            rw [show o1 none = 0 from rfl, show o2 none = 0 from rfl, show o3s none = -1 from rfl]
            generalize nd x y a b = q at *
            go_wp2_with (go_at_call 28; refine (CN.out _).mono ?_; rintro e w2 ⟨rfl, hb2'⟩)
            go_roundw
            case rel => exact ⟨b + 1, pre ++ [(a, b)], by omega, by go_num, by rw [E1.out.1], by rw [E1.out.2.1], by rw [E1.out.2.2], HD', HO', Lib.hid (HB.out.trans (hb2'.mono hsz))⟩
            case measure => (simp [intOf]; try omega)
          | some o =>
            obtain ⟨ob1, ob2, ob3⟩ := o
            have hob := hoo _ rfl
            dsimp only at hob
            rw [show o1 (some (ob1, ob2, ob3)) = ob1 from rfl, show o2 (some (ob1, ob2, ob3)) = ob2 from rfl, show o3s (some (ob1, ob2, ob3)) = ob3 from rfl]
            clear hoo HO
            by_cases hn : nd x y a b < ob3
            · have E1 := Lib.hid (show o1 (bst x y (pre ++ [(a, b)])) = a ∧ o2 (bst x y (pre ++ [(a, b)])) = b ∧ o3s (bst x y (pre ++ [(a, b)])) = nd x y a b by rw [ST.out]; simp only [bstep]; rw [if_pos hn]; exact ⟨rfl, rfl, rfl⟩)
              generalize nd x y a b = q at *
              go_wp2_with (go_at_call 28; refine (CN.out _).mono ?_; rintro e w2 ⟨rfl, hb2'⟩)
              go_roundw
              case rel => exact ⟨b + 1, pre ++ [(a, b)], by omega, by go_num, by rw [E1.out.1], by rw [E1.out.2.1], by rw [E1.out.2.2], HD', HO', Lib.hid (HB.out.trans (hb2'.mono hsz))⟩
              case measure => (simp [intOf]; try omega)
            · have E1 := Lib.hid (show o1 (bst x y (pre ++ [(a, b)])) = ob1 ∧ o2 (bst x y (pre ++ [(a, b)])) = ob2 ∧ o3s (bst x y (pre ++ [(a, b)])) = ob3 by rw [ST.out]; simp only [bstep]; rw [if_neg hn]; exact ⟨rfl, rfl, rfl⟩)
              generalize nd x y a b = q at *
              go_wp2_with (go_at_call 28; refine (CN.out _).mono ?_; rintro e w2 ⟨rfl, hb2'⟩)
              go_roundw
              case rel => exact ⟨b + 1, pre ++ [(a, b)], by omega, by go_num, by rw [E1.out.1], by rw [E1.out.2.1], by rw [E1.out.2.2], HD', HO', Lib.hid (HB.out.trans (hb2'.mono hsz))⟩
              case measure => (simp [intOf]; try omega)
        · have HN := Lib.hid (show pre ++ rowF p (202 - (a + 1)).toNat (a + 1) = spots p by
            rw [← HD.out, colF_no hcc, show (202 - (a + 1)).toNat = (201 - a).toNat by omega]; rfl)
          clear HD
          go_wp2
          go_roundw
          case rel => exact ⟨a + 1, pre, by omega, by go_num, rfl, rfl, rfl, HN, HO, HB⟩
          case measure => (simp [intOf]; try omega)
    · have R := Lib.hid (show pre = spots p by rw [← HD.out, rowF_no hlt, List.append_nil])
      have R2 := Lib.hid (show bst x y (spots p) = bst x y pre by rw [R.out])
      have hsm := HSM.out
      rw [R2.out] at hsm J
      generalize bst x y pre = o at *
      cases o with
      | none => cases hsm
      | some o =>
        obtain ⟨ob1, ob2, ob3⟩ := o
        simp only [o1, o2, o3s]
        go_wp2
        refine bodyPost_ret (v := .tuple #[.int .i64 ob1, .int .i64 ob2, .int .i64 ob3, .bool true]) (by simp [results, Try.f15, go_sem]) rfl ?_
        exact ⟨ret_v J.out.symm, D1.out.trans (HB.out.mono D1.out.size)⟩
end Go.Proofs.Ytfkdkhoihlkgcac
