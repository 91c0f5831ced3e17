/- impl.firstJoined: its jumps; FirstJoined, FewestJoined. -/
import Derived.Test.YtimbpfenpbkckaaJb
import Derived.Test.YtimbpfenpbkckaaJf
import Derived.WalkMore
import Derived.ScopeJumps
namespace Go.Proofs.Ytimbpfenpbkckaa
set_option linter.unusedVariables false
open Go.RowKit

/-- as Q; by a goto to a label: J -/
def byLabel (J : Nat → Act → World → Prop) (Q : Exit → Act → World → Prop) : Exit → Act → World → Prop
  | .goto l, a, w => J l a w
  | e, a, w => Q e a w
/-- a scope in which the run jumps back to several labels; the first number of J goes down -/
theorem wp_scope_labels {P : Program} {a : Act} {w : World} {Q : Exit → Act → World → Prop} {c : Code} (J : Nat → Nat → Act → World → Prop)
    (hf : ∀ k l a w, J k l a w → ∃ r, findLabel c l = some r)
    (first : c.wp P (byLabel (fun l a w => ∃ k, J k l a w) Q) a w)
    (pass : ∀ k l r a w, J k l a w → findLabel c l = some r → r.wp P (byLabel (fun l' a' w' => ∃ k', k' < k ∧ J k' l' a' w') Q) a w) : (Code.scope c).wp P Q a w := by
  intro b k0 cs
  have hg : ∀ l r, findLabel c l = some r → gotoIn l (.inScope c :: k0) = some (.code r :: .inScope c :: k0) := fun l r h => by simp [gotoIn, h]
  have key : ∀ n l r a w, J n l a w → findLabel c l = some r → ∃ e a' w', Q e a' w' ∧ Arrives P (lone (b.at a (.code r :: .inScope c :: k0)) cs w) b k0 cs e a' w' := by
    intro n
    induction n using Nat.strongRecOn with
    | _ n ih =>
      intro l r a w hJ hr
      obtain ⟨e, a₁, w₁, hq, harr⟩ := pass n l r a w hJ hr b (.inScope c :: k0) cs
      cases e with
      | normal => exact ⟨.normal, a₁, w₁, hq, Steps.trans harr (.one step_inScope)⟩
      | exit id => exact ⟨.exit id, a₁, w₁, hq, fun k' hk => harr k' (by simp [exitTo, hk])⟩
      | goto l' =>
        obtain ⟨k', hlt, hJ'⟩ := hq
        obtain ⟨r', hr'⟩ := hf k' l' a₁ w₁ hJ'
        obtain ⟨e₂, a₂, w₂, hq₂, harr₂⟩ := ih k' hlt l' r' a₁ w₁ hJ' hr'
        exact ⟨e₂, a₂, w₂, hq₂, .of_steps (harr _ (hg _ _ hr')) harr₂⟩
      | ret => exact ⟨_, a₁, w₁, hq, harr⟩
      | panic ch => exact ⟨_, a₁, w₁, hq, harr⟩
      | outgrown => exact ⟨_, a₁, w₁, hq, harr⟩
  obtain ⟨e, a₁, w₁, hq, harr⟩ := first b (.inScope c :: k0) cs
  cases e with
  | normal => exact ⟨.normal, a₁, w₁, hq, .head step_scope (Steps.trans harr (.one step_inScope))⟩
  | exit id => exact ⟨.exit id, a₁, w₁, hq, fun k' hk => .head step_scope (harr k' (by simp [exitTo, hk]))⟩
  | goto l' =>
    obtain ⟨k', hJ'⟩ := hq
    obtain ⟨r', hr'⟩ := hf k' l' a₁ w₁ hJ'
    obtain ⟨e₂, a₂, w₂, hq₂, harr₂⟩ := key _ _ _ a₁ w₁ hJ' hr'
    exact ⟨e₂, a₂, w₂, hq₂, .of_steps (.head step_scope (harr _ (hg _ _ hr'))) harr₂⟩
  | ret => exact ⟨_, a₁, w₁, hq, .of_steps (.one step_scope) harr⟩
  | panic ch => exact ⟨_, a₁, w₁, hq, .of_steps (.one step_scope) harr⟩
  | outgrown => exact ⟨_, a₁, w₁, hq, .of_steps (.one step_scope) harr⟩

theorem sumG_app (g : Nat → Int) (l : List Nat) (x : Nat) : sumG g (l ++ [x]) = sumG g l + g x := by
  induction l with
  | nil => simp [sumG]
  | cons a l ih => simp only [List.cons_append, sumG, ih]; omega
theorem sumG_lap (ps : List Int) (lap : Int) (l : List Nat) : sumG (gL ps lap) l = sumG (gt ps) l - lap * l.length := by
  induction l with
  | nil => simp [sumG]
  | cons a l ih =>
    simp only [sumG, ih, List.length_cons, gL]
    have e : lap * ((l.length + 1 : Nat) : Int) = lap * l.length + lap := by rw [show ((l.length + 1 : Nat) : Int) = (l.length : Int) + 1 by omega, Int.mul_add, Int.mul_one]
    omega
theorem wood_sum (ps : List Int) (l : List Nat) : ∀ k, k ≤ l.length → woodTo ps l k = sumG (gt ps) (l.take k)
  | 0, _ => by simp [woodTo, sumG]
  | k + 1, h => by
    rw [woodTo_s, wood_sum ps l k (by omega), List.take_succ_eq_append_getElem (by omega), sumG_app]
    congr 2
    rw [List.getD_eq_getElem?_getD, List.getElem?_eq_getElem (by omega)]; rfl
theorem joinL_sum (ps : List Int) (l : List Nat) (lap : Int) : joinL ps l lap = sumG (gL ps lap) l + lap := by
  unfold joinL woodL
  rw [wood_sum ps l _ (Nat.le_refl _), List.take_length, sumG_lap]
  have e : lap * ((l.length : Int) - 1) = lap * l.length - lap := by rw [Int.mul_sub, Int.mul_one]
  omega
theorem fewF_resume {ps : List Int} {lap need : Int} {m c : Nat} (h : m ≤ ps.length) :
    fewF ps lap need m (c + 1) = match resume ps.length (gL ps lap) (ups 0 m) need with | some r => some r | none => fewF ps lap need (m + 1) c := by
  rw [resume_ups ps.length (gL ps lap) m 0 need (by omega)]
  conv => lhs; unfold fewF
  cases joinF ps.length (gL ps lap) m need 0 <;> rfl
theorem getD_of {l : List Nat} {n : Nat} (h : ∀ x ∈ l, x < n) : ∀ j, j < l.length → l.getD j 0 < n := fun j hj => by
  rw [List.getD_eq_getElem?_getD, List.getElem?_eq_getElem hj]; exact h _ (List.getElem_mem _)

set_option maxRecDepth 100000 in
set_option maxHeartbeats 4000000 in
theorem firstJoined (ps : List Int) (lap least : Int) (v : Value) (w : World) (h : Rd w v ps) (hp : arePl ps = true) (hlap : 0 ≤ lap ∧ lap ≤ 10) :
    Calls Try.prog 53 #[v, .int .i64 lap, .int .i64 least] w (JPost w.heap.size (fewF ps lap (least - lap) 1 ps.length) w) := by
  have HRd := Lib.hid h
  have HP := Lib.hid hp
  have hin := arePl_in hp
  obtain ⟨b, off, n, c, rfl, hnz, hb, hcell⟩ := h.cellsP (by omega)
  rw [← hnz] at hin ⊢
  have HN := Lib.hid hnz
  have n1 := hin.1
  have n7 := hin.2.1
  obtain ⟨g, hg⟩ : ∃ g, g = gL ps lap := ⟨_, rfl⟩
  obtain ⟨need, hnd⟩ : ∃ need, need = least - lap := ⟨_, rfl⟩
  have HJL := Lib.hid (fun l => hg ▸ joinL_sum ps l lap : ∀ l, joinL ps l lap = sumG g l + lap)
  have HFR : Hid (∀ m cc, m ≤ n → fewF ps lap need m (cc + 1) = match resume n g (ups 0 m) need with | some r => some r | none => fewF ps lap need (m + 1) cc) := Lib.hid (by
    intro m cc hm; rw [hg, hnz]; exact fewF_resume (by omega))
  have HND := Lib.hid hnd
  rw [← hnd]
  obtain ⟨F0, hF0⟩ : ∃ F0, F0 = fewF ps lap need 1 n := ⟨_, rfl⟩
  rw [← hF0]
  have HF0 := Lib.hid hF0
  obtain ⟨B, hB0⟩ : ∃ B, B = w.heap.size := ⟨_, rfl⟩
  rw [← hB0]
  have HBB := Lib.hid hB0
  have hbB : b < B := by omega
  clear h hp hin hcell hnz hg hnd hF0 hB0 hb
  go_enter Try.func53, Try.ntmps53
  go_wp2
  refine wp_scope_labels (fun k l a' w' => (l = 0 ∧ ∃ (m : Nat) (iv : Value) (lst : List Nat) (u9 u10 u11 u12 u13 u14 u15 u16 u17 u18 u19 u20 u21 u22 u23 u24 u25 u26 u27 u28 : Value), a' = { tmps := #[.slice (some ⟨b, off, none⟩) n c, .int .i64 lap, .int .i64 least, undef, undef, undef, .slice none 0 0, .bool false, iv, u9, u10, u11, u12, u13, u14, u15, u16, u17, u18, u19, u20, u21, u22, u23, u24, u25, u26, u27, u28], defers := [] } ∧ k = (8 - m) * 134217728 ∧ m ≤ n ∧ lst.length = m ∧ Ints w' B iv (idx lst) ∧ Below B w w' ∧ F0 = fewF ps lap need (m + 1) (n - m)) ∨
      (l = 1 ∧ ∃ (m : Nat) (iv : Value) (lst : List Nat) (u9 u10 u11 u12 u13 u14 u15 u16 u17 u18 u19 u20 u21 u22 u23 u24 u25 u26 u27 u28 : Value), a' = { tmps := #[.slice (some ⟨b, off, none⟩) n c, .int .i64 lap, .int .i64 least, undef, undef, undef, .slice none 0 0, .bool false, iv, u9, u10, u11, u12, u13, u14, u15, u16, u17, u18, u19, u20, u21, u22, u23, u24, u25, u26, u27, u28], defers := [] } ∧ k = (8 - m) * 134217728 + 1 + (16777216 - val lst) ∧ 1 ≤ m ∧ m ≤ n ∧ lst.length = m ∧ (∀ x ∈ lst, x < n) ∧ Ints w' B iv (idx lst) ∧ Below B w w' ∧ F0 = (match resume n g lst need with | some r => some r | none => fewF ps lap need (m + 1) (n - m)))) ?hf ?first ?pass
  case hf =>
    rintro k l a' w' (⟨rfl, _⟩ | ⟨rfl, _⟩) <;> exact ⟨_, rfl⟩
  case first =>
    have HME := Lib.hid (show ((0 : Nat) : Int) + 1 = ((1 : Nat) : Int) from rfl)
    obtain ⟨lst, hlst⟩ : ∃ lst, lst = ups 0 1 := ⟨_, rfl⟩
    have hll : lst.length = 1 := by rw [hlst, ups_len]
    have HLT : Hid (∀ x ∈ lst, x < n) := Lib.hid (fun x hx => by rw [hlst] at hx; have := ups_lt x hx; omega)
    have HS : Hid (F0 = (match resume n g lst need with | some r => some r | none => fewF ps lap need (1 + 1) (n - 1))) := Lib.hid (by
      rw [HF0.out, hlst, show n = (n - 1) + 1 by omega]; exact (show n - 1 + 1 = n by omega) ▸ HFR.out 1 (n - 1) (by omega))
    have HBr := Lib.hid (Below.refl B w)
    have HBw : Hid (B ≤ w.heap.size) := Lib.hid (by have := HBB.out; omega)
    have hn0 : ((0 : Int) == (n : Int)) = false := by simp; omega
    have hn02 : ¬ ((0 : Int) = (n : Int)) := by omega
    have HLS := Lib.hid hlst
    clear hlst
    by_cases hs : need ≤ sumG g lst
    · have R : Hid (F0 = some lst) := Lib.hid (HS.out.trans (by rw [resume_hit n g lst need hs]))
      have hs2 : least ≤ sumG g lst + lap := by have := HND.out; omega
      clear HS hs
      go_wp2
      go_step3
      go_wp2_with (first
        | (go_at_call 51; (try rw [HME.out]); refine (firstIndices 1 _ (by omega)).mono ?_; rw [ups_range, ← HLS.out]; rintro e w1 ⟨u, rfl, hI1, hb1⟩; have HI := Lib.hid (ints_mono' hI1 (by have := HBw.out; omega) : Ints w1 B u (idx lst)); have HBc := Lib.hid (HBr.out.trans (hb1.mono HBw.out)); clear hI1 hb1))
      go_step3
      go_wp2_with (first
        | (go_at_call 50; refine (joinedLengthOf _ _ ps lst lap _ (HRd.out.below (HBB.out ▸ HBc.out)) HI.out.rd HP.out (fun j hj => by have := HN.out; have := getD_of HLT.out j hj; omega) (by omega) (by omega)).mono ?_; rintro e w' ⟨rfl, rfl⟩; rw [HJL.out]))
      simp only [byLabel]
      go_ret2
      exact ⟨_, by rw [R.out]; rfl, by rw [R.out]; exact HI.out, HBc.out⟩
    have HR := Lib.hid (resume_next n g lst need hs)
    have hs2 : ¬ least ≤ sumG g lst + lap := by have := HND.out; omega
    cases hx : nextS n lst with
    | some s =>
      have HX := Lib.hid hx
      have R : Hid (F0 = (match resume n g s need with | some r => some r | none => fewF ps lap need (1 + 1) (n - (1)))) := Lib.hid (HS.out.trans (by rw [HR.out, hx]))
      have hv := nextS_val n (by omega) lst s HLT.out hx
      have hsl := nextS_len n lst s hx
      have HSL := Lib.hid (nextS_lt n lst s HLT.out hx)
      have hvs := val_lt s (fun x h => by have := HSL.out x h; omega)
      have hvp : 8 ^ s.length ≤ 2097152 := Nat.le_trans (Nat.pow_le_pow_right (by decide) (show s.length ≤ 7 by omega)) (by decide)
      clear HS HR hs hx
      generalize hpw : 8 ^ s.length = pw at *
      go_wp2
      go_step3
      go_wp2_with (first
        | (go_at_call 51; (try rw [HME.out]); refine (firstIndices 1 _ (by omega)).mono ?_; rw [ups_range, ← HLS.out]; rintro e w1 ⟨u, rfl, hI1, hb1⟩; have HI := Lib.hid (ints_mono' hI1 (by have := HBw.out; omega) : Ints w1 B u (idx lst)); have HBc := Lib.hid (HBr.out.trans (hb1.mono HBw.out)); clear hI1 hb1))
      go_step3
      go_wp2_with (first
        | (go_at_call 50; refine (joinedLengthOf _ _ ps lst lap _ (HRd.out.below (HBB.out ▸ HBc.out)) HI.out.rd HP.out (fun j hj => by have := HN.out; have := getD_of HLT.out j hj; omega) (by omega) (by omega)).mono ?_; rintro e w' ⟨rfl, rfl⟩; rw [HJL.out])
        | (go_at_call 68; refine (advance _ lst n B _ HI.out (by omega) (by omega) HLT.out (by omega)).mono ?_; rw [HX.out]; rintro e w2 ⟨rfl, hI2, hb2⟩))
      go_step3
      refine ⟨_, .inr ⟨rfl, 1, _, s, _, _, _, _, _, _, _, _, _, _, _, _, _, _, _, _, _, _, _, _, rfl, rfl, by omega, by omega, by omega, HSL.out, hI2, HBc.out.trans hb2, R.out⟩⟩
    | none =>
      have HX := Lib.hid hx
      have R : Hid (F0 = fewF ps lap need (1 + 1) (n - (1))) := Lib.hid (HS.out.trans (by rw [HR.out, hx]))
      clear HS HR hs hx
      go_wp2
      go_step3
      go_wp2_with (first
        | (go_at_call 51; (try rw [HME.out]); refine (firstIndices 1 _ (by omega)).mono ?_; rw [ups_range, ← HLS.out]; rintro e w1 ⟨u, rfl, hI1, hb1⟩; have HI := Lib.hid (ints_mono' hI1 (by have := HBw.out; omega) : Ints w1 B u (idx lst)); have HBc := Lib.hid (HBr.out.trans (hb1.mono HBw.out)); clear hI1 hb1))
      go_step3
      go_wp2_with (first
        | (go_at_call 50; refine (joinedLengthOf _ _ ps lst lap _ (HRd.out.below (HBB.out ▸ HBc.out)) HI.out.rd HP.out (fun j hj => by have := HN.out; have := getD_of HLT.out j hj; omega) (by omega) (by omega)).mono ?_; rintro e w' ⟨rfl, rfl⟩; rw [HJL.out])
        | (go_at_call 68; refine (advance _ lst n B _ HI.out (by omega) (by omega) HLT.out (by omega)).mono ?_; rw [HX.out]; rintro e w2 ⟨rfl, hI2, hb2⟩))
      go_step3
      refine ⟨_, .inl ⟨rfl, 1, _, lst, _, _, _, _, _, _, _, _, _, _, _, _, _, _, _, _, _, _, _, _, rfl, rfl, by omega, by omega, hI2, HBc.out.trans hb2, R.out⟩⟩
  case pass =>
    rintro k l r a' wr (⟨rfl, m, iv, lst0, u9, u10, u11, u12, u13, u14, u15, u16, u17, u18, u19, u20, u21, u22, u23, u24, u25, u26, u27, u28, rfl, rfl, hm, hl0, hI0, hBr, hF⟩ | ⟨rfl, m, iv, lst, u9, u10, u11, u12, u13, u14, u15, u16, u17, u18, u19, u20, u21, u22, u23, u24, u25, u26, u27, u28, rfl, rfl, hm1, hm, hll, hlt, hI, hBr, hS⟩) hr
    · obtain rfl := Option.some.inj (hr.symm.trans rfl)
      obtain ⟨ia, im, ic, rfl, him, _⟩ := hI0.rd.cells
      rw [idx_len] at him
      obtain rfl : im = m := him.trans hl0
      clear hI0 hr him hl0
      have HBr := Lib.hid hBr
      have HBw : Hid (B ≤ wr.heap.size) := Lib.hid (by have := HBB.out; have := hBr.size; omega)
      clear hBr
      by_cases hmn : im = n
      · subst hmn
        have R : Hid (F0 = none) := Lib.hid (by rw [hF, Nat.sub_self]; rfl)
        clear hF
        go_wp2
        simp only [byLabel]
        go_ret2
        exact ⟨_, by rw [R.out]; rfl, by rw [R.out]; exact World.ownsRow_nil _ _ _ _, HBr.out⟩
      have HME := Lib.hid (show (im : Int) + 1 = ((im + 1 : Nat) : Int) by omega)
      have hn02 : ¬ ((im : Int) = (n : Int)) := by omega
      obtain ⟨lst, hlst⟩ : ∃ lst, lst = ups 0 (im + 1) := ⟨_, rfl⟩
      have hll : lst.length = im + 1 := by rw [hlst, ups_len]
      have HLT : Hid (∀ x ∈ lst, x < n) := Lib.hid (fun x hx => by rw [hlst] at hx; have := ups_lt x hx; omega)
      have HS : Hid (F0 = (match resume n g lst need with | some r => some r | none => fewF ps lap need (im + 1 + 1) (n - (im + 1)))) := Lib.hid (by
        rw [hF, hlst, show n - im = (n - (im + 1)) + 1 by omega]; exact HFR.out (im + 1) _ (by omega))
      have HLS := Lib.hid hlst
      clear hlst hF
      by_cases hs : need ≤ sumG g lst
      · have R : Hid (F0 = some lst) := Lib.hid (HS.out.trans (by rw [resume_hit n g lst need hs]))
        have hs2 : least ≤ sumG g lst + lap := by have := HND.out; omega
        clear HS hs
        go_wp2_with (first
          | (go_at_call 51; (try rw [HME.out]); refine (firstIndices (im + 1) _ (by omega)).mono ?_; rw [ups_range, ← HLS.out]; rintro e w1 ⟨u, rfl, hI1, hb1⟩; have HI := Lib.hid (ints_mono' hI1 (by have := HBw.out; omega) : Ints w1 B u (idx lst)); have HBc := Lib.hid (HBr.out.trans (hb1.mono HBw.out)); clear hI1 hb1))
        go_step3
        go_wp2_with (first
          | (go_at_call 50; refine (joinedLengthOf _ _ ps lst lap _ (HRd.out.below (HBB.out ▸ HBc.out)) HI.out.rd HP.out (fun j hj => by have := HN.out; have := getD_of HLT.out j hj; omega) (by omega) (by omega)).mono ?_; rintro e w' ⟨rfl, rfl⟩; rw [HJL.out]))
        simp only [byLabel]
        go_ret2
        exact ⟨_, by rw [R.out]; rfl, by rw [R.out]; exact HI.out, HBc.out⟩
      have HR := Lib.hid (resume_next n g lst need hs)
      have hs2 : ¬ least ≤ sumG g lst + lap := by have := HND.out; omega
      cases hx : nextS n lst with
      | some s =>
        have HX := Lib.hid hx
        have R : Hid (F0 = (match resume n g s need with | some r => some r | none => fewF ps lap need (im + 1 + 1) (n - (im + 1)))) := Lib.hid (HS.out.trans (by rw [HR.out, hx]))
        have hv := nextS_val n (by omega) lst s HLT.out hx
        have hsl := nextS_len n lst s hx
        have HSL := Lib.hid (nextS_lt n lst s HLT.out hx)
        have hvs := val_lt s (fun x h => by have := HSL.out x h; omega)
        have hvp : 8 ^ s.length ≤ 2097152 := Nat.le_trans (Nat.pow_le_pow_right (by decide) (show s.length ≤ 7 by omega)) (by decide)
        clear HS HR hs hx
        generalize hpw : 8 ^ s.length = pw at *
        go_wp2_with (first
          | (go_at_call 51; (try rw [HME.out]); refine (firstIndices (im + 1) _ (by omega)).mono ?_; rw [ups_range, ← HLS.out]; rintro e w1 ⟨u, rfl, hI1, hb1⟩; have HI := Lib.hid (ints_mono' hI1 (by have := HBw.out; omega) : Ints w1 B u (idx lst)); have HBc := Lib.hid (HBr.out.trans (hb1.mono HBw.out)); clear hI1 hb1))
        go_step3
        go_wp2_with (first
          | (go_at_call 50; refine (joinedLengthOf _ _ ps lst lap _ (HRd.out.below (HBB.out ▸ HBc.out)) HI.out.rd HP.out (fun j hj => by have := HN.out; have := getD_of HLT.out j hj; omega) (by omega) (by omega)).mono ?_; rintro e w' ⟨rfl, rfl⟩; rw [HJL.out])
          | (go_at_call 68; refine (advance _ lst n B _ HI.out (by omega) (by omega) HLT.out (by omega)).mono ?_; rw [HX.out]; rintro e w2 ⟨rfl, hI2, hb2⟩))
        go_step3
        refine ⟨_, (by omega), .inr ⟨rfl, im + 1, _, s, _, _, _, _, _, _, _, _, _, _, _, _, _, _, _, _, _, _, _, _, rfl, rfl, by omega, by omega, by omega, HSL.out, hI2, HBc.out.trans hb2, R.out⟩⟩
      | none =>
        have HX := Lib.hid hx
        have R : Hid (F0 = fewF ps lap need (im + 1 + 1) (n - (im + 1))) := Lib.hid (HS.out.trans (by rw [HR.out, hx]))
        clear HS HR hs hx
        go_wp2_with (first
          | (go_at_call 51; (try rw [HME.out]); refine (firstIndices (im + 1) _ (by omega)).mono ?_; rw [ups_range, ← HLS.out]; rintro e w1 ⟨u, rfl, hI1, hb1⟩; have HI := Lib.hid (ints_mono' hI1 (by have := HBw.out; omega) : Ints w1 B u (idx lst)); have HBc := Lib.hid (HBr.out.trans (hb1.mono HBw.out)); clear hI1 hb1))
        go_step3
        go_wp2_with (first
          | (go_at_call 50; refine (joinedLengthOf _ _ ps lst lap _ (HRd.out.below (HBB.out ▸ HBc.out)) HI.out.rd HP.out (fun j hj => by have := HN.out; have := getD_of HLT.out j hj; omega) (by omega) (by omega)).mono ?_; rintro e w' ⟨rfl, rfl⟩; rw [HJL.out])
          | (go_at_call 68; refine (advance _ lst n B _ HI.out (by omega) (by omega) HLT.out (by omega)).mono ?_; rw [HX.out]; rintro e w2 ⟨rfl, hI2, hb2⟩))
        go_step3
        refine ⟨_, (by omega), .inl ⟨rfl, im + 1, _, lst, _, _, _, _, _, _, _, _, _, _, _, _, _, _, _, _, _, _, _, _, rfl, rfl, by omega, by omega, hI2, HBc.out.trans hb2, R.out⟩⟩
    · obtain rfl := Option.some.inj (hr.symm.trans rfl)
      have HI := Lib.hid hI
      have HBc := Lib.hid hBr
      have HS := Lib.hid hS
      have HLT := Lib.hid hlt
      clear hI hBr hS hlt hr
      by_cases hs : need ≤ sumG g lst
      · have R : Hid (F0 = some lst) := Lib.hid (HS.out.trans (by rw [resume_hit n g lst need hs]))
        have hs2 : least ≤ sumG g lst + lap := by have := HND.out; omega
        clear HS hs
        go_wp2_with (first
          | (go_at_call 50; refine (joinedLengthOf _ _ ps lst lap _ (HRd.out.below (HBB.out ▸ HBc.out)) HI.out.rd HP.out (fun j hj => by have := HN.out; have := getD_of HLT.out j hj; omega) (by omega) (by omega)).mono ?_; rintro e w' ⟨rfl, rfl⟩; rw [HJL.out]))
        simp only [byLabel]
        go_ret2
        exact ⟨_, by rw [R.out]; rfl, by rw [R.out]; exact HI.out, HBc.out⟩
      have HR := Lib.hid (resume_next n g lst need hs)
      have hs2 : ¬ least ≤ sumG g lst + lap := by have := HND.out; omega
      cases hx : nextS n lst with
      | some s =>
        have HX := Lib.hid hx
        have R : Hid (F0 = (match resume n g s need with | some r => some r | none => fewF ps lap need (m + 1) (n - (m)))) := Lib.hid (HS.out.trans (by rw [HR.out, hx]))
        have hv := nextS_val n (by omega) lst s HLT.out hx
        have hsl := nextS_len n lst s hx
        have HSL := Lib.hid (nextS_lt n lst s HLT.out hx)
        have hvs := val_lt s (fun x h => by have := HSL.out x h; omega)
        have hvp : 8 ^ s.length ≤ 2097152 := Nat.le_trans (Nat.pow_le_pow_right (by decide) (show s.length ≤ 7 by omega)) (by decide)
        clear HS HR hs hx
        generalize hpw : 8 ^ s.length = pw at *
        go_wp2_with (first
          | (go_at_call 50; refine (joinedLengthOf _ _ ps lst lap _ (HRd.out.below (HBB.out ▸ HBc.out)) HI.out.rd HP.out (fun j hj => by have := HN.out; have := getD_of HLT.out j hj; omega) (by omega) (by omega)).mono ?_; rintro e w' ⟨rfl, rfl⟩; rw [HJL.out])
          | (go_at_call 68; refine (advance _ lst n B _ HI.out (by omega) (by omega) HLT.out (by omega)).mono ?_; rw [HX.out]; rintro e w2 ⟨rfl, hI2, hb2⟩))
        go_step3
        refine ⟨_, (by omega), .inr ⟨rfl, m, _, s, _, _, _, _, _, _, _, _, _, _, _, _, _, _, _, _, _, _, _, _, rfl, rfl, by omega, by omega, by omega, HSL.out, hI2, HBc.out.trans hb2, R.out⟩⟩
      | none =>
        have HX := Lib.hid hx
        have R : Hid (F0 = fewF ps lap need (m + 1) (n - (m))) := Lib.hid (HS.out.trans (by rw [HR.out, hx]))
        clear HS HR hs hx
        go_wp2_with (first
          | (go_at_call 50; refine (joinedLengthOf _ _ ps lst lap _ (HRd.out.below (HBB.out ▸ HBc.out)) HI.out.rd HP.out (fun j hj => by have := HN.out; have := getD_of HLT.out j hj; omega) (by omega) (by omega)).mono ?_; rintro e w' ⟨rfl, rfl⟩; rw [HJL.out])
          | (go_at_call 68; refine (advance _ lst n B _ HI.out (by omega) (by omega) HLT.out (by omega)).mono ?_; rw [HX.out]; rintro e w2 ⟨rfl, hI2, hb2⟩))
        go_step3
        refine ⟨_, (by omega), .inl ⟨rfl, m, _, lst, _, _, _, _, _, _, _, _, _, _, _, _, _, _, _, _, _, _, _, _, rfl, rfl, by omega, by omega, hI2, HBc.out.trans hb2, R.out⟩⟩

set_option maxHeartbeats 2000000 in
theorem implFirstJ (gap : Int) (v : Value) (ps : List Int) (rest lap : Int) (w : World) (h : Rd w v ps) (hn : ps.length ≤ 1048576) :
    Calls Try.prog 26 #[.int .i64 gap, v, .int .i64 rest, .int .i64 lap] w (IntsJ w.heap.size (idx ((fewO gap ps rest lap).getD [])) (fewO gap ps rest lap).isSome w) := by
  have HL := Lib.hid (canBeJoined v ps lap w h hn)
  have E := Lib.hid (show fewA gap ps rest lap = (inB gap 1 100 && inB rest 0 10 && laps ps lap) from rfl)
  cases h1 : inB gap 1 100
  · have J := Lib.hid (fewO_no (E.out.trans (by simp [h1])))
    have G1 := Lib.hid h1
    clear h E h1
    go_enter Try.func26, Try.ntmps26
    go_wp2_with (first
      | (go_at_call 38; refine (isPlankLength _ _).mono ?_; rintro e w' ⟨rfl, rfl⟩; rw [G1.out]))
    go_ret2
    exact ⟨_, by rw [J.out]; rfl, by rw [J.out]; exact World.ownsRow_nil _ _ _ _, Below.refl _ _⟩
  cases h3 : inB rest 0 10
  · have J := Lib.hid (fewO_no (E.out.trans (by simp [h1, h3])))
    have G1 := Lib.hid h1
    have G3 := Lib.hid h3
    clear h E h1 h3
    go_enter Try.func26, Try.ntmps26
    go_wp2_with (first
      | (go_at_call 38; refine (isPlankLength _ _).mono ?_; rintro e w' ⟨rfl, rfl⟩; rw [G1.out])
      | (go_at_call 42; refine (isRest _ _).mono ?_; rintro e w' ⟨rfl, rfl⟩; rw [G3.out]))
    go_ret2
    exact ⟨_, by rw [J.out]; rfl, by rw [J.out]; exact World.ownsRow_nil _ _ _ _, Below.refl _ _⟩
  cases h2 : laps ps lap
  · have J := Lib.hid (fewO_no (E.out.trans (by simp [h1, h3, h2])))
    have G1 := Lib.hid h1
    have G3 := Lib.hid h3
    rw [h2] at HL
    clear h E h1 h3 h2
    go_enter Try.func26, Try.ntmps26
    go_wp2_with (first
      | (go_at_call 38; refine (isPlankLength _ _).mono ?_; rintro e w' ⟨rfl, rfl⟩; rw [G1.out])
      | (go_at_call 42; refine (isRest _ _).mono ?_; rintro e w' ⟨rfl, rfl⟩; rw [G3.out])
      | (go_at_call 49; refine HL.out.mono ?_; rintro e w' ⟨rfl, rfl⟩))
    go_ret2
    exact ⟨_, by rw [J.out]; rfl, by rw [J.out]; exact World.ownsRow_nil _ _ _ _, Below.refl _ _⟩
  have J := Lib.hid (fewO_yes (E.out.trans (by simp [h1, h2, h3] : _ = true)))
  have b1 := inB_iff.1 h1
  have b3 := inB_iff.1 h3
  obtain ⟨hp, hl0, hl1, hlp⟩ := laps_in h2
  have HF := Lib.hid (firstJoined ps lap (gap + 2 * rest) v w h hp ⟨hl0, hl1⟩)
  have G1 := Lib.hid h1
  have G3 := Lib.hid h3
  rw [h2] at HL
  clear h E h1 h2 h3 hp hlp
  go_enter Try.func26, Try.ntmps26
  go_wp2_with (first
    | (go_at_call 38; refine (isPlankLength _ _).mono ?_; rintro e w' ⟨rfl, rfl⟩; rw [G1.out])
    | (go_at_call 42; refine (isRest _ _).mono ?_; rintro e w' ⟨rfl, rfl⟩; rw [G3.out])
    | (go_at_call 49; refine HL.out.mono ?_; rintro e w' ⟨rfl, rfl⟩)
    | (go_at_call 43; refine (lengthFor _ _ _ (by omega) (by omega)).mono ?_; rintro e w' ⟨rfl, rfl⟩)
    | (go_at_call 53; refine HF.out.mono ?_; rintro e w2 ⟨u, rfl, hI, hb2⟩))
  go_ret2
  exact ⟨_, by rw [J.out]; rfl, by rw [J.out]; exact hI, hb2⟩
set_option maxHeartbeats 2000000 in
theorem implFewN (gap : Int) (v : Value) (ps : List Int) (rest lap : Int) (w : World) (h : Rd w v ps) (hn : ps.length ≤ 1048576) :
    Calls Try.prog 24 #[.int .i64 gap, v, .int .i64 rest, .int .i64 lap] w fun e w' => e = .returned (fewN gap ps rest lap) ∧ Below w.heap.size w w' := by
  have HF := Lib.hid (implFirstJ gap v ps rest lap w h hn)
  have E := Lib.hid (show fewN gap ps rest lap = .tuple #[.int .i64 (((fewO gap ps rest lap).getD []).length : Int), .bool (fewO gap ps rest lap).isSome] from rfl)
  generalize fewN gap ps rest lap = r at *
  generalize fewO gap ps rest lap = o at *
  clear h
  go_enter Try.func24, Try.ntmps24
  go_wp2_with (go_at_call 26; refine HF.out.mono ?_; rintro e w2 ⟨u, rfl, hI, hb2⟩; obtain ⟨a', n', c', rfl, hn', _⟩ := hI.rd.cells; have HN' := Lib.hid hn'; clear hn')
  go_ret2
  exact ⟨ret_v (by rw [E.out]; have e := HN'.out; rw [idx_len] at e; rw [← e]; rfl), hb2⟩
end Go.Proofs.Ytimbpfenpbkckaa
