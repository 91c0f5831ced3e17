/- spec.plLook, spec.plAll: all coverings. -/
import Derived.Test.YtimbpfenpbkckabLs
namespace Go.Proofs.Ytimbpfenpbkckab
set_option linter.unusedVariables false
open Go.RowKit Go.Shelf

def LkE (ob : Nat) (v : Value) : Nat → Prop := fun k => k = ob ∨ v.ownBlock = some k
def LkPost (B ob : Nat) (ov : Value) (ls : List (List Nat)) (w : World) (e : Ending) (w' : World) : Prop :=
  e = .returned (.tuple #[]) ∧ ∃ ov', Boxed w' ob 43 ov' ∧ LL w' B ov' ls ∧ KeepE (LkE ob ov) w w' ∧ ∀ k, ov'.ownBlock = some k → ov.ownBlock = some k ∨ w.heap.size ≤ k
theorem ll_box {w : World} {B ob : Nat} {t : TypeId} {v x : Value} {ls : List (List Nat)} (h : LL w B v ls) (hb : Boxed w ob t x) (ht : t ≠ 22) : some ob ≠ v.ownBlock := by
  obtain ⟨vs, h1, h2, h3⟩ := h
  exact hb.not_row ht h2
theorem ints_box {w : World} {B ob : Nat} {t : TypeId} {v x : Value} {zs : List Int} (h : Ints w B v zs) (hb : Boxed w ob t x) (ht : t ≠ 3) : some ob ≠ v.ownBlock := hb.not_row ht h
/-- behind '*out = append(*out, begin)' -/
theorem pushed {w0 w1 : World} {B ob : Nat} {v v' : Value} {ls ls' : List (List Nat)} (hb : Boxed w0 ob 43 v) (hL : LL w0 B v ls) (hL' : LL w1 B v' ls') (hg : w0.grownBy w1 v.ownBlock) (hn : ∀ k, v'.ownBlock = some k → v.ownBlock = some k ∨ w0.heap.size ≤ k) :
    Boxed w1 ob 43 v ∧ Boxed (w1.setCell ⟨ob, 0, none⟩ v') ob 43 v' ∧ LL (w1.setCell ⟨ob, 0, none⟩ v') B v' ls' ∧ KeepE (LkE ob v) w0 (w1.setCell ⟨ob, 0, none⟩ v') := by
  have hb1 : Boxed w1 ob 43 v := hb.kept hg (ll_box hL hb (by decide))
  refine ⟨hb1, hb1.set v', ?_, ?_⟩
  · refine hL'.keepE (KeepE.of_grown (E := fun k => k = ob) (grownBy_setCell' w1 ob v') fun k e _ => by cases e; rfl) (fun k e e2 => ?_) (fun k u zs hU e e2 => ?_)
    · subst e2; exact ll_box hL' hb1 (by decide) e.symm
    · subst e2; exact ints_box hU hb1 (by decide) e.symm
  · refine (KeepE.of_grown (E := LkE ob v) hg fun k e _ => .inr e).trans (KeepE.of_grown (E := fun k => k = ob) (grownBy_setCell' w1 ob v') fun k e _ => by cases e; rfl) fun k _ e => .inl e
theorem boxB {w w' : World} {b : Nat} {t : TypeId} {v : Value} (h : Boxed w b t v) (hb : Below w.heap.size w w') : Boxed w' b t v := (hb.block b h.lt).trans h
theorem idx_snoc' (l : List Nat) (x : Nat) : idx l ++ [(x : Int)] = idx (l ++ [x]) := by simp [idx]
theorem oneSl {w : World} {B : Nat} {u : Value} {zs : List Int} (h : Ints w B u zs) : u.oneCell' = true := by
  rcases h.2 with ⟨rfl, _⟩ | ⟨g, cap, cur, rfl, _⟩ <;> rfl
theorem append_map (l : List (List Nat)) (b : List Nat) (k : Nat) : (l.map (k :: ·)).map (b ++ ·) = l.map ((b ++ [k]) ++ ·) := by
  rw [List.map_map]; congr 1; funext x; simp

set_option maxHeartbeats 4000000 in
set_option maxRecDepth 100000 in
theorem plLook (gs ps : List Int) (r : Int) (gv pv : Value) (w0 : World) (ob : Nat) (hG : Rd w0 gv gs) (hP : Rd w0 pv ps) (hg1 : 1 ≤ gs.length) (hgb : ∀ j, 0 ≤ gt gs j ∧ gt gs j ≤ 100) (hp : arePl ps = true) (hr : 0 ≤ r ∧ r ≤ 10) (hgl : gs.length ≤ 7) (hob : w0.heap.size ≤ ob) :
    ∀ (ts : List Int) (beg : List Nat) (bv ov : Value) (ls : List (List Nat)) (w : World), beg.length + ts.length = gs.length → ts = (gs.drop beg.length).map (· + 2 * r) → Below w0.heap.size w0 w → Ints w w0.heap.size bv (idx beg) → (∀ x ∈ beg, x < ps.length) → Boxed w ob 43 ov → LL w w0.heap.size ov ls → ls.length + (covF ps ts beg).length ≤ 1000000 →
      Calls Try.prog 59 #[gv, pv, .int .i64 r, bv, .pointer (some ⟨ob, 0, none⟩)] w (LkPost w0.heap.size ob ov (ls ++ (covF ps ts beg).map (beg ++ ·)) w) := by
  intro ts
  have hin := arePl_in hp
  obtain ⟨gb, go, gn, gc, rfl, hgn, hgw, hgc⟩ := hG.cellsP (by omega)
  obtain ⟨pb, po, pn, pc, rfl, hpn, hpw, hpc⟩ := hP.cellsP (by omega)
  have HGC := Lib.hid hgc
  have HPC := Lib.hid hpc
  have HGB := Lib.hid hgb
  have HPB := Lib.hid (arePl_any hp)
  have HGN := Lib.hid hgn
  have HPN := Lib.hid hpn
  have pn7 : 1 ≤ pn ∧ pn ≤ 7 := by omega
  have gn7 : gn ≤ 7 := by omega
  clear hG hP hgc hpc hgb hp hin hgl hg1 hgn hpn
  induction ts with
  | nil =>
    intro beg bv ov ls w hlen hts hb hI hbx hO hL hN
    have hll : beg.length = gn := by rw [HGN.out]; simpa using hlen
    obtain ⟨ba, bn, bc, rfl, hbn, _⟩ := hI.rd.cells
    rw [idx_len] at hbn
    have hbe : bn = gn := by omega
    have c0 := hO.cell
    have hU1 := oneSl hI
    have HI := Lib.hid hI
    have HL := Lib.hid hL
    have HO := Lib.hid hO
    have HBl := Lib.hid hb
    have hle : w0.heap.size ≤ w.heap.size := hb.size
    have R := Lib.hid (show ls ++ (covF ps [] beg).map (beg ++ ·) = ls ++ [beg] by simp [covF])
    have hl6 : ls.length < 16777216 := by omega
    subst hbe
    clear hlen hts hll hbn hI hL hO hb hN
    go_enter Try.func59, Try.ntmps59
    go_wp2_with (at_builtin; refine wpList_appL w rfl _ _ rfl w0.heap.size ov ls rfl HL.out _ hU1 beg HI.out w.heap.size rfl rfl hl6 hle rfl ?_; intro v' w1 hL1 hg1 hn1; obtain ⟨q1, q2, q3, q4⟩ := pushed HO.out HL.out hL1 hg1 hn1; have c1 := q1.cell; have f1 := q1.frozen; have HQ := Lib.hid (And.intro q2 (And.intro q3 (And.intro q4 hn1))); obtain ⟨va, vn, vc, rfl, hvn, _⟩ := hL1.form; clear q1 q2 q3 q4 hL1 hg1 hn1 hvn)
    go_end0
    exact ⟨rfl, _, HQ.out.1, by rw [R.out]; exact HQ.out.2.1, HQ.out.2.2.1, HQ.out.2.2.2⟩
  | cons t ts ih =>
    intro beg bv ov ls w hlen hts hb hI hbx hO hL hN
    have IH := Lib.hid ih
    clear ih
    have hbl : beg.length < gn := by have := HGN.out; simp only [List.length_cons] at hlen; omega
    obtain ⟨ba, bn, bc, rfl, hbn, _⟩ := hI.rd.cells
    rw [idx_len] at hbn
    have ht : t = gt gs beg.length + 2 * r ∧ ts = (gs.drop (beg.length + 1)).map (· + 2 * r) := by
      rw [List.drop_eq_getElem_cons (by have := HGN.out; omega), List.map_cons] at hts
      injection hts with h1 h2
      exact ⟨by rw [h1, gt_of], h2⟩
    have HT := Lib.hid ht
    have hle : w0.heap.size ≤ w.heap.size := hb.size
    have HI := Lib.hid hI
    have HL := Lib.hid hL
    have HO := Lib.hid hO
    have HBl := Lib.hid hb
    have HBX := Lib.hid hbx
    have HLEN := Lib.hid hlen
    have HN := Lib.hid hN
    have HBN := Lib.hid hbn
    have HS := Lib.hid (covF_s ps t ts beg)
    have hgx := HGB.out beg.length
    have HE : Hid (∀ k, LkE ob ov k → w0.heap.size ≤ k) := Lib.hid (fun k e => by
      rcases e with rfl | e
      · exact hob
      · exact (hL.lt k e).1)
    rw [← hbn] at hgx hbl
    clear hlen hts ht hbn hI hL hO hb hN hbx
    have hne1 : ((bn : Int) == (gn : Int)) = false := by simp; omega
    have hne2 : ¬ ((bn : Int) = (gn : Int)) := by omega
    go_enter Try.func59, Try.ntmps59
    go_wp2
    go_loopw [27] (fun i wr => ∃ (k : Nat) (don : List (List Nat)) (ov' : Value), k ≤ pn ∧ i = .int .i64 k ∧ Hid (don ++ covK ps t ts beg k (pn - k) = covF ps (t :: ts) beg) ∧ Hid (Boxed wr ob 43 ov') ∧ Hid (LL wr w0.heap.size ov' (ls ++ don.map (beg ++ ·))) ∧ Hid (KeepE (LkE ob ov) w wr) ∧ Hid (∀ k, ov'.ownBlock = some k → ov.ownBlock = some k ∨ w.heap.size ≤ k)) (fun i _ => pn - (intOf i).toNat)
    case atStart => exact ⟨0, [], ov, Nat.zero_le _, rfl, Lib.hid (by rw [HS.out, HPN.out]; rfl), HO, Lib.hid (by simpa using HL.out), Lib.hid (KeepE.refl _ _), Lib.hid fun k e => .inl e⟩
    case round =>
      obtain ⟨k, don, ov', hk, rfl, HD, HO', HL', HK, HV⟩ := hrel
      have hbr := HK.out.below hle HE.out
      have HBr := Lib.hid (HBl.out.trans hbr)
      have hsz := hbr.size
      clear hbr
      have HBI := Lib.hid (HI.out.keepE HK.out fun j e e2 => by
        rcases e2 with rfl | e2
        · exact ints_box HI.out HO.out (by decide) e.symm
        · exact HL.out.ne HI.out j e e2)
      by_cases hlt : k < pn
      · have hlt' : (k : Int) < pn := by omega
        have hpk := (HBr.out.cell (p := ⟨pb, po + k, none⟩) hpw).trans (HPC.out k hlt)
        have hgk := (HBr.out.cell (p := ⟨gb, go + bn, none⟩) hgw).trans (HGC.out bn hbl)
        have hx := HPB.out k
        have hbl' : (bn : Int) < gn := by omega
        have hnk : pn - k = (pn - (k + 1)) + 1 := by omega
        have HF := Lib.hid (show fits ps t beg k = (decide (gt gs bn + 2 * r ≤ gt ps k) && !beg.contains k) by rw [HBN.out, ← HT.out.1]; rfl)
        have HYES := Lib.hid (fun h => covK_yes (ps := ps) (t := t) (ts := ts) (used := beg) (k := k) (c := pn - (k + 1)) h)
        have HNO := Lib.hid (fun h => covK_no (ps := ps) (t := t) (ts := ts) (used := beg) (k := k) (c := pn - (k + 1)) h)
        generalize gt gs bn = g at *
        generalize gt ps k = p at *
        by_cases hf1 : g + 2 * r ≤ p
        · have HF1 := Lib.hid (decide_eq_true hf1)
          cases hf2 : beg.contains k
          · have hfit : fits ps t beg k = true := by rw [HF.out, HF1.out, hf2]; rfl
            have HY := Lib.hid (HYES.out hfit)
            have HF2 := Lib.hid hf2
            have HN2 : Hid ((ls ++ don.map (beg ++ ·)).length + (covF ps ts (beg ++ [k])).length ≤ 1000000) := Lib.hid (by
              have h1 := HN.out
              have h2 := congrArg List.length HD.out
              rw [hnk, HY.out] at h2
              simp only [List.length_append, List.length_map] at h2 ⊢
              omega)
            have HX2 : Hid (∀ x ∈ beg ++ [k], x < ps.length) := Lib.hid (fun x hx => by
              rcases List.mem_append.1 hx with h | h
              · exact HBX.out x h
              · have := List.mem_singleton.1 h; have := HPN.out; omega)
            have hlb : beg.length ≤ 100 := by have := HBN.out; omega
            clear hfit hf2 HYES HNO HF hf1
            go_wp2_with (first
              | (go_at_call 50; refine (plSpans _ _ _ _ (by omega) hr).mono ?_; rintro e w' ⟨rfl, rfl⟩; rw [HF1.out])
              | (go_at_call 70; refine (l1Has _ beg k _ HBI.out.rd (by omega)).mono ?_; rintro e w' ⟨rfl, rfl⟩; rw [HF2.out])
              | (go_at_call 57; refine (l1Own _ (idx beg) _ HBI.out.rd (fun c e => by rcases HBI.out.2 with ⟨h3, _⟩ | ⟨_, _, _, h3, _⟩ <;> (rw [h3] at e; cases e; try rfl)) (by rw [idx_len]; omega)).mono ?_; rintro e w1 ⟨u, rfl, hI1, hb1⟩; have HU0 := Lib.hid (fun j e => (World.ownsRow.lt hI1 j e).1); have HI1 := Lib.hid hI1; have HB1 := Lib.hid hb1; clear hI1 hb1)
              | (at_builtin; refine wpList_app w1 rfl _ _ rfl wr.heap.size u (idx beg) rfl HI1.out (k : Int) rfl (by rw [idx_len]; omega) HB1.out.size rfl ?_; intro u2 w2 hI2 hb2 hg2; rw [idx_snoc'] at hI2; have HI2 := Lib.hid (ints_mono' hI2 (Nat.le_trans hle hsz)); have HB2 := Lib.hid (HB1.out.grown hg2 HB1.out.size HU0.out); clear hI2 hb2 hg2)
              | (go_at_call 59; refine (IH.out (beg ++ [k]) u2 ov' (ls ++ don.map (beg ++ ·)) w2 (by have := HLEN.out; simp at this ⊢; omega) (by rw [HT.out.2]; simp) (HBr.out.trans (HB2.out.mono (Nat.le_trans hle hsz))) HI2.out HX2.out (boxB HO'.out HB2.out) (HL'.out.below HB2.out) HN2.out).mono ?_; rintro e w3 ⟨rfl, ov3, hO3, hL3, hK3, hV3⟩; have H3 := Lib.hid (And.intro hO3 (And.intro hL3 (And.intro hK3 hV3))); clear hO3 hL3 hK3 hV3))
            go_roundw
            case rel =>
              have s2 := HB2.out.size
              refine ⟨k + 1, don ++ (covF ps ts (beg ++ [k])).map (k :: ·), ov3, by omega, by go_num, Lib.hid ?_, Lib.hid H3.out.1, Lib.hid ?_, Lib.hid ?_, Lib.hid ?_⟩
              · rw [List.append_assoc, ← HY.out, ← hnk]; exact HD.out
              · rw [List.map_append, append_map, ← List.append_assoc]; exact H3.out.2.1
              · refine (HK.out.trans (KeepE.of_below (E := fun _ => False) HB2.out) (fun _ _ h => h.elim)).trans H3.out.2.2.1 (fun j hj e => ?_)
                rcases e with rfl | e
                · exact .inl rfl
                · rcases HV.out j e with h | h
                  · exact .inr h
                  · omega
              · intro j e
                rcases H3.out.2.2.2 j e with h | h
                · exact HV.out j h
                · right; omega
            case measure => (simp [intOf]; try omega)
          · have HY := Lib.hid (HNO.out (by rw [HF.out, hf2]; simp))
            have HF2 := Lib.hid hf2
            have hlb : beg.length ≤ 100 := by have := HBN.out; omega
            clear hf2 HYES HNO HF hf1
            go_wp2_with (first
              | (go_at_call 50; refine (plSpans _ _ _ _ (by omega) hr).mono ?_; rintro e w' ⟨rfl, rfl⟩; rw [HF1.out])
              | (go_at_call 70; refine (l1Has _ beg k _ HBI.out.rd (by omega)).mono ?_; rintro e w' ⟨rfl, rfl⟩; rw [HF2.out]))
            go_roundw
            case rel => exact ⟨k + 1, don, ov', by omega, by go_num, Lib.hid (by rw [← HY.out, ← hnk]; exact HD.out), HO', HL', HK, HV⟩
            case measure => (simp [intOf]; try omega)
        · have HF1 := Lib.hid (decide_eq_false hf1)
          have HY := Lib.hid (HNO.out (by rw [HF.out, HF1.out]; rfl))
          clear HYES HNO HF hf1
          go_wp2_with (first
            | (go_at_call 50; refine (plSpans _ _ _ _ (by omega) hr).mono ?_; rintro e w' ⟨rfl, rfl⟩; rw [HF1.out]))
          go_roundw
          case rel => exact ⟨k + 1, don, ov', by omega, by go_num, Lib.hid (by rw [← HY.out, ← hnk]; exact HD.out), HO', HL', HK, HV⟩
          case measure => (simp [intOf]; try omega)
      · obtain rfl : k = pn := by omega
        have R := Lib.hid (show don = covF ps (t :: ts) beg by rw [← HD.out, Nat.sub_self]; simp [covK])
        go_wp2
        go_end0
        exact ⟨rfl, ov', HO'.out, by rw [← R.out]; exact HL'.out, HK.out, HV.out⟩
set_option maxHeartbeats 2000000 in
theorem plAll (gs ps : List Int) (r : Int) (gv pv : Value) (w : World) (hG : Rd w gv gs) (hP : Rd w pv ps) (hk : asks gs ps r = true) :
    Calls Try.prog 44 #[gv, pv, .int .i64 r] w fun e w' => ∃ v, e = .returned v ∧ LL w' w.heap.size v (covL gs ps r) ∧ Below w.heap.size w w' := by
  obtain ⟨hg, hp, hr0, hr1⟩ := asks_in' hk
  have hgi := arePl_in hg
  have hpi := arePl_in hp
  have hcl := covF_len ps hpi.2.1 (gs.map (· + 2 * r)) []
  have h77 : 7 ^ (gs.map (· + 2 * r)).length ≤ 823543 := by
    rw [List.length_map]; exact Nat.le_trans (Nat.pow_le_pow_right (by decide) hgi.2.1) (by decide)
  have hb1 : Below w.heap.size w (w.alloc (.cells #[.slice none 0 0] 43)) := (Below.refl _ _).alloc (Nat.le_refl _) _
  have HC := Lib.hid (plLook gs ps r gv pv w w.heap.size hG hP hgi.1 (arePl_any hg) hp ⟨hr0, hr1⟩ hgi.2.1 (Nat.le_refl _) (gs.map (· + 2 * r)) [] (.slice none 0 0) (.slice none 0 0) [] _ (by simp) (by simp) hb1 (World.ownsRow_nil _ _ _ _) (fun x hx => by simp at hx) (Boxed.new w _ _) (LL.nil _ _) (by simp only [List.length_nil]; omega))
  have HB1 := Lib.hid hb1
  clear hG hP hg hp hgi hpi hcl h77 hb1 hk
  go_enter Try.func44, Try.ntmps44
  go_wp2_with (go_at_call 59; refine HC.out.mono ?_; rintro e w2 ⟨rfl, ov, hO, hL, hK, hV⟩; have c0 := hO.cell; have HL := Lib.hid hL; have HK := Lib.hid hK; clear hO hL hK hV)
  go_ret
  refine ⟨_, rfl, by simpa [covL] using HL.out, HB1.out.trans (HK.out.below (by simp) fun k e => ?_)⟩
  rcases e with rfl | e
  · exact Nat.le_refl _
  · cases e
end Go.Proofs.Ytimbpfenpbkckab
