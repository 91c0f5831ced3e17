/- A list of rows of bools; spec.tdBack. -/
import Derived.Test.YtmlokapbholeoabUf
import Derived.Test.YtmlokapbholeoabTs
namespace Go.Proofs.Ytmlokapbholeoab
set_option linter.unusedVariables false
open Go.RowKit

theorem Try.infoRowB : (Try.prog.info? 43).map (fun i => (i.zero, i.size, i.bytes)) = some (some (.slice none 0 0), 1, 24) := by kernel_rfl
/-- a row of fr + 1 places at the block c -/
def rowV (fr c : Nat) : Value := .slice (some ⟨c, 0, none⟩) (fr + 1) (fr + 1)
/-- n rows of the call's own; those from lo on are told -/
def Tab (w : World) (B : Nat) (v : Value) (n fr lo : Nat) (F : Nat → Nat → Bool) : Prop :=
  ∃ us : List Value, w.ownsRow B 43 1 v n us ∧ (∀ u ∈ us, u.oneCell' = true) ∧ ∀ j, lo ≤ j → j < n → ∃ c, us[j]? = some (rowV fr c) ∧ Bools w B (rowV fr c) (fl (fr + 1) (F j))
theorem rowB_below {w w' : World} {B n s : Nat} {T : TypeId} {v : Value} {us : List Value} (h : w.ownsRow B T s v n us) (hb : Below w.heap.size w w') : w'.ownsRow B T s v n us := by
  refine ⟨h.1, ?_⟩
  rcases h.2 with h2 | ⟨g, cap, cur, e, h1, hg, h3, h4, h5, h6⟩
  · exact .inl h2
  · exact .inr ⟨g, cap, cur, e, h1, (hb.block g (Array.getElem?_eq_some_iff.1 hg).1).trans hg, h3, h4, h5, h6⟩
theorem Tab.below {w w' : World} {B n fr lo : Nat} {v : Value} {F : Nat → Nat → Bool} (h : Tab w B v n fr lo F) (hb : Below w.heap.size w w') : Tab w' B v n fr lo F := by
  obtain ⟨us, h1, h2, h3⟩ := h
  refine ⟨us, rowB_below h1 hb, h2, fun j hl hj => ?_⟩
  obtain ⟨c, e, hB⟩ := h3 j hl hj
  exact ⟨c, e, hB.below hb⟩
theorem Tab.mono {w : World} {B B' n fr lo : Nat} {v : Value} {F : Nat → Nat → Bool} (h : Tab w B' v n fr lo F) (hB : B ≤ B') : Tab w B v n fr lo F := by
  obtain ⟨us, h1, h2, h3⟩ := h
  refine ⟨us, ⟨h1.1, ?_⟩, h2, fun j hl hj => ?_⟩
  · rcases h1.2 with h4 | ⟨g, cap, cur, e, h5, r⟩
    · exact .inl h4
    · exact .inr ⟨g, cap, cur, e, Nat.le_trans hB h5, r⟩
  · obtain ⟨c, e, hI⟩ := h3 j hl hj
    exact ⟨c, e, bools_mono hI hB⟩
theorem Tab.ext {w : World} {B n fr lo : Nat} {v : Value} {F G : Nat → Nat → Bool} (h : Tab w B v n fr lo F) (e : ∀ j, lo ≤ j → j < n → ∀ p, F j p = G j p) : Tab w B v n fr lo G := by
  obtain ⟨us, h1, h2, h3⟩ := h
  refine ⟨us, h1, h2, fun j hl hj => ?_⟩
  obtain ⟨c, e1, hI⟩ := h3 j hl hj
  exact ⟨c, e1, by rw [← fl_ext fun p _ => e j hl hj p]; exact hI⟩
theorem Tab.form {w : World} {B n fr lo : Nat} {v : Value} {F : Nat → Nat → Bool} (h : Tab w B v n fr lo F) (hn : 0 < n) : ∃ g cap, v = .slice (some ⟨g, 0, none⟩) n cap ∧ n ≤ cap ∧ B ≤ g ∧ g < w.heap.size := by
  obtain ⟨us, h1, _⟩ := h
  rcases h1.2 with ⟨_, h0⟩ | ⟨g, cap, cur, rfl, hb, hg, hnc, _⟩
  · omega
  · exact ⟨g, cap, rfl, hnc, hb, (Array.getElem?_eq_some_iff.1 hg).1⟩
/-- a row: where it lies and what it tells -/
theorem Tab.row {w : World} {B g n cap fr lo : Nat} {F : Nat → Nat → Bool} (h : Tab w B (.slice (some ⟨g, 0, none⟩) n cap) n fr lo F) {j : Nat} (hl : lo ≤ j) (hj : j < n) :
    ∃ c, w.cell? ⟨g, j, none⟩ = some (rowV fr c) ∧ (∀ p, p < fr + 1 → w.cell? ⟨c, p, none⟩ = some (.bool (F j p))) ∧ c < w.heap.size ∧ g < w.heap.size := by
  obtain ⟨g', cap', e, _, _, hgw⟩ := h.form (by omega)
  injection e with e1 e2 e3
  injection e1 with e1
  injection e1 with e1
  subst e1
  obtain ⟨us, h1, h2, h3⟩ := h
  obtain ⟨c, e1, hI⟩ := h3 j hl hj
  refine ⟨c, ?_, fun p hp => hI.at_ hp, (Bools.blk hI).2, hgw⟩
  rw [World.ownsRow.cellAt h1 j (by omega)]; exact e1
theorem row_lit {w : World} {B : Nat} {T : TypeId} {u : Value} (hB : B ≤ w.heap.size) : (w.alloc (.cells #[u] T)).ownsRow B T 1 (.slice (some ⟨w.heap.size, 0, none⟩) 1 1) 1 [u] :=
  ⟨by simp, .inr ⟨w.heap.size, 1, #[u], rfl, hB, heap_alloc_new w _, Nat.le_refl _, by unfold maxLen; omega, by simp, by simp⟩⟩
theorem Tab.one {w : World} {B fr c : Nat} {f : Nat → Bool} (h : Bools w B (rowV fr c) (fl (fr + 1) f)) (hB : B ≤ w.heap.size) : Tab (w.alloc (.cells #[rowV fr c] 43)) B (.slice (some ⟨w.heap.size, 0, none⟩) 1 1) 1 fr 0 (fun _ => f) := by
  refine ⟨[rowV fr c], row_lit hB, by intro u hu; simp at hu; subst hu; rfl, fun j _ hj => ?_⟩
  obtain rfl : j = 0 := by omega
  exact ⟨c, rfl, h.below ((Below.refl _ _).alloc (Nat.le_refl _) _)⟩
set_option maxRecDepth 100000 in
/-- 'append([][]bool{row}, rows...)' -/
theorem wpList_front {ops : Array Oper} {rest : List Oper} {o : Oper} {a : Act} {Q : Exit → Act → World → Prop} {W : World} (w0 : World) (hgd : o.guard = none) (s x : Operand)
    (ho : o.op = .call { callee := .builtin .append, args := #[s, x], argTypes := #[41, 41] })
    (B g n cap fr c : Nat) (F : Nat → Nat → Bool) (f : Nat → Bool) (hx : a.eval x = .slice (some ⟨g, 0, none⟩) n cap) (hT : Tab w0 B (.slice (some ⟨g, 0, none⟩) n cap) n fr 0 F) (hn : n ≤ 100000) (hn0 : 0 < n)
    (hs : a.eval s = .slice (some ⟨w0.heap.size, 0, none⟩) 1 1) (hu : Bools w0 B (rowV fr c) (fl (fr + 1) f)) (hB : B ≤ w0.heap.size) (hW : W = w0.alloc (.cells #[rowV fr c] 43))
    (h : ∀ g' cap' w', Tab w' B (.slice (some ⟨g', 0, none⟩) (n + 1) cap') (n + 1) fr 0 (fun j => if j = 0 then f else F (j - 1)) → Below w0.heap.size w0 w' → wpList Try.prog ops Q rest (a.put o.dst (.slice (some ⟨g', 0, none⟩) (n + 1) cap')) w') : wpList Try.prog ops Q (o :: rest) a W := by
  subst hW
  obtain ⟨i0, hi, hz0, hz1, hz2⟩ := info_parts Try.infoRowB
  have hba : Below w0.heap.size w0 (w0.alloc (.cells #[rowV fr c] 43)) := (Below.refl _ _).alloc (Nat.le_refl _) _
  obtain ⟨us, h1, h2, h3⟩ := hT
  have h1' := rowB_below h1 hba
  refine wpList_append_own _ hgd s x 41 ho B 43 i0 (.slice none 0 0) 1 24 Try.underlying41 hi hz0 hz1 hz2 rfl (by decide) _ 1 [rowV fr c] hs (row_lit hB) ⟨g, 0, none⟩ n cap us hx h1.1
    (by
      intro j u hj
      have hjl : j < n * 1 := by rw [← h1.1]; exact (List.getElem?_eq_some_iff.1 hj).1
      have := World.ownsRow.cellAt h1' j hjl
      by_cases h0 : j = 0
      · subst h0; simpa [Addr.add, hj] using this
      · simpa [Addr.add, h0, hj] using this) h2 (by unfold maxLen; omega) (by omega) (by simp; omega) ?_
  intro v' w' h4 h5 _
  have hbw : Below w0.heap.size w0 w' := hba.grown h5 (by simp) (by intro b hb; simp [Value.ownBlock] at hb; omega)
  have T : Tab w' B v' (n + 1) fr 0 (fun j => if j = 0 then f else F (j - 1)) := by
    refine ⟨[rowV fr c] ++ us, by rw [Nat.add_comm n 1]; exact h4, fun u hu => ?_, fun j _ hj => ?_⟩
    · rcases List.mem_append.1 hu with hu | hu
      · simp at hu; subst hu; rfl
      · exact h2 u hu
    · rcases j with _ | j
      · exact ⟨c, rfl, by simpa using hu.below hbw⟩
      · obtain ⟨c2, e2, hI2⟩ := h3 j (Nat.zero_le _) (by omega)
        exact ⟨c2, by simpa using e2, by simpa using hI2.below hbw⟩
  obtain ⟨g', cap', rfl, _⟩ := T.form (by omega)
  exact h g' cap' w' T hbw
theorem bk_row {h t : ByteArray} {l e m x : Nat} (hx : x + 1 + m = e) (p : Nat) : bk h t l e (m + 1) p = stF h t (bk h t l e m) l x p := by
  show stF h t (bk h t l e m) l (e - m - 1) p = _
  rw [show e - m - 1 = x by omega]
set_option maxHeartbeats 4000000 in
theorem tdBack (h t : ByteArray) (l s e : Nat) (w : World) (hg : good h t = true) (hl : l ≤ 100) (hse : s ≤ e) (he : e ≤ 3000) :
    Calls Try.prog 32 #[.string h, .string t, .int .i64 (l : Int), .int .i64 (s : Int), .int .i64 (e : Int)] w fun r w' => ∃ g cap n, n + s = e + 1 ∧ r = .returned (.slice (some ⟨g, 0, none⟩) n cap) ∧
      Tab w' w.heap.size (.slice (some ⟨g, 0, none⟩) n cap) n (h.size + 1) 0 (fun j => bk h t l e (n - 1 - j)) ∧ Below w.heap.size w w' := by
  obtain ⟨⟨z1, z2, _⟩, ⟨z3, z4, _⟩⟩ := good_in hg
  have HG := Lib.hid hg
  obtain ⟨fr, hfr⟩ : ∃ fr, fr = h.size + 1 := ⟨_, rfl⟩
  have hf1 : 2 ≤ fr ∧ fr ≤ 15 := by omega
  have HF := Lib.hid hfr
  have hfi : (h.size : Int) + 2 = (fr : Int) + 1 := by omega
  rw [← hfr]
  obtain ⟨b0, hb0⟩ : ∃ b0, b0 = w.heap.size := ⟨_, rfl⟩
  have HB0 := Lib.hid hb0
  rw [← hb0]
  clear hfr hg
  go_enter Try.func32, Try.ntmps32
  go_upto_region 2 with fail
  try simp only [hfi]
  clear hfi
  go_upto_region 3 with (at_make; refine wpList_mkB rfl _ _ rfl w.heap.size (fr + 1) _ rfl rfl (by simp) (by omega) (Nat.le_refl _) ?_; intro w2 hI hb2 hg2)
  rw [← hb0] at hI hb2 ⊢
  rw [fl_rep] at hI
  have hf2 : (0 : Int) ≤ fr := by omega
  have hf3 : (fr : Int) < (fr : Int) + 1 := by omega
  have hf4 : fr < fr + 1 := by omega
  have cp := hI.at_ hf4
  have fp := hI.fr_ fr
  have hgw := hI.blk
  have S := hI.put fr true
  rw [fl_ext (g := bk h t l e 0) fun j _ => by
    show _ = (j == h.size + 1)
    rw [← HF.out]
    by_cases e : j = fr <;> simp [e]] at S
  have S1 := Lib.hid S.1
  have S3 := Lib.hid (hb2.grown S.2 (by omega) (by intro j hj; cases hj; omega))
  clear S hI hb2 hg2 hb0
  go_wp2
  have w2s : (w2.setCell ⟨b0, fr, none⟩ (.bool true)).heap.size = w2.heap.size := World.size_setCell _ _ _
  have T0 := Lib.hid (Tab.one (B := b0) (c := b0) S1.out (by omega))
  rw [w2s] at T0
  have B0 := Lib.hid (S3.out.alloc (by rw [w2s]; omega) (.cells #[rowV fr b0] 43))
  unfold rowV at B0
  unfold rowV at T0
  clear S1 S3 cp fp
  go_loopw [13, 14] (fun v q wr => ∃ m x g cap : Nat, x + m = e ∧ s ≤ x ∧ q = .int .i64 (x : Int) ∧ v = .slice (some ⟨g, 0, none⟩) (m + 1) cap ∧ Hid (Tab wr b0 (.slice (some ⟨g, 0, none⟩) (m + 1) cap) (m + 1) fr 0 (fun j => bk h t l e (m - j))) ∧ Hid (Below b0 w wr)) (fun _ q _ => (intOf q).toNat - s)
  case atStart => exact ⟨0, e, w2.heap.size, 1, by omega, hse, rfl, rfl, Lib.hid (T0.out.ext (fun j _ _ p => by rw [Nat.zero_sub])), B0⟩
  case round =>
    clear T0 B0 w2s hgw
    obtain ⟨m, x, g, cap, hmx, hsx, rfl, rfl, T, HB⟩ := hrel
    by_cases hlt : s < x
    · obtain ⟨y, rfl⟩ : ∃ y, x = y + 1 := ⟨x - 1, by omega⟩
      have hlt' : (s : Int) < ((y + 1 : Nat) : Int) := by omega
      have hy1 : ((y + 1 : Nat) : Int) - 1 = (y : Int) := by omega
      obtain ⟨c, cr, cf, hcw, hgw⟩ := T.out.row (Nat.le_refl 0) (Nat.succ_pos m)
      have HC := Lib.hid cf
      have HCR := Lib.hid cr
      clear cf cr
      have DRY := Lib.hid (fun p (hp : p ≤ h.size + 1) wx => tdDry h t p y (p : Int) (y : Int) wx rfl rfl HG.out hp (by omega))
      have ey : ((y + 1 : Nat) : Int) = (y : Int) + 1 := by omega
      simp only [ey] at hlt' ⊢
      have hcn : 0 < m + 1 := by omega
      clear hy1 ey
      obtain ⟨f, hf⟩ : ∃ f, f = bk h t l e (m - 0) := ⟨_, rfl⟩
      have HFF := Lib.hid hf
      rw [← hf] at HC
      clear hf
      go_wp2_with (at_make; refine wpList_mkB rfl _ _ rfl wr.heap.size (fr + 1) _ rfl rfl (by simp) (by omega) (Nat.le_refl _) ?_; intro w3 hI3 hb3 hg3)
      obtain ⟨d, hd⟩ : ∃ d, d = wr.heap.size := ⟨_, rfl⟩
      have HD := Lib.hid hd
      rw [← hd] at hI3 hb3 hcw hgw ⊢
      rw [fl_rep] at hI3
      have I0 : Bools w3 d (.slice (some ⟨d, 0, none⟩) (fr + 1) (fr + 1)) (fl (fr + 1) (nbF h t f l y 0 0)) := by
        rw [show fl (fr + 1) (nbF h t f l y 0 0) = fl (fr + 1) (fun _ => false) from fl_ext fun j _ => by unfold nbF; simp [orF]]; exact hI3
      have HI1 := Lib.hid I0
      have HB3 := Lib.hid hb3
      obtain ⟨wo, hwo⟩ : ∃ wo : World, wo = wr := ⟨_, rfl⟩
      have HWO := Lib.hid hwo
      have HWD := Lib.hid (show d = wo.heap.size by rw [hwo]; exact hd)
      rw [← hwo] at HB3 HC HCR T HB
      clear hI3 hb3 hg3 I0 hd hwo
      go_loopw [39] (fun i wr => ∃ p : Nat, p ≤ fr + 1 ∧ i = .int .i64 p ∧ Hid (Bools wr d (.slice (some ⟨d, 0, none⟩) (fr + 1) (fr + 1)) (fl (fr + 1) (nbF h t f l y p 0))) ∧ Hid (Below d wo wr)) (fun i _ => fr + 1 - (intOf i).toNat)
      case atStart => exact ⟨0, by omega, rfl, HI1, HB3⟩
      case round =>
        clear HI1 HB3
        obtain ⟨p, hp, rfl, HI1, HB3⟩ := hrel
        by_cases hlp : p < fr + 1
        · obtain ⟨lo, hlo⟩ : ∃ lo, lo = p - l := ⟨_, rfl⟩
          have HLO2 := Lib.hid (show ((p : Int) - l < 0 ∧ lo = 0) ∨ (0 ≤ (p : Int) - l ∧ (p : Int) - l = lo) by omega)
          have HLO := Lib.hid hlo
          have hlp' : (p : Int) < fr + 1 := by omega
          have hlo3 : lo ≤ p := by omega
          obtain ⟨n, hn⟩ : ∃ n, n = cnt h l p := ⟨_, rfl⟩
          have HN := Lib.hid hn
          have hln : ∀ m, (lo + m < fr + 1 ∧ lo + m ≤ p + l) ↔ m < n := by intro m; rw [hlo, hn]; unfold cnt; have := HF.out; omega
          have HLN := Lib.hid hln
          clear hlo hn hln
          go_wp2_with (go_at_call 33; refine (l1MostU _ lo _ HLO2.out).mono ?_; rintro e w' ⟨rfl, rfl⟩)
          obtain ⟨wp, rfl⟩ : ∃ wp : World, wp = wr := ⟨_, rfl⟩
          go_loopw [17] (fun b wr => ∃ a : Nat, a ≤ n ∧ b = .int .i64 ((lo : Int) + a) ∧ Hid (dry h t p y = true ∨ a = 0) ∧ Hid (Bools wr d (.slice (some ⟨d, 0, none⟩) (fr + 1) (fr + 1)) (fl (fr + 1) (nbF h t f l y p a))) ∧ Hid (Below d wo wr)) (fun b _ => lo + n - (intOf b).toNat)
          case atStart => exact ⟨0, Nat.zero_le _, by simp, Lib.hid (.inr rfl), HI1, HB3⟩
          case round =>
            clear HI1 HB3
            obtain ⟨a, ha, rfl, hdm, HI1, HB3⟩ := hrel
            by_cases hgo : a < n
            · have hg0 := (HLN.out a).2 hgo
              have hg1 : (lo : Int) + a < fr + 1 := by omega
              have hg2 : (lo : Int) + a ≤ (p : Int) + l := by omega
              have DR := Lib.hid (DRY.out p (by have := HF.out; omega))
              cases hdr : dry h t p y
              · have ha0 : a = 0 := by
                  rcases hdm.out with h1 | h1
                  · rw [hdr] at h1; exact Bool.noConfusion h1
                  · exact h1
                subst ha0
                rw [hdr] at DR
                have E := Lib.hid (fun i => nbF_end (h := h) (t := t) (f := f) (L := l) (x := y) (p := p) (m := 0) (by simp [stF, hdr, orF]) i)
                have I2 := Lib.hid (show Bools wr d _ (fl (fr + 1) (nbF h t f l y (p + 1) 0)) by rw [← fl_ext fun i _ => E.out i]; exact HI1.out)
                clear hdm hdr
                go_wp2_with (go_at_call 48; refine (DR.out _).mono ?_; rintro e w4 ⟨rfl, r, rfl⟩)
                go_roundw
                case rel => exact ⟨p + 1, by omega, by go_num, Lib.hid (I2.out.below (below_drewN (Below.refl _ _) _)), Lib.hid (below_drewN HB3.out _)⟩
                case measure => (simp [intOf]; try omega)
              · rw [hdr] at DR
                have E := Lib.hid (fun i => nbF_put (h := h) (t := t) (f := f) (L := l) (x := y) (p := p) (m := a) i)
                have hn1 : nbF h t f l y p a p = orF f (p - l) a := by unfold nbF; rw [if_neg (by omega), if_pos rfl]
                have N1 := Lib.hid hn1
                have hpi : (0 : Int) ≤ p := by omega
                have hmi : (0 : Int) ≤ (lo : Int) + a := by omega
                have hmn : ((lo : Int) + a).toNat = lo + a := by omega
                have HDR := Lib.hid hdr
                have HG0 := Lib.hid hg0
                clear hdm hdr hn1 hg0
                go_wp2_with fail
                refine (DR.out _).mono ?_
                rintro e w4 ⟨rfl, r, hw4⟩
                have B4 := Lib.hid (by rw [hw4]; exact below_drewN HB3.out _ : Below d wo w4)
                have BW := Lib.hid (by rw [hw4]; exact below_drewN (Below.refl _ _) _ : Below wr.heap.size wr w4)
                clear hw4
                have HI4 := HI1.out.below BW.out
                have cp := HI4.at_ hlp
                have fp := HI4.fr_ p
                have cg : w4.cell? ⟨g, 0, none⟩ = some (.slice (some ⟨c, 0, none⟩) (fr + 1) (fr + 1)) := (B4.out.cell (p := ⟨g, 0, none⟩) hgw).trans HCR.out
                have cq : w4.cell? ⟨c, lo + a, none⟩ = some (.bool (f (lo + a))) := (B4.out.cell (p := ⟨c, lo + a, none⟩) hcw).trans (HC.out _ (by have := HG0.out; omega))
                rw [N1.out] at cp
                have S := HI4.put p (orF f (p - l) a || f (p - l + a))
                rw [fl_ext fun i _ => E.out i] at S
                have S1 := Lib.hid S.1
                have hdw := HI4.blk
                have S3 := Lib.hid (B4.out.grown S.2 (by have := B4.out.size; have := HD.out; omega) (by intro j hj; cases hj; exact Nat.le_refl _))
                have hlo0 := HLO.out
                rw [← hlo0] at cp S1 S3
                clear HI4 S HI1 HB3 hlo0 E N1
                generalize f (lo + a) = z at *
                generalize orF f lo a = u at *
                cases u <;> cases z
                all_goals
                  go_wp2
                  go_roundw
                  case rel => exact ⟨a + 1, by omega, by go_num, Lib.hid (.inl (by first | exact HDR.out | trivial)), S1, S3⟩
                  case measure => (simp [intOf]; try omega)
            · have E := Lib.hid (fun i => nbF_end (h := h) (t := t) (f := f) (L := l) (x := y) (p := p) (m := a) (by
                obtain rfl : a = n := by omega
                cases hdr : dry h t p y
                · rcases hdm.out with h1 | h1
                  · rw [hdr] at h1; exact Bool.noConfusion h1
                  · rw [h1]; simp [stF, hdr, orF]
                · rw [HN.out]; simp [stF, hdr]) i)
              have I2 := Lib.hid (show Bools wr d _ (fl (fr + 1) (nbF h t f l y (p + 1) 0)) by rw [← fl_ext fun i _ => E.out i]; exact HI1.out)
              have hng : ¬ (lo + a < fr + 1 ∧ lo + a ≤ p + l) := fun c => hgo ((HLN.out a).1 c)
              by_cases hg2 : (lo : Int) + a < fr + 1
              · have hg3 : ¬ ((lo : Int) + a ≤ (p : Int) + l) := by omega
                clear hng hgo hdm
                go_wp2
                go_roundw
                case rel => exact ⟨p + 1, by omega, by go_num, I2, HB3⟩
                case measure => (simp [intOf]; try omega)
              · clear hng hgo hdm
                go_wp2
                go_roundw
                case rel => exact ⟨p + 1, by omega, by go_num, I2, HB3⟩
                case measure => (simp [intOf]; try omega)
        · obtain rfl : p = fr + 1 := by omega
          have I2 := Lib.hid (show Bools wr d (rowV fr d) (fl (fr + 1) (stF h t f l y)) from (by
            rw [← fl_ext (f := nbF h t f l y (fr + 1) 0) fun i hi => by unfold nbF; rw [if_pos hi]]; exact HI1.out))
          have hlp' : ¬ ((fr : Int) + 1 < (fr : Int) + 1) := by omega
          have hwd := HWD.out
          have hwr := HB3.out.size
          have hb0d : b0 ≤ d := by have := HB.out.size; have := HB0.out; omega
          have T2 := T.out.below (HB3.out.mono (by omega))
          have FR := Lib.hid (fun j (_ : 0 ≤ j) (hj : j < m + 1 + 1) p => show (if j = 0 then stF h t f l y else bk h t l e (m - (j - 1))) p = bk h t l e (m + 1 - j) p from by
            by_cases h0 : j = 0
            · rw [if_pos h0, h0, Nat.sub_zero, bk_row (by omega : y + 1 + m = e), HFF.out, Nat.sub_zero]
            · rw [if_neg h0, show m - (j - 1) = m + 1 - j by omega])
          clear HI1
          have I3 := bools_mono I2.out hb0d
          have hb0w : b0 ≤ wr.heap.size := by omega
          clear hwd
          go_wp2_with (at_builtin; go_loud (refine wpList_front wr rfl _ _ rfl b0 g (m + 1) cap fr d (fun j => bk h t l e (m - j)) (stF h t f l y) rfl T2 (by omega) (by omega) rfl I3 hb0w rfl ?_; intro g' cap' w5 T5 hb5))
          go_roundw
          case rel => exact ⟨m + 1, y, g', cap', by omega, by omega, by go_num, rfl, Lib.hid (T5.ext FR.out), Lib.hid ((HB.out.trans (HB3.out.mono hb0d)).trans (hb5.mono hb0w))⟩
          case measure => (simp [intOf]; try omega)
    · obtain rfl : x = s := by omega
      go_wp2
      go_ret
      exact ⟨g, cap, m + 1, by omega, rfl, T.out.ext (fun j _ _ p => by rw [show m + 1 - 1 - j = m - j by omega]), HB.out⟩
end Go.Proofs.Ytmlokapbholeoab
