/- slices.Delete at bridges, one of them. -/
import Derived.Test.YtihdajiikonijaaIa
import Derived.Deep.RegionLaw
import Derived.Lib.SliceRun
import Derived.Deep.RegionHeld3
namespace Go.Proofs.Ytihdajiikonijaa
set_option linter.unusedVariables false
open Go.RowKit

def putL (xs : List Value) (o : Nat) : List Value → List Value
  | [] => xs
  | v :: r => putL (xs.set o v) (o + 1) r
theorem putL_len (vs : List Value) : ∀ (xs : List Value) (o : Nat), (putL xs o vs).length = xs.length := by
  induction vs with
  | nil => intro xs o; rfl
  | cons v r ih => intro xs o; unfold putL; rw [ih, List.length_set]
theorem putL_eq (vs : List Value) : ∀ (xs : List Value) (o : Nat), o + vs.length ≤ xs.length → putL xs o vs = xs.take o ++ vs ++ xs.drop (o + vs.length) := by
  induction vs with
  | nil => intro xs o h; simp [putL]
  | cons v r ih =>
    intro xs o h
    rw [List.length_cons] at h
    unfold putL
    rw [ih _ _ (by rw [List.length_set]; omega), List.take_succ_eq_append_getElem (by rw [List.length_set]; omega), List.getElem_set_self, List.take_set_of_le (Nat.le_refl _), List.drop_set_of_lt (by omega), List.length_cons]
    simp [Nat.add_assoc, Nat.add_comm 1]
theorem row_cells {B g n cap : Nat} {e : TypeId} {s : Nat} (vs : List Value) : ∀ {w : World} {xs : List Value} (o : Nat), w.ownsRow B e s (.slice (some ⟨g, 0, none⟩) n cap) n xs →
    (w.setCells g o vs).ownsRow B e s (.slice (some ⟨g, 0, none⟩) n cap) n (putL xs o vs) ∧ w.grownBy (w.setCells g o vs) (some g) := by
  induction vs with
  | nil => intro w xs o h; exact ⟨h, World.grownBy.refl _ _⟩
  | cons v r ih =>
    intro w xs o h
    have h1 := World.ownsRow.stored h o v
    have h2 := ih (o + 1) h1.1
    exact ⟨h2.1, h1.2.trans h2.2⟩
theorem row_shrink {w : World} {B g n n' cap : Nat} {e : TypeId} {s : Nat} {xs : List Value} (h : w.ownsRow B e s (.slice (some ⟨g, 0, none⟩) n cap) n xs) (hn : n' ≤ n) :
    w.ownsRow B e s (.slice (some ⟨g, 0, none⟩) n' cap) n' (xs.take (n' * s)) := by
  have hm : n' * s ≤ n * s := Nat.mul_le_mul_right s hn
  rcases h.2 with ⟨e1, _⟩ | ⟨g', cap', cur, e1, hb, hg, hnc, hcm, hcs, ht⟩
  · cases e1
  · injection e1 with e1 _ e2
    subst e2
    refine ⟨by rw [List.length_take, h.1]; omega, .inr ⟨g', cap, cur, by rw [e1], hb, hg, by omega, hcm, hcs, ?_⟩⟩
    rw [← ht, List.take_take]
    congr 1
    omega
theorem bcs_take (bs : List Br) (k : Nat) (h : k ≤ bs.length) : (bcs bs).take (k * 3) = bcs (bs.take k) := by
  conv => lhs; rw [← List.take_append_drop k bs, bcs_app]
  rw [List.take_append_of_le_length (by rw [bcs_len]; simp; omega), List.take_of_length_le (by rw [bcs_len]; simp; omega)]
theorem del_row {bs : List Br} {k L : Nat} (hL : L = bs.length) (hk : k < L) (zs : List Value) : (putL (putL (bcs bs) (k * 3) (bcs (bs.drop (k + 1)))) ((L - 1) * 3) [.int .i64 0, .int .i64 0, .int .i64 0]).take ((L - 1) * 3) = bcs (bs.eraseIdx k) := by
  have hl1 : (bcs (bs.drop (k + 1))).length = (L - (k + 1)) * 3 := by rw [bcs_len, List.length_drop, ← hL]
  have hl0 : (bcs bs).length = L * 3 := by rw [bcs_len, hL]
  have hp : (putL (bcs bs) (k * 3) (bcs (bs.drop (k + 1)))).length = L * 3 := by rw [putL_len, hl0]
  rw [putL_eq _ _ _ (by rw [hp]; simp; omega), List.append_assoc, List.take_append_of_le_length (by rw [List.length_take, hp]; omega), List.take_take, Nat.min_self, putL_eq _ _ _ (by rw [hl0, hl1]; omega), List.take_append_of_le_length (by rw [List.length_append, List.length_take, hl0, hl1]; omega), List.take_of_length_le (by rw [List.length_append, List.length_take, hl0, hl1]; omega), bcs_take _ _ (by omega), ← bcs_app, List.eraseIdx_eq_take_drop_succ]
theorem Try.zeroBr : ∀ w, (zeroValue 47).run Try.prog w = .ok (.agg #[.int .i64 0, .int .i64 0, .int .i64 0]) w := by
  obtain ⟨i0, hi, hz0, -, -⟩ := info_parts Try.infoBr
  intro w
  simp [zeroValue, typeInfo, hi, hz0]
theorem clear_one (w : World) (ty : TypeId) (b o c : Nat) (hc : ∀ j, j < 3 → (w.cell? ⟨b, o + j, none⟩).isSome = true) (hf : ∀ j, j < 3 → w.frozen? ⟨b, o + j, none⟩ = false) :
    (Builtin.clear_ #[27] ty #[.slice (some ⟨b, o, none⟩) 1 c]).run Try.prog w = .ok (.tuple #[]) (w.setCells b o [.int .i64 0, .int .i64 0, .int .i64 0]) := by
  have hst := run_storeCells_cells (P := Try.prog) b o [.int .i64 0, .int .i64 0, .int .i64 0] 0 w (by simpa using hc) (by simpa using hf) (by intro v hv; simp at hv; rw [hv]; rfl)
  simp only [Nat.add_zero] at hst
  have hz : (Builtin.zeroCells (Value.agg #[.int .i64 0, .int .i64 0, .int .i64 0]).cells 1).toList = [.int .i64 0, .int .i64 0, .int .i64 0] := by kernel_rfl
  simp [Builtin.clear_, run_underlying Try.underlying27, Try.zeroBr, hz, hst]
set_option maxHeartbeats 4000000 in
set_option maxRecDepth 100000 in
theorem deleteB (B g L cap k : Nat) (bs : List Br) (w : World) (hI : Brs w B (.slice (some ⟨g, 0, none⟩) L cap) bs) (hL : L = bs.length) (hk : k < L) (hl : L ≤ 14) :
    Calls Try.prog 71 #[.slice (some ⟨g, 0, none⟩) L cap, .int .i64 k, .int .i64 ((k : Int) + 1)] w fun e w' => e = .returned (.slice (some ⟨g, 0, none⟩) (L - 1) cap) ∧ Brs w' B (.slice (some ⟨g, 0, none⟩) (L - 1) cap) (bs.eraseIdx k) ∧ w.grownBy w' (some g) := by
  obtain ⟨i0, hi, hz0, hz1, hz2⟩ := info_parts Try.infoBr
  have hrow : w.ownsRow B 47 3 (.slice (some ⟨g, 0, none⟩) L cap) L (bcs bs) := by have h := hI; unfold Brs at h; rw [← hL] at h; exact h
  obtain ⟨hLc, hcm⟩ : L ≤ cap ∧ cap ≤ 9223372036854775807 := by
    rcases hrow.2 with ⟨e1, _⟩ | ⟨g', cap', cur, e1, _, _, hnc, hcm, _⟩
    · cases e1
    · injection e1 with _ _ e2; subst e2; unfold maxLen at hcm; exact ⟨hnc, by omega⟩
  have hcl : ∀ j, j < L * 3 → w.cell? ⟨g, j, none⟩ = (bcs bs)[j]? := fun j hj => World.ownsRow.cellAt hrow j hj
  have hfz : ∀ j, w.frozen? ⟨g, j, none⟩ = false := fun j => World.ownsRow.frozenAt hrow j
  have hbl : (bcs bs).length = L * 3 := by rw [bcs_len, hL]
  obtain ⟨news, hnews⟩ : ∃ news, news = bcs (bs.drop (k + 1)) := ⟨_, rfl⟩
  have hlen : news.length = (L - (k + 1)) * 3 := by rw [hnews, bcs_len, List.length_drop, ← hL]
  have hdr : (bcs bs).drop ((k + 1) * 3) = news := by
    have e := bcs_app (bs.take (k + 1)) (bs.drop (k + 1))
    rw [List.take_append_drop] at e
    rw [e, List.drop_append_of_le_length (by rw [bcs_len]; simp; omega), List.drop_of_length_le (by rw [bcs_len]; simp; omega), hnews]; rfl
  have hget : ∀ j u, news[j]? = some u → w.cell? ⟨g, (k + 1) * 3 + j, none⟩ = some u := by
    intro j u hu
    have hj := (List.getElem?_eq_some_iff.1 hu).1
    rw [hcl _ (by omega), ← List.getElem?_drop, hdr]; exact hu
  obtain ⟨A, hA, hsrc⟩ : ∃ A : Addr, (if cap = k + 1 then some (⟨g, 0, none⟩ : Addr) else some ⟨g, (k + 1) * 3, none⟩) = some A ∧ Hid (∀ t u, news[t]? = some u → w.drew.cell? (A.add t) = some u) := by
    by_cases h : cap = k + 1
    · refine ⟨⟨g, 0, none⟩, by simp [h], Lib.hid fun t u hu => ?_⟩
      have h0 : news.length = 0 := by omega
      rw [List.length_eq_zero_iff.1 h0] at hu
      simp at hu
    · refine ⟨⟨g, (k + 1) * 3, none⟩, by simp [h], Lib.hid fun t u hu => ?_⟩
      rw [Addr.add_lit]
      exact hget t u hu
  have s1 := Lib.hid hlen
  have s2 : Hid (∀ u ∈ news, u.oneCell' = true) := Lib.hid (fun u hu => by
    rw [hnews] at hu
    simp only [bcs, List.mem_flatMap] at hu
    obtain ⟨y, _, hy⟩ := hu
    simp at hy
    rcases hy with rfl | rfl | rfl <;> rfl)
  have hsome : ∀ j, j < L * 3 → (w.cell? ⟨g, j, none⟩).isSome = true := fun j hj => by
    rw [hcl j hj, List.getElem?_eq_getElem (by omega)]; rfl
  have s3 : Hid (∀ t, t < news.length → (w.drew.cell? ⟨g, 0 + k * 3 + t, none⟩).isSome = true ∧ w.drew.frozen? ⟨g, 0 + k * 3 + t, none⟩ = false) := Lib.hid (fun t ht => by
    rw [Nat.zero_add]
    exact ⟨hsome _ (by omega), hfz _⟩)
  have R1 := row_cells news (0 + k * 3) (show w.drew.ownsRow B 47 3 (.slice (some ⟨g, 0, none⟩) L cap) L (bcs bs) from hrow)
  obtain ⟨W1, hW1⟩ : ∃ W1, W1 = w.drew.setCells g (0 + k * 3) news := ⟨_, rfl⟩
  rw [← hW1] at R1
  have R2 := row_cells [.int .i64 0, .int .i64 0, .int .i64 0] ((L - 1) * 3) R1.1
  have R3 := row_shrink (n' := L - 1) R2.1 (by omega)
  have hcl1 : ∀ j, j < L * 3 → (W1.cell? ⟨g, j, none⟩).isSome = true := fun j hj => by
    rw [World.ownsRow.cellAt R1.1 j hj, List.getElem?_eq_getElem (by rw [putL_len]; omega)]; rfl
  have hfz1 : ∀ j, W1.frozen? ⟨g, j, none⟩ = false := fun j => World.ownsRow.frozenAt R1.1 j
  have hclr : ∀ ty, (Builtin.clear_ #[27] ty #[.slice (some ⟨g, (L - 1) * 3, none⟩) 1 (cap - (L - 1))]).run Try.prog W1 = .ok (.tuple #[]) (W1.setCells g ((L - 1) * 3) [.int .i64 0, .int .i64 0, .int .i64 0]) :=
    fun ty => clear_one W1 ty g ((L - 1) * 3) (cap - (L - 1)) (fun j hj => hcl1 _ (by omega)) (fun j _ => hfz1 _)
  have hG := Lib.hid ((show w.grownBy w.drew (some g) from ⟨rfl, rfl, rfl, Nat.le_refl _, fun i hi _ => rfl⟩).trans (R1.2.trans R2.2))
  have hW := Lib.hid hW1
  have hR : Hid (Brs (W1.setCells g ((L - 1) * 3) [.int .i64 0, .int .i64 0, .int .i64 0]) B (.slice (some ⟨g, 0, none⟩) (L - 1) cap) (bs.eraseIdx k)) := Lib.hid (by
    have hel : (bs.eraseIdx k).length = L - 1 := by rw [List.length_eraseIdx]; simp [← hL, hk]
    unfold Brs
    rw [hel, ← del_row hL hk [], ← hnews]
    rw [Nat.zero_add] at R3
    exact R3)
  have hne : ((k : Int) == (k : Int) + 1) = false := by simp; omega
  have hne2 : ¬ (k : Int) = (k : Int) + 1 := by omega
  have hk1 : (k : Int) ≤ (k : Int) + 1 := by omega
  have hk2 : (k : Int) + 1 ≤ (L : Int) := by omega
  have hk3 : ((k : Int) + 1).toNat = k + 1 := by omega
  have hk4 : (0 : Int) ≤ (k : Int) + 1 := by omega
  have hkc : k ≤ cap := by omega
  have hkc1 : k + 1 ≤ cap := by omega
  have hkL : k ≤ L := by omega
  have hkL1 : k + 1 ≤ L := by omega
  have hLL : k + (L - (k + 1)) = L - 1 := by omega
  clear hL hI hrow hcl hfz hbl hnews hlen hdr hget hsome R1 R2 R3 hcl1 hfz1 hW1
  generalize hM : L - 1 = M at *
  have f1 : L - M = 1 := by omega
  have f2 : M ≤ L := by omega
  have f3 : (M : Int) ≤ L := by omega
  have f4 : ¬ cap = M := by omega
  have f5 : M ≤ cap := by omega
  have HM := Lib.hid hM
  clear hM
  go_enter Try.func71, Try.ntmps71
  go_wp2_with fail
  go_region_law (refine step_append_room rfl (.tmp 22) (.tmp 25) 27 rfl 47 i0 3 Try.underlying27 hi hz1 g 0 k cap (by simp [Act.eval, Act.put]) A (L - (k + 1)) (cap - (k + 1)) news (by simp [Act.eval, Act.put]) s1.out hsrc.out s2.out (by omega) s3.out ?_; rw [← hW.out])
  go_wp2
  go_ret
  exact ⟨rfl, hR.out, hG.out⟩
theorem Good.erase {m : Nat} {bs : List Br} (h : Good m bs) (k : Nat) : Good m (bs.eraseIdx k) := fun b hb => h b (List.mem_of_mem_eraseIdx hb)
theorem kp {w : World} {g : Nat} {x y : Value} (h : Blk w g #[x, y]) : w.cell? ⟨g, 0, none⟩ = some x ∧ w.cell? ⟨g, 1, none⟩ = some y := ⟨h.two.1, h.two.2.1⟩
set_option maxHeartbeats 4000000 in
set_option maxRecDepth 100000 in
/-- impl.withoutBridge: a new box for the answer; its bridges are of the call's own -/
theorem withoutBridge (n : Int) (v : Value) (bs : List Br) (k : Nat) (w : World) (h : RdB w v bs) (hk : k < bs.length) (hl : bs.length ≤ 14) :
    Calls Try.prog 55 #[.agg #[.int .i64 n, v], .int .i64 k] w fun e w' => ∃ u, e = .returned (.agg #[.int .i64 n, u]) ∧ Brs w' w.heap.size u (bs.eraseIdx k) ∧ Below w.heap.size w w' := by
  have H := Lib.hid h
  obtain ⟨a, l, c, rfl, hnz, t⟩ := h
  clear t
  rw [← hnz] at hk hl
  have HN := Lib.hid hnz
  clear hnz
  have hkI : (k : Int) < l := by omega
  have hwr : IntKind.i64.wrap ((k : Int) + 1) = (k : Int) + 1 := by rw [IntKind.wrap_i64]; omega
  obtain ⟨W0, hW0⟩ : ∃ W, W = (w.alloc (.cells #[.int .i64 n, .slice a l c] 29)).alloc (.cells #[.int .i64 0, .slice none 0 0] 29) := ⟨_, rfl⟩
  have X1 := Lib.hid (show Blk W0 w.heap.size #[.int .i64 n, .slice a l c] by rw [hW0]; exact (Blk.new w _ _).alloc _)
  have X2 := Lib.hid (show Blk W0 (w.heap.size + 1) #[.int .i64 0, .slice none 0 0] by rw [hW0]; exact (Blk.new (w.alloc (.cells #[.int .i64 n, .slice a l c] 29)) _ _).at_ (by simp))
  have B0 := Lib.hid (show Below w.heap.size w W0 by rw [hW0]; (repeat (first | exact Below.refl _ _ | (refine Below.alloc ?_ (by first | omega | (simp; try omega)) _) | apply Below.drew | apply below_drewN)))
  have z0 : w.heap.size + 1 < W0.heap.size := X2.out.lt
  have HW0 := Lib.hid hW0
  clear hW0
  go_enter Try.func55, Try.ntmps55
  go_wp2_with fail
  rw [← HW0.out]
  clear HW0
  obtain ⟨c0, c1, l0⟩ := X1.out.two
  have X1d := Lib.hid (X1.out.drew)
  have X2d := Lib.hid (X2.out.drew)
  have B0d := Lib.hid (B0.out.drew)
  have zd : W0.drew.heap.size = W0.heap.size := rfl
  have ZD := Lib.hid zd
  clear zd
  go_region_held3 (fun w' => w'.cell? ⟨w.heap.size, 0, none⟩ = some (.int .i64 n) ∧ w'.cell? ⟨w.heap.size, 1, none⟩ = some (.slice a l c)) (first | exact kp X1d.out | exact kp Y1.out | exact kp Z1.out | exact kp ((Z1.out.far (p := ⟨w.heap.size + 1, 0, none⟩) (by simp) _).far (p := ⟨w.heap.size + 1, 1, none⟩) (by simp) _)) (first
    | (go_at_call 61; (with_reducible refine (cloneB _ bs W0.drew (H.out.below B0d.out) (by have := HN.out; omega)).mono ?_); rintro e w2 ⟨u, rfl, hI, hb⟩; obtain ⟨g, cap, rfl⟩ := hI.some_ (by have := HN.out; omega); rw [← HN.out] at hI ⊢; have HI := Lib.hid hI; have hgB := hI.blk.1; have Y1 := Lib.hid (X1d.out.below hb X1d.out.lt); have Y2 := Lib.hid (X2d.out.below hb X2d.out.lt); have B2 := Lib.hid (B0d.out.trans (hb.mono B0d.out.size)); clear hI hb; obtain ⟨e0, e1, f0⟩ := Y1.out.two; skip)
    | (go_at_call 71; (with_reducible refine (deleteB W0.drew.heap.size g l cap k bs w2 HI.out HN.out hk hl).mono ?_); rintro e w3 ⟨rfl, hI3, hG3⟩; have Z1 := Lib.hid (Y1.out.kept hG3 (by intro h; injection h with h; have := ZD.out; omega)); have Z2 := Lib.hid (Y2.out.kept hG3 (by intro h; injection h with h; have := ZD.out; omega)); have HI3 := Lib.hid hI3; have B3 := Lib.hid (B2.out.grown hG3 B2.out.size (by intro q hq; cases hq; have := ZD.out; have := B0.out.size; omega)); clear hI3 hG3; obtain ⟨p0, p1, p2⟩ := Z1.out.two; obtain ⟨r0, r1, r2⟩ := Z2.out.two; have q0 := Z2.out.fr 0; have q1 := Z2.out.fr 1; skip))
  all_goals
    have HF := Lib.hid ((Z2.out.set 0 (.int .i64 n)).set 1 (.slice (some ⟨g, 0, none⟩) (l - 1) cap))
    have HR := Lib.hid (((HI3.out.far (p := ⟨w.heap.size + 1, 0, none⟩) (by have := ZD.out; simp; omega) (.int .i64 n)).far (p := ⟨w.heap.size + 1, 1, none⟩) (by have := ZD.out; simp; omega) (.slice (some ⟨g, 0, none⟩) (l - 1) cap)).mono (B := w.heap.size) (by have := ZD.out; omega))
    have HBf := Lib.hid ((B3.out.setCell (p := ⟨w.heap.size + 1, 0, none⟩) (by simp) (.int .i64 n)).setCell (p := ⟨w.heap.size + 1, 1, none⟩) (by simp) (.slice (some ⟨g, 0, none⟩) (l - 1) cap))
    generalize World.setCell _ _ _ = wf at *
    have f0 : wf.cell? ⟨w.heap.size + 1, 0, none⟩ = some (.int .i64 n) := (HF.out.cell 0).trans (by simp)
    have f1 : wf.cell? ⟨w.heap.size + 1, 1, none⟩ = some (.slice (some ⟨g, 0, none⟩) (l - 1) cap) := (HF.out.cell 1).trans (by simp)
    go_wp2
    exact bodyPost_ret (v := .agg #[.int .i64 n, .slice (some ⟨g, 0, none⟩) (l - 1) cap]) (by simp [results, Try.results55, go_sem, f0, f1]) rfl ⟨_, rfl, HR.out, HBf.out⟩
end Go.Proofs.Ytihdajiikonijaa
