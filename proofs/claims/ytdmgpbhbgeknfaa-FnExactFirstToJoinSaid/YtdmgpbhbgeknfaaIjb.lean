/- slices.Backward at ints; impl.advance (lists of 16 or fewer below 16; out of XJb). -/
import Derived.Test.YtdmgpbhbgeknfaaIjp
import Derived.Test.YtdmgpbhbgeknfaaIfi
import Derived.RangeFuncNested
import Derived.RangeFuncBound
import Derived.RangeFuncCalls
import Derived.RangeFuncLeaves
import Derived.RangeFuncBox
import Derived.Shelf.Abstract
import Derived.Shelf.RegionOpen
import Derived.OwnWalkIn
import Derived.TacticsInMore
import Derived.LoopNIn
import Derived.LoopIn
namespace Go.Proofs.Ytdmgpbhbgeknfaa
set_option linter.unusedVariables false
open Go.RowKit Go.Shelf
attribute [local go_sem] Oper.semAt_some

/-- what has come when k rounds are over -/
def dn (L : List Nat) (n : Nat) : Nat → List (Fin 16 × Fin 16)
  | 0 => []
  | k + 1 => dn L n k ++ [(Fin.ofNat 16 (n - 1 - k), Fin.ofNat 16 (L.getD (n - 1 - k) 0))]
theorem dn_len (L : List Nat) (n : Nat) : ∀ k, (dn L n k).length = k
  | 0 => rfl
  | k + 1 => by simp [dn, dn_len L n k]
theorem dn_s (L : List Nat) (n k : Nat) : dn L n (k + 1) = dn L n k ++ [(Fin.ofNat 16 (n - 1 - k), Fin.ofNat 16 (L.getD (n - 1 - k) 0))] := rfl
theorem fin8 {a : Nat} (h : a < 16) : (Fin.ofNat 16 a).val = a := Nat.mod_eq_of_lt h

set_option maxRecDepth 100000 in
set_option maxHeartbeats 2000000 in
theorem backJ (F : Fence) (n : Nat) (h7 : F.fn 67) (hro : F.round = none) (hn : 1 ≤ n) (l Bs n₀ b len cap : Nat) (L : List Nat) (hL : ∀ j, L.getD j 0 < 16) (hl : len ≤ 16) (hb : b < n₀) (hBn : Bs < n₀) (J Jx : List (Fin 16 × Fin 16) → World → Prop)
    (hY : ∀ pre x W, J pre W → pre.length < len → YieldAt F (n - 1) Try.prog l #[.int .i64 (x.1.val : Int), .int .i64 (x.2.val : Int)] W fun e W' =>
      (e = .returned (.bool true) ∧ J (pre ++ [x]) W' ∧ Below n₀ W W') ∨ (e = .returned (.bool false) ∧ Jx (pre ++ [x]) W'))
    (W : World) (hBs : W.cell? ⟨Bs, 0, none⟩ = some (.slice (some ⟨b, 0, none⟩) len cap)) (hc : ∀ j, j < len → W.cell? ⟨b, j, none⟩ = some (.int .i64 (L.getD j 0 : Nat))) (h0 : J [] W) :
    CallsIn F n Try.prog 67 #[.func (.yield l) #[] #[], .pointer (some ⟨Bs, 0, none⟩)] W fun e W' => (∃ v, e = .returned v) ∧
      ((∃ ys, ys = dn L len len ∧ J ys W') ∨ ∃ pre, (∃ k, k ≤ len ∧ pre = dn L len k) ∧ Jx pre W') := by
  refine callsIn_of_wp Try.func67 rfl h7 ?_ hro
  simp only [Try.ntmps67, List.size_toArray, List.length_cons, List.length_nil, Nat.reduceAdd, Nat.reduceSub, Array.replicate_succ, Array.replicate_zero, List.push_toArray, List.append_toArray, List.nil_append, List.cons_append]
  gi_wp2
  gi_loopw [3] (fun i wr => ∃ k : Nat, k ≤ len ∧ i = .int .i64 ((len : Int) - 1 - k) ∧ J (dn L len k) wr ∧ Below n₀ W wr)
    (fun i _ => (intOf i + 1).toNat)
  case atStart => exact ⟨0, Nat.zero_le _, by simp, h0, Below.refl _ _⟩
  case round =>
    obtain ⟨k, hk, rfl, hJs, hnx⟩ := hrel
    have hbx := (hnx.cell (p := ⟨Bs, 0, none⟩) hBn).trans hBs
    by_cases hlt : k < len
    · obtain ⟨m, hm⟩ : ∃ m, m = len - 1 - k := ⟨_, rfl⟩
      have hmi : (len : Int) - 1 - k = (m : Int) := by omega
      have hml : m < len := by omega
      have hmli : (m : Int) < len := by omega
      have hcx := (hnx.cell (p := ⟨b, m, none⟩) hb).trans (hc m hml)
      obtain ⟨fn, tmps, assign, body, hy, hR⟩ := hY _ (Fin.ofNat 16 m, Fin.ofNat 16 (L.getD m 0)) wr hJs (by rw [dn_len]; exact hlt)
      dsimp only at hy
      rw [fin8 (by omega), fin8 (hL m)] at hy
      have HS := Lib.hid (show dn L len (k + 1) = dn L len k ++ [(Fin.ofNat 16 m, Fin.ofNat 16 (L.getD m 0))] by rw [hm]; rfl)
      rw [hmi]
      have HM := Lib.hid hm
      clear hm
      generalize Fin.ofNat 16 (L.getD m 0) = q at *
      generalize Fin.ofNat 16 m = q1 at *
      generalize L.getD m 0 = y at *
      gi_wp2
      refine hR.mono ?_
      rintro e W3 (⟨rfl, hJ3, hk3⟩ | ⟨rfl, hJx3⟩)
      · gi_wp2
        go_roundw
        case rel => exact ⟨k + 1, by omega, (by congr 1 <;> (have := HM.out; omega)), by rw [HS.out]; exact hJ3, hnx.trans hk3⟩
        case measure => (simp [intOf]; try omega)
      · gi_wp2
        refine bodyPost_ret (results_none rfl _ _ _) rfl ?_
        exact ⟨⟨_, rfl⟩, .inr ⟨_, ⟨k + 1, by omega, HS.out.symm⟩, hJx3⟩⟩
    · obtain rfl : k = len := by omega
      gi_wp2
      go_end0
      exact ⟨⟨_, rfl⟩, .inl ⟨_, rfl, hJs⟩⟩

theorem back_in (F : Fence) (n : Nat) (h : F.fn 62) (hro : F.round = none) (a : Option Addr) (len cap : Nat) (w : World) :
    CallsIn F n Try.prog 62 #[.slice a len cap] w fun e w' => e = .returned (.func (.func 67) #[] #[.pointer (some ⟨w.heap.size, 0, none⟩)]) ∧ w' = w.alloc (.cells #[.slice a len cap] 39) := by
  refine callsIn_of_wp Try.func62 rfl h ?_ hro
  simp only [Try.ntmps62, List.size_toArray, List.length_cons, List.length_nil, Nat.reduceAdd, Nat.reduceSub, Array.replicate_succ, Array.replicate_zero, List.push_toArray, List.append_toArray, List.nil_append, List.cons_append]
  gi_wp2
  go_ret
  exact ⟨rfl, rfl⟩

theorem back_stops (F : Fence) (n : Nat) (h7 : F.fn 67) (hro : F.round = none) (hn : 1 ≤ n) (Bs n₀ b len cap : Nat) (L : List Nat) (hL : ∀ j, L.getD j 0 < 16) (hl : len ≤ 16) (hb : b < n₀) (hBn : Bs < n₀) (w : World) (hn₀ : n₀ ≤ w.heap.size)
    (hBs : w.cell? ⟨Bs, 0, none⟩ = some (.slice (some ⟨b, 0, none⟩) len cap)) (hc : ∀ j, j < len → w.cell? ⟨b, j, none⟩ = some (.int .i64 (L.getD j 0 : Nat))) :
    SeqStopsK F n Try.prog 67 #[.pointer (some ⟨Bs, 0, none⟩)] (fun x : Fin 16 × Fin 16 => #[Value.int .i64 (x.1.val : Int), Value.int .i64 (x.2.val : Int)]) (Below n₀) (fun ys => ys = dn L len len) (fun pre => ∃ k, k ≤ len ∧ pre = dn L len k) len w := fun l J Jx W hW _ _ hY h0 =>
  backJ F n h7 hro hn l Bs n₀ b len cap L hL hl hb hBn J Jx hY W ((hW.cell (p := ⟨Bs, 0, none⟩) (by show Bs < _; omega)).trans hBs) (fun j hj => (hW.cell (p := ⟨b, j, none⟩) (by show b < _; omega)).trans (hc j hj)) h0

/-- there is no room at what came -/
def full (n len : Nat) (x : Fin 16 × Fin 16) : Prop := (n : Int) - x.2.val - 1 < (len : Int) - x.1.val
/-- the list with the numbers behind a place told anew -/
def fill (l : List Nat) (i y j : Nat) : List Nat := l.take i ++ upI (y + 1) j ++ l.drop (i + j)
theorem fill_0 (l : List Nat) (i y : Nat) : fill l i y 0 = l := by simp [fill, upI]
theorem upI_snocX (a c : Nat) : upI a (c + 1) = upI a c ++ [a + c] := by
  induction c generalizing a with
  | zero => simp [upI]
  | succ c ih =>
    show a :: upI (a + 1) (c + 1) = a :: upI (a + 1) c ++ [a + (c + 1)]
    rw [ih]; simp; omega
theorem fill_s {l : List Nat} {i y j : Nat} (h : i + j < l.length) : idx (fill l i y (j + 1)) = (idx (fill l i y j)).set (i + j) ((y + 1 + j : Nat) : Int) := by
  have h1 : (l.take i).length = i := by simp; omega
  unfold fill idx
  rw [← List.map_set]
  congr 1
  rw [List.drop_eq_getElem_cons h, List.set_append_right _ _ (by simp [h1, upI_len]), upI_snocX]
  simp [h1, upI_len, Nat.add_assoc]
theorem fill_len {l : List Nat} {i y j : Nat} (h : i + j ≤ l.length) : (fill l i y j).length = l.length := by
  simp [fill, upI_len]; omega
theorem fill_end {l : List Nat} {i y : Nat} (h : i ≤ l.length) : fill l i y (l.length - i) = l.take i ++ upI (y + 1) (l.length - i) := by
  unfold fill
  rw [show i + (l.length - i) = l.length by omega, List.drop_length, List.append_nil]

theorem Ints.low {w w' : World} {B c : Nat} {v : Value} {zs : List Int} {row : Option Nat} (h : Ints w B v zs) (hg : w.grownBy w' row) (hr : ∀ r, row = some r → c ≤ r) (hv : ∀ k, v.ownBlock = some k → k < c) : Ints w' B v zs := by
  refine h.kept hg ?_
  cases e : v.ownBlock with
  | none => exact .inl rfl
  | some k => exact .inr fun e2 => by have := hr k (e2.symm); have := hv k e; omega
theorem boxLow {w w' : World} {S c : Nat} {t : TypeId} {v : Value} {row : Option Nat} (h : Boxed w S t v) (hg : w.grownBy w' row) (hr : ∀ r, row = some r → c ≤ r) (hS : S < c) : Boxed w' S t v :=
  h.kept hg fun e => by have := hr S e.symm; omega

theorem dn_mem {L : List Nat} {m : Nat} {P : Fin 16 × Fin 16 → Prop} : ∀ {k : Nat}, k ≤ m → (∀ p ∈ dn L m k, P p) → ∀ j, m - k ≤ j → j < m → P (Fin.ofNat 16 j, Fin.ofNat 16 (L.getD j 0))
  | 0, _, _, j, h1, h2 => absurd h2 (by omega)
  | k + 1, hk, h, j, h1, h2 => by
    by_cases e : j = m - 1 - k
    · subst e
      exact h _ (by rw [dn_s]; simp)
    · exact dn_mem (k := k) (by omega) (fun p hp => h p (by rw [dn_s]; exact List.mem_append_left _ hp)) j (by omega) h2
theorem full_iff {n m j y : Nat} (hj : j < m) (hm : m ≤ 16) (hy : y < n) (hn : n ≤ 16) : full n m (Fin.ofNat 16 j, Fin.ofNat 16 y) ↔ n - (y + 1) < m - j := by
  unfold full
  simp only
  rw [fin8 (by omega), fin8 (by omega)]
  omega

theorem Ints.form2 {w : World} {B g n cap : Nat} {zs : List Int} (h : Ints w B (.slice (some ⟨g, 0, none⟩) n cap) zs) : n = zs.length ∧ n ≤ cap ∧ cap ≤ maxLen ∧ B ≤ g ∧ g < w.heap.size ∧ ∀ j, j < n → w.cell? ⟨g, j, none⟩ = some (.int .i64 (gt zs j)) := by
  have hb := h.blk
  rcases h.2 with ⟨e, _⟩ | ⟨g', cap', cur, e, hB, hg, h3, h4, h5, h6⟩
  · cases e
  injection e with e1 e2 e3
  subst e2 e3
  exact ⟨rfl, h3, h4, hb.1, hb.2, fun j hj => Ints.cell h rfl j hj⟩
theorem below_gb {w w' : World} (h : Below w.heap.size w w') (r : Option Nat) : w.grownBy w' r := ⟨h.os, h.tape, h.output, h.size, fun k hk _ => h.block k hk⟩
theorem gb_row {w A C : World} {g : Nat} {row : Option Nat} (h : w.grownBy A (some g)) (hg : A.grownBy C row) (hr : ∀ k, row = some k → w.heap.size ≤ k) : w.grownBy C (some g) :=
  ⟨hg.os.trans h.os, hg.tape.trans h.tape, hg.output.trans h.output, Nat.le_trans h.size hg.size, fun k hk hne => (hg.block k (Nat.lt_of_lt_of_le hk h.size) (fun e => by have := hr k e.symm; omega)).trans (h.block k hk hne)⟩
theorem gb_cell {w A : World} {g : Nat} (h : w.grownBy A (some g)) {p : Addr} (hp : w.heap.size ≤ p.block) (u : Value) : w.grownBy (A.setCell p u) (some g) :=
  ⟨h.os, h.tape, h.output, by have := h.size; simpa using this, fun k hk hne => (Below.heap_setCell A p u k (by omega)).trans (h.block k hk hne)⟩
theorem gb_below {w A C : World} {g S : Nat} (hS : w.heap.size = S) (h : w.grownBy A (some g)) (hb : Below S A C) : w.grownBy C (some g) := by
  subst hS
  exact ⟨hb.os.trans h.os, hb.tape.trans h.tape, hb.output.trans h.output, Nat.le_trans h.size hb.size, fun k hk hne => (hb.block k hk).trans (h.block k hk hne)⟩
set_option maxRecDepth 100000 in
set_option maxHeartbeats 4000000 in
theorem advance (v : Value) (l : List Nat) (n : Nat) (BB : Nat) (w : World) (h : Ints w BB v (idx l)) (hv : ∃ g n c, v = .slice (some ⟨g, 0, none⟩) n c) (hl2 : l.length ≤ 16) (hlt : ∀ x ∈ l, x < n) (hn : n ≤ 16) :
    Calls Try.prog 55 #[v, .int .i64 n] w fun e w' => e = .returned (.bool (nxt n l).isSome) ∧ Ints w' BB v (idx ((nxt n l).getD l)) ∧ w.grownBy w' v.ownBlock := by
  obtain ⟨g, m, cap, rfl⟩ := hv
  obtain ⟨hm, hmc, hcm, hBg, hgw, hcell⟩ := h.form2
  rw [idx_len] at hm
  have hBw : BB ≤ w.heap.size := by omega
  have hget : ∀ j, j < l.length → l.getD j 0 < n := fun j hj => by
    rw [List.getD_eq_getElem?_getD, List.getElem?_eq_getElem hj]; exact hlt _ (List.getElem_mem _)
  have hL8 : ∀ j, l.getD j 0 < 16 := fun j => by
    by_cases hj : j < l.length
    · have := hget j hj; omega
    · rw [List.getD_eq_getElem?_getD, List.getElem?_eq_none (by omega)]; decide
  have hc : ∀ j, j < m → w.cell? ⟨g, j, none⟩ = some (.int .i64 (l.getD j 0 : Nat)) := fun j hj => by rw [hcell j hj, idx_gt]
  rw [← hm] at hl2
  have HM := Lib.hid hm
  clear hm
  refine (callsIn_wide (n := 9)).1 ?_
  refine callsIn_of_wp_marks Try.func55 rfl trivial ?_ rfl
  simp only [Try.ntmps55, List.size_toArray, List.length_cons, List.length_nil, Nat.reduceAdd, Nat.reduceSub, Array.replicate_succ, Array.replicate_zero, List.push_toArray, List.append_toArray, List.nil_append, List.cons_append]
  gi_wp2_with (refine ⟨trivial, ?_⟩; gi_at_call 62; refine (back_in Fence.wide _ trivial rfl _ _ _ _).mono ?_; rintro e w' ⟨rfl, rfl⟩)
  have b0 := Boxed.new w 39 (.slice (some ⟨g, 0, none⟩) m cap)
  have b1 := Boxed.new (w.alloc (.cells #[.slice (some ⟨g, 0, none⟩) m cap] 39)) 3 (.int .i64 (n : Int))
  have b2 := Boxed.new ((w.alloc (.cells #[.slice (some ⟨g, 0, none⟩) m cap] 39)).alloc (.cells #[.int .i64 (n : Int)] 3)) 4 (.bool false)
  have b3 := Boxed.new (((w.alloc (.cells #[.slice (some ⟨g, 0, none⟩) m cap] 39)).alloc (.cells #[.int .i64 (n : Int)] 3)).alloc (.cells #[.bool false] 4)) 39 (.slice (some ⟨g, 0, none⟩) m cap)
  have b0' := ((b0.alloc (.cells #[.int .i64 (n : Int)] 3)).alloc (.cells #[.bool false] 4)).alloc (.cells #[.slice (some ⟨g, 0, none⟩) m cap] 39)
  have b1' := (b1.alloc (.cells #[.bool false] 4)).alloc (.cells #[.slice (some ⟨g, 0, none⟩) m cap] 39)
  have b2' := b2.alloc (.cells #[.slice (some ⟨g, 0, none⟩) m cap] 39)
  have hB0 : Below w.heap.size w ((((w.alloc (.cells #[.slice (some ⟨g, 0, none⟩) m cap] 39)).alloc (.cells #[.int .i64 (n : Int)] 3)).alloc (.cells #[.bool false] 4)).alloc (.cells #[.slice (some ⟨g, 0, none⟩) m cap] 39)) :=
    ((((Below.refl _ w).alloc (Nat.le_refl _) _).alloc (by simp) _).alloc (by simp; omega) _).alloc (by simp; omega) _
  have hsz : ((((w.alloc (.cells #[.slice (some ⟨g, 0, none⟩) m cap] 39)).alloc (.cells #[.int .i64 (n : Int)] 3)).alloc (.cells #[.bool false] 4)).alloc (.cells #[.slice (some ⟨g, 0, none⟩) m cap] 39)).heap.size = w.heap.size + 4 := by simp
  simp only [World.size_alloc] at b1' b2' b3
  generalize ((((w.alloc (.cells #[.slice (some ⟨g, 0, none⟩) m cap] 39)).alloc (.cells #[.int .i64 (n : Int)] 3)).alloc (.cells #[.bool false] 4)).alloc (.cells #[.slice (some ⟨g, 0, none⟩) m cap] 39)) = W0 at *
  have hI0 : Ints W0 BB (.slice (some ⟨g, 0, none⟩) m cap) (idx l) := h.below hB0
  have hc0 : ∀ j, j < m → W0.cell? ⟨g, j, none⟩ = some (.int .i64 (l.getD j 0 : Nat)) := fun j hj => (hB0.cell (p := ⟨g, j, none⟩) hgw).trans (hc j hj)
  have hBB : w.grownBy W0 (some g) := below_gb hB0 _
  have ST := back_stops Fence.wide 8 trivial rfl (by decide) (w.heap.size + 1 + 1 + 1) (w.heap.size + 4) g m cap l hL8 hl2 (by omega) (by omega) W0 (by omega) b3.cell hc0
  generalize hS : w.heap.size = S at *
  have own1 : ∀ k, (Value.slice (some ⟨g, 0, none⟩) m cap).ownBlock = some k → k < W0.heap.size := by
    intro k e
    have e2 : g = k := by simpa [Value.ownBlock] using e
    omega
  clear b0 b1 b2 hB0 h hcell hc0 hc
  refine wpIn_rangeFunc_ownG rfl (by decide) (gf := 67) (lb := #[.pointer (some ⟨S + 1 + 1 + 1, 0, none⟩)]) rfl trivial (enters_of Try.func67 (by kernel_rfl) rfl)
    ST belowK_t (belowK_b (by omega)) (Below.refl _ _) (fun _ => rfl)
    (fun pre W => (∀ p ∈ pre, full n m p) ∧ Boxed W S 39 (.slice (some ⟨g, 0, none⟩) m cap) ∧ Boxed W (S + 1) 3 (.int .i64 (n : Int)) ∧ Boxed W (S + 1 + 1) 4 (.bool false) ∧ Ints W BB (.slice (some ⟨g, 0, none⟩) m cap) (idx l) ∧ w.grownBy W (some g))
    (fun c pre W => c = .ret ∧ ∃ ini last, pre = ini ++ [last] ∧ (∀ p ∈ ini, full n m p) ∧ ¬ full n m last ∧ Boxed W (S + 1 + 1) 4 (.bool true) ∧ Ints W BB (.slice (some ⟨g, 0, none⟩) m cap) (idx (fill l last.1.val last.2.val (m - last.1.val))) ∧ w.grownBy W (some g))
    (fun s A C row hs hg hr => ⟨hs.1, boxLow hs.2.1 hg (fun r e => (hr r e).1) (by omega), boxLow hs.2.2.1 hg (fun r e => (hr r e).1) (by omega), boxLow hs.2.2.2.1 hg (fun r e => (hr r e).1) (by omega), hs.2.2.2.2.1.low hg (fun r e => (hr r e).1) own1, gb_row hs.2.2.2.2.2 hg (fun k e => by have := (hr k e).1; omega)⟩)
    (fun c s A C row hs hg hr => by
      obtain ⟨hc, ini, last, e1, e2, e3, e4, e5, e6⟩ := hs
      exact ⟨hc, ini, last, e1, e2, e3, boxLow e4 hg (fun r e => (hr r e).1) (by omega), e5.low hg (fun r e => (hr r e).1) own1, gb_row e6 hg (fun k e => by have := (hr k e).1; omega)⟩)
    ⟨by simp, b0', b1', b2', hI0, hBB⟩
    (fun x => { tmps := #[.slice (some ⟨g, 0, none⟩) m cap, .int .i64 (n : Int), .pointer (some ⟨S, 0, none⟩), .pointer (some ⟨S + 1, 0, none⟩), .pointer (some ⟨S + 1 + 1, 0, none⟩), .int .i64 (x.1.val : Int), .int .i64 (x.2.val : Int), undef, undef, .slice (some ⟨g, 0, none⟩) m cap, .func (.func 67) #[] #[.pointer (some ⟨S + 1 + 1 + 1, 0, none⟩)], .int .i64 (x.1.val : Int), .int .i64 (x.2.val : Int), undef, undef, undef, undef, undef, undef, undef, undef, undef, undef, undef, undef, undef, undef, undef, undef, undef, undef, undef, undef, undef, undef, undef], defers := [] }) ?assign ?body ?done ?stop
  case assign =>
    intro l x W K hK
    gi_wp2
    exact hK
  case body =>
    rintro lw pre ⟨⟨i, hi⟩, ⟨y, hy⟩⟩ W ⟨hp, x0, x1, x2, hI, hB⟩ hlen
    dsimp only
    have c0 := x0.cell
    have c1 := x1.cell
    have c2 := x2.cell
    have f2 := x2.frozen
    have hz := x2.lt
    have HP := Lib.hid hp
    have HI := Lib.hid hI
    have HB := Lib.hid hB
    have X0 := Lib.hid x0
    have X1 := Lib.hid x1
    have X2 := Lib.hid x2
    clear hp hI hB x0 x1 x2 ST b0' b1' b2' b3 hI0 hBB
    by_cases hf : (n : Int) - y - 1 < (m : Int) - i
    · gi_wp2
      refine ⟨KeepsFrom.refl _ _, Below.refl _ _, ?_, X0.out, X1.out, X2.out, HI.out, HB.out⟩
      intro p hp
      rcases List.mem_append.1 hp with h | h
      · exact HP.out p h
      · rw [List.mem_singleton.1 h]; exact hf
    · gi_wp2
      clear c0 c1 c2 f2
      gi_loopw [6, 8] (fun ix jx wr => ∃ t : Nat, (t ≤ m - i) ∧ jx = .int .i64 ((i : Int) + t) ∧ ix = .int .i64 ((y : Int) + t) ∧ Hid (Ints wr BB (.slice (some ⟨g, 0, none⟩) m cap) (idx (fill l i y t))) ∧ Hid (W.grownBy wr (some g))) (fun _ jx _ => m - (intOf jx).toNat)
      case atStart => exact ⟨0, Nat.zero_le _, by simp, by simp, Lib.hid (by rw [fill_0]; exact HI.out), Lib.hid (World.grownBy.refl _ _)⟩
      case round =>
        obtain ⟨t, ht, rfl, rfl, hI, hgr⟩ := hrel
        have y0 := X0.out.kept hgr.out (by intro e; cases e; omega)
        have y2 := X2.out.kept hgr.out (by intro e; cases e; omega)
        have c0 := y0.cell
        have c2 := y2.cell
        have f2 := y2.frozen
        have hzr := y2.lt
        by_cases hlt2 : i + t < m
        · have hfl : m = (idx (fill l i y t)).length := by rw [idx_len, fill_len (by have := HM.out; omega)]; exact HM.out
          have d1 := hI.out.cell hfl (i + t) hlt2
          have d2 := hI.out.frz hfl (i + t)
          have SS := hI.out.set hfl (i + t) ((y + 1 + t : Nat) : Int)
          rw [← fill_s (by have := HM.out; omega)] at SS
          have HS := Lib.hid SS
          have e1 : ((y + 1 + t : Nat) : Int) = (y : Int) + t + 1 := by omega
          rw [e1] at HS
          have e2 : (i : Int) + t = ((i + t : Nat) : Int) := by omega
          have e3 : ((i + t : Nat) : Int) < m := by omega
          have HG := Lib.hid (hgr.out.trans HS.out.2)
          have hg1 : g < wr.heap.size := by omega
          rw [e2]
          clear SS hfl y0 y2 hgr hI e1 e2
          generalize gt (idx (fill l i y t)) (i + t) = z at *
          gi_wp2
          go_roundw
          case rel => exact ⟨t + 1, by omega, by go_num, by go_num, Lib.hid HS.out.1, HG⟩
          case measure => (simp [intOf]; try omega)
        · obtain rfl : t = m - i := by omega
          have e3 : ¬ ((i : Int) + ((m - i : Nat) : Int) < m) := by omega
          gi_wp2
          refine ⟨(KeepsFrom.of_grownBy hgr.out (by intro j e; cases e; omega)).trans ((KeepsOthers.setCell _ _ _).from _), rfl, pre, ⟨i, hi⟩, ⟨y, hy⟩, rfl, fun a b h => HP.out (a, b) h, (by show ¬ ((n : Int) - y - 1 < (m : Int) - i); omega), y2.set _, ?_, ?_⟩
          · refine hI.out.kept (grownBy_setCell' wr (S + 1 + 1) _) (.inr ?_)
            intro e
            have e2 : g = S + 1 + 1 := by simpa [Value.ownBlock] using e
            omega
          · exact gb_cell (HB.out.trans hgr.out) (p := ⟨S + 1 + 1, 0, none⟩) (by show w.heap.size ≤ S + 1 + 1; omega) _
  case done =>
    rintro D ys W hD rfl ⟨hne, x0, x1, x2, hI, hB⟩ hK
    have hm := HM.out
    have R : nxt n l = none := nxt_none n l fun j hj => (full_iff (m := l.length) hj (by omega) (hget j hj) hn).1 (by rw [← hm]; exact dn_mem (Nat.le_refl _) hne j (by omega) (by omega))
    have c2 := x2.cell
    have f2 := x2.frozen
    clear hm
    gi_wp2
    have hK' := (KeepsOthers.setCell W ⟨S + 1 + 1, 0, none⟩ (.bool false)).same D _ hK rfl
    refine ⟨by simp, .inl ⟨_, _, rfl, run_takeDeferred hK', ?_⟩⟩
    have hc5 := cell_kept (World.cell?_setCell_same' W ⟨S + 1 + 1, 0, none⟩ (.bool false) (by rw [c2]; rfl)) (grownBy_putObj' _ D (.deferred none)) (fun r e => by cases e; exact ⟨_, hK', rfl⟩)
    have hI2 : Ints (W.setCell ⟨S + 1 + 1, 0, none⟩ (.bool false)) BB (.slice (some ⟨g, 0, none⟩) m cap) (idx l) := hI.kept (grownBy_setCell' W (S + 1 + 1) _) (.inr (by
      intro e
      have e2 : g = S + 1 + 1 := by simpa [Value.ownBlock] using e
      omega))
    refine ⟨.bool false, ?_, by rw [R]; rfl, by rw [R]; exact ownsRow_putObj hI2 _ hK' rfl, gb_below (S := S) hS (gb_cell hB (p := ⟨S + 1 + 1, 0, none⟩) (by show w.heap.size ≤ S + 1 + 1; omega) _) (belowK_b (w := W0) (by omega) _ D _ _ hD hK' rfl rfl)⟩
    simp [results, Try.f55, go_sem, hc5]
  case stop =>
    rintro D c pre W hD ⟨k, hk, rfl⟩ ⟨rfl, ini, last, e1, e2, e3, x2, hI, hB⟩ hK
    obtain ⟨k', rfl⟩ : ∃ k', k = k' + 1 := by
      cases k with
      | zero => simp [dn] at e1
      | succ k' => exact ⟨k', rfl⟩
    have hm := HM.out
    rw [dn_s] at e1
    obtain ⟨rfl, e5⟩ := List.append_inj' e1 rfl
    have e6 := List.head_eq_of_cons_eq e5
    have R : nxt n l = some (l.take (m - 1 - k') ++ upI (l.getD (m - 1 - k') 0 + 1) (l.length - (m - 1 - k'))) := by
      refine nxt_at n l (m - 1 - k') (by omega) ?_ fun j h1 h2 => (full_iff (m := l.length) h2 (by omega) (hget j h2) hn).1 (by rw [← hm]; exact dn_mem (k := k') (by omega) e2 j (by omega) (by omega))
      have := mt (full_iff (n := n) (m := m) (j := m - 1 - k') (y := l.getD (m - 1 - k') 0) (by omega) (by omega) (hget _ (by omega)) hn).2 (by rw [e6]; exact e3)
      omega
    rw [← e6] at hI
    dsimp only at hI
    rw [fin8 (by omega), fin8 (hL8 _), show m - (m - 1 - k') = l.length - (m - 1 - k') by omega, fill_end (by omega)] at hI
    clear hm
    gi_wp2
    refine ⟨by simp, .inl ⟨_, _, rfl, run_takeDeferred hK, ?_⟩⟩
    have hc5 := cell_kept x2.cell (grownBy_putObj' _ D (.deferred none)) (fun r e => by cases e; exact ⟨_, hK, rfl⟩)
    refine ⟨.bool true, ?_, by rw [R]; rfl, by rw [R]; exact ownsRow_putObj hI _ hK rfl, gb_below (S := S) hS hB (belowK_b (w := W0) (by omega) _ D _ _ hD hK rfl rfl)⟩
    simp [results, Try.f55, go_sem, hc5]
end Go.Proofs.Ytdmgpbhbgeknfaa
