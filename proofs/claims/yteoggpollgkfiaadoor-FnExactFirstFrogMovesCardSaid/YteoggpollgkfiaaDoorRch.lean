/- spec.fgReach: the ponds in the order of the search, for each the one before, the move, and in how many ways. -/
import Derived.Test.YteoggpollgkfiaaDoorAt
import Derived.Test.YteoggpollgkfiaaDoorMvs
import Derived.RegionTactic
import Derived.ChangeAlike
import Derived.BigRegion
namespace Go.Proofs.YteoggpollgkfiaaDoor
set_option linter.unusedVariables false
open Go.RowKit

abbrev T3 := List Int × List Int × List Int
def stepW (W : List Int) (a k : Nat) : List Int := W.set k (wrap64 (gt W k + gt W a))
def stepT (L : List ByteArray) (a i : Nat) (r : ByteArray) (t : T3) : T3 :=
  if memB L r then (t.1, t.2.1, stepW t.2.2 a (idxL L r)) else (t.1 ++ [(a : Int)], t.2.1 ++ [(i : Int)], stepW (t.2.2 ++ [0]) a L.length)
theorem stepT_old {L : List ByteArray} {a i : Nat} {r : ByteArray} {t : T3} (h : r ∈ L) : stepT L a i r t = (t.1, t.2.1, stepW t.2.2 a (idxL L r)) := by simp [stepT, memB_iff.2 h]
theorem stepT_new {L : List ByteArray} {a i : Nat} {r : ByteArray} {t : T3} (h : ¬ r ∈ L) : stepT L a i r t = (t.1 ++ [(a : Int)], t.2.1 ++ [(i : Int)], stepW (t.2.2 ++ [0]) a L.length) := by simp [stepT, memB_no h]
def inT (L : List ByteArray) (q : ByteArray) (a : Nat) (t : T3) : Nat → T3
  | 0 => t
  | k + 1 => stepT (exTo L q k) a ((moves q).getD k 0) (goes q ((moves q).getD k 0)) (inT L q a t k)
def bT (s : ByteArray) : Nat → T3
  | 0 => ([-1], [-1], [1])
  | j + 1 => if j < (bfs s j).length then inT (bfs s j) ((bfs s j).getD j ⟨#[]⟩) j (bT s j) (moves ((bfs s j).getD j ⟨#[]⟩)).length else bT s j
theorem bT_succ {s : ByteArray} {j : Nat} (h : j < (bfs s j).length) : bT s (j + 1) = inT (bfs s j) ((bfs s j).getD j ⟨#[]⟩) j (bT s j) (moves ((bfs s j).getD j ⟨#[]⟩)).length := by simp [bT, h]
theorem bT_else {s : ByteArray} {j : Nat} (h : ¬ j < (bfs s j).length) : bT s (j + 1) = bT s j := by simp [bT, h]
theorem bT_end {s : ByteArray} {j : Nat} (h : ¬ j < (bfs s j).length) : ∀ k, bT s (j + k) = bT s j
  | 0 => rfl
  | k + 1 => by
    have ih := bT_end h k
    show bT s ((j + k) + 1) = _
    rw [bT_else (by rw [bfs_end h k]; omega), ih]
def reachT (s : ByteArray) : T3 := bT s 262145
theorem reachT_at {s : ByteArray} {j : Nat} (h : ¬ j < (bfs s j).length) (hj : j ≤ 262145) : bT s j = reachT s := by
  unfold reachT
  have := bT_end h (262145 - j)
  rw [show j + (262145 - j) = 262145 from by omega] at this
  exact this.symm
/-- all three are as long as the list -/
def lens (t : T3) (n : Nat) : Prop := t.1.length = n ∧ t.2.1.length = n ∧ t.2.2.length = n
theorem stepT_lens {L : List ByteArray} {a i : Nat} {r : ByteArray} {t : T3} (h : lens t L.length) : lens (stepT L a i r t) (addN L r).length := by
  obtain ⟨h1, h2, h3⟩ := h
  by_cases e : r ∈ L
  · rw [stepT_old e, addN_old e]; exact ⟨h1, h2, by simp [stepW, h3]⟩
  · rw [stepT_new e, addN_new e]
    exact ⟨by simp [h1], by simp [h2], by simp [stepW, h3]⟩
theorem inT_lens {L : List ByteArray} {q : ByteArray} {a : Nat} {t : T3} (h : lens t L.length) : ∀ k, k ≤ (moves q).length → lens (inT L q a t k) (exTo L q k).length
  | 0, _ => h
  | k + 1, hk => by
    rw [exTo_succ (by omega)]
    exact stepT_lens (inT_lens h k (by omega))
theorem bT_lens (s : ByteArray) : ∀ j, lens (bT s j) (bfs s j).length
  | 0 => ⟨rfl, rfl, rfl⟩
  | j + 1 => by
    by_cases h : j < (bfs s j).length
    · rw [bT_succ h, bfs_succ h]
      exact inT_lens (bT_lens s j) _ (Nat.le_refl _)
    · rw [bT_else h, bfs_else h]; exact bT_lens s j

/-- two slices do not share a block -/
def ne (a b : Value) : Prop := ∀ x, a.ownBlock = some x → b.ownBlock ≠ some x
theorem ne.symm {a b : Value} (h : ne a b) : ne b a := fun x h1 h2 => h x h2 h1
theorem ints_keep {w w' : World} {B : Nat} {u v : Value} {zs : List Int} (h : Ints w B u zs) (hg : w.grownBy w' v.ownBlock) (hn : ne u v) : Ints w' B u zs := by
  refine h.kept hg ?_
  cases hu : u.ownBlock with
  | none => exact .inl rfl
  | some x => exact .inr (fun e => hn x hu e.symm)
theorem ne_grow {w : World} {B : Nat} {u v v' : Value} {zs : List Int} (h : ne v u) (hu : Ints w B u zs) (hat : v'.ownBlock = v.ownBlock ∨ v'.ownBlock = some (w.heap.size + 1)) : ne v' u := by
  intro x hx e
  rcases hat with e1 | e1
  · exact h x (e1 ▸ hx) e
  · rw [e1] at hx; injection hx with hx
    have := (World.ownsRow.lt hu x e).2
    omega
theorem Ints.neS {w : World} {B B' : Nat} {v u : Value} {l : List Int} {L : List ByteArray} (h : Ints w B v l) (hI : Strg w B' u L) : ne v u := by
  intro x hx hu
  rcases h.2 with ⟨rfl, _⟩ | ⟨g, cap, cur, rfl, _, hg, _⟩
  · cases hx
  · rcases hI.2 with ⟨rfl, _⟩ | ⟨g', cap', cur', rfl, _, hg', _⟩
    · cases hu
    · have e1 : g = x := by injection hx
      have e2 : g' = x := by injection hu
      subst e1; subst e2
      rw [hg] at hg'
      injection hg' with hg'
      injection hg' with _ h2
      exact absurd h2 (by decide)
theorem strg_keep {w w' : World} {B : Nat} {u v : Value} {zs : List ByteArray} (h : Strg w B u zs) (hg : w.grownBy w' v.ownBlock) (hn : ne u v) : Strg w' B u zs := by
  refine h.kept hg ?_
  cases hu : u.ownBlock with
  | none => exact .inl rfl
  | some x => exact .inr (fun e => hn x hu e.symm)
/-- three slices of ints and the moves, none of which share a block -/
def Four (w : World) (B : Nat) (v7 v8 v9 vm : Value) (t : T3) (mv : List Int) : Prop :=
  Ints w B v7 t.1 ∧ Ints w B v8 t.2.1 ∧ Ints w B v9 t.2.2 ∧ Ints w B vm mv ∧ ne v7 v8 ∧ ne v7 v9 ∧ ne v8 v9 ∧ ne v7 vm ∧ ne v8 vm ∧ ne v9 vm
theorem Four.below {w w' : World} {B : Nat} {v7 v8 v9 vm : Value} {t : T3} {mv : List Int} (h : Four w B v7 v8 v9 vm t mv) (hb : Below w.heap.size w w') : Four w' B v7 v8 v9 vm t mv :=
  ⟨h.1.below hb, h.2.1.below hb, h.2.2.1.below hb, h.2.2.2.1.below hb, h.2.2.2.2⟩
theorem Four.keptS {w w' : World} {B : Nat} {v6 v7 v8 v9 vm : Value} {t : T3} {mv : List Int} {L : List ByteArray} (h : Four w B v7 v8 v9 vm t mv) (hS : Strg w B v6 L) (hg : w.grownBy w' v6.ownBlock) : Four w' B v7 v8 v9 vm t mv :=
  ⟨ints_keep h.1 hg (h.1.neS hS), ints_keep h.2.1 hg (h.2.1.neS hS), ints_keep h.2.2.1 hg (h.2.2.1.neS hS), ints_keep h.2.2.2.1 hg (h.2.2.2.1.neS hS), h.2.2.2.2⟩
theorem Four.app7 {w w' : World} {B : Nat} {v7 v7' v8 v9 vm : Value} {t : T3} {F : List Int} {mv : List Int} (h : Four w B v7 v8 v9 vm t mv) (h' : Ints w' B v7' F) (hg : w.grownBy w' v7.ownBlock) (hat : v7'.ownBlock = v7.ownBlock ∨ v7'.ownBlock = some (w.heap.size + 1)) : Four w' B v7' v8 v9 vm (F, t.2.1, t.2.2) mv := by
  obtain ⟨a, b, c, d, e1, e2, e3, e4, e5, e6⟩ := h
  exact ⟨h', ints_keep b hg e1.symm, ints_keep c hg e2.symm, ints_keep d hg e4.symm, ne_grow e1 b hat, ne_grow e2 c hat, e3, ne_grow e4 d hat, e5, e6⟩
theorem Four.app8 {w w' : World} {B : Nat} {v7 v8' v8 v9 vm : Value} {t : T3} {F : List Int} {mv : List Int} (h : Four w B v7 v8 v9 vm t mv) (h' : Ints w' B v8' F) (hg : w.grownBy w' v8.ownBlock) (hat : v8'.ownBlock = v8.ownBlock ∨ v8'.ownBlock = some (w.heap.size + 1)) : Four w' B v7 v8' v9 vm (t.1, F, t.2.2) mv := by
  obtain ⟨a, b, c, d, e1, e2, e3, e4, e5, e6⟩ := h
  exact ⟨ints_keep a hg e1, h', ints_keep c hg e3.symm, ints_keep d hg e5.symm, (ne_grow e1.symm a hat).symm, e2, ne_grow e3 c hat, e4, ne_grow e5 d hat, e6⟩
theorem Four.app9 {w w' : World} {B : Nat} {v7 v8 v9' v9 vm : Value} {t : T3} {F : List Int} {mv : List Int} (h : Four w B v7 v8 v9 vm t mv) (h' : Ints w' B v9' F) (hg : w.grownBy w' v9.ownBlock) (hat : v9'.ownBlock = v9.ownBlock ∨ v9'.ownBlock = some (w.heap.size + 1)) : Four w' B v7 v8 v9' vm (t.1, t.2.1, F) mv := by
  obtain ⟨a, b, c, d, e1, e2, e3, e4, e5, e6⟩ := h
  exact ⟨ints_keep a hg e2, ints_keep b hg e3, h', ints_keep d hg e6.symm, e1, (ne_grow e2.symm a hat).symm, (ne_grow e3.symm b hat).symm, e4, e5, ne_grow e6 d hat⟩
theorem Four.set9 {w : World} {B : Nat} {v7 v8 vm : Value} {g n cap : Nat} {t : T3} {mv : List Int} (h : Four w B v7 v8 (.slice (some ⟨g, 0, none⟩) n cap) vm t mv) (hn : n = t.2.2.length) (j : Nat) (x : Int) :
    Four (w.setCell ⟨g, j, none⟩ (.int .i64 x)) B v7 v8 (.slice (some ⟨g, 0, none⟩) n cap) vm (t.1, t.2.1, t.2.2.set j x) mv := by
  obtain ⟨a, b, c, d, e1, e2, e3, e4, e5, e6⟩ := h
  have S := c.set hn j x
  exact ⟨ints_keep a (v := .slice (some ⟨g, 0, none⟩) n cap) S.2 e2, ints_keep b (v := .slice (some ⟨g, 0, none⟩) n cap) S.2 e3, S.1, ints_keep d (v := .slice (some ⟨g, 0, none⟩) n cap) S.2 e6.symm, e1, e2, e3, e4, e5, e6⟩
theorem one_int (w : World) (B : Nat) (h : B ≤ w.heap.size) (x : Int) : Ints (w.alloc (.cells #[.int .i64 x] 3)) B (.slice (some ⟨w.heap.size, 0, none⟩) 1 1) [x] :=
  World.ownsRow_lit (base := B) (e := 3) (size := 1) w #[.int .i64 x] 1 h (by unfold maxLen; omega) rfl

theorem moves_toI {q : ByteArray} {i : Nat} (h : i ∈ moves q) : ∃ t : Nat, toI q i = t ∧ mvB q i t = goes q i := by
  obtain ⟨t, ht⟩ := Int.eq_ofNat_of_zero_le (moves_in h).2
  exact ⟨t, ht, by unfold goes; rw [ht]; rfl⟩

theorem Ints.any {w : World} {B : Nat} {v : Value} {zs : List Int} (h : Ints w B v zs) : ∃ a n cap, v = .slice a n cap ∧ n = zs.length := by
  rcases h.2 with ⟨rfl, h0⟩ | ⟨g, cap, cur, rfl, _⟩
  · exact ⟨_, _, _, rfl, h0.symm⟩
  · exact ⟨_, _, _, rfl, rfl⟩
theorem Ints.cells' {w : World} {B n cap : Nat} {a : Option Addr} {zs : List Int} (h : Ints w B (.slice a n cap) zs) {j : Nat} (hj : j < zs.length) :
    ∃ g, a = some ⟨g, 0, none⟩ ∧ g < w.heap.size ∧ w.cell? ⟨g, j, none⟩ = some (.int .i64 (gt zs j)) := by
  obtain ⟨g, n', cap', e, hn, _, _, _, h2, hc⟩ := h.form (by omega)
  injection e with e1 e2 e3
  exact ⟨g, e1, h2, hc j (by omega)⟩
def Three (w : World) (B : Nat) (v7 v8 v9 : Value) (t : T3) : Prop :=
  Ints w B v7 t.1 ∧ Ints w B v8 t.2.1 ∧ Ints w B v9 t.2.2 ∧ ne v7 v8 ∧ ne v7 v9 ∧ ne v8 v9
theorem Three.below {w w' : World} {B : Nat} {v7 v8 v9 : Value} {t : T3} (h : Three w B v7 v8 v9 t) (hb : Below w.heap.size w w') : Three w' B v7 v8 v9 t :=
  ⟨h.1.below hb, h.2.1.below hb, h.2.2.1.below hb, h.2.2.2⟩
theorem Four.three {w : World} {B : Nat} {v7 v8 v9 vm : Value} {t : T3} {mv : List Int} (h : Four w B v7 v8 v9 vm t mv) : Three w B v7 v8 v9 t :=
  ⟨h.1, h.2.1, h.2.2.1, h.2.2.2.2.1, h.2.2.2.2.2.1, h.2.2.2.2.2.2.1⟩
/-- with a slice that is newer -/
theorem Three.four {w w' : World} {B : Nat} {v7 v8 v9 vm : Value} {t : T3} {mv : List Int} (h : Three w B v7 v8 v9 t) (hm : Ints w' w.heap.size vm mv) (hb : Below w.heap.size w w') (hB : B ≤ w.heap.size) : Four w' B v7 v8 v9 vm t mv := by
  have k : ∀ {v zs}, Ints w B v zs → ne v vm := fun hv x hx e => by
    have h1 := (World.ownsRow.lt hv x hx).2
    have h2 := (World.ownsRow.lt hm x e).1
    omega
  have h' := h.below hb
  exact ⟨h'.1, h'.2.1, h'.2.2.1, ints_mono' hm hB, h.2.2.2.1, h.2.2.2.2.1, h.2.2.2.2.2, k h.1, k h.2.1, k h.2.2.1⟩
theorem three_start (w : World) (s : ByteArray) : Three ((((w.alloc (.cells #[.string s] 9)).alloc (.cells #[.int .i64 (-1)] 3)).alloc (.cells #[.int .i64 (-1)] 3)).alloc (.cells #[.int .i64 1] 3)) w.heap.size
    (.slice (some ⟨w.heap.size + 1, 0, none⟩) 1 1) (.slice (some ⟨w.heap.size + 1 + 1, 0, none⟩) 1 1) (.slice (some ⟨w.heap.size + 1 + 1 + 1, 0, none⟩) 1 1) ([-1], [-1], [1]) := by
  have a := one_int (w.alloc (.cells #[.string s] 9)) w.heap.size (by simp) (-1)
  have b := one_int ((w.alloc (.cells #[.string s] 9)).alloc (.cells #[.int .i64 (-1)] 3)) w.heap.size (by simp; omega) (-1)
  have c := one_int (((w.alloc (.cells #[.string s] 9)).alloc (.cells #[.int .i64 (-1)] 3)).alloc (.cells #[.int .i64 (-1)] 3)) w.heap.size (by simp; omega) 1
  have e1 : (w.alloc (.cells #[.string s] 9)).heap.size = w.heap.size + 1 := by simp
  have e2 : ((w.alloc (.cells #[.string s] 9)).alloc (.cells #[.int .i64 (-1)] 3)).heap.size = w.heap.size + 1 + 1 := by simp
  have e3 : (((w.alloc (.cells #[.string s] 9)).alloc (.cells #[.int .i64 (-1)] 3)).alloc (.cells #[.int .i64 (-1)] 3)).heap.size = w.heap.size + 1 + 1 + 1 := by simp
  rw [e1] at a
  rw [e2] at b
  rw [e3] at c
  refine ⟨(a.below ((Below.refl _ _).alloc (Nat.le_refl _) _)).below ((Below.refl _ _).alloc (Nat.le_refl _) _), b.below ((Below.refl _ _).alloc (Nat.le_refl _) _), c, ?_, ?_, ?_⟩
  all_goals
    intro x h1 h2
    simp [Value.ownBlock] at h1 h2
    omega

def ReachPost (s : ByteArray) (w : World) (e : Ending) (w' : World) : Prop :=
  ∃ v6 v7 v8 v9, e = .returned (.tuple #[v6, v7, v8, v9]) ∧ Strg w' w.heap.size v6 (reach s) ∧ Ints w' w.heap.size v7 (reachT s).1 ∧ Ints w' w.heap.size v8 (reachT s).2.1 ∧ Ints w' w.heap.size v9 (reachT s).2.2 ∧ Below w.heap.size w w'
set_option maxHeartbeats 8000000 in
set_option maxRecDepth 100000 in
theorem specReach (s : ByteArray) (w : World) (hp : isPd s = true) :
    Calls Tryd.prog 25 #[.string s] w (ReachPost s w) := by
  obtain ⟨z1, z2, hal⟩ := isPd_in hp
  have HP := Lib.hid hp
  clear hp hal
  go_enter Tryd.func25, Tryd.ntmps25
  have H3 := Lib.hid (three_start w s)
  have HS0 := Lib.hid ((((Strg.one w w.heap.size (Nat.le_refl _) s).below ((Below.refl _ _).alloc (Nat.le_refl _) (.cells #[.int .i64 (-1)] 3))).below ((Below.refl _ _).alloc (Nat.le_refl _) (.cells #[.int .i64 (-1)] 3))).below ((Below.refl _ _).alloc (Nat.le_refl _) (.cells #[.int .i64 1] 3)))
  have HB0 := Lib.hid (((((Below.refl w.heap.size w).alloc (Nat.le_refl _) (.cells #[.string s] 9)).alloc (by simp) (.cells #[.int .i64 (-1)] 3)).alloc (by simp; omega) (.cells #[.int .i64 (-1)] 3)).alloc (by simp; omega) (.cells #[.int .i64 1] 3))
  go_wp2_with fail
  go_loopw [6, 7, 8, 9, 10] (fun v6 v7 v8 v9 i wr => ∃ j : Nat, j ≤ (bfs s j).length ∧ i = .int .i64 j ∧ Hid (Strg wr w.heap.size v6 (bfs s j)) ∧ Hid (Three wr w.heap.size v7 v8 v9 (bT s j)) ∧ Hid (Below w.heap.size w wr)) (fun _ _ _ _ i _ => 262145 - (intOf i).toNat)
  case atStart => exact ⟨0, Nat.zero_le _, rfl, HS0, H3, HB0⟩
  case round =>
    clear HS0 H3 HB0
    obtain ⟨j, hj, rfl, hS, hT, hB⟩ := hrel
    have hpds := bfs_pds HP.out j
    have hlen := hpds.len z2
    by_cases hlt : j < (bfs s j).length
    · have hq := hpds.2 _ (show (bfs s j).getD j ⟨#[]⟩ ∈ bfs s j by rw [List.getD_eq_getElem?_getD, List.getElem?_eq_getElem hlt]; exact List.getElem_mem _)
      have SU := Lib.hid (bfs_succ hlt)
      have TU := Lib.hid (bT_succ hlt)
      have TL := Lib.hid (bT_lens s j)
      obtain ⟨g, n, cap, rfl, hn, _, _, hg1, hg2, hcell⟩ := hS.out.form (by omega)
      have hcj := hcell j (by omega)
      have hjn : j < n := by omega
      have hjn' : (j : Int) < n := by omega
      have hleB := hB.out.size
      have hq1 := Lib.hid hq.1
      have hq2 := hq.2
      have PD := Lib.hid hpds
      unfold gs at hcj
      generalize hqq : (bfs s j).getD j ⟨#[]⟩ = q at *
      have HQQ := Lib.hid hqq
      generalize hLL : bfs s j = L at *
      have HLL := Lib.hid hLL
      generalize htt : bT s j = t at *
      have HTT := Lib.hid htt
      have HNL := Lib.hid hn
      clear hq hqq hLL htt hcell hpds hn
      have hz := (isPd_in hq1.out).2.1
      have hml : (moves q).length ≤ 9 := by have := mvTo_len q q.size; unfold moves; omega
      go_wp2_with (go_at_call 39; refine (specMoves q _ hq1.out).mono ?_; rintro e w3 ⟨vm, rfl, hM, hb3⟩; obtain ⟨am, nm, capm, rfl, hnm⟩ := hM.any; have HNM := Lib.hid (hnm.trans (asI_len _)); have S3 := Lib.hid (hS.out.below hb3); have F3 := Lib.hid (hT.out.four hM hb3 hleB); have B3 := Lib.hid (hB.out.trans (hb3.mono hleB)); clear hM hb3 hnm)
      have hjL : j < L.length := hlt
      clear hcj
      have hnm9 : nm ≤ 9 := by have := HNM.out; omega
      obtain ⟨wo, rfl⟩ : ∃ wo : World, wo = wr := ⟨_, rfl⟩
      go_loopw [6, 7, 8, 9, 32] (fun v6 v7 v8 v9 i wi => ∃ k : Nat, k ≤ nm ∧ i = .int .i64 k ∧ Hid (Strg wi w.heap.size v6 (exTo L q k)) ∧ Hid (Four wi w.heap.size v7 v8 v9 (.slice am nm capm) (inT L q j t k) (asI (moves q))) ∧ Hid (Below w.heap.size w wi)) (fun _ _ _ _ i _ => nm - (intOf i).toNat)
      case atStart => exact ⟨0, Nat.zero_le _, rfl, S3, F3, B3⟩
      case round =>
        clear S3 F3 B3 hS hT hB
        obtain ⟨k, hk, rfl, hS, hF, hB⟩ := hrel
        have hleB2 := hB.out.size
        by_cases hlt2 : k < nm
        · have hkm : k < (moves q).length := by rw [← HNM.out]; exact hlt2
          obtain ⟨gm, rfl, _, cm⟩ := hF.out.2.2.2.1.cells' (j := k) (by rw [asI_len]; exact hkm)
          obtain ⟨R0, hR0⟩ := exTo_pre L q k (by omega)
          have hpe := exTo_pds PD.out hq1.out hq2 k (by omega)
          have hEl := hpe.len z2
          have hgsq : gs (exTo L q k) j = q := by unfold gs; rw [hR0, pre_at hjL]; exact HQQ.out
          have hLe : L.length ≤ (exTo L q k).length := by rw [hR0, List.length_append]; omega
          have LN := Lib.hid (inT_lens (q := q) (a := j) TL.out k (by omega))
          have XS := Lib.hid (exTo_succ (L := L) (q := q) (k := k) hkm)
          have XT := Lib.hid (show inT L q j t (k + 1) = stepT (exTo L q k) j ((moves q).getD k 0) (goes q ((moves q).getD k 0)) (inT L q j t k) from rfl)
          have hxm : (moves q).getD k 0 ∈ moves q := by
            rw [List.getD_eq_getElem?_getD, List.getElem?_eq_getElem hkm]; exact List.getElem_mem _
          have hgx : gt (asI (moves q)) k = (((moves q).getD k 0 : Nat) : Int) := by unfold gt asI; rw [List.getD_eq_getElem?_getD, List.getElem?_map, List.getD_eq_getElem?_getD, List.getElem?_eq_getElem hkm]; rfl
          rw [hgx] at cm
          obtain ⟨tt, hto, hmv⟩ := moves_toI hxm
          have hxs := (moves_in hxm).1
          have HTO := Lib.hid hto
          have HMV := Lib.hid hmv
          clear hgx hpe hxm hR0 hto hmv
          generalize (moves q).getD k 0 = x at *
          generalize goes q x = r at *
          generalize hEE : exTo L q k = E at *
          have HEE := Lib.hid hEE
          generalize hUU : inT L q j t k = u at *
          have HUU := Lib.hid hUU
          clear hEE hUU
          obtain ⟨g6, n6, cap6, rfl, hn6, _, _, hg61, hg62, hc6⟩ := hS.out.form (by omega)
          have cq := hc6 j (by omega)
          rw [hgsq] at cq
          have hj6 : (j : Int) < n6 := by omega
          have hn6b : n6 ≤ 262144 := by omega
          have HN6 := Lib.hid hn6
          obtain ⟨g9, n9, cap9, rfl, hn9, _, _, hg91, hg92, _⟩ := hF.out.2.2.1.form (by rw [LN.out.2.2]; omega)
          have HN9 := Lib.hid hn9
          have h96 : n9 = n6 := by rw [hn9, LN.out.2.2]; exact hn6.symm
          clear hc6 hgsq hn6 hn9
          by_cases hmem : r ∈ E
          · have AT := Lib.hid (atI_in hmem)
            have hi1 := idxL_mem.2 hmem
            have STP := Lib.hid (XT.out.trans (stepT_old hmem))
            have EXT := Lib.hid (XS.out.trans (addN_old hmem))
            have hi6 : idxL E r < n6 := by rw [HN6.out]; exact hi1
            clear hmem XS XT hi1
            generalize idxL E r = ix at *
            go_wp2_with (first
              | (go_at_call 43; refine (specMove q x tt _ hq1.out HTO.out).mono ?_; rintro e w4 ⟨rfl, hb4⟩; rw [HMV.out]; have S4 := Lib.hid (hS.out.below hb4); have F4 := Lib.hid (hF.out.below hb4); have B4 := Lib.hid (hB.out.trans (hb4.mono hleB2)); clear hb4)
              | (go_at_call 26; refine (specAt _ _ E r _ S4.out (by omega) (by omega)).mono ?_; rintro e w' ⟨rfl, rfl⟩; rw [AT.out]))
            subst h96
            have hn9' : n9 = u.2.2.length := HN9.out
            have c1 := F4.out.2.2.1.cell hn9' ix hi6
            have c2 := F4.out.2.2.1.cell hn9' j (by omega)
            have f1 := F4.out.2.2.1.frz hn9' ix
            have hixi : (ix : Int) < n9 := by omega
            have S5 := Lib.hid (strg_keep (v := .slice (some ⟨g9, 0, none⟩) n9 cap9) S4.out (F4.out.2.2.1.set hn9' ix (wrap64 (gt u.2.2 ix + gt u.2.2 j))).2 ((F4.out.2.2.1.neS S4.out).symm))
            have F5 := Lib.hid (show Four (w4.setCell ⟨g9, ix, none⟩ (.int .i64 (wrap64 (gt u.2.2 ix + gt u.2.2 j)))) w.heap.size _ _ (.slice (some ⟨g9, 0, none⟩) n9 cap9) (.slice (some ⟨gm, 0, none⟩) nm capm) (u.1, u.2.1, stepW u.2.2 j ix) (asI (moves q)) from F4.out.set9 hn9' ix (wrap64 (gt u.2.2 ix + gt u.2.2 j)))
            have B5 := Lib.hid (B4.out.setCell (p := ⟨g9, ix, none⟩) hg91 (.int .i64 (wrap64 (gt u.2.2 ix + gt u.2.2 j))))
            have hd : decide ((ix : Int) < 0) = false := by simp
            clear hn9'
            generalize gt u.2.2 ix = y1 at *
            generalize gt u.2.2 j = y2 at *
            go_region
            all_goals
              go_wp2
              go_roundw
              case rel => exact ⟨k + 1, by omega, by go_num, by rw [EXT.out]; exact Lib.hid S5.out, by rw [STP.out]; exact Lib.hid F5.out, Lib.hid B5.out.drew⟩
              case measure => (simp [intOf]; try omega)
          · have AT := Lib.hid (atI_out hmem)
            have STP := Lib.hid (XT.out.trans (stepT_new hmem))
            have EXT := Lib.hid (XS.out.trans (addN_new hmem))
            clear hmem XS XT
            subst h96
            go_wp2_with (first
              | (go_at_call 43; refine (specMove q x tt _ hq1.out HTO.out).mono ?_; rintro e w4 ⟨rfl, hb4⟩; rw [HMV.out]; have S4 := Lib.hid (hS.out.below hb4); have F4 := Lib.hid (hF.out.below hb4); have B4 := Lib.hid (hB.out.trans (hb4.mono hleB2)); have hl4 := hb4.size; clear hb4)
              | (go_at_call 26; refine (specAt _ _ E r _ S4.out (by omega) (by omega)).mono ?_; rintro e w' ⟨rfl, rfl⟩; rw [AT.out])
              | (at_builtin; refine wpList_appS w4 rfl _ _ rfl w.heap.size _ E rfl S4.out r w4.heap.size rfl rfl (by omega) (by omega) rfl ?_; intro v6' w5 hS5 hb5 hg5; have S5 := Lib.hid hS5; have F5 := Lib.hid (F4.out.keptS S4.out hg5); have B5 := Lib.hid (B4.out.trans hb5); have hl5 := hg5.size; clear hS5 hb5 hg5)
              | (at_builtin; refine wpList_appAt w5 rfl _ _ rfl w.heap.size _ u.1 rfl F5.out.1 (j : Int) w5.heap.size rfl rfl (by rw [LN.out.1]; omega) (by omega) rfl ?_; intro v7' w6 hI6 hb6 hg6 hat6; have F6 := Lib.hid (F5.out.app7 hI6 hg6 hat6); have S6 := Lib.hid (strg_keep S5.out hg6 ((F5.out.1.neS S5.out).symm)); have B6 := Lib.hid (B5.out.trans hb6); have hl6 := hg6.size; clear hI6 hb6 hg6 hat6)
              | (at_builtin; refine wpList_appAt w6 rfl _ _ rfl w.heap.size _ u.2.1 rfl F6.out.2.1 (x : Int) w6.heap.size rfl rfl (by rw [LN.out.2.1]; omega) (by omega) rfl ?_; intro v8' w7 hI7 hb7 hg7 hat7; have F7 := Lib.hid (F6.out.app8 hI7 hg7 hat7); have S7 := Lib.hid (strg_keep S6.out hg7 ((F6.out.2.1.neS S6.out).symm)); have B7 := Lib.hid (B6.out.trans hb7); have hl7 := hg7.size; clear hI7 hb7 hg7 hat7)
              | (at_builtin; refine wpList_appAt w7 rfl _ _ rfl w.heap.size _ u.2.2 rfl F7.out.2.2.1 0 w7.heap.size rfl rfl (by rw [LN.out.2.2]; omega) (by omega) rfl ?_; intro v9' w8 hI8 hb8 hg8 hat8; have F8 := F7.out.app9 hI8 hg8 hat8; have S8 := Lib.hid (strg_keep S7.out hg8 ((F7.out.2.2.1.neS S7.out).symm)); have B8 := Lib.hid (B7.out.trans hb8); obtain ⟨g9', n9', cap9', rfl, hn9', _, _, hg91', hg92', _⟩ := F8.2.2.1.form (by simp); have HF8 := Lib.hid F8; have HN9' := Lib.hid (hn9'.trans (show (u.2.2 ++ [0]).length = n9 + 1 by rw [List.length_append, ← HN9.out]; rfl)); have HN9'' := Lib.hid hn9'; clear hI8 hb8 hg8 hat8 F8 hn9'))
            have hnn := HN9'.out
            have c1 := HF8.out.2.2.1.cell HN9''.out n9 (by omega)
            have c2 := HF8.out.2.2.1.cell HN9''.out j (by omega)
            have f1 := HF8.out.2.2.1.frz HN9''.out n9
            have i1 : (n9 : Int) < n9' := by omega
            have i2 : (j : Int) < n9' := by omega
            have hE : n9 = E.length := HN6.out
            have S9 := Lib.hid (strg_keep (v := .slice (some ⟨g9', 0, none⟩) n9' cap9') S8.out (HF8.out.2.2.1.set HN9''.out n9 (wrap64 (gt (u.2.2 ++ [0]) n9 + gt (u.2.2 ++ [0]) j))).2 ((HF8.out.2.2.1.neS S8.out).symm))
            have F9 := Lib.hid (show Four (w8.setCell ⟨g9', n9, none⟩ (.int .i64 (wrap64 (gt (u.2.2 ++ [0]) n9 + gt (u.2.2 ++ [0]) j)))) w.heap.size _ _ (.slice (some ⟨g9', 0, none⟩) n9' cap9') (.slice (some ⟨gm, 0, none⟩) nm capm) (u.1 ++ [(j : Int)], u.2.1 ++ [(x : Int)], stepW (u.2.2 ++ [0]) j E.length) (asI (moves q)) from by
              have h := HF8.out.set9 HN9''.out n9 (wrap64 (gt (u.2.2 ++ [0]) n9 + gt (u.2.2 ++ [0]) j))
              unfold stepW
              rw [← hE]
              exact h)
            have B9 := Lib.hid (B8.out.setCell (p := ⟨g9', n9, none⟩) hg91' (.int .i64 (wrap64 (gt (u.2.2 ++ [0]) n9 + gt (u.2.2 ++ [0]) j))))
            clear hnn hE
            generalize gt (u.2.2 ++ [0]) n9 = y1 at *
            generalize gt (u.2.2 ++ [0]) j = y2 at *
            go_region
            all_goals
              go_wp2
              go_roundw
              case rel => exact ⟨k + 1, by omega, by go_num, by rw [EXT.out]; exact Lib.hid S9.out, by rw [STP.out]; exact Lib.hid F9.out, Lib.hid B9.out.drew⟩
              case measure => (simp [intOf]; try omega)
        · obtain rfl : k = nm := by omega
          have EX := Lib.hid (show exTo L q k = bfs s (j + 1) by rw [SU.out]; unfold exAll; rw [← HNM.out])
          have TX := Lib.hid (show inT L q j t k = bT s (j + 1) by rw [TU.out, HNM.out])
          have EL := Lib.hid (show j + 1 ≤ (bfs s (j + 1)).length by
            obtain ⟨R, hR⟩ := exTo_pre L q k (by rw [← HNM.out]; exact Nat.le_refl _)
            rw [← EX.out, hR, List.length_append]; omega)
          rw [EX.out] at hS
          rw [TX.out] at hF
          have H3 := Lib.hid hF.out.three
          clear hF
          go_wp2
          go_roundw
          case rel => exact ⟨j + 1, EL.out, by go_num, hS, H3, hB⟩
          case measure => (simp [intOf]; try omega)
    · have HR := Lib.hid (reach_at HP.out hlt (by omega))
      have HT := Lib.hid (reachT_at hlt (by omega))
      obtain ⟨R, hR⟩ := bfs_head s j
      obtain ⟨g, n, cap, rfl, hn, _, _, _, _, _⟩ := hS.out.form (by rw [hR]; simp)
      have hge : ¬ (j : Int) < (n : Int) := by omega
      clear hR hn
      go_wp2
      exact bodyPost_ret (v := .tuple #[.slice (some ⟨g, 0, none⟩) n cap, u7, u8, u9]) (by simp [results, Tryd.results25, go_sem]) rfl ⟨_, _, _, _, rfl, by rw [← HR.out]; exact hS.out, by rw [← HT.out]; exact hT.out.1, by rw [← HT.out]; exact hT.out.2.1, by rw [← HT.out]; exact hT.out.2.2.1, hB.out⟩
end Go.Proofs.YteoggpollgkfiaaDoor
