/- Ways without an island twice; tolls are small; what a map of tolls tells that can't be lowered: plain. -/
import Derived.Test.YtdmgpbhbgeknfabIt
namespace Go.Proofs.Ytdmgpbhbgeknfab
set_option linter.unusedVariables false
open Go.RowKit

/-- b joins these two -/
def jn (x y : Nat) (b : Br) : Bool := decide (b.1 = min (x : Int) y) && decide (b.2.1 = max (x : Int) y)
theorem jn_iff {x y : Nat} {b : Br} : jn x y b = true ↔ b.1 = min (x : Int) y ∧ b.2.1 = max (x : Int) y := by simp [jn]
theorem jn_symm (x y : Nat) (b : Br) : jn x y b = jn y x b := by
  rw [Bool.eq_iff_iff, jn_iff, jn_iff]; omega
/-- the least toll of a bridge between two islands, of the first k; big if there is none -/
def ltTo (bs : List Br) (x y : Nat) : Nat → Int
  | 0 => big
  | k + 1 => if jn x y (gb bs k) then min (ltTo bs x y k) (gb bs k).2.2 else ltTo bs x y k
def ltl (bs : List Br) (x y : Nat) : Int := ltTo bs x y bs.length
theorem ltTo_le (bs : List Br) (x y : Nat) : ∀ k, ltTo bs x y k ≤ big
  | 0 => Int.le_refl _
  | k + 1 => by have := ltTo_le bs x y k; unfold ltTo; split <;> omega
theorem ltTo_pos {m : Nat} {bs : List Br} (hg : Good m bs) (x y : Nat) : ∀ k, k ≤ bs.length → 0 ≤ ltTo bs x y k
  | 0, _ => by show (0 : Int) ≤ 1000000; omega
  | k + 1, h => by
    have := ltTo_pos hg x y k (by omega)
    have := hg.at (j := k) (by omega)
    unfold ltTo; split <;> omega
theorem ltTo_has {m : Nat} {bs : List Br} (hg : Good m bs) (x y : Nat) : ∀ k, k ≤ bs.length → ltTo bs x y k < big → ∃ b ∈ bs, jn x y b = true ∧ b.2.2 = ltTo bs x y k
  | 0, _, h => absurd h (by simp [ltTo])
  | k + 1, hk, h => by
    unfold ltTo at h ⊢
    split
    · rename_i hj
      rw [if_pos hj] at h
      rcases (by omega : min (ltTo bs x y k) (gb bs k).2.2 = ltTo bs x y k ∨ min (ltTo bs x y k) (gb bs k).2.2 = (gb bs k).2.2) with e | e
      · rw [e] at h ⊢; exact ltTo_has hg x y k (by omega) h
      · rw [e]; exact ⟨_, gb_mem (by omega), hj, rfl⟩
    · rename_i hj
      rw [if_neg hj] at h
      exact ltTo_has hg x y k (by omega) h
theorem ltTo_min {bs : List Br} {x y : Nat} : ∀ {k j : Nat}, j < k → jn x y (gb bs j) = true → ltTo bs x y k ≤ (gb bs j).2.2
  | 0, _, h, _ => absurd h (Nat.not_lt_zero _)
  | k + 1, j, h, hj => by
    unfold ltTo
    by_cases e : j = k
    · subst e; rw [if_pos hj]; omega
    · have := ltTo_min (k := k) (j := j) (by omega) hj
      split <;> omega
theorem ltl_min {m : Nat} {bs : List Br} (hg : Good m bs) {b : Br} (hb : b ∈ bs) : ltl bs b.1.toNat b.2.1.toNat ≤ b.2.2 ∧ ltl bs b.2.1.toNat b.1.toNat ≤ b.2.2 := by
  obtain ⟨j, hj, rfl⟩ := mem_gb hb
  have hv := hg.at hj
  exact ⟨ltTo_min hj (jn_iff.2 ⟨by omega, by omega⟩), ltTo_min hj (jn_iff.2 ⟨by omega, by omega⟩)⟩
theorem ltl_has {m : Nat} {bs : List Br} (hg : Good m bs) {x y : Nat} (h : ltl bs x y < big) : ∃ b ∈ bs, ((b.1.toNat = x ∧ b.2.1.toNat = y) ∨ (b.1.toNat = y ∧ b.2.1.toNat = x)) ∧ b.2.2 = ltl bs x y := by
  obtain ⟨b, hb, hj, e⟩ := ltTo_has hg x y _ (Nat.le_refl _) h
  have := jn_iff.1 hj
  have hv := hg b hb
  refine ⟨b, hb, ?_, e⟩
  rcases Nat.le_total x y with h | h
  · left; omega
  · right; omega
theorem ltl_in {m : Nat} {bs : List Br} (hg : Good m bs) (x y : Nat) : 0 ≤ ltl bs x y ∧ ltl bs x y ≤ big := ⟨ltTo_pos hg x y _ (Nat.le_refl _), ltTo_le bs x y _⟩
theorem ltl_self {m : Nat} {bs : List Br} (hg : Good m bs) (x : Nat) : ltl bs x x = big := by
  have := (ltl_in hg x x).2
  by_cases h : ltl bs x x < big
  · obtain ⟨b, hb, h2, _⟩ := ltl_has hg h
    have := hg b hb
    rcases h2 with h2 | h2 <;> omega
  · omega

/-- a way to d, with its toll -/
inductive Pt (bs : List Br) (d : Nat) : List Nat → Int → Prop
  | here : Pt bs d [d] 0
  | cons {x y : Nat} {l : List Nat} {T : Int} : ltl bs x y < big → Pt bs d (y :: l) T → Pt bs d (x :: y :: l) (ltl bs x y + T)
theorem Pt.pos {m : Nat} {bs : List Br} (hg : Good m bs) {d : Nat} {l : List Nat} {T : Int} (h : Pt bs d l T) : 0 ≤ T := by
  induction h with
  | here => omega
  | @cons x y l T _ _ ih => have := (ltl_in hg x y).1; omega
theorem Pt.lt {m : Nat} {bs : List Br} (hg : Good m bs) {d : Nat} (hd : d < m) {l : List Nat} {T : Int} (h : Pt bs d l T) : ∀ x ∈ l, x < m := by
  induction h with
  | here => intro x hx; simp at hx; omega
  | @cons x y l T hl _ ih =>
    intro z hz
    rcases List.mem_cons.1 hz with rfl | hz
    · obtain ⟨b, hb, h2, _⟩ := ltl_has hg hl
      have := hg b hb
      rcases h2 with h2 | h2 <;> omega
    · exact ih z hz
/-- the rest of a way from an island on -/
theorem Pt.rest {m : Nat} {bs : List Br} (hg : Good m bs) {d : Nat} {l : List Nat} {T : Int} (h : Pt bs d l T) {x : Nat} (hx : x ∈ l) (hn : l.Nodup) : ∃ l' T', Pt bs d (x :: l') T' ∧ T' ≤ T ∧ (x :: l').Nodup := by
  induction h with
  | here => simp at hx; subst hx; exact ⟨[], 0, .here, Int.le_refl _, by simp⟩
  | @cons y z l T hl hp ih =>
    rcases List.mem_cons.1 hx with rfl | hx
    · exact ⟨_, _, .cons hl hp, Int.le_refl _, hn⟩
    · obtain ⟨l', T', h1, h2, h3⟩ := ih hx (List.nodup_cons.1 hn).2
      have := (ltl_in hg y z).1
      exact ⟨l', T', h1, by omega, h3⟩
theorem Pt.simple {m : Nat} {bs : List Br} (hg : Good m bs) {d : Nat} {l : List Nat} {T : Int} (h : Pt bs d l T) : ∀ x r, l = x :: r → ∃ l' T', Pt bs d (x :: l') T' ∧ T' ≤ T ∧ (x :: l').Nodup := by
  induction h with
  | here => intro x r e; injection e with e1 e2; subst e1; exact ⟨[], 0, .here, Int.le_refl _, by simp⟩
  | @cons y z l T hl hp ih =>
    intro x r e
    injection e with e1 e2
    subst e1
    obtain ⟨l', T', h1, h2, h3⟩ := ih z l rfl
    have h0 := (ltl_in hg y z).1
    by_cases hy : y ∈ z :: l'
    · obtain ⟨l2, T2, h4, h5, h6⟩ := h1.rest hg hy h3
      exact ⟨l2, T2, h4, by omega, h6⟩
    · exact ⟨z :: l', _, .cons hl h1, by omega, List.nodup_cons.2 ⟨hy, h3⟩⟩
theorem Pt.of_wk {m : Nat} {bs : List Br} (hg : Good m bs) {s i : Nat} {T : Int} (h : Wk bs false s i T) : ∃ l T', Pt bs s (i :: l) T' ∧ T' ≤ T := by
  induction h with
  | here => exact ⟨[], 0, .here, Int.le_refl _⟩
  | @fwd T b hb _ ih =>
    obtain ⟨l, T', h1, h2⟩ := ih
    have h3 := (ltl_min hg hb).2
    have h4 := hg b hb
    exact ⟨_, _, .cons (by simp only [big]; omega) h1, by simp only [wt]; simp; omega⟩
  | @bwd T b hb _ ih =>
    obtain ⟨l, T', h1, h2⟩ := ih
    have h3 := (ltl_min hg hb).1
    have h4 := hg b hb
    exact ⟨_, _, .cons (by simp only [big]; omega) h1, by simp only [wt]; simp; omega⟩
theorem Pt.wk {m : Nat} {bs : List Br} (hg : Good m bs) {d : Nat} {l : List Nat} {T : Int} (h : Pt bs d l T) : ∀ x r, l = x :: r → Wk bs false d x T := by
  induction h with
  | here => intro x r e; injection e with e1 e2; subst e1; exact .here
  | @cons y z l T hl hp ih =>
    intro x r e
    injection e with e1 e2
    subst e1
    have h1 := ih z l rfl
    obtain ⟨b, hb, h2, e⟩ := ltl_has hg hl
    rw [show ltl bs y z + T = T + wt false b by simp [wt, e]; omega]
    rcases h2 with ⟨rfl, rfl⟩ | ⟨rfl, rfl⟩
    · exact .bwd hb h1
    · exact .fwd hb h1
/-- walks over a way, whatever bridges cost -/
theorem Pt.few {m : Nat} {bs : List Br} (hg : Good m bs) (p : Bool) {d : Nat} {l : List Nat} {T : Int} (h : Pt bs d l T) : ∀ x r, l = x :: r → ∃ U, Wk bs p d x U ∧ U ≤ 1000 * (r.length : Int) := by
  induction h with
  | here => intro x r e; injection e with e1 e2; subst e1 e2; exact ⟨0, .here, by simp⟩
  | @cons y z l T hl hp ih =>
    intro x r e
    injection e with e1 e2
    subst e1 e2
    obtain ⟨U, h1, hU⟩ := ih z l rfl
    obtain ⟨b, hb, h2, e⟩ := ltl_has hg hl
    have := wt_in hg p hb
    refine ⟨U + wt p b, ?_, by simp only [List.length_cons]; omega⟩
    rcases h2 with ⟨rfl, rfl⟩ | ⟨rfl, rfl⟩
    · exact .bwd hb h1
    · exact .fwd hb h1
theorem nodup_cnt {m : Nat} : ∀ {l : List Nat}, l.Nodup → (∀ x ∈ l, x < m) → l.length ≤ cnt (fun x => l.contains x) m
  | [], _, _ => Nat.zero_le _
  | a :: l, hn, h => by
    have h1 := List.nodup_cons.1 hn
    have h2 := nodup_cnt h1.2 fun x hx => h x (List.mem_cons_of_mem _ hx)
    have h3 : cnt (fun x => (a :: l).contains x) m = cnt (fun x => l.contains x) m + 1 := cnt_less (h a (by simp)) (by simp) (by simpa using h1.1) (fun i _ hne => by
      rw [Bool.eq_iff_iff]; simp [hne])
    rw [h3]; simp only [List.length_cons]; omega
theorem nodup_le {m : Nat} {l : List Nat} (hn : l.Nodup) (h : ∀ x ∈ l, x < m) : l.length ≤ m := Nat.le_trans (nodup_cnt hn h) (cnt_le _ _)
/-- where there is a walk the least toll is small -/
theorem tl_small {m : Nat} {bs : List Br} (hg : Good m bs) (p : Bool) {s i : Nat} (hs : s < m) (hi : i < m) {q : Bool} {T : Int} (hw : Wk bs q s i T) : gt (tl m bs p s) i ≤ 1000 * ((m : Int) - 1) := by
  obtain ⟨U, hU⟩ := hw.any (q := false)
  obtain ⟨l, T1, h1, _⟩ := Pt.of_wk hg hU
  obtain ⟨l', T2, h2, _, hn⟩ := h1.simple hg i l rfl
  have hlen := nodup_le hn (h2.lt hg hs)
  obtain ⟨V, hV, hb⟩ := h2.few hg p i l' rfl
  have := tl_le hg hs hi hV
  simp only [List.length_cons] at hlen
  omega
theorem tl_reach {m : Nat} {bs : List Br} (hg : Good m bs) (hm : m ≤ 7) (p : Bool) {s i : Nat} (hs : s < m) (hi : i < m) : gt (tl m bs p s) i < big ↔ same m bs i s = true := by
  constructor
  · intro h
    exact ((tl_ok hg p hs).wk i hi h).grp hg
  · intro h
    obtain ⟨T, hT⟩ := Wk.of_grp hg (p := p) hs hi h
    have := tl_small hg p hs hi hT
    unfold big; omega
/-- the least toll is the same in both directions -/
theorem tl_symm {m : Nat} {bs : List Br} (hg : Good m bs) (hm : m ≤ 7) (p : Bool) {s i : Nat} (hs : s < m) (hi : i < m) (h : same m bs i s = true) : gt (tl m bs p s) i = gt (tl m bs p i) s := by
  have h1 := (tl_ok hg p hs).wk i hi ((tl_reach hg hm p hs hi).2 h)
  have h2 := (tl_ok hg p hi).wk s hs ((tl_reach hg hm p hi hs).2 (same_symm h))
  have h3 := tl_le hg hs hi h2.symm
  have h4 := tl_le hg hi hs h1.symm
  omega
/-- there is a way without an island twice that has just the least toll -/
theorem tl_path {m : Nat} {bs : List Br} (hg : Good m bs) (hm : m ≤ 7) {s i : Nat} (hs : s < m) (hi : i < m) (h : same m bs i s = true) : ∃ l, Pt bs s (i :: l) (gt (tl m bs false s) i) ∧ (i :: l).Nodup := by
  have h1 := (tl_ok hg false hs).wk i hi ((tl_reach hg hm false hs hi).2 h)
  obtain ⟨l, T1, h2, h3⟩ := Pt.of_wk hg h1
  obtain ⟨l', T2, h4, h5, hn⟩ := h2.simple hg i l rfl
  have h6 := tl_le hg hs hi (h4.wk hg i l' rfl)
  have e : T2 = gt (tl m bs false s) i := by omega
  rw [← e]
  exact ⟨l', h4, hn⟩

/-- what a map of tolls from s tells: f i: the toll to island i, if one is known -/
structure MpOK (m : Nat) (bs : List Br) (s : Nat) (f : Nat → Option Int) : Prop where
  wk : ∀ i T, f i = some T → i < m ∧ 0 ≤ T ∧ Wk bs false s i T
  self : f s = some 0
  low : ∀ i T, f i = some T → T ≤ 1000 * ((cnt (fun j => (f j).isSome) m : Int) - 1)
def putF (f : Nat → Option Int) (i : Nat) (T : Int) : Nat → Option Int := fun j => if j = i then some T else f j
theorem mpOK_0 {m : Nat} {bs : List Br} {s : Nat} (hs : s < m) : MpOK m bs s (putF (fun _ => none) s 0) where
  wk := fun i T h => by
    unfold putF at h
    split at h
    · rename_i e; subst e; cases h; exact ⟨hs, Int.le_refl _, .here⟩
    · cases h
  self := by simp [putF]
  low := fun i T h => by
    have : 1 ≤ cnt (fun j => (putF (fun _ => none) s 0 j).isSome) m := cnt_pos hs (by simp [putF])
    unfold putF at h
    split at h
    · cases h; omega
    · cases h
theorem cnt_mono {p q : Nat → Bool} {n : Nat} (h : ∀ i, i < n → p i = true → q i = true) : cnt p n ≤ cnt q n := by
  induction n with
  | zero => exact Nat.le_refl _
  | succ n ih =>
    unfold cnt
    have := ih fun i hi => h i (by omega)
    have h3 := h n (by omega)
    cases hp : p n
    · simp; omega
    · rw [h3 hp]; simp; omega
/-- lowered by a bridge from island x to island y -/
theorem MpOK.put {m : Nat} {bs : List Br} (hg : Good m bs) {s : Nat} {f : Nat → Option Int} (h : MpOK m bs s f) {b : Br} (hb : b ∈ bs) {x y : Nat} (hxy : (x = b.1.toNat ∧ y = b.2.1.toNat) ∨ (x = b.2.1.toNat ∧ y = b.1.toNat)) {T : Int} (hx : f x = some T)
    (hy : f y = none ∨ ∃ U, f y = some U ∧ T + b.2.2 < U) : MpOK m bs s (putF f y (T + b.2.2)) := by
  have hv := hg b hb
  have hX := h.wk x T hx
  have hLx := h.low x T hx
  have hym : y < m := by rcases hxy with ⟨_, e⟩ | ⟨_, e⟩ <;> omega
  have hW : Wk bs false s y (T + b.2.2) := by
    have e : b.2.2 = wt false b := by simp [wt]
    rw [e]
    rcases hxy with ⟨rfl, rfl⟩ | ⟨rfl, rfl⟩
    · exact .fwd hb hX.2.2
    · exact .bwd hb hX.2.2
  have hc : cnt (fun j => (f j).isSome) m ≤ cnt (fun j => (putF f y (T + b.2.2) j).isSome) m := cnt_mono fun i _ hi => by
    unfold putF; split
    · rfl
    · exact hi
  refine ⟨fun i U hi => ?_, ?_, fun i U hi => ?_⟩
  · unfold putF at hi
    split at hi
    · rename_i e; subst e; cases hi; exact ⟨hym, by omega, hW⟩
    · exact h.wk i U hi
  · unfold putF
    split
    · rename_i e
      subst e
      rcases hy with hy | ⟨U, hy, hlt⟩
      · rw [h.self] at hy; cases hy
      · rw [h.self] at hy; cases hy; omega
    · exact h.self
  · unfold putF at hi
    split at hi
    · cases hi
      rcases hy with hy | ⟨U, hy, hlt⟩
      · have h1 : cnt (fun j => (f j).isSome) m + 1 ≤ cnt (fun j => (putF f y (T + b.2.2) j).isSome) m := cnt_more hym (by simp [hy]) (by simp [putF]) fun i _ hi => by
          unfold putF; split
          · rfl
          · exact hi
        omega
      · have := h.low y U hy
        omega
    · have := h.low i U hi
      omega
/-- how far the tolls can still go down -/
def potF (f : Nat → Option Int) : Nat → Nat
  | 0 => 0
  | n + 1 => potF f n + ((f n).getD 100000).toNat
theorem potF_put {f : Nat → Option Int} {y : Nat} {T : Int} (h0 : 0 ≤ T) (hT : T < 100000) (hy : f y = none ∨ ∃ U, f y = some U ∧ T < U) : ∀ n, potF (putF f y T) n + (if y < n then 1 else 0) ≤ potF f n
  | 0 => by simp [potF]
  | n + 1 => by
    have ih := potF_put h0 hT hy n
    unfold potF
    by_cases e : n = y
    · subst e
      have h1 : (putF f n T n).getD 100000 = T := by simp [putF]
      rw [h1, if_pos (by omega)]
      rw [if_neg (by omega)] at ih
      rcases hy with hy | ⟨U, hy, hlt⟩
      · rw [hy]; simp only [Option.getD_none]; omega
      · rw [hy]; simp only [Option.getD_some]; omega
    · have h1 : putF f y T n = f n := by simp [putF, e]
      rw [h1]
      by_cases h2 : y < n
      · rw [if_pos (by omega)]; rw [if_pos h2] at ih; omega
      · rw [if_neg (by omega)]; rw [if_neg h2] at ih; omega
/-- a map that no bridge lowers tells the least tolls -/
theorem mp_end {m : Nat} {bs : List Br} (hg : Good m bs) (hm : m ≤ 7) {s : Nat} (hs : s < m) {f : Nat → Option Int} (h : MpOK m bs s f)
    (hc : ∀ b ∈ bs, (∀ T, f b.1.toNat = some T → ∃ U, f b.2.1.toNat = some U ∧ U ≤ T + b.2.2) ∧ (∀ T, f b.2.1.toNat = some T → ∃ U, f b.1.toNat = some U ∧ U ≤ T + b.2.2)) :
    ∀ i, i < m → f i = if same m bs i s then some (gt (tl m bs false s) i) else none := by
  have key : ∀ i T, Wk bs false s i T → ∃ U, f i = some U ∧ U ≤ T := by
    intro i T hw
    induction hw with
    | here => exact ⟨0, h.self, Int.le_refl _⟩
    | @fwd T b hb _ ih =>
      obtain ⟨U, h1, h2⟩ := ih
      obtain ⟨V, h3, h4⟩ := (hc b hb).1 U h1
      exact ⟨V, h3, by simp only [wt]; simp; omega⟩
    | @bwd T b hb _ ih =>
      obtain ⟨U, h1, h2⟩ := ih
      obtain ⟨V, h3, h4⟩ := (hc b hb).2 U h1
      exact ⟨V, h3, by simp only [wt]; simp; omega⟩
  intro i hi
  cases hsm : same m bs i s
  · rw [if_neg (by simp)]
    cases hf : f i
    · rfl
    · rename_i T
      have := (h.wk i T hf).2.2.grp hg
      rw [hsm] at this; cases this
  · rw [if_pos rfl]
    have h1 := (tl_ok hg false hs).wk i hi ((tl_reach hg hm false hs hi).2 hsm)
    obtain ⟨U, h2, h3⟩ := key i _ h1
    have h4 := tl_le hg hs hi (h.wk i U h2).2.2
    rw [h2]; congr 1; omega
end Go.Proofs.Ytdmgpbhbgeknfab
