/- What impl.movesLeft reckons, as a fold; for one goal. Plain. -/
import Derived.Test.YteoggpollgkfiaaDoorLea
namespace Go.Proofs.YteoggpollgkfiaaDoor
set_option linter.unusedVariables false
open Go.RowKit

/-- the list goes by the potential -/
theorem pot_mono {s : ByteArray} {L : List ByteArray} {t : T3} {a0 b0 : Nat} (h : InvT s L t) (ho : Ord L t a0 b0) (hs : isPd s = true) : ∀ (n i k : Nat), k < n → i ≤ k → k < L.length → pot (gs L i) ≤ pot (gs L k)
  | 0, _, _, hn, _, _ => absurd hn (Nat.not_lt_zero _)
  | n + 1, i, k, hn, hik, hk => by
    rcases Nat.lt_or_eq_of_le hik with hlt | rfl
    · have lk := h.wl_len hs hk
      rcases Nat.eq_zero_or_pos i with rfl | i1
      · rw [h.2.2.1]; omega
      · obtain ⟨ak, xk, e1, e2, e3, e4, e5⟩ := h.2.2.2.2 k (by omega) hk
        obtain ⟨ai, xi, f1, f2, f3, f4, f5⟩ := h.2.2.2.2 i i1 (by omega)
        have bk := h.wl_back hk e1 e2
        have bi := h.wl_back (by omega) f1 f2
        have li := h.wl_len hs (k := i) (by omega)
        have lai := h.wl_len hs (k := ai) (by omega)
        have lak := h.wl_len hs (k := ak) (by omega)
        rw [bi, List.length_append] at li
        rw [bk, List.length_append] at lk
        simp at li lk
        have ha : ai ≤ ak := by
          rcases ho.2.1 i k i1 hlt hk with h | ⟨h, _⟩ <;> omega
        have := pot_mono h ho hs n ai ak (by omega) ha (by omega)
        omega
    · exact Int.le_refl _
/-- a pond behind another one stands later in the list -/
theorem later {s : ByteArray} {L : List ByteArray} {t : T3} {a0 b0 : Nat} (h : InvT s L t) (ho : Ord L t a0 b0) (hs : isPd s = true) {i k : Nat} (hi : i < L.length) (hk : k < L.length) (hp : pot (gs L i) < pot (gs L k)) : i < k := by
  rcases Nat.lt_or_ge i k with h1 | h1
  · exact h1
  · have := pot_mono h ho hs (i + 1) k i (by omega) h1 hi
    omega
abbrev LSt := (ByteArray → Int) × (ByteArray → Bool)
def putL (st : LSt) (c : ByteArray) (x : Int) : LSt := (fun y => if y = c then x else st.1 y, fun y => decide (y = c) || st.2 y)
def lMove (B : Int → Int → Bool) (p : ByteArray) (st : LSt) (i : Nat) : LSt := if (st.2 (goes p i) && (!st.2 p || B (st.1 (goes p i) + 1) (st.1 p))) = true then putL st p (st.1 (goes p i) + 1) else st
def lPond (E : ByteArray → Bool) (B : Int → Int → Bool) (p : ByteArray) (st : LSt) : LSt := if E p = true then putL st p 0 else (moves p).foldl (lMove B p) st
/-- from the last pond to the first -/
def lAll (E : ByteArray → Bool) (B : Int → Int → Bool) : List ByteArray → LSt
  | [] => (fun _ => 0, fun _ => false)
  | p :: L => lPond E B p (lAll E B L)
theorem lMove_other {B : Int → Int → Bool} {p c : ByteArray} (hc : c ≠ p) (st : LSt) (i : Nat) : (lMove B p st i).1 c = st.1 c ∧ (lMove B p st i).2 c = st.2 c := by
  unfold lMove
  split
  · exact ⟨if_neg hc, by show (decide (c = p) || st.2 c) = _; simp [hc]⟩
  · exact ⟨rfl, rfl⟩
theorem lFold_other {B : Int → Int → Bool} {p c : ByteArray} (hc : c ≠ p) : ∀ (l : List Nat) (st : LSt), (l.foldl (lMove B p) st).1 c = st.1 c ∧ (l.foldl (lMove B p) st).2 c = st.2 c
  | [], _ => ⟨rfl, rfl⟩
  | i :: l, st => by
    have h1 := lFold_other (B := B) hc l (lMove B p st i)
    have h2 := lMove_other (B := B) hc st i
    exact ⟨h1.1.trans h2.1, h1.2.trans h2.2⟩
theorem lPond_other {E : ByteArray → Bool} {B : Int → Int → Bool} {p c : ByteArray} (hc : c ≠ p) (st : LSt) : (lPond E B p st).1 c = st.1 c ∧ (lPond E B p st).2 c = st.2 c := by
  unfold lPond
  split
  · exact ⟨if_neg hc, by show (decide (c = p) || st.2 c) = _; simp [hc]⟩
  · exact lFold_other hc _ _
theorem lAll_out {E : ByteArray → Bool} {B : Int → Int → Bool} : ∀ {L : List ByteArray} {c : ByteArray}, ¬ c ∈ L → (lAll E B L).2 c = false
  | [], _, _ => rfl
  | p :: L, c, h => by
    show (lPond E B p (lAll E B L)).2 c = false
    rw [(lPond_other (fun e => h (by simp [e])) _).2]
    exact lAll_out fun h2 => h (by simp [h2])
/-- each pond is a pond, comes once, and the ponds behind it come later -/
def Chain : List ByteArray → Prop
  | [] => True
  | p :: L => isPd p = true ∧ ¬ p ∈ L ∧ (∀ i ∈ moves p, goes p i ∈ L) ∧ Chain L
def isG (G : ByteArray) (p : ByteArray) : Bool := decide (p = G)
def lessI (n m : Int) : Bool := decide (n < m)
theorem lFold_tells {p : ByteArray} {d : Int} {st0 : LSt} (h0 : st0.2 p = false) : ∀ (l : List Nat) (st : LSt), (∀ i ∈ l, goes p i ≠ p ∧ (st0.2 (goes p i) = true → st0.1 (goes p i) + 1 = d)) →
    (∀ c, c ≠ p → st.1 c = st0.1 c ∧ st.2 c = st0.2 c) → (st.2 p = true → st.1 p = d) →
    ((l.foldl (lMove lessI p) st).2 p = (st.2 p || l.any fun i => st0.2 (goes p i))) ∧ ((l.foldl (lMove lessI p) st).2 p = true → (l.foldl (lMove lessI p) st).1 p = d)
  | [], st, _, _, h3 => ⟨by simp, h3⟩
  | i :: l, st, h1, h2, h3 => by
    obtain ⟨n1, n2⟩ := h1 i (by simp)
    obtain ⟨e1, e2⟩ := h2 _ n1
    have hc := fun c hc => lMove_other (B := lessI) (p := p) (c := c) hc st i
    have hs : (lMove lessI p st i).2 p = (st.2 p || st0.2 (goes p i)) ∧ ((lMove lessI p st i).2 p = true → (lMove lessI p st i).1 p = d) := by
      unfold lMove
      rw [e1, e2]
      by_cases hg : st0.2 (goes p i) = true
      · by_cases hk : st.2 p = true
        · have hb : lessI (st0.1 (goes p i) + 1) (st.1 p) = false := by
            unfold lessI; rw [n2 hg, h3 hk]; simp
          rw [hg, hk, hb]
          simp [hk, h3 hk]
        · have hk' : st.2 p = false := by simpa using hk
          rw [hg, hk']
          simp [putL, n2 hg]
      · have hg' : st0.2 (goes p i) = false := by simpa using hg
        rw [hg']
        simp
        exact h3
    have ih := lFold_tells h0 l (lMove lessI p st i) (fun j hj => h1 j (by simp [hj])) (fun c hcc => ⟨(hc c hcc).1.trans (h2 c hcc).1, (hc c hcc).2.trans (h2 c hcc).2⟩) hs.2
    refine ⟨?_, ih.2⟩
    rw [List.foldl_cons, ih.1, hs.1, List.any_cons, Bool.or_assoc]
theorem runM_one {q : ByteArray} {i : Nat} {l : List Nat} {r : ByteArray} (hi : i ∈ moves q) (h : runM (goes q i) l = some r) : runM q (i :: l) = some r := by
  unfold runM; rw [if_pos hi]; exact h
/-- **for one goal the fold tells whether and by how many moves it is reached** -/
theorem lAll_tells {G : ByteArray} : ∀ {L : List ByteArray}, Chain L → ∀ c ∈ L, Tells (lAll (isG G) lessI L).1 (lAll (isG G) lessI L).2 G c
  | [], _, c, hc => by simp at hc
  | p :: L, ⟨hp, hn, hb, hC⟩, c, hc => by
    show Tells (lPond (isG G) lessI p (lAll (isG G) lessI L)).1 (lPond (isG G) lessI p (lAll (isG G) lessI L)).2 G c
    by_cases e : c = p
    · subst e
      by_cases hG : c = G
      · subst hG
        have hE : isG c c = true := by simp [isG]
        unfold lPond
        rw [if_pos hE]
        exact ⟨⟨fun _ => ⟨[], rfl⟩, fun _ => by simp [putL]⟩, fun _ => by simp [putL]⟩
      · have hE : ¬ isG G c = true := by simp [isG, hG]
        unfold lPond
        rw [if_neg hE]
        have h0 := lAll_out (E := isG G) (B := lessI) hn
        have ht := fun i (hi : i ∈ moves c) => lAll_tells (G := G) hC _ (hb i hi)
        have F := lFold_tells (p := c) (d := pot G - pot c) h0 (moves c) (lAll (isG G) lessI L) (fun i hi => ⟨fun e => hn (e ▸ hb i hi), fun hg => by
          have := (ht i hi).2 hg
          have := pot_goes hp hi
          omega⟩) (fun _ _ => ⟨rfl, rfl⟩) (fun h => by rw [h0] at h; cases h)
        rw [h0, Bool.false_or] at F
        refine ⟨⟨fun hg => ?_, fun ⟨l, hl⟩ => ?_⟩, F.2⟩
        · rw [F.1, List.any_eq_true] at hg
          obtain ⟨i, hi, hgi⟩ := hg
          obtain ⟨l, hl⟩ := (ht i hi).1.1 hgi
          exact ⟨i :: l, runM_one hi hl⟩
        · cases l with
          | nil => exact absurd (Option.some.inj hl) hG
          | cons i l =>
            obtain ⟨h1, h2⟩ := runM_cons hl
            rw [F.1, List.any_eq_true]
            exact ⟨i, h1, (ht i h1).1.2 ⟨l, h2⟩⟩
    · have hcL : c ∈ L := by
        rcases List.mem_cons.1 hc with h | h
        · exact absurd h e
        · exact h
      have ih := lAll_tells (G := G) hC c hcL
      obtain ⟨e1, e2⟩ := lPond_other (E := isG G) (B := lessI) e (lAll (isG G) lessI L)
      unfold Tells
      rw [e1, e2]
      exact ih
end Go.Proofs.YteoggpollgkfiaaDoor
