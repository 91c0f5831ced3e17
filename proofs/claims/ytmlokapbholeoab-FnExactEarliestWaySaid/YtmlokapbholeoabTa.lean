/- Tides, plain: where one can be at which hour; the search by moments, and what it finds. -/
import Derived.Test.YtmlokapbholeoabTd
namespace Go.Proofs.Ytmlokapbholeoab
set_option linter.unusedVariables false

def near (L p q : Nat) : Bool := decide (p ≤ q + L) && decide (q ≤ p + L)
theorem near_iff {L p q : Nat} : near L p q = true ↔ p ≤ q + L ∧ q ≤ p + L := by simp [near]
/-- whether one can be at a place k hours behind the start s -/
def rc (h t : ByteArray) (L s : Nat) : Nat → Nat → Bool
  | 0, p => p == 0
  | k + 1, p => dry h t p (s + k + 1) && (List.range (h.size + 2)).any fun q => rc h t L s k q && near L p q
theorem rc_0 {h t : ByteArray} {L s p : Nat} : rc h t L s 0 p = true ↔ p = 0 := by simp [rc]
theorem rc_succ {h t : ByteArray} {L s k p : Nat} : rc h t L s (k + 1) p = true ↔ dry h t p (s + k + 1) = true ∧ ∃ q, q < h.size + 2 ∧ rc h t L s k q = true ∧ near L p q = true := by
  simp only [rc, Bool.and_eq_true, List.any_eq_true, List.mem_range]
theorem rc_stay0 (h t : ByteArray) (L s : Nat) : ∀ k, rc h t L s k 0 = true
  | 0 => rc_0.2 rfl
  | k + 1 => rc_succ.2 ⟨dry_0 _ _ _, 0, by omega, rc_stay0 h t L s k, near_iff.2 (by omega)⟩
theorem rc_far {h t : ByteArray} {L s k : Nat} (g : rc h t L s k (h.size + 1) = true) : ∀ d, rc h t L s (k + d) (h.size + 1) = true
  | 0 => g
  | d + 1 => rc_succ.2 ⟨dry_far _ _ _, h.size + 1, by omega, rc_far g d, near_iff.2 (by omega)⟩
theorem dry_same {h t : ByteArray} {p x y : Nat} (g : x % t.size = y % t.size) : dry h t p x = dry h t p y := by unfold dry; rw [g]
theorem rc_same {h t : ByteArray} {L s s' : Nat} (g : s % t.size = s' % t.size) : ∀ k p, rc h t L s k p = rc h t L s' k p
  | 0, p => rfl
  | k + 1, p => by
    have e : (fun q => rc h t L s k q && near L p q) = (fun q => rc h t L s' k q && near L p q) := funext fun q => by rw [rc_same g k q]
    have e2 : (s + k + 1) % t.size = (s' + k + 1) % t.size := by
      rw [Nat.add_assoc, Nat.add_assoc, Nat.add_mod s, Nat.add_mod s', g]
    show (dry h t p (s + k + 1) && _) = (dry h t p (s' + k + 1) && _)
    rw [e, dry_same e2]
theorem rc_wait {h t : ByteArray} {L s d : Nat} : ∀ k p, rc h t L (s + d) k p = true → rc h t L s (d + k) p = true
  | 0, p, g => by rw [rc_0.1 g]; exact rc_stay0 _ _ _ _ _
  | k + 1, p, g => by
    obtain ⟨g1, q, g2, g3, g4⟩ := rc_succ.1 g
    refine rc_succ.2 ⟨?_, q, g2, rc_wait k q g3, g4⟩
    have e : s + d + k + 1 = s + (d + k) + 1 := by omega
    rw [e] at g1; exact g1
/-- the first of the first k hours behind s at which one can be at a place, or -1 -/
def arr (h t : ByteArray) (L s p : Nat) : Nat → Int
  | 0 => if p = 0 then (s : Int) else -1
  | k + 1 => if rc h t L s (k + 1) p = true ∧ arr h t L s p k < 0 then ((s + k + 1 : Nat) : Int) else arr h t L s p k
theorem arr_cases (h t : ByteArray) (L s p : Nat) : ∀ k, (arr h t L s p k = -1 ∧ ∀ j, j ≤ k → rc h t L s j p = false) ∨ (∃ j, j ≤ k ∧ arr h t L s p k = ((s + j : Nat) : Int) ∧ rc h t L s j p = true ∧ ∀ i, i < j → rc h t L s i p = false)
  | 0 => by
    by_cases h0 : p = 0
    · right; exact ⟨0, Nat.le_refl _, by simp [arr, h0], rc_0.2 h0, fun i hi => absurd hi (Nat.not_lt_zero _)⟩
    · left; refine ⟨by simp [arr, h0], fun j hj => ?_⟩
      obtain rfl : j = 0 := by omega
      cases e : rc h t L s 0 p
      · rfl
      · exact absurd (rc_0.1 e) h0
  | k + 1 => by
    rcases arr_cases h t L s p k with ⟨e, hn⟩ | ⟨j, hj, e, hr, hn⟩
    · cases e1 : rc h t L s (k + 1) p
      · left
        refine ⟨by unfold arr; rw [if_neg (by rw [e1]; simp)]; exact e, fun i hi => ?_⟩
        by_cases c : i ≤ k
        · exact hn i c
        · obtain rfl : i = k + 1 := by omega
          exact e1
      · right
        refine ⟨k + 1, Nat.le_refl _, ?_, e1, fun i hi => hn i (by omega)⟩
        unfold arr; rw [if_pos ⟨e1, by rw [e]; omega⟩]; rfl
    · right
      refine ⟨j, by omega, ?_, hr, hn⟩
      unfold arr; rw [if_neg (by rw [e]; omega)]; exact e
theorem arr_yes {h t : ByteArray} {L s p k : Nat} (g : rc h t L s (k + 1) p = true) (g2 : arr h t L s p k < 0) : arr h t L s p (k + 1) = ((s + k + 1 : Nat) : Int) := by
  unfold arr; rw [if_pos ⟨g, g2⟩]
theorem arr_no {h t : ByteArray} {L s p k : Nat} (g : ¬ (rc h t L s (k + 1) p = true ∧ arr h t L s p k < 0)) : arr h t L s p (k + 1) = arr h t L s p k := by
  show (if _ then _ else _) = _; rw [if_neg g]

/-! ### The search: E: all moments that have come, in their order -/
def kn (t : ByteArray) (E : List (Nat × Nat)) (p r : Nat) : Bool := E.tail.any fun m => m.1 == p && m.2 % t.size == r
theorem kn_iff {t : ByteArray} {E : List (Nat × Nat)} {p r : Nat} : kn t E p r = true ↔ ∃ m ∈ E.tail, m.1 = p ∧ m.2 % t.size = r := by
  simp [kn, List.any_eq_true]
/-- one goes on to the i places from lo on, where one comes at the hour x -/
def goE (h t : ByteArray) (E : List (Nat × Nat)) (lo x : Nat) : Nat → List (Nat × Nat)
  | 0 => E
  | i + 1 => if dry h t (lo + i) x = true ∧ kn t (goE h t E lo x i) (lo + i) (x % t.size) = false then goE h t E lo x i ++ [(lo + i, x)] else goE h t E lo x i
theorem goE_yes {h t : ByteArray} {E : List (Nat × Nat)} {lo x i : Nat} (g : dry h t (lo + i) x = true) (g2 : kn t (goE h t E lo x i) (lo + i) (x % t.size) = false) : goE h t E lo x (i + 1) = goE h t E lo x i ++ [(lo + i, x)] := by
  show (if _ then _ else _) = _; rw [if_pos ⟨g, g2⟩]
theorem goE_no {h t : ByteArray} {E : List (Nat × Nat)} {lo x i : Nat} (g : ¬ (dry h t (lo + i) x = true ∧ kn t (goE h t E lo x i) (lo + i) (x % t.size) = false)) : goE h t E lo x (i + 1) = goE h t E lo x i := by
  show (if _ then _ else _) = _; rw [if_neg g]
/-- how many places: from p - L up to p + L, as far as there are -/
def cnt (h : ByteArray) (L p : Nat) : Nat := min (p + L) (h.size + 1) + 1 - (p - L)
def bf (h t : ByteArray) (L s : Nat) : Nat → List (Nat × Nat)
  | 0 => [(0, s)]
  | i + 1 => match (bf h t L s i)[i]? with
    | some m => goE h t (bf h t L s i) (m.1 - L) (m.2 + 1) (cnt h L m.1)
    | none => bf h t L s i
theorem bf_none {h t : ByteArray} {L s i : Nat} (g : (bf h t L s i)[i]? = none) : bf h t L s (i + 1) = bf h t L s i := by
  show (match (bf h t L s i)[i]? with | some m => _ | none => _) = _; rw [g]
theorem bf_some {h t : ByteArray} {L s i : Nat} {m : Nat × Nat} (g : (bf h t L s i)[i]? = some m) : bf h t L s (i + 1) = goE h t (bf h t L s i) (m.1 - L) (m.2 + 1) (cnt h L m.1) := by
  show (match (bf h t L s i)[i]? with | some m => _ | none => _) = _; rw [g]
/-- what goE appends: (places, all at the hour x) -/
theorem goE_app (h t : ByteArray) (E : List (Nat × Nat)) (lo x : Nat) : ∀ i, ∃ A, goE h t E lo x i = E ++ A ∧ (∀ m ∈ A, m.2 = x ∧ lo ≤ m.1 ∧ m.1 < lo + i ∧ dry h t m.1 x = true)
  | 0 => ⟨[], by simp [goE], by simp⟩
  | i + 1 => by
    obtain ⟨A, e, hA⟩ := goE_app h t E lo x i
    by_cases g : dry h t (lo + i) x = true ∧ kn t (goE h t E lo x i) (lo + i) (x % t.size) = false
    · refine ⟨A ++ [(lo + i, x)], by rw [goE_yes g.1 g.2, e, List.append_assoc], fun m hm => ?_⟩
      rcases List.mem_append.1 hm with hm | hm
      · have := hA m hm; exact ⟨this.1, this.2.1, by omega, this.2.2.2⟩
      · simp at hm; subst hm; exact ⟨rfl, by simp, by simp, g.1⟩
    · refine ⟨A, by rw [goE_no g, e], fun m hm => ?_⟩
      have := hA m hm; exact ⟨this.1, this.2.1, by omega, this.2.2.2⟩
theorem kn_app {t : ByteArray} {E A : List (Nat × Nat)} {p r : Nat} (h0 : E ≠ []) (g : kn t E p r = true) : kn t (E ++ A) p r = true := by
  obtain ⟨m, hm, h1⟩ := kn_iff.1 g
  refine kn_iff.2 ⟨m, ?_, h1⟩
  rw [List.tail_append_of_ne_nil h0]
  exact List.mem_append_left _ hm
/-- each place that is dry is known behind it -/
theorem goE_has {h t : ByteArray} {E : List (Nat × Nat)} {lo x : Nat} (h0 : E ≠ []) : ∀ i j, j < i → dry h t (lo + j) x = true → kn t (goE h t E lo x i) (lo + j) (x % t.size) = true
  | 0, j, hj, _ => absurd hj (Nat.not_lt_zero _)
  | i + 1, j, hj, hd => by
    obtain ⟨A, eA, _⟩ := goE_app h t E lo x i
    have hne : goE h t E lo x i ≠ [] := by rw [eA]; simp [h0]
    by_cases g : dry h t (lo + i) x = true ∧ kn t (goE h t E lo x i) (lo + i) (x % t.size) = false
    · rw [goE_yes g.1 g.2]
      by_cases c : j = i
      · subst c
        refine kn_iff.2 ⟨(lo + j, x), ?_, rfl, rfl⟩
        rw [List.tail_append_of_ne_nil hne]
        exact List.mem_append_right _ (by simp)
      · exact kn_app hne (goE_has h0 i j (by omega) hd)
    · rw [goE_no g]
      by_cases c : j = i
      · subst c
        cases e : kn t (goE h t E lo x j) (lo + j) (x % t.size)
        · exact absurd ⟨hd, e⟩ g
        · rfl
      · exact goE_has h0 i j (by omega) hd

/-- no moment comes twice -/
def Nod (t : ByteArray) (E : List (Nat × Nat)) : Prop := (E.tail.map fun m => (m.1, m.2 % t.size)).Nodup
theorem nod_app {t : ByteArray} {E : List (Nat × Nat)} {p x : Nat} (h0 : E ≠ []) (g : Nod t E) (hk : kn t E p (x % t.size) = false) : Nod t (E ++ [(p, x)]) := by
  unfold Nod
  rw [List.tail_append_of_ne_nil h0, List.map_append]
  refine List.nodup_append.2 ⟨g, by simp, fun a ha b hb e => ?_⟩
  simp at hb
  subst e hb
  obtain ⟨m, hm, e⟩ := List.mem_map.1 ha
  have : kn t E p (x % t.size) = true := kn_iff.2 ⟨m, hm, (Prod.mk.inj e).1, (Prod.mk.inj e).2⟩
  rw [hk] at this; exact Bool.noConfusion this
theorem goE_nod {h t : ByteArray} {E : List (Nat × Nat)} {lo x : Nat} (h0 : E ≠ []) (g : Nod t E) : ∀ i, Nod t (goE h t E lo x i)
  | 0 => g
  | i + 1 => by
    obtain ⟨A, eA, _⟩ := goE_app h t E lo x i
    have hne : goE h t E lo x i ≠ [] := by rw [eA]; simp [h0]
    by_cases c : dry h t (lo + i) x = true ∧ kn t (goE h t E lo x i) (lo + i) (x % t.size) = false
    · rw [goE_yes c.1 c.2]; exact nod_app hne (goE_nod h0 g i) c.2
    · rw [goE_no c]; exact goE_nod h0 g i
theorem nodup_lenT : ∀ (N : Nat) (l : List Nat), l.Nodup → (∀ x ∈ l, x < N) → l.length ≤ N
  | 0, l, _, h => by
    cases l with
    | nil => simp
    | cons a l => have := h a (List.mem_cons_self ..); omega
  | N + 1, l, hn, h => by
    have ih := nodup_lenT N (l.erase N) (hn.erase N) (fun x hx => by
      have h1 := (List.Nodup.mem_erase_iff hn).1 hx
      have := h x h1.2
      have := h1.1
      omega)
    have := List.le_length_erase (a := N) (l := l)
    omega
/-- the places are told with the hours of the tide: there are no more -/
theorem nod_len {n T : Nat} : ∀ (l : List (Nat × Nat)), l.Nodup → (∀ c ∈ l, c.1 < n ∧ c.2 < T) → l.length ≤ n * T := by
  intro l hn hl
  have hsub : ∀ c ∈ l.map (fun c => c.1 * T + c.2), c < n * T := by
    intro c hc
    obtain ⟨a, ha, rfl⟩ := List.mem_map.1 hc
    obtain ⟨h1, h2⟩ := hl a ha
    calc a.1 * T + a.2 < a.1 * T + T := by omega
      _ = (a.1 + 1) * T := by rw [Nat.add_mul, Nat.one_mul]
      _ ≤ n * T := Nat.mul_le_mul_right _ h1
  have hnd : (l.map (fun c => c.1 * T + c.2)).Nodup := by
    refine List.nodup_iff_pairwise_ne.2 (List.pairwise_map.2 ((List.nodup_iff_pairwise_ne.1 hn).imp_of_mem fun {a b} ha hb hne e => hne ?_))
    obtain ⟨_, h2⟩ := hl a ha
    obtain ⟨_, h3⟩ := hl b hb
    have e1 : a.2 = b.2 := by
      have := congrArg (· % T) e
      simpa [Nat.mul_add_mod, Nat.add_mod, Nat.mul_mod_left, Nat.mod_eq_of_lt h2, Nat.mod_eq_of_lt h3] using this
    have e2 : a.1 * T = b.1 * T := by omega
    have e3 : a.1 = b.1 := Nat.eq_of_mul_eq_mul_right (by omega) e2
    exact Prod.ext e3 e1
  have := nodup_lenT (n * T) _ hnd hsub
  simpa using this
end Go.Proofs.Ytmlokapbholeoab
