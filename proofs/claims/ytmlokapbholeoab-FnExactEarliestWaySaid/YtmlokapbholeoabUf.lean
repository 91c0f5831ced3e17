/- Tides, plain: the latest start; who is in time, told from the end. -/
import Derived.Test.YtmlokapbholeoabUb
namespace Go.Proofs.Ytmlokapbholeoab
set_option linter.unusedVariables false

/-- whether one who is at a place j hours before the hour e can be at the far bank at e -/
def bk (h t : ByteArray) (l e : Nat) : Nat → Nat → Bool
  | 0, p => p == h.size + 1
  | j + 1, p => stF h t (bk h t l e j) l (e - j - 1) p
theorem stF_iff {h t : ByteArray} {f : Nat → Bool} {L x p : Nat} : stF h t f L x p = true ↔ dry h t p x = true ∧ ∃ q, q < h.size + 2 ∧ f q = true ∧ near L p q = true := by
  unfold stF; rw [orF_near]
  simp only [Bool.and_eq_true, List.any_eq_true, List.mem_range]
theorem bk_dry {h t : ByteArray} {l e : Nat} : ∀ {j p : Nat}, bk h t l e j p = true → dry h t p (e - j) = true
  | 0, p, g => by
    have : p = h.size + 1 := by simpa [bk] using g
    rw [this]; exact dry_far _ _ _
  | j + 1, p, g => by
    have := (stF_iff.1 (show stF h t (bk h t l e j) l (e - j - 1) p = true from g)).1
    rw [show e - (j + 1) = e - j - 1 by omega]; exact this
theorem rc_dry {h t : ByteArray} {L s : Nat} : ∀ {k p : Nat}, rc h t L s k p = true → dry h t p (s + k) = true
  | 0, p, g => by rw [rc_0.1 g]; exact dry_0 _ _ _
  | k + 1, p, g => (rc_succ.1 g).1
theorem bk_mid {h t : ByteArray} {l e j : Nat} (hj : j ≤ e) : ∀ m, m ≤ j → ((∃ q, q < h.size + 2 ∧ rc h t l (e - j) m q = true ∧ bk h t l e (j - m) q = true) ↔ bk h t l e j 0 = true)
  | 0, _ => ⟨fun ⟨q, _, h1, h2⟩ => by rw [rc_0.1 h1] at h2; exact h2, fun g => ⟨0, by omega, rc_0.2 rfl, g⟩⟩
  | m + 1, hm => by
    rw [← bk_mid hj m (by omega)]
    obtain ⟨i, hi⟩ : ∃ i, i = j - (m + 1) := ⟨_, rfl⟩
    rw [← hi, show j - m = i + 1 by omega]
    constructor
    · rintro ⟨q', h1, h2, h3⟩
      obtain ⟨g1, q, g2, g3, g4⟩ := rc_succ.1 h2
      refine ⟨q, g2, g3, stF_iff.2 ⟨?_, q', h1, h3, near_iff.2 (by have := near_iff.1 g4; omega)⟩⟩
      have := rc_dry g3
      rw [show e - i - 1 = e - j + m by omega]; exact this
    · rintro ⟨q, h1, h2, h3⟩
      obtain ⟨g1, q', g2, g3, g4⟩ := stF_iff.1 (show stF h t (bk h t l e i) l (e - i - 1) q = true from h3)
      refine ⟨q', g2, rc_succ.2 ⟨?_, q, h1, h2, near_iff.2 (by have := near_iff.1 g4; omega)⟩, g3⟩
      have := bk_dry g3
      rw [show e - j + m + 1 = e - i by omega]; exact this
/-- whether one who starts at s can be at the far bank by the hour e -/
def okS (h t : ByteArray) (l e s : Nat) : Bool := rc h t l s (e - s) (h.size + 1)
theorem bk_ok {h t : ByteArray} {l e s : Nat} (hs : s ≤ e) : bk h t l e (e - s) 0 = okS h t l e s := by
  have M := bk_mid (h := h) (t := t) (l := l) (j := e - s) (Nat.sub_le e s) (e - s) (Nat.le_refl _)
  rw [show e - (e - s) = s by omega, Nat.sub_self] at M
  rw [Bool.eq_iff_iff, ← M]
  unfold okS
  constructor
  · rintro ⟨q, _, h2, h3⟩
    have : q = h.size + 1 := by simpa [bk] using h3
    rw [this] at h2; exact h2
  · intro g; exact ⟨h.size + 1, by omega, g, by simp [bk]⟩
theorem okS_end (h t : ByteArray) (l e : Nat) : okS h t l e e = false := by
  unfold okS; rw [Nat.sub_self]; simp [rc]
theorem okS_arV {h t : ByteArray} {l e s : Nat} (ht : 0 < t.size) (hs : s ≤ e) : okS h t l e s = true ↔ (0 ≤ arV h t l s (h.size + 1) ∧ arV h t l s (h.size + 1) ≤ e) := by
  unfold arV okS
  rcases arr_cases h t l s (h.size + 1) (kHrs h t) with ⟨e1, hn⟩ | ⟨j, hj, e1, hr, hn⟩
  · rw [e1]
    refine ⟨fun g => ?_, fun c => by omega⟩
    obtain ⟨j, _, hj, hr⟩ := rc_soon ht g (Nat.le_refl _)
    have := hn j (Nat.le_trans hj (kHrs_ge h t))
    rw [hr] at this; exact Bool.noConfusion this
  · rw [e1]
    constructor
    · intro g
      by_cases c : j ≤ e - s
      · omega
      · have := hn (e - s) (by omega)
        rw [g] at this; exact Bool.noConfusion this
    · rintro ⟨_, g⟩
      rw [show e - s = j + (e - s - j) by omega]
      exact rc_far hr _
/-- the latest of the first n starts from which one is in time -/
def lsF (h t : ByteArray) (l e : Nat) : Nat → Option Nat
  | 0 => none
  | n + 1 => if okS h t l e n = true then some n else lsF h t l e n
theorem lsF_none {h t : ByteArray} {l e : Nat} : ∀ {n : Nat}, (∀ m, m < n → okS h t l e m = false) → lsF h t l e n = none
  | 0, _ => rfl
  | n + 1, g => by
    unfold lsF; rw [if_neg (by rw [g n (by omega)]; simp)]; exact lsF_none fun m hm => g m (by omega)
theorem lsF_some {h t : ByteArray} {l e k : Nat} (hk : okS h t l e k = true) : ∀ {n : Nat}, k < n → (∀ m, k < m → m < n → okS h t l e m = false) → lsF h t l e n = some k
  | 0, c, _ => by omega
  | n + 1, c, g => by
    unfold lsF
    by_cases e1 : n = k
    · subst e1; rw [if_pos hk]
    · rw [if_neg (by rw [g n (by omega) (by omega)]; simp)]; exact lsF_some hk (by omega) fun m h1 h2 => g m h1 (by omega)
/-- so far back there is none that has not come later -/
theorem ls_low {h t : ByteArray} {l e i : Nat} (ht : 0 < t.size) (h1 : i + t.size * (h.size + 4) ≤ e) (hno : ∀ m, i < m → m ≤ e → okS h t l e m = false) (m : Nat) (hm : m ≤ i) : okS h t l e m = false := by
  cases ho : okS h t l e m
  · rfl
  · exfalso
    obtain ⟨j, j1, j2, jr⟩ := rc_soon ht (show rc h t l m (e - m) (h.size + 1) = true from ho) (Nat.le_refl _)
    obtain ⟨d, hd⟩ : ∃ d, d = t.size * ((e - j - m) / t.size) := ⟨_, rfl⟩
    have d1 : d ≤ e - j - m := by rw [hd]; exact Nat.mul_div_le _ _
    have d2 : e - j - m < d + t.size := by
      have := Nat.lt_mul_div_succ (e - j - m) ht
      rw [Nat.mul_add, Nat.mul_one] at this; omega
    have e1 : (m + d) % t.size = m % t.size := by rw [hd, Nat.add_mul_mod_self_left]
    have r1 : rc h t l (m + d) j (h.size + 1) = true := by rw [rc_same e1]; exact jr
    have r2 : okS h t l e (m + d) = true := by
      unfold okS
      rw [show e - (m + d) = j + (e - (m + d) - j) by omega]
      exact rc_far r1 _
    have f1 : t.size * (h.size + 4) = t.size * h.size + t.size * 4 := Nat.mul_add ..
    have f2 : (h.size + 2) * t.size = t.size * h.size + 2 * t.size := by rw [Nat.add_mul, Nat.mul_comm h.size]
    have r3 := hno (m + d) (by omega) (by omega)
    rw [r2] at r3; exact Bool.noConfusion r3
def lsV (h t : ByteArray) (L X : Int) : Value := if askd h t L X then (match lsF h t L.toNat X.toNat (X.toNat + 1) with | some n => .tuple #[.int .i64 (n : Int), .bool true] | none => .tuple #[.int .i64 0, .bool false]) else .tuple #[.int .i64 0, .bool false]
theorem lsV_form (h t : ByteArray) (L X : Int) : ∃ x y, lsV h t L X = .tuple #[.int .i64 x, .bool y] := by
  unfold lsV; split
  · split <;> exact ⟨_, _, rfl⟩
  · exact ⟨_, _, rfl⟩
theorem lsV_ask {h t : ByteArray} {L X : Int} (g : askd h t L X = false) : lsV h t L X = .tuple #[.int .i64 0, .bool false] := by simp [lsV, g]
theorem lsV_none {h t : ByteArray} {l e : Nat} (g : askd h t l e = true) (hn : ∀ m, m ≤ e → okS h t l e m = false) : lsV h t l e = .tuple #[.int .i64 0, .bool false] := by
  have := lsF_none (h := h) (t := t) (l := l) (e := e) (n := e + 1) fun m hm => hn m (by omega)
  unfold lsV; rw [if_pos g]; simp only [Int.toNat_natCast, this]
theorem lsV_some {h t : ByteArray} {l e k : Nat} (g : askd h t l e = true) (hk : okS h t l e k = true) (hke : k ≤ e) (hn : ∀ m, k < m → m ≤ e → okS h t l e m = false) : lsV h t l e = .tuple #[.int .i64 (k : Int), .bool true] := by
  have := lsF_some hk (n := e + 1) (by omega) fun m h1 h2 => hn m h1 (by omega)
  unfold lsV; rw [if_pos g]; simp only [Int.toNat_natCast, this]
end Go.Proofs.Ytmlokapbholeoab
