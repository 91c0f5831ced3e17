/- The potential of a pond: each move raises it by one. Plain. -/
import Derived.Test.YteoggpollgkfiaaDoorMvs
import Derived.Test.YteoggpollgkfiaaDoorPlP
namespace Go.Proofs.YteoggpollgkfiaaDoor
set_option linter.unusedVariables false
open Go.RowKit

/-- how far all frogs have come, less the pairs that have passed each other; the first sign has the number i, and n frogs to the left stand before it -/
def potG : List UInt8 → Int → Int → Int
  | [], _, _ => 0
  | c :: t, i, n => (if c = 114 then i - n else if c = 108 then -i else 0) + potG t (i + 1) (if c = 108 then n + 1 else n)
theorem potG_app : ∀ (A B : List UInt8) (i n : Int), potG (A ++ B) i n = potG A i n + potG B (i + A.length) (n + A.count 108)
  | [], B, i, n => by simp [potG]
  | c :: A, B, i, n => by
    show _ + potG (A ++ B) _ _ = _ + potG A _ _ + _
    have e1 : (if c = 108 then n + 1 else n) + (A.count 108 : Int) = n + ((A.count 108 + (if (c == 108) = true then 1 else 0) : Nat) : Int) := by
      by_cases h : c = 108
      · rw [if_pos h, if_pos (by simp [h])]; omega
      · rw [if_neg h, if_neg (by simpa using h)]; omega
    have e2 : i + 1 + (A.length : Int) = i + ((A.length + 1 : Nat) : Int) := by omega
    rw [potG_app A B, List.count_cons, List.length_cons, e1, e2]
    omega
theorem pot_mid {A B X Y : List UInt8} (hx : X.length = Y.length) (hc : X.count 108 = Y.count 108) (h : ∀ i n, potG Y i n = potG X i n + 1) : potG (A ++ (Y ++ B)) 0 0 = potG (A ++ (X ++ B)) 0 0 + 1 := by
  rw [potG_app, potG_app, potG_app A, potG_app X, h, hx, hc]
  omega
theorem at_add (A X : List UInt8) (j : Nat) : (A ++ X).getD (A.length + j) 0 = X.getD j 0 := by
  rw [List.getD_eq_getElem?_getD, List.getElem?_append_right (by omega), Nat.add_sub_cancel_left]; rfl
theorem set_add (A X : List UInt8) (j : Nat) (x : UInt8) : (A ++ X).set (A.length + j) x = A ++ X.set j x := by
  rw [List.set_append_right _ _ (by omega), Nat.add_sub_cancel_left]
theorem mv_add (A X : List UInt8) (j t : Nat) : mvL (A ++ X) (A.length + j) (A.length + t) = A ++ mvL X j t := by
  unfold mvL
  rw [set_add, at_add, set_add]
theorem split2 {l : List UInt8} {k : Nat} (h : k + 1 < l.length) : ∃ A B, l = A ++ ([l.getD k 0, l.getD (k + 1) 0] ++ B) ∧ A.length = k := by
  refine ⟨l.take k, l.drop (k + 2), ?_, by rw [List.length_take]; omega⟩
  have e1 : l.drop k = l.getD k 0 :: l.drop (k + 1) := by
    rw [List.drop_eq_getElem_cons (by omega), List.getD_eq_getElem?_getD, List.getElem?_eq_getElem (by omega)]; rfl
  have e2 : l.drop (k + 1) = l.getD (k + 1) 0 :: l.drop (k + 2) := by
    rw [List.drop_eq_getElem_cons h, List.getD_eq_getElem?_getD, List.getElem?_eq_getElem h]; rfl
  show l = l.take k ++ (l.getD k 0 :: l.getD (k + 1) 0 :: l.drop (k + 2))
  rw [← e2, ← e1, List.take_append_drop]
theorem split3 {l : List UInt8} {k : Nat} (h : k + 2 < l.length) : ∃ A B, l = A ++ ([l.getD k 0, l.getD (k + 1) 0, l.getD (k + 2) 0] ++ B) ∧ A.length = k := by
  obtain ⟨A, B, e, hA⟩ := split2 (l := l) (k := k) (by omega)
  refine ⟨A, B.drop 1, ?_, hA⟩
  have hB : B ≠ [] := by
    intro e2
    have := congrArg List.length e
    rw [e2] at this
    simp at this
    omega
  cases B with
  | nil => exact absurd rfl hB
  | cons b B' =>
    have eb : l.getD (k + 2) 0 = b := by
      rw [e, ← hA, at_add]; rfl
    rw [eb]
    exact e
/-- the potential -/
def pot (s : ByteArray) : Int := potG s.data.toList 0 0
theorem sgb {s : ByteArray} {k : Nat} {c : UInt8} (h : sg s k = (c.toNat : Int)) : s.data.toList.getD k 0 = c := by
  unfold sg at h
  exact UInt8.toNat.inj (by omega)
theorem pot_mv2 {s : ByteArray} {m i t : Nat} {a b a' b' : UInt8} (h : m + 1 < s.size) (ha : sg s m = (a.toNat : Int)) (hb : sg s (m + 1) = (b.toNat : Int)) (hi : i < 2) (ht : t < 2) (hm : mvL [a, b] i t = [a', b']) (hc : [a, b].count 108 = [a', b'].count 108) (hp : ∀ i n, potG [a', b'] i n = potG [a, b] i n + 1) :
    pot (mvB s (m + i) (m + t)) = pot s + 1 := by
  obtain ⟨A, B, e, hA⟩ := split2 (l := s.data.toList) (k := m) (by simpa using h)
  rw [sgb ha, sgb hb] at e
  unfold pot mvB
  show potG (mvL s.data.toList (m + i) (m + t)) 0 0 = _
  have e2 : mvL ([a, b] ++ B) i t = mvL [a, b] i t ++ B := by
    unfold mvL
    rw [List.set_append_left _ _ (by simpa using hi), List.getD_eq_getElem?_getD, List.getElem?_append_left (by simpa using hi), List.set_append_left _ _ (by simpa using ht)]; rfl
  rw [e, ← hA, mv_add, e2, hm]
  exact pot_mid rfl hc hp
theorem pot_mv3 {s : ByteArray} {m i t : Nat} {a b c a' b' c' : UInt8} (h : m + 2 < s.size) (ha : sg s m = (a.toNat : Int)) (hb : sg s (m + 1) = (b.toNat : Int)) (hd : sg s (m + 2) = (c.toNat : Int)) (hi : i < 3) (ht : t < 3) (hm : mvL [a, b, c] i t = [a', b', c']) (hc : [a, b, c].count 108 = [a', b', c'].count 108) (hp : ∀ i n, potG [a', b', c'] i n = potG [a, b, c] i n + 1) :
    pot (mvB s (m + i) (m + t)) = pot s + 1 := by
  obtain ⟨A, B, e, hA⟩ := split3 (l := s.data.toList) (k := m) (by simpa using h)
  rw [sgb ha, sgb hb, sgb hd] at e
  unfold pot mvB
  show potG (mvL s.data.toList (m + i) (m + t)) 0 0 = _
  have e2 : mvL ([a, b, c] ++ B) i t = mvL [a, b, c] i t ++ B := by
    unfold mvL
    rw [List.set_append_left _ _ (by simpa using hi), List.getD_eq_getElem?_getD, List.getElem?_append_left (by simpa using hi), List.set_append_left _ _ (by simpa using ht)]; rfl
  rw [e, ← hA, mv_add, e2, hm]
  exact pot_mid rfl hc hp
/-- **each move raises the potential by one** -/
theorem pot_goes {s : ByteArray} (hp : isPd s = true) {i : Nat} (h : i ∈ moves s) : pot (goes s i) = pot s + 1 := by
  obtain ⟨hi, hgo⟩ : i < s.size ∧ 0 ≤ toI s i := mvTo_mem s _ i h
  unfold goes
  rw [toI_nat hi] at hgo ⊢
  unfold toN at hgo ⊢
  by_cases h1 : sg s i = 114
  · rw [if_pos h1] at hgo ⊢
    by_cases h2 : i + 1 < s.size ∧ sg s (i + 1) = 46
    · rw [if_pos h2]
      rw [show ((i : Int) + 1).toNat = i + 1 by omega]
      exact pot_mv2 (m := i) (i := 0) (t := 1) (a := 114) (b := 46) (a' := 46) (b' := 114) h2.1 h1 h2.2 (by omega) (by omega) rfl rfl (by intro i n; simp [potG]; omega)
    · rw [if_neg h2] at hgo ⊢
      by_cases h3 : i + 2 < s.size ∧ sg s (i + 2) = 46 ∧ sg s (i + 1) ≠ 114
      · rw [if_pos h3]
        have hm : sg s (i + 1) = 108 := by
          have := isPd_sg hp (k := i + 1) (by omega)
          have h4 : ¬ sg s (i + 1) = 46 := fun e => h2 ⟨by omega, e⟩
          have h5 := h3.2.2
          omega
        rw [show ((i : Int) + 2).toNat = i + 2 by omega]
        exact pot_mv3 (m := i) (i := 0) (t := 2) (a := 114) (b := 108) (c := 46) (a' := 46) (b' := 108) (c' := 114) h3.1 h1 hm h3.2.1 (by omega) (by omega) rfl rfl (by intro i n; simp [potG]; omega)
      · rw [if_neg h3] at hgo; omega
  · rw [if_neg h1] at hgo ⊢
    by_cases h0 : sg s i = 108
    · rw [if_pos h0] at hgo ⊢
      by_cases h2 : 1 ≤ i ∧ sg s (i - 1) = 46
      · rw [if_pos h2]
        obtain ⟨m, rfl⟩ : ∃ m, i = m + 1 := ⟨i - 1, by omega⟩
        rw [show (((m + 1 : Nat) : Int) - 1).toNat = m + 0 by omega]
        exact pot_mv2 (m := m) (i := 1) (t := 0) (a := 46) (b := 108) (a' := 108) (b' := 46) hi h2.2 h0 (by omega) (by omega) rfl rfl (by intro i n; simp [potG]; omega)
      · rw [if_neg h2] at hgo ⊢
        by_cases h3 : 2 ≤ i ∧ sg s (i - 2) = 46 ∧ sg s (i - 1) ≠ 108
        · rw [if_pos h3]
          obtain ⟨m, rfl⟩ : ∃ m, i = m + 2 := ⟨i - 2, by omega⟩
          have hm : sg s (m + 1) = 114 := by
            have := isPd_sg hp (k := m + 1) (by omega)
            have h4 : ¬ sg s (m + 1) = 46 := fun e => h2 ⟨by omega, e⟩
            have h5 : sg s (m + 1) ≠ 108 := h3.2.2
            omega
          rw [show (((m + 2 : Nat) : Int) - 2).toNat = m + 0 by omega]
          exact pot_mv3 (m := m) (i := 2) (t := 0) (a := 46) (b := 114) (c := 108) (a' := 108) (b' := 114) (c' := 46) hi h3.2.1 hm h0 (by omega) (by omega) rfl rfl (by intro i n; simp [potG]; omega)
        · rw [if_neg h3] at hgo; omega
    · rw [if_neg h0] at hgo; omega
theorem potG_bd : ∀ (l : List UInt8) (i n : Int), 0 ≤ i → 0 ≤ n → i + l.length ≤ 9 → n ≤ i → -((l.length : Int) * 9) ≤ potG l i n ∧ potG l i n ≤ (l.length : Int) * 9
  | [], i, n, _, _, _, _ => by simp [potG]
  | c :: t, i, n, h0, h1, h2, h3 => by
    rw [List.length_cons] at h2
    have ih := potG_bd t (i + 1) (if c = 108 then n + 1 else n) (by omega) (by split <;> omega) (by omega) (by split <;> omega)
    unfold potG
    rw [List.length_cons]
    have e : (((t.length + 1 : Nat) : Int)) * 9 = (t.length : Int) * 9 + 9 := by omega
    rw [e]
    generalize potG t _ _ = x at *
    split
    · omega
    · split <;> omega
theorem pot_bd {s : ByteArray} (hp : isPd s = true) : -81 ≤ pot s ∧ pot s ≤ 81 := by
  have h := (isPd_in hp).2.1
  have hl : s.data.toList.length = s.size := by simp
  have := potG_bd s.data.toList 0 0 (by omega) (by omega) (by omega) (by omega)
  unfold pot
  omega
end Go.Proofs.YteoggpollgkfiaaDoor
