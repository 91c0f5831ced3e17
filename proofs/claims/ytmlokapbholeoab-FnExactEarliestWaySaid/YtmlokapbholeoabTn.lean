/- Tides, plain: what the search by moments finds. -/
import Derived.Test.YtmlokapbholeoabTa
namespace Go.Proofs.Ytmlokapbholeoab
set_option linter.unusedVariables false

/-- what holds of the moments E when i of them have been gone on from -/
structure BF (h t : ByteArray) (L s : Nat) (E : List (Nat × Nat)) (i : Nat) : Prop where
  first : E[0]? = some (0, s)
  ok : ∀ m ∈ E, m.1 ≤ h.size + 1 ∧ s ≤ m.2 ∧ rc h t L s (m.2 - s) m.1 = true
  nod : Nod t E
  srt : E.Pairwise (fun a b => a.2 ≤ b.2)
  nxt : ∀ c, E[i]? = some c → ∀ m ∈ E, m.2 ≤ c.2 + 1
  hrs : ∀ j m, E[j]? = some m → m.2 ≤ s + j
  shut : ∀ j, j < i → ∀ m, E[j]? = some m → ∀ q, q ≤ h.size + 1 → near L q m.1 = true → dry h t q (m.2 + 1) = true → ∃ c ∈ E, c.1 = q ∧ c.2 % t.size = (m.2 + 1) % t.size ∧ c.2 ≤ m.2 + 1
theorem BF.ne {h t : ByteArray} {L s : Nat} {E : List (Nat × Nat)} {i : Nat} (B : BF h t L s E i) : E ≠ [] := by
  intro e; have := B.first; rw [e] at this; simp at this
theorem bf_start (h t : ByteArray) (L s : Nat) : BF h t L s [(0, s)] 0 where
  first := rfl
  ok := by
    intro m hm
    simp at hm
    subst hm
    exact ⟨Nat.zero_le _, Nat.le_refl _, by rw [Nat.sub_self]; exact rc_0.2 rfl⟩
  nod := by simp [Nod]
  srt := by simp
  nxt := by intro c hc m hm; simp at hm hc; subst hm hc; simp
  hrs := by
    intro j m hj
    have : j = 0 := by
      rcases j with _ | j
      · rfl
      · simp at hj
    subst this; simp at hj; subst hj; simp
  shut := by intro j hj; omega
theorem bf_step {h t : ByteArray} {L s : Nat} {E : List (Nat × Nat)} {i : Nat} (B : BF h t L s E i) {m : Nat × Nat} (hm : E[i]? = some m) :
    BF h t L s (goE h t E (m.1 - L) (m.2 + 1) (cnt h L m.1)) (i + 1) := by
  obtain ⟨A, eA, hA⟩ := goE_app h t E (m.1 - L) (m.2 + 1) (cnt h L m.1)
  have hne := B.ne
  have hmi := List.mem_of_getElem? hm
  obtain ⟨m1, m2, m3⟩ := B.ok m hmi
  have hil : i < E.length := (List.getElem?_eq_some_iff.1 hm).1
  have hle : ∀ c ∈ goE h t E (m.1 - L) (m.2 + 1) (cnt h L m.1), c.2 ≤ m.2 + 1 := by
    intro c hc
    rw [eA] at hc
    rcases List.mem_append.1 hc with hc | hc
    · exact B.nxt m hm c hc
    · rw [(hA c hc).1]; exact Nat.le_refl _
  have hsrt : (goE h t E (m.1 - L) (m.2 + 1) (cnt h L m.1)).Pairwise (fun a b => a.2 ≤ b.2) := by
    rw [eA]
    refine List.pairwise_append.2 ⟨B.srt, ?_, fun a ha b hb => ?_⟩
    · exact List.pairwise_iff_forall_sublist.2 fun {a b} hab => by
        have h1 := hA a (hab.subset (by simp)); have h2 := hA b (hab.subset (by simp)); omega
    · rw [(hA b hb).1]; exact B.nxt m hm a ha
  refine ⟨?_, ?_, goE_nod hne B.nod _, hsrt, ?_, ?_, ?_⟩
  · rw [eA, List.getElem?_append_left (by have := B.first; exact (List.getElem?_eq_some_iff.1 this).1)]; exact B.first
  · intro c hc
    rw [eA] at hc
    rcases List.mem_append.1 hc with hc | hc
    · exact B.ok c hc
    · obtain ⟨c1, c2, c3, c4⟩ := hA c hc
      have hcn : c.1 ≤ h.size + 1 := by unfold cnt at c3; omega
      refine ⟨hcn, by omega, ?_⟩
      rw [show c.2 - s = (m.2 - s) + 1 from by omega]
      refine rc_succ.2 ⟨?_, m.1, by omega, m3, near_iff.2 (by unfold cnt at c3; omega)⟩
      rw [show s + (m.2 - s) + 1 = m.2 + 1 from by omega]; exact c4
  · intro c hc d hd
    have h1 := hle d hd
    have h2 : m.2 ≤ c.2 := by
      have e1 : (goE h t E (m.1 - L) (m.2 + 1) (cnt h L m.1))[i]? = some m := by
        rw [eA, List.getElem?_append_left hil]; exact hm
      obtain ⟨i1, e1⟩ := List.getElem?_eq_some_iff.1 e1
      obtain ⟨i2, e2⟩ := List.getElem?_eq_some_iff.1 hc
      have := List.pairwise_iff_getElem.1 hsrt i (i + 1) i1 i2 (Nat.lt_succ_self _)
      rw [e1, e2] at this; exact this
    omega
  · intro j c hc
    rw [eA] at hc
    by_cases hj : j < E.length
    · rw [List.getElem?_append_left hj] at hc; exact B.hrs j c hc
    · rw [List.getElem?_append_right (by omega)] at hc
      have := (hA c (List.mem_of_getElem? hc)).1
      have := B.hrs i m hm
      omega
  · intro j hj c hc q hq hnr hd
    by_cases hji : j = i
    · subst hji
      have e1 : (goE h t E (m.1 - L) (m.2 + 1) (cnt h L m.1))[j]? = some m := by
        rw [eA, List.getElem?_append_left hil]; exact hm
      rw [e1] at hc
      obtain rfl : m = c := by simpa using hc
      have hn := near_iff.1 hnr
      have hq2 : q = m.1 - L + (q - (m.1 - L)) := by omega
      have hk := goE_has (h := h) (t := t) (lo := m.1 - L) (x := m.2 + 1) hne (cnt h L m.1) (q - (m.1 - L)) (by unfold cnt; omega) (by rw [← hq2]; exact hd)
      rw [← hq2] at hk
      obtain ⟨c, hc1, hc2, hc3⟩ := kn_iff.1 hk
      exact ⟨c, List.mem_of_mem_tail hc1, hc2, hc3, hle c (List.mem_of_mem_tail hc1)⟩
    · have hjl : j < E.length := by omega
      rw [eA, List.getElem?_append_left hjl] at hc
      obtain ⟨d, hd1, hd2⟩ := B.shut j (by omega) c hc q hq hnr hd
      exact ⟨d, by rw [eA]; exact List.mem_append_left _ hd1, hd2⟩
theorem bf_none' {h t : ByteArray} {L s : Nat} {E : List (Nat × Nat)} {i : Nat} (B : BF h t L s E i) (hm : E[i]? = none) : BF h t L s E (i + 1) where
  first := B.first
  ok := B.ok
  nod := B.nod
  srt := B.srt
  nxt := by
    intro c hc
    have h1 := List.getElem?_eq_none_iff.1 hm
    have h2 := (List.getElem?_eq_some_iff.1 hc).1
    omega
  hrs := B.hrs
  shut := by
    intro j hj c hc
    by_cases e : j = i
    · subst e; rw [hm] at hc; cases hc
    · exact B.shut j (by omega) c hc
theorem bf_all (h t : ByteArray) (L s : Nat) : ∀ i, BF h t L s (bf h t L s i) i
  | 0 => bf_start h t L s
  | i + 1 => by
    have ih := bf_all h t L s i
    cases e : (bf h t L s i)[i]? with
    | none => rw [bf_none e]; exact bf_none' ih e
    | some m => rw [bf_some e]; exact bf_step ih e
/-- there are no more moments than places with hours of a tide, and the first one -/
theorem BF.len {h t : ByteArray} {L s : Nat} {E : List (Nat × Nat)} {i : Nat} (B : BF h t L s E i) (ht : 0 < t.size) : E.length ≤ (h.size + 2) * t.size + 1 := by
  have := nod_len (n := h.size + 2) (T := t.size) (E.tail.map fun m : Nat × Nat => (m.1, m.2 % t.size)) (show Nod t E from B.nod) (by
    intro c hc
    obtain ⟨m, hm, rfl⟩ := List.mem_map.1 hc
    have := B.ok m (List.mem_of_mem_tail hm)
    exact ⟨by dsimp only; omega, Nat.mod_lt _ ht⟩)
  simp at this
  omega
/-- each place at which one can be has come, and not later -/
theorem BF.has {h t : ByteArray} {L s : Nat} {E : List (Nat × Nat)} {i : Nat} (B : BF h t L s E i) (hi : E.length ≤ i) : ∀ k p, rc h t L s k p = true → p ≤ h.size + 1 → ∃ m ∈ E, m.1 = p ∧ m.2 % t.size = (s + k) % t.size ∧ m.2 ≤ s + k
  | 0, p, hr, hp => ⟨(0, s), List.mem_of_getElem? B.first, (rc_0.1 hr).symm, rfl, Nat.le_refl _⟩
  | k + 1, p, hr, hp => by
    obtain ⟨hd, q, hq, hrq, hn⟩ := rc_succ.1 hr
    obtain ⟨m, hm, h1, h2, h3⟩ := B.has hi k q hrq (by omega)
    obtain ⟨j, hj, ej⟩ := List.getElem_of_mem hm
    have e : (m.2 + 1) % t.size = (s + k + 1) % t.size := by rw [Nat.add_mod m.2, Nat.add_mod (s + k), h2]
    obtain ⟨c, hc, c1, c2, c3⟩ := B.shut j (by omega) m (by rw [List.getElem?_eq_getElem hj, ej]) p hp (by rw [h1]; exact hn) (by rw [dry_same e]; exact hd)
    exact ⟨c, hc, c1, by rw [c2, e]; rfl, by omega⟩
/-- the hour of the first of some moments at a place, or -1 -/
def fh (l : List (Nat × Nat)) (p : Nat) : Int := match l.find? (fun m => m.1 == p) with
  | some m => (m.2 : Int)
  | none => -1
theorem fh_snoc (l : List (Nat × Nat)) (m : Nat × Nat) (p : Nat) : fh (l ++ [m]) p = if p = m.1 ∧ fh l p < 0 then (m.2 : Int) else fh l p := by
  unfold fh
  rw [List.find?_append]
  cases e : l.find? (fun m => m.1 == p) with
  | some c => simp; omega
  | none =>
    by_cases hp : m.1 = p
    · subst hp; simp
    · have : ¬ p = m.1 := fun c => hp c.symm
      simp [hp, this]
theorem find_first {p : Nat} : ∀ {l : List (Nat × Nat)} {m c : Nat × Nat}, l.Pairwise (fun a b => a.2 ≤ b.2) → l.find? (fun m => m.1 == p) = some m → c ∈ l → c.1 = p → m.2 ≤ c.2
  | [], m, c, _, hf, _, _ => by simp at hf
  | a :: l, m, c, hs, hf, hc, hp => by
    rw [List.pairwise_cons] at hs
    rw [List.find?_cons] at hf
    cases e : (a.1 == p)
    · rw [e] at hf
      rcases List.mem_cons.1 hc with rfl | hc
      · rw [hp] at e; simp at e
      · exact find_first hs.2 hf hc hp
    · rw [e] at hf
      obtain rfl : a = m := by simpa using hf
      rcases List.mem_cons.1 hc with rfl | hc
      · exact Nat.le_refl _
      · exact hs.1 c hc
theorem BF.fh_arr {h t : ByteArray} {L s : Nat} {E : List (Nat × Nat)} {i : Nat} (B : BF h t L s E i) (hi : E.length ≤ i) (ht : 0 < t.size) {K : Nat} (hK : (h.size + 2) * t.size ≤ K) {p : Nat} (hp : p ≤ h.size + 1) : fh E p = arr h t L s p K := by
  have hl := B.len ht
  rcases arr_cases h t L s p K with ⟨e, hn⟩ | ⟨j, hj, e, hr, hn⟩
  · rw [e]
    unfold fh
    cases ef : E.find? (fun m => m.1 == p) with
    | none => rfl
    | some m =>
      exfalso
      have hm := List.mem_of_find?_eq_some ef
      have hmp : m.1 = p := by have := List.find?_some ef; simpa using this
      obtain ⟨j, hj, ej⟩ := List.getElem_of_mem hm
      have h1 := B.hrs j m (by rw [List.getElem?_eq_getElem hj, ej])
      obtain ⟨_, h2, h3⟩ := B.ok m hm
      have := hn (m.2 - s) (by omega)
      rw [hmp] at h3
      rw [h3] at this; exact Bool.noConfusion this
  · rw [e]
    obtain ⟨m, hm, m1, _, m3⟩ := B.has hi j p hr hp
    unfold fh
    cases ef : E.find? (fun m => m.1 == p) with
    | none =>
      have := List.find?_eq_none.1 ef m hm
      simp [m1] at this
    | some c =>
      have hc := List.mem_of_find?_eq_some ef
      have hcp : c.1 = p := by have := List.find?_some ef; simpa using this
      have h1 := find_first B.srt ef hm m1
      obtain ⟨_, h2, h3⟩ := B.ok c hc
      have h4 : j ≤ c.2 - s := by
        by_cases c1 : c.2 - s < j
        · have := hn _ c1; rw [hcp] at h3; rw [h3] at this; exact Bool.noConfusion this
        · omega
      show (c.2 : Int) = _
      omega
/-- who comes to a place comes to it within as many hours as there are moments -/
theorem rc_soon {h t : ByteArray} {L s k p : Nat} (ht : 0 < t.size) (hr : rc h t L s k p = true) (hp : p ≤ h.size + 1) : ∃ j, j ≤ k ∧ j ≤ (h.size + 2) * t.size ∧ rc h t L s j p = true := by
  obtain ⟨i, hi⟩ : ∃ i, i = (h.size + 2) * t.size + 1 := ⟨_, rfl⟩
  have B := bf_all h t L s i
  have hl := B.len ht
  obtain ⟨m, hm, m1, _, m3⟩ := B.has (by omega) k p hr hp
  obtain ⟨j, hj, ej⟩ := List.getElem_of_mem hm
  have h1 := B.hrs j m (by rw [List.getElem?_eq_getElem hj, ej])
  obtain ⟨_, h2, h3⟩ := B.ok m hm
  exact ⟨m.2 - s, by omega, by omega, by rw [m1] at h3; exact h3⟩
end Go.Proofs.Ytmlokapbholeoab
