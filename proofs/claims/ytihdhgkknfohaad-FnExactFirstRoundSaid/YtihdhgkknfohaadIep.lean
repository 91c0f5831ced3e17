/- Rounds over all bridges: who can still come to all others can go over them and home (Euler, Fleury); the first one: plain. -/
import Derived.Test.YtihdhgkknfohaadIl
namespace Go.Proofs.Ytihdhgkknfohaad
set_option linter.unusedVariables false
open Go.RowKit

/-- the ends of a bridge, and the one across -/
def eA (bs : List Br) (k : Nat) : Nat := (gb bs k).1.toNat
def eB (bs : List Br) (k : Nat) : Nat := (gb bs k).2.1.toNat
def atK (bs : List Br) (i k : Nat) : Bool := decide (eA bs k = i) || decide (eB bs k = i)
def acr (bs : List Br) (i k : Nat) : Nat := eA bs k + eB bs k - i
theorem atK_iff {bs : List Br} {i k : Nat} : atK bs i k = true ↔ eA bs k = i ∨ eB bs k = i := by simp [atK]
theorem ends {m : Nat} {bs : List Br} (hg : Good m bs) {k : Nat} (h : k < bs.length) : eA bs k < eB bs k ∧ eB bs k < m := by
  have := hg.at h
  unfold eA eB; omega
/-- the bridges of a list of indices -/
def pickE (bs : List Br) (l : List Nat) : List Br := l.map (gb bs)
theorem pickE_good {m : Nat} {bs : List Br} (hg : Good m bs) {l : List Nat} (h : ∀ x ∈ l, x < bs.length) : Good m (pickE bs l) := hg.sub fun b hb => by
  obtain ⟨k, hk, rfl⟩ := List.mem_map.1 hb
  exact gb_mem (h k hk)
/-- by the bridges of a list -/
def smE (m : Nat) (bs : List Br) (l : List Nat) (i j : Nat) : Bool := same m (pickE bs l) i j
def allE (m : Nat) (bs : List Br) (l : List Nat) (s : Nat) : Bool := (pickE bs l).all fun b => same m (pickE bs l) b.1.toNat s
theorem allE_iff {m : Nat} {bs : List Br} {l : List Nat} {s : Nat} : allE m bs l s = true ↔ ∀ k ∈ l, smE m bs l (eA bs k) s = true := by
  unfold allE smE
  rw [List.all_eq_true]
  constructor
  · intro h k hk; exact h _ (List.mem_map.2 ⟨k, hk, rfl⟩)
  · intro h b hb
    obtain ⟨k, hk, rfl⟩ := List.mem_map.1 hb
    exact h k hk
theorem smE_br {m : Nat} {bs : List Br} (hg : Good m bs) {l : List Nat} (h : ∀ x ∈ l, x < bs.length) {k : Nat} (hk : k ∈ l) : smE m bs l (eA bs k) (eB bs k) = true :=
  same_br (pickE_good hg h) (List.mem_map.2 ⟨k, hk, rfl⟩)
theorem smE_at {m : Nat} {bs : List Br} (hg : Good m bs) {l : List Nat} (h : ∀ x ∈ l, x < bs.length) {k i : Nat} (hk : k ∈ l) (ha : atK bs i k = true) : smE m bs l i (acr bs i k) = true ∧ acr bs i k < m ∧ acr bs i k ≠ i ∧ atK bs (acr bs i k) k = true ∧ acr bs (acr bs i k) k = i := by
  have h1 := smE_br hg h hk
  have h2 := ends hg (h k hk)
  rcases atK_iff.1 ha with e | e
  · have : acr bs i k = eB bs k := by unfold acr; omega
    rw [this, ← e]
    exact ⟨h1, by omega, by omega, atK_iff.2 (.inr rfl), by unfold acr; omega⟩
  · have : acr bs i k = eA bs k := by unfold acr; omega
    rw [this, ← e]
    exact ⟨same_symm h1, by omega, by omega, atK_iff.2 (.inl rfl), by unfold acr; omega⟩
theorem smE_inv {m : Nat} {bs : List Br} (hg : Good m bs) {l : List Nat} (h : ∀ x ∈ l, x < bs.length) {f : Nat → Prop} (hf : ∀ k ∈ l, (f (eA bs k) ↔ f (eB bs k))) {i j : Nat} (hi : i < m) (hj : j < m) (hs : smE m bs l i j = true) : f i ↔ f j :=
  same_inv (pickE_good hg h) (f := f) (fun b hb => by obtain ⟨k, hk, rfl⟩ := List.mem_map.1 hb; exact hf k hk) hi hj hs
theorem smE_sub {m : Nat} {bs : List Br} (hg : Good m bs) {l t : List Nat} (h : ∀ x ∈ l, x < bs.length) (hf : ∀ k ∈ l, smE m bs t (eA bs k) (eB bs k) = true) {i j : Nat} (hi : i < m) (hj : j < m) (hs : smE m bs l i j = true) : smE m bs t i j = true :=
  same_symm ((smE_inv hg h (f := fun x => same m (pickE bs t) x i = true) (fun k hk => ⟨fun g => same_trans (same_symm (hf k hk)) g, fun g => same_trans (hf k hk) g⟩) hi hj hs).1 (same_refl _ _ _))

/-- a list without one of its own -/
def wo (l : List Nat) (k : Nat) : List Nat := l.filter fun j => j != k
theorem mem_wo {l : List Nat} {k j : Nat} : j ∈ wo l k ↔ j ∈ l ∧ j ≠ k := by simp [wo]
theorem wo_out {l : List Nat} {k : Nat} (h : k ∉ l) : wo l k = l := by
  unfold wo
  rw [List.filter_eq_self]
  intro j hj
  have : j ≠ k := fun e => h (e ▸ hj)
  simpa using this
theorem wo_count {l : List Nat} (hn : l.Nodup) {k : Nat} (hk : k ∈ l) (p : Nat → Bool) : l.countP p = (wo l k).countP p + if p k then 1 else 0 := by
  induction l with
  | nil => cases hk
  | cons a l ih =>
    have hn2 := List.nodup_cons.1 hn
    by_cases e : a = k
    · subst e
      have : wo (a :: l) a = l := by
        have h1 := wo_out hn2.1
        unfold wo at h1 ⊢
        simp [h1]
      rw [this, List.countP_cons]
    · have hk2 : k ∈ l := by
        rcases List.mem_cons.1 hk with h | h
        · exact absurd h.symm e
        · exact h
      have : wo (a :: l) k = a :: wo l k := by unfold wo; simp [e]
      rw [this, List.countP_cons, List.countP_cons, ih hn2.2 hk2]
      omega
theorem wo_len {l : List Nat} (hn : l.Nodup) {k : Nat} (hk : k ∈ l) : l.length = (wo l k).length + 1 := by
  have := wo_count hn hk fun _ => true
  simpa using this
theorem wo_nodup {l : List Nat} (hn : l.Nodup) (k : Nat) : (wo l k).Nodup := List.Pairwise.filter _ hn

/-- how many bridges of a list are at an island -/
def dgE (bs : List Br) (l : List Nat) (i : Nat) : Nat := l.countP (atK bs i)
/-- the numbers of those that have a property, added up -/
def sumC (C : Nat → Bool) (f : Nat → Nat) : Nat → Nat
  | 0 => 0
  | n + 1 => sumC C f n + if C n then f n else 0
theorem sumC_add (C : Nat → Bool) (f g : Nat → Nat) (n : Nat) : sumC C (fun i => f i + g i) n = sumC C f n + sumC C g n := by
  induction n with
  | zero => rfl
  | succ n ih => unfold sumC; rw [ih]; split <;> omega
theorem sumC_zero (C : Nat → Bool) (n : Nat) : sumC C (fun _ => 0) n = 0 := by
  induction n with
  | zero => rfl
  | succ n ih => unfold sumC; rw [ih]; split <;> rfl
theorem sumC_one (C : Nat → Bool) (a : Nat) (n : Nat) : sumC C (fun i => if a = i then 1 else 0) n = if a < n ∧ C a = true then 1 else 0 := by
  induction n with
  | zero => simp [sumC]
  | succ n ih =>
    unfold sumC
    rw [ih]
    by_cases e : a = n
    · subst e
      by_cases hc : C a = true <;> simp [hc]
    · have : (a < n + 1 ∧ C a = true) ↔ (a < n ∧ C a = true) := by constructor <;> (rintro ⟨h1, h2⟩; exact ⟨by omega, h2⟩)
      simp only [this, e, if_false]
      split <;> simp
theorem sumC_congr {C : Nat → Bool} {f g : Nat → Nat} {n : Nat} (h : ∀ i, i < n → f i = g i) : sumC C f n = sumC C g n := by
  induction n with
  | zero => rfl
  | succ n ih => unfold sumC; rw [ih fun i hi => h i (by omega), h n (by omega)]
theorem sumC_mod {C : Nat → Bool} {f g : Nat → Nat} {n : Nat} (h : ∀ i, i < n → f i % 2 = g i % 2) : sumC C f n % 2 = sumC C g n % 2 := by
  induction n with
  | zero => rfl
  | succ n ih =>
    have h1 := ih fun i hi => h i (by omega)
    have h2 := h n (by omega)
    unfold sumC
    split <;> omega
/-- within what no bridge leaves the numbers of bridges add up to something even -/
theorem hands {m : Nat} {bs : List Br} (hg : Good m bs) {C : Nat → Bool} : ∀ {l : List Nat}, (∀ x ∈ l, x < bs.length) → (∀ k ∈ l, C (eA bs k) = C (eB bs k)) → sumC C (dgE bs l) m % 2 = 0
  | [], _, _ => by
    have : sumC C (dgE bs []) m = 0 := by rw [← sumC_zero C m]; rfl
    rw [this]
  | k :: l, h, hc => by
    have ih := hands hg (l := l) (fun x hx => h x (List.mem_cons_of_mem _ hx)) (fun x hx => hc x (List.mem_cons_of_mem _ hx))
    have he := ends hg (h k (List.mem_cons_self ..))
    have hk := hc k (List.mem_cons_self ..)
    have e : sumC C (dgE bs (k :: l)) m = sumC C (fun i => dgE bs l i + ((if eA bs k = i then 1 else 0) + (if eB bs k = i then 1 else 0))) m := sumC_congr fun i _ => by
      unfold dgE
      rw [List.countP_cons]
      congr 1
      unfold atK
      by_cases h1 : eA bs k = i
      · have h2 : ¬ eB bs k = i := by omega
        simp [h1, h2]
      · by_cases h2 : eB bs k = i <;> simp [h1, h2]
    rw [e, sumC_add, sumC_add, sumC_one, sumC_one, ← hk]
    have h1 : eA bs k < m := by omega
    have h2 : eB bs k < m := he.2
    simp only [h1, h2, true_and]
    split <;> omega

/-- just at two islands (or none, if they are one) the number of bridges is odd -/
def Par (m : Nat) (bs : List Br) (l : List Nat) (a h : Nat) : Prop := ∀ i, i < m → dgE bs l i % 2 = ((if a = i then 1 else 0) + (if h = i then 1 else 0)) % 2
theorem par_set {m : Nat} {bs : List Br} (hg : Good m bs) {l : List Nat} (hl : ∀ x ∈ l, x < bs.length) {a h : Nat} (ha : a < m) (hh : h < m) (hp : Par m bs l a h) {C : Nat → Bool} (hc : ∀ k ∈ l, C (eA bs k) = C (eB bs k)) : C a = C h := by
  have h1 := hands hg hl hc
  have h2 : sumC C (dgE bs l) m % 2 = _ := sumC_mod hp
  rw [h1, sumC_add, sumC_one, sumC_one] at h2
  simp only [ha, hh, true_and] at h2
  cases hca : C a <;> cases hch : C h <;> simp [hca, hch] at h2 ⊢
theorem par_wo {m : Nat} {bs : List Br} (hg : Good m bs) {l : List Nat} (hl : ∀ x ∈ l, x < bs.length) (hn : l.Nodup) {a h k : Nat} (hk : k ∈ l) (hak : atK bs a k = true) : Par m bs l a h ↔ Par m bs (wo l k) (acr bs a k) h := by
  have he := ends hg (hl k hk)
  have hx := atK_iff.1 hak
  have key : ∀ i, dgE bs l i = dgE bs (wo l k) i + ((if a = i then 1 else 0) + (if acr bs a k = i then 1 else 0)) := fun i => by
    unfold dgE
    rw [wo_count hn hk (atK bs i)]
    congr 1
    unfold atK acr
    rcases hx with hx | hx
    · have e : eA bs k + eB bs k - a = eB bs k := by omega
      rw [e]
      by_cases h1 : eA bs k = i
      · have h2 : ¬ eB bs k = i := by omega
        have h3 : a = i := by omega
        simp [h1, h2, h3]
      · have h3 : ¬ a = i := by omega
        by_cases h2 : eB bs k = i <;> simp [h1, h2, h3]
    · have e : eA bs k + eB bs k - a = eA bs k := by omega
      rw [e]
      by_cases h1 : eB bs k = i
      · have h2 : ¬ eA bs k = i := by omega
        have h3 : a = i := by omega
        simp [h1, h2, h3]
      · have h3 : ¬ a = i := by omega
        by_cases h2 : eA bs k = i <;> simp [h1, h2, h3]
  constructor
  · intro hp i hi
    have h1 := hp i hi
    have h2 := key i
    omega
  · intro hp i hi
    have h1 := hp i hi
    have h2 := key i
    omega
/-- one can go on from here over all of a list and come home -/
def Can (m : Nat) (bs : List Br) (l : List Nat) (a h : Nat) : Prop := Par m bs l a h ∧ allE m bs l a = true
theorem can_nil {m : Nat} {bs : List Br} {a h : Nat} (ha : a < m) (hh : h < m) : Can m bs [] a h ↔ a = h := by
  constructor
  · rintro ⟨hp, _⟩
    have h1 := hp a ha
    by_cases e : h = a
    · exact e.symm
    · simp [dgE, e] at h1
  · rintro rfl
    refine ⟨fun i _ => ?_, rfl⟩
    by_cases e : a = i <;> simp [dgE, e]
theorem can_back {m : Nat} {bs : List Br} (hg : Good m bs) {l : List Nat} (hl : ∀ x ∈ l, x < bs.length) (hn : l.Nodup) {a h k : Nat} (ham : a < m) (hk : k ∈ l) (hak : atK bs a k = true) (hc : Can m bs (wo l k) (acr bs a k) h) : Can m bs l a h := by
  refine ⟨(par_wo hg hl hn hk hak).2 hc.1, allE_iff.2 fun j hj => ?_⟩
  have hA := smE_at hg hl hk hak
  have hj2 := ends hg (hl j hj)
  by_cases e : j = k
  · subst e
    rcases atK_iff.1 hak with e | e
    · rw [e]; exact same_refl _ _ _
    · have := smE_br hg hl hj
      rw [e] at this; exact this
  · have h1 := allE_iff.1 hc.2 j (mem_wo.2 ⟨hj, e⟩)
    have h2 : smE m bs l (eA bs j) (acr bs a k) = true := smE_sub hg (fun x hx => hl x (mem_wo.1 hx).1) (fun x hx => smE_br hg hl (mem_wo.1 hx).1) (by omega) hA.2.1 h1
    exact same_trans h2 (same_symm hA.1)
/-- a bridge that is not the only way back may be gone over -/
theorem can_go {m : Nat} {bs : List Br} (hg : Good m bs) {l : List Nat} (hl : ∀ x ∈ l, x < bs.length) (hn : l.Nodup) {a h k : Nat} (ham : a < m) (hk : k ∈ l) (hak : atK bs a k = true) (hc : Can m bs l a h) (hs : smE m bs (wo l k) (acr bs a k) a = true) : Can m bs (wo l k) (acr bs a k) h := by
  refine ⟨(par_wo hg hl hn hk hak).1 hc.1, allE_iff.2 fun j hj => ?_⟩
  have hjl := (mem_wo.1 hj).1
  have hj2 := ends hg (hl j hjl)
  have hA := smE_at hg hl hk hak
  have hw : ∀ x ∈ wo l k, x < bs.length := fun x hx => hl x (mem_wo.1 hx).1
  have h1 := allE_iff.1 hc.2 j hjl
  have h2 : smE m bs (wo l k) (eA bs j) a = true := smE_sub hg hl (fun x hx => by
    by_cases e : x = k
    · subst e
      rcases atK_iff.1 hak with e | e
      · have : acr bs a x = eB bs x := by unfold acr; omega
        rw [this] at hs; rw [e]; exact same_symm hs
      · have : acr bs a x = eA bs x := by unfold acr; omega
        rw [this] at hs; rw [e]; exact hs
    · exact smE_br hg hw (mem_wo.2 ⟨hx, e⟩)) (by omega) ham h1
  exact same_trans h2 (same_symm hs)
/-- Fleury: there is a bridge over which one can go -/
theorem fleury {m : Nat} {bs : List Br} (hg : Good m bs) {l : List Nat} (hl : ∀ x ∈ l, x < bs.length) (hn : l.Nodup) {a h : Nat} (ham : a < m) (hhm : h < m) (hc : Can m bs l a h) (h0 : l ≠ []) : ∃ k ∈ l, atK bs a k = true ∧ Can m bs (wo l k) (acr bs a k) h := by
  obtain ⟨k1, hk1, ha1⟩ : ∃ k ∈ l, atK bs a k = true := by
    obtain ⟨j, hj⟩ := List.exists_mem_of_ne_nil l h0
    apply Classical.byContradiction
    intro hno
    have hno2 : ∀ k ∈ l, ¬ atK bs a k = true := fun k hk h => hno ⟨k, hk, h⟩
    have hj2 := ends hg (hl j hj)
    have h1 := smE_inv hg hl (f := fun x => x = a) (fun k hk => by
      have := hno2 k hk
      rw [atK_iff] at this
      constructor
      · intro e; exact absurd (.inl e) this
      · intro e; exact absurd (.inr e) this) (by omega) ham (allE_iff.1 hc.2 j hj)
    exact hno2 j hj (atK_iff.2 (.inl (h1.2 rfl)))
  by_cases hs1 : smE m bs (wo l k1) (acr bs a k1) a = true
  · exact ⟨k1, hk1, ha1, can_go hg hl hn ham hk1 ha1 hc hs1⟩
  have hA1 := smE_at hg hl hk1 ha1
  have hw1 : ∀ x ∈ wo l k1, x < bs.length := fun x hx => hl x (mem_wo.1 hx).1
  by_cases h2 : ∃ k ∈ l, k ≠ k1 ∧ atK bs a k = true
  · obtain ⟨k2, hk2, hne, ha2⟩ := h2
    have hA2 := smE_at hg hl hk2 ha2
    have hw2 : ∀ x ∈ wo l k2, x < bs.length := fun x hx => hl x (mem_wo.1 hx).1
    refine ⟨k2, hk2, ha2, can_go hg hl hn ham hk2 ha2 hc ?_⟩
    apply Classical.byContradiction
    intro hs2
    have p1 := par_set hg hw1 hA1.2.1 hhm ((par_wo hg hl hn hk1 ha1).1 hc.1) (C := fun x => smE m bs (wo l k1) x (acr bs a k1)) (fun k hk => by
      have := smE_br hg hw1 hk
      rw [Bool.eq_iff_iff]
      exact ⟨fun g => same_trans (same_symm this) g, fun g => same_trans this g⟩)
    have p2 := par_set hg hw2 hA2.2.1 hhm ((par_wo hg hl hn hk2 ha2).1 hc.1) (C := fun x => smE m bs (wo l k2) x (acr bs a k2)) (fun k hk => by
      have := smE_br hg hw2 hk
      rw [Bool.eq_iff_iff]
      exact ⟨fun g => same_trans (same_symm this) g, fun g => same_trans this g⟩)
    have r1 : smE m bs (wo l k1) h (acr bs a k1) = true := by simpa [smE, same_refl] using p1.symm
    have r2 : smE m bs (wo l k2) h (acr bs a k2) = true := by simpa [smE, same_refl] using p2.symm
    have F := smE_inv hg hw2 (f := fun x => smE m bs (wo l k1) x (acr bs a k1) = true ∧ smE m bs (wo l k2) x (acr bs a k2) = true) (fun k hk => by
      have b2 := smE_br hg hw2 hk
      by_cases e : k = k1
      · subst e
        have na : ¬ smE m bs (wo l k2) a (acr bs a k2) = true := fun g => hs2 (same_symm g)
        have nv : ¬ smE m bs (wo l k2) (acr bs a k) (acr bs a k2) = true := fun g => na (same_trans (smE_at hg hw2 hk ha1).1 g)
        rcases atK_iff.1 ha1 with e | e
        · have e2 : eB bs k = acr bs a k := by unfold acr; omega
          rw [e, e2]
          exact ⟨fun g => absurd g.2 na, fun g => absurd g.2 nv⟩
        · have e2 : eA bs k = acr bs a k := by unfold acr; omega
          rw [e, e2]
          exact ⟨fun g => absurd g.2 nv, fun g => absurd g.2 na⟩
      · have b1 := smE_br hg hw1 (mem_wo.2 ⟨(mem_wo.1 hk).1, e⟩)
        exact ⟨fun g => ⟨same_trans (same_symm b1) g.1, same_trans (same_symm b2) g.2⟩, fun g => ⟨same_trans b1 g.1, same_trans b2 g.2⟩⟩) hhm hA2.2.1 r2
    have hv := (F.1 ⟨r1, r2⟩).1
    have h3 := (smE_at hg hw1 (mem_wo.2 ⟨hk2, hne⟩) ha2).1
    exact hs1 (same_symm (same_trans h3 hv))
  · have hno : ∀ k ∈ wo l k1, ¬ atK bs a k = true := fun k hk g => h2 ⟨k, (mem_wo.1 hk).1, (mem_wo.1 hk).2, g⟩
    refine ⟨k1, hk1, ha1, (par_wo hg hl hn hk1 ha1).1 hc.1, allE_iff.2 fun j hj => ?_⟩
    have hj2 := ends hg (hw1 j hj)
    have F := smE_inv hg hl (f := fun x => x = a ∨ smE m bs (wo l k1) x (acr bs a k1) = true) (fun k hk => by
      by_cases e : k = k1
      · subst e
        rcases atK_iff.1 ha1 with e | e
        · have e2 : eB bs k = acr bs a k := by unfold acr; omega
          rw [e2]
          exact ⟨fun _ => .inr (same_refl _ _ _), fun _ => .inl e⟩
        · have e2 : eA bs k = acr bs a k := by unfold acr; omega
          rw [e2]
          exact ⟨fun _ => .inl e, fun _ => .inr (same_refl _ _ _)⟩
      · have hkw := mem_wo.2 ⟨hk, e⟩
        have b1 := smE_br hg hw1 hkw
        have n1 := hno k hkw
        rw [atK_iff] at n1
        constructor
        · rintro (g | g)
          · exact absurd (.inl g) n1
          · exact .inr (same_trans (same_symm b1) g)
        · rintro (g | g)
          · exact absurd (.inr g) n1
          · exact .inr (same_trans b1 g)) (by omega) ham (allE_iff.1 hc.2 j (mem_wo.1 hj).1)
    rcases F.2 (.inl rfl) with e | g
    · exact absurd (atK_iff.2 (.inl e)) (hno j hj)
    · exact g

/-- the indices that aren't in a list -/
def rem (n : Nat) (l : List Nat) : List Nat := (List.range n).filter fun k => !l.contains k
theorem mem_rem {n : Nat} {l : List Nat} {k : Nat} : k ∈ rem n l ↔ k < n ∧ k ∉ l := by simp [rem]
theorem rem_nodup (n : Nat) (l : List Nat) : (rem n l).Nodup := List.Pairwise.filter _ List.nodup_range
theorem rem_snoc (n : Nat) (l : List Nat) (k : Nat) : rem n (l ++ [k]) = wo (rem n l) k := by
  unfold rem wo
  rw [List.filter_filter]
  refine List.filter_congr fun x _ => ?_
  rw [Bool.eq_iff_iff]; simp
  exact ⟨fun h => ⟨h.2, h.1⟩, fun h => ⟨h.2, h.1⟩⟩
theorem rem_nil (n : Nat) : rem n [] = List.range n := by unfold rem; rw [List.filter_eq_self]; intro x _; rfl
/-- impl's: the first bridge over which one can go -/
def okK (m : Nat) (bs : List Br) (l : List Nat) (a k : Nat) : Bool := atK bs a k && allE m bs (wo l k) (acr bs a k)
def trF (m : Nat) (bs : List Br) : Nat → List Nat → Nat → List Nat
  | 0, begin, _ => begin
  | f + 1, begin, a => match (rem bs.length begin).find? (okK m bs (rem bs.length begin) a) with
    | some k => trF m bs f (begin ++ [k]) (acr bs a k)
    | none => begin
/-- the first k from a place on, c of them, at which f tells something -/
def scanE (f : Nat → Option (List Nat)) : Nat → Nat → Option (List Nat)
  | _, 0 => none
  | k, c + 1 => match f k with
    | some r => some r
    | none => scanE f (k + 1) c
theorem scanE_s (f : Nat → Option (List Nat)) (a c : Nat) : scanE f a (c + 1) = match f a with | some r => some r | none => scanE f (a + 1) c := rfl
theorem scanE_at {f : Nat → Option (List Nat)} {k c : Nat} {r : List Nat} (h : f k = some r) : scanE f k (c + 1) = some r := by rw [scanE_s, h]
theorem scanE_no {f : Nat → Option (List Nat)} {k c : Nat} (h : f k = none) : scanE f k (c + 1) = scanE f (k + 1) c := by rw [scanE_s, h]
theorem scanE_none {f : Nat → Option (List Nat)} : ∀ (c a : Nat), (∀ k, a ≤ k → k < a + c → f k = none) → scanE f a c = none
  | 0, _, _ => rfl
  | c + 1, a, h => by
    rw [scanE_no (h a (Nat.le_refl _) (by omega))]
    exact scanE_none c (a + 1) fun k hk hk2 => h k (by omega) (by omega)
theorem scanE_first {f : Nat → Option (List Nat)} {k : Nat} {r : List Nat} (hr : f k = some r) : ∀ (c a : Nat), a ≤ k → k < a + c → (∀ j, a ≤ j → j < k → f j = none) → scanE f a c = some r
  | 0, a, h1, h2, _ => absurd h2 (by omega)
  | c + 1, a, h1, h2, h => by
    by_cases e : a = k
    · subst e; exact scanE_at hr
    · rw [scanE_no (h a (Nat.le_refl _) (by omega))]
      exact scanE_first hr c (a + 1) (by omega) (by omega) fun j hj hj2 => h j (by omega) hj2
/-- spec's: the first order that comes home -/
def spF (bs : List Br) (home : Nat) : Nat → List Nat → Nat → Option (List Nat)
  | 0, begin, a => if a = home then some begin else none
  | f + 1, begin, a => scanE (fun k => if atK bs a k = true ∧ k ∉ begin then spF bs home f (begin ++ [k]) (acr bs a k) else none) 0 bs.length
theorem find_first {l : List Nat} (hs : l.Pairwise (· < ·)) {p : Nat → Bool} {k : Nat} (h : l.find? p = some k) : k ∈ l ∧ p k = true ∧ ∀ j ∈ l, j < k → p j = false := by
  induction l with
  | nil => cases h
  | cons x l ih =>
    have hp := List.pairwise_cons.1 hs
    rw [List.find?_cons] at h
    cases hx : p x with
    | true =>
      rw [hx] at h
      cases h
      refine ⟨List.mem_cons_self .., hx, fun j hj hlt => ?_⟩
      rcases List.mem_cons.1 hj with rfl | hj
      · omega
      · have := hp.1 j hj; omega
    | false =>
      rw [hx] at h
      obtain ⟨h1, h2, h3⟩ := ih hp.2 h
      refine ⟨List.mem_cons_of_mem _ h1, h2, fun j hj hlt => ?_⟩
      rcases List.mem_cons.1 hj with rfl | hj
      · exact hx
      · exact h3 j hj hlt
theorem rem_sorted (n : Nat) (l : List Nat) : (rem n l).Pairwise (· < ·) := List.Pairwise.filter _ List.pairwise_lt_range
theorem spF_eq {m : Nat} {bs : List Br} (hg : Good m bs) {home : Nat} (hh : home < m) : ∀ (f : Nat) (begin : List Nat) (a : Nat), a < m → (rem bs.length begin).length = f →
    (Can m bs (rem bs.length begin) a home → spF bs home f begin a = some (trF m bs f begin a)) ∧ (¬ Can m bs (rem bs.length begin) a home → spF bs home f begin a = none)
  | 0, begin, a, ha, hf => by
    have e : rem bs.length begin = [] := List.length_eq_zero_iff.1 hf
    rw [e]
    unfold spF trF
    rw [can_nil ha hh]
    exact ⟨fun h => if_pos h, fun h => if_neg h⟩
  | f + 1, begin, a, ha, hf => by
    have hl : ∀ x ∈ rem bs.length begin, x < bs.length := fun x hx => (mem_rem.1 hx).1
    have hn := rem_nodup bs.length begin
    have sub : ∀ k, k ∈ rem bs.length begin → atK bs a k = true → (Can m bs (wo (rem bs.length begin) k) (acr bs a k) home → spF bs home f (begin ++ [k]) (acr bs a k) = some (trF m bs f (begin ++ [k]) (acr bs a k))) ∧ (¬ Can m bs (wo (rem bs.length begin) k) (acr bs a k) home → spF bs home f (begin ++ [k]) (acr bs a k) = none) := fun k hk hak => by
      have h1 := wo_len hn hk
      have := spF_eq hg hh f (begin ++ [k]) (acr bs a k) (smE_at hg hl hk hak).2.1 (by rw [rem_snoc]; omega)
      rw [rem_snoc] at this
      exact this
    constructor
    · intro hc
      obtain ⟨k0, hk0, ha0, hc0⟩ := fleury hg hl hn ha hh hc (by intro e; rw [e] at hf; simp at hf)
      cases hfd : (rem bs.length begin).find? (okK m bs (rem bs.length begin) a) with
      | none =>
        exfalso
        have := List.find?_eq_none.1 hfd k0 hk0
        simp [okK, ha0, hc0.2] at this
      | some k =>
        obtain ⟨h1, h2, h3⟩ := find_first (rem_sorted _ _) hfd
        unfold okK at h2
        rw [Bool.and_eq_true] at h2
        have hck : Can m bs (wo (rem bs.length begin) k) (acr bs a k) home := ⟨(par_wo hg hl hn h1 h2.1).1 hc.1, h2.2⟩
        have hm1 := mem_rem.1 h1
        have e1 : trF m bs (f + 1) begin a = trF m bs f (begin ++ [k]) (acr bs a k) := by
          conv => lhs; unfold trF
          rw [hfd]
        rw [e1]
        refine scanE_first (k := k) (by rw [if_pos ⟨h2.1, hm1.2⟩]; exact (sub k h1 h2.1).1 hck) _ 0 (Nat.zero_le _) (by omega) fun j _ hj => ?_
        split
        · rename_i hq
          have hjr : j ∈ rem bs.length begin := mem_rem.2 ⟨by omega, hq.2⟩
          have h4 := h3 j hjr hj
          refine (sub j hjr hq.1).2 fun hcj => ?_
          simp [okK, hq.1, hcj.2] at h4
        · rfl
    · intro hc
      refine scanE_none _ _ fun k _ hk => ?_
      split
      · rename_i hq
        have hkr : k ∈ rem bs.length begin := mem_rem.2 ⟨by omega, hq.2⟩
        exact (sub k hkr hq.1).2 fun hck => hc (can_back hg hl hn ha hkr hq.1 hck)
      · rfl
theorem trF_len {m : Nat} {bs : List Br} : ∀ (f : Nat) (begin : List Nat) (a : Nat), (trF m bs f begin a).length ≤ begin.length + f
  | 0, begin, a => Nat.le_refl _
  | f + 1, begin, a => by
    unfold trF
    split
    · rename_i k hk
      have := trF_len (m := m) (bs := bs) f (begin ++ [k]) (acr bs a k)
      simp only [List.length_append, List.length_cons, List.length_nil] at this
      omega
    · omega
end Go.Proofs.Ytihdhgkknfohaad
