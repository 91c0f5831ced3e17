/- GroupOf, CountGroups: impl. -/
import Derived.Test.YtihdhgkknfohaadIw
namespace Go.Proofs.Ytihdhgkknfohaad
set_option linter.unusedVariables false
open Go.RowKit


/-- without the members of a list -/
def less (p : Nat → Bool) (l : List Nat) (x : Nat) : Bool := p x && !l.contains x
theorem less_0 (p : Nat → Bool) (x : Nat) : less p [] x = p x := by simp [less]
theorem less_s (p : Nat → Bool) (l : List Nat) (y x : Nat) : (less p l x && x != y) = less p (l ++ [y]) x := by
  rw [Bool.eq_iff_iff]; simp [less, and_assoc]
theorem IRng.congr {w : World} {b r N cnt : Nat} {p q p' q' : Nat → Bool} (h : IRng w b r N p q cnt) (e1 : ∀ j, p j = p' j) (e2 : ∀ j, q j = q' j) : IRng w b r N p' q' cnt := by
  obtain ⟨D, left, h1, h2, h3, h4⟩ := h
  exact ⟨D, left, h1, h2, fun c => by rw [h3 c, e1], fun c => by rw [h4 c, e2]⟩
/-- the groups of which no island is left -/
def rts (m : Nat) (bs : List Br) (p : Nat → Bool) : Nat := cnt (fun j => root (lab m bs) j && !p j) m
/-- whole groups are left -/
def Whole (m : Nat) (bs : List Br) (p : Nat → Bool) : Prop := (∀ j, p j = true → j < m) ∧ ∀ j k, j < m → k < m → same m bs j k = true → p j = true → p k = true
theorem rts_0 {m : Nat} {bs : List Br} : rts m bs (fun i => decide (i < m)) = 0 := cnt_none fun i hi => by simp [hi]
theorem whole_0 {m : Nat} {bs : List Br} : Whole m bs (fun i => decide (i < m)) := ⟨fun j h => by simpa using h, fun j k _ hk _ _ => by simpa using hk⟩
theorem rts_end {m : Nat} {bs : List Br} {p : Nat → Bool} (h : ∀ j, p j = false) : rts m bs p = groupsN m bs := cnt_congr fun i _ => by simp [h]
theorem less_mem {m : Nat} {bs : List Br} {p : Nat → Bool} {j x : Nat} : less p (groupL m bs j) x = true ↔ p x = true ∧ ¬ (x < m ∧ same m bs x j = true) := by
  unfold less
  rw [Bool.and_eq_true, Bool.not_eq_true', ← Bool.not_eq_true, List.contains_iff_mem, groupL_mem]
theorem whole_s {m : Nat} {bs : List Br} {p : Nat → Bool} (h : Whole m bs p) {j : Nat} : Whole m bs (less p (groupL m bs j)) := by
  refine ⟨fun x hx => h.1 x (less_mem.1 hx).1, fun x y hx hy hs hp => ?_⟩
  have := less_mem.1 hp
  exact less_mem.2 ⟨h.2 x y hx hy hs this.1, fun h2 => this.2 ⟨hx, same_trans hs h2.2⟩⟩
theorem rts_s {m : Nat} {bs : List Br} (hg : Good m bs) {p : Nat → Bool} (h : Whole m bs p) {j : Nat} (hj : p j = true) : rts m bs (less p (groupL m bs j)) = rts m bs p + 1 := by
  have hjm := h.1 j hj
  have H := labOK hg
  have hl := H.low j hjm
  have hid := H.idem j hjm
  have hr : (gt (lab m bs) j).toNat < m := by omega
  have hrs : same m bs (gt (lab m bs) j).toNat j = true := by simp [same, hid]
  have hroot : root (lab m bs) (gt (lab m bs) j).toNat = true := by simp [root, hid]; omega
  unfold rts
  refine cnt_less hr ?_ ?_ ?_
  · have : less p (groupL m bs j) (gt (lab m bs) j).toNat = false := by
      cases hc : less p (groupL m bs j) (gt (lab m bs) j).toNat
      · rfl
      · exact absurd ⟨hr, hrs⟩ (less_mem.1 hc).2
    rw [hroot, this]; rfl
  · have := h.2 j _ hjm hr (same_symm hrs) hj
    rw [this]; simp
  · intro x hx hne
    cases hrx : root (lab m bs) x
    · rfl
    · have hns : ¬ same m bs x j = true := by
        intro hs
        have e1 : gt (lab m bs) x = (x : Int) := by simpa [root] using hrx
        have e2 : gt (lab m bs) x = gt (lab m bs) j := by simpa [same] using hs
        omega
      have : less p (groupL m bs j) x = p x := by
        cases hp : p x
        · cases hc : less p (groupL m bs j) x
          · rfl
          · have := (less_mem.1 hc).1; rw [hp] at this; cases this
        · exact less_mem.2 ⟨hp, fun h => hns h.2⟩
      rw [this]
theorem cnt_le' {p : Nat → Bool} {m : Nat} : cnt p m ≤ m := cnt_le p m


end Go.Proofs.Ytihdhgkknfohaad
