/- The longest and the shortest play from a pond, the first of them: plain. -/
import Derived.Test.YteoggpollgkfiaaDoorCh
namespace Go.Proofs.YteoggpollgkfiaaDoor
set_option linter.unusedVariables false
open Go.RowKit

def stk (s : ByteArray) : Bool := (moves s).isEmpty
def moreI (n m : Int) : Bool := decide (m < n)
def room (q : ByteArray) : Nat := (82 - pot q).toNat
def bStep (B : Int → Int → Bool) (rec : ByteArray → List Nat) (q : ByteArray) (o : Option (List Nat)) (i : Nat) : Option (List Nat) :=
  match o with
  | none => some (i :: rec (goes q i))
  | some b => if B (((rec (goes q i)).length : Int) + 1) (b.length : Int) = true then some (i :: rec (goes q i)) else some b
def bList (B : Int → Int → Bool) : Nat → ByteArray → List Nat
  | 0, _ => []
  | n + 1, q => ((moves q).foldl (bStep B (bList B n) q) none).getD []
def bL (B : Int → Int → Bool) (q : ByteArray) : List Nat := bList B (room q) q
theorem bStep_congr {B : Int → Int → Bool} {rec rec' : ByteArray → List Nat} {q : ByteArray} {i : Nat} (h : rec (goes q i) = rec' (goes q i)) (o : Option (List Nat)) : bStep B rec q o i = bStep B rec' q o i := by
  unfold bStep; rw [h]
theorem foldl_congr' {α β : Type} {f g : α → β → α} : ∀ (l : List β) (a : α), (∀ i ∈ l, ∀ o, f o i = g o i) → l.foldl f a = l.foldl g a
  | [], _, _ => rfl
  | x :: l, a, h => by
    rw [List.foldl_cons, List.foldl_cons, h x (by simp) a]
    exact foldl_congr' l _ fun i hi o => h i (by simp [hi]) o
theorem room_goes {q : ByteArray} (hp : isPd q = true) {i : Nat} (hi : i ∈ moves q) : room q = room (goes q i) + 1 := by
  have h1 := pot_goes hp hi
  have h2 := pot_bd (isPd_goes hp hi).1
  unfold room; omega
theorem room_s {q : ByteArray} (hp : isPd q = true) : 1 ≤ room q ∧ room q ≤ 163 := by
  have := pot_bd hp
  unfold room; omega
theorem bL_eq (B : Int → Int → Bool) {q : ByteArray} (hp : isPd q = true) : bL B q = ((moves q).foldl (bStep B (bL B) q) none).getD [] := by
  obtain ⟨n, hn⟩ : ∃ n, room q = n + 1 := ⟨room q - 1, by have := room_s hp; omega⟩
  have h1 : bL B q = ((moves q).foldl (bStep B (bList B n) q) none).getD [] := by unfold bL; rw [hn]; rfl
  rw [h1, foldl_congr' _ _ fun i hi o => bStep_congr (rec := bList B n) (rec' := bL B) (by
    have := room_goes hp hi
    unfold bL
    rw [show room (goes q i) = n by omega]) o]
theorem bList_len (B : Int → Int → Bool) : ∀ (n : Nat) (q : ByteArray), (bList B n q).length ≤ n
  | 0, _ => by simp [bList]
  | n + 1, q => by
    have ih := bList_len B n
    have : ∀ (l : List Nat) (o : Option (List Nat)), (o.getD []).length ≤ n + 1 → ((l.foldl (bStep B (bList B n) q) o).getD []).length ≤ n + 1 := by
      intro l
      induction l with
      | nil => intro o h; exact h
      | cons x l ihl =>
        intro o h
        rw [List.foldl_cons]
        refine ihl _ ?_
        have hx := ih (goes q x)
        unfold bStep
        cases o with
        | none => simp; omega
        | some b =>
          dsimp only
          split
          · simp; omega
          · exact h
    exact this _ none (by simp)
theorem bL_len (B : Int → Int → Bool) {q : ByteArray} (hp : isPd q = true) : (bL B q).length ≤ 163 := Nat.le_trans (bList_len B _ _) (room_s hp).2
def bTo (B : Int → Int → Bool) (q : ByteArray) (k : Nat) : Option (List Nat) := ((moves q).take k).foldl (bStep B (bL B) q) none
theorem bTo_0 (B : Int → Int → Bool) (q : ByteArray) : bTo B q 0 = none := rfl
theorem bTo_s (B : Int → Int → Bool) {q : ByteArray} {k : Nat} (h : k < (moves q).length) : bTo B q (k + 1) = bStep B (bL B) q (bTo B q k) ((moves q).getD k 0) := by
  unfold bTo
  rw [List.take_succ_eq_append_getElem h, List.foldl_append, List.getD_eq_getElem?_getD, List.getElem?_eq_getElem h]; rfl
theorem bTo_end (B : Int → Int → Bool) {q : ByteArray} (hp : isPd q = true) : (bTo B q (moves q).length).getD [] = bL B q := by
  rw [bL_eq B hp]; unfold bTo; rw [List.take_length]
theorem bTo_some (B : Int → Int → Bool) {q : ByteArray} {k : Nat} (h : k < (moves q).length) : bTo B q (k + 1) ≠ none := by
  rw [bTo_s B h]
  unfold bStep
  split
  · simp
  · split <;> simp
theorem bTo_len (B : Int → Int → Bool) {q : ByteArray} (hp : isPd q = true) : ∀ k, k ≤ (moves q).length → ((bTo B q k).getD []).length ≤ 200
  | 0, _ => by simp [bTo_0]
  | k + 1, h => by
    have ih := bTo_len B hp k (by omega)
    have hm : (moves q).getD k 0 ∈ moves q := by
      rw [List.getD_eq_getElem?_getD, List.getElem?_eq_getElem (by omega)]; exact List.getElem_mem _
    have hl := bL_len B (isPd_goes hp hm).1
    rw [bTo_s B (by omega)]
    clear hm
    generalize (moves q).getD k 0 = x at *
    generalize hr : bL B (goes q x) = r at *
    cases ho : bTo B q k with
    | none =>
      show (x :: bL B (goes q x)).length ≤ 200
      rw [hr, List.length_cons]; omega
    | some b =>
      rw [ho] at ih
      unfold bStep
      dsimp only
      split
      · show (x :: bL B (goes q x)).length ≤ 200
        rw [hr, List.length_cons]; omega
      · exact ih
/-- B orders strictly -/
structure Strict (B : Int → Int → Bool) : Prop where
  irr : ∀ a, B a a = false
  tr : ∀ a b c, B a b = true → B b c = true → B a c = true
theorem moreI_strict : Strict moreI := ⟨fun a => by simp [moreI], fun a b c => by simp [moreI]; omega⟩
theorem lessI_strict : Strict lessI := ⟨fun a => by simp [lessI], fun a b c => by simp [lessI]; omega⟩
def BInv (B : Int → Int → Bool) (q : ByteArray) (pre : List Nat) (o : Option (List Nat)) : Prop :=
  (pre = [] ∧ o = none) ∨ ∃ i0, o = some (i0 :: bL B (goes q i0)) ∧ i0 ∈ pre ∧ pre.find? (fun i => decide ((bL B (goes q i)).length = (bL B (goes q i0)).length)) = some i0 ∧
    ∀ i ∈ pre, B (((bL B (goes q i)).length : Int) + 1) (((bL B (goes q i0)).length : Int) + 1) = false
theorem find_snoc {p : Nat → Bool} {l : List Nat} {x : Nat} (h : ∀ i ∈ l, p i = false) (hx : p x = true) : (l ++ [x]).find? p = some x := by
  rw [List.find?_append, List.find?_eq_none.2 (fun i hi => by rw [h i hi]; simp)]
  simp [hx]
theorem bInv_step {B : Int → Int → Bool} (hB : Strict B) {q : ByteArray} {pre : List Nat} {o : Option (List Nat)} (h : BInv B q pre o) (x : Nat) : BInv B q (pre ++ [x]) (bStep B (bL B) q o x) := by
  rcases h with ⟨rfl, rfl⟩ | ⟨i0, rfl, hi, hf, ha⟩
  · exact .inr ⟨x, rfl, by simp, by simp, fun i hi => by
      obtain rfl : i = x := by simpa using hi
      exact hB.irr _⟩
  · unfold bStep
    dsimp only
    have e : ((i0 :: bL B (goes q i0)).length : Int) = ((bL B (goes q i0)).length : Int) + 1 := by simp
    rw [e]
    split
    · rename_i hb
      refine .inr ⟨x, rfl, by simp, find_snoc (fun i hi2 => ?_) (by simp), fun i hi2 => ?_⟩
      · rw [decide_eq_false_iff_not]
        intro e2
        have := ha i hi2
        rw [e2] at this
        rw [this] at hb; cases hb
      · rcases List.mem_append.1 hi2 with h2 | h2
        · cases hc : B (((bL B (goes q i)).length : Int) + 1) (((bL B (goes q x)).length : Int) + 1) with
          | false => rfl
          | true =>
            have := hB.tr _ _ _ hc hb
            rw [ha i h2] at this; cases this
        · obtain rfl : i = x := by simpa using h2
          exact hB.irr _
    · rename_i hb
      refine .inr ⟨i0, rfl, by simp [hi], by rw [List.find?_append, hf]; rfl, fun i hi2 => ?_⟩
      rcases List.mem_append.1 hi2 with h2 | h2
      · exact ha i h2
      · obtain rfl : i = x := by simpa using h2
        simpa using hb
theorem bInv_fold {B : Int → Int → Bool} (hB : Strict B) {q : ByteArray} : ∀ (l pre : List Nat) (o : Option (List Nat)), BInv B q pre o → BInv B q (pre ++ l) (l.foldl (bStep B (bL B) q) o)
  | [], pre, o, h => by simpa using h
  | x :: l, pre, o, h => by
    have := bInv_fold hB l _ _ (bInv_step hB h x)
    simpa using this
theorem bL_stuck (B : Int → Int → Bool) {q : ByteArray} (hp : isPd q = true) (h : moves q = []) : bL B q = [] := by rw [bL_eq B hp, h]; rfl
theorem bL_goes {B : Int → Int → Bool} (hB : Strict B) {q : ByteArray} (hp : isPd q = true) (h : moves q ≠ []) : ∃ i0, bL B q = i0 :: bL B (goes q i0) ∧ i0 ∈ moves q ∧
    (moves q).find? (fun i => decide ((bL B (goes q i)).length = (bL B (goes q i0)).length)) = some i0 := by
  have := bInv_fold hB (q := q) (moves q) [] none (.inl ⟨rfl, rfl⟩)
  rw [List.nil_append] at this
  rcases this with ⟨h1, _⟩ | ⟨i0, h1, h2, h3, _⟩
  · exact absurd h1 h
  · exact ⟨i0, by rw [bL_eq B hp, h1]; rfl, h2, h3⟩
theorem find_congr' {p p' : Nat → Bool} : ∀ {l : List Nat}, (∀ i ∈ l, p i = p' i) → l.find? p = l.find? p'
  | [], _ => rfl
  | x :: l, h => by
    rw [List.find?_cons, List.find?_cons, h x (by simp), find_congr' (l := l) fun i hi => h i (by simp [hi])]
/-- impl's first list along the numbers is the first best play -/
theorem along_best {B : Int → Int → Bool} (hB : Strict B) {f : ByteArray → Int} {g : ByteArray → Bool} : ∀ (m : Nat) (q : ByteArray), isPd q = true → (bL B q).length = m → (∀ l p, runM q l = some p → g p = true ∧ f p = ((bL B p).length : Int)) → alongF f g m q = bL B q
  | 0, q, hp, hm, hT => by rw [List.length_eq_zero_iff.1 hm]; rfl
  | m + 1, q, hp, hm, hT => by
    have hne : moves q ≠ [] := fun e => by rw [bL_stuck B hp e] at hm; simp at hm
    obtain ⟨i0, h1, h2, h3⟩ := bL_goes hB hp hne
    have hm0 : (bL B (goes q i0)).length = m := by rw [h1] at hm; simpa using hm
    have hf : (moves q).find? (alongP f g q m) = some i0 := by
      rw [← h3]
      refine find_congr' fun i hi => ?_
      have := hT [i] (goes q i) (runM_one hi rfl)
      unfold alongP
      rw [this.1, this.2, hm0, Bool.eq_iff_iff]
      simp
      omega
    unfold alongF
    rw [hf, h1]
    dsimp only
    rw [along_best hB m (goes q i0) (isPd_goes hp h2).1 hm0 fun l p hl => hT (i0 :: l) p (runM_one h2 hl)]
theorem lFold_best {B : Int → Int → Bool} {p : ByteArray} {st0 : LSt} : ∀ (l : List Nat) (st : LSt) (o : Option (List Nat)), (∀ i ∈ l, goes p i ≠ p ∧ st0.2 (goes p i) = true ∧ st0.1 (goes p i) = ((bL B (goes p i)).length : Int)) →
    (∀ c, c ≠ p → st.1 c = st0.1 c ∧ st.2 c = st0.2 c) → ((o = none ∧ st.2 p = false) ∨ ∃ b, o = some b ∧ st.2 p = true ∧ st.1 p = (b.length : Int)) →
    ((l.foldl (bStep B (bL B) p) o = none ∧ (l.foldl (lMove B p) st).2 p = false) ∨ ∃ b, l.foldl (bStep B (bL B) p) o = some b ∧ (l.foldl (lMove B p) st).2 p = true ∧ (l.foldl (lMove B p) st).1 p = (b.length : Int))
  | [], _, _, _, _, h => h
  | i :: l, st, o, h1, h2, h3 => by
    obtain ⟨n1, n2, n3⟩ := h1 i (by simp)
    obtain ⟨e1, e2⟩ := h2 _ n1
    have hc := fun c hc => lMove_other (B := B) (p := p) (c := c) hc st i
    rw [List.foldl_cons, List.foldl_cons]
    refine lFold_best (st0 := st0) l _ _ (fun j hj => h1 j (by simp [hj])) (fun c hcc => ⟨(hc c hcc).1.trans (h2 c hcc).1, (hc c hcc).2.trans (h2 c hcc).2⟩) ?_
    rcases h3 with ⟨rfl, h4⟩ | ⟨b, rfl, h4, h5⟩
    · refine .inr ⟨_, rfl, ?_⟩
      unfold lMove
      rw [e1, e2, n2, h4]
      simp [putL, n3]
    · unfold lMove bStep
      dsimp only
      rw [e1, e2, n2, h4, h5, n3]
      by_cases hb : B (((bL B (goes p i)).length : Int) + 1) (b.length : Int) = true
      · simp [hb, putL]
      · have hb' : B (((bL B (goes p i)).length : Int) + 1) (b.length : Int) = false := by simpa using hb
        rw [hb']
        simp [h4, h5]
theorem lAll_best {B : Int → Int → Bool} : ∀ {L : List ByteArray}, Chain L → ∀ c ∈ L, (lAll stk B L).2 c = true ∧ (lAll stk B L).1 c = ((bL B c).length : Int)
  | [], _, c, hc => by simp at hc
  | p :: L, ⟨hp, hn, hb, hC⟩, c, hc => by
    show (lPond stk B p (lAll stk B L)).2 c = true ∧ (lPond stk B p (lAll stk B L)).1 c = _
    by_cases e : c = p
    · subst e
      by_cases hS : stk c = true
      · unfold lPond
        rw [if_pos hS]
        have hm : moves c = [] := by unfold stk at hS; exact List.isEmpty_iff.1 hS
        rw [bL_stuck B hp hm]
        exact ⟨by simp [putL], by simp [putL]⟩
      · unfold lPond
        rw [if_neg hS]
        have hm : moves c ≠ [] := fun e => hS (by unfold stk; rw [e]; rfl)
        have F := lFold_best (B := B) (p := c) (st0 := lAll stk B L) (moves c) (lAll stk B L) none (fun i hi => by
          have h1 := lAll_best (B := B) hC _ (hb i hi)
          exact ⟨fun e => hn (e ▸ hb i hi), h1⟩) (fun _ _ => ⟨rfl, rfl⟩) (.inl ⟨rfl, lAll_out hn⟩)
        rcases F with ⟨h1, _⟩ | ⟨b, h1, h2, h3⟩
        · obtain ⟨k, hk⟩ : ∃ k, (moves c).length = k + 1 := ⟨(moves c).length - 1, by have := List.length_pos_iff.2 hm; omega⟩
          have := bTo_some B (q := c) (k := k) (by omega)
          unfold bTo at this
          rw [← hk, List.take_length] at this
          exact absurd h1 this
        · refine ⟨h2, ?_⟩
          rw [h3, bL_eq B hp, h1]; rfl
    · have hcL : c ∈ L := by
        rcases List.mem_cons.1 hc with h | h
        · exact absurd h e
        · exact h
      have ih := lAll_best (B := B) hC c hcL
      obtain ⟨e1, e2⟩ := lPond_other (E := stk) (B := B) e (lAll stk B L)
      rw [e1, e2]
      exact ih
end Go.Proofs.YteoggpollgkfiaaDoor
