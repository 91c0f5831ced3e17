/- Texts of planks read back, plain: split at '-', read a number. -/
import Derived.Test.YteoggpollgkfiabDoorPt
import Derived.Lib.SplitLaws
import Derived.Lib.AtoiAll
namespace Go.Proofs.YteoggpollgkfiabDoor
set_option linter.unusedVariables false
open Go.RowKit

/-- the parts between the dashes -/
def spl : List UInt8 → List (List UInt8)
  | [] => [[]]
  | c :: r => if c = 45 then [] :: spl r else match spl r with
    | [] => [[c]]
    | w :: ws => (c :: w) :: ws
theorem spl_ne : ∀ l, spl l ≠ []
  | [] => by simp [spl]
  | c :: r => by
    unfold spl
    split
    · simp
    · split <;> simp
theorem spl_dash (r : List UInt8) : spl (45 :: r) = [] :: spl r := by simp [spl]
theorem spl_word : ∀ (w : List UInt8), (45 : UInt8) ∉ w → spl w = [w]
  | [], _ => rfl
  | c :: r, h => by
    have hc : c ≠ 45 := fun e => h (by rw [e]; exact List.mem_cons_self ..)
    have ih := spl_word r fun hm => h (List.mem_cons_of_mem _ hm)
    simp [spl, hc, ih]
theorem spl_app : ∀ (w r : List UInt8), (45 : UInt8) ∉ w → spl (w ++ 45 :: r) = w :: spl r
  | [], r, _ => spl_dash r
  | c :: w, r, h => by
    have hc : c ≠ 45 := fun e => h (by rw [e]; exact List.mem_cons_self ..)
    have ih := spl_app w r fun hm => h (List.mem_cons_of_mem _ hm)
    rw [List.cons_append, spl, if_neg hc, ih]
theorem spl_len : ∀ l : List UInt8, (spl l).length ≤ l.length + 1
  | [] => by simp [spl]
  | c :: r => by
    have ih := spl_len r
    have hn := spl_ne r
    unfold spl
    split
    · simp; omega
    · split
      · rename_i h; exact absurd h hn
      · rename_i w ws h; rw [h] at ih; simp at ih ⊢; omega
theorem spl_mem : ∀ (l : List UInt8), ∀ w ∈ spl l, w.length ≤ l.length
  | [], w, h => by simp [spl] at h; subst h; simp
  | c :: r, w, h => by
    have ih := spl_mem r
    have hn := spl_ne r
    unfold spl at h
    split at h
    · rcases List.mem_cons.1 h with rfl | h
      · simp
      · have := ih w h; simp; omega
    · split at h
      · rename_i h2; exact absurd h2 hn
      · rename_i w2 ws h2
        rw [h2] at ih
        rcases List.mem_cons.1 h with rfl | h
        · have := ih w2 (List.mem_cons_self ..); simp; omega
        · have := ih w (List.mem_cons_of_mem _ h); simp; omega
/-- where the first dash stands -/
theorem spl_idx : ∀ l : List UInt8, (Lib.indexByte l 45 = -1 ∧ spl l = [l] ∧ l.count 45 = 0) ∨ ∃ i : Nat, Lib.indexByte l 45 = i ∧ spl l = l.take i :: spl (l.drop (i + 1)) ∧ l.count 45 = 1 + (l.drop (i + 1)).count 45
  | [] => .inl ⟨rfl, rfl, rfl⟩
  | c :: r => by
    by_cases hc : c = 45
    · subst hc
      exact .inr ⟨0, by simp [Lib.indexByte], by simp [spl_dash], by simp [Nat.add_comm]⟩
    · have hb : (c == 45) = false := by simp [hc]
      rcases spl_idx r with ⟨h1, h2, h3⟩ | ⟨i, h1, h2, h3⟩
      · refine .inl ⟨by simp [Lib.indexByte, hb, h1], by simp [spl, hc, h2], ?_⟩
        rw [List.count_cons, h3, hb]; rfl
      · refine .inr ⟨i + 1, ?_, by simp [spl, hc, h2], ?_⟩
        · have : ¬ ((i : Int) == -1) = true := by simp
          simp [Lib.indexByte, hb, h1]
        · rw [List.count_cons, h3, hb]; simp
theorem spl_K : ∀ (k : Nat) (l : List UInt8), l.count 45 ≤ k → Lib.splitK [45] 0 k l = spl l
  | 0, l, h => by
    rcases spl_idx l with ⟨_, h2, _⟩ | ⟨i, _, _, h3⟩
    · rw [h2]; rfl
    · omega
  | k + 1, l, h => by
    unfold Lib.splitK
    rw [Lib.index_one]
    rcases spl_idx l with ⟨h1, h2, _⟩ | ⟨i, h1, h2, h3⟩
    · rw [h1, h2]; rfl
    · have hm : ¬ ((i : Int) == -1) = true := by simp
      rw [h1, if_neg hm, h2]
      rw [show ((i : Int)).toNat = i from rfl, Nat.add_zero]
      have := spl_K k (l.drop (i + 1)) (by omega)
      rw [← this]; rfl
/-- strings.Split at '-' -/
theorem spl_B (s : ByteArray) : (Lib.splitB ⟨#[45]⟩ 0 (Lib.countB s ⟨#[45]⟩) s).map (·.data.toList) = spl s.data.toList := by
  rw [Lib.splitB_data]
  exact spl_K _ _ (by
    show _ ≤ Lib.count s.data.toList [45]
    rw [Lib.count_one]; exact Nat.le_refl _)
/-- the digits of a number are no dashes -/
theorem dec1 {n : Nat} (h : n < 10) : Lib.decDigits n = [dg n] := Lib.decDigits_one h
theorem dec_mem : ∀ (n : Nat), ∀ c ∈ Lib.decDigits n, 48 ≤ c.toNat ∧ c.toNat ≤ 57 := by
  intro n
  induction n using Nat.strongRecOn with
  | _ n ih =>
    have hd : ∀ d, d < 10 → 48 ≤ (dg d).toNat ∧ (dg d).toNat ≤ 57 := fun d h => by
      have : (dg d).toNat = 48 + d := by unfold dg; simp; omega
      omega
    intro c hc
    by_cases h : n < 10
    · rw [dec1 h] at hc
      have : c = dg n := by simpa using hc
      subst this; exact hd n h
    · rw [dig_step h] at hc
      rcases List.mem_append.1 hc with hc | hc
      · exact ih (n / 10) (by omega) c hc
      · have : c = dg (n % 10) := by simpa using hc
        subst this; exact hd _ (by omega)
theorem dec_dash (n : Nat) : (45 : UInt8) ∉ Lib.decDigits n := fun h => by
  have := dec_mem n 45 h
  have e : (45 : UInt8).toNat = 45 := rfl
  omega
theorem spl_txt {zs : List Int} (h : zs ≠ []) : spl (txt zs) = zs.map fun n => Lib.decDigits n.toNat := by
  have key : ∀ (l : List (List UInt8)) (x : List UInt8), (∀ w ∈ x :: l, (45 : UInt8) ∉ w) → spl (x ++ Lib.joinTail [45] l) = x :: l := by
    intro l
    induction l with
    | nil => intro x hx; simp [Lib.joinTail]; exact spl_word x (hx x (List.mem_cons_self ..))
    | cons y l ih =>
      intro x hx
      have := ih y fun w hw => hx w (List.mem_cons_of_mem _ hw)
      have e : Lib.joinTail [45] (y :: l) = 45 :: (y ++ Lib.joinTail [45] l) := by simp [Lib.joinTail]
      rw [e, spl_app x _ (hx x (List.mem_cons_self ..)), this]
  cases zs with
  | nil => exact absurd rfl h
  | cons z zs =>
    unfold txt
    rw [List.map_cons, Lib.join_cons]
    refine key _ _ fun w hw => ?_
    rcases List.mem_cons.1 hw with rfl | hw
    · exact dec_dash _
    · obtain ⟨m, _, rfl⟩ := List.mem_map.1 hw
      exact dec_dash _

/-- the number that digits tell -/
def val : Nat → List UInt8 → Option Nat
  | a, [] => some a
  | a, c :: r => if 48 ≤ c.toNat ∧ c.toNat ≤ 57 then val (10 * a + (c.toNat - 48)) r else none
theorem val_app : ∀ (l : List UInt8) (a : Nat) (c : UInt8), val a (l ++ [c]) = (val a l).bind fun b => val b [c]
  | [], a, c => rfl
  | d :: l, a, c => by
    rw [List.cons_append]
    unfold val
    split
    · exact val_app l _ c
    · rfl
theorem val_dec : ∀ n : Nat, val 0 (Lib.decDigits n) = some n := by
  intro n
  induction n using Nat.strongRecOn with
  | _ n ih =>
    have hd : ∀ a d, d < 10 → val a [dg d] = some (10 * a + d) := fun a d h => by
      have : (dg d).toNat = 48 + d := by unfold dg; simp; omega
      unfold val
      rw [this, if_pos (by omega)]
      unfold val
      congr 1; omega
    by_cases h : n < 10
    · rw [dec1 h]
      have := hd 0 n h
      simpa using this
    · rw [dig_step h, val_app, ih (n / 10) (by omega)]
      show val (n / 10) [dg (n % 10)] = some n
      rw [hd _ _ (by omega)]
      congr 1; omega
/-- what spec.l1Read makes of a word -/
def rdW (w : List UInt8) : Int := if 1 ≤ w.length ∧ w.length ≤ 6 ∧ ¬ (w.head? = some 48 ∧ 1 < w.length) then match val 0 w with
    | some n => (n : Int)
    | none => -1
  else -1
theorem dec_head {n : Nat} (h : 1 ≤ n) : (Lib.decDigits n).head? ≠ some 48 := by
  induction n using Nat.strongRecOn with
  | _ n ih =>
    by_cases h10 : n < 10
    · rw [dec1 h10]
      intro e
      have e2 : dg n = 48 := by simpa using e
      have := congrArg UInt8.toNat e2
      have e3 : (dg n).toNat = 48 + n := by unfold dg; simp; omega
      rw [e3] at this
      have e4 : (48 : UInt8).toNat = 48 := rfl
      omega
    · rw [dig_step h10]
      have := ih (n / 10) (by omega) (by omega)
      intro e
      apply this
      rw [List.head?_append] at e
      cases hh : (Lib.decDigits (n / 10)).head? with
      | none =>
        have hl := List.head?_eq_none_iff.1 hh
        have h0 := val_dec (n / 10)
        rw [hl] at h0
        have : n / 10 = 0 := by simpa [val] using h0.symm
        omega
      | some x => rw [hh] at e; exact e
theorem dec_pos (n : Nat) : 1 ≤ (Lib.decDigits n).length := by
  rcases Nat.eq_zero_or_pos (Lib.decDigits n).length with h | h
  · have hl := List.length_eq_zero_iff.1 h
    have h0 := val_dec n
    rw [hl] at h0
    have hn : n = 0 := by simpa [val] using h0.symm
    subst hn
    rw [dec1 (by decide)] at hl
    cases hl
  · exact h
theorem dec_len3 {n : Nat} (h : n ≤ 100) : (Lib.decDigits n).length ≤ 3 := by
  by_cases h1 : n < 10
  · rw [dec1 h1]; simp
  · rw [dig_step h1, List.length_append]
    by_cases h2 : n / 10 < 10
    · rw [dec1 h2]; simp
    · rw [dig_step h2, List.length_append, dec1 (by omega)]; simp
theorem rdW_dec {n : Nat} (h1 : 1 ≤ n) (h2 : n ≤ 100) : rdW (Lib.decDigits n) = (n : Int) := by
  have := dec_pos n
  have := dec_len3 h2
  unfold rdW
  rw [if_pos ⟨by omega, by omega, fun h => dec_head h1 h.1⟩, val_dec]
/-- what spec makes of a text -/
def out (s : ByteArray) : List Int := (spl s.data.toList).map rdW
theorem out_txt {zs : List Int} (h : arePl zs = true) : out (bs (txt zs)) = zs := by
  have hi := arePl_in h
  have hg := gt_in h
  have hne : zs ≠ [] := fun e => by subst e; simp at hi
  unfold out
  show (spl (txt zs)).map rdW = zs
  rw [spl_txt hne, List.map_map]
  have : ∀ l : List Int, (∀ n ∈ l, 1 ≤ n ∧ n ≤ 100) → l.map (rdW ∘ fun n => Lib.decDigits n.toNat) = l := by
    intro l
    induction l with
    | nil => intro _; rfl
    | cons z l ih =>
      intro hl
      have hz := hl z (List.mem_cons_self ..)
      rw [List.map_cons, ih fun m hm => hl m (List.mem_cons_of_mem _ hm)]
      congr 1
      show rdW (Lib.decDigits z.toNat) = z
      rw [rdW_dec (by omega) (by omega)]; omega
  exact this zs hg
/-- strconv.Atoi at digits -/
theorem uint_val : ∀ (l : List UInt8) (a n : Nat), val a l = some n → n ≤ 1000000 → Lib.parseUint10 a l = .ok n
  | [], a, n, h, _ => by have : a = n := by simpa [val] using h
                         subst this; rfl
  | c :: r, a, n, h, hn => by
    have mono : ∀ (l : List UInt8) (a n : Nat), val a l = some n → a ≤ n := by
      intro l
      induction l with
      | nil => intro a n h; have : a = n := by simpa [val] using h
               omega
      | cons c r ih =>
        intro a n h
        unfold val at h
        split at h
        · have := ih _ _ h; omega
        · cases h
    unfold val at h
    split at h
    · rename_i hc
      have hm := mono _ _ _ h
      unfold Lib.parseUint10
      rw [if_pos hc, if_neg (by omega), if_neg (by omega), show a * 10 = 10 * a from Nat.mul_comm _ _]
      exact uint_val r _ n h hn
    · cases h
theorem atoi_dec {n : Nat} (h : n ≤ 100) : Lib.atoiAll (Lib.decDigits n) = .ok (n : Int) := by
  have hm := dec_mem n
  have hv := val_dec n
  cases hd : Lib.decDigits n with
  | nil => have := dec_pos n; rw [hd] at this; simp at this
  | cons c r =>
    rw [hd] at hv hm
    have hc := hm c (List.mem_cons_self ..)
    unfold Lib.atoiAll
    have e1 : ¬ c.toNat = 43 := by omega
    have e2 : ¬ c.toNat = 45 := by omega
    have e5 : ¬ 9223372036854775808 ≤ n := by omega
    have e3 : Lib.parseMag (c :: r) = .ok n := by
      unfold Lib.parseMag
      rw [if_neg (by simp)]
      exact uint_val _ 0 n hv (by omega)
    simp [e1, e2, e3, e5]
/-- the planks with a text -/
def isTx (s : ByteArray) : Bool := decide (s.size ≤ 30) && (arePl (out s) && decide (bs (txt (out s)) = s))
theorem txt_27 {zs : List Int} (h : arePl zs = true) : (bs (txt zs)).size ≤ 30 := by
  have hi := arePl_in h
  have hg := gt_in h
  rw [bs_size]
  have key : ∀ l : List Int, (∀ n ∈ l, 1 ≤ n ∧ n ≤ 100) → (Lib.joinTail [45] (l.map fun n => Lib.decDigits n.toNat)).length ≤ 4 * l.length := by
    intro l
    induction l with
    | nil => intro _; simp [Lib.joinTail]
    | cons z l ih =>
      intro hl
      have h1 := ih fun m hm => hl m (List.mem_cons_of_mem _ hm)
      have h2 := hl z (List.mem_cons_self ..)
      have h3 := dec_len3 (n := z.toNat) (by omega)
      simp [Lib.joinTail] at h1 ⊢
      omega
  cases zs with
  | nil => simp [txt_nil]
  | cons z zs =>
    have h1 := key zs fun m hm => hg m (List.mem_cons_of_mem _ hm)
    have h2 := hg z (List.mem_cons_self ..)
    have h3 := dec_len3 (n := z.toNat) (by omega)
    have h4 : zs.length + 1 ≤ 7 := by have := hi.2.1; simpa using this
    unfold txt
    rw [List.map_cons, Lib.join_cons, List.length_append]
    simp
    omega
/-- whatever planks have this text are those that spec reads -/
theorem isTx_of {s : ByteArray} {zs : List Int} (h : arePl zs = true) (e : bs (txt zs) = s) : isTx s = true ∧ out s = zs := by
  subst e
  have ho := out_txt h
  refine ⟨?_, ho⟩
  unfold isTx
  rw [ho, h]
  simp [txt_27 h]
theorem isTx_in {s : ByteArray} (h : isTx s = true) : s.size ≤ 30 ∧ arePl (out s) = true ∧ bs (txt (out s)) = s := by
  simpa [isTx] using h
end Go.Proofs.YteoggpollgkfiabDoor
