/- Texts read back, plain: split at a byte, numbers of digits. -/
import Derived.Test.YtcpipacombnhdaaDoorNum
import Derived.Lib.SplitLaws
import Derived.Lib.AtoiAll
import Derived.Lib.IndexMore
import Derived.Lib.Join
namespace Go.Proofs.YtcpipacombnhdaaDoor
set_option linter.unusedVariables false
open Go.RowKit

/-- the parts between the bytes d -/
def spc (d : UInt8) : List UInt8 → List (List UInt8)
  | [] => [[]]
  | c :: r => if c = d then [] :: spc d r else match spc d r with
    | [] => [[c]]
    | w :: ws => (c :: w) :: ws
theorem spc_ne (d : UInt8) : ∀ l, spc d l ≠ []
  | [] => by simp [spc]
  | c :: r => by
    unfold spc
    split
    · simp
    · split <;> simp
theorem spc_at (d : UInt8) (r : List UInt8) : spc d (d :: r) = [] :: spc d r := by simp [spc]
theorem spc_word (d : UInt8) : ∀ (w : List UInt8), d ∉ w → spc d w = [w]
  | [], _ => rfl
  | c :: r, h => by
    have hc : c ≠ d := fun e => h (by rw [e]; exact List.mem_cons_self ..)
    have ih := spc_word d r fun hm => h (List.mem_cons_of_mem _ hm)
    simp [spc, hc, ih]
theorem spc_app (d : UInt8) : ∀ (w r : List UInt8), d ∉ w → spc d (w ++ d :: r) = w :: spc d r
  | [], r, _ => spc_at d r
  | c :: w, r, h => by
    have hc : c ≠ d := fun e => h (by rw [e]; exact List.mem_cons_self ..)
    have ih := spc_app d w r fun hm => h (List.mem_cons_of_mem _ hm)
    rw [List.cons_append, spc, if_neg hc, ih]
theorem spc_len (d : UInt8) : ∀ l : List UInt8, (spc d l).length ≤ l.length + 1
  | [] => by simp [spc]
  | c :: r => by
    have ih := spc_len d r
    have hn := spc_ne d r
    unfold spc
    split
    · simp; omega
    · split
      · rename_i h; exact absurd h hn
      · rename_i w ws h; rw [h] at ih; simp at ih ⊢; omega
theorem spc_mem (d : UInt8) : ∀ (l : List UInt8), ∀ w ∈ spc d l, w.length ≤ l.length
  | [], w, h => by simp [spc] at h; subst h; simp
  | c :: r, w, h => by
    have ih := spc_mem d r
    have hn := spc_ne d r
    unfold spc at h
    split at h
    · rcases List.mem_cons.1 h with rfl | h
      · simp
      · have := ih w h; simp; omega
    · split at h
      · rename_i h2; exact absurd h2 hn
      · rename_i w2 ws h2
        rw [h2] at ih
        rcases List.mem_cons.1 h with rfl | h
        · have := ih w2 (List.mem_cons_self ..); simp; omega
        · have := ih w (List.mem_cons_of_mem _ h); simp; omega
/-- the parts joined are the text -/
theorem spc_join (d : UInt8) : ∀ l : List UInt8, Lib.join (spc d l) [d] = l
  | [] => by simp [spc, Lib.join_one]
  | c :: r => by
    have ih := spc_join d r
    have hn := spc_ne d r
    unfold spc
    split
    · rename_i h
      subst h
      cases hs : spc c r with
      | nil => exact absurd hs hn
      | cons w ws =>
        rw [hs, Lib.join_cons] at ih
        rw [Lib.join_cons, List.nil_append]
        show Lib.joinTail [c] (w :: ws) = _
        have : Lib.joinTail [c] (w :: ws) = c :: (w ++ Lib.joinTail [c] ws) := by simp [Lib.joinTail]
        rw [this, ih]
    · split
      · rename_i h2; exact absurd h2 hn
      · rename_i w ws h2
        rw [h2, Lib.join_cons] at ih
        rw [Lib.join_cons, List.cons_append, ih]
/-- words without d, joined by d, are split again -/
theorem spc_words (d : UInt8) : ∀ (l : List (List UInt8)) (x : List UInt8), (∀ w ∈ x :: l, d ∉ w) → spc d (Lib.join (x :: l) [d]) = x :: l := by
  intro l
  have key : ∀ (l : List (List UInt8)) (x : List UInt8), (∀ w ∈ x :: l, d ∉ w) → spc d (x ++ Lib.joinTail [d] l) = x :: l := by
    intro l
    induction l with
    | nil => intro x hx; simp [Lib.joinTail]; exact spc_word d x (hx x (List.mem_cons_self ..))
    | cons y l ih =>
      intro x hx
      have := ih y fun w hw => hx w (List.mem_cons_of_mem _ hw)
      have e : Lib.joinTail [d] (y :: l) = d :: (y ++ Lib.joinTail [d] l) := by simp [Lib.joinTail]
      rw [e, spc_app d x _ (hx x (List.mem_cons_self ..)), this]
  intro x hx
  rw [Lib.join_cons]
  exact key l x hx
/-- where the first d stands -/
theorem spc_idx (d : UInt8) : ∀ l : List UInt8, (Lib.indexByte l d = -1 ∧ spc d l = [l] ∧ l.count d = 0) ∨ ∃ i : Nat, Lib.indexByte l d = i ∧ spc d l = l.take i :: spc d (l.drop (i + 1)) ∧ l.count d = 1 + (l.drop (i + 1)).count d
  | [] => .inl ⟨rfl, rfl, rfl⟩
  | c :: r => by
    by_cases hc : c = d
    · subst hc
      exact .inr ⟨0, by simp [Lib.indexByte], by simp [spc_at], by simp [Nat.add_comm]⟩
    · have hb : (c == d) = false := by simp [hc]
      rcases spc_idx d r with ⟨h1, h2, h3⟩ | ⟨i, h1, h2, h3⟩
      · refine .inl ⟨by simp [Lib.indexByte, hb, h1], by simp [spc, hc, h2], ?_⟩
        rw [List.count_cons, h3, hb]; rfl
      · refine .inr ⟨i + 1, ?_, by simp [spc, hc, h2], ?_⟩
        · have : ¬ ((i : Int) == -1) = true := by simp
          simp [Lib.indexByte, hb, h1]
        · rw [List.count_cons, h3, hb]; simp
theorem spc_K (d : UInt8) : ∀ (k : Nat) (l : List UInt8), l.count d ≤ k → Lib.splitK [d] 0 k l = spc d l
  | 0, l, h => by
    rcases spc_idx d l with ⟨_, h2, _⟩ | ⟨i, _, _, h3⟩
    · rw [h2]; rfl
    · omega
  | k + 1, l, h => by
    unfold Lib.splitK
    rw [Lib.index_one]
    rcases spc_idx d l with ⟨h1, h2, _⟩ | ⟨i, h1, h2, h3⟩
    · rw [h1, h2]; rfl
    · have hm : ¬ ((i : Int) == -1) = true := by simp
      rw [h1, if_neg hm, h2]
      rw [show ((i : Int)).toNat = i from rfl, Nat.add_zero]
      have := spc_K d k (l.drop (i + 1)) (by omega)
      rw [← this]; rfl
/-- strings.Split at one byte -/
theorem spc_B (d : UInt8) (s : ByteArray) : (Lib.splitB ⟨#[d]⟩ 0 (Lib.countB s ⟨#[d]⟩) s).map (·.data.toList) = spc d s.data.toList := by
  rw [Lib.splitB_data]
  exact spc_K d _ _ (by
    show _ ≤ Lib.count s.data.toList [d]
    rw [Lib.count_one]; exact Nat.le_refl _)
/-- strings.Cut at one byte, behind words without it -/
theorem cut_app (d : UInt8) (x y : List UInt8) (h : d ∉ x) : Lib.cut (x ++ d :: y) [d] = (x, y, true) := by
  have hi : Lib.indexByte (x ++ d :: y) d = (x.length : Int) := by
    induction x with
    | nil => simp [Lib.indexByte]
    | cons c x ih =>
      have hc : (c == d) = false := by
        have : c ≠ d := fun e => h (by rw [e]; exact List.mem_cons_self ..)
        simp [this]
      have := ih fun hm => h (List.mem_cons_of_mem _ hm)
      simp [Lib.indexByte, hc, this]
  unfold Lib.cut
  rw [Lib.index_one, hi, if_pos (by omega)]
  simp
/-- the digits of numbers -/
theorem dec1 {n : Nat} (h : n < 10) : Lib.decDigits n = [dg n] := Lib.decDigits_one h
theorem dg_nat {d : Nat} (h : d < 10) : (dg d).toNat = 48 + d := by unfold dg; simp; omega
theorem dec_mem : ∀ (n : Nat), ∀ c ∈ Lib.decDigits n, 48 ≤ c.toNat ∧ c.toNat ≤ 57 := by
  intro n
  induction n using Nat.strongRecOn with
  | _ n ih =>
    have hd : ∀ d, d < 10 → 48 ≤ (dg d).toNat ∧ (dg d).toNat ≤ 57 := fun d h => by have := dg_nat h; omega
    intro c hc
    by_cases h : n < 10
    · rw [dec1 h] at hc
      have : c = dg n := by simpa using hc
      subst this; exact hd n h
    · rw [dig_step h] at hc
      rcases List.mem_append.1 hc with hc | hc
      · exact ih (n / 10) (by omega) c hc
      · have : c = dg (n % 10) := by simpa using hc
        subst this; exact hd _ (by omega)
theorem dec_not (n : Nat) {d : UInt8} (h : d.toNat < 48 ∨ 57 < d.toNat) : d ∉ Lib.decDigits n := fun hm => by
  have := dec_mem n d hm
  omega
/-- the number that digits tell -/
def val : Nat → List UInt8 → Option Nat
  | a, [] => some a
  | a, c :: r => if 48 ≤ c.toNat ∧ c.toNat ≤ 57 then val (10 * a + (c.toNat - 48)) r else none
theorem val_cons (a : Nat) (c : UInt8) (r : List UInt8) : val a (c :: r) = if 48 ≤ c.toNat ∧ c.toNat ≤ 57 then val (10 * a + (c.toNat - 48)) r else none := rfl
theorem val_app2 : ∀ (x y : List UInt8) (a : Nat), val a (x ++ y) = (val a x).bind fun b => val b y
  | [], y, a => rfl
  | c :: x, y, a => by
    rw [List.cons_append, val_cons, val_cons]
    split
    · exact val_app2 x y _
    · rfl
theorem val_step {l : List UInt8} {k a : Nat} (hk : k < l.length) (h : val 0 (l.take k) = some a) (hd : 48 ≤ l[k].toNat ∧ l[k].toNat ≤ 57) : val 0 (l.take (k + 1)) = some (10 * a + (l[k].toNat - 48)) := by
  rw [List.take_succ_eq_append_getElem hk, val_app2, h]
  show val a [l[k]] = _
  rw [val_cons, if_pos hd]; rfl
theorem val_bad {l : List UInt8} {k a : Nat} (hk : k < l.length) (h : val 0 (l.take k) = some a) (hd : ¬ (48 ≤ l[k].toNat ∧ l[k].toNat ≤ 57)) : val 0 l = none := by
  have e := (List.take_append_drop k l).symm
  rw [e, val_app2, h, List.drop_eq_getElem_cons hk]
  show val a (l[k] :: l.drop (k + 1)) = none
  rw [val_cons, if_neg hd]
theorem val_dec : ∀ n : Nat, val 0 (Lib.decDigits n) = some n := by
  intro n
  induction n using Nat.strongRecOn with
  | _ n ih =>
    have hd : ∀ a d, d < 10 → val a [dg d] = some (10 * a + d) := fun a d h => by
      rw [val_cons, dg_nat h, if_pos (by omega)]
      show some _ = some _
      congr 1; omega
    by_cases h : n < 10
    · rw [dec1 h]
      have := hd 0 n h
      simpa using this
    · rw [dig_step h, val_app2, ih (n / 10) (by omega)]
      show val (n / 10) [dg (n % 10)] = some n
      rw [hd _ _ (by omega)]
      congr 1; omega
theorem val_mono : ∀ (l : List UInt8) (a n : Nat), val a l = some n → a ≤ n
  | [], a, n, h => by
    have : a = n := by simpa [val] using h
    omega
  | c :: r, a, n, h => by
    rw [val_cons] at h
    split at h
    · have := val_mono r _ _ h; omega
    · cases h
/-- what spec.l1Read makes of a word -/
def rdW (w : List UInt8) : Int := if 1 ≤ w.length ∧ w.length ≤ 6 ∧ ¬ (w.head? = some 48 ∧ 1 < w.length) then match val 0 w with
    | some n => (n : Int)
    | none => -1
  else -1
theorem rdW_far {w : List UInt8} (h : ¬ (1 ≤ w.length ∧ w.length ≤ 6)) : rdW w = -1 := by
  unfold rdW; rw [if_neg (fun h2 => h ⟨h2.1, h2.2.1⟩)]
theorem rdW_zero {w : List UInt8} (h : w.head? = some 48) (h2 : 1 < w.length) : rdW w = -1 := by
  unfold rdW; rw [if_neg (fun h3 => h3.2.2 ⟨h, h2⟩)]
theorem rdW_val {w : List UInt8} (h1 : 1 ≤ w.length) (h6 : w.length ≤ 6) (hz : ¬ (w.head? = some 48 ∧ 1 < w.length)) : rdW w = match val 0 w with
    | some n => (n : Int)
    | none => -1 := by
  unfold rdW; rw [if_pos ⟨h1, h6, hz⟩]
theorem dec_head {n : Nat} (h : 1 ≤ n) : (Lib.decDigits n).head? ≠ some 48 := by
  induction n using Nat.strongRecOn with
  | _ n ih =>
    by_cases h10 : n < 10
    · rw [dec1 h10]
      intro e
      have e2 : dg n = 48 := by simpa using e
      have := congrArg UInt8.toNat e2
      rw [dg_nat h10] at this
      have e4 : (48 : UInt8).toNat = 48 := rfl
      omega
    · rw [dig_step h10]
      have := ih (n / 10) (by omega) (by omega)
      intro e
      apply this
      rw [List.head?_append] at e
      cases hh : (Lib.decDigits (n / 10)).head? with
      | none =>
        have hl := List.head?_eq_none_iff.1 hh
        have h0 := val_dec (n / 10)
        rw [hl] at h0
        have : n / 10 = 0 := by simpa [val] using h0.symm
        omega
      | some x => rw [hh] at e; exact e
theorem dec_pos (n : Nat) : 1 ≤ (Lib.decDigits n).length := by
  rcases Nat.eq_zero_or_pos (Lib.decDigits n).length with h | h
  · have hl := List.length_eq_zero_iff.1 h
    have h0 := val_dec n
    rw [hl] at h0
    have hn : n = 0 := by simpa [val] using h0.symm
    subst hn
    rw [dec1 (by decide)] at hl
    cases hl
  · exact h
theorem dec_len4 {n : Nat} (h : n ≤ 9999) : (Lib.decDigits n).length ≤ 4 := by
  by_cases h1 : n < 10
  · rw [dec1 h1]; simp
  · rw [dig_step h1, List.length_append]
    by_cases h2 : n / 10 < 10
    · rw [dec1 h2]; simp
    · rw [dig_step h2, List.length_append]
      by_cases h3 : n / 10 / 10 < 10
      · rw [dec1 h3]; simp
      · rw [dig_step h3, List.length_append, dec1 (by omega)]; simp
theorem dec_lone {n : Nat} (h : n < 10) : (Lib.decDigits n).length = 1 := by rw [dec1 h]; rfl
theorem rdW_dec {n : Nat} (h2 : n ≤ 9999) : rdW (Lib.decDigits n) = (n : Int) := by
  have := dec_pos n
  have := dec_len4 h2
  unfold rdW
  rw [if_pos ⟨by omega, by omega, fun h => by
    by_cases h0 : n = 0
    · subst h0; have := dec_lone (n := 0) (by decide); omega
    · exact dec_head (by omega) h.1⟩, val_dec]
/-- digits without a superfluous zero are those of their number -/
theorem val_canon : ∀ (k : Nat) (w : List UInt8) (n : Nat), w.length = k → 1 ≤ k → ¬ (w.head? = some 48 ∧ 1 < w.length) → val 0 w = some n → w = Lib.decDigits n
  | 0, _, _, _, h, _, _ => absurd h (by decide)
  | k + 1, w, n, hk, _, hz, hv => by
    have hne : w ≠ [] := fun e => by subst e; cases hk
    have hw := (List.dropLast_concat_getLast hne).symm
    have hul : w.dropLast.length = k := by simp [hk]
    generalize w.dropLast = u at hw hul
    generalize w.getLast hne = c at hw
    subst hw
    rw [val_app2] at hv
    cases hu : val 0 u with
    | none => rw [hu] at hv; cases hv
    | some a =>
      rw [hu] at hv
      have hv : val a [c] = some n := hv
      rw [val_cons] at hv
      split at hv
      · rename_i hc
        have hv : some (10 * a + (c.toNat - 48)) = some n := hv
        obtain rfl := Option.some.inj hv
        have hcd : ∀ d, d < 10 → c.toNat = 48 + d → c = dg d := fun d hd h => UInt8.toNat_inj.1 (by rw [dg_nat hd, h])
        by_cases hk0 : k = 0
        · have : u = [] := List.length_eq_zero_iff.1 (by omega)
          subst this
          have ha : 0 = a := by simpa [val] using hu
          subst ha
          rw [dec1 (by omega), List.nil_append]
          exact congrArg (fun x => [x]) (hcd (10 * 0 + (c.toNat - 48)) (by omega) (by omega))
        · have hzu : u.head? ≠ some 48 := by
            intro e
            apply hz
            refine ⟨?_, by simp; omega⟩
            rw [List.head?_append, e]; rfl
          have ih := val_canon k u a hul (by omega) (fun h => hzu h.1) hu
          have ha : 1 ≤ a := by
            cases a with
            | succ a => omega
            | zero =>
              exfalso
              apply hzu
              rw [ih, dec1 (by decide)]
              rfl
          rw [dig_step (by omega), show (10 * a + (c.toNat - 48)) / 10 = a by omega, show (10 * a + (c.toNat - 48)) % 10 = c.toNat - 48 by omega, ← ih, ← hcd (c.toNat - 48) (by omega) (by omega)]
      · cases hv
theorem rdW_canon {w : List UInt8} (h : 0 ≤ rdW w) : w = Lib.decDigits (rdW w).toNat := by
  unfold rdW at h ⊢
  split at h
  · rename_i hc
    rw [if_pos hc]
    cases hv : val 0 w with
    | none => rw [hv] at h; exact absurd h (by decide)
    | some n => exact val_canon w.length w n rfl hc.1 hc.2.2 hv
  · exact absurd h (by decide)
/-- strconv.Atoi at digits -/
theorem uint_val : ∀ (l : List UInt8) (a n : Nat), val a l = some n → n ≤ 1000000 → Lib.parseUint10 a l = .ok n
  | [], a, n, h, _ => by
    have : a = n := by simpa [val] using h
    subst this; rfl
  | c :: r, a, n, h, hn => by
    rw [val_cons] at h
    split at h
    · rename_i hc
      have hm := val_mono _ _ _ h
      unfold Lib.parseUint10
      rw [if_pos hc, if_neg (by omega), if_neg (by omega), show a * 10 = 10 * a from Nat.mul_comm _ _]
      exact uint_val r _ n h hn
    · cases h
theorem atoi_dec {n : Nat} (h : n ≤ 1000000) : Lib.atoiAll (Lib.decDigits n) = .ok (n : Int) := by
  have hm := dec_mem n
  have hv := val_dec n
  cases hd : Lib.decDigits n with
  | nil => have := dec_pos n; rw [hd] at this; simp at this
  | cons c r =>
    rw [hd] at hv hm
    have hc := hm c (List.mem_cons_self ..)
    unfold Lib.atoiAll
    have e1 : ¬ c.toNat = 43 := by omega
    have e2 : ¬ c.toNat = 45 := by omega
    have e5 : ¬ 9223372036854775808 ≤ n := by omega
    have e3 : Lib.parseMag (c :: r) = .ok n := by
      unfold Lib.parseMag
      rw [if_neg (by simp)]
      exact uint_val _ 0 n hv (by omega)
    simp [e1, e2, e3, e5]
end Go.Proofs.YtcpipacombnhdaaDoor
