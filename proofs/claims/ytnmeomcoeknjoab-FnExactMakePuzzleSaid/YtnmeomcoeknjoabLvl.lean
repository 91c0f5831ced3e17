/- The least numbers of leaps to the far bank, as a list: plain lists; and impl.oneMoreThanLeast. -/
import Derived.Test.YtnmeomcoeknjoabSl
import Derived.Test.YtnmeomcoeknjoabStand
namespace Go.Proofs.Ytnmeomcoeknjoab
set_option linter.unusedVariables false
open Go.RowKit

def omStep (a n : Int) : Int := if 0 ≤ n ∧ (a < 0 ∨ n + 1 < a) then n + 1 else a
theorem omStep_yes {a n : Int} (h : 0 ≤ n) (h' : a < 0 ∨ n + 1 < a) : omStep a n = n + 1 := by simp [omStep, h, h']
theorem omStep_no {a n : Int} (h : n < 0 ∨ (0 ≤ a ∧ a ≤ n + 1)) : omStep a n = a := by
  have : ¬ (0 ≤ n ∧ (a < 0 ∨ n + 1 < a)) := by omega
  simp [omStep, this]
/-- 1 more than the least of the numbers that are not negative, or -1 -/
def oml (l : List Int) : Int := l.foldl omStep (-1)
theorem oml_take (l : List Int) (j : Nat) (h : j < l.length) : oml (l.take (j + 1)) = omStep (oml (l.take j)) (gt l j) := by
  unfold oml
  rw [List.take_succ_eq_append_getElem h, List.foldl_append]
  simp [gt, h]
theorem oml_0 (l : List Int) : oml (l.take 0) = -1 := by simp [oml]

/-- numbers of leaps: small -/
def Small (l : List Int) (m : Int) : Prop := ∀ j, -1 ≤ gt l j ∧ gt l j ≤ m
theorem gt_nil (j : Nat) : gt [] j = 0 := by simp [gt]
theorem gt_out {l : List Int} {j : Nat} (h : l.length ≤ j) : gt l j = 0 := by simp [gt, List.getElem?_eq_none h]
theorem oml_small {l : List Int} {m : Int} (h : Small l m) (hm : 0 ≤ m) : ∀ j, -1 ≤ oml (l.take j) ∧ oml (l.take j) ≤ m + 1
  | 0 => by rw [oml_0]; omega
  | j + 1 => by
    have ih := oml_small h hm j
    by_cases hj : j < l.length
    · rw [oml_take l j hj]
      have := h j
      unfold omStep
      split <;> omega
    · rw [List.take_of_length_le (by omega)]
      rw [List.take_of_length_le (by omega)] at ih
      exact ih

/-- what LeapsLeft has at the last k + 1 places -/
def lvl (s : ByteArray) (L : Nat) (far : Nat) : Nat → List Int
  | 0 => [0]
  | k + 1 => (if stand s (far - (k + 1)) then oml ((lvl s L far k).take L) else -1) :: lvl s L far k
theorem lvl_len (s : ByteArray) (L far k : Nat) : (lvl s L far k).length = k + 1 := by
  induction k with
  | zero => rfl
  | succ k ih => simp [lvl, ih]
theorem gt_cons (x : Int) (l : List Int) (j : Nat) : gt (x :: l) j = if j = 0 then x else gt l (j - 1) := by
  cases j <;> simp [gt]
theorem lvl_small (s : ByteArray) (L far k : Nat) : Small (lvl s L far k) k := by
  induction k with
  | zero => intro j; simp only [lvl, gt_cons]; split <;> simp [gt]
  | succ k ih =>
    intro j
    have := oml_small ih (by omega) L
    simp only [lvl, gt_cons]
    split
    · split <;> omega
    · have := ih (j - 1); omega
theorem lvl_yes {s : ByteArray} {L far k : Nat} (h : stand s (far - (k + 1)) = true) : lvl s L far (k + 1) = oml ((lvl s L far k).take L) :: lvl s L far k := by simp [lvl, h]
theorem lvl_no {s : ByteArray} {L far k : Nat} (h : stand s (far - (k + 1)) = false) : lvl s L far (k + 1) = -1 :: lvl s L far k := by simp [lvl, h]
def lefts (s : ByteArray) (L : Nat) : List Int := lvl s L (s.size + 1) (s.size + 1)

set_option maxHeartbeats 800000 in
theorem oneMore (v : Value) (l : List Int) (w : World) (h : Rd w v l) (hl : l.length ≤ 100) (hsm : Small l 100) :
    Calls Try.prog 97 #[v] w fun e w' => e = .returned (.int .i64 (oml l)) ∧ w = w' := by
  obtain ⟨n, hn⟩ : ∃ n, n = l.length := ⟨_, rfl⟩
  obtain ⟨a, cap, rfl, hcell⟩ : ∃ a cap, v = .slice a n cap ∧ ∀ j, j < n → ∃ b off, a = some ⟨b, off, none⟩ ∧ w.cell? ⟨b, off + j, none⟩ = some (.int .i64 (gt l j)) := by
    rcases h with ⟨⟨a, c, rfl⟩, rfl⟩ | ⟨b, off, cap, rfl, hb, hc, hm, hh⟩
    · obtain rfl : n = 0 := hn
      exact ⟨_, _, rfl, fun j hj => absurd hj (Nat.not_lt_zero _)⟩
    · rw [← hn] at *
      exact ⟨_, _, rfl, fun j hj => ⟨b, off, rfl, hh j hj⟩⟩
  rw [← hn] at hl
  have HC := Lib.hid hcell
  have HN := Lib.hid hn
  have HS := Lib.hid hsm
  clear hcell h hn hsm
  go_enter Try.func97, Try.ntmps97
  go_wp2
  go_loop [3, 8] (fun r i => ∃ j : Nat, j ≤ n ∧ i = .int .i64 j ∧ r = .int .i64 (oml (l.take j))) (fun _ i => n - (intOf i).toNat)
  case atStart => exact ⟨0, Nat.zero_le _, rfl, by rw [oml_0]⟩
  case round =>
    obtain ⟨j, hj, rfl, rfl⟩ := hrel
    have hb := oml_small HS.out (by omega) j
    by_cases hlt : j < n
    · have hst := Lib.hid (oml_take l j (by have := HN.out; omega))
      have hx := HS.out j
      obtain ⟨b, off, rfl, hc⟩ := HC.out j hlt
      generalize oml (l.take j) = a at hb hst ⊢
      generalize gt l j = x at hx hc hst
      by_cases h0 : 0 ≤ x
      · by_cases h1 : a < 0
        · have R := Lib.hid (hst.out.trans (omStep_yes h0 (.inl h1)))
          clear hst
          go_wp2
          go_round
          case rel => exact ⟨j + 1, by omega, by go_num, by rw [R.out]⟩
          case measure => simp [intOf]; omega
        · by_cases h2 : x + 1 < a
          · have R := Lib.hid (hst.out.trans (omStep_yes h0 (.inr h2)))
            clear hst
            go_wp2
            go_round
            case rel => exact ⟨j + 1, by omega, by go_num, by rw [R.out]⟩
            case measure => simp [intOf]; omega
          · have R := Lib.hid (hst.out.trans (omStep_no (.inr ⟨by omega, by omega⟩)))
            clear hst
            go_wp2
            go_round
            case rel => exact ⟨j + 1, by omega, by go_num, by rw [R.out]⟩
            case measure => simp [intOf]; omega
      · have R := Lib.hid (hst.out.trans (omStep_no (.inl (by omega))))
        clear hst
        go_wp2
        go_round
        case rel => exact ⟨j + 1, by omega, by go_num, by rw [R.out]⟩
        case measure => simp [intOf]; omega
    · obtain rfl : j = n := by omega
      have R := Lib.hid (show l.take j = l from List.take_of_length_le (by have := HN.out; omega))
      go_wp2
      go_ret
      exact ⟨ret_w (congrArg (fun x => Value.int .i64 (oml x)) R.out), rfl⟩
end Go.Proofs.Ytnmeomcoeknjoab
