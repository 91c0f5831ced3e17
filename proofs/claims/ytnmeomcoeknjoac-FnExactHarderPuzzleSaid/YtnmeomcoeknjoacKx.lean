/- The river with a number: spec.pzRiver, impl.riverOfNumber. -/
import Derived.Test.YtnmeomcoeknjoacKr
import Derived.Test.YtnmeomcoeknjoacMu8
import Derived.Laws.Concat
namespace Go.Proofs.Ytnmeomcoeknjoac
set_option linter.unusedVariables false
set_option maxRecDepth 100000
open Go.RowKit

theorem front (c : UInt8) (l : List UInt8) : (⟨#[c]⟩ : ByteArray) ++ ⟨l.toArray⟩ = ⟨(c :: l).toArray⟩ := by
  have := ByteArray.mk_append_mk [c] l
  simpa using this
theorem half (k j : Nat) : k / 2 ^ (j + 1) = k / 2 ^ j / 2 := by rw [Nat.pow_succ, Nat.div_div_eq_div_mul]
theorem rvT_len {n k j : Nat} (h : j ≤ n) : (rvT n k j).length = j := by unfold rvT; rw [List.length_drop, rvL_len]; omega
/-- one digit more -/
theorem rvT_odd {n k j : Nat} (h : j < n) (hp : k / 2 ^ j % 2 = 1) : rvT n k (j + 1) = 111 :: rvT n k j := by rw [rvT_succ h]; simp [hp, sgB]
theorem rvT_even {n k j : Nat} (h : j < n) (hp : ¬ k / 2 ^ j % 2 = 1) : rvT n k (j + 1) = 46 :: rvT n k j := by rw [rvT_succ h]; simp [hp, sgB]
set_option maxHeartbeats 1000000 in
theorem pzRiver (n k : Nat) (w : World) (hn : n ≤ 8) (hk : k ≤ 256) :
    Calls Try.prog 40 #[.int .i64 (n : Int), .int .i64 (k : Int)] w fun e w' => e = .returned (.string (rvN n k)) ∧ w = w' := by
  go_enter Try.func40, Try.ntmps40
  go_wp2
  go_loopw [0, 1, 5, 6] (fun pl nu o _ wr => ∃ (m j : Nat) (q : Nat) (s : ByteArray), j + m = n ∧ pl = .int .i64 (m : Int) ∧ nu = .int .i64 (q : Int) ∧ o = .string s ∧ Hid (q = k / 2 ^ j) ∧ q ≤ 256 ∧ Hid (s = ⟨(rvT n k j).toArray⟩) ∧ s.size ≤ 8 ∧ wr = w) (fun pl _ _ _ _ => (intOf pl).toNat)
  case atStart => exact ⟨n, 0, k, _, by omega, rfl, rfl, rfl, Lib.hid (by simp), hk, Lib.hid (by rw [rvT_0]), by decide, rfl⟩
  case round =>
    obtain ⟨m, j, q, s, hjm, rfl, rfl, rfl, HQ, hq, HS, hs, rfl⟩ := hrel
    by_cases hlt : 0 < m
    · obtain ⟨m, rfl⟩ : ∃ m', m = m' + 1 := ⟨m - 1, by omega⟩
      have hH := Lib.hid (show q / 2 = k / 2 ^ (j + 1) by rw [half, ← HQ.out])
      have hq2 : q / 2 ≤ 256 := by omega
      obtain ⟨z, hz⟩ : ∃ z : Int, z = (q : Int) := ⟨_, rfl⟩
      have hd : z.tdiv 2 = ((q / 2 : Nat) : Int) := by
        rw [Int.tdiv_eq_ediv_of_nonneg (by omega)]; omega
      have hzb : 0 ≤ z ∧ z ≤ 256 := by omega
      have HZ := Lib.hid hz
      rw [← hz]
      by_cases hp : q % 2 = 1
      · have R := Lib.hid (show (⟨#[111]⟩ : ByteArray) ++ s = ⟨(rvT n k (j + 1)).toArray⟩ by rw [HS.out, front, rvT_odd (by omega) (by rw [← HQ.out]; exact hp)])
        have RS := Lib.hid (show ((⟨#[111]⟩ : ByteArray) ++ s).size ≤ 8 by rw [R.out]; show (rvT n k (j + 1)).toArray.size ≤ 8; rw [List.size_toArray, rvT_len (by omega)]; omega)
        have ht : z.tmod 2 = 1 := by rw [Int.tmod_eq_emod_of_nonneg (by omega)]; omega
        have HD := Lib.hid (show z / 2 = ((q / 2 : Nat) : Int) by omega)
        clear hd hz hp
        go_wp2
        go_roundw
        case rel => exact ⟨m, j + 1, q / 2, _, by omega, rfl, by rw [HD.out], rfl, hH, hq2, R, RS.out, trivial⟩
        case measure => (simp [intOf]; try omega)
      · have R := Lib.hid (show (⟨#[46]⟩ : ByteArray) ++ s = ⟨(rvT n k (j + 1)).toArray⟩ by rw [HS.out, front, rvT_even (by omega) (by rw [← HQ.out]; exact hp)])
        have RS := Lib.hid (show ((⟨#[46]⟩ : ByteArray) ++ s).size ≤ 8 by rw [R.out]; show (rvT n k (j + 1)).toArray.size ≤ 8; rw [List.size_toArray, rvT_len (by omega)]; omega)
        have ht : z.tmod 2 = 0 := by rw [Int.tmod_eq_emod_of_nonneg (by omega)]; omega
        have HD := Lib.hid (show z / 2 = ((q / 2 : Nat) : Int) by omega)
        clear hd hz hp
        go_wp2
        go_roundw
        case rel => exact ⟨m, j + 1, q / 2, _, by omega, rfl, by rw [HD.out], rfl, hH, hq2, R, RS.out, trivial⟩
        case measure => (simp [intOf]; try omega)
    · obtain rfl : m = 0 := by omega
      have hR := Lib.hid (show s = rvN n k by rw [HS.out, show j = n by omega, rvT_n]; rfl)
      go_wp2
      go_ret
      exact ⟨by rw [hR.out]; rfl, rfl⟩

/-- the bytes of impl's river: behind i steps -/
def rvI (n k i : Nat) : List UInt8 := (rvL n k).take i ++ List.replicate (n - i) 46
theorem rvI_len {n k i : Nat} (h : i ≤ n) : (rvI n k i).length = n := by simp [rvI, rvL_len]; omega
theorem rvI_0 (n k : Nat) : rvI n k 0 = List.replicate n 46 := by simp [rvI]
theorem rvI_n (n k : Nat) : rvI n k n = rvL n k := by simp [rvI, List.take_of_length_le, rvL_len]
theorem rvI_yes {n k i : Nat} (h : i < n) (hp : k / 2 ^ (n - 1 - i) % 2 = 1) : (rvI n k i).set i 111 = rvI n k (i + 1) := by
  unfold rvI
  have hl : ((rvL n k).take i).length = i := by rw [List.length_take, rvL_len]; omega
  have hl2 : i < (rvL n k).length := by rw [rvL_len]; exact h
  rw [List.set_append_right _ _ (by omega), hl, Nat.sub_self, show n - i = (n - (i + 1)) + 1 from by omega, List.replicate_succ, List.set_cons_zero, List.take_succ_eq_append_getElem hl2, List.append_assoc]
  have e := rvL_at (n := n) (k := k) h
  rw [List.getElem?_eq_getElem hl2] at e
  injection e with e
  rw [e]; simp [hp, sgB]
theorem rvI_no {n k i : Nat} (h : i < n) (hp : ¬ k / 2 ^ (n - 1 - i) % 2 = 1) : rvI n k i = rvI n k (i + 1) := by
  unfold rvI
  have hl2 : i < (rvL n k).length := by rw [rvL_len]; exact h
  rw [show n - i = (n - (i + 1)) + 1 from by omega, List.replicate_succ, List.take_succ_eq_append_getElem hl2, List.append_assoc]
  have e := rvL_at (n := n) (k := k) h
  rw [List.getElem?_eq_getElem hl2] at e
  injection e with e
  rw [e]; simp [hp, sgB]
theorem byts_rep {w : World} {d c : Nat} (h : w.heap[d]? = some (.cells (List.replicate c (Value.int .u8 46)).toArray 5 (0, 0))) : Byts w d (List.replicate c 46) := by
  intro j hj
  have hj' : j < c := by simpa using hj
  refine ⟨?_, ?_⟩
  · simp [World.cell?, h, hj', List.getD_eq_getElem?_getD]
  · simp [World.frozen?, h]
theorem andOne (q : Nat) (h : q ≤ 256) : bits .and .i64 (q : Int) 1 = ((q % 2 : Nat) : Int) := by
  have key : ∀ q : Fin 257, bits .and .i64 ((q.val : Nat) : Int) 1 = ((q.val % 2 : Nat) : Int) := by decide +kernel
  exact key ⟨q, by omega⟩
theorem digit {k ex b : Nat} (hk : k ≤ 256) (h : k / 2 ^ ex % 2 = b) : bits .and .i64 ((k : Int) / 2 ^ ex) 1 = (b : Int) := by
  have e : (k : Int) / 2 ^ ex = ((k / 2 ^ ex : Nat) : Int) := by push_cast; rfl
  rw [e, andOne _ (Nat.le_trans (Nat.div_le_self _ _) hk), h]
set_option maxHeartbeats 1000000 in
theorem riverOf (n k : Nat) (w : World) (hn : 1 ≤ n ∧ n ≤ 8) (hk : k ≤ 256) :
    Calls Try.prog 45 #[.int .i64 (n : Int), .int .i64 (k : Int)] w fun e w' => e = .returned (.string (rvN n k)) ∧ Below w.heap.size w w' := by
  have RP := Lib.hid (fun wx bx h1 h2 => repeat8 n bx wx hn h1 h2)
  go_enter Try.func45, Try.ntmps45
  go_wp2_with fail
  refine (RP.out _ _ (by simp) (by simp)).mono ?_
  rintro e w1 ⟨d, rfl, hd, hr, hb⟩
  have HB := Lib.hid (Below.trans (by (repeat (first | exact Below.refl _ _ | (refine Below.alloc ?_ (by first | omega | (simp; try omega)) _) | apply Below.drew | apply below_drewN))) (hb.mono (by simp; try omega)) : Below w.heap.size w w1)
  have HY := Lib.hid (byts_rep hr)
  have hdw : w.heap.size ≤ d := by simp at hd; omega
  clear hb hr RP hd
  rw [← rvI_0 n k] at HY
  go_wp2_with fail
  go_loopw [6, 12] (fun _ i wr => ∃ j : Nat, j ≤ n ∧ i = .int .i64 (j : Int) ∧ Hid (Byts wr d (rvI n k j)) ∧ Hid (Below w.heap.size w wr)) (fun _ i _ => n - (intOf i).toNat)
  case atStart => exact ⟨0, Nat.zero_le _, rfl, HY, HB⟩
  case round =>
    obtain ⟨j, hj, rfl, HY, HB⟩ := hrel
    by_cases hlt : j < n
    · obtain ⟨ex, hex⟩ : ∃ ex, ex = n - 1 - j := ⟨_, rfl⟩
      have he : (n : Int) - 1 - (j : Int) = (ex : Int) := by omega
      have hlt' : (j : Int) < n := by omega
      have hex8 : (ex : Int) ≤ 64 := by omega
      have hex0 : 0 ≤ (ex : Int) := by omega
      have HEX := Lib.hid hex
      clear hex
      by_cases hp : k / 2 ^ ex % 2 = 1
      · have hb := digit hk hp
        have hY := HY.out j (by rw [rvI_len hj]; exact hlt)
        have c0 := hY.1
        have f0 := hY.2
        have R := Lib.hid (show Byts (wr.setCell ⟨d, j, none⟩ (.int .u8 111)) d (rvI n k (j + 1)) by
          rw [← rvI_yes hlt (by rw [← HEX.out]; exact hp)]
          exact HY.out.set' (by rw [rvI_len hj]; exact hlt) 111 111 rfl)
        have HB2 := Lib.hid (HB.out.setCell (p := ⟨d, j, none⟩) (by exact hdw) (.int .u8 111))
        generalize (((rvI n k j).getD j 0).toNat : Int) = ch at *
        clear hp hY
        go_wp2
        go_roundw
        case rel => exact ⟨j + 1, by omega, by go_num, R, HB2⟩
        case measure => (simp [intOf]; try omega)
      · have hb := digit hk (show k / 2 ^ ex % 2 = 0 by omega)
        have R := Lib.hid (show Byts wr d (rvI n k (j + 1)) by
          rw [← rvI_no hlt (by rw [← HEX.out]; exact hp)]
          exact HY.out)
        clear hp
        go_wp2
        go_roundw
        case rel => exact ⟨j + 1, by omega, by go_num, R, HB⟩
        case measure => (simp [intOf]; try omega)
    · obtain rfl : j = n := by omega
      have HC := HY.out.back j
      rw [rvI_len (Nat.le_refl _), rvI_n] at HC
      go_wp2
      go_ret
      exact ⟨rfl, HB.out⟩
end Go.Proofs.Ytnmeomcoeknjoac
