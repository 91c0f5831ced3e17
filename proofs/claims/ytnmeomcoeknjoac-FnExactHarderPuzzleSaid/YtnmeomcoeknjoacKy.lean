/- All rivers that fit some clues: spec.pzAll. -/
import Derived.Test.YtnmeomcoeknjoacKw
import Derived.Test.YtnmeomcoeknjoacKx
import Derived.Test.YtnmeomcoeknjoacSg
namespace Go.Proofs.Ytnmeomcoeknjoac
set_option linter.unusedVariables false
set_option maxRecDepth 100000
open Go.RowKit

theorem fitAll_snoc {cs : List Br} {s : ByteArray} {j : Nat} (hj : j < cs.length) : fitAll (cs.take (j + 1)) s = (fitAll (cs.take j) s && cfit (gb cs j) s) := by
  unfold fitAll
  rw [List.take_succ_eq_append_getElem hj, List.all_append]
  have e : gb cs j = cs[j] := by simp [gb, hj]
  rw [← e]; simp
theorem pow_wrap {n P : Nat} (h : P = 2 ^ n) (h8 : P ≤ 256) : wrap64 ((2 : Int) ^ n) = (P : Int) := by
  have e : ((2 : Int) ^ n) = (P : Int) := by rw [h]; push_cast; rfl
  rw [e]; unfold wrap64; omega
theorem fitAll_all {cs : List Br} {s : ByteArray} {N : Nat} (h : N = cs.length) : fitAll (cs.take N) s = fitAll cs s := by rw [h, List.take_length]
set_option maxHeartbeats 4000000 in
theorem pzAll (n : Nat) (v : Value) (cs : List Br) (w : World) (h : RdB w v cs) (hn : 1 ≤ n ∧ n ≤ 8) (hl : cs.length ≤ 1000) (hc : ∀ c ∈ cs, isCl (n : Int) c = true) :
    Calls Try.prog 25 #[.int .i64 (n : Int), v] w fun e w' => ∃ u, e = .returned u ∧ Strg w' w.heap.size u (sols n cs) ∧ Below w.heap.size w w' := by
  obtain ⟨a, N, c, rfl, hN, _, _, hcell⟩ := h
  have HC := Lib.hid hcell
  have HN := Lib.hid hN
  have HCL := Lib.hid hc
  obtain ⟨P, hP⟩ : ∃ P, P = 2 ^ n := ⟨_, rfl⟩
  have hP8 : P ≤ 256 := by rw [hP]; exact pow_8 hn.2
  have HP := Lib.hid hP
  have hsh := pow_wrap hP hP8
  have hNb : N ≤ 1000 := by omega
  clear hcell hN hc hP
  go_enter Try.func25, Try.ntmps25
  go_wp2
  go_loopw [5, 6, 7, 8] (fun o i _ _ wr => ∃ m : Nat, m ≤ P ∧ i = .int .i64 (m : Int) ∧ Hid (Strg wr w.heap.size o (solN n cs m)) ∧ Hid (Below w.heap.size w wr)) (fun _ i _ _ _ => P - (intOf i).toNat)
  case atStart => exact ⟨0, Nat.zero_le _, rfl, Lib.hid (World.ownsRow_nil _ _ _ _), Lib.hid (Below.refl _ _)⟩
  case round =>
    obtain ⟨m, hm, rfl, HS, HB⟩ := hrel
    obtain ⟨wo, hwo⟩ : ∃ wo, wo = wr := ⟨_, rfl⟩
    subst hwo
    by_cases hlt : m < P
    · have hr := rvN_rv (n := n) (k := m) hn
      have hz := rvN_size n m
      have HF := Lib.hid (show ∀ k a b wx, isCl (n : Int) (k, a, b) = true → Calls Try.prog 41 #[.agg #[.int .i64 k, .int .i64 a, .int .i64 b], .string (rvN n m)] wx fun e w' => e = .returned (.bool (cfit (k, a, b) (rvN n m))) ∧ Below wx.heap.size wx w' from
        fun k a b wx hcl => pzFits k a b (rvN n m) wx hr (by omega) (okA_of (by rw [hz]; exact hcl)))
      have HY := Lib.hid (solN_yes (n := n) (m := m) (cs := cs))
      have HNO := Lib.hid (solN_no (n := n) (m := m) (cs := cs))
      have hlt' : (m : Int) < P := by omega
      have R0 := Lib.hid (fun wx => pzRiver n m wx hn.2 (by omega))
      clear hr
      generalize rvN n m = r at *
      have hle := HB.out.size
      go_wp2_with (go_at_call 40; refine (R0.out _).mono ?_; rintro e w' ⟨rfl, rfl⟩)
      go_loopw [8, 22] (fun f i wq => ∃ j : Nat, j ≤ N ∧ i = .int .i64 (j : Int) ∧ f = .bool (fitAll (cs.take j) r) ∧ Hid (Below wo.heap.size wo wq)) (fun _ i _ => N - (intOf i).toNat)
      case atStart => exact ⟨0, Nat.zero_le _, rfl, rfl, Lib.hid (Below.refl _ _)⟩
      case round =>
        obtain ⟨j, hj, rfl, rfl, HQ⟩ := hrel
        have HBQ := Lib.hid (HB.out.trans (HQ.out.mono hle))
        by_cases hlj : j < N
        · obtain ⟨b, off, rfl, hbl, hA⟩ := HC.out j hlj
          obtain ⟨c1, c2, c3⟩ := hA.below hbl HBQ.out
          have hlj' : (j : Int) < N := by omega
          have hcl := HCL.out _ (gb_mem (bs := cs) (j := j) (by have := HN.out; omega))
          have FS := Lib.hid (fitAll_snoc (cs := cs) (s := r) (j := j) (by have := HN.out; omega))
          have hqle := HQ.out.size
          clear hA
          generalize gb cs j = q at *
          obtain ⟨x, y, z⟩ := q
          dsimp only at c1 c2 c3
          have HFF := Lib.hid (fun wx => HF.out x y z wx hcl)
          clear hcl
          cases hf : fitAll (cs.take j) r
          · have FS2 := FS.out
            rw [hf, Bool.false_and] at FS2
            have FS3 := Lib.hid FS2
            clear FS FS2 hf
            go_wp2
            go_roundw
            case rel => exact ⟨j + 1, by omega, by go_num, by rw [FS3.out], Lib.hid (by have := HQ.out.size; exact HQ.out.alloc this _)⟩
            case measure => (simp [intOf]; try omega)
          · have FS2 := FS.out
            rw [hf, Bool.true_and] at FS2
            have FS3 := Lib.hid FS2
            clear FS FS2 hf
            go_wp2_with (go_at_call 41; refine (HFF.out _).mono ?_; rintro e wz ⟨rfl, hb⟩; have HQ2 := Lib.hid (HQ.out.trans (Below.trans (by (repeat (first | exact Below.refl _ _ | (refine Below.alloc ?_ (by first | omega | (simp; try omega)) _) | apply Below.drew | apply below_drewN))) (hb.mono (by simp; try omega))) : Below wo.heap.size wo wz); clear hb)
            go_roundw
            case rel => exact ⟨j + 1, by omega, by go_num, by rw [FS3.out], HQ2⟩
            case measure => (simp [intOf]; try omega)
        · obtain rfl : j = N := by omega
          have hfa := fitAll_all (s := r) HN.out
          rw [hfa]
          have HS2 := Lib.hid (HS.out.below HQ.out)
          have hqle := HQ.out.size
          have hll := solN_len n cs m
          clear hfa
          cases hf : fitAll cs r
          · have E := Lib.hid (HNO.out hf)
            clear HY HNO hf
            go_wp2
            go_roundw
            case rel => exact ⟨m + 1, by omega, by go_num, Lib.hid (by rw [E.out]; exact HS2.out), HBQ⟩
            case measure => (simp [intOf]; try omega)
          · have E := Lib.hid (HY.out hf)
            clear HY HNO hf
            go_wp2_with (at_builtin; refine wpList_appS wr rfl _ _ rfl w.heap.size _ (solN n cs m) rfl HS2.out r _ rfl rfl (by omega) (by have := HBQ.out.size; omega) rfl ?_; intro v' w2 hI2 hb2 hg2)
            have HB2 := Lib.hid (HBQ.out.trans hb2)
            have HI2 := Lib.hid hI2
            clear hb2 hI2 hg2
            go_roundw
            case rel => exact ⟨m + 1, by omega, by go_num, Lib.hid (by rw [E.out]; exact HI2.out), HB2⟩
            case measure => (simp [intOf]; try omega)
    · obtain rfl : m = P := by omega
      have hge : ¬ ((m : Int) < (m : Int)) := by omega
      have E : solN n cs m = sols n cs := by unfold sols; rw [← HP.out]
      have HE := Lib.hid E
      clear E
      go_wp2
      go_ret
      exact ⟨_, rfl, by rw [← HE.out]; exact HS.out, HB.out⟩
end Go.Proofs.Ytnmeomcoeknjoac
