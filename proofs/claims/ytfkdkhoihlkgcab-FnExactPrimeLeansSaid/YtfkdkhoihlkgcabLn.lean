/- spec.cnLeans, impl.isWholeLean, leansOf. -/
import Derived.Test.YtfkdkhoihlkgcabLp
import Derived.Test.YtfkdkhoihlkgcabCd
import Derived.Test.YtfkdkhoihlkgcabRwa
namespace Go.Proofs.Ytfkdkhoihlkgcab
set_option linter.unusedVariables false
open Go.RowKit

def l2 (s : Int × Int) : List Int := [s.1, s.2]
def l3 (p : Int) (s : Int × Int) : List Int := [s.1, s.2, p]
/-- a list of three of the call's own -/
theorem ints_three (w : World) (B : Nat) (a b c : Int) (hB : B ≤ w.heap.size) : Ints (w.alloc (.cells #[.int .i64 a, .int .i64 b, .int .i64 c] 3)) B (.slice (some ⟨w.heap.size, 0, none⟩) 3 3) [a, b, c] :=
  World.ownsRow_lit (base := B) (e := 3) (size := 1) w #[.int .i64 a, .int .i64 b, .int .i64 c] 3 hB (by unfold maxLen; omega) rfl
set_option maxHeartbeats 4000000 in
theorem cnLeans (p : Int) (w : World) (hp : 1 ≤ p ∧ p ≤ 200) :
    Calls Try.prog 37 #[.int .i64 p] w fun e w' => ∃ v, e = .returned v ∧ (∃ us, Lst w' w.heap.size v ((lns p).map l2) us) ∧ Below w.heap.size w w' := by
  have s3 := mul_bd (a := p) (b := p) (m := 200) (n := 200) (by omega) (by omega) (by omega) (by omega)
  have N0 := Lib.hid (Lst.nil w w.heap.size)
  have H1 := hgt_le (a := 1) hp (by omega)
  go_enter Try.func37, Try.ntmps37
  go_wp2
  go_loopw [3, 4, 5] (fun v bv av wr => ∃ (a b : Int) (pre : List (Int × Int)) (us : List Value), (1 ≤ a ∧ a ≤ 201) ∧ av = .int .i64 a ∧ bv = .int .i64 b ∧ (0 ≤ b ∧ b ≤ p ∧ hgt p a ≤ b) ∧ pre.length + 1 ≤ a ∧
    Hid (pre ++ lnF p (201 - a).toNat a = lns p) ∧ Hid (Lst wr w.heap.size v (pre.map l2) us) ∧ Hid (Below w.heap.size w wr)) (fun _ _ av _ => 300 - (intOf av).toNat)
  case atStart => exact ⟨1, p, [], [], by omega, rfl, rfl, ⟨by omega, by omega, H1⟩, by simp, Lib.hid rfl, N0, Lib.hid (Below.refl _ _)⟩
  case round =>
    obtain ⟨a, b, pre, us, ha, rfl, rfl, hb, hpl, HD, HL, HB⟩ := hrel
    have hsz := HB.out.size
    by_cases hlt : a ≤ b
    · have haa := mul_bd (a := a) (b := a) (m := 200) (n := 200) (by omega) (by omega) (by omega) (by omega)
      obtain ⟨t1, t2, t3, t4⟩ := hgt_at (a := a) hp (by omega)
      have t3' := t3 (by omega)
      have HN := hgt_next (a := a) hp (by omega)
      have ha2 : a ≤ 200 := by omega
      have HM := Lib.hid (fun b h => hgt_max (b := b) hp (show 0 ≤ a by omega) h)
      clear t3 t4
      go_wp2
      go_loop [4] (fun bv => ∃ b : Int, bv = .int .i64 b ∧ (0 ≤ b ∧ b ≤ p ∧ hgt p a ≤ b)) (fun bv => (intOf bv).toNat)
      case atStart => exact ⟨b, rfl, hb⟩
      case round =>
        clear hb hlt
        obtain ⟨b, rfl, hb⟩ := hrel
        have hbb := mul_bd (a := b) (b := b) (m := 200) (n := 200) (by omega) (by omega) (by omega) (by omega)
        by_cases hc : p * p < a * a + b * b
        · have hlb : hgt p a < b := by
            by_cases hk : hgt p a < b
            · exact hk
            · have e : b = hgt p a := by omega
              rw [e] at hc; omega
          go_wp2
          go_round
          case rel => exact ⟨b - 1, by go_num, by omega⟩
          case measure => (simp [intOf]; try omega)
        · have e : b = hgt p a := by have := HM.out b (by omega); omega
          obtain ⟨q, hq⟩ : ∃ q, (201 - a).toNat = q + 1 := ⟨(200 - a).toNat, by omega⟩
          have hq' : q = (201 - (a + 1)).toNat := by omega
          by_cases hab : a ≤ b
          · by_cases ho : a * a + b * b = p * p
            · have hB : lnB p a = true := by simp only [lnB]; rw [← e, decide_eq_true hab, decide_eq_true ho]; rfl
              have HD' := Lib.hid (show (pre ++ [(a, b)]) ++ lnF p (201 - (a + 1)).toNat (a + 1) = lns p by rw [← HD.out, hq, lnF_yes hB, ← e, ← hq']; simp)
              have R := Lib.hid (show (pre ++ [(a, b)]).map l2 = pre.map l2 ++ [[a, b]] by simp [l2])
              clear hq hq' HD hB
              rw [← e] at HN
              clear e t1 t2 t3' HM
              go_wp2_with (at_builtin; refine wpList_appS (wr.alloc (.cells #[.int .i64 a, .int .i64 b] 3)) wr rfl _ _ rfl w.heap.size _ _ us rfl HL.out ((Below.refl _ _).alloc (Nat.le_refl _) _) _ [a, b] (ints_two wr w.heap.size a b hsz) (fun k e => by (have e2 : wr.heap.size = k := by simpa [Value.ownBlock] using e); omega) _ rfl (by simp) (by simp; omega) (by simp; omega) rfl ?_; intro v' w3 hL3 hb3 hg3)
              have HL3 := Lib.hid (show Lst w3 w.heap.size v' ((pre ++ [(a, b)]).map l2) _ by rw [R.out]; exact hL3)
              have HB3 := Lib.hid ((HB.out.alloc hsz _).trans hb3)
              clear hL3 hb3 hg3
              go_wp2
              go_roundw
              case rel => exact ⟨a + 1, b, pre ++ [(a, b)], _, by omega, by go_num, rfl, ⟨by omega, by omega, HN⟩, by simp; omega, HD', HL3, HB3⟩
              case measure => (simp [intOf]; try omega)
            · have hB : lnB p a = false := by simp only [lnB]; rw [← e, decide_eq_true hab, decide_eq_false ho]; rfl
              have HD' := Lib.hid (show pre ++ lnF p (201 - (a + 1)).toNat (a + 1) = lns p by rw [← HD.out, hq, lnF_no hB, ← hq'])
              clear hq hq' HD hB
              rw [← e] at HN
              clear e t1 t2 t3' HM
              go_wp2
              go_roundw
              case rel => exact ⟨a + 1, b, pre, us, by omega, by go_num, rfl, ⟨by omega, by omega, HN⟩, by omega, HD', HL, HB⟩
              case measure => (simp [intOf]; try omega)
          · have hB : lnB p a = false := by simp only [lnB]; rw [← e, decide_eq_false hab]; rfl
            have HD' := Lib.hid (show pre ++ lnF p (201 - (a + 1)).toNat (a + 1) = lns p by rw [← HD.out, hq, lnF_no hB, ← hq'])
            clear hq hq' HD hB
            rw [← e] at HN
            clear e t1 t2 t3' HM
            go_wp2
            go_roundw
            case rel => exact ⟨a + 1, b, pre, us, by omega, by go_num, rfl, ⟨by omega, by omega, HN⟩, by omega, HD', HL, HB⟩
            case measure => (simp [intOf]; try omega)
    · have R := Lib.hid (show pre = lns p by rw [← HD.out, lnF_end hp _ a (by omega) (by omega), List.append_nil])
      have HL2 := Lib.hid (show Lst wr w.heap.size u3 ((lns p).map l2) us by rw [← R.out]; exact HL.out)
      clear HL
      go_wp2
      go_ret
      exact ⟨_, rfl, ⟨us, HL2.out⟩, HB.out⟩
end Go.Proofs.Ytfkdkhoihlkgcab
