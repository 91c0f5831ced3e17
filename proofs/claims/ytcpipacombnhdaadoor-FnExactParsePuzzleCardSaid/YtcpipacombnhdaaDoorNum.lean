/- Numbers as texts: spec.l1Num. -/
import Derived.Test.YtcpipacombnhdaaDoorSl
import Derived.Lib.ItoaNum
import Derived.Laws.Concat
import Derived.Deep.RegionWith
namespace Go.Proofs.YtcpipacombnhdaaDoor
set_option linter.unusedVariables false
open Go.RowKit

def bs (l : List UInt8) : ByteArray := ⟨l.toArray⟩
theorem bs_app (x y : List UInt8) : bs x ++ bs y = bs (x ++ y) := ByteArray.mk_append_mk x y
/-- the digit k -/
def dg (k : Nat) : UInt8 := UInt8.ofNat (48 + k)
theorem bs_size (l : List UInt8) : (bs l).size = l.length := by simp [bs, ByteArray.size]
theorem dig_step {n : Nat} (h : ¬ n < 10) : Lib.decDigits n = Lib.decDigits (n / 10) ++ [dg (n % 10)] := by rw [Lib.decDigits, dif_neg h]; rfl
theorem dig_len {n : Nat} (h : n ≤ 1000000) : (Lib.decDigits n).length ≤ 7 := by
  rw [Lib.decDigits_length]
  have a1 : ∀ u, u < 10 → Lib.nDigits u ≤ 1 := fun u h => by rw [Lib.nDigits_small h]; exact Nat.le_refl _
  have st : ∀ (k b : Nat), (∀ u, u < b → Lib.nDigits u ≤ k) → ∀ u, u < 10 * b → Lib.nDigits u ≤ k + 1 := by
    intro k b hk u hu
    rw [Lib.nDigits]
    split
    · omega
    · have := hk (u / 10) (by omega); omega
  exact st 6 1000000 (st 5 100000 (st 4 10000 (st 3 1000 (st 2 100 (st 1 10 a1))))) n (by omega)

theorem oneByte (w : World) (b x k : Nat) (hk : k < 256) (h : w.cell? ⟨b, 0, none⟩ = some (.int .u8 (k : Int))) :
    (convert 65 9 (.slice (some ⟨b, 0, none⟩) 1 x)).run Tryd.prog w = .ok (.string (bs [UInt8.ofNat k])) w := by
  refine run_convert_bytes_back (P := Tryd.prog) w 65 9 5 ⟨b, 0, none⟩ x [UInt8.ofNat k] Tryd.underlying65 Tryd.underlying5 Tryd.underlying9 fun j hj => ?_
  obtain rfl : j = 0 := by simpa using hj
  have e : ((UInt8.ofNat k).toNat : Int) = (k : Int) := by
    have : (UInt8.ofNat k).toNat = k := by simp; omega
    rw [this]
  show w.cell? ⟨b, (0 + (0 : Nat) : Int).toNat, none⟩ = _
  rw [show (0 + (0 : Nat) : Int).toNat = 0 from rfl, h]
  simp
  omega

set_option maxRecDepth 20000 in
set_option maxHeartbeats 4000000 in
theorem l1Num : ∀ (n : Nat) (w : World), n ≤ 1000000 →
    Calls Tryd.prog 32 #[.int .i64 (n : Int)] w fun e w' => e = .returned (.string (bs (Lib.decDigits n))) ∧ Below w.heap.size w w' := by
  intro n
  induction n using Nat.strongRecOn with
  | _ n ih =>
    intro w hn
    obtain ⟨q, hq⟩ : ∃ q : Int, q = (n : Int) := ⟨_, rfl⟩
    rw [← hq]
    by_cases h : n < 10
    · have hi : q < 10 := by omega
      have hi0 : 0 ≤ q := by omega
      have D := Lib.hid (show Lib.decDigits n = [dg n] from Lib.decDigits_one h)
      have hc : (convert 65 9 (.slice (some ⟨w.heap.size, 0, none⟩) 1 1)).run Tryd.prog (w.alloc (.cells #[.int .u8 (48 + q)] 5)) = .ok (.string (bs [dg n])) (w.alloc (.cells #[.int .u8 (48 + q)] 5)) := by
        rw [show 48 + q = ((48 + n : Nat) : Int) by omega]
        exact oneByte _ _ 1 (48 + n) (by omega) (by simp)
      clear ih hq h hn
      generalize dg n = d at *
      go_enter Tryd.func32, Tryd.ntmps32
      go_wp2
      go_ret
      exact ⟨ret_w (by rw [D.out]; rfl), (Below.refl _ _).alloc (Nat.le_refl _) _⟩
    · have hi : ¬ q < 10 := by omega
      have D := Lib.hid (dig_step h)
      have hwq : IntKind.i64.wrap (q.tdiv 10) = ((n / 10 : Nat) : Int) := by
        rw [IntWalk.i64_quo q 10 (by omega)]
        omega
      have IH := Lib.hid (show ∀ W, Calls Tryd.prog 32 #[.int .i64 (IntKind.i64.wrap (q.tdiv 10))] W fun e w' => e = .returned (.string (bs (Lib.decDigits (n / 10)))) ∧ Below W.heap.size W w' from fun W => by
        rw [hwq]
        exact ih (n / 10) (by omega) W (by omega))
      clear hwq
      have hx : IntKind.u8.wrap (IntKind.i64.wrap (48 + q.tmod 10)) = ((48 + n % 10 : Nat) : Int) := by
        have e1 : q.tmod 10 = q % 10 := Int.tmod_eq_emod_of_nonneg (by omega)
        rw [e1, IntWalk.i64_in _ (by omega)]
        simp only [IntKind.wrap, IntKind.bits, IntKind.signed]
        simp
        omega
      have hcv : ∀ W : World, (convert 65 9 (.slice (some ⟨W.heap.size, 0, none⟩) 1 1)).run Tryd.prog (W.alloc (.cells #[.int .u8 (IntKind.u8.wrap (IntKind.i64.wrap (48 + q.tmod 10)))] 5)) = .ok (.string (bs [dg (n % 10)])) (W.alloc (.cells #[.int .u8 (IntKind.u8.wrap (IntKind.i64.wrap (48 + q.tmod 10)))] 5)) := fun W => by
        rw [hx]
        exact oneByte _ _ 1 (48 + n % 10) (by omega) (by simp)
      have hcd : (convert 65 9 (.slice (some ⟨w.heap.size, 0, none⟩) 1 1)).run Tryd.prog (w.alloc (.cells #[.int .u8 (IntKind.u8.wrap (IntKind.i64.wrap (48 + q.tmod 10)))] 5)).drew = .ok (.string (bs [dg (n % 10)])) (w.alloc (.cells #[.int .u8 (IntKind.u8.wrap (IntKind.i64.wrap (48 + q.tmod 10)))] 5)).drew := by
        rw [hx]
        exact oneByte _ _ 1 (48 + n % 10) (by omega) (by simp)
      have HX := Lib.hid (show ∀ (W' : World), Below (w.alloc (.cells #[.int .u8 (IntKind.u8.wrap (IntKind.i64.wrap (48 + q.tmod 10)))] 5)).drew.heap.size (w.alloc (.cells #[.int .u8 (IntKind.u8.wrap (IntKind.i64.wrap (48 + q.tmod 10)))] 5)).drew W' → (convert 65 9 (.slice (some ⟨w.heap.size, 0, none⟩) 1 1)).run Tryd.prog W' = .ok (.string (bs [dg (n % 10)])) W' from fun W' hb => by
        refine oneByte _ _ 1 (48 + n % 10) (by omega) ?_
        rw [hb.cell (p := ⟨w.heap.size, 0, none⟩) (by simp), hx]
        simp)
      clear hx
      have hr0 : 0 ≤ q % 10 ∧ q % 10 < 10 := by omega
      have hq9 : 0 ≤ q ∧ q ≤ 1000000 := by omega
      have LQ := dig_len (n := n / 10) (by omega)
      have LQ2 := bs_size (Lib.decDigits (n / 10))
      have LQ3 := bs_size [dg (n % 10)]
      clear ih hq h hn
      generalize dg (n % 10) = d at *
      generalize Lib.decDigits (n / 10) = l at *
      generalize hz : Lib.decDigits n = z at *
      clear hz
      have HA := Lib.hid (bs_app l [d])
      go_enter Tryd.func32, Tryd.ntmps32
      go_wp2
      go_region_with (go_at_call 32; refine (IH.out _).mono ?_; rintro e w1 ⟨rfl, hb1⟩; try have hcx := HX.out _ hb1)
      all_goals
        have hb2 : Below w.heap.size w w1 := by
          first
            | exact (Below.refl w.heap.size w).drew.trans hb1
            | exact (((Below.refl w.heap.size w).alloc (Nat.le_refl _) _).drew).trans (hb1.mono (by simp))
        have hb3 := hb2.size
        clear hb1 hcv hcd
        go_wp2
        go_ret
        first
          | exact ⟨ret_w (by rw [D.out, ← HA.out]; rfl), hb2⟩
          | exact ⟨ret_w (by rw [D.out, ← HA.out]; rfl), hb2.alloc hb3 _⟩
end Go.Proofs.YtcpipacombnhdaaDoor
