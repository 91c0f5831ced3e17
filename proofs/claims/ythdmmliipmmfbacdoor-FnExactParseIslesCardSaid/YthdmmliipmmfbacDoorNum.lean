/- Numbers as texts: spec.l1Num. -/
import Derived.Test.YthdmmliipmmfbacDoorSl
import Derived.Lib.ItoaNum
import Derived.Laws.Concat
import Derived.Deep.RegionWith
namespace Go.Proofs.YthdmmliipmmfbacDoor
set_option linter.unusedVariables false
open Go.RowKit

def bs (l : List UInt8) : ByteArray := ⟨l.toArray⟩
theorem bs_app (x y : List UInt8) : bs x ++ bs y = bs (x ++ y) := ByteArray.mk_append_mk x y
/-- the digit k -/
def dg (k : Nat) : UInt8 := UInt8.ofNat (48 + k)
theorem bs_size (l : List UInt8) : (bs l).size = l.length := by simp [bs, ByteArray.size]
theorem dig_step {n : Nat} (h : ¬ n < 10) : Lib.decDigits n = Lib.decDigits (n / 10) ++ [dg (n % 10)] := by rw [Lib.decDigits, dif_neg h]; rfl
theorem dig_len {n : Nat} (h : n ≤ 1000000) : (Lib.decDigits n).length ≤ 7 := by
  rw [Lib.decDigits_length]
  have a1 : ∀ u, u < 10 → Lib.nDigits u ≤ 1 := fun u h => by rw [Lib.nDigits_small h]; exact Nat.le_refl _
  have st : ∀ (k b : Nat), (∀ u, u < b → Lib.nDigits u ≤ k) → ∀ u, u < 10 * b → Lib.nDigits u ≤ k + 1 := by
    intro k b hk u hu
    rw [Lib.nDigits]
    split
    · omega
    · have := hk (u / 10) (by omega); omega
  exact st 6 1000000 (st 5 100000 (st 4 10000 (st 3 1000 (st 2 100 (st 1 10 a1))))) n (by omega)

theorem oneByte (w : World) (b x k : Nat) (hk : k < 256) (h : w.cell? ⟨b, 0, none⟩ = some (.int .u8 (k : Int))) :
    (convert 61 9 (.slice (some ⟨b, 0, none⟩) 1 x)).run Tryd.prog w = .ok (.string (bs [UInt8.ofNat k])) w := by
  refine run_convert_bytes_back (P := Tryd.prog) w 61 9 5 ⟨b, 0, none⟩ x [UInt8.ofNat k] Tryd.underlying61 Tryd.underlying5 Tryd.underlying9 fun j hj => ?_
  obtain rfl : j = 0 := by simpa using hj
  have e : ((UInt8.ofNat k).toNat : Int) = (k : Int) := by
    have : (UInt8.ofNat k).toNat = k := by simp; omega
    rw [this]
  show w.cell? ⟨b, (0 + (0 : Nat) : Int).toNat, none⟩ = _
  rw [show (0 + (0 : Nat) : Int).toNat = 0 from rfl, h]
  simp
  omega

end Go.Proofs.YthdmmliipmmfbacDoor
