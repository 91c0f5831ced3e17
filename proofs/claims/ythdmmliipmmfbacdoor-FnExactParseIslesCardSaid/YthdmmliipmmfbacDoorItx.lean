/- Isles as texts: spec.isText, spec.IslesText, impl.bridgeText, impl.IslesText. -/
import Derived.Test.YthdmmliipmmfbacDoorIc
import Derived.Test.YthdmmliipmmfbacDoorPw
import Derived.Deep.RegionHeld3
namespace Go.Proofs.YthdmmliipmmfbacDoor
set_option linter.unusedVariables false
open Go.RowKit

/-- the text of a bridge -/
def btx (b : Br) : List UInt8 := Lib.decDigits b.1.toNat ++ [45] ++ Lib.decDigits b.2.1.toNat ++ [58] ++ Lib.decDigits b.2.2.toNat
/-- the text of bridges, that of isles -/
def jtx (cs : List Br) : List UInt8 := Lib.join (cs.map btx) [44]
def itx (n : Int) (cs : List Br) : List UInt8 := Lib.decDigits n.toNat ++ [105] ++ jtx cs
theorem jtx_snoc (l : List Br) (b : Br) : jtx (l ++ [b]) = if l.length = 0 then btx b else jtx l ++ [44] ++ btx b := by
  cases l with
  | nil => simp [jtx, Lib.join_one]
  | cons z zs =>
    rw [if_neg (by simp)]
    unfold jtx
    rw [List.cons_append, List.map_cons, List.map_cons, Lib.join_cons, Lib.join_cons, List.map_append, Lib.joinTail, Lib.joinTail, List.map_append, List.flatten_append]
    simp [List.append_assoc]
theorem jtx_take {cs : List Br} {k : Nat} (h : k < cs.length) : jtx (cs.take (k + 1)) = if k = 0 then btx (gb cs k) else jtx (cs.take k) ++ [44] ++ btx (gb cs k) := by
  have e : gb cs k = cs[k] := by simp [gb, h]
  rw [List.take_succ_eq_append_getElem h, jtx_snoc, e]
  have : (cs.take k).length = k := by simp; omega
  rw [this]
theorem btx_len {m : Nat} {cs : List Br} (hg : Good m cs) (hm : m ≤ 1000) {b : Br} (hb : b ∈ cs) : (btx b).length ≤ 23 := by
  have := hg b hb
  have h1 := dig_len (n := b.1.toNat) (by omega)
  have h2 := dig_len (n := b.2.1.toNat) (by omega)
  have h3 := dig_len (n := b.2.2.toNat) (by omega)
  unfold btx; simp; omega
theorem jtx_len {m : Nat} {cs : List Br} (hg : Good m cs) (hm : m ≤ 1000) : (jtx cs).length ≤ 24 * cs.length := by
  have key : ∀ l : List Br, (∀ b ∈ l, b ∈ cs) → (Lib.joinTail [44] (l.map btx)).length ≤ 24 * l.length := by
    intro l
    induction l with
    | nil => intro _; simp [Lib.joinTail]
    | cons z l ih =>
      intro hl
      have h1 := ih fun m hm => hl m (List.mem_cons_of_mem _ hm)
      have h2 := btx_len hg hm (hl z (List.mem_cons_self ..))
      simp [Lib.joinTail] at h1 ⊢
      omega
  cases cs with
  | nil => show (Lib.join [] [44]).length ≤ _; simp [Lib.join]
  | cons z zs =>
    have h1 := key zs fun m hm => List.mem_cons_of_mem _ hm
    have h2 := btx_len hg hm (List.mem_cons_self ..)
    unfold jtx
    rw [List.map_cons, Lib.join_cons, List.length_append]
    simp
    omega
def itxV (n : Int) (cs : List Br) : Value := if areIs n cs then .tuple #[.string (bs (itx n cs)), .bool true] else .tuple #[.string ⟨#[]⟩, .bool false]
theorem itxV_no {n : Int} {cs : List Br} (h : areIs n cs = false) : itxV n cs = .tuple #[.string ⟨#[]⟩, .bool false] := by simp [itxV, h]
theorem itxV_yes {m : Nat} {cs : List Br} (h : areIs m cs = true) : itxV m cs = .tuple #[.string (bs (itx m cs)), .bool true] := by simp [itxV, h]
theorem itxV_form (n : Int) (cs : List Br) : ∃ x y, itxV n cs = .tuple #[.string x, .bool y] := by unfold itxV; split <;> exact ⟨_, _, rfl⟩
theorem blk3 {W : World} {g : Nat} {x y z : Value} (h : Blk W g #[x, y, z]) : W.cell? ⟨g, 0, none⟩ = some x ∧ W.cell? ⟨g, 1, none⟩ = some y ∧ W.cell? ⟨g, 2, none⟩ = some z := ⟨h.cell 0, h.cell 1, h.cell 2⟩
end Go.Proofs.YthdmmliipmmfbacDoor
