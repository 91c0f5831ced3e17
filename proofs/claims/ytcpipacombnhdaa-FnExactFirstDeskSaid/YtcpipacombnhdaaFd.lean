/- The first desk: spec and impl FirstDesk; laws.markDesk, heldDesk. -/
import Derived.Test.YtcpipacombnhdaaDk
namespace Go.Proofs.Ytcpipacombnhdaa
set_option linter.unusedVariables false
open Go.RowKit

def fdB : List Br := [(0, 1, 3), (1, 2, 2), (0, 2, 4), (2, 3, 5)]
def fdZ : List Int := [3, 1, 2]
def fdR : ByteArray := ⟨#[46, 111, 46, 46, 111]⟩
def fdQ : ByteArray := ⟨#[114, 114, 46, 108, 108]⟩
def fdV (gu go : Nat) : Value := .agg #[.string ⟨#[46, 111, 46, 46, 111]⟩, .string ⟨#[114, 114, 46, 108, 108]⟩, .int .i64 4, .slice (some ⟨gu, 0, none⟩) 4 4, .slice (some ⟨go, 0, none⟩) 3 3]
def FdP (w : World) (e : Ending) (w' : World) : Prop := ∃ gu go, e = .returned (fdV gu go) ∧ Brs w' w.heap.size (.slice (some ⟨gu, 0, none⟩) 4 4) fdB ∧ Ints w' w.heap.size (.slice (some ⟨go, 0, none⟩) 3 3) fdZ ∧ gu ≠ go ∧ Below w.heap.size w w'
set_option maxRecDepth 20000 in
theorem specFirst (w : World) : Calls Try.prog 5 #[] w (FdP w) := by
  obtain ⟨W1, hW1⟩ : ∃ W, W = w.alloc (.cells #[.string ⟨#[46, 111, 46, 46, 111]⟩, .string ⟨#[114, 114, 46, 108, 108]⟩, .int .i64 4, .slice (some ⟨w.heap.size + 1, 0, none⟩) 4 4, .slice (some ⟨w.heap.size + 1 + 1, 0, none⟩) 3 3] 27) := ⟨_, rfl⟩
  obtain ⟨W2, hW2⟩ : ∃ W, W = W1.alloc (.cells #[.int .i64 0, .int .i64 1, .int .i64 3, .int .i64 1, .int .i64 2, .int .i64 2, .int .i64 0, .int .i64 2, .int .i64 4, .int .i64 2, .int .i64 3, .int .i64 5] 42) := ⟨_, rfl⟩
  obtain ⟨W3, hW3⟩ : ∃ W, W = W2.alloc (.cells #[.int .i64 3, .int .i64 1, .int .i64 2] 3) := ⟨_, rfl⟩
  have z1 : W1.heap.size = w.heap.size + 1 := by rw [hW1]; simp
  have z2 : W2.heap.size = w.heap.size + 1 + 1 := by rw [hW2]; simp [z1]
  have b1 : Below w.heap.size w W1 := by rw [hW1]; (repeat (first | exact Below.refl _ _ | (refine Below.alloc ?_ (by first | omega | (simp; try omega)) _) | apply Below.drew | apply below_drewN))
  have b2 : Below W1.heap.size W1 W2 := by rw [hW2]; (repeat (first | exact Below.refl _ _ | (refine Below.alloc ?_ (by first | omega | (simp; try omega)) _) | apply Below.drew | apply below_drewN))
  have b3 : Below W2.heap.size W2 W3 := by rw [hW3]; (repeat (first | exact Below.refl _ _ | (refine Below.alloc ?_ (by first | omega | (simp; try omega)) _) | apply Below.drew | apply below_drewN))
  have X3 : Blk W3 w.heap.size #[.string ⟨#[46, 111, 46, 46, 111]⟩, .string ⟨#[114, 114, 46, 108, 108]⟩, .int .i64 4, .slice (some ⟨w.heap.size + 1, 0, none⟩) 4 4, .slice (some ⟨w.heap.size + 1 + 1, 0, none⟩) 3 3] := by
    have h := Blk.new w #[.string ⟨#[46, 111, 46, 46, 111]⟩, .string ⟨#[114, 114, 46, 108, 108]⟩, .int .i64 4, .slice (some ⟨w.heap.size + 1, 0, none⟩) 4 4, .slice (some ⟨w.heap.size + 1 + 1, 0, none⟩) 3 3] 27
    rw [← hW1] at h
    rw [hW3, hW2]; exact (h.alloc _).alloc _
  have U2 : Brs W2 w.heap.size (.slice (some ⟨w.heap.size + 1, 0, none⟩) 4 4) fdB := by
    rw [hW2, ← z1]
    exact World.ownsRow_lit (base := w.heap.size) (e := 42) (size := 3) W1 _ 4 (by omega) (by unfold maxLen; omega) rfl
  have O3 : Ints W3 w.heap.size (.slice (some ⟨w.heap.size + 1 + 1, 0, none⟩) 3 3) fdZ := by
    rw [hW3, ← z2]
    exact World.ownsRow_lit (base := w.heap.size) (e := 3) (size := 1) W2 _ 3 (by omega) (by unfold maxLen; omega) rfl
  have U3 := Lib.hid (U2.below b3)
  have HO := Lib.hid O3
  have HX := Lib.hid X3
  have HB := Lib.hid ((b1.trans (b2.mono (by omega))).trans (b3.mono (by omega)))
  have HE := Lib.hid (show W3 = _ by rw [hW3, hW2, hW1])
  clear hW1 hW2 hW3 z1 z2 b1 b2 b3 X3 U2 O3
  go_enter Try.func5, Try.ntmps5
  go_wp2
  rw [← HE.out]
  obtain ⟨e0, e1, e2, e3, e4, _⟩ := HX.out.five
  refine bodyPost_ret (v := fdV (w.heap.size + 1) (w.heap.size + 1 + 1)) (by simp [results, Try.f5, go_sem, e0, e1, e2, e3, e4, fdV]) rfl ?_
  exact ⟨_, _, rfl, U3.out, HO.out, by omega, HB.out⟩
set_option maxRecDepth 20000 in
theorem implFirst (w : World) : Calls Try.prog 6 #[] w (FdP w) := by
  obtain ⟨W1, hW1⟩ : ∃ W, W = w.alloc (.cells #[.string ⟨#[46, 111, 46, 46, 111]⟩, .string ⟨#[114, 114, 46, 108, 108]⟩, .int .i64 4, .slice (some ⟨w.heap.size + 1, 0, none⟩) 4 4, .slice (some ⟨w.heap.size + 1 + 1, 0, none⟩) 3 3] 27) := ⟨_, rfl⟩
  obtain ⟨W2, hW2⟩ : ∃ W, W = W1.alloc (.cells #[.int .i64 0, .int .i64 1, .int .i64 3, .int .i64 1, .int .i64 2, .int .i64 2, .int .i64 0, .int .i64 2, .int .i64 4, .int .i64 2, .int .i64 3, .int .i64 5] 42) := ⟨_, rfl⟩
  obtain ⟨W3, hW3⟩ : ∃ W, W = W2.alloc (.cells #[.int .i64 3, .int .i64 1, .int .i64 2] 3) := ⟨_, rfl⟩
  have z1 : W1.heap.size = w.heap.size + 1 := by rw [hW1]; simp
  have z2 : W2.heap.size = w.heap.size + 1 + 1 := by rw [hW2]; simp [z1]
  have b1 : Below w.heap.size w W1 := by rw [hW1]; (repeat (first | exact Below.refl _ _ | (refine Below.alloc ?_ (by first | omega | (simp; try omega)) _) | apply Below.drew | apply below_drewN))
  have b2 : Below W1.heap.size W1 W2 := by rw [hW2]; (repeat (first | exact Below.refl _ _ | (refine Below.alloc ?_ (by first | omega | (simp; try omega)) _) | apply Below.drew | apply below_drewN))
  have b3 : Below W2.heap.size W2 W3 := by rw [hW3]; (repeat (first | exact Below.refl _ _ | (refine Below.alloc ?_ (by first | omega | (simp; try omega)) _) | apply Below.drew | apply below_drewN))
  have X3 : Blk W3 w.heap.size #[.string ⟨#[46, 111, 46, 46, 111]⟩, .string ⟨#[114, 114, 46, 108, 108]⟩, .int .i64 4, .slice (some ⟨w.heap.size + 1, 0, none⟩) 4 4, .slice (some ⟨w.heap.size + 1 + 1, 0, none⟩) 3 3] := by
    have h := Blk.new w #[.string ⟨#[46, 111, 46, 46, 111]⟩, .string ⟨#[114, 114, 46, 108, 108]⟩, .int .i64 4, .slice (some ⟨w.heap.size + 1, 0, none⟩) 4 4, .slice (some ⟨w.heap.size + 1 + 1, 0, none⟩) 3 3] 27
    rw [← hW1] at h
    rw [hW3, hW2]; exact (h.alloc _).alloc _
  have U2 : Brs W2 w.heap.size (.slice (some ⟨w.heap.size + 1, 0, none⟩) 4 4) fdB := by
    rw [hW2, ← z1]
    exact World.ownsRow_lit (base := w.heap.size) (e := 42) (size := 3) W1 _ 4 (by omega) (by unfold maxLen; omega) rfl
  have O3 : Ints W3 w.heap.size (.slice (some ⟨w.heap.size + 1 + 1, 0, none⟩) 3 3) fdZ := by
    rw [hW3, ← z2]
    exact World.ownsRow_lit (base := w.heap.size) (e := 3) (size := 1) W2 _ 3 (by omega) (by unfold maxLen; omega) rfl
  have U3 := Lib.hid (U2.below b3)
  have HO := Lib.hid O3
  have HX := Lib.hid X3
  have HB := Lib.hid ((b1.trans (b2.mono (by omega))).trans (b3.mono (by omega)))
  have HE := Lib.hid (show W3 = _ by rw [hW3, hW2, hW1])
  clear hW1 hW2 hW3 z1 z2 b1 b2 b3 X3 U2 O3
  go_enter Try.func6, Try.ntmps6
  go_wp2
  rw [← HE.out]
  obtain ⟨e0, e1, e2, e3, e4, _⟩ := HX.out.five
  refine bodyPost_ret (v := fdV (w.heap.size + 1) (w.heap.size + 1 + 1)) (by simp [results, Try.f6, go_sem, e0, e1, e2, e3, e4, fdV]) rfl ?_
  exact ⟨_, _, rfl, U3.out, HO.out, by omega, HB.out⟩
theorem row_keep {w w' : World} {B n size : Nat} {e : TypeId} {v : Value} {xs : List Value} (h : w.ownsRow B e size v n xs) (hk : ∀ g, v.ownBlock = some g → w'.heap[g]? = w.heap[g]?) : w'.ownsRow B e size v n xs := by
  refine ⟨h.1, ?_⟩
  rcases h.2 with h2 | ⟨g, cap, cur, e, h1, hg, h3, h4, h5, h6⟩
  · exact .inl h2
  · exact .inr ⟨g, cap, cur, e, h1, (hk g (by rw [e]; rfl)).trans hg, h3, h4, h5, h6⟩
set_option maxHeartbeats 4000000 in
theorem markFd (gu go B : Nat) (w : World) (hU : Brs w B (.slice (some ⟨gu, 0, none⟩) 4 4) fdB) (hO : Ints w B (.slice (some ⟨go, 0, none⟩) 3 3) fdZ) (hne : gu ≠ go) (hB : B ≤ w.heap.size) :
    Calls Try.prog 8 #[fdV gu go, .int .i64 1] w fun e w' => e = .returned (.int .i64 16) ∧ Brs w' B (.slice (some ⟨gu, 0, none⟩) 4 4) (marksB 1 4) ∧ Ints w' B (.slice (some ⟨go, 0, none⟩) 3 3) (marks 13 3) ∧ Below B w w' ∧ (∀ b, b < w.heap.size → b ≠ gu → b ≠ go → w'.heap[b]? = w.heap[b]?) := by
  unfold fdV
  have K0 := Lib.hid (fun b (hb : b < w.heap.size) => ((Below.refl w.heap.size w).alloc (Nat.le_refl _) (.cells #[.string ⟨#[46, 111, 46, 46, 111]⟩, .string ⟨#[114, 114, 46, 108, 108]⟩, .int .i64 4, .slice (some ⟨gu, 0, none⟩) 4 4, .slice (some ⟨go, 0, none⟩) 3 3] 27)).block b hb)
  have S0 : w.heap.size < (w.alloc (.cells #[.string ⟨#[46, 111, 46, 46, 111]⟩, .string ⟨#[114, 114, 46, 108, 108]⟩, .int .i64 4, .slice (some ⟨gu, 0, none⟩) 4 4, .slice (some ⟨go, 0, none⟩) 3 3] 27)).heap.size := by simp
  have X0 := Lib.hid (Blk.new w #[.string ⟨#[46, 111, 46, 46, 111]⟩, .string ⟨#[114, 114, 46, 108, 108]⟩, .int .i64 4, .slice (some ⟨gu, 0, none⟩) 4 4, .slice (some ⟨go, 0, none⟩) 3 3] 27)
  have B0 := Lib.hid ((Below.refl B w).alloc hB (.cells #[.string ⟨#[46, 111, 46, 46, 111]⟩, .string ⟨#[114, 114, 46, 108, 108]⟩, .int .i64 4, .slice (some ⟨gu, 0, none⟩) 4 4, .slice (some ⟨go, 0, none⟩) 3 3] 27))
  have U0 := Lib.hid (hU.below ((Below.refl w.heap.size w).alloc (Nat.le_refl _) (.cells #[.string ⟨#[46, 111, 46, 46, 111]⟩, .string ⟨#[114, 114, 46, 108, 108]⟩, .int .i64 4, .slice (some ⟨gu, 0, none⟩) 4 4, .slice (some ⟨go, 0, none⟩) 3 3] 27)))
  have O0 := Lib.hid (hO.below ((Below.refl w.heap.size w).alloc (Nat.le_refl _) (.cells #[.string ⟨#[46, 111, 46, 46, 111]⟩, .string ⟨#[114, 114, 46, 108, 108]⟩, .int .i64 4, .slice (some ⟨gu, 0, none⟩) 4 4, .slice (some ⟨go, 0, none⟩) 3 3] 27)))
  have gl := World.ownsRow.lt hU gu rfl
  have ol := World.ownsRow.lt hO go rfl
  clear hU hO
  go_enter Try.func8, Try.ntmps8
  go_wp2_with fail
  generalize w.alloc (.cells #[.string ⟨#[46, 111, 46, 46, 111]⟩, .string ⟨#[114, 114, 46, 108, 108]⟩, .int .i64 4, .slice (some ⟨gu, 0, none⟩) 4 4, .slice (some ⟨go, 0, none⟩) 3 3] 27) = W1 at *
  refine (markIsles 4 _ fdB B W1 U0.out (by decide) 1 (by decide) (by decide)).mono ?_
  rintro e W2 ⟨rfl, hm, hg⟩
  have X2 := Lib.hid (X0.out.kept hg (fun e => by have e' : some w.heap.size = some gu := e; simp at e'; omega))
  have O2 := Lib.hid (O0.out.kept hg (.inr (fun e => by have e' : some go = some gu := e; simp at e'; omega)))
  have K2 := Lib.hid (fun b (hb : b < w.heap.size) (h1 : b ≠ gu) => (hg.block b (by omega) (fun e => by have e' : some b = some gu := e; simp at e'; omega)).trans (K0.out b hb))
  have S2 : w.heap.size < W2.heap.size := Nat.lt_of_lt_of_le S0 hg.size
  have B2 := Lib.hid (B0.out.grown hg (Nat.le_trans hB B0.out.size) (fun b h => by have h' : some gu = some b := h; simp at h'; omega))
  have U2 := Lib.hid hm
  clear hm hg X0 O0 U0 B0
  obtain ⟨c0, c1, c2, c3, c4, cl⟩ := X2.out.five
  have e13 : (1 : Int) + 3 * ((fdB.length : Nat) : Int) = 13 := by decide
  rw [e13]
  go_wp2_with fail
  refine (markIntS _ fdZ B W2 O2.out (by decide) 13 (by decide) (by decide)).mono ?_
  rintro e W3 ⟨rfl, hm, hg⟩
  have U3 := Lib.hid (U2.out.kept hg (.inr (fun e => by have e' : some gu = some go := e; simp at e'; omega)))
  have K3 := Lib.hid (fun b (hb : b < w.heap.size) (h1 : b ≠ gu) (h2 : b ≠ go) => (hg.block b (by omega) (fun e => by have e' : some b = some go := e; simp at e'; omega)).trans (K2.out b hb h1))
  have B3 := Lib.hid (B2.out.grown hg (Nat.le_trans hB B2.out.size) (fun b h => by have h' : some go = some b := h; simp at h'; omega))
  have O3 := Lib.hid hm
  clear hm hg
  have e16 : (13 : Int) + ((fdZ.length : Nat) : Int) = 16 := by decide
  rw [e16]
  go_wp2
  go_ret
  exact ⟨rfl, U3.out, O3.out, B3.out, K3.out⟩
set_option maxHeartbeats 4000000 in
theorem heldFd (gu go : Nat) (w : World) (hU : RdB w (.slice (some ⟨gu, 0, none⟩) 4 4) (marksB 1 4)) (hO : Rd w (.slice (some ⟨go, 0, none⟩) 3 3) (marks 13 3)) :
    Calls Try.prog 9 #[fdV gu go, .int .i64 1] w fun e w' => e = .returned (.int .i64 16) ∧ Below w.heap.size w w' := by
  unfold fdV
  have X0 := Lib.hid (Blk.new w #[.string ⟨#[46, 111, 46, 46, 111]⟩, .string ⟨#[114, 114, 46, 108, 108]⟩, .int .i64 4, .slice (some ⟨gu, 0, none⟩) 4 4, .slice (some ⟨go, 0, none⟩) 3 3] 27)
  have B0 := Lib.hid ((Below.refl w.heap.size w).alloc (Nat.le_refl _) (.cells #[.string ⟨#[46, 111, 46, 46, 111]⟩, .string ⟨#[114, 114, 46, 108, 108]⟩, .int .i64 4, .slice (some ⟨gu, 0, none⟩) 4 4, .slice (some ⟨go, 0, none⟩) 3 3] 27))
  have U0 := Lib.hid (hU.below B0.out)
  have O0 := Lib.hid (hO.below B0.out)
  clear hU hO
  go_enter Try.func9, Try.ntmps9
  go_wp2_with fail
  generalize w.alloc (.cells #[.string ⟨#[46, 111, 46, 46, 111]⟩, .string ⟨#[114, 114, 46, 108, 108]⟩, .int .i64 4, .slice (some ⟨gu, 0, none⟩) 4 4, .slice (some ⟨go, 0, none⟩) 3 3] 27) = W1 at *
  refine (heldIsles 4 _ 4 W1 1 U0.out (by decide) (by decide) (by decide)).mono ?_
  rintro e W2 ⟨rfl, hb⟩
  have X2 := Lib.hid (X0.out.below hb X0.out.lt)
  have O2 := Lib.hid (O0.out.below hb)
  have B2 := Lib.hid (B0.out.trans (hb.mono B0.out.size))
  clear hb X0 O0 U0 B0
  obtain ⟨c0, c1, c2, c3, c4, cl⟩ := X2.out.five
  have e13 : (1 : Int) + 3 * ((4 : Nat) : Int) = 13 := by decide
  rw [e13]
  go_wp2_with fail
  refine (heldIntS _ 3 W2 13 O2.out (by decide) (by decide) (by decide)).mono ?_
  rintro e W3 ⟨rfl, rfl⟩
  have e16 : (13 : Int) + ((3 : Nat) : Int) = 16 := by decide
  rw [e16]
  go_wp2
  go_ret
  exact ⟨rfl, B2.out⟩
end Go.Proofs.Ytcpipacombnhdaa
