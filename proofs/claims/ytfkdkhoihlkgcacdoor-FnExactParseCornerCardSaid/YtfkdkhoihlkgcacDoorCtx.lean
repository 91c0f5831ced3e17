/- CornerText, both sides. -/
import Derived.Test.YtfkdkhoihlkgcacDoorCn
import Derived.Test.YtfkdkhoihlkgcacDoorPw
import Derived.Deep.RegionHeld3
namespace Go.Proofs.YtfkdkhoihlkgcacDoor
set_option linter.unusedVariables false
open Go.RowKit

/-- the text of a corner -/
def ctx (x y : Int) : List UInt8 := Lib.decDigits x.toNat ++ [120] ++ Lib.decDigits y.toNat
def ctV (x y : Int) : Value := if isCn x y then .tuple #[.string (bs (ctx x y)), .bool true] else .tuple #[.string ⟨#[]⟩, .bool false]
theorem ctV_no {x y : Int} (h : isCn x y = false) : ctV x y = .tuple #[.string ⟨#[]⟩, .bool false] := by simp [ctV, h]
theorem ctV_yes {x y : Int} (h : isCn x y = true) : ctV x y = .tuple #[.string (bs (ctx x y)), .bool true] := by simp [ctV, h]
theorem ctV_form (x y : Int) : ∃ a b, ctV x y = .tuple #[.string a, .bool b] := by unfold ctV; split <;> exact ⟨_, _, rfl⟩
theorem ctx_sum (a b : Nat) : bs (Lib.decDigits a) ++ ⟨#[120]⟩ ++ bs (Lib.decDigits b) = bs (ctx (a : Int) (b : Int)) := by
  rw [show (⟨#[120]⟩ : ByteArray) = bs [120] from rfl]
  unfold ctx
  simp only [Int.toNat_natCast, bs_app, List.append_assoc]
theorem blk2 {W : World} {g : Nat} {x y : Value} (h : Blk W g #[x, y]) : W.cell? ⟨g, 0, none⟩ = some x ∧ W.cell? ⟨g, 1, none⟩ = some y := ⟨h.cell 0, h.cell 1⟩
set_option maxRecDepth 20000 in
set_option maxHeartbeats 4000000 in
theorem cnText (xa xb : Nat) (w : World) (ha : xa ≤ 1000000) (hb : xb ≤ 1000000) :
    Calls Tryd.prog 18 #[.agg #[.int .i64 (xa : Int), .int .i64 (xb : Int)]] w fun e w' => e = .returned (.string (bs (ctx (xa : Int) (xb : Int)))) ∧ Below w.heap.size w w' := by
  have NA := Lib.hid (fun wx => l1Num xa wx ha)
  have NB := Lib.hid (fun wx => l1Num xb wx hb)
  have La := dig_len (n := xa) (by omega)
  have Lb := dig_len (n := xb) (by omega)
  have La2 := bs_size (Lib.decDigits xa)
  have Lb2 := bs_size (Lib.decDigits xb)
  have TX := Lib.hid (ctx_sum xa xb)
  generalize bs (Lib.decDigits xa) = sa at *
  generalize bs (Lib.decDigits xb) = sb at *
  have q1 : ¬ (9223372036854775807 ≤ sa.size) := by omega
  have q1' : ¬ (9223372036854775807 < sa.size + 1) := by omega
  have q2 : ¬ (9223372036854775807 < sa.size + 1 + sb.size) := by omega
  have PX := Lib.hid (Blk.new w #[.int .i64 (xa : Int), .int .i64 (xb : Int)] 26)
  have DX := Lib.hid ((Below.refl w.heap.size w).alloc (Nat.le_refl _) (.cells #[.int .i64 (xa : Int), .int .i64 (xb : Int)] 26))
  clear La Lb La2 Lb2 ha hb
  go_enter Tryd.func18, Tryd.ntmps18
  go_wp2_with fail
  generalize (w.alloc (.cells #[.int .i64 (xa : Int), .int .i64 (xb : Int)] 26)) = W at *
  go_region_held3 (fun w' => w'.cell? ⟨w.heap.size, 0, none⟩ = some (.int .i64 (xa : Int)) ∧ w'.cell? ⟨w.heap.size, 1, none⟩ = some (.int .i64 (xb : Int))) (first | exact blk2 PB.out | exact blk2 PA.out | exact blk2 PX.out.drew | exact blk2 PX.out) (first
    | (go_at_call 32; (with_reducible refine (NA.out _).mono ?_); rintro e wA ⟨rfl, hbA⟩; have DA := Lib.hid (Below.trans (by (repeat (first | exact Below.refl _ _ | (refine Below.alloc ?_ (by first | omega | (simp; try omega)) _) | apply Below.drew | apply below_drewN))) (hbA.mono (by first | exact Nat.le_refl _ | (simp; try omega))) : Below W.heap.size W wA); have PA := Lib.hid (PX.out.below DA.out PX.out.lt); clear hbA; skip)
    | (go_at_call 32; (with_reducible refine (NB.out wA).mono ?_); rintro e wB ⟨rfl, hbB⟩; have DB := Lib.hid (DA.out.trans (hbB.mono DA.out.size)); have PB := Lib.hid (PX.out.below DB.out PX.out.lt); clear hbB; skip)
    | fail)
  all_goals
    go_wp2
    go_ret
    exact ⟨by rw [← TX.out]; rfl, DX.out.trans (DB.out.mono DX.out.size)⟩
set_option maxHeartbeats 1000000 in
theorem specCText (x y : Int) (w : World) :
    Calls Tryd.prog 6 #[.agg #[.int .i64 x, .int .i64 y]] w fun e w' => e = .returned (ctV x y) ∧ Below w.heap.size w w' := by
  have HG := Lib.hid (fun wx => cnGood x y wx)
  have X1 := Lib.hid (Blk.new w #[.int .i64 x, .int .i64 y] 26)
  cases h : isCn x y
  · have J := Lib.hid (ctV_no h)
    rw [h] at HG
    clear h
    go_enter Tryd.func6, Tryd.ntmps6
    go_wp2_with (go_at_call 17; (with_reducible refine (HG.out _).mono ?_); rintro e w1 ⟨rfl, hb⟩)
    go_ret2
    exact ⟨ret_v J.out.symm, Below.trans (by (repeat (first | exact Below.refl _ _ | (refine Below.alloc ?_ (by first | omega | (simp; try omega)) _) | apply Below.drew | apply below_drewN))) (hb.mono (by simp; try omega))⟩
  · have J := Lib.hid (ctV_yes h)
    obtain ⟨hx, hy⟩ := isCn_in h
    obtain ⟨xa, rfl⟩ : ∃ n : Nat, x = (n : Int) := ⟨x.toNat, by omega⟩
    obtain ⟨xb, rfl⟩ : ∃ n : Nat, y = (n : Int) := ⟨y.toNat, by omega⟩
    have CT := Lib.hid (fun wx => cnText xa xb wx (by omega) (by omega))
    rw [h] at HG
    clear h
    go_enter Tryd.func6, Tryd.ntmps6
    go_wp2_with fail
    refine (HG.out _).mono ?_
    rintro e w1 ⟨rfl, hb1⟩
    obtain ⟨c0, c1, l0⟩ := (X1.out.below hb1 (by simp)).two
    have HB1 := Lib.hid (Below.trans (by (repeat (first | exact Below.refl _ _ | (refine Below.alloc ?_ (by first | omega | (simp; try omega)) _) | apply Below.drew | apply below_drewN))) (hb1.mono (by simp; try omega)) : Below w.heap.size w w1)
    have hs := HB1.out.size
    clear hb1
    go_wp2_with fail
    refine (CT.out _).mono ?_
    rintro e w2 ⟨rfl, hb2⟩
    go_wp2
    go_ret2
    exact ⟨ret_v J.out.symm, HB1.out.trans (hb2.mono hs)⟩
set_option maxRecDepth 20000 in
set_option maxHeartbeats 4000000 in
theorem implCText (x y : Int) (w : World) (hP : Pow w) :
    Calls Tryd.prog 8 #[.agg #[.int .i64 x, .int .i64 y]] w fun e w' => e = .returned (ctV x y) ∧ Below w.heap.size w w' := by
  have HG := Lib.hid (fun wx => implIsCorner x y wx)
  have X1 := Lib.hid (Blk.new w #[.int .i64 x, .int .i64 y] 26)
  cases h : isCn x y
  · have J := Lib.hid (ctV_no h)
    rw [h] at HG
    clear h
    go_enter Tryd.func8, Tryd.ntmps8
    go_wp2_with (go_at_call 19; (with_reducible refine (HG.out _).mono ?_); rintro e w1 ⟨rfl, hb⟩)
    go_ret2
    exact ⟨ret_v J.out.symm, Below.trans (by (repeat (first | exact Below.refl _ _ | (refine Below.alloc ?_ (by first | omega | (simp; try omega)) _) | apply Below.drew | apply below_drewN))) (hb.mono (by simp; try omega))⟩
  · have J := Lib.hid (ctV_yes h)
    obtain ⟨hx, hy⟩ := isCn_in h
    obtain ⟨xa, rfl⟩ : ∃ n : Nat, x = (n : Int) := ⟨x.toNat, by omega⟩
    obtain ⟨xb, rfl⟩ : ∃ n : Nat, y = (n : Int) := ⟨y.toNat, by omega⟩
    rw [h] at HG
    clear h
    have NA := Lib.hid (fun wx hx => itoa xa wx (by omega) hx)
    have NB := Lib.hid (fun wx hx => itoa xb wx (by omega) hx)
    have La := dig_len (n := xa) (by omega)
    have Lb := dig_len (n := xb) (by omega)
    have La2 := bs_size (Lib.decDigits xa)
    have Lb2 := bs_size (Lib.decDigits xb)
    have TX := Lib.hid (ctx_sum xa xb)
    generalize bs (Lib.decDigits xa) = sa at *
    generalize bs (Lib.decDigits xb) = sb at *
    have q1 : ¬ (9223372036854775807 ≤ sa.size) := by omega
    have q1' : ¬ (9223372036854775807 < sa.size + 1) := by omega
    have q2 : ¬ (9223372036854775807 < sa.size + 1 + sb.size) := by omega
    have P0 := Lib.hid hP
    clear La Lb La2 Lb2 hx hy hP
    go_enter Tryd.func8, Tryd.ntmps8
    go_wp2_with fail
    refine (HG.out _).mono ?_
    rintro e W ⟨rfl, hb1⟩
    have PX := Lib.hid (X1.out.below hb1 (by simp))
    have DX := Lib.hid (Below.trans (by (repeat (first | exact Below.refl _ _ | (refine Below.alloc ?_ (by first | omega | (simp; try omega)) _) | apply Below.drew | apply below_drewN))) (hb1.mono (by simp; try omega)) : Below w.heap.size w W)
    have PW := Lib.hid (P0.out.below DX.out)
    clear hb1 X1 P0
    go_wp2_with fail
    go_region_held3 (fun w' => w'.cell? ⟨w.heap.size, 0, none⟩ = some (.int .i64 (xa : Int)) ∧ w'.cell? ⟨w.heap.size, 1, none⟩ = some (.int .i64 (xb : Int))) (first | exact blk2 PB.out | exact blk2 PA.out | exact blk2 PX.out.drew | exact blk2 PX.out) (first
      | (go_at_call 20; (with_reducible refine (NA.out _ (PW.out.below (by (repeat (first | exact Below.refl _ _ | apply Below.drew))))).mono ?_); rintro e wA ⟨rfl, hbA⟩; have DA := Lib.hid (Below.trans (by (repeat (first | exact Below.refl _ _ | (refine Below.alloc ?_ (by first | omega | (simp; try omega)) _) | apply Below.drew | apply below_drewN))) (hbA.mono (by first | exact Nat.le_refl _ | (simp; try omega))) : Below W.heap.size W wA); have PA := Lib.hid (PX.out.below DA.out PX.out.lt); clear hbA; skip)
      | (go_at_call 20; (with_reducible refine (NB.out wA (PW.out.below DA.out)).mono ?_); rintro e wB ⟨rfl, hbB⟩; have DB := Lib.hid (DA.out.trans (hbB.mono DA.out.size)); have PB := Lib.hid (PX.out.below DB.out PX.out.lt); clear hbB; skip)
      | fail)
    all_goals
      go_wp2
      go_ret2
      exact ⟨ret_v (by rw [J.out, ← TX.out]; rfl), DX.out.trans (DB.out.mono DX.out.size)⟩
end Go.Proofs.YtfkdkhoihlkgcacDoor
