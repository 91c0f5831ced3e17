/- Puzzles as texts: spec.pzText. -/
import Derived.Test.YtcpipacombnhdaaDoorKd
import Derived.Test.YtcpipacombnhdaaDoorPw
import Derived.Deep.RegionHeld3
namespace Go.Proofs.YtcpipacombnhdaaDoor
set_option linter.unusedVariables false
open Go.RowKit

/-- numbers of clues -/
def Good (m : Nat) (cs : List Br) : Prop := ∀ b ∈ cs, 0 ≤ b.1 ∧ b.1 ≤ 5 ∧ 0 ≤ b.2.1 ∧ b.2.1 ≤ 9 ∧ 0 ≤ b.2.2 ∧ b.2.2 ≤ 256
theorem Good.at {m : Nat} {cs : List Br} {j : Nat} (h : Good m cs) (hj : j < cs.length) : 0 ≤ (gb cs j).1 ∧ (gb cs j).1 ≤ 5 ∧ 0 ≤ (gb cs j).2.1 ∧ (gb cs j).2.1 ≤ 9 ∧ 0 ≤ (gb cs j).2.2 ∧ (gb cs j).2.2 ≤ 256 := h _ (gb_mem hj)
theorem Good.sub {m : Nat} {cs ds : List Br} (h : Good m cs) (hs : ∀ b ∈ ds, b ∈ cs) : Good m ds := fun b hb => h b (hs b hb)
theorem isPz_got {n : Int} {cs : List Br} (h : isPz n cs = true) : ∃ m : Nat, n = m ∧ 1 ≤ m ∧ m ≤ 8 ∧ cs.length ≤ 6 ∧ Good m cs := by
  obtain ⟨h1, h8, hl, hc⟩ := isPz_iff.1 h
  exact ⟨n.toNat, by omega, by omega, by omega, hl, fun b hb => isCl_num ⟨h1, h8⟩ (hc b hb)⟩
/-- the text of a clue -/
def btx (b : Br) : List UInt8 := Lib.decDigits b.1.toNat ++ [46] ++ Lib.decDigits b.2.1.toNat ++ [46] ++ Lib.decDigits b.2.2.toNat
/-- the text of bridges, that of isles -/
def jtx (cs : List Br) : List UInt8 := Lib.join (cs.map btx) [44]
def itx (n : Int) (cs : List Br) : List UInt8 := Lib.decDigits n.toNat ++ [58] ++ jtx cs
theorem jtx_snoc (l : List Br) (b : Br) : jtx (l ++ [b]) = if l.length = 0 then btx b else jtx l ++ [44] ++ btx b := by
  cases l with
  | nil => simp [jtx, Lib.join_one]
  | cons z zs =>
    rw [if_neg (by simp)]
    unfold jtx
    rw [List.cons_append, List.map_cons, List.map_cons, Lib.join_cons, Lib.join_cons, List.map_append, Lib.joinTail, Lib.joinTail, List.map_append, List.flatten_append]
    simp [List.append_assoc]
theorem jtx_take {cs : List Br} {k : Nat} (h : k < cs.length) : jtx (cs.take (k + 1)) = if k = 0 then btx (gb cs k) else jtx (cs.take k) ++ [44] ++ btx (gb cs k) := by
  have e : gb cs k = cs[k] := by simp [gb, h]
  rw [List.take_succ_eq_append_getElem h, jtx_snoc, e]
  have : (cs.take k).length = k := by simp; omega
  rw [this]
theorem btx_len {m : Nat} {cs : List Br} (hg : Good m cs) (hm : m ≤ 1000) {b : Br} (hb : b ∈ cs) : (btx b).length ≤ 23 := by
  have := hg b hb
  have h1 := dig_len (n := b.1.toNat) (by omega)
  have h2 := dig_len (n := b.2.1.toNat) (by omega)
  have h3 := dig_len (n := b.2.2.toNat) (by omega)
  unfold btx; simp; omega
theorem jtx_len {m : Nat} {cs : List Br} (hg : Good m cs) (hm : m ≤ 1000) : (jtx cs).length ≤ 24 * cs.length := by
  have key : ∀ l : List Br, (∀ b ∈ l, b ∈ cs) → (Lib.joinTail [44] (l.map btx)).length ≤ 24 * l.length := by
    intro l
    induction l with
    | nil => intro _; simp [Lib.joinTail]
    | cons z l ih =>
      intro hl
      have h1 := ih fun m hm => hl m (List.mem_cons_of_mem _ hm)
      have h2 := btx_len hg hm (hl z (List.mem_cons_self ..))
      simp [Lib.joinTail] at h1 ⊢
      omega
  cases cs with
  | nil => show (Lib.join [] [44]).length ≤ _; simp [Lib.join]
  | cons z zs =>
    have h1 := key zs fun m hm => List.mem_cons_of_mem _ hm
    have h2 := btx_len hg hm (List.mem_cons_self ..)
    unfold jtx
    rw [List.map_cons, Lib.join_cons, List.length_append]
    simp
    omega
def itxV (n : Int) (cs : List Br) : Value := if isPz n cs then .tuple #[.string (bs (itx n cs)), .bool true] else .tuple #[.string ⟨#[]⟩, .bool false]
theorem itxV_no {n : Int} {cs : List Br} (h : isPz n cs = false) : itxV n cs = .tuple #[.string ⟨#[]⟩, .bool false] := by simp [itxV, h]
theorem itxV_yes {m : Nat} {cs : List Br} (h : isPz m cs = true) : itxV m cs = .tuple #[.string (bs (itx m cs)), .bool true] := by simp [itxV, h]
theorem itxV_form (n : Int) (cs : List Br) : ∃ x y, itxV n cs = .tuple #[.string x, .bool y] := by unfold itxV; split <;> exact ⟨_, _, rfl⟩
theorem blk3 {W : World} {g : Nat} {x y z : Value} (h : Blk W g #[x, y, z]) : W.cell? ⟨g, 0, none⟩ = some x ∧ W.cell? ⟨g, 1, none⟩ = some y ∧ W.cell? ⟨g, 2, none⟩ = some z := ⟨h.cell 0, h.cell 1, h.cell 2⟩
set_option maxRecDepth 20000 in
set_option maxHeartbeats 4000000 in
theorem pzText (m : Nat) (v : Value) (cs : List Br) (w : World) (h : RdB w v cs) (hg : Good m cs) (hm : m ≤ 8) (hl : cs.length ≤ 6) :
    Calls Tryd.prog 16 #[.agg #[.int .i64 m, v]] w fun e w' => e = .returned (.string (bs (itx m cs))) ∧ Below w.heap.size w w' := by
  have H := Lib.hid h
  obtain ⟨a, l, c, rfl, hnz, _, _, hvc⟩ := h
  have HG := Lib.hid hg
  have HVC := Lib.hid hvc
  have HVN := Lib.hid hnz
  rw [← hnz] at hl
  have N0 := Lib.hid (fun wx => l1Num m wx (by omega))
  have LM := dig_len (n := m) (by omega)
  have LM2 := bs_size (Lib.decDigits m)
  obtain ⟨dm, hdm⟩ : ∃ d, d = Lib.decDigits m := ⟨_, rfl⟩
  have IT := Lib.hid (show itx m cs = dm ++ [58] ++ jtx (cs.take l) by unfold itx; rw [hdm, hnz, List.take_length]; simp)
  rw [← hdm] at N0 LM LM2
  clear hg hvc hnz hdm
  have X0 := Lib.hid (Blk.new w #[.int .i64 m, .slice a l c] 30)
  have B0 := Lib.hid ((Below.refl w.heap.size w).alloc (Nat.le_refl _) (.cells #[.int .i64 m, .slice a l c] 30))
  have A0 := Lib.hid (bs_app dm [58])
  go_enter Tryd.func16, Tryd.ntmps16
  go_wp2_with fail
  refine (N0.out _).mono ?_
  rintro e w1 ⟨rfl, hb⟩
  have X1 := Lib.hid (X0.out.below hb X0.out.lt)
  have B1 := Lib.hid (B0.out.trans (hb.mono (by simp)))
  clear hb
  obtain ⟨c0, c1, l0⟩ := X1.out.two
  go_wp2_with fail
  go_loopw [3, 13] (fun o i wr => ∃ k : Nat, k ≤ l ∧ i = .int .i64 k ∧ o = .string (bs (dm ++ [58] ++ jtx (cs.take k))) ∧ Hid (Below w.heap.size w wr)) (fun _ i _ => l - (intOf i).toNat)
  case atStart => exact ⟨0, Nat.zero_le _, rfl, by rw [show jtx (cs.take 0) = [] from rfl, List.append_nil, ← A0.out]; rfl, B1⟩
  case round =>
    obtain ⟨k, hk, rfl, rfl, hB⟩ := hrel
    have hle := hB.out.size
    by_cases hlt : k < l
    · obtain ⟨b, off, rfl, hbw, hcc⟩ := HVC.out k hlt
      obtain ⟨x0, x1, x2⟩ := hcc.below hbw hB.out
      have hkb : k < cs.length := by have := HVN.out; omega
      have hlt' : (k : Int) < l := by omega
      have hv := HG.out.at hkb
      have T := Lib.hid (jtx_take hkb)
      have hjl := jtx_len (cs := cs.take k) (HG.out.sub fun b hb => List.mem_of_mem_take hb) (by omega)
      have hjl2 : (cs.take k).length ≤ 6 := by simp; omega
      generalize gb cs k = q at *
      obtain ⟨y0, y1, y2⟩ := q
      simp only at hv T x0 x1 x2
      obtain ⟨xa, rfl⟩ : ∃ n : Nat, y0 = n := ⟨y0.toNat, by omega⟩
      obtain ⟨xb, rfl⟩ : ∃ n : Nat, y1 = n := ⟨y1.toNat, by omega⟩
      obtain ⟨xc, rfl⟩ : ∃ n : Nat, y2 = n := ⟨y2.toNat, by omega⟩
      unfold btx at T
      simp only [Int.toNat_natCast] at T
      have NA := Lib.hid (fun wx => l1Num xa wx (by omega))
      have NB := Lib.hid (fun wx => l1Num xb wx (by omega))
      have NC := Lib.hid (fun wx => l1Num xc wx (by omega))
      have La := dig_len (n := xa) (by omega)
      have Lb := dig_len (n := xb) (by omega)
      have Lc := dig_len (n := xc) (by omega)
      have La2 := bs_size (Lib.decDigits xa)
      have Lb2 := bs_size (Lib.decDigits xb)
      have Lc2 := bs_size (Lib.decDigits xc)
      have hos := bs_size (dm ++ [58] ++ jtx (cs.take k))
      have hol : (dm ++ [58] ++ jtx (cs.take k)).length ≤ 400 := by simp; omega
      have JT := Lib.hid (show bs (dm ++ [58] ++ jtx (cs.take k)) ++ ⟨#[44]⟩ ++ (bs (Lib.decDigits xa) ++ ⟨#[46]⟩ ++ bs (Lib.decDigits xb) ++ ⟨#[46]⟩ ++ bs (Lib.decDigits xc)) = bs (dm ++ [58] ++ (jtx (cs.take k) ++ [44] ++ (Lib.decDigits xa ++ [46] ++ Lib.decDigits xb ++ [46] ++ Lib.decDigits xc))) by
        rw [show (⟨#[44]⟩ : ByteArray) = bs [44] from rfl, show (⟨#[46]⟩ : ByteArray) = bs [46] from rfl]
        simp only [bs_app, List.append_assoc])
      have JT0 := Lib.hid (show k = 0 → bs (dm ++ [58] ++ jtx (cs.take k)) ++ (bs (Lib.decDigits xa) ++ ⟨#[46]⟩ ++ bs (Lib.decDigits xb) ++ ⟨#[46]⟩ ++ bs (Lib.decDigits xc)) = bs (dm ++ [58] ++ (Lib.decDigits xa ++ [46] ++ Lib.decDigits xb ++ [46] ++ Lib.decDigits xc)) from fun h => by
        subst h
        rw [show (⟨#[46]⟩ : ByteArray) = bs [46] from rfl, show jtx (cs.take 0) = [] from rfl]
        simp only [bs_app, List.append_assoc, List.nil_append])
      have PX := Lib.hid (Blk.new wr #[.int .i64 (xa : Int), .int .i64 (xb : Int), .int .i64 (xc : Int)] 44)
      have DX := Lib.hid ((Below.refl w.heap.size w).trans (hB.out.alloc hle (.cells #[.int .i64 (xa : Int), .int .i64 (xb : Int), .int .i64 (xc : Int)] 44)))
      clear hcc hjl hjl2
      by_cases hk0 : k = 0
      · have T2 := Lib.hid ((JT0.out hk0).trans (by rw [T.out, if_pos hk0] : _ = bs (dm ++ [58] ++ jtx (cs.take (k + 1)))))
        subst hk0
        simp only [Nat.zero_mul, Nat.add_zero] at x0 x1 x2
        clear JT JT0 T
        generalize bs (Lib.decDigits xa) = sa at *
        generalize bs (Lib.decDigits xb) = sb at *
        generalize bs (Lib.decDigits xc) = sc at *
        generalize bs (dm ++ [58] ++ jtx (cs.take 0)) = oo at *
        have q1 : ¬ (9223372036854775807 ≤ sa.size) := by omega
        have q1' : ¬ (9223372036854775807 < sa.size + 1) := by omega
        have q2 : ¬ (9223372036854775807 < sa.size + 1 + sb.size) := by omega
        have q3 : ¬ (9223372036854775807 ≤ sa.size + 1 + sb.size) := by omega
        have q3' : ¬ (9223372036854775807 < sa.size + 1 + sb.size + 1) := by omega
        have q4 : ¬ (9223372036854775807 < sa.size + 1 + sb.size + 1 + sc.size) := by omega
        have q5 : ¬ (9223372036854775807 < oo.size + (sa.size + 1 + sb.size + 1 + sc.size)) := by omega
        have q6 : ¬ (9223372036854775807 < oo.size + 1 + (sa.size + 1 + sb.size + 1 + sc.size)) := by omega
        have q7 : ¬ (9223372036854775807 ≤ oo.size) := by omega
        have q7' : ¬ (9223372036854775807 < oo.size + 1) := by omega
        clear La Lb Lc La2 Lb2 Lc2 hos hol
        go_wp2_with fail
        generalize (wr.alloc (.cells #[.int .i64 (xa : Int), .int .i64 (xb : Int), .int .i64 (xc : Int)] 44)) = W at *
        go_region_held3 (fun w' => w'.cell? ⟨wr.heap.size, 0, none⟩ = some (.int .i64 (xa : Int)) ∧ w'.cell? ⟨wr.heap.size, 1, none⟩ = some (.int .i64 (xb : Int)) ∧ w'.cell? ⟨wr.heap.size, 2, none⟩ = some (.int .i64 (xc : Int))) (first | exact blk3 PC.out | exact blk3 PB.out | exact blk3 PA.out | exact blk3 PX.out.drew | exact blk3 PX.out) (first
          | (go_at_call 32; (with_reducible refine (NA.out _).mono ?_); rintro e wA ⟨rfl, hbA⟩; have DA := Lib.hid (Below.trans (by (repeat (first | exact Below.refl _ _ | (refine Below.alloc ?_ (by first | omega | (simp; try omega)) _) | apply Below.drew))) (hbA.mono (by first | exact Nat.le_refl _ | (simp; try omega))) : Below W.heap.size W wA); have PA := Lib.hid (PX.out.below DA.out PX.out.lt); clear hbA; skip)
          | (go_at_call 32; (with_reducible refine (NB.out wA).mono ?_); rintro e wB ⟨rfl, hbB⟩; have DB := Lib.hid (DA.out.trans (hbB.mono DA.out.size)); have PB := Lib.hid (PX.out.below DB.out PX.out.lt); clear hbB; skip)
          | (go_at_call 32; (with_reducible refine (NC.out wB).mono ?_); rintro e wC ⟨rfl, hbC⟩; have DC := Lib.hid (DB.out.trans (hbC.mono DB.out.size)); have PC := Lib.hid (PX.out.below DC.out PX.out.lt); clear hbC; skip)
          | fail)
        all_goals
          go_wp2
          go_roundw
          case rel => exact ⟨0 + 1, by omega, by go_num, by rw [← T2.out], Lib.hid (DX.out.trans (DC.out.mono DX.out.size))⟩
          case measure => (simp [intOf]; try omega)
      · have T2 := Lib.hid (JT.out.trans (by rw [T.out, if_neg hk0] : _ = bs (dm ++ [58] ++ jtx (cs.take (k + 1)))))
        have hk0' : (0 : Int) < (k : Int) := by omega
        clear JT JT0 T
        generalize bs (Lib.decDigits xa) = sa at *
        generalize bs (Lib.decDigits xb) = sb at *
        generalize bs (Lib.decDigits xc) = sc at *
        generalize bs (dm ++ [58] ++ jtx (cs.take k)) = oo at *
        have q1 : ¬ (9223372036854775807 ≤ sa.size) := by omega
        have q1' : ¬ (9223372036854775807 < sa.size + 1) := by omega
        have q2 : ¬ (9223372036854775807 < sa.size + 1 + sb.size) := by omega
        have q3 : ¬ (9223372036854775807 ≤ sa.size + 1 + sb.size) := by omega
        have q3' : ¬ (9223372036854775807 < sa.size + 1 + sb.size + 1) := by omega
        have q4 : ¬ (9223372036854775807 < sa.size + 1 + sb.size + 1 + sc.size) := by omega
        have q5 : ¬ (9223372036854775807 < oo.size + (sa.size + 1 + sb.size + 1 + sc.size)) := by omega
        have q6 : ¬ (9223372036854775807 < oo.size + 1 + (sa.size + 1 + sb.size + 1 + sc.size)) := by omega
        have q7 : ¬ (9223372036854775807 ≤ oo.size) := by omega
        have q7' : ¬ (9223372036854775807 < oo.size + 1) := by omega
        clear La Lb Lc La2 Lb2 Lc2 hos hol
        go_wp2_with fail
        generalize (wr.alloc (.cells #[.int .i64 (xa : Int), .int .i64 (xb : Int), .int .i64 (xc : Int)] 44)) = W at *
        go_region_held3 (fun w' => w'.cell? ⟨wr.heap.size, 0, none⟩ = some (.int .i64 (xa : Int)) ∧ w'.cell? ⟨wr.heap.size, 1, none⟩ = some (.int .i64 (xb : Int)) ∧ w'.cell? ⟨wr.heap.size, 2, none⟩ = some (.int .i64 (xc : Int))) (first | exact blk3 PC.out | exact blk3 PB.out | exact blk3 PA.out | exact blk3 PX.out.drew | exact blk3 PX.out) (first
          | (go_at_call 32; (with_reducible refine (NA.out _).mono ?_); rintro e wA ⟨rfl, hbA⟩; have DA := Lib.hid (Below.trans (by (repeat (first | exact Below.refl _ _ | (refine Below.alloc ?_ (by first | omega | (simp; try omega)) _) | apply Below.drew))) (hbA.mono (by first | exact Nat.le_refl _ | (simp; try omega))) : Below W.heap.size W wA); have PA := Lib.hid (PX.out.below DA.out PX.out.lt); clear hbA; skip)
          | (go_at_call 32; (with_reducible refine (NB.out wA).mono ?_); rintro e wB ⟨rfl, hbB⟩; have DB := Lib.hid (DA.out.trans (hbB.mono DA.out.size)); have PB := Lib.hid (PX.out.below DB.out PX.out.lt); clear hbB; skip)
          | (go_at_call 32; (with_reducible refine (NC.out wB).mono ?_); rintro e wC ⟨rfl, hbC⟩; have DC := Lib.hid (DB.out.trans (hbC.mono DB.out.size)); have PC := Lib.hid (PX.out.below DC.out PX.out.lt); clear hbC; skip)
          | fail)
        all_goals
          go_wp2
          go_roundw
          case rel => exact ⟨k + 1, by omega, by go_num, by rw [← T2.out], Lib.hid (DX.out.trans (DC.out.mono DX.out.size))⟩
          case measure => (simp [intOf]; try omega)
    · obtain rfl : k = l := by omega
      go_wp2
      go_ret
      exact ⟨by rw [IT.out]; rfl, hB.out⟩
end Go.Proofs.YtcpipacombnhdaaDoor
