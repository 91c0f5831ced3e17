/- TurnTide, both sides. -/
import Derived.Test.YtmlokapbholeoacTt
import Derived.Test.YtmlokapbholeoacBy
import Derived.Lib.AppendStr
import Derived.OwnWalk
import Derived.Deep.QuietTactic
import Derived.BigQuiet
import Derived.IntWalk
import Derived.Outline
namespace Go.Proofs.Ytmlokapbholeoac
set_option linter.unusedVariables false
open Go.RowKit

theorem infoU8 : (Try.prog.info? 5).map (fun i => (i.zero, i.size, i.bytes)) = some (some (.int .u8 0), 1, 1) := by kernel_rfl
/-- the slice v of the call's own, at blocks from B on, holds these bytes -/
def Bys (w : World) (B : Nat) (v : Value) (s : ByteArray) : Prop := w.ownsRow B 5 1 v s.size (Lib.strCells s)
/-- 'append(b, s...)' -/
theorem wpList_catS' {ops : Array Oper} {rest : List Oper} {o : Oper} {a : Act} {Q : Exit → Act → World → Prop} (w0 : World) (hgd : o.guard = none) (s x : Operand)
    (ho : o.op = .call { callee := .builtin .append, args := #[s, x], argTypes := #[40, 9] })
    (B : Nat) (v : Value) (b c : ByteArray) (hs : a.eval s = v) (hI : Bys w0 B v b) (hx : a.eval x = .string c) (hl : b.size + c.size ≤ 1000000) (hB : B ≤ w0.heap.size)
    (h : ∀ v' w', Bys w' B v' (b ++ c) → Below B w0 w' → wpList Try.prog ops Q rest (a.put o.dst v') w') : wpList Try.prog ops Q (o :: rest) a w0 := by
  obtain ⟨i0, hi, hz0, hz1, hz2⟩ := info_parts infoU8
  have hlt : ∀ g, v.ownBlock = some g → B ≤ g := fun g hb => (World.ownsRow.lt hI g hb).1
  refine Lib.wpList_append_own_string (w := w0) hgd s x 40 9 ho B 5 i0 Try.underlying40 Try.underlying9 hi hz0 hz1 hz2 v b.size (Lib.strCells b) hs hI c hx (by unfold maxLen; omega) (by omega) hB ?_
  intro v' w' h1 h2 _
  refine h v' w' ?_ ((Below.refl _ _).grown h2 hB hlt)
  have e1 : (b ++ c).size = b.size + c.size := by simp
  have e2 : Lib.strCells (b ++ c) = Lib.strCells b ++ Lib.strCells c := by simp [Lib.strCells, ByteArray.data_append]
  unfold Bys
  rw [e1, e2]
  exact h1
theorem Bys.back {w : World} {B : Nat} {v : Value} {s : ByteArray} (h : Bys w B v s) (hp : 0 < s.size) :
    Sem.run Try.prog (Go.convert 40 9 v) w = .ok (.string s) w := by
  have h' := h
  rcases h'.2 with ⟨rfl, h0⟩ | ⟨g, cap, cur, rfl, hb, hg, hnc, hcm, hcs, ht⟩
  · omega
  · have hc := World.ownsRow.cells h (g := g) rfl
    have := run_convert_bytes_back (P := Try.prog) w 40 9 5 ⟨g, 0, none⟩ cap s.data.toList Try.underlying40 Try.underlying5 Try.underlying9
      (by intro j hj
          exact hc j _ (by have hj' : j < s.data.size := by simpa using hj
                           simp [Lib.strCells]
                           exact ⟨_, Array.getElem?_eq_getElem hj', rfl⟩))
    have e : s.data.toList.length = s.size := by simp
    rw [e] at this
    exact this

def ttB (t : ByteArray) (b : Int) : Bool := isTx 12 t && inB b 0 ((t.size : Int) - 1)
def ttV (t : ByteArray) (b : Int) : Value := if ttB t b then .tuple #[.string (t.extract b.toNat t.size ++ t.extract 0 b.toNat), .bool true] else .tuple #[.string ⟨#[]⟩, .bool false]
theorem ttV_no {t : ByteArray} {b : Int} (h : ttB t b = false) : ttV t b = .tuple #[.string ⟨#[]⟩, .bool false] := by simp [ttV, h]
theorem ttV_yes {t : ByteArray} {k : Nat} (h : ttB t k = true) : ttV t k = .tuple #[.string (t.extract k t.size ++ t.extract 0 k), .bool true] := by simp [ttV, h]
theorem ttV_form (t : ByteArray) (b : Int) : ∃ x z, ttV t b = .tuple #[.string x, .bool z] := by
  unfold ttV; split <;> exact ⟨_, _, rfl⟩
set_option maxHeartbeats 1000000 in
theorem specTt (t : ByteArray) (b : Int) (w : World) (hs : t.size ≤ 1048576) :
    Calls Try.prog 10 #[.string t, .int .i64 b] w fun e w' => e = .returned (ttV t b) ∧ Below w.heap.size w w' := by
  have T := fun wx => tdText12 t wx (by unfold maxLen; omega)
  cases h : isTx 12 t
  · have J := Lib.hid (ttV_no (t := t) (b := b) (by simp [ttB, h]))
    rw [h] at T
    have G := Lib.hid T
    clear h T
    go_enter Try.func10, Try.ntmps10
    go_wp2_with (go_at_call 20; refine (G.out _).mono ?_; rintro e w' ⟨rfl, rfl⟩)
    go_ret2
    exact ⟨ret_v J.out.symm, Below.refl _ _⟩
  cases h2 : inB b 0 ((t.size : Int) - 1)
  · have J := Lib.hid (ttV_no (t := t) (b := b) (by simp [ttB, h2]))
    have G2 := Lib.hid h2
    rw [h] at T
    have G := Lib.hid T
    clear h T h2
    go_enter Try.func10, Try.ntmps10
    go_wp2_with (first
      | (go_at_call 20; refine (G.out _).mono ?_; rintro e w' ⟨rfl, rfl⟩)
      | (go_at_call 21; refine (l1In _ _ _ _).mono ?_; rintro e w' ⟨rfl, rfl⟩; rw [G2.out]))
    go_ret2
    exact ⟨ret_v J.out.symm, Below.refl _ _⟩
  · have hp : 0 ≤ b ∧ b ≤ (t.size : Int) - 1 := by simpa [inB] using h2
    obtain ⟨k, rfl⟩ : ∃ k : Nat, b = (k : Int) := ⟨b.toNat, by omega⟩
    have J := Lib.hid (ttV_yes (t := t) (k := k) (by simp [ttB, h, h2]))
    obtain ⟨z1, z2, _⟩ := isTx_in h
    have G2 := Lib.hid h2
    rw [h] at T
    have G := Lib.hid T
    have k1 : (k : Int) ≤ t.size := by omega
    have k2 : k ≤ t.size := by omega
    have k0 : (0 : Int) ≤ k := by omega
    clear h T h2
    go_enter Try.func10, Try.ntmps10
    go_wp2_with (first
      | (go_at_call 20; refine (G.out _).mono ?_; rintro e w' ⟨rfl, rfl⟩)
      | (go_at_call 21; refine (l1In _ _ _ _).mono ?_; rintro e w' ⟨rfl, rfl⟩; rw [G2.out]))
    have hno : ¬ (9223372036854775807 < t.size - k + k) := by omega
    have hle : t.size - k + k ≤ 9223372036854775807 := by omega
    go_quiet (fail)
    go_wp2
    go_ret2
    exact ⟨ret_v J.out.symm, below_drewN (Below.refl _ _) _⟩
set_option maxHeartbeats 2000000 in
theorem implTt (t : ByteArray) (b : Int) (w : World) (hs : t.size ≤ 1048576) :
    Calls Try.prog 11 #[.string t, .int .i64 b] w fun e w' => e = .returned (ttV t b) ∧ Below w.heap.size w w' := by
  have T := fun wx => implIsTide t wx (by unfold maxLen; omega)
  cases h : isTx 12 t
  · have J := Lib.hid (ttV_no (t := t) (b := b) (by simp [ttB, h]))
    rw [h] at T
    have G := Lib.hid T
    clear h T
    go_enter Try.func11, Try.ntmps11
    go_wp2_with fail
    refine (G.out _).mono ?_
    rintro e w1 ⟨rfl, hb1⟩
    go_wp2
    go_ret2
    exact ⟨ret_v J.out.symm, hb1⟩
  by_cases h2 : b < 0
  · have J := Lib.hid (ttV_no (t := t) (b := b) (by simp [ttB, inB_no (.inl h2)]))
    rw [h] at T
    have G := Lib.hid T
    clear h T
    go_enter Try.func11, Try.ntmps11
    go_wp2_with fail
    refine (G.out _).mono ?_
    rintro e w1 ⟨rfl, hb1⟩
    go_wp2
    go_ret2
    exact ⟨ret_v J.out.symm, hb1⟩
  by_cases h3 : (t.size : Int) ≤ b
  · have J := Lib.hid (ttV_no (t := t) (b := b) (by simp [ttB, inB_no (lo := 0) (hi := (t.size : Int) - 1) (n := b) (.inr (by omega))]))
    rw [h] at T
    have G := Lib.hid T
    clear h T
    go_enter Try.func11, Try.ntmps11
    go_wp2_with fail
    refine (G.out _).mono ?_
    rintro e w1 ⟨rfl, hb1⟩
    go_wp2
    go_ret2
    exact ⟨ret_v J.out.symm, hb1⟩
  · obtain ⟨k, rfl⟩ : ∃ k : Nat, b = (k : Int) := ⟨b.toNat, by omega⟩
    have J := Lib.hid (ttV_yes (t := t) (k := k) (by simp [ttB, h, inB]; omega))
    obtain ⟨z1, z2, _⟩ := isTx_in h
    rw [h] at T
    have G := Lib.hid T
    have k1 : (k : Int) ≤ t.size := by omega
    have k2 : k ≤ t.size := by omega
    have k0 : (0 : Int) ≤ k := by omega
    obtain ⟨n, hn⟩ : ∃ n, n = t.size := ⟨_, rfl⟩
    have s1 : (t.extract k t.size).size = t.size - k := by simp
    have s2 : (t.extract 0 k).size = k := by simp; omega
    have e0 : (⟨#[]⟩ : ByteArray) ++ t.extract k t.size = t.extract k t.size := by
      apply ByteArray.ext
      simp [ByteArray.data_append]
    have Q3 : Hid ((t.extract k t.size).size + (t.extract 0 k).size ≤ 1000000) := Lib.hid (by rw [s1, s2]; omega)
    have Q4 : Hid (0 < (t.extract k t.size ++ t.extract 0 k).size) := Lib.hid (by rw [ByteArray.size_append, s1, s2]; omega)
    have E0 := Lib.hid e0
    have S1 := Lib.hid s1
    have S2 := Lib.hid s2
    clear h T hn s1 s2 e0
    obtain ⟨i0, hi, hz0, hz1, hz2⟩ := info_parts infoU8
    have HI := Lib.hid hi
    have HZ0 := Lib.hid hz0
    have HZ1 := Lib.hid hz1
    have HZ2 := Lib.hid hz2
    clear hi hz0 hz1 hz2
    go_enter Try.func11, Try.ntmps11
    go_wp2_with fail
    refine (G.out _).mono ?_
    rintro e w1 ⟨rfl, hb1⟩
    have B1 := Lib.hid hb1
    clear hb1
    go_wp2_with (first
      | (at_make; refine wpList_make_own w1 rfl _ _ 40 rfl w1.heap.size 5 i0 (.int .u8 0) 1 Try.underlying40 HI.out HZ0.out HZ1.out .i64 .i64 (t.size : Int) t.size rfl rfl rfl (by rw [HZ2.out]; omega) (by unfold maxLen; omega) (Nat.le_refl _) ?_; intro w2 hO2 hg2; have BY2 : Bys w2 w1.heap.size (.slice (some ⟨w1.heap.size, 0, none⟩) 0 t.size) ⟨#[]⟩ := hO2; have Y2 := Lib.hid BY2; have B2 := Lib.hid (Below.grown (Below.refl w1.heap.size w1) hg2 (Nat.le_refl _) (by intro k hk; cases hk)); have hsz2 := B2.out.size; clear hO2 hg2 BY2)
      | (at_builtin; refine wpList_catS' w2 rfl _ _ rfl w1.heap.size _ ⟨#[]⟩ (t.extract k t.size) rfl Y2.out rfl (by rw [S1.out]; show 0 + _ ≤ _; omega) hsz2 ?_; intro v3 w3 hY3 hb3; rw [E0.out] at hY3; have Y3 := Lib.hid hY3; have B3 := Lib.hid (B2.out.trans hb3); have hsz3 := B3.out.size; clear hY3 hb3)
      | (at_builtin; refine wpList_catS' w3 rfl _ _ rfl w1.heap.size _ (t.extract k t.size) (t.extract 0 k) rfl Y3.out rfl Q3.out hsz3 ?_; intro v4 w4 hY4 hb4; have hcv := hY4.back Q4.out; have B4 := Lib.hid (B3.out.trans hb4); clear hY4 hb4))
    go_ret2
    exact ⟨ret_v J.out.symm, B1.out.trans (B4.out.mono B1.out.size)⟩
end Go.Proofs.Ytmlokapbholeoac
