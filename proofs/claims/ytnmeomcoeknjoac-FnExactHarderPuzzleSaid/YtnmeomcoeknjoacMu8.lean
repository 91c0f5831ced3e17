/- slices.Repeat of one byte, a dot. -/
import Derived.Test.YtnmeomcoeknjoacMul1
import Derived.Test.YtnmeomcoeknjoacSl
import Derived.Test.YtnmeomcoeknjoacBy
import Derived.Deep.CutRange
import Derived.Deep.DeepCutAuto
import Derived.Laws.CopyOwn
import Derived.Deep.RegionLaw
import Derived.IntWalk
namespace Go.Proofs.Ytnmeomcoeknjoac
set_option linter.unusedVariables false
set_option maxRecDepth 100000
open Go.RowKit

theorem Try.infoU8 : (Try.prog.info? 5).map (fun i => (i.zero, i.size, i.bytes)) = some (some (.int .u8 0), 1, 1) := by kernel_rfl
theorem wpList_mk8 {ops : Array Oper} {rest : List Oper} {o : Oper} {a : Act} {Q : Exit → Act → World → Prop} {w0 : World} (hgd : o.guard = none) (l c : Operand)
    (ho : o.op = Op.makeSlice 80 l c) (B n : Nat) (N : Int) (hl : a.eval l = .int .i64 N) (hc : a.eval c = .int .i64 N) (hN : N = (n : Int)) (hn : n ≤ 16777216) (hB : B ≤ w0.heap.size) (hn0 : 0 < n)
    (h : ∀ w', w'.heap[w0.heap.size]? = some (.cells (List.replicate n (Value.int .u8 0)).toArray 5 (0, 0)) → Below B w0 w' → w0.grownBy w' none → wpList Try.prog ops Q rest (a.put o.dst (.slice (some ⟨w0.heap.size, 0, none⟩) n n)) w') :
    wpList Try.prog ops Q (o :: rest) a w0 := by
  obtain ⟨i0, hi, hz0, hz1, hz2⟩ := info_parts Try.infoU8
  refine wpList_make_full w0 hgd l c 80 ho B 5 i0 (.int .u8 0) 1 Try.underlying80 hi hz0 hz1 .i64 .i64 N N n hl hc hN hN (by rw [hz2]; omega) (by unfold maxLen; omega) hB ?_
  intro w' h1 h2
  refine h w' ?_ ((Below.refl _ _).grown h2 hB (by intro k hk; cases hk)) h2
  rcases h1.2 with ⟨h3, h0⟩ | ⟨g', cap, cur, e, hb, hg, hnc, hcm, hcs, ht⟩
  · cases h3
  · injection e with e1 e2 e3
    injection e1 with e1
    injection e1 with e1
    subst e1; subst e3
    have e : cur.toList = List.replicate n (Value.int .u8 0) := by
      rw [Nat.mul_one] at ht hcs
      rw [show (madeCells (Value.int .u8 0).cells n).toList = List.replicate n (Value.int .u8 0) from toList_madeCells_one _ _] at ht
      rw [← ht, List.take_of_length_le (by simp; omega)]
    rw [hg, ← e]
/-- the first n of c bytes are dots -/
def rpl (c n : Nat) : List Value := List.replicate n (Value.int .u8 46) ++ List.replicate (c - n) (Value.int .u8 0)
theorem rpl_len {c n : Nat} (h : n ≤ c) : (rpl c n).length = c := by simp [rpl]; omega
theorem rpl_splice {c n m : Nat} (h : n + m ≤ c) : splice (rpl c n) n (List.replicate m (Value.int .u8 46)) = rpl c (n + m) := by
  unfold splice rpl
  rw [List.take_left' (by simp), List.drop_append]
  simp only [List.length_replicate, List.drop_replicate, ← List.append_assoc]
  rw [show n - (n + m) = 0 by omega, show c - n - (n + m - n) = c - (n + m) by omega, List.replicate_zero, List.append_nil, List.replicate_append_replicate]
theorem rpl_0 (c : Nat) : List.replicate c (Value.int .u8 0) = rpl c 0 := by simp [rpl]
theorem rpl_all (c : Nat) : rpl c c = List.replicate c (Value.int .u8 46) := by simp [rpl]
theorem one_cell {w : World} {b : Nat} {u : Value} (h : w.cell? ⟨b, 0, none⟩ = some u) : ∀ (j : Nat) (v : Value), [u][j]? = some v → w.cell? ((⟨b, 0, none⟩ : Addr).add j) = some v := by
  intro j v hj
  rcases j with _ | j
  · simp at hj; subst hj; exact h
  · simp at hj
set_option maxHeartbeats 4000000 in
theorem repeat8 (c bx : Nat) (w : World) (hc : 1 ≤ c ∧ c ≤ 8) (hbx : bx < w.heap.size) (hx : w.cell? ⟨bx, 0, none⟩ = some (.int .u8 46)) :
    Calls Try.prog 54 #[.slice (some ⟨bx, 0, none⟩) 1 1, .int .i64 (c : Int)] w fun e w' => ∃ d, e = .returned (.slice (some ⟨d, 0, none⟩) c c) ∧ d = w.heap.size ∧ w'.heap[d]? = some (.cells (List.replicate c (Value.int .u8 46)).toArray 5 (0, 0)) ∧ Below w.heap.size w w' := by
  have ML := Lib.hid (fun wx => mulU c wx (by omega))
  have HX := Lib.hid hx
  have isz : (Try.prog.info? 5).map (·.size) = some 1 := by kernel_rfl
  have c1 : (c : Int) ≤ 9223372036854775807 := by omega
  have c0 : ¬ (c : Int) < 0 := by omega
  have W1 : IntKind.u64.wrap (c : Int) = (c : Int) := by unfold IntKind.wrap; simp [IntKind.bits, IntKind.signed]; omega
  have ISZ := Lib.hid isz
  clear hx isz
  go_enter Try.func54, Try.ntmps54
  go_wp2_with fail
  refine (ML.out _).mono ?_
  rintro e w' ⟨rfl, rfl⟩
  go_upto_region 7 with (at_make; refine wpList_mk8 rfl _ _ rfl w.heap.size c _ rfl rfl (by simp) (by omega) (Nat.le_refl _) (by omega) ?_; intro w3 R3 hb3 hg3)
  obtain ⟨d, hd⟩ : ∃ d, d = w.heap.size := ⟨_, rfl⟩
  rw [← hd] at R3 hb3 ⊢
  rw [rpl_0] at R3
  have HR3 := Lib.hid R3
  have HB3 := Lib.hid hb3
  have HX3 := Lib.hid ((hb3.cell (p := ⟨bx, 0, none⟩) (by rw [hd]; exact hbx)).trans HX.out)
  have HD := Lib.hid hd
  clear hb3 hg3 R3 hd
  go_wp2_with (refine wpList_copy_splice rfl _ _ _ _ rfl 5 Try.underlying80 ISZ.out (some ⟨d, 0, none⟩) (some ⟨bx, 0, none⟩) c c 1 1 rfl rfl d 0 (rpl c 0) 5 HR3.out [.int .u8 46] (by show 1 = min 1 c; omega) (fun _ => ⟨rfl, _, rfl, one_cell HX3.out⟩) (by rw [rpl_len (by omega)]; simp; omega) (by intro v hv; simp at hv; subst hv; rfl) d w HB3.out (Nat.le_refl _) ?_; intro w4 HR4 hb4)
  have R4 := HR4.out
  rw [show [Value.int .u8 46] = List.replicate 1 (Value.int .u8 46) from rfl, rpl_splice (by omega)] at R4
  have HR5 := Lib.hid R4
  have HB5 := Lib.hid hb4
  clear HR4 R4 hb4
  go_wp2_with fail
  go_loopw [8] (fun i wr => ∃ n : Nat, 1 ≤ n ∧ n ≤ c ∧ i = .int .i64 (n : Int) ∧ Hid (wr.heap[d]? = some (.cells (rpl c n).toArray 5 (0, 0))) ∧ Hid (Below d w wr)) (fun i _ => c - (intOf i).toNat)
  case atStart => exact ⟨1, by omega, by omega, rfl, HR5, HB5⟩
  case round =>
    clear HR5 HB5
    obtain ⟨n, hn1, hnc, rfl, HR5, HB5⟩ := hrel
    by_cases hlt : n < c
    · have hlt' : (n : Int) < c := by omega
      have n0 : (0 : Int) ≤ n := by omega
      have n1 : (n : Int) ≤ c := by omega
      have n2 : n ≤ c := by omega
      obtain ⟨m, hm⟩ : ∃ m, m = min n (c - n) := ⟨_, rfl⟩
      have HM := Lib.hid hm
      have hmc : n + m ≤ c := by omega
      have hm1 : 1 ≤ m := by omega
      have W5 : IntKind.i64.wrap ((n : Int) + m) = (n : Int) + m := IntWalk.i64_in _ (by omega)
      have CE := Lib.hid (show ∀ (j : Nat) (v : Value), (List.replicate m (Value.int .u8 46))[j]? = some v → wr.cell? ((⟨d, 0, none⟩ : Addr).add j) = some v from fun j v hj => by
        have hjm : j < m := by
          have := (List.getElem?_eq_some_iff.1 hj).1; simpa using this
        have hv : v = Value.int .u8 46 := by
          rw [List.getElem?_replicate, if_pos hjm] at hj; exact (Option.some.inj hj).symm
        subst hv
        have ea : (⟨d, 0, none⟩ : Addr).add j = ⟨d, j, none⟩ := by simp [Addr.add]; omega
        rw [ea]
        have := HR5.out
        simp only [World.cell?, this]
        simp [rpl, List.getElem?_append, show j < n by omega])
      clear hm
      go_wp2
      go_region_law (refine step_copy_splice rfl (.tmp 41) (.tmp 44) _ _ rfl 5 Try.underlying80 ISZ.out (some ⟨d, n, none⟩) (some ⟨d, 0, none⟩) (c - n) (c - n) n c (by simp [Act.eval, Act.put]; try omega) (by simp [Act.eval, Act.put]; try omega) d n (rpl c n) 5 HR5.out (List.replicate m (Value.int .u8 46)) (by rw [List.length_replicate]; exact HM.out) (fun _ => ⟨rfl, _, rfl, CE.out⟩) (by rw [rpl_len n2, List.length_replicate]; exact hmc) (by intro v hv; rw [List.eq_of_mem_replicate hv]; rfl) d w HB5.out.drew (Nat.le_refl _) ?_; intro w5 HR6 hb6)
      have R6 := HR6.out
      rw [rpl_splice hmc] at R6
      have HR7 := Lib.hid R6
      have HB7 := Lib.hid hb6
      have hln : goInt (List.replicate m (Value.int .u8 46)).length = .int .i64 (m : Int) := by rw [List.length_replicate]; rfl
      try rw [hln]
      clear HR6 R6 hb6 hln HR5 HB5 CE
      go_wp2
      go_roundw
      case rel => exact ⟨n + m, by omega, by omega, by simp, by first | exact HR7 | exact ⟨HR7, HB7⟩⟩
      case measure => (simp [intOf]; try omega)
    · obtain rfl : n = c := by omega
      have I5 := HR5.out
      rw [rpl_all] at I5
      have HI := Lib.hid I5
      clear HR5 I5
      go_wp2
      go_ret
      exact ⟨d, rfl, HD.out, HI.out, by rw [← HD.out]; exact HB5.out⟩
end Go.Proofs.Ytnmeomcoeknjoac
