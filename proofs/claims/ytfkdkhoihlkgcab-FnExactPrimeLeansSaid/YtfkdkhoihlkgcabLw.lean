/- impl.isWholeLean, leansOf. -/
import Derived.Test.YtfkdkhoihlkgcabLn
namespace Go.Proofs.Ytfkdkhoihlkgcab
set_option linter.unusedVariables false
open Go.RowKit

set_option maxHeartbeats 2000000 in
theorem isWhole (a y p : Int) (b : Nat) (w : World) (hB : Blk w b #[.int .i64 a, .int .i64 y, .int .i64 p]) (ha : 0 ≤ a ∧ a ≤ 200) (hh : 0 ≤ y ∧ y ≤ 200) (hp : 0 ≤ p ∧ p ≤ 200) :
    Calls Try.prog 46 #[.slice (some ⟨b, 0, none⟩) 3 3] w fun e w' => e = .returned (.bool (decide (a * a + y * y = p * p))) ∧ Below w.heap.size w w' := by
  have hbl := hB.lt
  have haa := mul_bd (a := a) (b := a) (m := 200) (n := 200) (by omega) (by omega) (by omega) (by omega)
  have hbb := mul_bd (a := y) (b := y) (m := 200) (n := 200) (by omega) (by omega) (by omega) (by omega)
  have hpp := mul_bd (a := p) (b := p) (m := 200) (n := 200) (by omega) (by omega) (by omega) (by omega)
  have h1 : Blk (w.alloc (.cells #[.int .i64 0, .int .i64 0] 52)) b #[.int .i64 a, .int .i64 y, .int .i64 p] := hB.alloc _
  have h2 : Blk (w.alloc (.cells #[.int .i64 0, .int .i64 0] 52)) w.heap.size #[.int .i64 0, .int .i64 0] := Blk.new _ _ _
  have r1 : Rd (w.alloc (.cells #[.int .i64 0, .int .i64 0] 52)) (.slice (some ⟨b, 0, none⟩) 2 2) [a, y] := by
    refine .inr ⟨b, 0, 2, rfl, h1.lt, Nat.le_refl _, by unfold maxLen; omega, fun j hj => ?_⟩
    have h01 : j = 0 ∨ j = 1 := by simp at hj; omega
    rcases h01 with rfl | rfl
    · exact h1.cell 0
    · exact h1.cell 1
  have r2 : Rd (w.alloc (.cells #[.int .i64 0, .int .i64 0] 52)) (.slice (some ⟨b, 2, none⟩) 1 1) [p] := by
    refine .inr ⟨b, 2, 1, rfl, h1.lt, Nat.le_refl _, by unfold maxLen; omega, fun j hj => ?_⟩
    have h01 : j = 0 := by simp at hj; omega
    subst h01
    exact h1.cell 2
  have C1 := Lib.hid (fun (k : Nat) => (by
    have h := sqCallD w.heap.size 0 0 _ [a, y] ((w.alloc (.cells #[.int .i64 0, .int .i64 0] 52)).drewN k) (h2.below (below_drewN (Below.refl _ _) k) h2.lt) (r1.below (below_drewN (Below.refl _ _) k)) (by simp) (by omega) (by omega) (fun j => by rcases j with _ | _ | j <;> simp [gt] <;> omega)
    rw [show [a, y].length = 2 from rfl, sqN_two, Int.sub_zero, Int.sub_zero] at h
    exact h : Calls Try.prog 49 #[.slice (some ⟨b, 0, none⟩) 2 2, .pointer (some ⟨w.heap.size, 0, none⟩)] ((w.alloc (.cells #[.int .i64 0, .int .i64 0] 52)).drewN k) fun e w' => e = .returned (.int .i64 (a * a + y * y)) ∧ ∃ m, w' = ((w.alloc (.cells #[.int .i64 0, .int .i64 0] 52)).drewN k).drewN m))
  have C2 := Lib.hid (fun (k : Nat) => (by
    have h := sqCallD w.heap.size 0 0 _ [p] ((w.alloc (.cells #[.int .i64 0, .int .i64 0] 52)).drewN k) (h2.below (below_drewN (Below.refl _ _) k) h2.lt) (r2.below (below_drewN (Below.refl _ _) k)) (by simp) (by omega) (by omega) (fun j => by rcases j with _ | j <;> simp [gt] <;> omega)
    rw [show [p].length = 1 from rfl, sqN_one, Int.sub_zero] at h
    exact h : Calls Try.prog 49 #[.slice (some ⟨b, 2, none⟩) 1 1, .pointer (some ⟨w.heap.size, 0, none⟩)] ((w.alloc (.cells #[.int .i64 0, .int .i64 0] 52)).drewN k) fun e w' => e = .returned (.int .i64 (p * p)) ∧ ∃ m, w' = ((w.alloc (.cells #[.int .i64 0, .int .i64 0] 52)).drewN k).drewN m))
  clear r1 r2 h1 hB
  have hz : (w.alloc (.cells #[.int .i64 0, .int .i64 0] 52)).heap.size = w.heap.size + 1 := by simp
  have hb2 := h2.lt
  have HE := Lib.hid (((Below.refl w.heap.size w).alloc (Nat.le_refl _) (.cells #[.int .i64 0, .int .i64 0] 52)))
  clear h2
  generalize p * p = pp at *
  generalize a * a = aa at *
  generalize y * y = hh2 at *
  have SQ := Lib.hid (fun wx => squareFrom 0 0 wx)
  go_enter Try.func46, Try.ntmps46
  go_wp2_with (go_at_call 48; refine (SQ.out _).mono ?_; rintro e w2 ⟨rfl, rfl⟩)
  generalize (w.alloc (.cells #[.int .i64 0, .int .i64 0] 52)) = w1 at *
  refine wp_region_quiet_lit (by kernel_rfl) (by kernel_rfl) ?_
  quiet_step (fail)
  quiet_step (fail)
  quiet_step (fail)
  quiet_step ((go_at_call 49; (with_reducible exact Calls.quiet_of (C1.out _))))
  quiet_step (fail)
  quiet_step (fail)
  quiet_step (fail)
  quiet_step ((go_at_call 49; (with_reducible exact Calls.quiet_of (C2.out _))))
  quiet_step (fail)
  quiet_step (fail)
  refine wpQuiet_nil ?_
  intro _ hw'
  obtain ⟨nq, rfl⟩ := hw'
  go_wp2
  go_ret
  exact ⟨ret_bool (by first | rfl | simp), below_drewN HE.out nq⟩
set_option maxHeartbeats 4000000 in
theorem leansOf (p : Int) (w : World) (hp : 1 ≤ p ∧ p ≤ 200) :
    Calls Try.prog 38 #[.int .i64 p] w fun e w' => ∃ v, e = .returned v ∧ (∃ us, Lst w' w.heap.size v ((lns p).map (l3 p)) us) ∧ Below w.heap.size w w' := by
  have N0 := Lib.hid (Lst.nil w w.heap.size)
  go_enter Try.func38, Try.ntmps38
  go_wp2
  go_loopw [3, 4] (fun v av wr => ∃ (a : Int) (pre : List (Int × Int)) (us : List Value), (1 ≤ a ∧ a ≤ p) ∧ av = .int .i64 a ∧ pre.length + 1 ≤ a ∧
    Hid (pre ++ lnF p (201 - a).toNat a = lns p) ∧ Hid (Lst wr w.heap.size v (pre.map (l3 p)) us) ∧ Hid (Below w.heap.size w wr)) (fun _ av _ => 300 - (intOf av).toNat)
  case atStart => exact ⟨1, [], [], by omega, rfl, by simp, Lib.hid rfl, N0, Lib.hid (Below.refl _ _)⟩
  case round =>
    obtain ⟨a, pre, us, ha, rfl, hpl, HD, HL, HB⟩ := hrel
    have hsz := HB.out.size
    by_cases hlt : a < p
    · have HH := Lib.hid (fun wx => implHeight p a wx hp (by omega))
      have hgl := hgt_le (a := a) hp (by omega)
      have hg0 := (hgt_at (a := a) hp (by omega)).1
      have HB0 : Hid (lnB p a = (decide (a ≤ hgt p a) && decide (a * a + hgt p a * hgt p a = p * p))) := Lib.hid rfl
      obtain ⟨q, hq⟩ : ∃ q, (201 - a).toNat = q + 1 := ⟨(200 - a).toNat, by omega⟩
      have hq' : q = (201 - (a + 1)).toNat := by omega
      have HY := Lib.hid (fun (h : lnB p a = true) => show (pre ++ [(a, hgt p a)]) ++ lnF p (201 - (a + 1)).toNat (a + 1) = lns p by rw [← HD.out, hq, lnF_yes h, ← hq']; simp)
      have HN := Lib.hid (fun (h : lnB p a = false) => show pre ++ lnF p (201 - (a + 1)).toNat (a + 1) = lns p by rw [← HD.out, hq, lnF_no h, ← hq'])
      have IW := Lib.hid (fun (wx : World) (b : Nat) (h : Blk wx b #[.int .i64 a, .int .i64 (hgt p a), .int .i64 p]) => isWhole a (hgt p a) p b wx h (by omega) (by omega) (by omega))
      clear hq hq' HD
      generalize hgt p a = y at *
      generalize p * p - a * a - y * y = rm at HH
      have hbA : Below w.heap.size w (wr.alloc (.cells #[.int .i64 a, .int .i64 y, .int .i64 p] 3)) := HB.out.alloc hsz _
      by_cases hab : a ≤ y
      · have IW1 := Lib.hid (IW.out _ _ (Blk.new wr #[.int .i64 a, .int .i64 y, .int .i64 p] 3))
        clear IW
        by_cases ho : a * a + y * y = p * p
        · have HD' := Lib.hid (HY.out (by rw [HB0.out, decide_eq_true hab, decide_eq_true ho]; rfl))
          rw [decide_eq_true ho] at IW1
          have R := Lib.hid (show (pre ++ [(a, y)]).map (l3 p) = pre.map (l3 p) ++ [[a, y, p]] by simp [l3])
          clear HY HN HB0 ho
          have hsz1 : (wr.alloc (.cells #[.int .i64 a, .int .i64 y, .int .i64 p] 3)).heap.size = wr.heap.size + 1 := by simp
          go_wp2_with (first
            | (go_at_call 33; (with_reducible refine (HH.out _).mono ?_); rintro e w' ⟨rfl, rfl⟩)
            | (go_at_call 46; (with_reducible refine IW1.out.mono ?_); rintro e w2 ⟨rfl, hb2⟩; have hz2 := hb2.size; have b12 : Below wr.heap.size wr w2 := ((Below.refl _ _).alloc (Nat.le_refl _) _).trans (hb2.mono (by omega)))
            | (at_builtin; refine wpList_appS w2 wr rfl _ _ rfl w.heap.size _ _ us rfl HL.out b12 _ [a, y, p] ((ints_three wr w.heap.size a y p hsz).below hb2) (fun k e => by (have e2 : wr.heap.size = k := by simpa [Value.ownBlock] using e); omega) _ rfl rfl (by simp; omega) (by omega) rfl ?_; intro v' w3 hL3 hb3 hg3))
          have HL3 := Lib.hid (show Lst w3 w.heap.size v' ((pre ++ [(a, y)]).map (l3 p)) _ by rw [R.out]; exact hL3)
          have HB3 := Lib.hid ((HB.out.trans (b12.mono hsz)).trans hb3)
          clear hL3 hb3 hg3
          go_wp2
          go_roundw
          case rel => exact ⟨a + 1, pre ++ [(a, y)], _, by omega, by go_num, by simp; omega, HD', HL3, HB3⟩
          case measure => (simp [intOf]; try omega)
        · have HD' := Lib.hid (HN.out (by rw [HB0.out, decide_eq_true hab, decide_eq_false ho]; rfl))
          rw [decide_eq_false ho] at IW1
          clear HY HN HB0 ho
          go_wp2_with (first
            | (go_at_call 33; (with_reducible refine (HH.out _).mono ?_); rintro e w' ⟨rfl, rfl⟩)
            | (go_at_call 46; (with_reducible refine IW1.out.mono ?_); rintro e w2 ⟨rfl, hb2⟩))
          have hsz1 : (wr.alloc (.cells #[.int .i64 a, .int .i64 y, .int .i64 p] 3)).heap.size = wr.heap.size + 1 := by simp
          have b12 : Below wr.heap.size wr w2 := ((Below.refl _ _).alloc (Nat.le_refl _) _).trans (hb2.mono (by omega))
          go_roundw
          case rel => exact ⟨a + 1, pre, us, by omega, by go_num, by omega, HD', Lib.hid (HL.out.below b12), Lib.hid (HB.out.trans (b12.mono hsz))⟩
          case measure => (simp [intOf]; try omega)
      · have HD' := Lib.hid (HN.out (by rw [HB0.out, decide_eq_false hab]; rfl))
        clear HY HN HB0
        go_wp2_with (first
          | (go_at_call 33; (with_reducible refine (HH.out _).mono ?_); rintro e w' ⟨rfl, rfl⟩))
        go_roundw
        case rel => exact ⟨a + 1, pre, us, by omega, by go_num, by omega, HD', Lib.hid (HL.out.below ((Below.refl _ _).alloc (Nat.le_refl _) _)), Lib.hid hbA⟩
        case measure => (simp [intOf]; try omega)
    · have R := Lib.hid (show pre = lns p by
        have e : a = p := by omega
        subst e
        have h0 : hgt a a < a := by
          obtain ⟨t1, t2, t3, t4⟩ := hgt_at (a := a) hp (by omega)
          have := t3 (by omega)
          by_cases hk : hgt a a < a
          · exact hk
          · have := sq_mono (show 0 ≤ 1 by omega) (show 1 ≤ hgt a a by omega)
            omega
        rw [← HD.out, lnF_end hp _ a (by omega) h0, List.append_nil])
      have HL2 := Lib.hid (show Lst wr w.heap.size u3 ((lns p).map (l3 p)) us by rw [← R.out]; exact HL.out)
      clear HL
      go_wp2
      go_ret
      exact ⟨_, rfl, ⟨us, HL2.out⟩, HB.out⟩
end Go.Proofs.Ytfkdkhoihlkgcab
