/- impl.firstSpots: an iterator over all spots for a first plank. -/
import Derived.Test.YtfkdkhoihlkgcacSpt
import Derived.Test.YtfkdkhoihlkgcacNd
import Derived.Test.YtfkdkhoihlkgcacRy
import Derived.Sort.CutIn
namespace Go.Proofs.Ytfkdkhoihlkgcac
set_option linter.unusedVariables false
open Go.RowKit Go.Shelf
attribute [local go_sem] Oper.semAt_some
attribute [local simp] wide_fn wide_depth
attribute [local go_sem] wide_fn wide_depth

theorem firstSpots (p : Int) (w : World) :
    Calls Try.prog 30 #[.int .i64 p] w fun e w' => e = .returned (.func (.func 38) #[] #[.pointer (some ⟨w.heap.size, 0, none⟩)]) ∧ w.alloc (.cells #[.int .i64 p] 3) = w' := by
  go_enter Try.func30, Try.ntmps30
  go_wp2
  go_ret
  exact ⟨rfl, rfl⟩
/-- the rows that a body may write beside: of slices -/
def RowE (E : Nat → Obj → Prop) (B : Nat) : Prop := ∀ k o, E k o → k < B ∨ ∃ cs fr, o = .cells cs 48 fr
theorem RowE.cells {E : Nat → Obj → Prop} {B : Nat} (h : RowE E B) : ∀ k o, E k o → k < B ∨ o.isCells = true := fun k o e => by
  rcases h k o e with h2 | ⟨cs, fr, rfl⟩
  · exact .inl h2
  · exact .inr rfl
theorem Plc.keep {E : Nat → Obj → Prop} {B l : Nat} {W W' : World} {g : Nat} {a b : Int} (h : Plc W g a b) (hE : RowE E B) (hB : B ≤ g) (hl : g ≠ l) (hk : KeepO (fun k o => E k o ∨ k = l) W W') : Plc W' g a b := by
  refine hk.block g _ h ?_
  rintro (h2 | h2)
  · rcases hE g _ h2 with h3 | ⟨cs, fr, h3⟩
    · omega
    · injection h3 with _ h4; exact absurd h4 (by decide)
  · exact hl h2
set_option maxHeartbeats 4000000 in
set_option maxRecDepth 100000 in
theorem firstGives (p : Int) (pb n : Nat) (E : Nat → Obj → Prop) (w : World) (hp : 1 ≤ p ∧ p ≤ 200) (hB : Boxed w pb 3 (.int .i64 p)) (hE : RowE E w.heap.size) (hpb : ¬ E pb (.cells #[.int .i64 p] 3 (0, 0))) :
    GivesY Fence.wide n Try.prog 38 #[.pointer (some ⟨pb, 0, none⟩)] (fun x : Int × Int => #[.agg #[.int .i64 x.1, .int .i64 x.2]]) E (spots p) w := by
  intro l J Jx W hbW hwl hlr hJ hJx hY h0
  have hlW : l < W.heap.size := by obtain ⟨r, hr⟩ := hlr; exact (Array.getElem?_eq_some_iff.1 hr).1
  have hpl : pb < w.heap.size := hB.lt
  have HBW := Lib.hid (boxB hB hbW)
  have HJ := Lib.hid hJ
  have HY := Lib.hid hY
  have HE := Lib.hid hE
  have HPB := Lib.hid hpb
  have H0 := Lib.hid h0
  have hsz := hbW.size
  clear hJ hJx hY hE hpb h0 hB hlr hbW
  refine callsIn_of_wp Try.func38 rfl trivial ?_ rfl
  simp only [Try.ntmps38, List.size_toArray, List.length_cons, List.length_nil, Nat.reduceAdd, Nat.reduceSub, Array.replicate_succ, Array.replicate_zero, List.push_toArray, List.append_toArray, List.nil_append, List.cons_append]
  gi_wp2
  gi_loopw [3] (fun av wr => ∃ (a : Int) (pre : List (Int × Int)), (1 ≤ a ∧ a ≤ 201) ∧ av = .int .i64 a ∧ Hid (pre ++ rowF p (202 - a).toNat a = spots p) ∧ Hid (J pre wr) ∧ Hid (Boxed wr pb 3 (.int .i64 p)) ∧ W.heap.size ≤ wr.heap.size) (fun av _ => 300 - (intOf av).toNat)
  case atStart => exact ⟨1, [], by omega, rfl, Lib.hid rfl, H0, HBW, Nat.le_refl _⟩
  case round =>
    obtain ⟨a, pre, ha, rfl, HD, HJr, HBr, hsr⟩ := hrel
    have cp := HBr.out.cell
    have hpr := HBr.out.lt
    by_cases hlt : a < p
    · have HSQ := Lib.hid (fun wx => squareFrom a 0 wx)
      have HR := Lib.hid (show pre ++ (colF p a (202 - 1 : Int).toNat 1 ++ rowF p (201 - a).toNat (a + 1)) = spots p by
        rw [← HD.out]
        obtain ⟨q, hq⟩ : ∃ q, (202 - a).toNat = q + 1 := ⟨(201 - a).toNat, by omega⟩
        have hq' : q = (201 - a).toNat := by omega
        rw [hq, rowF_yes hlt, hq']; rfl)
      have HBel := Lib.hid ((Below.refl wr.heap.size wr).alloc (Nat.le_refl _) (.cells #[.int .i64 a, .int .i64 0] 47))
      have HPL := Lib.hid (Plc.new wr a 0)
      have HJ1 := Lib.hid (ownFrom_below HJ.out HJr.out HBel.out)
      have HB1 := Lib.hid (boxB HBr.out HBel.out)
      have hsr1 : W.heap.size ≤ (wr.alloc (.cells #[.int .i64 a, .int .i64 0] 47)).heap.size := by simp; omega
      gi_wp2_with (gi_at_call 37; refine ((callsIn_wide).2 (HSQ.out _)).mono ?_; rintro e w1 ⟨rfl, rfl⟩)
      have hsc : W.heap.size ≤ wr.heap.size ∧ l < wr.heap.size := by omega
      generalize wr.heap.size = c at *
      gi_loopw [5] (fun bv wq => ∃ (b : Int) (pre : List (Int × Int)), (1 ≤ b ∧ b ≤ 201) ∧ bv = .int .i64 b ∧ Hid (pre ++ (colF p a (202 - b).toNat b ++ rowF p (201 - a).toNat (a + 1)) = spots p) ∧ Hid (J pre wq) ∧ Hid (Boxed wq pb 3 (.int .i64 p)) ∧ Hid (Plc wq c a 0) ∧ W.heap.size ≤ wq.heap.size) (fun bv _ => 300 - (intOf bv).toNat)
      case atStart => exact ⟨1, pre, by omega, rfl, HR, HJ1, HB1, HPL, hsr1⟩
      case round =>
        clear HR HJ1 HB1 HPL HBel hsr1 HD HJr cp
        obtain ⟨b, pre, hb, rfl, HD, HJr, HBq, HPq, hsq⟩ := hrel
        have cp := HBq.out.cell
        have hpq := HBq.out.lt
        have CL := Lib.hid (fun (W3 : World) (v : Value) (hb3 : Below wr.heap.size wr W3) (hr : Rd W3 v [0, b]) => sqCall c a 0 v [0, b] W3 (HPq.out.below hb3).blk hr (by simp) (by omega) (by omega) (gt_two (by omega) (by omega)))
        have HV := Lib.hid (show sqN a 0 [0, b] [0, b].length = a * a + b * b by simp [sqN, gt, Int.neg_mul_neg])
        have CL' := Lib.hid (fun (W3 : World) (v : Value) (hb3 : Below wr.heap.size wr W3) (hr : Rd W3 v [0, b]) => (by have h := CL.out W3 v hb3 hr; rw [HV.out] at h; exact h : Calls Try.prog 40 #[v, .pointer (some ⟨c, 0, none⟩)] W3 fun e w' => e = .returned (.int .i64 (a * a + b * b)) ∧ Below W3.heap.size W3 w'))
        have s1 := mul_bd (a := a) (b := a) (m := 201) (n := 201) (by omega) (by omega) (by omega) (by omega)
        have s2 := mul_bd (a := b) (b := b) (m := 201) (n := 201) (by omega) (by omega) (by omega) (by omega)
        have s3 := mul_bd (a := p) (b := p) (m := 200) (n := 200) (by omega) (by omega) (by omega) (by omega)
        have mixed : Try.prog.follows .mixedOrders = true := by kernel_rfl
        have HWp := Lib.hid (show IntKind.i64.wrap (p * p) = p * p by rw [IntKind.wrap_i64]; omega)
        gi_upto_region 5 with fail
        gi_cut [21] from 30 (fun s21 wx => s21 = .bool (decide (a * a + b * b ≤ p * p)) ∧ Hid (Below wr.heap.size wr wx))
        case first =>
          gi_region_with_o ((try refine ⟨trivial, (fun h => by cases h), ?_⟩); gi_at_call 40; refine ((callsIn_wide).2 (CL'.out _ _ (by (repeat (first | exact Below.refl _ _ | (refine Below.alloc ?_ (by first | omega | (simp; try omega)) _) | apply Below.drew | apply below_drewN))) (rd_two (by first | exact ((Blk.new _ _ _).at_ (by simp)).drew | exact Blk.new _ _ _)))).mono ?_; rintro e w1 ⟨rfl, hb1⟩; have D1 := Lib.hid (Below.trans (by (repeat (first | exact Below.refl _ _ | (refine Below.alloc ?_ (by first | omega | (simp; try omega)) _) | apply Below.drew | apply below_drewN))) (hb1.mono (by simp; try omega)) : Below wr.heap.size wr w1); have cp1 := (D1.out.cell (p := ⟨pb, 0, none⟩) hpq).trans cp; have hbl1 := D1.out; clear hb1)
          all_goals
            gi_wp2_with fail
            gi_meet
            exact ⟨by rw [HWp.out], D1⟩
        case rest =>
          obtain ⟨rfl, HBc⟩ := hcut
          have HPc := Lib.hid (HPq.out.below HBc.out)
          have HBxc := Lib.hid (boxB HBq.out HBc.out)
          have HJc := Lib.hid (ownFrom_below HJ.out HJr.out HBc.out)
          have hsc2 : W.heap.size ≤ wc.heap.size := Nat.le_trans hsq HBc.out.size
          by_cases hc : a * a + b * b ≤ p * p
          · have hb2 := sq_lt hp.1 (show b * b ≤ p * p by omega)
            have HN := Lib.hid (show colF p a (202 - b).toNat b = (a, b) :: colF p a (202 - (b + 1)).toNat (b + 1) by
              obtain ⟨q, hq⟩ : ∃ q, (202 - b).toNat = q + 1 := ⟨(201 - b).toNat, by omega⟩
              have hq' : q = (202 - (b + 1)).toNat := by omega
              rw [hq, colF_yes hc, hq'])
            have HD' := Lib.hid (show pre ++ [(a, b)] ++ (colF p a (202 - (b + 1)).toNat (b + 1) ++ rowF p (201 - a).toNat (a + 1)) = spots p by
              rw [← HD.out, HN.out]; simp)
            have hpre : pre ++ [(a, b)] <+: spots p := ⟨_, HD'.out⟩
            obtain ⟨fn, tmps, assign, body, hy, hR⟩ := HY.out (n - 1) pre (a, b) wc HJc.out hpre
            dsimp only at hy
            rw [decide_eq_true hc]
            clear hc HN HD
            gi_wp2
            refine hR.mono ?_
            rintro e W3 ⟨bb, rfl, hk3, (⟨rfl, hJ3⟩ | ⟨rfl, hJx3⟩)⟩
            · have HJ3 := Lib.hid hJ3
              have HP3 := Lib.hid (HPc.out.keep HE.out (by omega) (by omega) hk3)
              have HB3 := Lib.hid (boxO HBxc.out hk3 (by rintro (h | h); exact HPB.out h; omega))
              have hs3 := hk3.size
              clear hk3 hJ3 hR hy
              gi_wp2
              go_roundw
              case rel => exact ⟨b + 1, pre ++ [(a, b)], by omega, by go_num, HD', HJ3, HB3, HP3, by omega⟩
              case measure => (simp [intOf]; try omega)
            · have HX3 := Lib.hid hJx3
              have HPR := Lib.hid hpre
              clear hk3 hJx3 hR hy hpre
              gi_wp2
              refine bodyPost_ret (results_none rfl _ _ _) rfl ?_
              exact ⟨⟨_, rfl⟩, .inr ⟨_, HPR.out, HX3.out⟩⟩
          · have HN := Lib.hid (show pre ++ rowF p (202 - (a + 1)).toNat (a + 1) = spots p by
              rw [← HD.out, colF_no hc, show (202 - (a + 1)).toNat = (201 - a).toNat by omega]; rfl)
            rw [decide_eq_false hc]
            clear hc HD
            gi_wp2
            go_roundw
            case rel => exact ⟨a + 1, pre, by omega, by go_num, HN, HJc, HBxc, by omega⟩
            case measure => (simp [intOf]; try omega)
    · have R := Lib.hid (show pre = spots p by rw [← HD.out, rowF_no hlt, List.append_nil])
      gi_wp2
      go_end0
      exact ⟨⟨_, rfl⟩, .inl (by rw [← R.out]; exact HJr.out)⟩
end Go.Proofs.Ytfkdkhoihlkgcac
