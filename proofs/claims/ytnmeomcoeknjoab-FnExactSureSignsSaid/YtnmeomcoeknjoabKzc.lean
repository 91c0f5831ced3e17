/- Solutions, both sides. -/
import Derived.Test.YtnmeomcoeknjoabKzb
namespace Go.Proofs.Ytnmeomcoeknjoab
set_option linter.unusedVariables false
set_option maxRecDepth 100000
open Go.RowKit

theorem Blk.seven_ {w : World} {g : Nat} {v0 v1 v2 v3 v4 v5 v6 : Value} (h : Blk w g #[v0, v1, v2, v3, v4, v5, v6]) : w.cell? ⟨g, 0, none⟩ = some v0 ∧ w.cell? ⟨g, 1, none⟩ = some v1 ∧ w.cell? ⟨g, 2, none⟩ = some v2 ∧ w.cell? ⟨g, 3, none⟩ = some v3 ∧ w.cell? ⟨g, 4, none⟩ = some v4 ∧ w.cell? ⟨g, 5, none⟩ = some v5 ∧ w.cell? ⟨g, 6, none⟩ = some v6 :=
  ⟨h.cell 0, h.cell 1, h.cell 2, h.cell 3, h.cell 4, h.cell 5, h.cell 6⟩
theorem ask_all {cs : List Br} {N : Nat} {s : ByteArray} (hN : N = cs.length) (h6 : cs.length ≤ 6) : askOK (first N) (fitK cs s) = fitAll cs s := by
  refine ask_list h6 (fun q hq => ?_) (fun d hd => ?_) s
  · have : q < N := by simpa [first] using hq
    exact ⟨by omega, gb_mem (by omega)⟩
  · obtain ⟨q, hq, e⟩ := mem_gb hd
    exact ⟨q, by simp [first]; omega, e⟩
def solL (m : Int) (cs : List Br) : List ByteArray := if isPz m cs then sols m.toNat cs else []
theorem solL_no {m : Int} {cs : List Br} (h : isPz m cs = false) : solL m cs = [] := by simp [solL, h]
theorem solL_yes {n : Nat} {cs : List Br} (h : isPz (n : Int) cs = true) : solL (n : Int) cs = sols n cs := by simp [solL, h]
theorem solL_len (m : Int) (cs : List Br) : (solL m cs).length ≤ 256 := by
  unfold solL
  split
  · rename_i h
    have := (isPz_iff.1 h)
    exact sols_len _ (by omega)
  · simp
theorem isPz_nat {m : Int} {cs : List Br} (h : isPz m cs = true) : ∃ n : Nat, m = n ∧ (1 ≤ n ∧ n ≤ 8) ∧ cs.length ≤ 6 ∧ ∀ c ∈ cs, isCl (n : Int) c = true := by
  obtain ⟨h1, h2, h3, h4⟩ := isPz_iff.1 h
  obtain ⟨n, rfl⟩ : ∃ n : Nat, m = n := ⟨m.toNat, by omega⟩
  exact ⟨n, rfl, by omega, h3, h4⟩
def StrP (B : Nat) (l : List ByteArray) (ok : Bool) (w : World) (e : Ending) (w' : World) : Prop := ∃ u, e = .returned (.tuple #[u, .bool ok]) ∧ Strg w' B u l ∧ Below w.heap.size w w'
set_option maxHeartbeats 1000000 in
theorem specSols (m : Int) (v : Value) (cs : List Br) (w : World) (h : RdB w v cs) (hl : cs.length ≤ 1048576) :
    Calls Try.prog 14 #[.agg #[.int .i64 m, v]] w (StrP w.heap.size (solL m cs) (isPz m cs) w) := by
  have HR := Lib.hid h
  obtain ⟨a, N, c, rfl, hN, _, _, hcell⟩ := h
  clear hN hcell
  cases hp : isPz m cs
  · have G := Lib.hid hp
    have E := Lib.hid (solL_no hp)
    clear hp
    go_enter Try.func14, Try.ntmps14
    go_wp2_with (go_at_call 40; refine (pzGood m _ cs _ (HR.out.below (by (repeat (first | exact Below.refl _ _ | (refine Below.alloc ?_ (by first | omega | (simp; try omega)) _) | apply Below.drew | apply below_drewN))))).mono ?_; rw [G.out]; rintro e w1 ⟨rfl, hb⟩)
    go_ret2
    exact ⟨_, rfl, by rw [E.out]; exact World.ownsRow_nil _ _ _ _, Below.trans (by (repeat (first | exact Below.refl _ _ | (refine Below.alloc ?_ (by first | omega | (simp; try omega)) _) | apply Below.drew | apply below_drewN))) (hb.mono (by simp; try omega))⟩
  · obtain ⟨n, rfl, hn, h6, hc⟩ := isPz_nat hp
    have G := Lib.hid hp
    have E := Lib.hid (solL_yes hp)
    have C := Lib.hid (fun wx hr => pzAll n (.slice a N c) cs wx hr hn (by omega) hc)
    clear hp hc h6
    go_enter Try.func14, Try.ntmps14
    go_wp2_with fail
    refine (pzGood (n : Int) _ cs _ (HR.out.below (by (repeat (first | exact Below.refl _ _ | (refine Below.alloc ?_ (by first | omega | (simp; try omega)) _) | apply Below.drew | apply below_drewN))))).mono ?_
    rw [G.out]
    rintro e w1 ⟨rfl, hb⟩
    have HX := Lib.hid ((Blk.new w #[.int .i64 (n : Int), .slice a N c] 38).below hb (by simp))
    have HB := Lib.hid (Below.trans (by (repeat (first | exact Below.refl _ _ | (refine Below.alloc ?_ (by first | omega | (simp; try omega)) _) | apply Below.drew | apply below_drewN))) (hb.mono (by simp; try omega)) : Below w.heap.size w w1)
    obtain ⟨x0, x1, xl⟩ := HX.out.two
    have hle := HB.out.size
    clear hb
    go_wp2_with fail
    refine (C.out _ (HR.out.below HB.out)).mono ?_
    rintro e w2 ⟨u, rfl, hI, hb2⟩
    have HI := Lib.hid (strg_mono hI hle)
    have HB2 := Lib.hid (HB.out.trans (hb2.mono hle))
    clear hI hb2
    go_wp2
    go_ret2
    exact ⟨u, rfl, by rw [E.out]; exact HI.out, HB2.out⟩
theorem HRs.some_ {w : World} {B g c N : Nat} {v : Value} {R : Nat → ByteArray} {F : Nat → Nat → Bool} (h : HRs w B v N R F) (e : v = .slice (some ⟨g, 0, none⟩) N c) : HRs w B (.slice (some ⟨g, 0, none⟩) N c) N R F := e ▸ h
set_option maxHeartbeats 4000000 in
theorem implSols (m : Int) (v : Value) (cs : List Br) (w : World) (h : RdB w v cs) (hl : cs.length ≤ 1048576) :
    Calls Try.prog 16 #[.agg #[.int .i64 m, v]] w (StrP w.heap.size (solL m cs) (isPz m cs) w) := by
  have HR := Lib.hid h
  obtain ⟨a, N, c, rfl, hN, _, _, hcell⟩ := h
  have HN := Lib.hid hN
  clear hN hcell
  cases hp : isPz m cs
  · have G := Lib.hid hp
    have E := Lib.hid (solL_no hp)
    clear hp
    go_enter Try.func16, Try.ntmps16
    go_wp2_with (go_at_call 43; refine (implIsPz m _ cs _ (HR.out.below (by (repeat (first | exact Below.refl _ _ | (refine Below.alloc ?_ (by first | omega | (simp; try omega)) _) | apply Below.drew | apply below_drewN)))) hl).mono ?_; rw [G.out]; rintro e w1 ⟨rfl, hb⟩)
    go_ret2
    exact ⟨_, rfl, by rw [E.out]; exact World.ownsRow_nil _ _ _ _, Below.trans (by (repeat (first | exact Below.refl _ _ | (refine Below.alloc ?_ (by first | omega | (simp; try omega)) _) | apply Below.drew | apply below_drewN))) (hb.mono (by simp; try omega))⟩
  · obtain ⟨n, rfl, hn, h6, hc⟩ := isPz_nat hp
    have G := Lib.hid hp
    have E := Lib.hid (solL_yes hp)
    have C := Lib.hid (fun wx hr => riversOf n (.slice a N c) cs wx hr hn h6 hc)
    have hNb : N ≤ 6 := by have := HN.out; omega
    have HFC := Lib.hid (fun wx => firstClues N wx hNb)
    have H6 := Lib.hid h6
    clear hp hc h6
    go_enter Try.func16, Try.ntmps16
    go_wp2_with fail
    refine (implIsPz (n : Int) _ cs _ (HR.out.below (by (repeat (first | exact Below.refl _ _ | (refine Below.alloc ?_ (by first | omega | (simp; try omega)) _) | apply Below.drew | apply below_drewN)))) hl).mono ?_
    rw [G.out]
    rintro e w1 ⟨rfl, hb⟩
    have HX := Lib.hid ((Blk.new w #[.int .i64 (n : Int), .slice a N c] 38).below hb (by simp))
    have HB := Lib.hid (Below.trans (by (repeat (first | exact Below.refl _ _ | (refine Below.alloc ?_ (by first | omega | (simp; try omega)) _) | apply Below.drew | apply below_drewN))) (hb.mono (by simp; try omega)) : Below w.heap.size w w1)
    obtain ⟨x0, x1, xl⟩ := HX.out.two
    have hle := HB.out.size
    clear hb
    go_wp2_with fail
    refine (C.out _ (HR.out.below HB.out)).mono ?_
    rintro e w2 ⟨u, rfl, hI, ⟨g, gc, rfl⟩, hb2⟩
    obtain ⟨P, hP⟩ : ∃ P, P = 2 ^ n := ⟨_, rfl⟩
    have hP8 : P ≤ 256 := by rw [hP]; exact pow_8 hn.2
    rw [← hP] at hI ⊢
    have HP := Lib.hid hP
    have HI := Lib.hid hI
    have HX2 := Lib.hid (HX.out.below hb2 HX.out.lt)
    have HB2 := Lib.hid (HB.out.trans (hb2.mono hle))
    have hgl := hI.blk.2
    clear hI hb2 hP x0 x1 xl hle
    go_wp2_with fail
    go_loopw [4, 13] (fun o i wr => ∃ k : Nat, k ≤ P ∧ i = .int .i64 (k : Int) ∧ Hid (Strg wr w2.heap.size o (solN n cs k)) ∧ Hid (Below w2.heap.size w2 wr)) (fun _ i _ => P - (intOf i).toNat)
    case atStart => exact ⟨0, Nat.zero_le _, rfl, Lib.hid (World.ownsRow_nil _ _ _ _), Lib.hid (Below.refl _ _)⟩
    case round =>
      obtain ⟨k, hk, rfl, HS, HQ⟩ := hrel
      have hqle := HQ.out.size
      have HBQ := Lib.hid (HB2.out.trans (HQ.out.mono HB2.out.size))
      by_cases hlt : k < P
      · have hlt' : (k : Int) < P := by omega
        obtain ⟨c0, c1, c2, c3, c4, c5, c6⟩ := (HI.out.below HQ.out).seven hlt
        obtain ⟨x0, x1, xl⟩ := (HX2.out.below HQ.out HX2.out.lt).two
        have HPX := Lib.hid (HX2.out.below HQ.out HX2.out.lt)
        have HY := Lib.hid (solN_yes (n := n) (m := k) (cs := cs))
        have HNO := Lib.hid (solN_no (n := n) (m := k) (cs := cs))
        have hll := solN_len n cs k
        have HA := Lib.hid (ask_all (s := rvN n k) HN.out H6.out)
        generalize hf : fitK cs (rvN n k) = f at *
        clear hf
        generalize rvN n k = r at *
        have HFA := Lib.hid (fun wx => fitsAll r f (first N) wx)
        rw [HA.out] at HFA
        clear HA
        have BX := Lib.hid (Blk.new wr #[.string r, .bool (f 0), .bool (f 1), .bool (f 2), .bool (f 3), .bool (f 4), .bool (f 5)] 65)
        cases hfa : fitAll cs r
        · have E2 := Lib.hid (HNO.out hfa)
          rw [hfa] at HFA
          clear HY HNO hfa
          go_wp2_with fail
          go_region_with (first
            | (go_at_call 46; refine (HFC.out _).mono ?_; rintro e w5 ⟨rfl, hb5⟩; have BX5 := Lib.hid (BX.out.drew.below hb5 (by simp)); have D5 := Lib.hid (Below.trans (by (repeat (first | exact Below.refl _ _ | (refine Below.alloc ?_ (by first | omega | (simp; try omega)) _) | apply Below.drew | apply below_drewN))) (hb5.mono (by simp; try omega)) : Below wr.heap.size wr w5); obtain ⟨q0, q1, q2, q3, q4, q5, q6⟩ := BX5.out.seven_; clear hb5)
            | (go_at_call 45; refine (HFA.out _).mono ?_; rintro e w6 ⟨rfl, hb6⟩; have D6 := Lib.hid (D5.out.trans (hb6.mono D5.out.size)); have BX6 := Lib.hid (BX5.out.below hb6 BX5.out.lt); clear hb6))
          all_goals
            have HQ6 := Lib.hid (HQ.out.trans (D6.out.mono hqle))
            have HS6 := Lib.hid (HS.out.below D6.out)
            clear q0 q1 q2 q3 q4 q5 q6 c0 c1 c2 c3 c4 c5 c6 x0 x1
            go_wp2
            go_roundw
            case rel => exact ⟨k + 1, by omega, by go_num, Lib.hid (by rw [E2.out]; exact HS6.out), HQ6⟩
            case measure => (simp [intOf]; try omega)
        · have E2 := Lib.hid (HY.out hfa)
          rw [hfa] at HFA
          clear HY HNO hfa
          go_wp2_with fail
          go_region_with (first
            | (go_at_call 46; refine (HFC.out _).mono ?_; rintro e w5 ⟨rfl, hb5⟩; have BX5 := Lib.hid (BX.out.drew.below hb5 (by simp)); have D5 := Lib.hid (Below.trans (by (repeat (first | exact Below.refl _ _ | (refine Below.alloc ?_ (by first | omega | (simp; try omega)) _) | apply Below.drew | apply below_drewN))) (hb5.mono (by simp; try omega)) : Below wr.heap.size wr w5); obtain ⟨q0, q1, q2, q3, q4, q5, q6⟩ := BX5.out.seven_; clear hb5)
            | (go_at_call 45; refine (HFA.out _).mono ?_; rintro e w6 ⟨rfl, hb6⟩; have D6 := Lib.hid (D5.out.trans (hb6.mono D5.out.size)); have BX6 := Lib.hid (BX5.out.below hb6 BX5.out.lt); clear hb6))
          all_goals
            have HQ6 := Lib.hid (HQ.out.trans (D6.out.mono hqle))
            have HS6 := Lib.hid (HS.out.below D6.out)
            clear q0 q1 q2 q3 q4 q5 q6 c0 c1 c2 c3 c4 c5 c6 x0 x1
            obtain ⟨q0, q1, q2, q3, q4, q5, q6⟩ := BX6.out.seven_
            have hle6 := D6.out.size
            go_wp2_with (at_builtin; refine wpList_appS w6 rfl _ _ rfl w2.heap.size _ (solN n cs k) rfl HS6.out r _ rfl rfl (by omega) (by have := HQ6.out.size; omega) rfl ?_; intro v' w7 hI7 hb7 hg7; have HQ7 := Lib.hid (HQ6.out.trans hb7); have HS7 := Lib.hid hI7; clear hI7 hb7 hg7)
            go_roundw
            case rel => exact ⟨k + 1, by omega, by go_num, Lib.hid (by rw [E2.out]; exact HS7.out), HQ7⟩
            case measure => (simp [intOf]; try omega)
      · obtain rfl : k = P := by omega
        have E3 : solN n cs k = sols n cs := by unfold sols; rw [← HP.out]
        have HE3 := Lib.hid E3
        clear E3
        go_wp2
        go_ret2
        exact ⟨_, rfl, by rw [E.out, ← HE3.out]; exact strg_mono HS.out HB2.out.size, HBQ.out⟩
end Go.Proofs.Ytnmeomcoeknjoab
