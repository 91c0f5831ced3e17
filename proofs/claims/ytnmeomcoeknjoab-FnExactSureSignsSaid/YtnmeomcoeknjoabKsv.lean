/- SureSigns, impl (written by gen_ksu.py). -/
import Derived.Test.YtnmeomcoeknjoabKsu
import Derived.Test.YtnmeomcoeknjoabBy
namespace Go.Proofs.Ytnmeomcoeknjoab
set_option linter.unusedVariables false
set_option maxRecDepth 100000
open Go.RowKit

/-- the first i places have seen one river more -/
def suM (l : List ByteArray) (n j i : Nat) : List UInt8 := (List.range n).map fun q => if q < i then suR l q (j + 1) else suR l q j
theorem suM_len (l : List ByteArray) (n j i : Nat) : (suM l n j i).length = n := by simp [suM]
theorem suM_0 (l : List ByteArray) (n j : Nat) : suM l n j 0 = suL l j n := by simp [suM, suL]
theorem suM_n (l : List ByteArray) (n j : Nat) : suM l n j n = suL l (j + 1) n := by
  refine List.map_congr_left fun q hq => ?_
  rw [if_pos (by simpa using hq)]
theorem suM_at {l : List ByteArray} {n j i : Nat} (h : i < n) : (suM l n j i).getD i 0 = suR l i j := by
  simp [suM, List.getD_eq_getElem?_getD, h]
theorem suM_yes {l : List ByteArray} {n j i : Nat} (h : suR l i j = gb8 (gs l (j + 1)) i) : suM l n j i = suM l n j (i + 1) := by
  refine List.map_congr_left fun q hq => ?_
  by_cases e : q = i
  · subst e
    rw [if_neg (by omega), if_pos (by omega), suR, if_pos h]
  · by_cases e2 : q < i
    · rw [if_pos e2, if_pos (by omega)]
    · rw [if_neg e2, if_neg (by omega)]
theorem suM_no {l : List ByteArray} {n j i : Nat} (hi : i < n) (h : ¬ suR l i j = gb8 (gs l (j + 1)) i) : (suM l n j i).set i 63 = suM l n j (i + 1) := by
  apply List.ext_getElem
  · simp [suM]
  · intro q h1 h2
    rw [List.getElem_set]
    by_cases e : i = q
    · subst e
      rw [if_pos rfl]
      simp [suM, suR, h]
    · rw [if_neg e]
      simp only [suM, List.getElem_map, List.getElem_range]
      by_cases e2 : q < i
      · rw [if_pos e2, if_pos (by omega)]
      · rw [if_neg e2, if_neg (by omega)]
theorem suL_first {l : List ByteArray} {s : ByteArray} (h : gs l 0 = s) : s.data.toList = suL l 0 s.size := by
  apply List.ext_getElem
  · simp [suL]
  · intro q h1 h2
    simp only [suL, List.getElem_map, List.getElem_range]
    show _ = gb8 (gs l 0) q
    rw [h]
    unfold gb8
    rw [List.getD_eq_getElem?_getD, List.getElem?_eq_getElem h1]; rfl
theorem gb8_at {s : ByteArray} {i : Nat} (h : i < s.size) : s[i] = gb8 s i := by
  have e : i < s.data.toList.length := by simpa using h
  unfold gb8
  rw [List.getD_eq_getElem?_getD, List.getElem?_eq_getElem e]
  rfl
theorem Strg.lenN {w : World} {B N : Nat} {v : Value} {l : List ByteArray} (h : Strg w B v l) (hM : l.length = N) : ∃ a c, v = .slice a N c := by subst hM; exact h.len_
theorem Strg.lt_ {w : World} {B g k c : Nat} {l : List ByteArray} (h : Strg w B (.slice (some ⟨g, 0, none⟩) k c) l) : g < w.heap.size := (World.ownsRow.lt h g rfl).2
theorem u8_eq {x y : UInt8} : ((x.toNat : Int) == (y.toNat : Int)) = (x == y) := by
  by_cases h : x = y
  · subst h; simp
  · have : ¬ (x.toNat : Int) = y.toNat := fun e => h (UInt8.toNat_inj.1 (by omega))
    rw [beq_eq_false_iff_ne.2 this, beq_eq_false_iff_ne.2 h]
set_option maxHeartbeats 4000000 in
theorem implSure (m : Int) (v : Value) (cs : List Br) (w : World) (h : RdB w v cs) (hl : cs.length ≤ 1048576) :
    Calls Try.prog 27 #[.agg #[.int .i64 m, v]] w fun e w' => e = .returned (ssV m cs) ∧ Below w.heap.size w w' := by
  have HR := Lib.hid h
  obtain ⟨a, N, c, rfl, hN, _, _, hcell⟩ := h
  clear hN hcell
  cases hp : isPz m cs
  · rw [ssV_no hp]
    have C := Lib.hid (fun wx hr => implSols m (.slice a N c) cs wx hr hl)
    rw [solL_no hp, hp] at C
    clear hp
    go_enter Try.func27, Try.ntmps27
    go_wp2_with fail
    refine (C.out _ (HR.out.below (by (repeat (first | exact Below.refl _ _ | (refine Below.alloc ?_ (by first | omega | (simp; try omega)) _) | apply Below.drew | apply below_drewN))))).mono ?_
    rintro e w1 ⟨u, rfl, hI, hb⟩
    have HB := Lib.hid (Below.trans (by (repeat (first | exact Below.refl _ _ | (refine Below.alloc ?_ (by first | omega | (simp; try omega)) _) | apply Below.drew | apply below_drewN))) (hb.mono (by simp; try omega)) : Below w.heap.size w w1)
    obtain ⟨ua, uc, rfl⟩ := hI.len_
    clear hI hb
    go_wp2
    go_ret2
    exact ⟨rfl, HB.out⟩
  · obtain ⟨n, rfl, hn, h6, hc⟩ := isPz_nat hp
    have C := Lib.hid (fun wx hr => implSols (n : Int) (.slice a N c) cs wx hr hl)
    rw [solL_yes hp, hp] at C
    have hlen := sols_len cs hn.2
    by_cases h0 : 0 < (sols n cs).length
    · rw [ssV_1 hp h0]
      have HSZ := Lib.hid (show ∀ j, j < (sols n cs).length → (gs (sols n cs) j).size = n from fun j hj => sols_mem (gs_mem hj))
      clear hp hc h6
      generalize sols n cs = l at *
      obtain ⟨M, hM⟩ : ∃ M, l.length = M + 1 := ⟨l.length - 1, by omega⟩
      have hM1 : l.length - 1 = M := by omega
      rw [hM1]
      have hMb : M ≤ 255 := by omega
      have hz0 := HSZ.out 0 h0
      generalize hr0 : gs l 0 = r0 at hz0
      subst hz0
      have HR0 := Lib.hid hr0
      have HMM := Lib.hid hM
      clear hM hM1 h0 hr0 hlen
      go_enter Try.func27, Try.ntmps27
      go_wp2_with fail
      refine (C.out _ (HR.out.below (by (repeat (first | exact Below.refl _ _ | (refine Below.alloc ?_ (by first | omega | (simp; try omega)) _) | apply Below.drew | apply below_drewN))))).mono ?_
      rintro e w1 ⟨u, rfl, hI, hb⟩
      have HB := Lib.hid (Below.trans (by (repeat (first | exact Below.refl _ _ | (refine Below.alloc ?_ (by first | omega | (simp; try omega)) _) | apply Below.drew | apply below_drewN))) (hb.mono (by simp; try omega)) : Below w.heap.size w w1)
      have HI := Lib.hid hI
      obtain ⟨ua, uc, rfl⟩ := hI.lenN HMM.out
      clear hI hb
      obtain ⟨g, rfl, hkk, huc, hcells⟩ := HI.out.cells_ (by have := HMM.out; omega)
      clear hkk
      rw [HMM.out] at huc
      have HCL := Lib.hid hcells
      have hc0 := hcells 0 (by have := HMM.out; omega)
      rw [HR0.out] at hc0
      have hgl := HI.out.lt_
      have hcv := run_bytes_of_string (P := Try.prog) w1 9 71 5 r0 Try.underlying9 Try.underlying71 Try.underlying5
      have hcap := grownCap_ge w1 r0.size 0 5
      generalize grownCap w1 r0.size 0 5 = cap at hcv hcap
      obtain ⟨Cc, hC⟩ : ∃ C, C = bytesRow r0 cap := ⟨_, rfl⟩
      rw [← hC] at hcv
      have hCs : r0.size ≤ Cc.size := by rw [hC]; simp [bytesRow]
      have HB0 := Byts.new w1 hC hCs
      rw [suL_first HR0.out] at HB0
      have HBY := Lib.hid HB0
      have HBA := Lib.hid (((Below.refl w1.heap.size w1).alloc (Nat.le_refl _) _).drew : Below w1.heap.size w1 (w1.alloc (.cells Cc 5 (Cc.size, Cc.size + 1))).drew)
      clear hC HB0 hcells
      have h0' : ¬ ((M : Int) + 1 = 0) := by omega
      have h0'' : (0 : Int) < (M : Int) + 1 := by omega
      by_cases hu : uc = 1
      · obtain rfl : M = 0 := by omega
        go_wp2
        go_loopw [29] (fun i wr => i = .int .i64 0 ∧ Hid (Byts wr w1.heap.size (suL l 0 r0.size)) ∧ Hid (Below w1.heap.size w1 wr)) (fun _ _ => 0)
        case atStart => exact ⟨rfl, HBY, HBA⟩
        case round =>
          obtain ⟨rfl, HY, HQ⟩ := hrel
          have hb := fun y => HY.out.back y
          rw [suL_len] at hb
          have BB := Lib.hid (HB.out.trans (HQ.out.mono HB.out.size))
          go_wp2
          go_ret2
          exact ⟨rfl, BB.out⟩
      · go_wp2
        go_loopw [29] (fun i wr => ∃ j : Nat, j ≤ M ∧ i = .int .i64 (j : Int) ∧ Hid (Byts wr w1.heap.size (suL l j r0.size)) ∧ Hid (Below w1.heap.size w1 wr) ∧ w1.heap.size < wr.heap.size) (fun i _ => M - (intOf i).toNat)
        case atStart => exact ⟨0, Nat.zero_le _, rfl, HBY, HBA, by simp⟩
        case round =>
          obtain ⟨j, hj, rfl, HY, HQ, hsz⟩ := hrel
          by_cases hlt : j < M
          · have hlt' : (j : Int) < M := by omega
            have hcj := (HQ.out.cell (p := ⟨g, j + 1, none⟩) hgl).trans (HCL.out (j + 1) (by have := HMM.out; omega))
            have hzj := HSZ.out (j + 1) (by have := HMM.out; omega)
            obtain ⟨wo, hwo⟩ : ∃ wo, wo = wr := ⟨_, rfl⟩
            subst hwo
            have HYS := Lib.hid (fun i (e : suR l i j = gb8 (gs l (j + 1)) i) => suM_yes (n := r0.size) e)
            have HNS := Lib.hid (fun i (hi : i < r0.size) (e : ¬ suR l i j = gb8 (gs l (j + 1)) i) => suM_no hi e)
            generalize hrq : gs l (j + 1) = rq at *
            clear hrq
            have hj1 : (1 : Int) + j = ((j + 1 : Nat) : Int) := by omega
            have hj2 : 1 + j = j + 1 := by omega
            go_wp2
            go_loopw [35] (fun i wr => ∃ k : Nat, k ≤ r0.size ∧ i = .int .i64 (k : Int) ∧ Hid (Byts wr w1.heap.size (suM l r0.size j k)) ∧ Hid (Below w1.heap.size w1 wr) ∧ w1.heap.size < wr.heap.size) (fun i _ => r0.size - (intOf i).toNat)
            case atStart => exact ⟨0, Nat.zero_le _, rfl, Lib.hid (by rw [suM_0]; exact HY.out), HQ, hsz⟩
            case round =>
              obtain ⟨k, hk, rfl, HK, HP, hps⟩ := hrel
              by_cases hlk : k < r0.size
              · have hlk' : (k : Int) < r0.size := by omega
                obtain ⟨c1, f1⟩ := HK.out k (by rw [suM_len]; exact hlk)
                rw [suM_at hlk] at c1
                have hkq : k < rq.size := by omega
                have hkq' : (k : Int) < rq.size := by omega
                have hga := gb8_at hkq
                have HST := Lib.hid (HK.out.set' (j := k) (by rw [suM_len]; exact hlk) 63 63 rfl)
                have HPS := Lib.hid (HP.out.setCell (p := ⟨w1.heap.size, k, none⟩) (Nat.le_refl _) (.int .u8 63))
                by_cases hd : suR l k j = gb8 rq k
                · have E := Lib.hid (HYS.out k hd)
                  have hcmp : (((suR l k j).toNat : Int) == (rq[k].toNat : Int)) = true := by rw [u8_eq, hga, hd]; simp
                  clear hd hga
                  generalize suR l k j = y at *
                  go_wp2
                  go_region
                  all_goals
                    go_wp2
                    go_roundw
                    case rel => exact ⟨k + 1, by omega, by go_num, by rw [← E.out]; exact HK, Lib.hid (by first | exact HP.out | exact HP.out.drew), hps⟩
                    case measure => (simp [intOf]; try omega)
                · have E := Lib.hid (HNS.out k hlk hd)
                  have hcmp : (((suR l k j).toNat : Int) == (rq[k].toNat : Int)) = false := by rw [u8_eq, hga]; simp [hd]
                  clear hd hga
                  generalize suR l k j = y at *
                  go_wp2
                  go_region
                  all_goals
                    go_wp2
                    go_roundw
                    case rel => exact ⟨k + 1, by omega, by go_num, by rw [← E.out]; exact HST, Lib.hid (by first | exact HPS.out | exact HP.out.drew.setCell (Nat.le_refl _) _), by simpa using hps⟩
                    case measure => (simp [intOf]; try omega)
              · obtain rfl : k = r0.size := by omega
                rw [suM_n] at HK
                go_wp2
                go_roundw
                case rel => exact ⟨j + 1, by omega, by go_num, HK, HP, hps⟩
                case measure => (simp [intOf]; try omega)
          · obtain rfl : j = M := by omega
            have hb := fun y => HY.out.back y
            rw [suL_len] at hb
            have BB := Lib.hid (HB.out.trans (HQ.out.mono HB.out.size))
            go_wp2
            go_ret2
            exact ⟨rfl, BB.out⟩
    · rw [ssV_0 hp (by omega)]
      have hz : (sols n cs).length = 0 := by omega
      clear hp hc h6
      generalize sols n cs = l at *
      have HZ := Lib.hid hz
      clear hz h0 hlen
      go_enter Try.func27, Try.ntmps27
      go_wp2_with fail
      refine (C.out _ (HR.out.below (by (repeat (first | exact Below.refl _ _ | (refine Below.alloc ?_ (by first | omega | (simp; try omega)) _) | apply Below.drew | apply below_drewN))))).mono ?_
      rintro e w1 ⟨u, rfl, hI, hb⟩
      have HB := Lib.hid (Below.trans (by (repeat (first | exact Below.refl _ _ | (refine Below.alloc ?_ (by first | omega | (simp; try omega)) _) | apply Below.drew | apply below_drewN))) (hb.mono (by simp; try omega)) : Below w.heap.size w w1)
      obtain ⟨ua, uc, rfl⟩ := hI.lenN HZ.out
      clear hI hb
      go_wp2
      go_ret2
      exact ⟨rfl, HB.out⟩
end Go.Proofs.Ytnmeomcoeknjoab
